
/- The plain mathematics of rows and statements (layer 12). -/
import Derived.Test.YtkffpmeocfhcpaaDoorBitsMath
import Derived.Test.YtkffpmeocfhcpaaDoorKyMath
set_option linter.unusedVariables false
namespace Go.Proofs.YtkffpmeocfhcpaaDoor
open Bit Ky Go.RowKit
namespace Rw

/-- A row: its key (o, d), its Code, its Amount, its Qty. -/
structure R where
  o : Int
  d : Int
  c : Int
  a : Int
  q : Int
deriving DecidableEq
def less (x y : R) : Bool := lessK x.o x.d y.o y.d
theorem less_iff {x y : R} : less x y = true ↔ x.o < y.o ∨ (x.o = y.o ∧ x.d < y.d) := by unfold less lessK; simp
theorem less_trans {x y z : R} (h : less x y = true) (g : less y z = true) : less x z = true := by rw [less_iff] at *; omega
theorem less_irrefl (x : R) : less x x = false := less_self _ _
theorem less_asymm {x y : R} (h : less x y = true) : less y x = false := by
  cases hb : less y x with
  | false => rfl
  | true => rw [less_iff] at *; omega
/-- What a row of the party p may be. -/
structure Row1 (p : Int) (x : R) : Prop where
  key : Chk x.o x.d
  party : partyK x.d = p
  c1 : 1 ≤ x.c
  c2 : x.c ≤ 2
  a0 : 0 ≤ x.a
  a1 : x.a ≤ 1099511627776
  q0 : 0 ≤ x.q
  q1 : x.q ≤ 999
  za : x.a ≠ 0 → p = 0 ∧ x.c ≠ 2
  zq : x.q ≠ 0 → p ≠ 0 ∧ x.c ≠ 2
def rowB (p : Int) (x : R) : Bool := checkK x.o x.d && decide (partyK x.d = p) && decide (1 ≤ x.c ∧ x.c ≤ 2) && decide (0 ≤ x.a ∧ x.a ≤ 1099511627776) && decide (0 ≤ x.q ∧ x.q ≤ 999) && decide (x.a ≠ 0 → p = 0 ∧ x.c ≠ 2) && decide (x.q ≠ 0 → p ≠ 0 ∧ x.c ≠ 2)
theorem row_iff {p : Int} {x : R} : rowB p x = true ↔ Row1 p x := by
  unfold rowB
  simp only [Bool.and_eq_true, decide_eq_true_eq, check_iff]
  exact ⟨fun ⟨⟨⟨⟨⟨⟨h1, h2⟩, h3, h4⟩, h5, h6⟩, h7, h8⟩, h9⟩, h10⟩ => ⟨h1, h2, h3, h4, h5, h6, h7, h8, h9, h10⟩, fun h => ⟨⟨⟨⟨⟨⟨h.key, h.party⟩, h.c1, h.c2⟩, h.a0, h.a1⟩, h.q0, h.q1⟩, h.za⟩, h.zq⟩⟩
/-- What a party's rows may be. -/
structure Good (p : Int) (L : List R) : Prop where
  p0 : 0 ≤ p
  p2 : p ≤ 2
  len : L.length ≤ 400
  each : ∀ x ∈ L, Row1 p x
  rise : L.Pairwise fun x y => less x y = true
def goodB (p : Int) (L : List R) : Bool := decide (0 ≤ p ∧ p ≤ 2 ∧ L.length ≤ 400) && L.all (rowB p) && decide (L.Pairwise fun x y => less x y = true)
theorem good_iff {p : Int} {L : List R} : goodB p L = true ↔ Good p L := by
  unfold goodB
  simp only [Bool.and_eq_true, decide_eq_true_eq, List.all_eq_true, row_iff]
  exact ⟨fun ⟨⟨⟨h1, h2, h3⟩, h4⟩, h5⟩ => ⟨h1, h2, h3, h4, h5⟩, fun h => ⟨⟨⟨h.p0, h.p2, h.len⟩, h.each⟩, h.rise⟩⟩
theorem not_good {p : Int} {L : List R} (h : ¬ Good p L) : goodB p L = false := by
  cases hb : goodB p L with
  | false => rfl
  | true => exact absurd (good_iff.1 hb) h
theorem Good.sub {p : Int} {L M : List R} (h : Good p L) (s : M.Sublist L) : Good p M :=
  ⟨h.p0, h.p2, Nat.le_trans s.length_le h.len, fun x hx => h.each x (s.subset hx), h.rise.sublist s⟩
/-- The first k rows may be. -/
def Front (p : Int) (L : List R) (k : Nat) : Prop := (∀ x ∈ L.take k, Row1 p x) ∧ (L.take k).Pairwise fun x y => less x y = true
theorem front_zero (p : Int) (L : List R) : Front p L 0 := ⟨fun x hx => by simp at hx, by simp⟩
theorem Front.next {p : Int} {L : List R} {k : Nat} {x : R} (h : Front p L k) (hx : L[k]? = some x) (hr : Row1 p x) (hl : ∀ y, 0 < k → L[k - 1]? = some y → less y x = true) : Front p L (k + 1) := by
  have hk := (List.getElem?_eq_some_iff.1 hx).1
  have e : L.take (k + 1) = L.take k ++ [x] := by rw [List.take_add_one, hx]; rfl
  unfold Front
  rw [e]
  refine ⟨fun y hy => ?_, ?_⟩
  · rcases List.mem_append.1 hy with hy | hy
    · exact h.1 y hy
    · simp at hy; subst hy; exact hr
  · rw [List.pairwise_append]
    refine ⟨h.2, by simp, fun y hy z hz => ?_⟩
    simp at hz; subst hz
    cases k with
    | zero => simp at hy
    | succ j =>
      obtain ⟨l, hl2⟩ : ∃ l, L[j]? = some l := ⟨_, List.getElem?_eq_getElem (by omega)⟩
      have e2 : L.take (j + 1) = L.take j ++ [l] := by rw [List.take_add_one, hl2]; rfl
      have hlx := hl l (by omega) (by simpa using hl2)
      rw [e2] at hy
      rcases List.mem_append.1 hy with hy | hy
      · have := h.2
        rw [e2, List.pairwise_append] at this
        exact less_trans (this.2.2 y hy l (by simp)) hlx
      · simp at hy; subst hy; exact hlx
theorem Front.good {p : Int} {L : List R} (h : Front p L L.length) (h0 : 0 ≤ p) (h2 : p ≤ 2) (hn : L.length ≤ 400) : Good p L := by
  unfold Front at h
  rw [List.take_length] at h
  exact ⟨h0, h2, hn, h.1, h.2⟩
theorem bad_row {p : Int} {L : List R} {k : Nat} {x : R} (hx : L[k]? = some x) (h : ¬ Row1 p x) : goodB p L = false := not_good fun g => h (g.each x (List.mem_of_getElem? hx))
theorem bad_turn {p : Int} {L : List R} {j k : Nat} {x y : R} (hj : L[j]? = some x) (hk : L[k]? = some y) (hjk : j < k) (h : less x y = false) : goodB p L = false := not_good fun g => by
  obtain ⟨h1, e1⟩ := List.getElem?_eq_some_iff.1 hj
  obtain ⟨h2, e2⟩ := List.getElem?_eq_some_iff.1 hk
  have := List.pairwise_iff_getElem.1 g.rise j k h1 h2 hjk
  rw [e1, e2, h] at this
  cases this

/-! ### A statement -/
def validB (p s : Int) (L : List R) : Bool := decide (1 ≤ s ∧ s ≤ 1073741824) && goodB p L
structure Valid (p s : Int) (L : List R) : Prop where
  s0 : 1 ≤ s
  s1 : s ≤ 1073741824
  good : Good p L
theorem valid_iff {p s : Int} {L : List R} : validB p s L = true ↔ Valid p s L := by
  unfold validB
  simp only [Bool.and_eq_true, decide_eq_true_eq, good_iff]
  exact ⟨fun ⟨⟨h1, h2⟩, h3⟩ => ⟨h1, h2, h3⟩, fun h => ⟨⟨h.s0, h.s1⟩, h.good⟩⟩
def rowL (x : R) : List UInt8 := sev x.o.toNat ++ sev x.d.toNat ++ sev x.c.toNat ++ sev x.a.toNat ++ sev x.q.toNat
def headL (p s : Int) (n : Nat) : List UInt8 := sev p.toNat ++ sev s.toNat ++ sev n
def putR (p s : Int) (L : List R) : List UInt8 := headL p s L.length ++ L.flatMap rowL
def putS (p s : Int) (L : List R) : List UInt8 := if validB p s L = true then putR p s L else []
theorem putS_yes {p s : Int} {L : List R} (h : Valid p s L) : putS p s L = putR p s L := by unfold putS; rw [if_pos (valid_iff.2 h)]
theorem putS_no {p s : Int} {L : List R} (h : ¬ Valid p s L) : putS p s L = [] := by unfold putS; rw [if_neg (fun e => h (valid_iff.1 e))]
theorem sev_inj {a b : Nat} {u v : List UInt8} (ha : a < topN) (hb : b < topN) (h : sev a ++ u = sev b ++ v) : a = b ∧ u = v := by
  obtain ⟨_, v1, r1⟩ := rd_sev ha u
  obtain ⟨_, v2, r2⟩ := rd_sev hb v
  rw [h] at v1 r1
  exact ⟨v1.symm.trans v2, r1.symm.trans r2⟩
theorem Row1.small {p : Int} {x : R} (h : Row1 p x) : x.o.toNat < topN ∧ x.d.toNat < topN ∧ x.c.toNat < topN ∧ x.a.toNat < topN ∧ x.q.toNat < topN := by
  have ht : topN = 18446744073709551616 := rfl
  have := h.key.o1
  have := h.key.d1
  have := h.c2
  have := h.a1
  have := h.q1
  omega
theorem row_inj {p p' : Int} {x y : R} {u v : List UInt8} (h : Row1 p x) (g : Row1 p' y) (e : rowL x ++ u = rowL y ++ v) : x = y ∧ u = v := by
  obtain ⟨h1, h2, h3, h4, h5⟩ := h.small
  obtain ⟨g1, g2, g3, g4, g5⟩ := g.small
  simp only [rowL, List.append_assoc] at e
  obtain ⟨e1, e⟩ := sev_inj h1 g1 e
  obtain ⟨e2, e⟩ := sev_inj h2 g2 e
  obtain ⟨e3, e⟩ := sev_inj h3 g3 e
  obtain ⟨e4, e⟩ := sev_inj h4 g4 e
  obtain ⟨e5, e⟩ := sev_inj h5 g5 e
  refine ⟨?_, e⟩
  have := h.key.o0
  have := h.key.d0
  have := h.c1
  have := h.a0
  have := h.q0
  have := g.key.o0
  have := g.key.d0
  have := g.c1
  have := g.a0
  have := g.q0
  cases x
  cases y
  simp only [R.mk.injEq]
  simp only at *
  omega
theorem rows_inj {p p' : Int} : ∀ {L M : List R} {u v : List UInt8}, L.length = M.length → (∀ x ∈ L, Row1 p x) → (∀ x ∈ M, Row1 p' x) → L.flatMap rowL ++ u = M.flatMap rowL ++ v → L = M ∧ u = v
  | [], [], u, v, _, _, _, e => ⟨rfl, by simpa using e⟩
  | x :: L, y :: M, u, v, hn, h, g, e => by
    rw [List.flatMap_cons, List.flatMap_cons, List.append_assoc, List.append_assoc] at e
    obtain ⟨e1, e2⟩ := row_inj (h x (by simp)) (g y (by simp)) e
    obtain ⟨e3, e4⟩ := rows_inj (by simpa using hn) (fun z hz => h z (by simp [hz])) (fun z hz => g z (by simp [hz])) e2
    exact ⟨by rw [e1, e3], e4⟩
  | [], _ :: _, _, _, hn, _, _, _ => by simp at hn
  | _ :: _, [], _, _, hn, _, _, _ => by simp at hn
theorem Valid.small {p s : Int} {L : List R} (h : Valid p s L) : p.toNat < topN ∧ s.toNat < topN ∧ L.length < topN := by
  have ht : topN = 18446744073709551616 := rfl
  have := h.good.p2
  have := h.s1
  have := h.good.len
  omega
theorem put_inj {p s p' s' : Int} {L M : List R} {u v : List UInt8} (h : Valid p s L) (g : Valid p' s' M) (e : putR p s L ++ u = putR p' s' M ++ v) : p = p' ∧ s = s' ∧ L = M ∧ u = v := by
  obtain ⟨h1, h2, h3⟩ := h.small
  obtain ⟨g1, g2, g3⟩ := g.small
  simp only [putR, headL, List.append_assoc] at e
  obtain ⟨e1, e⟩ := sev_inj h1 g1 e
  obtain ⟨e2, e⟩ := sev_inj h2 g2 e
  obtain ⟨e3, e⟩ := sev_inj h3 g3 e
  obtain ⟨e4, e⟩ := rows_inj e3 h.good.each g.good.each e
  have := h.good.p0
  have := h.s0
  have := g.good.p0
  have := g.s0
  exact ⟨by omega, by omega, e4, e⟩
theorem put_ne {p s : Int} {L : List R} : 1 ≤ (putR p s L).length := by
  unfold putR headL
  have := sev_pos p.toNat
  simp only [List.length_append]
  omega
/-- What bytes' statement is, and Get's answer. -/
def IsS (l : List UInt8) (p s : Int) (L : List R) (c : Int) : Prop :=
  (Valid p s L ∧ putR p s L = l ∧ c = 0) ∨ ((∀ p s L, Valid p s L → putR p s L ≠ l) ∧ p = 0 ∧ s = 0 ∧ L = [] ∧ c = 10)
theorem IsS.same {l : List UInt8} {p s c p' s' c' : Int} {L M : List R} (h : IsS l p s L c) (g : IsS l p' s' M c') : p = p' ∧ s = s' ∧ L = M ∧ c = c' := by
  rcases h with ⟨h1, h2, h3⟩ | ⟨h1, h2, h3, h4, h5⟩ <;> rcases g with ⟨g1, g2, g3⟩ | ⟨g1, g2, g3, g4, g5⟩
  · obtain ⟨e1, e2, e3, _⟩ := put_inj (u := []) (v := []) h1 g1 (by rw [h2, g2])
    exact ⟨e1, e2, e3, h3.trans g3.symm⟩
  · exact absurd h2 (g1 _ _ _ h1)
  · exact absurd g2 (h1 _ _ _ g1)
  · exact ⟨h2.trans g2.symm, h3.trans g3.symm, h4.trans g4.symm, h5.trans g5.symm⟩
theorem none_cut {p s : Int} {L : List R} (h : Valid p s L) {k : Nat} (hk : k < (putR p s L).length) : ∀ p' s' M, Valid p' s' M → putR p' s' M ≠ (putR p s L).take k := fun p' s' M g e => by
  have e2 : putR p' s' M ++ (putR p s L).drop k = putR p s L ++ [] := by rw [e, List.take_append_drop, List.append_nil]
  obtain ⟨_, _, _, e3⟩ := put_inj g h e2
  have := congrArg List.length e3
  rw [List.length_drop] at this
  simp at this
  omega
theorem none_more {p s : Int} {L : List R} (h : Valid p s L) {b : List UInt8} (hb : b ≠ []) : ∀ p' s' M, Valid p' s' M → putR p' s' M ≠ putR p s L ++ b := fun p' s' M g e => by
  obtain ⟨_, _, _, e3⟩ := put_inj (u := []) (v := b) g h (by rw [List.append_nil]; exact e)
  exact hb e3.symm

/-! ### Numbers, one behind the other -/
def Low (ns : List Nat) : Prop := ∀ n ∈ ns, n ≤ 1099511627776
theorem low_lt {n : Nat} (h : n ≤ 1099511627776) : n < topN := by have ht : topN = 18446744073709551616 := rfl; omega
theorem nums_split : ∀ {ns ms : List Nat} {s : List UInt8}, Low ns → Low ms → ns.flatMap sev ++ s = ms.flatMap sev → ∃ m, ms = ns ++ m ∧ s = m.flatMap sev
  | [], ms, s, _, _, e => ⟨ms, rfl, by simpa using e⟩
  | n :: ns, [], s, _, _, e => by
    have := congrArg List.length e
    have h1 := sev_pos n
    simp only [List.flatMap_cons, List.length_append, List.flatMap_nil, List.length_nil] at this
    omega
  | n :: ns, m :: ms, s, hn, hm, e => by
    rw [List.flatMap_cons, List.flatMap_cons, List.append_assoc] at e
    obtain ⟨e1, e2⟩ := sev_inj (low_lt (hn n (by simp))) (low_lt (hm m (by simp))) e
    obtain ⟨k, e3, h2⟩ := nums_split (ns := ns) (ms := ms) (fun x hx => hn x (by simp [hx])) (fun x hx => hm x (by simp [hx])) e2
    exact ⟨k, by rw [← e1, e3]; rfl, h2⟩
theorem nums_inj {ns ms : List Nat} (hn : Low ns) (hm : Low ms) (e : ns.flatMap sev = ms.flatMap sev) : ns = ms := by
  obtain ⟨k, rfl, h2⟩ := nums_split (s := []) hn hm (by simpa using e)
  cases k with
  | nil => simp
  | cons x r =>
    have := congrArg List.length h2
    have h1 := sev_pos x
    simp only [List.flatMap_cons, List.length_append, List.length_nil] at this
    omega
/-- What 'numbers' answers. -/
def NumIs (l : List UInt8) (ns : List Nat) (ok : Bool) : Prop := (ok = true ∧ Low ns ∧ ns.flatMap sev = l) ∨ (ok = false ∧ ns = [] ∧ ∀ ms, Low ms → ms.flatMap sev ≠ l)
theorem num_bad {l s : List UInt8} {ns : List Nat} (hn : Low ns) (e : ns.flatMap sev ++ s = l) (hs : s ≠ []) (h : ¬ (rdB s = true ∧ rdV s ≤ 1099511627776)) : ∀ ms, Low ms → ms.flatMap sev ≠ l := fun ms hm e2 => by
  obtain ⟨m, rfl, h2⟩ := nums_split hn hm (e.trans e2.symm)
  cases m with
  | nil => exact hs (by simpa using h2)
  | cons x r =>
    have hx := hm x (by simp)
    obtain ⟨h3, h4, _⟩ := rd_sev (low_lt hx) (r.flatMap sev)
    rw [List.flatMap_cons] at h2
    rw [← h2] at h3 h4
    exact h ⟨h3, by omega⟩
theorem num_next {l s : List UInt8} {ns : List Nat} (e : ns.flatMap sev ++ s = l) (h : rdB s = true) : (ns ++ [rdV s]).flatMap sev ++ rdR s = l := by
  rw [List.flatMap_append, List.flatMap_cons, List.flatMap_nil, List.append_nil, List.append_assoc, rd_back h, e]
def rowN (x : R) : List Nat := [x.o.toNat, x.d.toNat, x.c.toNat, x.a.toNat, x.q.toNat]
def numsOf (p s : Int) (L : List R) : List Nat := [p.toNat, s.toNat, L.length] ++ L.flatMap rowN
theorem rowN_sev (L : List R) : (L.flatMap rowN).flatMap sev = L.flatMap rowL := by
  induction L with
  | nil => rfl
  | cons x r ih =>
    rw [List.flatMap_cons, List.flatMap_append, ih, List.flatMap_cons]
    simp [rowN, rowL]
theorem numsOf_sev (p s : Int) (L : List R) : (numsOf p s L).flatMap sev = putR p s L := by
  unfold numsOf
  rw [List.flatMap_append, rowN_sev]
  simp [putR, headL]
theorem Valid.low {p s : Int} {L : List R} (h : Valid p s L) : Low (numsOf p s L) := by
  intro n hn
  have := h.good.p2
  have := h.s1
  have := h.good.len
  unfold numsOf at hn
  rcases List.mem_append.1 hn with hn | hn
  · simp only [List.mem_cons, List.not_mem_nil, or_false] at hn
    omega
  · obtain ⟨x, hx, hn⟩ := List.mem_flatMap.1 hn
    have hr := h.good.each x hx
    have := hr.key.o1
    have := hr.key.d1
    have := hr.c2
    have := hr.a1
    have := hr.q1
    simp only [rowN, List.mem_cons, List.not_mem_nil, or_false] at hn
    omega
theorem rowN_len (L : List R) : (L.flatMap rowN).length = 5 * L.length := by
  induction L with
  | nil => rfl
  | cons x r ih => rw [List.flatMap_cons, List.length_append, ih, List.length_cons]; simp only [rowN, List.length_cons, List.length_nil]; omega
theorem numsOf_len (p s : Int) (L : List R) : (numsOf p s L).length = 3 + 5 * L.length := by
  unfold numsOf
  rw [List.length_append, rowN_len]
  simp only [List.length_cons, List.length_nil]

/-! ### What an order was charged -/
def netStep (order : Int) (n : Int) (x : R) : Int := if x.o = order then (if x.d = 1 then n + x.a else n - x.a) else n
def netN (order : Int) (L : List R) : Int := L.foldl (netStep order) 0
def netR (order : Int) (L : List R) : Int := if goodB 0 L = true then netN order L else 0
theorem netN_snoc (order : Int) (L : List R) (x : R) : netN order (L ++ [x]) = netStep order (netN order L) x := by unfold netN; rw [List.foldl_append]; rfl
theorem netN_small (order : Int) (L : List R) (h : ∀ x ∈ L, Row1 0 x) : -(1099511627776 * (L.length : Int)) ≤ netN order L ∧ netN order L ≤ 1099511627776 * (L.length : Int) := by
  suffices H : ∀ (L : List R) (n : Int) (k : Nat), (∀ x ∈ L, Row1 0 x) → -(1099511627776 * (k : Int)) ≤ n → n ≤ 1099511627776 * (k : Int) → -(1099511627776 * ((k + L.length : Nat) : Int)) ≤ L.foldl (netStep order) n ∧ L.foldl (netStep order) n ≤ 1099511627776 * ((k + L.length : Nat) : Int) from by
    simpa [netN] using H L 0 0 h (by simp) (by simp)
  intro L
  induction L with
  | nil => intro n k _ h1 h2; exact ⟨h1, h2⟩
  | cons x r ih =>
    intro n k h h1 h2
    have hx := h x (by simp)
    have := hx.a0
    have := hx.a1
    have hs : -(1099511627776 * ((k + 1 : Nat) : Int)) ≤ netStep order n x ∧ netStep order n x ≤ 1099511627776 * ((k + 1 : Nat) : Int) := by
      unfold netStep
      split
      · split <;> omega
      · omega
    have := ih (netStep order n x) (k + 1) (fun y hy => h y (by simp [hy])) hs.1 hs.2
    rw [List.foldl_cons, List.length_cons]
    rw [show k + 1 + r.length = k + (r.length + 1) from by omega] at this
    exact this
end Rw
end Go.Proofs.YtkffpmeocfhcpaaDoor
