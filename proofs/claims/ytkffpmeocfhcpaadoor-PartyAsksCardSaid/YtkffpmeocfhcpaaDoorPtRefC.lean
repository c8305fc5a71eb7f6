
/- The document's party in memory; what is left, a row found. -/
import Derived.Test.YtkffpmeocfhcpaaDoorRwRefC
import Derived.Test.YtkffpmeocfhcpaaDoorPtMath
import Derived.BigQuiet
set_option linter.unusedVariables false
namespace Go.Proofs.YtkffpmeocfhcpaaDoor
open Go.ChangeShapes Go.WideShapes Go.ChangeAt Go.RowKit Ky Rw Csv

abbrev tPr : TypeId := 43
abbrev tGd : TypeId := 84
def gdVals (g : Pt.Gd) : List Value := [.int .i64 g.o, .string g.s, .int .i64 g.q]
def gdK : RowK Pt.Gd where
  t := tGd
  ts := 41
  sz := 3
  bytes := 32
  zero := .agg #[.int .i64 0, .string ByteArray.empty, .int .i64 0]
  cells := gdVals
  under := Tryd.underlying41
  info := by kernel_rfl
  zsize := rfl
  pos := by omega
  small := by omega
  len := fun x => rfl
  one := fun x u hu => by
    simp only [gdVals, List.mem_cons, List.not_mem_nil, or_false] at hu
    rcases hu with rfl | rfl | rfl <;> rfl
/-- Goods, as they are read. -/
def GdsIn (w : World) (v : Value) (G : List Pt.Gd) : Prop :=
  ∃ p c, v = .slice p G.length c ∧ G.length ≤ maxLen ∧ ∀ j x, G[j]? = some x → ∃ g n : Nat, p = some ⟨g, n, none⟩ ∧ w.cell? ⟨g, n + j * 3, none⟩ = some (.int .i64 x.o) ∧ w.cell? ⟨g, n + (j * 3 + 1), none⟩ = some (.string x.s) ∧ w.cell? ⟨g, n + (j * 3 + 2), none⟩ = some (.int .i64 x.q)
/-- The document's party, in its block: rows and goods lie in blocks of their kinds. -/
def RefP (w : World) (b : Nat) (p : Pt.P) (seq : Int) : Prop :=
  ∃ vL vG, w.heap[b]? = some (.cells #[.int .i64 p.kind, .int .i64 p.stock, .int .i64 p.limit, vL, vG, .int .i64 seq] tPr (0, 0)) ∧ rowK.Own 0 w vL p.L ∧ gdK.Own 0 w vG p.G
theorem six_at {W : World} {n : Nat} {t : TypeId} {x0 x1 x2 x3 x4 x5 : Value} (h : W.heap[n]? = some (.cells #[x0, x1, x2, x3, x4, x5] t (0, 0))) :
    (W.cell? ⟨n, 0, none⟩ = some x0 ∧ W.cell? ⟨n, 1, none⟩ = some x1 ∧ W.cell? ⟨n, 2, none⟩ = some x2 ∧ W.cell? ⟨n, 3, none⟩ = some x3 ∧ W.cell? ⟨n, 4, none⟩ = some x4 ∧ W.cell? ⟨n, 5, none⟩ = some x5) ∧ (W.frozen? ⟨n, 3, none⟩ = false ∧ W.frozen? ⟨n, 4, none⟩ = false ∧ W.frozen? ⟨n, 5, none⟩ = false) :=
  ⟨⟨Joins.cell_of_block h 0, Joins.cell_of_block h 1, Joins.cell_of_block h 2, Joins.cell_of_block h 3, Joins.cell_of_block h 4, Joins.cell_of_block h 5⟩, Joins.unfrozen_of_block h 3, Joins.unfrozen_of_block h 4, Joins.unfrozen_of_block h 5⟩
theorem RefP.keeps {w w' : World} {b : Nat} {p : Pt.P} {seq : Int} (h : RefP w b p seq) (k : Keeps w w') : RefP w' b p seq := by
  obtain ⟨vL, vG, h1, h2, h3⟩ := h
  exact ⟨vL, vG, (k.block b (Array.getElem?_eq_some_iff.1 h1).1).trans h1, rowK.own_keeps h2 k, gdK.own_keeps h3 k⟩
/-- Goods of a block of their own, read. -/
theorem gd_at {B : Nat} {W : World} {v : Value} {G : List Pt.Gd} (h : gdK.Own B W v G) : ∃ p c, v = .slice p G.length c ∧ ∀ (j : Nat) (x : Pt.Gd), G[j]? = some x → ∃ g : Nat, p = some ⟨g, 0, none⟩ ∧ W.cell? ⟨g, j * 3, none⟩ = some (.int .i64 x.o) ∧ W.cell? ⟨g, j * 3 + 1, none⟩ = some (.string x.s) ∧ W.cell? ⟨g, j * 3 + 2, none⟩ = some (.int .i64 x.q) := by
  rcases h.2 with ⟨rfl, h0⟩ | ⟨g, cap, cur, rfl, hb, hgb, r1, r2, r3, r4⟩
  · have : G = [] := List.length_eq_zero_iff.1 h0
    subst this
    exact ⟨none, 0, rfl, fun j x hx => by simp at hx⟩
  · refine ⟨_, cap, rfl, fun j x hx => ⟨g, rfl, ?_⟩⟩
    have at_ : ∀ i u, (gdVals x)[i]? = some u → W.cell? ⟨g, j * 3 + i, none⟩ = some u := fun i u hu => RowK.own_at gdK h hx hu
    exact ⟨at_ 0 _ rfl, at_ 1 _ rfl, at_ 2 _ rfl⟩
namespace Pt
theorem tot_take {s : ByteArray} {G : List Gd} {k : Nat} {g : Gd} (h : G[k]? = some g) : tot s (G.take (k + 1)) = tot s (G.take k) + (if g.s = s then g.q else 0) := by
  rw [List.take_add_one, h]
  show tot s (G.take k ++ [g]) = _
  rw [tot_app, tot, tot]; omega
theorem tot_le {s : ByteArray} {G : List Gd} (h : ∀ g ∈ G, 0 ≤ g.q ∧ g.q ≤ 999) (k : Nat) : 0 ≤ tot s (G.take k) ∧ tot s (G.take k) ≤ 999 * (k : Int) := by
  induction k with
  | zero => simp [tot]
  | succ k ih =>
    cases hx : G[k]? with
    | none =>
      rw [List.take_add_one, hx, Option.toList_none, List.append_nil]
      omega
    | some g =>
      rw [tot_take hx]
      have := h g (List.mem_of_getElem? hx)
      split <;> omega
end Pt
set_option maxHeartbeats 8000000 in
theorem rp_left (b : Nat) (p : Pt.P) (seq : Int) (s : ByteArray) (w : World) (h : RefP w b p seq) (hi : Pt.Inv p) :
    Calls Tryd.prog 47 #[.pointer (some ⟨b, 0, none⟩), .string s] w fun e w' => e = .returned (.int .i64 (Pt.left p s)) ∧ w = w' := by
  have HR := Lib.hid h
  have HQ : Hid (∀ g ∈ p.G, 0 ≤ g.q ∧ g.q ≤ 999) := Lib.hid fun g hg => by have := (hi.gk g hg).2.2; omega
  have HN : Hid (p.G.length ≤ 60) := Lib.hid hi.gfew
  have HS : Hid (0 ≤ p.stock ∧ p.stock ≤ 1000000000) := Lib.hid ⟨hi.s0, hi.s1⟩
  obtain ⟨F, hF⟩ : ∃ F, Pt.left p s = F := ⟨_, rfl⟩
  have HF := Lib.hid hF
  rw [hF]
  clear h hi hF
  obtain ⟨vL, vG, hb, hL, hG⟩ := HR.out
  obtain ⟨pg, cg, rfl, hc⟩ := gd_at hG
  obtain ⟨⟨x0, x1, x2, x3, x4, x5⟩, _⟩ := six_at hb
  obtain ⟨N, hN⟩ : ∃ N, p.G.length = N := ⟨_, rfl⟩
  have HL := Lib.hid hN
  have HC : Hid (∀ W, Keeps w W → ∀ (j : Nat) (x : Pt.Gd), p.G[j]? = some x → ∃ g : Nat, pg = some ⟨g, 0, none⟩ ∧ W.cell? ⟨g, j * 3, none⟩ = some (.int .i64 x.o) ∧ W.cell? ⟨g, j * 3 + 1, none⟩ = some (.string x.s) ∧ W.cell? ⟨g, j * 3 + 2, none⟩ = some (.int .i64 x.q)) := Lib.hid fun W k j x hx => by
    obtain ⟨g, h1, h2, h3, h4⟩ := hc j x hx
    exact ⟨g, h1, cell_keeps k h2, cell_keeps k h3, cell_keeps k h4⟩
  have HB : Hid (∀ W, Keeps w W → W.cell? ⟨b, 1, none⟩ = some (.int .i64 p.stock) ∧ W.cell? ⟨b, 4, none⟩ = some (.slice pg N cg)) := Lib.hid fun W k => ⟨cell_keeps k x1, by rw [← hN]; exact cell_keeps k x4⟩
  rw [hN] at x4
  clear hc hb hL hG hN x0 x2 x3 x5
  go_enter Tryd.func47, Tryd.ntmps47
  go_wp2_with fail
  go_loopg [5, 6] N (fun g v5 v6 W => ∃ k : Nat, k + g = N ∧ v5 = .int .i64 (p.stock - Pt.tot s (p.G.take k)) ∧ v6 = .int .i64 (k : Int) ∧ w = W)
  case atStart => exact ⟨0, by omega, by simp [Pt.tot], rfl, rfl⟩
  case round =>
    obtain ⟨k, hk, rfl, rfl, rfl⟩ := hrel
    have HI := Lib.hid hk
    obtain ⟨y1, y4⟩ := HB.out _ (Keeps.refl _)
    clear x1 x4
    cases gk with
    | zero =>
      obtain rfl : k = N := by as_aux_lemma => (omega)
      have hd : decide ((k : Int) < (k : Int)) = false := decide_eq_false (by as_aux_lemma => (omega))
      have hz : ¬ ((k : Int) < (k : Int)) := by as_aux_lemma => (omega)
      have E : p.stock - Pt.tot s (p.G.take k) = F := by rw [List.take_of_length_le (by rw [HL.out]; exact Nat.le_refl _)]; exact HF.out
      rw [E]
      clear E
      go_wp2
      go_ret
      exact ⟨rfl, rfl⟩
    | succ gk =>
    have hlt : k < N := by as_aux_lemma => (omega)
    have HK := Lib.hid hlt
    obtain ⟨x, hx⟩ : ∃ x, p.G[k]? = some x := ⟨_, List.getElem?_eq_getElem (by have := HL.out; omega)⟩
    obtain ⟨g, rfl, q0, q1, q2⟩ := HC.out _ (Keeps.refl _) k x hx
    obtain ⟨S, hS⟩ : ∃ S, x.s = S := ⟨_, rfl⟩
    obtain ⟨t, ht⟩ : ∃ t, p.stock - Pt.tot s (p.G.take k) = t := ⟨_, rfl⟩
    have TB : Hid (t ≤ 1000000000 ∧ -100000 ≤ t ∧ 0 ≤ x.q ∧ x.q ≤ 999) := Lib.hid (by
      have h1 := Pt.tot_le (s := s) HQ.out k
      have h2 := HQ.out x (List.mem_of_getElem? hx)
      have h3 := HS.out
      have h4 := HN.out
      rw [HL.out] at h4
      omega)
    have TN := Lib.hid (Pt.tot_take (s := s) hx)
    have hi1 : (k : Int) < (N : Int) := by as_aux_lemma => (omega)
    have hi0 : (0 : Int) ≤ (k : Int) := by as_aux_lemma => (omega)
    have wi : Hid (wrap64 ((k : Int) + 1) = (k : Int) + 1) := Lib.hid (i64w (by unfold top; omega) (by have := HN.out; have := HL.out; unfold top; omega))
    rw [hS] at q1 TN
    have HT := Lib.hid ht
    rw [ht]
    clear hx hS ht
    by_cases he : S = s
    · have wq : wrap64 (t - x.q) = t - x.q := i64w (by have := TB.out; unfold top; omega) (by have := TB.out; unfold top; omega)
      have NX : Hid (t - x.q = p.stock - Pt.tot s (p.G.take (k + 1))) := Lib.hid (by rw [TN.out, if_pos he, ← HT.out]; omega)
      subst he
      go_wp2_with fail
      go_roundg gk
      case measure => omega
      case rel => exact ⟨k + 1, by have := HI.out; omega, by first | (rw [wq, NX.out]) | rw [NX.out], by first | (rw [wi.out]; rfl) | rfl | go_num, rfl⟩
    · have NX : Hid (t = p.stock - Pt.tot s (p.G.take (k + 1))) := Lib.hid (by rw [TN.out, if_neg he, ← HT.out]; omega)
      obtain ⟨t1, t2, t3⟩ : ¬ (S.toList = s.toList) ∧ (S.toList == s.toList) = false ∧ (S.toList != s.toList) = true := by
        have h1 : ¬ (S.toList = s.toList) := fun e => he (by
          have e2 : S.data.toList = s.data.toList := by rw [← ByteArray.toList_eq, ← ByteArray.toList_eq, e]
          exact bytes_inj e2)
        have h2 : (S.toList == s.toList) = false := beq_eq_false_iff_ne.2 h1
        exact ⟨h1, h2, by rw [bne, h2]; rfl⟩
      go_wp2_with fail
      go_roundg gk
      case measure => omega
      case rel => exact ⟨k + 1, by have := HI.out; omega, by rw [NX.out], by first | (rw [wi.out]; rfl) | rfl | go_num, rfl⟩
namespace Pt
def fdV (L : List R) (o d : Int) : R := (fd L o d).getD ⟨0, 0, 0, 0, 0⟩
def fdB (L : List R) (o d : Int) : Bool := (fd L o d).isSome
theorem fd_take {L : List R} {o d : Int} {k : Nat} {x : R} (h : fd (L.take k) o d = none) (hx : L[k]? = some x) : (x.o = o ∧ x.d = d → fd L o d = some x) ∧ (¬ (x.o = o ∧ x.d = d) → fd (L.take (k + 1)) o d = none) := by
  obtain ⟨hk, he⟩ := List.getElem?_eq_some_iff.1 hx
  constructor
  · intro e
    have e1 : L = L.take k ++ x :: L.drop (k + 1) := by
      rw [← he, ← List.drop_eq_getElem_cons hk, List.take_append_drop]
    rw [e1]
    unfold fd at h ⊢
    rw [List.find?_append, h, List.find?_cons]
    simp [e.1, e.2]
  · intro e
    rw [List.take_add_one, hx]
    unfold fd at h ⊢
    rw [List.find?_append, h]
    simp
    intro h1
    exact fun h2 => e ⟨h1, h2⟩
end Pt
abbrev zeR : List Value := [.int .i64 0, .int .i64 0, .int .i64 0, .int .i64 0, .int .i64 0]
theorem ptFive_set {W : World} {n : Nat} {x0 x1 x2 x3 x4 : Value} (h : W.heap[n]? = some (.cells #[x0, x1, x2, x3, x4] tRw (0, 0))) (a b c d e : Value) :
    (((((W.setCell ⟨n, 0, none⟩ a).setCell ⟨n, 1, none⟩ b).setCell ⟨n, 2, none⟩ c).setCell ⟨n, 3, none⟩ d).setCell ⟨n, 4, none⟩ e).heap[n]? = some (.cells #[a, b, c, d, e] tRw (0, 0)) := by
  have h1 := Joins.block_setCell (i := 0) h a
  have h2 := Joins.block_setCell (i := 1) h1 b
  have h3 := Joins.block_setCell (i := 2) h2 c
  have h4 := Joins.block_setCell (i := 3) h3 d
  have h5 := Joins.block_setCell (i := 4) h4 e
  rw [h5]; rfl
theorem ptFive_keeps {w W : World} {n : Nat} (h : Keeps w W) (hn : w.heap.size ≤ n) (a b c d e : Value) : Keeps w (((((W.setCell ⟨n, 0, none⟩ a).setCell ⟨n, 1, none⟩ b).setCell ⟨n, 2, none⟩ c).setCell ⟨n, 3, none⟩ d).setCell ⟨n, 4, none⟩ e) :=
  ((((h.setCell (p := ⟨n, 0, none⟩) hn a).setCell (p := ⟨n, 1, none⟩) hn b).setCell (p := ⟨n, 2, none⟩) hn c).setCell (p := ⟨n, 3, none⟩) hn d).setCell (p := ⟨n, 4, none⟩) hn e
theorem ptFive_at {W : World} {n : Nat} {t : TypeId} {x0 x1 x2 x3 x4 : Value} (h : W.heap[n]? = some (.cells #[x0, x1, x2, x3, x4] t (0, 0))) :
    (W.cell? ⟨n, 0, none⟩ = some x0 ∧ W.cell? ⟨n, 1, none⟩ = some x1 ∧ W.cell? ⟨n, 2, none⟩ = some x2 ∧ W.cell? ⟨n, 3, none⟩ = some x3 ∧ W.cell? ⟨n, 4, none⟩ = some x4) ∧ (W.frozen? ⟨n, 0, none⟩ = false ∧ W.frozen? ⟨n, 1, none⟩ = false ∧ W.frozen? ⟨n, 2, none⟩ = false ∧ W.frozen? ⟨n, 3, none⟩ = false ∧ W.frozen? ⟨n, 4, none⟩ = false) :=
  ⟨⟨Joins.cell_of_block h 0, Joins.cell_of_block h 1, Joins.cell_of_block h 2, Joins.cell_of_block h 3, Joins.cell_of_block h 4⟩, Joins.unfrozen_of_block h 0, Joins.unfrozen_of_block h 1, Joins.unfrozen_of_block h 2, Joins.unfrozen_of_block h 3, Joins.unfrozen_of_block h 4⟩
theorem rp_drew {w W : World} (h : Keeps w W) : Keeps w W.drew := Below.trans h ⟨rfl, rfl, rfl, Nat.le_refl _, fun _ _ => rfl⟩
theorem rp_find_box (w : World) (o d : Int) : ∀ W, Keeps ((w.alloc (.cells #[.int .i64 o, .int .i64 d] tKy)).alloc (.cells #[.int .i64 0, .int .i64 0, .int .i64 0, .int .i64 0, .int .i64 0] tRw)) W →
    (W.cell? ⟨w.heap.size, 0, none⟩ = some (.int .i64 o) ∧ W.cell? ⟨w.heap.size, 1, none⟩ = some (.int .i64 d)) ∧ W.heap[w.heap.size + 1]? = some (.cells #[.int .i64 0, .int .i64 0, .int .i64 0, .int .i64 0, .int .i64 0] tRw (0, 0)) ∧ Keeps w W := fun W k => by
  have s1 : (w.alloc (.cells #[.int .i64 o, .int .i64 d] tKy)).heap.size = w.heap.size + 1 := by simp
  have n1 := heap_alloc_new (w.alloc (.cells #[.int .i64 o, .int .i64 d] tKy)) (.cells #[.int .i64 0, .int .i64 0, .int .i64 0, .int .i64 0, .int .i64 0] tRw)
  rw [s1] at n1
  have k1 : Keeps (w.alloc (.cells #[.int .i64 o, .int .i64 d] tKy)) W := (ky_box _ _).trans k
  have n0 := (k1.block _ (by simp)).trans (heap_alloc_new w (.cells #[.int .i64 o, .int .i64 d] tKy))
  exact ⟨⟨Joins.cell_of_block n0 0, Joins.cell_of_block n0 1⟩, (k.block _ (by simp)).trans n1, (ky_box w _).trans k1⟩
set_option maxHeartbeats 16000000 in
theorem rp_find (b : Nat) (p : Pt.P) (seq o d : Int) (w : World) (h : RefP w b p seq) (hl : p.L.length ≤ 400) :
    Calls Tryd.prog 33 #[.pointer (some ⟨b, 0, none⟩), .agg #[.int .i64 o, .int .i64 d]] w fun e w' => e = .returned (.tuple #[rwV (Pt.fdV p.L o d), .bool (Pt.fdB p.L o d)]) ∧ Keeps w w' := by
  have HR := Lib.hid h
  have HN := Lib.hid hl
  obtain ⟨V, hV⟩ : ∃ V, Pt.fdV p.L o d = V := ⟨_, rfl⟩
  obtain ⟨B, hB⟩ : ∃ B, Pt.fdB p.L o d = B := ⟨_, rfl⟩
  have HVV := Lib.hid hV
  have HBB := Lib.hid hB
  rw [hV, hB]
  clear h hl hV hB
  obtain ⟨vL, vG, hb, hL, hG⟩ := HR.out
  obtain ⟨pl, cl, rfl, hmx, _, hc⟩ := own_rows hL (by have := HN.out; omega)
  obtain ⟨N, hN⟩ : ∃ N, p.L.length = N := ⟨_, rfl⟩
  have HL := Lib.hid hN
  have HC : Hid (∀ W, Keeps w W → ∀ (j : Nat) (x : R), p.L[j]? = some x → ∃ a : Addr, pl = some a ∧ RowAt W (a.add (j * 5)) x) := Lib.hid fun W k j x hx => by
    obtain ⟨a, h1, h2⟩ := hc j x hx
    exact ⟨a, h1, h2.keeps k⟩
  have HB : Hid (∀ W, Keeps w W → W.cell? ⟨b, 3, none⟩ = some (.slice pl N cl)) := Lib.hid fun W k => by
    have := cell_keeps k (six_at hb).1.2.2.2.1
    rw [hN] at this
    exact this
  have HBX := Lib.hid (rp_find_box w o d)
  clear hc hb hL hG hN hmx
  obtain ⟨w1, hw1⟩ : ∃ W, (w.alloc (.cells #[.int .i64 o, .int .i64 d] tKy)).alloc (.cells #[.int .i64 0, .int .i64 0, .int .i64 0, .int .i64 0, .int .i64 0] tRw) = W := ⟨_, rfl⟩
  rw [hw1] at HBX
  have y3 := HB.out _ (HBX.out _ (Keeps.refl _)).2.2
  go_enter Tryd.func33, Tryd.ntmps33
  go_upto_region 1 with (fail)
  try rw [hw1]
  clear hw1
  go_wp2_with fail
  go_loopg [6] N (fun g v6 W => ∃ k : Nat, k + g = N ∧ v6 = .int .i64 (k : Int) ∧ Pt.fd (p.L.take k) o d = none ∧ Keeps w1 W)
  case atStart => exact ⟨0, by omega, rfl, by simp [Pt.fd], Keeps.refl _⟩
  case round =>
    obtain ⟨k, hk, rfl, hf, hw⟩ := hrel
    have HI := Lib.hid hk
    have HV := Lib.hid hw
    have HF := Lib.hid hf
    clear y3 hf hw
    obtain ⟨⟨z0, z1⟩, hres, kw⟩ := HBX.out _ HV.out
    have HRES := Lib.hid hres
    have KW := Lib.hid kw
    have y3 := HB.out _ kw
    obtain ⟨⟨r0, r1, r2, r3, r4⟩, f0, f1, f2, f3, f4⟩ := ptFive_at hres
    clear hres kw
    cases gk with
    | zero =>
      obtain rfl : k = N := by as_aux_lemma => (omega)
      have hd : decide ((k : Int) < (k : Int)) = false := decide_eq_false (by as_aux_lemma => (omega))
      have hz : ¬ ((k : Int) < (k : Int)) := by as_aux_lemma => (omega)
      have E : Pt.fd p.L o d = none := by
        have := HF.out
        rwa [List.take_of_length_le (by rw [HL.out]; exact Nat.le_refl _)] at this
      obtain rfl : V = ⟨0, 0, 0, 0, 0⟩ := by rw [← HVV.out]; unfold Pt.fdV; rw [E]; rfl
      obtain rfl : B = false := by rw [← HBB.out]; unfold Pt.fdB; rw [E]; rfl
      clear E HVV HBB
      go_wp2
      obtain ⟨⟨e0, e1, e2, e3, e4⟩, _⟩ := ptFive_at (ptFive_set HRES.out (.int .i64 0) (.int .i64 0) (.int .i64 0) (.int .i64 0) (.int .i64 0))
      exact bodyPost_ret (v := .tuple #[.agg #[.int .i64 0, .int .i64 0, .int .i64 0, .int .i64 0, .int .i64 0], .bool false]) (by simp [results, Tryd.results33, go_sem, e0, e1, e2, e3, e4]) rfl ⟨rfl, ptFive_keeps KW.out (Nat.le_succ _) _ _ _ _ _⟩
    | succ gk =>
    have hlt : k < N := by as_aux_lemma => (omega)
    obtain ⟨x, hx⟩ : ∃ x, p.L[k]? = some x := ⟨_, List.getElem?_eq_getElem (by rw [HL.out]; exact hlt)⟩
    have HX := Lib.hid hx
    have FT := Lib.hid (Pt.fd_take HF.out hx)
    obtain ⟨a, rfl, q0, q1, q2, q3, q4⟩ := HC.out _ KW.out k x hx
    have hi1 : (k : Int) < (N : Int) := by as_aux_lemma => (omega)
    have hi0 : (0 : Int) ≤ (k : Int) := by as_aux_lemma => (omega)
    have wi : Hid (wrap64 ((k : Int) + 1) = (k : Int) + 1) := Lib.hid (i64w (by unfold top; omega) (by have := HN.out; have := HL.out; unfold top; omega))
    clear hx hlt hk
    by_cases hkey : x.o = o ∧ x.d = d
    · have E := FT.out.1 hkey
      obtain ⟨rfl, rfl⟩ := hkey
      obtain rfl : V = x := by rw [← HVV.out]; unfold Pt.fdV; rw [E]; rfl
      obtain rfl : B = true := by rw [← HBB.out]; unfold Pt.fdB; rw [E]; rfl
      clear E HVV HBB
      go_upto_region 4 with (fail)
      go_quiet (fail)
      have KQ : Hid (Keeps w1 (wr.drewN nq)) := Lib.hid (keeps_drewN HV.out nq)
      obtain ⟨_, hres, kw⟩ := HBX.out _ KQ.out
      have HRES2 := Lib.hid hres
      have KW2 := Lib.hid kw
      clear hres kw
      go_wp2
      obtain ⟨⟨e0, e1, e2, e3, e4⟩, _⟩ := ptFive_at (ptFive_set HRES2.out (.int .i64 V.o) (.int .i64 V.d) (.int .i64 V.c) (.int .i64 V.a) (.int .i64 V.q))
      exact bodyPost_ret (v := .tuple #[rwV V, .bool true]) (by simp [rwV, results, Tryd.results33, go_sem, e0, e1, e2, e3, e4]) rfl ⟨rfl, ptFive_keeps KW2.out (Nat.le_succ _) _ _ _ _ _⟩
    · have NX := Lib.hid (FT.out.2 hkey)
      rcases (show x.o ≠ o ∨ (x.o = o ∧ x.d ≠ d) from by omega) with h1 | ⟨h1, h2⟩
      · have t1 : (x.o == o) = false := by rw [beq_eq_false_iff_ne]; exact h1
        have t2 : (x.o != o) = true := by rw [bne, t1]; rfl
        clear hkey h1
        go_upto_region 4 with (fail)
        go_quiet (fail)
        have KQ : Hid (Keeps w1 (wr.drewN nq)) := Lib.hid (keeps_drewN HV.out nq)
        go_wp2_with fail
        go_roundg gk
        case measure => omega
        case rel => exact ⟨k + 1, by have := HI.out; omega, by first | (rw [wi.out]; rfl) | rfl | go_num, NX.out, KQ.out⟩
      · have t1 : (x.d == d) = false := by rw [beq_eq_false_iff_ne]; exact h2
        have t2 : (x.d != d) = true := by rw [bne, t1]; rfl
        subst h1
        clear hkey h2
        go_upto_region 4 with (fail)
        go_quiet (fail)
        have KQ : Hid (Keeps w1 (wr.drewN nq)) := Lib.hid (keeps_drewN HV.out nq)
        go_wp2_with fail
        go_roundg gk
        case measure => omega
        case rel => exact ⟨k + 1, by have := HI.out; omega, by first | (rw [wi.out]; rfl) | rfl | go_num, NX.out, KQ.out⟩
theorem pt_quiet {P : Program} {f : FuncId} {args : Array Value} {w : World} {n : Nat} {v : Value}
    (h : Calls P f args (w.drewN n) fun e w' => e = .returned v ∧ w.drewN n = w') : Calls P f args (w.drewN n) fun e w'' => e = .returned v ∧ ∃ m, w'' = w.drewN m :=
  h.mono fun _ _ ⟨he, hm⟩ => ⟨he, n, hm.symm⟩
abbrev tPm : TypeId := 35
def pmV (m : Pt.M) : Value := .agg #[.int .i64 m.t, .int .i64 m.o, .int .i64 m.k, .string m.s, .int .i64 m.q, .int .i64 m.a, .int .i64 m.c]
def pmBox (m : Pt.M) : Obj := .cells #[.int .i64 m.t, .int .i64 m.o, .int .i64 m.k, .string m.s, .int .i64 m.q, .int .i64 m.a, .int .i64 m.c] tPm
theorem pm_cells (w : World) (m : Pt.M) : ∀ W, Keeps (w.alloc (pmBox m)) W → (W.cell? ⟨w.heap.size, 0, none⟩ = some (.int .i64 m.t) ∧ W.cell? ⟨w.heap.size, 1, none⟩ = some (.int .i64 m.o) ∧ W.cell? ⟨w.heap.size, 2, none⟩ = some (.int .i64 m.k) ∧ W.cell? ⟨w.heap.size, 3, none⟩ = some (.string m.s) ∧ W.cell? ⟨w.heap.size, 4, none⟩ = some (.int .i64 m.q) ∧ W.cell? ⟨w.heap.size, 5, none⟩ = some (.int .i64 m.a) ∧ W.cell? ⟨w.heap.size, 6, none⟩ = some (.int .i64 m.c)) ∧ Keeps w W := fun W k => by
  have e := (k.block _ (by simp)).trans (heap_alloc_new w (pmBox m))
  exact ⟨⟨Joins.cell_of_block e 0, Joins.cell_of_block e 1, Joins.cell_of_block e 2, Joins.cell_of_block e 3, Joins.cell_of_block e 4, Joins.cell_of_block e 5, Joins.cell_of_block e 6⟩, (ky_box w _).trans k⟩
set_option maxHeartbeats 8000000 in
theorem rp_does (b : Nat) (p : Pt.P) (seq : Int) (m : Pt.M) (w : World) (h : RefP w b p seq) (hi : Pt.Inv p) :
    Calls Tryd.prog 37 #[.pointer (some ⟨b, 0, none⟩), pmV m] w fun e w' => e = .returned (.bool (Pt.does p m)) ∧ Keeps w w' := by
  have KB := Lib.hid (ky_box w (pmBox m))
  have HX := Lib.hid (pm_cells w m)
  obtain ⟨⟨m0, m1, m2, m3, m4, m5, m6⟩, _⟩ := HX.out _ (Keeps.refl _)
  have CL : Hid (∀ n, Calls Tryd.prog 47 #[.pointer (some ⟨b, 0, none⟩), .string m.s] ((w.alloc (pmBox m)).drewN n) fun e w' => e = .returned (.int .i64 (Pt.left p m.s)) ∧ (w.alloc (pmBox m)).drewN n = w') := Lib.hid fun n => rp_left b p seq m.s _ (h.keeps (keeps_drewN KB.out n)) hi
  obtain ⟨F, hF⟩ : ∃ F, Pt.left p m.s = F := ⟨_, rfl⟩
  obtain ⟨B, hB⟩ : ∃ B, Pt.does p m = B := ⟨_, rfl⟩
  have HB := Lib.hid hB
  have HF := Lib.hid hF
  rw [hF] at CL
  rw [hB]
  obtain ⟨vL, vG, hb, _, _⟩ := h.keeps KB.out
  obtain ⟨⟨x0, x1, x2, x3, x4, x5⟩, _⟩ := six_at hb
  clear hb hB hF h hi x1 x3 x4 x5 m0 m1 m2 m6
  unfold pmV
  unfold pmBox at KB x0 x2 m3 m4 m5 CL
  by_cases h1 : p.kind = 1
  · have t : (p.kind == 1) = true := by rw [h1]; rfl
    have E : B = decide (m.q ≤ F) := by rw [← HB.out, ← HF.out]; unfold Pt.does; rw [if_pos h1]
    subst E
    clear HB HF
    go_enter Tryd.func37, Tryd.ntmps37
    go_upto_region 3 with (fail)
    go_quiet ((go_at_call 47; exact pt_quiet (CL.out _)))
    have KQ : Hid (Keeps w ((w.alloc (.cells #[.int .i64 m.t, .int .i64 m.o, .int .i64 m.k, .string m.s, .int .i64 m.q, .int .i64 m.a, .int .i64 m.c] tPm)).drewN nq)) := Lib.hid (keeps_drewN KB.out nq)
    go_wp2
    go_ret
    exact ⟨by first | rfl | simp, KQ.out⟩
  · obtain ⟨t, t2⟩ : (p.kind == 1) = false ∧ (p.kind != 1) = true := by
      have h2 : (p.kind == 1) = false := by rw [beq_eq_false_iff_ne]; exact h1
      exact ⟨h2, by rw [bne, h2]; rfl⟩
    clear CL
    by_cases h0 : p.kind = 0
    · have t0 : (p.kind == 0) = true := by rw [h0]; rfl
      have E : B = decide (m.a ≤ p.limit) := by rw [← HB.out]; unfold Pt.does; rw [if_neg h1, if_pos h0]
      subst E
      clear HB HF h1
      go_enter Tryd.func37, Tryd.ntmps37
      go_upto_region 5 with (fail)
      go_quiet (fail)
      have KQ : Hid (Keeps w ((w.alloc (.cells #[.int .i64 m.t, .int .i64 m.o, .int .i64 m.k, .string m.s, .int .i64 m.q, .int .i64 m.a, .int .i64 m.c] tPm)).drewN nq)) := Lib.hid (keeps_drewN KB.out nq)
      go_wp2
      go_ret
      exact ⟨by first | rfl | simp, KQ.out⟩
    · have t0 : (p.kind == 0) = false := by rw [beq_eq_false_iff_ne]; exact h0
      have E : B = decide (m.q ≤ p.limit) := by rw [← HB.out]; unfold Pt.does; rw [if_neg h1, if_neg h0]
      subst E
      clear HB HF h1 h0
      go_enter Tryd.func37, Tryd.ntmps37
      go_upto_region 6 with (fail)
      go_quiet (fail)
      have KQ : Hid (Keeps w ((w.alloc (.cells #[.int .i64 m.t, .int .i64 m.o, .int .i64 m.k, .string m.s, .int .i64 m.q, .int .i64 m.a, .int .i64 m.c] tPm)).drewN nq)) := Lib.hid (keeps_drewN KB.out nq)
      go_wp2
      go_ret
      exact ⟨by first | rfl | simp, KQ.out⟩
end Go.Proofs.YtkffpmeocfhcpaaDoor
