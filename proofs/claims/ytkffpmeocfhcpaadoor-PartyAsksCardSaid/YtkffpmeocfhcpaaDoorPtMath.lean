
/- The plain mathematics of a party (layer 16): its book, what is reserved; what is asked. -/
import Derived.Test.YtkffpmeocfhcpaaDoorRwMath
import Derived.Test.YtkffpmeocfhcpaaDoorOdMath
set_option linter.unusedVariables false
namespace Go.Proofs.YtkffpmeocfhcpaaDoor
open Go Ky Rw
namespace Pt

/-! ### Rows, found and written -/
def fd (L : List R) (o d : Int) : Option R := L.find? fun x => decide (x.o = o) && decide (x.d = d)
def ins (r : R) : List R → List R
  | [] => [r]
  | x :: L => if less x r = true then x :: ins r L else r :: x :: L
theorem fd_nil (o d : Int) : fd [] o d = none := rfl
theorem fd_cons (x : R) (L : List R) (o d : Int) : fd (x :: L) o d = if x.o = o ∧ x.d = d then some x else fd L o d := by
  unfold fd
  rw [List.find?_cons]
  by_cases h : x.o = o ∧ x.d = d
  · rw [if_pos h]; simp [h.1, h.2]
  · rw [if_neg h]
    have : (decide (x.o = o) && decide (x.d = d)) = false := by
      simp only [Bool.and_eq_false_iff, decide_eq_false_iff_not]
      omega
    rw [this]
theorem fd_some {L : List R} {o d : Int} {x : R} (h : fd L o d = some x) : x ∈ L ∧ x.o = o ∧ x.d = d := by
  unfold fd at h
  have h1 := List.mem_of_find?_eq_some h
  have h2 := List.find?_some h
  simp only [Bool.and_eq_true, decide_eq_true_eq] at h2
  exact ⟨h1, h2.1, h2.2⟩
theorem fd_none {L : List R} {o d : Int} : fd L o d = none ↔ ∀ x ∈ L, ¬ (x.o = o ∧ x.d = d) := by
  unfold fd
  rw [List.find?_eq_none]
  simp
theorem fd_mem : ∀ {L : List R} {x : R}, L.Pairwise (fun x y => less x y = true) → x ∈ L → fd L x.o x.d = some x
  | [], x, _, h => by cases h
  | y :: L, x, hp, h => by
    rw [List.pairwise_cons] at hp
    rw [fd_cons]
    rcases List.mem_cons.1 h with rfl | h
    · rw [if_pos ⟨rfl, rfl⟩]
    · have hl := hp.1 x h
      rw [less_iff] at hl
      rw [if_neg (by omega), fd_mem hp.2 h]
theorem mem_ins {r x : R} : ∀ {L : List R}, x ∈ ins r L ↔ x = r ∨ x ∈ L
  | [] => by simp [ins]
  | y :: L => by
    unfold ins
    split
    · rw [List.mem_cons, mem_ins, List.mem_cons]
      constructor
      · rintro (h | h | h)
        · exact Or.inr (Or.inl h)
        · exact Or.inl h
        · exact Or.inr (Or.inr h)
      · rintro (h | h | h)
        · exact Or.inr (Or.inl h)
        · exact Or.inl h
        · exact Or.inr (Or.inr h)
    · simp
theorem ins_len (r : R) : ∀ (L : List R), (ins r L).length = L.length + 1
  | [] => rfl
  | y :: L => by
    unfold ins
    split
    · rw [List.length_cons, ins_len r L, List.length_cons]
    · simp
theorem ins_sub (r : R) : ∀ (L : List R), L.Sublist (ins r L)
  | [] => by simp
  | y :: L => by
    unfold ins
    split
    · exact (ins_sub r L).cons_cons y
    · exact List.sublist_cons_self r (y :: L)
theorem ins_rise {r : R} : ∀ {L : List R}, L.Pairwise (fun x y => less x y = true) → fd L r.o r.d = none → (ins r L).Pairwise fun x y => less x y = true
  | [], _, _ => by simp [ins]
  | y :: L, hp, hn => by
    rw [List.pairwise_cons] at hp
    rw [fd_cons] at hn
    have hk : ¬ (y.o = r.o ∧ y.d = r.d) := fun e => by rw [if_pos e] at hn; cases hn
    rw [if_neg hk] at hn
    unfold ins
    split
    · rename_i hl
      rw [List.pairwise_cons]
      refine ⟨fun x hx => ?_, ins_rise hp.2 hn⟩
      rcases mem_ins.1 hx with rfl | hx
      · exact hl
      · exact hp.1 x hx
    · rename_i hl
      have hr : less r y = true := by rw [less_iff] at *; omega
      rw [List.pairwise_cons]
      refine ⟨fun x hx => ?_, List.pairwise_cons.2 hp⟩
      rcases List.mem_cons.1 hx with rfl | hx
      · exact hr
      · exact less_trans hr (hp.1 x hx)
theorem fd_ins {r : R} {o d : Int} : ∀ {L : List R}, fd L r.o r.d = none → fd (ins r L) o d = if r.o = o ∧ r.d = d then some r else fd L o d
  | [], _ => by unfold ins; rw [fd_cons]
  | y :: L, hn => by
    rw [fd_cons] at hn
    have hk : ¬ (y.o = r.o ∧ y.d = r.d) := fun e => by rw [if_pos e] at hn; cases hn
    rw [if_neg hk] at hn
    unfold ins
    split
    · rw [fd_cons, fd_ins hn, fd_cons]
      by_cases h : y.o = o ∧ y.d = d
      · rw [if_pos h, if_neg (by omega), if_pos h]
      · rw [if_neg h, if_neg h]
    · rw [fd_cons]
/-- Where a row is written: behind those that are less. -/
theorem ins_take (r : R) : ∀ (L : List R) (n : Nat), (∀ j x, j < n → L[j]? = some x → less x r = true) → n ≤ L.length → (∀ x, L[n]? = some x → less x r = false) → ins r L = L.take n ++ r :: L.drop n
  | [], n, _, hn, _ => by simp at hn; subst hn; rfl
  | y :: L, 0, _, _, h => by
    have := h y rfl
    unfold ins
    rw [this]; simp
  | y :: L, n + 1, h1, hn, h2 => by
    have hy := h1 0 y (by omega) rfl
    unfold ins
    rw [if_pos hy, ins_take r L n (fun j x hj hx => h1 (j + 1) x (by omega) (by simpa using hx)) (by simpa using hn) (fun x hx => h2 x (by simpa using hx))]
    simp

/-! ### A party -/
/-- What an order has reserved. -/
structure Gd where
  o : Int
  s : ByteArray
  q : Int
structure M where
  t : Int
  o : Int
  k : Int
  s : ByteArray
  q : Int
  a : Int
  c : Int
def may (m : M) : Bool := Od.mayM m.t m.o m.k m.s m.q m.a m.c
structure P where
  kind : Int
  stock : Int
  limit : Int
  L : List R
  G : List Gd
def tot (s : ByteArray) : List Gd → Int
  | [] => 0
  | g :: r => (if g.s = s then g.q else 0) + tot s r
def left (p : P) (s : ByteArray) : Int := p.stock - tot s p.G
def free (o : Int) (G : List Gd) : List Gd := G.filter fun g => decide (g.o ≠ o)
def does (p : P) (m : M) : Bool := if p.kind = 1 then decide (m.q ≤ left p m.s) else if p.kind = 0 then decide (m.a ≤ p.limit) else decide (m.q ≤ p.limit)
/-- What a deed that is not there leaves, and its row's code. -/
def done (p : P) (m : M) : P × Int :=
  if 3 ≤ m.k then
    match fd p.L m.o (m.k - 3) with
    | some w => (⟨p.kind, p.stock, p.limit, ins ⟨m.o, m.k, 1, w.a, w.q⟩ p.L, free m.o p.G⟩, 1)
    | none => (⟨p.kind, p.stock, p.limit, ins ⟨m.o, m.k, 1, 0, 0⟩ (ins ⟨m.o, m.k - 3, 2, 0, 0⟩ p.L), free m.o p.G⟩, 1)
  else if does p m = true then (⟨p.kind, p.stock, p.limit, ins ⟨m.o, m.k, 1, m.a, m.q⟩ p.L, if p.kind = 1 then p.G ++ [⟨m.o, m.s, m.q⟩] else p.G⟩, 1)
  else (⟨p.kind, p.stock, p.limit, ins ⟨m.o, m.k, 2, 0, 0⟩ p.L, p.G⟩, 2)
/-- What is asked: what it leaves, and the code that is answered, if any. -/
def ask (p : P) (m : M) : P × Option Int :=
  if may m = true ∧ m.t = p.kind then
    match fd p.L m.o m.k with
    | some r => (p, some r.c)
    | none => ((done p m).1, some (done p m).2)
  else (p, none)
def newP (kind stock limit : Int) : P := ⟨kind, if stock < 0 then 0 else min stock 1000000000, limit, [], []⟩

/-! ### What may be asked -/
structure Ok (m : M) : Prop where
  key : Chk m.o m.k
  to : m.t = partyK m.k
  a0 : 0 ≤ m.a
  a1 : m.a ≤ 1099511627776
  q0 : 0 ≤ m.q
  q1 : m.q ≤ 999
  pay : m.t = 0 → m.q = 0 ∧ 1 ≤ m.a
  goods : m.t ≠ 0 → m.a = 0 ∧ 1 ≤ m.q
theorem may_ok {m : M} (h : may m = true) : Ok m := by
  unfold may Od.mayM at h
  simp only [Bool.and_eq_true, decide_eq_true_eq] at h
  obtain ⟨⟨⟨h1, h2⟩, h3⟩, h4⟩ := h
  rw [check_iff] at h1
  by_cases ht : m.t = 0
  · simp only [ht, if_true] at h4
    simp only [Bool.and_eq_true, decide_eq_true_eq] at h4
    refine ⟨h1, h2, ?_, ?_, ?_, ?_, fun _ => ⟨?_, ?_⟩, fun e => absurd ht e⟩ <;> omega
  · simp only [ht, if_false] at h4
    simp only [Bool.and_eq_true, decide_eq_true_eq] at h4
    refine ⟨h1, h2, ?_, ?_, ?_, ?_, fun e => absurd e ht, fun _ => ⟨?_, ?_⟩⟩ <;> omega

/-! ### What a party is, whatever it was asked -/
theorem party_range {o d p : Int} (h : Chk o d) (hp : partyK d = p) : 0 ≤ p ∧ p ≤ 2 ∧ (d < 3 → d = 0 ∧ p = 1 ∨ d = 1 ∧ p = 0 ∨ d = 2 ∧ p = 2) ∧ (3 ≤ d → d = 3 ∧ p = 1 ∨ d = 4 ∧ p = 0 ∨ d = 5 ∧ p = 2) := by
  have := h.d0
  have := h.d1
  unfold partyK at hp
  rw [if_pos ⟨by omega, by omega⟩] at hp
  split at hp
  · refine ⟨by omega, by omega, fun _ => ?_, fun _ => ?_⟩ <;> omega
  · split at hp
    · refine ⟨by omega, by omega, fun _ => ?_, fun _ => ?_⟩ <;> omega
    · refine ⟨by omega, by omega, fun _ => ?_, fun _ => ?_⟩ <;> omega
theorem party_back {o d : Int} (h : Chk o d) (h3 : 3 ≤ d) : Chk o (d - 3) ∧ partyK (d - 3) = partyK d := by
  have h0 := h.d0
  have h1 := h.d1
  refine ⟨⟨h.o0, h.o1, by omega, by omega⟩, ?_⟩
  unfold partyK
  have e : (d - 3) % 3 = d % 3 := by omega
  rw [if_pos (show 0 ≤ d - 3 ∧ d - 3 < 6 by omega), if_pos (show 0 ≤ d ∧ d < 6 by omega), e]
structure Inv (p : P) : Prop where
  k0 : 0 ≤ p.kind
  k2 : p.kind ≤ 2
  s0 : 0 ≤ p.stock
  s1 : p.stock ≤ 1000000000
  each : ∀ x ∈ p.L, Row1 p.kind x
  rise : p.L.Pairwise fun x y => less x y = true
  und : ∀ x ∈ p.L, 3 ≤ x.d → x.c = 1 ∧ ∃ w ∈ p.L, w.o = x.o ∧ w.d = x.d - 3 ∧ w.a = x.a ∧ w.q = x.q
  goods : p.kind ≠ 1 → p.G = []
  gk : ∀ g ∈ p.G, fd p.L g.o 0 = some ⟨g.o, 0, 1, 0, g.q⟩ ∧ fd p.L g.o 3 = none ∧ 1 ≤ g.q ∧ g.q ≤ 999
  ap : p.G.Pairwise fun g h => g.o ≠ h.o
  fits : ∀ s, tot s p.G ≤ p.stock
theorem tot_app (s : ByteArray) : ∀ (G H : List Gd), tot s (G ++ H) = tot s G + tot s H
  | [], H => by simp [tot]
  | g :: G, H => by rw [List.cons_append, tot, tot, tot_app s G H]; omega
theorem tot_pos {s : ByteArray} : ∀ {G : List Gd}, (∀ g ∈ G, 0 ≤ g.q) → 0 ≤ tot s G
  | [], _ => by simp [tot]
  | g :: G, h => by
    have h1 := tot_pos (s := s) fun x hx => h x (List.mem_cons_of_mem g hx)
    have h2 := h g (by simp)
    rw [tot]
    split <;> omega
theorem tot_free {s : ByteArray} {o : Int} : ∀ {G : List Gd}, (∀ g ∈ G, 0 ≤ g.q) → tot s (free o G) ≤ tot s G
  | [], _ => by simp [tot, free]
  | g :: G, h => by
    have h1 := tot_free (s := s) (o := o) fun x hx => h x (List.mem_cons_of_mem g hx)
    have h2 := h g (by simp)
    unfold free at h1 ⊢
    rw [List.filter_cons]
    split
    · rw [tot, tot]; omega
    · rw [tot]
      split <;> omega
theorem free_nil (o : Int) : free o [] = [] := rfl
theorem fd_stay {r x : R} {L : List R} {o d : Int} (hn : fd L r.o r.d = none) (h : fd L o d = some x) : fd (ins r L) o d = some x := by
  rw [fd_ins hn, if_neg ?_, h]
  rintro ⟨rfl, rfl⟩
  rw [hn] at h; cases h
theorem Inv.qty {p : P} (h : Inv p) : ∀ g ∈ p.G, 0 ≤ g.q := fun g hg => by have := (h.gk g hg).2.2.1; omega
theorem Inv.left0 {p : P} (h : Inv p) (s : ByteArray) : 0 ≤ left p s ∧ left p s ≤ p.stock := by
  have h1 := h.fits s
  have h2 := tot_pos (s := s) h.qty
  unfold left; omega
theorem inv_new {kind stock limit : Int} (h0 : 0 ≤ kind) (h2 : kind ≤ 2) : Inv (newP kind stock limit) where
  k0 := h0
  k2 := h2
  s0 := by show (0 : Int) ≤ if stock < 0 then 0 else min stock 1000000000; split <;> omega
  s1 := by show (if stock < 0 then 0 else min stock 1000000000) ≤ (1000000000 : Int); split <;> omega
  each := fun x hx => by cases hx
  rise := List.Pairwise.nil
  und := fun x hx => by cases hx
  goods := fun _ => rfl
  gk := fun x hx => by cases hx
  ap := List.Pairwise.nil
  fits := fun s => by show (0 : Int) ≤ if stock < 0 then 0 else min stock 1000000000; split <;> omega
theorem Inv.und_none {p : P} (h : Inv p) {o d : Int} (h3 : 3 ≤ d) (hn : fd p.L o (d - 3) = none) : fd p.L o d = none := by
  cases hx : fd p.L o d with
  | none => rfl
  | some x =>
    obtain ⟨hm, rfl, rfl⟩ := fd_some hx
    obtain ⟨_, w, hw, e1, e2, _⟩ := h.und x hm h3
    exact absurd ⟨e1, e2⟩ (fd_none.1 hn w hw)
/-- A row of a key that is not there, written. -/
theorem Inv.write {p : P} (h : Inv p) {r : R} (hn : fd p.L r.o r.d = none) (hr : Row1 p.kind r) (hu : 3 ≤ r.d → r.c = 1 ∧ ∃ w ∈ p.L, w.o = r.o ∧ w.d = r.d - 3 ∧ w.a = r.a ∧ w.q = r.q) (G : List Gd)
    (hG : G.Sublist p.G) (hg : r.d = 3 → ∀ g ∈ G, g.o ≠ r.o) (hf : ∀ s, tot s G ≤ tot s p.G) : Inv ⟨p.kind, p.stock, p.limit, ins r p.L, G⟩ where
  k0 := h.k0
  k2 := h.k2
  s0 := h.s0
  s1 := h.s1
  each := fun x hx => by
    rcases mem_ins.1 hx with rfl | hx
    · exact hr
    · exact h.each x hx
  rise := ins_rise h.rise hn
  und := fun x hx h3 => by
    rcases mem_ins.1 hx with rfl | hx
    · obtain ⟨h1, w, hw, h2⟩ := hu h3
      exact ⟨h1, w, mem_ins.2 (Or.inr hw), h2⟩
    · obtain ⟨h1, w, hw, h2⟩ := h.und x hx h3
      exact ⟨h1, w, mem_ins.2 (Or.inr hw), h2⟩
  goods := fun e => by
    have e1 := h.goods e
    rw [e1] at hG
    exact List.sublist_nil.1 hG
  gk := fun g hg1 => by
    obtain ⟨h1, h2, h3⟩ := h.gk g (hG.subset hg1)
    refine ⟨fd_stay hn h1, ?_, h3⟩
    rw [fd_ins hn, if_neg ?_, h2]
    rintro ⟨e1, e2⟩
    exact hg e2 g hg1 e1.symm
  ap := h.ap.sublist hG
  fits := fun s => Int.le_trans (hf s) (h.fits s)
theorem free_sub (o : Int) (G : List Gd) : (free o G).Sublist G := List.filter_sublist
theorem free_ne {o : Int} {G : List Gd} {g : Gd} (h : g ∈ free o G) : g.o ≠ o := by
  unfold free at h
  have := (List.mem_filter.1 h).2
  simpa using this
/-- A reservation, written. -/
theorem Inv.take {p : P} (h : Inv p) {o q : Int} {s : ByteArray} (hn : fd p.L o 0 = none) (hk : p.kind = 1) (hr : Row1 1 ⟨o, 0, 1, 0, q⟩) (h1 : 1 ≤ q) (h2 : q ≤ left p s) : Inv ⟨p.kind, p.stock, p.limit, ins ⟨o, 0, 1, 0, q⟩ p.L, p.G ++ [⟨o, s, q⟩]⟩ := by
  have hb := h.write (r := ⟨o, 0, 1, 0, q⟩) hn (hk ▸ hr) (fun e => by have e1 : (3 : Int) ≤ 0 := e; omega) p.G (List.Sublist.refl _) (fun e => by have e1 : (0 : Int) = 3 := e; omega) (fun s => Int.le_refl _)
  have hne : ∀ g ∈ p.G, g.o ≠ o := fun g hg e => by
    have := (h.gk g hg).1
    rw [e, hn] at this; cases this
  refine ⟨hb.k0, hb.k2, hb.s0, hb.s1, hb.each, hb.rise, hb.und, fun e => absurd hk e, fun g hg => ?_, ?_, fun t => ?_⟩
  · rcases List.mem_append.1 hg with hg | hg
    · exact hb.gk g hg
    · rw [List.mem_singleton.1 hg]
      refine ⟨?_, ?_, h1, hr.q1⟩
      · show fd (ins ⟨o, 0, 1, 0, q⟩ p.L) o 0 = _
        rw [fd_ins hn, if_pos (show o = o ∧ (0 : Int) = 0 from ⟨rfl, rfl⟩)]
      · show fd (ins ⟨o, 0, 1, 0, q⟩ p.L) o 3 = none
        rw [fd_ins hn, if_neg (by rintro ⟨_, e⟩; have e1 : (0 : Int) = 3 := e; omega)]
        exact h.und_none (by omega) hn
  · show List.Pairwise (fun g h : Gd => g.o ≠ h.o) (p.G ++ [⟨o, s, q⟩])
    rw [List.pairwise_append]
    exact ⟨h.ap, by simp, fun g hg x hx => by rw [List.mem_singleton.1 hx]; exact hne g hg⟩
  · show tot t (p.G ++ [⟨o, s, q⟩]) ≤ p.stock
    rw [tot_app]
    have h3 := h.fits t
    unfold left at h2
    show tot t p.G + ((if s = t then q else 0) + 0) ≤ p.stock
    split
    · rename_i e; subst e; omega
    · omega

/-! ### What is asked keeps it so -/
theorem done_inv {p : P} (h : Inv p) {m : M} (hk : Ok m) (ht : m.t = p.kind) (hn : fd p.L m.o m.k = none) : Inv (done p m).1 := by
  have hp : partyK m.k = p.kind := by rw [← hk.to, ht]
  obtain ⟨_, _, r1, r2⟩ := party_range hk.key hp
  have hq := h.qty
  unfold done
  by_cases h3 : 3 ≤ m.k
  · rw [if_pos h3]
    obtain ⟨b1, b2⟩ := party_back hk.key h3
    cases hw : fd p.L m.o (m.k - 3) with
    | some w =>
      obtain ⟨m1, m2, m3⟩ := fd_some hw
      have hr := h.each w m1
      exact h.write (r := ⟨m.o, m.k, 1, w.a, w.q⟩) hn ⟨hk.key, hp, (by decide : (1 : Int) ≤ 1), (by decide : (1 : Int) ≤ 2), hr.a0, hr.a1, hr.q0, hr.q1, fun e => ⟨(hr.za e).1, (by decide : (1 : Int) ≠ 2)⟩, fun e => ⟨(hr.zq e).1, (by decide : (1 : Int) ≠ 2)⟩⟩
        (fun _ => ⟨rfl, w, m1, m2, m3, rfl, rfl⟩) _ (free_sub _ _) (fun _ g hg => free_ne hg) (fun s => tot_free hq)
    | none =>
      have h0 := h.write (r := ⟨m.o, m.k - 3, 2, 0, 0⟩) hw ⟨b1, by rw [b2, hp], (by decide : (1 : Int) ≤ 2), (by decide : (2 : Int) ≤ 2), Int.le_refl _, (by decide : (0 : Int) ≤ 1099511627776), Int.le_refl _, (by decide : (0 : Int) ≤ 999), fun e => absurd rfl e, fun e => absurd rfl e⟩
        (fun e => by have e1 : 3 ≤ m.k - 3 := e; have := hk.key.d1; omega) p.G (List.Sublist.refl _) (fun e g hg => by have e1 : m.k - 3 = 3 := e; have := hk.key.d1; omega) (fun s => Int.le_refl _)
      have hn2 : fd (ins ⟨m.o, m.k - 3, 2, 0, 0⟩ p.L) m.o m.k = none := by
        rw [fd_ins hw, if_neg (by rintro ⟨_, e⟩; have e1 : m.k - 3 = m.k := e; omega), hn]
      exact h0.write (r := ⟨m.o, m.k, 1, 0, 0⟩) hn2 ⟨hk.key, hp, (by decide : (1 : Int) ≤ 1), (by decide : (1 : Int) ≤ 2), Int.le_refl _, (by decide : (0 : Int) ≤ 1099511627776), Int.le_refl _, (by decide : (0 : Int) ≤ 999), fun e => absurd rfl e, fun e => absurd rfl e⟩
        (fun _ => ⟨rfl, ⟨m.o, m.k - 3, 2, 0, 0⟩, mem_ins.2 (Or.inl rfl), rfl, rfl, rfl, rfl⟩) _ (free_sub _ _) (fun _ g hg => free_ne hg) (fun s => tot_free hq)
  · rw [if_neg h3]
    by_cases hd : does p m = true
    · rw [if_pos hd]
      have hr : Row1 p.kind ⟨m.o, m.k, 1, m.a, m.q⟩ := ⟨hk.key, hp, (by show (1 : Int) ≤ 1; decide), (by show (1 : Int) ≤ 2; decide), hk.a0, hk.a1, hk.q0, hk.q1,
        fun e => ⟨by
          have e1 : m.a ≠ 0 := e
          rcases Decidable.em (m.t = 0) with h0 | h0
          · rw [← ht]; exact h0
          · exact absurd (hk.goods h0).1 e1, by show (1 : Int) ≠ 2; decide⟩,
        fun e => ⟨fun e0 => by
          have e1 : m.q ≠ 0 := e
          exact e1 (hk.pay (by rw [ht]; exact e0)).1, by show (1 : Int) ≠ 2; decide⟩⟩
      by_cases h1 : p.kind = 1
      · rw [if_pos h1]
        have k0 : m.k = 0 := by rcases r1 (by omega) with ⟨e, _⟩ | ⟨_, e⟩ | ⟨_, e⟩ <;> omega
        obtain ⟨a0, q1⟩ := hk.goods (by omega)
        have hle : m.q ≤ left p m.s := by
          unfold does at hd
          rw [if_pos h1] at hd
          simpa using hd
        rw [k0] at hn
        rw [k0, a0]
        rw [k0, a0, h1] at hr
        exact h.take hn h1 hr q1 hle
      · rw [if_neg h1]
        exact h.write (r := ⟨m.o, m.k, 1, m.a, m.q⟩) hn hr (fun e => absurd e h3) p.G (List.Sublist.refl _) (fun e => by have e1 : m.k = 3 := e; omega) (fun s => Int.le_refl _)
    · rw [if_neg hd]
      exact h.write (r := ⟨m.o, m.k, 2, 0, 0⟩) hn ⟨hk.key, hp, (by show (1 : Int) ≤ 2; decide), Int.le_refl _, Int.le_refl _, (by decide : (0 : Int) ≤ 1099511627776), Int.le_refl _, (by decide : (0 : Int) ≤ 999), fun e => absurd rfl e, fun e => absurd rfl e⟩
        (fun e => absurd e h3) p.G (List.Sublist.refl _) (fun e => by have e1 : m.k = 3 := e; omega) (fun s => Int.le_refl _)
theorem ask_inv {p : P} (h : Inv p) (m : M) : Inv (ask p m).1 := by
  unfold ask
  split
  · rename_i hc
    split
    · exact h
    · rename_i hn
      exact done_inv h (may_ok hc.1) hc.2 hn
  · exact h
theorem done_kind (p : P) (m : M) : (done p m).1.kind = p.kind ∧ (done p m).1.stock = p.stock ∧ (done p m).1.limit = p.limit := by
  unfold done
  split
  · split <;> exact ⟨rfl, rfl, rfl⟩
  · split <;> exact ⟨rfl, rfl, rfl⟩
theorem ask_kind (p : P) (m : M) : (ask p m).1.kind = p.kind ∧ (ask p m).1.stock = p.stock ∧ (ask p m).1.limit = p.limit := by
  unfold ask
  split
  · split
    · exact ⟨rfl, rfl, rfl⟩
    · exact done_kind p m
  · exact ⟨rfl, rfl, rfl⟩
/-- The row of what was asked is there, with the code that was answered; rows stay, at most two come. -/
theorem done_row {p : P} {m : M} (hn : fd p.L m.o m.k = none) : (∃ r, fd (done p m).1.L m.o m.k = some r ∧ r.c = (done p m).2) ∧ (∀ o d x, fd p.L o d = some x → fd (done p m).1.L o d = some x) ∧ p.L.Sublist (done p m).1.L ∧ (done p m).1.L.length ≤ p.L.length + 2 := by
  unfold done
  split
  · rename_i h3
    split
    · rename_i w hw
      refine ⟨⟨⟨m.o, m.k, 1, w.a, w.q⟩, ?_, rfl⟩, fun o d x hx => fd_stay hn hx, ins_sub _ _, ?_⟩
      · show fd (ins ⟨m.o, m.k, 1, w.a, w.q⟩ p.L) m.o m.k = _
        rw [fd_ins hn, if_pos (show m.o = m.o ∧ m.k = m.k from ⟨rfl, rfl⟩)]
      · show (ins _ p.L).length ≤ _
        rw [ins_len]; omega
    · rename_i hw
      have hn2 : fd (ins ⟨m.o, m.k - 3, 2, 0, 0⟩ p.L) m.o m.k = none := by
        rw [fd_ins (r := ⟨m.o, m.k - 3, 2, 0, 0⟩) hw, if_neg (by rintro ⟨_, e⟩; have e1 : m.k - 3 = m.k := e; omega), hn]
      refine ⟨⟨⟨m.o, m.k, 1, 0, 0⟩, ?_, rfl⟩, fun o d x hx => ?_, (ins_sub _ _).trans (ins_sub _ _), ?_⟩
      · show fd (ins ⟨m.o, m.k, 1, 0, 0⟩ (ins ⟨m.o, m.k - 3, 2, 0, 0⟩ p.L)) m.o m.k = _
        rw [fd_ins hn2, if_pos (show m.o = m.o ∧ m.k = m.k from ⟨rfl, rfl⟩)]
      · exact fd_stay (r := ⟨m.o, m.k, 1, 0, 0⟩) hn2 (fd_stay (r := ⟨m.o, m.k - 3, 2, 0, 0⟩) hw hx)
      · show (ins _ (ins _ p.L)).length ≤ _
        rw [ins_len, ins_len]; omega
  · split
    · refine ⟨⟨⟨m.o, m.k, 1, m.a, m.q⟩, ?_, rfl⟩, fun o d x hx => fd_stay hn hx, ins_sub _ _, ?_⟩
      · show fd (ins ⟨m.o, m.k, 1, m.a, m.q⟩ p.L) m.o m.k = _
        rw [fd_ins hn, if_pos (show m.o = m.o ∧ m.k = m.k from ⟨rfl, rfl⟩)]
      · show (ins _ p.L).length ≤ _
        rw [ins_len]; omega
    · refine ⟨⟨⟨m.o, m.k, 2, 0, 0⟩, ?_, rfl⟩, fun o d x hx => fd_stay hn hx, ins_sub _ _, ?_⟩
      · show fd (ins ⟨m.o, m.k, 2, 0, 0⟩ p.L) m.o m.k = _
        rw [fd_ins hn, if_pos (show m.o = m.o ∧ m.k = m.k from ⟨rfl, rfl⟩)]
      · show (ins _ p.L).length ≤ _
        rw [ins_len]; omega
theorem ask_rows (p : P) (m : M) : (∀ o d x, fd p.L o d = some x → fd (ask p m).1.L o d = some x) ∧ p.L.Sublist (ask p m).1.L ∧ (ask p m).1.L.length ≤ p.L.length + 2 := by
  unfold ask
  split
  · split
    · exact ⟨fun o d x h => h, List.Sublist.refl _, Nat.le_add_right _ _⟩
    · rename_i hn
      exact (done_row hn).2
  · exact ⟨fun o d x h => h, List.Sublist.refl _, Nat.le_add_right _ _⟩
/-- What m is answered, wherever it stands from now on. -/
def Told (p : P) (m : M) (c : Option Int) : Prop := (¬ (may m = true ∧ m.t = p.kind) ∧ c = none) ∨ ((may m = true ∧ m.t = p.kind) ∧ ∃ r, fd p.L m.o m.k = some r ∧ c = some r.c)
theorem Told.ask {p : P} {m : M} {c : Option Int} (h : Told p m c) : ask p m = (p, c) := by
  unfold Pt.ask
  rcases h with ⟨h1, rfl⟩ | ⟨h1, r, h2, rfl⟩
  · rw [if_neg h1]
  · rw [if_pos h1, h2]
theorem Told.next {p : P} {m : M} {c : Option Int} (h : Told p m c) (n : M) : Told (Pt.ask p n).1 m c := by
  unfold Told at h ⊢
  rw [(ask_kind p n).1]
  rcases h with h | ⟨h1, r, h2, h3⟩
  · exact Or.inl h
  · exact Or.inr ⟨h1, r, (ask_rows p n).1 _ _ _ h2, h3⟩
theorem ask_told (p : P) (m : M) : Told (ask p m).1 m (ask p m).2 := by
  unfold Told
  rw [(ask_kind p m).1]
  unfold ask
  by_cases h : may m = true ∧ m.t = p.kind
  · rw [if_pos h]
    refine Or.inr ⟨h, ?_⟩
    cases hf : fd p.L m.o m.k with
    | some r => exact ⟨r, hf, rfl⟩
    | none =>
      obtain ⟨⟨r, h1, h2⟩, _⟩ := done_row hf
      exact ⟨r, h1, by rw [h2]⟩
  · rw [if_neg h]
    exact Or.inl ⟨h, rfl⟩
theorem ask_twice (p : P) (m : M) : ask (ask p m).1 m = ask p m := (ask_told p m).ask

/-! ### Its rows may be its own -/
theorem rise_few {p : Int} {L : List R} (h : ∀ x ∈ L, Row1 p x) (hr : L.Pairwise fun x y => less x y = true) : L.length ≤ 120 := by
  have key : ∀ x ∈ L, 0 ≤ 2 * x.o + (if x.d < 3 then 0 else 1) - 2 ∧ 2 * x.o + (if x.d < 3 then 0 else 1) - 2 < 120 := fun x hx => by
    have := (h x hx).key.o0
    have := (h x hx).key.o1
    split <;> omega
  have mono : ∀ x ∈ L, ∀ y ∈ L, less x y = true → 2 * x.o + (if x.d < 3 then 0 else 1) < 2 * y.o + (if y.d < 3 then (0 : Int) else 1) := fun x hx y hy hl => by
    rw [less_iff] at hl
    obtain ⟨_, _, a1, a2⟩ := party_range (h x hx).key (h x hx).party
    obtain ⟨_, _, b1, b2⟩ := party_range (h y hy).key (h y hy).party
    by_cases c : x.d < 3 <;> by_cases e : y.d < 3
    · rw [if_pos c, if_pos e]
      have := a1 c
      have := b1 e
      omega
    · rw [if_pos c, if_neg e]
      omega
    · rw [if_neg c, if_pos e]
      have := a2 (by omega)
      have := b1 e
      omega
    · rw [if_neg c, if_neg e]
      have := a2 (by omega)
      have := b2 (by omega)
      omega
  have H : ∀ (M : List R) (b : Int), (∀ x ∈ M, x ∈ L) → M.Pairwise (fun x y => less x y = true) → (∀ x ∈ M, b ≤ 2 * x.o + (if x.d < 3 then 0 else 1) - 2) → b ≤ 120 → (M.length : Int) ≤ 120 - b := by
    intro M
    induction M with
    | nil => intro b _ _ _ hb; simp; omega
    | cons x M ih =>
      intro b hM hp hb h120
      rw [List.pairwise_cons] at hp
      have hx := hM x (by simp)
      have k1 := key x hx
      have k2 := hb x (by simp)
      have := ih (2 * x.o + (if x.d < 3 then 0 else 1) - 2 + 1) (fun y hy => hM y (List.mem_cons_of_mem _ hy)) hp.2 (fun y hy => by
        have := mono x hx y (hM y (List.mem_cons_of_mem _ hy)) (hp.1 y hy)
        omega) (by omega)
      simp only [List.length_cons]
      omega
  have := H L 0 (fun x hx => hx) hr (fun x hx => (key x hx).1) (by omega)
  omega
theorem Inv.good {p : P} (h : Inv p) : Rw.Good p.kind p.L := ⟨h.k0, h.k2, Nat.le_trans (rise_few h.each h.rise) (by decide), h.each, h.rise⟩
theorem Inv.few {p : P} (h : Inv p) : p.L.length ≤ 120 := rise_few h.each h.rise
theorem few_int : ∀ (n : Nat) (l : List Int), l.Nodup → (∀ x ∈ l, 1 ≤ x ∧ x ≤ (n : Int)) → l.length ≤ n
  | 0, [], _, _ => by simp
  | 0, x :: l, _, h => by have := h x (by simp); omega
  | n + 1, l, hd, h => by
    have h1 := few_int n (l.erase ((n + 1 : Nat) : Int)) (hd.erase _) (fun x hx => by
      obtain ⟨h2, h3⟩ := hd.mem_erase_iff.1 hx
      have := h x h3
      omega)
    rw [List.length_erase] at h1
    split at h1 <;> omega
theorem Inv.gfew {p : P} (h : Inv p) : p.G.length ≤ 60 := by
  have h1 : (p.G.map (·.o)).Nodup := by
    rw [List.Nodup, List.pairwise_map]
    exact h.ap
  have h2 := few_int 60 (p.G.map (·.o)) h1 (fun o ho => by
    obtain ⟨g, hg, rfl⟩ := List.mem_map.1 ho
    obtain ⟨hm, _, _⟩ := fd_some (h.gk g hg).1
    have hk := (h.each _ hm).key
    have a := hk.o0
    have b := hk.o1
    simp only at a b
    omega)
  rw [List.length_map] at h2
  exact h2

/-! ### Messages one behind the other -/
def askL (p : P) : List M → P
  | [] => p
  | m :: l => askL (ask p m).1 l
theorem askL_inv {p : P} (h : Inv p) : ∀ (l : List M), Inv (askL p l)
  | [] => h
  | m :: l => by
    show Inv (askL (ask p m).1 l)
    exact askL_inv (ask_inv h m) l
theorem askL_snoc (p : P) : ∀ (l : List M) (m : M), askL p (l ++ [m]) = (ask (askL p l) m).1
  | [], m => rfl
  | x :: l, m => by
    show askL (ask p x).1 (l ++ [m]) = _
    rw [askL_snoc]
    rfl
theorem askL_kind (p : P) : ∀ (l : List M), (askL p l).kind = p.kind ∧ (askL p l).stock = p.stock ∧ (askL p l).limit = p.limit
  | [] => ⟨rfl, rfl, rfl⟩
  | m :: l => by
    have h := askL_kind (ask p m).1 l
    have g := ask_kind p m
    show (askL (ask p m).1 l).kind = p.kind ∧ (askL (ask p m).1 l).stock = p.stock ∧ (askL (ask p m).1 l).limit = p.limit
    rw [h.1, h.2.1, h.2.2]
    exact g
theorem Told.all {p : P} {m : M} {c : Option Int} (h : Told p m c) : ∀ (l : List M), Told (askL p l) m c
  | [] => h
  | n :: l => by
    show Told (askL (Pt.ask p n).1 l) m c
    exact (h.next n).all l
/-- What was asked among them is answered, at the end, as it was. -/
theorem told_end (p : P) (l : List M) {i : Nat} {m : M} (hm : l[i]? = some m) : Told (askL p l) m (ask (askL p (l.take i)) m).2 := by
  have hi := (List.getElem?_eq_some_iff.1 hm).1
  have e : l = l.take i ++ (m :: l.drop (i + 1)) := by
    obtain ⟨_, he⟩ := List.getElem?_eq_some_iff.1 hm
    rw [← he, ← List.drop_eq_getElem_cons hi, List.take_append_drop]
  have happ : ∀ (a b : List M) (q : P), askL q (a ++ b) = askL (askL q a) b := fun a => by
    induction a with
    | nil => intro b q; rfl
    | cons x a ih => intro b q; exact ih b _
  have h2 : askL p l = askL (ask (askL p (l.take i)) m).1 (l.drop (i + 1)) := by
    conv => lhs; rw [e, happ]
    rfl
  rw [h2]
  exact (ask_told _ m).all _

/-! ### Undone -/
theorem ins_one {r x : R} (h : less x r = true) : ins r [x] = [x, r] := by unfold ins; rw [if_pos h]; rfl
/-- A deed undone ahead of it. -/
theorem barred_none {kind stock limit : Int} {m u : M} (hm : may m = true) (hu : may u = true) (km : m.t = kind) (ku : u.t = kind) (eo : u.o = m.o) (ek : u.k = m.k + 3) (h3 : m.k < 3) :
    ask (newP kind stock limit) u = (⟨kind, (newP kind stock limit).stock, limit, [⟨m.o, m.k, 2, 0, 0⟩, ⟨m.o, m.k + 3, 1, 0, 0⟩], []⟩, some 1) ∧
    ask ⟨kind, (newP kind stock limit).stock, limit, [⟨m.o, m.k, 2, 0, 0⟩, ⟨m.o, m.k + 3, 1, 0, 0⟩], []⟩ m = (⟨kind, (newP kind stock limit).stock, limit, [⟨m.o, m.k, 2, 0, 0⟩, ⟨m.o, m.k + 3, 1, 0, 0⟩], []⟩, some 2) := by
  have hk := (may_ok hm).key
  have e1 : u.k - 3 = m.k := by omega
  constructor
  · unfold ask
    rw [if_pos ⟨hu, ku⟩]
    show ((done (newP kind stock limit) u).1, some (done (newP kind stock limit) u).2) = _
    unfold done
    rw [if_pos (by have := hk.d0; omega)]
    show (_, some (1 : Int)) = _
    have l1 : less ⟨m.o, m.k, 2, 0, 0⟩ ⟨m.o, m.k + 3, 1, 0, 0⟩ = true := by
      rw [less_iff]; exact Or.inr ⟨rfl, by show m.k < m.k + 3; omega⟩
    have e2 : ins ⟨u.o, u.k, 1, 0, 0⟩ (ins ⟨u.o, u.k - 3, 2, 0, 0⟩ []) = [⟨m.o, m.k, 2, 0, 0⟩, ⟨m.o, m.k + 3, 1, 0, 0⟩] := by
      rw [eo, e1, ek]
      exact ins_one l1
    show ((⟨kind, (newP kind stock limit).stock, limit, ins ⟨u.o, u.k, 1, 0, 0⟩ (ins ⟨u.o, u.k - 3, 2, 0, 0⟩ []), []⟩ : P), some (1 : Int)) = _
    rw [e2]
  · unfold ask
    rw [if_pos ⟨hm, km⟩]
    show (match fd [⟨m.o, m.k, 2, 0, 0⟩, ⟨m.o, m.k + 3, 1, 0, 0⟩] m.o m.k with | some r => _ | none => _) = _
    rw [fd_cons, if_pos (show m.o = m.o ∧ m.k = m.k from ⟨rfl, rfl⟩)]
/-- A deed asked for, then undone. -/
theorem barred_first {kind stock limit : Int} {m u : M} (hm : may m = true) (hu : may u = true) (km : m.t = kind) (ku : u.t = kind) (eo : u.o = m.o) (ek : u.k = m.k + 3) (h3 : m.k < 3) :
    ∃ (c a q : Int) (G : List Gd), (c = 1 ∨ c = 2) ∧ ask (newP kind stock limit) m = (⟨kind, (newP kind stock limit).stock, limit, [⟨m.o, m.k, c, a, q⟩], G⟩, some c) ∧
    ask ⟨kind, (newP kind stock limit).stock, limit, [⟨m.o, m.k, c, a, q⟩], G⟩ u = (⟨kind, (newP kind stock limit).stock, limit, [⟨m.o, m.k, c, a, q⟩, ⟨m.o, m.k + 3, 1, a, q⟩], []⟩, some 1) ∧
    ask ⟨kind, (newP kind stock limit).stock, limit, [⟨m.o, m.k, c, a, q⟩, ⟨m.o, m.k + 3, 1, a, q⟩], []⟩ m = (⟨kind, (newP kind stock limit).stock, limit, [⟨m.o, m.k, c, a, q⟩, ⟨m.o, m.k + 3, 1, a, q⟩], []⟩, some c) := by
  have hk := (may_ok hm).key
  have e1 : u.k - 3 = m.k := by omega
  have key : ∀ (c a q : Int) (G : List Gd), free m.o G = [] → ask ⟨kind, (newP kind stock limit).stock, limit, [⟨m.o, m.k, c, a, q⟩], G⟩ u = (⟨kind, (newP kind stock limit).stock, limit, [⟨m.o, m.k, c, a, q⟩, ⟨m.o, m.k + 3, 1, a, q⟩], []⟩, some 1) ∧
      ask ⟨kind, (newP kind stock limit).stock, limit, [⟨m.o, m.k, c, a, q⟩, ⟨m.o, m.k + 3, 1, a, q⟩], []⟩ m = (⟨kind, (newP kind stock limit).stock, limit, [⟨m.o, m.k, c, a, q⟩, ⟨m.o, m.k + 3, 1, a, q⟩], []⟩, some c) := fun c a q G hG => by
    have l1 : less ⟨m.o, m.k, c, a, q⟩ ⟨m.o, m.k + 3, 1, a, q⟩ = true := by
      rw [less_iff]; exact Or.inr ⟨rfl, by show m.k < m.k + 3; omega⟩
    constructor
    · have n1 : fd [⟨m.o, m.k, c, a, q⟩] u.o u.k = none := by
        rw [fd_cons, if_neg (by rintro ⟨_, e⟩; have e2 : m.k = u.k := e; omega)]; rfl
      have n2 : fd [⟨m.o, m.k, c, a, q⟩] u.o (u.k - 3) = some ⟨m.o, m.k, c, a, q⟩ := by
        rw [fd_cons, if_pos (show m.o = u.o ∧ m.k = u.k - 3 from ⟨eo.symm, e1.symm⟩)]
      unfold ask
      rw [if_pos ⟨hu, ku⟩]
      show (match fd [⟨m.o, m.k, c, a, q⟩] u.o u.k with | some r => _ | none => _) = _
      rw [n1]
      unfold done
      rw [if_pos (show 3 ≤ u.k by have := hk.d0; omega)]
      simp only [n2]
      rw [eo, hG, ek, ins_one l1]
    · unfold ask
      rw [if_pos ⟨hm, km⟩]
      show (match fd [⟨m.o, m.k, c, a, q⟩, ⟨m.o, m.k + 3, 1, a, q⟩] m.o m.k with | some r => _ | none => _) = _
      rw [fd_cons, if_pos (show m.o = m.o ∧ m.k = m.k from ⟨rfl, rfl⟩)]
  have first : ask (newP kind stock limit) m = ((done (newP kind stock limit) m).1, some (done (newP kind stock limit) m).2) := by
    unfold ask
    rw [if_pos ⟨hm, km⟩]
    rfl
  rw [first]
  unfold done
  rw [if_neg (by omega)]
  by_cases hd : does (newP kind stock limit) m = true
  · rw [if_pos hd]
    refine ⟨1, m.a, m.q, (if (newP kind stock limit).kind = 1 then (newP kind stock limit).G ++ [⟨m.o, m.s, m.q⟩] else (newP kind stock limit).G), Or.inl rfl, rfl, key _ _ _ _ ?_⟩
    split
    · show free m.o [⟨m.o, m.s, m.q⟩] = []
      simp [free]
    · rfl
  · rw [if_neg hd]
    exact ⟨2, 0, 0, [], Or.inr rfl, rfl, key _ _ _ _ rfl⟩
end Pt
end Go.Proofs.YtkffpmeocfhcpaaDoor
