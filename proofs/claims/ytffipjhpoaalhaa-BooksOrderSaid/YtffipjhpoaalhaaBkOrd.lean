/- Postings in any order: the plain part. -/
import Derived.Test.YtffipjhpoaalhaaBkOne
set_option linter.unusedVariables false
namespace Go.Proofs.Ytffipjhpoaalhaa
open Go.ChangeShapes Go.WideShapes Go.ChangeAt Go.RowKit Csv Bk Mon

/-- A small posting with an Id of its own. -/
def ownI (j : Nat) (x : PI) : PI := ⟨⟨#[UInt8.ofNat (97 + j)]⟩, (smallI x).ord, (smallI x).deb, (smallI x).cre, (smallI x).amt⟩
def ownL (L : List PI) : List PI := L.mapIdx ownI
theorem ownL_at {L : List PI} {j : Nat} {x : PI} (h : L[j]? = some x) : (ownL L)[j]? = some (ownI j x) := by unfold ownL; rw [List.getElem?_mapIdx, h]; rfl
theorem ownL_len (L : List PI) : (ownL L).length = L.length := by unfold ownL; simp
theorem ownL_of {L : List PI} {j : Nat} {y : PI} (h : (ownL L)[j]? = some y) : ∃ x, L[j]? = some x ∧ y = ownI j x := by
  unfold ownL at h
  rw [List.getElem?_mapIdx] at h
  cases hx : L[j]? with
  | none => rw [hx] at h; cases h
  | some x => rw [hx] at h; simp at h; exact ⟨x, rfl, h.symm⟩
/-- Postings that are all taken, in their order. -/
structure TakeOk (R : List PI) : Prop where
  len : R.length ≤ 40
  good : ∀ x ∈ R, x.Good ∧ mayM x.pm = true ∧ x.pm.ord ≤ 4 ∧ x.pm.amt ≤ 1099511627775
  ids : ∀ (i j : Nat) (x y : PI), R[i]? = some x → R[j]? = some y → i < j → x.pm.id ≠ y.pm.id
theorem byte_ne {i j : Nat} (hi : i < 40) (hj : j < 40) (h : i ≠ j) : UInt8.ofNat (97 + i) ≠ UInt8.ofNat (97 + j) := by
  intro e
  have := congrArg UInt8.toNat e
  simp at this
  omega
theorem own_take {L : List PI} (hl : L.length ≤ 40) (hs : ∀ x ∈ L, x.s.size ≤ 100) : TakeOk (ownL L) := by
  refine ⟨by rw [ownL_len]; exact hl, fun y hy => ?_, fun i j x y hx hy hij => ?_⟩
  · obtain ⟨j, hj⟩ := List.mem_iff_getElem?.1 hy
    obtain ⟨x, hx, rfl⟩ := ownL_of hj
    obtain ⟨⟨g1, g2, g3, g4, g5⟩, _⟩ := smallI_good x (hs x (List.mem_of_getElem? hx))
    obtain ⟨h1, h2, h3⟩ := small_may x
    obtain ⟨m1, m2, m3, m4, m5, m6, m7, m8⟩ := may_iff.1 h1
    exact ⟨⟨by unfold ownI maxLen; show 1 ≤ _; omega, g2, g3, g4, g5⟩, may_iff.2 ⟨by unfold ownI PI.pm; simp, m2, m3, m4, m5, m6, m7, m8⟩, h2, h3⟩
  · obtain ⟨x', hx', rfl⟩ := ownL_of hx
    obtain ⟨y', hy', rfl⟩ := ownL_of hy
    have hi := (List.getElem?_eq_some_iff.1 hx').1
    have hj := (List.getElem?_eq_some_iff.1 hy').1
    intro e
    unfold ownI PI.pm at e
    simp only [List.cons.injEq, and_true] at e
    exact byte_ne (by omega) (by omega) (by omega) e
/-- What is there behind so many of them. -/
theorem take_sm {R : List PI} (h : TakeOk R) : ∀ k, k ≤ R.length → Sm (R.take k) k ∧ ∀ x, R[k]? = some x → postI (R.take k) x = (0, R.take (k + 1)) ∧ idOf (pms (R.take (k + 1))) x.pm.id = some x.pm := by
  have new : ∀ k x, R[k]? = some x → Sm (R.take k) k → postI (R.take k) x = (0, R.take (k + 1)) := fun k x hx hsm => by
    obtain ⟨g1, g2, g3, g4⟩ := h.good x (List.mem_of_getElem? hx)
    have hm := may_iff.1 g2
    have hi : idOf (pms (R.take k)) x.pm.id = none := by
      refine NoId.none (s := x.s) fun j y hj hy => ?_
      rw [List.length_take] at hj
      rw [List.getElem?_take_of_lt (by omega)] at hy
      have := h.ids j k y x hy hx (by omega)
      exact fun e => this (by unfold PI.pm; rw [e])
    rw [post_new g2 hi, small_fits hsm.small (by rw [pms_len]; have := hsm.len; have := h.len; have := (List.getElem?_eq_some_iff.1 hx).1; omega) hm.amt g4 hm.ord g3]
    rw [List.take_add_one, hx]
    rfl
  have sm : ∀ k, k ≤ R.length → Sm (R.take k) k := by
    intro k
    induction k with
    | zero => intro _; rw [List.take_zero]; exact Sm.nil
    | succ k ih =>
      intro hk
      obtain ⟨x, hx⟩ : ∃ x, R[k]? = some x := ⟨_, List.getElem?_eq_getElem (by omega)⟩
      have h0 := ih (by omega)
      obtain ⟨g1, g2, g3, g4⟩ := h.good x (List.mem_of_getElem? hx)
      have := (h0.post (by have := h.len; omega) g1 g2 g3 g4).1
      rw [new k x hx h0] at this
      exact this
  intro k hk
  refine ⟨sm k hk, fun x hx => ⟨new k x hx (sm k hk), ?_⟩⟩
  have hk' := (List.getElem?_eq_some_iff.1 hx).1
  have e : pms (R.take (k + 1)) = pms (R.take k) ++ [x.pm] := by
    rw [List.take_add_one, hx]
    unfold pms
    rw [List.map_append]; rfl
  obtain ⟨g1, g2, g3, g4⟩ := h.good x (List.mem_of_getElem? hx)
  have hi : idOf (pms (R.take k)) x.pm.id = none := by
    refine NoId.none (s := x.s) fun j y hj hy => ?_
    rw [List.length_take] at hj
    rw [List.getElem?_take_of_lt (by omega)] at hy
    have := h.ids j k y x hy hx (by omega)
    exact fun e => this (by unfold PI.pm; rw [e])
  rw [e]
  unfold idOf at hi ⊢
  rw [List.find?_append, hi]
  simp
/-- Posted again. -/
theorem take_again {R : List PI} (h : TakeOk R) {k : Nat} {x : PI} (hx : R[k]? = some x) : postI (R.take (k + 1)) x = (0, R.take (k + 1)) := by
  have hk := (List.getElem?_eq_some_iff.1 hx).1
  rw [post_there (h.good x (List.mem_of_getElem? hx)).2.1 ((take_sm h k (by omega)).2 x hx).2, if_pos rfl]
/-! ### Turned -/
def turned (R : List PI) (b : Nat) : List PI := R.drop (b % R.length) ++ R.take (b % R.length)
theorem turned_len (R : List PI) (b : Nat) : (turned R b).length = R.length := by
  unfold turned
  rw [List.length_append, List.length_drop, List.length_take]
  rcases Nat.eq_zero_or_pos R.length with h | h
  · omega
  · have := Nat.mod_lt b h; omega
theorem turn_idx {N b t : Nat} (ht : t < N) : (t + b) % N = if t + b % N < N then t + b % N else t + b % N - N := by
  have hr := Nat.mod_lt b (by omega : 0 < N)
  rw [Nat.add_mod, Nat.mod_eq_of_lt ht]
  split
  · rename_i h; exact Nat.mod_eq_of_lt h
  · rename_i h
    rw [Nat.mod_eq_sub_mod (by omega), Nat.mod_eq_of_lt (by omega)]
theorem turned_at {R : List PI} {b t : Nat} (ht : t < R.length) : (turned R b)[t]? = R[(t + b) % R.length]? := by
  have hr := Nat.mod_lt b (by omega : 0 < R.length)
  rw [turn_idx ht]
  unfold turned
  split
  · rename_i h
    rw [List.getElem?_append_left (by rw [List.length_drop]; omega), List.getElem?_drop, Nat.add_comm]
  · rename_i h
    rw [List.getElem?_append_right (by rw [List.length_drop]; omega), List.length_drop, List.getElem?_take_of_lt (by omega)]
    congr 1
    omega
theorem turn_inj {N b i j : Nat} (hi : i < N) (hj : j < N) (h : (i + b) % N = (j + b) % N) : i = j := by
  rw [turn_idx hi, turn_idx hj] at h
  have hr := Nat.mod_lt b (by omega : 0 < N)
  split at h <;> split at h <;> omega
theorem turned_take {R : List PI} (h : TakeOk R) (b : Nat) : TakeOk (turned R b) := by
  have at_ : ∀ i x, (turned R b)[i]? = some x → i < R.length ∧ R[(i + b) % R.length]? = some x := fun i x hx => by
    have hi : i < R.length := by have := (List.getElem?_eq_some_iff.1 hx).1; rwa [turned_len] at this
    exact ⟨hi, by rw [← turned_at hi]; exact hx⟩
  refine ⟨by rw [turned_len]; exact h.len, fun x hx => ?_, fun i j x y hx hy hij => ?_⟩
  · obtain ⟨j, hj⟩ := List.mem_iff_getElem?.1 hx
    exact h.good x (List.mem_of_getElem? (at_ j x hj).2)
  · obtain ⟨hi, hx'⟩ := at_ i x hx
    obtain ⟨hj, hy'⟩ := at_ j y hy
    have hne : (i + b) % R.length ≠ (j + b) % R.length := fun e => by have := turn_inj hi hj e; omega
    rcases Nat.lt_or_gt_of_ne hne with h1 | h1
    · exact h.ids _ _ x y hx' hy' h1
    · exact (h.ids _ _ y x hy' hx' h1).symm
theorem turned_bal (R : List PI) (b : Nat) (a o : Int) : bal (pms (turned R b)) a o = bal (pms R) a o := by
  have e1 : pms (turned R b) = pms (R.drop (b % R.length)) ++ pms (R.take (b % R.length)) := by unfold turned pms; rw [List.map_append]
  have e2 : pms R = pms (R.take (b % R.length)) ++ pms (R.drop (b % R.length)) := by unfold pms; rw [← List.map_append, List.take_append_drop]
  rw [e1, e2, bal_app, bal_app]
  omega
end Go.Proofs.Ytffipjhpoaalhaa
