
/- A slice of slices of texts that came in, opened; Great. -/
import Derived.Test.YtjhhkfigdamaeaaDoorCsvMem
import Derived.Test.YtjhhkfigdamaeaaDoorCsvPrintC
import Derived.Deep.Slices
import Derived.SliceStrings
set_option linter.unusedVariables false
namespace Go.Proofs.YtjhhkfigdamaeaaDoor
open Go.ChangeShapes Go.WideShapes Go.ChangeAt Go.RowKit Csv Go.Deep

theorem cells_s : Tryd.prog.cellsOf tS = 1 := by kernel_rfl
theorem cells_r : Tryd.prog.cellsOf tR = 1 := by kernel_rfl

theorem open_row {H : Type} {enc : TypeId × Value → H} {w : World} {base : Nat} {held : Bool} {fuel : Nat} {v : Value} {x : DataW H × List MemPlace}
    (h : DataW.trod enc Tryd.prog w base (fun _ => true) held fuel tR [v] = some x) : ∃ r : List Bs, StrsAt w v r := by
  rcases open_strings Tryd.underlying33 Tryd.underlying9 cells_s h with ⟨hcs, _⟩ | ⟨a, len, cap, ss, hcs, _, hl, hm, hz, _, hcell, _⟩
  · simp only [List.cons.injEq, and_true] at hcs
    subst hcs
    exact ⟨[], StrsAt.nil w⟩
  · simp only [List.cons.injEq, and_true] at hcs
    subst hcs
    simp only [if_true] at hz
    refine ⟨(ss.take len).map (·.data.toList), some a, cap, ?_, ?_, fun j x hx => ⟨a, rfl, ?_⟩⟩
    · simp [hz]; omega
    · simp [hz]; omega
    · have hj : j < len := by
        have := (List.getElem?_eq_some_iff.1 hx).1
        simp at this; omega
      rw [hcell j (by omega)]
      rw [List.getElem?_map, List.getElem?_take, if_pos hj] at hx
      obtain ⟨s, hs, rfl⟩ := Option.map_eq_some_iff.1 hx
      simp [List.getD, hs, sv]

theorem list_of {α : Type} {p : Nat → α → Prop} : ∀ (n : Nat), (∀ j, j < n → ∃ x, p j x) → ∃ l : List α, l.length = n ∧ ∀ j x, l[j]? = some x → p j x
  | 0, _ => ⟨[], rfl, fun j x h => by simp at h⟩
  | n + 1, h => by
    obtain ⟨l, hl, hp⟩ := list_of n (fun j hj => h j (by omega))
    obtain ⟨x, hx⟩ := h n (by omega)
    refine ⟨l ++ [x], by simp [hl], fun j y hy => ?_⟩
    by_cases hj : j < n
    · rw [List.getElem?_append_left (by omega)] at hy
      exact hp j y hy
    · have hj2 : j = n := by
        have := (List.getElem?_eq_some_iff.1 hy).1
        simp at this; omega
      subst hj2
      rw [← hl] at hy
      simp at hy
      subst hy; exact hx

/-- Rows that came in, as the walk reads them. -/
theorem open_rows {H : Type} {enc : TypeId × Value → H} {w : World} {base : Nat} {held : Bool} {p : Option Addr} {n c : Nat} {v : Value} {d : DataW H} {ps : List MemPlace}
    (e : v = .slice p n c) (h : DataW.Trod enc Tryd.prog w base (fun _ => true) held 22 v d ps) : ∃ L : List (List Bs), RowsAt w v L := by
  obtain ⟨fuel, hf⟩ := h
  subst e
  rcases open_slice1 Tryd.underlying22 cells_r hf with ⟨hcs, _⟩ | ⟨a, len, cap, m, fu, V, D, Pl, hcs, hb, hl, hm, hmm, _, hx⟩
  · rw [(List.cons.inj hcs).1]
    exact ⟨[], RowsAt.nil w⟩
  · rw [(List.cons.inj hcs).1]
    simp only [if_true] at hmm
    obtain ⟨L, hL, hp⟩ := list_of (p := fun j r => w.cell? (a.add j) = some (V j) ∧ StrsAt w (V j) r) len (fun j hj => by
      obtain ⟨h1, h2⟩ := hx j (by omega)
      obtain ⟨r, hr⟩ := open_row h2
      exact ⟨r, h1, hr⟩)
    exact ⟨L, some a, cap, by rw [hL], by omega, fun j r hr => ⟨a, V j, rfl, (hp j r hr).1, (hp j r hr).2⟩⟩

/-- More than is gone through. -/
def rowG (r : List Bs) : Bool := decide (20 < r.length) || r.any fun f => decide (200 < f.length)
def greatG (L : List (List Bs)) : Bool := decide (40 < L.length) || L.any rowG
theorem any_take {α : Type} {l : List α} {k : Nat} {x : α} {g : α → Bool} (h : (l.take k).any g = false) (hx : l[k]? = some x) (hg : g x = false) : (l.take (k + 1)).any g = false := by
  rw [List.take_add_one, hx, List.any_append, h]; simp [hg]
theorem any_at {α : Type} {l : List α} {k : Nat} {x : α} {g : α → Bool} (hx : l[k]? = some x) (hg : g x = true) : l.any g = true :=
  List.any_eq_true.2 ⟨x, List.mem_of_getElem? hx, hg⟩

set_option maxHeartbeats 4000000 in
theorem great_any (v : Value) (L : List (List Bs)) (w : World) (hL : RowsAt w v L) :
    Calls Tryd.prog 8 #[v] w fun e w' => e = .returned (.bool (greatG L)) ∧ w = w' := by
  obtain ⟨pL, cL, rfl, lL, hL⟩ := hL
  have HL := Lib.hid hL
  clear hL
  unfold maxLen at lL
  by_cases h40 : 40 < L.length
  · have t : decide ((40 : Int) < (L.length : Int)) = true := decide_eq_true (by omega)
    have H := Lib.hid (show greatG L = true from by unfold greatG; rw [decide_eq_true h40]; rfl)
    clear h40
    go_enter Tryd.func8, Tryd.ntmps8
    go_wp2
    go_ret
    exact ⟨ret_bool H.out.symm, rfl⟩
  have t : decide ((40 : Int) < (L.length : Int)) = false := decide_eq_false (by omega)
  have HG := Lib.hid (show greatG L = L.any rowG from by unfold greatG; rw [decide_eq_false h40]; rfl)
  clear h40
  go_enter Tryd.func8, Tryd.ntmps8
  go_wp2
  go_loop [3] (fun i => ∃ k : Nat, k ≤ L.length ∧ i = .int .i64 k ∧ (L.take k).any rowG = false) (fun i => L.length - (intOf i).toNat)
  case atStart => exact ⟨0, by omega, rfl, rfl⟩
  case round =>
    obtain ⟨k, hk, rfl, hno⟩ := hrel
    have HN := Lib.hid hno
    clear hno
    by_cases hlt : k < L.length
    · obtain ⟨r, hr⟩ : ∃ r, L[k]? = some r := ⟨_, List.getElem?_eq_getElem hlt⟩
      obtain ⟨a, v', rfl, hca, hst⟩ := HL.out k r hr
      obtain ⟨pr, cr, rfl, lr, hst⟩ := hst
      have HR := Lib.hid hr
      have HS := Lib.hid hst
      have hi1 : (k : Int) < (L.length : Int) := by omega
      unfold maxLen at lr
      clear hr hst
      by_cases h20 : 20 < r.length
      · have t2 : decide ((20 : Int) < (r.length : Int)) = true := decide_eq_true (by omega)
        have H := Lib.hid (show greatG L = true from by rw [HG.out]; exact any_at HR.out (by unfold rowG; rw [decide_eq_true h20]; rfl))
        clear h20
        go_wp2
        go_ret
        exact ⟨ret_bool H.out.symm, rfl⟩
      have t2 : decide ((20 : Int) < (r.length : Int)) = false := decide_eq_false (by omega)
      have HRG := Lib.hid (show rowG r = r.any (fun f => decide (200 < f.length)) from by unfold rowG; rw [decide_eq_false h20]; rfl)
      clear h20
      go_wp2
      go_loop [4] (fun i => ∃ m : Nat, m ≤ r.length ∧ i = .int .i64 m ∧ (r.take m).any (fun f => decide (200 < f.length)) = false) (fun i => r.length - (intOf i).toNat)
      case atStart => exact ⟨0, by omega, rfl, rfl⟩
      case round =>
        obtain ⟨m, hm, rfl, hno2⟩ := hrel
        have HN2 := Lib.hid hno2
        clear hno2
        by_cases hlm : m < r.length
        · obtain ⟨x, hx⟩ : ∃ x, r[m]? = some x := ⟨_, List.getElem?_eq_getElem hlm⟩
          obtain ⟨a2, rfl, hcx⟩ := HS.out m x hx
          obtain ⟨X, hX⟩ : ∃ X : ByteArray, (⟨x.toArray⟩ : ByteArray) = X := ⟨_, rfl⟩
          have hXs : X.size = x.length := by rw [← hX, size_mk]
          have hcx' : w.cell? (a2.add m) = some (.string X) := by rw [← hX]; exact hcx
          have hj1 : (m : Int) < (r.length : Int) := by omega
          have HX := Lib.hid hx
          clear hx hcx hX
          by_cases h200 : 200 < x.length
          · have t3 : decide ((200 : Int) < (X.size : Int)) = true := decide_eq_true (by omega)
            have H := Lib.hid (show greatG L = true from by rw [HG.out]; exact any_at HR.out (by rw [HRG.out]; exact any_at HX.out (decide_eq_true h200)))
            clear h200 hXs
            go_wp2
            go_ret
            exact ⟨ret_bool H.out.symm, rfl⟩
          · have t3 : decide ((200 : Int) < (X.size : Int)) = false := decide_eq_false (by omega)
            have H200 := Lib.hid h200
            clear h200 hXs
            go_wp2
            go_round
            case rel => exact ⟨m + 1, by omega, by go_num, any_take HN2.out HX.out (decide_eq_false H200.out)⟩
            case measure => simp [intOf]; omega
        · obtain rfl : m = r.length := by omega
          have hz : ¬ ((r.length : Int) < (r.length : Int)) := by omega
          have HRF := Lib.hid (show rowG r = false from by rw [HRG.out]; have h := HN2.out; rwa [List.take_of_length_le (Nat.le_refl _)] at h)
          go_wp2
          go_round
          case rel => exact ⟨k + 1, by omega, by go_num, any_take HN.out HR.out HRF.out⟩
          case measure => simp [intOf]; omega
    · obtain rfl : k = L.length := by omega
      have hz : ¬ ((L.length : Int) < (L.length : Int)) := by omega
      have H := Lib.hid (show greatG L = false from by rw [HG.out]; have h := HN.out; rwa [List.take_of_length_le (Nat.le_refl _)] at h)
      go_wp2
      go_ret
      exact ⟨ret_bool H.out.symm, rfl⟩

theorem prJoin_small : ∀ r : List Bs, (∀ f ∈ r, f.length ≤ 200) → (prJoin r).length ≤ 403 * r.length
  | [], _ => by simp [prJoin]
  | [f], h => by have := prt_length f; have := h f (by simp); simp [prJoin]; omega
  | f :: g :: r, h => by
    have := prt_length f
    have := h f (by simp)
    have ih := prJoin_small (g :: r) (fun q hq => h q (by simp [hq]))
    simp only [prJoin, List.length_append, List.length_cons] at ih ⊢
    omega
theorem prRows_small : ∀ M : List (List Bs), (∀ r ∈ M, r.length ≤ 20 ∧ ∀ f ∈ r, f.length ≤ 200) → (prRows M).length ≤ 8061 * M.length
  | [], _ => by simp [prRows]
  | r :: M, h => by
    have h4 := h r (by simp)
    have h5 := prJoin_small r h4.2
    have ih := prRows_small M (fun q hq => h q (by simp [hq]))
    have e : prRows (r :: M) = prRow r ++ prRows M := rfl
    rw [e]; simp only [List.length_append, prRow, List.length_cons, List.length_nil]; omega

/-- What is gone through can be printed. -/
theorem small_fits {L : List (List Bs)} (h : greatG L = false) : Fits L := by
  unfold greatG at h
  simp only [Bool.or_eq_false_iff, decide_eq_false_iff_not] at h
  obtain ⟨h1, h2⟩ := h
  have hrow : ∀ r ∈ L, r.length ≤ 20 ∧ ∀ f ∈ r, f.length ≤ 200 := by
    intro r hr
    have h3 := List.any_eq_false.1 h2 r hr
    unfold rowG at h3
    simp only [Bool.or_eq_true, decide_eq_true_eq, not_or] at h3
    refine ⟨by omega, fun f hf => ?_⟩
    by_cases hg : 200 < f.length
    · exact absurd (List.any_eq_true.2 ⟨f, hf, decide_eq_true hg⟩) h3.2
    · omega
  exact ⟨fun r hr f hf => by have := (hrow r hr).2 f hf; omega, by have := prRows_small L hrow; omega⟩
end Go.Proofs.YtjhhkfigdamaeaaDoor
