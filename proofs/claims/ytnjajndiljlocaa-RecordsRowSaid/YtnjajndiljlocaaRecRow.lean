
/- The contract of Row: records, one behind the other. -/
import Derived.Test.YtnjajndiljlocaaRecTell
set_option linter.unusedVariables false
namespace Go.Proofs.Ytnjajndiljlocaa
open Go.ChangeShapes Go.WideShapes Go.ChangeAt Go.RowKit Bit Crc Rc Csv

abbrev tInt : TypeId := 3
def okRow (P : List (List UInt8)) : Bool := decide (P.length ≤ 20) && P.all fun p => decide (p.length ≤ 500)
theorem okRow_len {P : List (List UInt8)} (h : okRow P = true) : P.length ≤ 20 ∧ ∀ p ∈ P, p.length ≤ 500 := by
  unfold okRow at h
  rw [Bool.and_eq_true] at h
  exact ⟨of_decide_eq_true h.1, fun p hp => of_decide_eq_true (List.all_eq_true.1 h.2 p hp)⟩
theorem okRow_yes {P : List (List UInt8)} (h1 : P.length ≤ 20) (h2 : ∀ p ∈ P, p.length ≤ 500) : okRow P = true := by
  unfold okRow
  rw [decide_eq_true h1, Bool.true_and]
  exact List.all_eq_true.2 fun p hp => decide_eq_true (h2 p hp)
theorem okRow_many {P : List (List UInt8)} (h : 20 < P.length) : okRow P = false := by unfold okRow; rw [decide_eq_false (by omega)]; rfl
theorem okRow_long {P : List (List UInt8)} {p : List UInt8} (hp : p ∈ P) (h : 500 < p.length) : okRow P = false := by
  cases hb : okRow P with
  | false => rfl
  | true => have := (okRow_len hb).2 p hp; omega
/-- Where each record of a row ends. -/
def endsI (P : List (List UInt8)) (k : Nat) : List Int := (List.range (k + 1)).map fun j => ((rowL (P.take j)).length : Int)
theorem endsI_len (P : List (List UInt8)) (k : Nat) : (endsI P k).length = k + 1 := by simp [endsI]
theorem endsI_snoc (P : List (List UInt8)) (k : Nat) : endsI P (k + 1) = endsI P k ++ [((rowL (P.take (k + 1))).length : Int)] := by
  unfold endsI; rw [List.range_succ, List.map_append]; rfl
theorem endsI_at (P : List (List UInt8)) (k j : Nat) (h : j ≤ k) : (endsI P k)[j]? = some ((rowL (P.take j)).length : Int) := by
  unfold endsI; rw [List.getElem?_map, List.getElem?_range (by omega)]; rfl
theorem rowL_le (P : List (List UInt8)) (h : ∀ p ∈ P, p.length ≤ 500) : (rowL P).length ≤ P.length * 508 := by
  induction P with
  | nil => simp [rowL]
  | cons p P ih =>
    have h1 := h p (by simp)
    have h2 := ih fun q hq => h q (by simp [hq])
    rw [rowL, List.length_append, recL_len, List.length_cons]
    omega
theorem rowL_mono (P : List (List UInt8)) (j k : Nat) (h : j ≤ k) : (rowL (P.take j)).length ≤ (rowL (P.take k)).length := by
  have e : P.take k = P.take j ++ (P.take k).drop j := by
    conv => lhs; rw [← List.take_append_drop j (P.take k)]
    rw [List.take_take, Nat.min_eq_left h]
  rw [e, rowL_append, List.length_append]
  omega
def rowB (P : List (List UInt8)) : ByteArray := ⟨(rowL P).toArray⟩
/-- What Row tells. -/
def RowOut (P : List (List UInt8)) (w : World) (e : Ending) (w' : World) : Prop :=
  (okRow P = true ∧ ∃ v, e = .returned (.tuple #[.string (rowB P), v, .bool true]) ∧ w'.ownsRow w.heap.size tInt 1 v (P.length + 1) (ivs (endsI P P.length)) ∧ Keeps w w') ∨
  (okRow P = false ∧ e = .returned (.tuple #[.string ⟨#[]⟩, .slice none 0 0, .bool false]) ∧ Keeps w w')
theorem info_I : (Try.prog.info? tInt).map (fun i => (i.zero, i.size, i.bytes)) = some (some (.int .i64 0), 1, 8) := by kernel_rfl
theorem own_zero1 (w : World) : (w.alloc (.cells #[.int .i64 0] tInt)).ownsRow w.heap.size tInt 1 (.slice (some ⟨w.heap.size, 0, none⟩) 1 1) 1 [.int .i64 0] :=
  ⟨rfl, Or.inr ⟨w.heap.size, 1, #[.int .i64 0], rfl, Nat.le_refl _, World.alloc_heap_new w _, Nat.le_refl _, by unfold maxLen; omega, rfl, rfl⟩⟩

set_option maxRecDepth 100000 in
set_option maxHeartbeats 8000000 in
theorem row_any (v : Value) (P : List (List UInt8)) (w : World) (h : StrsAt w v P) :
    Calls Try.prog 13 #[v] w (RowOut P w) := by
  obtain ⟨iI, hII, hI0, hI1, hI2⟩ := info_parts info_I
  have HII := Lib.hid hII
  have HZ := Lib.hid (And.intro hI0 (And.intro hI1 hI2))
  clear hII hI0 hI1 hI2
  obtain ⟨pv, cv, rfl, lP, hP⟩ := h
  obtain ⟨n, hn⟩ : ∃ n, P.length = n := ⟨_, rfl⟩
  have HP := Lib.hid hP
  have HN := Lib.hid hn
  rw [hn] at lP ⊢
  unfold maxLen at lP
  clear hP hn
  by_cases h20 : 20 < n
  · have t1 : decide ((20 : Int) < (n : Int)) = true := decide_eq_true (by omega)
    have HO := Lib.hid (okRow_many (P := P) (by rw [HN.out]; exact h20))
    clear h20
    go_enter Try.func13, Try.ntmps13
    go_wp2
    go_ret3
    exact Or.inr ⟨HO.out, rfl, Keeps.refl _⟩
  have t1 : decide ((20 : Int) < (n : Int)) = false := decide_eq_false (by omega)
  have hn20 : n ≤ 20 := by omega
  clear h20
  go_enter Try.func13, Try.ntmps13
  go_wp2
  go_loopw [5, 6, 7] (fun vs va vi wr => ∃ (k : Nat) (S : ByteArray), k ≤ n ∧ vi = .int .i64 (k : Int) ∧ vs = .string S ∧ S.data.toList = rowL (P.take k) ∧ S.size ≤ k * 508 ∧ (∀ p ∈ P.take k, p.length ≤ 500) ∧ wr.ownsRow w.heap.size tInt 1 va (k + 1) (ivs (endsI P k)) ∧ Keeps w wr) (fun _ _ vi _ => n - (intOf vi).toNat)
  case atStart =>
    refine ⟨0, ⟨#[]⟩, by omega, rfl, rfl, rfl, by decide, fun p hp => by simp at hp, ?_, (Below.refl _ _).alloc (Nat.le_refl _) _⟩
    exact own_zero1 w
  case round =>
    obtain ⟨k, S, hk, rfl, rfl, hSd, hSs, hall, hown, hkw⟩ := hrel
    have HSD := Lib.hid hSd
    have HALL := Lib.hid hall
    have HOW := Lib.hid hown
    have HK := Lib.hid hkw
    by_cases hlt : k < n
    · obtain ⟨p, hp⟩ : ∃ p, P[k]? = some p := ⟨_, List.getElem?_eq_getElem (by have := HN.out; omega)⟩
      obtain ⟨a, rfl, hc⟩ := HP.out k p hp
      have hc1 := cell_keeps hkw hc
      obtain ⟨X, hX⟩ : ∃ X : ByteArray, (⟨p.toArray⟩ : ByteArray) = X := ⟨_, rfl⟩
      have hsv : sv p = .string X := by rw [← hX]
      rw [hsv] at hc1
      have hXd : X.data.toList = p := by rw [← hX]
      have hXs : X.size = p.length := by rw [← hXd, len_data]
      have hi1 : (k : Int) < (n : Int) := by omega
      have HMEM := Lib.hid (List.mem_of_getElem? hp)
      have HXS := Lib.hid hXs
      by_cases h5 : 500 < X.size
      · have t2 : decide ((500 : Int) < (X.size : Int)) = true := decide_eq_true (by omega)
        have HO := Lib.hid (okRow_long HMEM.out (by have := HXS.out; omega))
        clear hSd hall hown hkw hc hp hX hsv hXd hXs h5
        go_wp2
        go_ret3
        exact Or.inr ⟨HO.out, rfl, HK.out⟩
      · have t2 : decide ((500 : Int) < (X.size : Int)) = false := decide_eq_false (by omega)
        have hR := recB_size X
        have hRd := recB_data X
        have C1 := Lib.hid fun (W : World) => rrecPut_any X W (by omega)
        obtain ⟨R, hRe⟩ : ∃ R, recB X = R := ⟨_, rfl⟩
        rw [hRe] at C1 hR hRd
        rw [hXd] at hRd
        obtain ⟨S2, hS2⟩ : ∃ S2, S ++ R = S2 := ⟨_, rfl⟩
        have et : P.take (k + 1) = P.take k ++ [p] := by rw [List.take_add_one, hp]; rfl
        have hS2d : S2.data.toList = rowL (P.take (k + 1)) := by rw [← hS2, et, rowL_snoc, ← HSD.out, ← hRd]; simp
        have hS2s : S2.size = S.size + R.size := by rw [← hS2]; exact ByteArray.size_append
        have HS2D := Lib.hid hS2d
        have HALL2 := Lib.hid (show ∀ q ∈ P.take (k + 1), q.length ≤ 500 from fun q hq => by
          rw [et, List.mem_append] at hq
          rcases hq with hq | hq
          · exact HALL.out q hq
          · rw [List.mem_singleton.1 hq]; have := HXS.out; omega)
        have HENDS := Lib.hid (show ivs (endsI P k) ++ [.int .i64 (S2.size : Int)] = ivs (endsI P (k + 1)) from by
          rw [endsI_snoc, ← hS2d, len_data]; simp [ivs])
        have hS2b : S2.size ≤ (k + 1) * 508 := by omega
        have hcat : ¬ (9223372036854775807 < S.size + R.size) := by omega
        have hS2i : (S2.size : Int) ≤ 20000 := by omega
        clear hSd hall hown hkw hc hp hX hsv hXd hXs h5 hR hRd hRe et hS2d hS2s
        go_wp2_with (first
          | (go_at_call 11; refine (C1.out _).mono ?_; rintro e w1 ⟨rfl, k1⟩; have K1 := Lib.hid k1; have HOW1 := Lib.hid (own_keeps HOW.out k1); have hz1 := k1.size; clear k1)
          | (at_builtin; refine wpList_append_own_at _ rfl _ _ 29 rfl w.heap.size tInt iI (.int .i64 0) 1 8 Try.underlying29 HII.out HZ.out.1 HZ.out.2.1 HZ.out.2.2 rfl (by decide) _ _ _ rfl (HOW1.out.alloc _) ⟨w1.heap.size, 0, none⟩ 1 1 [.int .i64 (S2.size : Int)] rfl rfl ?c1 ?c2 ?c3 ?c4 ?c5 ?_))
        case c1 => exact cell_one_new _ _ _
        case c2 => simp [Value.oneCell']
        case c3 => unfold maxLen; omega
        case c4 => omega
        case c5 => have := HK.out.size; simp; omega
        intro vr' w4 hown4 hgrow hnil hat
        have hb2 : Below w.heap.size w w1 := HK.out.trans K1.out
        have HK4 := Lib.hid (Below.grown (hb2.alloc hb2.size (.cells #[.int .i64 (S2.size : Int)] tInt)) hgrow (by have := hb2.size; simp; omega) (fun q hq => by have := (HOW.out.lt q hq).1; omega))
        rw [HENDS.out] at hown4
        have HO4 := Lib.hid hown4
        clear hown4 hgrow hnil hat hb2
        go_wp2
        go_roundw
        case rel => exact ⟨k + 1, S2, by omega, by go_num, rfl, HS2D.out, hS2b, HALL2.out, HO4.out, HK4.out⟩
        case measure => simp [intOf]; omega
    · obtain rfl : k = n := by omega
      have hz : ¬ ((k : Int) < (k : Int)) := by omega
      have HT := Lib.hid (show P.take k = P from List.take_of_length_le (by rw [HN.out]; exact Nat.le_refl _))
      clear hSd hall hown hkw
      go_wp2
      go_ret3
      refine Or.inl ⟨okRow_yes (by rw [HN.out]; exact hn20) (by have := HALL.out; rwa [HT.out] at this), _, ?_, by rw [HN.out]; exact HOW.out, HK.out⟩
      have := HSD.out
      rw [HT.out] at this
      rw [rowB, ← this, mk_data]
      rfl
end Go.Proofs.Ytnjajndiljlocaa
