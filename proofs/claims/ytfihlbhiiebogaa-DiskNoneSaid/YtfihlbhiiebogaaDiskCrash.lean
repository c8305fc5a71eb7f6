
/- The law DiskCrash. -/
import Derived.Test.YtfihlbhiiebogaaDiskOwn
import Derived.Outline
set_option linter.unusedVariables false
namespace Go.Proofs.Ytfihlbhiiebogaa
open Go.ChangeShapes Go.WideShapes Go.ChangeAt Go.RowKit Go.Maps Csv Dk

set_option maxHeartbeats 1000000 in
theorem ints_same (v1 v2 : Value) (A : List Int) (w : World) (h1 : IntsAt w v1 A) (h2 : IntsAt w v2 A) :
    Calls Try.prog 13 #[v1, v2] w fun e w' => e = .returned (.bool true) ∧ Keeps w w' := by
  obtain ⟨p1, c1, rfl, lA, hA⟩ := h1
  obtain ⟨p2, c2, rfl, _, hB⟩ := h2
  obtain ⟨N, hN⟩ : ∃ N, A.length = N := ⟨_, rfl⟩
  have HA := Lib.hid hA
  have HB := Lib.hid hB
  have HN := Lib.hid hN
  rw [hN] at lA ⊢
  unfold maxLen at lA
  clear hA hB hN
  go_enter Try.func13, Try.ntmps13
  go_wp2
  go_loopw [5] (fun i wr => ∃ k : Nat, k ≤ N ∧ i = .int .i64 (k : Int) ∧ Keeps w wr) (fun i _ => N - (intOf i).toNat)
  case atStart => exact ⟨0, by omega, rfl, Keeps.refl _⟩
  case round =>
    obtain ⟨k, hk, rfl, hkw⟩ := hrel
    have HK := Lib.hid hkw
    by_cases hlt : k < N
    · obtain ⟨x, hx⟩ : ∃ x, A[k]? = some x := ⟨_, List.getElem?_eq_getElem (by have := HN.out; omega)⟩
      obtain ⟨a1, rfl, q1⟩ := HA.out k x hx
      obtain ⟨a2, rfl, q2⟩ := HB.out k x hx
      have q1' := cell_keeps hkw q1
      have q2' := cell_keeps hkw q2
      have hi1 : (k : Int) < (N : Int) := by omega
      clear hx q1 q2 hkw
      go_wp2
      go_quiet (fail)
      go_wp2
      go_roundw
      case rel => exact ⟨k + 1, by omega, by go_num, Keeps.trans HK.out (keeps_drewN _ _)⟩
      case measure => simp [intOf]; omega
    · obtain rfl : k = N := by omega
      have hz : ¬ ((k : Int) < (k : Int)) := by omega
      clear hkw
      go_wp2
      go_ret
      exact ⟨rfl, HK.out⟩

/-! ### A disk with one file -/
def oneF (cap : Nat) (n : Int) (data : Bs) (s : Nat) (up : Bool) (st : Int) (f : Option (Nat × List Int)) : DiskM := ⟨cap, [⟨n, data, s⟩], up, st, f⟩
theorem one_find (n : Int) (data : Bs) (s : Nat) : findF [⟨n, data, s⟩] n = some ⟨n, data, s⟩ := by simp [findF]
theorem one_append {cap : Nat} {n : Int} {data t : Bs} {s : Nat} {st : Int} (h : data.length + t.length ≤ cap) : appendD (oneF cap n data s true st none) n t = (0, oneF cap n (data ++ t) s true st none) := by
  have h2 : ¬ ((oneF cap n data s true st none).free < t.length) := by unfold oneF DiskM.free used; simp; omega
  unfold appendD
  rw [withF_some (f := ⟨n, data, s⟩) rfl (one_find n data s), if_neg h2]
  simp [oneF, DiskM.put, setF, DiskM.count]
theorem one_sync {cap : Nat} {n : Int} {data : Bs} {s : Nat} {st : Int} : syncD (oneF cap n data s true st none) n = (0, oneF cap n data data.length true st none) := by
  unfold syncD
  rw [withF_some (f := ⟨n, data, s⟩) rfl (one_find n data s)]
  simp [oneF, DiskM.put, setF, DiskM.count, DiskM.then]
theorem one_down {cap : Nat} {n : Int} {data W : Bs} {s : Nat} {st : Int} {f : Option (Nat × List Int)} {ks : List Int} (h : data.take (s + stays ks[0]? (data.length - s)) = W) : (oneF cap n data s true st f).down ks = oneF cap n W W.length false st none := by
  unfold DiskM.down oneF downL downL FileM.left FileM.loose
  simp only [h]
theorem one_crash {cap : Nat} {n : Int} {data W : Bs} {s : Nat} {st : Int} {f : Option (Nat × List Int)} {ks : List Int} (h : data.take (s + stays ks[0]? (data.length - s)) = W) : crashD (oneF cap n data s true st f) ks = (0, oneF cap n W W.length false st none) := by
  rw [← one_down h]
  unfold crashD
  rw [if_neg (by simp [oneF])]
theorem one_read {cap : Nat} {n : Int} {data : Bs} {s : Nat} {st : Int} {f : Option (Nat × List Int)} {k : Int} (h : k = data.length) : readD (oneF cap n data s true st f) n 0 k = (data, 0) := by
  subst h
  rw [read_few (f := ⟨n, data, s⟩) rfl (one_find n data s), if_neg (by simp)]
  simp
theorem one_size {cap : Nat} {n : Int} {data : Bs} {s : Nat} {st : Int} {f : Option (Nat × List Int)} {k : Int} (h : k = data.length) : sizeD (oneF cap n data s true st f) n = (k, 0) := by
  subst h
  unfold sizeD
  rw [if_neg (by simp [oneF])]
  simp only [oneF, one_find]
theorem one_loose {cap : Nat} {n : Int} {data : Bs} {s : Nat} {up : Bool} {st : Int} {f : Option (Nat × List Int)} {k : Int} (h : k = ((data.length - s : Nat) : Int)) : looseL (oneF cap n data s up st f) = [k] := by
  subst h; rfl

set_option maxRecDepth 100000 in
set_option maxHeartbeats 4000000 in
theorem diskCrash_go (sure loose : ByteArray) (keep : Int) (w : World) (hs : sure.size ≤ maxLen) (hl : loose.size ≤ maxLen) (hk : I64 keep) :
    Calls Try.prog 5 #[.string sure, .string loose, .int .i64 keep] w fun e w' => e = .returned (.bool true) ∧ Keeps w w' := by
  unfold maxLen at hs hl
  have hk' := hk.nat
  by_cases hb1 : 1000 < sure.size
  · have t1 : decide ((1000 : Int) < (sure.size : Int)) = true := decide_eq_true (by omega)
    clear hb1
    go_enter Try.func5, Try.ntmps5
    go_wp2_with (go_at_call 8; refine (filed_any _).mono ?_; rintro e w' ⟨rfl, hk1⟩)
    go_ret
    exact ⟨rfl, hk1⟩
  have t1 : decide ((1000 : Int) < (sure.size : Int)) = false := decide_eq_false (by omega)
  by_cases hb2 : 1000 < loose.size
  · have t2 : decide ((1000 : Int) < (loose.size : Int)) = true := decide_eq_true (by omega)
    clear hb2
    go_enter Try.func5, Try.ntmps5
    go_wp2_with (go_at_call 8; refine (filed_any _).mono ?_; rintro e w' ⟨rfl, hk1⟩)
    go_ret
    exact ⟨rfl, hk1⟩
  have t2 : decide ((1000 : Int) < (loose.size : Int)) = false := decide_eq_false (by omega)
  have hs1 : sure.size ≤ 1000 := by omega
  have hl1 : loose.size ≤ 1000 := by omega
  have HS : Hid (sure.size ≤ maxLen) := Lib.hid (by unfold maxLen; omega)
  have HL : Hid (loose.size ≤ maxLen) := Lib.hid (by unfold maxLen; omega)
  have LI := Lib.hid i64_lit
  have HK := Lib.hid hk
  have hls : sure.data.toList.length = sure.size := len_data sure
  have hll : loose.data.toList.length = loose.size := len_data loose
  obtain ⟨K, hK⟩ : ∃ K : Nat, max keep 0 = (K : Int) := ⟨(max keep 0).toNat, by omega⟩
  obtain ⟨k, hk2⟩ : ∃ k : Nat, min (K : Int) (loose.size : Int) = (k : Int) := ⟨min K loose.size, by omega⟩
  have hkl : k ≤ loose.size := by omega
  obtain ⟨X, hX⟩ : ∃ X, loose.extract 0 k = X := ⟨_, rfl⟩
  obtain ⟨W, hW⟩ : ∃ W, sure ++ X = W := ⟨_, rfl⟩
  have hXd : X.data.toList = loose.data.toList.take k := by rw [← hX, ← ByteArray.toList_eq, extract_list]; simp
  have hWd : W.data.toList = sure.data.toList ++ loose.data.toList.take k := by rw [← hW, ← hXd]; simp
  have hWs : W.size = sure.size + k := by rw [← len_data, hWd]; simp; omega
  have hXs : X.size = k := by rw [← len_data, hXd]; simp; omega
  have hst : stays (some keep) loose.size = k := by unfold stays; simp only [Option.getD_some]; omega
  have HWD := Lib.hid hWd
  have HWS := Lib.hid hWs
  have HST := Lib.hid hst
  have HLS := Lib.hid hls
  have HLL := Lib.hid hll
  have hX1000 : ¬ (9223372036854775807 < sure.size + X.size) := by omega
  have hW2 : W.size ≤ 2000 := by omega
  clear hs hl hk hb1 hb2 hls hll hXd hWd hWs hXs hst hk'
  go_enter Try.func5, Try.ntmps5
  go_wp2_with fail
  refine (new_own 3000 w w (Keeps.refl _) (by omega)).mono ?_
  rintro e w0 ⟨d, rfl, h0⟩
  have H0 := Lib.hid h0
  clear h0
  unfold ptrV
  go_wp2_with fail
  refine (create_own H0.out (LI.out 7 (by omega) (by omega)) (r := 0) (D' := oneF 3000 7 [] 0 true 0 none) (by rfl)).mono ?_
  rintro e w1 ⟨rfl, h1⟩
  have H1 := Lib.hid h1
  clear h1 H0
  go_wp2_with fail
  refine (append_own H1.out (LI.out 7 (by omega) (by omega)) HS.out (one_append (by rw [HLS.out]; simp; omega))).mono ?_
  rintro e w2 ⟨rfl, h2⟩
  have H2 := Lib.hid h2
  clear h2 H1
  go_wp2_with fail
  refine (sync_own H2.out (LI.out 7 (by omega) (by omega)) one_sync).mono ?_
  rintro e w3 ⟨rfl, h3⟩
  have H3 := Lib.hid h3
  clear h3 H2
  go_wp2_with fail
  refine (append_own H3.out (LI.out 7 (by omega) (by omega)) HL.out (one_append (by rw [HLL.out, List.nil_append, HLS.out]; omega))).mono ?_
  rintro e w4 ⟨rfl, h4⟩
  have H4 := Lib.hid h4
  clear h4 H3
  go_wp2_with fail
  refine (loose_own H4.out).mono ?_
  rintro e w5 ⟨v, rfl, hrow, hk5, h5⟩
  obtain ⟨p5, c5, rfl⟩ := own_shape hrow
  have hI := own_ints (r := [(loose.size : Int)]) (by
    have e := one_loose (cap := 3000) (n := 7) (data := [] ++ sure.data.toList ++ loose.data.toList) (s := ([] ++ sure.data.toList).length) (up := true) (st := 0) (f := none) (k := (loose.size : Int)) (by simp)
    rw [e] at hrow; exact hrow)
  have HI := Lib.hid hI
  have H5 := Lib.hid h5
  clear h5 H4 hI hrow hk5
  go_wp2_with fail
  refine (ints_same _ _ [(loose.size : Int)] _ (HI.out.keeps (keeps_lit _ _)) (lit_one _ _)).mono ?_
  rintro e w6 ⟨rfl, hk6⟩
  have H6 := Lib.hid ((H5.out.keeps (keeps_lit _ _)).keeps hk6)
  clear hk6 H5 HI
  go_wp2
  go_loopw [10] (fun vi wr => ∃ (t s : Nat) (data : Bs), t ≤ 2 ∧ vi = .int .i64 (t : Int) ∧ Own w d (oneF 3000 7 data s true (t : Int) none) wr ∧ data.take (s + stays (some keep) (data.length - s)) = W.data.toList) (fun vi _ => 2 - (intOf vi).toNat)
  case atStart =>
    refine ⟨0, _, _, by omega, rfl, H6.out, ?_⟩
    have e : ([] ++ sure.data.toList ++ loose.data.toList).length - ([] ++ sure.data.toList).length = loose.size := by simp
    rw [e, HST.out, HWD.out]
    simp only [List.nil_append]
    rw [List.take_append, List.take_of_length_le (by omega)]
    congr 2
    omega
  case round =>
    obtain ⟨t, s, data, ht, rfl, hown, hdata⟩ := hrel
    have HO := Lib.hid hown
    have HD := Lib.hid hdata
    clear hown hdata H6
    by_cases hlt : t < 2
    · have hi : (t : Int) < 2 := by omega
      go_wp2_with fail
      refine (crash_one HO.out keep (one_crash (W := W.data.toList) (by simpa using HD.out))).mono ?_
      rintro e v1 ⟨rfl, g1⟩
      have G1 := Lib.hid g1
      clear g1 HO HD
      go_wp2_with fail
      refine (up_own G1.out (t := false) (by rfl)).mono ?_
      rintro e v' ⟨rfl, rfl⟩
      go_wp2_with fail
      refine (crash_nil G1.out (r := 61) (D' := _) (by rfl)).mono ?_
      rintro e v2 ⟨rfl, g2⟩
      have G2 := Lib.hid g2
      clear g2 G1
      go_wp2_with fail
      refine (append_own G2.out (LI.out 7 (by omega) (by omega)) (by unfold maxLen; decide) (r := 61) (withF_down rfl)).mono ?_
      rintro e v3 ⟨rfl, g3⟩
      have G3 := Lib.hid g3
      clear g3 G2
      go_wp2_with fail
      refine (start_own G3.out (LI.out t (by omega) (by omega)) (start_down rfl (t : Int) rfl (by omega) (by omega))).mono ?_
      rintro e v4 ⟨rfl, g4⟩
      have G4 : Hid (Own w d (oneF 3000 7 W.data.toList W.data.toList.length true ((t : Int) + 1) none) v4) := Lib.hid g4
      clear g4 G3
      go_wp2_with fail
      refine (read_text G4.out (LI.out 7 (by omega) (by omega)) (LI.out 0 (by omega) (by omega)) (LI.out _ (by omega) (by omega)) (t := W) (one_read (by rw [len_data]))).mono ?_
      rintro e v' ⟨rfl, rfl⟩
      go_wp2_with fail
      refine (size_own G4.out (LI.out 7 (by omega) (by omega)) (one_size (k := (W.size : Int)) (by rw [len_data]))).mono ?_
      rintro e v' ⟨rfl, rfl⟩
      go_wp2_with fail
      refine (loose_own G4.out).mono ?_
      rintro e v5 ⟨v, rfl, hrow, hk5, g5⟩
      obtain ⟨p6, c6, rfl⟩ := own_shape hrow
      have hI := own_ints (r := [(0 : Int)]) (by
        have e := one_loose (cap := 3000) (n := 7) (data := W.data.toList) (s := W.data.toList.length) (up := true) (st := (t : Int) + 1) (f := none) (k := (0 : Int)) (by simp)
        rw [e] at hrow; exact hrow)
      have HI := Lib.hid hI
      have G5 := Lib.hid g5
      clear g5 G4 hI hrow hk5
      go_wp2_with fail
      refine (ints_same _ _ [(0 : Int)] _ (HI.out.keeps (keeps_lit _ _)) (lit_one _ _)).mono ?_
      rintro e v6 ⟨rfl, hk6⟩
      have G6 := Lib.hid ((G5.out.keeps (keeps_lit _ _)).keeps hk6)
      clear hk6 G5 HI
      go_wp2
      go_roundw
      case rel => exact ⟨t + 1, _, _, by omega, by go_num, G6.out, List.take_of_length_le (Nat.le_add_right _ _)⟩
      case measure => simp [intOf]; omega
    · have hz : ¬ ((t : Int) < 2) := by omega
      go_wp2_with (go_at_call 8; refine (filed_any _).mono ?_; rintro e w' ⟨rfl, hk1⟩)
      go_ret
      exact ⟨rfl, Keeps.trans HO.out.kept hk1⟩
theorem diskCrash_law (sure loose : ByteArray) (keep : Int) (w : World) (hs : sure.size ≤ maxLen) (hl : loose.size ≤ maxLen) (hk : (Lit.int .i64 keep).wf = true) :
    Calls Try.prog 5 #[.string sure, .string loose, .int .i64 keep] w fun e w' => e = .returned (.bool true) ∧ Below w.heap.size w w' :=
  diskCrash_go sure loose keep w hs hl (i64_of hk)
end Go.Proofs.Ytfihlbhiiebogaa
