
/- The law DiskFails. -/
import Derived.Test.YtfihlbhiiebogaaDiskCrash
set_option linter.unusedVariables false
namespace Go.Proofs.Ytfihlbhiiebogaa
open Go.ChangeShapes Go.WideShapes Go.ChangeAt Go.RowKit Go.Maps Csv Dk

theorem onef_append {cap : Nat} {n : Int} {data t : Bs} {s a : Nat} {st : Int} {ks : List Int} (h : data.length + t.length ≤ cap) : appendD (oneF cap n data s true st (some (a + 1, ks))) n t = (0, oneF cap n (data ++ t) s true st (some (a, ks))) := by
  have h2 : ¬ ((oneF cap n data s true st (some (a + 1, ks))).free < t.length) := by unfold oneF DiskM.free used; simp; omega
  unfold appendD
  rw [withF_some (f := ⟨n, data, s⟩) rfl (one_find n data s), if_neg h2]
  simp [oneF, DiskM.put, setF, DiskM.count]
theorem onef_append0 {cap : Nat} {n : Int} {data t W : Bs} {s : Nat} {st : Int} {ks : List Int} (h : data.length + t.length ≤ cap) (hW : (data ++ t).take (s + stays ks[0]? ((data ++ t).length - s)) = W) : appendD (oneF cap n data s true st (some (0, ks))) n t = (61, oneF cap n W W.length false st none) := by
  have h2 : ¬ ((oneF cap n data s true st (some (0, ks))).free < t.length) := by unfold oneF DiskM.free used; simp; omega
  unfold appendD
  rw [withF_some (f := ⟨n, data, s⟩) rfl (one_find n data s), if_neg h2]
  have e : (oneF cap n data s true st (some (0, ks))).put (setF (oneF cap n data s true st (some (0, ks))).files n fun f => ⟨f.n, f.data ++ t, f.sure⟩) = oneF cap n (data ++ t) s true st (some (0, ks)) := by simp [oneF, DiskM.put, setF]
  rw [e]
  unfold DiskM.count
  simp only [show (oneF cap n (data ++ t) s true st (some (0, ks))).fail = some (0, ks) from rfl]
  rw [one_down hW]
theorem onef_sync {cap : Nat} {n : Int} {data : Bs} {s a : Nat} {st : Int} {ks : List Int} : syncD (oneF cap n data s true st (some (a + 1, ks))) n = (0, oneF cap n data data.length true st (some (a, ks))) := by
  unfold syncD
  rw [withF_some (f := ⟨n, data, s⟩) rfl (one_find n data s)]
  simp [oneF, DiskM.put, setF, DiskM.count, DiskM.then]
theorem onef_then {cap : Nat} {n : Int} {data W : Bs} {s : Nat} {st : Int} {ks : List Int} (hW : data.take (s + stays ks[0]? (data.length - s)) = W) (g : List FileM → List FileM) : (oneF cap n data s true st (some (0, ks))).then g = (61, oneF cap n W W.length false st none) := by
  have hc : (oneF cap n data s true st (some (0, ks))).count = (61, oneF cap n W W.length false st none) := by
    unfold DiskM.count
    simp only [show (oneF cap n data s true st (some (0, ks))).fail = some (0, ks) from rfl]
    rw [one_down hW]
  unfold DiskM.then
  rw [hc]
  rfl
theorem onef_create {cap : Nat} {n n' : Int} {data W : Bs} {s : Nat} {st : Int} {ks : List Int} (hW : data.take (s + stays ks[0]? (data.length - s)) = W) (h0 : 0 ≤ n') (hne : n ≠ n') : createD (oneF cap n data s true st (some (0, ks))) n' = (61, oneF cap n W W.length false st none) := by
  have hf : findF (oneF cap n data s true st (some (0, ks))).files n' = none := by simp [oneF, findF, hne]
  unfold createD
  rw [if_neg (by simp [oneF]), if_neg (by omega), if_neg (by rw [hf]; decide), if_neg (by simp [oneF]), onef_then hW]
theorem onef_delete {cap : Nat} {n : Int} {data W : Bs} {s : Nat} {st : Int} {ks : List Int} (hW : data.take (s + stays ks[0]? (data.length - s)) = W) : deleteD (oneF cap n data s true st (some (0, ks))) n = (61, oneF cap n W W.length false st none) := by
  unfold deleteD
  rw [withF_some (f := ⟨n, data, s⟩) rfl (one_find n data s), onef_then hW]
theorem onef_trunc {cap : Nat} {n size : Int} {data W : Bs} {s : Nat} {st : Int} {ks : List Int} (hW : data.take (s + stays ks[0]? (data.length - s)) = W) (h0 : 0 ≤ size) (h1 : size ≤ data.length) : truncD (oneF cap n data s true st (some (0, ks))) n size = (61, oneF cap n W W.length false st none) := by
  unfold truncD
  rw [withF_some (f := ⟨n, data, s⟩) rfl (one_find n data s), if_neg (by simp only; omega), onef_then hW]
theorem onef_sync0 {cap : Nat} {n : Int} {data W : Bs} {s : Nat} {st : Int} {ks : List Int} (hW : data.take (s + stays ks[0]? (data.length - s)) = W) : syncD (oneF cap n data s true st (some (0, ks))) n = (61, oneF cap n W W.length false st none) := by
  unfold syncD
  rw [withF_some (f := ⟨n, data, s⟩) rfl (one_find n data s), onef_then hW]
theorem one_fail {cap : Nat} {n : Int} {data : Bs} {s a : Nat} {st : Int} {f : Option (Nat × List Int)} {ks : List Int} : failD (oneF cap n data s true st f) (a : Int) ks = (0, oneF cap n data s true st (some (a, ks))) := by
  unfold failD
  rw [if_neg (by simp [oneF]), if_neg (by omega)]
  simp [oneF]
theorem one_nums {cap : Nat} {n : Int} {data : Bs} {s : Nat} {up : Bool} {st : Int} {f : Option (Nat × List Int)} : numsF (oneF cap n data s up st f).files = [n] := rfl

/-- What stays, as numbers and as a text. -/
theorem prep (D : ByteArray) (s kp : Nat) (hs : s ≤ D.size) (hsz : D.size ≤ 100) : ∃ (lo r m : Nat) (X : ByteArray), (D.size : Int) - (s : Int) = (lo : Int) ∧ min (kp : Int) (lo : Int) = (r : Int) ∧ (s : Int) + (r : Int) = (m : Int) ∧ D.extract 0 m = X ∧ m ≤ D.size ∧ X.size ≤ 100 ∧
    D.data.toList.take (s + stays (some (kp : Int)) (D.data.toList.length - s)) = X.data.toList := by
  refine ⟨D.size - s, min kp (D.size - s), s + min kp (D.size - s), _, by omega, by omega, by omega, rfl, by omega, ?_, ?_⟩
  · simp; omega
  · have e : (D.extract 0 (s + min kp (D.size - s))).data.toList = D.data.toList.take (s + min kp (D.size - s)) := by
      rw [← ByteArray.toList_eq, extract_list]; simp
    rw [e, len_data]
    congr 2
    unfold stays
    simp only [Option.getD_some]
    omega

set_option maxRecDepth 100000 in
set_option maxHeartbeats 8000000 in
theorem diskFails_go (nn wh kp : Nat) (w : World) (hn : nn ≤ 255) (hw : wh ≤ 255) (hk : kp ≤ 255) :
    Calls Try.prog 6 #[.int .u8 (nn : Int), .int .u8 (wh : Int), .int .u8 (kp : Int)] w fun e w' => e = .returned (.bool true) ∧ Keeps w w' := by
  obtain ⟨K, hK⟩ : ∃ K : Nat, (nn : Int) % 20 = (K : Int) := ⟨nn % 20, by omega⟩
  have hK20 : K < 20 := by omega
  obtain ⟨q, hq⟩ : ∃ q : Nat, (wh : Int) % 5 = (q : Int) := ⟨wh % 5, by omega⟩
  have hq5 : q < 5 := by omega
  have LI := Lib.hid i64_lit
  go_enter Try.func6, Try.ntmps6
  go_wp2_with fail
  refine (new_own 3000 w w (Keeps.refl _) (by omega)).mono ?_
  rintro e w0 ⟨d, rfl, h0⟩
  have H0 := Lib.hid h0
  clear h0
  unfold ptrV
  go_wp2_with fail
  refine (create_own H0.out (LI.out 1 (by omega) (by omega)) (r := 0) (D' := oneF 3000 1 [] 0 true 0 none) (by rfl)).mono ?_
  rintro e w1 ⟨rfl, h1⟩
  have H1 := Lib.hid h1
  clear h1 H0
  go_wp2_with fail
  refine (append_own H1.out (LI.out 1 (by omega) (by omega)) (by unfold maxLen; decide) (r := 0) (D' := oneF 3000 1 [97, 98, 99] 0 true 0 none) (by rfl)).mono ?_
  rintro e w2 ⟨rfl, h2⟩
  have H2 := Lib.hid h2
  clear h2 H1
  go_wp2_with fail
  refine (sync_own H2.out (LI.out 1 (by omega) (by omega)) (r := 0) (D' := oneF 3000 1 [97, 98, 99] 3 true 0 none) (by rfl)).mono ?_
  rintro e w3 ⟨rfl, h3⟩
  have H3 := Lib.hid h3
  clear h3 H2
  go_wp2_with fail
  refine (fail_one H3.out (LI.out (K : Int) (by omega) (by omega)) (kp : Int) one_fail).mono ?_
  rintro e w4 ⟨rfl, h4⟩
  have H4 := Lib.hid h4
  clear h4 H3
  go_wp2
  go_loopw [10, 11, 12] (fun vd vs vi wr => ∃ (i s : Nat) (Dv : ByteArray), i ≤ K ∧ vi = .int .i64 (i : Int) ∧ vs = .int .i64 (s : Int) ∧ vd = .string Dv ∧ 3 ≤ Dv.size ∧ Dv.size ≤ 3 + i ∧ s ≤ Dv.size ∧ Own w d (oneF 3000 1 Dv.data.toList s true 0 (some (K - i, [(kp : Int)]))) wr) (fun _ _ vi _ => K - (intOf vi).toNat)
  case atStart => exact ⟨0, 3, ⟨#[97, 98, 99]⟩, by omega, rfl, rfl, rfl, by decide, by decide, by decide, H4.out⟩
  case round =>
    obtain ⟨i, s, Dv, hi, rfl, rfl, rfl, hD3, hDi, hsD, hown⟩ := hrel
    clear H4
    by_cases hlt : i < K
    · have hi1 : (i : Int) < (K : Int) := by omega
      obtain ⟨a, ha⟩ : ∃ a, K - i = a + 1 := ⟨K - i - 1, by omega⟩
      have ha2 : K - (i + 1) = a := by omega
      rw [ha] at hown
      have HO := Lib.hid hown
      have HA2 := Lib.hid ha2
      clear hown ha ha2
      by_cases hev : i % 2 = 0
      · have hm : (i : Int) % 2 = 0 := by omega
        obtain ⟨D2, hD2⟩ : ∃ D2, Dv ++ ⟨#[120]⟩ = D2 := ⟨_, rfl⟩
        have hD2d : D2.data.toList = Dv.data.toList ++ [120] := by rw [← hD2]; simp
        have hD2s : D2.size = Dv.size + 1 := by rw [← len_data, hD2d]; simp
        have hcat : ¬ (9223372036854775807 < Dv.size + 1) := by omega
        have HDD := Lib.hid hD2d
        have HDS := Lib.hid hD2s
        clear hD2d hD2s hev
        go_wp2_with fail
        refine (append_own HO.out (LI.out 1 (by omega) (by omega)) (by unfold maxLen; decide) (onef_append (by simp; omega))).mono ?_
        rintro e w5 ⟨rfl, h5⟩
        have H5 := Lib.hid h5
        clear h5 HO
        go_wp2
        go_roundw
        case rel => exact ⟨i + 1, s, D2, by omega, by go_num, rfl, rfl, by have := HDS.out; omega, by have := HDS.out; omega, by have := HDS.out; omega, by rw [HA2.out, HDD.out]; exact H5.out⟩
        case measure => simp [intOf]; omega
      · have hm : (i : Int) % 2 = 1 := by omega
        clear hev
        go_wp2_with fail
        refine (sync_own HO.out (LI.out 1 (by omega) (by omega)) onef_sync).mono ?_
        rintro e w5 ⟨rfl, h5⟩
        have H5 := Lib.hid h5
        clear h5 HO
        go_wp2
        go_roundw
        case rel => exact ⟨i + 1, Dv.size, Dv, by omega, by go_num, rfl, rfl, hD3, by omega, by omega, by rw [HA2.out]; have := H5.out; rwa [len_data] at this⟩
        case measure => simp [intOf]; omega
    · obtain rfl : i = K := by omega
      have hz : ¬ ((i : Int) < (i : Int)) := by omega
      have e0 : i - i = 0 := by omega
      rw [e0] at hown
      have HO := Lib.hid hown
      clear hown e0 hlt
      have hcases : ∃ (Dx : ByteArray), s ≤ Dx.size ∧ Dx.size ≤ 100 ∧ ((q < 4 ∧ Dx = Dv) ∨ (q = 4 ∧ Dv ++ ⟨#[121, 122]⟩ = Dx)) := by
        by_cases h4 : q = 4
        · exact ⟨Dv ++ ⟨#[121, 122]⟩, by rw [ByteArray.size_append]; omega, by rw [ByteArray.size_append, show (⟨#[121, 122]⟩ : ByteArray).size = 2 from rfl]; omega, Or.inr ⟨h4, rfl⟩⟩
        · exact ⟨Dv, hsD, by omega, Or.inl ⟨by omega, rfl⟩⟩
      obtain ⟨Dx, hx1, hx2, hx3⟩ := hcases
      obtain ⟨lo, r, m, X, p1, p2, p3, p4, p5, p6, p7⟩ := prep Dx s kp hx1 hx2
      have P7 := Lib.hid p7
      clear p7
      have hcat : ¬ (9223372036854775807 < Dv.size + 2) := by omega
      rcases hx3 with ⟨h4, rfl⟩ | ⟨rfl, hcc⟩
      · obtain rfl | rfl | rfl | rfl : q = 0 ∨ q = 1 ∨ q = 2 ∨ q = 3 := by omega
        · have hq' : (wh : Int) % 5 = 0 := by omega
          clear hq
          go_wp2_with fail
          refine (create_own HO.out (LI.out 2 (by omega) (by omega)) (onef_create P7.out (by omega) (by omega))).mono ?_
          rintro e w5 ⟨rfl, h5⟩
          have H5 := Lib.hid h5
          clear h5 HO
          go_wp2_with fail
          refine (up_own H5.out (t := false) (by rfl)).mono ?_
          rintro e w' ⟨rfl, rfl⟩
          go_wp2_with fail
          refine (start_own H5.out (LI.out 0 (by omega) (by omega)) (start_down rfl 0 rfl (by omega) (by omega))).mono ?_
          rintro e w6 ⟨rfl, h6⟩
          have H6 : Hid (Own w d (oneF 3000 1 X.data.toList X.data.toList.length true 1 none) w6) := Lib.hid h6
          clear h6 H5
          go_wp2_with fail
          refine (files_own H6.out).mono ?_
          rintro e w7 ⟨v, rfl, hrow, hk7, h7⟩
          obtain ⟨p7, c7, rfl⟩ := own_shape hrow
          have HI := Lib.hid (own_ints (r := [(1 : Int)]) hrow)
          have H7 := Lib.hid h7
          clear h7 H6 hrow hk7
          go_wp2_with fail
          refine (ints_same _ _ [(1 : Int)] _ (HI.out.keeps (keeps_lit _ _)) (lit_one _ _)).mono ?_
          rintro e w8 ⟨rfl, hk8⟩
          have H8 := Lib.hid ((H7.out.keeps (keeps_lit _ _)).keeps hk8)
          clear hk8 H7 HI
          go_wp2_with fail
          refine (read_text H8.out (LI.out 1 (by omega) (by omega)) (LI.out 0 (by omega) (by omega)) (LI.out _ (by omega) (by omega)) (t := X) (one_read (by rw [len_data]))).mono ?_
          rintro e w' ⟨rfl, rfl⟩
          go_wp2_with fail
          refine (size_own H8.out (LI.out 1 (by omega) (by omega)) (one_size (k := (X.size : Int)) (by rw [len_data]))).mono ?_
          rintro e w' ⟨rfl, rfl⟩
          go_wp2_with (go_at_call 8; refine (filed_any _).mono ?_; rintro e w' ⟨rfl, hk1⟩)
          go_ret
          exact ⟨rfl, Keeps.trans H8.out.kept hk1⟩
        · have hq' : (wh : Int) % 5 = 1 := by omega
          clear hq
          go_wp2_with fail
          refine (delete_own HO.out (LI.out 1 (by omega) (by omega)) (onef_delete P7.out)).mono ?_
          rintro e w5 ⟨rfl, h5⟩
          have H5 := Lib.hid h5
          clear h5 HO
          go_wp2_with fail
          refine (up_own H5.out (t := false) (by rfl)).mono ?_
          rintro e w' ⟨rfl, rfl⟩
          go_wp2_with fail
          refine (start_own H5.out (LI.out 0 (by omega) (by omega)) (start_down rfl 0 rfl (by omega) (by omega))).mono ?_
          rintro e w6 ⟨rfl, h6⟩
          have H6 : Hid (Own w d (oneF 3000 1 X.data.toList X.data.toList.length true 1 none) w6) := Lib.hid h6
          clear h6 H5
          go_wp2_with fail
          refine (files_own H6.out).mono ?_
          rintro e w7 ⟨v, rfl, hrow, hk7, h7⟩
          obtain ⟨p7, c7, rfl⟩ := own_shape hrow
          have HI := Lib.hid (own_ints (r := [(1 : Int)]) hrow)
          have H7 := Lib.hid h7
          clear h7 H6 hrow hk7
          go_wp2_with fail
          refine (ints_same _ _ [(1 : Int)] _ (HI.out.keeps (keeps_lit _ _)) (lit_one _ _)).mono ?_
          rintro e w8 ⟨rfl, hk8⟩
          have H8 := Lib.hid ((H7.out.keeps (keeps_lit _ _)).keeps hk8)
          clear hk8 H7 HI
          go_wp2_with fail
          refine (read_text H8.out (LI.out 1 (by omega) (by omega)) (LI.out 0 (by omega) (by omega)) (LI.out _ (by omega) (by omega)) (t := X) (one_read (by rw [len_data]))).mono ?_
          rintro e w' ⟨rfl, rfl⟩
          go_wp2_with fail
          refine (size_own H8.out (LI.out 1 (by omega) (by omega)) (one_size (k := (X.size : Int)) (by rw [len_data]))).mono ?_
          rintro e w' ⟨rfl, rfl⟩
          go_wp2_with (go_at_call 8; refine (filed_any _).mono ?_; rintro e w' ⟨rfl, hk1⟩)
          go_ret
          exact ⟨rfl, Keeps.trans H8.out.kept hk1⟩
        · have hq' : (wh : Int) % 5 = 2 := by omega
          clear hq
          go_wp2_with fail
          refine (trunc_own HO.out (LI.out 1 (by omega) (by omega)) (LI.out 1 (by omega) (by omega)) (onef_trunc P7.out (by omega) (by rw [len_data]; omega))).mono ?_
          rintro e w5 ⟨rfl, h5⟩
          have H5 := Lib.hid h5
          clear h5 HO
          go_wp2_with fail
          refine (up_own H5.out (t := false) (by rfl)).mono ?_
          rintro e w' ⟨rfl, rfl⟩
          go_wp2_with fail
          refine (start_own H5.out (LI.out 0 (by omega) (by omega)) (start_down rfl 0 rfl (by omega) (by omega))).mono ?_
          rintro e w6 ⟨rfl, h6⟩
          have H6 : Hid (Own w d (oneF 3000 1 X.data.toList X.data.toList.length true 1 none) w6) := Lib.hid h6
          clear h6 H5
          go_wp2_with fail
          refine (files_own H6.out).mono ?_
          rintro e w7 ⟨v, rfl, hrow, hk7, h7⟩
          obtain ⟨p7, c7, rfl⟩ := own_shape hrow
          have HI := Lib.hid (own_ints (r := [(1 : Int)]) hrow)
          have H7 := Lib.hid h7
          clear h7 H6 hrow hk7
          go_wp2_with fail
          refine (ints_same _ _ [(1 : Int)] _ (HI.out.keeps (keeps_lit _ _)) (lit_one _ _)).mono ?_
          rintro e w8 ⟨rfl, hk8⟩
          have H8 := Lib.hid ((H7.out.keeps (keeps_lit _ _)).keeps hk8)
          clear hk8 H7 HI
          go_wp2_with fail
          refine (read_text H8.out (LI.out 1 (by omega) (by omega)) (LI.out 0 (by omega) (by omega)) (LI.out _ (by omega) (by omega)) (t := X) (one_read (by rw [len_data]))).mono ?_
          rintro e w' ⟨rfl, rfl⟩
          go_wp2_with fail
          refine (size_own H8.out (LI.out 1 (by omega) (by omega)) (one_size (k := (X.size : Int)) (by rw [len_data]))).mono ?_
          rintro e w' ⟨rfl, rfl⟩
          go_wp2_with (go_at_call 8; refine (filed_any _).mono ?_; rintro e w' ⟨rfl, hk1⟩)
          go_ret
          exact ⟨rfl, Keeps.trans H8.out.kept hk1⟩
        · have hq' : (wh : Int) % 5 = 3 := by omega
          clear hq
          go_wp2_with fail
          refine (sync_own HO.out (LI.out 1 (by omega) (by omega)) (onef_sync0 P7.out)).mono ?_
          rintro e w5 ⟨rfl, h5⟩
          have H5 := Lib.hid h5
          clear h5 HO
          go_wp2_with fail
          refine (up_own H5.out (t := false) (by rfl)).mono ?_
          rintro e w' ⟨rfl, rfl⟩
          go_wp2_with fail
          refine (start_own H5.out (LI.out 0 (by omega) (by omega)) (start_down rfl 0 rfl (by omega) (by omega))).mono ?_
          rintro e w6 ⟨rfl, h6⟩
          have H6 : Hid (Own w d (oneF 3000 1 X.data.toList X.data.toList.length true 1 none) w6) := Lib.hid h6
          clear h6 H5
          go_wp2_with fail
          refine (files_own H6.out).mono ?_
          rintro e w7 ⟨v, rfl, hrow, hk7, h7⟩
          obtain ⟨p7, c7, rfl⟩ := own_shape hrow
          have HI := Lib.hid (own_ints (r := [(1 : Int)]) hrow)
          have H7 := Lib.hid h7
          clear h7 H6 hrow hk7
          go_wp2_with fail
          refine (ints_same _ _ [(1 : Int)] _ (HI.out.keeps (keeps_lit _ _)) (lit_one _ _)).mono ?_
          rintro e w8 ⟨rfl, hk8⟩
          have H8 := Lib.hid ((H7.out.keeps (keeps_lit _ _)).keeps hk8)
          clear hk8 H7 HI
          go_wp2_with fail
          refine (read_text H8.out (LI.out 1 (by omega) (by omega)) (LI.out 0 (by omega) (by omega)) (LI.out _ (by omega) (by omega)) (t := X) (one_read (by rw [len_data]))).mono ?_
          rintro e w' ⟨rfl, rfl⟩
          go_wp2_with fail
          refine (size_own H8.out (LI.out 1 (by omega) (by omega)) (one_size (k := (X.size : Int)) (by rw [len_data]))).mono ?_
          rintro e w' ⟨rfl, rfl⟩
          go_wp2_with (go_at_call 8; refine (filed_any _).mono ?_; rintro e w' ⟨rfl, hk1⟩)
          go_ret
          exact ⟨rfl, Keeps.trans H8.out.kept hk1⟩
      · have hDx : Dx.data.toList = Dv.data.toList ++ [121, 122] := by rw [← hcc]; simp
        have HDX := Lib.hid hDx
        clear hDx
        · have hq' : (wh : Int) % 5 = 4 := by omega
          clear hq
          go_wp2_with fail
          refine (append_own HO.out (LI.out 1 (by omega) (by omega)) (by unfold maxLen; decide) (onef_append0 (W := X.data.toList) (by simp; omega) (by have h := P7.out; rw [HDX.out] at h; exact h))).mono ?_
          rintro e w5 ⟨rfl, h5⟩
          have H5 := Lib.hid h5
          clear h5 HO
          go_wp2_with fail
          refine (up_own H5.out (t := false) (by rfl)).mono ?_
          rintro e w' ⟨rfl, rfl⟩
          go_wp2_with fail
          refine (start_own H5.out (LI.out 0 (by omega) (by omega)) (start_down rfl 0 rfl (by omega) (by omega))).mono ?_
          rintro e w6 ⟨rfl, h6⟩
          have H6 : Hid (Own w d (oneF 3000 1 X.data.toList X.data.toList.length true 1 none) w6) := Lib.hid h6
          clear h6 H5
          go_wp2_with fail
          refine (files_own H6.out).mono ?_
          rintro e w7 ⟨v, rfl, hrow, hk7, h7⟩
          obtain ⟨p7, c7, rfl⟩ := own_shape hrow
          have HI := Lib.hid (own_ints (r := [(1 : Int)]) hrow)
          have H7 := Lib.hid h7
          clear h7 H6 hrow hk7
          go_wp2_with fail
          refine (ints_same _ _ [(1 : Int)] _ (HI.out.keeps (keeps_lit _ _)) (lit_one _ _)).mono ?_
          rintro e w8 ⟨rfl, hk8⟩
          have H8 := Lib.hid ((H7.out.keeps (keeps_lit _ _)).keeps hk8)
          clear hk8 H7 HI
          go_wp2_with fail
          refine (read_text H8.out (LI.out 1 (by omega) (by omega)) (LI.out 0 (by omega) (by omega)) (LI.out _ (by omega) (by omega)) (t := X) (one_read (by rw [len_data]))).mono ?_
          rintro e w' ⟨rfl, rfl⟩
          go_wp2_with fail
          refine (size_own H8.out (LI.out 1 (by omega) (by omega)) (one_size (k := (X.size : Int)) (by rw [len_data]))).mono ?_
          rintro e w' ⟨rfl, rfl⟩
          go_wp2_with (go_at_call 8; refine (filed_any _).mono ?_; rintro e w' ⟨rfl, hk1⟩)
          go_ret
          exact ⟨rfl, Keeps.trans H8.out.kept hk1⟩
theorem diskFails_law (nn wh kp : Int) (w : World) (h1 : (Lit.int .u8 nn).wf = true) (h2 : (Lit.int .u8 wh).wf = true) (h3 : (Lit.int .u8 kp).wf = true) :
    Calls Try.prog 6 #[.int .u8 nn, .int .u8 wh, .int .u8 kp] w fun e w' => e = .returned (.bool true) ∧ Below w.heap.size w w' := by
  simp [Lit.wf, IntKind.min, IntKind.max, IntKind.signed, IntKind.bits] at h1 h2 h3
  obtain ⟨a, rfl⟩ : ∃ a : Nat, nn = a := ⟨nn.toNat, by omega⟩
  obtain ⟨b, rfl⟩ : ∃ b : Nat, wh = b := ⟨wh.toNat, by omega⟩
  obtain ⟨c, rfl⟩ : ∃ c : Nat, kp = c := ⟨kp.toNat, by omega⟩
  exact diskFails_go a b c w (by omega) (by omega) (by omega)
end Go.Proofs.Ytfihlbhiiebogaa
