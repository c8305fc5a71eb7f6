
/- The walk of SumsAgainst. -/
import Derived.Test.YtblmhdciogfinaaSumsSwaps
import Derived.Test.YtblmhdciogfinaaSumsBent
import Derived.Test.YtblmhdciogfinaaLies
import Derived.Deep.Cut
import Derived.BigRegion
set_option linter.unusedVariables false
namespace Go.Proofs.Ytblmhdciogfinaa
open Go.ChangeShapes Go.WideShapes Go.ChangeAt Go.RowKit Bit Crc

def MadeRel (w : World) (W : Nat) (n x y b : Value) (wr : World) : Prop := ∃ gx gy gb : Nat, n = .slice (some ⟨w.heap.size, 0, none⟩) W W ∧ x = .slice (some ⟨gx, 0, none⟩) W W ∧ y = .slice (some ⟨gy, 0, none⟩) W W ∧ b = .slice (some ⟨gb, 0, none⟩) W W ∧
  w.heap.size < gx ∧ w.heap.size < gy ∧ w.heap.size < gb ∧ gx ≠ gy ∧ gx ≠ gb ∧ gy ≠ gb ∧ Lies wr w.heap.size (List.replicate W 0) ∧ Lies wr gx (List.replicate W 0) ∧ Lies wr gy (List.replicate W 0) ∧ Lies wr gb (List.replicate W 0) ∧ Keeps w wr

theorem both_length {xs ys : List UInt8} {W : Nat} (hx : xs.length = W) (hy : ys.length = W) : (both xs ys).length = W := by rw [both_len (by rw [hx, hy]), hx]
theorem both_step {xs ys : List UInt8} {W k : Nat} {c d : UInt8} (hx : xs[k]? = some c) (hy : ys[k]? = some d) (hl : (both xs ys).length = W) (hk : k < W) :
    ((both xs ys).take k ++ List.replicate (W - k) (0 : UInt8)).set k (c ^^^ d) = (both xs ys).take (k + 1) ++ List.replicate (W - (k + 1)) 0 := by
  have hD : ((both xs ys).take k).length = k := by rw [List.length_take]; omega
  have hT : (both xs ys)[k]? = some (c ^^^ d) := by
    show (List.zipWith (· ^^^ ·) xs ys)[k]? = _
    rw [List.getElem?_zipWith, hx, hy]
  rw [show W - k = (W - (k + 1)) + 1 from by omega, List.replicate_succ]
  have h := set_at ((both xs ys).take k) 0 (c ^^^ d) (List.replicate (W - (k + 1)) (0 : UInt8))
  rw [hD] at h
  rw [h, List.take_succ_eq_append_getElem (by omega)]
  congr 2
  rw [List.getElem?_eq_getElem (by omega)] at hT
  injection hT with hT
  rw [hT]
theorem Lies.other {w : World} {g g' : Nat} {l : List UInt8} (h : Lies w g l) (hne : g ≠ g') (i : Nat) (v : Value) : Lies (w.setCell ⟨g', i, none⟩ v) g l :=
  ⟨by simpa using h.1, fun j hj => ⟨(World.cell?_setCell_other w ⟨g', i, none⟩ ⟨g, j, none⟩ v (by intro q; injection q with q; exact hne q.symm)).trans (h.2 j hj).1, by rw [World.frozen?_setCell]; exact (h.2 j hj).2⟩⟩

def AgainstRel (w : World) (W gx gy gb : Nat) (xs ys : List UInt8) (i : Value) (wr : World) : Prop := ∃ k : Nat, k ≤ W ∧ i = .int .i64 k ∧ Lies wr gx xs ∧ Lies wr gy ys ∧ Lies wr w.heap.size (List.replicate W 0) ∧
  Lies wr gb ((both xs ys).take k ++ List.replicate (W - k) 0) ∧ Keeps w wr

theorem four_lies (w : World) (W : Nat) : Lies ((((w.alloc (zrow W)).alloc (zrow W)).alloc (zrow W)).alloc (zrow W)).drew w.heap.size (List.replicate W 0) ∧ Lies ((((w.alloc (zrow W)).alloc (zrow W)).alloc (zrow W)).alloc (zrow W)).drew (w.heap.size + 1) (List.replicate W 0) ∧
    Lies ((((w.alloc (zrow W)).alloc (zrow W)).alloc (zrow W)).alloc (zrow W)).drew (w.heap.size + 1 + 1) (List.replicate W 0) ∧ Lies ((((w.alloc (zrow W)).alloc (zrow W)).alloc (zrow W)).alloc (zrow W)).drew (w.heap.size + 1 + 1 + 1) (List.replicate W 0) ∧
    Keeps w ((((w.alloc (zrow W)).alloc (zrow W)).alloc (zrow W)).alloc (zrow W)).drew := by
  have k1 : ∀ u : World, Keeps u (u.alloc (zrow W)) := fun u => (Below.refl _ _).alloc (Nat.le_refl _) _
  have s1 : ∀ u : World, (u.alloc (zrow W)).heap.size = u.heap.size + 1 := fun u => by simp
  have l1 := lies_zrow w W
  have l2 := lies_zrow (w.alloc (zrow W)) W
  have l3 := lies_zrow ((w.alloc (zrow W)).alloc (zrow W)) W
  have l4 := lies_zrow (((w.alloc (zrow W)).alloc (zrow W)).alloc (zrow W)) W
  rw [s1] at l2
  rw [s1, s1] at l3
  rw [s1, s1, s1] at l4
  exact ⟨(((l1.keeps (k1 _)).keeps (k1 _)).keeps (k1 _)).drew, ((l2.keeps (k1 _)).keeps (k1 _)).drew, (l3.keeps (k1 _)).drew, l4.drew, (Keeps.trans (k1 _) (Keeps.trans (k1 _) (Keeps.trans (k1 _) (k1 _)))).drew⟩

set_option maxRecDepth 100000 in
set_option maxHeartbeats 2000000 in
theorem sumsAgainst_go (a b : ByteArray) (w : World) (ha : a.size ≤ maxLen) (hb : b.size ≤ maxLen) :
    Calls Try.prog 8 #[.string a, .string b] w fun e w' => e = .returned (.bool true) ∧ Keeps w w' := by
  by_cases h1 : 1500 < (a.size : Int)
  · clear ha hb
    go_enter Try.func8, Try.ntmps8
    go_wp2_with (go_at_call 14; refine (works_any _).mono ?_; rintro e w' ⟨rfl, hk⟩)
    go_ret
    exact ⟨rfl, hk⟩
  by_cases h2 : 1500 < (b.size : Int)
  · clear ha hb
    go_enter Try.func8, Try.ntmps8
    go_wp2_with (go_at_call 14; refine (works_any _).mono ?_; rintro e w' ⟨rfl, hk⟩)
    go_ret
    exact ⟨rfl, hk⟩
  clear ha hb
  obtain ⟨W, hW⟩ : ∃ W, W = max a.size b.size := ⟨_, rfl⟩
  have hWa : (a.size : Int) ≤ W := by omega
  have hWb : (b.size : Int) ≤ W := by omega
  have hW1 : (W : Int) ≤ 1500 := by omega
  have hmk := make_zrow W (by omega)
  have HW := Lib.hid hW
  clear hW
  go_enter Try.func8, Try.ntmps8
  go_upto_region 3 with (fail)
  go_cut [5] from 10 (fun n wr => n = .slice (some ⟨w.heap.size, 0, none⟩) W W ∧ wr = w.alloc (zrow W))
  case first =>
    rcases (show (a.size : Int) < b.size ∨ (b.size : Int) ≤ a.size from by omega) with hlt | hlt
    · have he : W = b.size := by have := HW.out; omega
      subst he
      go_wp2
      go_meet
      case rel => exact ⟨rfl, rfl⟩
    · have he : W = a.size := by have := HW.out; omega
      subst he
      go_wp2
      go_meet
      case rel => exact ⟨rfl, rfl⟩
  case rest =>
    obtain ⟨rfl, rfl⟩ := hcut
    have HF := Lib.hid (four_lies w W)
    go_upto_region 4 with (fail)
    go_cut [6, 7, 8] from 10 (fun x y z wr => MadeRel w W (.slice (some ⟨w.heap.size, 0, none⟩) W W) x y z wr)
    case first =>
      go_region
      all_goals
        go_wp2
        go_meet
        case rel =>
          obtain ⟨l0, l1, l2, l3, kk⟩ := HF.out
          exact ⟨_, _, _, rfl, rfl, rfl, rfl, by omega, by omega, by omega, by omega, by omega, by omega, l0, by assumption, by assumption, by assumption, kk⟩
    case rest =>
      obtain ⟨gx, gy, gb, hn, rfl, rfl, rfl, hx, hy, hz, hxy, hxb, hyb, l0, lx, ly, lb, hk⟩ := hcut
      clear hn hmk
      have ha2 : a.size ≤ W := by omega
      have hb2 : b.size ≤ W := by omega
      obtain ⟨w2, hc1, lx2, lo2, kb2⟩ := lx.copy a (by rw [List.length_replicate]; exact ha2) 3 W W (by simp)
      have l0' := lo2 _ _ (by omega) l0
      have ly' := lo2 _ _ (Ne.symm hxy) ly
      have lb' := lo2 _ _ (Ne.symm hxb) lb
      have hk2 := kb2 _ _ (by omega) hk
      obtain ⟨w3, hc2, ly3, lo3, kb3⟩ := ly'.copy b (by rw [List.length_replicate]; exact hb2) 3 W W (by simp)
      have L0 := Lib.hid (lo3 _ _ (by omega) l0')
      have lx3 := lo3 _ _ hxy lx2
      have LB := Lib.hid (lo3 _ _ (Ne.symm hyb) lb')
      have K3 := Lib.hid (kb3 _ _ (by omega) hk2)
      obtain ⟨xs, hxs⟩ : ∃ xs, xs = a.data.toList ++ (List.replicate W (0 : UInt8)).drop a.size := ⟨_, rfl⟩
      obtain ⟨ys, hys⟩ : ∃ ys, ys = b.data.toList ++ (List.replicate W (0 : UInt8)).drop b.size := ⟨_, rfl⟩
      rw [← hxs] at lx3
      rw [← hys] at ly3
      have XL := Lib.hid (show xs.length = W by rw [hxs, List.length_append, len_data, List.length_drop, List.length_replicate]; omega)
      have YL := Lib.hid (show ys.length = W by rw [hys, List.length_append, len_data, List.length_drop, List.length_replicate]; omega)
      have LX := Lib.hid lx3
      have LY := Lib.hid ly3
      clear lx ly lb l0 l0' ly' lb' hk hk2 lx2 lo2 lo3 kb2 kb3 lx3 ly3 hxs hys ha2 hb2 HF
      go_wp2
      go_loopw [42] (fun i wr => AgainstRel w W gx gy gb xs ys i wr) (fun i _ => W - (intOf i).toNat)
      case atStart =>
        refine ⟨0, Nat.zero_le _, rfl, LX.out, LY.out, L0.out, ?_, K3.out⟩
        rw [List.take_zero, Nat.sub_zero]; exact LB.out
      case round =>
        obtain ⟨k, hkw, rfl, lx, ly, l0, lb, hk⟩ := hrel
        have BL := Lib.hid (both_length XL.out YL.out)
        by_cases hlt : k < W
        · obtain ⟨c, hc, hcx⟩ : ∃ c : UInt8, wr.cell? ⟨gx, k, none⟩ = some (.int .u8 c.toNat) ∧ xs[k]? = some c :=
            ⟨_, lx.at k (by rw [XL.out]; exact hlt), List.getElem?_eq_getElem _⟩
          obtain ⟨d, hd, hdy⟩ : ∃ d : UInt8, wr.cell? ⟨gy, k, none⟩ = some (.int .u8 d.toNat) ∧ ys[k]? = some d :=
            ⟨_, ly.at k (by rw [YL.out]; exact hlt), List.getElem?_eq_getElem _⟩
          have hin : k < ((both xs ys).take k ++ List.replicate (W - k) 0).length := by rw [List.length_append, List.length_take, List.length_replicate, BL.out]; omega
          have he := lb.at k hin
          have hfz := lb.loose k hin
          have ST := Lib.hid (both_step hcx hdy BL.out hlt)
          have LXX := Lib.hid (lx.other hxb k (.int .u8 (bits .xor .u8 (c.toNat : Int) (d.toNat : Int)))).drew
          have LYY := Lib.hid (ly.other hyb k (.int .u8 (bits .xor .u8 (c.toNat : Int) (d.toNat : Int)))).drew
          have L00 := Lib.hid (l0.other (Nat.ne_of_lt hz) k (.int .u8 (bits .xor .u8 (c.toNat : Int) (d.toNat : Int)))).drew
          have LBB := Lib.hid (lb.set k hin (bits .xor .u8 (c.toNat : Int) (d.toNat : Int)) (c ^^^ d) (x8 c d)).drew
          have KK := Lib.hid ((hk.setCell (p := ⟨gb, k, none⟩) (by show w.heap.size ≤ gb; omega) (.int .u8 (bits .xor .u8 (c.toNat : Int) (d.toNat : Int)))).drew)
          have hk0 : (0 : Int) ≤ k := by omega
          have hk1 : (k : Int) < W := by omega
          generalize ((both xs ys).take k ++ List.replicate (W - k) 0)[k] = z at he
          clear lx ly l0 lb hk hcx hdy hin
          go_wp2
          go_region
          go_wp2
          go_roundw
          case rel =>
            refine ⟨k + 1, by omega, by go_num, LXX.out, LYY.out, L00.out, ?_, KK.out⟩
            rw [← ST.out]; exact LBB.out
          case measure => simp [intOf]; omega
        · obtain rfl : k = W := by omega
          rw [List.take_of_length_le (Nat.le_of_eq BL.out), Nat.sub_self, List.replicate_zero, List.append_nil] at lb
          obtain ⟨X, hX⟩ : ∃ X : ByteArray, X = ⟨xs.toArray⟩ := ⟨_, rfl⟩
          obtain ⟨Y, hY⟩ : ∃ Y : ByteArray, Y = ⟨ys.toArray⟩ := ⟨_, rfl⟩
          obtain ⟨Z, hZ⟩ : ∃ Z : ByteArray, Z = ⟨(List.replicate k (0 : UInt8)).toArray⟩ := ⟨_, rfl⟩
          obtain ⟨B, hB⟩ : ∃ B : ByteArray, B = ⟨(both xs ys).toArray⟩ := ⟨_, rfl⟩
          have hcx := lx.drew.text (P := Try.prog) 32 5 9 Try.underlying32 Try.underlying5 Try.underlying9 k k XL.out
          have hcy := ly.drew.text (P := Try.prog) 32 5 9 Try.underlying32 Try.underlying5 Try.underlying9 k k YL.out
          have hcz := l0.drew.text (P := Try.prog) 32 5 9 Try.underlying32 Try.underlying5 Try.underlying9 k k (by simp)
          have hcb := lb.drew.text (P := Try.prog) 32 5 9 Try.underlying32 Try.underlying5 Try.underlying9 k k BL.out
          rw [← hX] at hcx
          rw [← hY] at hcy
          rw [← hZ] at hcz
          rw [← hB] at hcb
          have MX := Lib.hid (show X.size ≤ maxLen from by rw [hX, size_mk, XL.out]; unfold maxLen; omega)
          have MY := Lib.hid (show Y.size ≤ maxLen from by rw [hY, size_mk, YL.out]; unfold maxLen; omega)
          have MZ := Lib.hid (show Z.size ≤ maxLen from by rw [hZ, size_mk, List.length_replicate]; unfold maxLen; omega)
          have MB := Lib.hid (show B.size ≤ maxLen from by rw [hB, size_mk, BL.out]; unfold maxLen; omega)
          have hsum : (bits .xor .u32 (sumN B.data.toList : Int) (sumN Z.data.toList : Int) == bits .xor .u32 (sumN X.data.toList : Int) (sumN Y.data.toList : Int)) = true := by
            have h := sum_against xs ys (by rw [XL.out, YL.out])
            rw [XL.out] at h
            rw [x32 (sumN_lt _) (sumN_lt _), x32 (sumN_lt _) (sumN_lt _), hB, hZ, hX, hY, data_mk, data_mk, data_mk, data_mk, h]
            simp
          have KD := Lib.hid hk.drew
          clear lx ly l0 lb hk hX hY hZ hB
          go_wp2
          refine wp_region_still_tail 16 (by kernel_rfl) (by kernel_rfl) ?_
          generalize hq : ({ wr with drawn := wr.drawn + 1 } : World) = wz
          have hq2 : wr.drew = wz := hq
          rw [hq2] at hcx hcy hcz hcb KD
          clear hq hq2
          simp only [List.take_succ_cons, List.take_zero, List.drop_succ_cons, List.drop_zero]
          repeat (refine wpStill_step (fun K hK => ?_); go_simp; first
            | (refine hK _ ?_; clear hK K)
            | (refine ⟨_, sum_st _ _ MX.out, hK _ ?_⟩; clear hK K)
            | (refine ⟨_, sum_st _ _ MY.out, hK _ ?_⟩; clear hK K)
            | (refine ⟨_, sum_st _ _ MZ.out, hK _ ?_⟩; clear hK K)
            | (refine ⟨_, sum_st _ _ MB.out, hK _ ?_⟩; clear hK K))
          try refine wpStill_nil ?_
          go_wp2_with (go_at_call 14; refine (works_any _).mono ?_; rintro e w' ⟨rfl, hk⟩)
          go_ret
          exact ⟨rfl, Keeps.trans KD.out hk⟩
end Go.Proofs.Ytblmhdciogfinaa
