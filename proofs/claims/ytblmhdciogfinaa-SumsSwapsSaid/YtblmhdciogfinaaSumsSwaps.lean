
/- The walk of SumsSwaps. -/
import Derived.Test.YtblmhdciogfinaaSumsRuns
import Derived.Test.YtblmhdciogfinaaLies
set_option linter.unusedVariables false
namespace Go.Proofs.Ytblmhdciogfinaa
open Go.ChangeShapes Go.WideShapes Go.ChangeAt Go.RowKit Bit Crc

set_option maxRecDepth 100000 in
set_option maxHeartbeats 2000000 in
theorem sumsSwaps_go (s : ByteArray) (at' far : Int) (w : World) (hs : s.size ≤ maxLen) (ha : (Lit.int .u16 at').wf = true) (hf : (Lit.int .u8 far).wf = true) :
    Calls Try.prog 7 #[.string s, .int .u16 at', .int .u8 far] w fun e w' => e = .returned (.bool true) ∧ Keeps w w' := by
  obtain ⟨A, rfl, hA⟩ := u16_of ha
  obtain ⟨F, rfl, hF⟩ := u8_of hf
  clear ha hf
  obtain ⟨G, hG⟩ : ∃ G, G = 1 + F % 3 := ⟨_, rfl⟩
  have hG2 : 1 + (F : Int) % 3 = G := by omega
  have hG3 : (G : Int) ≤ 3 := by omega
  have hG4 : 1 ≤ (G : Int) := by omega
  by_cases hb : 1000 < (s.size : Int)
  · clear hs hG
    go_enter Try.func7, Try.ntmps7
    go_wp2_with (go_at_call 14; refine (works_any _).mono ?_; rintro e w' ⟨rfl, hk⟩)
    go_ret
    exact ⟨rfl, hk⟩
  by_cases hb2 : (s.size : Int) ≤ G
  · clear hs hG
    go_enter Try.func7, Try.ntmps7
    go_wp2_with (go_at_call 14; refine (works_any _).mono ?_; rintro e w' ⟨rfl, hk⟩)
    go_ret
    exact ⟨rfl, hk⟩
  clear hs
  obtain ⟨I, hI⟩ : ∃ I, I = A % (s.size - G) := ⟨_, rfl⟩
  have hI2 : (A : Int) % ((s.size : Int) - G) = I := by
    rw [hI, show (s.size : Int) - G = ((s.size - G : Nat) : Int) from by omega]; simp
  have hI3 : I + G < s.size := by
    have := Nat.mod_lt A (show 0 < s.size - G by omega)
    omega
  have hw0 : IntKind.i64.wrap ((I : Int) + G) = (I : Int) + G := IntWalk.i64_in _ (by omega)
  have hw1 : 0 ≤ (I : Int) + G := by omega
  have hw2 : ((I : Int) + G).toNat = I + G := by omega
  obtain ⟨cap, w1, hr, hcap, hk1, hl1, hlt1⟩ := bytes_lie w s
  have K1 := Lib.hid hk1
  have L1 := Lib.hid hl1
  obtain ⟨u, c1, hu⟩ : ∃ u : UInt8, w1.cell? ⟨w.heap.size, I, none⟩ = some (.int .u8 u.toNat) ∧ s.data.toList[I]? = some u :=
    ⟨_, hl1.at I (by rw [len_data]; omega), List.getElem?_eq_getElem _⟩
  obtain ⟨v, c2, hv⟩ : ∃ v : UInt8, w1.cell? ⟨w.heap.size, I + G, none⟩ = some (.int .u8 v.toNat) ∧ s.data.toList[I + G]? = some v :=
    ⟨_, hl1.at (I + G) (by rw [len_data]; omega), List.getElem?_eq_getElem _⟩
  have HU := Lib.hid hu
  have HV := Lib.hid hv
  have f1 := hl1.loose I (by rw [len_data]; omega)
  have f2 := hl1.loose (I + G) (by rw [len_data]; omega)
  have HI3 := Lib.hid hI3
  clear hk1 hl1 hu hv hG hI
  go_enter Try.func7, Try.ntmps7
  go_wp2
  go_region
  have hlen : s.data.toList.length = s.size := len_data s
  have L2 := ((L1.out.set I (by rw [len_data]; have := HI3.out; omega) _ v rfl).set (I + G) (by rw [List.length_set, len_data]; exact HI3.out) _ u rfl).drew
  have K2 := ((K1.out.setCell (p := ⟨w.heap.size, I, none⟩) (Nat.le_refl _) (.int .u8 v.toNat)).setCell (p := ⟨w.heap.size, I + G, none⟩) (Nat.le_refl _) (.int .u8 u.toNat)).drew
  obtain ⟨m, hm⟩ : ∃ m, m = (s.data.toList.set I v).set (I + G) u := ⟨_, rfl⟩
  rw [← hm] at L2
  generalize ((w1.setCell ⟨w.heap.size, I, none⟩ (.int .u8 v.toNat)).setCell ⟨w.heap.size, I + G, none⟩ (.int .u8 u.toNat)).drew = wq at L2 K2 ⊢
  obtain ⟨M, hM⟩ : ∃ M : ByteArray, M = ⟨m.toArray⟩ := ⟨_, rfl⟩
  have hml : m.length = s.data.toList.length := by rw [hm]; simp
  have hMd : M.data.toList = m := by rw [hM]
  have hcv := L2.drew.text (P := Try.prog) 32 5 9 Try.underlying32 Try.underlying5 Try.underlying9 s.size cap (by rw [hml, len_data])
  rw [← hM] at hcv
  have hsame : ((sumN M.data.toList : Int) == (sumN s.data.toList : Int)) = (M.toList == s.toList) := by
    have h1 : m.take I = s.data.toList.take I := by rw [hm, List.take_set_of_le (by omega), List.take_set_of_le (Nat.le_refl _)]
    have h2 : m.drop (I + G + 1) = s.data.toList.drop (I + G + 1) := by rw [hm, List.drop_set_of_lt (by omega), List.drop_set_of_lt (by omega)]
    rw [ByteArray.toList_eq, ByteArray.toList_eq, hMd, Bool.eq_iff_iff, beq_iff_eq, beq_iff_eq]
    constructor
    · intro h
      exact swap_win (g := G) (by omega) (by rw [len_data]; exact HI3.out) m hml h1 h2 (by omega)
    · intro h; rw [h]
  have MM := Lib.hid (show M.size ≤ maxLen from by rw [hM, size_mk, hml, len_data]; unfold maxLen; omega)
  have SM := Lib.hid (show s.size ≤ maxLen from by unfold maxLen; omega)
  have K3 := Lib.hid K2.drew
  clear hr c1 c2 f1 f2 hw0 hw1 hw2 hI2 hI3 hG2 K2 L2 hm hM hml hMd hlen
  cases he : (M.toList == s.toList)
  all_goals
    rw [he] at hsame
    go_wp2
    refine wp_region_still_tail 12 (by kernel_rfl) (by kernel_rfl) ?_
    generalize hq : ({ wq with drawn := wq.drawn + 1 } : World) = wz
    have hq2 : wq.drew = wz := hq
    rw [hq2] at hcv K3
    clear hq hq2
    simp only [List.take_succ_cons, List.take_zero, List.drop_succ_cons, List.drop_zero]
    repeat (refine wpStill_step (fun K hK => ?_); go_simp; first
      | (refine hK _ ?_; clear hK K)
      | (refine ⟨_, sum_st _ _ MM.out, hK _ ?_⟩; clear hK K)
      | (refine ⟨_, sum_st _ _ SM.out, hK _ ?_⟩; clear hK K))
    try refine wpStill_nil ?_
    go_wp2_with (go_at_call 14; refine (works_any _).mono ?_; rintro e w' ⟨rfl, hk⟩)
    go_ret
    exact ⟨rfl, Keeps.trans K3.out hk⟩
end Go.Proofs.Ytblmhdciogfinaa
