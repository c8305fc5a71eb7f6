/- The chapter's order: ordered. -/
import Derived.Test.YtonjkgonbfimjaaDoorOdMayC
import Derived.Deep.Cut
set_option linter.unusedVariables false
namespace Go.Proofs.YtonjkgonbfimjaaDoor
open Go.ChangeShapes Go.WideShapes Go.ChangeAt Go.RowKit Bit Ky Od

abbrev oR : ByteArray := ⟨#[82, 45, 49]⟩
abbrev oS : ByteArray := ⟨#[110, 117, 116]⟩
abbrev oA : ByteArray := ⟨#[97, 32, 98]⟩
abbrev oN : ByteArray := ⟨#[49, 50, 51, 52, 53, 54, 55, 56, 57]⟩
def oBx : Obj := .cells #[.int .i64 3, .string ⟨#[82, 45, 49]⟩, .string ⟨#[110, 117, 116]⟩, .int .i64 4, .int .i64 300] tOd (0, 0)
/-- Three copies of the order, in whatever order they were laid. -/
def ThreeAt (w : World) (v2 v3 v4 : Value) (W : World) : Prop := ∃ b c d : Nat, v2 = .pointer (some ⟨b, 0, none⟩) ∧ v3 = .pointer (some ⟨c, 0, none⟩) ∧ v4 = .pointer (some ⟨d, 0, none⟩) ∧
  w.heap.size < b ∧ w.heap.size < c ∧ w.heap.size < d ∧ b ≠ c ∧ b ≠ d ∧ c ≠ d ∧ W.heap[b]? = some oBx ∧ W.heap[c]? = some oBx ∧ W.heap[d]? = some oBx ∧ Keeps (w.alloc oBx) W
theorem three_mk (w : World) (b c d : Nat) (hb : b = w.heap.size + 1 ∨ b = w.heap.size + 1 + 1 ∨ b = w.heap.size + 1 + 1 + 1) (hc : c = w.heap.size + 1 ∨ c = w.heap.size + 1 + 1 ∨ c = w.heap.size + 1 + 1 + 1) (hd : d = w.heap.size + 1 ∨ d = w.heap.size + 1 + 1 ∨ d = w.heap.size + 1 + 1 + 1)
    (h1 : b ≠ c) (h2 : b ≠ d) (h3 : c ≠ d) : ThreeAt w (.pointer (some ⟨b, 0, none⟩)) (.pointer (some ⟨c, 0, none⟩)) (.pointer (some ⟨d, 0, none⟩)) ((((w.alloc oBx).alloc oBx).alloc oBx).alloc oBx).drew := by
  have key : ∀ b, (b = w.heap.size + 1 ∨ b = w.heap.size + 1 + 1 ∨ b = w.heap.size + 1 + 1 + 1) → ((((w.alloc oBx).alloc oBx).alloc oBx).alloc oBx).drew.heap[b]? = some oBx := by
    intro b hb
    have s1 : (w.alloc oBx).heap.size = w.heap.size + 1 := by simp
    have s2 : ((w.alloc oBx).alloc oBx).heap.size = w.heap.size + 1 + 1 := by simp
    have s3 : (((w.alloc oBx).alloc oBx).alloc oBx).heap.size = w.heap.size + 1 + 1 + 1 := by simp
    have k2 := ky_box ((w.alloc oBx).alloc oBx) oBx
    have k3 := ky_box (((w.alloc oBx).alloc oBx).alloc oBx) oBx
    have n1 := heap_alloc_new (w.alloc oBx) oBx
    have n2 := heap_alloc_new ((w.alloc oBx).alloc oBx) oBx
    have n3 := heap_alloc_new (((w.alloc oBx).alloc oBx).alloc oBx) oBx
    rw [s1] at n1
    rw [s2] at n2
    rw [s3] at n3
    show ((((w.alloc oBx).alloc oBx).alloc oBx).alloc oBx).heap[b]? = some oBx
    rcases hb with rfl | rfl | rfl
    · exact (k3.block _ (by omega)).trans ((k2.block _ (by omega)).trans n1)
    · exact (k3.block _ (by omega)).trans n2
    · exact n3
  exact ⟨b, c, d, rfl, rfl, rfl, by omega, by omega, by omega, h1, h2, h3, key b hb, key c hc, key d hd, (((ky_box _ oBx).trans (ky_box _ oBx)).trans (ky_box _ oBx)).trans (ky_drew _)⟩
theorem other_set (W : World) (n i k : Nat) (v : Value) (h : k ≠ n) : (W.setCell ⟨n, i, none⟩ v).heap[k]? = W.heap[k]? := Below.heap_setCell _ _ _ _ h
theorem o_put : putOS 3 oR oS 4 300 = ⟨#[3, 3, 82, 45, 49, 3, 110, 117, 116, 4, 172, 2]⟩ := by decide +kernel
theorem o_yes : checkO 3 oR oS 4 300 = 0 := by decide +kernel
theorem o_a : checkO 3 oA oS 4 300 = 2 := by decide +kernel
theorem o_b : checkO 3 oR oN 4 300 = 3 := by decide +kernel
theorem o_c : checkO 3 oR oS 0 300 = 2 := by decide +kernel
theorem o_m1 : IsM 3 oR oS 4 300 1 0 3 1 ⟨#[]⟩ 0 300 := Or.inl ⟨o_yes, by decide, by decide, by decide, rfl, rfl, Or.inl ⟨by decide, rfl, rfl, rfl⟩⟩
theorem o_m3 : IsM 3 oR oS 4 300 3 1 3 3 oS 4 0 := Or.inl ⟨o_yes, by decide, by decide, by decide, rfl, rfl, Or.inr ⟨by decide, rfl, rfl, rfl⟩⟩
theorem o_small : oR.size ≤ maxLen ∧ oS.size ≤ maxLen ∧ oA.size ≤ maxLen ∧ oN.size ≤ maxLen := by unfold maxLen; decide
set_option maxHeartbeats 8000000 in
set_option maxRecDepth 100000 in
theorem ordered_any (w : World) (hp : HasP w) : Calls Tryd.prog 8 #[] w fun e w' => e = .returned (.bool true) ∧ Keeps w w' := by
  have KB := Lib.hid (ky_box w oBx)
  have C1 : Hid (∀ W B, Keeps B W → Calls Tryd.prog 13 #[.agg #[.int .i64 3, .string ⟨#[82, 45, 49]⟩, .string ⟨#[110, 117, 116]⟩, .int .i64 4, .int .i64 300]] W fun e w' => e = .returned (.string ⟨#[3, 3, 82, 45, 49, 3, 110, 117, 116, 4, 172, 2]⟩) ∧ Keeps B w') := Lib.hid fun W B k => Calls.mono (o_put ▸ od_put 3 oR oS 4 300 W o_small.1 o_small.2.1) fun e w' h => ⟨h.1, k.trans h.2⟩
  have C2 : Hid (∀ W B, Keeps w B → Keeps B W → Calls Tryd.prog 9 #[.agg #[.int .i64 3, .string ⟨#[82, 45, 49]⟩, .string ⟨#[110, 117, 116]⟩, .int .i64 4, .int .i64 300], .int .i64 1] W fun e w' => e = .returned (.agg #[.int .i64 0, .int .i64 3, .int .i64 1, .string ⟨#[]⟩, .int .i64 0, .int .i64 300, .int .i64 0]) ∧ Keeps B w') := Lib.hid fun W B kb k => Calls.mono (od_msg 3 oR oS 4 300 1 W (hp.keeps (kb.trans k)) o_small.1 o_small.2.1) fun e w' h => by
    obtain ⟨t, o, kk, S, Q, A, rfl, hm, k2⟩ := h
    obtain ⟨rfl, rfl, rfl, rfl, rfl, rfl⟩ := hm.same o_m1
    exact ⟨rfl, k.trans k2⟩
  have C3 : Hid (∀ W B, Keeps w B → Keeps B W → Calls Tryd.prog 9 #[.agg #[.int .i64 3, .string ⟨#[82, 45, 49]⟩, .string ⟨#[110, 117, 116]⟩, .int .i64 4, .int .i64 300], .int .i64 3] W fun e w' => e = .returned (.agg #[.int .i64 1, .int .i64 3, .int .i64 3, .string ⟨#[110, 117, 116]⟩, .int .i64 4, .int .i64 0, .int .i64 0]) ∧ Keeps B w') := Lib.hid fun W B kb k => Calls.mono (od_msg 3 oR oS 4 300 3 W (hp.keeps (kb.trans k)) o_small.1 o_small.2.1) fun e w' h => by
    obtain ⟨t, o, kk, S, Q, A, rfl, hm, k2⟩ := h
    obtain ⟨rfl, rfl, rfl, rfl, rfl, rfl⟩ := hm.same o_m3
    exact ⟨rfl, k.trans k2⟩
  have C4 : Hid (∀ W B, Keeps B W → Calls Tryd.prog 11 #[.agg #[.int .i64 3, .string ⟨#[97, 32, 98]⟩, .string ⟨#[110, 117, 116]⟩, .int .i64 4, .int .i64 300]] W fun e w' => e = .returned (.int .i64 2) ∧ Keeps B w') := Lib.hid fun W B k => Calls.mono (o_a ▸ od_check 3 oA oS 4 300 W o_small.2.2.1 o_small.2.1) fun e w' h => ⟨h.1, k.trans h.2⟩
  have C5 : Hid (∀ W B, Keeps B W → Calls Tryd.prog 11 #[.agg #[.int .i64 3, .string ⟨#[82, 45, 49]⟩, .string ⟨#[49, 50, 51, 52, 53, 54, 55, 56, 57]⟩, .int .i64 4, .int .i64 300]] W fun e w' => e = .returned (.int .i64 3) ∧ Keeps B w') := Lib.hid fun W B k => Calls.mono (o_b ▸ od_check 3 oR oN 4 300 W o_small.1 o_small.2.2.2) fun e w' h => ⟨h.1, k.trans h.2⟩
  have C6 : Hid (∀ W B, Keeps B W → Calls Tryd.prog 11 #[.agg #[.int .i64 3, .string ⟨#[82, 45, 49]⟩, .string ⟨#[110, 117, 116]⟩, .int .i64 0, .int .i64 300]] W fun e w' => e = .returned (.int .i64 2) ∧ Keeps B w') := Lib.hid fun W B k => Calls.mono (o_c ▸ od_check 3 oR oS 0 300 W o_small.1 o_small.2.1) fun e w' h => ⟨h.1, k.trans h.2⟩
  clear hp
  go_enter Tryd.func8, Tryd.ntmps8
  go_upto_region 2 with (fail)
  go_cut [2, 3, 4] from 6 (fun v2 v3 v4 W => ThreeAt w v2 v3 v4 W)
  case first =>
    clear C1 C2 C3 C4 C5 C6
    go_region
    all_goals
      go_wp2
      go_meet
      case rel => exact three_mk w _ _ _ (by omega) (by omega) (by omega) (by omega) (by omega) (by omega)
  case rest =>
    obtain ⟨b, c, d, rfl, rfl, rfl, hb, hc, hd, hbc, hbd, hcd, eb, ec, ed, hk⟩ := hcut
    obtain ⟨⟨_, z1, _, _, _⟩, _, f1, _, _, _⟩ := five_at (show wc.heap[b]? = some (.cells #[.int .i64 3, .string ⟨#[82, 45, 49]⟩, .string ⟨#[110, 117, 116]⟩, .int .i64 4, .int .i64 300] tOd (0, 0)) from eb)
    obtain ⟨⟨_, _, z2, _, _⟩, _, _, f2, _, _⟩ := five_at (show wc.heap[c]? = some (.cells #[.int .i64 3, .string ⟨#[82, 45, 49]⟩, .string ⟨#[110, 117, 116]⟩, .int .i64 4, .int .i64 300] tOd (0, 0)) from ec)
    obtain ⟨⟨_, _, _, z3, _⟩, _, _, _, f3, _⟩ := five_at (show wc.heap[d]? = some (.cells #[.int .i64 3, .string ⟨#[82, 45, 49]⟩, .string ⟨#[110, 117, 116]⟩, .int .i64 4, .int .i64 300] tOd (0, 0)) from ed)
    have hcb : c ≠ b := hbc.symm
    have hdb : d ≠ b := hbd.symm
    have hdc : d ≠ c := hcd.symm
    have EB := Lib.hid eb
    have EC := Lib.hid ec
    have ED := Lib.hid ed
    have HK := Lib.hid hk
    clear eb ec ed hk
    have hs1 : w.heap.size ≤ b := by omega
    have hs2 : w.heap.size ≤ c := by omega
    have hs3 : w.heap.size ≤ d := by omega
    obtain ⟨w3, hw3, k3, e0, e1, e2, e3⟩ : ∃ w3, (((wc.setCell ⟨b, 1, none⟩ (.string ⟨#[97, 32, 98]⟩)).setCell ⟨c, 2, none⟩ (.string ⟨#[49, 50, 51, 52, 53, 54, 55, 56, 57]⟩)).setCell ⟨d, 3, none⟩ (.int .i64 0)) = w3 ∧ Keeps w w3 ∧
        w3.heap[w.heap.size]? = some (.cells #[.int .i64 3, .string ⟨#[82, 45, 49]⟩, .string ⟨#[110, 117, 116]⟩, .int .i64 4, .int .i64 300] tOd (0, 0)) ∧ w3.heap[b]? = some (.cells #[.int .i64 3, .string ⟨#[97, 32, 98]⟩, .string ⟨#[110, 117, 116]⟩, .int .i64 4, .int .i64 300] tOd (0, 0)) ∧ w3.heap[c]? = some (.cells #[.int .i64 3, .string ⟨#[82, 45, 49]⟩, .string ⟨#[49, 50, 51, 52, 53, 54, 55, 56, 57]⟩, .int .i64 4, .int .i64 300] tOd (0, 0)) ∧ w3.heap[d]? = some (.cells #[.int .i64 3, .string ⟨#[82, 45, 49]⟩, .string ⟨#[110, 117, 116]⟩, .int .i64 0, .int .i64 300] tOd (0, 0)) := by
      refine ⟨_, rfl, ((((KB.out.trans HK.out).setCell (p := ⟨b, 1, none⟩) hs1 _).setCell (p := ⟨c, 2, none⟩) hs2 _).setCell (p := ⟨d, 3, none⟩) hs3 _), ?_, ?_, ?_, ?_⟩
      · rw [other_set _ _ _ _ _ (by omega), other_set _ _ _ _ _ (by omega), other_set _ _ _ _ _ (by omega), HK.out.block _ (by simp)]
        exact heap_alloc_new w oBx
      · rw [other_set _ _ _ _ _ hbd, other_set _ _ _ _ _ hbc]
        exact Joins.block_setCell (i := 1) EB.out _
      · rw [other_set _ _ _ _ _ hcd]
        exact Joins.block_setCell (i := 2) ((other_set _ _ _ _ _ hcb).trans EC.out) _
      · exact Joins.block_setCell (i := 3) ((other_set _ _ _ _ _ hdc).trans ((other_set _ _ _ _ _ hdb).trans ED.out)) _
    have K3 := Lib.hid k3
    have CX : Hid (∀ W, Keeps w3 W → W.heap[w.heap.size]? = some (.cells #[.int .i64 3, .string ⟨#[82, 45, 49]⟩, .string ⟨#[110, 117, 116]⟩, .int .i64 4, .int .i64 300] tOd (0, 0)) ∧ W.heap[b]? = some (.cells #[.int .i64 3, .string ⟨#[97, 32, 98]⟩, .string ⟨#[110, 117, 116]⟩, .int .i64 4, .int .i64 300] tOd (0, 0)) ∧ W.heap[c]? = some (.cells #[.int .i64 3, .string ⟨#[82, 45, 49]⟩, .string ⟨#[49, 50, 51, 52, 53, 54, 55, 56, 57]⟩, .int .i64 4, .int .i64 300] tOd (0, 0)) ∧ W.heap[d]? = some (.cells #[.int .i64 3, .string ⟨#[82, 45, 49]⟩, .string ⟨#[110, 117, 116]⟩, .int .i64 0, .int .i64 300] tOd (0, 0))) := Lib.hid fun W k =>
      ⟨(k.block _ (Array.getElem?_eq_some_iff.1 e0).1).trans e0, (k.block _ (Array.getElem?_eq_some_iff.1 e1).1).trans e1, (k.block _ (Array.getElem?_eq_some_iff.1 e2).1).trans e2, (k.block _ (Array.getElem?_eq_some_iff.1 e3).1).trans e3⟩
    have HW3 := Lib.hid hw3
    have HV := Lib.hid (Keeps.refl w3)
    clear hw3 k3 e0 e1 e2 e3
    go_upto_region 4 with (fail)
    rw [HW3.out]
    clear HW3 z1 z2 z3 f1 f2 f3 hs1 hs2 hs3 EB EC ED
    obtain ⟨g0, g1, g2, g3⟩ := CX.out _ HV.out
    obtain ⟨⟨x0, x1, x2, x3, x4⟩, _⟩ := five_at g0
    clear g0 g1 g2 g3
    go_wp2_with fail
    refine (C1.out _ w3 HV.out).mono ?_
    clear HV x0 x1 x2 x3 x4
    rintro e wv ⟨rfl, hv⟩
    have HV := Lib.hid hv
    clear hv
    obtain ⟨g0, g1, g2, g3⟩ := CX.out _ HV.out
    obtain ⟨⟨x0, x1, x2, x3, x4⟩, _⟩ := five_at g0
    clear g0 g1 g2 g3
    go_wp2_with fail
    refine (C2.out _ w3 K3.out HV.out).mono ?_
    clear HV x0 x1 x2 x3 x4
    rintro e wv ⟨rfl, hv⟩
    have HV := Lib.hid hv
    clear hv
    obtain ⟨g0, g1, g2, g3⟩ := CX.out _ HV.out
    obtain ⟨⟨x0, x1, x2, x3, x4⟩, _⟩ := five_at g0
    clear g0 g1 g2 g3
    go_wp2_with fail
    refine (C3.out _ w3 K3.out HV.out).mono ?_
    clear HV x0 x1 x2 x3 x4
    rintro e wv ⟨rfl, hv⟩
    have HV := Lib.hid hv
    clear hv
    obtain ⟨g0, g1, g2, g3⟩ := CX.out _ HV.out
    obtain ⟨⟨x0, x1, x2, x3, x4⟩, _⟩ := five_at g1
    clear g0 g1 g2 g3
    go_wp2_with fail
    refine (C4.out _ w3 HV.out).mono ?_
    clear HV x0 x1 x2 x3 x4
    rintro e wv ⟨rfl, hv⟩
    have HV := Lib.hid hv
    clear hv
    obtain ⟨g0, g1, g2, g3⟩ := CX.out _ HV.out
    obtain ⟨⟨x0, x1, x2, x3, x4⟩, _⟩ := five_at g2
    clear g0 g1 g2 g3
    go_wp2_with fail
    refine (C5.out _ w3 HV.out).mono ?_
    clear HV x0 x1 x2 x3 x4
    rintro e wv ⟨rfl, hv⟩
    have HV := Lib.hid hv
    clear hv
    obtain ⟨g0, g1, g2, g3⟩ := CX.out _ HV.out
    obtain ⟨⟨x0, x1, x2, x3, x4⟩, _⟩ := five_at g3
    clear g0 g1 g2 g3
    go_wp2_with fail
    refine (C6.out _ w3 HV.out).mono ?_
    clear HV x0 x1 x2 x3 x4
    rintro e wv ⟨rfl, hv⟩
    have HV := Lib.hid hv
    clear hv
    go_wp2
    go_ret
    exact ⟨rfl, K3.out.trans HV.out⟩
end Go.Proofs.YtonjkgonbfimjaaDoor
