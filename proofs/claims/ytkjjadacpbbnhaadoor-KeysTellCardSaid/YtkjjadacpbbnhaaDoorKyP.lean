/- What the program's keys answer (proved of its code in KyC), and the laws' own helpers out of it: got, keyed. -/
import Derived.Test.YtkjjadacpbbnhaaDoorKyC1
import Derived.Test.YtkjjadacpbbnhaaDoorMaxLen
import Derived.WalkKit
set_option linter.unusedVariables false
namespace Go.Proofs.YtkjjadacpbbnhaaDoor
open Go.ChangeShapes Go.WideShapes Go.ChangeAt Go.RowKit Mon Ky

/-- What the program's variables hold that keys reads. -/
def HasK (w : World) : Prop := HasP w ∧ HasMax w
theorem HasK.keeps {w w' : World} (h : HasK w) (k : Keeps w w') : HasK w' := ⟨h.1.keeps k, h.2.keeps k⟩
structure KyP : Prop where
  check : ∀ (o d : Int) (w : World), I64 o → I64 d → Calls Tryd.prog 13 #[kyV o d] w fun e w' => e = .returned (.bool (checkK o d)) ∧ Keeps w w'
  party : ∀ (d : Int) (w : World), HasK w → I64 d → Calls Tryd.prog 9 #[.int .i64 d] w fun e w' => e = .returned (.int .i64 (partyK d)) ∧ Keeps w w'
  undoes : ∀ (d : Int) (w : World), I64 d → Calls Tryd.prog 7 #[.int .i64 d] w fun e w' => e = .returned (.tuple #[.int .i64 (undoW d), .bool (undoB d)]) ∧ Keeps w w'
  word : ∀ (d : Int) (w : World), I64 d → Calls Tryd.prog 11 #[.int .i64 d] w fun e w' => e = .returned (.string (wordS d)) ∧ Keeps w w'
  deed : ∀ (s : ByteArray) (w : World), s.size ≤ 100 → Calls Tryd.prog 21 #[.string s] w fun e w' => e = .returned (.tuple #[.int .i64 (deedV s.data.toList), .bool (deedB s.data.toList)]) ∧ Keeps w w'
  less : ∀ (o d o' d' : Int) (w : World), I64 o → I64 d → I64 o' → I64 d' → Calls Tryd.prog 17 #[kyV o d, kyV o' d'] w fun e w' => e = .returned (.bool (lessK o d o' d')) ∧ Keeps w w'
  put : ∀ (o d : Int) (w : World), I64 o → I64 d → Calls Tryd.prog 15 #[kyV o d] w fun e w' => e = .returned (.string (putS o d)) ∧ Keeps w w'
  get : ∀ (s : ByteArray) (w : World), HasK w → s.size ≤ 100 → Calls Tryd.prog 29 #[.string s] w (GetOut s.data.toList w)

set_option maxHeartbeats 1000000 in
theorem got_any (P : KyP) (s : ByteArray) (o d : Int) (ok : Bool) (w : World) (hw : HasK w) (hs : s.size ≤ 100) (h : GetIs s.data.toList o d ok) :
    Calls Tryd.prog 23 #[.string s, kyV o d, .bool ok] w fun e w' => e = .returned (.bool true) ∧ Keeps w w' := by
  have HG := Lib.hid (P.get s (w.alloc (.cells #[.int .i64 o, .int .i64 d] tKy)) (hw.keeps (ky_box w _)) hs)
  have H := Lib.hid h
  have KB := Lib.hid (ky_box w (.cells #[.int .i64 o, .int .i64 d] tKy))
  have hbx := heap_alloc_new w (.cells #[.int .i64 o, .int .i64 d] tKy)
  have CX : Hid (∀ W, Keeps (w.alloc (.cells #[.int .i64 o, .int .i64 d] tKy)) W → W.cell? ⟨w.heap.size, 0, none⟩ = some (.int .i64 o) ∧ W.cell? ⟨w.heap.size, 1, none⟩ = some (.int .i64 d)) := Lib.hid fun W k => by
    have e := (k.block _ (by simp)).trans hbx
    exact ⟨Joins.cell_of_block e 0, Joins.cell_of_block e 1⟩
  clear hbx h P hw
  unfold kyV
  go_enter Tryd.func23, Tryd.ntmps23
  go_wp2_with fail
  refine HG.out.mono ?_
  rintro e w1 ⟨o', d', ok', rfl, hg, k1⟩
  obtain ⟨rfl, rfl, rfl⟩ := GetIs.same H.out hg
  have K1 := Lib.hid k1
  have K01 := Lib.hid (KB.out.trans k1)
  obtain ⟨x0, x1⟩ := CX.out _ (K1.out.trans (ky_box w1 (.cells #[.int .i64 o, .int .i64 d] tKy)))
  clear k1 hg
  unfold kyV
  go_wp2
  go_ret
  exact ⟨rfl, K01.out.trans (ky_box _ _)⟩

theorem ky64 {n : Int} (h : decide (-9223372036854775808 ≤ n) && decide (n ≤ 9223372036854775807) = true) : I64 n := by
  simp at h; unfold I64 top; omega
theorem lit_put : putS 12 4 = ⟨#[49, 50, 45, 114, 101, 102, 117, 110, 100]⟩ := by decide +kernel
theorem lit_yes : GetIs [49, 50, 45, 114, 101, 102, 117, 110, 100] 12 4 true := Or.inl ⟨rfl, ⟨by decide, by decide, by decide, by decide⟩, by decide +kernel⟩
theorem lit_no (a r : List UInt8) (n : Int) (ha : ∀ c ∈ a, isDig c = true) (hg : guess a = n) (hn : n < 1 ∨ 61 ≤ n ∨ put n ≠ a) : GetIs (a ++ 45 :: r) 0 0 false := by
  refine Or.inr ⟨rfl, rfl, rfl, fun o d hc e => ?_⟩
  rw [putK_yes hc] at e
  obtain ⟨e1, e2⟩ := cut_dash (put_digits hc.o0) ha e
  have e3 := put_guess (n := o) (by have := hc.o0; unfold top; omega) (by have := hc.o1; unfold top; omega)
  rw [e1, hg] at e3
  subst e3
  have := hc.o0
  have := hc.o1
  rcases hn with h | h | h
  · omega
  · omega
  · exact h e1
theorem lit_012 : GetIs [48, 49, 50, 45, 114, 101, 102, 117, 110, 100] 0 0 false := lit_no [48, 49, 50] _ 12 (by decide) (by decide +kernel) (Or.inr (Or.inr (by decide +kernel)))
theorem lit_61 : GetIs [54, 49, 45, 115, 104, 105, 112] 0 0 false := lit_no [54, 49] _ 61 (by decide) (by decide +kernel) (Or.inr (Or.inl (by decide)))
set_option maxHeartbeats 4000000 in
theorem keyed_any (P : KyP) (w : World) (hw : HasK w) : Calls Tryd.prog 19 #[] w fun e w' => e = .returned (.bool true) ∧ Keeps w w' := by
  have hbx := heap_alloc_new w (.cells #[.int .i64 12, .int .i64 4] tKy)
  have KB := Lib.hid (ky_box w (.cells #[.int .i64 12, .int .i64 4] tKy))
  have CX : Hid (∀ W, Keeps (w.alloc (.cells #[.int .i64 12, .int .i64 4] tKy)) W → W.cell? ⟨w.heap.size, 0, none⟩ = some (.int .i64 12) ∧ W.cell? ⟨w.heap.size, 1, none⟩ = some (.int .i64 4)) := Lib.hid fun W k => by
    have e := (k.block _ (by simp)).trans hbx
    exact ⟨Joins.cell_of_block e 0, Joins.cell_of_block e 1⟩
  have hb := hw.keeps (ky_box w (.cells #[.int .i64 12, .int .i64 4] tKy))
  have U5 : Hid (∀ W B, Keeps B W → Calls Tryd.prog 7 #[.int .i64 5] W fun e w' => e = .returned (.tuple #[.int .i64 2, .bool true]) ∧ Keeps B w') := Lib.hid fun W B k => Calls.mono (P.undoes 5 W (ky64 (by decide))) fun e w' h => ⟨h.1, k.trans h.2⟩
  have U2 : Hid (∀ W B, Keeps B W → Calls Tryd.prog 7 #[.int .i64 2] W fun e w' => e = .returned (.tuple #[.int .i64 0, .bool false]) ∧ Keeps B w') := Lib.hid fun W B k => Calls.mono (P.undoes 2 W (ky64 (by decide))) fun e w' h => ⟨h.1, k.trans h.2⟩
  have PT : Hid (∀ W B, Keeps B W → Calls Tryd.prog 15 #[.agg #[.int .i64 12, .int .i64 4]] W fun e w' => e = .returned (.string ⟨#[49, 50, 45, 114, 101, 102, 117, 110, 100]⟩) ∧ Keeps B w') := Lib.hid fun W B k => Calls.mono (lit_put ▸ P.put 12 4 W (ky64 (by decide)) (ky64 (by decide))) fun e w' h => ⟨h.1, k.trans h.2⟩
  have GA : Hid (∀ W, Keeps (w.alloc (.cells #[.int .i64 12, .int .i64 4] tKy)) W → Calls Tryd.prog 23 #[.string ⟨#[49, 50, 45, 114, 101, 102, 117, 110, 100]⟩, .agg #[.int .i64 12, .int .i64 4], .bool true] W fun e w' => e = .returned (.bool true) ∧ Keeps (w.alloc (.cells #[.int .i64 12, .int .i64 4] tKy)) w') := Lib.hid fun W k => Calls.mono (got_any P _ 12 4 true W (hb.keeps k) (by decide) lit_yes) fun e w' h => ⟨h.1, k.trans h.2⟩
  have GB : Hid (∀ W, Keeps (w.alloc (.cells #[.int .i64 12, .int .i64 4] tKy)) W → Calls Tryd.prog 23 #[.string ⟨#[48, 49, 50, 45, 114, 101, 102, 117, 110, 100]⟩, .agg #[.int .i64 0, .int .i64 0], .bool false] W fun e w' => e = .returned (.bool true) ∧ Keeps (w.alloc (.cells #[.int .i64 12, .int .i64 4] tKy)) w') := Lib.hid fun W k => Calls.mono (got_any P _ 0 0 false W (hb.keeps k) (by decide) lit_012) fun e w' h => ⟨h.1, k.trans h.2⟩
  have GC : Hid (∀ W, Keeps (w.alloc (.cells #[.int .i64 12, .int .i64 4] tKy)) W → Calls Tryd.prog 23 #[.string ⟨#[54, 49, 45, 115, 104, 105, 112]⟩, .agg #[.int .i64 0, .int .i64 0], .bool false] W fun e w' => e = .returned (.bool true) ∧ Keeps (w.alloc (.cells #[.int .i64 12, .int .i64 4] tKy)) w') := Lib.hid fun W k => Calls.mono (got_any P _ 0 0 false W (hb.keeps k) (by decide) lit_61) fun e w' h => ⟨h.1, k.trans h.2⟩
  have P2 : Hid (∀ W, Keeps (w.alloc (.cells #[.int .i64 12, .int .i64 4] tKy)) W → Calls Tryd.prog 9 #[.int .i64 2] W fun e w' => e = .returned (.int .i64 2) ∧ Keeps (w.alloc (.cells #[.int .i64 12, .int .i64 4] tKy)) w') := Lib.hid fun W k => Calls.mono (P.party 2 W (hb.keeps k) (ky64 (by decide))) fun e w' h => ⟨h.1, k.trans h.2⟩
  have P9 : Hid (∀ W, Keeps (w.alloc (.cells #[.int .i64 12, .int .i64 4] tKy)) W → Calls Tryd.prog 9 #[.int .i64 9] W fun e w' => e = .returned (.int .i64 (-1)) ∧ Keeps (w.alloc (.cells #[.int .i64 12, .int .i64 4] tKy)) w') := Lib.hid fun W k => Calls.mono (P.party 9 W (hb.keeps k) (ky64 (by decide))) fun e w' h => ⟨h.1, k.trans h.2⟩
  have L1 : Hid (∀ W B, Keeps B W → Calls Tryd.prog 17 #[.agg #[.int .i64 1, .int .i64 5], .agg #[.int .i64 2, .int .i64 0]] W fun e w' => e = .returned (.bool true) ∧ Keeps B w') := Lib.hid fun W B k => Calls.mono (P.less 1 5 2 0 W (ky64 (by decide)) (ky64 (by decide)) (ky64 (by decide)) (ky64 (by decide))) fun e w' h => ⟨h.1, k.trans h.2⟩
  have L2 : Hid (∀ W B, Keeps B W → Calls Tryd.prog 17 #[.agg #[.int .i64 2, .int .i64 0], .agg #[.int .i64 2, .int .i64 0]] W fun e w' => e = .returned (.bool false) ∧ Keeps B w') := Lib.hid fun W B k => Calls.mono (P.less 2 0 2 0 W (ky64 (by decide)) (ky64 (by decide)) (ky64 (by decide)) (ky64 (by decide))) fun e w' h => ⟨h.1, k.trans h.2⟩
  have HV := Lib.hid (Keeps.refl (w.alloc (.cells #[.int .i64 12, .int .i64 4] tKy)))
  clear hbx P hw hb
  go_enter Tryd.func19, Tryd.ntmps19
  go_wp2_with fail
  refine (U5.out _ _ HV.out).mono ?_
  clear HV U5
  rintro e wv ⟨rfl, hv⟩
  have HV := Lib.hid hv
  obtain ⟨xv, yv⟩ := CX.out _ hv
  clear hv
  go_wp2_with fail
  refine (U2.out _ _ HV.out).mono ?_
  clear HV U2
  rintro e wv ⟨rfl, hv⟩
  have HV := Lib.hid hv
  obtain ⟨xv, yv⟩ := CX.out _ hv
  clear hv
  go_wp2_with fail
  refine (PT.out _ _ HV.out).mono ?_
  clear HV PT
  rintro e wv ⟨rfl, hv⟩
  have HV := Lib.hid hv
  obtain ⟨xv, yv⟩ := CX.out _ hv
  clear hv
  go_wp2_with fail
  refine (GA.out _ HV.out).mono ?_
  clear HV GA
  rintro e wv ⟨rfl, hv⟩
  have HV := Lib.hid hv
  obtain ⟨xv, yv⟩ := CX.out _ hv
  clear hv
  go_wp2_with fail
  refine (GB.out _ HV.out).mono ?_
  clear HV GB
  rintro e wv ⟨rfl, hv⟩
  have HV := Lib.hid hv
  obtain ⟨xv, yv⟩ := CX.out _ hv
  clear hv
  go_wp2_with fail
  refine (GC.out _ HV.out).mono ?_
  clear HV GC
  rintro e wv ⟨rfl, hv⟩
  have HV := Lib.hid hv
  obtain ⟨xv, yv⟩ := CX.out _ hv
  clear hv
  go_wp2_with fail
  refine (P2.out _ HV.out).mono ?_
  clear HV P2
  rintro e wv ⟨rfl, hv⟩
  have HV := Lib.hid hv
  obtain ⟨xv, yv⟩ := CX.out _ hv
  clear hv
  go_wp2_with fail
  refine (P9.out _ HV.out).mono ?_
  clear HV P9
  rintro e wv ⟨rfl, hv⟩
  have HV := Lib.hid hv
  obtain ⟨xv, yv⟩ := CX.out _ hv
  clear hv
  go_wp2_with fail
  refine (L1.out _ _ HV.out).mono ?_
  clear HV L1
  rintro e wv ⟨rfl, hv⟩
  have HV := Lib.hid hv
  obtain ⟨xv, yv⟩ := CX.out _ hv
  clear hv
  go_wp2_with fail
  refine (L2.out _ _ HV.out).mono ?_
  clear HV L2
  rintro e wv ⟨rfl, hv⟩
  have HV := Lib.hid hv
  obtain ⟨xv, yv⟩ := CX.out _ hv
  clear hv
  go_wp2_with fail
  go_ret
  exact ⟨rfl, KB.out.trans HV.out⟩
end Go.Proofs.YtkjjadacpbbnhaaDoor
