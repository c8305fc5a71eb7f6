
/- RowsBack, out of what the program answers (RwP): the walk. -/
import Derived.Test.YtomonhghioamfaaDoorRwP
set_option linter.unusedVariables false
namespace Go.Proofs.YtomonhghioamfaaDoor
open Go.ChangeShapes Go.WideShapes Go.ChangeAt Go.RowKit Bit Ky Rw Csv

theorem stated_from (P : RwP) (w : World) (hp : HasP w) : ∀ B, Keeps w B → ∀ W, Keeps B W → Calls Tryd.prog 8 #[] W fun e w' => e = .returned (.bool true) ∧ Keeps B w' := fun B kb W k =>
  (stated_any P W (hp.keeps (kb.trans k))).mono fun e w' h => ⟨h.1, k.trans h.2⟩
/-- What Get leaves, where it is known. -/
def GotIs (p s : Int) (L : List R) (c : Int) (n : Nat) (B : World) (e : Ending) (w' : World) : Prop := ∃ pa ca, e = .returned (.tuple #[.agg #[.int .i64 p, .int .i64 s, .slice pa n ca], .int .i64 c]) ∧ RowsIn w' (.slice pa n ca) L ∧ Keeps B w'
theorem get_is (P : RwP) (w : World) (hp : HasP w) {p s c : Int} {L : List R} {t : ByteArray} (ht : t.size ≤ 50000) (hi : IsS t.data.toList p s L c) {n : Nat} (hn : L.length = n) : ∀ B, Keeps w B → ∀ W, Keeps B W → Calls Tryd.prog 18 #[.string t] W (GotIs p s L c n B) := fun B kb W k =>
  (P.get t W (hp.keeps (kb.trans k)) ht).mono fun e w' ⟨p', s', L', v', c', he, hi', hr, k2⟩ => by
    obtain ⟨rfl, rfl, rfl, rfl⟩ := hi.same hi'
    subst hn
    have hr' := hr
    obtain ⟨pa, ca, rfl, _⟩ := hr
    exact ⟨pa, ca, he, hr', k.trans k2⟩
theorem same_is (P : RwP) {p s p' s' : Int} {L M : List R} {b : Bool} (hb : sameB p s p' s' L M = b) : ∀ (v v' : Value) (B W : World), RowsIn B v L → RowsIn B v' M → Keeps B W → Calls Tryd.prog 20 #[stV p s v, stV p' s' v'] W fun e w' => e = .returned (.bool b) ∧ Keeps B w' := fun v v' B W h g k =>
  (hb ▸ P.same p s p' s' v v' L M W (h.keeps k) (g.keeps k)).mono fun e w' x => ⟨x.1, k.trans x.2⟩
abbrev sB (p s : Int) (v : Value) : Obj := .cells #[.int .i64 p, .int .i64 s, v] tSt
theorem sB_at {W : World} {b : Nat} {p s : Int} {v : Value} (h : W.heap[b]? = some (sB p s v)) : W.cell? ⟨b, 0, none⟩ = some (.int .i64 p) ∧ W.cell? ⟨b, 1, none⟩ = some (.int .i64 s) ∧ W.cell? ⟨b, 2, none⟩ = some v :=
  ⟨Joins.cell_of_block h 0, Joins.cell_of_block h 1, Joins.cell_of_block h 2⟩
theorem box_in {w W : World} {n : Nat} {o : Obj} (h : w.heap[n]? = some o) (k : Keeps w W) : W.heap[n]? = some o := (k.block _ (Array.getElem?_eq_some_iff.1 h).1).trans h
set_option maxHeartbeats 16000000 in
set_option maxRecDepth 100000 in
theorem rowsBack_go (P : RwP) (p s : Int) (v : Value) (L : List R) (h : ByteArray) (C : Nat) (w : World) (hp : HasP w) (hl : RowsIn w v L) (hh : h.size ≤ maxLen) (hC : C < 65536) :
    Calls Tryd.prog 5 #[stV p s v, .string h, .int .u16 C] w fun e w' => e = .returned (.bool true) ∧ Keeps w w' := by
  have HL0 := Lib.hid hl
  obtain ⟨pp, cp, rfl, hmx, _, _⟩ := hl
  obtain ⟨N, hN⟩ : ∃ N, L.length = N := ⟨_, rfl⟩
  have HN := Lib.hid hN
  rw [hN] at hmx HL0 ⊢
  clear hN
  have KB : Hid (Keeps w (w.alloc (sB p s (.slice pp N cp)))) := Lib.hid (ky_box w _)
  have SF := Lib.hid (stated_from P w hp)
  have ST := Lib.hid (SF.out _ KB.out)
  have HL := Lib.hid (HL0.out.keeps KB.out)
  have CX : Hid (∀ W, Keeps (w.alloc (sB p s (.slice pp N cp))) W → W.heap[w.heap.size]? = some (sB p s (.slice pp N cp))) := Lib.hid fun W k => box_in (heap_alloc_new w _) k
  obtain ⟨b, hb⟩ : ∃ b, validB p s L = b := ⟨_, rfl⟩
  obtain ⟨X, hX⟩ : ∃ X, putSB p s L = X := ⟨_, rfl⟩
  have C1 : Hid (∀ W, Keeps (w.alloc (sB p s (.slice pp N cp))) W → Calls Tryd.prog 13 #[.agg #[.int .i64 p, .int .i64 s, .slice pp N cp]] W fun e w' => e = .returned (.string X) ∧ Keeps (w.alloc (sB p s (.slice pp N cp))) w') := Lib.hid fun W k => (hX ▸ P.put p s _ L W (hp.keeps (KB.out.trans k)) (HL.out.keeps k)).mono fun e w' g => ⟨g.1, k.trans g.2⟩
  have C2 : Hid (∀ W, Keeps (w.alloc (sB p s (.slice pp N cp))) W → Calls Tryd.prog 11 #[.agg #[.int .i64 p, .int .i64 s, .slice pp N cp]] W fun e w' => e = .returned (.bool b) ∧ Keeps (w.alloc (sB p s (.slice pp N cp))) w') := Lib.hid fun W k => (hb ▸ P.valid p s _ L W (hp.keeps (KB.out.trans k)) (HL.out.keeps k)).mono fun e w' g => ⟨g.1, k.trans g.2⟩
  have PP := Lib.hid P
  have HP := Lib.hid hp
  have HB := Lib.hid hb
  have HX := Lib.hid hX
  unfold maxLen at hh hmx
  clear hb hX hp P
  unfold stV
  by_cases hbig : N ≤ 100 ∧ h.size ≤ 50
  rotate_left
  · rcases (show 100 < N ∨ (N ≤ 100 ∧ 50 < h.size) from by omega) with g | ⟨g, g2⟩
    all_goals
      clear hbig
      go_enter Tryd.func5, Tryd.ntmps5
      go_wp2_with fail
      refine (ST.out _ (Keeps.refl _)).mono ?_
      rintro e w1 ⟨rfl, k1⟩
      go_wp2
      go_ret
      exact ⟨rfl, KB.out.trans k1⟩
  obtain ⟨h100, h50⟩ := hbig
  cases b with
  | false =>
    obtain rfl : X = ⟨#[]⟩ := by rw [← HX.out]; unfold putSB; rw [putS_no (fun g => by have := HB.out; rw [valid_iff.2 g] at this; cases this)]
    go_enter Tryd.func5, Tryd.ntmps5
    go_wp2_with fail
    refine (C1.out _ (Keeps.refl _)).mono ?_
    rintro e w1 ⟨rfl, k1⟩
    have HV := Lib.hid k1
    clear k1
    obtain ⟨x0, x1, x2⟩ := sB_at (CX.out _ HV.out)
    go_wp2_with fail
    refine (C2.out _ HV.out).mono ?_
    clear HV x0 x1 x2
    rintro e w1 ⟨rfl, k1⟩
    have HV := Lib.hid k1
    clear k1
    go_wp2_with fail
    refine (ST.out _ HV.out).mono ?_
    rintro e w1 ⟨rfl, k1⟩
    go_wp2
    go_ret
    exact ⟨rfl, KB.out.trans k1⟩
  | true =>
    have VA := Lib.hid (valid_iff.1 HB.out)
    have PX : Hid (putR p s L = X.data.toList) := Lib.hid (by rw [← HX.out, ← putS_yes VA.out]; rfl)
    have hx1 : 1 ≤ X.size := by rw [← len_data, ← PX.out]; exact put_ne
    have hx2 : X.size ≤ 20030 := HX.out ▸ putSB_le p s L
    have hx0 : ((X.size : Int) == 0) = false := by rw [beq_eq_false_iff_ne]; omega
    have hxe : ¬ X = ByteArray.empty := fun e => by rw [e] at hx1; exact absurd hx1 (by decide)
    obtain ⟨m, hm⟩ : ∃ m, C % X.size = m := ⟨_, rfl⟩
    have hmX : m < X.size := hm ▸ Nat.mod_lt _ (by omega)
    have hm1 : (C : Int) % (X.size : Int) = (m : Int) := by rw [← hm]; omega
    have hm2 : Int.tmod (C : Int) (X.size : Int) = (m : Int) := by rw [Int.tmod_eq_emod_of_nonneg (by omega)]; exact hm1
    obtain ⟨Y, hY⟩ : ∃ Y, X.extract 0 m = Y := ⟨_, rfl⟩
    obtain ⟨Z, hZ⟩ : ∃ Z, X ++ h = Z := ⟨_, rfl⟩
    have hYl : Y.data.toList = X.data.toList.take m := by rw [← hY, ← ByteArray.toList_eq, extract_list]; simp
    have hZl : Z.data.toList = X.data.toList ++ h.data.toList := by rw [← hZ]; simp
    have hYs : Y.size ≤ 50000 := by rw [← len_data, hYl, List.length_take, len_data]; omega
    have hZs : Z.size ≤ 50000 := by rw [← hZ, ByteArray.size_append]; omega
    have G1 := Lib.hid (get_is PP.out w HP.out (t := X) (by omega) (Or.inl ⟨VA.out, PX.out, rfl⟩) HN.out)
    have G2 := Lib.hid (get_is PP.out w HP.out (t := Y) (p := 0) (s := 0) (L := []) (c := 10) hYs (Or.inr ⟨by rw [hYl, ← PX.out]; exact none_cut VA.out (by rw [PX.out, len_data]; exact hmX), rfl, rfl, rfl, rfl⟩) rfl)
    have G3 := Lib.hid fun (h0 : h.size = 0) => get_is PP.out w HP.out (t := Z) hZs (Or.inl ⟨VA.out, by rw [hZl, emp_is h0, PX.out]; simp, rfl⟩) HN.out
    have G4 := Lib.hid fun (hne : h.data.toList ≠ []) => get_is PP.out w HP.out (t := Z) (p := 0) (s := 0) (L := []) (c := 10) hZs (Or.inr ⟨by rw [hZl, ← PX.out]; exact none_more VA.out hne, rfl, rfl, rfl, rfl⟩) rfl
    have S1 := Lib.hid (same_is PP.out (p := p) (s := s) (p' := p) (s' := s) (L := L) (M := L) (b := true) (by unfold sameB; exact decide_eq_true ⟨rfl, rfl, rfl⟩))
    have S2 := Lib.hid (same_is PP.out (p := 0) (s := 0) (p' := 0) (s' := 0) (L := []) (M := []) (b := true) (by unfold sameB; exact decide_eq_true ⟨rfl, rfl, rfl⟩))
    have S3 := Lib.hid (same_is PP.out (p := 0) (s := 0) (p' := p) (s' := s) (L := []) (M := L) (b := false) (same_no fun e => by have := VA.out.s0; omega))
    unfold stV at S1 S2 S3
    have nz : ¬ (9223372036854775807 < X.size + h.size) := by omega
    have HM := Lib.hid hm
    have HY := Lib.hid hY
    have HZ := Lib.hid hZ
    have hmX2 : m ≤ X.size := by omega
    clear hYl hZl hYs hZs hm
    go_enter Tryd.func5, Tryd.ntmps5
    go_wp2_with fail
    refine (C1.out _ (Keeps.refl _)).mono ?_
    rintro e w1 ⟨rfl, k1⟩
    have HV := Lib.hid k1
    clear k1
    obtain ⟨x0, x1, x2⟩ := sB_at (CX.out _ HV.out)
    go_wp2_with fail
    refine (C2.out _ HV.out).mono ?_
    clear HV x0 x1 x2
    rintro e w1 ⟨rfl, k1⟩
    have HV := Lib.hid k1
    clear k1 C1 C2
    go_wp2_with fail
    refine (G1.out _ KB.out _ HV.out).mono ?_
    clear HV
    rintro e wa ⟨pa, ca, rfl, ra, ka⟩
    have RA := Lib.hid ra
    have KA := Lib.hid ka
    have A1 : Hid (Keeps wa (wa.alloc (sB p s (.slice pa N ca)))) := Lib.hid (ky_box wa _)
    clear ra ka
    go_wp2_with fail
    refine (G2.out _ ((KB.out.trans KA.out).trans A1.out) _ (Keeps.refl _)).mono ?_
    rintro e wb ⟨pb, cb, rfl, rb, kb⟩
    have RB := Lib.hid rb
    have KBB := Lib.hid kb
    have A2 : Hid (Keeps wb (wb.alloc (sB 0 0 (.slice pb 0 cb)))) := Lib.hid (ky_box wb _)
    have KW2 := Lib.hid ((((KB.out.trans KA.out).trans A1.out).trans kb).trans A2.out)
    clear rb kb hm1 hm2
    by_cases h0 : h.size = 0
    · have G5 := Lib.hid (G3.out h0)
      obtain rfl := emp_is h0
      have zz := emp_list
      clear h0
      go_wp2_with fail
      refine (G5.out _ KW2.out _ (Keeps.refl _)).mono ?_
      rintro e wd ⟨pd, cd, rfl, rd, kd⟩
      obtain ⟨w6, hw6, k6, e0, e1, e2, e3⟩ : ∃ w6, wd.alloc (sB p s (.slice pd N cd)) = w6 ∧ Keeps wd w6 ∧ w6.heap[w.heap.size]? = some (sB p s (.slice pp N cp)) ∧ w6.heap[wa.heap.size]? = some (sB p s (.slice pa N ca)) ∧ w6.heap[wb.heap.size]? = some (sB 0 0 (.slice pb 0 cb)) ∧ w6.heap[wd.heap.size]? = some (sB p s (.slice pd N cd)) := by
        have kk := kd.trans (ky_box wd (sB p s (.slice pd N cd)))
        exact ⟨_, rfl, ky_box wd _, CX.out _ (KA.out.trans (A1.out.trans (KBB.out.trans (A2.out.trans kk)))), box_in (heap_alloc_new wa _) (KBB.out.trans (A2.out.trans kk)), box_in (heap_alloc_new wb _) kk, heap_alloc_new wd _⟩
      have HW6 := Lib.hid hw6
      have BASE := Lib.hid (KA.out.trans (A1.out.trans (KBB.out.trans (A2.out.trans (kd.trans k6)))))
      have R0 := Lib.hid (HL.out.keeps BASE.out)
      have R1 := Lib.hid (RA.out.keeps (A1.out.trans (KBB.out.trans (A2.out.trans (kd.trans k6)))))
      have R2 := Lib.hid (RB.out.keeps (A2.out.trans (kd.trans k6)))
      have R3 := Lib.hid (rd.keeps k6)
      have CZ : Hid (∀ W, Keeps w6 W → (W.heap[w.heap.size]? = some (sB p s (.slice pp N cp)) ∧ W.heap[wa.heap.size]? = some (sB p s (.slice pa N ca))) ∧ W.heap[wb.heap.size]? = some (sB 0 0 (.slice pb 0 cb)) ∧ W.heap[wd.heap.size]? = some (sB p s (.slice pd N cd))) := Lib.hid fun W k => ⟨⟨box_in e0 k, box_in e1 k⟩, box_in e2 k, box_in e3 k⟩
      have ST2 := Lib.hid (SF.out w6 (KB.out.trans BASE.out))
      have HV := Lib.hid (Keeps.refl w6)
      clear rd kd hw6 k6 e0 e1 e2 e3 G1 G2 G3 G4 G5
      go_upto_region 11 with (fail)
      rw [HW6.out]
      clear HW6
      obtain ⟨⟨h0, h1⟩, h2, h3⟩ := CZ.out _ HV.out
      obtain ⟨x0, x1, x2⟩ := sB_at h0
      obtain ⟨y0, y1, y2⟩ := sB_at h1
      clear h0 h1 h2 h3
      go_wp2_with fail
      refine (S1.out _ _ _ _ R1.out R0.out HV.out).mono ?_
      clear HV x0 x1 x2 y0 y1 y2
      rintro e wv ⟨rfl, hv⟩
      have HV := Lib.hid hv
      clear hv
      obtain ⟨⟨h0, h1⟩, h2, h3⟩ := CZ.out _ HV.out
      obtain ⟨x0, x1, x2⟩ := sB_at h2
      clear h0 h1 h2 h3
      go_wp2_with fail
      refine (S2.out _ _ _ _ R2.out (rows_nil w6) HV.out).mono ?_
      clear HV x0 x1 x2
      rintro e wv ⟨rfl, hv⟩
      have HV := Lib.hid hv
      clear hv
      obtain ⟨⟨h0, h1⟩, h2, h3⟩ := CZ.out _ HV.out
      obtain ⟨x0, x1, x2⟩ := sB_at h3
      obtain ⟨y0, y1, y2⟩ := sB_at h1
      clear h0 h1 h2 h3
      go_wp2_with fail
      refine (S1.out _ _ _ _ R3.out R1.out HV.out).mono ?_
      clear HV x0 x1 x2 y0 y1 y2
      rintro e wv ⟨rfl, hv⟩
      have HV := Lib.hid hv
      clear hv
      go_wp2_with fail
      refine (ST2.out _ HV.out).mono ?_
      rintro e w9 ⟨rfl, k9⟩
      go_wp2
      go_ret
      exact ⟨rfl, KB.out.trans (BASE.out.trans k9)⟩
    · have G5 := Lib.hid (G4.out (fun e => h0 (by rw [← len_data, e]; rfl)))
      obtain ⟨zz1, zz2⟩ := emp_ne (show 1 ≤ h.size by omega)
      clear h0
      go_wp2_with fail
      refine (G5.out _ KW2.out _ (Keeps.refl _)).mono ?_
      rintro e wd ⟨pd, cd, rfl, rd, kd⟩
      obtain ⟨w6, hw6, k6, e0, e1, e2, e3⟩ : ∃ w6, wd.alloc (sB 0 0 (.slice pd 0 cd)) = w6 ∧ Keeps wd w6 ∧ w6.heap[w.heap.size]? = some (sB p s (.slice pp N cp)) ∧ w6.heap[wa.heap.size]? = some (sB p s (.slice pa N ca)) ∧ w6.heap[wb.heap.size]? = some (sB 0 0 (.slice pb 0 cb)) ∧ w6.heap[wd.heap.size]? = some (sB 0 0 (.slice pd 0 cd)) := by
        have kk := kd.trans (ky_box wd (sB 0 0 (.slice pd 0 cd)))
        exact ⟨_, rfl, ky_box wd _, CX.out _ (KA.out.trans (A1.out.trans (KBB.out.trans (A2.out.trans kk)))), box_in (heap_alloc_new wa _) (KBB.out.trans (A2.out.trans kk)), box_in (heap_alloc_new wb _) kk, heap_alloc_new wd _⟩
      have HW6 := Lib.hid hw6
      have BASE := Lib.hid (KA.out.trans (A1.out.trans (KBB.out.trans (A2.out.trans (kd.trans k6)))))
      have R0 := Lib.hid (HL.out.keeps BASE.out)
      have R1 := Lib.hid (RA.out.keeps (A1.out.trans (KBB.out.trans (A2.out.trans (kd.trans k6)))))
      have R2 := Lib.hid (RB.out.keeps (A2.out.trans (kd.trans k6)))
      have R3 := Lib.hid (rd.keeps k6)
      have CZ : Hid (∀ W, Keeps w6 W → (W.heap[w.heap.size]? = some (sB p s (.slice pp N cp)) ∧ W.heap[wa.heap.size]? = some (sB p s (.slice pa N ca))) ∧ W.heap[wb.heap.size]? = some (sB 0 0 (.slice pb 0 cb)) ∧ W.heap[wd.heap.size]? = some (sB 0 0 (.slice pd 0 cd))) := Lib.hid fun W k => ⟨⟨box_in e0 k, box_in e1 k⟩, box_in e2 k, box_in e3 k⟩
      have ST2 := Lib.hid (SF.out w6 (KB.out.trans BASE.out))
      have HV := Lib.hid (Keeps.refl w6)
      clear rd kd hw6 k6 e0 e1 e2 e3 G1 G2 G3 G4 G5
      go_upto_region 11 with (fail)
      rw [HW6.out]
      clear HW6
      obtain ⟨⟨h0, h1⟩, h2, h3⟩ := CZ.out _ HV.out
      obtain ⟨x0, x1, x2⟩ := sB_at h0
      obtain ⟨y0, y1, y2⟩ := sB_at h1
      clear h0 h1 h2 h3
      go_wp2_with fail
      refine (S1.out _ _ _ _ R1.out R0.out HV.out).mono ?_
      clear HV x0 x1 x2 y0 y1 y2
      rintro e wv ⟨rfl, hv⟩
      have HV := Lib.hid hv
      clear hv
      obtain ⟨⟨h0, h1⟩, h2, h3⟩ := CZ.out _ HV.out
      obtain ⟨x0, x1, x2⟩ := sB_at h2
      clear h0 h1 h2 h3
      go_wp2_with fail
      refine (S2.out _ _ _ _ R2.out (rows_nil w6) HV.out).mono ?_
      clear HV x0 x1 x2
      rintro e wv ⟨rfl, hv⟩
      have HV := Lib.hid hv
      clear hv
      obtain ⟨⟨h0, h1⟩, h2, h3⟩ := CZ.out _ HV.out
      obtain ⟨x0, x1, x2⟩ := sB_at h3
      obtain ⟨y0, y1, y2⟩ := sB_at h1
      clear h0 h1 h2 h3
      go_wp2_with fail
      refine (S3.out _ _ _ _ R3.out R1.out HV.out).mono ?_
      clear HV x0 x1 x2 y0 y1 y2
      rintro e wv ⟨rfl, hv⟩
      have HV := Lib.hid hv
      clear hv
      go_wp2_with fail
      refine (ST2.out _ HV.out).mono ?_
      rintro e w9 ⟨rfl, k9⟩
      go_wp2
      go_ret
      exact ⟨rfl, KB.out.trans (BASE.out.trans k9)⟩
end Go.Proofs.YtomonhghioamfaaDoor
