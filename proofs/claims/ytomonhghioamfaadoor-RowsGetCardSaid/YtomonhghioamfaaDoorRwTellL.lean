
/- RowsTell, out of what the program answers (RwP): the walk. -/
import Derived.Test.YtomonhghioamfaaDoorRwGetL
import Derived.Test.YtomonhghioamfaaDoorRwRefV
set_option linter.unusedVariables false
namespace Go.Proofs.YtomonhghioamfaaDoor
open Go.ChangeShapes Go.WideShapes Go.ChangeAt Go.RowKit Bit Ky Rw Csv

set_option maxHeartbeats 16000000 in
set_option maxRecDepth 100000 in
theorem rowsTell_go (P : RwP) (p s : Int) (v : Value) (L : List R) (party order : Int) (w : World) (hp : HasP w) (hl : RowsIn w v L) :
    Calls Tryd.prog 3 #[stV p s v, .int .i64 party, .int .i64 order] w fun e w' => e = .returned (.bool true) ∧ Keeps w w' := by
  have I1 := Lib.hid hl
  obtain ⟨q, c, rfl, hmx, _, _⟩ := hl
  obtain ⟨N, hN⟩ : ∃ N, L.length = N := ⟨_, rfl⟩
  have HN := Lib.hid hN
  rw [hN] at hmx I1 ⊢
  clear hN
  have KB : Hid (Keeps w (w.alloc (sB p s (.slice q N c)))) := Lib.hid (ky_box w _)
  have SF := Lib.hid (stated_from P w hp)
  have HS := Lib.hid (SF.out _ KB.out)
  have IB := Lib.hid (I1.out.keeps KB.out)
  have HP := Lib.hid hp
  have PP := Lib.hid P
  have CB : Hid (∀ W, Keeps (w.alloc (sB p s (.slice q N c))) W → W.heap[w.heap.size]? = some (sB p s (.slice q N c))) := Lib.hid fun W k => box_in (heap_alloc_new w _) k
  unfold maxLen at hmx
  unfold stV
  clear hp P
  by_cases hbig : N ≤ 450
  rotate_left
  · go_enter Tryd.func3, Tryd.ntmps3
    go_wp2_with fail
    refine (HS.out _ (Keeps.refl _)).mono ?_
    rintro e w1 ⟨rfl, k1⟩
    go_wp2
    go_ret
    exact ⟨rfl, KB.out.trans k1⟩
  obtain ⟨qo, co, w2, R1, R2, R3⟩ := rowK.copy_row (w.alloc (sB p s (.slice q N c))) (.slice q N c) L IB.out.src (by rw [HN.out]; omega)
  rw [HN.out] at R1 R2
  have HR : Hid ((Builtin.append_ #[tRs, tRs] tRs #[.slice none 0 0, .slice q N c]).run Tryd.prog (w.alloc (sB p s (.slice q N c))) = .ok (.slice qo N co) w2) := Lib.hid R1
  have K2 := Lib.hid R3
  have IOq : Hid (RowsIn w2 (.slice qo N co) L) := Lib.hid (own_rows R2 (by rw [HN.out]; omega))
  have I2 := Lib.hid (IB.out.keeps R3)
  have KW2 := Lib.hid (KB.out.trans R3)
  have C1 : Hid (∀ (m : Int) (b : Bool), goodB m L = b → ∀ W, Keeps w2 W → Calls Tryd.prog 9 #[.slice qo N co, .int .i64 m] W fun e w' => e = .returned (.bool b) ∧ Keeps w2 w') := Lib.hid fun m b hb W k => (hb ▸ PP.out.check _ L m W (HP.out.keeps (KW2.out.trans k)) (IOq.out.keeps k)).mono fun e w' g => ⟨g.1, k.trans g.2⟩
  have C2 : Hid (∀ (m : Int) (b : Bool), goodB m L = b → ∀ W, Keeps w2 W → Calls Tryd.prog 10 #[.slice q N c, .int .i64 m] W fun e w' => e = .returned (.bool b) ∧ Keeps w2 w') := Lib.hid fun m b hb W k => (hb ▸ rr_check _ L m W (I2.out.keeps k)).mono fun e w' g => ⟨g.1, k.trans g.2⟩
  have HV := Lib.hid (Keeps.refl w2)
  clear R1 R2 R3
  go_enter Tryd.func3, Tryd.ntmps3
  go_wp2_with (at_builtin; refine wpAppKnown rfl _ _ _ _ rfl _ _ _ _ rfl rfl HR.out ?_)
  go_loopw [8] (fun v8 W => ∃ k : Int, -1 ≤ k ∧ k ≤ 5 ∧ v8 = .int .i64 k ∧ Keeps w2 W) (fun v8 _ => (5 - intOf v8).toNat)
  case atStart => exact ⟨-1, by omega, by omega, rfl, HV.out⟩
  case round =>
    clear HV HR
    obtain ⟨k, k0, k5, rfl, hk⟩ := hrel
    have HV := Lib.hid hk
    have K0 := Lib.hid k0
    clear hk
    by_cases hk5 : k < 5
    · have K5 := Lib.hid hk5
      have CS : Hid (∀ W, Keeps w2 W → W.cell? ⟨w.heap.size, 0, none⟩ = some (.int .i64 p) ∧ W.cell? ⟨w.heap.size, 1, none⟩ = some (.int .i64 s) ∧ W.cell? ⟨w.heap.size, 2, none⟩ = some (.slice q N c)) := Lib.hid fun W k => sB_at (CB.out W (K2.out.trans k))
      by_cases h4 : k = 4
      · subst h4
        obtain ⟨m, hm⟩ : ∃ m, party = m := ⟨_, rfl⟩
        subst hm
        · obtain ⟨b, hb⟩ : ∃ b, goodB party L = b := ⟨_, rfl⟩
          have D1 := Lib.hid (C1.out party b hb)
          have D2 := Lib.hid (C2.out party b hb)
          have te : (b == b) = true := by simp
          have te2 : (b != b) = false := by simp
          clear hb C1 C2
          go_upto_region 10 with (fail)
          obtain ⟨x0, x1, x2⟩ := CS.out _ HV.out
          go_region_held3 (fun W => W.cell? ⟨w.heap.size, 0, none⟩ = some (.int .i64 p) ∧ W.cell? ⟨w.heap.size, 1, none⟩ = some (.int .i64 s) ∧ W.cell? ⟨w.heap.size, 2, none⟩ = some (.slice q N c))
            (first | exact CS.out _ HV.out | exact CS.out _ (HV.out.trans (ky_drew _)) | assumption) (first
            | (go_at_call 9; (with_reducible refine (D1.out _ (HV.out.trans (ky_drew _))).mono ?_); clear HV D1; rintro e wv ⟨rfl, hv⟩; have HV := Lib.hid hv; have zv := CS.out _ hv; clear hv)
            | (go_at_call 10; (with_reducible refine (D2.out _ HV.out).mono ?_); clear HV D2; rintro e wv ⟨rfl, hv⟩; have HV := Lib.hid hv; have zv := CS.out _ hv; clear hv))
          go_wp2_with fail
          exact ⟨⟨5, by omega, by omega, by go_num, HV.out⟩, by simp [intOf]⟩
      · have e7 : (k == 4) = false := by simpa using h4
        · obtain ⟨b, hb⟩ : ∃ b, goodB k L = b := ⟨_, rfl⟩
          have D1 := Lib.hid (C1.out k b hb)
          have D2 := Lib.hid (C2.out k b hb)
          have te : (b == b) = true := by simp
          have te2 : (b != b) = false := by simp
          clear hb C1 C2 h4
          go_upto_region 10 with (fail)
          obtain ⟨x0, x1, x2⟩ := CS.out _ HV.out
          go_region_held3 (fun W => W.cell? ⟨w.heap.size, 0, none⟩ = some (.int .i64 p) ∧ W.cell? ⟨w.heap.size, 1, none⟩ = some (.int .i64 s) ∧ W.cell? ⟨w.heap.size, 2, none⟩ = some (.slice q N c))
            (first | exact CS.out _ HV.out | exact CS.out _ (HV.out.trans (ky_drew _)) | assumption) (first
            | (go_at_call 9; (with_reducible refine (D1.out _ (HV.out.trans (ky_drew _))).mono ?_); clear HV D1; rintro e wv ⟨rfl, hv⟩; have HV := Lib.hid hv; have zv := CS.out _ hv; clear hv)
            | (go_at_call 10; (with_reducible refine (D2.out _ HV.out).mono ?_); clear HV D2; rintro e wv ⟨rfl, hv⟩; have HV := Lib.hid hv; have zv := CS.out _ hv; clear hv))
          go_wp2_with fail
          exact ⟨⟨k + 1, by have := K0.out; omega, by have := K5.out; omega, by go_num, HV.out⟩, by have := K5.out; have := K0.out; simp [intOf]; omega⟩
    · obtain rfl : k = 5 := by omega
      have KR := HV
      have A1 : Hid (Keeps wr (wr.alloc (sB p s (.slice qo N co)))) := Lib.hid (ky_box wr _)
      have BW := Lib.hid (KW2.out.trans (KR.out.trans A1.out))
      have JO := Lib.hid (IOq.out.keeps (KR.out.trans A1.out))
      have JS := Lib.hid (I2.out.keeps (KR.out.trans A1.out))
      have CS : Hid (∀ W, Keeps (wr.alloc (sB p s (.slice qo N co))) W → (W.cell? ⟨w.heap.size, 0, none⟩ = some (.int .i64 p) ∧ W.cell? ⟨w.heap.size, 1, none⟩ = some (.int .i64 s) ∧ W.cell? ⟨w.heap.size, 2, none⟩ = some (.slice q N c)) ∧ W.cell? ⟨wr.heap.size, 0, none⟩ = some (.int .i64 p) ∧ W.cell? ⟨wr.heap.size, 1, none⟩ = some (.int .i64 s) ∧ W.cell? ⟨wr.heap.size, 2, none⟩ = some (.slice qo N co)) := Lib.hid fun W k => ⟨sB_at (CB.out W (K2.out.trans (KR.out.trans (A1.out.trans k)))), sB_at (box_in (heap_alloc_new wr _) k)⟩
      obtain ⟨b, hb⟩ : ∃ b, validB p s L = b := ⟨_, rfl⟩
      obtain ⟨X, hX⟩ : ∃ b, putSB p s L = b := ⟨_, rfl⟩
      obtain ⟨n, hn⟩ : ∃ b, netR order L = b := ⟨_, rfl⟩
      have D1 := Lib.hid fun W k => (hb ▸ PP.out.valid p s _ L W (HP.out.keeps (BW.out.trans k)) (JO.out.keeps k)).mono fun e w' g => (show _ ∧ Keeps (wr.alloc (sB p s (.slice qo N co))) w' from ⟨g.1, Keeps.trans k g.2⟩)
      have D2 := Lib.hid fun W k => (hb ▸ rr_valid p s _ L W (JS.out.keeps k)).mono fun e w' g => (show _ ∧ Keeps (wr.alloc (sB p s (.slice qo N co))) w' from ⟨g.1, Keeps.trans k g.2⟩)
      have D3 := Lib.hid fun W k => (hX ▸ PP.out.put p s _ L W (HP.out.keeps (BW.out.trans k)) (JO.out.keeps k)).mono fun e w' g => (show _ ∧ Keeps (wr.alloc (sB p s (.slice qo N co))) w' from ⟨g.1, Keeps.trans k g.2⟩)
      have D4 := Lib.hid fun W k => (hX ▸ rr_put p s _ L W (JS.out.keeps k)).mono fun e w' g => (show _ ∧ Keeps (wr.alloc (sB p s (.slice qo N co))) w' from ⟨g.1, Keeps.trans k g.2⟩)
      have D5 := Lib.hid fun W k => (hn ▸ PP.out.net _ L order W (HP.out.keeps (BW.out.trans k)) (JO.out.keeps k)).mono fun e w' g => (show _ ∧ Keeps (wr.alloc (sB p s (.slice qo N co))) w' from ⟨g.1, Keeps.trans k g.2⟩)
      have D6 := Lib.hid fun W k => (hn ▸ rr_net _ L order W (JS.out.keeps k)).mono fun e w' g => (show _ ∧ Keeps (wr.alloc (sB p s (.slice qo N co))) w' from ⟨g.1, Keeps.trans k g.2⟩)
      have D7 := Lib.hid fun W k => rsame_is (p := p) (s := s) (p' := p) (s' := s) (L := L) (M := L) (b := true) (by unfold sameB; exact decide_eq_true ⟨rfl, rfl, rfl⟩) _ _ _ W JS.out JO.out k
      have D8 := Lib.hid (SF.out _ BW.out)
      have te1 : (X.toList == X.toList) = true := by simp
      have te2 : (b == b) = true := by simp
      have te3 : (n == n) = true := by simp
      have HV := Lib.hid (Keeps.refl (wr.alloc (sB p s (.slice qo N co))))
      unfold stV at D1 D2 D3 D4 D7
      clear hb hX hn C1 C2
      obtain ⟨x0, x1, x2⟩ := sB_at (CB.out wr (K2.out.trans KR.out))
      go_upto_region 13 with (fail)
      clear x0 x1 x2
      obtain ⟨⟨x0, x1, x2⟩, y0, y1, y2⟩ := CS.out _ HV.out
      go_region_held3 (fun W => (W.cell? ⟨w.heap.size, 0, none⟩ = some (.int .i64 p) ∧ W.cell? ⟨w.heap.size, 1, none⟩ = some (.int .i64 s) ∧ W.cell? ⟨w.heap.size, 2, none⟩ = some (.slice q N c)) ∧ W.cell? ⟨wr.heap.size, 0, none⟩ = some (.int .i64 p) ∧ W.cell? ⟨wr.heap.size, 1, none⟩ = some (.int .i64 s) ∧ W.cell? ⟨wr.heap.size, 2, none⟩ = some (.slice qo N co))
        (first | exact CS.out _ HV.out | exact CS.out _ (HV.out.trans (ky_drew _)) | assumption) (first
        | (go_at_call 11; (refine (D1.out _ (HV.out.trans (ky_drew _))).mono ?_); clear HV D1; rintro e wv ⟨rfl, hv⟩; have HV := Lib.hid hv; have zv := CS.out _ hv; clear hv)
        | (go_at_call 12; (refine (D2.out _ HV.out).mono ?_); clear HV D2; rintro e wv ⟨rfl, hv⟩; have HV := Lib.hid hv; have zv := CS.out _ hv; clear hv)
        | (go_at_call 13; (refine (D3.out _ HV.out).mono ?_); clear HV D3; rintro e wv ⟨rfl, hv⟩; have HV := Lib.hid hv; have zv := CS.out _ hv; clear hv)
        | (go_at_call 14; (refine (D4.out _ HV.out).mono ?_); clear HV D4; rintro e wv ⟨rfl, hv⟩; have HV := Lib.hid hv; have zv := CS.out _ hv; clear hv)
        | (go_at_call 15; (refine (D5.out _ HV.out).mono ?_); clear HV D5; rintro e wv ⟨rfl, hv⟩; have HV := Lib.hid hv; have zv := CS.out _ hv; clear hv)
        | (go_at_call 16; (refine (D6.out _ HV.out).mono ?_); clear HV D6; rintro e wv ⟨rfl, hv⟩; have HV := Lib.hid hv; have zv := CS.out _ hv; clear hv)
        | (go_at_call 17; (refine (D7.out _ HV.out).mono ?_); clear HV D7; rintro e wv ⟨rfl, hv⟩; have HV := Lib.hid hv; have zv := CS.out _ hv; clear hv)
        | (go_at_call 8; (refine (D8.out _ HV.out).mono ?_); clear HV D8; rintro e wv ⟨rfl, hv⟩; have HV := Lib.hid hv; have zv := CS.out _ hv; clear hv))
      go_wp2
      go_ret
      exact ⟨rfl, BW.out.trans HV.out⟩
end Go.Proofs.YtomonhghioamfaaDoor
