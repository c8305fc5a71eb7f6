
/- RowsGet, out of what the program answers (RwP): the walk. -/
import Derived.Test.YtomonhghioamfaaDoorRwBackL
set_option linter.unusedVariables false
namespace Go.Proofs.YtomonhghioamfaaDoor
open Go.ChangeShapes Go.WideShapes Go.ChangeAt Go.RowKit Bit Ky Rw Csv

theorem rsame_is {p s p' s' : Int} {L M : List R} {b : Bool} (hb : sameB p s p' s' L M = b) : ∀ (v v' : Value) (B W : World), RowsIn B v L → RowsIn B v' M → Keeps B W → Calls Tryd.prog 17 #[stV p s v, stV p' s' v'] W fun e w' => e = .returned (.bool b) ∧ Keeps B w' := fun v v' B W h g k =>
  (hb ▸ rr_same p s p' s' v v' L M W (h.keeps k) (g.keeps k)).mono fun e w' x => ⟨x.1, k.trans x.2⟩
def GotN (l : List UInt8) (B : World) (e : Ending) (w' : World) : Prop := ∃ p s L c q n cc, e = .returned (.tuple #[.agg #[.int .i64 p, .int .i64 s, .slice q n cc], .int .i64 c]) ∧ IsS l p s L c ∧ L.length = n ∧ RowsIn w' (.slice q n cc) L ∧ Keeps B w'
theorem gotN {l : List UInt8} {B W : World} {e : Ending} {w' : World} (k : Keeps B W) (h : GotS l W e w') : GotN l B e w' := by
  obtain ⟨p, s, L, v, c, he, hi, hr, k2⟩ := h
  have hr' := hr
  obtain ⟨q, cc, rfl, _⟩ := hr
  exact ⟨p, s, L, c, q, _, cc, he, hi, rfl, hr', k.trans k2⟩
set_option maxHeartbeats 16000000 in
set_option maxRecDepth 100000 in
theorem rowsGet_go (P : RwP) (t : ByteArray) (p1 s1 : Int) (v1 : Value) (L1 : List R) (p2 s2 : Int) (v2 : Value) (L2 : List R) (w : World) (hp : HasP w) (ht : t.size ≤ maxLen) (h1 : RowsIn w v1 L1) (h2 : RowsIn w v2 L2) :
    Calls Tryd.prog 4 #[.string t, stV p1 s1 v1, stV p2 s2 v2] w fun e w' => e = .returned (.bool true) ∧ Keeps w w' := by
  have I1 := Lib.hid h1
  have I2 := Lib.hid h2
  obtain ⟨q1, c1, rfl, hm1, _, _⟩ := h1
  obtain ⟨q2, c2, rfl, hm2, _, _⟩ := h2
  obtain ⟨N1, hN1⟩ : ∃ N, L1.length = N := ⟨_, rfl⟩
  obtain ⟨N2, hN2⟩ : ∃ N, L2.length = N := ⟨_, rfl⟩
  rw [hN1] at hm1 I1 ⊢
  rw [hN2] at hm2 I2 ⊢
  have KB : Hid (Keeps w ((w.alloc (sB p1 s1 (.slice q1 N1 c1))).alloc (sB p2 s2 (.slice q2 N2 c2)))) := Lib.hid ((ky_box w _).trans (ky_box _ _))
  have SF := Lib.hid (stated_from P w hp)
  have ST := Lib.hid (SF.out _ KB.out)
  have PG : Hid (t.size ≤ 50000 → ∀ W, Keeps ((w.alloc (sB p1 s1 (.slice q1 N1 c1))).alloc (sB p2 s2 (.slice q2 N2 c2))) W → Calls Tryd.prog 18 #[.string t] W (GotN t.data.toList ((w.alloc (sB p1 s1 (.slice q1 N1 c1))).alloc (sB p2 s2 (.slice q2 N2 c2))))) := Lib.hid fun h W k => (P.get t W (hp.keeps (KB.out.trans k)) h).mono fun e w' g => gotN k g
  have RG : Hid (t.size ≤ 50000 → ∀ B W, Keeps B W → Calls Tryd.prog 19 #[.string t] W (GotN t.data.toList B)) := Lib.hid fun h B W k => (rr_get t W h).mono fun e w' g => gotN k g
  have PP := Lib.hid P
  have CB : Hid (∀ W, Keeps ((w.alloc (sB p1 s1 (.slice q1 N1 c1))).alloc (sB p2 s2 (.slice q2 N2 c2))) W → W.heap[w.heap.size]? = some (sB p1 s1 (.slice q1 N1 c1)) ∧ W.heap[w.heap.size + 1]? = some (sB p2 s2 (.slice q2 N2 c2))) := Lib.hid fun W k => by
    have e0 : (w.alloc (sB p1 s1 (.slice q1 N1 c1))).heap.size = w.heap.size + 1 := by simp
    have e2 := heap_alloc_new (w.alloc (sB p1 s1 (.slice q1 N1 c1))) (sB p2 s2 (.slice q2 N2 c2))
    rw [e0] at e2
    exact ⟨box_in (box_in (heap_alloc_new w _) (ky_box _ _)) k, box_in e2 k⟩
  unfold maxLen at ht hm1 hm2
  unfold stV
  clear hp P hN1 hN2
  by_cases hbig : t.size ≤ 3000 ∧ N1 ≤ 100 ∧ N2 ≤ 100
  rotate_left
  · rcases (show 3000 < t.size ∨ (t.size ≤ 3000 ∧ 100 < N1) ∨ (t.size ≤ 3000 ∧ N1 ≤ 100 ∧ 100 < N2) from by omega) with g | ⟨g, g2⟩ | ⟨g, g2, g3⟩
    all_goals
      clear hbig
      go_enter Tryd.func4, Tryd.ntmps4
      go_wp2_with fail
      refine (ST.out _ (Keeps.refl _)).mono ?_
      rintro e w1 ⟨rfl, k1⟩
      go_wp2
      go_ret
      exact ⟨rfl, KB.out.trans k1⟩
  obtain ⟨g1, g2, g3⟩ := hbig
  have PG := Lib.hid (PG.out (by omega))
  have RG := Lib.hid (RG.out (by omega))
  go_enter Tryd.func4, Tryd.ntmps4
  go_wp2_with fail
  refine (PG.out _ (Keeps.refl _)).mono ?_
  rintro e wa ⟨p, s, L, c, qa, N, ca, rfl, hi, hn, hr, ka⟩
  have HI := Lib.hid hi
  have HN := Lib.hid hn
  have RA := Lib.hid hr
  have KA := Lib.hid ka
  have A1 : Hid (Keeps wa (wa.alloc (sB p s (.slice qa N ca)))) := Lib.hid (ky_box wa _)
  clear hi hn hr ka PG ST
  go_wp2_with fail
  refine (RG.out _ _ (Keeps.refl _)).mono ?_
  rintro e wb ⟨p', s', L', c', qb, N', cb, rfl, hi, hn, hr, kb⟩
  obtain ⟨rfl, rfl, rfl, rfl⟩ := HI.out.same hi
  obtain rfl : N = N' := HN.out.symm.trans hn
  have RB := Lib.hid hr
  have KBB := Lib.hid kb
  have A2 : Hid (Keeps wb (wb.alloc (sB p s (.slice qb N cb)))) := Lib.hid (ky_box wb _)
  have BB := Lib.hid (KA.out.trans (A1.out.trans (kb.trans A2.out)))
  have BW := Lib.hid (KB.out.trans BB.out)
  have J1 := Lib.hid (I1.out.keeps BW.out)
  have J2 := Lib.hid (I2.out.keeps BW.out)
  have JA := Lib.hid (RA.out.keeps (A1.out.trans (kb.trans A2.out)))
  have JB := Lib.hid (hr.keeps A2.out)
  have EX : Hid ((wa.alloc (sB p s (.slice qa N ca))).heap[wa.heap.size]? = some (sB p s (.slice qa N ca))) := Lib.hid (heap_alloc_new wa _)
  have CS : Hid (∀ W, Keeps (wb.alloc (sB p s (.slice qb N cb))) W → (W.cell? ⟨w.heap.size, 0, none⟩ = some (.int .i64 p1) ∧ W.cell? ⟨w.heap.size, 1, none⟩ = some (.int .i64 s1) ∧ W.cell? ⟨w.heap.size, 2, none⟩ = some (.slice q1 N1 c1)) ∧ (W.cell? ⟨w.heap.size + 1, 0, none⟩ = some (.int .i64 p2) ∧ W.cell? ⟨w.heap.size + 1, 1, none⟩ = some (.int .i64 s2) ∧ W.cell? ⟨w.heap.size + 1, 2, none⟩ = some (.slice q2 N2 c2)) ∧ (W.cell? ⟨wa.heap.size, 0, none⟩ = some (.int .i64 p) ∧ W.cell? ⟨wa.heap.size, 1, none⟩ = some (.int .i64 s) ∧ W.cell? ⟨wa.heap.size, 2, none⟩ = some (.slice qa N ca)) ∧ W.cell? ⟨wb.heap.size, 0, none⟩ = some (.int .i64 p) ∧ W.cell? ⟨wb.heap.size, 1, none⟩ = some (.int .i64 s) ∧ W.cell? ⟨wb.heap.size, 2, none⟩ = some (.slice qb N cb)) := Lib.hid fun W k => by
    obtain ⟨e1, e2⟩ := CB.out W (BB.out.trans k)
    exact ⟨sB_at e1, sB_at e2, sB_at (box_in EX.out (KBB.out.trans (A2.out.trans k))), sB_at (box_in (heap_alloc_new wb _) k)⟩
  obtain ⟨bb, hbb⟩ : ∃ b, sameB p1 s1 p2 s2 L1 L2 = b := ⟨_, rfl⟩
  have S1 := Lib.hid fun W k => rsame_is (p := p) (s := s) (p' := p) (s' := s) (L := L) (M := L) (b := true) (by unfold sameB; exact decide_eq_true ⟨rfl, rfl, rfl⟩) _ _ _ W JA.out JB.out k
  have S2 := Lib.hid fun W k => same_is PP.out hbb _ _ _ W J1.out J2.out k
  have S3 := Lib.hid fun W k => rsame_is hbb _ _ _ W J1.out J2.out k
  have S4 := Lib.hid fun W k => same_is PP.out (p := p1) (s := s1) (p' := p1) (s' := s1) (L := L1) (M := L1) (b := true) (by unfold sameB; exact decide_eq_true ⟨rfl, rfl, rfl⟩) _ _ _ W J1.out J1.out k
  have ST := Lib.hid (SF.out _ BW.out)
  have HV := Lib.hid (Keeps.refl (wb.alloc (sB p s (.slice qb N cb))))
  have te1 : (c == c) = true := by simp
  have te2 : (bb == bb) = true := by simp
  unfold stV at S1 S2 S3 S4
  clear hi hn hr kb RG hbb CB A1 A2 EX g1 g2 g3
  go_upto_region 5 with (fail)
  obtain ⟨⟨a0, a1, a2⟩, ⟨b0, b1, b2⟩, ⟨d0, d1, d2⟩, e0, e1, e2⟩ := CS.out _ HV.out
  go_region_held3 (fun W => (W.cell? ⟨w.heap.size, 0, none⟩ = some (.int .i64 p1) ∧ W.cell? ⟨w.heap.size, 1, none⟩ = some (.int .i64 s1) ∧ W.cell? ⟨w.heap.size, 2, none⟩ = some (.slice q1 N1 c1)) ∧ (W.cell? ⟨w.heap.size + 1, 0, none⟩ = some (.int .i64 p2) ∧ W.cell? ⟨w.heap.size + 1, 1, none⟩ = some (.int .i64 s2) ∧ W.cell? ⟨w.heap.size + 1, 2, none⟩ = some (.slice q2 N2 c2)) ∧ (W.cell? ⟨wa.heap.size, 0, none⟩ = some (.int .i64 p) ∧ W.cell? ⟨wa.heap.size, 1, none⟩ = some (.int .i64 s) ∧ W.cell? ⟨wa.heap.size, 2, none⟩ = some (.slice qa N ca)) ∧ W.cell? ⟨wb.heap.size, 0, none⟩ = some (.int .i64 p) ∧ W.cell? ⟨wb.heap.size, 1, none⟩ = some (.int .i64 s) ∧ W.cell? ⟨wb.heap.size, 2, none⟩ = some (.slice qb N cb))
    (first | exact CS.out _ HV.out | exact CS.out _ (HV.out.trans (ky_drew _)) | assumption) (first
    | (go_at_call 17; (with_reducible refine (S1.out _ (HV.out.trans (ky_drew _))).mono ?_); clear HV S1; rintro e wv ⟨rfl, hv⟩; have HV := Lib.hid hv; have zv := CS.out _ hv; clear hv)
    | (go_at_call 20; (with_reducible refine (S2.out _ HV.out).mono ?_); clear HV S2; rintro e wv ⟨rfl, hv⟩; have HV := Lib.hid hv; have zv := CS.out _ hv; clear hv)
    | (go_at_call 17; (with_reducible refine (S3.out _ HV.out).mono ?_); clear HV S3; rintro e wv ⟨rfl, hv⟩; have HV := Lib.hid hv; have zv := CS.out _ hv; clear hv)
    | (go_at_call 20; (with_reducible refine (S4.out _ HV.out).mono ?_); clear HV S4; rintro e wv ⟨rfl, hv⟩; have HV := Lib.hid hv; have zv := CS.out _ hv; clear hv)
    | (go_at_call 8; refine (ST.out _ HV.out).mono ?_; clear HV ST; rintro e wv ⟨rfl, hv⟩; have HV := Lib.hid hv; have zv := CS.out _ hv; clear hv))
  go_wp2
  go_ret
  exact ⟨rfl, BW.out.trans HV.out⟩
end Go.Proofs.YtomonhghioamfaaDoor
