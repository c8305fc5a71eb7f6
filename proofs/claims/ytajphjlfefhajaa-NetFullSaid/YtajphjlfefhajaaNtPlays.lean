
/- NetPlays: the walk. -/
import Derived.Test.YtajphjlfefhajaaNtMail
set_option linter.unusedVariables false
set_option linter.unusedSimpArgs false
namespace Go.Proofs.Ytajphjlfefhajaa
open Go.ChangeShapes Go.WideShapes Go.ChangeAt Go.RowKit Csv Ky
namespace Nt
def stepsL (L : List Ac) : List Mg := L.foldl step []
theorem steps_next {L : List Ac} {k : Nat} {x : Ac} (h : L[k]? = some x) : stepsL (L.take (k + 1)) = step (stepsL (L.take k)) x := by
  unfold stepsL
  rw [List.take_add_one, h]
  simp [List.foldl_append]
theorem steps_len (L : List Ac) : (stepsL L).length ≤ 1000 := by
  unfold stepsL
  have : ∀ (L : List Ac) (l : List Mg), l.length ≤ 1000 → (L.foldl step l).length ≤ 1000 := by
    intro L
    induction L with
    | nil => intro l h; exact h
    | cons x r ih => intro l h; exact ih _ (step_len h)
  exact this L [] (by simp)
/-- The document's messages, read. -/
theorem ref_in {W X : World} {b : Nat} {F : Nat → Prop} {l : List Mg} {p : Option Addr} {c : Nat} (h : RefN W b F l) (hl : l.length ≤ 1000) (hc : W.cell? ⟨b, 0, none⟩ = some (.slice p l.length c)) (k : Keeps W X) : MgsIn X (.slice p l.length c) l := by
  obtain ⟨v, h1, h2, h3⟩ := h
  have e := (one_at h1).1
  rw [e] at hc
  cases hc
  exact own_mgs (mgK.own_keeps h2 k) (by omega)
theorem ref_same {W X : World} {b : Nat} {F : Nat → Prop} {l : List Mg} {p : Option Addr} {c : Nat} (h : RefN W b F l) (hc : W.cell? ⟨b, 0, none⟩ = some (.slice p l.length c)) (hs : ∀ i, F i → X.heap[i]? = W.heap[i]?) : X.heap[b]? = some (.cells #[.slice p l.length c] tRn (0, 0)) := by
  have hb := h.self
  obtain ⟨v, h1, h2, h3⟩ := h
  have e := (one_at h1).1
  rw [e] at hc
  cases hc
  exact (hs b hb).trans h1
theorem acs_here {wb : World} {pl : Option Addr} {N cl : Nat} {L : List Ac} (HV : ∀ X, Keeps wb X → AcsAt X (.slice pl N cl) L) (hN : L.length = N) {k : Nat} {x : Ac} (hx : L[k]? = some x) : AcOk x ∧ ∃ ad, pl = some ad ∧ ∀ X, Keeps wb X → AcAt X (ad.add (k * 10)) x := by
  have key : ∀ X, Keeps wb X → AcOk x ∧ ∃ ad, pl = some ad ∧ AcAt X (ad.add (k * 10)) x := fun X kX => by
    obtain ⟨p1, c1, e1, _, hc⟩ := HV X kX
    rw [hN] at e1
    simp only [Value.slice.injEq] at e1
    obtain ⟨rfl, _, rfl⟩ := e1
    exact hc k x hx
  obtain ⟨ok, ad, rfl, _⟩ := key wb (Keeps.refl _)
  refine ⟨ok, ad, rfl, fun X kX => ?_⟩
  obtain ⟨_, ad', e, q⟩ := key X kX
  cases e
  exact q
theorem ref_none (W : World) : RefN (W.alloc (.cells #[.slice none 0 0] tRn)) W.heap.size (fun i => i = W.heap.size) [] :=
  ⟨.slice none 0 0, heap_alloc_new W _, mgK.own_nil _ _, fun i => by simp [Value.ownBlock]⟩
theorem step_num {z g n : Nat} (h : z + (g + 1) = n) : z + 1 + g = n := by omega
set_option maxHeartbeats 16000000 in
set_option maxRecDepth 100000 in
theorem netPlays_go (P : NtP) (v : Value) (L : List Ac) (wb : World) (hv : AcsAt wb v L) :
    Calls Try.prog 3 #[v] wb fun e w' => e = .returned (.bool true) ∧ Keeps wb w' := by
  have HV : Hid (∀ X, Keeps wb X → AcsAt X v L) := Lib.hid fun X k => hv.keeps k
  have AS : Hid (∀ X, Keeps wb X → Calls Try.prog 8 #[] X fun e w' => e = .returned (.bool true) ∧ Keeps X w') := Lib.hid fun X k => la_mailed P X
  have GR := Lib.hid (la_great v L 150 wb hv)
  obtain ⟨gb, hgb⟩ : ∃ gb, greatA L 150 = gb := ⟨_, rfl⟩
  rw [hgb] at GR
  obtain ⟨pl, cl, rfl, hmx, _⟩ := hv
  obtain ⟨N, hN⟩ : ∃ N, L.length = N := ⟨_, rfl⟩
  rw [hN] at GR HV ⊢
  have HN := Lib.hid hN
  clear hmx hN
  go_enter Try.func3, Try.ntmps3
  go_wp2_with fail
  refine GR.out.mono ?_
  rintro e wg ⟨rfl, kg⟩
  have KG := Lib.hid kg
  clear kg GR
  cases gb with
  | true =>
    go_wp2_with fail
    refine (AS.out _ KG.out).mono ?_
    rintro e w2 ⟨rfl, k2⟩
    have K2 := Lib.hid (KG.out.trans k2)
    clear k2
    go_wp2
    go_ret
    exact ⟨rfl, K2.out⟩
  | false =>
    have hN150 : N ≤ 150 := by have := great_no hgb; rw [HN.out] at this; omega
    clear hgb
    go_wp2_with fail
    refine (P.new wg).mono ?_
    rintro e w0 hn
    obtain ⟨⟨b, F, rfl, h1, h2⟩, k0⟩ := hn
    obtain ⟨w1, hw1⟩ : ∃ w1, w0.alloc (.cells #[.slice none 0 0] tRn) = w1 := ⟨_, rfl⟩
    obtain ⟨rb, hrb⟩ : ∃ rb, w0.heap.size = rb := ⟨_, rfl⟩
    have T1 : Hid (Pr P w1 b F [] rb (fun i => i = rb) []) := Lib.hid (by
      rw [← hw1, ← hrb]
      exact ⟨P.keeps h1 (nbox _ _), ref_none w0, fun i hi q => by have := P.lt h1 hi; omega⟩)
    have LB1 : Hid (∀ i, F i ∨ i = rb → wb.heap.size ≤ i) := Lib.hid fun i hi => by
      rcases hi with hi | rfl
      · exact Nat.le_trans KG.out.size (h2 i hi)
      · rw [← hrb]; exact Nat.le_trans KG.out.size k0.size
    have K1 : Hid (Keeps wb w1) := Lib.hid (hw1 ▸ (KG.out.trans k0).trans (nbox _ _))
    have EW1 := Lib.hid hw1
    have ERB := Lib.hid hrb
    clear h1 h2 k0 hw1 hrb
    go_upto_region 5 with (fail)
    rw [EW1.out, ERB.out]
    clear EW1 ERB
    go_wp2_with fail
    go_loopg [5] N (fun g v5 W => ∃ (k : Nat) (F G : Nat → Prop), k + g = N ∧ v5 = .int .i64 (k : Int) ∧ Pr P W b F (stepsL (L.take k)) rb G (stepsL (L.take k)) ∧ (∀ i, F i ∨ G i → wb.heap.size ≤ i) ∧ Keeps wb W)
    case atStart => exact ⟨0, F, fun i => i = rb, by omega, rfl, T1.out, LB1.out, K1.out⟩
    case round =>
      clear T1 LB1 K1
      obtain ⟨k, F, G, hk, rfl, hp, hlb, hw⟩ := hrel
      have HI := Lib.hid hk
      have PR := Lib.hid hp
      have LB := Lib.hid hlb
      have KV := Lib.hid hw
      clear hk hp hlb hw
      cases gk with
      | zero =>
        obtain rfl : k = N := by have := HI.out; omega
        have hz : ¬ ((k : Int) < (k : Int)) := by omega
        obtain ⟨l, hl⟩ : ∃ l, stepsL (L.take k) = l := ⟨_, rfl⟩
        have LL : Hid (l.length ≤ 1000) := Lib.hid (hl ▸ steps_len _)
        rw [hl] at PR
        obtain ⟨pr, cr, rc, _⟩ := PR.out.two.list LL.out
        have RC : Hid (∀ X, Keeps wr X → X.cell? ⟨rb, 0, none⟩ = some (.slice pr l.length cr)) := Lib.hid fun X kX => (rc X kX).1
        have RI := Lib.hid (fun X (kX : Keeps wr X) => ref_in PR.out.two LL.out (rc _ (Keeps.refl _)).1 kX)
        have CR : Hid (∀ X, Keeps wr X → Calls Try.prog 14 #[.pointer (some ⟨b, 0, none⟩)] X fun e w' => (∃ pm cm, e = .returned (.slice pm l.length cm) ∧ MgsIn w' (.slice pm l.length cm) l) ∧ Keeps X w') := Lib.hid fun X kX =>
          (P.mail (P.keeps PR.out.one kX) LL.out).mono fun e w' h => by
            obtain ⟨v1, rfl, h1, k1⟩ := h
            obtain ⟨pm, cm, rfl⟩ := mgK.own_shape h1
            exact ⟨⟨pm, cm, rfl, own_mgs h1 (by have := LL.out; omega)⟩, k1⟩
        have CS : Hid (∀ X pm cm, MgsIn X (.slice pm l.length cm) l → Keeps wr X → Calls Try.prog 13 #[.slice pm l.length cm, .slice pr l.length cr] X fun e w' => e = .returned (.bool true) ∧ Keeps X w') := Lib.hid fun X pm cm h kX => la_same _ _ l X h (RI.out X kX)
        have CK : Hid (∀ X, Keeps wr X → Calls Try.prog 8 #[] X fun e w' => e = .returned (.bool true) ∧ Keeps X w') := Lib.hid fun X kX => AS.out X (Keeps.trans KV.out kX)
        clear rc hl
        go_upto_region 18 with (fail)
        have HX := Lib.hid (Keeps.refl wr)
        have y3 := RC.out _ HX.out
        go_region_held3 (fun X => X.cell? ⟨rb, 0, none⟩ = some (.slice pr l.length cr))
          (first | exact RC.out _ HX.out | exact RC.out _ (HX.out.trans (ndrew _)) | assumption)
          (first
          | (go_at_call 14; refine (CR.out _ (by first | exact HX.out | exact HX.out.trans (ndrew _))).mono ?_; rintro e wv ⟨⟨pm, cm, rfl, om⟩, hv⟩; have OM := Lib.hid om; have HX2 := Lib.hid (HX.out.trans (Keeps.trans (by first | exact Keeps.refl _ | exact ndrew _) hv)); clear HX CR hv om; have HX := Lib.hid HX2.out; clear HX2; have zv := RC.out _ HX.out)
          | (go_at_call 13; refine (CS.out _ _ _ (OM.out.keeps (by first | exact Keeps.refl _ | exact ndrew _)) (by first | exact HX.out | exact HX.out.trans (ndrew _))).mono ?_; rintro e wx ⟨rfl, hv⟩; have HX2 := Lib.hid (HX.out.trans (Keeps.trans (by first | exact Keeps.refl _ | exact ndrew _) hv)); clear HX CS hv; have HX := Lib.hid HX2.out; clear HX2; have zx := RC.out _ HX.out)
          | (go_at_call 8; refine (CK.out _ (by first | exact HX.out | exact HX.out.trans (ndrew _))).mono ?_; rintro e wy ⟨rfl, hv⟩; have HX2 := Lib.hid (HX.out.trans (Keeps.trans (by first | exact Keeps.refl _ | exact ndrew _) hv)); clear HX CK hv; have HX := Lib.hid HX2.out; clear HX2; have zy := RC.out _ HX.out))
        go_wp2
        go_ret
        exact ⟨rfl, KV.out.trans HX.out⟩
      | succ g =>
        have hlt : k < N := by have := HI.out; omega
        obtain ⟨x, hx⟩ : ∃ x, L[k]? = some x := ⟨_, List.getElem?_eq_getElem (by have := HN.out; omega)⟩
        obtain ⟨j, hj⟩ : ∃ j, N - 1 - k = j := ⟨_, rfl⟩
        obtain ⟨n1, hn1⟩ : ∃ n1, N - 1 = n1 := ⟨_, rfl⟩
        have e1 : IntKind.i64.wrap ((N : Int) - 1) = (n1 : Int) := by rw [show (N : Int) - 1 = (n1 : Int) from by omega]; exact IntWalk.i64_in _ ⟨by omega, by omega⟩
        have e2 : IntKind.i64.wrap ((n1 : Int) - (k : Int)) = (j : Int) := by rw [show (n1 : Int) - (k : Int) = (j : Int) from by omega]; exact IntWalk.i64_in _ ⟨by omega, by omega⟩
        have hj1 : (j : Int) < (N : Int) := by omega
        have hj0 : (0 : Int) ≤ (j : Int) := by omega
        obtain ⟨y, hy⟩ : ∃ y, L[j]? = some y := ⟨_, List.getElem?_eq_getElem (by have := HN.out; omega)⟩
        obtain ⟨xok, ad, rfl, gx⟩ := acs_here HV.out HN.out hx
        obtain ⟨yok, ad', ea, gy⟩ := acs_here HV.out HN.out hy
        cases ea
        have GX := Lib.hid gx
        have GY := Lib.hid gy
        have XOK := Lib.hid xok
        have YOK := Lib.hid yok
        have NEXT := Lib.hid (steps_next hx)
        obtain ⟨l, hl⟩ : ∃ l, stepsL (L.take k) = l := ⟨_, rfl⟩
        have LL : Hid (l.length ≤ 1000) := Lib.hid (hl ▸ steps_len _)
        rw [hl] at PR NEXT
        obtain ⟨lc, hlc⟩ : ∃ lc, step l y = lc := ⟨_, rfl⟩
        have LC : Hid (lc.length ≤ 1000) := Lib.hid (hlc ▸ step_len LL.out)
        have hi1 : (k : Int) < (N : Int) := by omega
        have hi0 : (0 : Int) ≤ (k : Int) := by omega
        clear hx hy gx gy xok yok hl hj hn1
        go_wp2_with fail
        refine (P.copy PR.out.one LL.out).mono ?_
        rintro e w1 hn
        obtain ⟨⟨bc, Fc0, rfl, c1, c2⟩, k1⟩ := hn
        have C1 := Lib.hid c1
        have C2 := Lib.hid c2
        have K1 := Lib.hid k1
        have P1 := Lib.hid (PR.out.keeps k1)
        clear c1 c2 k1
        go_wp2_with fail
        refine (nr_copy rb G l w1 P1.out.two LL.out).mono ?_
        rintro e w2 hn
        obtain ⟨⟨bd, Gd0, rfl, d1, d2⟩, k2⟩ := hn
        have P2 := Lib.hid (P1.out.keeps k2)
        have PC2 : Hid (Pr P w2 bc Fc0 l bd Gd0 l) := Lib.hid ⟨P.keeps C1.out k2, d1, fun i hi q => by have := P.lt C1.out hi; have := d2 i q; omega⟩
        have LOW2 : Hid (∀ i, Fc0 i ∨ Gd0 i → wr.heap.size ≤ i) := Lib.hid fun i hi => by
          rcases hi with hi | hi
          · exact C2.out i hi
          · exact Nat.le_trans K1.out.size (d2 i hi)
        have KX : Hid (Keeps wb w2) := Lib.hid (KV.out.trans (K1.out.trans k2))
        have KR : Hid (Keeps wr w2) := Lib.hid (K1.out.trans k2)
        have CD1 : Hid (∀ X, Keeps w2 X → Calls Try.prog 12 #[acV y, .pointer (some ⟨bc, 0, none⟩), .pointer (some ⟨bd, 0, none⟩)] X fun e w' => e = .returned (.bool true) ∧ ∃ Fc Gd, Pr P w' bc Fc lc bd Gd lc ∧ (∀ i, Fc i ∨ Gd i → ¬ (F i ∨ G i)) ∧ Pr P w' b F l rb G l ∧ Keeps wr w') := Lib.hid fun X kX => by
          refine (la_do (PC2.out.keeps kX) LL.out y YOK.out.u8 YOK.out.i YOK.out.k).mono fun e w' ⟨h1, ⟨Fc, Gd, h2, h3⟩, h4⟩ => ⟨h1, Fc, Gd, hlc ▸ h2, fun i hi q => ?_, (P2.out.keeps kX).loc fun i hi => h4.same i ((P2.out.keeps kX).lt hi) (fun q => ?_), h4.keeps (KR.out.trans kX) LOW2.out⟩
          · have l1 := PR.out.lt q
            rcases h3 i hi with r | r
            · have := LOW2.out i r; omega
            · have := (KR.out.trans kX).size; omega
          · have l1 := PR.out.lt hi
            have := LOW2.out i q
            omega
        have CD2 : Hid (∀ X, Pr P X b F l rb G l → Keeps wb X → Calls Try.prog 12 #[acV x, .pointer (some ⟨b, 0, none⟩), .pointer (some ⟨rb, 0, none⟩)] X fun e w' => e = .returned (.bool true) ∧ Both P X w' b F (step l x) rb G (step l x)) := Lib.hid fun X h kX => la_do h LL.out x XOK.out.u8 XOK.out.i XOK.out.k
        unfold acV at CD1 CD2
        clear d1 d2 k2 hlc C1 C2 K1 P1
        go_upto_region 9 with (fail)
        go_cut [67] (fun v67 X => v67 = .bool false ∧ Both P wr X b F (step l x) rb G (step l x) ∧ Keeps wb X)
        case first =>
          -- region 9
          refine wp_region_held_drew (S := fun X => Keeps wb X) (by kernel_rfl) (KX.out.trans (ndrew _)) (fun hHeld => ?_)
          refine takeH (i := 0) (d := some 26) (v := ?va0) rfl rfl (by kernel_rfl) (by kernel_rfl) (by kernel_rfl) (fun _ _ _ h => h) (Or.inl ⟨by rfl, ?ya0⟩) (by assumption) ?ra0
          case ya0 => (intro X hSw; go_simp; try with_reducible rfl)
          try simp only [Act.put, List.setIfInBounds_toArray, List.set_cons_zero, List.set_cons_succ]
          refine takeH (i := 1) (d := some 27) (v := ?va1) rfl rfl (by kernel_rfl) (by kernel_rfl) (by kernel_rfl) (fun _ _ _ h => h) (Or.inl ⟨by rfl, ?ya1⟩) (by assumption) ?ra1
          case ya1 => (intro X hSw; go_simp; try with_reducible rfl)
          try simp only [Act.put, List.setIfInBounds_toArray, List.set_cons_zero, List.set_cons_succ]
          refine takeH (i := 2) (d := some 28) (v := ?va2) rfl rfl (by kernel_rfl) (by kernel_rfl) (by kernel_rfl) (fun _ _ _ h => h) (Or.inl ⟨by rfl, ?ya2⟩) (by assumption) ?ra2
          case ya2 => (intro X hSw; go_simp; try with_reducible rfl)
          try simp only [Act.put, List.setIfInBounds_toArray, List.set_cons_zero, List.set_cons_succ]
          refine takeH (i := 3) (d := some 29) (v := ?va3) rfl rfl (by kernel_rfl) (by kernel_rfl) (by kernel_rfl) (fun _ _ _ h => h) (Or.inl ⟨by rfl, ?ya3⟩) (by assumption) ?ra3
          case ya3 => (intro X hSw; go_simp; try with_reducible rfl)
          try simp only [Act.put, List.setIfInBounds_toArray, List.set_cons_zero, List.set_cons_succ]
          refine takeH (i := 4) (d := some 30) (v := ?va4) rfl rfl (by kernel_rfl) (by kernel_rfl) (by kernel_rfl) (fun _ _ _ h => h) (Or.inl ⟨by rfl, ?ya4⟩) (by assumption) ?ra4
          case ya4 => (intro X hSw; go_simp; try with_reducible rfl)
          try simp only [Act.put, List.setIfInBounds_toArray, List.set_cons_zero, List.set_cons_succ]
          refine takeH (i := 5) (d := some 31) (v := ?va5) rfl rfl (by kernel_rfl) (by kernel_rfl) (by kernel_rfl) (fun _ _ _ h => h) (Or.inl ⟨by rfl, ?ya5⟩) (by assumption) ?ra5
          case ya5 => (intro X hSw; go_simp; try with_reducible rfl)
          try simp only [Act.put, List.setIfInBounds_toArray, List.set_cons_zero, List.set_cons_succ]
          refine takeH (i := 6) (d := some 32) (v := ?va6) rfl rfl (by kernel_rfl) (by kernel_rfl) (by kernel_rfl) (fun _ _ _ h => h) (Or.inl ⟨by rfl, ?ya6⟩) (by assumption) ?ra6
          case ya6 => (intro X hSw; go_simp; try with_reducible rfl)
          try simp only [Act.put, List.setIfInBounds_toArray, List.set_cons_zero, List.set_cons_succ]
          refine takeH (i := 7) (d := some 33) (v := ?va7) rfl rfl (by kernel_rfl) (by kernel_rfl) (by kernel_rfl) (fun _ _ _ h => h) (Or.inl ⟨by rfl, ?ya7⟩) (by assumption) ?ra7
          case ya7 => (intro X hSw; obtain ⟨q0, q1, q2, q3, q4, q5, q6, q7, q8, q9⟩ := GY.out X hSw; go_simp; try with_reducible rfl)
          try simp only [Act.put, List.setIfInBounds_toArray, List.set_cons_zero, List.set_cons_succ]
          refine takeH (i := 8) (d := some 34) (v := ?va8) rfl rfl (by kernel_rfl) (by kernel_rfl) (by kernel_rfl) (fun _ _ _ h => h) (Or.inl ⟨by rfl, ?ya8⟩) (by assumption) ?ra8
          case ya8 => (intro X hSw; go_simp; try with_reducible rfl)
          try simp only [Act.put, List.setIfInBounds_toArray, List.set_cons_zero, List.set_cons_succ]
          refine takeH (i := 9) (d := some 35) (v := ?va9) rfl rfl (by kernel_rfl) (by kernel_rfl) (by kernel_rfl) (fun _ _ _ h => h) (Or.inl ⟨by rfl, ?ya9⟩) (by assumption) ?ra9
          case ya9 => (intro X hSw; go_simp; try with_reducible rfl)
          try simp only [Act.put, List.setIfInBounds_toArray, List.set_cons_zero, List.set_cons_succ]
          refine wpAnyH_ready (rs := [10]) (by kernel_rfl) (by simp) ?_
          refine AllReadyH.cons rfl (fun K hK => ?_) AllReadyH.nil
          go_simp
          refine (CD1.out _ (ndrew _)).mono ?_
          rintro e w4 ⟨rfl, h⟩
          obtain ⟨Fc, Gd, hp, hlow, hnr⟩ := h
          have PC := Lib.hid hp
          have LOW := Lib.hid hlow
          have NR := Lib.hid hnr.1
          have K4 := Lib.hid hnr.2
          obtain ⟨pd, cd, hb4, hc4⟩ := hp.two.list LC.out
          have B4 := Lib.hid hb4
          have M4 := Lib.hid (fun X (k : Keeps w4 X) => ref_in hp.two LC.out (hb4 _ (Keeps.refl _)).1 k)
          clear hp hlow hnr hb4 hc4
          refine hK.out _ _ (KV.out.trans K4.out) (fun hHeld => ?_)
          clear hK K
          try simp only [Act.put, List.setIfInBounds_toArray, List.set_cons_zero, List.set_cons_succ]
          refine takeH (i := 11) (d := some 37) (v := ?vb11) rfl rfl (by kernel_rfl) (by kernel_rfl) (by kernel_rfl) (fun _ _ _ h => h) (Or.inl ⟨by rfl, ?yb11⟩) (by assumption) ?rb11
          case yb11 => (intro X hSw; go_simp; try with_reducible rfl)
          try simp only [Act.put, List.setIfInBounds_toArray, List.set_cons_zero, List.set_cons_succ]
          refine takeH (i := 12) (d := some 38) (v := ?vb12) rfl rfl (by kernel_rfl) (by kernel_rfl) (by kernel_rfl) (fun _ _ _ h => h) (Or.inl ⟨by rfl, ?yb12⟩) (by assumption) ?rb12
          case yb12 => (intro X hSw; go_simp; try with_reducible rfl)
          try simp only [Act.put, List.setIfInBounds_toArray, List.set_cons_zero, List.set_cons_succ]
          refine takeH (i := 13) (d := some 39) (v := ?vb13) rfl rfl (by kernel_rfl) (by kernel_rfl) (by kernel_rfl) (fun _ _ _ h => h) (Or.inl ⟨by rfl, ?yb13⟩) (by assumption) ?rb13
          case yb13 => (intro X hSw; go_simp; try with_reducible rfl)
          try simp only [Act.put, List.setIfInBounds_toArray, List.set_cons_zero, List.set_cons_succ]
          refine takeH (i := 15) (d := some 41) (v := ?vb15) rfl rfl (by kernel_rfl) (by kernel_rfl) (by kernel_rfl) (fun _ _ _ h => h) (Or.inl ⟨by rfl, ?yb15⟩) (by assumption) ?rb15
          case yb15 => (intro X hSw; go_simp; try with_reducible rfl)
          try simp only [Act.put, List.setIfInBounds_toArray, List.set_cons_zero, List.set_cons_succ]
          refine takeH (i := 16) (d := some 42) (v := ?vb16) rfl rfl (by kernel_rfl) (by kernel_rfl) (by kernel_rfl) (fun _ _ _ h => h) (Or.inl ⟨by rfl, ?yb16⟩) (by assumption) ?rb16
          case yb16 => (intro X hSw; go_simp; try with_reducible rfl)
          try simp only [Act.put, List.setIfInBounds_toArray, List.set_cons_zero, List.set_cons_succ]
          refine takeH (i := 17) (d := some 43) (v := ?vb17) rfl rfl (by kernel_rfl) (by kernel_rfl) (by kernel_rfl) (fun _ _ _ h => h) (Or.inl ⟨by rfl, ?yb17⟩) (by assumption) ?rb17
          case yb17 => (intro X hSw; go_simp; try with_reducible rfl)
          try simp only [Act.put, List.setIfInBounds_toArray, List.set_cons_zero, List.set_cons_succ]
          refine wpAnyH_ready (rs := [14, 18]) (by kernel_rfl) (by simp) ?_
          refine AllReadyH.cons rfl (fun K hK => ?_) (AllReadyH.cons rfl (fun K hK => ?_) AllReadyH.nil)
          · go_simp
            refine (P.mail PC.out.one LC.out).mono ?_
            rintro e w5 ⟨v5, rfl, g, kk⟩
            have V5 := Lib.hid (own_mgs g (by have := LC.out; omega))
            obtain ⟨pm5, cm5, rfl⟩ := mgK.own_shape g
            have Q5 := Lib.hid kk
            clear g kk
            refine hK.out _ _ (KV.out.trans (K4.out.trans Q5.out)) (fun hHeld => ?_)
            clear hK K
            try simp only [Act.put, List.setIfInBounds_toArray, List.set_cons_zero, List.set_cons_succ]
            refine wpAnyH_ready (rs := [18]) (by kernel_rfl) (by simp) ?_
            refine AllReadyH.cons rfl (fun K hK => ?_) AllReadyH.nil
            obtain ⟨y0, z0⟩ := B4.out _ Q5.out
            go_simp
            refine hK.out _ _ (KV.out.trans (K4.out.trans Q5.out)) (fun hHeld => ?_)
            clear hK K
            try simp only [Act.put, List.setIfInBounds_toArray, List.set_cons_zero, List.set_cons_succ]
            clear y0 z0
            refine wpAnyH_ready (rs := [19]) (by kernel_rfl) (by simp) ?_
            refine AllReadyH.cons rfl (fun K hK => ?_) AllReadyH.nil
            go_simp
            refine (la_same _ _ _ w5 V5.out (M4.out _ Q5.out)).mono ?_
            rintro e w6 ⟨rfl, kk⟩
            have Q6 := Lib.hid (Q5.out.trans kk)
            clear kk
            refine hK.out _ _ (KV.out.trans (K4.out.trans Q6.out)) (fun hHeld => ?_)
            clear hK K
            try simp only [Act.put, List.setIfInBounds_toArray, List.set_cons_zero, List.set_cons_succ]
            refine takeH (i := 20) (d := some 46) (v := ?vc20) rfl rfl (by kernel_rfl) (by kernel_rfl) (by kernel_rfl) (fun _ _ _ h => h) (Or.inl ⟨by rfl, ?yc20⟩) (by assumption) ?rc20
            case yc20 => (intro X hSw; go_simp; try with_reducible rfl)
            try simp only [Act.put, List.setIfInBounds_toArray, List.set_cons_zero, List.set_cons_succ]
            refine takeH (i := 21) (d := some 47) (v := ?vc21) rfl rfl (by kernel_rfl) (by kernel_rfl) (by kernel_rfl) (fun _ _ _ h => h) (Or.inl ⟨by rfl, ?yc21⟩) (by assumption) ?rc21
            case yc21 => (intro X hSw; go_simp; try with_reducible rfl)
            try simp only [Act.put, List.setIfInBounds_toArray, List.set_cons_zero, List.set_cons_succ]
            refine takeH (i := 22) (d := some 48) (v := ?vc22) rfl rfl (by kernel_rfl) (by kernel_rfl) (by kernel_rfl) (fun _ _ _ h => h) (Or.inl ⟨by rfl, ?yc22⟩) (by assumption) ?rc22
            case yc22 => (intro X hSw; go_simp; try with_reducible rfl)
            try simp only [Act.put, List.setIfInBounds_toArray, List.set_cons_zero, List.set_cons_succ]
            refine takeH (i := 23) (d := some 49) (v := ?vc23) rfl rfl (by kernel_rfl) (by kernel_rfl) (by kernel_rfl) (fun _ _ _ h => h) (Or.inl ⟨by rfl, ?yc23⟩) (by assumption) ?rc23
            case yc23 => (intro X hSw; go_simp; try with_reducible rfl)
            try simp only [Act.put, List.setIfInBounds_toArray, List.set_cons_zero, List.set_cons_succ]
            refine takeH (i := 24) (d := some 50) (v := ?vc24) rfl rfl (by kernel_rfl) (by kernel_rfl) (by kernel_rfl) (fun _ _ _ h => h) (Or.inl ⟨by rfl, ?yc24⟩) (by assumption) ?rc24
            case yc24 => (intro X hSw; go_simp; try with_reducible rfl)
            try simp only [Act.put, List.setIfInBounds_toArray, List.set_cons_zero, List.set_cons_succ]
            refine takeH (i := 25) (d := some 51) (v := ?vc25) rfl rfl (by kernel_rfl) (by kernel_rfl) (by kernel_rfl) (fun _ _ _ h => h) (Or.inl ⟨by rfl, ?yc25⟩) (by assumption) ?rc25
            case yc25 => (intro X hSw; go_simp; try with_reducible rfl)
            try simp only [Act.put, List.setIfInBounds_toArray, List.set_cons_zero, List.set_cons_succ]
            refine takeH (i := 26) (d := some 52) (v := ?vc26) rfl rfl (by kernel_rfl) (by kernel_rfl) (by kernel_rfl) (fun _ _ _ h => h) (Or.inl ⟨by rfl, ?yc26⟩) (by assumption) ?rc26
            case yc26 => (intro X hSw; obtain ⟨q0, q1, q2, q3, q4, q5, q6, q7, q8, q9⟩ := GX.out X hSw; go_simp; try with_reducible rfl)
            try simp only [Act.put, List.setIfInBounds_toArray, List.set_cons_zero, List.set_cons_succ]
            refine takeH (i := 27) (d := some 53) (v := ?vc27) rfl rfl (by kernel_rfl) (by kernel_rfl) (by kernel_rfl) (fun _ _ _ h => h) (Or.inl ⟨by rfl, ?yc27⟩) (by assumption) ?rc27
            case yc27 => (intro X hSw; go_simp; try with_reducible rfl)
            try simp only [Act.put, List.setIfInBounds_toArray, List.set_cons_zero, List.set_cons_succ]
            refine takeH (i := 28) (d := some 54) (v := ?vc28) rfl rfl (by kernel_rfl) (by kernel_rfl) (by kernel_rfl) (fun _ _ _ h => h) (Or.inl ⟨by rfl, ?yc28⟩) (by assumption) ?rc28
            case yc28 => (intro X hSw; go_simp; try with_reducible rfl)
            try simp only [Act.put, List.setIfInBounds_toArray, List.set_cons_zero, List.set_cons_succ]
            refine wpAnyH_ready (rs := [29]) (by kernel_rfl) (by simp) ?_
            refine AllReadyH.cons rfl (fun K hK => ?_) AllReadyH.nil
            go_simp
            refine (CD2.out _ (NR.out.keeps Q6.out) (KV.out.trans (K4.out.trans Q6.out))).mono ?_
            rintro e w7 ⟨rfl, h⟩
            have K7 := Lib.hid (h.only.keeps (KV.out.trans (K4.out.trans Q6.out)) LB.out)
            have PC7 := Lib.hid ((PC.out.keeps Q6.out).loc fun i hi => h.only.same i ((PC.out.keeps Q6.out).lt hi) (LOW.out i hi))
            have HB := Lib.hid h
            have B7 : Hid (∀ X, Keeps w7 X → X.cell? ⟨bd, 0, none⟩ = some (.slice pd lc.length cd) ∧ X.frozen? ⟨bd, 0, none⟩ = false) := Lib.hid fun X k => by
              have e := ref_same (PC.out.two.keeps Q6.out) ((B4.out _ Q6.out).1) (fun i hi => h.only.same i ((PC.out.keeps Q6.out).lt (Or.inr hi)) (LOW.out i (Or.inr hi)))
              exact one_at (box_keep e k)
            have M7 := Lib.hid (fun X (k : Keeps w7 X) => ref_in PC7.out.two LC.out (B7.out _ (Keeps.refl _)).1 k)
            clear h
            refine hK.out _ _ (K7.out) (fun hHeld => ?_)
            clear hK K
            try simp only [Act.put, List.setIfInBounds_toArray, List.set_cons_zero, List.set_cons_succ]
            refine takeH (i := 30) (d := some 56) (v := ?vce30) rfl rfl (by kernel_rfl) (by kernel_rfl) (by kernel_rfl) (fun _ _ _ h => h) (Or.inl ⟨by rfl, ?yce30⟩) (by assumption) ?rce30
            case yce30 => (intro X hSw; go_simp; try with_reducible rfl)
            try simp only [Act.put, List.setIfInBounds_toArray, List.set_cons_zero, List.set_cons_succ]
            refine takeH (i := 31) (d := some 57) (v := ?vce31) rfl rfl (by kernel_rfl) (by kernel_rfl) (by kernel_rfl) (fun _ _ _ h => h) (Or.inl ⟨by rfl, ?yce31⟩) (by assumption) ?rce31
            case yce31 => (intro X hSw; go_simp; try with_reducible rfl)
            try simp only [Act.put, List.setIfInBounds_toArray, List.set_cons_zero, List.set_cons_succ]
            refine takeH (i := 32) (d := some 58) (v := ?vce32) rfl rfl (by kernel_rfl) (by kernel_rfl) (by kernel_rfl) (fun _ _ _ h => h) (Or.inl ⟨by rfl, ?yce32⟩) (by assumption) ?rce32
            case yce32 => (intro X hSw; go_simp; try with_reducible rfl)
            try simp only [Act.put, List.setIfInBounds_toArray, List.set_cons_zero, List.set_cons_succ]
            refine takeH (i := 33) (d := some 59) (v := ?vce33) rfl rfl (by kernel_rfl) (by kernel_rfl) (by kernel_rfl) (fun _ _ _ h => h) (Or.inl ⟨by rfl, ?yce33⟩) (by assumption) ?rce33
            case yce33 => (intro X hSw; go_simp; try with_reducible rfl)
            try simp only [Act.put, List.setIfInBounds_toArray, List.set_cons_zero, List.set_cons_succ]
            refine takeH (i := 35) (d := some 61) (v := ?vce35) rfl rfl (by kernel_rfl) (by kernel_rfl) (by kernel_rfl) (fun _ _ _ h => h) (Or.inl ⟨by rfl, ?yce35⟩) (by assumption) ?rce35
            case yce35 => (intro X hSw; go_simp; try with_reducible rfl)
            try simp only [Act.put, List.setIfInBounds_toArray, List.set_cons_zero, List.set_cons_succ]
            refine takeH (i := 36) (d := some 62) (v := ?vce36) rfl rfl (by kernel_rfl) (by kernel_rfl) (by kernel_rfl) (fun _ _ _ h => h) (Or.inl ⟨by rfl, ?yce36⟩) (by assumption) ?rce36
            case yce36 => (intro X hSw; go_simp; try with_reducible rfl)
            try simp only [Act.put, List.setIfInBounds_toArray, List.set_cons_zero, List.set_cons_succ]
            refine takeH (i := 37) (d := some 63) (v := ?vce37) rfl rfl (by kernel_rfl) (by kernel_rfl) (by kernel_rfl) (fun _ _ _ h => h) (Or.inl ⟨by rfl, ?yce37⟩) (by assumption) ?rce37
            case yce37 => (intro X hSw; go_simp; try with_reducible rfl)
            try simp only [Act.put, List.setIfInBounds_toArray, List.set_cons_zero, List.set_cons_succ]
            refine wpAnyH_ready (rs := [34, 38]) (by kernel_rfl) (by simp) ?_
            refine AllReadyH.cons rfl (fun K hK => ?_) (AllReadyH.cons rfl (fun K hK => ?_) AllReadyH.nil)
            · go_simp
              refine (P.mail PC7.out.one LC.out).mono ?_
              rintro e w8 ⟨v8, rfl, g, kk⟩
              have V8 := Lib.hid (own_mgs g (by have := LC.out; omega))
              obtain ⟨pm8, cm8, rfl⟩ := mgK.own_shape g
              have Q8 := Lib.hid kk
              clear g kk
              refine hK.out _ _ (K7.out.trans Q8.out) (fun hHeld => ?_)
              clear hK K
              try simp only [Act.put, List.setIfInBounds_toArray, List.set_cons_zero, List.set_cons_succ]
              refine wpAnyH_ready (rs := [38]) (by kernel_rfl) (by simp) ?_
              refine AllReadyH.cons rfl (fun K hK => ?_) AllReadyH.nil
              obtain ⟨y0, z0⟩ := B7.out _ Q8.out
              go_simp
              refine hK.out _ _ (K7.out.trans Q8.out) (fun hHeld => ?_)
              clear hK K
              try simp only [Act.put, List.setIfInBounds_toArray, List.set_cons_zero, List.set_cons_succ]
              clear y0 z0
              refine wpAnyH_ready (rs := [39]) (by kernel_rfl) (by simp) ?_
              refine AllReadyH.cons rfl (fun K hK => ?_) AllReadyH.nil
              go_simp
              refine (la_same _ _ _ w8 V8.out (M7.out _ Q8.out)).mono ?_
              rintro e w9 ⟨rfl, kk⟩
              have Q9 := Lib.hid (Q8.out.trans kk)
              clear kk
              refine hK.out _ _ (K7.out.trans Q9.out) (fun hHeld => ?_)
              clear hK K
              try simp only [Act.put, List.setIfInBounds_toArray, List.set_cons_zero, List.set_cons_succ]
              refine takeH (i := 40) (d := some 66) (v := ?vcf40) rfl rfl (by kernel_rfl) (by kernel_rfl) (by kernel_rfl) (fun _ _ _ h => h) (Or.inl ⟨by rfl, ?ycf40⟩) (by assumption) ?rcf40
              case ycf40 => (intro X hSw; go_simp; try with_reducible rfl)
              try simp only [Act.put, List.setIfInBounds_toArray, List.set_cons_zero, List.set_cons_succ]
              refine takeH (i := 41) (d := some 67) (v := ?vcf41) rfl rfl (by kernel_rfl) (by kernel_rfl) (by kernel_rfl) (fun _ _ _ h => h) (Or.inl ⟨by rfl, ?ycf41⟩) (by assumption) ?rcf41
              case ycf41 => (intro X hSw; go_simp; try with_reducible rfl)
              try simp only [Act.put, List.setIfInBounds_toArray, List.set_cons_zero, List.set_cons_succ]
              refine wpAnyH_done (by kernel_rfl) ?_ _
              go_wp2_with fail
              go_meet
              exact ⟨rfl, (HB.out.from (K4.out.trans Q6.out)).keeps Q9.out, K7.out.trans Q9.out⟩
            · obtain ⟨y0, z0⟩ := B7.out _ (Keeps.refl _)
              go_simp
              refine hK.out _ _ (K7.out) (fun hHeld => ?_)
              clear hK K
              try simp only [Act.put, List.setIfInBounds_toArray, List.set_cons_zero, List.set_cons_succ]
              clear y0 z0
              refine wpAnyH_ready (rs := [34]) (by kernel_rfl) (by simp) ?_
              refine AllReadyH.cons rfl (fun K hK => ?_) AllReadyH.nil
              go_simp
              refine (P.mail PC7.out.one LC.out).mono ?_
              rintro e w8 ⟨v8, rfl, g, kk⟩
              have V8 := Lib.hid (own_mgs g (by have := LC.out; omega))
              obtain ⟨pm8, cm8, rfl⟩ := mgK.own_shape g
              have Q8 := Lib.hid kk
              clear g kk
              refine hK.out _ _ (K7.out.trans Q8.out) (fun hHeld => ?_)
              clear hK K
              try simp only [Act.put, List.setIfInBounds_toArray, List.set_cons_zero, List.set_cons_succ]
              refine wpAnyH_ready (rs := [39]) (by kernel_rfl) (by simp) ?_
              refine AllReadyH.cons rfl (fun K hK => ?_) AllReadyH.nil
              go_simp
              refine (la_same _ _ _ w8 V8.out (M7.out _ Q8.out)).mono ?_
              rintro e w9 ⟨rfl, kk⟩
              have Q9 := Lib.hid (Q8.out.trans kk)
              clear kk
              refine hK.out _ _ (K7.out.trans Q9.out) (fun hHeld => ?_)
              clear hK K
              try simp only [Act.put, List.setIfInBounds_toArray, List.set_cons_zero, List.set_cons_succ]
              refine takeH (i := 40) (d := some 66) (v := ?vcg40) rfl rfl (by kernel_rfl) (by kernel_rfl) (by kernel_rfl) (fun _ _ _ h => h) (Or.inl ⟨by rfl, ?ycg40⟩) (by assumption) ?rcg40
              case ycg40 => (intro X hSw; go_simp; try with_reducible rfl)
              try simp only [Act.put, List.setIfInBounds_toArray, List.set_cons_zero, List.set_cons_succ]
              refine takeH (i := 41) (d := some 67) (v := ?vcg41) rfl rfl (by kernel_rfl) (by kernel_rfl) (by kernel_rfl) (fun _ _ _ h => h) (Or.inl ⟨by rfl, ?ycg41⟩) (by assumption) ?rcg41
              case ycg41 => (intro X hSw; go_simp; try with_reducible rfl)
              try simp only [Act.put, List.setIfInBounds_toArray, List.set_cons_zero, List.set_cons_succ]
              refine wpAnyH_done (by kernel_rfl) ?_ _
              go_wp2_with fail
              go_meet
              exact ⟨rfl, (HB.out.from (K4.out.trans Q6.out)).keeps Q9.out, K7.out.trans Q9.out⟩
          · obtain ⟨y0, z0⟩ := B4.out _ (Keeps.refl _)
            go_simp
            refine hK.out _ _ (KV.out.trans K4.out) (fun hHeld => ?_)
            clear hK K
            try simp only [Act.put, List.setIfInBounds_toArray, List.set_cons_zero, List.set_cons_succ]
            clear y0 z0
            refine wpAnyH_ready (rs := [14]) (by kernel_rfl) (by simp) ?_
            refine AllReadyH.cons rfl (fun K hK => ?_) AllReadyH.nil
            go_simp
            refine (P.mail PC.out.one LC.out).mono ?_
            rintro e w5 ⟨v5, rfl, g, kk⟩
            have V5 := Lib.hid (own_mgs g (by have := LC.out; omega))
            obtain ⟨pm5, cm5, rfl⟩ := mgK.own_shape g
            have Q5 := Lib.hid kk
            clear g kk
            refine hK.out _ _ (KV.out.trans (K4.out.trans Q5.out)) (fun hHeld => ?_)
            clear hK K
            try simp only [Act.put, List.setIfInBounds_toArray, List.set_cons_zero, List.set_cons_succ]
            refine wpAnyH_ready (rs := [19]) (by kernel_rfl) (by simp) ?_
            refine AllReadyH.cons rfl (fun K hK => ?_) AllReadyH.nil
            go_simp
            refine (la_same _ _ _ w5 V5.out (M4.out _ Q5.out)).mono ?_
            rintro e w6 ⟨rfl, kk⟩
            have Q6 := Lib.hid (Q5.out.trans kk)
            clear kk
            refine hK.out _ _ (KV.out.trans (K4.out.trans Q6.out)) (fun hHeld => ?_)
            clear hK K
            try simp only [Act.put, List.setIfInBounds_toArray, List.set_cons_zero, List.set_cons_succ]
            refine takeH (i := 20) (d := some 46) (v := ?vd20) rfl rfl (by kernel_rfl) (by kernel_rfl) (by kernel_rfl) (fun _ _ _ h => h) (Or.inl ⟨by rfl, ?yd20⟩) (by assumption) ?rd20
            case yd20 => (intro X hSw; go_simp; try with_reducible rfl)
            try simp only [Act.put, List.setIfInBounds_toArray, List.set_cons_zero, List.set_cons_succ]
            refine takeH (i := 21) (d := some 47) (v := ?vd21) rfl rfl (by kernel_rfl) (by kernel_rfl) (by kernel_rfl) (fun _ _ _ h => h) (Or.inl ⟨by rfl, ?yd21⟩) (by assumption) ?rd21
            case yd21 => (intro X hSw; go_simp; try with_reducible rfl)
            try simp only [Act.put, List.setIfInBounds_toArray, List.set_cons_zero, List.set_cons_succ]
            refine takeH (i := 22) (d := some 48) (v := ?vd22) rfl rfl (by kernel_rfl) (by kernel_rfl) (by kernel_rfl) (fun _ _ _ h => h) (Or.inl ⟨by rfl, ?yd22⟩) (by assumption) ?rd22
            case yd22 => (intro X hSw; go_simp; try with_reducible rfl)
            try simp only [Act.put, List.setIfInBounds_toArray, List.set_cons_zero, List.set_cons_succ]
            refine takeH (i := 23) (d := some 49) (v := ?vd23) rfl rfl (by kernel_rfl) (by kernel_rfl) (by kernel_rfl) (fun _ _ _ h => h) (Or.inl ⟨by rfl, ?yd23⟩) (by assumption) ?rd23
            case yd23 => (intro X hSw; go_simp; try with_reducible rfl)
            try simp only [Act.put, List.setIfInBounds_toArray, List.set_cons_zero, List.set_cons_succ]
            refine takeH (i := 24) (d := some 50) (v := ?vd24) rfl rfl (by kernel_rfl) (by kernel_rfl) (by kernel_rfl) (fun _ _ _ h => h) (Or.inl ⟨by rfl, ?yd24⟩) (by assumption) ?rd24
            case yd24 => (intro X hSw; go_simp; try with_reducible rfl)
            try simp only [Act.put, List.setIfInBounds_toArray, List.set_cons_zero, List.set_cons_succ]
            refine takeH (i := 25) (d := some 51) (v := ?vd25) rfl rfl (by kernel_rfl) (by kernel_rfl) (by kernel_rfl) (fun _ _ _ h => h) (Or.inl ⟨by rfl, ?yd25⟩) (by assumption) ?rd25
            case yd25 => (intro X hSw; go_simp; try with_reducible rfl)
            try simp only [Act.put, List.setIfInBounds_toArray, List.set_cons_zero, List.set_cons_succ]
            refine takeH (i := 26) (d := some 52) (v := ?vd26) rfl rfl (by kernel_rfl) (by kernel_rfl) (by kernel_rfl) (fun _ _ _ h => h) (Or.inl ⟨by rfl, ?yd26⟩) (by assumption) ?rd26
            case yd26 => (intro X hSw; obtain ⟨q0, q1, q2, q3, q4, q5, q6, q7, q8, q9⟩ := GX.out X hSw; go_simp; try with_reducible rfl)
            try simp only [Act.put, List.setIfInBounds_toArray, List.set_cons_zero, List.set_cons_succ]
            refine takeH (i := 27) (d := some 53) (v := ?vd27) rfl rfl (by kernel_rfl) (by kernel_rfl) (by kernel_rfl) (fun _ _ _ h => h) (Or.inl ⟨by rfl, ?yd27⟩) (by assumption) ?rd27
            case yd27 => (intro X hSw; go_simp; try with_reducible rfl)
            try simp only [Act.put, List.setIfInBounds_toArray, List.set_cons_zero, List.set_cons_succ]
            refine takeH (i := 28) (d := some 54) (v := ?vd28) rfl rfl (by kernel_rfl) (by kernel_rfl) (by kernel_rfl) (fun _ _ _ h => h) (Or.inl ⟨by rfl, ?yd28⟩) (by assumption) ?rd28
            case yd28 => (intro X hSw; go_simp; try with_reducible rfl)
            try simp only [Act.put, List.setIfInBounds_toArray, List.set_cons_zero, List.set_cons_succ]
            refine wpAnyH_ready (rs := [29]) (by kernel_rfl) (by simp) ?_
            refine AllReadyH.cons rfl (fun K hK => ?_) AllReadyH.nil
            go_simp
            refine (CD2.out _ (NR.out.keeps Q6.out) (KV.out.trans (K4.out.trans Q6.out))).mono ?_
            rintro e w7 ⟨rfl, h⟩
            have K7 := Lib.hid (h.only.keeps (KV.out.trans (K4.out.trans Q6.out)) LB.out)
            have PC7 := Lib.hid ((PC.out.keeps Q6.out).loc fun i hi => h.only.same i ((PC.out.keeps Q6.out).lt hi) (LOW.out i hi))
            have HB := Lib.hid h
            have B7 : Hid (∀ X, Keeps w7 X → X.cell? ⟨bd, 0, none⟩ = some (.slice pd lc.length cd) ∧ X.frozen? ⟨bd, 0, none⟩ = false) := Lib.hid fun X k => by
              have e := ref_same (PC.out.two.keeps Q6.out) ((B4.out _ Q6.out).1) (fun i hi => h.only.same i ((PC.out.keeps Q6.out).lt (Or.inr hi)) (LOW.out i (Or.inr hi)))
              exact one_at (box_keep e k)
            have M7 := Lib.hid (fun X (k : Keeps w7 X) => ref_in PC7.out.two LC.out (B7.out _ (Keeps.refl _)).1 k)
            clear h
            refine hK.out _ _ (K7.out) (fun hHeld => ?_)
            clear hK K
            try simp only [Act.put, List.setIfInBounds_toArray, List.set_cons_zero, List.set_cons_succ]
            refine takeH (i := 30) (d := some 56) (v := ?vde30) rfl rfl (by kernel_rfl) (by kernel_rfl) (by kernel_rfl) (fun _ _ _ h => h) (Or.inl ⟨by rfl, ?yde30⟩) (by assumption) ?rde30
            case yde30 => (intro X hSw; go_simp; try with_reducible rfl)
            try simp only [Act.put, List.setIfInBounds_toArray, List.set_cons_zero, List.set_cons_succ]
            refine takeH (i := 31) (d := some 57) (v := ?vde31) rfl rfl (by kernel_rfl) (by kernel_rfl) (by kernel_rfl) (fun _ _ _ h => h) (Or.inl ⟨by rfl, ?yde31⟩) (by assumption) ?rde31
            case yde31 => (intro X hSw; go_simp; try with_reducible rfl)
            try simp only [Act.put, List.setIfInBounds_toArray, List.set_cons_zero, List.set_cons_succ]
            refine takeH (i := 32) (d := some 58) (v := ?vde32) rfl rfl (by kernel_rfl) (by kernel_rfl) (by kernel_rfl) (fun _ _ _ h => h) (Or.inl ⟨by rfl, ?yde32⟩) (by assumption) ?rde32
            case yde32 => (intro X hSw; go_simp; try with_reducible rfl)
            try simp only [Act.put, List.setIfInBounds_toArray, List.set_cons_zero, List.set_cons_succ]
            refine takeH (i := 33) (d := some 59) (v := ?vde33) rfl rfl (by kernel_rfl) (by kernel_rfl) (by kernel_rfl) (fun _ _ _ h => h) (Or.inl ⟨by rfl, ?yde33⟩) (by assumption) ?rde33
            case yde33 => (intro X hSw; go_simp; try with_reducible rfl)
            try simp only [Act.put, List.setIfInBounds_toArray, List.set_cons_zero, List.set_cons_succ]
            refine takeH (i := 35) (d := some 61) (v := ?vde35) rfl rfl (by kernel_rfl) (by kernel_rfl) (by kernel_rfl) (fun _ _ _ h => h) (Or.inl ⟨by rfl, ?yde35⟩) (by assumption) ?rde35
            case yde35 => (intro X hSw; go_simp; try with_reducible rfl)
            try simp only [Act.put, List.setIfInBounds_toArray, List.set_cons_zero, List.set_cons_succ]
            refine takeH (i := 36) (d := some 62) (v := ?vde36) rfl rfl (by kernel_rfl) (by kernel_rfl) (by kernel_rfl) (fun _ _ _ h => h) (Or.inl ⟨by rfl, ?yde36⟩) (by assumption) ?rde36
            case yde36 => (intro X hSw; go_simp; try with_reducible rfl)
            try simp only [Act.put, List.setIfInBounds_toArray, List.set_cons_zero, List.set_cons_succ]
            refine takeH (i := 37) (d := some 63) (v := ?vde37) rfl rfl (by kernel_rfl) (by kernel_rfl) (by kernel_rfl) (fun _ _ _ h => h) (Or.inl ⟨by rfl, ?yde37⟩) (by assumption) ?rde37
            case yde37 => (intro X hSw; go_simp; try with_reducible rfl)
            try simp only [Act.put, List.setIfInBounds_toArray, List.set_cons_zero, List.set_cons_succ]
            refine wpAnyH_ready (rs := [34, 38]) (by kernel_rfl) (by simp) ?_
            refine AllReadyH.cons rfl (fun K hK => ?_) (AllReadyH.cons rfl (fun K hK => ?_) AllReadyH.nil)
            · go_simp
              refine (P.mail PC7.out.one LC.out).mono ?_
              rintro e w8 ⟨v8, rfl, g, kk⟩
              have V8 := Lib.hid (own_mgs g (by have := LC.out; omega))
              obtain ⟨pm8, cm8, rfl⟩ := mgK.own_shape g
              have Q8 := Lib.hid kk
              clear g kk
              refine hK.out _ _ (K7.out.trans Q8.out) (fun hHeld => ?_)
              clear hK K
              try simp only [Act.put, List.setIfInBounds_toArray, List.set_cons_zero, List.set_cons_succ]
              refine wpAnyH_ready (rs := [38]) (by kernel_rfl) (by simp) ?_
              refine AllReadyH.cons rfl (fun K hK => ?_) AllReadyH.nil
              obtain ⟨y0, z0⟩ := B7.out _ Q8.out
              go_simp
              refine hK.out _ _ (K7.out.trans Q8.out) (fun hHeld => ?_)
              clear hK K
              try simp only [Act.put, List.setIfInBounds_toArray, List.set_cons_zero, List.set_cons_succ]
              clear y0 z0
              refine wpAnyH_ready (rs := [39]) (by kernel_rfl) (by simp) ?_
              refine AllReadyH.cons rfl (fun K hK => ?_) AllReadyH.nil
              go_simp
              refine (la_same _ _ _ w8 V8.out (M7.out _ Q8.out)).mono ?_
              rintro e w9 ⟨rfl, kk⟩
              have Q9 := Lib.hid (Q8.out.trans kk)
              clear kk
              refine hK.out _ _ (K7.out.trans Q9.out) (fun hHeld => ?_)
              clear hK K
              try simp only [Act.put, List.setIfInBounds_toArray, List.set_cons_zero, List.set_cons_succ]
              refine takeH (i := 40) (d := some 66) (v := ?vdf40) rfl rfl (by kernel_rfl) (by kernel_rfl) (by kernel_rfl) (fun _ _ _ h => h) (Or.inl ⟨by rfl, ?ydf40⟩) (by assumption) ?rdf40
              case ydf40 => (intro X hSw; go_simp; try with_reducible rfl)
              try simp only [Act.put, List.setIfInBounds_toArray, List.set_cons_zero, List.set_cons_succ]
              refine takeH (i := 41) (d := some 67) (v := ?vdf41) rfl rfl (by kernel_rfl) (by kernel_rfl) (by kernel_rfl) (fun _ _ _ h => h) (Or.inl ⟨by rfl, ?ydf41⟩) (by assumption) ?rdf41
              case ydf41 => (intro X hSw; go_simp; try with_reducible rfl)
              try simp only [Act.put, List.setIfInBounds_toArray, List.set_cons_zero, List.set_cons_succ]
              refine wpAnyH_done (by kernel_rfl) ?_ _
              go_wp2_with fail
              go_meet
              exact ⟨rfl, (HB.out.from (K4.out.trans Q6.out)).keeps Q9.out, K7.out.trans Q9.out⟩
            · obtain ⟨y0, z0⟩ := B7.out _ (Keeps.refl _)
              go_simp
              refine hK.out _ _ (K7.out) (fun hHeld => ?_)
              clear hK K
              try simp only [Act.put, List.setIfInBounds_toArray, List.set_cons_zero, List.set_cons_succ]
              clear y0 z0
              refine wpAnyH_ready (rs := [34]) (by kernel_rfl) (by simp) ?_
              refine AllReadyH.cons rfl (fun K hK => ?_) AllReadyH.nil
              go_simp
              refine (P.mail PC7.out.one LC.out).mono ?_
              rintro e w8 ⟨v8, rfl, g, kk⟩
              have V8 := Lib.hid (own_mgs g (by have := LC.out; omega))
              obtain ⟨pm8, cm8, rfl⟩ := mgK.own_shape g
              have Q8 := Lib.hid kk
              clear g kk
              refine hK.out _ _ (K7.out.trans Q8.out) (fun hHeld => ?_)
              clear hK K
              try simp only [Act.put, List.setIfInBounds_toArray, List.set_cons_zero, List.set_cons_succ]
              refine wpAnyH_ready (rs := [39]) (by kernel_rfl) (by simp) ?_
              refine AllReadyH.cons rfl (fun K hK => ?_) AllReadyH.nil
              go_simp
              refine (la_same _ _ _ w8 V8.out (M7.out _ Q8.out)).mono ?_
              rintro e w9 ⟨rfl, kk⟩
              have Q9 := Lib.hid (Q8.out.trans kk)
              clear kk
              refine hK.out _ _ (K7.out.trans Q9.out) (fun hHeld => ?_)
              clear hK K
              try simp only [Act.put, List.setIfInBounds_toArray, List.set_cons_zero, List.set_cons_succ]
              refine takeH (i := 40) (d := some 66) (v := ?vdg40) rfl rfl (by kernel_rfl) (by kernel_rfl) (by kernel_rfl) (fun _ _ _ h => h) (Or.inl ⟨by rfl, ?ydg40⟩) (by assumption) ?rdg40
              case ydg40 => (intro X hSw; go_simp; try with_reducible rfl)
              try simp only [Act.put, List.setIfInBounds_toArray, List.set_cons_zero, List.set_cons_succ]
              refine takeH (i := 41) (d := some 67) (v := ?vdg41) rfl rfl (by kernel_rfl) (by kernel_rfl) (by kernel_rfl) (fun _ _ _ h => h) (Or.inl ⟨by rfl, ?ydg41⟩) (by assumption) ?rdg41
              case ydg41 => (intro X hSw; go_simp; try with_reducible rfl)
              try simp only [Act.put, List.setIfInBounds_toArray, List.set_cons_zero, List.set_cons_succ]
              refine wpAnyH_done (by kernel_rfl) ?_ _
              go_wp2_with fail
              go_meet
              exact ⟨rfl, (HB.out.from (K4.out.trans Q6.out)).keeps Q9.out, K7.out.trans Q9.out⟩
          -- region 9 end
        case rest =>
          rename World => wd
          obtain ⟨rfl, hb, hk⟩ := hcut
          obtain ⟨⟨F', G', hp, hfr⟩, _⟩ := hb
          have KD := Lib.hid hk
          have LBD : Hid (∀ i, F' i ∨ G' i → wb.heap.size ≤ i) := Lib.hid fun i hi => by
            rcases hfr i hi with q | q
            · exact LB.out i q
            · exact Nat.le_trans KV.out.size q
          obtain ⟨l', hl'⟩ : ∃ l', step l x = l' := ⟨_, rfl⟩
          have LM : Hid (l'.length ≤ 1000) := Lib.hid (hl' ▸ step_len LL.out)
          rw [hl'] at hp NEXT
          have PD := Lib.hid hp
          clear hk hfr hp hl' CD1 CD2 PC2 LOW2 P2 KX KR PR LL LC GX GY XOK YOK e1 e2
          go_wp2_with fail
          refine (P.mail PD.out.one LM.out).mono ?_
          rintro e w5 ⟨vm, rfl, gm, kk⟩
          obtain ⟨pm, cm, rfl⟩ := mgK.own_shape gm
          have P5 := Lib.hid (PD.out.keeps kk)
          obtain ⟨pr, cr, rc, _⟩ := P5.out.two.list LM.out
          have SM := la_same _ _ l' w5 (own_mgs gm (by have := LM.out; omega)) (ref_in P5.out.two LM.out (rc _ (Keeps.refl _)).1 (Keeps.refl _))
          have y3 := (rc _ (Keeps.refl _)).1
          obtain ⟨n, hn⟩ : ∃ n, l'.length = n := ⟨_, rfl⟩
          rw [hn] at gm SM y3 ⊢
          have SMM := Lib.hid SM
          have V5 := Lib.hid gm
          have HNN := Lib.hid hn
          have K5 := Lib.hid kk
          clear gm kk rc SM hn
          go_wp2_with fail
          refine SMM.out.mono ?_
          rintro e w6 ⟨rfl, k6⟩
          have K6 := Lib.hid (K5.out.trans k6)
          have V6 := Lib.hid (mgK.own_keeps V5.out k6)
          clear k6 y3 SMM
          go_wp2_with fail
          go_loopg [9] n (fun gz v9 X => ∃ (z : Nat) (M : List Mg), z + gz = n ∧ v9 = .int .i64 (z : Int) ∧ M.length = n ∧ mgK.Own wd.heap.size X (.slice pm n cm) M ∧ Keeps wd X)
          case atStart => exact ⟨0, l', by omega, rfl, HNN.out, V6.out, K6.out⟩
          case round =>
            rename World => wi
            obtain ⟨z, M, hz, rfl, hM, ho, hk6⟩ := hrel
            have HZ := Lib.hid hz
            have HM := Lib.hid hM
            have HO := Lib.hid ho
            have KI := Lib.hid hk6
            clear hz hM ho hk6
            cases gk with
            | succ gz =>
              have hzn : z < n := by have := HZ.out; omega
              obtain ⟨u, hu⟩ : ∃ u, M[z]? = some u := ⟨_, List.getElem?_eq_getElem (by rw [HM.out]; exact hzn)⟩
              have WZ : Hid (wrap64 ((z : Int) + 1) = (z : Int) + 1) := Lib.hid (i64w (by unfold top; omega) (by have := LM.out; have := HNN.out; unfold top; omega))
              obtain ⟨gg, rfl⟩ : ∃ gg, pm = some ⟨gg, 0, none⟩ := by
                rcases HO.out.2 with ⟨e, h0⟩ | ⟨g', cap, cur, e, _⟩
                · have := HM.out; omega
                · simp only [Value.slice.injEq] at e
                  exact ⟨g', e.1⟩
              obtain ⟨⟨s0, s1, s2, s3, s4, s5, s6⟩, f0, f1, f2, f3, f4, f5, f6⟩ := own_at7 HO.out hu
              have ST := Lib.hid (own_set7 (x := ⟨99, 0, 0, ⟨#[]⟩, 0, 0, 0⟩) HO.out (show z < M.length by rw [HM.out]; exact hzn))
              have GG : Hid (wd.heap.size ≤ gg) := Lib.hid (mgK.own_lt HO.out gg rfl).1
              have hz1 : (z : Int) < (n : Int) := by omega
              have hz0 : (0 : Int) ≤ (z : Int) := by omega
              obtain ⟨W1, hW1⟩ : ∃ W1, sevenM wi gg (z * 7) ⟨99, 0, 0, ⟨#[]⟩, 0, 0, 0⟩ = W1 := ⟨_, rfl⟩
              have OS1 := Lib.hid (hW1 ▸ ST.out)
              have KS1 : Hid (Keeps wd W1) := Lib.hid (hW1 ▸ (sevenM_only _).keeps KI.out (fun j hj => by rw [hj]; exact GG.out))
              unfold sevenM at hW1
              have EW1 := Lib.hid hW1
              clear hu hzn hW1 ST
              go_upto_region 16 with (fail)
              rw [EW1.out]
              clear EW1 s0 s1 s2 s3 s4 s5 s6 f0 f1 f2 f3 f4 f5 f6
              go_wp2_with fail
              go_roundg gz
              case measure => omega
              case rel => exact ⟨z + 1, M.set z ⟨99, 0, 0, ⟨#[]⟩, 0, 0, 0⟩, step_num HZ.out, by first | (rw [WZ.out]; rfl) | rfl | go_num, by rw [List.length_set]; exact HM.out, OS1.out, KS1.out⟩
            | zero =>
              obtain rfl : z = n := by have := HZ.out; omega
              have hzz : ¬ ((z : Int) < (z : Int)) := by omega
              go_wp2_with fail
              go_roundg g
              case measure => omega
              case rel => exact ⟨k + 1, F', G', step_num HI.out, by first | rfl | go_num, by rw [NEXT.out]; exact PD.out.keeps KI.out, LBD.out, KD.out.trans KI.out⟩
end Nt
end Go.Proofs.Ytajphjlfefhajaa
