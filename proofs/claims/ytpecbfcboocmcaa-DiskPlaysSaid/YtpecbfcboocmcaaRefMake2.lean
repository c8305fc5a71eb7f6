
/- The document's own disk: Create. -/
import Derived.Test.YtpecbfcboocmcaaRefMake
set_option linter.unusedVariables false
namespace Go.Proofs.Ytpecbfcboocmcaa
open Go.ChangeShapes Go.WideShapes Go.ChangeAt Go.RowKit Go.Maps Csv Dk

theorem src_none (w : World) : Src w (.slice none 0 0) [] := ⟨none, 0, rfl, fun _ => ⟨rfl, rfl⟩, fun a ha => by cases ha⟩
set_option maxRecDepth 100000 in
set_option maxHeartbeats 4000000 in
theorem rmake_nil (r : Nat) (vK : Value) (ks : List Int) (D : DiskM) (n : Int) (w : World) (h : RefAt w r (.slice none 0 0) vK ks D) (hN : D.files = []) (hn : I64 n) (h0 : ¬ n < 0) (hu : D.up = true) (hp : posF D.files n = none) (hc : D.count.1 = 0) (cfi : D.count.2.files = D.files) :
    Calls Try.prog 23 #[ptrV r, .int .i64 n] w fun e w' => e = .returned (.int .i64 0) ∧ RGoes w w' (rfoot r (.slice none 0 0) vK) r (D.count.2.put (insF D.count.2.files n)) := by
  have H := Lib.hid h
  have hn' := hn.nat
  have cf := rfind_any r (.slice none 0 0) vK ks D n w h
  rw [hp] at cf
  have cf' : Calls Try.prog 44 #[ptrV r, .int .i64 n] w fun e w' => e = .returned (.int .i64 (-1)) ∧ w = w' := cf
  obtain ⟨_, c1, c2', _⟩ := h.cells
  rw [hu] at c2'
  have c2' : w.cell? ⟨r, 2, none⟩ = some (.bool false) := c2'
  have t0 : decide (n < 0) = false := decide_eq_false h0
  have cn := rfails_no h hc
  have HF := Lib.hid (pos_none hp)
  have HCF := Lib.hid cfi
  have HNN := Lib.hid hN
  have HN0 := Lib.hid (show 0 ≤ n by omega)
  have HN9 := Lib.hid (show n ≤ 9223372036854775807 by omega)
  clear h hu hn h0 cf hp hN hc cfi
  unfold ptrV at *
  go_enter Try.func23, Try.ntmps23
  go_wp2_with (first
    | (go_at_call 44; refine cf'.mono ?_; rintro e w' ⟨rfl, rfl⟩)
    | fail)
  refine cn.mono ?_
  rintro e w2 ⟨rfl, h2, hg2⟩
  obtain ⟨_, d1, _, _, _, _, fz⟩ := h2.cells
  have f1 := fz 1
  have hrl := block_lt h2.ref
  have hNN : D.count.2.files = [] := by rw [HCF.out]; exact HNN.out
  have hf2 : findF D.count.2.files n = none := by rw [HCF.out]; exact HF.out
  have hok := h2.okay.ins HN0.out HN9.out hf2 (by rw [hNN]; simp)
  rw [hNN] at hok
  have key : ∀ W2 p2 cp2, W2.ownsRow w2.heap.size tFr 3 (.slice p2 1 cp2) (([] ++ ([⟨n, [], 0⟩] : List FileM)) ++ []).length (rcells (([] ++ ([⟨n, [], 0⟩] : List FileM)) ++ [])) → Below w2.heap.size w2 W2 →
      RGoes w (W2.setCell ⟨r, 1, none⟩ (.slice p2 1 cp2)) (rfoot r (.slice none 0 0) vK) r (D.count.2.put (insF D.count.2.files n)) := fun W2 p2 cp2 q2 k2 => by
    have h3 := h2.keeps k2
    have b1 := Joins.block_setCell (i := 1) h3.ref (.slice p2 1 cp2)
    have o : ∀ b, b ≠ r → (W2.setCell ⟨r, 1, none⟩ (.slice p2 1 cp2)).heap[b]? = W2.heap[b]? := fun b hb => Below.heap_setCell _ _ _ _ hb
    rw [hNN]
    refine rgoes_mk (vL' := .slice p2 1 cp2) (vK' := vK) (ks' := ks) (RefAt.turn (by rw [b1]; rfl) (own_zero (own_local q2 fun b hb => o b fun e => by have := (q2.lt b hb).1; omega)) (own_local h3.kept fun b hb => o b fun e => h3.r_ne.2 (e ▸ hb)) h3.fail hok) ?_ (fun b hb => ?_) (fun b hb => Or.inl (mem_rfoot.2 (Or.inr (Or.inr hb))))
    · have fr : Frame [r] W2 (W2.setCell ⟨r, 1, none⟩ (.slice p2 1 cp2)) := grown_frame (grown_setCell _ _ _ _) (by simp)
      exact ((grown_frame hg2 (by simp [rfoot])).trans (Frame.of_keeps k2 (rfoot r (.slice none 0 0) vK)) fun x hx => Or.inl hx).trans fr fun x hx => by simp at hx; subst hx; exact Or.inl (by simp [rfoot])
    · have := (q2.lt b hb).1
      exact Or.inr (Nat.le_trans hg2.size this)
  have KEY := Lib.hid key
  have HR := Lib.hid hrl
  clear key hok hf2 hNN h2 hg2 fz cn cf'
  have CC := Lib.hid d1
  have FF := Lib.hid f1
  go_upto_block 0 with (fail)
  go_cut [5] from 26 (fun i wc => i = .int .i64 0 ∧ w2 = wc)
  case rest =>
    obtain ⟨rfl, rfl⟩ := hcut
    have HLT := Lib.hid (show ([] : List FileM).length = 0 from rfl)
    have HLT9 := Lib.hid (show ([] : List FileM).length ≤ 1000 by simp)
    have HT1 := Lib.hid (show ([] : List FileM).length + ([⟨n, [], 0⟩] : List FileM).length = 1 from rfl)
    have HT19 := Lib.hid (show ([] : List FileM).length + ([⟨n, [], 0⟩] : List FileM).length ≤ 1000 by simp)
    have HT2 := Lib.hid (show ([] ++ ([⟨n, [], 0⟩] : List FileM)).length + ([] : List FileM).length = 1 from rfl)
    have HT29 := Lib.hid (show ([] ++ ([⟨n, [], 0⟩] : List FileM)).length + ([] : List FileM).length ≤ 1000 by simp)
    have S1 := Lib.hid (src_none w2)
    go_wp2
    go_region_law (first
      | (refine step_copy2 rfl _ _ rfl rfl w2 ?c1 _ [] 0 HLT.out rfl rfl S1.out HLT9.out ?_
         case c1 => first | exact bel_drew w2 | exact bel_alloc w2 _
         intro p1 cp1 W1 q1 k1 z1
         have c1' := (keepS k1.block HR.out CC.out FF.out).1
         have f1' := (keepS k1.block HR.out CC.out FF.out).2
         have l1' : r < W1.heap.size := Nat.lt_of_lt_of_le HR.out k1.size)
      | (refine step_app2 rfl _ _ rfl rfl w2 W1 k1 ?c1 _ _ [] [⟨n, [], 0⟩] 1 HT1.out rfl rfl q1 ?c2 HT19.out ?_
         case c1 => first | exact Below.refl _ _ | exact (Below.refl _ _).alloc (Nat.le_refl _) _
         case c2 => first | exact src_one (heap_alloc_new _ _) | exact src_one ((z1 _ (by simp)).trans (heap_alloc_new _ _))
         intro p2 cp2 W2 q2 k2
         have c2' := (keepS k2.block HR.out CC.out FF.out).1
         have f2' := (keepS k2.block HR.out CC.out FF.out).2
         have l2' : r < W2.heap.size := Nat.lt_of_lt_of_le HR.out k2.size)
      | (refine step_app2 rfl _ _ rfl rfl w2 W2 k2 (Below.refl _ _) _ _ ([] ++ ([⟨n, [], 0⟩] : List FileM)) [] 1 HT2.out rfl rfl q2 (S1.out.keeps k2) HT29.out ?_
         intro p3 cp3 W3 q3 k3
         have c3' := (keepS k3.block HR.out CC.out FF.out).1
         have f3' := (keepS k3.block HR.out CC.out FF.out).2))
    all_goals (clear d1 f1 HLT HLT9 HT1 HT19 HT2 HT29 S1 q1 k1 z1 c1' f1' l1' q2 k2 c2' f2' l2' c3' f3'; go_wp2; all_goals (go_ret; exact ⟨rfl, KEY.out _ _ _ q3 k3⟩))
  case first =>
    go_wp2
    go_loop [5] (fun i => i = .int .i64 0) (fun i => 0)
    case atStart => rfl
    case round =>
      subst hrel
      go_wp2
      go_meet
      case rel => exact ⟨rfl, rfl⟩
set_option maxRecDepth 100000 in
set_option maxHeartbeats 2000000 in
theorem rcreate_any (r : Nat) (D : DiskM) (G : List Nat) (n : Int) (w : World) (h : IsRef w r D G) (hn : I64 n) :
    Calls Try.prog 23 #[ptrV r, .int .i64 n] w fun e w' => e = .returned (.int .i64 (createD D n).1) ∧ RGoes w w' G r (createD D n).2 := by
  obtain ⟨vL, vK, ks, h, rfl⟩ := h
  have H := Lib.hid h
  have hn' := hn.nat
  have cf := rfind_any r vL vK ks D n w h
  obtain ⟨c0, c1, c2, c3, c4, c5, fz⟩ := h.cells
  clear c0 c3 c4 c5 fz
  cases hu : D.up with
  | false =>
    have e : createD D n = (61, D) := by unfold createD; rw [if_pos hu]
    rw [e]
    have c2' : w.cell? ⟨r, 2, none⟩ = some (.bool true) := by rw [c2, hu]; rfl
    clear h hu e c1 c2 hn hn' cf
    unfold ptrV at *
    go_enter Try.func23, Try.ntmps23
    go_wp2
    go_ret
    exact ⟨rfl, RGoes.same ⟨vL, vK, ks, H.out, rfl⟩ (Keeps.refl _)⟩
  | true =>
    have hnu : ¬ D.up = false := by rw [hu]; decide
    have c2' : w.cell? ⟨r, 2, none⟩ = some (.bool false) := by rw [c2, hu]; rfl
    by_cases h0 : n < 0
    · have e : createD D n = (2, D) := by unfold createD; rw [if_neg hnu, if_pos h0]
      rw [e]
      have t0 : decide (n < 0) = true := decide_eq_true h0
      clear h hu e hn' hn c1 c2 h0 hnu cf
      unfold ptrV at *
      go_enter Try.func23, Try.ntmps23
      go_wp2
      go_ret
      exact ⟨rfl, RGoes.same ⟨vL, vK, ks, H.out, rfl⟩ (Keeps.refl _)⟩
    · have t0 : decide (n < 0) = false := decide_eq_false h0
      cases hp : posF D.files n with
      | some i =>
        obtain ⟨f, hi, hnf, hf⟩ := pos_some hp
        have e : createD D n = (62, D) := by unfold createD; rw [if_neg hnu, if_neg h0, if_pos (by rw [hf]; rfl)]
        rw [e]
        rw [hp] at cf
        have cf' : Calls Try.prog 44 #[ptrV r, .int .i64 n] w fun e w' => e = .returned (.int .i64 (i : Int)) ∧ w = w' := cf
        have hil : i < D.files.length := (List.getElem?_eq_some_iff.1 hi).1
        have hmany := h.okay.many
        clear h hu e hn' hn c1 c2 h0 hnu cf hi hnf hf hp
        unfold ptrV at *
        go_enter Try.func23, Try.ntmps23
        go_wp2_with (go_at_call 44; refine cf'.mono ?_; rintro e w' ⟨rfl, rfl⟩)
        go_ret
        exact ⟨rfl, RGoes.same ⟨vL, vK, ks, H.out, rfl⟩ (Keeps.refl _)⟩
      | none =>
        have hf := pos_none hp
        have hnf : ¬ (findF D.files n).isSome = true := by rw [hf]; decide
        rw [hp] at cf
        have cf' : Calls Try.prog 44 #[ptrV r, .int .i64 n] w fun e w' => e = .returned (.int .i64 (-1)) ∧ w = w' := cf
        have hmany := h.okay.many
        obtain ⟨pL, cL, hvL⟩ := shape3 h.row
        obtain ⟨N, hN⟩ : ∃ N, D.files.length = N := ⟨_, rfl⟩
        rw [hvL, hN] at c1
        rw [hN] at hmany
        by_cases hfull : 100 ≤ D.files.length
        · have e : createD D n = (60, D) := by unfold createD; rw [if_neg hnu, if_neg h0, if_neg hnf, if_pos hfull]
          rw [e]
          rw [hN] at hfull
          have t1 : decide ((100 : Int) ≤ (N : Int)) = true := decide_eq_true (by omega)
          clear h hu e hn' hn c2 h0 hnu cf hnf hf hp hvL hN hfull
          unfold ptrV at *
          go_enter Try.func23, Try.ntmps23
          go_wp2_with (go_at_call 44; refine cf'.mono ?_; rintro e w' ⟨rfl, rfl⟩)
          go_ret
          exact ⟨rfl, RGoes.same ⟨vL, vK, ks, H.out, rfl⟩ (Keeps.refl _)⟩
        · have e : createD D n = D.then fun l => insF l n := by unfold createD; rw [if_neg hnu, if_neg h0, if_neg hnf, if_neg hfull]
          rw [e]
          rw [hN] at hfull
          have t1 : decide ((100 : Int) ≤ (N : Int)) = false := decide_eq_false (by omega)
          rcases count_code D with ⟨hc, cfi, cc, cu⟩ | hc
          · rw [then_ok hc]
            rcases h.row.2 with ⟨e1, e0⟩ | ⟨g, c, _, e1, _⟩
            · have h0' : D.files = [] := List.length_eq_zero_iff.1 e0
              rw [e1] at h ⊢
              exact rmake_nil r vK ks D n w h h0' hn h0 hu hp hc cfi
            · rw [e1, hN] at h ⊢
              exact rmake_some r g c N vK ks D n w h hN hn h0 hu hp hfull hc cfi
          · rw [then_no hc]
            obtain ⟨hd, cn⟩ := rfails_yes h hc
            rw [hd]
            have HU := Lib.hid hu
            clear h hu e hn' hn c2 h0 hnu cf hnf hf hp hvL hN hfull hc hd
            unfold ptrV at *
            go_enter Try.func23, Try.ntmps23
            go_wp2_with (first
              | (go_at_call 44; refine cf'.mono ?_; rintro e w' ⟨rfl, rfl⟩)
              | fail)
            refine cn.mono ?_
            rintro e w2 ⟨rfl, h2, hg2⟩
            have cs := rsunk_any r vL vK ks _ w2 h2 HU.out
            have HG := Lib.hid hg2
            clear cn h2 hg2
            unfold ptrV at *
            go_wp2_with (go_at_call 46; refine cs.mono ?_; rintro e w3 ⟨rfl, hg⟩)
            go_ret
            exact ⟨rfl, rgoes_sunk HG.out hg⟩
end Go.Proofs.Ytpecbfcboocmcaa
