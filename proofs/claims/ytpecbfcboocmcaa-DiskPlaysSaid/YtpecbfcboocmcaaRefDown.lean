
/- The document's own disk: Crash, sunk. -/
import Derived.Test.YtpecbfcboocmcaaRefRow
set_option linter.unusedVariables false
namespace Go.Proofs.Ytpecbfcboocmcaa
open Go.ChangeShapes Go.WideShapes Go.ChangeAt Go.RowKit Go.Maps Csv Dk

theorem list_set_same {α : Type} {l : List α} {k : Nat} {x : α} (h : l[k]? = some x) : l.set k x = l := by
  apply List.ext_getElem?
  intro j
  rw [List.getElem?_set]
  split
  · rename_i e
    subst e
    have := (List.getElem?_eq_some_iff.1 h).1
    rw [h]
    first | rfl | rw [if_pos this]
  · rfl
theorem row_two {W W' : World} {B g c i : Nat} {L : List FileM} {f y : FileM} (h : W.ownsRow B tFr 3 (.slice (some ⟨g, 0, none⟩) L.length c) L.length (rcells L)) (hy : L[i]? = some y) (hn : f.n = y.n)
    (hW : W'.heap[g]? = ((W.setCell ⟨g, i * 3 + 1, none⟩ (sv f.data)).setCell ⟨g, i * 3 + 2, none⟩ (.int .i64 (f.sure : Int))).heap[g]?) :
    W'.ownsRow B tFr 3 (.slice (some ⟨g, 0, none⟩) L.length c) (L.set i f).length (rcells (L.set i f)) := by
  have hi : i < L.length := (List.getElem?_eq_some_iff.1 hy).1
  rcases h.2 with ⟨e, _⟩ | ⟨g', cap, cur, e, hb, hg, r1, r2, r3, r4⟩
  · cases e
  · cases e
    have b2 := Joins.block_setCell (i := i * 3 + 1) hg (sv f.data)
    have b3 := Joins.block_setCell (i := i * 3 + 2) b2 (.int .i64 (f.sure : Int))
    rw [b3] at hW
    refine ⟨by rw [rcells_len], Or.inr ⟨g, c, _, by rw [List.length_set], hb, hW, by rw [List.length_set]; exact r1, r2, by simpa using r3, ?_⟩⟩
    have hx : (rcells L)[i * 3]? = some (.int .i64 f.n) := by rw [hn]; exact rcells_at hy 0 (by omega)
    rw [rcells_set f hi, list_set_same hx, ← r4, List.length_set]
    simp only [Array.toList_setIfInBounds, List.take_set]

set_option maxRecDepth 100000 in
set_option maxHeartbeats 4000000 in
theorem rcrash_any (r : Nat) (vL vK : Value) (ks : List Int) (D : DiskM) (vA : Value) (ws : List Int) (w : World) (h : RefAt w r vL vK ks D) (hu : D.up = true) (hA : IntsAt w vA ws) :
    Calls Try.prog 30 #[ptrV r, vA] w fun e w' => e = .returned (.int .i64 0) ∧ ∃ vL', RefAt w' r vL' (.slice none 0 0) [] (D.down ws) ∧ Frame [r] w w' ∧ ∀ b, vL'.ownBlock = some b → w.heap.size ≤ b := by
  have hmany := h.okay.many
  have hrlt := block_lt h.ref
  obtain ⟨pL, cL, rfl⟩ := shape3 h.row
  obtain ⟨_, cw1, cw2, _, _, _, _⟩ := h.cells
  rw [hu] at cw2
  obtain ⟨p', c', W1, q1, q2, q3⟩ := copy_row w _ D.files (own_src h.row) (by omega)
  obtain ⟨pA, cA, rfl, lA, hAc⟩ := hA
  obtain ⟨N, hN⟩ : ∃ N, D.files.length = N := ⟨_, rfl⟩
  obtain ⟨M, hM⟩ : ∃ M, ws.length = M := ⟨_, rfl⟩
  have HN := Lib.hid hN
  have HM := Lib.hid hM
  have H := Lib.hid h
  have HAC := Lib.hid hAc
  have Q1 := Lib.hid q1
  have K3 := Lib.hid q3
  have Q2 : Hid (W1.ownsRow w.heap.size tFr 3 (.slice p' N c') N (rcells (downQ D ws 0))) := Lib.hid (by rw [downQ_zero, ← hN]; exact q2)
  rw [hN] at Q1 cw1 hmany
  rw [hM] at lA ⊢
  unfold maxLen at lA
  simp only [Bool.not_true] at cw2
  clear h q1 q2 q3 hAc hN hM hu
  unfold ptrV
  go_enter Try.func30, Try.ntmps30
  go_wp2_with (at_builtin; refine wpList_append_known rfl _ _ _ _ rfl _ _ _ _ rfl rfl Q1.out ?_)
  go_loopw [6] (fun vi wr => ∃ q : Nat, q ≤ N ∧ vi = .int .i64 (q : Int) ∧ wr.ownsRow w.heap.size tFr 3 (.slice p' N c') N (rcells (downQ D ws q)) ∧ Keeps w wr) (fun vi _ => N - (intOf vi).toNat)
  case atStart => exact ⟨0, by omega, rfl, Q2.out, K3.out⟩
  case round =>
    obtain ⟨q, hq, rfl, hrow, hkr⟩ := hrel
    have HROW := Lib.hid hrow
    have HKR := Lib.hid hkr
    by_cases hlt : q < N
    · obtain ⟨f, hf⟩ : ∃ f, D.files[q]? = some f := ⟨_, List.getElem?_eq_getElem (by have := HN.out; omega)⟩
      have hfq : (downQ D ws q)[q]? = some f := by rw [downQ_at (by have := HN.out; omega), if_neg (by omega)]; exact hf
      have hlenq : (downQ D ws q).length = N := by
        have := congrArg List.length (downQ_nums (D := D) (ks := ws) (q := q))
        simpa [numsF, HN.out] using this
      have hxf : f ∈ D.files := List.mem_of_getElem? hf
      have hs := H.out.okay.sure _ hxf
      have hlen : f.data.length ≤ 1048576 := by have := used_mem hxf; have := H.out.okay.room; have := H.out.okay.cap; omega
      obtain ⟨g, hp⟩ : ∃ g, p' = some ⟨g, 0, none⟩ := by
        rcases hrow.2 with ⟨e, e0⟩ | ⟨g, cap, cur, e, _⟩
        · omega
        · cases e; exact ⟨g, rfl⟩
      subst hp
      have hcell : ∀ j, j < 3 → wr.cell? ⟨g, q * 3 + j, none⟩ = (fcells f)[j]? ∧ wr.frozen? ⟨g, q * 3 + j, none⟩ = false := fun j hj => ⟨by rw [hrow.cellAt (q * 3 + j) (by omega), rcells_at hfq j hj], hrow.frozenAt _⟩
      obtain ⟨o0, _⟩ := hcell 0 (by omega)
      obtain ⟨o1, o1f⟩ := hcell 1 (by omega)
      obtain ⟨o2, o2f⟩ := hcell 2 (by omega)
      simp only [fcells, List.getElem?_cons_zero, List.getElem?_cons_succ, Nat.add_zero] at o0 o1 o2
      obtain ⟨T, hT⟩ : ∃ T : ByteArray, (⟨f.data.toArray⟩ : ByteArray) = T := ⟨_, rfl⟩
      have hTd : T.data.toList = f.data := by rw [← hT]
      have hTs : T.size = f.data.length := by rw [← hT, size_mk]
      unfold sv at o1
      rw [hT] at o1
      obtain ⟨S, hS⟩ : ∃ S, f.sure = S := ⟨_, rfl⟩
      rw [hS] at o2 hs
      obtain ⟨R, hR⟩ : ∃ R, stays ws[q]? f.loose = R := ⟨_, rfl⟩
      have hloose : f.loose = T.size - S := by unfold FileM.loose; rw [hS, hTs]
      obtain ⟨K, hK⟩ : ∃ K, S + R = K := ⟨_, rfl⟩
      have hRle : R ≤ T.size - S := by rw [← hR, ← hloose]; unfold stays; omega
      have hKT : K ≤ T.size := by omega
      obtain ⟨X, hX⟩ : ∃ X, T.extract 0 K = X := ⟨_, rfl⟩
      have hXd : X.data.toList = f.data.take K := by rw [← hX, ← ByteArray.toList_eq, extract_list, hTd]; simp
      have hXs : X.size = K := by rw [← len_data, hXd, List.length_take]; omega
      have hleft : f.left ws[q]? = ⟨f.n, X.data.toList, X.size⟩ := by
        unfold FileM.left
        rw [hS, hR, hK, hXd, List.length_take, hXs]
        congr 1
        omega
      have hT20 : T.size ≤ 1048576 := by omega
      have key : ∀ w4 : World, w4.heap[g]? = ((wr.setCell ⟨g, q * 3 + 1, none⟩ (.string X)).setCell ⟨g, q * 3 + 2, none⟩ (.int .i64 (X.size : Int))).heap[g]? → w4.ownsRow w.heap.size tFr 3 (.slice (some ⟨g, 0, none⟩) N c') N (rcells (downQ D ws (q + 1))) := by
        intro w4 hw4
        have hrow' : wr.ownsRow w.heap.size tFr 3 (.slice (some ⟨g, 0, none⟩) (downQ D ws q).length c') (downQ D ws q).length (rcells (downQ D ws q)) := by rw [hlenq]; exact hrow
        have := row_two (f := f.left ws[q]?) hrow' hfq rfl (W' := w4) (by rw [hleft]; unfold sv; rw [mk_data]; exact hw4)
        rw [← downQ_step hf] at this
        have hl2 : (downQ D ws (q + 1)).length = N := by
          have := congrArg List.length (downQ_nums (D := D) (ks := ws) (q := q + 1))
          simpa [numsF, HN.out] using this
        rw [hl2, hlenq] at this
        exact this
      have KEY := Lib.hid key
      have hge : w.heap.size ≤ g := (hrow.lt g rfl).1
      have keep : ∀ w4 : World, w4.heap = ((wr.setCell ⟨g, q * 3 + 1, none⟩ (.string X)).setCell ⟨g, q * 3 + 2, none⟩ (.int .i64 (X.size : Int))).heap → w4.os = wr.os → w4.tape = wr.tape → w4.output = wr.output → Keeps w w4 := by
        intro w4 e1 e2 e3 e4
        refine ⟨e2.trans hkr.os, e3.trans hkr.tape, e4.trans hkr.output, by rw [e1]; simpa using hkr.size, fun b hb => ?_⟩
        have hbg : b ≠ g := by omega
        rw [e1, Below.heap_setCell _ _ _ _ hbg, Below.heap_setCell _ _ _ _ hbg]
        exact hkr.block b hb
      have KEEP := Lib.hid keep
      clear keep
      have hways : (∃ kv ak, wr.cell? ((ak : Addr).add q) = some (iv kv) ∧ pA = some ak ∧ 0 < kv ∧ min kv ((T.size : Int) - (S : Int)) = (R : Int) ∧ decide (q < M) = true ∧ (q : Int) < (M : Int)) ∨ (∃ kv ak, wr.cell? ((ak : Addr).add q) = some (iv kv) ∧ pA = some ak ∧ decide (0 < kv) = false ∧ R = 0 ∧ decide (q < M) = true ∧ (q : Int) < (M : Int)) ∨ (R = 0 ∧ decide (q < M) = false) := by
        by_cases hqm : q < M
        · obtain ⟨kv, hkv⟩ : ∃ kv, ws[q]? = some kv := ⟨_, List.getElem?_eq_getElem (by have := HM.out; omega)⟩
          obtain ⟨ak, hak, hc⟩ := HAC.out q kv hkv
          have hst := hR
          rw [hkv] at hst
          unfold stays at hst
          simp only [Option.getD_some] at hst
          by_cases h0 : 0 < kv
          · exact Or.inl ⟨kv, ak, cell_keeps hkr hc, hak, h0, by omega, decide_eq_true hqm, by omega⟩
          · exact Or.inr (Or.inl ⟨kv, ak, cell_keeps hkr hc, hak, decide_eq_false h0, by omega, decide_eq_true hqm, by omega⟩)
        · have hno : ws[q]? = none := List.getElem?_eq_none (by have := HM.out; omega)
          rw [hno] at hR
          exact Or.inr (Or.inr ⟨by rw [← hR]; simp [stays], decide_eq_false hqm⟩)
      have hKi : (S : Int) + (R : Int) = (K : Int) := by omega
      have hKw : IntKind.i64.wrap (K : Int) = (K : Int) := IntWalk.i64_in _ (by omega)
      have hi1 : (q : Int) < (N : Int) := by omega
      have hgw : g < wr.heap.size := (hrow.lt g rfl).2
      clear hf hfq hlenq hxf hlen hcell hT hTd hTs hS hR hloose hK hXd hXs hleft key hrow hkr hRle
      rcases hways with ⟨kv, ak, hc, rfl, h0, hmn, t, hi2⟩ | ⟨kv, ak, hc, rfl, t0, rfl, t, hi2⟩ | ⟨rfl, t⟩
      · go_wp2
        go_quiet (fail)
        go_wp2
        go_region
        go_wp2
        go_roundw
        case rel => exact ⟨q + 1, by omega, by go_num, KEY.out _ rfl, KEEP.out _ rfl rfl rfl rfl⟩
        case measure => simp [intOf]; omega
      · have hKi0 : (S : Int) + 0 = (K : Int) := by omega
        go_wp2
        go_region
        go_wp2
        go_roundw
        case rel => exact ⟨q + 1, by omega, by go_num, KEY.out _ rfl, KEEP.out _ rfl rfl rfl rfl⟩
        case measure => simp [intOf]; omega
      · have hKi0 : (S : Int) + 0 = (K : Int) := by omega
        go_wp2
        go_region
        go_wp2
        go_roundw
        case rel => exact ⟨q + 1, by omega, by go_num, KEY.out _ rfl, KEEP.out _ rfl rfl rfl rfl⟩
        case measure => simp [intOf]; omega
    · obtain rfl : q = N := by omega
      have hz : ¬ ((q : Int) < (q : Int)) := by omega
      have hall : downQ D ws q = downL D.files ws := by rw [← HN.out]; exact downQ_all D ws
      have hr := H.out.keeps hkr
      obtain ⟨_, d1, d2, _, d4, d5, fz⟩ := hr.cells
      have f1 := fz 1
      have f2 := fz 2
      have f4 := fz 4
      have f5 := fz 5
      have key : ∀ w4 : World, w4 = (((wr.setCell ⟨r, 1, none⟩ (.slice p' q c')).setCell ⟨r, 2, none⟩ (.bool true)).setCell ⟨r, 4, none⟩ (.int .i64 0)).setCell ⟨r, 5, none⟩ (.slice none 0 0) → RefAt w4 r (.slice p' q c') (.slice none 0 0) [] (D.down ws) ∧ Frame [r] w w4 ∧ ∀ b, (Value.slice p' q c').ownBlock = some b → w.heap.size ≤ b := by
        rintro w4 rfl
        have b1 := Joins.block_setCell (i := 1) hr.ref (.slice p' q c')
        have b2 := Joins.block_setCell (i := 2) b1 (.bool true)
        have b3 := Joins.block_setCell (i := 4) b2 (.int .i64 0)
        have b4 := Joins.block_setCell (i := 5) b3 (.slice none 0 0)
        have o : ∀ b, b ≠ r → ((((wr.setCell ⟨r, 1, none⟩ (.slice p' q c')).setCell ⟨r, 2, none⟩ (.bool true)).setCell ⟨r, 4, none⟩ (.int .i64 0)).setCell ⟨r, 5, none⟩ (.slice none 0 0)).heap[b]? = wr.heap[b]? := fun b hb => by
          rw [Below.heap_setCell _ _ _ _ hb, Below.heap_setCell _ _ _ _ hb, Below.heap_setCell _ _ _ _ hb, Below.heap_setCell _ _ _ _ hb]
        have hl2 : (downL D.files ws).length = q := by rw [len_down, HN.out]
        rw [hall] at hrow
        refine ⟨RefAt.turn (by rw [b4]; rfl) (own_zero (own_local (by show wr.ownsRow w.heap.size tFr 3 _ (downL D.files ws).length _; rw [hl2]; exact hrow) fun b hb => o b ?_)) (World.ownsRow_nil _ _ _ _) (Or.inl rfl) (H.out.okay.down ws), ?_, fun b hb => (hrow.lt b hb).1⟩
        · have := (hrow.lt b hb).1
          omega
        · exact ((((Frame.of_keeps hkr [r]).frame_grown (grown_setCell _ _ _ _) (by simp)).frame_grown (grown_setCell _ _ _ _) (by simp)).frame_grown (grown_setCell _ _ _ _) (by simp)).frame_grown (grown_setCell _ _ _ _) (by simp)
      have KEY := Lib.hid key
      clear key hrow hkr hr fz hall
      go_wp2
      go_ret
      obtain ⟨r1, r2, r3⟩ := KEY.out _ rfl
      exact ⟨rfl, _, r1, r2, r3⟩
end Go.Proofs.Ytpecbfcboocmcaa
