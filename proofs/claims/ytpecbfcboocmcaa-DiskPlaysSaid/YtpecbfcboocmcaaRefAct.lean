
/- The document's own disk: sunk, Sync, Append, Truncate. -/
import Derived.Test.YtpecbfcboocmcaaRefDown
set_option linter.unusedVariables false
namespace Go.Proofs.Ytpecbfcboocmcaa
open Go.ChangeShapes Go.WideShapes Go.ChangeAt Go.RowKit Go.Maps Csv Dk

theorem set_eq {l : List FileM} {i : Nat} {f : FileM} {n : Int} (g : FileM → FileM) (hr : Rising l) (hi : l[i]? = some f) (hn : f.n = n) : l.set i (g f) = setF l n g := by
  have e1 : (l.map fun x => (x, (⟨0, none⟩ : FB))).map (fun x : Ent => x.1) = l := by rw [List.map_map]; exact List.map_id l
  have h := set_map (D := newD 0) (g := g) (L := l.map fun x => (x, (⟨0, none⟩ : FB))) (i := i) (x := (f, ⟨0, none⟩)) (y := (g f, ⟨0, none⟩)) (by rw [e1]; exact hr) (by rw [List.getElem?_map, hi]; rfl) rfl
  rw [e1, List.map_set, e1] at h
  simp only [hn] at h
  exact h
theorem rsunk_any (r : Nat) (vL vK : Value) (ks : List Int) (D : DiskM) (w : World) (h : RefAt w r vL vK ks D) (hu : D.up = true) :
    Calls Try.prog 46 #[ptrV r] w fun e w' => e = .returned (.int .i64 61) ∧ ∃ vL', RefAt w' r vL' (.slice none 0 0) [] (D.down ks) ∧ Frame [r] w w' ∧ ∀ b, vL'.ownBlock = some b → w.heap.size ≤ b := by
  have c := rcrash_any r vL vK ks D vK ks w h hu (own_ints h.kept)
  obtain ⟨_, _, _, _, _, c5, _⟩ := h.cells
  obtain ⟨p, cc, rfl⟩ := own_shape h.kept
  clear h hu
  unfold ptrV at *
  go_enter Try.func46, Try.ntmps46
  go_wp2_with (go_at_call 30; refine c.mono ?_; rintro e w' ⟨rfl, hg⟩)
  go_ret
  exact ⟨rfl, hg⟩
/-- A change that fails: fails, then sunk. -/
theorem rgoes_sunk {w w1 w2 : World} {r : Nat} {vL vK : Value} {ks : List Int} {D : DiskM} (h1 : w.grownBy w1 (some r)) (h2 : ∃ vL', RefAt w2 r vL' (.slice none 0 0) [] (DiskM.down ⟨D.cap, D.files, D.up, D.starts, none⟩ ks) ∧ Frame [r] w1 w2 ∧ ∀ b, vL'.ownBlock = some b → w1.heap.size ≤ b) :
    RGoes w w2 (rfoot r vL vK) r (D.down ks) := by
  obtain ⟨vL', g1, g2, g3⟩ := h2
  refine rgoes_mk (vL' := vL') (vK' := .slice none 0 0) (ks' := []) g1 ((grown_frame h1 (by simp [rfoot])).trans (g2.mono (G1 := rfoot r vL vK) fun x hx => by simp at hx; subst hx; simp [rfoot]) fun x hx => Or.inl hx) (fun b hb => Or.inr (Nat.le_trans h1.size (g3 b hb))) (fun b hb => by cases hb)

/-- The three cells of a file in a row. -/
theorem file_cells {w : World} {B : Nat} {v : Value} {L : List FileM} {i : Nat} {f : FileM} (h : w.ownsRow B tFr 3 v L.length (rcells L)) (hi : L[i]? = some f) : ∃ g c, v = .slice (some ⟨g, 0, none⟩) L.length c ∧ w.cell? ⟨g, i * 3, none⟩ = some (.int .i64 f.n) ∧ w.cell? ⟨g, i * 3 + 1, none⟩ = some (sv f.data) ∧ w.cell? ⟨g, i * 3 + 2, none⟩ = some (.int .i64 (f.sure : Int)) := by
  have hl : i < L.length := (List.getElem?_eq_some_iff.1 hi).1
  rcases h.2 with ⟨e, e0⟩ | ⟨g, cap, cur, rfl, _⟩
  · omega
  · have c : ∀ q, q < 3 → w.cell? ⟨g, i * 3 + q, none⟩ = (fcells f)[q]? := fun q hq => by rw [h.cellAt (i * 3 + q) (by omega), rcells_at hi q hq]
    exact ⟨g, cap, rfl, c 0 (by omega), c 1 (by omega), c 2 (by omega)⟩
theorem rgoes_with {w w1 w2 : World} {r : Nat} {vL vK : Value} {ks : List Int} {D D' : DiskM} (h1 : Frame (rfoot r vL vK) w w1) (h2 : ∃ vL', RefAt w2 r vL' vK ks D' ∧ Frame [r] w1 w2 ∧ ∀ b, vL'.ownBlock = some b → w1.heap.size ≤ b) : RGoes w w2 (rfoot r vL vK) r D' := by
  obtain ⟨vL', g1, g2, g3⟩ := h2
  exact rgoes_mk g1 (h1.trans (g2.mono (G1 := rfoot r vL vK) fun x hx => by simp at hx; subst hx; simp [rfoot]) fun x hx => Or.inl hx) (fun b hb => Or.inr (Nat.le_trans h1.size (g3 b hb))) (fun b hb => Or.inl (mem_rfoot.2 (Or.inr (Or.inr hb))))

set_option maxRecDepth 100000 in
set_option maxHeartbeats 2000000 in
theorem rsync_any (r : Nat) (D : DiskM) (G : List Nat) (n : Int)  (w : World) (h : IsRef w r D G)  :
    Calls Try.prog 25 #[ptrV r, .int .i64 n] w fun e w' => e = .returned (.int .i64 (syncD D n).1) ∧ RGoes w w' G r (syncD D n).2 := by
  obtain ⟨vL, vK, ks, h, rfl⟩ := h
  have H := Lib.hid h
  have cf := rfind_any r vL vK ks D n w h
  obtain ⟨c0, c1, c2, c3, c4, c5, fz⟩ := h.cells
  clear c0 c3 c4 c5 fz
  cases hu : D.up with
  | false =>
    have e : syncD D n = (61, D) := withF_down hu
    rw [e]
    have c2' : w.cell? ⟨r, 2, none⟩ = some (.bool true) := by rw [c2, hu]; rfl
    obtain ⟨q, hq⟩ : ∃ q, posI (posF D.files n) = q := ⟨_, rfl⟩
    rw [hq] at cf
    clear h hu e c1 c2 hq
    unfold ptrV at *
    go_enter Try.func25, Try.ntmps25
    go_wp2_with (go_at_call 44; refine cf.mono ?_; rintro e w' ⟨rfl, rfl⟩)
    go_ret
    exact ⟨rfl, RGoes.same ⟨vL, vK, ks, H.out, rfl⟩ (Keeps.refl _)⟩
  | true =>
    have c2' : w.cell? ⟨r, 2, none⟩ = some (.bool false) := by rw [c2, hu]; rfl
    cases hp : posF D.files n with
    | none =>
      have e : syncD D n = (4, D) := withF_none hu (pos_none hp)
      rw [e]
      rw [hp] at cf
      have cf' : Calls Try.prog 44 #[ptrV r, .int .i64 n] w fun e w' => e = .returned (.int .i64 (-1)) ∧ w = w' := cf
      clear h hu e c1 c2 hp cf
      unfold ptrV at *
      go_enter Try.func25, Try.ntmps25
      go_wp2_with (go_at_call 44; refine cf'.mono ?_; rintro e w' ⟨rfl, rfl⟩)
      go_ret
      exact ⟨rfl, RGoes.same ⟨vL, vK, ks, H.out, rfl⟩ (Keeps.refl _)⟩
    | some i =>
      obtain ⟨f, hi, hn, hf⟩ := pos_some hp
      rw [hp] at cf
      have cf' : Calls Try.prog 44 #[ptrV r, .int .i64 n] w fun e w' => e = .returned (.int .i64 (i : Int)) ∧ w = w' := cf
      have hmany := h.okay.many
      have hil : i < D.files.length := (List.getElem?_eq_some_iff.1 hi).1
      have hxf : f ∈ D.files := List.mem_of_getElem? hi
      have hlen : f.data.length ≤ 1048576 := by have := used_mem hxf; have := h.okay.room; have := h.okay.cap; omega
      have hsu := h.okay.sure f hxf
      clear cf hp
      have e : syncD D n = D.then fun l => setF l n fun f => ⟨f.n, f.data, f.data.length⟩ := withF_some hu hf
      rw [e]
      rcases count_code D with ⟨hc, cfi, cc, cu⟩ | hc
      · rw [then_ok hc]
        have cn := rfails_no h hc
        have HI := Lib.hid hi
        have HN := Lib.hid hn
        have HCF := Lib.hid cfi
        clear h hu e hf hi hn hc cfi cc cu c1 c2 hxf
        unfold ptrV at *
        go_enter Try.func25, Try.ntmps25
        go_wp2_with (first
          | (go_at_call 44; refine cf'.mono ?_; rintro e w' ⟨rfl, rfl⟩)
          | fail)
        refine cn.mono ?_
        rintro e w2 ⟨rfl, h2, hg2⟩
        have hi2 : D.count.2.files[i]? = some f := by rw [HCF.out]; exact HI.out
        obtain ⟨g, c, hvL, o0, o1, o2⟩ := file_cells h2.row hi2
        obtain ⟨_, d1, _⟩ := h2.cells
        rw [hvL] at d1
        have hok : Okay (D.count.2.put (D.count.2.files.set i ⟨f.n, f.data, f.data.length⟩)) := by
          have := h2.okay.set n (fun f => ⟨f.n, f.data, f.data.length⟩) 0 (fun _ => rfl) (fun _ _ _ => Nat.le_refl _) (fun _ _ _ => Nat.le_refl _) (by have := h2.okay.room; omega)
          rwa [← set_eq (fun f => ⟨f.n, f.data, f.data.length⟩) h2.okay.rising hi2 HN.out] at this
        have cw : ∀ W : World, Keeps w2 W → Calls Try.prog 47 #[ptrV r, .int .i64 (i : Int), .agg #[.int .i64 f.n, sv f.data, .int .i64 (f.data.length : Int)]] W fun e w' => e = .returned (.tuple #[]) ∧ RGoes w w' (rfoot r vL vK) r (D.count.2.put (setF D.count.2.files n fun f => ⟨f.n, f.data, f.data.length⟩)) := fun W hW =>
          (rwith_any r vL vK ks D.count.2 i ⟨f.n, f.data, f.data.length⟩ W (h2.keeps hW) (by rw [HCF.out]; exact hil) hok).mono fun e w' ⟨g1, g2⟩ => ⟨g1, by
            rw [set_eq (fun f => ⟨f.n, f.data, f.data.length⟩) h2.okay.rising hi2 HN.out] at g2
            exact rgoes_with (D := D) ((grown_frame hg2 (by simp [rfoot])).trans (Frame.of_keeps hW (rfoot r vL vK)) fun x hx => Or.inl hx) g2⟩
        have CW := Lib.hid cw
        have hrl2 := block_lt h2.ref
        obtain ⟨N, hN⟩ : ∃ N, D.count.2.files.length = N := ⟨_, rfl⟩
        have hilN : i < N := by rw [← hN, HCF.out]; exact hil
        have hmN : N ≤ 100 := by rw [← hN, HCF.out]; exact hmany
        rw [hN] at d1
        have hi1 : (i : Int) < (N : Int) := by omega
        obtain ⟨T, hT⟩ : ∃ T : ByteArray, (⟨f.data.toArray⟩ : ByteArray) = T := ⟨_, rfl⟩
        have hTs : f.data.length = T.size := by rw [← hT, size_mk]
        unfold sv at o1 CW
        rw [hT] at o1 CW
        rw [hTs] at CW hlen
        obtain ⟨S, hS⟩ : ∃ S, f.sure = S := ⟨_, rfl⟩
        rw [hS] at o2
        obtain ⟨m, hm⟩ : ∃ m, f.n = m := ⟨_, rfl⟩
        rw [hm] at o0 CW
        have hgl : g < w2.heap.size := World.block_lt_of_cell? w2 _ o0
        clear cw hok h2 hg2 hi2 hN hT hTs hS hm cn cf' hvL
        unfold ptrV at *
        go_wp2_with (go_at_call 47; refine (CW.out _ ?_).mono ?_; exact keeps_lit _ _; rintro e w4 ⟨rfl, hg⟩)
        go_ret
        exact ⟨rfl, hg⟩
      · rw [then_no hc]
        obtain ⟨hd, cn⟩ := rfails_yes h hc
        rw [hd]
        have HU := Lib.hid hu
        clear h hu e hf hi hn hc c1 c2 hxf hd
        unfold ptrV at *
        go_enter Try.func25, Try.ntmps25
        go_wp2_with (first
          | (go_at_call 44; refine cf'.mono ?_; rintro e w' ⟨rfl, rfl⟩)
          | fail)
        refine cn.mono ?_
        rintro e w2 ⟨rfl, h2, hg2⟩
        have cs := rsunk_any r vL vK ks _ w2 h2 HU.out
        have HG := Lib.hid hg2
        clear cn h2 hg2
        unfold ptrV at *
        go_wp2_with (go_at_call 46; refine cs.mono ?_; rintro e w3 ⟨rfl, hg⟩)
        go_ret
        exact ⟨rfl, rgoes_sunk HG.out hg⟩
end Go.Proofs.Ytpecbfcboocmcaa
