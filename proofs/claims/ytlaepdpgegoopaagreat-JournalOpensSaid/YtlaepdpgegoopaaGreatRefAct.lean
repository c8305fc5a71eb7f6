
/- The document's own disk: sunk, Sync, Append, Truncate. The document's own disk: Append, Truncate. The document's own disk: Truncate. The document's own disk: Delete. -/
import Derived.Test.YtlaepdpgegoopaaGreatRefMem
import Derived.Deep.RegionLaw
set_option linter.unusedVariables false
namespace Go.Proofs.YtlaepdpgegoopaaGreat
open Go.ChangeShapes Go.WideShapes Go.ChangeAt Go.RowKit Go.Maps Csv Dk

theorem set_eq {l : List FileM} {i : Nat} {f : FileM} {n : Int} (g : FileM → FileM) (hr : Rising l) (hi : l[i]? = some f) (hn : f.n = n) : l.set i (g f) = setF l n g := by
  have e1 : (l.map fun x => (x, (⟨0, none⟩ : FB))).map (fun x : Ent => x.1) = l := by rw [List.map_map]; exact List.map_id l
  have h := set_map (D := newD 0) (g := g) (L := l.map fun x => (x, (⟨0, none⟩ : FB))) (i := i) (x := (f, ⟨0, none⟩)) (y := (g f, ⟨0, none⟩)) (by rw [e1]; exact hr) (by rw [List.getElem?_map, hi]; rfl) rfl
  rw [e1, List.map_set, e1] at h
  simp only [hn] at h
  exact h
theorem rsunk_any (r : Nat) (vL vK : Value) (ks : List Int) (D : DiskM) (w : World) (h : RefAt w r vL vK ks D) (hu : D.up = true) :
    Calls Tryz.prog 26 #[ptrV r] w fun e w' => e = .returned (.int .i64 61) ∧ ∃ vL', RefAt w' r vL' (.slice none 0 0) [] (D.down ks) ∧ Frame [r] w w' ∧ ∀ b, vL'.ownBlock = some b → w.heap.size ≤ b := by
  have c := rcrash_any r vL vK ks D vK ks w h hu (own_ints h.kept)
  obtain ⟨_, _, _, _, _, c5, _⟩ := h.cells
  obtain ⟨p, cc, rfl⟩ := own_shape h.kept
  clear h hu
  unfold ptrV at *
  go_enter Tryz.func26, Tryz.ntmps26
  go_wp2_with (go_at_call 59; refine c.mono ?_; rintro e w' ⟨rfl, hg⟩)
  go_ret
  exact ⟨rfl, hg⟩
/-- A change that fails: fails, then sunk. -/
theorem rgoes_sunk {w w1 w2 : World} {r : Nat} {vL vK : Value} {ks : List Int} {D : DiskM} (h1 : w.grownBy w1 (some r)) (h2 : ∃ vL', RefAt w2 r vL' (.slice none 0 0) [] (DiskM.down ⟨D.cap, D.files, D.up, D.starts, none⟩ ks) ∧ Frame [r] w1 w2 ∧ ∀ b, vL'.ownBlock = some b → w1.heap.size ≤ b) :
    RGoes w w2 (rfoot r vL vK) r (D.down ks) := by
  obtain ⟨vL', g1, g2, g3⟩ := h2
  refine rgoes_mk (vL' := vL') (vK' := .slice none 0 0) (ks' := []) g1 ((grown_frame h1 (by simp)).trans (g2.mono (G1 := [r]) fun x hx => by simp at hx; subst hx; simp) fun x hx => Or.inl hx) (fun b hb => Or.inr (Nat.le_trans h1.size (g3 b hb))) (fun b hb => by cases hb)

/-- The three cells of a file in a row. -/
theorem file_cells {w : World} {B : Nat} {v : Value} {L : List FileM} {i : Nat} {f : FileM} (h : w.ownsRow B tFr 3 v L.length (rcells L)) (hi : L[i]? = some f) : ∃ g c, v = .slice (some ⟨g, 0, none⟩) L.length c ∧ w.cell? ⟨g, i * 3, none⟩ = some (.int .i64 f.n) ∧ w.cell? ⟨g, i * 3 + 1, none⟩ = some (sv f.data) ∧ w.cell? ⟨g, i * 3 + 2, none⟩ = some (.int .i64 (f.sure : Int)) := by
  have hl : i < L.length := (List.getElem?_eq_some_iff.1 hi).1
  rcases h.2 with ⟨e, e0⟩ | ⟨g, cap, cur, rfl, _⟩
  · omega
  · have c : ∀ q, q < 3 → w.cell? ⟨g, i * 3 + q, none⟩ = (fcells f)[q]? := fun q hq => by rw [h.cellAt (i * 3 + q) (by omega), rcells_at hi q hq]
    exact ⟨g, cap, rfl, c 0 (by omega), c 1 (by omega), c 2 (by omega)⟩
theorem rgoes_with {w w1 w2 : World} {r : Nat} {vL vK : Value} {ks : List Int} {D D' : DiskM} (h1 : Frame [r] w w1) (h2 : ∃ vL', RefAt w2 r vL' vK ks D' ∧ Frame [r] w1 w2 ∧ ∀ b, vL'.ownBlock = some b → w1.heap.size ≤ b) : RGoes w w2 (rfoot r vL vK) r D' := by
  obtain ⟨vL', g1, g2, g3⟩ := h2
  exact rgoes_mk g1 (h1.trans (g2.mono (G1 := [r]) fun x hx => by simp at hx; subst hx; simp) fun x hx => Or.inl hx) (fun b hb => Or.inr (Nat.le_trans h1.size (g3 b hb))) (fun b hb => Or.inl (mem_rfoot.2 (Or.inr (Or.inr hb))))

set_option maxRecDepth 100000 in
set_option maxHeartbeats 2000000 in
theorem rsync_any (r : Nat) (D : DiskM) (G : List Nat) (n : Int)  (w : World) (h : IsRef w r D G)  :
    Calls Tryz.prog 41 #[ptrV r, .int .i64 n] w fun e w' => e = .returned (.int .i64 (syncD D n).1) ∧ RGoes w w' G r (syncD D n).2 := by
  obtain ⟨vL, vK, ks, h, rfl⟩ := h
  have H := Lib.hid h
  have cf := rfind_any r vL vK ks D n w h
  obtain ⟨c0, c1, c2, c3, c4, c5, fz⟩ := h.cells
  clear c0 c3 c4 c5 fz
  cases hu : D.up with
  | false =>
    have e : syncD D n = (61, D) := withF_down hu
    rw [e]
    have c2' : w.cell? ⟨r, 2, none⟩ = some (.bool true) := by rw [c2, hu]; rfl
    obtain ⟨q, hq⟩ : ∃ q, posI (posF D.files n) = q := ⟨_, rfl⟩
    rw [hq] at cf
    clear h hu e c1 c2 hq
    unfold ptrV at *
    go_enter Tryz.func41, Tryz.ntmps41
    go_wp2_with (go_at_call 24; refine cf.mono ?_; rintro e w' ⟨rfl, rfl⟩)
    go_ret
    exact ⟨rfl, RGoes.same ⟨vL, vK, ks, H.out, rfl⟩ (Keeps.refl _)⟩
  | true =>
    have c2' : w.cell? ⟨r, 2, none⟩ = some (.bool false) := by rw [c2, hu]; rfl
    cases hp : posF D.files n with
    | none =>
      have e : syncD D n = (4, D) := withF_none hu (pos_none hp)
      rw [e]
      rw [hp] at cf
      have cf' : Calls Tryz.prog 24 #[ptrV r, .int .i64 n] w fun e w' => e = .returned (.int .i64 (-1)) ∧ w = w' := cf
      clear h hu e c1 c2 hp cf
      unfold ptrV at *
      go_enter Tryz.func41, Tryz.ntmps41
      go_wp2_with (go_at_call 24; refine cf'.mono ?_; rintro e w' ⟨rfl, rfl⟩)
      go_ret
      exact ⟨rfl, RGoes.same ⟨vL, vK, ks, H.out, rfl⟩ (Keeps.refl _)⟩
    | some i =>
      obtain ⟨f, hi, hn, hf⟩ := pos_some hp
      rw [hp] at cf
      have cf' : Calls Tryz.prog 24 #[ptrV r, .int .i64 n] w fun e w' => e = .returned (.int .i64 (i : Int)) ∧ w = w' := cf
      have hmany := h.okay.many
      have hil : i < D.files.length := (List.getElem?_eq_some_iff.1 hi).1
      have hxf : f ∈ D.files := List.mem_of_getElem? hi
      have hlen : f.data.length ≤ 1048576 := by have := used_mem hxf; have := h.okay.room; have := h.okay.cap; omega
      have hsu := h.okay.sure f hxf
      clear cf hp
      have e : syncD D n = D.then fun l => setF l n fun f => ⟨f.n, f.data, f.data.length⟩ := withF_some hu hf
      rw [e]
      rcases count_code D with ⟨hc, cfi, cc, cu⟩ | hc
      · rw [then_ok hc]
        have cn := rfails_no h hc
        have HI := Lib.hid hi
        have HN := Lib.hid hn
        have HCF := Lib.hid cfi
        clear h hu e hf hi hn hc cfi cc cu c1 c2 hxf
        unfold ptrV at *
        go_enter Tryz.func41, Tryz.ntmps41
        go_wp2_with (first
          | (go_at_call 24; refine cf'.mono ?_; rintro e w' ⟨rfl, rfl⟩)
          | fail)
        refine cn.mono ?_
        rintro e w2 ⟨rfl, h2, hg2⟩
        have hi2 : D.count.2.files[i]? = some f := by rw [HCF.out]; exact HI.out
        obtain ⟨g, c, hvL, o0, o1, o2⟩ := file_cells h2.row hi2
        obtain ⟨_, d1, _⟩ := h2.cells
        rw [hvL] at d1
        have hok : Okay (D.count.2.put (D.count.2.files.set i ⟨f.n, f.data, f.data.length⟩)) := by
          have := h2.okay.set n (fun f => ⟨f.n, f.data, f.data.length⟩) 0 (fun _ => rfl) (fun _ _ _ => Nat.le_refl _) (fun _ _ _ => Nat.le_refl _) (by have := h2.okay.room; omega)
          rwa [← set_eq (fun f => ⟨f.n, f.data, f.data.length⟩) h2.okay.rising hi2 HN.out] at this
        have cw : ∀ W : World, Keeps w2 W → Calls Tryz.prog 30 #[ptrV r, .int .i64 (i : Int), .agg #[.int .i64 f.n, sv f.data, .int .i64 (f.data.length : Int)]] W fun e w' => e = .returned (.tuple #[]) ∧ RGoes w w' (rfoot r vL vK) r (D.count.2.put (setF D.count.2.files n fun f => ⟨f.n, f.data, f.data.length⟩)) := fun W hW =>
          (rwith_any r vL vK ks D.count.2 i ⟨f.n, f.data, f.data.length⟩ W (h2.keeps hW) (by rw [HCF.out]; exact hil) hok).mono fun e w' ⟨g1, g2⟩ => ⟨g1, by
            rw [set_eq (fun f => ⟨f.n, f.data, f.data.length⟩) h2.okay.rising hi2 HN.out] at g2
            exact rgoes_with (D := D) ((grown_frame hg2 (by simp)).trans (Frame.of_keeps hW [r]) fun x hx => Or.inl hx) g2⟩
        have CW := Lib.hid cw
        have hrl2 := block_lt h2.ref
        obtain ⟨N, hN⟩ : ∃ N, D.count.2.files.length = N := ⟨_, rfl⟩
        have hilN : i < N := by rw [← hN, HCF.out]; exact hil
        have hmN : N ≤ 100 := by rw [← hN, HCF.out]; exact hmany
        rw [hN] at d1
        have hi1 : (i : Int) < (N : Int) := by omega
        obtain ⟨T, hT⟩ : ∃ T : ByteArray, (⟨f.data.toArray⟩ : ByteArray) = T := ⟨_, rfl⟩
        have hTs : f.data.length = T.size := by rw [← hT, size_mk]
        unfold sv at o1 CW
        rw [hT] at o1 CW
        rw [hTs] at CW hlen
        obtain ⟨S, hS⟩ : ∃ S, f.sure = S := ⟨_, rfl⟩
        rw [hS] at o2
        obtain ⟨m, hm⟩ : ∃ m, f.n = m := ⟨_, rfl⟩
        rw [hm] at o0 CW
        have hgl : g < w2.heap.size := World.block_lt_of_cell? w2 _ o0
        clear cw hok h2 hg2 hi2 hN hT hTs hS hm cn cf' hvL
        unfold ptrV at *
        go_wp2_with (go_at_call 30; refine (CW.out _ ?_).mono ?_; exact keeps_lit _ _; rintro e w4 ⟨rfl, hg⟩)
        go_ret
        exact ⟨rfl, hg⟩
      · rw [then_no hc]
        obtain ⟨hd, cn⟩ := rfails_yes h hc
        rw [hd]
        have HU := Lib.hid hu
        clear h hu e hf hi hn hc c1 c2 hxf hd
        unfold ptrV at *
        go_enter Tryz.func41, Tryz.ntmps41
        go_wp2_with (first
          | (go_at_call 24; refine cf'.mono ?_; rintro e w' ⟨rfl, rfl⟩)
          | fail)
        refine cn.mono ?_
        rintro e w2 ⟨rfl, h2, hg2⟩
        have cs := rsunk_any r vL vK ks _ w2 h2 HU.out
        have HG := Lib.hid hg2
        clear cn h2 hg2
        unfold ptrV at *
        go_wp2_with (go_at_call 26; refine cs.mono ?_; rintro e w3 ⟨rfl, hg⟩)
        go_ret
        exact ⟨rfl, rgoes_sunk HG.out hg⟩
end Go.Proofs.YtlaepdpgegoopaaGreat
namespace Go.Proofs.YtlaepdpgegoopaaGreat
open Go.ChangeShapes Go.WideShapes Go.ChangeAt Go.RowKit Go.Maps Csv Dk

set_option maxRecDepth 100000 in
set_option maxHeartbeats 2000000 in
theorem rappend_any (r : Nat) (D : DiskM) (G : List Nat) (n : Int) (s : ByteArray) (w : World) (h : IsRef w r D G) (hs : s.size ≤ maxLen) :
    Calls Tryz.prog 10 #[ptrV r, .int .i64 n, .string s] w fun e w' => e = .returned (.int .i64 (appendD D n s.data.toList).1) ∧ RGoes w w' G r (appendD D n s.data.toList).2 := by
  obtain ⟨vL, vK, ks, h, rfl⟩ := h
  have H := Lib.hid h
  have cf := rfind_any r vL vK ks D n w h
  obtain ⟨c0, c1, c2, c3, c4, c5, fz⟩ := h.cells
  clear c0 c3 c4 c5 fz
  cases hu : D.up with
  | false =>
    have e : appendD D n s.data.toList = (61, D) := withF_down hu
    rw [e]
    have c2' : w.cell? ⟨r, 2, none⟩ = some (.bool true) := by rw [c2, hu]; rfl
    obtain ⟨q, hq⟩ : ∃ q, posI (posF D.files n) = q := ⟨_, rfl⟩
    rw [hq] at cf
    clear h hu e c1 c2 hq hs
    unfold ptrV at *
    go_enter Tryz.func10, Tryz.ntmps10
    go_wp2_with (go_at_call 24; refine cf.mono ?_; rintro e w' ⟨rfl, rfl⟩)
    go_ret
    exact ⟨rfl, RGoes.same ⟨vL, vK, ks, H.out, rfl⟩ (Keeps.refl _)⟩
  | true =>
    have c2' : w.cell? ⟨r, 2, none⟩ = some (.bool false) := by rw [c2, hu]; rfl
    cases hp : posF D.files n with
    | none =>
      have e : appendD D n s.data.toList = (4, D) := withF_none hu (pos_none hp)
      rw [e]
      rw [hp] at cf
      have cf' : Calls Tryz.prog 24 #[ptrV r, .int .i64 n] w fun e w' => e = .returned (.int .i64 (-1)) ∧ w = w' := cf
      clear h hu e c1 c2 hp cf hs
      unfold ptrV at *
      go_enter Tryz.func10, Tryz.ntmps10
      go_wp2_with (go_at_call 24; refine cf'.mono ?_; rintro e w' ⟨rfl, rfl⟩)
      go_ret
      exact ⟨rfl, RGoes.same ⟨vL, vK, ks, H.out, rfl⟩ (Keeps.refl _)⟩
    | some i =>
      obtain ⟨f, hi, hn, hf⟩ := pos_some hp
      rw [hp] at cf
      have cf' : Calls Tryz.prog 24 #[ptrV r, .int .i64 n] w fun e w' => e = .returned (.int .i64 (i : Int)) ∧ w = w' := cf
      have hmany := h.okay.many
      have hil : i < D.files.length := (List.getElem?_eq_some_iff.1 hi).1
      have hxf : f ∈ D.files := List.mem_of_getElem? hi
      have hlen : f.data.length ≤ 1048576 := by have := used_mem hxf; have := h.okay.room; have := h.okay.cap; omega
      have hsu := h.okay.sure f hxf
      clear cf hp
      have e : appendD D n s.data.toList = _ := withF_some hu hf
      rw [e]
      have hsl : s.data.toList.length = s.size := len_data s
      have cfr := rfree_any r vL vK ks D w h
      have hroom := h.okay.room
      have hcapD := h.okay.cap
      unfold maxLen at hs
      by_cases hbad : D.free < s.data.toList.length
      · rw [if_pos hbad]
        rw [hsl] at hbad
        have t1 : decide (D.free < (s.size : Int)) = true := decide_eq_true hbad
        obtain ⟨Fr, hF⟩ : ∃ F, D.free = F := ⟨_, rfl⟩
        rw [hF] at cfr t1 hbad
        clear h hu e hf hi hn hxf hF hsl hroom hcapD c1 c2 hs hlen hsu
        unfold ptrV at *
        go_enter Tryz.func10, Tryz.ntmps10
        go_wp2_with (first
          | (go_at_call 24; refine cf'.mono ?_; rintro e w' ⟨rfl, rfl⟩)
          | (go_at_call 29; refine cfr.mono ?_; rintro e w' ⟨rfl, rfl⟩))
        go_ret
        exact ⟨rfl, RGoes.same ⟨vL, vK, ks, H.out, rfl⟩ (Keeps.refl _)⟩
      · rw [if_neg hbad]
        rw [hsl] at hbad
        have t1 : decide (D.free < (s.size : Int)) = false := decide_eq_false hbad
        have hfree : D.free = (D.cap : Int) - (used D.files : Int) := rfl
        have hsz : used D.files + s.size ≤ D.cap := by omega
        have hsz2 : s.size ≤ 1048576 := by omega
        obtain ⟨Fr, hF⟩ : ∃ F, D.free = F := ⟨_, rfl⟩
        rw [hF] at cfr t1 hbad
        obtain ⟨g, c, hvL, o0, o1, o2⟩ := file_cells h.row hi
        rw [hvL] at c1
        have hok : Okay (D.put (D.files.set i ⟨f.n, f.data ++ s.data.toList, f.sure⟩)) := by
          have := h.okay.set n (fun f => ⟨f.n, f.data ++ s.data.toList, f.sure⟩) s.size (fun _ => rfl) (fun f hf _ => by have := h.okay.sure f hf; simp; omega) (fun f hf _ => by simp) hsz
          rwa [← set_eq (fun f => ⟨f.n, f.data ++ s.data.toList, f.sure⟩) h.okay.rising hi hn] at this
        have hset := set_eq (fun f => ⟨f.n, f.data ++ s.data.toList, f.sure⟩) h.okay.rising hi hn
        have cw : ∀ W : World, Keeps w W → Calls Tryz.prog 30 #[ptrV r, .int .i64 (i : Int), .agg #[.int .i64 f.n, sv (f.data ++ s.data.toList), .int .i64 (f.sure : Int)]] W fun e w' => e = .returned (.tuple #[]) ∧ ∃ vL', RefAt w' r vL' vK ks (D.put (setF D.files n fun f => ⟨f.n, f.data ++ s.data.toList, f.sure⟩)) ∧ Frame [r] w w' ∧ ∀ b, vL'.ownBlock = some b → w.heap.size ≤ b := fun W hW =>
          (rwith_any r vL vK ks D i ⟨f.n, f.data ++ s.data.toList, f.sure⟩ W (h.keeps hW) hil hok).mono fun e w' ⟨g1, vL', g2, g3, g4⟩ => ⟨g1, vL', by rw [← hset]; exact g2, (Frame.of_keeps hW [r]).trans (g3.mono (G1 := [r]) fun x hx => by simp at hx; subst hx; simp) (fun x hx => Or.inl hx), fun b hb => Nat.le_trans hW.size (g4 b hb)⟩
        have CW := Lib.hid cw
        obtain ⟨D1, hD1⟩ : ∃ D1, D.put (setF D.files n fun f => ⟨f.n, f.data ++ s.data.toList, f.sure⟩) = D1 := ⟨_, rfl⟩
        rw [hD1] at CW ⊢
        have hu1 : D1.up = true := by rw [← hD1]; exact hu
        have HU1 := Lib.hid hu1
        have hrlt := block_lt h.ref
        obtain ⟨N, hN⟩ : ∃ N, D.files.length = N := ⟨_, rfl⟩
        rw [hN] at c1 hil hmany
        have hi1 : (i : Int) < (N : Int) := by omega
        obtain ⟨T, hT⟩ : ∃ T : ByteArray, (⟨f.data.toArray⟩ : ByteArray) = T := ⟨_, rfl⟩
        have hTs : f.data.length = T.size := by rw [← hT, size_mk]
        obtain ⟨Y, hY⟩ : ∃ Y, T ++ s = Y := ⟨_, rfl⟩
        have hYd : (⟨(f.data ++ s.data.toList).toArray⟩ : ByteArray) = Y := by
          rw [← hY, ← hT]
          apply ByteArray.ext
          simp
        unfold sv at o1 CW
        rw [hT] at o1
        rw [hYd] at CW
        rw [hTs] at hlen
        have hcat : ¬ (9223372036854775807 < T.size + s.size) := by omega
        obtain ⟨S, hS⟩ : ∃ S, f.sure = S := ⟨_, rfl⟩
        rw [hS] at o2 CW
        obtain ⟨m, hm⟩ : ∃ m, f.n = m := ⟨_, rfl⟩
        rw [hm] at o0 CW
        have hgl : g < w.heap.size := World.block_lt_of_cell? w _ o0
        rcases count_code D1 with ⟨hc, _⟩ | hc
        · have HC := Lib.hid hc
          clear h hu hu1 e hf hi hn hc hxf hsl hroom hcapD c2 hok hset cw hT hTs hYd hS hm hN hF hfree hD1 hsu hvL hs hbad hsz
          unfold ptrV at *
          go_enter Tryz.func10, Tryz.ntmps10
          go_wp2_with (first
          | (go_at_call 24; refine cf'.mono ?_; rintro e w' ⟨rfl, rfl⟩)
          | (go_at_call 29; refine cfr.mono ?_; rintro e w' ⟨rfl, rfl⟩)
          | (go_at_call 30; refine (CW.out _ ?_).mono ?_; exact keeps_lit _ _; rintro e w3 ⟨rfl, hg⟩))
          obtain ⟨vL', g2, g3, g4⟩ := hg
          refine (rfails_no g2 HC.out).mono ?_
          rintro e w4 ⟨rfl, k2, k3⟩
          have hfin : RGoes w w4 (rfoot r vL vK) r D1.count.2 := rgoes_mk k2 (g3.frame_grown k3 (by simp)) (fun b hb => Or.inr (g4 b hb)) (fun b hb => Or.inl (mem_rfoot.2 (Or.inr (Or.inr hb))))
          have HF := Lib.hid hfin
          clear g2 g3 g4 k2 k3 hfin
          go_wp2
          go_ret
          exact ⟨ret_int HC.out.symm, HF.out⟩
        · have HC := Lib.hid hc
          clear h hu hu1 e hf hi hn hc hxf hsl hroom hcapD c2 hok hset cw hT hTs hYd hS hm hN hF hfree hD1 hsu hvL hs hbad hsz
          unfold ptrV at *
          go_enter Tryz.func10, Tryz.ntmps10
          go_wp2_with (first
          | (go_at_call 24; refine cf'.mono ?_; rintro e w' ⟨rfl, rfl⟩)
          | (go_at_call 29; refine cfr.mono ?_; rintro e w' ⟨rfl, rfl⟩)
          | (go_at_call 30; refine (CW.out _ ?_).mono ?_; exact keeps_lit _ _; rintro e w3 ⟨rfl, hg⟩))
          obtain ⟨vL', g2, g3, g4⟩ := hg
          obtain ⟨hd, cn⟩ := rfails_yes g2 HC.out
          refine cn.mono ?_
          rintro e w4 ⟨rfl, k2, k3⟩
          have cs := rsunk_any r _ vK ks _ w4 k2 HU1.out
          have G3 := Lib.hid g3
          have G4 := Lib.hid g4
          have K3 := Lib.hid k3
          have HD := Lib.hid hd
          clear g2 g3 g4 k2 k3 hd cn
          unfold ptrV at *
          go_wp2_with (go_at_call 26; refine cs.mono ?_; rintro e w5 ⟨rfl, hg⟩)
          go_ret
          obtain ⟨vL2, m1, m2, m3⟩ := hg
          refine ⟨ret_int HC.out.symm, ?_⟩
          rw [HD.out]
          exact rgoes_mk (vL' := vL2) (vK' := .slice none 0 0) (ks' := []) m1 ((G3.out.frame_grown K3.out (by simp)).trans (m2.mono (G1 := [r]) fun x hx => by simp at hx; subst hx; simp) fun x hx => Or.inl hx) (fun b hb => Or.inr (Nat.le_trans (Nat.le_trans G3.out.size K3.out.size) (m3 b hb))) (fun b hb => by cases hb)
end Go.Proofs.YtlaepdpgegoopaaGreat
namespace Go.Proofs.YtlaepdpgegoopaaGreat
open Go.ChangeShapes Go.WideShapes Go.ChangeAt Go.RowKit Go.Maps Csv Dk

set_option maxRecDepth 100000 in
set_option maxHeartbeats 2000000 in
theorem rtrunc_any (r : Nat) (D : DiskM) (G : List Nat) (n : Int) (size : Int) (w : World) (h : IsRef w r D G) (hs : I64 size) :
    Calls Tryz.prog 40 #[ptrV r, .int .i64 n, .int .i64 size] w fun e w' => e = .returned (.int .i64 (truncD D n size).1) ∧ RGoes w w' G r (truncD D n size).2 := by
  obtain ⟨vL, vK, ks, h, rfl⟩ := h
  have H := Lib.hid h
  have cf := rfind_any r vL vK ks D n w h
  obtain ⟨c0, c1, c2, c3, c4, c5, fz⟩ := h.cells
  clear c0 c3 c4 c5 fz
  cases hu : D.up with
  | false =>
    have e : truncD D n size = (61, D) := withF_down hu
    rw [e]
    have c2' : w.cell? ⟨r, 2, none⟩ = some (.bool true) := by rw [c2, hu]; rfl
    obtain ⟨q, hq⟩ : ∃ q, posI (posF D.files n) = q := ⟨_, rfl⟩
    rw [hq] at cf
    clear h hu e c1 c2 hq hs
    unfold ptrV at *
    go_enter Tryz.func40, Tryz.ntmps40
    go_wp2_with (go_at_call 24; refine cf.mono ?_; rintro e w' ⟨rfl, rfl⟩)
    go_ret
    exact ⟨rfl, RGoes.same ⟨vL, vK, ks, H.out, rfl⟩ (Keeps.refl _)⟩
  | true =>
    have c2' : w.cell? ⟨r, 2, none⟩ = some (.bool false) := by rw [c2, hu]; rfl
    cases hp : posF D.files n with
    | none =>
      have e : truncD D n size = (4, D) := withF_none hu (pos_none hp)
      rw [e]
      rw [hp] at cf
      have cf' : Calls Tryz.prog 24 #[ptrV r, .int .i64 n] w fun e w' => e = .returned (.int .i64 (-1)) ∧ w = w' := cf
      clear h hu e c1 c2 hp cf hs
      unfold ptrV at *
      go_enter Tryz.func40, Tryz.ntmps40
      go_wp2_with (go_at_call 24; refine cf'.mono ?_; rintro e w' ⟨rfl, rfl⟩)
      go_ret
      exact ⟨rfl, RGoes.same ⟨vL, vK, ks, H.out, rfl⟩ (Keeps.refl _)⟩
    | some i =>
      obtain ⟨f, hi, hn, hf⟩ := pos_some hp
      rw [hp] at cf
      have cf' : Calls Tryz.prog 24 #[ptrV r, .int .i64 n] w fun e w' => e = .returned (.int .i64 (i : Int)) ∧ w = w' := cf
      have hmany := h.okay.many
      have hil : i < D.files.length := (List.getElem?_eq_some_iff.1 hi).1
      have hxf : f ∈ D.files := List.mem_of_getElem? hi
      have hlen : f.data.length ≤ 1048576 := by have := used_mem hxf; have := h.okay.room; have := h.okay.cap; omega
      have hsu := h.okay.sure f hxf
      clear cf hp
      have e : truncD D n size = _ := withF_some hu hf
      rw [e]
      have hs' := hs.nat
      obtain ⟨g, c, hvL, o0, o1, o2⟩ := file_cells h.row hi
      rw [hvL] at c1
      obtain ⟨L, hL⟩ : ∃ L, D.files.length = L := ⟨_, rfl⟩
      rw [hL] at c1 hil hmany
      have hi1 : (i : Int) < (L : Int) := by omega
      obtain ⟨T, hT⟩ : ∃ T : ByteArray, (⟨f.data.toArray⟩ : ByteArray) = T := ⟨_, rfl⟩
      have hTs : f.data.length = T.size := by rw [← hT, size_mk]
      unfold sv at o1
      rw [hT] at o1
      rw [hTs] at hlen hsu ⊢
      have hgl : g < w.heap.size := World.block_lt_of_cell? w _ o0
      by_cases hbad : size < 0 ∨ (T.size : Int) < size
      · rw [if_pos hbad]
        obtain ⟨S, hS⟩ : ∃ S, f.sure = S := ⟨_, rfl⟩
        obtain ⟨m, hm⟩ : ∃ m, f.n = m := ⟨_, rfl⟩
        rw [hS] at o2
        rw [hm] at o0
        clear h hu e c2 hf hi hn hxf hL hTs hT hS hm hsu hvL hs
        unfold ptrV at *
        by_cases h1 : size < 0
        · have t1 : decide (size < 0) = true := decide_eq_true h1
          clear hbad
          go_enter Tryz.func40, Tryz.ntmps40
          go_wp2_with (go_at_call 24; refine cf'.mono ?_; rintro e w' ⟨rfl, rfl⟩)
          go_ret
          exact ⟨rfl, RGoes.same ⟨vL, vK, ks, H.out, rfl⟩ (keeps_lit _ _)⟩
        · have h2 : (T.size : Int) < size := by omega
          have t1 : decide (size < 0) = false := decide_eq_false h1
          have t2 : decide ((T.size : Int) < size) = true := decide_eq_true h2
          clear hbad
          go_enter Tryz.func40, Tryz.ntmps40
          go_wp2_with (go_at_call 24; refine cf'.mono ?_; rintro e w' ⟨rfl, rfl⟩)
          go_ret
          exact ⟨rfl, RGoes.same ⟨vL, vK, ks, H.out, rfl⟩ (keeps_lit _ _)⟩
      · rw [if_neg hbad]
        obtain ⟨Z, rfl⟩ : ∃ Z : Nat, size = Z := ⟨size.toNat, by omega⟩
        have hZ : Z ≤ T.size := by omega
        have t1 : decide ((Z : Int) < 0) = false := decide_eq_false (by omega)
        have t2 : decide ((T.size : Int) < (Z : Int)) = false := decide_eq_false (by omega)
        simp only [Int.toNat_natCast]
        have hrlt := block_lt h.ref
        rcases count_code D with ⟨hc, cfi, cc, cu⟩ | hc
        · rw [then_ok hc]
          have HI := Lib.hid hi
          have HN := Lib.hid hn
          have HCF := Lib.hid cfi
          have cn : ∀ W : World, (∀ p, W = w.alloc p → Calls Tryz.prog 25 #[ptrV r] W fun e w' => e = .returned (.bool false) ∧ RefAt w' r vL vK ks D.count.2 ∧ W.grownBy w' (some r)) := fun W p hp => by
            subst hp
            exact rfails_no (h.keeps (keeps_lit _ _)) hc
          have CN := Lib.hid cn
          have HT := Lib.hid hT
          have HTS := Lib.hid hTs
          have HLL := Lib.hid hL
          obtain ⟨S, hS⟩ : ∃ S, f.sure = S := ⟨_, rfl⟩
          obtain ⟨m, hm⟩ : ∃ m, f.n = m := ⟨_, rfl⟩
          have HS := Lib.hid hS
          have HM := Lib.hid hm
          rw [hS] at o2 hsu
          rw [hm] at o0
          clear h hu e c2 hf hi hn hc cfi cc cu hxf hL hTs hT hS hm hvL hs cn hbad
          unfold ptrV at *
          go_enter Tryz.func40, Tryz.ntmps40
          go_wp2_with (first
            | (go_at_call 24; refine cf'.mono ?_; rintro e w' ⟨rfl, rfl⟩)
            | fail)
          refine (CN.out _ _ rfl).mono ?_
          rintro e w2 ⟨rfl, h2, hg2⟩
          have hi2 : D.count.2.files[i]? = some f := by rw [HCF.out]; exact HI.out
          have hfile : f.cut Z = ⟨m, f.data.take Z, min S Z⟩ := by rw [← HM.out, ← HS.out]; rfl
          obtain ⟨Y, hY⟩ : ∃ Y, T.extract 0 Z = Y := ⟨_, rfl⟩
          have hYd : (⟨(f.data.take Z).toArray⟩ : ByteArray) = Y := by
            rw [← hY, ← HT.out]
            apply ByteArray.ext
            simp
          have hnb : w.heap.size ≠ r := by omega
          have hb2 : w2.heap[w.heap.size]? = some (.cells #[.int .i64 m, .string T, .int .i64 (S : Int)] tFr (0, 0)) := (hg2.block _ (by simp) (by simp [hnb])).trans (heap_alloc_new w _)
          have d0 : w2.cell? ⟨w.heap.size, 0, none⟩ = some (.int .i64 m) := Joins.cell_of_block hb2 0
          have d1 : w2.cell? ⟨w.heap.size, 1, none⟩ = some (.string T) := Joins.cell_of_block hb2 1
          have d2 : w2.cell? ⟨w.heap.size, 2, none⟩ = some (.int .i64 (S : Int)) := Joins.cell_of_block hb2 2
          have f1 := Joins.unfrozen_of_block hb2 1
          have f2 := Joins.unfrozen_of_block hb2 2
          have hok : Okay (D.count.2.put (D.count.2.files.set i (f.cut Z))) := by
            have := h2.okay.set n (fun f => f.cut Z) 0 (fun _ => rfl) (fun f hf _ => by unfold FileM.cut; have := h2.okay.sure f hf; simp; omega) (fun f _ _ => by unfold FileM.cut; simp; omega) (by have := h2.okay.room; omega)
            rwa [← set_eq (fun f => f.cut Z) h2.okay.rising hi2 HN.out] at this
          have cw : ∀ W : World, Frame [w.heap.size] w2 W → Calls Tryz.prog 30 #[ptrV r, .int .i64 (i : Int), .agg #[.int .i64 m, .string Y, .int .i64 ((min S Z : Nat) : Int)]] W fun e w' => e = .returned (.tuple #[]) ∧ RGoes w w' (rfoot r vL vK) r (D.count.2.put (setF D.count.2.files n fun f => f.cut Z)) := fun W hW => by
            have hfar : ∀ b ∈ rfoot r vL vK, b ≠ w.heap.size := fun b hb e => by have := H.out.lt b hb; omega
            have hR : RefAt W r vL vK ks D.count.2 := h2.local fun b hb => hW.block b (h2.lt b hb) (by simpa using hfar b hb)
            have c := rwith_any r vL vK ks D.count.2 i (f.cut Z) W hR (by rw [HCF.out, HLL.out]; exact hil) hok
            rw [hfile] at c
            unfold sv at c
            simp only [hYd] at c
            refine c.mono fun e w' ⟨g1, g2⟩ => ⟨g1, ?_⟩
            rw [← hfile, set_eq (fun f => f.cut Z) h2.okay.rising hi2 HN.out] at g2
            have fr : Frame [r] w w2 := (Frame.of_keeps (keeps_lit w (.cells #[.int .i64 m, .string T, .int .i64 (S : Int)] tFr)) [r]).trans (grown_frame hg2 (G := [r]) (by simp)) (fun x hx => by simp at hx; subst hx; exact Or.inl (by simp))
            exact rgoes_with (D := D) (fr.trans hW (fun x hx => by simp at hx; subst hx; exact Or.inr (Nat.le_refl _))) g2
          have CW := Lib.hid cw
          have hmin : (min (S : Int) (Z : Int)) = ((min S Z : Nat) : Int) := by omega
          have fr2 : ∀ v1 v2, Frame [w.heap.size] w2 (((w2.setCell ⟨w.heap.size, 1, none⟩ v1).setCell ⟨w.heap.size, 2, none⟩ v2).drew) := fun v1 v2 => ⟨rfl, rfl, rfl, by simp [World.drew], fun b hb hn => by
            have hbn : b ≠ w.heap.size := by simpa using hn
            show ((w2.setCell ⟨w.heap.size, 1, none⟩ v1).setCell ⟨w.heap.size, 2, none⟩ v2).heap[b]? = _
            rw [Below.heap_setCell _ _ _ _ hbn, Below.heap_setCell _ _ _ _ hbn]⟩
          have FR := Lib.hid fr2
          obtain ⟨M, hM⟩ : ∃ M, min S Z = M := ⟨_, rfl⟩
          rw [hM] at CW hmin
          have hsz2 : w.heap.size < w2.heap.size := block_lt hb2
          clear h2 hg2 hi2 hfile hYd hb2 hok cw fr2 cf'
          unfold ptrV at *
          go_wp2
          go_region
          go_wp2_with (go_at_call 30; refine (CW.out _ (FR.out _ _)).mono ?_; rintro e w4 ⟨rfl, hg⟩)
          go_ret
          exact ⟨rfl, hg⟩
        · rw [then_no hc]
          obtain ⟨hd, cn⟩ := rfails_yes h hc
          rw [hd]
          have HU := Lib.hid hu
          have cn : ∀ W : World, (∀ p, W = w.alloc p → Calls Tryz.prog 25 #[ptrV r] W fun e w' => e = .returned (.bool true) ∧ RefAt w' r vL vK ks ⟨D.cap, D.files, D.up, D.starts, none⟩ ∧ W.grownBy w' (some r)) := fun W p hp => by
            subst hp
            exact (rfails_yes (h.keeps (keeps_lit _ _)) hc).2
          have CN := Lib.hid cn
          obtain ⟨S, hS⟩ : ∃ S, f.sure = S := ⟨_, rfl⟩
          obtain ⟨m, hm⟩ : ∃ m, f.n = m := ⟨_, rfl⟩
          rw [hS] at o2 hsu
          rw [hm] at o0
          clear h hu e c2 hf hi hn hc hxf hL hTs hT hS hm hvL hs cn hbad hd
          unfold ptrV at *
          go_enter Tryz.func40, Tryz.ntmps40
          go_wp2_with (first
            | (go_at_call 24; refine cf'.mono ?_; rintro e w' ⟨rfl, rfl⟩)
            | fail)
          refine (CN.out _ _ rfl).mono ?_
          rintro e w2 ⟨rfl, h2, hg2⟩
          have cs := rsunk_any r vL vK ks _ w2 h2 HU.out
          have HG := Lib.hid hg2
          clear h2 hg2 cf'
          unfold ptrV at *
          go_wp2_with (go_at_call 26; refine cs.mono ?_; rintro e w3 ⟨rfl, hg⟩)
          go_ret
          obtain ⟨vL2, m1, m2, m3⟩ := hg
          refine ⟨rfl, rgoes_mk (vL' := vL2) (vK' := .slice none 0 0) (ks' := []) m1 ?_ (fun b hb => Or.inr (Nat.le_trans (Nat.le_trans (keeps_lit w _).size HG.out.size) (m3 b hb))) (fun b hb => by cases hb)⟩
          have fr : Frame [r] w w2 := (Frame.of_keeps (keeps_lit w _) [r]).trans (grown_frame HG.out (G := [r]) (by simp)) (fun x hx => by simp at hx; subst hx; exact Or.inl (by simp))
          exact fr.trans m2 (fun x hx => by simp at hx; subst hx; exact Or.inl (by simp))
end Go.Proofs.YtlaepdpgegoopaaGreat
namespace Go.Proofs.YtlaepdpgegoopaaGreat
open Go.ChangeShapes Go.WideShapes Go.ChangeAt Go.RowKit Go.Maps Csv Dk

theorem src_take {w : World} {g c : Nat} {L : List FileM} {N : Nat} (h : Src w (.slice (some ⟨g, 0, none⟩) N c) L) (i : Nat) (hi : i ≤ L.length) : Src w (.slice (some ⟨g, 0, none⟩) i c) (L.take i) := by
  obtain ⟨p, c', h1, h2, h3⟩ := h
  cases h1
  refine ⟨_, c, by rw [List.length_take, Nat.min_eq_left hi], (fun e => by cases e), fun a ha j u hu => ?_⟩
  refine h3 a ha j u ?_
  have e : rcells L = rcells (L.take i) ++ rcells (L.drop i) := by rw [← rcells_app, List.take_append_drop]
  rw [e, List.getElem?_append_left (List.getElem?_eq_some_iff.1 hu).1]
  exact hu
theorem src_drop {w : World} {g c c2 : Nat} {L : List FileM} {N : Nat} (h : Src w (.slice (some ⟨g, 0, none⟩) N c) L) (i o n : Nat) (hi : i ≤ L.length) (hn : n = L.length - i) (ho : o = i * 3 ∨ n = 0) : Src w (.slice (some ⟨g, o, none⟩) n c2) (L.drop i) := by
  obtain ⟨p, c', h1, h2, h3⟩ := h
  cases h1
  subst hn
  refine ⟨_, c2, by rw [List.length_drop], (fun e => by cases e), fun a ha j u hu => ?_⟩
  cases ha
  have hj : j < (rcells (L.drop i)).length := (List.getElem?_eq_some_iff.1 hu).1
  rw [rcells_len, List.length_drop] at hj
  rcases ho with rfl | h0
  · have e : rcells L = rcells (L.take i) ++ rcells (L.drop i) := by rw [← rcells_app, List.take_append_drop]
    have e2 : (rcells (L.take i)).length = i * 3 := by rw [rcells_len, List.length_take, Nat.min_eq_left hi]
    have := h3 ⟨g, 0, none⟩ rfl (i * 3 + j) u (by rw [e, List.getElem?_append_right (by omega), e2, Nat.add_sub_cancel_left]; exact hu)
    rw [addr_of] at this
    have e3 : (⟨g, i * 3, none⟩ : Addr).add j = ⟨g, i * 3 + j, none⟩ := by
      unfold Addr.add
      split <;> simp_all
    rw [e3]; exact this
  · omega
theorem step_copy {w : World} {ops : Array Oper} {o : Oper} {a : Act} {K : Act → World → Prop} {Q : Exit → Act → World → Prop} {E : Prop} (hgd : o.guard = none) (sl x : Operand)
    (ho : o.op = .call { callee := .builtin .append, args := #[sl, x], argTypes := #[tFs, tFs] }) (ht : o.type = tFs) (src : Value) (M : List FileM) (m : Nat) (hm : M.length = m) (hs : a.eval sl = .slice none 0 0) (hx : a.eval x = src) (hsrc : Src w src M) (hn : M.length ≤ 1000)
    (h : ∀ p' c' w', w'.ownsRow w.heap.size tFr 3 (.slice p' m c') M.length (rcells M) → Below w.heap.size w w' → K (a.put o.dst (.slice p' m c')) w') : if Region.wanted o (yielded ops a.tmps) = true then Oper.wp Tryz.prog o a w K Q else E := by
  subst hm
  obtain ⟨p', c', w', h1, h2, h3⟩ := copy_row w src M hsrc hn
  exact step_append_known hgd sl x _ _ ho _ _ _ w' hs hx (by rw [ht]; exact h1) (h p' c' w' h2 h3)
theorem step_app {w : World} {ops : Array Oper} {o : Oper} {a : Act} {K : Act → World → Prop} {Q : Exit → Act → World → Prop} {E : Prop} (hgd : o.guard = none) (sl x : Operand)
    (ho : o.op = .call { callee := .builtin .append, args := #[sl, x], argTypes := #[tFs, tFs] }) (ht : o.type = tFs) (B : Nat) (v src : Value) (L M : List FileM) (m : Nat) (hm : L.length + M.length = m) (hs : a.eval sl = v) (hx : a.eval x = src) (hown : w.ownsRow B tFr 3 v L.length (rcells L)) (hsrc : Src w src M) (hn : L.length + M.length ≤ 1000) (hB : B ≤ w.heap.size)
    (h : ∀ p' c' w', w'.ownsRow B tFr 3 (.slice p' m c') (L ++ M).length (rcells (L ++ M)) → Below B w w' → K (a.put o.dst (.slice p' m c')) w') : if Region.wanted o (yielded ops a.tmps) = true then Oper.wp Tryz.prog o a w K Q else E := by
  subst hm
  obtain ⟨p', c', w', h1, h2, h3⟩ := app_row w B v L src M hown hsrc hn hB
  exact step_append_known hgd sl x _ _ ho _ _ _ w' hs hx (by rw [ht]; exact h1) (h p' c' w' h2 ((Frame.of_grown h3 (G := v.ownBlock.toList) (fun g hg => by simp [hg])).below hB fun x hx => (hown.lt x (by simpa using hx)).1))
theorem keepS {w2 W : World} {r B : Nat} {v : Value} (hb : ∀ i, i < B → W.heap[i]? = w2.heap[i]?) (hr : r < B) (c : w2.cell? ⟨r, 1, none⟩ = some v) (f : w2.frozen? ⟨r, 1, none⟩ = false) : W.cell? ⟨r, 1, none⟩ = some v ∧ W.frozen? ⟨r, 1, none⟩ = false :=
  ⟨(World.cell?_of_block (hb r hr)).trans c, (World.frozen?_of_block (hb r hr)).trans f⟩
theorem del_eq {l : List FileM} {i : Nat} {f : FileM} {n : Int} (hr : Rising l) (hi : l[i]? = some f) (hn : f.n = n) : delF l n = l.take i ++ l.drop (i + 1) := by
  induction l generalizing i with
  | nil => simp at hi
  | cons g r ih =>
    obtain ⟨h1, h2⟩ := List.pairwise_cons.1 hr
    unfold delF at *
    rw [List.filter_cons]
    cases i with
    | zero =>
      simp at hi
      subst hi
      have : r.filter (fun f => f.n != n) = r := List.filter_eq_self.2 fun x hx => by have := h1 x hx; simp; omega
      simp [hn, this]
    | succ i =>
      have hi' : r[i]? = some f := by simpa using hi
      have := h1 f (List.mem_of_getElem? hi')
      have e : (g.n != n) = true := by simp; omega
      simp only [e, if_true, ih h2 hi', List.take_succ_cons, List.drop_succ_cons, List.cons_append]

set_option maxRecDepth 100000 in
set_option maxHeartbeats 2000000 in
theorem rdelete_any (r : Nat) (D : DiskM) (G : List Nat) (n : Int)  (w : World) (h : IsRef w r D G)  :
    Calls Tryz.prog 42 #[ptrV r, .int .i64 n] w fun e w' => e = .returned (.int .i64 (deleteD D n).1) ∧ RGoes w w' G r (deleteD D n).2 := by
  obtain ⟨vL, vK, ks, h, rfl⟩ := h
  have H := Lib.hid h
  have cf := rfind_any r vL vK ks D n w h
  obtain ⟨c0, c1, c2, c3, c4, c5, fz⟩ := h.cells
  clear c0 c3 c4 c5 fz
  cases hu : D.up with
  | false =>
    have e : deleteD D n = (61, D) := withF_down hu
    rw [e]
    have c2' : w.cell? ⟨r, 2, none⟩ = some (.bool true) := by rw [c2, hu]; rfl
    obtain ⟨q, hq⟩ : ∃ q, posI (posF D.files n) = q := ⟨_, rfl⟩
    rw [hq] at cf
    clear h hu e c1 c2 hq
    unfold ptrV at *
    go_enter Tryz.func42, Tryz.ntmps42
    go_wp2_with (go_at_call 24; refine cf.mono ?_; rintro e w' ⟨rfl, rfl⟩)
    go_ret
    exact ⟨rfl, RGoes.same ⟨vL, vK, ks, H.out, rfl⟩ (Keeps.refl _)⟩
  | true =>
    have c2' : w.cell? ⟨r, 2, none⟩ = some (.bool false) := by rw [c2, hu]; rfl
    cases hp : posF D.files n with
    | none =>
      have e : deleteD D n = (4, D) := withF_none hu (pos_none hp)
      rw [e]
      rw [hp] at cf
      have cf' : Calls Tryz.prog 24 #[ptrV r, .int .i64 n] w fun e w' => e = .returned (.int .i64 (-1)) ∧ w = w' := cf
      clear h hu e c1 c2 hp cf
      unfold ptrV at *
      go_enter Tryz.func42, Tryz.ntmps42
      go_wp2_with (go_at_call 24; refine cf'.mono ?_; rintro e w' ⟨rfl, rfl⟩)
      go_ret
      exact ⟨rfl, RGoes.same ⟨vL, vK, ks, H.out, rfl⟩ (Keeps.refl _)⟩
    | some i =>
      obtain ⟨f, hi, hn, hf⟩ := pos_some hp
      rw [hp] at cf
      have cf' : Calls Tryz.prog 24 #[ptrV r, .int .i64 n] w fun e w' => e = .returned (.int .i64 (i : Int)) ∧ w = w' := cf
      have hmany := h.okay.many
      have hil : i < D.files.length := (List.getElem?_eq_some_iff.1 hi).1
      have hxf : f ∈ D.files := List.mem_of_getElem? hi
      have hlen : f.data.length ≤ 1048576 := by have := used_mem hxf; have := h.okay.room; have := h.okay.cap; omega
      have hsu := h.okay.sure f hxf
      clear cf hp
      have e : deleteD D n = D.then fun l => delF l n := withF_some hu hf
      rw [e]
      have hrlt := block_lt h.ref
      rcases count_code D with ⟨hc, cfi, cc, cu⟩ | hc
      · rw [then_ok hc]
        have cn := rfails_no h hc
        have HI := Lib.hid hi
        have HN := Lib.hid hn
        have HCF := Lib.hid cfi
        clear h hu e c2 hf hi hn hc cfi cc cu hxf c1
        unfold ptrV at *
        go_enter Tryz.func42, Tryz.ntmps42
        go_wp2_with (first
          | (go_at_call 24; refine cf'.mono ?_; rintro e w' ⟨rfl, rfl⟩)
          | fail)
        refine cn.mono ?_
        rintro e w2 ⟨rfl, h2, hg2⟩
        have hi2 : D.count.2.files[i]? = some f := by rw [HCF.out]; exact HI.out
        have hdel := del_eq h2.okay.rising hi2 HN.out
        have hok := h2.okay.del n
        rw [hdel] at hok
        have HDEL := Lib.hid hdel
        obtain ⟨g, c, hvL, _⟩ := file_cells h2.row hi2
        obtain ⟨_, c1, _, _, _, _, fz⟩ := h2.cells
        have f1 := fz 1
        obtain ⟨N, hNe⟩ : ∃ N, D.count.2.files.length = N := ⟨_, rfl⟩
        have hcap : N ≤ c := by
          have := own_files h2.row
          rw [hvL] at this
          obtain ⟨p, c', h1, h3, _⟩ := this
          cases h1; omega
        have hilN : i < N := by rw [← hNe, HCF.out]; exact hil
        have hmN : N ≤ 100 := by rw [← hNe, HCF.out]; exact hmany
        have src0 := own_src h2.row
        rw [hvL] at src0
        rw [hNe] at hvL src0
        rw [hvL] at c1
        have s1 := src_take src0 i (by omega)
        have SRC := Lib.hid src0
        have S1 := Lib.hid s1
        have hi1 : (i : Int) < (N : Int) := by omega
        have hi2' : (i : Int) + 1 ≤ (N : Int) := by omega
        have hi3 : ((i : Int) + 1).toNat = i + 1 := by omega
        have hi0 : (0 : Int) ≤ (i : Int) + 1 := by omega
        have hic : i ≤ c := by omega
        have hic1 : i + 1 ≤ c := by omega
        have hic2 : i + 1 ≤ N := by omega
        have HLT := Lib.hid (show (D.count.2.files.take i).length = i by rw [List.length_take]; omega)
        have HLT9 := Lib.hid (show (D.count.2.files.take i).length ≤ 1000 by rw [List.length_take]; omega)
        have HTT := Lib.hid (show (D.count.2.files.take i).length + (D.count.2.files.drop (i + 1)).length = N - 1 by rw [List.length_take, List.length_drop]; omega)
        have HTT9 := Lib.hid (show (D.count.2.files.take i).length + (D.count.2.files.drop (i + 1)).length ≤ 1000 by rw [List.length_take, List.length_drop]; omega)
        have s2 : Src w2 (.slice (if c = i + 1 then some ⟨g, 0, none⟩ else some ⟨g, (i + 1) * 3, none⟩) (N - (i + 1)) (c - (i + 1))) (D.count.2.files.drop (i + 1)) := by
          split
          · exact src_drop src0 (i + 1) 0 _ (by omega) (by omega) (Or.inr (by omega))
          · exact src_drop src0 (i + 1) _ _ (by omega) (by omega) (Or.inl rfl)
        have S2 := Lib.hid s2
        clear s2
        have HR := Lib.hid (block_lt h2.ref)
        have CC := Lib.hid c1
        have FF := Lib.hid f1
        have key : ∀ W2 p2 cp2, W2.ownsRow w2.heap.size tFr 3 (.slice p2 (N - 1) cp2) (D.count.2.files.take i ++ D.count.2.files.drop (i + 1)).length (rcells (D.count.2.files.take i ++ D.count.2.files.drop (i + 1))) → Below w2.heap.size w2 W2 →
            RGoes w (W2.setCell ⟨r, 1, none⟩ (.slice p2 (N - 1) cp2)) (rfoot r vL vK) r (D.count.2.put (delF D.count.2.files n)) := fun W2 p2 cp2 q2 k2 => by
          have h3 := h2.keeps k2
          have b1 := Joins.block_setCell (i := 1) h3.ref (.slice p2 (N - 1) cp2)
          have o : ∀ b, b ≠ r → (W2.setCell ⟨r, 1, none⟩ (.slice p2 (N - 1) cp2)).heap[b]? = W2.heap[b]? := fun b hb => Below.heap_setCell _ _ _ _ hb
          have hrl := block_lt h2.ref
          rw [hdel]
          refine rgoes_mk (vL' := .slice p2 (N - 1) cp2) (vK' := vK) (ks' := ks) (RefAt.turn (by rw [b1]; rfl) (own_zero (own_local q2 fun b hb => o b fun e => by have := (q2.lt b hb).1; omega)) (own_local h3.kept fun b hb => o b fun e => h3.r_ne.2 (e ▸ hb)) h3.fail hok) ?_ (fun b hb => ?_) (fun b hb => Or.inl (mem_rfoot.2 (Or.inr (Or.inr hb))))
          · have fr : Frame [r] W2 (W2.setCell ⟨r, 1, none⟩ (.slice p2 (N - 1) cp2)) := grown_frame (grown_setCell _ _ _ _) (by simp)
            exact ((grown_frame hg2 (by simp)).trans (Frame.of_keeps k2 [r]) fun x hx => Or.inl hx).trans fr fun x hx => by simp at hx; subst hx; exact Or.inl (by simp)
          · have := (q2.lt b hb).1
            exact Or.inr (Nat.le_trans hg2.size this)
        have KEY := Lib.hid key
        have H2 := Lib.hid h2
        have HG2 := Lib.hid hg2
        have HOK := Lib.hid hok
        have HNE := Lib.hid hNe
        have HVL := Lib.hid hvL
        have HI2 := Lib.hid hi2
        have hw1 : IntKind.i64.wrap ((i : Int) + 1) = (i : Int) + 1 := IntWalk.i64_in _ (by omega)
        clear key h2 hg2 hi2 hdel hok src0 s1 hNe hvL fz cn cf'
        unfold ptrV at *
        go_wp2
        go_region_law (first
          | (refine step_copy rfl _ _ rfl rfl _ (D.count.2.files.take i) i HLT.out rfl rfl S1.out HLT9.out ?_; intro p1 cp1 W1 q1 k1
             have k1 : Below w2.heap.size w2 W1 := ⟨k1.os, k1.tape, k1.output, k1.size, k1.block⟩
             have c1' := (keepS k1.block HR.out CC.out FF.out).1
             have f1' := (keepS k1.block HR.out CC.out FF.out).2)
          | (refine step_app rfl _ _ rfl rfl w2.heap.size _ _ (D.count.2.files.take i) (D.count.2.files.drop (i + 1)) (N - 1) HTT.out rfl rfl q1 (S2.out.keeps k1) HTT9.out k1.size ?_; intro p2 cp2 W2 q2 k2
             have k2 : Below w2.heap.size w2 W2 := k1.trans k2
             have c2' := (keepS k2.block HR.out CC.out FF.out).1
             have f2' := (keepS k2.block HR.out CC.out FF.out).2))
        all_goals clear c1' f1' c2' f2' c1 f1
        all_goals go_wp2
        all_goals go_ret
        all_goals exact ⟨rfl, KEY.out _ _ _ q2 k2⟩
      · rw [then_no hc]
        obtain ⟨hd, cn⟩ := rfails_yes h hc
        rw [hd]
        have HU := Lib.hid hu
        clear h hu e c2 hf hi hn hc c1 hxf hd
        unfold ptrV at *
        go_enter Tryz.func42, Tryz.ntmps42
        go_wp2_with (first
          | (go_at_call 24; refine cf'.mono ?_; rintro e w' ⟨rfl, rfl⟩)
          | fail)
        refine cn.mono ?_
        rintro e w2 ⟨rfl, h2, hg2⟩
        have cs := rsunk_any r vL vK ks _ w2 h2 HU.out
        have HG := Lib.hid hg2
        clear cn h2 hg2
        unfold ptrV at *
        go_wp2_with (go_at_call 26; refine cs.mono ?_; rintro e w3 ⟨rfl, hg⟩)
        go_ret
        exact ⟨rfl, rgoes_sunk HG.out hg⟩
end Go.Proofs.YtlaepdpgegoopaaGreat
