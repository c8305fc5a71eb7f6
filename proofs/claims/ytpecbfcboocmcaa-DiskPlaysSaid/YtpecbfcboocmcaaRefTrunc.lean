
/- The document's own disk: Truncate. -/
import Derived.Test.YtpecbfcboocmcaaRefApp
set_option linter.unusedVariables false
namespace Go.Proofs.Ytpecbfcboocmcaa
open Go.ChangeShapes Go.WideShapes Go.ChangeAt Go.RowKit Go.Maps Csv Dk

set_option maxRecDepth 100000 in
set_option maxHeartbeats 2000000 in
theorem rtrunc_any (r : Nat) (D : DiskM) (G : List Nat) (n : Int) (size : Int) (w : World) (h : IsRef w r D G) (hs : I64 size) :
    Calls Try.prog 26 #[ptrV r, .int .i64 n, .int .i64 size] w fun e w' => e = .returned (.int .i64 (truncD D n size).1) ∧ RGoes w w' G r (truncD D n size).2 := by
  obtain ⟨vL, vK, ks, h, rfl⟩ := h
  have H := Lib.hid h
  have cf := rfind_any r vL vK ks D n w h
  obtain ⟨c0, c1, c2, c3, c4, c5, fz⟩ := h.cells
  clear c0 c3 c4 c5 fz
  cases hu : D.up with
  | false =>
    have e : truncD D n size = (61, D) := withF_down hu
    rw [e]
    have c2' : w.cell? ⟨r, 2, none⟩ = some (.bool true) := by rw [c2, hu]; rfl
    obtain ⟨q, hq⟩ : ∃ q, posI (posF D.files n) = q := ⟨_, rfl⟩
    rw [hq] at cf
    clear h hu e c1 c2 hq hs
    unfold ptrV at *
    go_enter Try.func26, Try.ntmps26
    go_wp2_with (go_at_call 44; refine cf.mono ?_; rintro e w' ⟨rfl, rfl⟩)
    go_ret
    exact ⟨rfl, RGoes.same ⟨vL, vK, ks, H.out, rfl⟩ (Keeps.refl _)⟩
  | true =>
    have c2' : w.cell? ⟨r, 2, none⟩ = some (.bool false) := by rw [c2, hu]; rfl
    cases hp : posF D.files n with
    | none =>
      have e : truncD D n size = (4, D) := withF_none hu (pos_none hp)
      rw [e]
      rw [hp] at cf
      have cf' : Calls Try.prog 44 #[ptrV r, .int .i64 n] w fun e w' => e = .returned (.int .i64 (-1)) ∧ w = w' := cf
      clear h hu e c1 c2 hp cf hs
      unfold ptrV at *
      go_enter Try.func26, Try.ntmps26
      go_wp2_with (go_at_call 44; refine cf'.mono ?_; rintro e w' ⟨rfl, rfl⟩)
      go_ret
      exact ⟨rfl, RGoes.same ⟨vL, vK, ks, H.out, rfl⟩ (Keeps.refl _)⟩
    | some i =>
      obtain ⟨f, hi, hn, hf⟩ := pos_some hp
      rw [hp] at cf
      have cf' : Calls Try.prog 44 #[ptrV r, .int .i64 n] w fun e w' => e = .returned (.int .i64 (i : Int)) ∧ w = w' := cf
      have hmany := h.okay.many
      have hil : i < D.files.length := (List.getElem?_eq_some_iff.1 hi).1
      have hxf : f ∈ D.files := List.mem_of_getElem? hi
      have hlen : f.data.length ≤ 1048576 := by have := used_mem hxf; have := h.okay.room; have := h.okay.cap; omega
      have hsu := h.okay.sure f hxf
      clear cf hp
      have e : truncD D n size = _ := withF_some hu hf
      rw [e]
      have hs' := hs.nat
      obtain ⟨g, c, hvL, o0, o1, o2⟩ := file_cells h.row hi
      rw [hvL] at c1
      obtain ⟨L, hL⟩ : ∃ L, D.files.length = L := ⟨_, rfl⟩
      rw [hL] at c1 hil hmany
      have hi1 : (i : Int) < (L : Int) := by omega
      obtain ⟨T, hT⟩ : ∃ T : ByteArray, (⟨f.data.toArray⟩ : ByteArray) = T := ⟨_, rfl⟩
      have hTs : f.data.length = T.size := by rw [← hT, size_mk]
      unfold sv at o1
      rw [hT] at o1
      rw [hTs] at hlen hsu ⊢
      have hgl : g < w.heap.size := World.block_lt_of_cell? w _ o0
      by_cases hbad : size < 0 ∨ (T.size : Int) < size
      · rw [if_pos hbad]
        obtain ⟨S, hS⟩ : ∃ S, f.sure = S := ⟨_, rfl⟩
        obtain ⟨m, hm⟩ : ∃ m, f.n = m := ⟨_, rfl⟩
        rw [hS] at o2
        rw [hm] at o0
        clear h hu e c2 hf hi hn hxf hL hTs hT hS hm hsu hvL hs
        unfold ptrV at *
        by_cases h1 : size < 0
        · have t1 : decide (size < 0) = true := decide_eq_true h1
          clear hbad
          go_enter Try.func26, Try.ntmps26
          go_wp2_with (go_at_call 44; refine cf'.mono ?_; rintro e w' ⟨rfl, rfl⟩)
          go_ret
          exact ⟨rfl, RGoes.same ⟨vL, vK, ks, H.out, rfl⟩ (keeps_lit _ _)⟩
        · have h2 : (T.size : Int) < size := by omega
          have t1 : decide (size < 0) = false := decide_eq_false h1
          have t2 : decide ((T.size : Int) < size) = true := decide_eq_true h2
          clear hbad
          go_enter Try.func26, Try.ntmps26
          go_wp2_with (go_at_call 44; refine cf'.mono ?_; rintro e w' ⟨rfl, rfl⟩)
          go_ret
          exact ⟨rfl, RGoes.same ⟨vL, vK, ks, H.out, rfl⟩ (keeps_lit _ _)⟩
      · rw [if_neg hbad]
        obtain ⟨Z, rfl⟩ : ∃ Z : Nat, size = Z := ⟨size.toNat, by omega⟩
        have hZ : Z ≤ T.size := by omega
        have t1 : decide ((Z : Int) < 0) = false := decide_eq_false (by omega)
        have t2 : decide ((T.size : Int) < (Z : Int)) = false := decide_eq_false (by omega)
        simp only [Int.toNat_natCast]
        have hrlt := block_lt h.ref
        rcases count_code D with ⟨hc, cfi, cc, cu⟩ | hc
        · rw [then_ok hc]
          have HI := Lib.hid hi
          have HN := Lib.hid hn
          have HCF := Lib.hid cfi
          have cn : ∀ W : World, (∀ p, W = w.alloc p → Calls Try.prog 45 #[ptrV r] W fun e w' => e = .returned (.bool false) ∧ RefAt w' r vL vK ks D.count.2 ∧ W.grownBy w' (some r)) := fun W p hp => by
            subst hp
            exact rfails_no (h.keeps (keeps_lit _ _)) hc
          have CN := Lib.hid cn
          have HT := Lib.hid hT
          have HTS := Lib.hid hTs
          have HLL := Lib.hid hL
          obtain ⟨S, hS⟩ : ∃ S, f.sure = S := ⟨_, rfl⟩
          obtain ⟨m, hm⟩ : ∃ m, f.n = m := ⟨_, rfl⟩
          have HS := Lib.hid hS
          have HM := Lib.hid hm
          rw [hS] at o2 hsu
          rw [hm] at o0
          clear h hu e c2 hf hi hn hc cfi cc cu hxf hL hTs hT hS hm hvL hs cn hbad
          unfold ptrV at *
          go_enter Try.func26, Try.ntmps26
          go_wp2_with (first
            | (go_at_call 44; refine cf'.mono ?_; rintro e w' ⟨rfl, rfl⟩)
            | fail)
          refine (CN.out _ _ rfl).mono ?_
          rintro e w2 ⟨rfl, h2, hg2⟩
          have hi2 : D.count.2.files[i]? = some f := by rw [HCF.out]; exact HI.out
          have hfile : f.cut Z = ⟨m, f.data.take Z, min S Z⟩ := by rw [← HM.out, ← HS.out]; rfl
          obtain ⟨Y, hY⟩ : ∃ Y, T.extract 0 Z = Y := ⟨_, rfl⟩
          have hYd : (⟨(f.data.take Z).toArray⟩ : ByteArray) = Y := by
            rw [← hY, ← HT.out]
            apply ByteArray.ext
            simp
          have hnb : w.heap.size ≠ r := by omega
          have hb2 : w2.heap[w.heap.size]? = some (.cells #[.int .i64 m, .string T, .int .i64 (S : Int)] tFr (0, 0)) := (hg2.block _ (by simp) (by simp [hnb])).trans (heap_alloc_new w _)
          have d0 : w2.cell? ⟨w.heap.size, 0, none⟩ = some (.int .i64 m) := Joins.cell_of_block hb2 0
          have d1 : w2.cell? ⟨w.heap.size, 1, none⟩ = some (.string T) := Joins.cell_of_block hb2 1
          have d2 : w2.cell? ⟨w.heap.size, 2, none⟩ = some (.int .i64 (S : Int)) := Joins.cell_of_block hb2 2
          have f1 := Joins.unfrozen_of_block hb2 1
          have f2 := Joins.unfrozen_of_block hb2 2
          have hok : Okay (D.count.2.put (D.count.2.files.set i (f.cut Z))) := by
            have := h2.okay.set n (fun f => f.cut Z) 0 (fun _ => rfl) (fun f hf _ => by unfold FileM.cut; have := h2.okay.sure f hf; simp; omega) (fun f _ _ => by unfold FileM.cut; simp; omega) (by have := h2.okay.room; omega)
            rwa [← set_eq (fun f => f.cut Z) h2.okay.rising hi2 HN.out] at this
          have cw : ∀ W : World, Frame [w.heap.size] w2 W → Calls Try.prog 47 #[ptrV r, .int .i64 (i : Int), .agg #[.int .i64 m, .string Y, .int .i64 ((min S Z : Nat) : Int)]] W fun e w' => e = .returned (.tuple #[]) ∧ RGoes w w' (rfoot r vL vK) r (D.count.2.put (setF D.count.2.files n fun f => f.cut Z)) := fun W hW => by
            have hfar : ∀ b ∈ rfoot r vL vK, b ≠ w.heap.size := fun b hb e => by have := H.out.lt b hb; omega
            have hR : RefAt W r vL vK ks D.count.2 := h2.local fun b hb => hW.block b (h2.lt b hb) (by simpa using hfar b hb)
            have c := rwith_any r vL vK ks D.count.2 i (f.cut Z) W hR (by rw [HCF.out, HLL.out]; exact hil) hok
            rw [hfile] at c
            unfold sv at c
            simp only [hYd] at c
            refine c.mono fun e w' ⟨g1, g2⟩ => ⟨g1, ?_⟩
            rw [← hfile, set_eq (fun f => f.cut Z) h2.okay.rising hi2 HN.out] at g2
            have fr : Frame (rfoot r vL vK) w w2 := (Frame.of_keeps (keeps_lit w (.cells #[.int .i64 m, .string T, .int .i64 (S : Int)] tFr)) (rfoot r vL vK)).trans (grown_frame hg2 (G := [r]) (by simp)) (fun x hx => by simp at hx; subst hx; exact Or.inl (by simp [rfoot]))
            exact rgoes_with (D := D) (fr.trans hW (fun x hx => by simp at hx; subst hx; exact Or.inr (Nat.le_refl _))) g2
          have CW := Lib.hid cw
          have hmin : (min (S : Int) (Z : Int)) = ((min S Z : Nat) : Int) := by omega
          have fr2 : ∀ v1 v2, Frame [w.heap.size] w2 (((w2.setCell ⟨w.heap.size, 1, none⟩ v1).setCell ⟨w.heap.size, 2, none⟩ v2).drew) := fun v1 v2 => ⟨rfl, rfl, rfl, by simp [World.drew], fun b hb hn => by
            have hbn : b ≠ w.heap.size := by simpa using hn
            show ((w2.setCell ⟨w.heap.size, 1, none⟩ v1).setCell ⟨w.heap.size, 2, none⟩ v2).heap[b]? = _
            rw [Below.heap_setCell _ _ _ _ hbn, Below.heap_setCell _ _ _ _ hbn]⟩
          have FR := Lib.hid fr2
          obtain ⟨M, hM⟩ : ∃ M, min S Z = M := ⟨_, rfl⟩
          rw [hM] at CW hmin
          have hsz2 : w.heap.size < w2.heap.size := block_lt hb2
          clear h2 hg2 hi2 hfile hYd hb2 hok cw fr2 cf'
          unfold ptrV at *
          go_wp2
          go_region
          go_wp2_with (go_at_call 47; refine (CW.out _ (FR.out _ _)).mono ?_; rintro e w4 ⟨rfl, hg⟩)
          go_ret
          exact ⟨rfl, hg⟩
        · rw [then_no hc]
          obtain ⟨hd, cn⟩ := rfails_yes h hc
          rw [hd]
          have HU := Lib.hid hu
          have cn : ∀ W : World, (∀ p, W = w.alloc p → Calls Try.prog 45 #[ptrV r] W fun e w' => e = .returned (.bool true) ∧ RefAt w' r vL vK ks ⟨D.cap, D.files, D.up, D.starts, none⟩ ∧ W.grownBy w' (some r)) := fun W p hp => by
            subst hp
            exact (rfails_yes (h.keeps (keeps_lit _ _)) hc).2
          have CN := Lib.hid cn
          obtain ⟨S, hS⟩ : ∃ S, f.sure = S := ⟨_, rfl⟩
          obtain ⟨m, hm⟩ : ∃ m, f.n = m := ⟨_, rfl⟩
          rw [hS] at o2 hsu
          rw [hm] at o0
          clear h hu e c2 hf hi hn hc hxf hL hTs hT hS hm hvL hs cn hbad hd
          unfold ptrV at *
          go_enter Try.func26, Try.ntmps26
          go_wp2_with (first
            | (go_at_call 44; refine cf'.mono ?_; rintro e w' ⟨rfl, rfl⟩)
            | fail)
          refine (CN.out _ _ rfl).mono ?_
          rintro e w2 ⟨rfl, h2, hg2⟩
          have cs := rsunk_any r vL vK ks _ w2 h2 HU.out
          have HG := Lib.hid hg2
          clear h2 hg2 cf'
          unfold ptrV at *
          go_wp2_with (go_at_call 46; refine cs.mono ?_; rintro e w3 ⟨rfl, hg⟩)
          go_ret
          obtain ⟨vL2, m1, m2, m3⟩ := hg
          refine ⟨rfl, rgoes_mk (vL' := vL2) (vK' := .slice none 0 0) (ks' := []) m1 ?_ (fun b hb => Or.inr (Nat.le_trans (Nat.le_trans (keeps_lit w _).size HG.out.size) (m3 b hb))) (fun b hb => by cases hb)⟩
          have fr : Frame (rfoot r vL vK) w w2 := (Frame.of_keeps (keeps_lit w _) (rfoot r vL vK)).trans (grown_frame HG.out (G := [r]) (by simp)) (fun x hx => by simp at hx; subst hx; exact Or.inl (by simp [rfoot]))
          exact fr.trans m2 (fun x hx => by simp at hx; subst hx; exact Or.inl (by simp [rfoot]))
end Go.Proofs.Ytpecbfcboocmcaa
