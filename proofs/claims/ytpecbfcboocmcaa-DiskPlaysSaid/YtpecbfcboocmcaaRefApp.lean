
/- The document's own disk: Append, Truncate. -/
import Derived.Test.YtpecbfcboocmcaaRefAct
set_option linter.unusedVariables false
namespace Go.Proofs.Ytpecbfcboocmcaa
open Go.ChangeShapes Go.WideShapes Go.ChangeAt Go.RowKit Go.Maps Csv Dk

set_option maxRecDepth 100000 in
set_option maxHeartbeats 2000000 in
theorem rappend_any (r : Nat) (D : DiskM) (G : List Nat) (n : Int) (s : ByteArray) (w : World) (h : IsRef w r D G) (hs : s.size ≤ maxLen) :
    Calls Try.prog 32 #[ptrV r, .int .i64 n, .string s] w fun e w' => e = .returned (.int .i64 (appendD D n s.data.toList).1) ∧ RGoes w w' G r (appendD D n s.data.toList).2 := by
  obtain ⟨vL, vK, ks, h, rfl⟩ := h
  have H := Lib.hid h
  have cf := rfind_any r vL vK ks D n w h
  obtain ⟨c0, c1, c2, c3, c4, c5, fz⟩ := h.cells
  clear c0 c3 c4 c5 fz
  cases hu : D.up with
  | false =>
    have e : appendD D n s.data.toList = (61, D) := withF_down hu
    rw [e]
    have c2' : w.cell? ⟨r, 2, none⟩ = some (.bool true) := by rw [c2, hu]; rfl
    obtain ⟨q, hq⟩ : ∃ q, posI (posF D.files n) = q := ⟨_, rfl⟩
    rw [hq] at cf
    clear h hu e c1 c2 hq hs
    unfold ptrV at *
    go_enter Try.func32, Try.ntmps32
    go_wp2_with (go_at_call 44; refine cf.mono ?_; rintro e w' ⟨rfl, rfl⟩)
    go_ret
    exact ⟨rfl, RGoes.same ⟨vL, vK, ks, H.out, rfl⟩ (Keeps.refl _)⟩
  | true =>
    have c2' : w.cell? ⟨r, 2, none⟩ = some (.bool false) := by rw [c2, hu]; rfl
    cases hp : posF D.files n with
    | none =>
      have e : appendD D n s.data.toList = (4, D) := withF_none hu (pos_none hp)
      rw [e]
      rw [hp] at cf
      have cf' : Calls Try.prog 44 #[ptrV r, .int .i64 n] w fun e w' => e = .returned (.int .i64 (-1)) ∧ w = w' := cf
      clear h hu e c1 c2 hp cf hs
      unfold ptrV at *
      go_enter Try.func32, Try.ntmps32
      go_wp2_with (go_at_call 44; refine cf'.mono ?_; rintro e w' ⟨rfl, rfl⟩)
      go_ret
      exact ⟨rfl, RGoes.same ⟨vL, vK, ks, H.out, rfl⟩ (Keeps.refl _)⟩
    | some i =>
      obtain ⟨f, hi, hn, hf⟩ := pos_some hp
      rw [hp] at cf
      have cf' : Calls Try.prog 44 #[ptrV r, .int .i64 n] w fun e w' => e = .returned (.int .i64 (i : Int)) ∧ w = w' := cf
      have hmany := h.okay.many
      have hil : i < D.files.length := (List.getElem?_eq_some_iff.1 hi).1
      have hxf : f ∈ D.files := List.mem_of_getElem? hi
      have hlen : f.data.length ≤ 1048576 := by have := used_mem hxf; have := h.okay.room; have := h.okay.cap; omega
      have hsu := h.okay.sure f hxf
      clear cf hp
      have e : appendD D n s.data.toList = _ := withF_some hu hf
      rw [e]
      have hsl : s.data.toList.length = s.size := len_data s
      have cfr := rfree_any r vL vK ks D w h
      have hroom := h.okay.room
      have hcapD := h.okay.cap
      unfold maxLen at hs
      by_cases hbad : D.free < s.data.toList.length
      · rw [if_pos hbad]
        rw [hsl] at hbad
        have t1 : decide (D.free < (s.size : Int)) = true := decide_eq_true hbad
        obtain ⟨Fr, hF⟩ : ∃ F, D.free = F := ⟨_, rfl⟩
        rw [hF] at cfr t1 hbad
        clear h hu e hf hi hn hxf hF hsl hroom hcapD c1 c2 hs hlen hsu
        unfold ptrV at *
        go_enter Try.func32, Try.ntmps32
        go_wp2_with (first
          | (go_at_call 44; refine cf'.mono ?_; rintro e w' ⟨rfl, rfl⟩)
          | (go_at_call 35; refine cfr.mono ?_; rintro e w' ⟨rfl, rfl⟩))
        go_ret
        exact ⟨rfl, RGoes.same ⟨vL, vK, ks, H.out, rfl⟩ (Keeps.refl _)⟩
      · rw [if_neg hbad]
        rw [hsl] at hbad
        have t1 : decide (D.free < (s.size : Int)) = false := decide_eq_false hbad
        have hfree : D.free = (D.cap : Int) - (used D.files : Int) := rfl
        have hsz : used D.files + s.size ≤ D.cap := by omega
        have hsz2 : s.size ≤ 1048576 := by omega
        obtain ⟨Fr, hF⟩ : ∃ F, D.free = F := ⟨_, rfl⟩
        rw [hF] at cfr t1 hbad
        obtain ⟨g, c, hvL, o0, o1, o2⟩ := file_cells h.row hi
        rw [hvL] at c1
        have hok : Okay (D.put (D.files.set i ⟨f.n, f.data ++ s.data.toList, f.sure⟩)) := by
          have := h.okay.set n (fun f => ⟨f.n, f.data ++ s.data.toList, f.sure⟩) s.size (fun _ => rfl) (fun f hf _ => by have := h.okay.sure f hf; simp; omega) (fun f hf _ => by simp) hsz
          rwa [← set_eq (fun f => ⟨f.n, f.data ++ s.data.toList, f.sure⟩) h.okay.rising hi hn] at this
        have hset := set_eq (fun f => ⟨f.n, f.data ++ s.data.toList, f.sure⟩) h.okay.rising hi hn
        have cw : ∀ W : World, Keeps w W → Calls Try.prog 47 #[ptrV r, .int .i64 (i : Int), .agg #[.int .i64 f.n, sv (f.data ++ s.data.toList), .int .i64 (f.sure : Int)]] W fun e w' => e = .returned (.tuple #[]) ∧ ∃ vL', RefAt w' r vL' vK ks (D.put (setF D.files n fun f => ⟨f.n, f.data ++ s.data.toList, f.sure⟩)) ∧ Frame (rfoot r vL vK) w w' ∧ ∀ b, vL'.ownBlock = some b → w.heap.size ≤ b := fun W hW =>
          (rwith_any r vL vK ks D i ⟨f.n, f.data ++ s.data.toList, f.sure⟩ W (h.keeps hW) hil hok).mono fun e w' ⟨g1, vL', g2, g3, g4⟩ => ⟨g1, vL', by rw [← hset]; exact g2, (Frame.of_keeps hW (rfoot r vL vK)).trans (g3.mono (G1 := rfoot r vL vK) fun x hx => by simp at hx; subst hx; simp [rfoot]) (fun x hx => Or.inl hx), fun b hb => Nat.le_trans hW.size (g4 b hb)⟩
        have CW := Lib.hid cw
        obtain ⟨D1, hD1⟩ : ∃ D1, D.put (setF D.files n fun f => ⟨f.n, f.data ++ s.data.toList, f.sure⟩) = D1 := ⟨_, rfl⟩
        rw [hD1] at CW ⊢
        have hu1 : D1.up = true := by rw [← hD1]; exact hu
        have HU1 := Lib.hid hu1
        have hrlt := block_lt h.ref
        obtain ⟨N, hN⟩ : ∃ N, D.files.length = N := ⟨_, rfl⟩
        rw [hN] at c1 hil hmany
        have hi1 : (i : Int) < (N : Int) := by omega
        obtain ⟨T, hT⟩ : ∃ T : ByteArray, (⟨f.data.toArray⟩ : ByteArray) = T := ⟨_, rfl⟩
        have hTs : f.data.length = T.size := by rw [← hT, size_mk]
        obtain ⟨Y, hY⟩ : ∃ Y, T ++ s = Y := ⟨_, rfl⟩
        have hYd : (⟨(f.data ++ s.data.toList).toArray⟩ : ByteArray) = Y := by
          rw [← hY, ← hT]
          apply ByteArray.ext
          simp
        unfold sv at o1 CW
        rw [hT] at o1
        rw [hYd] at CW
        rw [hTs] at hlen
        have hcat : ¬ (9223372036854775807 < T.size + s.size) := by omega
        obtain ⟨S, hS⟩ : ∃ S, f.sure = S := ⟨_, rfl⟩
        rw [hS] at o2 CW
        obtain ⟨m, hm⟩ : ∃ m, f.n = m := ⟨_, rfl⟩
        rw [hm] at o0 CW
        have hgl : g < w.heap.size := World.block_lt_of_cell? w _ o0
        rcases count_code D1 with ⟨hc, _⟩ | hc
        · have HC := Lib.hid hc
          clear h hu hu1 e hf hi hn hc hxf hsl hroom hcapD c2 hok hset cw hT hTs hYd hS hm hN hF hfree hD1 hsu hvL hs hbad hsz
          unfold ptrV at *
          go_enter Try.func32, Try.ntmps32
          go_wp2_with (first
          | (go_at_call 44; refine cf'.mono ?_; rintro e w' ⟨rfl, rfl⟩)
          | (go_at_call 35; refine cfr.mono ?_; rintro e w' ⟨rfl, rfl⟩)
          | (go_at_call 47; refine (CW.out _ ?_).mono ?_; exact keeps_lit _ _; rintro e w3 ⟨rfl, hg⟩))
          obtain ⟨vL', g2, g3, g4⟩ := hg
          refine (rfails_no g2 HC.out).mono ?_
          rintro e w4 ⟨rfl, k2, k3⟩
          have hfin : RGoes w w4 (rfoot r vL vK) r D1.count.2 := rgoes_mk k2 (g3.frame_grown k3 (by simp [rfoot])) (fun b hb => Or.inr (g4 b hb)) (fun b hb => Or.inl (mem_rfoot.2 (Or.inr (Or.inr hb))))
          have HF := Lib.hid hfin
          clear g2 g3 g4 k2 k3 hfin
          go_wp2
          go_ret
          exact ⟨ret_int HC.out.symm, HF.out⟩
        · have HC := Lib.hid hc
          clear h hu hu1 e hf hi hn hc hxf hsl hroom hcapD c2 hok hset cw hT hTs hYd hS hm hN hF hfree hD1 hsu hvL hs hbad hsz
          unfold ptrV at *
          go_enter Try.func32, Try.ntmps32
          go_wp2_with (first
          | (go_at_call 44; refine cf'.mono ?_; rintro e w' ⟨rfl, rfl⟩)
          | (go_at_call 35; refine cfr.mono ?_; rintro e w' ⟨rfl, rfl⟩)
          | (go_at_call 47; refine (CW.out _ ?_).mono ?_; exact keeps_lit _ _; rintro e w3 ⟨rfl, hg⟩))
          obtain ⟨vL', g2, g3, g4⟩ := hg
          obtain ⟨hd, cn⟩ := rfails_yes g2 HC.out
          refine cn.mono ?_
          rintro e w4 ⟨rfl, k2, k3⟩
          have cs := rsunk_any r _ vK ks _ w4 k2 HU1.out
          have G3 := Lib.hid g3
          have G4 := Lib.hid g4
          have K3 := Lib.hid k3
          have HD := Lib.hid hd
          clear g2 g3 g4 k2 k3 hd cn
          unfold ptrV at *
          go_wp2_with (go_at_call 46; refine cs.mono ?_; rintro e w5 ⟨rfl, hg⟩)
          go_ret
          obtain ⟨vL2, m1, m2, m3⟩ := hg
          refine ⟨ret_int HC.out.symm, ?_⟩
          rw [HD.out]
          exact rgoes_mk (vL' := vL2) (vK' := .slice none 0 0) (ks' := []) m1 ((G3.out.frame_grown K3.out (by simp [rfoot])).trans (m2.mono (G1 := rfoot r vL vK) fun x hx => by simp at hx; subst hx; simp [rfoot]) fun x hx => Or.inl hx) (fun b hb => Or.inr (Nat.le_trans (Nat.le_trans G3.out.size K3.out.size) (m3 b hb))) (fun b hb => by cases hb)
end Go.Proofs.Ytpecbfcboocmcaa
