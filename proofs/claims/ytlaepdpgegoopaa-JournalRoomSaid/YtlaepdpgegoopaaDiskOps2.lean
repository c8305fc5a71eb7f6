
/- The contracts of disk's calls: Read, Start, Crash, Sync, Truncate, Append. -/
import Derived.Test.YtlaepdpgegoopaaDiskOps
import Derived.Lib.AppendStr
set_option linter.unusedVariables false
namespace Go.Proofs.Ytlaepdpgegoopaa
open Go.ChangeShapes Go.WideShapes Go.ChangeAt Go.RowKit Go.Maps Csv Dk

theorem read_few {D : DiskM} {n at_ size : Int} {f : FileM} (hu : D.up = true) (hf : findF D.files n = some f) :
    readD D n at_ size = if at_ < 0 ∨ size < 0 ∨ (f.data.length : Int) - at_ < size then ([], 2) else ((f.data.drop at_.toNat).take size.toNat, 0) := by
  unfold readD
  rw [if_neg (by rw [hu]; decide), hf]
set_option maxHeartbeats 1000000 in
theorem dkRead_any (d : Nat) (D : DiskM) (G : List Nat) (n at_ size : Int) (w : World) (h : IsDisk w d D G) (hn : I64 n) (ha : I64 at_) (hs : I64 size) :
    Calls Try.prog 62 #[ptrV d, .int .i64 n, .int .i64 at_, .int .i64 size] w fun e w' => e = .returned (.tuple #[sv (readD D n at_ size).1, .int .i64 (readD D n at_ size).2]) ∧ w = w' := by
  obtain ⟨m, L, k, h, rfl⟩ := h
  have ha' := ha.nat
  have hs' := hs.nat
  clear ha hs
  cases hu : D.up with
  | false =>
    have c := find_down d m L k D n w h hu
    have e : readD D n at_ size = ([], 61) := by unfold readD; rw [if_pos hu]
    rw [e]
    clear h hu e
    unfold ptrV at *
    go_enter Try.func62, Try.ntmps62
    go_wp2_with (go_at_call 51; refine c.mono ?_; rintro e w' ⟨rfl, rfl⟩)
    go_ret2
    exact ⟨rfl, rfl⟩
  | true =>
    cases hf : findF D.files n with
    | none =>
      have c := find_nofile d m L k D n w h hn hu hf
      have e : readD D n at_ size = ([], 4) := by unfold readD; rw [if_neg (by rw [hu]; decide), hf]
      rw [e]
      clear h hu e hf hn
      unfold ptrV at *
      go_enter Try.func62, Try.ntmps62
      go_wp2_with (go_at_call 51; refine c.mono ?_; rintro e w' ⟨rfl, rfl⟩)
      go_ret2
      exact ⟨rfl, rfl⟩
    | some f =>
      obtain ⟨i, x, hi, rfl, hxn, hx⟩ := find_at h hf
      have c := find_file d m L k D n x w h hn hu hx
      have hxf : x.1 ∈ D.files := by rw [h.lst]; exact List.mem_map.2 ⟨x, List.mem_of_getElem? hi, rfl⟩
      have hlen : x.1.data.length ≤ 1048576 := by have := used_mem hxf; have := h.okay.room; have := h.okay.cap; omega
      obtain ⟨p, cap, c0, c1, fz, hcap, hc, ho, hb, hp, hmax, hpp⟩ := (h.files x (List.mem_of_getElem? hi)).cells
      have e := read_few (at_ := at_) (size := size) hu hf
      obtain ⟨l, hl⟩ : ∃ l, x.1.data = l := ⟨_, rfl⟩
      rw [hl] at c0 hcap ho hlen e
      obtain ⟨N, hN⟩ : ∃ N, l.length = N := ⟨_, rfl⟩
      rw [hN] at c0 hcap hlen ho e
      obtain ⟨b, hb'⟩ : ∃ b, x.2.blk = b := ⟨_, rfl⟩
      rw [hb'] at c c0
      have hx2 := hb
      clear h hu hf hn hi hx hxn hb' c1 fz hc hb hp hxf hx2 hl
      have stop : ∀ (hbad : at_ < 0 ∨ size < 0 ∨ (N : Int) - at_ < size), Calls Try.prog 62 #[ptrV d, .int .i64 n, .int .i64 at_, .int .i64 size] w fun e w' => e = .returned (.tuple #[sv (readD D n at_ size).1, .int .i64 (readD D n at_ size).2]) ∧ w = w' := by
        intro hbad
        rw [e, if_pos hbad]
        clear e ho hpp
        unfold ptrV at *
        by_cases h1 : at_ < 0
        · have t1 : decide (at_ < 0) = true := decide_eq_true h1
          go_enter Try.func62, Try.ntmps62
          go_wp2_with (go_at_call 51; refine c.mono ?_; rintro e w' ⟨rfl, rfl⟩)
          go_ret2
          exact ⟨rfl, rfl⟩
        · by_cases h2 : size < 0
          · have t1 : decide (at_ < 0) = false := decide_eq_false h1
            have t2 : decide (size < 0) = true := decide_eq_true h2
            go_enter Try.func62, Try.ntmps62
            go_wp2_with (go_at_call 51; refine c.mono ?_; rintro e w' ⟨rfl, rfl⟩)
            go_ret2
            exact ⟨rfl, rfl⟩
          · have t1 : decide (at_ < 0) = false := decide_eq_false h1
            have t2 : decide (size < 0) = false := decide_eq_false h2
            have h3 : (N : Int) - at_ < size := by omega
            have t3 : decide ((N : Int) - at_ < size) = true := decide_eq_true h3
            clear hbad
            go_enter Try.func62, Try.ntmps62
            go_wp2_with (go_at_call 51; refine c.mono ?_; rintro e w' ⟨rfl, rfl⟩)
            go_ret2
            exact ⟨rfl, rfl⟩
      by_cases hbad : at_ < 0 ∨ size < 0 ∨ (N : Int) - at_ < size
      · exact stop hbad
      · rw [e, if_neg hbad]
        obtain ⟨A, rfl⟩ : ∃ A : Nat, at_ = A := ⟨at_.toNat, by omega⟩
        obtain ⟨S, rfl⟩ : ∃ S : Nat, size = S := ⟨size.toNat, by omega⟩
        obtain ⟨B, hB⟩ : ∃ B, A + S = B := ⟨_, rfl⟩
        obtain ⟨q, q1, q2⟩ := own_text ho hpp A B (by omega) (by omega) hcap
        have t1 : decide ((A : Int) < 0) = false := decide_eq_false (by omega)
        have t2 : decide ((S : Int) < 0) = false := decide_eq_false (by omega)
        have t3 : decide ((N : Int) - (A : Int) < (S : Int)) = false := decide_eq_false (by omega)
        have hAB : (A : Int) + (S : Int) = (B : Int) := by omega
        have hBN : B ≤ N := by omega
        have hSB : B - A = S := by omega
        rw [hSB] at q2
        simp only [Int.toNat_natCast]
        obtain ⟨T, hT⟩ : ∃ T, (l.drop A).take S = T := ⟨_, rfl⟩
        rw [hT] at q2 ⊢
        clear stop hbad e ho hpp hB hSB hT hN
        unfold ptrV at *
        go_enter Try.func62, Try.ntmps62
        go_wp2_with (go_at_call 51; refine c.mono ?_; rintro e w' ⟨rfl, rfl⟩)
        go_ret2
        exact ⟨rfl, rfl⟩

/-! ### Start, Crash -/
theorem start_any (d : Nat) (D : DiskM) (G : List Nat) (w : World) (h : IsDisk w d D G) (hs : I64 D.starts) : Calls Try.prog 18 #[ptrV d] w fun e w' => e = .returned (.int .i64 (startD D).1) ∧ Goes w w' G d (startD D).2 := by
  obtain ⟨m, L, k, h, rfl⟩ := h
  have c := none_no d m L k D w h
  obtain ⟨c0, c1, c2, c3, c4, fz⟩ := h.cells
  have f2 := fz 2
  have f3 := fz 3
  have H := Lib.hid h
  cases hu : D.up with
  | true =>
    have e : startD D = (2, D) := by unfold startD; rw [if_pos hu]
    rw [e]
    rw [hu] at c2
    clear h hu e c0 c1 c3 c4 fz f2 f3
    unfold ptrV at *
    go_enter Try.func18, Try.ntmps18
    go_wp2_with (go_at_call 39; refine c.mono ?_; rintro e w' ⟨rfl, rfl⟩)
    go_ret
    exact ⟨rfl, Goes.same ⟨m, L, k, H.out, rfl⟩ (Keeps.refl _)⟩
  | false =>
    have e : startD D = (0, ⟨D.cap, D.files, true, wrap64 (D.starts + 1), D.fail⟩) := by unfold startD; rw [if_neg (by rw [hu]; decide)]
    rw [e]
    rw [hu] at c2
    have key : ∀ v, v = wrap64 (D.starts + 1) → Goes w ((w.setCell ⟨d, 2, none⟩ (.bool true)).setCell ⟨d, 3, none⟩ (.int .i64 v)) (foot d m L k) d ⟨D.cap, D.files, true, wrap64 (D.starts + 1), D.fail⟩ := by
      rintro v rfl
      have b1 := Joins.block_setCell (i := 2) h.disk (.bool true)
      have b2 := Joins.block_setCell (i := 3) b1 (.int .i64 (wrap64 (D.starts + 1)))
      have ho := h.okay
      have o : ∀ b, b ≠ d → ((w.setCell ⟨d, 2, none⟩ (.bool true)).setCell ⟨d, 3, none⟩ (.int .i64 (wrap64 (D.starts + 1)))).heap[b]? = w.heap[b]? := fun b hb => by
        rw [Below.heap_setCell _ _ _ _ hb, Below.heap_setCell _ _ _ _ hb]
      refine goes_mk (h.turn (fun b _ hb => o b hb) (k' := k) (by rw [b2]; rfl) rfl (h.fail.local fun b hb => o b (h.d_ne.2.2 b hb)) ⟨ho.cap, ho.many, ho.rising, ho.nums, ho.sure, ho.room, ho.fail⟩) ?_ (fun b hb => Or.inl (mem_foot.2 (Or.inr (Or.inr (Or.inl hb))))) (fun b hb => Or.inl (mem_foot.2 (Or.inr (Or.inr (Or.inr hb)))))
      exact ((Frame.refl _ _).frame_grown (grown_setCell _ _ _ _) (by simp [foot])).frame_grown (grown_setCell _ _ _ _) (by simp [foot])
    have KEY := Lib.hid key
    have hs' := hs.nat
    obtain ⟨S, hS⟩ : ∃ S, D.starts = S := ⟨_, rfl⟩
    rw [hS] at c3 hs'
    have HS := Lib.hid hS
    clear h hu e c0 c1 c4 fz key hS hs
    unfold ptrV at *
    by_cases hlt : S < 9223372036854775807
    · go_enter Try.func18, Try.ntmps18
      go_wp2_with (go_at_call 39; refine c.mono ?_; rintro e w' ⟨rfl, rfl⟩)
      go_ret
      exact ⟨rfl, KEY.out _ (by rw [HS.out]; exact (IntWalk.wrap64_in _ (by omega)).symm)⟩
    · obtain rfl : S = 9223372036854775807 := by omega
      clear hs' hlt
      go_enter Try.func18, Try.ntmps18
      go_wp2_with (go_at_call 39; refine c.mono ?_; rintro e w' ⟨rfl, rfl⟩)
      go_ret
      exact ⟨rfl, KEY.out _ (by rw [HS.out]; rfl)⟩
theorem crash_any (d : Nat) (D : DiskM) (G : List Nat) (vK : Value) (ks : List Int) (w : World) (h : IsDisk w d D G) (hK : Stable G w vK ks) : Calls Try.prog 13 #[ptrV d, vK] w fun e w' => e = .returned (.int .i64 (crashD D ks).1) ∧ Goes w w' G d (crashD D ks).2 := by
  obtain ⟨m, L, k, h, rfl⟩ := h
  have H := Lib.hid h
  obtain ⟨pk, ck, hv, _⟩ := hK w (Frame.refl _ _)
  cases hu : D.up with
  | false =>
    have e : crashD D ks = (61, D) := by unfold crashD; rw [if_pos hu]
    rw [e]
    have c := ready_down h hu
    clear h hu e hK
    subst hv
    unfold ptrV at *
    go_enter Try.func13, Try.ntmps13
    go_wp2_with (go_at_call 36; refine c.mono ?_; rintro e w' ⟨rfl, rfl⟩)
    go_ret
    exact ⟨rfl, Goes.same ⟨m, L, k, H.out, rfl⟩ (Keeps.refl _)⟩
  | true =>
    have e : crashD D ks = (0, D.down ks) := by unfold crashD; rw [if_neg (by rw [hu]; decide)]
    rw [e]
    have c := ready_up h hu
    have cg := goDown_any d m L k D ks vK w h fun w' hf => hK w' (hf.mono blks_foot)
    clear h hu e hK
    subst hv
    unfold ptrV at *
    go_enter Try.func13, Try.ntmps13
    go_wp2_with (first
      | (go_at_call 36; refine c.mono ?_; rintro e w' ⟨rfl, rfl⟩)
      | (go_at_call 37; refine cg.mono ?_; rintro e w' ⟨rfl, L', g1, g2, g3⟩))
    go_ret
    exact ⟨rfl, goes_mk g1 (g3.mono blks_foot) (fun b hb => Or.inl (by rw [footF_of g2] at hb; exact mem_foot.2 (Or.inr (Or.inr (Or.inl hb))))) (fun b hb => by cases hb)⟩
end Go.Proofs.Ytlaepdpgegoopaa
