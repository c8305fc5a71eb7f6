
/- The contracts of disk's calls: Read, Start, Crash, Sync, Truncate, Append. -/
import Derived.Test.YtlaepdpgegoopaaGreatDiskOps
import Derived.Lib.AppendStr
set_option linter.unusedVariables false
namespace Go.Proofs.YtlaepdpgegoopaaGreat
open Go.ChangeShapes Go.WideShapes Go.ChangeAt Go.RowKit Go.Maps Csv Dk

theorem read_few {D : DiskM} {n at_ size : Int} {f : FileM} (hu : D.up = true) (hf : findF D.files n = some f) :
    readD D n at_ size = if at_ < 0 ∨ size < 0 ∨ (f.data.length : Int) - at_ < size then ([], 2) else ((f.data.drop at_.toNat).take size.toNat, 0) := by
  unfold readD
  rw [if_neg (by rw [hu]; decide), hf]
set_option maxHeartbeats 1000000 in
theorem dkRead_any (d : Nat) (D : DiskM) (G : List Nat) (n at_ size : Int) (w : World) (h : IsDisk w d D G) (hn : I64 n) (ha : I64 at_) (hs : I64 size) :
    Calls Tryz.prog 45 #[ptrV d, .int .i64 n, .int .i64 at_, .int .i64 size] w fun e w' => e = .returned (.tuple #[sv (readD D n at_ size).1, .int .i64 (readD D n at_ size).2]) ∧ w = w' := by
  obtain ⟨m, L, k, h, rfl⟩ := h
  have ha' := ha.nat
  have hs' := hs.nat
  clear ha hs
  cases hu : D.up with
  | false =>
    have c := find_down d m L k D n w h hu
    have e : readD D n at_ size = ([], 61) := by unfold readD; rw [if_pos hu]
    rw [e]
    clear h hu e
    unfold ptrV at *
    go_enter Tryz.func45, Tryz.ntmps45
    go_wp2_with (go_at_call 27; refine c.mono ?_; rintro e w' ⟨rfl, rfl⟩)
    go_ret2
    exact ⟨rfl, rfl⟩
  | true =>
    cases hf : findF D.files n with
    | none =>
      have c := find_nofile d m L k D n w h hn hu hf
      have e : readD D n at_ size = ([], 4) := by unfold readD; rw [if_neg (by rw [hu]; decide), hf]
      rw [e]
      clear h hu e hf hn
      unfold ptrV at *
      go_enter Tryz.func45, Tryz.ntmps45
      go_wp2_with (go_at_call 27; refine c.mono ?_; rintro e w' ⟨rfl, rfl⟩)
      go_ret2
      exact ⟨rfl, rfl⟩
    | some f =>
      obtain ⟨i, x, hi, rfl, hxn, hx⟩ := find_at h hf
      have c := find_file d m L k D n x w h hn hu hx
      have hxf : x.1 ∈ D.files := by rw [h.lst]; exact List.mem_map.2 ⟨x, List.mem_of_getElem? hi, rfl⟩
      have hlen : x.1.data.length ≤ 1048576 := by have := used_mem hxf; have := h.okay.room; have := h.okay.cap; omega
      obtain ⟨p, cap, c0, c1, fz, hcap, hc, ho, hb, hp, hmax, hpp⟩ := (h.files x (List.mem_of_getElem? hi)).cells
      have e := read_few (at_ := at_) (size := size) hu hf
      obtain ⟨l, hl⟩ : ∃ l, x.1.data = l := ⟨_, rfl⟩
      rw [hl] at c0 hcap ho hlen e
      obtain ⟨N, hN⟩ : ∃ N, l.length = N := ⟨_, rfl⟩
      rw [hN] at c0 hcap hlen ho e
      obtain ⟨b, hb'⟩ : ∃ b, x.2.blk = b := ⟨_, rfl⟩
      rw [hb'] at c c0
      have hx2 := hb
      clear h hu hf hn hi hx hxn hb' c1 fz hc hb hp hxf hx2 hl
      have stop : ∀ (hbad : at_ < 0 ∨ size < 0 ∨ (N : Int) - at_ < size), Calls Tryz.prog 45 #[ptrV d, .int .i64 n, .int .i64 at_, .int .i64 size] w fun e w' => e = .returned (.tuple #[sv (readD D n at_ size).1, .int .i64 (readD D n at_ size).2]) ∧ w = w' := by
        intro hbad
        rw [e, if_pos hbad]
        clear e ho hpp
        unfold ptrV at *
        by_cases h1 : at_ < 0
        · have t1 : decide (at_ < 0) = true := decide_eq_true h1
          go_enter Tryz.func45, Tryz.ntmps45
          go_wp2_with (go_at_call 27; refine c.mono ?_; rintro e w' ⟨rfl, rfl⟩)
          go_ret2
          exact ⟨rfl, rfl⟩
        · by_cases h2 : size < 0
          · have t1 : decide (at_ < 0) = false := decide_eq_false h1
            have t2 : decide (size < 0) = true := decide_eq_true h2
            go_enter Tryz.func45, Tryz.ntmps45
            go_wp2_with (go_at_call 27; refine c.mono ?_; rintro e w' ⟨rfl, rfl⟩)
            go_ret2
            exact ⟨rfl, rfl⟩
          · have t1 : decide (at_ < 0) = false := decide_eq_false h1
            have t2 : decide (size < 0) = false := decide_eq_false h2
            have h3 : (N : Int) - at_ < size := by omega
            have t3 : decide ((N : Int) - at_ < size) = true := decide_eq_true h3
            clear hbad
            go_enter Tryz.func45, Tryz.ntmps45
            go_wp2_with (go_at_call 27; refine c.mono ?_; rintro e w' ⟨rfl, rfl⟩)
            go_ret2
            exact ⟨rfl, rfl⟩
      by_cases hbad : at_ < 0 ∨ size < 0 ∨ (N : Int) - at_ < size
      · exact stop hbad
      · rw [e, if_neg hbad]
        obtain ⟨A, rfl⟩ : ∃ A : Nat, at_ = A := ⟨at_.toNat, by omega⟩
        obtain ⟨S, rfl⟩ : ∃ S : Nat, size = S := ⟨size.toNat, by omega⟩
        obtain ⟨B, hB⟩ : ∃ B, A + S = B := ⟨_, rfl⟩
        obtain ⟨q, q1, q2⟩ := own_text ho hpp A B (by omega) (by omega) hcap
        have t1 : decide ((A : Int) < 0) = false := decide_eq_false (by omega)
        have t2 : decide ((S : Int) < 0) = false := decide_eq_false (by omega)
        have t3 : decide ((N : Int) - (A : Int) < (S : Int)) = false := decide_eq_false (by omega)
        have hAB : (A : Int) + (S : Int) = (B : Int) := by omega
        have hBN : B ≤ N := by omega
        have hSB : B - A = S := by omega
        rw [hSB] at q2
        simp only [Int.toNat_natCast]
        obtain ⟨T, hT⟩ : ∃ T, (l.drop A).take S = T := ⟨_, rfl⟩
        rw [hT] at q2 ⊢
        clear stop hbad e ho hpp hB hSB hT hN
        unfold ptrV at *
        go_enter Tryz.func45, Tryz.ntmps45
        go_wp2_with (go_at_call 27; refine c.mono ?_; rintro e w' ⟨rfl, rfl⟩)
        go_ret2
        exact ⟨rfl, rfl⟩

/-! ### Start, Crash -/
end Go.Proofs.YtlaepdpgegoopaaGreat
