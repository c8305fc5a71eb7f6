
/- The document's waits: near, Gap, Stop, Has. -/
import Derived.Test.YtbemkcnikoiecaaWtMem
set_option linter.unusedVariables false
set_option linter.unusedSimpArgs false
namespace Go.Proofs.Ytbemkcnikoiecaa
open Go.ChangeShapes Go.WideShapes Go.ChangeAt Go.RowKit Csv Ky
namespace Wt
theorem wr_near (n : Int) (W : World) : Calls Try.prog 30 #[.int .i64 n] W fun e w' => e = .returned (.int .i64 (near n)) ∧ w' = W := by
  obtain ⟨m, hm⟩ : ∃ m, near n = m := ⟨_, rfl⟩
  have hc : (n < 0 ∧ m = 0) ∨ (0 ≤ n ∧ n < 1099511627776 ∧ m = n) ∨ (0 ≤ n ∧ 1099511627776 ≤ n ∧ m = 1099511627776) := by
    rw [← hm]
    unfold near far
    split
    · omega
    · split <;> omega
  rw [hm]
  clear hm
  rcases hc with ⟨h0, rfl⟩ | ⟨h0, h1, rfl⟩ | ⟨h0, h1, rfl⟩
  all_goals
    go_enter Try.func30, Try.ntmps30
    go_wp2
    all_goals
      go_ret
      first | exact ⟨rfl, rfl⟩ | (exfalso; omega) | (have e : n = 1099511627776 := (by omega); subst e; exact ⟨rfl, rfl⟩)
set_option maxRecDepth 100000 in
theorem wr_gap (t : Int) (W : World) : Calls Try.prog 24 #[.int .i64 t] W fun e w' => e = .returned (.int .i64 (gapN t)) ∧ Keeps W w' := by
  obtain ⟨m, hm⟩ : ∃ m, gapN t = m := ⟨_, rfl⟩
  have hc : (t < 0 ∧ m = 0) ∨ (t = 0 ∧ m = 0) ∨ (t = 1 ∧ m = 1) ∨ (t = 2 ∧ m = 2) ∨ (t = 3 ∧ m = 4) ∨ (t = 4 ∧ m = 8) ∨ (t = 5 ∧ m = 16) ∨ (5 < t ∧ m = 16) := by
    rw [← hm]
    unfold gapN
    split
    · omega
    · split
      · omega
      · split
        · omega
        · split
          · omega
          · split <;> omega
  rw [hm]
  clear hm
  rcases hc with ⟨h0, rfl⟩ | ⟨rfl, rfl⟩ | ⟨rfl, rfl⟩ | ⟨rfl, rfl⟩ | ⟨rfl, rfl⟩ | ⟨rfl, rfl⟩ | ⟨rfl, rfl⟩ | ⟨h0, rfl⟩
  all_goals
    go_enter Try.func24, Try.ntmps24
    go_wp2
    all_goals
      go_ret
      exact ⟨rfl, wbox _ _⟩
/-- A wait, appended to a row of one's own. -/
theorem wt_app {B n c : Nat} {p : Option Addr} {W : World} {L : List W5} (x : W5) (ho : rwK.Own B W (.slice p n c) L) (hn : L.length = n) (hl : n ≤ 1000) (hB : B ≤ W.heap.size) :
    ∃ p' c' W', (Builtin.append_ #[tRws, tRws] tRws #[.slice p n c, .slice (some ⟨W.heap.size, 0, none⟩) 1 1]).run Try.prog (W.alloc (.cells #[.int .i64 x.o, .int .i64 x.d, .int .i64 x.t, .int .i64 x.n, .bool x.p] tRw)) = .ok (.slice p' (n + 1) c') W' ∧ rwK.Own B W' (.slice p' (n + 1) c') (L ++ [x]) ∧ (L ++ [x]).length = n + 1 ∧ Below B W W' := by
  obtain ⟨p', c', W', r1, r2, r3⟩ := rwK.app_row (W.alloc (.cells #[.int .i64 x.o, .int .i64 x.d, .int .i64 x.t, .int .i64 x.n, .bool x.p] tRw)) B (.slice p n c) L (.slice (some ⟨W.heap.size, 0, none⟩) 1 1) [x] (rwK.own_keeps ho (wbox _ _)) (wt_src1 W x) (by rw [hn]; simp; omega) (Nat.le_trans hB (wbox _ _).size)
  rw [List.length_singleton, hn] at r1 r2
  refine ⟨p', c', W', r1, r2, by rw [List.length_append, hn]; rfl, ?_⟩
  have k := wbox W (.cells #[.int .i64 x.o, .int .i64 x.d, .int .i64 x.t, .int .i64 x.n, .bool x.p] tRw)
  exact ⟨r3.os.trans k.os, r3.tape.trans k.tape, r3.output.trans k.output, Nat.le_trans k.size r3.size, fun j hj => (r3.block j (Nat.lt_of_lt_of_le hj (Nat.le_trans hB k.size)) (fun e => by have := (rwK.own_lt ho j e.symm).1; omega)).trans (k.block j (Nat.lt_of_lt_of_le hj hB))⟩
theorem below_keeps {w W W' : World} (k : Keeps w W) (b : Below w.heap.size W W') : Keeps w W' :=
  ⟨b.os.trans k.os, b.tape.trans k.tape, b.output.trans k.output, Nat.le_trans k.size b.size, fun i hi => (b.block i hi).trans (k.block i hi)⟩
set_option maxHeartbeats 8000000 in
set_option maxRecDepth 100000 in
theorem wr_stop (v : Value) (l : List W5) (o d : Int) (w : World) (h : rwK.Src w v l) (hl : l.length ≤ 1000) :
    Calls Try.prog 13 #[v, kyV o d] w fun e w' => ∃ p c, e = .returned (.slice p (stopL l o d).length c) ∧ rwK.Own w.heap.size w' (.slice p (stopL l o d).length c) (stopL l o d) ∧ Keeps w w' := by
  obtain ⟨w1, hw1⟩ : ∃ w1, w.alloc (keBox o d) = w1 := ⟨_, rfl⟩
  have K1 : Hid (Keeps w w1) := Lib.hid (hw1 ▸ wbox _ _)
  have B1 : Hid (w1.heap[w.heap.size]? = some (keBox o d)) := Lib.hid (hw1 ▸ heap_alloc_new _ _)
  have HS : Hid (∀ X, Keeps w1 X → rwK.Src X v l) := Lib.hid fun X k => RowK.Src.keeps rwK h (K1.out.trans k)
  obtain ⟨p0, c0, rfl⟩ := src_slice rwK h
  obtain ⟨n, hn⟩ : ∃ n, l.length = n := ⟨_, rfl⟩
  rw [hn] at HS ⊢
  have HN := Lib.hid hn
  have n1000 : n ≤ 1000 := by omega
  have HKB : Hid (∀ X, Keeps w1 X → X.cell? ⟨w.heap.size, 0, none⟩ = some (.int .i64 o) ∧ X.cell? ⟨w.heap.size, 1, none⟩ = some (.int .i64 d)) := Lib.hid fun X k => ke_box_cells (wbox_keep B1.out k)
  have EW1 := Lib.hid hw1
  clear h hn hw1 hl
  unfold keBox at EW1
  unfold kyV
  go_enter Try.func13, Try.ntmps13
  go_upto_region 1 with (fail)
  rw [EW1.out]
  clear EW1
  go_wp2_with fail
  go_loopg [5, 6] n (fun g v5 v6 X => ∃ (k : Nat) (p5 : Option Addr) (n5 c5 : Nat), k + g = n ∧ v5 = .slice p5 n5 c5 ∧ v6 = .int .i64 (k : Int) ∧ (stopL (l.take k) o d).length = n5 ∧ rwK.Own w1.heap.size X (.slice p5 n5 c5) (stopL (l.take k) o d) ∧ Keeps w1 X)
  case atStart => exact ⟨0, none, 0, 0, by omega, rfl, rfl, by simp [stopL], rwK.own_nil _ _, Keeps.refl _⟩
  case round =>
    obtain ⟨k, p5, n5, c5, hk, rfl, rfl, hn5, ho, hw⟩ := hrel
    have HI := Lib.hid hk
    have HV := Lib.hid hw
    have HO := Lib.hid ho
    have H5 := Lib.hid hn5
    clear hk hw ho hn5
    cases gk with
    | zero =>
      obtain rfl : k = n := by have := HI.out; omega
      have hz : ¬ ((k : Int) < (k : Int)) := by omega
      have e : l.take k = l := List.take_of_length_le (by rw [HN.out]; exact Nat.le_refl _)
      rw [e] at HO H5
      clear e
      go_wp2
      go_ret
      have := H5.out
      subst this
      exact ⟨p5, c5, rfl, rwK.own_base HO.out fun g hg => Nat.le_trans K1.out.size (rwK.own_lt HO.out g hg).1, K1.out.trans HV.out⟩
    | succ g =>
      have hlt : k < n := by have := HI.out; omega
      obtain ⟨x, hx⟩ : ∃ x, l[k]? = some x := ⟨_, List.getElem?_eq_getElem (by rw [HN.out]; exact hlt)⟩
      have ET : Hid (stopL (l.take (k + 1)) o d = stopL (l.take k) o d ++ stopL [x] o d) := Lib.hid (by
        rw [List.take_add_one, hx]
        unfold stopL
        rw [List.filter_append]
        rfl)
      obtain ⟨a, rfl⟩ := src_some rwK (HS.out _ (Keeps.refl _)) hx
      have MX : Hid (∀ X, Keeps w1 X → WtAt X (a.add (k * 5)) x) := Lib.hid fun X kX => src_rw (HS.out X kX) hx
      obtain ⟨q0, q1, q2, q3, q4⟩ := MX.out _ HV.out
      obtain ⟨z0, z1⟩ := HKB.out _ HV.out
      have hi1 : (k : Int) < (n : Int) := by omega
      have hi0 : (0 : Int) ≤ (k : Int) := by omega
      have wi : Hid (wrap64 ((k : Int) + 1) = (k : Int) + 1) := Lib.hid (i64w (by unfold top; omega) (by unfold top; omega))
      have N5 : Hid (n5 ≤ 1000) := Lib.hid (by
        rw [← H5.out]
        have h1 := stop_len (l.take k) o d
        rw [List.length_take] at h1
        omega)
      clear hx hlt
      by_cases hkey : x.o = o ∧ x.d = d
      · have NX : Hid (stopL (l.take (k + 1)) o d = stopL (l.take k) o d) := Lib.hid (by
          rw [ET.out]
          have : stopL [x] o d = [] := by unfold stopL; simp [same_iff.2 hkey]
          rw [this, List.append_nil])
        obtain ⟨rfl, rfl⟩ := hkey
        go_upto_region 5 with (fail)
        go_quiet (fail)
        have KQ : Hid (Keeps w1 (wr.drewN nq)) := Lib.hid (wdrewN HV.out nq)
        have OQ := Lib.hid (rwK.own_keeps HO.out (wdrewN (Keeps.refl wr) nq))
        go_wp2_with fail
        go_roundg g
        case measure => omega
        case rel => exact ⟨k + 1, p5, n5, c5, by have := HI.out; omega, rfl, by first | (rw [wi.out]; rfl) | rfl | go_num, by rw [NX.out]; exact H5.out, by rw [NX.out]; exact OQ.out, KQ.out⟩
      · have NX : Hid (stopL (l.take (k + 1)) o d = stopL (l.take k) o d ++ [x]) := Lib.hid (by
          rw [ET.out]
          have : stopL [x] o d = [x] := by
            unfold stopL
            have : sameK x o d = false := by
              cases hs : sameK x o d with
              | false => rfl
              | true => exact absurd (same_iff.1 hs) hkey
            simp [this]
          rw [this])
        rcases (show x.o ≠ o ∨ (x.o = o ∧ x.d ≠ d) from by omega) with h1 | ⟨h1, h2⟩
        · have t1 : (x.o == o) = false := by rw [beq_eq_false_iff_ne]; exact h1
          have t2 : (x.o != o) = true := by rw [bne, t1]; rfl
          clear hkey h1
          go_upto_region 5 with (fail)
          go_quiet (fail)
          clear q0 q1 q2 q3 q4 z0 z1
          obtain ⟨w7, hw7⟩ : ∃ w7, wr.drewN nq = w7 := ⟨_, rfl⟩
          have K7 : Hid (Keeps w1 w7) := Lib.hid (hw7 ▸ wdrewN HV.out nq)
          have O7 : Hid (rwK.Own w1.heap.size w7 (.slice p5 n5 c5) (stopL (l.take k) o d)) := Lib.hid (hw7 ▸ rwK.own_keeps HO.out (wdrewN (Keeps.refl wr) nq))
          rw [hw7]
          clear hw7
          obtain ⟨q0, q1, q2, q3, q4⟩ := MX.out _ K7.out
          obtain ⟨p', c', W', r1, r2, r3, r4⟩ := wt_app x O7.out H5.out N5.out K7.out.size
          have R1 := Lib.hid r1
          have R2 := Lib.hid r2
          have R3 := Lib.hid r3
          have KW := Lib.hid (below_keeps K7.out r4)
          clear r1 r2 r3 r4
          go_wp2_with (at_builtin; refine wpAppKnown rfl _ _ _ _ rfl _ _ _ _ rfl rfl R1.out ?_)
          go_roundg g
          case measure => omega
          case rel => exact ⟨k + 1, p', n5 + 1, c', by have := HI.out; omega, rfl, by first | (rw [wi.out]; rfl) | rfl | go_num, by rw [NX.out]; exact R3.out, by rw [NX.out]; exact R2.out, KW.out⟩
        · have t1 : (x.d == d) = false := by rw [beq_eq_false_iff_ne]; exact h2
          have t2 : (x.d != d) = true := by rw [bne, t1]; rfl
          subst h1
          clear hkey h2
          go_upto_region 5 with (fail)
          go_quiet (fail)
          clear q0 q1 q2 q3 q4 z0 z1
          obtain ⟨w7, hw7⟩ : ∃ w7, wr.drewN nq = w7 := ⟨_, rfl⟩
          have K7 : Hid (Keeps w1 w7) := Lib.hid (hw7 ▸ wdrewN HV.out nq)
          have O7 : Hid (rwK.Own w1.heap.size w7 (.slice p5 n5 c5) (stopL (l.take k) x.o d)) := Lib.hid (hw7 ▸ rwK.own_keeps HO.out (wdrewN (Keeps.refl wr) nq))
          rw [hw7]
          clear hw7
          obtain ⟨q0, q1, q2, q3, q4⟩ := MX.out _ K7.out
          obtain ⟨p', c', W', r1, r2, r3, r4⟩ := wt_app x O7.out H5.out N5.out K7.out.size
          have R1 := Lib.hid r1
          have R2 := Lib.hid r2
          have R3 := Lib.hid r3
          have KW := Lib.hid (below_keeps K7.out r4)
          clear r1 r2 r3 r4
          go_wp2_with (at_builtin; refine wpAppKnown rfl _ _ _ _ rfl _ _ _ _ rfl rfl R1.out ?_)
          go_roundg g
          case measure => omega
          case rel => exact ⟨k + 1, p', n5 + 1, c', by have := HI.out; omega, rfl, by first | (rw [wi.out]; rfl) | rfl | go_num, by rw [NX.out]; exact R3.out, by rw [NX.out]; exact R2.out, KW.out⟩
end Wt
end Go.Proofs.Ytbemkcnikoiecaa
