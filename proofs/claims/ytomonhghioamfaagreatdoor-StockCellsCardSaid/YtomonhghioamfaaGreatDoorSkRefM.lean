
/- The document's files of the warehouse: a row. -/
import Derived.Test.YtomonhghioamfaaGreatDoorSkRefC
import Derived.Test.YtomonhghioamfaaGreatDoorRwRefC
import Derived.Test.YtomonhghioamfaaGreatDoorRowsLaid
import Derived.StillTailTactics
import Derived.Deep.DeepCutAuto
set_option linter.unusedVariables false
namespace Go.Proofs.YtomonhghioamfaaGreatDoor
open Go.ChangeShapes Go.WideShapes Go.ChangeAt Go.RowKit Ky Rw Csv Stk

/-- What 'middle' leaves. -/
def MidOut (F : List (List UInt8)) (A : List R) (w : World) (e : Ending) (w' : World) : Prop :=
  ∃ r : R, e = .returned (.tuple #[rwV r, .int .i64 ((rowC F A).1 : Int), .int .i64 (rowC F A).2]) ∧ ((rowC F A).1 = 0 → r = rowR F) ∧ Keeps w w'
theorem mid_no {F : List (List UInt8)} {A : List R} {w w' : World} {c : Nat} {d : Int} (h : rowC F A = (c, d)) (hc : c ≠ 0) (r : R) (k : Keeps w w') {e : Ending} (he : e = .returned (.tuple #[rwV r, .int .i64 (c : Int), .int .i64 d])) : MidOut F A w e w' :=
  ⟨r, by rw [he, h], fun h0 => by rw [h] at h0; exact absurd h0 hc, k⟩
abbrev skRow (a b c d e : Int) : Obj := .cells #[.int .i64 a, .int .i64 b, .int .i64 c, .int .i64 d, .int .i64 e] tRw
theorem skFive_set {W : World} {n : Nat} {t : TypeId} {x0 x1 x2 x3 x4 : Value} (h : W.heap[n]? = some (.cells #[x0, x1, x2, x3, x4] t (0, 0))) (a0 a1 a2 a3 a4 : Value) :
    (((((W.setCell ⟨n, 0, none⟩ a0).setCell ⟨n, 1, none⟩ a1).setCell ⟨n, 2, none⟩ a2).setCell ⟨n, 3, none⟩ a3).setCell ⟨n, 4, none⟩ a4).heap[n]? = some (.cells #[a0, a1, a2, a3, a4] t (0, 0)) :=
  Joins.block_setCell (i := 4) (Joins.block_setCell (i := 3) (Joins.block_setCell (i := 2) (Joins.block_setCell (i := 1) (Joins.block_setCell (i := 0) h a0) a1) a2) a3) a4
theorem skFive_keeps {w W : World} {n : Nat} (h : Keeps w W) (hn : w.heap.size ≤ n) (a0 a1 a2 a3 a4 : Value) :
    Keeps w (((((W.setCell ⟨n, 0, none⟩ a0).setCell ⟨n, 1, none⟩ a1).setCell ⟨n, 2, none⟩ a2).setCell ⟨n, 3, none⟩ a3).setCell ⟨n, 4, none⟩ a4) :=
  ((((h.setCell (p := ⟨n, 0, none⟩) hn a0).setCell (p := ⟨n, 1, none⟩) hn a1).setCell (p := ⟨n, 2, none⟩) hn a2).setCell (p := ⟨n, 3, none⟩) hn a3).setCell (p := ⟨n, 4, none⟩) hn a4
theorem skFive_at {W : World} {n : Nat} {t : TypeId} {x0 x1 x2 x3 x4 : Value} (h : W.heap[n]? = some (.cells #[x0, x1, x2, x3, x4] t (0, 0))) :
    (W.cell? ⟨n, 0, none⟩ = some x0 ∧ W.cell? ⟨n, 1, none⟩ = some x1 ∧ W.cell? ⟨n, 2, none⟩ = some x2 ∧ W.cell? ⟨n, 3, none⟩ = some x3 ∧ W.cell? ⟨n, 4, none⟩ = some x4) ∧
    (W.frozen? ⟨n, 0, none⟩ = false ∧ W.frozen? ⟨n, 1, none⟩ = false ∧ W.frozen? ⟨n, 2, none⟩ = false ∧ W.frozen? ⟨n, 3, none⟩ = false ∧ W.frozen? ⟨n, 4, none⟩ = false) :=
  ⟨⟨Joins.cell_of_block h 0, Joins.cell_of_block h 1, Joins.cell_of_block h 2, Joins.cell_of_block h 3, Joins.cell_of_block h 4⟩,
   ⟨Joins.unfrozen_of_block h 0, Joins.unfrozen_of_block h 1, Joins.unfrozen_of_block h 2, Joins.unfrozen_of_block h 3, Joins.unfrozen_of_block h 4⟩⟩
theorem skFive_far {W : World} {n m : Nat} (h : m ≠ n) (a0 a1 a2 a3 a4 : Value) : (((((W.setCell ⟨n, 0, none⟩ a0).setCell ⟨n, 1, none⟩ a1).setCell ⟨n, 2, none⟩ a2).setCell ⟨n, 3, none⟩ a3).setCell ⟨n, 4, none⟩ a4).heap[m]? = W.heap[m]? := by
  rw [Below.heap_setCell _ ⟨n, 4, none⟩ _ _ h, Below.heap_setCell _ ⟨n, 3, none⟩ _ _ h, Below.heap_setCell _ ⟨n, 2, none⟩ _ _ h, Below.heap_setCell _ ⟨n, 1, none⟩ _ _ h, Below.heap_setCell _ ⟨n, 0, none⟩ _ _ h]
abbrev mW (w : World) : World := (w.alloc (skRow 0 0 0 0 0)).alloc (skRow 0 0 0 0 0)
theorem mW_two (w : World) : ∀ W, Keeps (mW w) W → W.heap[w.heap.size]? = some (.cells #[.int .i64 0, .int .i64 0, .int .i64 0, .int .i64 0, .int .i64 0] tRw (0, 0)) ∧ W.heap[w.heap.size + 1]? = some (.cells #[.int .i64 0, .int .i64 0, .int .i64 0, .int .i64 0, .int .i64 0] tRw (0, 0)) := fun W k => by
  have s1 : (w.alloc (skRow 0 0 0 0 0)).heap.size = w.heap.size + 1 := by simp
  have n0 := heap_alloc_new w (skRow 0 0 0 0 0)
  have n1 := heap_alloc_new (w.alloc (skRow 0 0 0 0 0)) (skRow 0 0 0 0 0)
  rw [s1] at n1
  exact ⟨(k.block _ (by simp [mW]; omega)).trans (((kept_alloc (Keeps.refl _) (skRow 0 0 0 0 0)).block _ (by simp)).trans n0), (k.block _ (by simp [mW])).trans n1⟩
set_option maxHeartbeats 16000000 in
set_option maxRecDepth 100000 in
theorem sk_middle (v u : Value) (F : List (List UInt8)) (A : List R) (w : World) (hF : StrsAt w v F) (hl : F.length ≤ 1000000) (hs : SkShort F) (hA : RowsIn w u A) (hal : A.length ≤ 400) :
    Calls Tryz.prog 40 #[v, u] w (MidOut F A w) := by
  have HR := Lib.hid hA
  have KB : Hid (Keeps w (mW w)) := Lib.hid (kept_alloc (kept_alloc (Keeps.refl w) _) _)
  have CX := Lib.hid (mW_two w)
  obtain ⟨p, c, rfl, _, hp, hc⟩ := strs_at hF
  obtain ⟨M, hM⟩ : ∃ n, F.length = n := ⟨_, rfl⟩
  have HM := Lib.hid hM
  obtain ⟨S0, e0, C0⟩ := sk_num (fa F 0) 60 (hs 0) (by omega)
  obtain ⟨S3, e3, C3⟩ := sk_num (fa F 3) 999 (hs 3) (by omega)
  obtain ⟨S1, h1⟩ : ∃ S : ByteArray, ⟨(fa F 1).toArray⟩ = S := ⟨_, rfl⟩
  obtain ⟨S2, h2⟩ : ∃ S : ByteArray, ⟨(fa F 2).toArray⟩ = S := ⟨_, rfl⟩
  obtain ⟨n0, hn0⟩ : ∃ n, numN (fa F 0) 60 = n := ⟨_, rfl⟩
  obtain ⟨n3, hn3⟩ : ∃ n, numN (fa F 3) 999 = n := ⟨_, rfl⟩
  obtain ⟨d, hd⟩ : ∃ n, deedV (fa F 1) = n := ⟨_, rfl⟩
  obtain ⟨ok, hok⟩ : ∃ n, deedB (fa F 1) = n := ⟨_, rfl⟩
  have C0 := Lib.hid (hn0 ▸ C0)
  have C3 := Lib.hid (hn3 ▸ C3)
  have C1 : Hid (∀ W, Calls Tryz.prog 63 #[.string S1] W fun e w' => e = .returned (.tuple #[.int .i64 d, .bool ok]) ∧ Keeps W w') := Lib.hid fun W => by
    have := kr_deed S1 W
    rw [← h1, data_mk, hd, hok, h1] at this
    exact this
  have E0 := Lib.hid hn0
  have E3 := Lib.hid hn3
  have ED := Lib.hid hd
  have L1 : Hid (S1.data.toList = fa F 1) := Lib.hid (by rw [← h1, data_mk])
  have L2 : Hid (S2.data.toList = fa F 2) := Lib.hid (by rw [← h2, data_mk])
  have CW : Hid (∀ W, Calls Tryz.prog 74 #[.slice p M c, .int .i64 4] W fun e w' => e = .returned (.int .i64 (wide M 4 : Nat)) ∧ W = w') := Lib.hid fun W => sk_wide p M c 4 W (by omega) (by omega)
  have CQ : Hid (M = 4 → ∃ a, p = some a ∧ a.block < w.heap.size ∧ ∀ W, Keeps w W → W.cell? a = some (.string S0) ∧ W.cell? ⟨a.block, a.off + 1, none⟩ = some (.string S1) ∧ W.cell? ⟨a.block, a.off + 2, none⟩ = some (.string S2) ∧ W.cell? ⟨a.block, a.off + 3, none⟩ = some (.string S3)) := Lib.hid fun h => by
    obtain ⟨a, ha⟩ := hp (by omega)
    obtain ⟨q0, q1⟩ := hc a ha
    refine ⟨a, ha, World.block_lt_of_cell? w a (q0 (by omega)), fun W k => ⟨?_, ?_, ?_, ?_⟩⟩
    · rw [← e0]; exact cell_keeps k (q0 (by omega))
    · rw [← h1]; exact cell_keeps k (q1 1 (by omega) (by omega))
    · rw [← h2]; exact cell_keeps k (q1 2 (by omega) (by omega))
    · rw [← e3]; exact cell_keeps k (q1 3 (by omega) (by omega))
  obtain ⟨pp, cp, rfl, hmx, hcc, _⟩ := hA
  obtain ⟨N, hN⟩ : ∃ N, A.length = N := ⟨_, rfl⟩
  have HN := Lib.hid hN
  rw [hN] at hmx HR hal ⊢
  rw [hM]
  have HAL := Lib.hid hal
  have HV := Lib.hid (Keeps.refl (mW w))
  clear hF hl hs e0 e3 hn0 hn3 hd hok h1 h2 hN hcc hp hc hM
  unfold maxLen at hmx
  go_enter Tryz.func40, Tryz.ntmps40
  go_upto_region 2 with (fail)
  obtain ⟨V, hV⟩ : ∃ V, (w.alloc (skRow 0 0 0 0 0)).alloc (skRow 0 0 0 0 0) = V := ⟨_, rfl⟩
  rw [hV]
  have CV : Hid (∀ W, Keeps V W → (W.heap[w.heap.size]? = some (.cells #[.int .i64 0, .int .i64 0, .int .i64 0, .int .i64 0, .int .i64 0] tRw (0, 0)) ∧ W.heap[w.heap.size + 1]? = some (.cells #[.int .i64 0, .int .i64 0, .int .i64 0, .int .i64 0, .int .i64 0] tRw (0, 0))) ∧ Keeps w W) := Lib.hid fun W k => by
    rw [← hV] at k
    exact ⟨CX.out W k, KB.out.trans k⟩
  clear hV CX KB HV
  by_cases hw : wide M 4 = 0
  rotate_left
  · have E : Hid (rowC F A = (wide M 4, 1)) := Lib.hid (by unfold rowC; rw [HM.out, if_pos hw])
    obtain ⟨k, hk⟩ : ∃ k, wide M 4 = k := ⟨_, rfl⟩
    rw [hk] at CW E hw
    have HW := Lib.hid hw
    have hk0 : (0 : Int) < (k : Int) := by omega
    clear hw hk
    go_upto_region 3 with (go_at_call 74; refine (CW.out _).mono ?_; rintro e w1 ⟨rfl, rfl⟩)
    refine wp_region_still_tail 3 (by kernel_rfl) (by kernel_rfl) ?_
    generalize hq : ({ V with drawn := V.drawn + 1 } : World) = WQ
    have hq2 : V.drew = WQ := hq
    have HZ := Lib.hid (CV.out WQ (hq2 ▸ ky_drew _))
    clear hq hq2
    obtain ⟨⟨z0, z1, z2, z3, z4⟩, f0, f1, f2, f3, f4⟩ := skFive_at HZ.out.1.1
    obtain ⟨⟨y0, y1, y2, y3, y4⟩, g0, g1, g2, g3, g4⟩ := skFive_at HZ.out.1.2
    simp only [List.take_succ_cons, List.take_zero, List.drop_succ_cons, List.drop_zero]
    repeat (refine wpStill_step (fun K hK => ?_); go_simp; first
      | (refine hK _ ?_; clear hK K)
      | (refine ⟨_, ((CW.out _).mono fun _ _ h => ⟨h.1, h.2.symm⟩), hK _ ?_⟩; clear hK K))
    try refine wpStill_nil ?_
    go_wp2
    obtain ⟨⟨e0, e1, e2, e3, e4⟩, _⟩ := skFive_at (skFive_set HZ.out.1.1 (.int .i64 0) (.int .i64 0) (.int .i64 0) (.int .i64 0) (.int .i64 0))
    exact bodyPost_ret (v := .tuple #[.agg #[.int .i64 0, .int .i64 0, .int .i64 0, .int .i64 0, .int .i64 0], .int .i64 (k : Int), .int .i64 1]) (by simp [results, Tryz.results40, go_sem, e0, e1, e2, e3, e4]) rfl (mid_no E.out HW.out ⟨0, 0, 0, 0, 0⟩ (skFive_keeps HZ.out.2 (Nat.le_refl _) _ _ _ _ _) rfl)
  have hn4 : M = 4 := wide_zero hw
  subst hn4
  obtain ⟨a, rfl, hab, hcq⟩ := CQ.out rfl
  have CQ4 := Lib.hid hcq
  rw [hw] at CW
  have RC0 : Hid (rowC F A = if 400 ≤ N then (1, 8) else if fitC F ≠ 0 then (fitC F, 3) else if ∃ y, A.getLast? = some y ∧ less y (rowR F) = false then (1, 6) else (0, 0)) := Lib.hid (by unfold rowC; rw [HM.out, if_neg (by rw [hw]; simp), HN.out])
  clear hw hcq CQ
  go_upto_region 4 with (go_at_call 74; refine (CW.out _).mono ?_; rintro e w1 ⟨rfl, rfl⟩)
  have HZ := Lib.hid (CV.out V (Keeps.refl _))
  by_cases t1 : 400 ≤ N
  · have E : Hid (rowC F A = (1, 8)) := Lib.hid (RC0.out.trans (if_pos t1))
    have t1' : (400 : Int) ≤ (N : Int) := by omega
    obtain ⟨⟨z0, z1, z2, z3, z4⟩, f0, f1, f2, f3, f4⟩ := skFive_at HZ.out.1.1
    obtain ⟨⟨y0, y1, y2, y3, y4⟩, g0, g1, g2, g3, g4⟩ := skFive_at HZ.out.1.2
    go_wp2
    obtain ⟨⟨e0, e1, e2, e3, e4⟩, _⟩ := skFive_at (skFive_set HZ.out.1.1 (.int .i64 0) (.int .i64 0) (.int .i64 0) (.int .i64 0) (.int .i64 0))
    exact bodyPost_ret (v := .tuple #[.agg #[.int .i64 0, .int .i64 0, .int .i64 0, .int .i64 0, .int .i64 0], .int .i64 1, .int .i64 8]) (by simp [results, Tryz.results40, go_sem, e0, e1, e2, e3, e4]) rfl (mid_no E.out (by decide) ⟨0, 0, 0, 0, 0⟩ (skFive_keeps HZ.out.2 (Nat.le_refl _) _ _ _ _ _) rfl)
  have N4 : (N : Int) < 400 := by omega
  have RC1 : Hid (rowC F A = if fitC F ≠ 0 then (fitC F, 3) else if ∃ y, A.getLast? = some y ∧ less y (rowR F) = false then (1, 6) else (0, 0)) := Lib.hid (RC0.out.trans (if_neg t1))
  clear RC0 t1
  obtain ⟨q0, q1, q2, q3⟩ := CQ4.out V HZ.out.2
  go_wp2_with fail
  refine (C0.out _).mono ?_
  rintro e w1 ⟨rfl, k1⟩
  have HZ1 := Lib.hid (CV.out w1 k1)
  have K1 := Lib.hid k1
  clear k1 q0 q1 q2 q3 C0
  by_cases t2 : n0 < 1
  · have FC : Hid (fitC F = 1) := Lib.hid (by unfold fitC; rw [E0.out, if_pos t2])
    have E : Hid (rowC F A = (1, 3)) := Lib.hid (by rw [RC1.out, FC.out, if_pos (by decide)])
    obtain ⟨⟨z0, z1, z2, z3, z4⟩, f0, f1, f2, f3, f4⟩ := skFive_at HZ1.out.1.1
    obtain ⟨⟨y0, y1, y2, y3, y4⟩, g0, g1, g2, g3, g4⟩ := skFive_at HZ1.out.1.2
    go_wp2
    obtain ⟨⟨e0, e1, e2, e3, e4⟩, _⟩ := skFive_at (skFive_set HZ1.out.1.1 (.int .i64 0) (.int .i64 0) (.int .i64 0) (.int .i64 0) (.int .i64 0))
    exact bodyPost_ret (v := .tuple #[.agg #[.int .i64 0, .int .i64 0, .int .i64 0, .int .i64 0, .int .i64 0], .int .i64 1, .int .i64 3]) (by simp [results, Tryz.results40, go_sem, e0, e1, e2, e3, e4]) rfl (mid_no E.out (by decide) ⟨0, 0, 0, 0, 0⟩ (skFive_keeps HZ1.out.2 (Nat.le_refl _) _ _ _ _ _) rfl)
  have T2 := Lib.hid t2
  go_upto_region 9 with (fail)
  clear t2
  obtain ⟨b1, hb1⟩ : ∃ b : Bool, (b = true ↔ (fa F 1 ≠ wRsv ∧ fa F 1 ≠ wRls)) := ⟨decide (fa F 1 ≠ wRsv ∧ fa F 1 ≠ wRls), by simp⟩
  have B1 := Lib.hid hb1
  obtain ⟨q0, q1, q2, q3⟩ := CQ4.out w1 HZ1.out.2
  clear hb1
  go_cut [38] (fun v wc => v = .bool b1 ∧ wc = w1)
  case first =>
    by_cases h1 : S1 = ⟨#[114, 101, 115, 101, 114, 118, 101]⟩
    · have hb : b1 = false := by
        cases b1 with
        | false => rfl
        | true => exact absurd (by rw [← L1.out, h1]) (B1.out.1 rfl).1
      subst hb h1
      go_wp2
      go_meet
      case rel => exact ⟨rfl, rfl⟩
    obtain ⟨a1, a2, a3⟩ := sv_neS (S := S1) (l := [114, 101, 115, 101, 114, 118, 101]) (fun e => h1 (bytes_inj e))
    by_cases h2 : S1 = ⟨#[114, 101, 108, 101, 97, 115, 101]⟩
    · have hb : b1 = false := by
        cases b1 with
        | false => rfl
        | true => exact absurd (by rw [← L1.out, h2]) (B1.out.1 rfl).2
      subst hb h2
      clear h1
      go_wp2
      go_meet
      case rel => exact ⟨rfl, rfl⟩
    obtain ⟨c1, c2, c3⟩ := sv_neS (S := S1) (l := [114, 101, 108, 101, 97, 115, 101]) (fun e => h2 (bytes_inj e))
    have hb : b1 = true := B1.out.2 ⟨fun e => h1 (bytes_inj (by rw [L1.out, e])), fun e => h2 (bytes_inj (by rw [L1.out, e]))⟩
    subst hb
    clear h1 h2
    go_wp2
    go_meet
    case rel => exact ⟨rfl, rfl⟩
  case rest =>
  obtain ⟨rfl, rfl⟩ := hcut
  cases b1 with
  | true =>
    have FC : Hid (fitC F = 2) := Lib.hid (by unfold fitC; rw [E0.out, if_neg (by have := T2.out; omega), if_pos (B1.out.1 rfl)])
    have E : Hid (rowC F A = (2, 3)) := Lib.hid (by rw [RC1.out, FC.out, if_pos (by decide)])
    obtain ⟨⟨z0, z1, z2, z3, z4⟩, f0, f1, f2, f3, f4⟩ := skFive_at HZ1.out.1.1
    obtain ⟨⟨y0, y1, y2, y3, y4⟩, g0, g1, g2, g3, g4⟩ := skFive_at HZ1.out.1.2
    go_wp2
    obtain ⟨⟨e0, e1, e2, e3, e4⟩, _⟩ := skFive_at (skFive_set HZ1.out.1.1 (.int .i64 0) (.int .i64 0) (.int .i64 0) (.int .i64 0) (.int .i64 0))
    exact bodyPost_ret (v := .tuple #[.agg #[.int .i64 0, .int .i64 0, .int .i64 0, .int .i64 0, .int .i64 0], .int .i64 2, .int .i64 3]) (by simp [results, Tryz.results40, go_sem, e0, e1, e2, e3, e4]) rfl (mid_no E.out (by decide) ⟨0, 0, 0, 0, 0⟩ (skFive_keeps HZ1.out.2 (Nat.le_refl _) _ _ _ _ _) rfl)
  | false =>
  have W1 : Hid (¬ (fa F 1 ≠ wRsv ∧ fa F 1 ≠ wRls)) := Lib.hid fun h => by have := B1.out.2 h; cases this
  clear B1
  go_upto_region 11 with (fail)
  obtain ⟨b2, hb2⟩ : ∃ b : Bool, (b = true ↔ (fa F 2 ≠ wDone ∧ fa F 2 ≠ wRef)) := ⟨decide (fa F 2 ≠ wDone ∧ fa F 2 ≠ wRef), by simp⟩
  have B2 := Lib.hid hb2
  clear hb2
  go_cut [49] (fun v w2 => v = .bool b2 ∧ w2 = wc)
  case first =>
    by_cases h1 : S2 = ⟨#[100, 111, 110, 101]⟩
    · have hb : b2 = false := by
        cases b2 with
        | false => rfl
        | true => exact absurd (by rw [← L2.out, h1]) (B2.out.1 rfl).1
      subst hb h1
      go_wp2
      go_meet
      case rel => exact ⟨rfl, rfl⟩
    obtain ⟨a1, a2, a3⟩ := sv_neS (S := S2) (l := [100, 111, 110, 101]) (fun e => h1 (bytes_inj e))
    by_cases h2 : S2 = ⟨#[114, 101, 102, 117, 115, 101, 100]⟩
    · have hb : b2 = false := by
        cases b2 with
        | false => rfl
        | true => exact absurd (by rw [← L2.out, h2]) (B2.out.1 rfl).2
      subst hb h2
      clear h1
      go_wp2
      go_meet
      case rel => exact ⟨rfl, rfl⟩
    obtain ⟨c1, c2, c3⟩ := sv_neS (S := S2) (l := [114, 101, 102, 117, 115, 101, 100]) (fun e => h2 (bytes_inj e))
    have hb : b2 = true := B2.out.2 ⟨fun e => h1 (bytes_inj (by rw [L2.out, e])), fun e => h2 (bytes_inj (by rw [L2.out, e]))⟩
    subst hb
    clear h1 h2
    go_wp2
    go_meet
    case rel => exact ⟨rfl, rfl⟩
  case rest =>
  obtain ⟨rfl, rfl⟩ := hcut
  cases b2 with
  | true =>
    have FC : Hid (fitC F = 3) := Lib.hid (by unfold fitC; rw [E0.out, if_neg (by have := T2.out; omega), if_neg W1.out, if_pos (B2.out.1 rfl)])
    have E : Hid (rowC F A = (3, 3)) := Lib.hid (by rw [RC1.out, FC.out, if_pos (by decide)])
    obtain ⟨⟨z0, z1, z2, z3, z4⟩, f0, f1, f2, f3, f4⟩ := skFive_at HZ1.out.1.1
    obtain ⟨⟨y0, y1, y2, y3, y4⟩, g0, g1, g2, g3, g4⟩ := skFive_at HZ1.out.1.2
    go_wp2
    obtain ⟨⟨e0, e1, e2, e3, e4⟩, _⟩ := skFive_at (skFive_set HZ1.out.1.1 (.int .i64 0) (.int .i64 0) (.int .i64 0) (.int .i64 0) (.int .i64 0))
    exact bodyPost_ret (v := .tuple #[.agg #[.int .i64 0, .int .i64 0, .int .i64 0, .int .i64 0, .int .i64 0], .int .i64 3, .int .i64 3]) (by simp [results, Tryz.results40, go_sem, e0, e1, e2, e3, e4]) rfl (mid_no E.out (by decide) ⟨0, 0, 0, 0, 0⟩ (skFive_keeps HZ1.out.2 (Nat.le_refl _) _ _ _ _ _) rfl)
  | false =>
  have W2 : Hid (¬ (fa F 2 ≠ wDone ∧ fa F 2 ≠ wRef)) := Lib.hid fun h => by have := B2.out.2 h; cases this
  clear B2
  go_wp2_with fail
  refine (C3.out _).mono ?_
  rintro e w3 ⟨rfl, k3⟩
  have K3 := Lib.hid (K1.out.trans k3)
  have HZ3 := Lib.hid (CV.out w3 K3.out)
  clear k3 q0 q1 q2 q3 C3
  go_upto_region 14 with (fail)
  obtain ⟨b4, hb4⟩ : ∃ b : Bool, (b = true ↔ (n3 < 0 ∨ (0 < n3 ∧ fa F 2 = wRef))) := ⟨decide (n3 < 0 ∨ (0 < n3 ∧ fa F 2 = wRef)), by simp⟩
  have B4 := Lib.hid hb4
  have CODE : Hid ((S2 = ⟨#[100, 111, 110, 101]⟩ ∧ fa F 2 = wDone) ∨ (S2 = ⟨#[114, 101, 102, 117, 115, 101, 100]⟩ ∧ fa F 2 = wRef)) := Lib.hid (by
    by_cases h1 : fa F 2 = wDone
    · exact Or.inl ⟨bytes_inj (by rw [L2.out, h1]), h1⟩
    · by_cases h2 : fa F 2 = wRef
      · exact Or.inr ⟨bytes_inj (by rw [L2.out, h2]), h2⟩
      · exact absurd ⟨h1, h2⟩ W2.out)
  obtain ⟨q0, q1, q2, q3⟩ := CQ4.out w3 HZ3.out.2
  clear hb4
  go_cut [66] (fun v w2 => v = .bool b4 ∧ w2 = w3)
  case first =>
    rcases (show n3 < 0 ∨ (0 ≤ n3 ∧ n3 = 0) ∨ (0 ≤ n3 ∧ 0 < n3) from by omega) with h | ⟨h, h'⟩ | ⟨h, h'⟩
    · have hb : b4 = true := B4.out.2 (Or.inl h)
      subst hb
      go_wp2
      go_meet
      case rel => exact ⟨rfl, rfl⟩
    · have hb : b4 = false := by
        cases b4 with
        | false => rfl
        | true => have := B4.out.1 rfl; omega
      subst hb h'
      go_wp2
      go_meet
      case rel => exact ⟨rfl, rfl⟩
    · have hd1 : decide (n3 < 0) = false := decide_eq_false (by omega)
      have hd2 : decide (0 < n3) = true := decide_eq_true h'
      rcases CODE.out with ⟨h1, h2⟩ | ⟨h1, h2⟩
      · have hb : b4 = false := by
          cases b4 with
          | false => rfl
          | true =>
            rcases B4.out.1 rfl with e | ⟨_, e⟩
            · omega
            · rw [h2] at e; exact absurd e (by decide)
        subst hb h1
        clear h2
        go_wp2
        go_meet
        case rel => exact ⟨rfl, rfl⟩
      · have hb : b4 = true := B4.out.2 (Or.inr ⟨h', h2⟩)
        subst hb h1
        clear h2
        go_wp2
        go_meet
        case rel => exact ⟨rfl, rfl⟩
  case rest =>
  obtain ⟨rfl, rfl⟩ := hcut
  cases b4 with
  | true =>
    have FC : Hid (fitC F = 4) := Lib.hid (by unfold fitC; rw [E0.out, if_neg (by have := T2.out; omega), if_neg W1.out, if_neg W2.out, E3.out, if_pos (B4.out.1 rfl)])
    have E : Hid (rowC F A = (4, 3)) := Lib.hid (by rw [RC1.out, FC.out, if_pos (by decide)])
    obtain ⟨⟨z0, z1, z2, z3, z4⟩, f0, f1, f2, f3, f4⟩ := skFive_at HZ3.out.1.1
    obtain ⟨⟨y0, y1, y2, y3, y4⟩, g0, g1, g2, g3, g4⟩ := skFive_at HZ3.out.1.2
    go_wp2
    obtain ⟨⟨e0, e1, e2, e3, e4⟩, _⟩ := skFive_at (skFive_set HZ3.out.1.1 (.int .i64 0) (.int .i64 0) (.int .i64 0) (.int .i64 0) (.int .i64 0))
    exact bodyPost_ret (v := .tuple #[.agg #[.int .i64 0, .int .i64 0, .int .i64 0, .int .i64 0, .int .i64 0], .int .i64 4, .int .i64 3]) (by simp [results, Tryz.results40, go_sem, e0, e1, e2, e3, e4]) rfl (mid_no E.out (by decide) ⟨0, 0, 0, 0, 0⟩ (skFive_keeps HZ3.out.2 (Nat.le_refl _) _ _ _ _ _) rfl)
  | false =>
  have W4 : Hid (¬ (n3 < 0 ∨ (0 < n3 ∧ fa F 2 = wRef))) := Lib.hid fun h => by have := B4.out.2 h; cases this
  have FC : Hid (fitC F = 0) := Lib.hid (by unfold fitC; rw [E0.out, if_neg (by have := T2.out; omega), if_neg W1.out, if_neg W2.out, E3.out, if_neg W4.out])
  have RC : Hid (rowC F A = if ∃ y, A.getLast? = some y ∧ less y (rowR F) = false then (1, 6) else (0, 0)) := Lib.hid (by rw [RC1.out, FC.out, if_neg (by simp)])
  clear B4 RC1
  go_wp2_with fail
  refine (C1.out _).mono ?_
  rintro e w4 ⟨rfl, k4⟩
  have K4 := Lib.hid (K3.out.trans k4)
  have HZ4 := Lib.hid (CV.out w4 K4.out)
  clear k4 q0 q1 q2 q3 C1
  go_upto_region 17 with (fail)
  obtain ⟨cc, hcc⟩ : ∃ c : Int, (if fa F 2 = wRef then (2 : Int) else 1) = c := ⟨_, rfl⟩
  have HCC := Lib.hid hcc
  have RR : Hid (rowR F = ⟨n0, d, cc, 0, n3⟩) := Lib.hid (by unfold rowR; rw [E0.out, ED.out, hcc, E3.out])
  obtain ⟨⟨z0, z1, z2, z3, z4⟩, f0, f1, f2, f3, f4⟩ := skFive_at HZ4.out.1.1
  obtain ⟨⟨y0, y1, y2, y3, y4⟩, g0, g1, g2, g3, g4⟩ := skFive_at HZ4.out.1.2
  clear hcc
  go_upto_region 18 with (fail)
  have b1' := skFive_set HZ4.out.1.2 (.int .i64 n0) (.int .i64 d) (.int .i64 1) (.int .i64 0) (.int .i64 n3)
  have b0' := (skFive_far (W := w4) (n := w.heap.size + 1) (m := w.heap.size) (by omega) (.int .i64 n0) (.int .i64 d) (.int .i64 1) (.int .i64 0) (.int .i64 n3)).trans HZ4.out.1.1
  have k5 := skFive_keeps HZ4.out.2 (n := w.heap.size + 1) (by omega) (.int .i64 n0) (.int .i64 d) (.int .i64 1) (.int .i64 0) (.int .i64 n3)
  obtain ⟨w5, hw5⟩ : ∃ W, ((((w4.setCell ⟨w.heap.size + 1, 0, none⟩ (.int .i64 n0)).setCell ⟨w.heap.size + 1, 1, none⟩ (.int .i64 d)).setCell ⟨w.heap.size + 1, 2, none⟩ (.int .i64 1)).setCell ⟨w.heap.size + 1, 3, none⟩ (.int .i64 0)).setCell ⟨w.heap.size + 1, 4, none⟩ (.int .i64 n3) = W := ⟨_, rfl⟩
  rw [hw5] at b1' b0' k5 ⊢
  have HB1 := Lib.hid b1'
  have HB0 := Lib.hid b0'
  have K5 := Lib.hid k5
  obtain ⟨q0, q1, q2, q3⟩ := CQ4.out w5 k5
  clear hw5 b0' k5 z0 z1 z2 z3 z4 f0 f1 f2 f3 f4 y0 y1 y2 y3 y4 g0 g1 g2 g3 g4
  obtain ⟨⟨y0, y1, y2, y3, y4⟩, g0, g1, g2, g3, g4⟩ := skFive_at b1'
  clear b1'
  obtain ⟨tb, htb⟩ : ∃ b : Bool, (b = true ↔ fa F 2 = wRef) := ⟨decide (fa F 2 = wRef), by simp⟩
  have TB := Lib.hid htb
  clear htb
  go_cut [83] (fun v w2 => v = .bool tb ∧ w2 = w5)
  case first =>
    rcases CODE.out with ⟨h1, h2⟩ | ⟨h1, h2⟩
    · have hb : tb = false := by
        cases tb with
        | false => rfl
        | true => have := TB.out.1 rfl; rw [h2] at this; exact absurd this (by decide)
      subst hb h1
      clear h2
      go_wp2
      go_meet
      case rel => exact ⟨rfl, rfl⟩
    · have hb : tb = true := TB.out.2 h2
      subst hb h1
      clear h2
      go_wp2
      go_meet
      case rel => exact ⟨rfl, rfl⟩
  case rest =>
  obtain ⟨rfl, rfl⟩ := hcut
  go_upto_if 83 with (fail)
  go_cut [] (fun w2 => w2.heap[w.heap.size + 1]? = some (.cells #[.int .i64 n0, .int .i64 d, .int .i64 cc, .int .i64 0, .int .i64 n3] tRw (0, 0)) ∧ w2.heap[w.heap.size]? = some (.cells #[.int .i64 0, .int .i64 0, .int .i64 0, .int .i64 0, .int .i64 0] tRw (0, 0)) ∧ Keeps w w2)
  case first =>
    cases tb with
    | false =>
      have hc : cc = 1 := by rw [← HCC.out, if_neg (fun e => by have := TB.out.2 e; cases this)]
      subst hc
      go_wp2
      go_meet
      case rel => exact ⟨HB1.out, HB0.out, K5.out⟩
    | true =>
      have hc : cc = 2 := by rw [← HCC.out, if_pos (TB.out.1 rfl)]
      subst hc
      go_wp2
      go_meet
      case rel => exact ⟨Joins.block_setCell (i := 2) HB1.out (.int .i64 2), (Below.heap_setCell wc ⟨w.heap.size + 1, 2, none⟩ (.int .i64 2) w.heap.size (by show w.heap.size ≠ w.heap.size + 1; omega)).trans HB0.out, K5.out.setCell (p := ⟨w.heap.size + 1, 2, none⟩) (by show w.heap.size ≤ w.heap.size + 1; omega) _⟩
  case rest =>
  obtain ⟨hb1, hb0, hk6⟩ := hcut
  have VB1 := Lib.hid hb1
  have VB0 := Lib.hid hb0
  have KV := Lib.hid hk6
  clear y0 y1 y2 y3 y4 g0 g1 g2 g3 g4 q0 q1 q2 q3 HB0 HB1 K5 hb1 hb0 hk6
  obtain ⟨⟨z0, z1, z2, z3, z4⟩, f0, f1, f2, f3, f4⟩ := skFive_at VB0.out
  obtain ⟨⟨y0, y1, y2, y3, y4⟩, _⟩ := skFive_at VB1.out
  go_upto_region 20 with (fail)
  rcases Nat.eq_zero_or_pos N with h0 | h0
  · have E : Hid (rowC F A = (0, 0)) := Lib.hid (by rw [RC.out, if_neg]; rintro ⟨y, hy, _⟩; have := List.length_eq_zero_iff.1 (HN.out.trans h0); rw [this] at hy; cases hy)
    have hd0 : decide (0 < (N : Int)) = false := decide_eq_false (by omega)
    have hd1 : decide (0 < N) = false := decide_eq_false (by omega)
    have hd2 : ¬ 0 < N := by omega
    clear h0
    go_quiet (fail)
    have KQ := Lib.hid (keeps_drewN KV.out nq)
    go_wp2
    obtain ⟨⟨e0, e1, e2, e3, e4⟩, _⟩ := skFive_at (skFive_set (W := wc.drewN nq) (show (wc.drewN nq).heap[w.heap.size]? = _ from VB0.out) (.int .i64 n0) (.int .i64 d) (.int .i64 cc) (.int .i64 0) (.int .i64 n3))
    exact bodyPost_ret (v := .tuple #[.agg #[.int .i64 n0, .int .i64 d, .int .i64 cc, .int .i64 0, .int .i64 n3], .int .i64 0, .int .i64 0]) (by simp [results, Tryz.results40, go_sem, e0, e1, e2, e3, e4]) rfl ⟨⟨n0, d, cc, 0, n3⟩, by rw [E.out]; rfl, fun _ => RR.out.symm, skFive_keeps KQ.out (Nat.le_refl _) (.int .i64 n0) (.int .i64 d) (.int .i64 cc) (.int .i64 0) (.int .i64 n3)⟩
  · obtain ⟨j, hj⟩ : ∃ j, N - 1 = j := ⟨_, rfl⟩
    obtain ⟨y, hy⟩ : ∃ y, A[N - 1]? = some y := ⟨_, List.getElem?_eq_getElem (by have := HN.out; omega)⟩
    have LA : Hid (A.getLast? = some y) := Lib.hid (by rw [List.getLast?_eq_getElem?, HN.out]; exact hy)
    obtain ⟨p9, c9, e9, _, _, hc9⟩ := HR.out.keeps KV.out
    rw [HN.out] at e9
    simp only [Value.slice.injEq] at e9
    obtain ⟨rfl, _, rfl⟩ := e9
    obtain ⟨ad, rfl, QQ⟩ := hc9 (N - 1) y hy
    rw [hj] at QQ
    obtain ⟨u1, u2⟩ := pred_wrap (k := N) (j := j) h0 hj (by have := HAL.out; omega)
    have QY := Lib.hid QQ
    have hd0 : decide (0 < (N : Int)) = true := decide_eq_true (by omega)
    have hd1 : decide (0 < N) = true := decide_eq_true h0
    have hj1 : (j : Int) < (N : Int) := by omega
    have hj0 : (0 : Int) ≤ (j : Int) := by omega
    obtain ⟨l, hl⟩ : ∃ b, lessK y.o y.d n0 d = b := ⟨_, rfl⟩
    have CL : Hid (∀ W, Keeps wc W → Calls Tryz.prog 64 #[.agg #[.int .i64 y.o, .int .i64 y.d], .agg #[.int .i64 n0, .int .i64 d]] W fun e w' => e = .returned (.bool l) ∧ Keeps wc w') := Lib.hid fun W kk => Calls.mono (hl ▸ kr_less y.o y.d n0 d W) fun e w' h => ⟨h.1, kk.trans h.2⟩
    have CS : Hid (∀ W, Keeps wc W → (W.cell? ⟨w.heap.size + 1, 0, none⟩ = some (.int .i64 n0) ∧ W.cell? ⟨w.heap.size + 1, 1, none⟩ = some (.int .i64 d)) ∧ W.cell? (ad.add (j * 5)) = some (.int .i64 y.o) ∧ W.cell? ⟨(ad.add (j * 5)).block, (ad.add (j * 5)).off + 1, none⟩ = some (.int .i64 y.d)) := Lib.hid fun W kk => by
      obtain ⟨d0, d1, _⟩ := QY.out.keeps kk
      have b1 := (kk.block _ (Array.getElem?_eq_some_iff.1 VB1.out).1).trans VB1.out
      exact ⟨⟨Joins.cell_of_block b1 0, Joins.cell_of_block b1 1⟩, d0, d1⟩
    have HLL := Lib.hid hl
    have HX := Lib.hid (Keeps.refl wc)
    clear hl hj hy h0 hc9 QQ z0 z1 z2 z3 z4 f0 f1 f2 f3 f4 y0 y1 y2 y3 y4
    obtain ⟨⟨y0, y1⟩, z0, z1⟩ := CS.out _ HX.out
    go_region_held3 (fun W => (W.cell? ⟨w.heap.size + 1, 0, none⟩ = some (.int .i64 n0) ∧ W.cell? ⟨w.heap.size + 1, 1, none⟩ = some (.int .i64 d)) ∧ W.cell? (ad.add (j * 5)) = some (.int .i64 y.o) ∧ W.cell? ⟨(ad.add (j * 5)).block, (ad.add (j * 5)).off + 1, none⟩ = some (.int .i64 y.d))
      (first | exact CS.out _ HX.out | exact CS.out _ (HX.out.trans (ky_drew _)) | assumption)
      ((go_at_call 64; refine (CL.out _ (HX.out.trans (ky_drew _))).mono ?_; clear HX CL; rintro e wv ⟨rfl, hv⟩; have HX := Lib.hid hv; have zv := CS.out _ hv; clear hv))
    clear u1 u2 hd0 hd1 hj1 hj0 y0 y1 z0 z1
    have VC0 := Lib.hid ((HX.out.block _ (Array.getElem?_eq_some_iff.1 VB0.out).1).trans VB0.out)
    have VC1 := Lib.hid ((HX.out.block _ (Array.getElem?_eq_some_iff.1 VB1.out).1).trans VB1.out)
    have KX := Lib.hid (Keeps.trans KV.out HX.out)
    obtain ⟨⟨z0, z1, z2, z3, z4⟩, f0, f1, f2, f3, f4⟩ := skFive_at VC0.out
    obtain ⟨⟨y0, y1, y2, y3, y4⟩, _⟩ := skFive_at VC1.out
    cases l with
    | false =>
      have E : Hid (rowC F A = (1, 6)) := Lib.hid (by rw [RC.out, if_pos ⟨y, LA.out, by rw [RR.out]; unfold less; exact HLL.out⟩])
      clear RC
      go_wp2
      obtain ⟨⟨e0, e1, e2, e3, e4⟩, _⟩ := skFive_at (skFive_set VC0.out (.int .i64 n0) (.int .i64 d) (.int .i64 cc) (.int .i64 0) (.int .i64 n3))
      exact bodyPost_ret (v := .tuple #[.agg #[.int .i64 n0, .int .i64 d, .int .i64 cc, .int .i64 0, .int .i64 n3], .int .i64 1, .int .i64 6]) (by simp [results, Tryz.results40, go_sem, e0, e1, e2, e3, e4]) rfl ⟨⟨n0, d, cc, 0, n3⟩, by rw [E.out]; rfl, fun _ => RR.out.symm, skFive_keeps KX.out (Nat.le_refl _) (.int .i64 n0) (.int .i64 d) (.int .i64 cc) (.int .i64 0) (.int .i64 n3)⟩
    | true =>
      have E : Hid (rowC F A = (0, 0)) := Lib.hid (by
        rw [RC.out, if_neg]
        rintro ⟨x, hx, hb⟩
        rw [LA.out] at hx
        cases hx
        rw [RR.out] at hb
        unfold less at hb
        rw [HLL.out] at hb
        cases hb)
      clear RC
      go_wp2
      obtain ⟨⟨e0, e1, e2, e3, e4⟩, _⟩ := skFive_at (skFive_set VC0.out (.int .i64 n0) (.int .i64 d) (.int .i64 cc) (.int .i64 0) (.int .i64 n3))
      exact bodyPost_ret (v := .tuple #[.agg #[.int .i64 n0, .int .i64 d, .int .i64 cc, .int .i64 0, .int .i64 n3], .int .i64 0, .int .i64 0]) (by simp [results, Tryz.results40, go_sem, e0, e1, e2, e3, e4]) rfl ⟨⟨n0, d, cc, 0, n3⟩, by rw [E.out]; rfl, fun _ => RR.out.symm, skFive_keeps KX.out (Nat.le_refl _) (.int .i64 n0) (.int .i64 d) (.int .i64 cc) (.int .i64 0) (.int .i64 n3)⟩
end Go.Proofs.YtomonhghioamfaaGreatDoor
