
/- The document's files of the payment: detail. -/
import Derived.Test.YtomonhghioamfaaGreatDoorStRefT
import Derived.Test.YtomonhghioamfaaGreatDoorRwRefC
set_option linter.unusedVariables false
namespace Go.Proofs.YtomonhghioamfaaGreatDoor
open Go.ChangeShapes Go.WideShapes Go.ChangeAt Go.RowKit Ky Rw Csv Stl

/-- What 'detail' leaves. -/
def DetOut (F : List (List UInt8)) (A : List R) (w : World) (e : Ending) (w' : World) : Prop :=
  ∃ r : R, e = .returned (.tuple #[rwV r, .int .i64 ((rowC F A).1 : Int), .int .i64 (rowC F A).2]) ∧ ((rowC F A).1 = 0 → r = rowR F) ∧ Keeps w w'
theorem det_no {F : List (List UInt8)} {A : List R} {w w' : World} {c : Nat} {d : Int} (h : rowC F A = (c, d)) (hc : c ≠ 0) (r : R) (k : Keeps w w') {e : Ending} (he : e = .returned (.tuple #[rwV r, .int .i64 (c : Int), .int .i64 d])) : DetOut F A w e w' :=
  ⟨r, by rw [he, h], fun h0 => by rw [h] at h0; exact absurd h0 hc, k⟩
abbrev stRow (a b c d e : Int) : Obj := .cells #[.int .i64 a, .int .i64 b, .int .i64 c, .int .i64 d, .int .i64 e] tRw
theorem five_setS {W : World} {n : Nat} {t : TypeId} {x0 x1 x2 x3 x4 : Value} (h : W.heap[n]? = some (.cells #[x0, x1, x2, x3, x4] t (0, 0))) (a0 a1 a2 a3 a4 : Value) :
    (((((W.setCell ⟨n, 0, none⟩ a0).setCell ⟨n, 1, none⟩ a1).setCell ⟨n, 2, none⟩ a2).setCell ⟨n, 3, none⟩ a3).setCell ⟨n, 4, none⟩ a4).heap[n]? = some (.cells #[a0, a1, a2, a3, a4] t (0, 0)) :=
  Joins.block_setCell (i := 4) (Joins.block_setCell (i := 3) (Joins.block_setCell (i := 2) (Joins.block_setCell (i := 1) (Joins.block_setCell (i := 0) h a0) a1) a2) a3) a4
theorem five_keepsS {w W : World} {n : Nat} (h : Keeps w W) (hn : w.heap.size ≤ n) (a0 a1 a2 a3 a4 : Value) :
    Keeps w (((((W.setCell ⟨n, 0, none⟩ a0).setCell ⟨n, 1, none⟩ a1).setCell ⟨n, 2, none⟩ a2).setCell ⟨n, 3, none⟩ a3).setCell ⟨n, 4, none⟩ a4) :=
  ((((h.setCell (p := ⟨n, 0, none⟩) hn a0).setCell (p := ⟨n, 1, none⟩) hn a1).setCell (p := ⟨n, 2, none⟩) hn a2).setCell (p := ⟨n, 3, none⟩) hn a3).setCell (p := ⟨n, 4, none⟩) hn a4
theorem five_atS {W : World} {n : Nat} {t : TypeId} {x0 x1 x2 x3 x4 : Value} (h : W.heap[n]? = some (.cells #[x0, x1, x2, x3, x4] t (0, 0))) :
    (W.cell? ⟨n, 0, none⟩ = some x0 ∧ W.cell? ⟨n, 1, none⟩ = some x1 ∧ W.cell? ⟨n, 2, none⟩ = some x2 ∧ W.cell? ⟨n, 3, none⟩ = some x3 ∧ W.cell? ⟨n, 4, none⟩ = some x4) ∧
    (W.frozen? ⟨n, 0, none⟩ = false ∧ W.frozen? ⟨n, 1, none⟩ = false ∧ W.frozen? ⟨n, 2, none⟩ = false ∧ W.frozen? ⟨n, 3, none⟩ = false ∧ W.frozen? ⟨n, 4, none⟩ = false) :=
  ⟨⟨Joins.cell_of_block h 0, Joins.cell_of_block h 1, Joins.cell_of_block h 2, Joins.cell_of_block h 3, Joins.cell_of_block h 4⟩,
   ⟨Joins.unfrozen_of_block h 0, Joins.unfrozen_of_block h 1, Joins.unfrozen_of_block h 2, Joins.unfrozen_of_block h 3, Joins.unfrozen_of_block h 4⟩⟩
theorem five_farS {W : World} {n m : Nat} (h : m ≠ n) (a0 a1 a2 a3 a4 : Value) : (((((W.setCell ⟨n, 0, none⟩ a0).setCell ⟨n, 1, none⟩ a1).setCell ⟨n, 2, none⟩ a2).setCell ⟨n, 3, none⟩ a3).setCell ⟨n, 4, none⟩ a4).heap[m]? = W.heap[m]? := by
  rw [Below.heap_setCell _ ⟨n, 4, none⟩ _ _ h, Below.heap_setCell _ ⟨n, 3, none⟩ _ _ h, Below.heap_setCell _ ⟨n, 2, none⟩ _ _ h, Below.heap_setCell _ ⟨n, 1, none⟩ _ _ h, Below.heap_setCell _ ⟨n, 0, none⟩ _ _ h]
theorem sv_ne {S : ByteArray} {l : List UInt8} (h : S.data.toList ≠ l) : S.toList ≠ l ∧ (S.toList == l) = false ∧ (S.toList != l) = true := by
  have h1 : S.toList ≠ l := fun e => h (by rw [← ByteArray.toList_eq, e])
  have h2 : (S.toList == l) = false := beq_eq_false_iff_ne.2 h1
  exact ⟨h1, h2, by rw [bne, h2]; rfl⟩
abbrev dW (w : World) : World := (w.alloc (stRow 0 0 0 0 0)).alloc (stRow 0 0 0 0 0)
theorem dW_two (w : World) : ∀ W, Keeps (dW w) W → W.heap[w.heap.size]? = some (.cells #[.int .i64 0, .int .i64 0, .int .i64 0, .int .i64 0, .int .i64 0] tRw (0, 0)) ∧ W.heap[w.heap.size + 1]? = some (.cells #[.int .i64 0, .int .i64 0, .int .i64 0, .int .i64 0, .int .i64 0] tRw (0, 0)) := fun W k => by
  have s1 : (w.alloc (stRow 0 0 0 0 0)).heap.size = w.heap.size + 1 := by simp
  have n0 := heap_alloc_new w (stRow 0 0 0 0 0)
  have n1 := heap_alloc_new (w.alloc (stRow 0 0 0 0 0)) (stRow 0 0 0 0 0)
  rw [s1] at n1
  exact ⟨(k.block _ (by simp [dW]; omega)).trans (((kept_alloc (Keeps.refl _) (stRow 0 0 0 0 0)).block _ (by simp)).trans n0), (k.block _ (by simp [dW])).trans n1⟩
set_option maxHeartbeats 16000000 in
set_option maxRecDepth 100000 in
theorem sr_detail (v u : Value) (F : List (List UInt8)) (A : List R) (w : World) (hF : StrsAt w v F) (hl : F.length = 5) (hs : Short F) (hA : RowsIn w u A) (hal : A.length ≤ 400) :
    Calls Tryz.prog 28 #[v, u] w (DetOut F A w) := by
  have HR := Lib.hid hA
  have KB : Hid (Keeps w (dW w)) := Lib.hid (kept_alloc (kept_alloc (Keeps.refl w) _) _)
  have CX := Lib.hid (dW_two w)
  obtain ⟨a, c, rfl, q0, q1, q2, q3, q4⟩ := strs_five hF hl
  obtain ⟨S1, e1, C1⟩ := sr_num (fa F 1) 4 (hs 1)
  obtain ⟨S4, e4, C4⟩ := sr_num (fa F 4) 14 (hs 4)
  obtain ⟨S2, h2⟩ : ∃ S : ByteArray, ⟨(fa F 2).toArray⟩ = S := ⟨_, rfl⟩
  obtain ⟨S3, h3⟩ : ∃ S : ByteArray, ⟨(fa F 3).toArray⟩ = S := ⟨_, rfl⟩
  obtain ⟨n1, hn1⟩ : ∃ n, numI (fa F 1) 4 = n := ⟨_, rfl⟩
  obtain ⟨n4, hn4⟩ : ∃ n, numI (fa F 4) 14 = n := ⟨_, rfl⟩
  obtain ⟨d, hd⟩ : ∃ n, deedV (fa F 2) = n := ⟨_, rfl⟩
  obtain ⟨ok, hok⟩ : ∃ n, deedB (fa F 2) = n := ⟨_, rfl⟩
  have C1 := Lib.hid (hn1 ▸ C1)
  have C4 := Lib.hid (hn4 ▸ C4)
  have C2 : Hid (∀ W, Calls Tryz.prog 63 #[.string S2] W fun e w' => e = .returned (.tuple #[.int .i64 d, .bool ok]) ∧ Keeps W w') := Lib.hid fun W => by
    have := kr_deed S2 W
    rw [← h2, data_mk, hd, hok, h2] at this
    exact this
  have E1 := Lib.hid hn1
  have E4 := Lib.hid hn4
  have ED := Lib.hid hd
  have EO := Lib.hid hok
  have E3 : Hid (S3.data.toList = fa F 3) := Lib.hid (by rw [← h3, data_mk])
  unfold sv at q1 q2 q3 q4
  rw [e1] at q1
  rw [e4] at q4
  rw [h2] at q2
  rw [h3] at q3
  have CQ : Hid (∀ W, Keeps (dW w) W → W.cell? ⟨a.block, a.off + 1, none⟩ = some (.string S1) ∧ W.cell? ⟨a.block, a.off + 2, none⟩ = some (.string S2) ∧ W.cell? ⟨a.block, a.off + 3, none⟩ = some (.string S3) ∧ W.cell? ⟨a.block, a.off + 4, none⟩ = some (.string S4)) := Lib.hid fun W k => ⟨cell_keeps (KB.out.trans k) q1, cell_keeps (KB.out.trans k) q2, cell_keeps (KB.out.trans k) q3, cell_keeps (KB.out.trans k) q4⟩
  have CQ0 : Hid (∀ W, Keeps w W → W.cell? ⟨a.block, a.off + 3, none⟩ = some (.string S3)) := Lib.hid fun W k => cell_keeps k q3
  have AB : Hid (a.block < w.heap.size) := Lib.hid (World.block_lt_of_cell? w ⟨a.block, a.off + 1, none⟩ q1)
  obtain ⟨pp, cp, rfl, hmx, hcc, _⟩ := hA
  obtain ⟨N, hN⟩ : ∃ N, A.length = N := ⟨_, rfl⟩
  have HN := Lib.hid hN
  rw [hN] at hmx HR hal ⊢
  have HAL := Lib.hid hal
  have HV := Lib.hid (Keeps.refl (dW w))
  clear hF hl hs e1 e4 hn1 hn4 hd hok h2 h3 q0 q1 q2 q3 q4 hN hcc
  unfold maxLen at hmx
  obtain ⟨q1, q2, q3, q4⟩ := CQ.out _ HV.out
  go_enter Tryz.func28, Tryz.ntmps28
  go_wp2_with fail
  refine (C1.out _).mono ?_
  rintro e wa ⟨rfl, k⟩
  have HV := Lib.hid (HV.out.trans k)
  clear k C1 q1 q2 q3 q4
  obtain ⟨q1, q2, q3, q4⟩ := CQ.out _ HV.out
  go_wp2_with fail
  refine (C2.out _).mono ?_
  rintro e wb ⟨rfl, k⟩
  have HV := Lib.hid (HV.out.trans k)
  clear k C2 q1 q2 q3 q4
  obtain ⟨q1, q2, q3, q4⟩ := CQ.out _ HV.out
  go_wp2_with fail
  refine (C4.out _).mono ?_
  rintro e wd ⟨rfl, k⟩
  have HV := Lib.hid (HV.out.trans k)
  clear k C4 q1 q2 q3 q4
  obtain ⟨q1, q2, q3, q4⟩ := CQ.out _ HV.out
  have hbz := CX.out _ HV.out
  have BZ := Lib.hid hbz
  obtain ⟨⟨z0, z1, z2, z3, z4⟩, f0, f1, f2, f3, f4⟩ := five_atS hbz.1
  obtain ⟨⟨y0, y1, y2, y3, y4⟩, g0, g1, g2, g3, g4⟩ := five_atS hbz.2
  obtain ⟨⟨e0, e1, e2, e3, e4⟩, _⟩ := five_atS (five_setS hbz.1 (.int .i64 0) (.int .i64 0) (.int .i64 0) (.int .i64 0) (.int .i64 0))
  have EZ := Lib.hid (And.intro e0 (And.intro e1 (And.intro e2 (And.intro e3 e4))))
  clear hbz e0 e1 e2 e3 e4
  have KK := Lib.hid (KB.out.trans HV.out)
  have KF := Lib.hid (five_keepsS KK.out (Nat.le_refl _) (.int .i64 0) (.int .i64 0) (.int .i64 0) (.int .i64 0) (.int .i64 0))
  by_cases t1 : 400 ≤ N
  · have E : Hid (rowC F A = (1, 8)) := Lib.hid (by unfold rowC; rw [HN.out, if_pos t1])
    have t1' : (400 : Int) ≤ (N : Int) := by omega
    go_wp2
    obtain ⟨e0, e1, e2, e3, e4⟩ := EZ.out
    exact bodyPost_ret (v := .tuple #[.agg #[.int .i64 0, .int .i64 0, .int .i64 0, .int .i64 0, .int .i64 0], .int .i64 1, .int .i64 8]) (by simp [results, Tryz.results28, go_sem, e0, e1, e2, e3, e4]) rfl (det_no E.out (by decide) ⟨0, 0, 0, 0, 0⟩ KF.out rfl)
  have T1 := Lib.hid t1
  have N4 : (N : Int) < 400 := by omega
  by_cases t2 : 1 ≤ n1 ∧ n1 ≤ 60
  rotate_left
  · have E : Hid (rowC F A = (2, 3)) := Lib.hid (by unfold rowC; rw [HN.out, if_neg T1.out, E1.out, if_pos (by omega)])
    rcases (show n1 < 1 ∨ (1 ≤ n1 ∧ 60 < n1) from by omega) with h1 | ⟨h1, h2⟩
    all_goals
      clear t2 t1
      go_wp2
      obtain ⟨e0, e1, e2, e3, e4⟩ := EZ.out
      exact bodyPost_ret (v := .tuple #[.agg #[.int .i64 0, .int .i64 0, .int .i64 0, .int .i64 0, .int .i64 0], .int .i64 2, .int .i64 3]) (by simp [results, Tryz.results28, go_sem, e0, e1, e2, e3, e4]) rfl (det_no E.out (by decide) ⟨0, 0, 0, 0, 0⟩ KF.out rfl)
  have T2 := Lib.hid t2
  obtain ⟨t2a, t2b⟩ := t2
  by_cases t3 : ok = true ∧ (d = 1 ∨ d = 4)
  rotate_left
  · have E : Hid (rowC F A = (6, 3)) := Lib.hid (by
      unfold rowC
      rw [HN.out, if_neg T1.out, E1.out, if_neg (by have := T2.out; omega), EO.out, ED.out, if_pos]
      cases ok with
      | false => exact Or.inl rfl
      | true => exact Or.inr (by constructor <;> exact fun e => t3 ⟨rfl, by simp [e]⟩))
    cases ok with
    | false =>
      clear t3 t1
      go_wp2
      obtain ⟨e0, e1, e2, e3, e4⟩ := EZ.out
      exact bodyPost_ret (v := .tuple #[.agg #[.int .i64 0, .int .i64 0, .int .i64 0, .int .i64 0, .int .i64 0], .int .i64 6, .int .i64 3]) (by simp [results, Tryz.results28, go_sem, e0, e1, e2, e3, e4]) rfl (det_no E.out (by decide) ⟨0, 0, 0, 0, 0⟩ KF.out rfl)
    | true =>
      have u1 : (d == 1) = false := by rw [beq_eq_false_iff_ne]; exact fun e => t3 ⟨rfl, Or.inl e⟩
      have u4 : (d == 4) = false := by rw [beq_eq_false_iff_ne]; exact fun e => t3 ⟨rfl, Or.inr e⟩
      have v1 : (d != 1) = true := by rw [bne, u1]; rfl
      have v4 : (d != 4) = true := by rw [bne, u4]; rfl
      clear t3 t1
      go_wp2
      obtain ⟨e0, e1, e2, e3, e4⟩ := EZ.out
      exact bodyPost_ret (v := .tuple #[.agg #[.int .i64 0, .int .i64 0, .int .i64 0, .int .i64 0, .int .i64 0], .int .i64 6, .int .i64 3]) (by simp [results, Tryz.results28, go_sem, e0, e1, e2, e3, e4]) rfl (det_no E.out (by decide) ⟨0, 0, 0, 0, 0⟩ KF.out rfl)
  obtain ⟨rfl, hd⟩ := t3
  have HD := Lib.hid hd
  have D1 : (d == 1 || d == 4) = true := by rcases hd with rfl | rfl <;> rfl
  by_cases t4 : S3 = ⟨#[68]⟩ ∨ S3 = ⟨#[82]⟩
  rotate_left
  · have E : Hid (rowC F A = (14, 3)) := Lib.hid (by
      unfold rowC
      rw [HN.out, if_neg T1.out, E1.out, if_neg (by have := T2.out; omega), EO.out, ED.out, if_neg (by have := HD.out; simp; omega), if_pos]
      exact ⟨fun e => t4 (Or.inl (bytes_inj (by rw [E3.out, e]))), fun e => t4 (Or.inr (bytes_inj (by rw [E3.out, e])))⟩)
    obtain ⟨a1, a2, a3⟩ := sv_ne (S := S3) (l := [68]) (fun e => t4 (Or.inl (bytes_inj e)))
    obtain ⟨b1, b2, b3⟩ := sv_ne (S := S3) (l := [82]) (fun e => t4 (Or.inr (bytes_inj e)))
    clear t4 t1 D1
    rcases hd with rfl | rfl
    all_goals
      go_wp2
      obtain ⟨e0, e1, e2, e3, e4⟩ := EZ.out
      exact bodyPost_ret (v := .tuple #[.agg #[.int .i64 0, .int .i64 0, .int .i64 0, .int .i64 0, .int .i64 0], .int .i64 14, .int .i64 3]) (by simp [results, Tryz.results28, go_sem, e0, e1, e2, e3, e4]) rfl (det_no E.out (by decide) ⟨0, 0, 0, 0, 0⟩ KF.out rfl)
  have LET : Hid ((S3 = ⟨#[68]⟩ ∧ fa F 3 = [68]) ∨ (S3 = ⟨#[82]⟩ ∧ fa F 3 = [82])) := Lib.hid (by
    rcases t4 with e | e
    · exact Or.inl ⟨e, by rw [← E3.out, e]⟩
    · exact Or.inr ⟨e, by rw [← E3.out, e]⟩)
  by_cases t5 : 0 ≤ n4 ∧ n4 ≤ 1099511627776 ∧ (S3 = ⟨#[82]⟩ → n4 = 0)
  rotate_left
  · have E : Hid (rowC F A = (15, 3)) := Lib.hid (by
      unfold rowC
      rw [HN.out, if_neg T1.out, E1.out, if_neg (by have := T2.out; omega), EO.out, ED.out, if_neg (by have := HD.out; simp; omega), if_neg, E4.out, if_pos]
      · rcases LET.out with ⟨e, f⟩ | ⟨e, f⟩
        · have : ¬ (0 ≤ n4 ∧ n4 ≤ 1099511627776) := fun g => t5 ⟨g.1, g.2, fun h => by rw [e] at h; cases h⟩
          omega
        · by_cases g : 0 ≤ n4 ∧ n4 ≤ 1099511627776
          · exact Or.inr (Or.inr ⟨f, by
              have : ¬ n4 = 0 := fun z => t5 ⟨g.1, g.2, fun _ => z⟩
              omega⟩)
          · omega
      · rcases LET.out with ⟨e, f⟩ | ⟨e, f⟩ <;> rw [f] <;> simp)
    have LL := LET.out
    rcases LL with ⟨rfl, _⟩ | ⟨rfl, _⟩
    · have q : n4 < 0 ∨ (0 ≤ n4 ∧ 1099511627776 < n4) := by
        have : ¬ (0 ≤ n4 ∧ n4 ≤ 1099511627776) := fun g => t5 ⟨g.1, g.2, fun h => absurd h (by decide)⟩
        omega
      clear t5 t4 t1 D1
      rcases hd with rfl | rfl
      all_goals
        rcases q with h1 | ⟨h1, h2⟩
        all_goals
          go_wp2
          obtain ⟨e0, e1, e2, e3, e4⟩ := EZ.out
          exact bodyPost_ret (v := .tuple #[.agg #[.int .i64 0, .int .i64 0, .int .i64 0, .int .i64 0, .int .i64 0], .int .i64 15, .int .i64 3]) (by simp [results, Tryz.results28, go_sem, e0, e1, e2, e3, e4]) rfl (det_no E.out (by decide) ⟨0, 0, 0, 0, 0⟩ KF.out rfl)
    · have q : n4 < 0 ∨ (0 ≤ n4 ∧ 1099511627776 < n4) ∨ (0 < n4 ∧ n4 ≤ 1099511627776) := by
        by_cases z : n4 = 0
        · exact absurd ⟨by omega, by omega, fun _ => z⟩ t5
        · omega
      clear t5 t4 t1 D1
      rcases hd with rfl | rfl
      all_goals
        rcases q with h1 | ⟨h1, h2⟩ | ⟨h1, h2⟩
        all_goals
          go_wp2
          obtain ⟨e0, e1, e2, e3, e4⟩ := EZ.out
          exact bodyPost_ret (v := .tuple #[.agg #[.int .i64 0, .int .i64 0, .int .i64 0, .int .i64 0, .int .i64 0], .int .i64 15, .int .i64 3]) (by simp [results, Tryz.results28, go_sem, e0, e1, e2, e3, e4]) rfl (det_no E.out (by decide) ⟨0, 0, 0, 0, 0⟩ KF.out rfl)
  obtain ⟨t5a, t5b, t5c⟩ := t5
  have T5 := Lib.hid (And.intro t5a t5b)
  have RC : Hid (rowC F A = if ∃ y, A.getLast? = some y ∧ less y (rowR F) = false then (2, 6) else (0, 0)) := Lib.hid (by
    unfold rowC
    rw [HN.out, if_neg T1.out, E1.out, if_neg (by have := T2.out; omega), EO.out, ED.out, if_neg (by have := HD.out; simp; omega), if_neg, E4.out, if_neg]
    · rintro (h | h | ⟨h, g⟩)
      · omega
      · omega
      · rcases LET.out with ⟨e, f⟩ | ⟨e, f⟩
        · rw [f] at h; revert h; decide
        · have := t5c e; omega
    · rcases LET.out with ⟨e, f⟩ | ⟨e, f⟩ <;> rw [f] <;> simp)
  have LL := LET.out
  clear t4 t1 D1
  rcases LL with ⟨hS, f3⟩ | ⟨hS, f3⟩
  · have hD := HD.out
    clear t5c
    subst hS
    rcases hD with rfl | rfl
    · have RR : Hid (rowR F = ⟨n1, 1, 1, n4, 0⟩) := Lib.hid (by unfold rowR; rw [E1.out, E4.out, ED.out, f3]; rfl)
      clear f3 hd
      go_upto_region 16 with (fail)
      have VB1 := Lib.hid (five_setS BZ.out.2 (.int .i64 n1) (.int .i64 1) (.int .i64 1) (.int .i64 n4) (.int .i64 0))
      have KV := Lib.hid (five_keepsS KK.out (Nat.le_succ _) (.int .i64 n1) (.int .i64 1) (.int .i64 1) (.int .i64 n4) (.int .i64 0))
      have VB0 := Lib.hid ((five_farS (W := wd) (show w.heap.size ≠ w.heap.size + 1 by omega) (.int .i64 n1) (.int .i64 1) (.int .i64 1) (.int .i64 n4) (.int .i64 0)).trans BZ.out.1)
      obtain ⟨V, hV⟩ : ∃ V, ((((wd.setCell ⟨w.heap.size + 1, 0, none⟩ (.int .i64 n1)).setCell ⟨w.heap.size + 1, 1, none⟩ (.int .i64 1)).setCell ⟨w.heap.size + 1, 2, none⟩ (.int .i64 1)).setCell ⟨w.heap.size + 1, 3, none⟩ (.int .i64 n4)).setCell ⟨w.heap.size + 1, 4, none⟩ (.int .i64 0) = V := ⟨_, rfl⟩
      rw [hV] at VB0 VB1 KV ⊢
      clear hV z0 z1 z2 z3 z4 f0 f1 f2 f3 f4 y0 y1 y2 y3 y4 g0 g1 g2 g3 g4 q1 q2 q3 q4
      have q3 := CQ0.out V KV.out
      go_upto_region 18 with (fail)
      clear q3
      obtain ⟨⟨z0, z1, z2, z3, z4⟩, f0, f1, f2, f3, f4⟩ := five_atS VB0.out
      obtain ⟨⟨y0, y1, y2, y3, y4⟩, _⟩ := five_atS VB1.out
      rcases Nat.eq_zero_or_pos N with h0 | h0
      · have E : Hid (rowC F A = (0, 0)) := Lib.hid (by rw [RC.out, if_neg]; rintro ⟨y, hy, _⟩; have := List.length_eq_zero_iff.1 (HN.out.trans h0); rw [this] at hy; cases hy)
        have hd0 : decide (0 < (N : Int)) = false := decide_eq_false (by omega)
        have hd1 : decide (0 < N) = false := decide_eq_false (by omega)
        have hd2 : ¬ 0 < N := by omega
        clear h0
        go_quiet (fail)
        have KQ := Lib.hid (keeps_drewN KV.out nq)
        go_wp2
        obtain ⟨⟨e0, e1, e2, e3, e4⟩, _⟩ := five_atS (five_setS (W := V.drewN nq) (show (V.drewN nq).heap[w.heap.size]? = _ from VB0.out) (.int .i64 n1) (.int .i64 1) (.int .i64 1) (.int .i64 n4) (.int .i64 0))
        exact bodyPost_ret (v := .tuple #[.agg #[.int .i64 n1, .int .i64 1, .int .i64 1, .int .i64 n4, .int .i64 0], .int .i64 0, .int .i64 0]) (by simp [results, Tryz.results28, go_sem, e0, e1, e2, e3, e4]) rfl ⟨⟨n1, 1, 1, n4, 0⟩, by rw [E.out]; rfl, fun _ => RR.out.symm, five_keepsS KQ.out (Nat.le_refl _) (.int .i64 n1) (.int .i64 1) (.int .i64 1) (.int .i64 n4) (.int .i64 0)⟩
      · obtain ⟨j, hj⟩ : ∃ j, N - 1 = j := ⟨_, rfl⟩
        obtain ⟨y, hy⟩ : ∃ y, A[N - 1]? = some y := ⟨_, List.getElem?_eq_getElem (by have := HN.out; omega)⟩
        have LA : Hid (A.getLast? = some y) := Lib.hid (by rw [List.getLast?_eq_getElem?, HN.out]; exact hy)
        obtain ⟨p9, c9, e9, _, _, hc9⟩ := HR.out.keeps KV.out
        rw [HN.out] at e9
        simp only [Value.slice.injEq] at e9
        obtain ⟨rfl, _, rfl⟩ := e9
        obtain ⟨ad, rfl, QQ⟩ := hc9 (N - 1) y hy
        rw [hj] at QQ
        obtain ⟨u1, u2⟩ := pred_wrap (k := N) (j := j) h0 hj (by have := HAL.out; omega)
        have QY := Lib.hid QQ
        have hd0 : decide (0 < (N : Int)) = true := decide_eq_true (by omega)
        have hd1 : decide (0 < N) = true := decide_eq_true h0
        have hj1 : (j : Int) < (N : Int) := by omega
        have hj0 : (0 : Int) ≤ (j : Int) := by omega
        obtain ⟨l, hl⟩ : ∃ b, lessK y.o y.d n1 1 = b := ⟨_, rfl⟩
        have C3 : Hid (∀ W, Keeps V W → Calls Tryz.prog 64 #[.agg #[.int .i64 y.o, .int .i64 y.d], .agg #[.int .i64 n1, .int .i64 1]] W fun e w' => e = .returned (.bool l) ∧ Keeps V w') := Lib.hid fun W kk => Calls.mono (hl ▸ kr_less y.o y.d n1 1 W) fun e w' h => ⟨h.1, kk.trans h.2⟩
        have CS : Hid (∀ W, Keeps V W → (W.cell? ⟨w.heap.size + 1, 0, none⟩ = some (.int .i64 n1) ∧ W.cell? ⟨w.heap.size + 1, 1, none⟩ = some (.int .i64 1)) ∧ W.cell? (ad.add (j * 5)) = some (.int .i64 y.o) ∧ W.cell? ⟨(ad.add (j * 5)).block, (ad.add (j * 5)).off + 1, none⟩ = some (.int .i64 y.d)) := Lib.hid fun W kk => by
          obtain ⟨d0, d1, _⟩ := QY.out.keeps kk
          have b1 := (kk.block _ (Array.getElem?_eq_some_iff.1 VB1.out).1).trans VB1.out
          exact ⟨⟨Joins.cell_of_block b1 0, Joins.cell_of_block b1 1⟩, d0, d1⟩
        have HLL := Lib.hid hl
        have HX := Lib.hid (Keeps.refl V)
        clear hl hj hy h0 hc9 QQ z0 z1 z2 z3 z4 f0 f1 f2 f3 f4 y0 y1 y2 y3 y4
        obtain ⟨⟨y0, y1⟩, z0, z1⟩ := CS.out _ HX.out
        go_region_held3 (fun W => (W.cell? ⟨w.heap.size + 1, 0, none⟩ = some (.int .i64 n1) ∧ W.cell? ⟨w.heap.size + 1, 1, none⟩ = some (.int .i64 1)) ∧ W.cell? (ad.add (j * 5)) = some (.int .i64 y.o) ∧ W.cell? ⟨(ad.add (j * 5)).block, (ad.add (j * 5)).off + 1, none⟩ = some (.int .i64 y.d))
          (first | exact CS.out _ HX.out | exact CS.out _ (HX.out.trans (ky_drew _)) | assumption)
          ((go_at_call 64; refine (C3.out _ (HX.out.trans (ky_drew _))).mono ?_; clear HX C3; rintro e wv ⟨rfl, hv⟩; have HX := Lib.hid hv; have zv := CS.out _ hv; clear hv))
        clear u1 u2 hd0 hd1 hj1 hj0 y0 y1 z0 z1
        have VC0 := Lib.hid ((HX.out.block _ (Array.getElem?_eq_some_iff.1 VB0.out).1).trans VB0.out)
        have VC1 := Lib.hid ((HX.out.block _ (Array.getElem?_eq_some_iff.1 VB1.out).1).trans VB1.out)
        have KX := Lib.hid (Keeps.trans KV.out HX.out)
        obtain ⟨⟨z0, z1, z2, z3, z4⟩, f0, f1, f2, f3, f4⟩ := five_atS VC0.out
        obtain ⟨⟨y0, y1, y2, y3, y4⟩, _⟩ := five_atS VC1.out
        cases l with
        | false =>
          have E : Hid (rowC F A = (2, 6)) := Lib.hid (by rw [RC.out, if_pos ⟨y, LA.out, by rw [RR.out]; unfold less; exact HLL.out⟩])
          clear RC
          go_wp2
          obtain ⟨⟨e0, e1, e2, e3, e4⟩, _⟩ := five_atS (five_setS VC0.out (.int .i64 n1) (.int .i64 1) (.int .i64 1) (.int .i64 n4) (.int .i64 0))
          exact bodyPost_ret (v := .tuple #[.agg #[.int .i64 n1, .int .i64 1, .int .i64 1, .int .i64 n4, .int .i64 0], .int .i64 2, .int .i64 6]) (by simp [results, Tryz.results28, go_sem, e0, e1, e2, e3, e4]) rfl ⟨⟨n1, 1, 1, n4, 0⟩, by rw [E.out]; rfl, fun _ => RR.out.symm, five_keepsS KX.out (Nat.le_refl _) (.int .i64 n1) (.int .i64 1) (.int .i64 1) (.int .i64 n4) (.int .i64 0)⟩
        | true =>
          have E : Hid (rowC F A = (0, 0)) := Lib.hid (by
            rw [RC.out, if_neg]
            rintro ⟨x, hx, hb⟩
            rw [LA.out] at hx
            cases hx
            rw [RR.out] at hb
            unfold less at hb
            rw [HLL.out] at hb
            cases hb)
          clear RC
          go_wp2
          obtain ⟨⟨e0, e1, e2, e3, e4⟩, _⟩ := five_atS (five_setS VC0.out (.int .i64 n1) (.int .i64 1) (.int .i64 1) (.int .i64 n4) (.int .i64 0))
          exact bodyPost_ret (v := .tuple #[.agg #[.int .i64 n1, .int .i64 1, .int .i64 1, .int .i64 n4, .int .i64 0], .int .i64 0, .int .i64 0]) (by simp [results, Tryz.results28, go_sem, e0, e1, e2, e3, e4]) rfl ⟨⟨n1, 1, 1, n4, 0⟩, by rw [E.out]; rfl, fun _ => RR.out.symm, five_keepsS KX.out (Nat.le_refl _) (.int .i64 n1) (.int .i64 1) (.int .i64 1) (.int .i64 n4) (.int .i64 0)⟩
    · have RR : Hid (rowR F = ⟨n1, 4, 1, n4, 0⟩) := Lib.hid (by unfold rowR; rw [E1.out, E4.out, ED.out, f3]; rfl)
      clear f3 hd
      go_upto_region 16 with (fail)
      have VB1 := Lib.hid (five_setS BZ.out.2 (.int .i64 n1) (.int .i64 4) (.int .i64 1) (.int .i64 n4) (.int .i64 0))
      have KV := Lib.hid (five_keepsS KK.out (Nat.le_succ _) (.int .i64 n1) (.int .i64 4) (.int .i64 1) (.int .i64 n4) (.int .i64 0))
      have VB0 := Lib.hid ((five_farS (W := wd) (show w.heap.size ≠ w.heap.size + 1 by omega) (.int .i64 n1) (.int .i64 4) (.int .i64 1) (.int .i64 n4) (.int .i64 0)).trans BZ.out.1)
      obtain ⟨V, hV⟩ : ∃ V, ((((wd.setCell ⟨w.heap.size + 1, 0, none⟩ (.int .i64 n1)).setCell ⟨w.heap.size + 1, 1, none⟩ (.int .i64 4)).setCell ⟨w.heap.size + 1, 2, none⟩ (.int .i64 1)).setCell ⟨w.heap.size + 1, 3, none⟩ (.int .i64 n4)).setCell ⟨w.heap.size + 1, 4, none⟩ (.int .i64 0) = V := ⟨_, rfl⟩
      rw [hV] at VB0 VB1 KV ⊢
      clear hV z0 z1 z2 z3 z4 f0 f1 f2 f3 f4 y0 y1 y2 y3 y4 g0 g1 g2 g3 g4 q1 q2 q3 q4
      have q3 := CQ0.out V KV.out
      go_upto_region 18 with (fail)
      clear q3
      obtain ⟨⟨z0, z1, z2, z3, z4⟩, f0, f1, f2, f3, f4⟩ := five_atS VB0.out
      obtain ⟨⟨y0, y1, y2, y3, y4⟩, _⟩ := five_atS VB1.out
      rcases Nat.eq_zero_or_pos N with h0 | h0
      · have E : Hid (rowC F A = (0, 0)) := Lib.hid (by rw [RC.out, if_neg]; rintro ⟨y, hy, _⟩; have := List.length_eq_zero_iff.1 (HN.out.trans h0); rw [this] at hy; cases hy)
        have hd0 : decide (0 < (N : Int)) = false := decide_eq_false (by omega)
        have hd1 : decide (0 < N) = false := decide_eq_false (by omega)
        have hd2 : ¬ 0 < N := by omega
        clear h0
        go_quiet (fail)
        have KQ := Lib.hid (keeps_drewN KV.out nq)
        go_wp2
        obtain ⟨⟨e0, e1, e2, e3, e4⟩, _⟩ := five_atS (five_setS (W := V.drewN nq) (show (V.drewN nq).heap[w.heap.size]? = _ from VB0.out) (.int .i64 n1) (.int .i64 4) (.int .i64 1) (.int .i64 n4) (.int .i64 0))
        exact bodyPost_ret (v := .tuple #[.agg #[.int .i64 n1, .int .i64 4, .int .i64 1, .int .i64 n4, .int .i64 0], .int .i64 0, .int .i64 0]) (by simp [results, Tryz.results28, go_sem, e0, e1, e2, e3, e4]) rfl ⟨⟨n1, 4, 1, n4, 0⟩, by rw [E.out]; rfl, fun _ => RR.out.symm, five_keepsS KQ.out (Nat.le_refl _) (.int .i64 n1) (.int .i64 4) (.int .i64 1) (.int .i64 n4) (.int .i64 0)⟩
      · obtain ⟨j, hj⟩ : ∃ j, N - 1 = j := ⟨_, rfl⟩
        obtain ⟨y, hy⟩ : ∃ y, A[N - 1]? = some y := ⟨_, List.getElem?_eq_getElem (by have := HN.out; omega)⟩
        have LA : Hid (A.getLast? = some y) := Lib.hid (by rw [List.getLast?_eq_getElem?, HN.out]; exact hy)
        obtain ⟨p9, c9, e9, _, _, hc9⟩ := HR.out.keeps KV.out
        rw [HN.out] at e9
        simp only [Value.slice.injEq] at e9
        obtain ⟨rfl, _, rfl⟩ := e9
        obtain ⟨ad, rfl, QQ⟩ := hc9 (N - 1) y hy
        rw [hj] at QQ
        obtain ⟨u1, u2⟩ := pred_wrap (k := N) (j := j) h0 hj (by have := HAL.out; omega)
        have QY := Lib.hid QQ
        have hd0 : decide (0 < (N : Int)) = true := decide_eq_true (by omega)
        have hd1 : decide (0 < N) = true := decide_eq_true h0
        have hj1 : (j : Int) < (N : Int) := by omega
        have hj0 : (0 : Int) ≤ (j : Int) := by omega
        obtain ⟨l, hl⟩ : ∃ b, lessK y.o y.d n1 4 = b := ⟨_, rfl⟩
        have C3 : Hid (∀ W, Keeps V W → Calls Tryz.prog 64 #[.agg #[.int .i64 y.o, .int .i64 y.d], .agg #[.int .i64 n1, .int .i64 4]] W fun e w' => e = .returned (.bool l) ∧ Keeps V w') := Lib.hid fun W kk => Calls.mono (hl ▸ kr_less y.o y.d n1 4 W) fun e w' h => ⟨h.1, kk.trans h.2⟩
        have CS : Hid (∀ W, Keeps V W → (W.cell? ⟨w.heap.size + 1, 0, none⟩ = some (.int .i64 n1) ∧ W.cell? ⟨w.heap.size + 1, 1, none⟩ = some (.int .i64 4)) ∧ W.cell? (ad.add (j * 5)) = some (.int .i64 y.o) ∧ W.cell? ⟨(ad.add (j * 5)).block, (ad.add (j * 5)).off + 1, none⟩ = some (.int .i64 y.d)) := Lib.hid fun W kk => by
          obtain ⟨d0, d1, _⟩ := QY.out.keeps kk
          have b1 := (kk.block _ (Array.getElem?_eq_some_iff.1 VB1.out).1).trans VB1.out
          exact ⟨⟨Joins.cell_of_block b1 0, Joins.cell_of_block b1 1⟩, d0, d1⟩
        have HLL := Lib.hid hl
        have HX := Lib.hid (Keeps.refl V)
        clear hl hj hy h0 hc9 QQ z0 z1 z2 z3 z4 f0 f1 f2 f3 f4 y0 y1 y2 y3 y4
        obtain ⟨⟨y0, y1⟩, z0, z1⟩ := CS.out _ HX.out
        go_region_held3 (fun W => (W.cell? ⟨w.heap.size + 1, 0, none⟩ = some (.int .i64 n1) ∧ W.cell? ⟨w.heap.size + 1, 1, none⟩ = some (.int .i64 4)) ∧ W.cell? (ad.add (j * 5)) = some (.int .i64 y.o) ∧ W.cell? ⟨(ad.add (j * 5)).block, (ad.add (j * 5)).off + 1, none⟩ = some (.int .i64 y.d))
          (first | exact CS.out _ HX.out | exact CS.out _ (HX.out.trans (ky_drew _)) | assumption)
          ((go_at_call 64; refine (C3.out _ (HX.out.trans (ky_drew _))).mono ?_; clear HX C3; rintro e wv ⟨rfl, hv⟩; have HX := Lib.hid hv; have zv := CS.out _ hv; clear hv))
        clear u1 u2 hd0 hd1 hj1 hj0 y0 y1 z0 z1
        have VC0 := Lib.hid ((HX.out.block _ (Array.getElem?_eq_some_iff.1 VB0.out).1).trans VB0.out)
        have VC1 := Lib.hid ((HX.out.block _ (Array.getElem?_eq_some_iff.1 VB1.out).1).trans VB1.out)
        have KX := Lib.hid (Keeps.trans KV.out HX.out)
        obtain ⟨⟨z0, z1, z2, z3, z4⟩, f0, f1, f2, f3, f4⟩ := five_atS VC0.out
        obtain ⟨⟨y0, y1, y2, y3, y4⟩, _⟩ := five_atS VC1.out
        cases l with
        | false =>
          have E : Hid (rowC F A = (2, 6)) := Lib.hid (by rw [RC.out, if_pos ⟨y, LA.out, by rw [RR.out]; unfold less; exact HLL.out⟩])
          clear RC
          go_wp2
          obtain ⟨⟨e0, e1, e2, e3, e4⟩, _⟩ := five_atS (five_setS VC0.out (.int .i64 n1) (.int .i64 4) (.int .i64 1) (.int .i64 n4) (.int .i64 0))
          exact bodyPost_ret (v := .tuple #[.agg #[.int .i64 n1, .int .i64 4, .int .i64 1, .int .i64 n4, .int .i64 0], .int .i64 2, .int .i64 6]) (by simp [results, Tryz.results28, go_sem, e0, e1, e2, e3, e4]) rfl ⟨⟨n1, 4, 1, n4, 0⟩, by rw [E.out]; rfl, fun _ => RR.out.symm, five_keepsS KX.out (Nat.le_refl _) (.int .i64 n1) (.int .i64 4) (.int .i64 1) (.int .i64 n4) (.int .i64 0)⟩
        | true =>
          have E : Hid (rowC F A = (0, 0)) := Lib.hid (by
            rw [RC.out, if_neg]
            rintro ⟨x, hx, hb⟩
            rw [LA.out] at hx
            cases hx
            rw [RR.out] at hb
            unfold less at hb
            rw [HLL.out] at hb
            cases hb)
          clear RC
          go_wp2
          obtain ⟨⟨e0, e1, e2, e3, e4⟩, _⟩ := five_atS (five_setS VC0.out (.int .i64 n1) (.int .i64 4) (.int .i64 1) (.int .i64 n4) (.int .i64 0))
          exact bodyPost_ret (v := .tuple #[.agg #[.int .i64 n1, .int .i64 4, .int .i64 1, .int .i64 n4, .int .i64 0], .int .i64 0, .int .i64 0]) (by simp [results, Tryz.results28, go_sem, e0, e1, e2, e3, e4]) rfl ⟨⟨n1, 4, 1, n4, 0⟩, by rw [E.out]; rfl, fun _ => RR.out.symm, five_keepsS KX.out (Nat.le_refl _) (.int .i64 n1) (.int .i64 4) (.int .i64 1) (.int .i64 n4) (.int .i64 0)⟩
  · have hD := HD.out
    obtain rfl := t5c hS
    subst hS
    rcases hD with rfl | rfl
    · have RR : Hid (rowR F = ⟨n1, 1, 2, 0, 0⟩) := Lib.hid (by unfold rowR; rw [E1.out, E4.out, ED.out, f3]; rfl)
      clear f3 hd
      go_upto_region 16 with (fail)
      have VB1 := Lib.hid (five_setS BZ.out.2 (.int .i64 n1) (.int .i64 1) (.int .i64 1) (.int .i64 0) (.int .i64 0))
      have KV := Lib.hid (five_keepsS KK.out (Nat.le_succ _) (.int .i64 n1) (.int .i64 1) (.int .i64 1) (.int .i64 0) (.int .i64 0))
      have VB0 := Lib.hid ((five_farS (W := wd) (show w.heap.size ≠ w.heap.size + 1 by omega) (.int .i64 n1) (.int .i64 1) (.int .i64 1) (.int .i64 0) (.int .i64 0)).trans BZ.out.1)
      obtain ⟨V, hV⟩ : ∃ V, ((((wd.setCell ⟨w.heap.size + 1, 0, none⟩ (.int .i64 n1)).setCell ⟨w.heap.size + 1, 1, none⟩ (.int .i64 1)).setCell ⟨w.heap.size + 1, 2, none⟩ (.int .i64 1)).setCell ⟨w.heap.size + 1, 3, none⟩ (.int .i64 0)).setCell ⟨w.heap.size + 1, 4, none⟩ (.int .i64 0) = V := ⟨_, rfl⟩
      rw [hV] at VB0 VB1 KV ⊢
      clear hV z0 z1 z2 z3 z4 f0 f1 f2 f3 f4 y0 y1 y2 y3 y4 g0 g1 g2 g3 g4 q1 q2 q3 q4
      have q3 := CQ0.out V KV.out
      obtain ⟨⟨y0, y1, y2, y3, y4⟩, g0, g1, g2, g3, g4⟩ := five_atS VB1.out
      go_upto_region 18 with (fail)
      have VB1 := Lib.hid (Joins.block_setCell (i := 2) VB1.out (.int .i64 2))
      have KV := Lib.hid (KV.out.setCell (p := ⟨w.heap.size + 1, 2, none⟩) (Nat.le_succ _) (.int .i64 2))
      have VB0 := Lib.hid ((Below.heap_setCell V ⟨w.heap.size + 1, 2, none⟩ (.int .i64 2) w.heap.size (show w.heap.size ≠ w.heap.size + 1 by omega)).trans VB0.out)
      obtain ⟨V2, hV⟩ : ∃ V2, V.setCell ⟨w.heap.size + 1, 2, none⟩ (.int .i64 2) = V2 := ⟨_, rfl⟩
      rw [hV] at VB0 VB1 KV ⊢
      clear hV y0 y1 y2 y3 y4 g0 g1 g2 g3 g4 q3
      have VB1 : Hid (V2.heap[w.heap.size + 1]? = some (.cells #[.int .i64 n1, .int .i64 1, .int .i64 2, .int .i64 0, .int .i64 0] tRw (0, 0))) := VB1
      obtain ⟨⟨z0, z1, z2, z3, z4⟩, f0, f1, f2, f3, f4⟩ := five_atS VB0.out
      obtain ⟨⟨y0, y1, y2, y3, y4⟩, _⟩ := five_atS VB1.out
      rcases Nat.eq_zero_or_pos N with h0 | h0
      · have E : Hid (rowC F A = (0, 0)) := Lib.hid (by rw [RC.out, if_neg]; rintro ⟨y, hy, _⟩; have := List.length_eq_zero_iff.1 (HN.out.trans h0); rw [this] at hy; cases hy)
        have hd0 : decide (0 < (N : Int)) = false := decide_eq_false (by omega)
        have hd1 : decide (0 < N) = false := decide_eq_false (by omega)
        have hd2 : ¬ 0 < N := by omega
        clear h0
        go_quiet (fail)
        have KQ := Lib.hid (keeps_drewN KV.out nq)
        go_wp2
        obtain ⟨⟨e0, e1, e2, e3, e4⟩, _⟩ := five_atS (five_setS (W := V2.drewN nq) (show (V2.drewN nq).heap[w.heap.size]? = _ from VB0.out) (.int .i64 n1) (.int .i64 1) (.int .i64 2) (.int .i64 0) (.int .i64 0))
        exact bodyPost_ret (v := .tuple #[.agg #[.int .i64 n1, .int .i64 1, .int .i64 2, .int .i64 0, .int .i64 0], .int .i64 0, .int .i64 0]) (by simp [results, Tryz.results28, go_sem, e0, e1, e2, e3, e4]) rfl ⟨⟨n1, 1, 2, 0, 0⟩, by rw [E.out]; rfl, fun _ => RR.out.symm, five_keepsS KQ.out (Nat.le_refl _) (.int .i64 n1) (.int .i64 1) (.int .i64 2) (.int .i64 0) (.int .i64 0)⟩
      · obtain ⟨j, hj⟩ : ∃ j, N - 1 = j := ⟨_, rfl⟩
        obtain ⟨y, hy⟩ : ∃ y, A[N - 1]? = some y := ⟨_, List.getElem?_eq_getElem (by have := HN.out; omega)⟩
        have LA : Hid (A.getLast? = some y) := Lib.hid (by rw [List.getLast?_eq_getElem?, HN.out]; exact hy)
        obtain ⟨p9, c9, e9, _, _, hc9⟩ := HR.out.keeps KV.out
        rw [HN.out] at e9
        simp only [Value.slice.injEq] at e9
        obtain ⟨rfl, _, rfl⟩ := e9
        obtain ⟨ad, rfl, QQ⟩ := hc9 (N - 1) y hy
        rw [hj] at QQ
        obtain ⟨u1, u2⟩ := pred_wrap (k := N) (j := j) h0 hj (by have := HAL.out; omega)
        have QY := Lib.hid QQ
        have hd0 : decide (0 < (N : Int)) = true := decide_eq_true (by omega)
        have hd1 : decide (0 < N) = true := decide_eq_true h0
        have hj1 : (j : Int) < (N : Int) := by omega
        have hj0 : (0 : Int) ≤ (j : Int) := by omega
        obtain ⟨l, hl⟩ : ∃ b, lessK y.o y.d n1 1 = b := ⟨_, rfl⟩
        have C3 : Hid (∀ W, Keeps V2 W → Calls Tryz.prog 64 #[.agg #[.int .i64 y.o, .int .i64 y.d], .agg #[.int .i64 n1, .int .i64 1]] W fun e w' => e = .returned (.bool l) ∧ Keeps V2 w') := Lib.hid fun W kk => Calls.mono (hl ▸ kr_less y.o y.d n1 1 W) fun e w' h => ⟨h.1, kk.trans h.2⟩
        have CS : Hid (∀ W, Keeps V2 W → (W.cell? ⟨w.heap.size + 1, 0, none⟩ = some (.int .i64 n1) ∧ W.cell? ⟨w.heap.size + 1, 1, none⟩ = some (.int .i64 1)) ∧ W.cell? (ad.add (j * 5)) = some (.int .i64 y.o) ∧ W.cell? ⟨(ad.add (j * 5)).block, (ad.add (j * 5)).off + 1, none⟩ = some (.int .i64 y.d)) := Lib.hid fun W kk => by
          obtain ⟨d0, d1, _⟩ := QY.out.keeps kk
          have b1 := (kk.block _ (Array.getElem?_eq_some_iff.1 VB1.out).1).trans VB1.out
          exact ⟨⟨Joins.cell_of_block b1 0, Joins.cell_of_block b1 1⟩, d0, d1⟩
        have HLL := Lib.hid hl
        have HX := Lib.hid (Keeps.refl V2)
        clear hl hj hy h0 hc9 QQ z0 z1 z2 z3 z4 f0 f1 f2 f3 f4 y0 y1 y2 y3 y4
        obtain ⟨⟨y0, y1⟩, z0, z1⟩ := CS.out _ HX.out
        go_region_held3 (fun W => (W.cell? ⟨w.heap.size + 1, 0, none⟩ = some (.int .i64 n1) ∧ W.cell? ⟨w.heap.size + 1, 1, none⟩ = some (.int .i64 1)) ∧ W.cell? (ad.add (j * 5)) = some (.int .i64 y.o) ∧ W.cell? ⟨(ad.add (j * 5)).block, (ad.add (j * 5)).off + 1, none⟩ = some (.int .i64 y.d))
          (first | exact CS.out _ HX.out | exact CS.out _ (HX.out.trans (ky_drew _)) | assumption)
          ((go_at_call 64; refine (C3.out _ (HX.out.trans (ky_drew _))).mono ?_; clear HX C3; rintro e wv ⟨rfl, hv⟩; have HX := Lib.hid hv; have zv := CS.out _ hv; clear hv))
        clear u1 u2 hd0 hd1 hj1 hj0 y0 y1 z0 z1
        have VC0 := Lib.hid ((HX.out.block _ (Array.getElem?_eq_some_iff.1 VB0.out).1).trans VB0.out)
        have VC1 := Lib.hid ((HX.out.block _ (Array.getElem?_eq_some_iff.1 VB1.out).1).trans VB1.out)
        have KX := Lib.hid (Keeps.trans KV.out HX.out)
        obtain ⟨⟨z0, z1, z2, z3, z4⟩, f0, f1, f2, f3, f4⟩ := five_atS VC0.out
        obtain ⟨⟨y0, y1, y2, y3, y4⟩, _⟩ := five_atS VC1.out
        cases l with
        | false =>
          have E : Hid (rowC F A = (2, 6)) := Lib.hid (by rw [RC.out, if_pos ⟨y, LA.out, by rw [RR.out]; unfold less; exact HLL.out⟩])
          clear RC
          go_wp2
          obtain ⟨⟨e0, e1, e2, e3, e4⟩, _⟩ := five_atS (five_setS VC0.out (.int .i64 n1) (.int .i64 1) (.int .i64 2) (.int .i64 0) (.int .i64 0))
          exact bodyPost_ret (v := .tuple #[.agg #[.int .i64 n1, .int .i64 1, .int .i64 2, .int .i64 0, .int .i64 0], .int .i64 2, .int .i64 6]) (by simp [results, Tryz.results28, go_sem, e0, e1, e2, e3, e4]) rfl ⟨⟨n1, 1, 2, 0, 0⟩, by rw [E.out]; rfl, fun _ => RR.out.symm, five_keepsS KX.out (Nat.le_refl _) (.int .i64 n1) (.int .i64 1) (.int .i64 2) (.int .i64 0) (.int .i64 0)⟩
        | true =>
          have E : Hid (rowC F A = (0, 0)) := Lib.hid (by
            rw [RC.out, if_neg]
            rintro ⟨x, hx, hb⟩
            rw [LA.out] at hx
            cases hx
            rw [RR.out] at hb
            unfold less at hb
            rw [HLL.out] at hb
            cases hb)
          clear RC
          go_wp2
          obtain ⟨⟨e0, e1, e2, e3, e4⟩, _⟩ := five_atS (five_setS VC0.out (.int .i64 n1) (.int .i64 1) (.int .i64 2) (.int .i64 0) (.int .i64 0))
          exact bodyPost_ret (v := .tuple #[.agg #[.int .i64 n1, .int .i64 1, .int .i64 2, .int .i64 0, .int .i64 0], .int .i64 0, .int .i64 0]) (by simp [results, Tryz.results28, go_sem, e0, e1, e2, e3, e4]) rfl ⟨⟨n1, 1, 2, 0, 0⟩, by rw [E.out]; rfl, fun _ => RR.out.symm, five_keepsS KX.out (Nat.le_refl _) (.int .i64 n1) (.int .i64 1) (.int .i64 2) (.int .i64 0) (.int .i64 0)⟩
    · have RR : Hid (rowR F = ⟨n1, 4, 2, 0, 0⟩) := Lib.hid (by unfold rowR; rw [E1.out, E4.out, ED.out, f3]; rfl)
      clear f3 hd
      go_upto_region 16 with (fail)
      have VB1 := Lib.hid (five_setS BZ.out.2 (.int .i64 n1) (.int .i64 4) (.int .i64 1) (.int .i64 0) (.int .i64 0))
      have KV := Lib.hid (five_keepsS KK.out (Nat.le_succ _) (.int .i64 n1) (.int .i64 4) (.int .i64 1) (.int .i64 0) (.int .i64 0))
      have VB0 := Lib.hid ((five_farS (W := wd) (show w.heap.size ≠ w.heap.size + 1 by omega) (.int .i64 n1) (.int .i64 4) (.int .i64 1) (.int .i64 0) (.int .i64 0)).trans BZ.out.1)
      obtain ⟨V, hV⟩ : ∃ V, ((((wd.setCell ⟨w.heap.size + 1, 0, none⟩ (.int .i64 n1)).setCell ⟨w.heap.size + 1, 1, none⟩ (.int .i64 4)).setCell ⟨w.heap.size + 1, 2, none⟩ (.int .i64 1)).setCell ⟨w.heap.size + 1, 3, none⟩ (.int .i64 0)).setCell ⟨w.heap.size + 1, 4, none⟩ (.int .i64 0) = V := ⟨_, rfl⟩
      rw [hV] at VB0 VB1 KV ⊢
      clear hV z0 z1 z2 z3 z4 f0 f1 f2 f3 f4 y0 y1 y2 y3 y4 g0 g1 g2 g3 g4 q1 q2 q3 q4
      have q3 := CQ0.out V KV.out
      obtain ⟨⟨y0, y1, y2, y3, y4⟩, g0, g1, g2, g3, g4⟩ := five_atS VB1.out
      go_upto_region 18 with (fail)
      have VB1 := Lib.hid (Joins.block_setCell (i := 2) VB1.out (.int .i64 2))
      have KV := Lib.hid (KV.out.setCell (p := ⟨w.heap.size + 1, 2, none⟩) (Nat.le_succ _) (.int .i64 2))
      have VB0 := Lib.hid ((Below.heap_setCell V ⟨w.heap.size + 1, 2, none⟩ (.int .i64 2) w.heap.size (show w.heap.size ≠ w.heap.size + 1 by omega)).trans VB0.out)
      obtain ⟨V2, hV⟩ : ∃ V2, V.setCell ⟨w.heap.size + 1, 2, none⟩ (.int .i64 2) = V2 := ⟨_, rfl⟩
      rw [hV] at VB0 VB1 KV ⊢
      clear hV y0 y1 y2 y3 y4 g0 g1 g2 g3 g4 q3
      have VB1 : Hid (V2.heap[w.heap.size + 1]? = some (.cells #[.int .i64 n1, .int .i64 4, .int .i64 2, .int .i64 0, .int .i64 0] tRw (0, 0))) := VB1
      obtain ⟨⟨z0, z1, z2, z3, z4⟩, f0, f1, f2, f3, f4⟩ := five_atS VB0.out
      obtain ⟨⟨y0, y1, y2, y3, y4⟩, _⟩ := five_atS VB1.out
      rcases Nat.eq_zero_or_pos N with h0 | h0
      · have E : Hid (rowC F A = (0, 0)) := Lib.hid (by rw [RC.out, if_neg]; rintro ⟨y, hy, _⟩; have := List.length_eq_zero_iff.1 (HN.out.trans h0); rw [this] at hy; cases hy)
        have hd0 : decide (0 < (N : Int)) = false := decide_eq_false (by omega)
        have hd1 : decide (0 < N) = false := decide_eq_false (by omega)
        have hd2 : ¬ 0 < N := by omega
        clear h0
        go_quiet (fail)
        have KQ := Lib.hid (keeps_drewN KV.out nq)
        go_wp2
        obtain ⟨⟨e0, e1, e2, e3, e4⟩, _⟩ := five_atS (five_setS (W := V2.drewN nq) (show (V2.drewN nq).heap[w.heap.size]? = _ from VB0.out) (.int .i64 n1) (.int .i64 4) (.int .i64 2) (.int .i64 0) (.int .i64 0))
        exact bodyPost_ret (v := .tuple #[.agg #[.int .i64 n1, .int .i64 4, .int .i64 2, .int .i64 0, .int .i64 0], .int .i64 0, .int .i64 0]) (by simp [results, Tryz.results28, go_sem, e0, e1, e2, e3, e4]) rfl ⟨⟨n1, 4, 2, 0, 0⟩, by rw [E.out]; rfl, fun _ => RR.out.symm, five_keepsS KQ.out (Nat.le_refl _) (.int .i64 n1) (.int .i64 4) (.int .i64 2) (.int .i64 0) (.int .i64 0)⟩
      · obtain ⟨j, hj⟩ : ∃ j, N - 1 = j := ⟨_, rfl⟩
        obtain ⟨y, hy⟩ : ∃ y, A[N - 1]? = some y := ⟨_, List.getElem?_eq_getElem (by have := HN.out; omega)⟩
        have LA : Hid (A.getLast? = some y) := Lib.hid (by rw [List.getLast?_eq_getElem?, HN.out]; exact hy)
        obtain ⟨p9, c9, e9, _, _, hc9⟩ := HR.out.keeps KV.out
        rw [HN.out] at e9
        simp only [Value.slice.injEq] at e9
        obtain ⟨rfl, _, rfl⟩ := e9
        obtain ⟨ad, rfl, QQ⟩ := hc9 (N - 1) y hy
        rw [hj] at QQ
        obtain ⟨u1, u2⟩ := pred_wrap (k := N) (j := j) h0 hj (by have := HAL.out; omega)
        have QY := Lib.hid QQ
        have hd0 : decide (0 < (N : Int)) = true := decide_eq_true (by omega)
        have hd1 : decide (0 < N) = true := decide_eq_true h0
        have hj1 : (j : Int) < (N : Int) := by omega
        have hj0 : (0 : Int) ≤ (j : Int) := by omega
        obtain ⟨l, hl⟩ : ∃ b, lessK y.o y.d n1 4 = b := ⟨_, rfl⟩
        have C3 : Hid (∀ W, Keeps V2 W → Calls Tryz.prog 64 #[.agg #[.int .i64 y.o, .int .i64 y.d], .agg #[.int .i64 n1, .int .i64 4]] W fun e w' => e = .returned (.bool l) ∧ Keeps V2 w') := Lib.hid fun W kk => Calls.mono (hl ▸ kr_less y.o y.d n1 4 W) fun e w' h => ⟨h.1, kk.trans h.2⟩
        have CS : Hid (∀ W, Keeps V2 W → (W.cell? ⟨w.heap.size + 1, 0, none⟩ = some (.int .i64 n1) ∧ W.cell? ⟨w.heap.size + 1, 1, none⟩ = some (.int .i64 4)) ∧ W.cell? (ad.add (j * 5)) = some (.int .i64 y.o) ∧ W.cell? ⟨(ad.add (j * 5)).block, (ad.add (j * 5)).off + 1, none⟩ = some (.int .i64 y.d)) := Lib.hid fun W kk => by
          obtain ⟨d0, d1, _⟩ := QY.out.keeps kk
          have b1 := (kk.block _ (Array.getElem?_eq_some_iff.1 VB1.out).1).trans VB1.out
          exact ⟨⟨Joins.cell_of_block b1 0, Joins.cell_of_block b1 1⟩, d0, d1⟩
        have HLL := Lib.hid hl
        have HX := Lib.hid (Keeps.refl V2)
        clear hl hj hy h0 hc9 QQ z0 z1 z2 z3 z4 f0 f1 f2 f3 f4 y0 y1 y2 y3 y4
        obtain ⟨⟨y0, y1⟩, z0, z1⟩ := CS.out _ HX.out
        go_region_held3 (fun W => (W.cell? ⟨w.heap.size + 1, 0, none⟩ = some (.int .i64 n1) ∧ W.cell? ⟨w.heap.size + 1, 1, none⟩ = some (.int .i64 4)) ∧ W.cell? (ad.add (j * 5)) = some (.int .i64 y.o) ∧ W.cell? ⟨(ad.add (j * 5)).block, (ad.add (j * 5)).off + 1, none⟩ = some (.int .i64 y.d))
          (first | exact CS.out _ HX.out | exact CS.out _ (HX.out.trans (ky_drew _)) | assumption)
          ((go_at_call 64; refine (C3.out _ (HX.out.trans (ky_drew _))).mono ?_; clear HX C3; rintro e wv ⟨rfl, hv⟩; have HX := Lib.hid hv; have zv := CS.out _ hv; clear hv))
        clear u1 u2 hd0 hd1 hj1 hj0 y0 y1 z0 z1
        have VC0 := Lib.hid ((HX.out.block _ (Array.getElem?_eq_some_iff.1 VB0.out).1).trans VB0.out)
        have VC1 := Lib.hid ((HX.out.block _ (Array.getElem?_eq_some_iff.1 VB1.out).1).trans VB1.out)
        have KX := Lib.hid (Keeps.trans KV.out HX.out)
        obtain ⟨⟨z0, z1, z2, z3, z4⟩, f0, f1, f2, f3, f4⟩ := five_atS VC0.out
        obtain ⟨⟨y0, y1, y2, y3, y4⟩, _⟩ := five_atS VC1.out
        cases l with
        | false =>
          have E : Hid (rowC F A = (2, 6)) := Lib.hid (by rw [RC.out, if_pos ⟨y, LA.out, by rw [RR.out]; unfold less; exact HLL.out⟩])
          clear RC
          go_wp2
          obtain ⟨⟨e0, e1, e2, e3, e4⟩, _⟩ := five_atS (five_setS VC0.out (.int .i64 n1) (.int .i64 4) (.int .i64 2) (.int .i64 0) (.int .i64 0))
          exact bodyPost_ret (v := .tuple #[.agg #[.int .i64 n1, .int .i64 4, .int .i64 2, .int .i64 0, .int .i64 0], .int .i64 2, .int .i64 6]) (by simp [results, Tryz.results28, go_sem, e0, e1, e2, e3, e4]) rfl ⟨⟨n1, 4, 2, 0, 0⟩, by rw [E.out]; rfl, fun _ => RR.out.symm, five_keepsS KX.out (Nat.le_refl _) (.int .i64 n1) (.int .i64 4) (.int .i64 2) (.int .i64 0) (.int .i64 0)⟩
        | true =>
          have E : Hid (rowC F A = (0, 0)) := Lib.hid (by
            rw [RC.out, if_neg]
            rintro ⟨x, hx, hb⟩
            rw [LA.out] at hx
            cases hx
            rw [RR.out] at hb
            unfold less at hb
            rw [HLL.out] at hb
            cases hb)
          clear RC
          go_wp2
          obtain ⟨⟨e0, e1, e2, e3, e4⟩, _⟩ := five_atS (five_setS VC0.out (.int .i64 n1) (.int .i64 4) (.int .i64 2) (.int .i64 0) (.int .i64 0))
          exact bodyPost_ret (v := .tuple #[.agg #[.int .i64 n1, .int .i64 4, .int .i64 2, .int .i64 0, .int .i64 0], .int .i64 0, .int .i64 0]) (by simp [results, Tryz.results28, go_sem, e0, e1, e2, e3, e4]) rfl ⟨⟨n1, 4, 2, 0, 0⟩, by rw [E.out]; rfl, fun _ => RR.out.symm, five_keepsS KX.out (Nat.le_refl _) (.int .i64 n1) (.int .i64 4) (.int .i64 2) (.int .i64 0) (.int .i64 0)⟩
end Go.Proofs.YtomonhghioamfaaGreatDoor
