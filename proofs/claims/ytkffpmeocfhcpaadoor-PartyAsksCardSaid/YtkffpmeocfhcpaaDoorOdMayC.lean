
/- May of orders: the program's, the document's. -/
import Derived.Test.YtkffpmeocfhcpaaDoorOdMsgR
import Derived.Test.YtkffpmeocfhcpaaDoorHeldSteps
set_option linter.unusedVariables false
namespace Go.Proofs.YtkffpmeocfhcpaaDoor
open Go.ChangeShapes Go.WideShapes Go.ChangeAt Go.RowKit Bit Ky Od

theorem ms_cells (w : World) (t o d : Int) (s : ByteArray) (q a c : Int) : ∀ W, Keeps (w.alloc (msBox t o d s q a c)) W →
    W.cell? ⟨w.heap.size, 0, none⟩ = some (.int .i64 t) ∧ W.cell? ⟨w.heap.size, 1, none⟩ = some (.int .i64 o) ∧ W.cell? ⟨w.heap.size, 2, none⟩ = some (.int .i64 d) ∧ W.cell? ⟨w.heap.size, 3, none⟩ = some (.string s) ∧ W.cell? ⟨w.heap.size, 4, none⟩ = some (.int .i64 q) ∧ W.cell? ⟨w.heap.size, 5, none⟩ = some (.int .i64 a) ∧ W.cell? ⟨w.heap.size, 6, none⟩ = some (.int .i64 c) := fun W k => by
  have e := (k.block _ (by simp)).trans (heap_alloc_new w (msBox t o d s q a c))
  exact ⟨Joins.cell_of_block e 0, Joins.cell_of_block e 1, Joins.cell_of_block e 2, Joins.cell_of_block e 3, Joins.cell_of_block e 4, Joins.cell_of_block e 5, Joins.cell_of_block e 6⟩
theorem may_key {t o d q a c : Int} {s : ByteArray} (h : checkK o d = false) : mayM t o d s q a c = false := by unfold mayM; rw [h]; rfl
theorem may_to {t o d q a c : Int} {s : ByteArray} (h : t ≠ partyK d) : mayM t o d s q a c = false := by unfold mayM; rw [decide_eq_false h]; simp
theorem may_code {t o d q a c : Int} {s : ByteArray} (h : c ≠ 0) : mayM t o d s q a c = false := by unfold mayM; rw [decide_eq_false h]; simp
theorem may_pay {t o d q a c : Int} {s : ByteArray} (h : checkK o d = true) (h1 : t = partyK d) (h2 : c = 0) (h3 : t = 0) : mayM t o d s q a c = (decide (s.size = 0) && decide (q = 0) && amtB a) := by
  unfold mayM amtB
  rw [h, decide_eq_true h1, decide_eq_true h2, if_pos h3]
  simp [Bool.and_assoc]
theorem may_goods {t o d q a c : Int} {s : ByteArray} (h : checkK o d = true) (h1 : t = partyK d) (h2 : c = 0) (h3 : t ≠ 0) : mayM t o d s q a c = (goodsB s && qtyB q && decide (a = 0)) := by
  unfold mayM goodsB qtyB
  rw [h, decide_eq_true h1, decide_eq_true h2, if_neg h3]
  simp [Bool.and_assoc]

set_option maxHeartbeats 16000000 in
set_option maxRecDepth 100000 in
theorem od_may (t o d : Int) (s : ByteArray) (q a c : Int) (w : World) (hp : HasP w) (hs : s.size ≤ maxLen) :
    Calls Tryd.prog 23 #[msV t o d s q a c] w fun e w' => e = .returned (.bool (mayM t o d s q a c)) ∧ Keeps w w' := by
  have KB := Lib.hid (ky_box w (msBox t o d s q a c))
  have CX := Lib.hid (ms_cells w t o d s q a c)
  obtain ⟨b, hb⟩ : ∃ b, checkK o d = b := ⟨_, rfl⟩
  obtain ⟨p, hpp⟩ : ∃ b, partyK d = b := ⟨_, rfl⟩
  have HB := Lib.hid hb
  have HPP := Lib.hid hpp
  have HS := Lib.hid hs
  have C1 : Hid (∀ W B, Keeps B W → Calls Tryd.prog 50 #[.agg #[.int .i64 o, .int .i64 d]] W fun e w' => e = .returned (.bool b) ∧ Keeps B w') := Lib.hid fun W B k => Calls.mono (hb ▸ pk_check o d W) fun e w' h => ⟨h.1, k.trans h.2⟩
  have P1 : Hid (∀ W B, Keeps (w.alloc (msBox t o d s q a c)) B → Keeps B W → Calls Tryd.prog 51 #[.int .i64 d] W fun e w' => e = .returned (.int .i64 p) ∧ Keeps B w') := Lib.hid fun W B kb k => Calls.mono (hpp ▸ pk_party d W ((hp.keeps (ky_box w (msBox t o d s q a c))).keeps (kb.trans k))) fun e w' h => ⟨h.1, k.trans (Keeps.of_eq h.2)⟩
  have P1 := Lib.hid fun W => P1.out W (w.alloc (msBox t o d s q a c)) (Keeps.refl _)
  have HV := Lib.hid (Keeps.refl (w.alloc (msBox t o d s q a c)))
  have ME := Lib.hid fun h => may_key (t := t) (o := o) (d := d) (s := s) (q := q) (a := a) (c := c) h
  have MT := Lib.hid fun h => may_to (t := t) (o := o) (d := d) (s := s) (q := q) (a := a) (c := c) h
  have MC := Lib.hid fun h => may_code (t := t) (o := o) (d := d) (s := s) (q := q) (a := a) (c := c) h
  have MP := Lib.hid fun h h1 h2 h3 => may_pay (t := t) (o := o) (d := d) (s := s) (q := q) (a := a) (c := c) h h1 h2 h3
  have MG := Lib.hid fun h h1 h2 h3 => may_goods (t := t) (o := o) (d := d) (s := s) (q := q) (a := a) (c := c) h h1 h2 h3
  unfold msBox at KB CX HV P1
  unfold msV
  clear hb hpp hs hp
  by_cases hb : b = true
  rotate_left
  · obtain rfl : b = false := by simpa using hb
    clear hb
    go_enter Tryd.func23, Tryd.ntmps23
    go_wp2
    refine wp_region_held_drew (S := fun W => Keeps (w.alloc (.cells #[.int .i64 t, .int .i64 o, .int .i64 d, .string s, .int .i64 q, .int .i64 a, .int .i64 c] tMs)) W) (by kernel_rfl) (HV.out.trans (ky_drew _)) (fun hHeld => ?_)
    refine takeH (i := 0) (d := some 3) (v := ?av0) rfl rfl (by kernel_rfl) (by kernel_rfl) (by kernel_rfl) (fun _ _ _ h => h) (Or.inl ⟨by rfl, ?ay0⟩) (by assumption) ?ar0
    case ay0 => (intro W hSw; obtain ⟨x0, x1, x2, x3, x4, x5, x6⟩ := CX.out W hSw; go_simp; try with_reducible rfl)
    try simp only [Act.put, List.setIfInBounds_toArray, List.set_cons_zero, List.set_cons_succ]
    refine takeH (i := 1) (d := some 4) (v := ?av1) rfl rfl (by kernel_rfl) (by kernel_rfl) (by kernel_rfl) (fun _ _ _ h => h) (Or.inl ⟨by rfl, ?ay1⟩) (by assumption) ?ar1
    case ay1 => (intro W hSw; obtain ⟨x0, x1, x2, x3, x4, x5, x6⟩ := CX.out W hSw; go_simp; try with_reducible rfl)
    try simp only [Act.put, List.setIfInBounds_toArray, List.set_cons_zero, List.set_cons_succ]
    refine wpAnyH_ready (rs := [2]) (by kernel_rfl) (by simp) ?_
    refine AllReadyH.cons rfl (fun K hK => ?_) AllReadyH.nil
    go_simp
    refine (C1.out _ _ hHeld).mono ?_
    rintro e wv ⟨rfl, hv⟩
    first | done | skip
    refine hK.out _ _ hv (fun hHeld => ?_)
    clear hK K hv
    try simp only [Act.put, List.setIfInBounds_toArray, List.set_cons_zero, List.set_cons_succ]
    refine takeH (i := 3) (d := some 6) (v := ?av3) rfl rfl (by kernel_rfl) (by kernel_rfl) (by kernel_rfl) (fun _ _ _ h => h) (Or.inl ⟨by rfl, ?ay3⟩) (by assumption) ?ar3
    case ay3 => (intro W hSw; obtain ⟨x0, x1, x2, x3, x4, x5, x6⟩ := CX.out W hSw; go_simp; try with_reducible rfl)
    try simp only [Act.put, List.setIfInBounds_toArray, List.set_cons_zero, List.set_cons_succ]
    refine takeH (i := 4) (d := some 7) (v := ?av4) rfl rfl (by kernel_rfl) (by kernel_rfl) (by kernel_rfl) (fun _ _ _ h => h) (Or.inl ⟨by rfl, ?ay4⟩) (by assumption) ?ar4
    case ay4 => (intro W hSw; obtain ⟨x0, x1, x2, x3, x4, x5, x6⟩ := CX.out W hSw; go_simp; try with_reducible rfl)
    try simp only [Act.put, List.setIfInBounds_toArray, List.set_cons_zero, List.set_cons_succ]
    refine skipH (i := 5) (d := some 8) rfl rfl (by kernel_rfl) (by kernel_rfl) (by kernel_rfl) (fun _ _ _ h => h) (by rfl) (by assumption) ?_
    try simp only [Act.put, List.setIfInBounds_toArray, List.set_cons_zero, List.set_cons_succ]
    refine skipH (i := 6) (d := some 9) rfl rfl (by kernel_rfl) (by kernel_rfl) (by kernel_rfl) (fun _ _ _ h => h) (by rfl) (by assumption) ?_
    try simp only [Act.put, List.setIfInBounds_toArray, List.set_cons_zero, List.set_cons_succ]
    refine skipH (i := 7) (d := some 10) rfl rfl (by kernel_rfl) (by kernel_rfl) (by kernel_rfl) (fun _ _ _ h => h) (by rfl) (by assumption) ?_
    try simp only [Act.put, List.setIfInBounds_toArray, List.set_cons_zero, List.set_cons_succ]
    refine skipH (i := 8) (d := some 11) rfl rfl (by kernel_rfl) (by kernel_rfl) (by kernel_rfl) (fun _ _ _ h => h) (by rfl) (by assumption) ?_
    try simp only [Act.put, List.setIfInBounds_toArray, List.set_cons_zero, List.set_cons_succ]
    refine skipH (i := 9) (d := some 12) rfl rfl (by kernel_rfl) (by kernel_rfl) (by kernel_rfl) (fun _ _ _ h => h) (by rfl) (by assumption) ?_
    try simp only [Act.put, List.setIfInBounds_toArray, List.set_cons_zero, List.set_cons_succ]
    refine skipH (i := 10) (d := some 13) rfl rfl (by kernel_rfl) (by kernel_rfl) (by kernel_rfl) (fun _ _ _ h => h) (by rfl) (by assumption) ?_
    try simp only [Act.put, List.setIfInBounds_toArray, List.set_cons_zero, List.set_cons_succ]
    refine skipH (i := 11) (d := some 14) rfl rfl (by kernel_rfl) (by kernel_rfl) (by kernel_rfl) (fun _ _ _ h => h) (by rfl) (by assumption) ?_
    try simp only [Act.put, List.setIfInBounds_toArray, List.set_cons_zero, List.set_cons_succ]
    refine takeH (i := 12) (d := some 15) (v := ?av12) rfl rfl (by kernel_rfl) (by kernel_rfl) (by kernel_rfl) (fun _ _ _ h => h) (Or.inl ⟨by rfl, ?ay12⟩) (by assumption) ?ar12
    case ay12 => (intro W hSw; obtain ⟨x0, x1, x2, x3, x4, x5, x6⟩ := CX.out W hSw; go_simp; try with_reducible rfl)
    try simp only [Act.put, List.setIfInBounds_toArray, List.set_cons_zero, List.set_cons_succ]
    refine takeH (i := 13) (d := some 16) (v := ?av13) rfl rfl (by kernel_rfl) (by kernel_rfl) (by kernel_rfl) (fun _ _ _ h => h) (Or.inl ⟨by rfl, ?ay13⟩) (by assumption) ?ar13
    case ay13 => (intro W hSw; obtain ⟨x0, x1, x2, x3, x4, x5, x6⟩ := CX.out W hSw; go_simp; try with_reducible rfl)
    try simp only [Act.put, List.setIfInBounds_toArray, List.set_cons_zero, List.set_cons_succ]
    refine skipH (i := 14) (d := some 17) rfl rfl (by kernel_rfl) (by kernel_rfl) (by kernel_rfl) (fun _ _ _ h => h) (by rfl) (by assumption) ?_
    try simp only [Act.put, List.setIfInBounds_toArray, List.set_cons_zero, List.set_cons_succ]
    refine skipH (i := 15) (d := some 18) rfl rfl (by kernel_rfl) (by kernel_rfl) (by kernel_rfl) (fun _ _ _ h => h) (by rfl) (by assumption) ?_
    try simp only [Act.put, List.setIfInBounds_toArray, List.set_cons_zero, List.set_cons_succ]
    refine skipH (i := 16) (d := some 19) rfl rfl (by kernel_rfl) (by kernel_rfl) (by kernel_rfl) (fun _ _ _ h => h) (by rfl) (by assumption) ?_
    try simp only [Act.put, List.setIfInBounds_toArray, List.set_cons_zero, List.set_cons_succ]
    refine takeH (i := 17) (d := some 20) (v := ?av17) rfl rfl (by kernel_rfl) (by kernel_rfl) (by kernel_rfl) (fun _ _ _ h => h) (Or.inl ⟨by rfl, ?ay17⟩) (by assumption) ?ar17
    case ay17 => (intro W hSw; obtain ⟨x0, x1, x2, x3, x4, x5, x6⟩ := CX.out W hSw; go_simp; try with_reducible rfl)
    try simp only [Act.put, List.setIfInBounds_toArray, List.set_cons_zero, List.set_cons_succ]
    refine wpAnyH_done (by kernel_rfl) ?_ _
    go_wp2
    go_ret
    exact ⟨ret_bool (ME.out HB.out).symm, KB.out.trans hHeld⟩
  subst hb
  by_cases ht : t = p
  rotate_left
  · have T1 : (t == p) = false := by rw [beq_eq_false_iff_ne]; exact ht
    have T2 : (t != p) = true := by rw [bne, T1]; rfl
    have T3 : (p == t) = false := by rw [beq_eq_false_iff_ne]; exact fun e => ht e.symm
    have T4 : (p != t) = true := by rw [bne, T3]; rfl
    have HT := Lib.hid ht
    clear ht
    go_enter Tryd.func23, Tryd.ntmps23
    go_wp2
    refine wp_region_held_drew (S := fun W => Keeps (w.alloc (.cells #[.int .i64 t, .int .i64 o, .int .i64 d, .string s, .int .i64 q, .int .i64 a, .int .i64 c] tMs)) W) (by kernel_rfl) (HV.out.trans (ky_drew _)) (fun hHeld => ?_)
    refine takeH (i := 0) (d := some 3) (v := ?bv0) rfl rfl (by kernel_rfl) (by kernel_rfl) (by kernel_rfl) (fun _ _ _ h => h) (Or.inl ⟨by rfl, ?by0⟩) (by assumption) ?br0
    case by0 => (intro W hSw; obtain ⟨x0, x1, x2, x3, x4, x5, x6⟩ := CX.out W hSw; go_simp; try with_reducible rfl)
    try simp only [Act.put, List.setIfInBounds_toArray, List.set_cons_zero, List.set_cons_succ]
    refine takeH (i := 1) (d := some 4) (v := ?bv1) rfl rfl (by kernel_rfl) (by kernel_rfl) (by kernel_rfl) (fun _ _ _ h => h) (Or.inl ⟨by rfl, ?by1⟩) (by assumption) ?br1
    case by1 => (intro W hSw; obtain ⟨x0, x1, x2, x3, x4, x5, x6⟩ := CX.out W hSw; go_simp; try with_reducible rfl)
    try simp only [Act.put, List.setIfInBounds_toArray, List.set_cons_zero, List.set_cons_succ]
    refine wpAnyH_ready (rs := [2]) (by kernel_rfl) (by simp) ?_
    refine AllReadyH.cons rfl (fun K hK => ?_) AllReadyH.nil
    go_simp
    refine (C1.out _ _ hHeld).mono ?_
    rintro e wv ⟨rfl, hv⟩
    first | done | skip
    refine hK.out _ _ hv (fun hHeld => ?_)
    clear hK K hv
    try simp only [Act.put, List.setIfInBounds_toArray, List.set_cons_zero, List.set_cons_succ]
    refine takeH (i := 3) (d := some 6) (v := ?bv3) rfl rfl (by kernel_rfl) (by kernel_rfl) (by kernel_rfl) (fun _ _ _ h => h) (Or.inl ⟨by rfl, ?by3⟩) (by assumption) ?br3
    case by3 => (intro W hSw; obtain ⟨x0, x1, x2, x3, x4, x5, x6⟩ := CX.out W hSw; go_simp; try with_reducible rfl)
    try simp only [Act.put, List.setIfInBounds_toArray, List.set_cons_zero, List.set_cons_succ]
    refine takeH (i := 4) (d := some 7) (v := ?bv4) rfl rfl (by kernel_rfl) (by kernel_rfl) (by kernel_rfl) (fun _ _ _ h => h) (Or.inl ⟨by rfl, ?by4⟩) (by assumption) ?br4
    case by4 => (intro W hSw; obtain ⟨x0, x1, x2, x3, x4, x5, x6⟩ := CX.out W hSw; go_simp; try with_reducible rfl)
    try simp only [Act.put, List.setIfInBounds_toArray, List.set_cons_zero, List.set_cons_succ]
    refine takeH (i := 5) (d := some 8) (v := ?bv5) rfl rfl (by kernel_rfl) (by kernel_rfl) (by kernel_rfl) (fun _ _ _ h => h) (Or.inl ⟨by rfl, ?by5⟩) (by assumption) ?br5
    case by5 => (intro W hSw; obtain ⟨x0, x1, x2, x3, x4, x5, x6⟩ := CX.out W hSw; go_simp; try with_reducible rfl)
    try simp only [Act.put, List.setIfInBounds_toArray, List.set_cons_zero, List.set_cons_succ]
    refine takeH (i := 6) (d := some 9) (v := ?bv6) rfl rfl (by kernel_rfl) (by kernel_rfl) (by kernel_rfl) (fun _ _ _ h => h) (Or.inl ⟨by rfl, ?by6⟩) (by assumption) ?br6
    case by6 => (intro W hSw; obtain ⟨x0, x1, x2, x3, x4, x5, x6⟩ := CX.out W hSw; go_simp; try with_reducible rfl)
    try simp only [Act.put, List.setIfInBounds_toArray, List.set_cons_zero, List.set_cons_succ]
    refine takeH (i := 7) (d := some 10) (v := ?bv7) rfl rfl (by kernel_rfl) (by kernel_rfl) (by kernel_rfl) (fun _ _ _ h => h) (Or.inl ⟨by rfl, ?by7⟩) (by assumption) ?br7
    case by7 => (intro W hSw; obtain ⟨x0, x1, x2, x3, x4, x5, x6⟩ := CX.out W hSw; go_simp; try with_reducible rfl)
    try simp only [Act.put, List.setIfInBounds_toArray, List.set_cons_zero, List.set_cons_succ]
    refine takeH (i := 8) (d := some 11) (v := ?bv8) rfl rfl (by kernel_rfl) (by kernel_rfl) (by kernel_rfl) (fun _ _ _ h => h) (Or.inl ⟨by rfl, ?by8⟩) (by assumption) ?br8
    case by8 => (intro W hSw; obtain ⟨x0, x1, x2, x3, x4, x5, x6⟩ := CX.out W hSw; go_simp; try with_reducible rfl)
    try simp only [Act.put, List.setIfInBounds_toArray, List.set_cons_zero, List.set_cons_succ]
    refine takeH (i := 9) (d := some 12) (v := ?bv9) rfl rfl (by kernel_rfl) (by kernel_rfl) (by kernel_rfl) (fun _ _ _ h => h) (Or.inl ⟨by rfl, ?by9⟩) (by assumption) ?br9
    case by9 => (intro W hSw; obtain ⟨x0, x1, x2, x3, x4, x5, x6⟩ := CX.out W hSw; go_simp; try with_reducible rfl)
    try simp only [Act.put, List.setIfInBounds_toArray, List.set_cons_zero, List.set_cons_succ]
    refine wpAnyH_ready (rs := [10]) (by kernel_rfl) (by simp) ?_
    refine AllReadyH.cons rfl (fun K hK => ?_) AllReadyH.nil
    go_simp
    refine (P1.out _ hHeld).mono ?_
    rintro e wv ⟨rfl, hv⟩
    first | done | skip
    refine hK.out _ _ hv (fun hHeld => ?_)
    clear hK K hv
    try simp only [Act.put, List.setIfInBounds_toArray, List.set_cons_zero, List.set_cons_succ]
    refine takeH (i := 11) (d := some 14) (v := ?bv11) rfl rfl (by kernel_rfl) (by kernel_rfl) (by kernel_rfl) (fun _ _ _ h => h) (Or.inl ⟨by rfl, ?by11⟩) (by assumption) ?br11
    case by11 => (intro W hSw; obtain ⟨x0, x1, x2, x3, x4, x5, x6⟩ := CX.out W hSw; go_simp; try with_reducible rfl)
    try simp only [Act.put, List.setIfInBounds_toArray, List.set_cons_zero, List.set_cons_succ]
    refine takeH (i := 12) (d := some 15) (v := ?bv12) rfl rfl (by kernel_rfl) (by kernel_rfl) (by kernel_rfl) (fun _ _ _ h => h) (Or.inl ⟨by rfl, ?by12⟩) (by assumption) ?br12
    case by12 => (intro W hSw; obtain ⟨x0, x1, x2, x3, x4, x5, x6⟩ := CX.out W hSw; go_simp; try with_reducible rfl)
    try simp only [Act.put, List.setIfInBounds_toArray, List.set_cons_zero, List.set_cons_succ]
    refine takeH (i := 13) (d := some 16) (v := ?bv13) rfl rfl (by kernel_rfl) (by kernel_rfl) (by kernel_rfl) (fun _ _ _ h => h) (Or.inl ⟨by rfl, ?by13⟩) (by assumption) ?br13
    case by13 => (intro W hSw; obtain ⟨x0, x1, x2, x3, x4, x5, x6⟩ := CX.out W hSw; go_simp; try with_reducible rfl)
    try simp only [Act.put, List.setIfInBounds_toArray, List.set_cons_zero, List.set_cons_succ]
    refine skipH (i := 14) (d := some 17) rfl rfl (by kernel_rfl) (by kernel_rfl) (by kernel_rfl) (fun _ _ _ h => h) (by rfl) (by assumption) ?_
    try simp only [Act.put, List.setIfInBounds_toArray, List.set_cons_zero, List.set_cons_succ]
    refine skipH (i := 15) (d := some 18) rfl rfl (by kernel_rfl) (by kernel_rfl) (by kernel_rfl) (fun _ _ _ h => h) (by rfl) (by assumption) ?_
    try simp only [Act.put, List.setIfInBounds_toArray, List.set_cons_zero, List.set_cons_succ]
    refine skipH (i := 16) (d := some 19) rfl rfl (by kernel_rfl) (by kernel_rfl) (by kernel_rfl) (fun _ _ _ h => h) (by rfl) (by assumption) ?_
    try simp only [Act.put, List.setIfInBounds_toArray, List.set_cons_zero, List.set_cons_succ]
    refine takeH (i := 17) (d := some 20) (v := ?bv17) rfl rfl (by kernel_rfl) (by kernel_rfl) (by kernel_rfl) (fun _ _ _ h => h) (Or.inl ⟨by rfl, ?by17⟩) (by assumption) ?br17
    case by17 => (intro W hSw; obtain ⟨x0, x1, x2, x3, x4, x5, x6⟩ := CX.out W hSw; go_simp; try with_reducible rfl)
    try simp only [Act.put, List.setIfInBounds_toArray, List.set_cons_zero, List.set_cons_succ]
    refine wpAnyH_done (by kernel_rfl) ?_ _
    go_wp2
    go_ret
    exact ⟨ret_bool (MT.out (by rw [HPP.out]; exact HT.out)).symm, KB.out.trans hHeld⟩
  subst ht
  by_cases hc : c = 0
  rotate_left
  · have T1 : (c == 0) = false := by rw [beq_eq_false_iff_ne]; exact hc
    have T2 : (c != 0) = true := by rw [bne, T1]; rfl
    have HCC := Lib.hid hc
    clear hc
    go_enter Tryd.func23, Tryd.ntmps23
    go_wp2
    refine wp_region_held_drew (S := fun W => Keeps (w.alloc (.cells #[.int .i64 t, .int .i64 o, .int .i64 d, .string s, .int .i64 q, .int .i64 a, .int .i64 c] tMs)) W) (by kernel_rfl) (HV.out.trans (ky_drew _)) (fun hHeld => ?_)
    refine takeH (i := 0) (d := some 3) (v := ?cv0) rfl rfl (by kernel_rfl) (by kernel_rfl) (by kernel_rfl) (fun _ _ _ h => h) (Or.inl ⟨by rfl, ?cy0⟩) (by assumption) ?cr0
    case cy0 => (intro W hSw; obtain ⟨x0, x1, x2, x3, x4, x5, x6⟩ := CX.out W hSw; go_simp; try with_reducible rfl)
    try simp only [Act.put, List.setIfInBounds_toArray, List.set_cons_zero, List.set_cons_succ]
    refine takeH (i := 1) (d := some 4) (v := ?cv1) rfl rfl (by kernel_rfl) (by kernel_rfl) (by kernel_rfl) (fun _ _ _ h => h) (Or.inl ⟨by rfl, ?cy1⟩) (by assumption) ?cr1
    case cy1 => (intro W hSw; obtain ⟨x0, x1, x2, x3, x4, x5, x6⟩ := CX.out W hSw; go_simp; try with_reducible rfl)
    try simp only [Act.put, List.setIfInBounds_toArray, List.set_cons_zero, List.set_cons_succ]
    refine wpAnyH_ready (rs := [2]) (by kernel_rfl) (by simp) ?_
    refine AllReadyH.cons rfl (fun K hK => ?_) AllReadyH.nil
    go_simp
    refine (C1.out _ _ hHeld).mono ?_
    rintro e wv ⟨rfl, hv⟩
    first | done | skip
    refine hK.out _ _ hv (fun hHeld => ?_)
    clear hK K hv
    try simp only [Act.put, List.setIfInBounds_toArray, List.set_cons_zero, List.set_cons_succ]
    refine takeH (i := 3) (d := some 6) (v := ?cv3) rfl rfl (by kernel_rfl) (by kernel_rfl) (by kernel_rfl) (fun _ _ _ h => h) (Or.inl ⟨by rfl, ?cy3⟩) (by assumption) ?cr3
    case cy3 => (intro W hSw; obtain ⟨x0, x1, x2, x3, x4, x5, x6⟩ := CX.out W hSw; go_simp; try with_reducible rfl)
    try simp only [Act.put, List.setIfInBounds_toArray, List.set_cons_zero, List.set_cons_succ]
    refine takeH (i := 4) (d := some 7) (v := ?cv4) rfl rfl (by kernel_rfl) (by kernel_rfl) (by kernel_rfl) (fun _ _ _ h => h) (Or.inl ⟨by rfl, ?cy4⟩) (by assumption) ?cr4
    case cy4 => (intro W hSw; obtain ⟨x0, x1, x2, x3, x4, x5, x6⟩ := CX.out W hSw; go_simp; try with_reducible rfl)
    try simp only [Act.put, List.setIfInBounds_toArray, List.set_cons_zero, List.set_cons_succ]
    refine takeH (i := 5) (d := some 8) (v := ?cv5) rfl rfl (by kernel_rfl) (by kernel_rfl) (by kernel_rfl) (fun _ _ _ h => h) (Or.inl ⟨by rfl, ?cy5⟩) (by assumption) ?cr5
    case cy5 => (intro W hSw; obtain ⟨x0, x1, x2, x3, x4, x5, x6⟩ := CX.out W hSw; go_simp; try with_reducible rfl)
    try simp only [Act.put, List.setIfInBounds_toArray, List.set_cons_zero, List.set_cons_succ]
    refine takeH (i := 6) (d := some 9) (v := ?cv6) rfl rfl (by kernel_rfl) (by kernel_rfl) (by kernel_rfl) (fun _ _ _ h => h) (Or.inl ⟨by rfl, ?cy6⟩) (by assumption) ?cr6
    case cy6 => (intro W hSw; obtain ⟨x0, x1, x2, x3, x4, x5, x6⟩ := CX.out W hSw; go_simp; try with_reducible rfl)
    try simp only [Act.put, List.setIfInBounds_toArray, List.set_cons_zero, List.set_cons_succ]
    refine takeH (i := 7) (d := some 10) (v := ?cv7) rfl rfl (by kernel_rfl) (by kernel_rfl) (by kernel_rfl) (fun _ _ _ h => h) (Or.inl ⟨by rfl, ?cy7⟩) (by assumption) ?cr7
    case cy7 => (intro W hSw; obtain ⟨x0, x1, x2, x3, x4, x5, x6⟩ := CX.out W hSw; go_simp; try with_reducible rfl)
    try simp only [Act.put, List.setIfInBounds_toArray, List.set_cons_zero, List.set_cons_succ]
    refine takeH (i := 8) (d := some 11) (v := ?cv8) rfl rfl (by kernel_rfl) (by kernel_rfl) (by kernel_rfl) (fun _ _ _ h => h) (Or.inl ⟨by rfl, ?cy8⟩) (by assumption) ?cr8
    case cy8 => (intro W hSw; obtain ⟨x0, x1, x2, x3, x4, x5, x6⟩ := CX.out W hSw; go_simp; try with_reducible rfl)
    try simp only [Act.put, List.setIfInBounds_toArray, List.set_cons_zero, List.set_cons_succ]
    refine takeH (i := 9) (d := some 12) (v := ?cv9) rfl rfl (by kernel_rfl) (by kernel_rfl) (by kernel_rfl) (fun _ _ _ h => h) (Or.inl ⟨by rfl, ?cy9⟩) (by assumption) ?cr9
    case cy9 => (intro W hSw; obtain ⟨x0, x1, x2, x3, x4, x5, x6⟩ := CX.out W hSw; go_simp; try with_reducible rfl)
    try simp only [Act.put, List.setIfInBounds_toArray, List.set_cons_zero, List.set_cons_succ]
    refine wpAnyH_ready (rs := [10]) (by kernel_rfl) (by simp) ?_
    refine AllReadyH.cons rfl (fun K hK => ?_) AllReadyH.nil
    go_simp
    refine (P1.out _ hHeld).mono ?_
    rintro e wv ⟨rfl, hv⟩
    first | done | skip
    refine hK.out _ _ hv (fun hHeld => ?_)
    clear hK K hv
    try simp only [Act.put, List.setIfInBounds_toArray, List.set_cons_zero, List.set_cons_succ]
    refine takeH (i := 11) (d := some 14) (v := ?cv11) rfl rfl (by kernel_rfl) (by kernel_rfl) (by kernel_rfl) (fun _ _ _ h => h) (Or.inl ⟨by rfl, ?cy11⟩) (by assumption) ?cr11
    case cy11 => (intro W hSw; obtain ⟨x0, x1, x2, x3, x4, x5, x6⟩ := CX.out W hSw; go_simp; try with_reducible rfl)
    try simp only [Act.put, List.setIfInBounds_toArray, List.set_cons_zero, List.set_cons_succ]
    refine takeH (i := 12) (d := some 15) (v := ?cv12) rfl rfl (by kernel_rfl) (by kernel_rfl) (by kernel_rfl) (fun _ _ _ h => h) (Or.inl ⟨by rfl, ?cy12⟩) (by assumption) ?cr12
    case cy12 => (intro W hSw; obtain ⟨x0, x1, x2, x3, x4, x5, x6⟩ := CX.out W hSw; go_simp; try with_reducible rfl)
    try simp only [Act.put, List.setIfInBounds_toArray, List.set_cons_zero, List.set_cons_succ]
    refine takeH (i := 13) (d := some 16) (v := ?cv13) rfl rfl (by kernel_rfl) (by kernel_rfl) (by kernel_rfl) (fun _ _ _ h => h) (Or.inl ⟨by rfl, ?cy13⟩) (by assumption) ?cr13
    case cy13 => (intro W hSw; obtain ⟨x0, x1, x2, x3, x4, x5, x6⟩ := CX.out W hSw; go_simp; try with_reducible rfl)
    try simp only [Act.put, List.setIfInBounds_toArray, List.set_cons_zero, List.set_cons_succ]
    refine takeH (i := 14) (d := some 17) (v := ?cv14) rfl rfl (by kernel_rfl) (by kernel_rfl) (by kernel_rfl) (fun _ _ _ h => h) (Or.inl ⟨by rfl, ?cy14⟩) (by assumption) ?cr14
    case cy14 => (intro W hSw; obtain ⟨x0, x1, x2, x3, x4, x5, x6⟩ := CX.out W hSw; go_simp; try with_reducible rfl)
    try simp only [Act.put, List.setIfInBounds_toArray, List.set_cons_zero, List.set_cons_succ]
    refine takeH (i := 15) (d := some 18) (v := ?cv15) rfl rfl (by kernel_rfl) (by kernel_rfl) (by kernel_rfl) (fun _ _ _ h => h) (Or.inl ⟨by rfl, ?cy15⟩) (by assumption) ?cr15
    case cy15 => (intro W hSw; obtain ⟨x0, x1, x2, x3, x4, x5, x6⟩ := CX.out W hSw; go_simp; try with_reducible rfl)
    try simp only [Act.put, List.setIfInBounds_toArray, List.set_cons_zero, List.set_cons_succ]
    refine takeH (i := 16) (d := some 19) (v := ?cv16) rfl rfl (by kernel_rfl) (by kernel_rfl) (by kernel_rfl) (fun _ _ _ h => h) (Or.inl ⟨by rfl, ?cy16⟩) (by assumption) ?cr16
    case cy16 => (intro W hSw; obtain ⟨x0, x1, x2, x3, x4, x5, x6⟩ := CX.out W hSw; go_simp; try with_reducible rfl)
    try simp only [Act.put, List.setIfInBounds_toArray, List.set_cons_zero, List.set_cons_succ]
    refine takeH (i := 17) (d := some 20) (v := ?cv17) rfl rfl (by kernel_rfl) (by kernel_rfl) (by kernel_rfl) (fun _ _ _ h => h) (Or.inl ⟨by rfl, ?cy17⟩) (by assumption) ?cr17
    case cy17 => (intro W hSw; obtain ⟨x0, x1, x2, x3, x4, x5, x6⟩ := CX.out W hSw; go_simp; try with_reducible rfl)
    try simp only [Act.put, List.setIfInBounds_toArray, List.set_cons_zero, List.set_cons_succ]
    refine wpAnyH_done (by kernel_rfl) ?_ _
    go_wp2
    go_ret
    exact ⟨ret_bool (MC.out HCC.out).symm, KB.out.trans hHeld⟩
  subst hc
  by_cases h0 : t = 0
  · subst h0
    have M := Lib.hid (MP.out HB.out HPP.out.symm rfl rfl)
    clear MP MG MT MC ME
    go_enter Tryd.func23, Tryd.ntmps23
    go_wp2
    refine wp_region_held_drew (S := fun W => Keeps (w.alloc (.cells #[.int .i64 0, .int .i64 o, .int .i64 d, .string s, .int .i64 q, .int .i64 a, .int .i64 0] tMs)) W) (by kernel_rfl) (HV.out.trans (ky_drew _)) (fun hHeld => ?_)
    refine takeH (i := 0) (d := some 3) (v := ?dv0) rfl rfl (by kernel_rfl) (by kernel_rfl) (by kernel_rfl) (fun _ _ _ h => h) (Or.inl ⟨by rfl, ?dy0⟩) (by assumption) ?dr0
    case dy0 => (intro W hSw; obtain ⟨x0, x1, x2, x3, x4, x5, x6⟩ := CX.out W hSw; go_simp; try with_reducible rfl)
    try simp only [Act.put, List.setIfInBounds_toArray, List.set_cons_zero, List.set_cons_succ]
    refine takeH (i := 1) (d := some 4) (v := ?dv1) rfl rfl (by kernel_rfl) (by kernel_rfl) (by kernel_rfl) (fun _ _ _ h => h) (Or.inl ⟨by rfl, ?dy1⟩) (by assumption) ?dr1
    case dy1 => (intro W hSw; obtain ⟨x0, x1, x2, x3, x4, x5, x6⟩ := CX.out W hSw; go_simp; try with_reducible rfl)
    try simp only [Act.put, List.setIfInBounds_toArray, List.set_cons_zero, List.set_cons_succ]
    refine wpAnyH_ready (rs := [2]) (by kernel_rfl) (by simp) ?_
    refine AllReadyH.cons rfl (fun K hK => ?_) AllReadyH.nil
    go_simp
    refine (C1.out _ _ hHeld).mono ?_
    rintro e wv ⟨rfl, hv⟩
    first | done | skip
    refine hK.out _ _ hv (fun hHeld => ?_)
    clear hK K hv
    try simp only [Act.put, List.setIfInBounds_toArray, List.set_cons_zero, List.set_cons_succ]
    refine takeH (i := 3) (d := some 6) (v := ?dv3) rfl rfl (by kernel_rfl) (by kernel_rfl) (by kernel_rfl) (fun _ _ _ h => h) (Or.inl ⟨by rfl, ?dy3⟩) (by assumption) ?dr3
    case dy3 => (intro W hSw; obtain ⟨x0, x1, x2, x3, x4, x5, x6⟩ := CX.out W hSw; go_simp; try with_reducible rfl)
    try simp only [Act.put, List.setIfInBounds_toArray, List.set_cons_zero, List.set_cons_succ]
    refine takeH (i := 4) (d := some 7) (v := ?dv4) rfl rfl (by kernel_rfl) (by kernel_rfl) (by kernel_rfl) (fun _ _ _ h => h) (Or.inl ⟨by rfl, ?dy4⟩) (by assumption) ?dr4
    case dy4 => (intro W hSw; obtain ⟨x0, x1, x2, x3, x4, x5, x6⟩ := CX.out W hSw; go_simp; try with_reducible rfl)
    try simp only [Act.put, List.setIfInBounds_toArray, List.set_cons_zero, List.set_cons_succ]
    refine takeH (i := 5) (d := some 8) (v := ?dv5) rfl rfl (by kernel_rfl) (by kernel_rfl) (by kernel_rfl) (fun _ _ _ h => h) (Or.inl ⟨by rfl, ?dy5⟩) (by assumption) ?dr5
    case dy5 => (intro W hSw; obtain ⟨x0, x1, x2, x3, x4, x5, x6⟩ := CX.out W hSw; go_simp; try with_reducible rfl)
    try simp only [Act.put, List.setIfInBounds_toArray, List.set_cons_zero, List.set_cons_succ]
    refine takeH (i := 6) (d := some 9) (v := ?dv6) rfl rfl (by kernel_rfl) (by kernel_rfl) (by kernel_rfl) (fun _ _ _ h => h) (Or.inl ⟨by rfl, ?dy6⟩) (by assumption) ?dr6
    case dy6 => (intro W hSw; obtain ⟨x0, x1, x2, x3, x4, x5, x6⟩ := CX.out W hSw; go_simp; try with_reducible rfl)
    try simp only [Act.put, List.setIfInBounds_toArray, List.set_cons_zero, List.set_cons_succ]
    refine takeH (i := 7) (d := some 10) (v := ?dv7) rfl rfl (by kernel_rfl) (by kernel_rfl) (by kernel_rfl) (fun _ _ _ h => h) (Or.inl ⟨by rfl, ?dy7⟩) (by assumption) ?dr7
    case dy7 => (intro W hSw; obtain ⟨x0, x1, x2, x3, x4, x5, x6⟩ := CX.out W hSw; go_simp; try with_reducible rfl)
    try simp only [Act.put, List.setIfInBounds_toArray, List.set_cons_zero, List.set_cons_succ]
    refine takeH (i := 8) (d := some 11) (v := ?dv8) rfl rfl (by kernel_rfl) (by kernel_rfl) (by kernel_rfl) (fun _ _ _ h => h) (Or.inl ⟨by rfl, ?dy8⟩) (by assumption) ?dr8
    case dy8 => (intro W hSw; obtain ⟨x0, x1, x2, x3, x4, x5, x6⟩ := CX.out W hSw; go_simp; try with_reducible rfl)
    try simp only [Act.put, List.setIfInBounds_toArray, List.set_cons_zero, List.set_cons_succ]
    refine takeH (i := 9) (d := some 12) (v := ?dv9) rfl rfl (by kernel_rfl) (by kernel_rfl) (by kernel_rfl) (fun _ _ _ h => h) (Or.inl ⟨by rfl, ?dy9⟩) (by assumption) ?dr9
    case dy9 => (intro W hSw; obtain ⟨x0, x1, x2, x3, x4, x5, x6⟩ := CX.out W hSw; go_simp; try with_reducible rfl)
    try simp only [Act.put, List.setIfInBounds_toArray, List.set_cons_zero, List.set_cons_succ]
    refine wpAnyH_ready (rs := [10]) (by kernel_rfl) (by simp) ?_
    refine AllReadyH.cons rfl (fun K hK => ?_) AllReadyH.nil
    go_simp
    refine (P1.out _ hHeld).mono ?_
    rintro e wv ⟨rfl, hv⟩
    first | done | skip
    refine hK.out _ _ hv (fun hHeld => ?_)
    clear hK K hv
    try simp only [Act.put, List.setIfInBounds_toArray, List.set_cons_zero, List.set_cons_succ]
    refine takeH (i := 11) (d := some 14) (v := ?dv11) rfl rfl (by kernel_rfl) (by kernel_rfl) (by kernel_rfl) (fun _ _ _ h => h) (Or.inl ⟨by rfl, ?dy11⟩) (by assumption) ?dr11
    case dy11 => (intro W hSw; obtain ⟨x0, x1, x2, x3, x4, x5, x6⟩ := CX.out W hSw; go_simp; try with_reducible rfl)
    try simp only [Act.put, List.setIfInBounds_toArray, List.set_cons_zero, List.set_cons_succ]
    refine takeH (i := 12) (d := some 15) (v := ?dv12) rfl rfl (by kernel_rfl) (by kernel_rfl) (by kernel_rfl) (fun _ _ _ h => h) (Or.inl ⟨by rfl, ?dy12⟩) (by assumption) ?dr12
    case dy12 => (intro W hSw; obtain ⟨x0, x1, x2, x3, x4, x5, x6⟩ := CX.out W hSw; go_simp; try with_reducible rfl)
    try simp only [Act.put, List.setIfInBounds_toArray, List.set_cons_zero, List.set_cons_succ]
    refine takeH (i := 13) (d := some 16) (v := ?dv13) rfl rfl (by kernel_rfl) (by kernel_rfl) (by kernel_rfl) (fun _ _ _ h => h) (Or.inl ⟨by rfl, ?dy13⟩) (by assumption) ?dr13
    case dy13 => (intro W hSw; obtain ⟨x0, x1, x2, x3, x4, x5, x6⟩ := CX.out W hSw; go_simp; try with_reducible rfl)
    try simp only [Act.put, List.setIfInBounds_toArray, List.set_cons_zero, List.set_cons_succ]
    refine takeH (i := 14) (d := some 17) (v := ?dv14) rfl rfl (by kernel_rfl) (by kernel_rfl) (by kernel_rfl) (fun _ _ _ h => h) (Or.inl ⟨by rfl, ?dy14⟩) (by assumption) ?dr14
    case dy14 => (intro W hSw; obtain ⟨x0, x1, x2, x3, x4, x5, x6⟩ := CX.out W hSw; go_simp; try with_reducible rfl)
    try simp only [Act.put, List.setIfInBounds_toArray, List.set_cons_zero, List.set_cons_succ]
    refine takeH (i := 15) (d := some 18) (v := ?dv15) rfl rfl (by kernel_rfl) (by kernel_rfl) (by kernel_rfl) (fun _ _ _ h => h) (Or.inl ⟨by rfl, ?dy15⟩) (by assumption) ?dr15
    case dy15 => (intro W hSw; obtain ⟨x0, x1, x2, x3, x4, x5, x6⟩ := CX.out W hSw; go_simp; try with_reducible rfl)
    try simp only [Act.put, List.setIfInBounds_toArray, List.set_cons_zero, List.set_cons_succ]
    refine takeH (i := 16) (d := some 19) (v := ?dv16) rfl rfl (by kernel_rfl) (by kernel_rfl) (by kernel_rfl) (fun _ _ _ h => h) (Or.inl ⟨by rfl, ?dy16⟩) (by assumption) ?dr16
    case dy16 => (intro W hSw; obtain ⟨x0, x1, x2, x3, x4, x5, x6⟩ := CX.out W hSw; go_simp; try with_reducible rfl)
    try simp only [Act.put, List.setIfInBounds_toArray, List.set_cons_zero, List.set_cons_succ]
    refine takeH (i := 17) (d := some 20) (v := ?dv17) rfl rfl (by kernel_rfl) (by kernel_rfl) (by kernel_rfl) (fun _ _ _ h => h) (Or.inl ⟨by rfl, ?dy17⟩) (by assumption) ?dr17
    case dy17 => (intro W hSw; obtain ⟨x0, x1, x2, x3, x4, x5, x6⟩ := CX.out W hSw; go_simp; try with_reducible rfl)
    try simp only [Act.put, List.setIfInBounds_toArray, List.set_cons_zero, List.set_cons_succ]
    refine wpAnyH_done (by kernel_rfl) ?_ _
    obtain ⟨x0, x1, x2, x3, x4, x5, x6⟩ := CX.out _ hHeld
    have HH := Lib.hid hHeld
    clear hHeld
    by_cases hs0 : s.size = 0
    · obtain rfl := size_none hs0
      have z := str_none
      by_cases hq : q = 0
      · subst hq
        obtain ⟨b, hb⟩ : ∃ b, amtB a = b := ⟨_, rfl⟩
        have AB := Lib.hid hb
        have AC := Lib.hid fun w => od_isAmount a b w hb
        clear hb hs0
        go_wp2_with fail
        refine (AC.out _).mono ?_
        rintro e w2 ⟨rfl, rfl⟩
        go_wp2
        go_ret
        exact ⟨ret_bool (by rw [M.out, AB.out]; rfl), KB.out.trans HH.out⟩
      · have T : (q == 0) = false := by rw [beq_eq_false_iff_ne]; exact hq
        have HQ := Lib.hid hq
        clear hq hs0
        go_wp2
        go_ret
        exact ⟨ret_bool (by rw [M.out, decide_eq_false HQ.out]; simp), KB.out.trans HH.out⟩
    · obtain ⟨z1, z2⟩ := str_some (show 1 ≤ s.size by omega)
      have HZ := Lib.hid hs0
      clear hs0
      go_wp2
      go_ret
      exact ⟨ret_bool (by rw [M.out, decide_eq_false HZ.out]; simp), KB.out.trans HH.out⟩
  · have T1 : (t == 0) = false := by rw [beq_eq_false_iff_ne]; exact h0
    have M := Lib.hid (MG.out HB.out HPP.out.symm rfl h0)
    clear MP MG MT MC ME h0
    go_enter Tryd.func23, Tryd.ntmps23
    go_wp2
    refine wp_region_held_drew (S := fun W => Keeps (w.alloc (.cells #[.int .i64 t, .int .i64 o, .int .i64 d, .string s, .int .i64 q, .int .i64 a, .int .i64 0] tMs)) W) (by kernel_rfl) (HV.out.trans (ky_drew _)) (fun hHeld => ?_)
    refine takeH (i := 0) (d := some 3) (v := ?ev0) rfl rfl (by kernel_rfl) (by kernel_rfl) (by kernel_rfl) (fun _ _ _ h => h) (Or.inl ⟨by rfl, ?ey0⟩) (by assumption) ?er0
    case ey0 => (intro W hSw; obtain ⟨x0, x1, x2, x3, x4, x5, x6⟩ := CX.out W hSw; go_simp; try with_reducible rfl)
    try simp only [Act.put, List.setIfInBounds_toArray, List.set_cons_zero, List.set_cons_succ]
    refine takeH (i := 1) (d := some 4) (v := ?ev1) rfl rfl (by kernel_rfl) (by kernel_rfl) (by kernel_rfl) (fun _ _ _ h => h) (Or.inl ⟨by rfl, ?ey1⟩) (by assumption) ?er1
    case ey1 => (intro W hSw; obtain ⟨x0, x1, x2, x3, x4, x5, x6⟩ := CX.out W hSw; go_simp; try with_reducible rfl)
    try simp only [Act.put, List.setIfInBounds_toArray, List.set_cons_zero, List.set_cons_succ]
    refine wpAnyH_ready (rs := [2]) (by kernel_rfl) (by simp) ?_
    refine AllReadyH.cons rfl (fun K hK => ?_) AllReadyH.nil
    go_simp
    refine (C1.out _ _ hHeld).mono ?_
    rintro e wv ⟨rfl, hv⟩
    first | done | skip
    refine hK.out _ _ hv (fun hHeld => ?_)
    clear hK K hv
    try simp only [Act.put, List.setIfInBounds_toArray, List.set_cons_zero, List.set_cons_succ]
    refine takeH (i := 3) (d := some 6) (v := ?ev3) rfl rfl (by kernel_rfl) (by kernel_rfl) (by kernel_rfl) (fun _ _ _ h => h) (Or.inl ⟨by rfl, ?ey3⟩) (by assumption) ?er3
    case ey3 => (intro W hSw; obtain ⟨x0, x1, x2, x3, x4, x5, x6⟩ := CX.out W hSw; go_simp; try with_reducible rfl)
    try simp only [Act.put, List.setIfInBounds_toArray, List.set_cons_zero, List.set_cons_succ]
    refine takeH (i := 4) (d := some 7) (v := ?ev4) rfl rfl (by kernel_rfl) (by kernel_rfl) (by kernel_rfl) (fun _ _ _ h => h) (Or.inl ⟨by rfl, ?ey4⟩) (by assumption) ?er4
    case ey4 => (intro W hSw; obtain ⟨x0, x1, x2, x3, x4, x5, x6⟩ := CX.out W hSw; go_simp; try with_reducible rfl)
    try simp only [Act.put, List.setIfInBounds_toArray, List.set_cons_zero, List.set_cons_succ]
    refine takeH (i := 5) (d := some 8) (v := ?ev5) rfl rfl (by kernel_rfl) (by kernel_rfl) (by kernel_rfl) (fun _ _ _ h => h) (Or.inl ⟨by rfl, ?ey5⟩) (by assumption) ?er5
    case ey5 => (intro W hSw; obtain ⟨x0, x1, x2, x3, x4, x5, x6⟩ := CX.out W hSw; go_simp; try with_reducible rfl)
    try simp only [Act.put, List.setIfInBounds_toArray, List.set_cons_zero, List.set_cons_succ]
    refine takeH (i := 6) (d := some 9) (v := ?ev6) rfl rfl (by kernel_rfl) (by kernel_rfl) (by kernel_rfl) (fun _ _ _ h => h) (Or.inl ⟨by rfl, ?ey6⟩) (by assumption) ?er6
    case ey6 => (intro W hSw; obtain ⟨x0, x1, x2, x3, x4, x5, x6⟩ := CX.out W hSw; go_simp; try with_reducible rfl)
    try simp only [Act.put, List.setIfInBounds_toArray, List.set_cons_zero, List.set_cons_succ]
    refine takeH (i := 7) (d := some 10) (v := ?ev7) rfl rfl (by kernel_rfl) (by kernel_rfl) (by kernel_rfl) (fun _ _ _ h => h) (Or.inl ⟨by rfl, ?ey7⟩) (by assumption) ?er7
    case ey7 => (intro W hSw; obtain ⟨x0, x1, x2, x3, x4, x5, x6⟩ := CX.out W hSw; go_simp; try with_reducible rfl)
    try simp only [Act.put, List.setIfInBounds_toArray, List.set_cons_zero, List.set_cons_succ]
    refine takeH (i := 8) (d := some 11) (v := ?ev8) rfl rfl (by kernel_rfl) (by kernel_rfl) (by kernel_rfl) (fun _ _ _ h => h) (Or.inl ⟨by rfl, ?ey8⟩) (by assumption) ?er8
    case ey8 => (intro W hSw; obtain ⟨x0, x1, x2, x3, x4, x5, x6⟩ := CX.out W hSw; go_simp; try with_reducible rfl)
    try simp only [Act.put, List.setIfInBounds_toArray, List.set_cons_zero, List.set_cons_succ]
    refine takeH (i := 9) (d := some 12) (v := ?ev9) rfl rfl (by kernel_rfl) (by kernel_rfl) (by kernel_rfl) (fun _ _ _ h => h) (Or.inl ⟨by rfl, ?ey9⟩) (by assumption) ?er9
    case ey9 => (intro W hSw; obtain ⟨x0, x1, x2, x3, x4, x5, x6⟩ := CX.out W hSw; go_simp; try with_reducible rfl)
    try simp only [Act.put, List.setIfInBounds_toArray, List.set_cons_zero, List.set_cons_succ]
    refine wpAnyH_ready (rs := [10]) (by kernel_rfl) (by simp) ?_
    refine AllReadyH.cons rfl (fun K hK => ?_) AllReadyH.nil
    go_simp
    refine (P1.out _ hHeld).mono ?_
    rintro e wv ⟨rfl, hv⟩
    first | done | skip
    refine hK.out _ _ hv (fun hHeld => ?_)
    clear hK K hv
    try simp only [Act.put, List.setIfInBounds_toArray, List.set_cons_zero, List.set_cons_succ]
    refine takeH (i := 11) (d := some 14) (v := ?ev11) rfl rfl (by kernel_rfl) (by kernel_rfl) (by kernel_rfl) (fun _ _ _ h => h) (Or.inl ⟨by rfl, ?ey11⟩) (by assumption) ?er11
    case ey11 => (intro W hSw; obtain ⟨x0, x1, x2, x3, x4, x5, x6⟩ := CX.out W hSw; go_simp; try with_reducible rfl)
    try simp only [Act.put, List.setIfInBounds_toArray, List.set_cons_zero, List.set_cons_succ]
    refine takeH (i := 12) (d := some 15) (v := ?ev12) rfl rfl (by kernel_rfl) (by kernel_rfl) (by kernel_rfl) (fun _ _ _ h => h) (Or.inl ⟨by rfl, ?ey12⟩) (by assumption) ?er12
    case ey12 => (intro W hSw; obtain ⟨x0, x1, x2, x3, x4, x5, x6⟩ := CX.out W hSw; go_simp; try with_reducible rfl)
    try simp only [Act.put, List.setIfInBounds_toArray, List.set_cons_zero, List.set_cons_succ]
    refine takeH (i := 13) (d := some 16) (v := ?ev13) rfl rfl (by kernel_rfl) (by kernel_rfl) (by kernel_rfl) (fun _ _ _ h => h) (Or.inl ⟨by rfl, ?ey13⟩) (by assumption) ?er13
    case ey13 => (intro W hSw; obtain ⟨x0, x1, x2, x3, x4, x5, x6⟩ := CX.out W hSw; go_simp; try with_reducible rfl)
    try simp only [Act.put, List.setIfInBounds_toArray, List.set_cons_zero, List.set_cons_succ]
    refine takeH (i := 14) (d := some 17) (v := ?ev14) rfl rfl (by kernel_rfl) (by kernel_rfl) (by kernel_rfl) (fun _ _ _ h => h) (Or.inl ⟨by rfl, ?ey14⟩) (by assumption) ?er14
    case ey14 => (intro W hSw; obtain ⟨x0, x1, x2, x3, x4, x5, x6⟩ := CX.out W hSw; go_simp; try with_reducible rfl)
    try simp only [Act.put, List.setIfInBounds_toArray, List.set_cons_zero, List.set_cons_succ]
    refine takeH (i := 15) (d := some 18) (v := ?ev15) rfl rfl (by kernel_rfl) (by kernel_rfl) (by kernel_rfl) (fun _ _ _ h => h) (Or.inl ⟨by rfl, ?ey15⟩) (by assumption) ?er15
    case ey15 => (intro W hSw; obtain ⟨x0, x1, x2, x3, x4, x5, x6⟩ := CX.out W hSw; go_simp; try with_reducible rfl)
    try simp only [Act.put, List.setIfInBounds_toArray, List.set_cons_zero, List.set_cons_succ]
    refine takeH (i := 16) (d := some 19) (v := ?ev16) rfl rfl (by kernel_rfl) (by kernel_rfl) (by kernel_rfl) (fun _ _ _ h => h) (Or.inl ⟨by rfl, ?ey16⟩) (by assumption) ?er16
    case ey16 => (intro W hSw; obtain ⟨x0, x1, x2, x3, x4, x5, x6⟩ := CX.out W hSw; go_simp; try with_reducible rfl)
    try simp only [Act.put, List.setIfInBounds_toArray, List.set_cons_zero, List.set_cons_succ]
    refine takeH (i := 17) (d := some 20) (v := ?ev17) rfl rfl (by kernel_rfl) (by kernel_rfl) (by kernel_rfl) (fun _ _ _ h => h) (Or.inl ⟨by rfl, ?ey17⟩) (by assumption) ?er17
    case ey17 => (intro W hSw; obtain ⟨x0, x1, x2, x3, x4, x5, x6⟩ := CX.out W hSw; go_simp; try with_reducible rfl)
    try simp only [Act.put, List.setIfInBounds_toArray, List.set_cons_zero, List.set_cons_succ]
    refine wpAnyH_done (by kernel_rfl) ?_ _
    obtain ⟨x0, x1, x2, x3, x4, x5, x6⟩ := CX.out _ hHeld
    have HH := Lib.hid hHeld
    clear hHeld
    obtain ⟨g, hg⟩ : ∃ b, goodsB s = b := ⟨_, rfl⟩
    have GC := Lib.hid fun w => od_isGoods s g w HS.out hg
    have HG := Lib.hid hg
    obtain ⟨b, hb⟩ : ∃ b, qtyB q = b := ⟨_, rfl⟩
    have QC := Lib.hid fun w => od_isQty q b w hb
    have HQ := Lib.hid hb
    clear hg hb
    go_wp2_with fail
    refine (GC.out _).mono ?_
    rintro e w2 ⟨rfl, k2⟩
    have HH2 := Lib.hid (HH.out.trans k2)
    clear x0 x1 x2 x3 x4 x5 x6 k2
    obtain ⟨x0, x1, x2, x3, x4, x5, x6⟩ := CX.out _ HH2.out
    cases g with
    | false =>
      go_wp2
      go_ret
      exact ⟨ret_bool (by rw [M.out, HG.out]; rfl), KB.out.trans HH2.out⟩
    | true =>
      go_wp2_with fail
      refine (QC.out _).mono ?_
      rintro e w2 ⟨rfl, rfl⟩
      cases b with
      | false =>
        go_wp2
        go_ret
        exact ⟨ret_bool (by rw [M.out, HG.out, HQ.out]; rfl), KB.out.trans HH2.out⟩
      | true =>
        go_wp2
        go_ret
        exact ⟨ret_bool (by rw [M.out, HG.out, HQ.out]; simp [Bool.beq_eq_decide_eq]), KB.out.trans HH2.out⟩

set_option maxHeartbeats 16000000 in
set_option maxRecDepth 100000 in
theorem or_may (t o d : Int) (s : ByteArray) (q a c : Int) (w : World) (hs : s.size ≤ maxLen) :
    Calls Tryd.prog 32 #[msV t o d s q a c] w fun e w' => e = .returned (.bool (mayM t o d s q a c)) ∧ Keeps w w' := by
  have KB := Lib.hid (ky_box w (msBox t o d s q a c))
  have CX := Lib.hid (ms_cells w t o d s q a c)
  obtain ⟨b, hb⟩ : ∃ b, checkK o d = b := ⟨_, rfl⟩
  obtain ⟨p, hpp⟩ : ∃ b, partyK d = b := ⟨_, rfl⟩
  have HB := Lib.hid hb
  have HPP := Lib.hid hpp
  have HS := Lib.hid hs
  have C1 : Hid (∀ W B, Keeps B W → Calls Tryd.prog 64 #[.agg #[.int .i64 o, .int .i64 d]] W fun e w' => e = .returned (.bool b) ∧ Keeps B w') := Lib.hid fun W B k => Calls.mono (hb ▸ kr_check o d W) fun e w' h => ⟨h.1, k.trans h.2⟩
  have P1 : Hid (∀ W B, Keeps (w.alloc (msBox t o d s q a c)) B → Keeps B W → Calls Tryd.prog 65 #[.int .i64 d] W fun e w' => e = .returned (.int .i64 p) ∧ Keeps B w') := Lib.hid fun W B kb k => Calls.mono (hpp ▸ kr_party d W) fun e w' h => ⟨h.1, k.trans (Keeps.of_eq h.2)⟩
  have P1 := Lib.hid fun W => P1.out W (w.alloc (msBox t o d s q a c)) (Keeps.refl _)
  have HV := Lib.hid (Keeps.refl (w.alloc (msBox t o d s q a c)))
  have ME := Lib.hid fun h => may_key (t := t) (o := o) (d := d) (s := s) (q := q) (a := a) (c := c) h
  have MT := Lib.hid fun h => may_to (t := t) (o := o) (d := d) (s := s) (q := q) (a := a) (c := c) h
  have MC := Lib.hid fun h => may_code (t := t) (o := o) (d := d) (s := s) (q := q) (a := a) (c := c) h
  have MP := Lib.hid fun h h1 h2 h3 => may_pay (t := t) (o := o) (d := d) (s := s) (q := q) (a := a) (c := c) h h1 h2 h3
  have MG := Lib.hid fun h h1 h2 h3 => may_goods (t := t) (o := o) (d := d) (s := s) (q := q) (a := a) (c := c) h h1 h2 h3
  unfold msBox at KB CX HV P1
  unfold msV
  clear hb hpp hs 
  by_cases hb : b = true
  rotate_left
  · obtain rfl : b = false := by simpa using hb
    clear hb
    go_enter Tryd.func32, Tryd.ntmps32
    go_wp2
    refine wp_region_held_drew (S := fun W => Keeps (w.alloc (.cells #[.int .i64 t, .int .i64 o, .int .i64 d, .string s, .int .i64 q, .int .i64 a, .int .i64 c] tMs)) W) (by kernel_rfl) (HV.out.trans (ky_drew _)) (fun hHeld => ?_)
    refine takeH (i := 0) (d := some 3) (v := ?av0) rfl rfl (by kernel_rfl) (by kernel_rfl) (by kernel_rfl) (fun _ _ _ h => h) (Or.inl ⟨by rfl, ?ay0⟩) (by assumption) ?ar0
    case ay0 => (intro W hSw; obtain ⟨x0, x1, x2, x3, x4, x5, x6⟩ := CX.out W hSw; go_simp; try with_reducible rfl)
    try simp only [Act.put, List.setIfInBounds_toArray, List.set_cons_zero, List.set_cons_succ]
    refine takeH (i := 1) (d := some 4) (v := ?av1) rfl rfl (by kernel_rfl) (by kernel_rfl) (by kernel_rfl) (fun _ _ _ h => h) (Or.inl ⟨by rfl, ?ay1⟩) (by assumption) ?ar1
    case ay1 => (intro W hSw; obtain ⟨x0, x1, x2, x3, x4, x5, x6⟩ := CX.out W hSw; go_simp; try with_reducible rfl)
    try simp only [Act.put, List.setIfInBounds_toArray, List.set_cons_zero, List.set_cons_succ]
    refine wpAnyH_ready (rs := [2]) (by kernel_rfl) (by simp) ?_
    refine AllReadyH.cons rfl (fun K hK => ?_) AllReadyH.nil
    go_simp
    refine (C1.out _ _ hHeld).mono ?_
    rintro e wv ⟨rfl, hv⟩
    first | done | skip
    refine hK.out _ _ hv (fun hHeld => ?_)
    clear hK K hv
    try simp only [Act.put, List.setIfInBounds_toArray, List.set_cons_zero, List.set_cons_succ]
    refine takeH (i := 3) (d := some 6) (v := ?av3) rfl rfl (by kernel_rfl) (by kernel_rfl) (by kernel_rfl) (fun _ _ _ h => h) (Or.inl ⟨by rfl, ?ay3⟩) (by assumption) ?ar3
    case ay3 => (intro W hSw; obtain ⟨x0, x1, x2, x3, x4, x5, x6⟩ := CX.out W hSw; go_simp; try with_reducible rfl)
    try simp only [Act.put, List.setIfInBounds_toArray, List.set_cons_zero, List.set_cons_succ]
    refine takeH (i := 4) (d := some 7) (v := ?av4) rfl rfl (by kernel_rfl) (by kernel_rfl) (by kernel_rfl) (fun _ _ _ h => h) (Or.inl ⟨by rfl, ?ay4⟩) (by assumption) ?ar4
    case ay4 => (intro W hSw; obtain ⟨x0, x1, x2, x3, x4, x5, x6⟩ := CX.out W hSw; go_simp; try with_reducible rfl)
    try simp only [Act.put, List.setIfInBounds_toArray, List.set_cons_zero, List.set_cons_succ]
    refine skipH (i := 5) (d := some 8) rfl rfl (by kernel_rfl) (by kernel_rfl) (by kernel_rfl) (fun _ _ _ h => h) (by rfl) (by assumption) ?_
    try simp only [Act.put, List.setIfInBounds_toArray, List.set_cons_zero, List.set_cons_succ]
    refine skipH (i := 6) (d := some 9) rfl rfl (by kernel_rfl) (by kernel_rfl) (by kernel_rfl) (fun _ _ _ h => h) (by rfl) (by assumption) ?_
    try simp only [Act.put, List.setIfInBounds_toArray, List.set_cons_zero, List.set_cons_succ]
    refine skipH (i := 7) (d := some 10) rfl rfl (by kernel_rfl) (by kernel_rfl) (by kernel_rfl) (fun _ _ _ h => h) (by rfl) (by assumption) ?_
    try simp only [Act.put, List.setIfInBounds_toArray, List.set_cons_zero, List.set_cons_succ]
    refine skipH (i := 9) (d := some 12) rfl rfl (by kernel_rfl) (by kernel_rfl) (by kernel_rfl) (fun _ _ _ h => h) (by rfl) (by assumption) ?_
    try simp only [Act.put, List.setIfInBounds_toArray, List.set_cons_zero, List.set_cons_succ]
    refine skipH (i := 10) (d := some 13) rfl rfl (by kernel_rfl) (by kernel_rfl) (by kernel_rfl) (fun _ _ _ h => h) (by rfl) (by assumption) ?_
    try simp only [Act.put, List.setIfInBounds_toArray, List.set_cons_zero, List.set_cons_succ]
    refine skipH (i := 8) (d := some 11) rfl rfl (by kernel_rfl) (by kernel_rfl) (by kernel_rfl) (fun _ _ _ h => h) (by rfl) (by assumption) ?_
    try simp only [Act.put, List.setIfInBounds_toArray, List.set_cons_zero, List.set_cons_succ]
    refine skipH (i := 11) (d := some 14) rfl rfl (by kernel_rfl) (by kernel_rfl) (by kernel_rfl) (fun _ _ _ h => h) (by rfl) (by assumption) ?_
    try simp only [Act.put, List.setIfInBounds_toArray, List.set_cons_zero, List.set_cons_succ]
    refine takeH (i := 12) (d := some 15) (v := ?av12) rfl rfl (by kernel_rfl) (by kernel_rfl) (by kernel_rfl) (fun _ _ _ h => h) (Or.inl ⟨by rfl, ?ay12⟩) (by assumption) ?ar12
    case ay12 => (intro W hSw; obtain ⟨x0, x1, x2, x3, x4, x5, x6⟩ := CX.out W hSw; go_simp; try with_reducible rfl)
    try simp only [Act.put, List.setIfInBounds_toArray, List.set_cons_zero, List.set_cons_succ]
    refine takeH (i := 13) (d := some 16) (v := ?av13) rfl rfl (by kernel_rfl) (by kernel_rfl) (by kernel_rfl) (fun _ _ _ h => h) (Or.inl ⟨by rfl, ?ay13⟩) (by assumption) ?ar13
    case ay13 => (intro W hSw; obtain ⟨x0, x1, x2, x3, x4, x5, x6⟩ := CX.out W hSw; go_simp; try with_reducible rfl)
    try simp only [Act.put, List.setIfInBounds_toArray, List.set_cons_zero, List.set_cons_succ]
    refine skipH (i := 14) (d := some 17) rfl rfl (by kernel_rfl) (by kernel_rfl) (by kernel_rfl) (fun _ _ _ h => h) (by rfl) (by assumption) ?_
    try simp only [Act.put, List.setIfInBounds_toArray, List.set_cons_zero, List.set_cons_succ]
    refine skipH (i := 15) (d := some 18) rfl rfl (by kernel_rfl) (by kernel_rfl) (by kernel_rfl) (fun _ _ _ h => h) (by rfl) (by assumption) ?_
    try simp only [Act.put, List.setIfInBounds_toArray, List.set_cons_zero, List.set_cons_succ]
    refine skipH (i := 16) (d := some 19) rfl rfl (by kernel_rfl) (by kernel_rfl) (by kernel_rfl) (fun _ _ _ h => h) (by rfl) (by assumption) ?_
    try simp only [Act.put, List.setIfInBounds_toArray, List.set_cons_zero, List.set_cons_succ]
    refine takeH (i := 17) (d := some 20) (v := ?av17) rfl rfl (by kernel_rfl) (by kernel_rfl) (by kernel_rfl) (fun _ _ _ h => h) (Or.inl ⟨by rfl, ?ay17⟩) (by assumption) ?ar17
    case ay17 => (intro W hSw; obtain ⟨x0, x1, x2, x3, x4, x5, x6⟩ := CX.out W hSw; go_simp; try with_reducible rfl)
    try simp only [Act.put, List.setIfInBounds_toArray, List.set_cons_zero, List.set_cons_succ]
    refine wpAnyH_done (by kernel_rfl) ?_ _
    go_wp2
    go_ret
    exact ⟨ret_bool (ME.out HB.out).symm, KB.out.trans hHeld⟩
  subst hb
  by_cases ht : t = p
  rotate_left
  · have T1 : (t == p) = false := by rw [beq_eq_false_iff_ne]; exact ht
    have T2 : (t != p) = true := by rw [bne, T1]; rfl
    have T3 : (p == t) = false := by rw [beq_eq_false_iff_ne]; exact fun e => ht e.symm
    have T4 : (p != t) = true := by rw [bne, T3]; rfl
    have HT := Lib.hid ht
    clear ht
    go_enter Tryd.func32, Tryd.ntmps32
    go_wp2
    refine wp_region_held_drew (S := fun W => Keeps (w.alloc (.cells #[.int .i64 t, .int .i64 o, .int .i64 d, .string s, .int .i64 q, .int .i64 a, .int .i64 c] tMs)) W) (by kernel_rfl) (HV.out.trans (ky_drew _)) (fun hHeld => ?_)
    refine takeH (i := 0) (d := some 3) (v := ?bv0) rfl rfl (by kernel_rfl) (by kernel_rfl) (by kernel_rfl) (fun _ _ _ h => h) (Or.inl ⟨by rfl, ?by0⟩) (by assumption) ?br0
    case by0 => (intro W hSw; obtain ⟨x0, x1, x2, x3, x4, x5, x6⟩ := CX.out W hSw; go_simp; try with_reducible rfl)
    try simp only [Act.put, List.setIfInBounds_toArray, List.set_cons_zero, List.set_cons_succ]
    refine takeH (i := 1) (d := some 4) (v := ?bv1) rfl rfl (by kernel_rfl) (by kernel_rfl) (by kernel_rfl) (fun _ _ _ h => h) (Or.inl ⟨by rfl, ?by1⟩) (by assumption) ?br1
    case by1 => (intro W hSw; obtain ⟨x0, x1, x2, x3, x4, x5, x6⟩ := CX.out W hSw; go_simp; try with_reducible rfl)
    try simp only [Act.put, List.setIfInBounds_toArray, List.set_cons_zero, List.set_cons_succ]
    refine wpAnyH_ready (rs := [2]) (by kernel_rfl) (by simp) ?_
    refine AllReadyH.cons rfl (fun K hK => ?_) AllReadyH.nil
    go_simp
    refine (C1.out _ _ hHeld).mono ?_
    rintro e wv ⟨rfl, hv⟩
    first | done | skip
    refine hK.out _ _ hv (fun hHeld => ?_)
    clear hK K hv
    try simp only [Act.put, List.setIfInBounds_toArray, List.set_cons_zero, List.set_cons_succ]
    refine takeH (i := 3) (d := some 6) (v := ?bv3) rfl rfl (by kernel_rfl) (by kernel_rfl) (by kernel_rfl) (fun _ _ _ h => h) (Or.inl ⟨by rfl, ?by3⟩) (by assumption) ?br3
    case by3 => (intro W hSw; obtain ⟨x0, x1, x2, x3, x4, x5, x6⟩ := CX.out W hSw; go_simp; try with_reducible rfl)
    try simp only [Act.put, List.setIfInBounds_toArray, List.set_cons_zero, List.set_cons_succ]
    refine takeH (i := 4) (d := some 7) (v := ?bv4) rfl rfl (by kernel_rfl) (by kernel_rfl) (by kernel_rfl) (fun _ _ _ h => h) (Or.inl ⟨by rfl, ?by4⟩) (by assumption) ?br4
    case by4 => (intro W hSw; obtain ⟨x0, x1, x2, x3, x4, x5, x6⟩ := CX.out W hSw; go_simp; try with_reducible rfl)
    try simp only [Act.put, List.setIfInBounds_toArray, List.set_cons_zero, List.set_cons_succ]
    refine takeH (i := 5) (d := some 8) (v := ?bv5) rfl rfl (by kernel_rfl) (by kernel_rfl) (by kernel_rfl) (fun _ _ _ h => h) (Or.inl ⟨by rfl, ?by5⟩) (by assumption) ?br5
    case by5 => (intro W hSw; obtain ⟨x0, x1, x2, x3, x4, x5, x6⟩ := CX.out W hSw; go_simp; try with_reducible rfl)
    try simp only [Act.put, List.setIfInBounds_toArray, List.set_cons_zero, List.set_cons_succ]
    refine takeH (i := 6) (d := some 9) (v := ?bv6) rfl rfl (by kernel_rfl) (by kernel_rfl) (by kernel_rfl) (fun _ _ _ h => h) (Or.inl ⟨by rfl, ?by6⟩) (by assumption) ?br6
    case by6 => (intro W hSw; obtain ⟨x0, x1, x2, x3, x4, x5, x6⟩ := CX.out W hSw; go_simp; try with_reducible rfl)
    try simp only [Act.put, List.setIfInBounds_toArray, List.set_cons_zero, List.set_cons_succ]
    refine takeH (i := 7) (d := some 10) (v := ?bv7) rfl rfl (by kernel_rfl) (by kernel_rfl) (by kernel_rfl) (fun _ _ _ h => h) (Or.inl ⟨by rfl, ?by7⟩) (by assumption) ?br7
    case by7 => (intro W hSw; obtain ⟨x0, x1, x2, x3, x4, x5, x6⟩ := CX.out W hSw; go_simp; try with_reducible rfl)
    try simp only [Act.put, List.setIfInBounds_toArray, List.set_cons_zero, List.set_cons_succ]
    refine takeH (i := 9) (d := some 12) (v := ?bv9) rfl rfl (by kernel_rfl) (by kernel_rfl) (by kernel_rfl) (fun _ _ _ h => h) (Or.inl ⟨by rfl, ?by9⟩) (by assumption) ?br9
    case by9 => (intro W hSw; obtain ⟨x0, x1, x2, x3, x4, x5, x6⟩ := CX.out W hSw; go_simp; try with_reducible rfl)
    try simp only [Act.put, List.setIfInBounds_toArray, List.set_cons_zero, List.set_cons_succ]
    refine takeH (i := 10) (d := some 13) (v := ?bv10) rfl rfl (by kernel_rfl) (by kernel_rfl) (by kernel_rfl) (fun _ _ _ h => h) (Or.inl ⟨by rfl, ?by10⟩) (by assumption) ?br10
    case by10 => (intro W hSw; obtain ⟨x0, x1, x2, x3, x4, x5, x6⟩ := CX.out W hSw; go_simp; try with_reducible rfl)
    try simp only [Act.put, List.setIfInBounds_toArray, List.set_cons_zero, List.set_cons_succ]
    refine wpAnyH_ready (rs := [8]) (by kernel_rfl) (by simp) ?_
    refine AllReadyH.cons rfl (fun K hK => ?_) AllReadyH.nil
    go_simp
    refine (P1.out _ hHeld).mono ?_
    rintro e wv ⟨rfl, hv⟩
    first | done | skip
    refine hK.out _ _ hv (fun hHeld => ?_)
    clear hK K hv
    try simp only [Act.put, List.setIfInBounds_toArray, List.set_cons_zero, List.set_cons_succ]
    refine takeH (i := 11) (d := some 14) (v := ?bv11) rfl rfl (by kernel_rfl) (by kernel_rfl) (by kernel_rfl) (fun _ _ _ h => h) (Or.inl ⟨by rfl, ?by11⟩) (by assumption) ?br11
    case by11 => (intro W hSw; obtain ⟨x0, x1, x2, x3, x4, x5, x6⟩ := CX.out W hSw; go_simp; try with_reducible rfl)
    try simp only [Act.put, List.setIfInBounds_toArray, List.set_cons_zero, List.set_cons_succ]
    refine takeH (i := 12) (d := some 15) (v := ?bv12) rfl rfl (by kernel_rfl) (by kernel_rfl) (by kernel_rfl) (fun _ _ _ h => h) (Or.inl ⟨by rfl, ?by12⟩) (by assumption) ?br12
    case by12 => (intro W hSw; obtain ⟨x0, x1, x2, x3, x4, x5, x6⟩ := CX.out W hSw; go_simp; try with_reducible rfl)
    try simp only [Act.put, List.setIfInBounds_toArray, List.set_cons_zero, List.set_cons_succ]
    refine takeH (i := 13) (d := some 16) (v := ?bv13) rfl rfl (by kernel_rfl) (by kernel_rfl) (by kernel_rfl) (fun _ _ _ h => h) (Or.inl ⟨by rfl, ?by13⟩) (by assumption) ?br13
    case by13 => (intro W hSw; obtain ⟨x0, x1, x2, x3, x4, x5, x6⟩ := CX.out W hSw; go_simp; try with_reducible rfl)
    try simp only [Act.put, List.setIfInBounds_toArray, List.set_cons_zero, List.set_cons_succ]
    refine skipH (i := 14) (d := some 17) rfl rfl (by kernel_rfl) (by kernel_rfl) (by kernel_rfl) (fun _ _ _ h => h) (by rfl) (by assumption) ?_
    try simp only [Act.put, List.setIfInBounds_toArray, List.set_cons_zero, List.set_cons_succ]
    refine skipH (i := 15) (d := some 18) rfl rfl (by kernel_rfl) (by kernel_rfl) (by kernel_rfl) (fun _ _ _ h => h) (by rfl) (by assumption) ?_
    try simp only [Act.put, List.setIfInBounds_toArray, List.set_cons_zero, List.set_cons_succ]
    refine skipH (i := 16) (d := some 19) rfl rfl (by kernel_rfl) (by kernel_rfl) (by kernel_rfl) (fun _ _ _ h => h) (by rfl) (by assumption) ?_
    try simp only [Act.put, List.setIfInBounds_toArray, List.set_cons_zero, List.set_cons_succ]
    refine takeH (i := 17) (d := some 20) (v := ?bv17) rfl rfl (by kernel_rfl) (by kernel_rfl) (by kernel_rfl) (fun _ _ _ h => h) (Or.inl ⟨by rfl, ?by17⟩) (by assumption) ?br17
    case by17 => (intro W hSw; obtain ⟨x0, x1, x2, x3, x4, x5, x6⟩ := CX.out W hSw; go_simp; try with_reducible rfl)
    try simp only [Act.put, List.setIfInBounds_toArray, List.set_cons_zero, List.set_cons_succ]
    refine wpAnyH_done (by kernel_rfl) ?_ _
    go_wp2
    go_ret
    exact ⟨ret_bool (MT.out (by rw [HPP.out]; exact HT.out)).symm, KB.out.trans hHeld⟩
  subst ht
  by_cases hc : c = 0
  rotate_left
  · have T1 : (c == 0) = false := by rw [beq_eq_false_iff_ne]; exact hc
    have T2 : (c != 0) = true := by rw [bne, T1]; rfl
    have HCC := Lib.hid hc
    clear hc
    go_enter Tryd.func32, Tryd.ntmps32
    go_wp2
    refine wp_region_held_drew (S := fun W => Keeps (w.alloc (.cells #[.int .i64 t, .int .i64 o, .int .i64 d, .string s, .int .i64 q, .int .i64 a, .int .i64 c] tMs)) W) (by kernel_rfl) (HV.out.trans (ky_drew _)) (fun hHeld => ?_)
    refine takeH (i := 0) (d := some 3) (v := ?cv0) rfl rfl (by kernel_rfl) (by kernel_rfl) (by kernel_rfl) (fun _ _ _ h => h) (Or.inl ⟨by rfl, ?cy0⟩) (by assumption) ?cr0
    case cy0 => (intro W hSw; obtain ⟨x0, x1, x2, x3, x4, x5, x6⟩ := CX.out W hSw; go_simp; try with_reducible rfl)
    try simp only [Act.put, List.setIfInBounds_toArray, List.set_cons_zero, List.set_cons_succ]
    refine takeH (i := 1) (d := some 4) (v := ?cv1) rfl rfl (by kernel_rfl) (by kernel_rfl) (by kernel_rfl) (fun _ _ _ h => h) (Or.inl ⟨by rfl, ?cy1⟩) (by assumption) ?cr1
    case cy1 => (intro W hSw; obtain ⟨x0, x1, x2, x3, x4, x5, x6⟩ := CX.out W hSw; go_simp; try with_reducible rfl)
    try simp only [Act.put, List.setIfInBounds_toArray, List.set_cons_zero, List.set_cons_succ]
    refine wpAnyH_ready (rs := [2]) (by kernel_rfl) (by simp) ?_
    refine AllReadyH.cons rfl (fun K hK => ?_) AllReadyH.nil
    go_simp
    refine (C1.out _ _ hHeld).mono ?_
    rintro e wv ⟨rfl, hv⟩
    first | done | skip
    refine hK.out _ _ hv (fun hHeld => ?_)
    clear hK K hv
    try simp only [Act.put, List.setIfInBounds_toArray, List.set_cons_zero, List.set_cons_succ]
    refine takeH (i := 3) (d := some 6) (v := ?cv3) rfl rfl (by kernel_rfl) (by kernel_rfl) (by kernel_rfl) (fun _ _ _ h => h) (Or.inl ⟨by rfl, ?cy3⟩) (by assumption) ?cr3
    case cy3 => (intro W hSw; obtain ⟨x0, x1, x2, x3, x4, x5, x6⟩ := CX.out W hSw; go_simp; try with_reducible rfl)
    try simp only [Act.put, List.setIfInBounds_toArray, List.set_cons_zero, List.set_cons_succ]
    refine takeH (i := 4) (d := some 7) (v := ?cv4) rfl rfl (by kernel_rfl) (by kernel_rfl) (by kernel_rfl) (fun _ _ _ h => h) (Or.inl ⟨by rfl, ?cy4⟩) (by assumption) ?cr4
    case cy4 => (intro W hSw; obtain ⟨x0, x1, x2, x3, x4, x5, x6⟩ := CX.out W hSw; go_simp; try with_reducible rfl)
    try simp only [Act.put, List.setIfInBounds_toArray, List.set_cons_zero, List.set_cons_succ]
    refine takeH (i := 5) (d := some 8) (v := ?cv5) rfl rfl (by kernel_rfl) (by kernel_rfl) (by kernel_rfl) (fun _ _ _ h => h) (Or.inl ⟨by rfl, ?cy5⟩) (by assumption) ?cr5
    case cy5 => (intro W hSw; obtain ⟨x0, x1, x2, x3, x4, x5, x6⟩ := CX.out W hSw; go_simp; try with_reducible rfl)
    try simp only [Act.put, List.setIfInBounds_toArray, List.set_cons_zero, List.set_cons_succ]
    refine takeH (i := 6) (d := some 9) (v := ?cv6) rfl rfl (by kernel_rfl) (by kernel_rfl) (by kernel_rfl) (fun _ _ _ h => h) (Or.inl ⟨by rfl, ?cy6⟩) (by assumption) ?cr6
    case cy6 => (intro W hSw; obtain ⟨x0, x1, x2, x3, x4, x5, x6⟩ := CX.out W hSw; go_simp; try with_reducible rfl)
    try simp only [Act.put, List.setIfInBounds_toArray, List.set_cons_zero, List.set_cons_succ]
    refine takeH (i := 7) (d := some 10) (v := ?cv7) rfl rfl (by kernel_rfl) (by kernel_rfl) (by kernel_rfl) (fun _ _ _ h => h) (Or.inl ⟨by rfl, ?cy7⟩) (by assumption) ?cr7
    case cy7 => (intro W hSw; obtain ⟨x0, x1, x2, x3, x4, x5, x6⟩ := CX.out W hSw; go_simp; try with_reducible rfl)
    try simp only [Act.put, List.setIfInBounds_toArray, List.set_cons_zero, List.set_cons_succ]
    refine takeH (i := 9) (d := some 12) (v := ?cv9) rfl rfl (by kernel_rfl) (by kernel_rfl) (by kernel_rfl) (fun _ _ _ h => h) (Or.inl ⟨by rfl, ?cy9⟩) (by assumption) ?cr9
    case cy9 => (intro W hSw; obtain ⟨x0, x1, x2, x3, x4, x5, x6⟩ := CX.out W hSw; go_simp; try with_reducible rfl)
    try simp only [Act.put, List.setIfInBounds_toArray, List.set_cons_zero, List.set_cons_succ]
    refine takeH (i := 10) (d := some 13) (v := ?cv10) rfl rfl (by kernel_rfl) (by kernel_rfl) (by kernel_rfl) (fun _ _ _ h => h) (Or.inl ⟨by rfl, ?cy10⟩) (by assumption) ?cr10
    case cy10 => (intro W hSw; obtain ⟨x0, x1, x2, x3, x4, x5, x6⟩ := CX.out W hSw; go_simp; try with_reducible rfl)
    try simp only [Act.put, List.setIfInBounds_toArray, List.set_cons_zero, List.set_cons_succ]
    refine wpAnyH_ready (rs := [8]) (by kernel_rfl) (by simp) ?_
    refine AllReadyH.cons rfl (fun K hK => ?_) AllReadyH.nil
    go_simp
    refine (P1.out _ hHeld).mono ?_
    rintro e wv ⟨rfl, hv⟩
    first | done | skip
    refine hK.out _ _ hv (fun hHeld => ?_)
    clear hK K hv
    try simp only [Act.put, List.setIfInBounds_toArray, List.set_cons_zero, List.set_cons_succ]
    refine takeH (i := 11) (d := some 14) (v := ?cv11) rfl rfl (by kernel_rfl) (by kernel_rfl) (by kernel_rfl) (fun _ _ _ h => h) (Or.inl ⟨by rfl, ?cy11⟩) (by assumption) ?cr11
    case cy11 => (intro W hSw; obtain ⟨x0, x1, x2, x3, x4, x5, x6⟩ := CX.out W hSw; go_simp; try with_reducible rfl)
    try simp only [Act.put, List.setIfInBounds_toArray, List.set_cons_zero, List.set_cons_succ]
    refine takeH (i := 12) (d := some 15) (v := ?cv12) rfl rfl (by kernel_rfl) (by kernel_rfl) (by kernel_rfl) (fun _ _ _ h => h) (Or.inl ⟨by rfl, ?cy12⟩) (by assumption) ?cr12
    case cy12 => (intro W hSw; obtain ⟨x0, x1, x2, x3, x4, x5, x6⟩ := CX.out W hSw; go_simp; try with_reducible rfl)
    try simp only [Act.put, List.setIfInBounds_toArray, List.set_cons_zero, List.set_cons_succ]
    refine takeH (i := 13) (d := some 16) (v := ?cv13) rfl rfl (by kernel_rfl) (by kernel_rfl) (by kernel_rfl) (fun _ _ _ h => h) (Or.inl ⟨by rfl, ?cy13⟩) (by assumption) ?cr13
    case cy13 => (intro W hSw; obtain ⟨x0, x1, x2, x3, x4, x5, x6⟩ := CX.out W hSw; go_simp; try with_reducible rfl)
    try simp only [Act.put, List.setIfInBounds_toArray, List.set_cons_zero, List.set_cons_succ]
    refine takeH (i := 14) (d := some 17) (v := ?cv14) rfl rfl (by kernel_rfl) (by kernel_rfl) (by kernel_rfl) (fun _ _ _ h => h) (Or.inl ⟨by rfl, ?cy14⟩) (by assumption) ?cr14
    case cy14 => (intro W hSw; obtain ⟨x0, x1, x2, x3, x4, x5, x6⟩ := CX.out W hSw; go_simp; try with_reducible rfl)
    try simp only [Act.put, List.setIfInBounds_toArray, List.set_cons_zero, List.set_cons_succ]
    refine takeH (i := 15) (d := some 18) (v := ?cv15) rfl rfl (by kernel_rfl) (by kernel_rfl) (by kernel_rfl) (fun _ _ _ h => h) (Or.inl ⟨by rfl, ?cy15⟩) (by assumption) ?cr15
    case cy15 => (intro W hSw; obtain ⟨x0, x1, x2, x3, x4, x5, x6⟩ := CX.out W hSw; go_simp; try with_reducible rfl)
    try simp only [Act.put, List.setIfInBounds_toArray, List.set_cons_zero, List.set_cons_succ]
    refine takeH (i := 16) (d := some 19) (v := ?cv16) rfl rfl (by kernel_rfl) (by kernel_rfl) (by kernel_rfl) (fun _ _ _ h => h) (Or.inl ⟨by rfl, ?cy16⟩) (by assumption) ?cr16
    case cy16 => (intro W hSw; obtain ⟨x0, x1, x2, x3, x4, x5, x6⟩ := CX.out W hSw; go_simp; try with_reducible rfl)
    try simp only [Act.put, List.setIfInBounds_toArray, List.set_cons_zero, List.set_cons_succ]
    refine takeH (i := 17) (d := some 20) (v := ?cv17) rfl rfl (by kernel_rfl) (by kernel_rfl) (by kernel_rfl) (fun _ _ _ h => h) (Or.inl ⟨by rfl, ?cy17⟩) (by assumption) ?cr17
    case cy17 => (intro W hSw; obtain ⟨x0, x1, x2, x3, x4, x5, x6⟩ := CX.out W hSw; go_simp; try with_reducible rfl)
    try simp only [Act.put, List.setIfInBounds_toArray, List.set_cons_zero, List.set_cons_succ]
    refine wpAnyH_done (by kernel_rfl) ?_ _
    go_wp2
    go_ret
    exact ⟨ret_bool (MC.out HCC.out).symm, KB.out.trans hHeld⟩
  subst hc
  by_cases h0 : t = 0
  · subst h0
    have M := Lib.hid (MP.out HB.out HPP.out.symm rfl rfl)
    clear MP MG MT MC ME
    go_enter Tryd.func32, Tryd.ntmps32
    go_wp2
    refine wp_region_held_drew (S := fun W => Keeps (w.alloc (.cells #[.int .i64 0, .int .i64 o, .int .i64 d, .string s, .int .i64 q, .int .i64 a, .int .i64 0] tMs)) W) (by kernel_rfl) (HV.out.trans (ky_drew _)) (fun hHeld => ?_)
    refine takeH (i := 0) (d := some 3) (v := ?dv0) rfl rfl (by kernel_rfl) (by kernel_rfl) (by kernel_rfl) (fun _ _ _ h => h) (Or.inl ⟨by rfl, ?dy0⟩) (by assumption) ?dr0
    case dy0 => (intro W hSw; obtain ⟨x0, x1, x2, x3, x4, x5, x6⟩ := CX.out W hSw; go_simp; try with_reducible rfl)
    try simp only [Act.put, List.setIfInBounds_toArray, List.set_cons_zero, List.set_cons_succ]
    refine takeH (i := 1) (d := some 4) (v := ?dv1) rfl rfl (by kernel_rfl) (by kernel_rfl) (by kernel_rfl) (fun _ _ _ h => h) (Or.inl ⟨by rfl, ?dy1⟩) (by assumption) ?dr1
    case dy1 => (intro W hSw; obtain ⟨x0, x1, x2, x3, x4, x5, x6⟩ := CX.out W hSw; go_simp; try with_reducible rfl)
    try simp only [Act.put, List.setIfInBounds_toArray, List.set_cons_zero, List.set_cons_succ]
    refine wpAnyH_ready (rs := [2]) (by kernel_rfl) (by simp) ?_
    refine AllReadyH.cons rfl (fun K hK => ?_) AllReadyH.nil
    go_simp
    refine (C1.out _ _ hHeld).mono ?_
    rintro e wv ⟨rfl, hv⟩
    first | done | skip
    refine hK.out _ _ hv (fun hHeld => ?_)
    clear hK K hv
    try simp only [Act.put, List.setIfInBounds_toArray, List.set_cons_zero, List.set_cons_succ]
    refine takeH (i := 3) (d := some 6) (v := ?dv3) rfl rfl (by kernel_rfl) (by kernel_rfl) (by kernel_rfl) (fun _ _ _ h => h) (Or.inl ⟨by rfl, ?dy3⟩) (by assumption) ?dr3
    case dy3 => (intro W hSw; obtain ⟨x0, x1, x2, x3, x4, x5, x6⟩ := CX.out W hSw; go_simp; try with_reducible rfl)
    try simp only [Act.put, List.setIfInBounds_toArray, List.set_cons_zero, List.set_cons_succ]
    refine takeH (i := 4) (d := some 7) (v := ?dv4) rfl rfl (by kernel_rfl) (by kernel_rfl) (by kernel_rfl) (fun _ _ _ h => h) (Or.inl ⟨by rfl, ?dy4⟩) (by assumption) ?dr4
    case dy4 => (intro W hSw; obtain ⟨x0, x1, x2, x3, x4, x5, x6⟩ := CX.out W hSw; go_simp; try with_reducible rfl)
    try simp only [Act.put, List.setIfInBounds_toArray, List.set_cons_zero, List.set_cons_succ]
    refine takeH (i := 5) (d := some 8) (v := ?dv5) rfl rfl (by kernel_rfl) (by kernel_rfl) (by kernel_rfl) (fun _ _ _ h => h) (Or.inl ⟨by rfl, ?dy5⟩) (by assumption) ?dr5
    case dy5 => (intro W hSw; obtain ⟨x0, x1, x2, x3, x4, x5, x6⟩ := CX.out W hSw; go_simp; try with_reducible rfl)
    try simp only [Act.put, List.setIfInBounds_toArray, List.set_cons_zero, List.set_cons_succ]
    refine takeH (i := 6) (d := some 9) (v := ?dv6) rfl rfl (by kernel_rfl) (by kernel_rfl) (by kernel_rfl) (fun _ _ _ h => h) (Or.inl ⟨by rfl, ?dy6⟩) (by assumption) ?dr6
    case dy6 => (intro W hSw; obtain ⟨x0, x1, x2, x3, x4, x5, x6⟩ := CX.out W hSw; go_simp; try with_reducible rfl)
    try simp only [Act.put, List.setIfInBounds_toArray, List.set_cons_zero, List.set_cons_succ]
    refine takeH (i := 7) (d := some 10) (v := ?dv7) rfl rfl (by kernel_rfl) (by kernel_rfl) (by kernel_rfl) (fun _ _ _ h => h) (Or.inl ⟨by rfl, ?dy7⟩) (by assumption) ?dr7
    case dy7 => (intro W hSw; obtain ⟨x0, x1, x2, x3, x4, x5, x6⟩ := CX.out W hSw; go_simp; try with_reducible rfl)
    try simp only [Act.put, List.setIfInBounds_toArray, List.set_cons_zero, List.set_cons_succ]
    refine takeH (i := 9) (d := some 12) (v := ?dv9) rfl rfl (by kernel_rfl) (by kernel_rfl) (by kernel_rfl) (fun _ _ _ h => h) (Or.inl ⟨by rfl, ?dy9⟩) (by assumption) ?dr9
    case dy9 => (intro W hSw; obtain ⟨x0, x1, x2, x3, x4, x5, x6⟩ := CX.out W hSw; go_simp; try with_reducible rfl)
    try simp only [Act.put, List.setIfInBounds_toArray, List.set_cons_zero, List.set_cons_succ]
    refine takeH (i := 10) (d := some 13) (v := ?dv10) rfl rfl (by kernel_rfl) (by kernel_rfl) (by kernel_rfl) (fun _ _ _ h => h) (Or.inl ⟨by rfl, ?dy10⟩) (by assumption) ?dr10
    case dy10 => (intro W hSw; obtain ⟨x0, x1, x2, x3, x4, x5, x6⟩ := CX.out W hSw; go_simp; try with_reducible rfl)
    try simp only [Act.put, List.setIfInBounds_toArray, List.set_cons_zero, List.set_cons_succ]
    refine wpAnyH_ready (rs := [8]) (by kernel_rfl) (by simp) ?_
    refine AllReadyH.cons rfl (fun K hK => ?_) AllReadyH.nil
    go_simp
    refine (P1.out _ hHeld).mono ?_
    rintro e wv ⟨rfl, hv⟩
    first | done | skip
    refine hK.out _ _ hv (fun hHeld => ?_)
    clear hK K hv
    try simp only [Act.put, List.setIfInBounds_toArray, List.set_cons_zero, List.set_cons_succ]
    refine takeH (i := 11) (d := some 14) (v := ?dv11) rfl rfl (by kernel_rfl) (by kernel_rfl) (by kernel_rfl) (fun _ _ _ h => h) (Or.inl ⟨by rfl, ?dy11⟩) (by assumption) ?dr11
    case dy11 => (intro W hSw; obtain ⟨x0, x1, x2, x3, x4, x5, x6⟩ := CX.out W hSw; go_simp; try with_reducible rfl)
    try simp only [Act.put, List.setIfInBounds_toArray, List.set_cons_zero, List.set_cons_succ]
    refine takeH (i := 12) (d := some 15) (v := ?dv12) rfl rfl (by kernel_rfl) (by kernel_rfl) (by kernel_rfl) (fun _ _ _ h => h) (Or.inl ⟨by rfl, ?dy12⟩) (by assumption) ?dr12
    case dy12 => (intro W hSw; obtain ⟨x0, x1, x2, x3, x4, x5, x6⟩ := CX.out W hSw; go_simp; try with_reducible rfl)
    try simp only [Act.put, List.setIfInBounds_toArray, List.set_cons_zero, List.set_cons_succ]
    refine takeH (i := 13) (d := some 16) (v := ?dv13) rfl rfl (by kernel_rfl) (by kernel_rfl) (by kernel_rfl) (fun _ _ _ h => h) (Or.inl ⟨by rfl, ?dy13⟩) (by assumption) ?dr13
    case dy13 => (intro W hSw; obtain ⟨x0, x1, x2, x3, x4, x5, x6⟩ := CX.out W hSw; go_simp; try with_reducible rfl)
    try simp only [Act.put, List.setIfInBounds_toArray, List.set_cons_zero, List.set_cons_succ]
    refine takeH (i := 14) (d := some 17) (v := ?dv14) rfl rfl (by kernel_rfl) (by kernel_rfl) (by kernel_rfl) (fun _ _ _ h => h) (Or.inl ⟨by rfl, ?dy14⟩) (by assumption) ?dr14
    case dy14 => (intro W hSw; obtain ⟨x0, x1, x2, x3, x4, x5, x6⟩ := CX.out W hSw; go_simp; try with_reducible rfl)
    try simp only [Act.put, List.setIfInBounds_toArray, List.set_cons_zero, List.set_cons_succ]
    refine takeH (i := 15) (d := some 18) (v := ?dv15) rfl rfl (by kernel_rfl) (by kernel_rfl) (by kernel_rfl) (fun _ _ _ h => h) (Or.inl ⟨by rfl, ?dy15⟩) (by assumption) ?dr15
    case dy15 => (intro W hSw; obtain ⟨x0, x1, x2, x3, x4, x5, x6⟩ := CX.out W hSw; go_simp; try with_reducible rfl)
    try simp only [Act.put, List.setIfInBounds_toArray, List.set_cons_zero, List.set_cons_succ]
    refine takeH (i := 16) (d := some 19) (v := ?dv16) rfl rfl (by kernel_rfl) (by kernel_rfl) (by kernel_rfl) (fun _ _ _ h => h) (Or.inl ⟨by rfl, ?dy16⟩) (by assumption) ?dr16
    case dy16 => (intro W hSw; obtain ⟨x0, x1, x2, x3, x4, x5, x6⟩ := CX.out W hSw; go_simp; try with_reducible rfl)
    try simp only [Act.put, List.setIfInBounds_toArray, List.set_cons_zero, List.set_cons_succ]
    refine takeH (i := 17) (d := some 20) (v := ?dv17) rfl rfl (by kernel_rfl) (by kernel_rfl) (by kernel_rfl) (fun _ _ _ h => h) (Or.inl ⟨by rfl, ?dy17⟩) (by assumption) ?dr17
    case dy17 => (intro W hSw; obtain ⟨x0, x1, x2, x3, x4, x5, x6⟩ := CX.out W hSw; go_simp; try with_reducible rfl)
    try simp only [Act.put, List.setIfInBounds_toArray, List.set_cons_zero, List.set_cons_succ]
    refine wpAnyH_done (by kernel_rfl) ?_ _
    obtain ⟨x0, x1, x2, x3, x4, x5, x6⟩ := CX.out _ hHeld
    have HH := Lib.hid hHeld
    clear hHeld
    by_cases hs0 : s.size = 0
    · obtain rfl := size_none hs0
      by_cases hq : q = 0
      · subst hq
        have AB : Hid (∀ b, decide (1 ≤ a ∧ a ≤ 1099511627776) = b → mayM 0 o d ByteArray.empty 0 a 0 = b) := Lib.hid fun b h => by rw [M.out, ← h]; rfl
        rcases (show a < 1 ∨ (1 ≤ a ∧ a ≤ 1099511627776) ∨ (1 ≤ a ∧ 1099511627776 < a) from by omega) with g | ⟨g1, g2⟩ | ⟨g1, g2⟩
        all_goals
          go_wp2
          go_ret
          exact ⟨ret_bool (AB.out _ (by simp <;> omega)).symm, KB.out.trans HH.out⟩
      · have T : (q == 0) = false := by rw [beq_eq_false_iff_ne]; exact hq
        have HQ := Lib.hid hq
        clear hq hs0
        go_wp2
        go_ret
        exact ⟨ret_bool (by rw [M.out, decide_eq_false HQ.out]; simp), KB.out.trans HH.out⟩
    · obtain ⟨z1, z2⟩ := size_some (show 1 ≤ s.size by omega)
      have HZ := Lib.hid hs0
      clear hs0
      go_wp2
      go_ret
      exact ⟨ret_bool (by rw [M.out, decide_eq_false HZ.out]; simp), KB.out.trans HH.out⟩
  · have T1 : (t == 0) = false := by rw [beq_eq_false_iff_ne]; exact h0
    have M := Lib.hid (MG.out HB.out HPP.out.symm rfl h0)
    clear MP MG MT MC ME h0
    go_enter Tryd.func32, Tryd.ntmps32
    go_wp2
    refine wp_region_held_drew (S := fun W => Keeps (w.alloc (.cells #[.int .i64 t, .int .i64 o, .int .i64 d, .string s, .int .i64 q, .int .i64 a, .int .i64 0] tMs)) W) (by kernel_rfl) (HV.out.trans (ky_drew _)) (fun hHeld => ?_)
    refine takeH (i := 0) (d := some 3) (v := ?ev0) rfl rfl (by kernel_rfl) (by kernel_rfl) (by kernel_rfl) (fun _ _ _ h => h) (Or.inl ⟨by rfl, ?ey0⟩) (by assumption) ?er0
    case ey0 => (intro W hSw; obtain ⟨x0, x1, x2, x3, x4, x5, x6⟩ := CX.out W hSw; go_simp; try with_reducible rfl)
    try simp only [Act.put, List.setIfInBounds_toArray, List.set_cons_zero, List.set_cons_succ]
    refine takeH (i := 1) (d := some 4) (v := ?ev1) rfl rfl (by kernel_rfl) (by kernel_rfl) (by kernel_rfl) (fun _ _ _ h => h) (Or.inl ⟨by rfl, ?ey1⟩) (by assumption) ?er1
    case ey1 => (intro W hSw; obtain ⟨x0, x1, x2, x3, x4, x5, x6⟩ := CX.out W hSw; go_simp; try with_reducible rfl)
    try simp only [Act.put, List.setIfInBounds_toArray, List.set_cons_zero, List.set_cons_succ]
    refine wpAnyH_ready (rs := [2]) (by kernel_rfl) (by simp) ?_
    refine AllReadyH.cons rfl (fun K hK => ?_) AllReadyH.nil
    go_simp
    refine (C1.out _ _ hHeld).mono ?_
    rintro e wv ⟨rfl, hv⟩
    first | done | skip
    refine hK.out _ _ hv (fun hHeld => ?_)
    clear hK K hv
    try simp only [Act.put, List.setIfInBounds_toArray, List.set_cons_zero, List.set_cons_succ]
    refine takeH (i := 3) (d := some 6) (v := ?ev3) rfl rfl (by kernel_rfl) (by kernel_rfl) (by kernel_rfl) (fun _ _ _ h => h) (Or.inl ⟨by rfl, ?ey3⟩) (by assumption) ?er3
    case ey3 => (intro W hSw; obtain ⟨x0, x1, x2, x3, x4, x5, x6⟩ := CX.out W hSw; go_simp; try with_reducible rfl)
    try simp only [Act.put, List.setIfInBounds_toArray, List.set_cons_zero, List.set_cons_succ]
    refine takeH (i := 4) (d := some 7) (v := ?ev4) rfl rfl (by kernel_rfl) (by kernel_rfl) (by kernel_rfl) (fun _ _ _ h => h) (Or.inl ⟨by rfl, ?ey4⟩) (by assumption) ?er4
    case ey4 => (intro W hSw; obtain ⟨x0, x1, x2, x3, x4, x5, x6⟩ := CX.out W hSw; go_simp; try with_reducible rfl)
    try simp only [Act.put, List.setIfInBounds_toArray, List.set_cons_zero, List.set_cons_succ]
    refine takeH (i := 5) (d := some 8) (v := ?ev5) rfl rfl (by kernel_rfl) (by kernel_rfl) (by kernel_rfl) (fun _ _ _ h => h) (Or.inl ⟨by rfl, ?ey5⟩) (by assumption) ?er5
    case ey5 => (intro W hSw; obtain ⟨x0, x1, x2, x3, x4, x5, x6⟩ := CX.out W hSw; go_simp; try with_reducible rfl)
    try simp only [Act.put, List.setIfInBounds_toArray, List.set_cons_zero, List.set_cons_succ]
    refine takeH (i := 6) (d := some 9) (v := ?ev6) rfl rfl (by kernel_rfl) (by kernel_rfl) (by kernel_rfl) (fun _ _ _ h => h) (Or.inl ⟨by rfl, ?ey6⟩) (by assumption) ?er6
    case ey6 => (intro W hSw; obtain ⟨x0, x1, x2, x3, x4, x5, x6⟩ := CX.out W hSw; go_simp; try with_reducible rfl)
    try simp only [Act.put, List.setIfInBounds_toArray, List.set_cons_zero, List.set_cons_succ]
    refine takeH (i := 7) (d := some 10) (v := ?ev7) rfl rfl (by kernel_rfl) (by kernel_rfl) (by kernel_rfl) (fun _ _ _ h => h) (Or.inl ⟨by rfl, ?ey7⟩) (by assumption) ?er7
    case ey7 => (intro W hSw; obtain ⟨x0, x1, x2, x3, x4, x5, x6⟩ := CX.out W hSw; go_simp; try with_reducible rfl)
    try simp only [Act.put, List.setIfInBounds_toArray, List.set_cons_zero, List.set_cons_succ]
    refine takeH (i := 9) (d := some 12) (v := ?ev9) rfl rfl (by kernel_rfl) (by kernel_rfl) (by kernel_rfl) (fun _ _ _ h => h) (Or.inl ⟨by rfl, ?ey9⟩) (by assumption) ?er9
    case ey9 => (intro W hSw; obtain ⟨x0, x1, x2, x3, x4, x5, x6⟩ := CX.out W hSw; go_simp; try with_reducible rfl)
    try simp only [Act.put, List.setIfInBounds_toArray, List.set_cons_zero, List.set_cons_succ]
    refine takeH (i := 10) (d := some 13) (v := ?ev10) rfl rfl (by kernel_rfl) (by kernel_rfl) (by kernel_rfl) (fun _ _ _ h => h) (Or.inl ⟨by rfl, ?ey10⟩) (by assumption) ?er10
    case ey10 => (intro W hSw; obtain ⟨x0, x1, x2, x3, x4, x5, x6⟩ := CX.out W hSw; go_simp; try with_reducible rfl)
    try simp only [Act.put, List.setIfInBounds_toArray, List.set_cons_zero, List.set_cons_succ]
    refine wpAnyH_ready (rs := [8]) (by kernel_rfl) (by simp) ?_
    refine AllReadyH.cons rfl (fun K hK => ?_) AllReadyH.nil
    go_simp
    refine (P1.out _ hHeld).mono ?_
    rintro e wv ⟨rfl, hv⟩
    first | done | skip
    refine hK.out _ _ hv (fun hHeld => ?_)
    clear hK K hv
    try simp only [Act.put, List.setIfInBounds_toArray, List.set_cons_zero, List.set_cons_succ]
    refine takeH (i := 11) (d := some 14) (v := ?ev11) rfl rfl (by kernel_rfl) (by kernel_rfl) (by kernel_rfl) (fun _ _ _ h => h) (Or.inl ⟨by rfl, ?ey11⟩) (by assumption) ?er11
    case ey11 => (intro W hSw; obtain ⟨x0, x1, x2, x3, x4, x5, x6⟩ := CX.out W hSw; go_simp; try with_reducible rfl)
    try simp only [Act.put, List.setIfInBounds_toArray, List.set_cons_zero, List.set_cons_succ]
    refine takeH (i := 12) (d := some 15) (v := ?ev12) rfl rfl (by kernel_rfl) (by kernel_rfl) (by kernel_rfl) (fun _ _ _ h => h) (Or.inl ⟨by rfl, ?ey12⟩) (by assumption) ?er12
    case ey12 => (intro W hSw; obtain ⟨x0, x1, x2, x3, x4, x5, x6⟩ := CX.out W hSw; go_simp; try with_reducible rfl)
    try simp only [Act.put, List.setIfInBounds_toArray, List.set_cons_zero, List.set_cons_succ]
    refine takeH (i := 13) (d := some 16) (v := ?ev13) rfl rfl (by kernel_rfl) (by kernel_rfl) (by kernel_rfl) (fun _ _ _ h => h) (Or.inl ⟨by rfl, ?ey13⟩) (by assumption) ?er13
    case ey13 => (intro W hSw; obtain ⟨x0, x1, x2, x3, x4, x5, x6⟩ := CX.out W hSw; go_simp; try with_reducible rfl)
    try simp only [Act.put, List.setIfInBounds_toArray, List.set_cons_zero, List.set_cons_succ]
    refine takeH (i := 14) (d := some 17) (v := ?ev14) rfl rfl (by kernel_rfl) (by kernel_rfl) (by kernel_rfl) (fun _ _ _ h => h) (Or.inl ⟨by rfl, ?ey14⟩) (by assumption) ?er14
    case ey14 => (intro W hSw; obtain ⟨x0, x1, x2, x3, x4, x5, x6⟩ := CX.out W hSw; go_simp; try with_reducible rfl)
    try simp only [Act.put, List.setIfInBounds_toArray, List.set_cons_zero, List.set_cons_succ]
    refine takeH (i := 15) (d := some 18) (v := ?ev15) rfl rfl (by kernel_rfl) (by kernel_rfl) (by kernel_rfl) (fun _ _ _ h => h) (Or.inl ⟨by rfl, ?ey15⟩) (by assumption) ?er15
    case ey15 => (intro W hSw; obtain ⟨x0, x1, x2, x3, x4, x5, x6⟩ := CX.out W hSw; go_simp; try with_reducible rfl)
    try simp only [Act.put, List.setIfInBounds_toArray, List.set_cons_zero, List.set_cons_succ]
    refine takeH (i := 16) (d := some 19) (v := ?ev16) rfl rfl (by kernel_rfl) (by kernel_rfl) (by kernel_rfl) (fun _ _ _ h => h) (Or.inl ⟨by rfl, ?ey16⟩) (by assumption) ?er16
    case ey16 => (intro W hSw; obtain ⟨x0, x1, x2, x3, x4, x5, x6⟩ := CX.out W hSw; go_simp; try with_reducible rfl)
    try simp only [Act.put, List.setIfInBounds_toArray, List.set_cons_zero, List.set_cons_succ]
    refine takeH (i := 17) (d := some 20) (v := ?ev17) rfl rfl (by kernel_rfl) (by kernel_rfl) (by kernel_rfl) (fun _ _ _ h => h) (Or.inl ⟨by rfl, ?ey17⟩) (by assumption) ?er17
    case ey17 => (intro W hSw; obtain ⟨x0, x1, x2, x3, x4, x5, x6⟩ := CX.out W hSw; go_simp; try with_reducible rfl)
    try simp only [Act.put, List.setIfInBounds_toArray, List.set_cons_zero, List.set_cons_succ]
    refine wpAnyH_done (by kernel_rfl) ?_ _
    obtain ⟨x0, x1, x2, x3, x4, x5, x6⟩ := CX.out _ hHeld
    have HH := Lib.hid hHeld
    clear hHeld
    obtain ⟨g, hg⟩ : ∃ b, nameB s.data.toList = b := ⟨_, rfl⟩
    have GC := Lib.hid fun w => name_is s g w HS.out hg
    have AB : Hid (∀ b, (decide (1 ≤ s.size) && decide (s.size ≤ 8) && g && decide (1 ≤ q ∧ q ≤ 999) && decide (a = 0)) = b → mayM t o d s q a 0 = b) := Lib.hid fun b h => by rw [M.out, ← h, ← hg]; rfl
    have HS2 := HS.out
    unfold maxLen at HS2
    clear hg
    rcases (show s.size = 0 ∨ (1 ≤ s.size ∧ s.size ≤ 8) ∨ (1 ≤ s.size ∧ 8 < s.size) from by omega) with hs0 | ⟨h1, h8⟩ | ⟨h1, h8⟩
    · have AB2 := Lib.hid (AB.out false (by rw [hs0]; rfl))
      obtain rfl := size_none hs0
      clear hs0 AB
      go_wp2
      go_ret
      exact ⟨ret_bool AB2.out.symm, KB.out.trans HH.out⟩
    rotate_left
    · have AB2 := Lib.hid (AB.out false (by rw [decide_eq_false (show ¬ s.size ≤ 8 by omega)]; simp))
      clear AB
      go_wp2
      go_ret
      exact ⟨ret_bool AB2.out.symm, KB.out.trans HH.out⟩
    have AB2 : Hid (∀ b, (g && decide (1 ≤ q ∧ q ≤ 999) && decide (a = 0)) = b → mayM t o d s q a 0 = b) := Lib.hid fun b h => AB.out b (by rw [← h, decide_eq_true h1, decide_eq_true h8]; rfl)
    clear AB
    go_wp2_with fail
    refine (GC.out _).mono ?_
    rintro e w2 ⟨rfl, rfl⟩
    cases g with
    | false =>
      go_wp2
      go_ret
      exact ⟨ret_bool (AB2.out _ (by simp)).symm, KB.out.trans HH.out⟩
    | true =>
      rcases (show q < 1 ∨ (1 ≤ q ∧ q ≤ 999) ∨ (1 ≤ q ∧ 999 < q) from by omega) with g | ⟨g1, g2⟩ | ⟨g1, g2⟩
      · go_wp2
        go_ret
        exact ⟨ret_bool (AB2.out _ (by rw [decide_eq_false (show ¬ (1 ≤ q ∧ q ≤ 999) by omega)]; simp)).symm, KB.out.trans HH.out⟩
      · have AB3 : Hid (mayM t o d s q a 0 = (a == 0)) := Lib.hid (AB2.out _ (by rw [decide_eq_true (show 1 ≤ q ∧ q ≤ 999 by omega)]; simp [Bool.beq_eq_decide_eq]))
        go_wp2
        go_ret
        exact ⟨ret_bool AB3.out.symm, KB.out.trans HH.out⟩
      · go_wp2
        go_ret
        exact ⟨ret_bool (AB2.out _ (by rw [decide_eq_false (show ¬ (1 ≤ q ∧ q ≤ 999) by omega)]; simp)).symm, KB.out.trans HH.out⟩
end Go.Proofs.YtkffpmeocfhcpaaDoor
