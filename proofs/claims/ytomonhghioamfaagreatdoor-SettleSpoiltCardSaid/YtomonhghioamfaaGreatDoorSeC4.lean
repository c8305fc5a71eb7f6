
/- The program's settle: what a field says, widths, codes. The program's settle: the reader's box; a header, a trailer. The program's settle: a row. The program's settle: a line. -/
import Derived.Test.YtomonhghioamfaaGreatDoorStRefT
import Derived.Test.YtomonhghioamfaaGreatDoorMoneyGetC
import Derived.Test.YtomonhghioamfaaGreatDoorMoneyPutC
import Derived.Test.YtomonhghioamfaaGreatDoorRowsLaid
import Derived.Test.YtomonhghioamfaaGreatDoorRwCP
import Derived.Test.YtomonhghioamfaaGreatDoorStSet
import Derived.Test.YtomonhghioamfaaGreatDoorKyCP
import Derived.Deep.RegionLaw
import Derived.Deep.RegionHeld3
import Derived.Test.YtomonhghioamfaaGreatDoorSeLoop
import Derived.Test.YtomonhghioamfaaGreatDoorFixedPar
set_option linter.unusedVariables false
namespace Go.Proofs.YtomonhghioamfaaGreatDoor
open Go.ChangeShapes Go.WideShapes Go.ChangeAt Go.RowKit Ky Rw Csv Stl

def numB (f : List UInt8) (w : Int) : Bool := Mon.unpadB f && decide (Mon.pad (Mon.unpadV f) w = f)
theorem retIB {n : Int} {a b : Bool} (h : a = b) : Ending.returned (.tuple #[.int .i64 n, .bool a]) = .returned (.tuple #[.int .i64 n, .bool b]) := by rw [h]
theorem numI_yes {f : List UInt8} {w : Int} (h : numB f w = true) : numI f w = Mon.unpadV f := by
  unfold numB at h
  simp only [Bool.and_eq_true, decide_eq_true_eq] at h
  unfold numI
  rw [if_pos h]
theorem numI_no {f : List UInt8} {w : Int} (h : numB f w = false) : numI f w = -1 := by
  unfold numB at h
  unfold numI
  rw [if_neg]
  rintro ⟨h1, h2⟩
  rw [h1, h2] at h
  simp at h
set_option maxHeartbeats 4000000 in
set_option maxRecDepth 100000 in
theorem se_number (s : ByteArray) (W : Int) (w : World) (hs : s.size ≤ maxLen) :
    Calls Tryz.prog 90 #[.string s, .int .i64 W] w fun e w' => e = .returned (.tuple #[.int .i64 (Mon.unpadV s.data.toList), .bool (numB s.data.toList W)]) ∧ Keeps w w' := by
  obtain ⟨n1, n2⟩ := num18 (l := s.data.toList)
  obtain ⟨n, hn⟩ : ∃ n, Mon.unpadV s.data.toList = n := ⟨_, rfl⟩
  obtain ⟨b, hb⟩ : ∃ b, Mon.unpadB s.data.toList = b := ⟨_, rfl⟩
  have HN := Lib.hid hn
  have HB := Lib.hid hb
  have C1 : Hid (∀ W, Calls Tryz.prog 119 #[.string s] W fun e w' => e = .returned (.tuple #[.int .i64 n, .bool b]) ∧ W = w') := Lib.hid fun W => hn ▸ hb ▸ unpad_any s W hs
  rw [hn] at n1 n2 ⊢
  obtain ⟨X, hX⟩ : ∃ X : ByteArray, ⟨(Mon.pad n W).toArray⟩ = X := ⟨_, rfl⟩
  have C2 : Hid (∀ V, Calls Tryz.prog 44 #[.int .i64 n, .int .i64 W] V fun e w' => e = .returned (.string X) ∧ Keeps V w') := Lib.hid fun V => hX ▸ pad_any n W V (by unfold I64 top; omega)
  have HX := Lib.hid hX
  have EB : Hid (numB s.data.toList W = (b && decide (X = s))) := Lib.hid (by
    unfold numB
    rw [hb, hn]
    congr 1
    rw [decide_eq_decide]
    exact ⟨fun h => bytes_inj (by rw [← hX, data_mk, h]), fun h => by rw [← h, ← hX, data_mk]⟩)
  clear hn hb hX hs n1 n2
  go_enter Tryz.func90, Tryz.ntmps90
  go_wp2_with fail
  refine (C1.out _).mono ?_
  rintro e w1 ⟨rfl, rfl⟩
  cases b with
  | false =>
    go_wp2
    go_ret2
    exact ⟨retIB (by rw [EB.out]; rfl), Keeps.refl _⟩
  | true =>
    by_cases hx : X = s
    · have E : Hid (numB s.data.toList W = true) := Lib.hid (by rw [EB.out]; simp [hx])
      subst hx
      go_wp2_with fail
      refine (C2.out _).mono ?_
      rintro e w2 ⟨rfl, k2⟩
      go_wp2
      go_ret2
      exact ⟨retIB E.out.symm, k2⟩
    · have E : Hid (numB s.data.toList W = false) := Lib.hid (by rw [EB.out]; simp [hx])
      have t : (X.toList == s.toList) = false := bytes_eq hx
      have t2 : (X.toList != s.toList) = true := by rw [bne, t]; rfl
      clear hx
      go_wp2_with fail
      refine (C2.out _).mono ?_
      rintro e w2 ⟨rfl, k2⟩
      go_wp2
      go_ret2
      exact ⟨retIB E.out.symm, k2⟩
/-- A field's text, and what it says. -/
theorem se_num (f : List UInt8) (W : Int) (h : f.length ≤ 1000) : ∃ S : ByteArray, ⟨f.toArray⟩ = S ∧ ∀ w, Calls Tryz.prog 90 #[.string S, .int .i64 W] w fun e w' => e = .returned (.tuple #[.int .i64 (Mon.unpadV f), .bool (numB f W)]) ∧ Keeps w w' := by
  refine ⟨_, rfl, fun w => ?_⟩
  have := se_number ⟨f.toArray⟩ W w (by rw [size_mk]; unfold maxLen; omega)
  rw [data_mk] at this
  exact this
def codeI (f : List UInt8) : Int := if f = [68] then 1 else if f = [82] then 2 else 0
theorem str_test {S : ByteArray} {c : UInt8} : (S.toList == [c]) = decide (S = ⟨#[c]⟩) := by
  rw [Bool.eq_iff_iff, beq_iff_eq, decide_eq_true_eq]
  exact ⟨fun e => bytes_inj (by rw [← ByteArray.toList_eq, e]), fun e => by rw [e, ByteArray.toList_eq]⟩
set_option maxHeartbeats 1000000 in
theorem se_code (S : ByteArray) (w : World) : Calls Tryz.prog 93 #[.string S] w fun e w' => e = .returned (.int .i64 (codeI S.data.toList)) ∧ w = w' := by
  by_cases h1 : S = ⟨#[68]⟩
  · subst h1
    go_enter Tryz.func93, Tryz.ntmps93
    go_wp2
    go_ret
    exact ⟨rfl, rfl⟩
  by_cases h2 : S = ⟨#[82]⟩
  · subst h2
    go_enter Tryz.func93, Tryz.ntmps93
    go_wp2
    go_ret
    exact ⟨rfl, rfl⟩
  have E : Hid (codeI S.data.toList = 0) := Lib.hid (by
    unfold codeI
    rw [if_neg (fun e => h1 (bytes_inj e)), if_neg (fun e => h2 (bytes_inj e))])
  have t1 : (S.toList == [68]) = false := by rw [str_test]; simp [h1]
  have t2 : (S.toList == [82]) = false := by rw [str_test]; simp [h2]
  clear h1 h2
  go_enter Tryz.func93, Tryz.ntmps93
  go_wp2
  go_ret
  exact ⟨ret_int E.out.symm, rfl⟩
theorem se_letter (c : Int) (w : World) (h : c = 1 ∨ c = 2) : Calls Tryz.prog 46 #[.int .i64 c] w fun e w' => e = .returned (.string ⟨(letter c).toArray⟩) ∧ w = w' := by
  go_enter Tryz.func46, Tryz.ntmps46
  rcases h with rfl | rfl
  all_goals
    go_wp2
    go_ret
    exact ⟨rfl, rfl⟩
/-- Widths, handed back. -/
def WidOut (W : List Int) (w : World) (e : Ending) (w' : World) : Prop := ∃ v, e = .returned v ∧ IntsAt w' v W ∧ Keeps w w'
theorem se_widthsH (w : World) : Calls Tryz.prog 58 #[.string ⟨#[72]⟩] w (WidOut wH w) := by
  have W0 := Lib.hid (lay_ints (w' := w) (cs := #[.int .i64 1, .int .i64 8, .int .i64 10]) (r := wH) 3 rfl rfl rfl (by simp [maxLen, wH]))
  go_enter Tryz.func58, Tryz.ntmps58
  go_wp2
  go_ret
  exact ⟨_, rfl, W0.out, ky_box _ _⟩
theorem se_widthsD (w : World) : Calls Tryz.prog 58 #[.string ⟨#[68]⟩] w (WidOut wD w) := by
  have W0 := Lib.hid (lay_ints (w' := w) (cs := #[.int .i64 1, .int .i64 4, .int .i64 8, .int .i64 1, .int .i64 14]) (r := wD) 3 rfl rfl rfl (by simp [maxLen, wD]))
  go_enter Tryz.func58, Tryz.ntmps58
  go_wp2
  go_ret
  exact ⟨_, rfl, W0.out, ky_box _ _⟩
theorem se_widthsT (w : World) : Calls Tryz.prog 58 #[.string ⟨#[84]⟩] w (WidOut wT w) := by
  have W0 := Lib.hid (lay_ints (w' := w) (cs := #[.int .i64 1, .int .i64 6, .int .i64 16]) (r := wT) 3 rfl rfl rfl (by simp [maxLen, wT]))
  go_enter Tryz.func58, Tryz.ntmps58
  go_wp2
  go_ret
  exact ⟨_, rfl, W0.out, ky_box _ _⟩
end Go.Proofs.YtomonhghioamfaaGreatDoor
namespace Go.Proofs.YtomonhghioamfaaGreatDoor
open Go.ChangeShapes Go.WideShapes Go.ChangeAt Go.RowKit Ky Rw Csv Stl

abbrev tRd : TypeId := 61
/-- What a line may begin with. -/
def nextS (st : PS) : ByteArray := if st.ended = true then ⟨#[]⟩ else if st.n = 0 then ⟨#[72]⟩ else ⟨#[68, 84]⟩
abbrev rdBox (nx : ByteArray) (s : Int) (p : Option Addr) (n c : Nat) (t : Int) : Obj := .cells #[.string nx, .int .i64 0, .int .i64 s, .slice p n c, .int .i64 t] tRd (0, 0)
theorem five_atG {W : World} {n : Nat} {t : TypeId} {x0 x1 x2 x3 x4 : Value} (h : W.heap[n]? = some (.cells #[x0, x1, x2, x3, x4] t (0, 0))) :
    (W.cell? ⟨n, 0, none⟩ = some x0 ∧ W.cell? ⟨n, 1, none⟩ = some x1 ∧ W.cell? ⟨n, 2, none⟩ = some x2 ∧ W.cell? ⟨n, 3, none⟩ = some x3 ∧ W.cell? ⟨n, 4, none⟩ = some x4) ∧
    (W.frozen? ⟨n, 0, none⟩ = false ∧ W.frozen? ⟨n, 1, none⟩ = false ∧ W.frozen? ⟨n, 2, none⟩ = false ∧ W.frozen? ⟨n, 3, none⟩ = false ∧ W.frozen? ⟨n, 4, none⟩ = false) :=
  ⟨⟨Joins.cell_of_block h 0, Joins.cell_of_block h 1, Joins.cell_of_block h 2, Joins.cell_of_block h 3, Joins.cell_of_block h 4⟩, Joins.unfrozen_of_block h 0, Joins.unfrozen_of_block h 1, Joins.unfrozen_of_block h 2, Joins.unfrozen_of_block h 3, Joins.unfrozen_of_block h 4⟩
/-- Only the block b, and the row's own, are turned; others are laid. -/
structure Touch (b : Nat) (o : Option Nat) (W W' : World) : Prop where
  os : W'.os = W.os
  tape : W'.tape = W.tape
  output : W'.output = W.output
  size : W.heap.size ≤ W'.heap.size
  same : ∀ k, k < W.heap.size → k ≠ b → some k ≠ o → W'.heap[k]? = W.heap[k]?
theorem Touch.of_keeps {b : Nat} {o : Option Nat} {W W' : World} (k : Keeps W W') : Touch b o W W' := ⟨k.os, k.tape, k.output, k.size, fun j hj _ _ => k.block j hj⟩
theorem Touch.trans {b : Nat} {o : Option Nat} {X Y Z : World} (h : Touch b o X Y) (g : Touch b o Y Z) : Touch b o X Z :=
  ⟨g.os.trans h.os, g.tape.trans h.tape, g.output.trans h.output, Nat.le_trans h.size g.size, fun j hj h1 h2 => (g.same j (Nat.lt_of_lt_of_le hj h.size) h1 h2).trans (h.same j hj h1 h2)⟩
theorem Touch.set {b i : Nat} {o : Option Nat} {X Y : World} (h : Touch b o X Y) (v : Value) : Touch b o X (Y.setCell ⟨b, i, none⟩ v) := by
  have k := (Below.refl 0 Y).setCell (p := ⟨b, i, none⟩) (Nat.zero_le _) v
  exact ⟨k.os.trans h.os, k.tape.trans h.tape, k.output.trans h.output, Nat.le_trans h.size k.size, fun j hj h1 h2 => (Below.heap_setCell _ ⟨b, i, none⟩ _ _ h1).trans (h.same j hj h1 h2)⟩
theorem Touch.grown {b : Nat} {o : Option Nat} {X Y Z : World} (h : Touch b o X Y) (g : Y.grownBy Z o) : Touch b o X Z :=
  h.trans ⟨g.os, g.tape, g.output, g.size, fun j hj _ h2 => g.block j hj h2⟩
theorem Touch.drew {b : Nat} {o : Option Nat} {X Y : World} (h : Touch b o X Y) : Touch b o X Y.drew := ⟨h.os, h.tape, h.output, h.size, h.same⟩
theorem Touch.more {b : Nat} {o : Option Nat} {X Y : World} (h : Touch b none X Y) : Touch b o X Y := ⟨h.os, h.tape, h.output, h.size, fun j hj h1 _ => h.same j hj h1 (by simp)⟩
theorem Touch.keeps {n b : Nat} {o : Option Nat} {w X Y : World} (h : Touch b o X Y) (k : Keeps w X) (hb : w.heap.size ≤ b) (ho : ∀ j, o = some j → w.heap.size ≤ j) : Keeps w Y :=
  ⟨h.os.trans k.os, h.tape.trans k.tape, h.output.trans k.output, Nat.le_trans k.size h.size, fun j hj => (h.same j (Nat.lt_of_lt_of_le hj k.size) (by omega) (fun e => by have := ho j e.symm; omega)).trans (k.block j hj)⟩
set_option maxHeartbeats 4000000 in
set_option maxRecDepth 100000 in
theorem se_header (b : Nat) (nx : ByteArray) (s t : Int) (p : Option Addr) (n0 c0 : Nat) (v : Value) (F : List (List UInt8)) (w : World) (hF : StrsAt w v F) (hl : F.length = 3) (hs : Short F) (hb : w.heap[b]? = some (rdBox nx s p n0 c0 t)) :
    Calls Tryz.prog 59 #[.pointer (some ⟨b, 0, none⟩), v] w fun e w' => e = .returned (.tuple #[.int .i64 ((headC F).1 : Int), .int .i64 (headC F).2]) ∧ Touch b none w w' ∧
      ((headC F).1 = 0 → w'.heap[b]? = some (rdBox ⟨#[68, 84]⟩ (numI (fa F 2) 10) p n0 c0 t)) := by
  have HF := Lib.hid hF
  have HB := Lib.hid hb
  obtain ⟨a, c, rfl, q0, q1, q2⟩ := strs_three hF hl
  obtain ⟨S2, e2, C⟩ := se_num (fa F 2) 10 (hs 2)
  obtain ⟨n, hn⟩ : ∃ n, Mon.unpadV (fa F 2) = n := ⟨_, rfl⟩
  obtain ⟨ok, hok⟩ : ∃ b, numB (fa F 2) 10 = b := ⟨_, rfl⟩
  have C2 := Lib.hid (hn ▸ hok ▸ C)
  have E2 := Lib.hid hn
  have EO := Lib.hid hok
  obtain ⟨S1, h1⟩ : ∃ S : ByteArray, ⟨(fa F 1).toArray⟩ = S := ⟨_, rfl⟩
  unfold sv at q1 q2
  rw [e2] at q2
  rw [h1] at q1
  have H1 : Hid (S1.data.toList = fa F 1) := Lib.hid (by rw [← h1, data_mk])
  clear hF hl hs C e2 hn hok h1 q0 hb
  go_enter Tryz.func59, Tryz.ntmps59
  by_cases hx : S1 = ⟨#[80, 65, 89, 77, 69, 78, 84]⟩
  rotate_left
  · have E : Hid (headC F = (2, 7)) := Lib.hid (by
      unfold headC
      rw [if_pos (fun e => hx (bytes_inj (by rw [H1.out, e]; rfl)))])
    have t4 : ¬ (S1.toList = [80, 65, 89, 77, 69, 78, 84]) := fun e => hx (bytes_inj (by rw [← ByteArray.toList_eq, e]))
    have t2 : (S1.toList == [80, 65, 89, 77, 69, 78, 84]) = false := beq_eq_false_iff_ne.2 t4
    have t3 : (S1.toList != [80, 65, 89, 77, 69, 78, 84]) = true := by rw [bne, t2]; rfl
    clear hx
    go_wp2
    go_ret2
    exact ⟨ret2 (by rw [E.out]; rfl) (by rw [E.out]), Touch.of_keeps (Keeps.refl _), fun h => by rw [E.out] at h; cases h⟩
  have X : Hid (fa F 1 = sPay) := Lib.hid (by rw [← H1.out, hx]; rfl)
  subst hx
  go_wp2_with fail
  refine (C2.out _).mono ?_
  rintro e w1 ⟨rfl, k1⟩
  have hb1 := (k1.block b (Array.getElem?_eq_some_iff.1 HB.out).1).trans HB.out
  have HB1 := Lib.hid hb1
  have K1 := Lib.hid k1
  obtain ⟨⟨z0, z1, z2, z3, z4⟩, f0, f1, f2, f3, f4⟩ := five_atG hb1
  clear q1 q2 C2 k1 hb1
  cases ok with
  | false =>
    have E : Hid (headC F = (10, 3)) := Lib.hid (by unfold headC; rw [if_neg (by simp [X.out]), numI_no EO.out, if_pos (by omega)])
    go_wp2
    go_ret2
    exact ⟨ret2 (by rw [E.out]; rfl) (by rw [E.out]), Touch.of_keeps K1.out, fun h => by rw [E.out] at h; cases h⟩
  | true =>
    have NI : Hid (numI (fa F 2) 10 = n) := Lib.hid ((numI_yes EO.out).trans E2.out)
    by_cases hn : 1 ≤ n ∧ n ≤ 1073741824
    · have E : Hid (headC F = (0, 0)) := Lib.hid (by unfold headC; rw [if_neg (by simp [X.out]), NI.out, if_neg (by omega)])
      obtain ⟨n1, n2⟩ := hn
      go_wp2
      go_ret2
      refine ⟨ret2 (by rw [E.out]; rfl) (by rw [E.out]), ((Touch.of_keeps K1.out).set _).set _, fun _ => ?_⟩
      rw [NI.out]
      exact Joins.block_setCell (i := 0) (Joins.block_setCell (i := 2) HB1.out _) _
    · have E : Hid (headC F = (10, 3)) := Lib.hid (by unfold headC; rw [if_neg (by simp [X.out]), NI.out, if_pos (by omega)])
      rcases (show n < 1 ∨ (1 ≤ n ∧ 1073741824 < n) from by omega) with h1 | ⟨h1, h2⟩
      all_goals
        clear hn
        go_wp2
        go_ret2
        exact ⟨ret2 (by rw [E.out]; rfl) (by rw [E.out]), Touch.of_keeps K1.out, fun h => by rw [E.out] at h; cases h⟩
set_option maxHeartbeats 4000000 in
set_option maxRecDepth 100000 in
theorem se_trailer (b : Nat) (nx : ByteArray) (s t : Int) (p : Option Addr) (n0 c0 : Nat) (v : Value) (F : List (List UInt8)) (A : List R) (w : World) (hF : StrsAt w v F) (hl : F.length = 3) (hs : Short F) (hA : A.length = n0) (hT : totA A = t) (hb : w.heap[b]? = some (rdBox nx s p n0 c0 t)) :
    Calls Tryz.prog 61 #[.pointer (some ⟨b, 0, none⟩), v] w fun e w' => e = .returned (.tuple #[.int .i64 ((trailC F A).1 : Int), .int .i64 (trailC F A).2]) ∧ Touch b none w w' ∧
      ((trailC F A).1 = 0 → w'.heap[b]? = some (rdBox ⟨#[]⟩ s p n0 c0 t)) := by
  have HF := Lib.hid hF
  have HB := Lib.hid hb
  have HA := Lib.hid hA
  have HT := Lib.hid hT
  obtain ⟨a, c, rfl, q0, q1, q2⟩ := strs_three hF hl
  obtain ⟨S1, e1, C1⟩ := se_num (fa F 1) 6 (hs 1)
  obtain ⟨S2, e2, C2⟩ := se_num (fa F 2) 16 (hs 2)
  obtain ⟨n1, hn1⟩ : ∃ n, Mon.unpadV (fa F 1) = n := ⟨_, rfl⟩
  obtain ⟨ok1, hok1⟩ : ∃ b, numB (fa F 1) 6 = b := ⟨_, rfl⟩
  obtain ⟨n2, hn2⟩ : ∃ n, Mon.unpadV (fa F 2) = n := ⟨_, rfl⟩
  obtain ⟨ok2, hok2⟩ : ∃ b, numB (fa F 2) 16 = b := ⟨_, rfl⟩
  have C1 := Lib.hid (hn1 ▸ hok1 ▸ C1)
  have C2 := Lib.hid (hn2 ▸ hok2 ▸ C2)
  have P1 : Hid (0 ≤ n1) := Lib.hid (by rw [← hn1]; exact num18.1)
  have P2 : Hid (0 ≤ n2) := Lib.hid (by rw [← hn2]; exact num18.1)
  have E1 := Lib.hid hn1
  have E2 := Lib.hid hn2
  have O1 := Lib.hid hok1
  have O2 := Lib.hid hok2
  unfold sv at q1 q2
  rw [e1] at q1
  rw [e2] at q2
  have Q2 := Lib.hid q2
  clear hF hl hs e1 e2 hn1 hn2 hok1 hok2 q0 hb hA hT
  go_enter Tryz.func61, Tryz.ntmps61
  go_wp2_with fail
  refine (C1.out _).mono ?_
  rintro e w1 ⟨rfl, k1⟩
  have hb1 := (k1.block b (Array.getElem?_eq_some_iff.1 HB.out).1).trans HB.out
  have HB1 := Lib.hid hb1
  have K1 := Lib.hid k1
  obtain ⟨⟨z0, z1, z2, z3, z4⟩, f0, f1, f2, f3, f4⟩ := five_atG hb1
  clear q1 q2 C1
  have q2 := cell_keeps k1 Q2.out
  clear k1 hb1
  cases ok1 with
  | false =>
    have E : Hid (trailC F A = (2, 3)) := Lib.hid (by unfold trailC; rw [numI_no O1.out, if_pos (by omega)])
    go_wp2
    go_ret2
    exact ⟨ret2 (by rw [E.out]; rfl) (by rw [E.out]), Touch.of_keeps K1.out, fun h => by rw [E.out] at h; cases h⟩
  | true =>
    have NI : Hid (numI (fa F 1) 6 = n1) := Lib.hid ((numI_yes O1.out).trans E1.out)
    by_cases c1 : n1 = (n0 : Int)
    rotate_left
    · have E : Hid (trailC F A = (2, 4)) := Lib.hid (by unfold trailC; rw [NI.out, if_neg (by have := P1.out; omega), HA.out, if_pos c1])
      have t1 : (n1 == (n0 : Int)) = false := by rw [beq_eq_false_iff_ne]; exact c1
      have t2 : (n1 != (n0 : Int)) = true := by rw [bne, t1]; rfl
      clear c1
      go_wp2
      go_ret2
      exact ⟨ret2 (by rw [E.out]; rfl) (by rw [E.out]), Touch.of_keeps K1.out, fun h => by rw [E.out] at h; cases h⟩
    subst c1
    go_wp2_with fail
    refine (C2.out _).mono ?_
    rintro e w2 ⟨rfl, k2⟩
    have hb2 := (k2.block b (Array.getElem?_eq_some_iff.1 HB1.out).1).trans HB1.out
    have HB2 := Lib.hid hb2
    have K2 := Lib.hid (K1.out.trans k2)
    clear z0 z1 z2 z3 z4 f0 f1 f2 f3 f4 q2 C2
    obtain ⟨⟨z0, z1, z2, z3, z4⟩, f0, f1, f2, f3, f4⟩ := five_atG hb2
    clear k2 hb2
    cases ok2 with
    | false =>
      have E : Hid (trailC F A = (8, 3)) := Lib.hid (by unfold trailC; rw [NI.out, HA.out, if_neg (by omega), if_neg (by simp), numI_no O2.out, if_pos (by omega)])
      go_wp2
      go_ret2
      exact ⟨ret2 (by rw [E.out]; rfl) (by rw [E.out]), Touch.of_keeps K2.out, fun h => by rw [E.out] at h; cases h⟩
    | true =>
      have NI2 : Hid (numI (fa F 2) 16 = n2) := Lib.hid ((numI_yes O2.out).trans E2.out)
      by_cases c2 : n2 = t
      · have E : Hid (trailC F A = (0, 0)) := Lib.hid (by unfold trailC; rw [NI.out, HA.out, if_neg (by omega), if_neg (by simp), NI2.out, if_neg (by have := P2.out; omega), HT.out, if_neg (by simpa using c2)])
        subst c2
        clear E2 P2 HT
        go_wp2
        go_ret2
        exact ⟨ret2 (by rw [E.out]; rfl) (by rw [E.out]), (Touch.of_keeps K2.out).set _, fun _ => Joins.block_setCell (i := 0) HB2.out _⟩
      · have E : Hid (trailC F A = (8, 5)) := Lib.hid (by unfold trailC; rw [NI.out, HA.out, if_neg (by omega), if_neg (by simp), NI2.out, if_neg (by have := P2.out; omega), HT.out, if_pos c2])
        have t1 : (n2 == t) = false := by rw [beq_eq_false_iff_ne]; exact c2
        have t2 : (n2 != t) = true := by rw [bne, t1]; rfl
        clear c2
        go_wp2
        go_ret2
        exact ⟨ret2 (by rw [E.out]; rfl) (by rw [E.out]), Touch.of_keeps K2.out, fun h => by rw [E.out] at h; cases h⟩
end Go.Proofs.YtomonhghioamfaaGreatDoor
namespace Go.Proofs.YtomonhghioamfaaGreatDoor
open Go.ChangeShapes Go.WideShapes Go.ChangeAt Go.RowKit Ky Rw Csv Stl

theorem pay_of {d : Int} (h0 : 0 ≤ d) (h1 : d < 6) : partyK d = 0 ↔ (d = 1 ∨ d = 4) := by
  rcases six h0 h1 with e | e | e | e | e | e <;> rw [e] <;> decide
theorem codeI_cases (f : List UInt8) : (codeI f = 0 ∧ f ≠ [68] ∧ f ≠ [82]) ∨ (codeI f = 1 ∧ f = [68]) ∨ (codeI f = 2 ∧ f = [82]) := by
  unfold codeI
  by_cases h1 : f = [68]
  · exact Or.inr (Or.inl ⟨if_pos h1, h1⟩)
  · by_cases h2 : f = [82]
    · exact Or.inr (Or.inr ⟨by rw [if_neg h1, if_pos h2], h2⟩)
    · exact Or.inl ⟨by rw [if_neg h1, if_neg h2], h1, h2⟩
/-- What 'readRow' leaves. -/
def RowOut (b B : Nat) (nx : ByteArray) (s t : Int) (p : Option Addr) (n0 c0 : Nat) (F : List (List UInt8)) (A : List R) (w : World) (e : Ending) (w' : World) : Prop :=
  e = .returned (.tuple #[.int .i64 ((rowC F A).1 : Int), .int .i64 (rowC F A).2]) ∧ Touch b (Value.slice p n0 c0).ownBlock w w' ∧
  ((rowC F A).1 = 0 → ∃ p' c', w'.heap[b]? = some (rdBox nx s p' (n0 + 1) c' (t + (rowR F).a)) ∧ rowK.Own B w' (.slice p' (n0 + 1) c') (A ++ [rowR F]))
theorem row_no {b B : Nat} {nx : ByteArray} {s t : Int} {p : Option Addr} {n0 c0 : Nat} {F : List (List UInt8)} {A : List R} {w w' : World} {c : Nat} {d : Int} (h : rowC F A = (c, d)) (hc : c ≠ 0) (k : Keeps w w') {e : Ending} (he : e = .returned (.tuple #[.int .i64 (c : Int), .int .i64 d])) : RowOut b B nx s t p n0 c0 F A w e w' :=
  ⟨by rw [he, h], Touch.of_keeps k, fun h0 => by rw [h] at h0; exact absurd h0 hc⟩
set_option maxHeartbeats 16000000 in
set_option maxRecDepth 100000 in
theorem se_row (b B : Nat) (nx : ByteArray) (s t : Int) (p : Option Addr) (n0 c0 : Nat) (v : Value) (F : List (List UInt8)) (A : List R) (w : World) (hF : StrsAt w v F) (hl : F.length = 5) (hs : Short F) (hA : A.length = n0) (hal : A.length ≤ 400) (ht0 : 0 ≤ t) (ht1 : t ≤ 439804651110400)
    (hb : w.heap[b]? = some (rdBox nx s p n0 c0 t)) (hO : rowK.Own B w (.slice p n0 c0) A) (hbB : b < B) (hBw : B ≤ w.heap.size) (hp : HasP w) :
    Calls Tryz.prog 60 #[.pointer (some ⟨b, 0, none⟩), v] w (RowOut b B nx s t p n0 c0 F A w) := by
  have HB : Hid (∀ W, Keeps w W → W.heap[b]? = some (rdBox nx s p n0 c0 t)) := Lib.hid fun W k => (k.block b (Array.getElem?_eq_some_iff.1 hb).1).trans hb
  have HO : Hid (∀ W, Keeps w W → rowK.Own B W (.slice p n0 c0) A) := Lib.hid fun W k => rowK.own_keeps hO k
  have HRI : Hid (∀ W, Keeps w W → RowsIn W (.slice p n0 c0) A) := Lib.hid fun W k => own_rows (rowK.own_keeps hO k) (by omega)
  have HP := Lib.hid hp
  have HN := Lib.hid hA
  have HBB := Lib.hid hbB
  have HBW := Lib.hid hBw
  have HT := Lib.hid (And.intro ht0 ht1)
  have HAL : Hid (n0 ≤ 400) := Lib.hid (by omega)
  obtain ⟨a, c, rfl, q0, q1, q2, q3, q4⟩ := strs_five hF hl
  obtain ⟨S1, e1, C1⟩ := se_num (fa F 1) 4 (hs 1)
  obtain ⟨S4, e4, C4⟩ := se_num (fa F 4) 14 (hs 4)
  obtain ⟨S2, h2⟩ : ∃ S : ByteArray, ⟨(fa F 2).toArray⟩ = S := ⟨_, rfl⟩
  obtain ⟨S3, h3⟩ : ∃ S : ByteArray, ⟨(fa F 3).toArray⟩ = S := ⟨_, rfl⟩
  obtain ⟨n1, hn1⟩ : ∃ n, Mon.unpadV (fa F 1) = n := ⟨_, rfl⟩
  obtain ⟨ok1, hok1⟩ : ∃ n, numB (fa F 1) 4 = n := ⟨_, rfl⟩
  obtain ⟨n4, hn4⟩ : ∃ n, Mon.unpadV (fa F 4) = n := ⟨_, rfl⟩
  obtain ⟨ok4, hok4⟩ : ∃ n, numB (fa F 4) 14 = n := ⟨_, rfl⟩
  obtain ⟨d, hd⟩ : ∃ n, deedV (fa F 2) = n := ⟨_, rfl⟩
  obtain ⟨okd, hokd⟩ : ∃ n, deedB (fa F 2) = n := ⟨_, rfl⟩
  obtain ⟨cd, hcd⟩ : ∃ n, codeI (fa F 3) = n := ⟨_, rfl⟩
  have C1 := Lib.hid (hn1 ▸ hok1 ▸ C1)
  have C4 := Lib.hid (hn4 ▸ hok4 ▸ C4)
  have C2 : Hid (∀ W, Calls Tryz.prog 91 #[.string S2] W fun e w' => e = .returned (.tuple #[.int .i64 d, .bool okd]) ∧ Keeps W w') := Lib.hid fun W => by
    have := pk_deed S2 W (by rw [← h2, size_mk]; have := hs 2; unfold maxLen; omega)
    rw [← h2, data_mk, hd, hokd, h2] at this
    exact this
  have C3 : Hid (∀ W, Calls Tryz.prog 93 #[.string S3] W fun e w' => e = .returned (.int .i64 cd) ∧ W = w') := Lib.hid fun W => by
    have := se_code S3 W
    rw [← h3, data_mk, hcd, h3] at this
    exact this
  have P4 : Hid (0 ≤ n4) := Lib.hid (by rw [← hn4]; exact num18.1)
  have E1 := Lib.hid hn1
  have O1 := Lib.hid hok1
  have E4 := Lib.hid hn4
  have O4 := Lib.hid hok4
  have ED := Lib.hid hd
  have EO := Lib.hid hokd
  have ECD := Lib.hid hcd
  have DS : Hid (okd = true → 0 ≤ d ∧ d < 6) := Lib.hid fun e => by
    have := deed_of (s := fa F 2) (hokd.trans e)
    rw [hd] at this
    exact this.2
  unfold sv at q1 q2 q3 q4
  rw [e1] at q1
  rw [e4] at q4
  rw [h2] at q2
  rw [h3] at q3
  have CQ : Hid (∀ W, Keeps w W → W.cell? ⟨a.block, a.off + 1, none⟩ = some (.string S1) ∧ W.cell? ⟨a.block, a.off + 2, none⟩ = some (.string S2) ∧ W.cell? ⟨a.block, a.off + 3, none⟩ = some (.string S3) ∧ W.cell? ⟨a.block, a.off + 4, none⟩ = some (.string S4)) := Lib.hid fun W k => ⟨cell_keeps k q1, cell_keeps k q2, cell_keeps k q3, cell_keeps k q4⟩
  have AB : Hid (a.block < w.heap.size) := Lib.hid (World.block_lt_of_cell? w ⟨a.block, a.off + 1, none⟩ q1)
  have CPY : Hid (∀ W, Keeps w W → Calls Tryz.prog 92 #[.int .i64 d] W fun e w' => e = .returned (.int .i64 (partyK d)) ∧ W = w') := Lib.hid fun W k => pk_party d W (hp.keeps k)
  obtain ⟨pd, hpd⟩ : ∃ n, partyK d = n := ⟨_, rfl⟩
  rw [hpd] at CPY
  have EPD := Lib.hid hpd
  have HV := Lib.hid (Keeps.refl w)
  clear hF hl hs e1 e4 hn1 hn4 hok1 hok4 hokd hcd hd h2 h3 q0 q1 q2 q3 q4 hb hO hbB hBw hp hA hal ht0 ht1 hpd
  obtain ⟨q1, q2, q3, q4⟩ := CQ.out _ HV.out
  obtain ⟨⟨z0, z1, z2, z3, z4⟩, f0, f1, f2, f3, f4⟩ := five_atG (HB.out _ HV.out)
  go_enter Tryz.func60, Tryz.ntmps60
  by_cases t1 : 400 ≤ n0
  · have E : Hid (rowC F A = (1, 8)) := Lib.hid (by unfold rowC; rw [HN.out, if_pos t1])
    have t1' : (400 : Int) ≤ (n0 : Int) := by omega
    go_wp2
    go_ret2
    exact row_no E.out (by decide) (Keeps.refl _) rfl
  have T1 := Lib.hid t1
  have N4 : (n0 : Int) < 400 := by omega
  go_wp2_with fail
  refine (C1.out _).mono ?_
  rintro e wa ⟨rfl, k⟩
  have HV := Lib.hid (HV.out.trans k)
  clear k C1 q1 q2 q3 q4 z0 z1 z2 z3 z4 f0 f1 f2 f3 f4
  obtain ⟨q1, q2, q3, q4⟩ := CQ.out _ HV.out
  by_cases t2 : ok1 = true ∧ 1 ≤ n1 ∧ n1 ≤ 60
  rotate_left
  · have E : Hid (rowC F A = (2, 3)) := Lib.hid (by
      unfold rowC
      rw [HN.out, if_neg T1.out, if_pos]
      cases ok1 with
      | false => rw [numI_no O1.out]; omega
      | true => rw [numI_yes O1.out, E1.out]; have : ¬ (1 ≤ n1 ∧ n1 ≤ 60) := fun h => t2 ⟨rfl, h⟩; omega)
    cases ok1 with
    | false =>
      clear t2 t1
      go_wp2
      go_ret2
      exact row_no E.out (by decide) HV.out rfl
    | true =>
      rcases (show n1 < 1 ∨ (1 ≤ n1 ∧ 60 < n1) from by have : ¬ (1 ≤ n1 ∧ n1 ≤ 60) := fun h => t2 ⟨rfl, h⟩; omega) with h1 | ⟨h1, h2⟩
      all_goals
        clear t2 t1
        go_wp2
        go_ret2
        exact row_no E.out (by decide) HV.out rfl
  have T2 := Lib.hid t2
  obtain ⟨rfl, t2a, t2b⟩ := t2
  have N1 : Hid (numI (fa F 1) 4 = n1) := Lib.hid ((numI_yes O1.out).trans E1.out)
  go_wp2_with fail
  refine (C2.out _).mono ?_
  rintro e wb ⟨rfl, k⟩
  have HV := Lib.hid (HV.out.trans k)
  clear k C2 q1 q2 q3 q4
  obtain ⟨q1, q2, q3, q4⟩ := CQ.out _ HV.out
  by_cases t3 : okd = true ∧ pd = 0
  rotate_left
  · have E : Hid (rowC F A = (6, 3)) := Lib.hid (by
      unfold rowC
      rw [HN.out, if_neg T1.out, N1.out, if_neg (by have := T2.out; omega), EO.out, ED.out, if_pos]
      cases okd with
      | false => exact Or.inl rfl
      | true =>
        obtain ⟨d0, d1⟩ := DS.out rfl
        have h : ¬ partyK d = 0 := fun e => t3 ⟨rfl, EPD.out ▸ e⟩
        rw [pay_of d0 d1] at h
        exact Or.inr ⟨fun e => h (Or.inl e), fun e => h (Or.inr e)⟩)
    cases okd with
    | false =>
      clear t3 t1
      go_wp2
      go_ret2
      exact row_no E.out (by decide) HV.out rfl
    | true =>
      have u1 : (pd == 0) = false := by rw [beq_eq_false_iff_ne]; exact fun e => t3 ⟨rfl, e⟩
      have v1 : (pd != 0) = true := by rw [bne, u1]; rfl
      have CP := Lib.hid (CPY.out _ HV.out)
      clear t3 t1
      go_wp2_with fail
      refine CP.out.mono ?_
      rintro e wc ⟨rfl, rfl⟩
      go_wp2
      go_ret2
      exact row_no E.out (by decide) HV.out rfl
  obtain ⟨rfl, rfl⟩ := t3
  have D14 : Hid (d = 1 ∨ d = 4) := Lib.hid ((pay_of (DS.out rfl).1 (DS.out rfl).2).1 EPD.out)
  have CP := Lib.hid (CPY.out _ HV.out)
  have CD := Lib.hid (C3.out wb)
  clear C3 CPY
  go_wp2_with fail
  refine CP.out.mono ?_
  rintro e wc ⟨rfl, rfl⟩
  go_wp2_with fail
  refine CD.out.mono ?_
  rintro e wd ⟨rfl, rfl⟩
  clear CP CD q1 q2 q3 q4
  go_upto_region 11 with (fail)
  have RB := heap_alloc_new wb (.cells #[.int .i64 n1, .int .i64 d, .int .i64 cd, .int .i64 0, .int .i64 0] tRw)
  have K6 := HV.out.trans (ky_box wb (.cells #[.int .i64 n1, .int .i64 d, .int .i64 cd, .int .i64 0, .int .i64 0] tRw))
  have RLT : Hid (w.heap.size ≤ wb.heap.size) := Lib.hid HV.out.size
  obtain ⟨rb, hrb⟩ : ∃ r, wb.heap.size = r := ⟨_, rfl⟩
  obtain ⟨wc, hwc⟩ : ∃ W, wb.alloc (.cells #[.int .i64 n1, .int .i64 d, .int .i64 cd, .int .i64 0, .int .i64 0] tRw) = W := ⟨_, rfl⟩
  rw [hwc] at RB K6 ⊢
  rw [hrb] at RB RLT ⊢
  have RBH := Lib.hid RB
  clear hwc hrb HV
  have HV := Lib.hid K6
  obtain ⟨⟨y0, y1, y2, y3, y4⟩, g0, g1, g2, g3, g4⟩ := five_atG RB
  obtain ⟨q1, q2, q3, q4⟩ := CQ.out _ HV.out
  clear RB K6
  by_cases hc0 : cd = 0
  · have C0 : fa F 3 ≠ [68] ∧ fa F 3 ≠ [82] := by
      rcases codeI_cases (fa F 3) with ⟨_, c1, c2⟩ | ⟨hc, _⟩ | ⟨hc, _⟩
      · exact ⟨c1, c2⟩
      · rw [ECD.out] at hc; omega
      · rw [ECD.out] at hc; omega
    have E : Hid (rowC F A = (14, 3)) := Lib.hid (by
      unfold rowC
      rw [HN.out, if_neg T1.out, N1.out, if_neg (by have := T2.out; omega), EO.out, ED.out, if_neg (by have := D14.out; simp; omega), if_pos C0])
    subst hc0
    clear C0 t1
    go_wp2
    go_ret2
    exact row_no E.out (by decide) HV.out rfl
  have CDC : Hid ((cd = 1 ∧ fa F 3 = [68]) ∨ (cd = 2 ∧ fa F 3 = [82])) := Lib.hid (by
    rcases codeI_cases (fa F 3) with ⟨hc, _⟩ | ⟨hc, h⟩ | ⟨hc, h⟩
    · exact absurd (ECD.out ▸ hc) hc0
    · exact Or.inl ⟨ECD.out ▸ hc, h⟩
    · exact Or.inr ⟨ECD.out ▸ hc, h⟩)
  have tcd : (cd == 0) = false := by rw [beq_eq_false_iff_ne]; exact hc0
  clear hc0 t1
  go_wp2_with fail
  refine (C4.out _).mono ?_
  rintro e wd ⟨rfl, k⟩
  have rb1 := (k.block rb (Array.getElem?_eq_some_iff.1 RBH.out).1).trans RBH.out
  have RB1 := Lib.hid rb1
  have HV := Lib.hid (HV.out.trans k)
  clear k C4 q1 q2 q3 q4 y0 y1 y2 y3 y4 g0 g1 g2 g3 g4 tcd
  obtain ⟨⟨y0, y1, y2, y3, y4⟩, g0, g1, g2, g3, g4⟩ := five_atG rb1
  clear rb1
  go_upto_region 14 with (fail)
  have RB2 := Lib.hid (Joins.block_setCell (i := 3) RB1.out (.int .i64 n4))
  have HV := Lib.hid (HV.out.setCell (p := ⟨rb, 3, none⟩) RLT.out (.int .i64 n4))
  obtain ⟨we, hwe⟩ : ∃ W, wd.setCell ⟨rb, 3, none⟩ (.int .i64 n4) = W := ⟨_, rfl⟩
  rw [hwe] at RB2 HV ⊢
  clear hwe y0 y1 y2 y3 y4 g0 g1 g2 g3 g4
  have HV : Hid (Keeps w we) := HV
  have RB2 : Hid (we.heap[rb]? = some (.cells #[.int .i64 n1, .int .i64 d, .int .i64 cd, .int .i64 n4, .int .i64 0] tRw (0, 0))) := RB2
  obtain ⟨⟨y0, y1, y2, y3, y4⟩, g0, g1, g2, g3, g4⟩ := five_atG RB2.out
  obtain ⟨b2, hb2⟩ : ∃ x, (cd == 2) = x := ⟨_, rfl⟩
  obtain ⟨bad, hbad⟩ : ∃ x, (!ok4 || decide (1099511627776 < n4) || (b2 && decide (0 < n4))) = x := ⟨_, rfl⟩
  have HBAD := Lib.hid hbad
  have HB2 := Lib.hid hb2
  clear hbad g0 g1 g2 g3 g4
  go_cut [85] (fun v85 wc2 => v85 = .bool bad ∧ we = wc2)
  case first =>
    by_cases h1 : 1099511627776 < n4
    · have d1 : decide (1099511627776 < n4) = true := decide_eq_true h1
      cases ok4
      all_goals
        go_wp2
        go_meet
        case rel => exact ⟨by rw [← HBAD.out]; simp [h1], rfl⟩
    · have d1 : decide (1099511627776 < n4) = false := decide_eq_false h1
      by_cases h2 : 0 < n4
      · have d2 : decide (0 < n4) = true := decide_eq_true h2
        cases ok4 <;> cases b2
        all_goals
          go_wp2
          go_meet
          case rel => exact ⟨by rw [← HBAD.out]; simp [h1, h2], rfl⟩
      · have d2 : decide (0 < n4) = false := decide_eq_false h2
        cases ok4 <;> cases b2
        all_goals
          go_wp2
          go_meet
          case rel => exact ⟨by rw [← HBAD.out]; simp [h1, h2], rfl⟩
  case rest =>
    obtain ⟨rfl, rfl⟩ := hcut
    clear hb2 y0 y1 y2 y3 y4
    cases bad with
    | true =>
      have E : Hid (rowC F A = (15, 3)) := Lib.hid (by
        unfold rowC
        rw [HN.out, if_neg T1.out, N1.out, if_neg (by have := T2.out; omega), EO.out, ED.out, if_neg (by have := D14.out; simp; omega), if_neg, if_pos]
        · cases ok4 with
          | false => rw [numI_no O4.out]; exact Or.inl (by omega)
          | true =>
            rw [numI_yes O4.out, E4.out]
            have h := HBAD.out
            rw [← HB2.out] at h
            simp only [Bool.not_true, Bool.false_or, Bool.or_eq_true, Bool.and_eq_true, decide_eq_true_eq, beq_iff_eq] at h
            rcases h with h | ⟨h1, h2⟩
            · exact Or.inr (Or.inl h)
            · refine Or.inr (Or.inr ⟨?_, h2⟩)
              rcases CDC.out with ⟨e, _⟩ | ⟨_, f⟩
              · omega
              · exact f
        · rcases CDC.out with ⟨_, f⟩ | ⟨_, f⟩ <;> rw [f] <;> simp)
      go_wp2
      go_ret2
      exact row_no E.out (by decide) HV.out rfl
    | false =>
      have OK : Hid (ok4 = true ∧ n4 ≤ 1099511627776 ∧ (cd = 2 → n4 ≤ 0)) := Lib.hid (by
        have h := HBAD.out
        rw [← HB2.out] at h
        simp only [Bool.or_eq_false_iff, Bool.and_eq_false_iff, Bool.not_eq_false', decide_eq_false_iff_not] at h
        obtain ⟨⟨h1, h2⟩, h3⟩ := h
        refine ⟨h1, by omega, fun e => ?_⟩
        rcases h3 with h3 | h3
        · rw [e] at h3; simp at h3
        · omega)
      have N4I : Hid (numI (fa F 4) 14 = n4) := Lib.hid ((numI_yes (O4.out.trans OK.out.1)).trans E4.out)
      have RR : Hid (rowR F = ⟨n1, d, cd, n4, 0⟩) := Lib.hid (by
        unfold rowR
        rw [N1.out, N4I.out, ED.out]
        rcases CDC.out with ⟨e, f⟩ | ⟨e, f⟩ <;> rw [f, e] <;> rfl)
      have RC : Hid (rowC F A = if ∃ y, A.getLast? = some y ∧ less y (rowR F) = false then (2, 6) else (0, 0)) := Lib.hid (by
        unfold rowC
        rw [HN.out, if_neg T1.out, N1.out, if_neg (by have := T2.out; omega), EO.out, ED.out, if_neg (by have := D14.out; simp; omega), if_neg, N4I.out, if_neg]
        · have h1 := OK.out.2.1
          have h2 := P4.out
          rintro (h | h | ⟨h, g⟩)
          · omega
          · omega
          · rcases CDC.out with ⟨e, f⟩ | ⟨e, f⟩
            · rw [f] at h; revert h; decide
            · have := OK.out.2.2 e; omega
        · rcases CDC.out with ⟨_, f⟩ | ⟨_, f⟩ <;> rw [f] <;> simp)
      have WT : Hid (wrap64 (t + n4) = t + n4) := Lib.hid (i64w (by have := HT.out; have := P4.out; unfold top; omega) (by have := HT.out; have := OK.out.2.1; unfold top; omega))
      have LEN : Hid (A.length + [(⟨n1, d, cd, n4, 0⟩ : R)].length = n0 + 1) := Lib.hid (by rw [HN.out]; rfl)
      have LN : Hid (A.length + [(⟨n1, d, cd, n4, 0⟩ : R)].length ≤ 100000) := Lib.hid (by rw [HN.out]; have := HAL.out; simp; omega)
      clear HBAD HB2 HP
      go_upto_region 16 with (fail)
      rcases Nat.eq_zero_or_pos n0 with h0 | h0
      · have E : Hid (rowC F A = (0, 0)) := Lib.hid (by rw [RC.out, if_neg]; rintro ⟨y, hy, _⟩; have := List.length_eq_zero_iff.1 (HN.out.trans h0); rw [this] at hy; cases hy)
        have hd0 : decide (0 < (n0 : Int)) = false := decide_eq_false (by omega)
        have hd1 : decide (0 < n0) = false := decide_eq_false (by omega)
        have hd2 : ¬ 0 < n0 := by omega
        clear h0 RC
        go_quiet (fail)
        have KQ := Lib.hid (keeps_drewN (Keeps.refl we) nq)
        obtain ⟨wx, hwx⟩ : ∃ W, we.drewN nq = W := ⟨_, rfl⟩
        rw [hwx] at KQ ⊢
        have HX := KQ
        clear hwx KQ hd0 hd1 hd2
        have RBX := Lib.hid ((HX.out.block rb (Array.getElem?_eq_some_iff.1 RB2.out).1).trans RB2.out)
        have HX := Lib.hid (Keeps.trans HV.out HX.out)
        have HBX := Lib.hid (HB.out _ HX.out)
        have HOX : Hid (∀ W, Keeps wx W → rowK.Own B W (.slice p n0 c0) A) := Lib.hid fun W k => HO.out W (HX.out.trans k)
        have BX : Hid (B ≤ wx.heap.size) := Lib.hid (Nat.le_trans HBW.out HX.out.size)
        have BLT : Hid (b < wx.heap.size) := Lib.hid (Array.getElem?_eq_some_iff.1 HBX.out).1
        have RLT2 : Hid (rb < wx.heap.size) := Lib.hid (Array.getElem?_eq_some_iff.1 RBX.out).1
        have OFF : Hid (∀ j, (Value.slice p n0 c0).ownBlock = some j → B ≤ j ∧ j < w.heap.size) := Lib.hid fun j hj => rowK.own_lt (HO.out _ (Keeps.refl w)) j hj
        clear HO HRI CQ
        obtain ⟨⟨z0, z1, z2, z3, z4⟩, f0, f1, f2, f3, f4⟩ := five_atG HBX.out
        obtain ⟨⟨y0, y1, y2, y3, y4⟩, g0, g1, g2, g3, g4⟩ := five_atG RBX.out
        clear z0 z1 z2 f0 f1 f2 f4 g0 g1 g2 g3 g4
        go_upto_region 18 with (fail)
        have l1 : b < wx.heap.size := BLT.out
        have l0 : b ≠ wx.heap.size := Nat.ne_of_lt l1
        go_region_law (
          (refine stepAppOwnK rowK rfl _ _ rfl rfl B ?hB _ _ A [⟨n1, d, cd, n4, 0⟩] (n0 + 1) LEN.out rfl rfl ?hO (rsrc_row (heap_alloc_new _ _)) LN.out ?_
           case hB => exact Nat.le_trans BX.out (by simp)
           case hO => first | exact HOX.out _ (ky_box wx _) | exact HOX.out _ (Keeps.trans (ky_box wx _) (ky_drew _)) | exact HOX.out _ (Keeps.trans (ky_drew wx) (ky_box _ _))
           intro p5 c5 w5 o5 g5
           have hb5 := (g5.block b (Nat.lt_of_lt_of_le BLT.out (by simp)) (fun e => by have := OFF.out _ e.symm; have := HBB.out; omega)).trans (Eq.trans (by first | exact (ky_box wx _).block b BLT.out | exact (Keeps.trans (ky_box wx _) (ky_drew _)).block b BLT.out | exact (Keeps.trans (ky_drew wx) (ky_box _ _)).block b BLT.out) HBX.out)
           have hc5 := Joins.cell_of_block hb5 3
           have hf5 := Joins.unfrozen_of_block hb5 3))
        all_goals
          have O5 := Lib.hid o5
          have B5 := Lib.hid hb5
          have T5 : Hid (Touch b (Value.slice p n0 c0).ownBlock w w5) := Lib.hid (Touch.grown (Touch.of_keeps (b := b) (by first | exact Keeps.trans HX.out (ky_box wx _) | exact Keeps.trans HX.out (Keeps.trans (ky_box wx _) (ky_drew _)) | exact Keeps.trans HX.out (Keeps.trans (ky_drew wx) (ky_box _ _)))) g5)
          have R5 := Lib.hid ((g5.block rb (Nat.lt_of_lt_of_le RLT2.out (by simp)) (fun e => by have := OFF.out _ e.symm; have := RLT.out; omega)).trans (Eq.trans (by first | exact (ky_box wx _).block rb RLT2.out | exact (Keeps.trans (ky_box wx _) (ky_drew _)).block rb RLT2.out | exact (Keeps.trans (ky_drew wx) (ky_box _ _)).block rb RLT2.out) RBX.out))
          clear o5 hb5 hc5 hf5 g5 l0 l1 z3 z4 f3 y0 y1 y2 y3 y4
          have R6 := Lib.hid ((Below.heap_setCell w5 ⟨b, 3, none⟩ (.slice p5 (n0 + 1) c5) rb (by have := (Array.getElem?_eq_some_iff.1 (HB.out w (Keeps.refl w))).1; have := RLT.out; show rb ≠ b; omega)).trans R5.out)
          have B6 := Lib.hid (Joins.block_setCell (i := 3) B5.out (.slice p5 (n0 + 1) c5))
          have O6 := Lib.hid (own_set (i := 3) O5.out HBB.out (.slice p5 (n0 + 1) c5))
          have T6 := Lib.hid (T5.out.set (i := 3) (.slice p5 (n0 + 1) c5))
          obtain ⟨w6, hw6⟩ : ∃ W, w5.setCell ⟨b, 3, none⟩ (.slice p5 (n0 + 1) c5) = W := ⟨_, rfl⟩
          rw [hw6] at R6 B6 O6 T6
          go_upto_region 19 with (fail)
          rw [hw6]
          clear hw6
          have B6 : Hid (w6.heap[b]? = some (rdBox nx s p5 (n0 + 1) c5 t)) := B6
          obtain ⟨⟨z0, z1, z2, z3, z4⟩, f0, f1, f2, f3, f4⟩ := five_atG B6.out
          obtain ⟨⟨y0, y1, y2, y3, y4⟩, g0, g1, g2, g3, g4⟩ := five_atG R6.out
          clear z0 z1 z2 z3 f0 f1 f2 f3 y0 y1 y2 y4 g0 g1 g2 g3 g4
          have wt : wrap64 (t + n4) = t + n4 := WT.out
          go_region
          all_goals
            go_wp2
            go_ret2
            refine ⟨ret2 (by rw [E.out]; rfl) (by rw [E.out]), (T6.out.set _).drew, fun _ => ⟨p5, c5, ?_, ?_⟩⟩
            · rw [RR.out]
              exact Joins.block_setCell (i := 4) B6.out (.int .i64 (t + n4))
            · rw [RR.out]
              exact rowK.own_keeps (own_set (i := 4) O6.out HBB.out (.int .i64 (t + n4))) (ky_drew _)
      · obtain ⟨j, hj⟩ : ∃ j, n0 - 1 = j := ⟨_, rfl⟩
        obtain ⟨y, hy⟩ : ∃ y, A[n0 - 1]? = some y := ⟨_, List.getElem?_eq_getElem (by have := HN.out; omega)⟩
        have LA : Hid (A.getLast? = some y) := Lib.hid (by rw [List.getLast?_eq_getElem?, HN.out]; exact hy)
        obtain ⟨p9, c9, e9, _, _, hc9⟩ := HRI.out _ HV.out
        rw [HN.out] at e9
        simp only [Value.slice.injEq] at e9
        obtain ⟨rfl, _, rfl⟩ := e9
        obtain ⟨ad, rfl, QQ⟩ := hc9 (n0 - 1) y hy
        rw [hj] at QQ
        obtain ⟨u1, u2⟩ := pred_wrap (k := n0) (j := j) h0 hj (by have := HAL.out; omega)
        have QY := Lib.hid QQ
        have hd0 : decide (0 < (n0 : Int)) = true := decide_eq_true (by omega)
        have hd1 : decide (0 < n0) = true := decide_eq_true h0
        have hj1 : (j : Int) < (n0 : Int) := by omega
        have hj0 : (0 : Int) ≤ (j : Int) := by omega
        obtain ⟨l, hl⟩ : ∃ b, lessK y.o y.d n1 d = b := ⟨_, rfl⟩
        have C3 : Hid (∀ W, Keeps we W → Calls Tryz.prog 94 #[.agg #[.int .i64 y.o, .int .i64 y.d], .agg #[.int .i64 n1, .int .i64 d]] W fun e w' => e = .returned (.bool l) ∧ Keeps we w') := Lib.hid fun W kk => Calls.mono (hl ▸ pk_less y.o y.d n1 d W) fun e w' h => ⟨h.1, kk.trans h.2⟩
        have CS : Hid (∀ W, Keeps we W → (W.cell? ⟨rb, 0, none⟩ = some (.int .i64 n1) ∧ W.cell? ⟨rb, 1, none⟩ = some (.int .i64 d)) ∧ W.cell? (ad.add (j * 5)) = some (.int .i64 y.o) ∧ W.cell? ⟨(ad.add (j * 5)).block, (ad.add (j * 5)).off + 1, none⟩ = some (.int .i64 y.d) ∧ W.cell? ⟨b, 3, none⟩ = some (.slice (some ad) n0 c0)) := Lib.hid fun W kk => by
          obtain ⟨d0, d1, _⟩ := QY.out.keeps kk
          have b1 := (kk.block _ (Array.getElem?_eq_some_iff.1 RB2.out).1).trans RB2.out
          exact ⟨⟨Joins.cell_of_block b1 0, Joins.cell_of_block b1 1⟩, d0, d1, (five_atG (HB.out W (HV.out.trans kk))).1.2.2.2.1⟩
        have HLL := Lib.hid hl
        have HX := Lib.hid (Keeps.refl we)
        clear hl hj hy h0 hc9 QQ
        obtain ⟨⟨y0, y1⟩, z0, z1, z3⟩ := CS.out _ HX.out
        go_region_held3 (fun W => (W.cell? ⟨rb, 0, none⟩ = some (.int .i64 n1) ∧ W.cell? ⟨rb, 1, none⟩ = some (.int .i64 d)) ∧ W.cell? (ad.add (j * 5)) = some (.int .i64 y.o) ∧ W.cell? ⟨(ad.add (j * 5)).block, (ad.add (j * 5)).off + 1, none⟩ = some (.int .i64 y.d) ∧ W.cell? ⟨b, 3, none⟩ = some (.slice (some ad) n0 c0))
          (first | exact CS.out _ HX.out | exact CS.out _ (HX.out.trans (ky_drew _)) | assumption)
          ((go_at_call 94; refine (C3.out _ (HX.out.trans (ky_drew _))).mono ?_; clear HX C3; rintro e wx ⟨rfl, hv⟩; have HX := Lib.hid hv; have zv := CS.out _ hv; clear hv))
        clear u1 u2 hd0 hd1 hj1 hj0 y0 y1 z0 z1 z3 CS
        cases l with
        | false =>
          have E : Hid (rowC F A = (2, 6)) := Lib.hid (by rw [RC.out, if_pos ⟨y, LA.out, by rw [RR.out]; unfold less; exact HLL.out⟩])
          clear RC
          go_wp2
          go_ret2
          exact row_no E.out (by decide) (HV.out.trans HX.out) rfl
        | true =>
          have E : Hid (rowC F A = (0, 0)) := Lib.hid (by
            rw [RC.out, if_neg]
            rintro ⟨x, hx, hb⟩
            rw [LA.out] at hx
            cases hx
            rw [RR.out] at hb
            unfold less at hb
            rw [HLL.out] at hb
            cases hb)
          clear RC
          have RBX := Lib.hid ((HX.out.block rb (Array.getElem?_eq_some_iff.1 RB2.out).1).trans RB2.out)
          have HX := Lib.hid (Keeps.trans HV.out HX.out)
          have HBX := Lib.hid (HB.out _ HX.out)
          have HOX : Hid (∀ W, Keeps wx W → rowK.Own B W (.slice (some ad) n0 c0) A) := Lib.hid fun W k => HO.out W (HX.out.trans k)
          have BX : Hid (B ≤ wx.heap.size) := Lib.hid (Nat.le_trans HBW.out HX.out.size)
          have BLT : Hid (b < wx.heap.size) := Lib.hid (Array.getElem?_eq_some_iff.1 HBX.out).1
          have RLT2 : Hid (rb < wx.heap.size) := Lib.hid (Array.getElem?_eq_some_iff.1 RBX.out).1
          have OFF : Hid (∀ j, (Value.slice (some ad) n0 c0).ownBlock = some j → B ≤ j ∧ j < w.heap.size) := Lib.hid fun j hj => rowK.own_lt (HO.out _ (Keeps.refl w)) j hj
          clear HO HRI CQ
          obtain ⟨⟨z0, z1, z2, z3, z4⟩, f0, f1, f2, f3, f4⟩ := five_atG HBX.out
          obtain ⟨⟨y0, y1, y2, y3, y4⟩, g0, g1, g2, g3, g4⟩ := five_atG RBX.out
          clear z0 z1 z2 f0 f1 f2 f4 g0 g1 g2 g3 g4
          go_upto_region 18 with (fail)
          have l1 : b < wx.heap.size := BLT.out
          have l0 : b ≠ wx.heap.size := Nat.ne_of_lt l1
          go_region_law (
            (refine stepAppOwnK rowK rfl _ _ rfl rfl B ?hB _ _ A [⟨n1, d, cd, n4, 0⟩] (n0 + 1) LEN.out rfl rfl ?hO (rsrc_row (heap_alloc_new _ _)) LN.out ?_
             case hB => exact Nat.le_trans BX.out (by simp)
             case hO => first | exact HOX.out _ (ky_box wx _) | exact HOX.out _ (Keeps.trans (ky_box wx _) (ky_drew _)) | exact HOX.out _ (Keeps.trans (ky_drew wx) (ky_box _ _))
             intro p5 c5 w5 o5 g5
             have hb5 := (g5.block b (Nat.lt_of_lt_of_le BLT.out (by simp)) (fun e => by have := OFF.out _ e.symm; have := HBB.out; omega)).trans (Eq.trans (by first | exact (ky_box wx _).block b BLT.out | exact (Keeps.trans (ky_box wx _) (ky_drew _)).block b BLT.out | exact (Keeps.trans (ky_drew wx) (ky_box _ _)).block b BLT.out) HBX.out)
             have hc5 := Joins.cell_of_block hb5 3
             have hf5 := Joins.unfrozen_of_block hb5 3))
          all_goals
            have O5 := Lib.hid o5
            have B5 := Lib.hid hb5
            have T5 : Hid (Touch b (Value.slice (some ad) n0 c0).ownBlock w w5) := Lib.hid (Touch.grown (Touch.of_keeps (b := b) (by first | exact Keeps.trans HX.out (ky_box wx _) | exact Keeps.trans HX.out (Keeps.trans (ky_box wx _) (ky_drew _)) | exact Keeps.trans HX.out (Keeps.trans (ky_drew wx) (ky_box _ _)))) g5)
            have R5 := Lib.hid ((g5.block rb (Nat.lt_of_lt_of_le RLT2.out (by simp)) (fun e => by have := OFF.out _ e.symm; have := RLT.out; omega)).trans (Eq.trans (by first | exact (ky_box wx _).block rb RLT2.out | exact (Keeps.trans (ky_box wx _) (ky_drew _)).block rb RLT2.out | exact (Keeps.trans (ky_drew wx) (ky_box _ _)).block rb RLT2.out) RBX.out))
            clear o5 hb5 hc5 hf5 g5 l0 l1 z3 z4 f3 y0 y1 y2 y3 y4
            have R6 := Lib.hid ((Below.heap_setCell w5 ⟨b, 3, none⟩ (.slice p5 (n0 + 1) c5) rb (by have := (Array.getElem?_eq_some_iff.1 (HB.out w (Keeps.refl w))).1; have := RLT.out; show rb ≠ b; omega)).trans R5.out)
            have B6 := Lib.hid (Joins.block_setCell (i := 3) B5.out (.slice p5 (n0 + 1) c5))
            have O6 := Lib.hid (own_set (i := 3) O5.out HBB.out (.slice p5 (n0 + 1) c5))
            have T6 := Lib.hid (T5.out.set (i := 3) (.slice p5 (n0 + 1) c5))
            obtain ⟨w6, hw6⟩ : ∃ W, w5.setCell ⟨b, 3, none⟩ (.slice p5 (n0 + 1) c5) = W := ⟨_, rfl⟩
            rw [hw6] at R6 B6 O6 T6
            go_upto_region 19 with (fail)
            rw [hw6]
            clear hw6
            have B6 : Hid (w6.heap[b]? = some (rdBox nx s p5 (n0 + 1) c5 t)) := B6
            obtain ⟨⟨z0, z1, z2, z3, z4⟩, f0, f1, f2, f3, f4⟩ := five_atG B6.out
            obtain ⟨⟨y0, y1, y2, y3, y4⟩, g0, g1, g2, g3, g4⟩ := five_atG R6.out
            clear z0 z1 z2 z3 f0 f1 f2 f3 y0 y1 y2 y4 g0 g1 g2 g3 g4
            have wt : wrap64 (t + n4) = t + n4 := WT.out
            go_region
            all_goals
              go_wp2
              go_ret2
              refine ⟨ret2 (by rw [E.out]; rfl) (by rw [E.out]), (T6.out.set _).drew, fun _ => ⟨p5, c5, ?_, ?_⟩⟩
              · rw [RR.out]
                exact Joins.block_setCell (i := 4) B6.out (.int .i64 (t + n4))
              · rw [RR.out]
                exact rowK.own_keeps (own_set (i := 4) O6.out HBB.out (.int .i64 (t + n4))) (ky_drew _)
end Go.Proofs.YtomonhghioamfaaGreatDoor
namespace Go.Proofs.YtomonhghioamfaaGreatDoor
open Go.ChangeShapes Go.WideShapes Go.ChangeAt Go.RowKit Ky Rw Stl

theorem kind_first {c : UInt8} {r : List UInt8} {k : UInt8} (h0 : k ≠ 0) (h10 : k ≠ 10) : kindOf (bodyOf (c :: r)) = k ↔ c = k := by
  unfold bodyOf
  cases hw : wholeB (c :: r) with
  | false => simp only [Bool.false_eq_true, if_false]; rfl
  | true =>
    simp only [if_true]
    cases r with
    | nil =>
      have : c = 10 := by simpa [wholeB] using hw
      rw [this]
      show (0 : UInt8) = k ↔ (10 : UInt8) = k
      exact ⟨fun e => absurd e.symm h0, fun e => absurd e.symm h10⟩
    | cons a r => rfl
theorem whole_suffix (l : List UInt8) : Lib.hasSuffix l [10] = wholeB l ∧ Lib.trimSuffix l [10] = bodyOf l := by
  have e : Lib.hasSuffix l [10] = wholeB l := by
    unfold Lib.hasSuffix wholeB
    rw [Bool.eq_iff_iff, List.isSuffixOf_iff_suffix, beq_iff_eq]
    constructor
    · rintro ⟨t, rfl⟩; simp
    · intro h
      obtain ⟨ys, rfl⟩ := List.getLast?_eq_some_iff.1 h
      exact ⟨ys, rfl⟩
  refine ⟨e, ?_⟩
  unfold Lib.trimSuffix bodyOf
  rw [e, List.dropLast_eq_take]
  rfl
theorem next_hit (st : PS) (c : UInt8) : decide (0 ≤ Lib.indexByte (nextS st).data.toList c) = (!st.ended && ((decide (st.n = 0) && decide (c = 72)) || (decide (0 < st.n) && (decide (c = 68) || decide (c = 84))))) := by
  unfold nextS
  cases he : st.ended with
  | true => rw [if_pos rfl]; rfl
  | false =>
    rw [if_neg (by simp)]
    by_cases h0 : st.n = 0
    · rw [if_pos h0, h0]
      by_cases hc : c = 72
      · rw [hc]; rfl
      · have hb : ((72 : UInt8) == c) = false := by rw [beq_eq_false_iff_ne]; exact fun e => hc e.symm
        have e : Lib.indexByte (⟨#[72]⟩ : ByteArray).data.toList c = -1 := by
          show Lib.indexByte [72] c = -1
          rw [Lib.indexByte, hb]; rfl
        rw [e]; simp [hc]
    · rw [if_neg h0]
      have hp : 0 < st.n := by omega
      by_cases h1 : c = 68
      · rw [h1]; simp [hp, h0]; decide
      · by_cases h2 : c = 84
        · rw [h2]; simp [hp, h0]; decide
        · have b1 : ((68 : UInt8) == c) = false := by rw [beq_eq_false_iff_ne]; exact fun e => h1 e.symm
          have b2 : ((84 : UInt8) == c) = false := by rw [beq_eq_false_iff_ne]; exact fun e => h2 e.symm
          have e : Lib.indexByte (⟨#[68, 84]⟩ : ByteArray).data.toList c = -1 := by
            show Lib.indexByte [68, 84] c = -1
            rw [Lib.indexByte, b1, Lib.indexByte, b2]; rfl
          rw [e]; simp [h1, h2, h0]
theorem headC_zero {F : List (List UInt8)} : (headC F).1 = 0 → headC F = (0, 0) := by
  unfold headC
  repeat' split
  all_goals simp
theorem rowC_zero {F : List (List UInt8)} {A : List R} : (rowC F A).1 = 0 → rowC F A = (0, 0) := by
  unfold rowC
  repeat' split
  all_goals simp
theorem trailC_zero {F : List (List UInt8)} {A : List R} : (trailC F A).1 = 0 → trailC F A = (0, 0) := by
  unfold trailC
  repeat' split
  all_goals simp
/-- What 'read' leaves. -/
def ReadOut (b B : Nat) (st : PS) (l : List UInt8) (o : Option Nat) (w : World) (e : Ending) (w' : World) : Prop :=
  Touch b o w w' ∧ ((∃ (st' : PS) (p' : Option Addr) (n' c' : Nat), Stl.step st l = .ok st' ∧ e = .returned (.tuple #[.int .i64 0, .int .i64 0]) ∧ st'.rows.length = n' ∧ w'.heap[b]? = some (rdBox (nextS st') st'.seq p' n' c' (totA st'.rows)) ∧ rowK.Own B w' (.slice p' n' c') st'.rows) ∨
    (∃ (x : Nat) (y : Int), Stl.step st l = .error (st.n + 1, x, y) ∧ 1 ≤ y ∧ e = .returned (.tuple #[.int .i64 (x : Int), .int .i64 y])))
theorem read_no {b B : Nat} {st : PS} {l : List UInt8} {o : Option Nat} {w w' : World} {x : Nat} {y : Int} (k : Touch b o w w') (h : Stl.step st l = .error (st.n + 1, x, y)) {e : Ending} (he : e = .returned (.tuple #[.int .i64 (x : Int), .int .i64 y])) : ReadOut b B st l o w e w' :=
  ⟨k, Or.inr ⟨x, y, h, (step_bad h).2.2, he⟩⟩
set_option maxHeartbeats 16000000 in
set_option maxRecDepth 100000 in
theorem se_read (b B : Nat) (st : PS) (l : List UInt8) (S : ByteArray) (p : Option Addr) (n0 c0 : Nat) (w : World) (hl : S.data.toList = l) (h1 : 1 ≤ S.size) (h2 : S.size ≤ 65536) (hA : st.rows.length = n0) (hal : st.rows.length ≤ 400) (hr : ∀ x ∈ st.rows, Row1 0 x)
    (hb : w.heap[b]? = some (rdBox (nextS st) st.seq p n0 c0 (totA st.rows))) (hO : rowK.Own B w (.slice p n0 c0) st.rows) (hbB : b < B) (hBw : B ≤ w.heap.size) (hp : HasP w) :
    Calls Tryz.prog 23 #[.pointer (some ⟨b, 0, none⟩), .string S] w (ReadOut b B st l (Value.slice p n0 c0).ownBlock w) := by
  have HB : Hid (∀ W, Keeps w W → W.heap[b]? = some (rdBox (nextS st) st.seq p n0 c0 (totA st.rows))) := Lib.hid fun W k => (k.block b (Array.getElem?_eq_some_iff.1 hb).1).trans hb
  have HO : Hid (∀ W, Keeps w W → rowK.Own B W (.slice p n0 c0) st.rows) := Lib.hid fun W k => rowK.own_keeps hO k
  have HP : Hid (∀ W, Keeps w W → HasP W) := Lib.hid fun W k => hp.keeps k
  have HN := Lib.hid hA
  have HAL := Lib.hid hal
  have HBB := Lib.hid hbB
  have HBW := Lib.hid hBw
  have TT : Hid (0 ≤ totA st.rows ∧ totA st.rows ≤ 439804651110400) := Lib.hid (by
    obtain ⟨t1, t2⟩ := tot_le hr
    exact ⟨t1, by omega⟩)
  obtain ⟨c, r, hcr⟩ : ∃ c r, l = c :: r := by
    cases l with
    | nil => have := congrArg List.length hl; rw [len_data, List.length_nil] at this; omega
    | cons c r => exact ⟨c, r, rfl⟩
  have EX : S.extract 0 1 = ⟨#[c]⟩ := by
    apply bytes_inj
    have q : (S.extract 0 1).data.toList = (S.data.toList.drop 0).take (1 - 0) := by rw [← extract_list, ByteArray.toList_eq]
    rw [q, hl, hcr]
    rfl
  have KF : Hid (∀ k : UInt8, k ≠ 0 → k ≠ 10 → (kindOf (bodyOf l) = k ↔ c = k)) := Lib.hid fun k h0 h10 => by rw [hcr]; exact kind_first h0 h10
  obtain ⟨NX, hNX⟩ : ∃ X, nextS st = X := ⟨_, rfl⟩
  have ENX := Lib.hid hNX
  obtain ⟨hit, hhit⟩ : ∃ h, decide (0 ≤ Lib.indexByte (nextS st).data.toList c) = h := ⟨_, rfl⟩
  have C1 : Hid (∀ W, Calls Tryz.prog 55 #[.string NX, .string ⟨#[c]⟩] W fun e w' => e = .returned (.bool hit) ∧ w' = W) := Lib.hid fun W => by rw [← hhit, ← hNX]; exact se_contains (nextS st) c W
  have HIT : Hid (hit = (!st.ended && ((decide (st.n = 0) && decide (c = 72)) || (decide (0 < st.n) && (decide (c = 68) || decide (c = 84)))))) := Lib.hid (by rw [← hhit]; exact next_hit st c)
  obtain ⟨wb, hwb⟩ : ∃ b, wholeB l = b := ⟨_, rfl⟩
  obtain ⟨Bd, hBd⟩ : ∃ X : ByteArray, ⟨(bodyOf l).toArray⟩ = X := ⟨_, rfl⟩
  have C2 : Hid (∀ W, Calls Tryz.prog 56 #[.string S, .string ⟨#[10]⟩] W fun e w' => e = .returned (.tuple #[.string Bd, .bool wb]) ∧ w' = W) := Lib.hid fun W => by
    have := se_cutSuffix S ⟨#[10]⟩ W (by omega)
    rw [hl, show (ByteArray.mk #[10]).data.toList = [10] from rfl, (whole_suffix l).1, (whole_suffix l).2, hwb, hBd] at this
    exact this
  have HWB := Lib.hid hwb
  have HBD : Hid (Bd.data.toList = bodyOf l) := Lib.hid (by rw [← hBd, data_mk])
  have BSZ : Hid (Bd.size ≤ 65536) := Lib.hid (by
    have e := congrArg List.length (show Bd.data.toList = bodyOf l by rw [← hBd, data_mk])
    rw [len_data] at e
    have h3 := body_le l
    have h4 := congrArg List.length hl
    rw [len_data] at h4
    omega)
  have KB : 1 ≤ S.size := h1
  clear hl h2 hA hal hr hO hbB hBw hp hcr hhit hwb hBd h1
  have hb' := HB.out w (Keeps.refl w)
  rw [hNX] at hb'
  obtain ⟨⟨z0, z1, z2, z3, z4⟩, f0, f1, f2, f3, f4⟩ := five_atG hb'
  clear hb hb' hNX z1 z2 z3 z4 f0 f1 f2 f3 f4
  go_enter Tryz.func23, Tryz.ntmps23
  go_wp2_with fail
  refine (C1.out _).mono ?_
  rintro e w1 ⟨rfl, rfl⟩
  clear C1 z0 KB EX
  cases hit with
  | false =>
    have E : Hid (Stl.step st l = .error (st.n + 1, 1, 7)) := Lib.hid (by
      unfold Stl.step
      rw [if_pos]
      have h := HIT.out
      have k72 := KF.out 72 (by decide) (by decide)
      have k68 := KF.out 68 (by decide) (by decide)
      have k84 := KF.out 84 (by decide) (by decide)
      rw [Ne, Ne, Ne, k72, k68, k84]
      cases he : st.ended with
      | true => exact Or.inl rfl
      | false =>
        rw [he] at h
        simp only [Bool.not_false, Bool.true_and] at h
        rcases Nat.eq_zero_or_pos st.n with h0 | h0
        · refine Or.inr (Or.inl ⟨h0, fun e => ?_⟩)
          rw [h0, e] at h
          simp at h
        · refine Or.inr (Or.inr ⟨h0, fun e => ?_, fun e => ?_⟩)
          · rw [e] at h; simp [h0] at h
          · rw [e] at h; simp [h0] at h)
    go_wp2
    go_ret2
    exact read_no (Touch.of_keeps (Keeps.refl _)) E.out rfl
  | true =>
    have EN : Hid (st.ended = false) := Lib.hid (by
      have h := HIT.out
      cases he : st.ended with
      | false => rfl
      | true => rw [he] at h; simp at h)
    have KIND : (st.n = 0 ∧ c = 72) ∨ (0 < st.n ∧ c = 68) ∨ (0 < st.n ∧ c = 84) := by
      have h := HIT.out
      rw [EN.out] at h
      simp only [Bool.not_false, Bool.true_and] at h
      have h := h.symm
      simp only [Bool.or_eq_true, Bool.and_eq_true, decide_eq_true_eq] at h
      rcases h with h | ⟨h, g | g⟩
      · exact Or.inl h
      · exact Or.inr (Or.inl ⟨h, g⟩)
      · exact Or.inr (Or.inr ⟨h, g⟩)
    have ST : Hid (Stl.step st l = if (Fix.pa (widthsOf c) (bodyOf l)).2 ≠ 0 then .error (st.n + 1, (Fix.pa (widthsOf c) (bodyOf l)).2, 1) else if wb = false then .error (st.n + 1, (bodyOf l).length + 1, 1) else if c = 72 then (if (headC (Fix.pa wH (bodyOf l)).1).1 ≠ 0 then .error (st.n + 1, headC (Fix.pa wH (bodyOf l)).1) else .ok ⟨st.n + 1, numI (fa (Fix.pa wH (bodyOf l)).1 2) 10, st.rows, false⟩) else if c = 68 then (if (rowC (Fix.pa wD (bodyOf l)).1 st.rows).1 ≠ 0 then .error (st.n + 1, rowC (Fix.pa wD (bodyOf l)).1 st.rows) else .ok ⟨st.n + 1, st.seq, st.rows ++ [rowR (Fix.pa wD (bodyOf l)).1], false⟩) else (if (trailC (Fix.pa wT (bodyOf l)).1 st.rows).1 ≠ 0 then .error (st.n + 1, trailC (Fix.pa wT (bodyOf l)).1 st.rows) else .ok ⟨st.n + 1, st.seq, st.rows, true⟩)) := Lib.hid (by
      have kk : kindOf (bodyOf l) = c := by
        rcases KIND with ⟨_, e⟩ | ⟨_, e⟩ | ⟨_, e⟩ <;> exact (KF.out c (by rw [e]; decide) (by rw [e]; decide)).2 rfl
      unfold Stl.step
      rw [kk, HWB.out, EN.out, if_neg]
      rintro (h | ⟨h0, h⟩ | ⟨h0, h, g⟩)
      · cases h
      · rcases KIND with ⟨a, e⟩ | ⟨a, e⟩ | ⟨a, e⟩
        · exact h e
        · omega
        · omega
      · rcases KIND with ⟨a, e⟩ | ⟨a, e⟩ | ⟨a, e⟩
        · omega
        · exact h e
        · exact g e)
    have LBD : Hid ((bodyOf l).length = Bd.size) := Lib.hid (by rw [← HBD.out, len_data])
    clear HIT KF
    rcases KIND with ⟨hn, rfl⟩ | ⟨hn, rfl⟩ | ⟨hn, rfl⟩
    · have HNN := Lib.hid hn
      have CW := Lib.hid (se_widthsH w1)
      have ST2 : Hid (Stl.step st l = if (Fix.pa wH (bodyOf l)).2 ≠ 0 then .error (st.n + 1, (Fix.pa wH (bodyOf l)).2, 1) else if wb = false then .error (st.n + 1, (bodyOf l).length + 1, 1) else (if (headC (Fix.pa wH (bodyOf l)).1).1 ≠ 0 then .error (st.n + 1, headC (Fix.pa wH (bodyOf l)).1) else .ok ⟨st.n + 1, numI (fa (Fix.pa wH (bodyOf l)).1 2) 10, st.rows, false⟩)) := Lib.hid ST.out
      clear hn ST
      have ST := ST2
      clear ST2
      go_wp2_with fail
      refine (C2.out _).mono ?_
      rintro e w2 ⟨rfl, rfl⟩
      clear C2
      go_wp2_with fail
      refine CW.out.mono ?_
      rintro e w3 ⟨vw, rfl, hw3, k3⟩
      have hwx := hw3
      have CP := Lib.hid (fparse_any vw wH Bd w3 hw3 (by have := BSZ.out; unfold maxLen; omega))
      have K3 := Lib.hid k3
      clear hw3 k3 CW
      obtain ⟨pw, nw, cw, rfl⟩ : ∃ p n c, vw = .slice p n c := by obtain ⟨p, c, e, _⟩ := hwx; exact ⟨p, _, c, e⟩
      go_wp2_with fail
      refine CP.out.mono ?_
      rintro e w4 ⟨k4, vf, col, rfl, hcol, hst⟩
      rw [HBD.out] at hcol hst
      have HCOL := Lib.hid hcol
      have HST := Lib.hid hst
      have K4 := Lib.hid (Keeps.trans K3.out k4)
      clear k4 CP hcol hst
      by_cases hc0 : col = 0
      rotate_left
      · have E := Lib.hid (ST.out.trans (if_pos (by rw [HCOL.out]; exact hc0)))
        have tc : (0 : Int) < (col : Int) := by omega
        go_wp2
        go_ret2
        exact read_no (Touch.of_keeps K4.out) (by rw [E.out, HCOL.out]) rfl
      subst hc0
      have ST := Lib.hid (ST.out.trans (if_neg (by rw [HCOL.out]; simp)))
      cases wb with
      | false =>
        have E := Lib.hid (ST.out.trans (if_pos rfl))
        have wb1 : wrap64 (1 + (Bd.size : Int)) = ((Bd.size + 1 : Nat) : Int) := (i64w (by unfold top; omega) (by unfold top; have := BSZ.out; omega)).trans (by omega)
        go_wp2
        go_ret2
        exact read_no (Touch.of_keeps K4.out) (by rw [E.out, LBD.out]) (ret2 wb1 rfl)
      | true =>
        have ST := Lib.hid (ST.out.trans (if_neg (by simp)))
        obtain ⟨hsh, hln⟩ := pa_short okH (by decide) HCOL.out
        obtain ⟨F, hF⟩ : ∃ F, (Fix.pa wH (bodyOf l)).1 = F := ⟨_, rfl⟩
        have HF := Lib.hid hF
        have hst2 : StrsAt w4 vf F := by rw [← hF]; exact HST.out
        rw [hF] at hsh hln ST
        have CH := Lib.hid (se_header b (nextS st) st.seq (totA st.rows) p n0 c0 vf F w4 hst2 hln hsh (HB.out _ K4.out))
        clear hsh hln hst2 hF HST
        go_wp2_with fail
        refine CH.out.mono ?_
        rintro e w5 ⟨rfl, t5, hok⟩
        have T5 := Lib.hid (Touch.trans (Touch.of_keeps K4.out) (Touch.more (o := (Value.slice p n0 c0).ownBlock) t5))
        have HOK := Lib.hid hok
        have O5 := Lib.hid (rowK.own_local (HO.out _ K4.out) fun g hg => t5.same g (rowK.own_lt (HO.out _ K4.out) g hg).2 (by have := (rowK.own_lt (HO.out _ K4.out) g hg).1; have := HBB.out; omega) (by simp))
        clear t5 hok CH
        go_wp2
        go_ret2
        by_cases hx : (headC F).1 = 0
        · refine ⟨T5.out, Or.inl ⟨_, p, n0, c0, ST.out.trans (if_neg (by simp [hx])), ?_, HN.out, HOK.out hx, O5.out⟩⟩
          rw [headC_zero hx]; rfl
        · exact read_no T5.out (ST.out.trans (if_pos hx)) rfl
    · have HNN := Lib.hid hn
      have CW := Lib.hid (se_widthsD w1)
      have ST2 : Hid (Stl.step st l = if (Fix.pa wD (bodyOf l)).2 ≠ 0 then .error (st.n + 1, (Fix.pa wD (bodyOf l)).2, 1) else if wb = false then .error (st.n + 1, (bodyOf l).length + 1, 1) else (if (rowC (Fix.pa wD (bodyOf l)).1 st.rows).1 ≠ 0 then .error (st.n + 1, rowC (Fix.pa wD (bodyOf l)).1 st.rows) else .ok ⟨st.n + 1, st.seq, st.rows ++ [rowR (Fix.pa wD (bodyOf l)).1], false⟩)) := Lib.hid ST.out
      clear hn ST
      have ST := ST2
      clear ST2
      go_wp2_with fail
      refine (C2.out _).mono ?_
      rintro e w2 ⟨rfl, rfl⟩
      clear C2
      go_wp2_with fail
      refine CW.out.mono ?_
      rintro e w3 ⟨vw, rfl, hw3, k3⟩
      have hwx := hw3
      have CP := Lib.hid (fparse_any vw wD Bd w3 hw3 (by have := BSZ.out; unfold maxLen; omega))
      have K3 := Lib.hid k3
      clear hw3 k3 CW
      obtain ⟨pw, nw, cw, rfl⟩ : ∃ p n c, vw = .slice p n c := by obtain ⟨p, c, e, _⟩ := hwx; exact ⟨p, _, c, e⟩
      go_wp2_with fail
      refine CP.out.mono ?_
      rintro e w4 ⟨k4, vf, col, rfl, hcol, hst⟩
      rw [HBD.out] at hcol hst
      have HCOL := Lib.hid hcol
      have HST := Lib.hid hst
      have K4 := Lib.hid (Keeps.trans K3.out k4)
      clear k4 CP hcol hst
      by_cases hc0 : col = 0
      rotate_left
      · have E := Lib.hid (ST.out.trans (if_pos (by rw [HCOL.out]; exact hc0)))
        have tc : (0 : Int) < (col : Int) := by omega
        go_wp2
        go_ret2
        exact read_no (Touch.of_keeps K4.out) (by rw [E.out, HCOL.out]) rfl
      subst hc0
      have ST := Lib.hid (ST.out.trans (if_neg (by rw [HCOL.out]; simp)))
      cases wb with
      | false =>
        have E := Lib.hid (ST.out.trans (if_pos rfl))
        have wb1 : wrap64 (1 + (Bd.size : Int)) = ((Bd.size + 1 : Nat) : Int) := (i64w (by unfold top; omega) (by unfold top; have := BSZ.out; omega)).trans (by omega)
        go_wp2
        go_ret2
        exact read_no (Touch.of_keeps K4.out) (by rw [E.out, LBD.out]) (ret2 wb1 rfl)
      | true =>
        have ST := Lib.hid (ST.out.trans (if_neg (by simp)))
        obtain ⟨hsh, hln⟩ := pa_short okD (by decide) HCOL.out
        obtain ⟨F, hF⟩ : ∃ F, (Fix.pa wD (bodyOf l)).1 = F := ⟨_, rfl⟩
        have HF := Lib.hid hF
        have hst2 : StrsAt w4 vf F := by rw [← hF]; exact HST.out
        rw [hF] at hsh hln ST
        have CH := Lib.hid (se_row b B (nextS st) st.seq (totA st.rows) p n0 c0 vf F st.rows w4 hst2 hln hsh HN.out HAL.out TT.out.1 TT.out.2 (HB.out _ K4.out) (HO.out _ K4.out) HBB.out (Nat.le_trans HBW.out K4.out.size) (HP.out _ K4.out))
        clear hsh hln hst2 hF HST
        go_wp2_with fail
        refine CH.out.mono ?_
        rintro e w5 ⟨rfl, t5, hok⟩
        have T5 := Lib.hid (Touch.trans (Touch.of_keeps K4.out) t5)
        have HOK := Lib.hid hok
        clear t5 hok CH
        go_wp2
        go_ret2
        by_cases hx : (rowC F st.rows).1 = 0
        · obtain ⟨p5, c5, b5, o5⟩ := HOK.out hx
          have hnx : nextS st = nextS ⟨st.n + 1, st.seq, st.rows ++ [rowR F], false⟩ := by
            unfold nextS
            rw [EN.out, if_neg (by simp), if_neg (by have := HNN.out; omega)]
            simp
          refine ⟨T5.out, Or.inl ⟨_, p5, n0 + 1, c5, ST.out.trans (if_neg (by simp [hx])), ?_, by rw [List.length_append, HN.out]; rfl, ?_, o5⟩⟩
          · rw [rowC_zero hx]; rfl
          · rw [← hnx, tot_snoc]; exact b5
        · exact read_no T5.out (ST.out.trans (if_pos hx)) rfl
    · have HNN := Lib.hid hn
      have CW := Lib.hid (se_widthsT w1)
      have ST2 : Hid (Stl.step st l = if (Fix.pa wT (bodyOf l)).2 ≠ 0 then .error (st.n + 1, (Fix.pa wT (bodyOf l)).2, 1) else if wb = false then .error (st.n + 1, (bodyOf l).length + 1, 1) else (if (trailC (Fix.pa wT (bodyOf l)).1 st.rows).1 ≠ 0 then .error (st.n + 1, trailC (Fix.pa wT (bodyOf l)).1 st.rows) else .ok ⟨st.n + 1, st.seq, st.rows, true⟩)) := Lib.hid ST.out
      clear hn ST
      have ST := ST2
      clear ST2
      go_wp2_with fail
      refine (C2.out _).mono ?_
      rintro e w2 ⟨rfl, rfl⟩
      clear C2
      go_wp2_with fail
      refine CW.out.mono ?_
      rintro e w3 ⟨vw, rfl, hw3, k3⟩
      have hwx := hw3
      have CP := Lib.hid (fparse_any vw wT Bd w3 hw3 (by have := BSZ.out; unfold maxLen; omega))
      have K3 := Lib.hid k3
      clear hw3 k3 CW
      obtain ⟨pw, nw, cw, rfl⟩ : ∃ p n c, vw = .slice p n c := by obtain ⟨p, c, e, _⟩ := hwx; exact ⟨p, _, c, e⟩
      go_wp2_with fail
      refine CP.out.mono ?_
      rintro e w4 ⟨k4, vf, col, rfl, hcol, hst⟩
      rw [HBD.out] at hcol hst
      have HCOL := Lib.hid hcol
      have HST := Lib.hid hst
      have K4 := Lib.hid (Keeps.trans K3.out k4)
      clear k4 CP hcol hst
      by_cases hc0 : col = 0
      rotate_left
      · have E := Lib.hid (ST.out.trans (if_pos (by rw [HCOL.out]; exact hc0)))
        have tc : (0 : Int) < (col : Int) := by omega
        go_wp2
        go_ret2
        exact read_no (Touch.of_keeps K4.out) (by rw [E.out, HCOL.out]) rfl
      subst hc0
      have ST := Lib.hid (ST.out.trans (if_neg (by rw [HCOL.out]; simp)))
      cases wb with
      | false =>
        have E := Lib.hid (ST.out.trans (if_pos rfl))
        have wb1 : wrap64 (1 + (Bd.size : Int)) = ((Bd.size + 1 : Nat) : Int) := (i64w (by unfold top; omega) (by unfold top; have := BSZ.out; omega)).trans (by omega)
        go_wp2
        go_ret2
        exact read_no (Touch.of_keeps K4.out) (by rw [E.out, LBD.out]) (ret2 wb1 rfl)
      | true =>
        have ST := Lib.hid (ST.out.trans (if_neg (by simp)))
        obtain ⟨hsh, hln⟩ := pa_short okT (by decide) HCOL.out
        obtain ⟨F, hF⟩ : ∃ F, (Fix.pa wT (bodyOf l)).1 = F := ⟨_, rfl⟩
        have HF := Lib.hid hF
        have hst2 : StrsAt w4 vf F := by rw [← hF]; exact HST.out
        rw [hF] at hsh hln ST
        have CH := Lib.hid (se_trailer b (nextS st) st.seq (totA st.rows) p n0 c0 vf F st.rows w4 hst2 hln hsh HN.out rfl (HB.out _ K4.out))
        clear hsh hln hst2 hF HST
        go_wp2_with fail
        refine CH.out.mono ?_
        rintro e w5 ⟨rfl, t5, hok⟩
        have T5 := Lib.hid (Touch.trans (Touch.of_keeps K4.out) (Touch.more (o := (Value.slice p n0 c0).ownBlock) t5))
        have HOK := Lib.hid hok
        have O5 := Lib.hid (rowK.own_local (HO.out _ K4.out) fun g hg => t5.same g (rowK.own_lt (HO.out _ K4.out) g hg).2 (by have := (rowK.own_lt (HO.out _ K4.out) g hg).1; have := HBB.out; omega) (by simp))
        clear t5 hok CH
        go_wp2
        go_ret2
        by_cases hx : (trailC F st.rows).1 = 0
        · refine ⟨T5.out, Or.inl ⟨_, p, n0, c0, ST.out.trans (if_neg (by simp [hx])), ?_, HN.out, HOK.out hx, O5.out⟩⟩
          rw [trailC_zero hx]; rfl
        · exact read_no T5.out (ST.out.trans (if_pos hx)) rfl
end Go.Proofs.YtomonhghioamfaaGreatDoor
