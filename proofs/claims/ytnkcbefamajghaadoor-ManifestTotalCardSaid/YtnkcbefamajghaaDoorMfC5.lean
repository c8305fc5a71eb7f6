
/- The program's manifest: numbers, cells, a row's box, the reader's steps. The program's manifest: the reader, row by row. The program's manifest: a row read; Parse. The program's manifest: a map whose keys are keys; Print. -/
import Derived.Test.YtnkcbefamajghaaDoorMfSet
import Derived.Test.YtnkcbefamajghaaDoorKyCP
import Derived.Test.YtnkcbefamajghaaDoorRwCP
import Derived.Test.YtnkcbefamajghaaDoorMoneyGetC
import Derived.Test.YtnkcbefamajghaaDoorMoneyPutC
import Derived.Test.YtnkcbefamajghaaDoorShelfC
import Derived.Scope
import Derived.Deep.CutRange
import Derived.Test.YtnkcbefamajghaaDoorMfRefQ
import Derived.Test.YtnkcbefamajghaaDoorCsvPrintC
import Derived.Maps.OwnSet
import Derived.Maps.Ext
import Derived.DeepKeys4
set_option linter.unusedVariables false
namespace Go.Proofs.YtnkcbefamajghaaDoor
open Go.ChangeShapes Go.WideShapes Go.ChangeAt Go.RowKit Go.Shelf Go.Proofs Ky Rw Csv Mft
open Stk (numN fa wide num_put num_yes num_le put_plain put_short plain_put wide_same wide_zero)

namespace Mft
def numB (f : Stk.Bt) (least most : Int) : Bool := Mon.getB f && decide (least ≤ Mon.getV f) && decide (Mon.getV f ≤ most)
theorem num_yes0 {f : Stk.Bt} {most : Int} (h : numB f 0 most = true) : numN f most = Mon.getV f ∧ 0 ≤ Mon.getV f := by
  unfold numB at h
  simp only [Bool.and_eq_true, decide_eq_true_eq] at h
  unfold numN
  rw [if_pos ⟨h.1.1, h.1.2, h.2⟩]
  exact ⟨rfl, h.1.2⟩
theorem num_no0 {f : Stk.Bt} {most : Int} (h : numB f 0 most = false) : numN f most = -1 := by
  unfold numN
  rw [if_neg]
  rintro ⟨a, b, c⟩
  have : numB f 0 most = true := by unfold numB; simp [a, b, c]
  rw [h] at this
  cases this
theorem num_yes1 {f : Stk.Bt} {most : Int} (h : numB f 1 most = true) : numN f most = Mon.getV f ∧ 1 ≤ Mon.getV f := by
  unfold numB at h
  simp only [Bool.and_eq_true, decide_eq_true_eq] at h
  unfold numN
  rw [if_pos ⟨h.1.1, by omega, h.2⟩]
  exact ⟨rfl, h.1.2⟩
theorem num_no1 {f : Stk.Bt} {most : Int} (h : numB f 1 most = false) : numN f most < 1 := by
  unfold numN
  split
  · rename_i g
    have : ¬ 1 ≤ Mon.getV f := fun e => by
      have : numB f 1 most = true := by unfold numB; simp [g.1, e, g.2.2]
      rw [h] at this
      cases this
    omega
  · omega
/-- A number from 0 on, whatever it is. -/
theorem num_any {f : Stk.Bt} (hi : I64 (Mon.getV f)) : numB f 0 9223372036854775807 = true ↔ ¬ (Mon.getB f = false ∨ Mon.getV f < 0) := by
  unfold I64 top at hi
  unfold numB
  simp only [Bool.and_eq_true, decide_eq_true_eq]
  constructor
  · rintro ⟨⟨h1, h2⟩, _⟩ (h | h)
    · rw [h1] at h; cases h
    · omega
  · intro h
    refine ⟨⟨?_, ?_⟩, by omega⟩
    · cases hb : Mon.getB f with
      | true => rfl
      | false => exact absurd (Or.inl hb) h
    · have := fun e => h (Or.inr e); omega
end Mft
set_option maxHeartbeats 4000000 in
set_option maxRecDepth 100000 in
theorem mp_number (s : ByteArray) (least most : Int) (w : World) (hs : s.size ≤ maxLen) (h1 : 0 ≤ least ∧ least < top) (h2 : 0 ≤ most ∧ most < top) :
    Calls Tryd.prog 70 #[.string s, .int .i64 least, .int .i64 most] w fun e w' => e = .returned (.tuple #[.int .i64 (Mon.getV s.data.toList), .bool (Mft.numB s.data.toList least most)]) ∧ Keeps w w' := by
  have I := sk_i64 s.data.toList
  have C1 := Lib.hid (moGet_any s w hs)
  unfold Mft.numB
  obtain ⟨n, hn⟩ : ∃ n, Mon.getV s.data.toList = n := ⟨_, rfl⟩
  obtain ⟨b, hb⟩ : ∃ b, Mon.getB s.data.toList = b := ⟨_, rfl⟩
  rw [hn] at I C1 ⊢
  rw [hb] at C1 ⊢
  have wn : wrap64 n = n := i64w I.1 I.2
  have wl : wrap64 least = least := i64w (by unfold top at *; omega) h1.2
  have wm : wrap64 most = most := i64w (by unfold top at *; omega) h2.2
  clear hn hb hs I h1 h2
  obtain ⟨x, hx⟩ : ∃ b, decide (least ≤ n) = b := ⟨_, rfl⟩
  obtain ⟨y, hy⟩ : ∃ b, decide (n ≤ most) = b := ⟨_, rfl⟩
  rw [hx, hy]
  go_enter Tryd.func70, Tryd.ntmps70
  go_wp2_with fail
  refine C1.out.mono ?_
  rintro e w1 ⟨rfl, k1⟩
  clear C1
  cases b <;> cases x <;> cases y
  all_goals
    go_wp2
    go_ret2
    exact ⟨rfl, k1⟩
theorem mp_num (f : List UInt8) (least most : Int) (h : f.length ≤ 200000) (h1 : 0 ≤ least ∧ least < top) (h2 : 0 ≤ most ∧ most < top) : ∃ S : ByteArray, ⟨f.toArray⟩ = S ∧ ∀ w, Calls Tryd.prog 70 #[.string S, .int .i64 least, .int .i64 most] w fun e w' => e = .returned (.tuple #[.int .i64 (Mon.getV f), .bool (Mft.numB f least most)]) ∧ Keeps w w' := by
  refine ⟨_, rfl, fun w => ?_⟩
  have := mp_number ⟨f.toArray⟩ least most w (by rw [size_mk]; unfold maxLen; omega) h1 h2
  rw [data_mk] at this
  exact this
set_option maxHeartbeats 4000000 in
theorem mp_put (n : Int) (w : World) (hn : I64 n) : Calls Tryd.prog 22 #[.int .i64 n] w fun e w' => e = .returned (.string ⟨(Mon.put n).toArray⟩) ∧ Keeps w w' := by
  have C := Lib.hid (moPut_any n w hn)
  have wn : wrap64 n = n := i64w hn.1 hn.2
  obtain ⟨P, hP⟩ : ∃ P : ByteArray, ⟨(Mon.put n).toArray⟩ = P := ⟨_, rfl⟩
  rw [hP] at C ⊢
  clear hP hn
  go_enter Tryd.func22, Tryd.ntmps22
  go_wp2_with fail
  refine C.out.mono ?_
  rintro e w1 ⟨rfl, k⟩
  go_wp2
  go_ret
  exact ⟨rfl, k⟩
set_option maxHeartbeats 4000000 in
theorem mp_isRow (x : R) (w : World) : Calls Tryd.prog 23 #[rwV x] w fun e w' => e = .returned (.bool (decide (x.c ≠ 0))) ∧ Keeps w w' := by
  have KB := Lib.hid (ky_box w (.cells #[.int .i64 x.o, .int .i64 x.d, .int .i64 x.c, .int .i64 x.a, .int .i64 x.q] tRw))
  obtain ⟨b, hb⟩ : ∃ b, decide (x.c ≠ 0) = b := ⟨_, rfl⟩
  have HB := Lib.hid hb
  rw [hb]
  unfold rwV
  go_enter Tryd.func23, Tryd.ntmps23
  by_cases h : x.c = 0
  · have e : b = false := by rw [← hb]; simp [h]
    have t : (x.c == 0) = true := by rw [h]; rfl
    have t2 : (x.c != 0) = false := by rw [bne, t]; rfl
    subst e
    clear hb h
    go_wp2
    go_ret
    exact ⟨rfl, KB.out⟩
  · have e : b = true := by rw [← hb]; simp [h]
    obtain ⟨t, t2⟩ := ne_tests h
    subst e
    clear hb h
    go_wp2
    go_ret
    exact ⟨rfl, KB.out⟩
set_option maxHeartbeats 4000000 in
set_option maxRecDepth 100000 in
theorem mp_cellOf (x : R) (w : World) (hc : 0 ≤ x.c ∧ x.c ≤ 2) (hq : 0 ≤ x.q ∧ x.q ≤ 999) : Calls Tryd.prog 24 #[rwV x] w fun e w' => e = .returned (.string ⟨(cellT x.c x.q).toArray⟩) ∧ Keeps w w' := by
  have KB := Lib.hid (ky_box w (.cells #[.int .i64 x.o, .int .i64 x.d, .int .i64 x.c, .int .i64 x.a, .int .i64 x.q] tRw))
  obtain ⟨C, hC⟩ : ∃ C : ByteArray, ⟨(cellT x.c x.q).toArray⟩ = C := ⟨_, rfl⟩
  have HC := Lib.hid hC
  have HQ := Lib.hid hq
  rw [hC]
  clear hC hq
  unfold rwV
  go_enter Tryd.func24, Tryd.ntmps24
  rcases (show x.c = 0 ∨ x.c = 1 ∨ x.c = 2 from by omega) with h | h | h
  · have E : C = ⟨#[45]⟩ := by rw [← HC.out, h]; rfl
    subst E
    rw [h]
    rw [h] at KB
    clear hc
    go_wp2
    go_ret
    exact ⟨rfl, KB.out⟩
  · obtain ⟨P, hP⟩ : ∃ P : ByteArray, ⟨(Mon.put x.q).toArray⟩ = P := ⟨_, rfl⟩
    have CP : Hid (∀ W, Calls Tryd.prog 22 #[.int .i64 x.q] W fun e w' => e = .returned (.string P) ∧ Keeps W w') := Lib.hid fun W => hP ▸ mp_put x.q W (by have := HQ.out; unfold I64 top; omega)
    have far : ¬ (9223372036854775807 < (⟨#[100, 111, 110, 101, 58]⟩ : ByteArray).size + P.size) := by
      have e1 : P.size = (Mon.put x.q).length := by rw [← hP, size_mk]
      have e2 := put_short (n := x.q) (by have := HQ.out; omega) (by have := HQ.out; unfold top; omega)
      have e3 : (⟨#[100, 111, 110, 101, 58]⟩ : ByteArray).size = 5 := rfl
      omega
    have EC : (⟨#[100, 111, 110, 101, 58]⟩ : ByteArray) ++ P = C := bytes_inj (by
      rw [← HC.out, cat_list, data_mk, h, ← hP, data_mk]; rfl)
    rw [h]
    rw [h] at KB
    clear hP hc
    go_wp2_with fail
    refine (CP.out _).mono ?_
    rintro e w1 ⟨rfl, k1⟩
    go_wp2
    go_ret
    exact ⟨rfl, KB.out.trans k1⟩
  · have E : C = ⟨#[114, 101, 102, 117, 115, 101, 100]⟩ := by rw [← HC.out, h]; rfl
    subst E
    rw [h]
    rw [h] at KB
    clear hc
    go_wp2
    go_ret
    exact ⟨rfl, KB.out⟩
theorem lays206 : Lays.n206 Tryd.prog lays99_ren := { lays99 with }
theorem sh_slprefix (s p : ByteArray) (w : World) : Calls Tryd.prog 75 #[.string s, .string p] w fun e w' => e = .returned (.bool (Lib.hasPrefix s.data.toList p.data.toList)) ∧ w' = w :=
  Any.stringslite_HasPrefix lays206 s p w
theorem pre_five (l : List UInt8) : Lib.hasPrefix l [100, 111, 110, 101, 58] = decide (l.take 5 = wDone) := by
  rcases l with _ | ⟨a, _ | ⟨b, _ | ⟨c, _ | ⟨d, _ | ⟨e, l⟩⟩⟩⟩⟩ <;> simp [Lib.hasPrefix, List.isPrefixOf] <;> try decide
  rw [Bool.eq_iff_iff]
  simp
  constructor <;> (intro h; simp_all)
set_option maxHeartbeats 4000000 in
set_option maxRecDepth 100000 in
theorem mp_cutPrefix (s : ByteArray) (w : World) (hs : s.size ≤ maxLen) : ∃ T : ByteArray, (s.data.toList.take 5 = wDone → T.data.toList = s.data.toList.drop 5) ∧ T.size ≤ maxLen ∧
    ∀ W, Calls Tryd.prog 88 #[.string s, .string ⟨#[100, 111, 110, 101, 58]⟩] W fun e w' => e = .returned (.tuple #[.string T, .bool (decide (s.data.toList.take 5 = wDone))]) ∧ W = w' := by
  have CP : Hid (∀ W, Calls Tryd.prog 75 #[.string s, .string ⟨#[100, 111, 110, 101, 58]⟩] W fun e w' => e = .returned (.bool (decide (s.data.toList.take 5 = wDone))) ∧ W = w') := Lib.hid fun W => (sh_slprefix s ⟨#[100, 111, 110, 101, 58]⟩ W).mono fun e w' h => ⟨by rw [h.1, ← pre_five], h.2.symm⟩
  by_cases h : s.data.toList.take 5 = wDone
  · rw [decide_eq_true h] at CP ⊢
    have h5 : 5 ≤ s.size := by
      have := congrArg List.length h
      rw [List.length_take, len_data] at this
      simp at this
      omega
    obtain ⟨T, hT⟩ : ∃ T, s.extract 5 s.size = T := ⟨_, rfl⟩
    have LT : T.data.toList = s.data.toList.drop 5 := by rw [← hT]; exact mr_ext_drop s
    refine ⟨T, fun _ => LT, ?_, fun W => ?_⟩
    · have := congrArg List.length LT
      rw [len_data, List.length_drop, len_data] at this
      omega
    have hss : s.size ≤ s.size := Nat.le_refl _
    clear h LT
    have CQ : Hid (∀ W, Calls Tryd.prog 98 #[.string s, .string ⟨#[100, 111, 110, 101, 58]⟩] W fun e w' => e = .returned (.tuple #[.string T, .bool true]) ∧ W = w') := Lib.hid fun W => by
      go_enter Tryd.func98, Tryd.ntmps98
      go_wp2_with (go_at_call 75; refine (CP.out _).mono ?_; rintro e w1 ⟨rfl, rfl⟩)
      go_ret2
      exact ⟨rfl, rfl⟩
    clear hT
    go_enter Tryd.func88, Tryd.ntmps88
    go_wp2_with (go_at_call 98; refine (CQ.out _).mono ?_; rintro e w1 ⟨rfl, rfl⟩)
    go_ret2
    exact ⟨rfl, rfl⟩
  · rw [decide_eq_false h] at CP ⊢
    refine ⟨s, fun e => absurd e h, hs, fun W => ?_⟩
    have CQ : Hid (∀ W, Calls Tryd.prog 98 #[.string s, .string ⟨#[100, 111, 110, 101, 58]⟩] W fun e w' => e = .returned (.tuple #[.string s, .bool false]) ∧ W = w') := Lib.hid fun W => by
      go_enter Tryd.func98, Tryd.ntmps98
      go_wp2_with (go_at_call 75; refine (CP.out _).mono ?_; rintro e w1 ⟨rfl, rfl⟩)
      go_ret2
      exact ⟨rfl, rfl⟩
    go_enter Tryd.func88, Tryd.ntmps88
    go_wp2_with (go_at_call 98; refine (CQ.out _).mono ?_; rintro e w1 ⟨rfl, rfl⟩)
    go_ret2
    exact ⟨rfl, rfl⟩
/-- The row of a cell. -/
def cellR (o d : Int) (f : List UInt8) : R := ⟨o, d, cellC f, 0, cellQ f⟩
theorem cellR_no (o d : Int) : cellR o d [45] = ⟨o, d, 0, 0, 0⟩ := by
  unfold cellR
  rw [show cellC [45] = 0 by decide, show cellQ [45] = 0 by decide]
theorem cellR_ref (o d : Int) : cellR o d [114, 101, 102, 117, 115, 101, 100] = ⟨o, d, 2, 0, 0⟩ := by
  unfold cellR
  rw [show cellC [114, 101, 102, 117, 115, 101, 100] = 2 by decide, show cellQ [114, 101, 102, 117, 115, 101, 100] = 0 by decide]
set_option maxHeartbeats 8000000 in
set_option maxRecDepth 100000 in
theorem mp_rowOf (o d : Int) (s : ByteArray) (w : World) (hs : s.size ≤ maxLen) :
    Calls Tryd.prog 71 #[.agg #[.int .i64 o, .int .i64 d], .string s] w fun e w' => ∃ r : R, e = .returned (.tuple #[rwV r, .bool (decide (0 ≤ cellC s.data.toList))]) ∧ (0 ≤ cellC s.data.toList → r = cellR o d s.data.toList) ∧ Keeps w w' := by
  obtain ⟨T, hT1, hT2, CC⟩ := mp_cutPrefix s w hs
  have TT := Lib.hid hT1
  have CT := Lib.hid CC
  obtain ⟨n, hn⟩ : ∃ n, Mon.getV T.data.toList = n := ⟨_, rfl⟩
  obtain ⟨b, hb⟩ : ∃ b, Mft.numB T.data.toList 0 999 = b := ⟨_, rfl⟩
  have NV := Lib.hid hn
  have NB := Lib.hid hb
  have CN : Hid (∀ W, Calls Tryd.prog 70 #[.string T, .int .i64 0, .int .i64 999] W fun e w' => e = .returned (.tuple #[.int .i64 n, .bool b]) ∧ Keeps W w') := Lib.hid fun W => hn ▸ hb ▸ mp_number T 0 999 W hT2 (by unfold top; omega) (by unfold top; omega)
  have wn : wrap64 n = n := by rw [← hn]; exact i64w (sk_i64 _).1 (sk_i64 _).2
  have KB : Hid (∀ W, Keeps ((w.alloc (.cells #[.int .i64 o, .int .i64 d] 48)).alloc (skRow 0 0 0 0 0)) W → W.heap[w.heap.size]? = some (.cells #[.int .i64 o, .int .i64 d] 48 (0, 0)) ∧ W.heap[w.heap.size + 1]? = some (.cells #[.int .i64 0, .int .i64 0, .int .i64 0, .int .i64 0, .int .i64 0] tRw (0, 0)) ∧ Keeps w W) := Lib.hid fun W k => by
    have s1 : (w.alloc (.cells #[.int .i64 o, .int .i64 d] 48)).heap.size = w.heap.size + 1 := by simp
    have n0 := heap_alloc_new w (.cells #[.int .i64 o, .int .i64 d] 48)
    have n1 := heap_alloc_new (w.alloc (.cells #[.int .i64 o, .int .i64 d] 48)) (skRow 0 0 0 0 0)
    rw [s1] at n1
    exact ⟨(k.block _ (by simp; omega)).trans (((kept_alloc (Keeps.refl _) (skRow 0 0 0 0 0)).block _ (by simp)).trans n0), (k.block _ (by simp)).trans n1, (kept_alloc (kept_alloc (Keeps.refl w) _) _).trans k⟩
  obtain ⟨B0, B1, KW⟩ := KB.out _ (Keeps.refl _)
  have BB0 := Lib.hid B0
  have BB1 := Lib.hid B1
  have HKW := Lib.hid KW
  clear hT1 hT2 CC hn hb B0 B1 KW
  go_enter Tryd.func71, Tryd.ntmps71
  go_upto_region 1 with (fail)
  obtain ⟨V, hV⟩ : ∃ V, (w.alloc (.cells #[.int .i64 o, .int .i64 d] 48)).alloc (skRow 0 0 0 0 0) = V := ⟨_, rfl⟩
  rw [hV] at BB0 BB1 HKW KB ⊢
  clear hV
  obtain ⟨⟨z0, z1, z2, z3, z4⟩, f0, f1, f2, f3, f4⟩ := skFive_at BB1.out
  have y0 := Joins.cell_of_block BB0.out 0
  have y1 := Joins.cell_of_block BB0.out 1
  by_cases h0 : s = ⟨#[45]⟩
  · subst h0
    have E : Hid (cellR o d (⟨#[45]⟩ : ByteArray).data.toList = ⟨o, d, 0, 0, 0⟩ ∧ decide (0 ≤ cellC (⟨#[45]⟩ : ByteArray).data.toList) = true) := Lib.hid ⟨cellR_no o d, by decide⟩
    go_wp2
    have HZ := skFive_set BB1.out (.int .i64 o) (.int .i64 d) (.int .i64 0) (.int .i64 0) (.int .i64 0)
    obtain ⟨⟨e0, e1, e2, e3, e4⟩, _⟩ := skFive_at HZ
    exact bodyPost_ret (v := .tuple #[.agg #[.int .i64 o, .int .i64 d, .int .i64 0, .int .i64 0, .int .i64 0], .bool true]) (by simp [results, Tryd.results71, go_sem, e0, e1, e2, e3, e4]) rfl ⟨⟨o, d, 0, 0, 0⟩, by rw [E.out.2]; rfl, fun _ => E.out.1.symm, skFive_keeps HKW.out (Nat.le_succ _) _ _ _ _ _⟩
  have n0 : Hid (s.data.toList ≠ wNo) := Lib.hid fun e => h0 (bytes_inj (by rw [e]))
  obtain ⟨a1, a2, a3⟩ := sv_neS (S := s) (l := [45]) (fun e => h0 (bytes_inj (by rw [e])))
  by_cases h1 : s = ⟨#[114, 101, 102, 117, 115, 101, 100]⟩
  · subst h1
    have E : Hid (cellR o d (⟨#[114, 101, 102, 117, 115, 101, 100]⟩ : ByteArray).data.toList = ⟨o, d, 2, 0, 0⟩ ∧ decide (0 ≤ cellC (⟨#[114, 101, 102, 117, 115, 101, 100]⟩ : ByteArray).data.toList) = true) := Lib.hid ⟨cellR_ref o d, by decide⟩
    clear a1 a2 a3 h0
    go_wp2
    have HZ := skFive_set BB1.out (.int .i64 o) (.int .i64 d) (.int .i64 2) (.int .i64 0) (.int .i64 0)
    obtain ⟨⟨e0, e1, e2, e3, e4⟩, _⟩ := skFive_at HZ
    exact bodyPost_ret (v := .tuple #[.agg #[.int .i64 o, .int .i64 d, .int .i64 2, .int .i64 0, .int .i64 0], .bool true]) (by simp [results, Tryd.results71, go_sem, e0, e1, e2, e3, e4]) rfl ⟨⟨o, d, 2, 0, 0⟩, by rw [E.out.2]; rfl, fun _ => E.out.1.symm, skFive_keeps HKW.out (Nat.le_succ _) _ _ _ _ _⟩
  have n1 : Hid (s.data.toList ≠ wRef) := Lib.hid fun e => h1 (bytes_inj (by rw [e]))
  obtain ⟨b1, b2, b3⟩ := sv_neS (S := s) (l := [114, 101, 102, 117, 115, 101, 100]) (fun e => h1 (bytes_inj (by rw [e])))
  obtain ⟨pre, hpre⟩ : ∃ p, decide (s.data.toList.take 5 = wDone) = p := ⟨_, rfl⟩
  have HPRE := Lib.hid hpre
  rw [hpre] at CT
  clear h0 h1 hpre z0 z1 z2 z3 z4 f0 f1 f2 f3 f4 y0 y1
  have E : Hid (decide (0 ≤ cellC s.data.toList) = (pre && b) ∧ ((pre && b) = true → cellR o d s.data.toList = ⟨o, d, 1, 0, n⟩)) := Lib.hid (by
    cases pre with
    | false =>
      have h := mr_other n0.out n1.out (of_decide_eq_false HPRE.out)
      exact ⟨by rw [h.1]; rfl, fun h => by cases h⟩
    | true =>
      have hp := of_decide_eq_true HPRE.out
      have hd := mr_done (m := numN T.data.toList 999) n0.out n1.out hp (by rw [TT.out hp])
      cases b with
      | true =>
        have hv := num_yes0 NB.out
        rw [hv.1] at hd
        rw [if_pos hv.2, if_pos hv.2] at hd
        exact ⟨by rw [hd.1]; rfl, fun _ => by unfold cellR; rw [hd.1, hd.2, NV.out]⟩
      | false =>
        have hv := num_no0 NB.out
        rw [hv] at hd
        rw [if_neg (by omega)] at hd
        exact ⟨by rw [hd.1]; rfl, fun h => by cases h⟩)
  go_wp2_with fail
  refine (CT.out _).mono ?_
  rintro e w1 ⟨rfl, rfl⟩
  go_wp2_with fail
  refine (CN.out _).mono ?_
  rintro e w2 ⟨rfl, k2⟩
  obtain ⟨B0, B1, KW⟩ := KB.out _ k2
  have BC1 := Lib.hid B1
  have HKC := Lib.hid KW
  obtain ⟨⟨z0, z1, z2, z3, z4⟩, f0, f1, f2, f3, f4⟩ := skFive_at B1
  have y0 := Joins.cell_of_block B0 0
  have y1 := Joins.cell_of_block B0 1
  clear k2 B0 B1 KW
  obtain ⟨pb, hpb⟩ : ∃ p, (pre && b) = p := ⟨_, rfl⟩
  have HPB := Lib.hid hpb
  rw [hpb] at E
  have HZ := Lib.hid (skFive_set BC1.out (.int .i64 o) (.int .i64 d) (.int .i64 1) (.int .i64 0) (.int .i64 n))
  have FIN : Hid (∀ v, v = Value.bool pb → Ending.returned (.tuple #[rwV ⟨o, d, 1, 0, n⟩, v]) = .returned (.tuple #[rwV ⟨o, d, 1, 0, n⟩, .bool (decide (0 ≤ cellC s.data.toList))])) := Lib.hid fun v hv => by rw [hv, E.out.1]
  have REQ : Hid (0 ≤ cellC s.data.toList → (⟨o, d, 1, 0, n⟩ : R) = cellR o d s.data.toList) := Lib.hid fun h => (E.out.2 (by rw [← E.out.1]; exact decide_eq_true h)).symm
  clear E
  cases pre with
  | false =>
    have e : pb = false := by rw [← hpb]; rfl
    subst e
    clear hpb
    go_wp2
    obtain ⟨⟨e0, e1, e2, e3, e4⟩, _⟩ := skFive_at HZ.out
    exact bodyPost_ret (v := .tuple #[.agg #[.int .i64 o, .int .i64 d, .int .i64 1, .int .i64 0, .int .i64 n], .bool false]) (by simp [results, Tryd.results71, go_sem, e0, e1, e2, e3, e4]) rfl ⟨⟨o, d, 1, 0, n⟩, FIN.out _ rfl, REQ.out, skFive_keeps HKC.out (Nat.le_succ _) _ _ _ _ _⟩
  | true =>
    have e : pb = b := by rw [← hpb]; rfl
    subst e
    clear hpb
    go_wp2
    obtain ⟨⟨e0, e1, e2, e3, e4⟩, _⟩ := skFive_at HZ.out
    exact bodyPost_ret (v := .tuple #[.agg #[.int .i64 o, .int .i64 d, .int .i64 1, .int .i64 0, .int .i64 n], .bool pb]) (by simp [results, Tryd.results71, go_sem, e0, e1, e2, e3, e4]) rfl ⟨⟨o, d, 1, 0, n⟩, FIN.out _ rfl, REQ.out, skFive_keeps HKC.out (Nat.le_succ _) _ _ _ _ _⟩
end Go.Proofs.YtnkcbefamajghaaDoor
namespace Go.Proofs.YtnkcbefamajghaaDoor
open Go.ChangeShapes Go.WideShapes Go.ChangeAt Go.RowKit Ky Rw Csv Mft
open Stk (numN fa wide num_put num_yes num_le put_plain put_short plain_put wide_same wide_zero)

abbrev tRdM : TypeId := 61
/-- The reader's block. -/
abbrev RdM (W : World) (n : Nat) (b e : Bool) (s : Int) (v : Value) (o m t : Int) : Prop := W.heap[n]? = some (.cells #[.bool b, .bool e, .int .i64 2, .int .i64 s, v, .int .i64 o, .int .i64 m, .int .i64 t] tRdM (0, 0))
theorem mfEight_at {W : World} {n : Nat} {t : TypeId} {x0 x1 x2 x3 x4 x5 x6 x7 : Value} (h : W.heap[n]? = some (.cells #[x0, x1, x2, x3, x4, x5, x6, x7] t (0, 0))) :
    (W.cell? ⟨n, 0, none⟩ = some x0 ∧ W.cell? ⟨n, 1, none⟩ = some x1 ∧ W.cell? ⟨n, 2, none⟩ = some x2 ∧ W.cell? ⟨n, 3, none⟩ = some x3 ∧ W.cell? ⟨n, 4, none⟩ = some x4 ∧ W.cell? ⟨n, 5, none⟩ = some x5 ∧ W.cell? ⟨n, 6, none⟩ = some x6 ∧ W.cell? ⟨n, 7, none⟩ = some x7) ∧
    (W.frozen? ⟨n, 0, none⟩ = false ∧ W.frozen? ⟨n, 1, none⟩ = false ∧ W.frozen? ⟨n, 3, none⟩ = false ∧ W.frozen? ⟨n, 4, none⟩ = false ∧ W.frozen? ⟨n, 5, none⟩ = false ∧ W.frozen? ⟨n, 6, none⟩ = false ∧ W.frozen? ⟨n, 7, none⟩ = false) :=
  ⟨⟨Joins.cell_of_block h 0, Joins.cell_of_block h 1, Joins.cell_of_block h 2, Joins.cell_of_block h 3, Joins.cell_of_block h 4, Joins.cell_of_block h 5, Joins.cell_of_block h 6, Joins.cell_of_block h 7⟩,
   ⟨Joins.unfrozen_of_block h 0, Joins.unfrozen_of_block h 1, Joins.unfrozen_of_block h 3, Joins.unfrozen_of_block h 4, Joins.unfrozen_of_block h 5, Joins.unfrozen_of_block h 6, Joins.unfrozen_of_block h 7⟩⟩
/-- What may have changed: the reader's block, and that of its rows. -/
structure Tk (bf : Nat) (v : Value) (w w' : World) : Prop where
  os : w'.os = w.os
  tape : w'.tape = w.tape
  output : w'.output = w.output
  size : w.heap.size ≤ w'.heap.size
  block : ∀ i, i < w.heap.size → i ≠ bf → v.ownBlock ≠ some i → w'.heap[i]? = w.heap[i]?
theorem Tk.of {bf : Nat} {v : Value} {w w' : World} (k : Keeps w w') : Tk bf v w w' := ⟨k.os, k.tape, k.output, k.size, fun i hi _ _ => k.block i hi⟩
theorem Tk.keeps {bf : Nat} {v : Value} {w w' w'' : World} (h : Tk bf v w w') (k : Keeps w' w'') : Tk bf v w w'' :=
  ⟨k.os.trans h.os, k.tape.trans h.tape, k.output.trans h.output, Nat.le_trans h.size k.size, fun i hi h1 h2 => (k.block i (Nat.lt_of_lt_of_le hi h.size)).trans (h.block i hi h1 h2)⟩
theorem Tk.cell {bf i : Nat} {v u : Value} {w w' : World} (h : Tk bf v w w') : Tk bf v w (w'.setCell ⟨bf, i, none⟩ u) :=
  have k : Below 0 w' (w'.setCell ⟨bf, i, none⟩ u) := (Below.refl 0 w').setCell (p := ⟨bf, i, none⟩) (Nat.zero_le _) u
  ⟨k.os.trans h.os, k.tape.trans h.tape, k.output.trans h.output, by simpa using h.size, fun j hj h1 h2 => (Below.heap_setCell w' ⟨bf, i, none⟩ u j h1).trans (h.block j hj h1 h2)⟩
theorem Tk.grown {bf : Nat} {v : Value} {w w' w'' : World} (h : Tk bf v w w') (g : w'.grownBy w'' v.ownBlock) : Tk bf v w w'' :=
  ⟨g.os.trans h.os, g.tape.trans h.tape, g.output.trans h.output, Nat.le_trans h.size g.size, fun i hi h1 h2 => (g.block i (Nat.lt_of_lt_of_le hi h.size) (fun e => h2 e.symm)).trans (h.block i hi h1 h2)⟩
theorem Tk.below {bf B : Nat} {v : Value} {w w' : World} (h : Tk bf v w w') (hv : ∀ j, v.ownBlock = some j → B ≤ j) (hB : bf < B) (hw : bf ≤ w.heap.size) : Below bf w w' :=
  ⟨h.os, h.tape, h.output, h.size, fun i hi => h.block i (by omega) (by omega) (fun e => by have := hv i e; omega)⟩
/-- The reader, its rows, and a box of a row. -/
def TkSt (bf B rb : Nat) (w : World) (v0 : Value) (b e : Bool) (s : Int) (N : Nat) (o m t : Int) (A : List R) (x : R) (W : World) : Prop :=
  ∃ q c, RdM W bf b e s (.slice q N c) o m t ∧ rowK.Own B W (.slice q N c) A ∧ W.heap[rb]? = some (.cells #[.int .i64 x.o, .int .i64 x.d, .int .i64 x.c, .int .i64 x.a, .int .i64 x.q] tRw (0, 0)) ∧ Tk bf v0 w W
theorem TkSt.keeps {bf B rb N : Nat} {w : World} {v0 : Value} {b e : Bool} {s o m t : Int} {A : List R} {x : R} {W W' : World} (h : TkSt bf B rb w v0 b e s N o m t A x W) (k : Keeps W W') : TkSt bf B rb w v0 b e s N o m t A x W' := by
  obtain ⟨q, c, h1, h2, h3, h4⟩ := h
  exact ⟨q, c, (k.block _ (Array.getElem?_eq_some_iff.1 h1).1).trans h1, rowK.own_keeps h2 k, (k.block _ (Array.getElem?_eq_some_iff.1 h3).1).trans h3, h4.keeps k⟩
theorem tk_blk {bf B N c : Nat} {q : Option Addr} {b e : Bool} {s o m t : Int} {A : List R} {w0 W0 w5 : World} (hb : RdM w0 bf b e s (.slice q N c) o m t) (ho : rowK.Own B w0 (.slice q N c) A) (hB : bf < B) (k0 : Keeps w0 W0) (g5 : W0.grownBy w5 (Value.slice q N c).ownBlock) : RdM w5 bf b e s (.slice q N c) o m t := by
  have lt := (Array.getElem?_eq_some_iff.1 hb).1
  refine (g5.block bf (Nat.lt_of_lt_of_le lt k0.size) (fun e => ?_)).trans ((k0.block _ lt).trans hb)
  have := (rowK.own_lt ho _ e.symm).1
  omega
theorem tk_app {bf B rb N c c5 : Nat} {q q5 : Option Addr} {b e : Bool} {s o m t : Int} {A : List R} {x : R} {w w0 W0 w5 : World} (hb : RdM w0 bf b e s (.slice q N c) o m t) (ho : rowK.Own B w0 (.slice q N c) A) (hB : bf < B)
    (hx : w0.heap[rb]? = some (.cells #[.int .i64 x.o, .int .i64 x.d, .int .i64 x.c, .int .i64 x.a, .int .i64 x.q] tRw (0, 0))) (hr : ∀ j, (Value.slice q N c).ownBlock = some j → j ≠ rb) (hbr : bf ≠ rb) (ht : Tk bf (.slice q N c) w w0) (k0 : Keeps w0 W0)
    (o5 : rowK.Own B w5 (.slice q5 (N + 1) c5) (A ++ [x])) (g5 : W0.grownBy w5 (Value.slice q N c).ownBlock) : TkSt bf B rb w (.slice q N c) b e s (N + 1) o m t (A ++ [x]) x (w5.setCell ⟨bf, 4, none⟩ (.slice q5 (N + 1) c5)) := by
  have b5 := tk_blk hb ho hB k0 g5
  have lx := (Array.getElem?_eq_some_iff.1 hx).1
  refine ⟨q5, c5, Joins.block_setCell (i := 4) b5 _, sk_own_set o5 hB _, ?_, ((ht.keeps k0).grown g5).cell⟩
  refine (Below.heap_setCell w5 ⟨bf, 4, none⟩ _ rb (by show rb ≠ bf; omega)).trans ((g5.block rb (Nat.lt_of_lt_of_le lx k0.size) (fun e => ?_)).trans ((k0.block rb lx).trans hx))
  exact hr rb e.symm rfl
/-- What a row adds, if it is there. -/
def addQ (x : R) : Int := if x.c = 0 then 0 else x.q
def addR (x : R) : List R := if x.c = 0 then [] else [x]
set_option maxHeartbeats 16000000 in
set_option maxRecDepth 100000 in
theorem mp_take (bf B : Nat) (b e : Bool) (s o m t : Int) (q : Option Addr) (N cq : Nat) (A : List R) (x : R) (w : World) (hb : RdM w bf b e s (.slice q N cq) o m t) (ho : rowK.Own B w (.slice q N cq) A) (hB : bf < B) (hBw : B ≤ w.heap.size) (hN : A.length = N) (hN4 : N ≤ 1000) (ht : 0 ≤ t ∧ t ≤ 121878) (hq : 0 ≤ x.q ∧ x.q ≤ 999) :
    Calls Tryd.prog 72 #[.pointer (some ⟨bf, 0, none⟩), rwV x] w fun e' w' => e' = .returned (.tuple #[]) ∧ (∃ q' N' c', RdM w' bf b e s (.slice q' N' c') o m (t + addQ x) ∧ rowK.Own B w' (.slice q' N' c') (A ++ addR x) ∧ (A ++ addR x).length = N') ∧ Tk bf (.slice q N cq) w w' := by
  have KB := Lib.hid (ky_box w (.cells #[.int .i64 x.o, .int .i64 x.d, .int .i64 x.c, .int .i64 x.a, .int .i64 x.q] tRw))
  obtain ⟨w1, hw1⟩ : ∃ W, w.alloc (.cells #[.int .i64 x.o, .int .i64 x.d, .int .i64 x.c, .int .i64 x.a, .int .i64 x.q] tRw) = W := ⟨_, rfl⟩
  have BX : Hid (w1.heap[w.heap.size]? = some (.cells #[.int .i64 x.o, .int .i64 x.d, .int .i64 x.c, .int .i64 x.a, .int .i64 x.q] tRw (0, 0))) := Lib.hid (hw1 ▸ heap_alloc_new w _)
  rw [hw1] at KB
  have C1 : Hid (∀ W, Calls Tryd.prog 23 #[.agg #[.int .i64 x.o, .int .i64 x.d, .int .i64 x.c, .int .i64 x.a, .int .i64 x.q]] W fun e w' => e = .returned (.bool (decide (x.c ≠ 0))) ∧ Keeps W w') := Lib.hid fun W => mp_isRow x W
  have HB := Lib.hid hb
  have HO := Lib.hid ho
  have HT := Lib.hid ht
  have HQ := Lib.hid hq
  have HNN := Lib.hid hN
  have HN4 := Lib.hid hN4
  have LT : Hid (bf < w.heap.size) := Lib.hid (Array.getElem?_eq_some_iff.1 hb).1
  have HBW := Lib.hid hBw
  obtain ⟨⟨z0, z1, z2, z3, z4⟩, f0, f1, f2, f3, f4⟩ := skFive_at BX.out
  unfold rwV
  clear hb ho hq ht hN hN4 hBw
  go_enter Tryd.func72, Tryd.ntmps72
  go_upto_region 1 with (fail)
  clear hw1
  go_wp2_with fail
  refine (C1.out _).mono ?_
  rintro e2 w2 ⟨rfl, k2⟩
  have K2 := Lib.hid k2
  have BX2 := Lib.hid ((k2.block _ (Array.getElem?_eq_some_iff.1 BX.out).1).trans BX.out)
  have HB2 := Lib.hid (((KB.out.trans k2).block _ LT.out).trans HB.out)
  have HO2 := Lib.hid (rowK.own_keeps HO.out (KB.out.trans k2))
  have TK2 : Hid (Tk bf (.slice q N cq) w w2) := Lib.hid (Tk.of (KB.out.trans k2))
  clear k2 z0 z1 z2 z3 z4 f0 f1 f2 f3 f4
  by_cases hc : x.c = 0
  · rw [decide_eq_false (by simp [hc])]
    have E1 : Hid (addQ x = 0 ∧ addR x = []) := Lib.hid ⟨if_pos hc, if_pos hc⟩
    clear hc
    go_wp2
    go_end0
    exact ⟨rfl, ⟨q, N, cq, by rw [E1.out.1, Int.add_zero]; exact HB2.out, by rw [E1.out.2, List.append_nil]; exact HO2.out, by rw [E1.out.2, List.append_nil]; exact HNN.out⟩, TK2.out⟩
  rw [decide_eq_true (show x.c ≠ 0 from hc)]
  have E1 : Hid (addQ x = x.q ∧ addR x = [x]) := Lib.hid ⟨if_neg hc, if_neg hc⟩
  have LEN : Hid (A.length + [x].length = N + 1) := Lib.hid (by rw [HNN.out]; rfl)
  have LN : Hid (A.length + [x].length ≤ 100000) := Lib.hid (by rw [HNN.out]; have := HN4.out; simp; omega)
  have OFF : Hid (∀ j, (Value.slice q N cq).ownBlock = some j → j ≠ w.heap.size) := Lib.hid fun j hj => by have := (rowK.own_lt HO.out j hj).2; omega
  have NE : Hid (bf ≠ w.heap.size) := Lib.hid (Nat.ne_of_lt LT.out)
  have LT2 : Hid (bf < w2.heap.size) := Lib.hid (Array.getElem?_eq_some_iff.1 HB2.out).1
  have BW2 : Hid (B ≤ w2.heap.size) := Lib.hid (Nat.le_trans HBW.out TK2.out.size)
  clear hc
  obtain ⟨⟨_, _, _, _, z4, _, _, z7⟩, _, _, _, f4, _, _, f7⟩ := mfEight_at HB2.out
  obtain ⟨⟨y0, y1, y2, y3, y4⟩, _⟩ := skFive_at BX2.out
  go_upto_region 2 with (fail)
  have l1 : bf < w2.heap.size := LT2.out
  have l0 : bf ≠ w2.heap.size := Nat.ne_of_lt l1
  go_cut [] (fun W => TkSt bf B w.heap.size w (.slice q N cq) b e s (N + 1) o m t (A ++ [x]) x W)
  case first =>
    go_region_law (
      (refine stepAppOwnK rowK rfl _ _ rfl rfl B ?hB _ _ A [x] (N + 1) LEN.out rfl rfl ?hO (sk_rsrc_row (heap_alloc_new _ _)) LN.out ?_
       case hB => exact Nat.le_trans BW2.out (by simp)
       case hO => first | exact rowK.own_keeps HO2.out (ky_box w2 _) | exact rowK.own_keeps HO2.out (Keeps.trans (ky_box w2 _) (ky_drew _)) | exact rowK.own_keeps HO2.out (Keeps.trans (ky_drew w2) (ky_box _ _))
       intro p5 c5 w5 o5 g5
       have hb5 := by first | exact tk_blk HB2.out HO2.out hB (ky_box w2 _) g5 | exact tk_blk HB2.out HO2.out hB (Keeps.trans (ky_box w2 _) (ky_drew _)) g5 | exact tk_blk HB2.out HO2.out hB (Keeps.trans (ky_drew w2) (ky_box _ _)) g5
       have hc5 := Joins.cell_of_block hb5 4
       have hf5 := Joins.unfrozen_of_block hb5 4))
    all_goals
      have MT : Hid (TkSt bf B w.heap.size w (.slice q N cq) b e s (N + 1) o m t (A ++ [x]) x (w5.setCell ⟨bf, 4, none⟩ (.slice p5 (N + 1) c5))) := Lib.hid (by first | exact tk_app HB2.out HO2.out hB BX2.out OFF.out NE.out TK2.out (ky_box w2 _) o5 g5 | exact tk_app HB2.out HO2.out hB BX2.out OFF.out NE.out TK2.out (Keeps.trans (ky_box w2 _) (ky_drew _)) o5 g5 | exact tk_app HB2.out HO2.out hB BX2.out OFF.out NE.out TK2.out (Keeps.trans (ky_drew w2) (ky_box _ _)) o5 g5)
      clear o5 hb5 hc5 hf5 g5 l0 l1 z4 z7 f4 f7 y0 y1 y2 y3 y4
      go_wp2
      go_meet
      case rel => first | exact MT.out | exact MT.out.keeps (ky_drew _)
  case rest =>
    obtain ⟨q5, c5, h1, h2, h3, h4⟩ := hcut
    have H1 := Lib.hid h1
    have H2 := Lib.hid h2
    have H4 := Lib.hid h4
    clear z4 z7 f4 f7 y0 y1 y2 y3 y4
    obtain ⟨⟨_, _, _, _, _, _, _, z7⟩, _, _, _, _, _, _, f7⟩ := mfEight_at h1
    obtain ⟨⟨_, _, _, _, y4⟩, _⟩ := skFive_at h3
    obtain ⟨u, hu⟩ : ∃ u, t + x.q = u := ⟨_, rfl⟩
    have HU := Lib.hid hu
    have u1 : wrap64 (t + x.q) = u := wrap_tot hu HT.out.1 HT.out.2 HQ.out.1 HQ.out.2
    have u2 : IntKind.i64.wrap (t + x.q) = u := wrap_totI hu HT.out.1 HT.out.2 HQ.out.1 HQ.out.2
    have n1 : bf ≠ w.heap.size := NE.out
    clear h1 h2 h3 h4 hu l0 l1
    go_upto_region 3 with (fail)
    go_region
    all_goals
      go_wp2
      go_end0
      refine ⟨rfl, ⟨q5, N + 1, c5, ?_, ?_, by rw [E1.out.2]; simp [HNN.out]⟩, ?_⟩
      · rw [E1.out.1, HU.out]
        exact Joins.block_setCell (i := 7) H1.out (.int .i64 u)
      · rw [E1.out.2]
        first | exact sk_own_set H2.out hB _ | exact rowK.own_keeps (sk_own_set H2.out hB _) (ky_drew _) | exact sk_own_set (rowK.own_keeps H2.out (ky_drew _)) hB _
      · first | exact H4.out.cell | exact (H4.out.cell).keeps (ky_drew _) | exact (H4.out.keeps (ky_drew _)).cell
/-- What is wrong with a first row of the name and the width. -/
def firstC (F : List (List UInt8)) : Nat × Int := if numN (fa F 1) 1073741824 < 1 then (2, 3) else (0, 0)
set_option maxHeartbeats 8000000 in
set_option maxRecDepth 100000 in
theorem mp_readFirst (bf B : Nat) (b e : Bool) (s o m t : Int) (u v : Value) (F : List (List UInt8)) (A : List R) (w : World) (hb : RdM w bf b e s u o m t) (ho : rowK.Own B w u A) (hB : bf < B) (hF : StrsAt w v F) (h2 : F.length = 2) (hs : SkShort F) :
    Calls Tryd.prog 47 #[.pointer (some ⟨bf, 0, none⟩), v] w fun e' w' => e' = .returned (.tuple #[.int .i64 ((firstC F).1 : Int), .int .i64 (firstC F).2]) ∧ Below bf w w' ∧ ((firstC F).1 = 0 → RdM w' bf true e (numN (fa F 1) 1073741824) u o m t ∧ rowK.Own B w' u A) := by
  obtain ⟨p, c, rfl, _, hp, hc⟩ := strs_at hF
  obtain ⟨a, rfl⟩ := hp (by omega)
  obtain ⟨_, q⟩ := hc a rfl
  have q1 := q 1 (by omega) (by omega)
  obtain ⟨S1, e1, C1⟩ := mp_num (fa F 1) 1 1073741824 (hs 1) (by unfold top; omega) (by unfold top; omega)
  obtain ⟨g, hg⟩ : ∃ n, Mon.getV (fa F 1) = n := ⟨_, rfl⟩
  obtain ⟨b1, hb1⟩ : ∃ b, Mft.numB (fa F 1) 1 1073741824 = b := ⟨_, rfl⟩
  rw [hg, hb1] at C1
  have D1 := Lib.hid C1
  unfold sv at q1
  rw [e1] at q1
  have HB := Lib.hid hb
  have HO := Lib.hid ho
  have LT := Lib.hid (Array.getElem?_eq_some_iff.1 hb).1
  have NB := Lib.hid hb1
  have NV := Lib.hid hg
  have wg : wrap64 g = g := by rw [← hg]; exact i64w (sk_i64 _).1 (sk_i64 _).2
  rw [h2]
  clear hF hs hp hc e1 hg hb1 C1 q h2 hb ho
  go_enter Tryd.func47, Tryd.ntmps47
  go_wp2_with fail
  refine (D1.out _).mono ?_
  rintro e2 w2 ⟨rfl, k2⟩
  have K2 := Lib.hid k2
  have HB2 := Lib.hid ((k2.block _ LT.out).trans HB.out)
  obtain ⟨⟨z0, z1, z2, z3, z4, z5, z6, z7⟩, f0, f1, f3, f4, f5, f6, f7⟩ := mfEight_at HB2.out
  clear k2 q1
  cases b1 with
  | false =>
    have E : Hid (firstC F = (2, 3)) := Lib.hid (by unfold firstC; rw [if_pos (num_no1 NB.out)])
    go_wp2
    go_ret2
    exact ⟨skRet2 (by rw [E.out]; rfl) (by rw [E.out]), K2.out.mono (Nat.le_of_lt LT.out), fun h => (by rw [E.out] at h; cases h)⟩
  | true =>
    have E : Hid (firstC F = (0, 0) ∧ numN (fa F 1) 1073741824 = g) := Lib.hid (by
      obtain ⟨nv, n1⟩ := num_yes1 NB.out
      exact ⟨by unfold firstC; rw [if_neg (by rw [nv]; omega)], nv.trans NV.out⟩)
    go_wp2
    go_ret2
    refine ⟨skRet2 (by rw [E.out.1]; rfl) (by rw [E.out.1]), ((K2.out.mono (Nat.le_of_lt LT.out)).setCell (p := ⟨bf, 3, none⟩) (Nat.le_refl _) _).setCell (p := ⟨bf, 0, none⟩) (Nat.le_refl _) _, fun _ => ⟨?_, ?_⟩⟩
    · rw [E.out.2]
      exact Joins.block_setCell (i := 0) (Joins.block_setCell (i := 3) HB2.out (.int .i64 g)) (.bool true)
    · exact sk_own_set (sk_own_set (rowK.own_keeps HO.out K2.out) hB _) hB _
theorem get_no {f : List UInt8} {b : Bool} (h : Mft.numB f 0 9223372036854775807 = b) : (Mon.getB f = false ∨ Mon.getV f < 0) ↔ b = false := by
  have := Mft.num_any (f := f) (sk_i64 f)
  rw [h] at this
  cases b with
  | true => simpa using this
  | false =>
    have h2 : ¬ ¬ (Mon.getB f = false ∨ Mon.getV f < 0) := fun e => by simpa using this.2 e
    exact ⟨fun _ => rfl, fun _ => Classical.not_not.1 h2⟩
set_option maxHeartbeats 8000000 in
set_option maxRecDepth 100000 in
theorem mp_readEnd (bf B : Nat) (b e : Bool) (s o m t : Int) (u v : Value) (F : List (List UInt8)) (A : List R) (w : World) (hb : RdM w bf b e s u o m t) (ho : rowK.Own B w u A) (hB : bf < B) (hF : StrsAt w v F) (h3 : F.length = 3) (hs : SkShort F) :
    Calls Tryd.prog 48 #[.pointer (some ⟨bf, 0, none⟩), v] w fun e' w' => e' = .returned (.tuple #[.int .i64 ((tailC F m t).1 : Int), .int .i64 (tailC F m t).2]) ∧ Below bf w w' ∧ ((tailC F m t).1 = 0 → RdM w' bf b true s u o m t ∧ rowK.Own B w' u A) := by
  obtain ⟨p, c, rfl, _, hp, hc⟩ := strs_at hF
  obtain ⟨a, rfl⟩ := hp (by omega)
  obtain ⟨_, q⟩ := hc a rfl
  have q1 := q 1 (by omega) (by omega)
  have q2 := q 2 (by omega) (by omega)
  obtain ⟨S1, e1, C1⟩ := mp_num (fa F 1) 0 9223372036854775807 (hs 1) (by unfold top; omega) (by unfold top; omega)
  obtain ⟨S2, e2, C2⟩ := mp_num (fa F 2) 0 9223372036854775807 (hs 2) (by unfold top; omega) (by unfold top; omega)
  obtain ⟨g1, hg1⟩ : ∃ n, Mon.getV (fa F 1) = n := ⟨_, rfl⟩
  obtain ⟨b1, hb1⟩ : ∃ b, Mft.numB (fa F 1) 0 9223372036854775807 = b := ⟨_, rfl⟩
  obtain ⟨g2, hg2⟩ : ∃ n, Mon.getV (fa F 2) = n := ⟨_, rfl⟩
  obtain ⟨b2, hb2⟩ : ∃ b, Mft.numB (fa F 2) 0 9223372036854775807 = b := ⟨_, rfl⟩
  have I1 := Lib.hid (get_no hb1)
  have I2 := Lib.hid (get_no hb2)
  rw [hg1, hb1] at C1
  rw [hg2, hb2] at C2
  have D1 := Lib.hid C1
  have D2 := Lib.hid C2
  have E0 : Hid (tailC F m t = if b1 = false then (2, 3) else if g1 ≠ m then (2, 4) else if b2 = false then (3, 3) else if g2 ≠ t then (3, 5) else (0, 0)) := Lib.hid (by
    unfold tailC
    rw [hg1, hg2]
    rw [← hg1, ← hg2]
    by_cases h1 : b1 = false
    · rw [if_pos (I1.out.2 h1), if_pos h1]
    · rw [if_neg (fun h => h1 (I1.out.1 h)), if_neg h1]
      by_cases h2 : b2 = false
      · rw [if_pos (I2.out.2 h2), if_pos h2]
      · rw [if_neg (fun h => h2 (I2.out.1 h)), if_neg h2])
  unfold sv at q1 q2
  rw [e1] at q1
  rw [e2] at q2
  have Q2 : Hid (∀ W, Keeps w W → W.cell? ⟨a.block, a.off + 2, none⟩ = some (.string S2)) := Lib.hid fun W k => cell_keeps k q2
  have HB := Lib.hid hb
  have HO := Lib.hid ho
  have LT := Lib.hid (Array.getElem?_eq_some_iff.1 hb).1
  have RB : Hid (∀ W, Keeps w W → RdM W bf b e s u o m t) := Lib.hid fun W k => (k.block _ LT.out).trans HB.out
  have BL : Hid (∀ W, Keeps w W → Below bf w W) := Lib.hid fun W k => k.mono (Nat.le_of_lt LT.out)
  rw [h3]
  clear hF hs hp hc e1 e2 hg1 hb1 hg2 hb2 C1 C2 q h3 hb ho q2
  go_enter Tryd.func48, Tryd.ntmps48
  go_wp2_with fail
  refine (D1.out _).mono ?_
  rintro e2 w2 ⟨rfl, k2⟩
  have K2 := Lib.hid k2
  obtain ⟨⟨z0, z1, z2, z3, z4, z5, z6, z7⟩, f0, f1, f3, f4, f5, f6, f7⟩ := mfEight_at (RB.out _ k2)
  have q2 := Q2.out _ k2
  clear k2 q1
  cases b1 with
  | false =>
    have E : Hid (tailC F m t = (2, 3)) := Lib.hid (by rw [E0.out, if_pos rfl])
    go_wp2
    go_ret2
    exact ⟨skRet2 (by rw [E.out]; rfl) (by rw [E.out]), BL.out _ K2.out, fun h => (by rw [E.out] at h; cases h)⟩
  | true =>
  have E1 : Hid (tailC F m t = if g1 ≠ m then (2, 4) else if b2 = false then (3, 3) else if g2 ≠ t then (3, 5) else (0, 0)) := Lib.hid (by rw [E0.out, if_neg (by simp)])
  clear E0
  by_cases h2 : g1 = m
  rotate_left
  · have E : Hid (tailC F m t = (2, 4)) := Lib.hid (by rw [E1.out, if_pos h2])
    obtain ⟨t1, t2⟩ := ne_tests h2
    clear h2
    go_wp2
    go_ret2
    exact ⟨skRet2 (by rw [E.out]; rfl) (by rw [E.out]), BL.out _ K2.out, fun h => (by rw [E.out] at h; cases h)⟩
  have E2 : Hid (tailC F m t = if b2 = false then (3, 3) else if g2 ≠ t then (3, 5) else (0, 0)) := Lib.hid (by rw [E1.out, if_neg (fun h => h h2)])
  clear E1
  subst h2
  go_wp2_with fail
  refine (D2.out _).mono ?_
  rintro e3 w3 ⟨rfl, k3⟩
  have K3 := Lib.hid (K2.out.trans k3)
  have HB3 := Lib.hid (RB.out _ K3.out)
  clear k3 q2 z0 z1 z2 z3 z4 z5 z6 z7 f0 f1 f3 f4 f5 f6 f7
  obtain ⟨⟨z0, z1, z2, z3, z4, z5, z6, z7⟩, f0, f1, f3, f4, f5, f6, f7⟩ := mfEight_at HB3.out
  cases b2 with
  | false =>
    have E : Hid (tailC F g1 t = (3, 3)) := Lib.hid (by rw [E2.out, if_pos rfl])
    go_wp2
    go_ret2
    exact ⟨skRet2 (by rw [E.out]; rfl) (by rw [E.out]), BL.out _ K3.out, fun h => (by rw [E.out] at h; cases h)⟩
  | true =>
  by_cases h5 : g2 = t
  rotate_left
  · have E : Hid (tailC F g1 t = (3, 5)) := Lib.hid (by rw [E2.out, if_neg (by simp), if_pos h5])
    obtain ⟨t1, t2⟩ := ne_tests h5
    clear h5
    go_wp2
    go_ret2
    exact ⟨skRet2 (by rw [E.out]; rfl) (by rw [E.out]), BL.out _ K3.out, fun h => (by rw [E.out] at h; cases h)⟩
  have E : Hid (tailC F g1 t = (0, 0)) := Lib.hid (by rw [E2.out, if_neg (by simp), if_neg (fun h => h h5)])
  clear E2
  subst h5
  go_wp2
  go_ret2
  exact ⟨skRet2 (by rw [E.out]; rfl) (by rw [E.out]), (BL.out _ K3.out).setCell (p := ⟨bf, 1, none⟩) (Nat.le_refl _) _, fun _ => ⟨Joins.block_setCell (i := 1) HB3.out (.bool true), sk_own_set (rowK.own_keeps HO.out K3.out) hB _⟩⟩
/-- The two rows of an order's row. -/
theorem rowsG_add (F : List (List UInt8)) (h1 : 0 ≤ (gOf F).a) (h2 : 0 ≤ (gOf F).b) : rowsG (gOf F) = addR (cellR (gOf F).o 2 (fa F 1)) ++ addR (cellR (gOf F).o 5 (fa F 2)) := by
  have e1 : (gOf F).a = cellC (fa F 1) := rfl
  have e2 : (gOf F).n = cellQ (fa F 1) := rfl
  have e3 : (gOf F).b = cellC (fa F 2) := rfl
  have e4 : (gOf F).m = cellQ (fa F 2) := rfl
  unfold rowsG one addR cellR
  rw [e1, e2, e3, e4]
  rw [e1] at h1
  rw [e3] at h2
  simp only
  congr 1
  · by_cases h : cellC (fa F 1) = 0
    · rw [if_neg (by omega), if_pos h]
    · rw [if_pos (by omega), if_neg h]
  · by_cases h : cellC (fa F 2) = 0
    · rw [if_neg (by omega), if_pos h]
    · rw [if_pos (by omega), if_neg h]
theorem addQ_cell (o d : Int) (f : List UInt8) : addQ (cellR o d f) = cellQ f := by
  unfold addQ cellR
  simp only
  split
  · rename_i h
    exact ((cell_bound f).2.2.2.2 (by omega)).symm
  · rfl
set_option maxHeartbeats 16000000 in
set_option maxRecDepth 100000 in
theorem mp_readOrder (bf B : Nat) (b e : Bool) (s o m t : Int) (q : Option Addr) (N cq : Nat) (v : Value) (F : List (List UInt8)) (A : List R) (w : World) (hb : RdM w bf b e s (.slice q N cq) o m t) (ho : rowK.Own B w (.slice q N cq) A) (hB : bf < B) (hBw : B ≤ w.heap.size) (hF : StrsAt w v F) (h3 : F.length = 3) (hs : SkShort F) (hN : A.length = N) (hN4 : N ≤ 400) (ht : 0 ≤ t ∧ t ≤ 119880) (hm : 0 ≤ m ∧ m ≤ 60) :
    Calls Tryd.prog 49 #[.pointer (some ⟨bf, 0, none⟩), v] w fun e' w' => e' = .returned (.tuple #[.int .i64 ((rowC F o).1 : Int), .int .i64 (rowC F o).2]) ∧ Below bf w w' ∧ ((rowC F o).1 = 0 → ∃ q' N' c', RdM w' bf b e s (.slice q' N' c') (gOf F).o (m + 1) (t + ((gOf F).n + (gOf F).m)) ∧ rowK.Own B w' (.slice q' N' c') (A ++ rowsG (gOf F)) ∧ (A ++ rowsG (gOf F)).length = N') := by
  obtain ⟨p, c, rfl, _, hp, hc⟩ := strs_at hF
  obtain ⟨a, rfl⟩ := hp (by omega)
  obtain ⟨q0, qq⟩ := hc a rfl
  have q0 := q0 (by omega)
  have q1 := qq 1 (by omega) (by omega)
  have q2 := qq 2 (by omega) (by omega)
  obtain ⟨S0, e0, C0⟩ := mp_num (fa F 0) 1 60 (hs 0) (by unfold top; omega) (by unfold top; omega)
  obtain ⟨S1, e1⟩ : ∃ S : ByteArray, ⟨(fa F 1).toArray⟩ = S := ⟨_, rfl⟩
  obtain ⟨S2, e2⟩ : ∃ S : ByteArray, ⟨(fa F 2).toArray⟩ = S := ⟨_, rfl⟩
  obtain ⟨g0, hg0⟩ : ∃ n, Mon.getV (fa F 0) = n := ⟨_, rfl⟩
  obtain ⟨b0, hb0⟩ : ∃ b, Mft.numB (fa F 0) 1 60 = b := ⟨_, rfl⟩
  have NB := Lib.hid hb0
  have NV := Lib.hid hg0
  have wg : wrap64 g0 = g0 := by rw [← hg0]; exact i64w (sk_i64 _).1 (sk_i64 _).2
  rw [hg0, hb0] at C0
  have D0 := Lib.hid C0
  obtain ⟨ca, hca⟩ : ∃ n, cellC (fa F 1) = n := ⟨_, rfl⟩
  obtain ⟨cb, hcb⟩ : ∃ n, cellC (fa F 2) = n := ⟨_, rfl⟩
  obtain ⟨ba, hba⟩ : ∃ p, decide (0 ≤ ca) = p := ⟨_, rfl⟩
  obtain ⟨bb, hbb⟩ : ∃ p, decide (0 ≤ cb) = p := ⟨_, rfl⟩
  have D1 : Hid (∀ W, Calls Tryd.prog 71 #[.agg #[.int .i64 g0, .int .i64 2], .string S1] W fun e w' => ∃ r : R, e = .returned (.tuple #[rwV r, .bool ba]) ∧ (ba = true → r = cellR g0 2 (fa F 1)) ∧ Keeps W w') := Lib.hid fun W => by
    have := mp_rowOf g0 2 S1 W (by rw [← e1, size_mk]; have := hs 1; unfold maxLen; omega)
    rw [← e1, data_mk, hca, hba, e1] at this
    exact this.mono fun e w' ⟨r, h1, h2, h3⟩ => ⟨r, h1, fun hb => h2 (of_decide_eq_true (hba.trans hb)), h3⟩
  have D2 : Hid (∀ W, Calls Tryd.prog 71 #[.agg #[.int .i64 g0, .int .i64 5], .string S2] W fun e w' => ∃ r : R, e = .returned (.tuple #[rwV r, .bool bb]) ∧ (bb = true → r = cellR g0 5 (fa F 2)) ∧ Keeps W w') := Lib.hid fun W => by
    have := mp_rowOf g0 5 S2 W (by rw [← e2, size_mk]; have := hs 2; unfold maxLen; omega)
    rw [← e2, data_mk, hcb, hbb, e2] at this
    exact this.mono fun e w' ⟨r, h1, h2, h3⟩ => ⟨r, h1, fun hb => h2 (of_decide_eq_true (hbb.trans hb)), h3⟩
  have E0 : Hid (rowC F o = if numN (fa F 0) 60 < 1 then (1, 3) else if ca < 0 then (2, 3) else if cb < 0 then (3, 3) else if ca = 0 ∧ cb = 0 then (2, 3) else if numN (fa F 0) 60 ≤ o then (1, 6) else (0, 0)) := Lib.hid (by unfold rowC; rw [hca, hcb])
  unfold sv at q0 q1 q2
  rw [e0] at q0
  rw [e1] at q1
  rw [e2] at q2
  have Q1 : Hid (∀ W, Keeps w W → W.cell? ⟨a.block, a.off + 1, none⟩ = some (.string S1)) := Lib.hid fun W k => cell_keeps k q1
  have Q2 : Hid (∀ W, Keeps w W → W.cell? ⟨a.block, a.off + 2, none⟩ = some (.string S2)) := Lib.hid fun W k => cell_keeps k q2
  have HCA := Lib.hid hca
  have HCB := Lib.hid hcb
  have HBA := Lib.hid hba
  have HBB := Lib.hid hbb
  have HB := Lib.hid hb
  have HO := Lib.hid ho
  have HT := Lib.hid ht
  have HM := Lib.hid hm
  have HNN := Lib.hid hN
  have HN4 := Lib.hid hN4
  have HBW := Lib.hid hBw
  have LT := Lib.hid (Array.getElem?_eq_some_iff.1 hb).1
  have RB : Hid (∀ W, Keeps w W → RdM W bf b e s (.slice q N cq) o m t) := Lib.hid fun W k => (k.block _ LT.out).trans HB.out
  have BL : Hid (∀ W, Keeps w W → Below bf w W) := Lib.hid fun W k => k.mono (Nat.le_of_lt LT.out)
  rw [h3]
  clear hF hs hp hc e0 e1 e2 hg0 hb0 hca hcb hba hbb C0 qq h3 hb ho q1 q2 ht hm hN hN4 hBw
  go_enter Tryd.func49, Tryd.ntmps49
  go_wp2_with fail
  refine (D0.out _).mono ?_
  rintro e1 w1 ⟨rfl, k1⟩
  have K1 := Lib.hid k1
  clear q0 D0 k1
  cases b0 with
  | false =>
    have E : Hid (rowC F o = (1, 3)) := Lib.hid (by rw [E0.out, if_pos (num_no1 NB.out)])
    go_wp2
    go_ret2
    exact ⟨skRet2 (by rw [E.out]; rfl) (by rw [E.out]), BL.out _ K1.out, fun h => (by rw [E.out] at h; cases h)⟩
  | true =>
  have GV : Hid (numN (fa F 0) 60 = g0 ∧ 1 ≤ g0) := Lib.hid (by
    obtain ⟨h1, h2⟩ := num_yes1 NB.out
    exact ⟨h1.trans NV.out, by rw [← NV.out]; exact h2⟩)
  have E1 : Hid (rowC F o = if ca < 0 then (2, 3) else if cb < 0 then (3, 3) else if ca = 0 ∧ cb = 0 then (2, 3) else if g0 ≤ o then (1, 6) else (0, 0)) := Lib.hid (by rw [E0.out, GV.out.1, if_neg (by have := GV.out.2; omega)])
  have q1 := Q1.out _ K1.out
  clear E0
  go_wp2_with fail
  refine (D1.out _).mono ?_
  rintro e2 w2 ⟨r1, rfl, hr1, k2⟩
  have R1 := Lib.hid hr1
  have K2 := Lib.hid (K1.out.trans k2)
  clear hr1 k2 q1 D1
  unfold rwV
  go_upto_region 6 with (fail)
  obtain ⟨w3, hw3⟩ : ∃ W, w2.alloc (.cells #[.int .i64 r1.o, .int .i64 r1.d, .int .i64 r1.c, .int .i64 r1.a, .int .i64 r1.q] tRw) = W := ⟨_, rfl⟩
  obtain ⟨x1, hx1⟩ : ∃ n, w2.heap.size = n := ⟨_, rfl⟩
  have BX1 : Hid (w3.heap[x1]? = some (.cells #[.int .i64 r1.o, .int .i64 r1.d, .int .i64 r1.c, .int .i64 r1.a, .int .i64 r1.q] tRw (0, 0)) ∧ w.heap.size ≤ x1) := Lib.hid (by rw [← hw3, ← hx1]; exact ⟨heap_alloc_new w2 _, K2.out.size⟩)
  have K3 : Hid (Keeps w w3) := Lib.hid (hw3 ▸ kept_alloc K2.out _)
  rw [hw3, hx1]
  clear hw3 hx1
  cases ba with
  | false =>
    have E : Hid (rowC F o = (2, 3)) := Lib.hid (by rw [E1.out, if_pos (by have := of_decide_eq_false HBA.out; omega)])
    go_wp2
    go_ret2
    exact ⟨skRet2 (by rw [E.out]; rfl) (by rw [E.out]), BL.out _ K3.out, fun h => (by rw [E.out] at h; cases h)⟩
  | true =>
  have E2 : Hid (rowC F o = if cb < 0 then (3, 3) else if ca = 0 ∧ cb = 0 then (2, 3) else if g0 ≤ o then (1, 6) else (0, 0)) := Lib.hid (by rw [E1.out, if_neg (by have := of_decide_eq_true HBA.out; omega)])
  have q2 := Q2.out _ K3.out
  clear E1
  go_wp2_with fail
  refine (D2.out _).mono ?_
  rintro e3 w4 ⟨r2, rfl, hr2, k4⟩
  have R2 := Lib.hid hr2
  have K4 := Lib.hid (K3.out.trans k4)
  have BY1 := Lib.hid ((k4.block _ (Array.getElem?_eq_some_iff.1 BX1.out.1).1).trans BX1.out.1)
  clear hr2 k4 q2 D2
  unfold rwV
  go_upto_region 9 with (fail)
  obtain ⟨w5, hw5⟩ : ∃ W, w4.alloc (.cells #[.int .i64 r2.o, .int .i64 r2.d, .int .i64 r2.c, .int .i64 r2.a, .int .i64 r2.q] tRw) = W := ⟨_, rfl⟩
  obtain ⟨x2, hx2⟩ : ∃ n, w4.heap.size = n := ⟨_, rfl⟩
  have BX2 : Hid (w5.heap[x2]? = some (.cells #[.int .i64 r2.o, .int .i64 r2.d, .int .i64 r2.c, .int .i64 r2.a, .int .i64 r2.q] tRw (0, 0)) ∧ w.heap.size ≤ x2) := Lib.hid (by rw [← hw5, ← hx2]; exact ⟨heap_alloc_new w4 _, K4.out.size⟩)
  have BZ1 : Hid (w5.heap[x1]? = some (.cells #[.int .i64 r1.o, .int .i64 r1.d, .int .i64 r1.c, .int .i64 r1.a, .int .i64 r1.q] tRw (0, 0))) := Lib.hid (hw5 ▸ ((ky_box w4 _).block _ (Array.getElem?_eq_some_iff.1 BY1.out).1).trans BY1.out)
  have K5 : Hid (Keeps w w5) := Lib.hid (hw5 ▸ kept_alloc K4.out _)
  rw [hw5, hx2]
  clear hw5 hx2
  cases bb with
  | false =>
    have E : Hid (rowC F o = (3, 3)) := Lib.hid (by rw [E2.out, if_pos (by have := of_decide_eq_false HBB.out; omega)])
    go_wp2
    go_ret2
    exact ⟨skRet2 (by rw [E.out]; rfl) (by rw [E.out]), BL.out _ K5.out, fun h => (by rw [E.out] at h; cases h)⟩
  | true =>
  have E3 : Hid (rowC F o = if ca = 0 ∧ cb = 0 then (2, 3) else if g0 ≤ o then (1, 6) else (0, 0)) := Lib.hid (by rw [E2.out, if_neg (by have := of_decide_eq_true HBB.out; omega)])
  clear E2
  have RR1 := Lib.hid (R1.out (by first | rfl | trivial))
  have RR2 := Lib.hid (R2.out (by first | rfl | trivial))
  have RC1 : Hid (r1.c = ca ∧ 0 ≤ r1.q ∧ r1.q ≤ 999) := Lib.hid (by rw [RR1.out]; exact ⟨HCA.out, (cell_bound _).2.2.1, (cell_bound _).2.2.2.1⟩)
  have RC2 : Hid (r2.c = cb ∧ 0 ≤ r2.q ∧ r2.q ≤ 999) := Lib.hid (by rw [RR2.out]; exact ⟨HCB.out, (cell_bound _).2.2.1, (cell_bound _).2.2.2.1⟩)
  have CI1 : Hid (∀ W, Calls Tryd.prog 23 #[.agg #[.int .i64 r1.o, .int .i64 r1.d, .int .i64 r1.c, .int .i64 r1.a, .int .i64 r1.q]] W fun e w' => e = .returned (.bool (decide (r1.c ≠ 0))) ∧ Keeps W w') := Lib.hid fun W => mp_isRow r1 W
  have CI2 : Hid (∀ W, Calls Tryd.prog 23 #[.agg #[.int .i64 r2.o, .int .i64 r2.d, .int .i64 r2.c, .int .i64 r2.a, .int .i64 r2.q]] W fun e w' => e = .returned (.bool (decide (r2.c ≠ 0))) ∧ Keeps W w') := Lib.hid fun W => mp_isRow r2 W
  obtain ⟨i1, hi1⟩ : ∃ p, decide (r1.c ≠ 0) = p := ⟨_, rfl⟩
  obtain ⟨i2, hi2⟩ : ∃ p, decide (r2.c ≠ 0) = p := ⟨_, rfl⟩
  rw [hi1] at CI1
  rw [hi2] at CI2
  obtain ⟨nb, hnb⟩ : ∃ p : Bool, (p = true ↔ (ca = 0 ∧ cb = 0)) := ⟨decide (ca = 0 ∧ cb = 0), by simp⟩
  have NBB := Lib.hid hnb
  have II1 : Hid (i1 = true ↔ ca ≠ 0) := Lib.hid (by rw [← hi1, RC1.out.1]; simp)
  have II2 : Hid (i2 = true ↔ cb ≠ 0) := Lib.hid (by rw [← hi2, RC2.out.1]; simp)
  clear hi1 hi2 hnb
  obtain ⟨⟨z0, z1, z2, z3, z4⟩, _⟩ := skFive_at BZ1.out
  go_upto_region 11 with (fail)
  go_cut [50] (fun v W => v = .bool nb ∧ Keeps w5 W)
  case first =>
    go_wp2_with fail
    refine (CI1.out _).mono ?_
    rintro e4 w6 ⟨rfl, k6⟩
    cases i1 with
    | true =>
      have hb : nb = false := by
        cases nb with
        | false => rfl
        | true => exact absurd (NBB.out.1 rfl).1 (II1.out.1 rfl)
      subst hb
      have K6 := Lib.hid k6
      clear k6 z0 z1 z2 z3 z4
      go_wp2
      go_meet
      case rel => exact ⟨rfl, K6.out⟩
    | false =>
      have ha0 : ca = 0 := Classical.byContradiction fun h => by have := II1.out.2 h; cases this
      have BU2 := (k6.block _ (Array.getElem?_eq_some_iff.1 BX2.out.1).1).trans BX2.out.1
      obtain ⟨⟨y0, y1, y2, y3, y4⟩, _⟩ := skFive_at BU2
      have K6 := Lib.hid k6
      have hb : nb = !i2 := by
        cases i2 with
        | true =>
          cases nb with
          | false => rfl
          | true => exact absurd (NBB.out.1 rfl).2 (II2.out.1 rfl)
        | false => exact NBB.out.2 ⟨ha0, Classical.byContradiction fun h => by have := II2.out.2 h; cases this⟩
      subst hb
      clear k6 z0 z1 z2 z3 z4 BU2 ha0
      go_wp2_with fail
      refine (CI2.out _).mono ?_
      rintro e5 w7 ⟨rfl, k7⟩
      have K7 := Lib.hid (K6.out.trans k7)
      clear k7 y0 y1 y2 y3 y4
      cases i2 <;>
        (go_wp2
         go_meet
         case rel => exact ⟨rfl, K7.out⟩)
  case rest =>
  obtain ⟨rfl, hk6⟩ := hcut
  have K6 := Lib.hid (K5.out.trans hk6)
  have BW1 := Lib.hid ((hk6.block _ (Array.getElem?_eq_some_iff.1 BZ1.out).1).trans BZ1.out)
  have BW2 := Lib.hid ((hk6.block _ (Array.getElem?_eq_some_iff.1 BX2.out.1).1).trans BX2.out.1)
  have X1L : Hid (w.heap.size ≤ x1) := Lib.hid BX1.out.2
  have X2L : Hid (w.heap.size ≤ x2) := Lib.hid BX2.out.2
  clear hk6 z0 z1 z2 z3 z4 CI1 CI2
  cases nb with
  | true =>
    have E : Hid (rowC F o = (2, 3)) := Lib.hid (by rw [E3.out, if_pos (NBB.out.1 rfl)])
    go_wp2
    go_ret2
    exact ⟨skRet2 (by rw [E.out]; rfl) (by rw [E.out]), BL.out _ K6.out, fun h => (by rw [E.out] at h; cases h)⟩
  | false =>
  have E4 : Hid (rowC F o = if g0 ≤ o then (1, 6) else (0, 0)) := Lib.hid (by rw [E3.out, if_neg (fun h => by have := NBB.out.2 h; cases this)])
  have HB6 := Lib.hid (RB.out _ K6.out)
  clear E3 NBB II1 II2
  obtain ⟨⟨_, _, _, _, _, z5, z6, _⟩, _, _, _, _, f5, f6, _⟩ := mfEight_at HB6.out
  by_cases hle : g0 ≤ o
  · have E : Hid (rowC F o = (1, 6)) := Lib.hid (by rw [E4.out, if_pos hle])
    go_wp2
    go_ret2
    exact ⟨skRet2 (by rw [E.out]; rfl) (by rw [E.out]), BL.out _ K6.out, fun h => (by rw [E.out] at h; cases h)⟩
  have E : Hid (rowC F o = (0, 0)) := Lib.hid (by rw [E4.out, if_neg hle])
  clear E4
  obtain ⟨m1, hm1⟩ : ∃ n, m + 1 = n := ⟨_, rfl⟩
  have wm : wrap64 (m + 1) = m1 := by rw [hm1]; exact i64w (by have := HM.out; unfold top; omega) (by have := HM.out; unfold top; omega)
  have HM1 := Lib.hid hm1
  clear hm1
  go_upto_region 17 with (fail)
  obtain ⟨w7, hw7⟩ : ∃ W, (wc.setCell ⟨bf, 5, none⟩ (.int .i64 g0)).setCell ⟨bf, 6, none⟩ (.int .i64 m1) = W := ⟨_, rfl⟩
  have HB7 : Hid (RdM w7 bf b e s (.slice q N cq) g0 m1 t) := Lib.hid (hw7 ▸ Joins.block_setCell (i := 6) (Joins.block_setCell (i := 5) HB6.out (.int .i64 g0)) (.int .i64 m1))
  have HO7 : Hid (rowK.Own B w7 (.slice q N cq) A) := Lib.hid (hw7 ▸ sk_own_set (sk_own_set (rowK.own_keeps HO.out K6.out) hB _) hB _)
  have T7 : Hid (Tk bf (.slice q N cq) w w7) := Lib.hid (hw7 ▸ ((Tk.of K6.out).cell).cell)
  have NX1 : Hid (x1 ≠ bf ∧ x2 ≠ bf) := Lib.hid ⟨by have := X1L.out; have := LT.out; omega, by have := X2L.out; have := LT.out; omega⟩
  have BV1 : Hid (w7.heap[x1]? = some (.cells #[.int .i64 r1.o, .int .i64 r1.d, .int .i64 r1.c, .int .i64 r1.a, .int .i64 r1.q] tRw (0, 0))) := Lib.hid (hw7 ▸ ((Below.heap_setCell _ ⟨bf, 6, none⟩ _ x1 NX1.out.1).trans ((Below.heap_setCell _ ⟨bf, 5, none⟩ _ x1 NX1.out.1).trans BW1.out)))
  have BV2 : Hid (w7.heap[x2]? = some (.cells #[.int .i64 r2.o, .int .i64 r2.d, .int .i64 r2.c, .int .i64 r2.a, .int .i64 r2.q] tRw (0, 0))) := Lib.hid (hw7 ▸ ((Below.heap_setCell _ ⟨bf, 6, none⟩ _ x2 NX1.out.2).trans ((Below.heap_setCell _ ⟨bf, 5, none⟩ _ x2 NX1.out.2).trans BW2.out)))
  rw [hw7]
  clear hw7 wm z5 z6 f5 f6 hle
  obtain ⟨⟨z0, z1, z2, z3, z4⟩, _⟩ := skFive_at BV1.out
  have CT1 : Hid (Calls Tryd.prog 72 #[.pointer (some ⟨bf, 0, none⟩), .agg #[.int .i64 r1.o, .int .i64 r1.d, .int .i64 r1.c, .int .i64 r1.a, .int .i64 r1.q]] w7 fun e' w' => e' = .returned (.tuple #[]) ∧ (∃ q' N' c', RdM w' bf b e s (.slice q' N' c') g0 m1 (t + addQ r1) ∧ rowK.Own B w' (.slice q' N' c') (A ++ addR r1) ∧ (A ++ addR r1).length = N') ∧ Tk bf (.slice q N cq) w7 w') := Lib.hid (mp_take bf B b e s g0 m1 t q N cq A r1 w7 HB7.out HO7.out hB (Nat.le_trans HBW.out T7.out.size) HNN.out (by have := HN4.out; omega) (by have := HT.out; omega) RC1.out.2)
  go_wp2_with fail
  refine CT1.out.mono ?_
  rintro e6 w8 ⟨rfl, ⟨q8, N8, c8, hb8, ho8, hn8⟩, t8⟩
  have HB8 := Lib.hid hb8
  have HO8 := Lib.hid ho8
  have HN8 := Lib.hid hn8
  have BQ2 : Hid (w8.heap[x2]? = some (.cells #[.int .i64 r2.o, .int .i64 r2.d, .int .i64 r2.c, .int .i64 r2.a, .int .i64 r2.q] tRw (0, 0))) := Lib.hid ((t8.block x2 (Array.getElem?_eq_some_iff.1 BV2.out).1 NX1.out.2 (fun h => by have := (rowK.own_lt HO.out x2 h).2; have := X2L.out; omega)).trans BV2.out)
  have T8 : Hid (Below bf w w8 ∧ B ≤ w8.heap.size) := Lib.hid (by
    have h1 := T7.out.below (B := B) (fun j hj => (rowK.own_lt HO.out j hj).1) hB (Nat.le_of_lt LT.out)
    have h2 := t8.below (B := B) (fun j hj => (rowK.own_lt HO.out j hj).1) hB (Nat.le_trans (Nat.le_of_lt LT.out) T7.out.size)
    exact ⟨Below.trans h1 h2, Nat.le_trans HBW.out (Nat.le_trans T7.out.size t8.size)⟩)
  have A8 : Hid (addQ r1 = (gOf F).n ∧ (addR r1).length ≤ 1) := Lib.hid ⟨by rw [RR1.out, addQ_cell]; rfl, by unfold addR; split <;> simp⟩
  clear hb8 ho8 hn8 t8 z0 z1 z2 z3 z4 CT1
  obtain ⟨⟨y0, y1, y2, y3, y4⟩, _⟩ := skFive_at BQ2.out
  have NB8 : Hid (N8 ≤ 1000) := Lib.hid (by
    have h1 := HN8.out
    rw [List.length_append, HNN.out] at h1
    have := HN4.out
    have := A8.out.2
    omega)
  have TB8 : Hid (0 ≤ t + addQ r1 ∧ t + addQ r1 ≤ 121878) := Lib.hid (by
    have h1 := cell_bound (fa F 1)
    have h2 : addQ r1 = cellQ (fa F 1) := by rw [RR1.out, addQ_cell]
    have := HT.out
    omega)
  have CT2 : Hid (Calls Tryd.prog 72 #[.pointer (some ⟨bf, 0, none⟩), .agg #[.int .i64 r2.o, .int .i64 r2.d, .int .i64 r2.c, .int .i64 r2.a, .int .i64 r2.q]] w8 fun e' w' => e' = .returned (.tuple #[]) ∧ (∃ q' N' c', RdM w' bf b e s (.slice q' N' c') g0 m1 (t + addQ r1 + addQ r2) ∧ rowK.Own B w' (.slice q' N' c') (A ++ addR r1 ++ addR r2) ∧ (A ++ addR r1 ++ addR r2).length = N') ∧ Tk bf (.slice q8 N8 c8) w8 w') := Lib.hid (mp_take bf B b e s g0 m1 (t + addQ r1) q8 N8 c8 (A ++ addR r1) r2 w8 HB8.out HO8.out hB T8.out.2 HN8.out NB8.out TB8.out RC2.out.2)
  go_wp2_with fail
  refine CT2.out.mono ?_
  rintro e7 w9 ⟨rfl, ⟨q9, N9, c9, hb9, ho9, hn9⟩, t9⟩
  have T9 : Hid (Below bf w w9) := Lib.hid (Below.trans T8.out.1 (t9.below (B := B) (fun j hj => (rowK.own_lt HO8.out j hj).1) hB (Nat.le_trans (Nat.le_of_lt LT.out) T8.out.1.size)))
  have FIN : Hid (RdM w9 bf b e s (.slice q9 N9 c9) (gOf F).o (m + 1) (t + ((gOf F).n + (gOf F).m)) ∧ rowK.Own B w9 (.slice q9 N9 c9) (A ++ rowsG (gOf F)) ∧ (A ++ rowsG (gOf F)).length = N9) := Lib.hid (by
    have eo : (gOf F).o = g0 := GV.out.1
    have e1 : rowsG (gOf F) = addR r1 ++ addR r2 := by
      rw [rowsG_add F (by show 0 ≤ cellC (fa F 1); rw [HCA.out]; exact of_decide_eq_true HBA.out) (by show 0 ≤ cellC (fa F 2); rw [HCB.out]; exact of_decide_eq_true HBB.out), RR1.out, RR2.out, eo]
    have e2 : t + ((gOf F).n + (gOf F).m) = t + addQ r1 + addQ r2 := by
      have h1 : addQ r1 = (gOf F).n := A8.out.1
      have h2 : addQ r2 = (gOf F).m := by rw [RR2.out, addQ_cell]; rfl
      omega
    rw [eo, HM1.out, e2, e1, ← List.append_assoc]
    exact ⟨hb9, ho9, hn9⟩)
  clear hb9 ho9 hn9 t9 y0 y1 y2 y3 y4 CT2
  go_wp2
  go_ret2
  exact ⟨skRet2 (by rw [E.out]; rfl) (by rw [E.out]), T9.out, fun _ => ⟨q9, N9, c9, FIN.out⟩⟩
end Go.Proofs.YtnkcbefamajghaaDoor
namespace Go.Proofs.YtnkcbefamajghaaDoor
open Go.ChangeShapes Go.WideShapes Go.ChangeAt Go.RowKit Ky Rw Csv Mft
open Stk (numN fa wide num_put num_yes num_le put_plain put_short plain_put wide_same wide_zero)

theorem pair_zero {p : Nat × Int} {a b : Nat × Int} {P : Prop} [Decidable P] (h : p = if P then a else b) (ha : a.1 ≠ 0) (h0 : p.1 = 0) : p = b := by
  split at h
  · rw [h] at h0; exact absurd h0 ha
  · exact h
theorem mf_headC_zero {F : List (List UInt8)} (h : (headC F).1 = 0) : headC F = (0, 0) := by
  unfold headC at h ⊢
  split at h
  · simp at h
  rename_i h1
  rw [if_neg h1]
  split at h
  · rename_i h2; exact absurd h h2
  rename_i h2
  rw [if_neg h2]
  split at h
  · simp at h
  rename_i h3
  rw [if_neg h3]
theorem mf_tailC_zero {F : List (List UInt8)} {m t : Int} (h : (tailC F m t).1 = 0) : tailC F m t = (0, 0) := by
  unfold tailC at h ⊢
  split at h
  · simp at h
  rename_i h1
  rw [if_neg h1]
  split at h
  · simp at h
  rename_i h2
  rw [if_neg h2]
  split at h
  · simp at h
  rename_i h3
  rw [if_neg h3]
  split at h
  · simp at h
  rename_i h4
  rw [if_neg h4]
theorem mf_rowC_zero {F : List (List UInt8)} {l : Int} (h : (rowC F l).1 = 0) : rowC F l = (0, 0) := by
  unfold rowC at h ⊢
  split at h
  · simp at h
  rename_i h1
  rw [if_neg h1]
  split at h
  · simp at h
  rename_i h2
  rw [if_neg h2]
  split at h
  · simp at h
  rename_i h3
  rw [if_neg h3]
  split at h
  · simp at h
  rename_i h4
  rw [if_neg h4]
  split at h
  · simp at h
  rename_i h5
  rw [if_neg h5]
theorem head_first {F : List (List UInt8)} (h1 : fa F 0 = wName) (h2 : F.length = 2) : headC F = firstC F := by
  unfold headC firstC
  rw [if_neg (by simp [h1]), h2, if_neg (by decide)]
/-- What a row leaves. -/
def MfRead (bf B : Nat) (st : Mft.PS) (F : List (List UInt8)) (w : World) (e : Ending) (w' : World) : Prop :=
  Below bf w w' ∧ ((∃ st' q' N' c', Mft.step st F = .ok st' ∧ e = .returned (.tuple #[.int .i64 0, .int .i64 0]) ∧ RdM w' bf true st'.ended st'.seq (.slice q' N' c') st'.last st'.many st'.tot ∧ rowK.Own B w' (.slice q' N' c') st'.rows ∧ st'.rows.length = N') ∨
    (∃ (a : Nat) (b : Int), Mft.step st F = .error (st.n + 1, a, b) ∧ e = .returned (.tuple #[.int .i64 (a : Int), .int .i64 b]) ∧ b ≠ 0))
theorem mf_wide_min {n k : Nat} (h : n ≠ k) : wide n k ≠ 0 ∧ wide n k = 1 + min n k := by
  unfold wide
  rcases Nat.lt_or_gt_of_ne h with h1 | h1
  · rw [if_pos h1]; omega
  · rw [if_neg (by omega), if_pos h1]; omega
set_option maxHeartbeats 16000000 in
set_option maxRecDepth 100000 in
theorem mp_read (bf B : Nat) (st : Mft.PS) (q : Option Addr) (N cq : Nat) (v : Value) (F : List (List UInt8)) (w : World) (hb : RdM w bf (decide (0 < st.n)) st.ended st.seq (.slice q N cq) st.last st.many st.tot) (ho : rowK.Own B w (.slice q N cq) st.rows) (hB : bf < B) (hBw : B ≤ w.heap.size) (hF : StrsAt w v F) (hne : F ≠ []) (hl : F.length ≤ 1000000) (hs : SkShort F) (hN : st.rows.length = N) (hN4 : N ≤ 400) (hfew : 0 ≤ st.many ∧ st.many ≤ 60 ∧ 0 ≤ st.tot ∧ st.tot ≤ 119880 ∧ 0 ≤ st.last ∧ st.last ≤ 60) :
    Calls Tryd.prog 28 #[.pointer (some ⟨bf, 0, none⟩), v] w (MfRead bf B st F w) := by
  have C1 := Lib.hid (fun (h : decide (0 < st.n) = false) (h2 : F.length = 2) => mp_readFirst bf B false st.ended st.seq st.last st.many st.tot (.slice q N cq) v F st.rows w (h ▸ hb) ho hB hF h2 hs)
  have C2 := Lib.hid (fun (h3 : F.length = 3) => mp_readEnd bf B (decide (0 < st.n)) st.ended st.seq st.last st.many st.tot (.slice q N cq) v F st.rows w hb ho hB hF h3 hs)
  have C3 := Lib.hid (fun (h3 : F.length = 3) => mp_readOrder bf B (decide (0 < st.n)) st.ended st.seq st.last st.many st.tot q N cq v F st.rows w hb ho hB hBw hF h3 hs hN hN4 ⟨hfew.2.2.1, hfew.2.2.2.1⟩ ⟨hfew.1, hfew.2.1⟩)
  obtain ⟨p, c, rfl, _, hpp, hc⟩ := strs_at hF
  obtain ⟨a, rfl⟩ := hpp (List.length_pos_iff.2 hne)
  obtain ⟨n, hn⟩ : ∃ n, F.length = n := ⟨_, rfl⟩
  have HFN := Lib.hid hn
  have n0 : 0 < n := by rw [← hn]; exact List.length_pos_iff.2 hne
  have n0' : (0 : Int) < (n : Int) := by omega
  obtain ⟨S0, h0⟩ : ∃ S : ByteArray, ⟨(fa F 0).toArray⟩ = S := ⟨_, rfl⟩
  have L0 : Hid (S0.data.toList = fa F 0) := Lib.hid (by rw [← h0, data_mk])
  have q0 : w.cell? a = some (.string S0) := by rw [← h0]; exact (hc a rfl).1 (by omega)
  have HNL : Hid (n ≤ 1000000) := Lib.hid (by rw [← hn]; exact hl)
  rw [hn] at C1 C2 C3 ⊢
  have HB := Lib.hid hb
  have HNN := Lib.hid hN
  obtain ⟨⟨z0, z1, _⟩, _⟩ := mfEight_at hb
  have HO := Lib.hid ho
  obtain ⟨be, hbe⟩ : ∃ b, decide (0 < st.n) = b := ⟨_, rfl⟩
  obtain ⟨en, hen⟩ : ∃ b, st.ended = b := ⟨_, rfl⟩
  have HBE := Lib.hid hbe
  have HEN := Lib.hid hen
  rw [hbe] at z0 C1 C2 C3
  rw [hen] at z1 C1 C3
  clear hF hne hl hs hpp hc h0 hn hb ho hN hBw hN4 hbe hen hfew HB HO
  go_enter Tryd.func28, Tryd.ntmps28
  cases en with
  | true =>
    have E : Hid (Mft.step st F = .error (st.n + 1, 1, 7)) := Lib.hid (by unfold Mft.step; rw [if_pos HEN.out])
    cases be <;>
      (go_wp2
       go_ret2
       exact ⟨Below.refl _ _, Or.inr ⟨1, 7, E.out, rfl, by decide⟩⟩)
  | false =>
    cases be with
    | false =>
      have hn0 : st.n = 0 := by have := of_decide_eq_false HBE.out; omega
      have ST : Hid (Mft.step st F = if (headC F).1 ≠ 0 then .error (st.n + 1, headC F) else .ok ⟨st.n + 1, numN (fa F 1) 1073741824, st.rows, st.many, st.last, st.tot, false⟩) := Lib.hid (by unfold Mft.step; rw [if_neg (by rw [HEN.out]; simp), if_pos hn0])
      have C1b := Lib.hid (C1.out rfl)
      clear hn0 C1 C2 C3
      by_cases hx : S0 = ⟨#[109, 97, 110, 105, 102, 101, 115, 116]⟩
      rotate_left
      · have E : Hid (Mft.step st F = .error (st.n + 1, 1, 7)) := Lib.hid (by
          have : headC F = (1, 7) := by unfold headC; rw [if_pos (fun e => hx (bytes_inj (by rw [L0.out, e])))]
          rw [ST.out, this, if_pos (by decide)])
        obtain ⟨t1, t2, t3⟩ := sv_neS (S := S0) (l := [109, 97, 110, 105, 102, 101, 115, 116]) (fun e => hx (bytes_inj (by rw [e])))
        clear hx
        go_wp2
        go_ret2
        exact ⟨Below.refl _ _, Or.inr ⟨1, 7, E.out, rfl, by decide⟩⟩
      have X : Hid (fa F 0 = wName) := Lib.hid (by rw [← L0.out, hx])
      subst hx
      by_cases hw : n = 2
      rotate_left
      · obtain ⟨k, hk⟩ : ∃ k, wide n 2 = k := ⟨_, rfl⟩
        obtain ⟨hk0, hkm⟩ := mf_wide_min hw
        rw [hk] at hk0 hkm
        have E : Hid (Mft.step st F = .error (st.n + 1, k, 1)) := Lib.hid (by
          have : headC F = (k, 1) := by unfold headC; rw [if_neg (by simp [X.out]), HFN.out, hk, if_pos hk0]
          rw [ST.out, this, if_pos hk0])
        obtain ⟨t1, t2⟩ := ne_tests (show (n : Int) ≠ 2 by omega)
        have FK : Hid (∀ x : Int, x = (k : Int) → Ending.returned (.tuple #[.int .i64 x, .int .i64 1]) = .returned (.tuple #[.int .i64 (k : Int), .int .i64 1])) := Lib.hid fun x hx => by rw [hx]
        rcases Nat.lt_or_gt_of_ne hw with h | h
        · have KE : Hid ((1 : Int) + min (n : Int) 2 = (k : Int)) := Lib.hid (by omega)
          have t3 : (n : Int) < 2 := by omega
          have t4 : (n : Int) ≤ 2 := by omega
          have wk : wrap64 (1 + (n : Int)) = 1 + (n : Int) := i64w (by unfold top; omega) (by unfold top; omega)
          clear hw hk hk0 hkm h C1b
          go_wp2
          go_ret2
          exact ⟨Below.refl _ _, Or.inr ⟨k, 1, E.out, FK.out _ KE.out, by decide⟩⟩
        · have KE : Hid ((1 : Int) + min (n : Int) 2 = (k : Int)) := Lib.hid (by omega)
          have t3 : (2 : Int) < (n : Int) := by omega
          have t4 : ¬ ((n : Int) ≤ 2) := by omega
          have t5 : ¬ ((n : Int) < 2) := by omega
          clear hw hk hk0 hkm h C1b
          go_wp2
          go_ret2
          exact ⟨Below.refl _ _, Or.inr ⟨k, 1, E.out, FK.out _ KE.out, by decide⟩⟩
      subst hw
      have HC : Hid (headC F = firstC F) := Lib.hid (head_first X.out HFN.out)
      have C1c := Lib.hid (C1b.out (by first | rfl | trivial))
      clear C1b
      obtain ⟨x, y, hxy⟩ : ∃ x y, firstC F = (x, y) := ⟨_, _, rfl⟩
      have HXY := Lib.hid hxy
      rw [hxy] at C1c
      clear hxy
      go_wp2_with fail
      refine C1c.out.mono ?_
      rintro e w1 ⟨rfl, k1, h1⟩
      go_wp2
      go_ret2
      refine ⟨k1, ?_⟩
      by_cases hx0 : x = 0
      · have hz : headC F = (0, 0) := mf_headC_zero (by rw [HC.out, HXY.out]; exact hx0)
        have hy : y = 0 := by have := HC.out.symm.trans hz; rw [HXY.out] at this; cases this; rfl
        obtain ⟨g1, g2⟩ := h1 hx0
        rw [← HEN.out] at g1
        refine Or.inl ⟨⟨st.n + 1, numN (fa F 1) 1073741824, st.rows, st.many, st.last, st.tot, false⟩, q, N, cq, by rw [ST.out, hz, if_neg (by simp)], by rw [hx0, hy]; rfl, by rw [HEN.out] at g1; exact g1, g2, HNN.out⟩
      · refine Or.inr ⟨x, y, by rw [ST.out, HC.out, HXY.out, if_pos hx0], rfl, ?_⟩
        have := headC_no (F := F) (by rw [HC.out, HXY.out]; exact hx0)
        rw [HC.out, HXY.out] at this
        have h2 : 1 ≤ y := this
        omega
    | true =>
      have hn0 : st.n ≠ 0 := by have := of_decide_eq_true HBE.out; omega
      have ST0 : Hid (Mft.step st F = if wide n 3 ≠ 0 then .error (st.n + 1, wide n 3, 1) else if fa F 0 = wEnd then (if (tailC F st.many st.tot).1 ≠ 0 then .error (st.n + 1, tailC F st.many st.tot) else .ok ⟨st.n + 1, st.seq, st.rows, st.many, st.last, st.tot, true⟩) else (if (rowC F st.last).1 ≠ 0 then .error (st.n + 1, rowC F st.last) else .ok ⟨st.n + 1, st.seq, st.rows ++ rowsG (gOf F), st.many + 1, (gOf F).o, st.tot + ((gOf F).n + (gOf F).m), false⟩)) := Lib.hid (by unfold Mft.step; rw [if_neg (by rw [HEN.out]; simp), if_neg hn0, HFN.out])
      clear hn0 C1
      by_cases hw : n = 3
      rotate_left
      · obtain ⟨k, hk⟩ : ∃ k, wide n 3 = k := ⟨_, rfl⟩
        obtain ⟨hk0, hkm⟩ := mf_wide_min hw
        rw [hk] at hk0 hkm
        have E : Hid (Mft.step st F = .error (st.n + 1, k, 1)) := Lib.hid (by rw [ST0.out, hk, if_pos hk0])
        obtain ⟨t1, t2⟩ := ne_tests (show (n : Int) ≠ 3 by omega)
        have FK : Hid (∀ x : Int, x = (k : Int) → Ending.returned (.tuple #[.int .i64 x, .int .i64 1]) = .returned (.tuple #[.int .i64 (k : Int), .int .i64 1])) := Lib.hid fun x hx => by rw [hx]
        rcases Nat.lt_or_gt_of_ne hw with h | h
        · have KE : Hid ((1 : Int) + min (n : Int) 3 = (k : Int)) := Lib.hid (by omega)
          have t3 : (n : Int) < 3 := by omega
          have t4 : (n : Int) ≤ 3 := by omega
          have wk : wrap64 (1 + (n : Int)) = 1 + (n : Int) := i64w (by unfold top; omega) (by unfold top; omega)
          clear hw hk hk0 hkm h C2 C3
          go_wp2
          go_ret2
          exact ⟨Below.refl _ _, Or.inr ⟨k, 1, E.out, FK.out _ KE.out, by decide⟩⟩
        · have KE : Hid ((1 : Int) + min (n : Int) 3 = (k : Int)) := Lib.hid (by omega)
          have t3 : (3 : Int) < (n : Int) := by omega
          have t4 : ¬ ((n : Int) ≤ 3) := by omega
          have t5 : ¬ ((n : Int) < 3) := by omega
          clear hw hk hk0 hkm h C2 C3
          go_wp2
          go_ret2
          exact ⟨Below.refl _ _, Or.inr ⟨k, 1, E.out, FK.out _ KE.out, by decide⟩⟩
      subst hw
      have ST := Lib.hid (ST0.out.trans (if_neg (by decide)))
      have C2b := Lib.hid (C2.out (by first | rfl | trivial))
      have C3b := Lib.hid (C3.out (by first | rfl | trivial))
      clear ST0 C2 C3
      by_cases hx : S0 = ⟨#[101, 110, 100]⟩
      · have X : fa F 0 = wEnd := by rw [← L0.out, hx]
        have ST2 := Lib.hid (ST.out.trans (if_pos X))
        subst hx
        obtain ⟨x, y, hxy⟩ : ∃ x y, tailC F st.many st.tot = (x, y) := ⟨_, _, rfl⟩
        have HXY := Lib.hid hxy
        rw [hxy] at C2b
        clear X hxy C3b
        go_wp2_with fail
        refine C2b.out.mono ?_
        rintro e w1 ⟨rfl, k1, h1⟩
        go_wp2
        go_ret2
        refine ⟨k1, ?_⟩
        by_cases hx0 : x = 0
        · have hz : tailC F st.many st.tot = (0, 0) := mf_tailC_zero (by rw [HXY.out]; exact hx0)
          have hy : y = 0 := by have := hz; rw [HXY.out] at this; cases this; rfl
          obtain ⟨g1, g2⟩ := h1 hx0
          refine Or.inl ⟨⟨st.n + 1, st.seq, st.rows, st.many, st.last, st.tot, true⟩, q, N, cq, by rw [ST2.out, hz, if_neg (by simp)], by rw [hx0, hy]; rfl, g1, g2, HNN.out⟩
        · refine Or.inr ⟨x, y, by rw [ST2.out, HXY.out, if_pos hx0], rfl, ?_⟩
          have := tailC_no (F := F) (m := st.many) (t := st.tot) (by rw [HXY.out]; exact hx0)
          rw [HXY.out] at this
          have h2 : 1 ≤ y := this
          omega
      · have X : fa F 0 ≠ wEnd := fun e => hx (bytes_inj (by rw [L0.out, e]))
        have ST2 := Lib.hid (ST.out.trans (if_neg X))
        obtain ⟨t1, t2, t3⟩ := sv_neS (S := S0) (l := [101, 110, 100]) (fun e => hx (bytes_inj (by rw [e])))
        obtain ⟨x, y, hxy⟩ : ∃ x y, rowC F st.last = (x, y) := ⟨_, _, rfl⟩
        have HXY := Lib.hid hxy
        rw [hxy] at C3b
        clear X hxy hx C2b
        go_wp2_with fail
        refine C3b.out.mono ?_
        rintro e w1 ⟨rfl, k1, h1⟩
        go_wp2
        go_ret2
        refine ⟨k1, ?_⟩
        by_cases hx0 : x = 0
        · have hz : rowC F st.last = (0, 0) := mf_rowC_zero (by rw [HXY.out]; exact hx0)
          have hy : y = 0 := by have := hz; rw [HXY.out] at this; cases this; rfl
          obtain ⟨q', N', c', g1, g2, g3⟩ := h1 hx0
          refine Or.inl ⟨⟨st.n + 1, st.seq, st.rows ++ rowsG (gOf F), st.many + 1, (gOf F).o, st.tot + ((gOf F).n + (gOf F).m), false⟩, q', N', c', by rw [ST2.out, hz, if_neg (by simp)], by rw [hx0, hy]; rfl, g1, g2, g3⟩
        · refine Or.inr ⟨x, y, by rw [ST2.out, HXY.out, if_pos hx0], rfl, ?_⟩
          have := rowC_no (F := F) (l := st.last) (by rw [HXY.out]; exact hx0)
          rw [HXY.out] at this
          have h2 : 1 ≤ y := this
          omega
theorem mf_owns_local {w w' : World} {B : Nat} {e : TypeId} {v : Value} {n : Nat} {xs : List Value} (h : w.ownsRow B e 1 v n xs) (hk : ∀ g, v.ownBlock = some g → w'.heap[g]? = w.heap[g]?) : w'.ownsRow B e 1 v n xs := by
  obtain ⟨h0, h1⟩ := h
  refine ⟨h0, ?_⟩
  rcases h1 with h1 | ⟨g, cap, cur, rfl, hb, hg, h2⟩
  · exact Or.inl h1
  · exact Or.inr ⟨g, cap, cur, rfl, hb, (hk g rfl).trans hg, h2⟩
theorem mf_table_local {w w' : World} {B : Nat} {v : Value} {T : List (List (List UInt8))} (h : OwnTable B w v T) (hk : ∀ g, B ≤ g → g < w.heap.size → w'.heap[g]? = w.heap[g]?) : OwnTable B w' v T := by
  obtain ⟨B', vr, row, hB, vals, h1, h2, h3⟩ := h
  have lo : ∀ {e : TypeId} {x : Value} {n : Nat} {xs : List Value}, w.ownsRow B' e 1 x n xs → w'.ownsRow B' e 1 x n xs := fun hx => mf_owns_local hx fun g hg => hk g (Nat.le_trans hB (hx.lt g hg).1) (hx.lt g hg).2
  refine ⟨B', vr, row, hB, vals, lo h1, lo h2, fun j r hr => ?_⟩
  obtain ⟨v', e1, e2, e3⟩ := h3 j r hr
  exact ⟨v', e1, lo e2, e3⟩
/-- Between two rows. -/
def MfPar2 (w2 : World) (T : List (List (List UInt8))) (N gh : Nat) (v24 : Value) (W : World) : Prop :=
  ∃ (i n' : Nat) (st : Mft.PS) (p' : Option Addr) (c' : Nat), i + gh = N ∧ v24 = .int .i64 (i : Int) ∧ st.n = i ∧ Mft.Inv st ∧ Mft.runL Mft.st0 T = Mft.runL st (T.drop i) ∧ st.rows.length = n' ∧
    RdM W w2.heap.size (decide (0 < st.n)) st.ended st.seq (.slice p' n' c') st.last st.many st.tot ∧ rowK.Own (w2.heap.size + 1) W (.slice p' n' c') st.rows ∧ w2.heap.size + 1 ≤ W.heap.size ∧ Keeps w2 W
set_option maxHeartbeats 16000000 in
set_option maxRecDepth 100000 in
theorem mp_parse (s : ByteArray) (w : World) (hs : s.size ≤ maxLen) (hm : HasMax w) :
    Calls Tryd.prog 13 #[.string s] w (MfOut s.data.toList w) := by
  have C1 : Hid (∀ W, Keeps w W → Calls Tryd.prog 19 #[.string s] W (MfAll s.data.toList W)) := Lib.hid fun W k => mf_csv s W hs (hm.keeps k)
  obtain ⟨l, hl⟩ : ∃ l, s.data.toList = l := ⟨_, rfl⟩
  rw [hl] at C1 ⊢
  clear hs hl hm
  go_enter Tryd.func13, Tryd.ntmps13
  go_wp2_with fail
  refine (C1.out _ (kept_alloc (kept_alloc (Keeps.refl w) _) _)).mono ?_
  rintro e w1 ⟨k1, v, line, col, code, rfl, ho⟩
  have HO := Lib.hid ho
  have B2 : Hid ((w1.heap[w.heap.size]? = some (.cells #[.int .i64 0, .int .i64 0, .slice none 0 0] tSt (0, 0)) ∧ w1.heap[w.heap.size + 1]? = some (.cells #[.int .i64 0, .int .i64 0, .int .i64 0] skRj (0, 0))) ∧ Keeps w w1) := Lib.hid (by
    have s1 : (w.alloc zeSt).heap.size = w.heap.size + 1 := by simp
    have n0 := heap_alloc_new w zeSt
    have n1 := heap_alloc_new (w.alloc zeSt) zeRj
    rw [s1] at n1
    have k2 := kept_alloc (Keeps.refl (w.alloc zeSt)) zeRj
    exact ⟨⟨(k1.block _ (by simp <;> omega)).trans ((k2.block _ (by simp)).trans n0), (k1.block _ (by simp)).trans n1⟩, (kept_alloc (kept_alloc (Keeps.refl w) _) _).trans k1⟩)
  have S2 : Hid (((w.alloc zeSt).alloc zeRj).heap.size = w.heap.size + 2) := Lib.hid (by simp)
  clear ho k1 C1
  obtain ⟨⟨y0, y1, y2⟩, g0, g1, g2⟩ := sk_three_atG B2.out.1.1
  obtain ⟨⟨r0, r1, r2⟩, d0, d1, d2⟩ := sk_three_atG B2.out.1.2
  go_upto_region 2 with (fail)
  obtain ⟨w2, hw2⟩ : ∃ W, ((w1.setCell ⟨w.heap.size + 1, 0, none⟩ (.int .i64 line)).setCell ⟨w.heap.size + 1, 1, none⟩ (.int .i64 col)).setCell ⟨w.heap.size + 1, 2, none⟩ (.int .i64 code) = W := ⟨_, rfl⟩
  have B3 : Hid (∀ W, Keeps w2 W → (W.heap[w.heap.size]? = some (.cells #[.int .i64 0, .int .i64 0, .slice none 0 0] tSt (0, 0)) ∧ W.heap[w.heap.size + 1]? = some (.cells #[.int .i64 line, .int .i64 col, .int .i64 code] skRj (0, 0))) ∧ Keeps w W) := Lib.hid (by
    intro W k
    have a0 := (sk_three_far (W := w1) (n := w.heap.size + 1) (m := w.heap.size) (by omega) (.int .i64 line) (.int .i64 col) (.int .i64 code)).trans B2.out.1.1
    have a1 := sk_three_setG B2.out.1.2 (.int .i64 line) (.int .i64 col) (.int .i64 code)
    have a2 := sk_three_keepsG (n := w.heap.size + 1) B2.out.2 (Nat.le_succ _) (.int .i64 line) (.int .i64 col) (.int .i64 code)
    rw [hw2] at a0 a1 a2
    exact ⟨⟨(k.block _ (Array.getElem?_eq_some_iff.1 a0).1).trans a0, (k.block _ (Array.getElem?_eq_some_iff.1 a1).1).trans a1⟩, a2.trans k⟩)
  have OT : Hid (∀ T, OwnTable ((w.alloc zeSt).alloc zeRj).heap.size w1 v T → ∀ W, Keeps w2 W → RowsAt W v T) := Lib.hid (by
    intro T h W k
    have h2 : OwnTable ((w.alloc zeSt).alloc zeRj).heap.size w2 v T := mf_table_local h fun g h1 h2 => by
      rw [← hw2]
      rw [S2.out] at h1
      exact sk_three_far (W := w1) (n := w.heap.size + 1) (m := g) (by omega) (.int .i64 line) (.int .i64 col) (.int .i64 code)
    exact h2.rows.keeps k)
  rw [hw2]
  clear hw2 y0 y1 y2 g0 g1 g2 r0 r1 r2 d0 d1 d2 B2 S2
  have BW := Lib.hid (B3.out w2 (Keeps.refl _))
  obtain ⟨⟨y0, y1, y2⟩, g0, g1, g2⟩ := sk_three_atG BW.out.1.1
  obtain ⟨⟨r0, r1, r2⟩, d0, d1, d2⟩ := sk_three_atG BW.out.1.2
  rcases HO.out with ⟨T, hr, hp, hfi, how, rfl, rfl, rfl⟩ | ⟨a, b, hp, hc, rfl, rfl, rfl⟩
  rotate_left
  · have E := Lib.hid hp
    have tc : (code == 0) = false := by rw [beq_eq_false_iff_ne]; exact hc
    have tc2 : (code != 0) = true := by rw [bne, tc]; rfl
    clear hp hc HO OT
    go_upto_region 3 with (fail)
    have m1 : w.heap.size ≠ w.heap.size + 1 := by omega
    have m2 : w.heap.size + 1 ≠ w.heap.size := by omega
    go_region
    go_wp2
    have K6 := sk_six_keeps BW.out.2 (Nat.le_refl _) (.int .i64 0) (.int .i64 0) (.slice none 0 0) (.int .i64 (a : Int)) (.int .i64 (b : Int)) (.int .i64 code)
    obtain ⟨⟨e0, e1, e2⟩, e3, e4, e5⟩ := sk_six_set BW.out.1.1 BW.out.1.2 (.int .i64 0) (.int .i64 0) (.slice none 0 0) (.int .i64 (a : Int)) (.int .i64 (b : Int)) (.int .i64 code)
    exact bodyPost_ret (v := .tuple #[.agg #[.int .i64 0, .int .i64 0, .slice none 0 0], .agg #[.int .i64 (a : Int), .int .i64 (b : Int), .int .i64 code]]) (by simp [results, Tryd.results13, go_sem, e0, e1, e2, e3, e4, e5]) rfl (Or.inr ⟨a, b, code, E.out, rfl, K6.trans (ky_drew _)⟩)
  have RT := Lib.hid (OT.out T how)
  obtain ⟨N, hN⟩ : ∃ N, T.length = N := ⟨_, rfl⟩
  have HN := Lib.hid hN
  have HR := Lib.hid hp
  have HF := Lib.hid hfi
  have HL : Hid (N ≤ 65536) := Lib.hid (by rw [← hN]; exact hfi.len)
  have LT : Hid (w.heap.size + 1 < w2.heap.size) := Lib.hid (Array.getElem?_eq_some_iff.1 BW.out.1.2).1
  obtain ⟨pv, cv, rfl, hmx, _⟩ := how.rows
  rw [hN] at hmx RT ⊢
  unfold maxLen at hmx
  clear hr hp hfi how hN HO OT y0 y1 y2 g0 g1 g2 r0 r1 r2 d0 d1 d2
  obtain ⟨_, _, r2⟩ := (sk_three_atG BW.out.1.2).1
  go_upto_region 5 with (fail)
  obtain ⟨w3, hw3⟩ : ∃ W, w2.alloc (.cells #[.bool false, .bool false, .int .i64 2, .int .i64 0, .slice none 0 0, .int .i64 0, .int .i64 0, .int .i64 0] tRdM) = W := ⟨_, rfl⟩
  have S0 : Hid (w3.heap[w2.heap.size]? = some (.cells #[.bool false, .bool false, .int .i64 2, .int .i64 0, .slice none 0 0, .int .i64 0, .int .i64 0, .int .i64 0] tRdM (0, 0)) ∧ w2.heap.size + 1 ≤ w3.heap.size ∧ Keeps w2 w3) := Lib.hid (by
    rw [← hw3]
    exact ⟨heap_alloc_new _ _, by simp, kept_alloc (Keeps.refl w2) _⟩)
  rw [hw3]
  clear hw3 r2
  go_wp2_with fail
  go_loopg [24] N (fun g v24 W => MfPar2 w2 T N g v24 W)
  case atStart => exact ⟨0, 0, Mft.st0, none, 0, by omega, rfl, rfl, Mft.inv_zero, rfl, rfl, S0.out.1, rowK.own_nil _ _, S0.out.2.1, S0.out.2.2⟩
  case round =>
    obtain ⟨i, n', st, p', c', hi, rfl, hn, hinv, hrun, hlen, hbk, hown, hsz, hw⟩ := hrel
    have HI := Lib.hid hi
    have HNI := Lib.hid hn
    have HINV := Lib.hid hinv
    have HRUN := Lib.hid hrun
    have HLEN := Lib.hid hlen
    have HBK := Lib.hid hbk
    have HOWN := Lib.hid hown
    have HSZ := Lib.hid hsz
    have HW := Lib.hid hw
    have BW := Lib.hid (B3.out wr hw)
    clear hn hinv hrun hlen hown hsz hw
    cases gk with
    | zero =>
      have hiN : i = N := by as_aux_lemma => (omega)
      have hd : decide ((i : Int) < (N : Int)) = false := decide_eq_false (by as_aux_lemma => (omega))
      have PM : Hid (Mft.parseM l = Mft.runL st []) := Lib.hid (by
        rw [HR.out, HRUN.out, List.drop_eq_nil_of_le (by as_aux_lemma => (have := HN.out; omega))])
      have HIN := Lib.hid hiN
      have wN : wrap64 (1 + (N : Int)) = 1 + (N : Int) := i64w (by as_aux_lemma => (unfold top; omega)) (by as_aux_lemma => (unfold top; have := HL.out; omega))
      obtain ⟨⟨z0, z1, z2, z3, z4, z5, z6, z7⟩, _⟩ := mfEight_at hbk
      obtain ⟨⟨y0, y1, y2⟩, g0, g1, g2⟩ := sk_three_atG BW.out.1.1
      obtain ⟨⟨r0, r1, r2⟩, d0, d1, d2⟩ := sk_three_atG BW.out.1.2
      obtain ⟨en, hen⟩ : ∃ b, st.ended = b := ⟨_, rfl⟩
      have HEN := Lib.hid hen
      rw [hen] at z1
      clear hen hiN hbk
      cases en with
      | false =>
        have E : Hid (Mft.parseM l = .error (1 + N, 1, 7)) := Lib.hid (by rw [PM.out, Mft.runL, HEN.out, if_neg (by simp), HNI.out, HIN.out, Nat.add_comm])
        go_wp2
        obtain ⟨⟨e0, e1, e2⟩, e3, e4, e5⟩ := sk_six_set BW.out.1.1 BW.out.1.2 (.int .i64 0) (.int .i64 0) (.slice none 0 0) (.int .i64 (1 + (N : Int))) (.int .i64 1) (.int .i64 7)
        exact bodyPost_ret (v := .tuple #[.agg #[.int .i64 0, .int .i64 0, .slice none 0 0], .agg #[.int .i64 (1 + (N : Int)), .int .i64 1, .int .i64 7]]) (by simp [results, Tryd.results13, go_sem, e0, e1, e2, e3, e4, e5]) rfl (Or.inr ⟨1 + N, 1, 7, E.out, rfl, sk_six_keeps BW.out.2 (Nat.le_refl _) _ _ _ _ _ _⟩)
      | true =>
        have E : Hid (Mft.parseM l = .ok (st.seq, st.rows)) := Lib.hid (by rw [PM.out, Mft.runL, HEN.out, if_pos rfl])
        have m1 : w2.heap.size ≠ w.heap.size := by have := LT.out; omega
        have m2 : w2.heap.size ≠ w.heap.size + 1 := by have := LT.out; omega
        go_wp2
        have O6 : Hid (rowK.Own (w2.heap.size + 1) (sk_sixW wr w.heap.size (.int .i64 2) (.int .i64 st.seq) (.slice p' n' c') (.int .i64 0) (.int .i64 0) (.int .i64 0)) (.slice p' n' c') st.rows) := Lib.hid (by
          have l0 : w.heap.size < w2.heap.size + 1 := by have := LT.out; omega
          have l1 : w.heap.size + 1 < w2.heap.size + 1 := by have := LT.out; omega
          exact sk_own_set (sk_own_set (sk_own_set (sk_own_set (sk_own_set (sk_own_set HOWN.out l0 _) l0 _) l0 _) l1 _) l1 _) l1 _)
        obtain ⟨⟨e0, e1, e2⟩, e3, e4, e5⟩ := sk_six_set BW.out.1.1 BW.out.1.2 (.int .i64 2) (.int .i64 st.seq) (.slice p' n' c') (.int .i64 0) (.int .i64 0) (.int .i64 0)
        exact bodyPost_ret (v := .tuple #[.agg #[.int .i64 2, .int .i64 st.seq, .slice p' n' c'], .agg #[.int .i64 0, .int .i64 0, .int .i64 0]]) (by simp [results, Tryd.results13, go_sem, e0, e1, e2, e3, e4, e5]) rfl (Or.inl ⟨st.seq, st.rows, .slice p' n' c', E.out, rfl, own_rows O6.out (by as_aux_lemma => (have := HINV.out.few.1; omega)), sk_six_keeps BW.out.2 (Nat.le_refl _) _ _ _ _ _ _⟩)
    | succ g =>
      have hlt : i < N := by as_aux_lemma => (omega)
      obtain ⟨F, hF⟩ : ∃ F, T[i]? = some F := ⟨_, List.getElem?_eq_getElem (by as_aux_lemma => (have := HN.out; omega))⟩
      have FF := Lib.hid (HF.out.row F (List.mem_of_getElem? hF))
      have FS : Hid (SkShort F) := Lib.hid (HF.out.short (List.mem_of_getElem? hF))
      obtain ⟨pq, cq, eq, _, hcq⟩ := RT.out wr HW.out
      rw [HN.out] at eq
      simp only [Value.slice.injEq] at eq
      obtain ⟨rfl, _, rfl⟩ := eq
      obtain ⟨ad, vF, rfl, hcl, hst⟩ := hcq i F hF
      have hi1 : (i : Int) < (N : Int) := by as_aux_lemma => (omega)
      have hi0 : (0 : Int) ≤ (i : Int) := by as_aux_lemma => (omega)
      have wi : wrap64 ((i : Int) + 1) = (i : Int) + 1 := i64w (by as_aux_lemma => (unfold top; omega)) (by as_aux_lemma => (unfold top; have := HL.out; omega))
      have wi2 : wrap64 (1 + (i : Int)) = 1 + (i : Int) := i64w (by as_aux_lemma => (unfold top; omega)) (by as_aux_lemma => (unfold top; have := HL.out; omega))
      have DR : Hid (T.drop i = F :: T.drop (i + 1)) := Lib.hid (by
        obtain ⟨q1, q2⟩ := List.getElem?_eq_some_iff.1 hF
        rw [List.drop_eq_getElem_cons q1, q2])
      have ERR : Hid (∀ e, Mft.step st F = .error e → Mft.parseM l = .error e) := Lib.hid fun e he => by
        rw [HR.out, HRUN.out, DR.out, Mft.runL, he]
      have NEXT : Hid (∀ st', Mft.step st F = .ok st' → Mft.runL Mft.st0 T = Mft.runL st' (T.drop (i + 1))) := Lib.hid fun st' he => by
        rw [HRUN.out, DR.out, Mft.runL, he]
      have CR := Lib.hid (mp_read w2.heap.size (w2.heap.size + 1) st p' n' c' vF F wr hbk HOWN.out (Nat.lt_succ_self _) HSZ.out hst FF.out.1 (by have := FF.out.2.1; omega) FS.out HLEN.out (by have := HINV.out.few.1; have := HLEN.out; omega) HINV.out.few.2.2)
      clear hF hcq hst hbk
      go_wp2_with fail
      refine CR.out.mono ?_
      rintro e w5 ⟨hbl, hout⟩
      have K5 : Hid (Keeps w2 w5) := Lib.hid (Below.trans HW.out hbl)
      have S5 : Hid (w2.heap.size + 1 ≤ w5.heap.size) := Lib.hid (Nat.le_trans HSZ.out hbl.size)
      have HOUT := Lib.hid hout
      clear hbl hout CR hcl
      rcases HOUT.out with ⟨st', q', N', c'', h1, rfl, h3, h4, h5⟩ | ⟨a, b, h1, rfl, hb0⟩
      · have E1 := Lib.hid h1
        have E3 := Lib.hid h3
        have E4 := Lib.hid h4
        have E5 := Lib.hid h5
        have EN : Hid (decide (0 < st'.n) = true) := Lib.hid (decide_eq_true (by rw [Mft.step_n h1]; omega))
        clear h1 h3 h4 h5
        go_wp2_with fail
        go_roundg g
        case measure => omega
        case rel => exact ⟨i + 1, N', st', q', c'', by as_aux_lemma => (have := HI.out; omega), by first | (rw [wi]; rfl) | rfl | go_num, by rw [Mft.step_n E1.out, HNI.out], Mft.step_inv E1.out HINV.out, NEXT.out _ E1.out, E5.out, by rw [EN.out]; exact E3.out, E4.out, S5.out, K5.out⟩
      · have E : Hid (Mft.parseM l = .error (1 + i, a, b)) := Lib.hid (by rw [ERR.out _ h1, HNI.out, Nat.add_comm])
        have BX := Lib.hid (B3.out w5 K5.out)
        have tb : (b == 0) = false := by rw [beq_eq_false_iff_ne]; exact hb0
        have tb2 : (b != 0) = true := by rw [bne, tb]; rfl
        obtain ⟨⟨y0, y1, y2⟩, g0, g1, g2⟩ := sk_three_atG BX.out.1.1
        obtain ⟨⟨r0, r1, r2⟩, d0, d1, d2⟩ := sk_three_atG BX.out.1.2
        clear h1 hb0
        go_wp2
        obtain ⟨⟨e0, e1, e2⟩, e3, e4, e5⟩ := sk_six_set BX.out.1.1 BX.out.1.2 (.int .i64 0) (.int .i64 0) (.slice none 0 0) (.int .i64 (1 + (i : Int))) (.int .i64 (a : Int)) (.int .i64 b)
        exact bodyPost_ret (v := .tuple #[.agg #[.int .i64 0, .int .i64 0, .slice none 0 0], .agg #[.int .i64 (1 + (i : Int)), .int .i64 (a : Int), .int .i64 b]]) (by simp [results, Tryd.results13, go_sem, e0, e1, e2, e3, e4, e5]) rfl (Or.inr ⟨1 + i, a, b, E.out, rfl, sk_six_keeps BX.out.2 (Nat.le_refl _) _ _ _ _ _ _⟩)
end Go.Proofs.YtnkcbefamajghaaDoor
namespace Go.Proofs.YtnkcbefamajghaaDoor
open Go.ChangeShapes Go.WideShapes Go.ChangeAt Go.RowKit Ky Rw Csv Mft
open Go.Maps (Keyed)
open Stk (numN fa wide num_put num_yes num_le put_plain put_short plain_put wide_same wide_zero)


abbrev tMk : TypeId := 55
theorem lawKy : Keyed Tryd.prog tKy := Keyed.of_law (deep_law_laid (by kernel_rfl) (m := 2) (by omega) (of_decide_eq_true (by kernel_rfl)) (by kernel_rfl) (by kernel_rfl))
def rwZ : Value := .agg #[.int .i64 0, .int .i64 0, .int .i64 0, .int .i64 0, .int .i64 0]
theorem zero_rowK (w : World) : (zeroValue tRw).run Tryd.prog w = .ok rwZ w := by kernel_rfl
def kyW (o d : Int) : Value := .agg #[.int .i64 o, .int .i64 d]
def kK (o d : Int) : Lit := .string (keyBytes [.int .i64 o, .int .i64 d])
theorem wf_ofK {n : Int} (h : I64 n) : (Lit.int .i64 n).wf = true := by
  unfold I64 top at h
  exact WalkArith.wf_i64 (by omega)
theorem cells_ky : Tryd.prog.cellsOf tKy = 2 := by kernel_rfl
theorem cells_intK : Tryd.prog.cellsOf 3 = 1 := by kernel_rfl
theorem isKey_ky : Tryd.prog.keyType tKy = true := by kernel_rfl
theorem sized_typesK : ∃ n, Tryd.prog.types.size = n + 1 := ⟨Tryd.prog.types.size - 1, by have : 0 < Tryd.prog.types.size := of_decide_eq_true (by kernel_rfl); omega⟩
theorem keyLits_intK {d : Nat} {n : Int} (h : I64 n) : Tryd.prog.keyLits (d + 1) 3 [.int .i64 n] = some [.int .i64 n] := by
  simp [Program.keyLits, Tryd.underlying3, wf_ofK h]
theorem keyLits_ky {a o : Int} (ha : I64 a) (ho : I64 o) : Tryd.prog.keyLits (Tryd.prog.types.size + 1) tKy [.int .i64 a, .int .i64 o] = some [.int .i64 a, .int .i64 o] := by
  obtain ⟨n, hn⟩ := sized_typesK
  rw [hn]
  have hu := Tryd.underlying48
  unfold Program.keyLits
  rw [hu]
  simp [cells_ky, cells_intK, keyLits_intK ha, keyLits_intK ho]
theorem kK_is {a o : Int} (ha : I64 a) (ho : I64 o) : keyOf Tryd.prog tKy (kyW a o) = some (kK a o) := by
  have hl := keyLits_ky ha ho
  have hf : (Value.agg #[.int .i64 a, .int .i64 o]).formed Tryd.prog tKy = true := by
    simp [Value.formed, Tryd.underlying48, cells_ky]
  unfold keyOf kyW
  rw [Tryd.underlying48]
  simp only [isKey_ky, hf, Bool.and_self, if_true]
  rw [show (Value.agg #[.int .i64 a, .int .i64 o]).cells.toList = [.int .i64 a, .int .i64 o] from rfl, hl]
  rfl
theorem kK_inj {a o a' o' : Int} (ha : I64 a) (ho : I64 o) (ha' : I64 a') (ho' : I64 o') (h : kK a o = kK a' o') : a = a' ∧ o = o' := by
  have := lawKy.inj (kK_is ha ho) (h ▸ kK_is ha' ho')
  unfold kyW at this
  simpa using this
section
variable {w : World} {b n : Nat} {D : DataW Value}
theorem look_ky {a o : Int} {v : Value} (h : w.ownsMap Tryd.prog tKy asIs b n D) (ha : I64 a) (ho : I64 o) (hv : D.atKey (kK a o) (.held rwZ) = .held v) :
    (Instr.lookup tMk (.map (some b)) (kyW a o) false).run Tryd.prog w = .ok v w := by
  obtain ⟨u, ps, hr, hu⟩ := h.lookup lawKy Tryd.underlying55 (zero_rowK w) (show asIs rwZ = some (.held rwZ, []) from rfl) (kK_is ha ho)
  have := asIs_inv hu
  rw [hv] at this
  cases this
  exact hr
theorem put_ky {a o : Int} (v : Value) (h : w.ownsMap Tryd.prog tKy asIs b n D) (hn : n < maxLen) (ha : I64 a) (ho : I64 o) :
    ∃ w', (Instr.mapUpdate tMk (.map (some b)) (kyW a o) v).run Tryd.prog w = .ok () w' ∧ w'.ownsMap Tryd.prog tKy asIs b (n + 1) (D.put (kK a o) (.held v)) ∧ w.grownBy w' (some b) :=
  h.update lawKy Tryd.underlying55 hn (kK_is ha ho) (show asIs v = some (.held v, []) from rfl)
end
theorem kK_key (a o : Int) : WideAt.IsKeyLit (kK a o) := trivial
theorem own_map {w w' : World} {P : Program} {k : TypeId} {R : Value → Option (DataW Value × List MemPlace)} {b n : Nat} {D : DataW Value} (h : w.ownsMap P k R b n D) (e : w'.heap[b]? = w.heap[b]?) : w'.ownsMap P k R b n D := by
  obtain ⟨es, clock, hb, r⟩ := h
  exact ⟨es, clock, e.trans hb, r⟩
theorem map_not_cells {w : World} {P : Program} {k : TypeId} {R : Value → Option (DataW Value × List MemPlace)} {b g n : Nat} {D : DataW Value} {c : Array Value} {t : TypeId} {f : Nat × Nat} (h : w.ownsMap P k R b n D) (hg : w.heap[g]? = some (.cells c t f)) : g ≠ b := by
  obtain ⟨es, clock, hb, _⟩ := h
  rintro rfl
  rw [hb] at hg
  cases hg
/-- What rows say of a key, or a row that is none. -/
def lkR (M : List R) (o d : Int) : R := (lk M o d).getD noR
/-- What the map says. -/
def Says (D : DataW Value) (M : List R) : Prop := ∀ o d, I64 o → I64 d → D.atKey (kK o d) (.held rwZ) = .held (rwV (lkR M o d))
theorem Says.nil : Says (.map []) [] := fun o d _ _ => rfl
theorem row_i64 {x : R} (h : Row1 2 x) : I64 x.o ∧ I64 x.d := by
  have := h.key.o0
  have := h.key.o1
  have := h.key.d0
  have := h.key.d1
  unfold I64 top
  omega
theorem Says.put {D : DataW Value} {M : List R} {x : R} (h : Says D M) (hm : Maps.IsMap D) (hx : Row1 2 x) (hl : ∀ y ∈ M, less y x = true) : Says (D.put (kK x.o x.d) (.held (rwV x))) (M ++ [x]) := fun o d ho hd => by
  obtain ⟨i1, i2⟩ := row_i64 hx
  unfold lkR
  rw [lk_snoc hl]
  by_cases e : x.o = o ∧ x.d = d
  · rw [if_pos e]
    obtain ⟨rfl, rfl⟩ := e
    rw [Maps.atKey_put_same hm (kK_key _ _)]
    rfl
  · rw [if_neg e, Maps.atKey_put_other (fun hk => e (by
      have := kK_inj i1 i2 ho hd (by first | exact hk | exact hk.symm)
      exact this))]
    exact h o d ho hd
theorem lkR_two {L : List R} (h : Rw.Good 2 L) {g : G} (hg : g ∈ grpL L) : ((lkR L g.o 2).c = g.a ∧ (lkR L g.o 2).q = g.n) ∧ ((lkR L g.o 5).c = g.b ∧ (lkR L g.o 5).q = g.m) := by
  obtain ⟨e1, e2⟩ := lk_two h hg
  have ok := (grp_ok h).1.each g hg
  have := ok.a0
  have := ok.b0
  unfold lkR
  rw [e1, e2]
  constructor
  · by_cases ha : 0 < g.a
    · rw [if_pos ha]; exact ⟨rfl, rfl⟩
    · rw [if_neg ha]; exact ⟨show (0 : Int) = g.a by omega, show (0 : Int) = g.n from (ok.na (by omega)).symm⟩
  · by_cases hb : 0 < g.b
    · rw [if_pos hb]; exact ⟨rfl, rfl⟩
    · rw [if_neg hb]; exact ⟨show (0 : Int) = g.b by omega, show (0 : Int) = g.m from (ok.mb (by omega)).symm⟩
theorem lkR_no {L : List R} (h : Rw.Good 2 L) {o : Int} (hn : ∀ g ∈ grpL L, g.o ≠ o) (d : Int) : (lkR L o d).c = 0 := by
  unfold lkR
  rw [lk_no h hn d]
  rfl
abbrev rowObj (x : R) : Obj := .cells #[.int .i64 x.o, .int .i64 x.d, .int .i64 x.c, .int .i64 x.a, .int .i64 x.q] tRw
/-- Two boxes of rows. -/
def TwoB (wr : World) (r1 r2 : R) (v11 v12 : Value) (W : World) : Prop :=
  ∃ b1 b2 : Nat, v11 = .pointer (some ⟨b1, 0, none⟩) ∧ v12 = .pointer (some ⟨b2, 0, none⟩) ∧ W.heap[b1]? = some (.cells #[.int .i64 r1.o, .int .i64 r1.d, .int .i64 r1.c, .int .i64 r1.a, .int .i64 r1.q] tRw (0, 0)) ∧ W.heap[b2]? = some (.cells #[.int .i64 r2.o, .int .i64 r2.d, .int .i64 r2.c, .int .i64 r2.a, .int .i64 r2.q] tRw (0, 0)) ∧ wr.heap.size ≤ b1 ∧ wr.heap.size ≤ b2 ∧ Keeps wr W
theorem twoB_a (wr : World) (r1 r2 : R) : TwoB wr r1 r2 (.pointer (some ⟨wr.heap.size, 0, none⟩)) (.pointer (some ⟨wr.heap.size + 1, 0, none⟩)) ((wr.alloc (.cells #[.int .i64 r1.o, .int .i64 r1.d, .int .i64 r1.c, .int .i64 r1.a, .int .i64 r1.q] tRw)).alloc (.cells #[.int .i64 r2.o, .int .i64 r2.d, .int .i64 r2.c, .int .i64 r2.a, .int .i64 r2.q] tRw)).drew := by
  have s1 : (wr.alloc (rowObj r1)).heap.size = wr.heap.size + 1 := by simp
  have n0 := heap_alloc_new wr (rowObj r1)
  have n1 := heap_alloc_new (wr.alloc (rowObj r1)) (rowObj r2)
  rw [s1] at n1
  exact ⟨_, _, rfl, rfl, ((ky_box (wr.alloc (rowObj r1)) (rowObj r2)).block _ (by simp)).trans n0, n1, Nat.le_refl _, Nat.le_succ _, ((ky_box wr _).trans (ky_box _ _)).trans (ky_drew _)⟩
theorem twoB_b (wr : World) (r1 r2 : R) : TwoB wr r1 r2 (.pointer (some ⟨wr.heap.size + 1, 0, none⟩)) (.pointer (some ⟨wr.heap.size, 0, none⟩)) ((wr.alloc (.cells #[.int .i64 r2.o, .int .i64 r2.d, .int .i64 r2.c, .int .i64 r2.a, .int .i64 r2.q] tRw)).alloc (.cells #[.int .i64 r1.o, .int .i64 r1.d, .int .i64 r1.c, .int .i64 r1.a, .int .i64 r1.q] tRw)).drew := by
  obtain ⟨b1, b2, e1, e2, h1, h2, s1, s2, k⟩ := twoB_a wr r2 r1
  exact ⟨b2, b1, e2, e1, h2, h1, s2, s1, k⟩
set_option maxHeartbeats 16000000 in
set_option maxRecDepth 100000 in
theorem mp_print (p s : Int) (v : Value) (L : List R) (w : World) (h : RowsIn w v L) (hhp : HasP w) (hhm : HasMax w) :
    Calls Tryd.prog 10 #[stV p s v] w fun e w' => e = .returned (.tuple #[.string (mfPrtS p s L), .int .i64 (Mft.prtC p s L)]) ∧ Keeps w w' := by
  have KB := Lib.hid (ky_box w (stBox p s v))
  have HR := Lib.hid (h.keeps KB.out)
  have CX := Lib.hid (st_cells w p s v)
  obtain ⟨b, hb⟩ : ∃ b, validB p s L = b := ⟨_, rfl⟩
  have HB := Lib.hid hb
  have C1 := Lib.hid (hb ▸ pw_valid p s v L _ (hhp.keeps KB.out) HR.out)
  have HHM := Lib.hid hhm
  have hmm := @run_makeMap Tryd.prog
  obtain ⟨pp, cp, rfl, hmx, _, _⟩ := h
  obtain ⟨N, hN⟩ : ∃ N, L.length = N := ⟨_, rfl⟩
  have HN := Lib.hid hN
  rw [hN] at hmx KB HR C1 CX ⊢
  clear hN hb hhp hhm
  unfold maxLen at hmx
  unfold stBox at KB HR C1 CX
  unfold stV at C1 ⊢
  obtain ⟨x0, x1, x2⟩ := CX.out _ (Keeps.refl _)
  by_cases hp : p = 2
  rotate_left
  · have E : Hid (mfPrtS p s L = ⟨#[]⟩ ∧ Mft.prtC p s L = 2) := Lib.hid (by unfold mfPrtS Mft.prt Mft.prtC; rw [if_neg (fun e => hp e.1), if_neg (fun e => hp e.1)]; exact ⟨rfl, rfl⟩)
    obtain ⟨t, t2⟩ := ne_tests hp
    clear hp
    go_enter Tryd.func10, Tryd.ntmps10
    go_wp2
    go_ret2
    exact ⟨ret_skP E.out.1.symm E.out.2.symm, KB.out⟩
  subst hp
  go_enter Tryd.func10, Tryd.ntmps10
  go_wp2_with fail
  refine C1.out.mono ?_
  rintro e w1 ⟨rfl, k1⟩
  have K1 := Lib.hid k1
  clear k1 C1 x0 x1 x2
  cases b with
  | false =>
    have E : Hid (mfPrtS 2 s L = ⟨#[]⟩ ∧ Mft.prtC 2 s L = 2) := Lib.hid (by unfold mfPrtS Mft.prt Mft.prtC; rw [HB.out, if_neg (by simp), if_neg (by simp)]; exact ⟨rfl, rfl⟩)
    go_wp2
    go_ret2
    exact ⟨ret_skP E.out.1.symm E.out.2.symm, KB.out.trans K1.out⟩
  | true =>
    have VA := Lib.hid (valid_iff.1 HB.out)
    have EO : Hid (mfPrtS 2 s L = ⟨(Mft.fileL s L).toArray⟩ ∧ Mft.prtC 2 s L = 0) := Lib.hid (by unfold mfPrtS Mft.prt Mft.prtC; rw [HB.out, if_pos ⟨rfl, rfl⟩, if_pos ⟨rfl, rfl⟩]; exact ⟨rfl, rfl⟩)
    have N4 : N ≤ 400 := by have := VA.out.good.len; rw [HN.out] at this; exact this
    have HN4 := Lib.hid N4
    have HMW : Hid (∀ W, Keeps w1 W → HasMax W) := Lib.hid fun W k => HHM.out.keeps (KB.out.trans (K1.out.trans k))
    have CXX : Hid (∀ W, Keeps w1 W → W.cell? ⟨w.heap.size, 0, none⟩ = some (.int .i64 2) ∧ W.cell? ⟨w.heap.size, 1, none⟩ = some (.int .i64 s) ∧ W.cell? ⟨w.heap.size, 2, none⟩ = some (.slice pp N cp)) := Lib.hid fun W k => CX.out W (K1.out.trans k)
    obtain ⟨mb, hmb⟩ : ∃ n, w1.heap.size = n := ⟨_, rfl⟩
    have HMB := Lib.hid hmb
    have M0 : Hid ((w1.alloc (.map #[] 0)).ownsMap Tryd.prog tKy asIs mb 0 (.map [])) := Lib.hid (hmb ▸ World.ownsMap_made w1 Tryd.prog tKy asIs)
    have KM : Hid (Keeps w1 (w1.alloc (.map #[] 0))) := Lib.hid (ky_box w1 _)
    obtain ⟨x0, x1, x2⟩ := CXX.out _ KM.out
    clear N4
    go_upto_region 6 with (fail)
    obtain ⟨w2, hw2⟩ : ∃ W, w1.alloc (.map #[] 0) = W := ⟨_, rfl⟩
    rw [hw2] at M0 KM
    rw [hw2]
    try rw [hmb]
    clear hw2 hmb x0 x1 x2
    go_loopg [5, 25] N (fun g v5 v25 W => ∃ (k : Nat) (T : Int) (D : DataW Value), k + g = N ∧ v25 = .int .i64 (k : Int) ∧ v5 = .int .i64 T ∧ T = totL (L.take k) ∧ W.ownsMap Tryd.prog tKy asIs mb k D ∧ Says D (L.take k) ∧ Keeps w1 W)
    case atStart => exact ⟨0, 0, .map [], by omega, rfl, rfl, by simp [totL], M0.out, by rw [List.take_zero]; exact Says.nil, KM.out⟩
    case round =>
      obtain ⟨k, T, D, hi, rfl, rfl, htt, hm, hs, hw⟩ := hrel
      have HI := Lib.hid hi
      have HTT := Lib.hid htt
      have HM := Lib.hid hm
      have HS := Lib.hid hs
      have HW := Lib.hid hw
      have TBD : Hid (0 ≤ T ∧ T ≤ 119880) := Lib.hid (by rw [htt]; exact tot_front VA.out.good k)
      clear htt hm hs hw
      cases gk with
      | succ g =>
        have hlt : k < N := by as_aux_lemma => (omega)
        obtain ⟨x, hx⟩ : ∃ x, L[k]? = some x := ⟨_, List.getElem?_eq_getElem (by have := HN.out; omega)⟩
        have HX := Lib.hid hx
        obtain ⟨p9, c9, e9, _, _, hc9⟩ := HR.out.keeps (K1.out.trans HW.out)
        rw [HN.out] at e9
        simp only [Value.slice.injEq] at e9
        obtain ⟨rfl, _, rfl⟩ := e9
        obtain ⟨ad, rfl, q0, q1, q2, q3, q4⟩ := hc9 k x hx
        have RX := Lib.hid (VA.out.good.each x (List.mem_of_getElem? hx))
        have hi1 : (k : Int) < (N : Int) := by as_aux_lemma => (omega)
        have hi0 : (0 : Int) ≤ (k : Int) := by as_aux_lemma => (omega)
        have WI : Hid (wrap64 ((k : Int) + 1) = (k : Int) + 1) := Lib.hid (i64w (by as_aux_lemma => (unfold top; omega)) (by as_aux_lemma => (unfold top; have := HN4.out; omega)))
        have LESS : Hid (∀ y ∈ L.take k, less y x = true) := Lib.hid fun y hy => by
          have hr := VA.out.good.rise
          have e1 : L = L.take k ++ x :: L.drop (k + 1) := by
            obtain ⟨h1, h2⟩ := List.getElem?_eq_some_iff.1 HX.out
            rw [← h2, ← List.drop_eq_getElem_cons h1, List.take_append_drop]
          rw [e1, List.pairwise_append] at hr
          exact hr.2.2 y hy x (by simp)
        have TK : Hid (L.take (k + 1) = L.take k ++ [x]) := Lib.hid (by rw [List.take_add_one, HX.out]; rfl)
        obtain ⟨i1, i2⟩ := row_i64 RX.out
        have AX : Hid (Keeps wr (wr.alloc (rowObj x))) := Lib.hid (ky_box wr _)
        have BX : Hid ((wr.alloc (rowObj x)).heap[wr.heap.size]? = some (.cells #[.int .i64 x.o, .int .i64 x.d, .int .i64 x.c, .int .i64 x.a, .int .i64 x.q] tRw (0, 0))) := Lib.hid (heap_alloc_new wr _)
        have MX := Lib.hid (own_map HM.out (AX.out.block mb HM.out.lt))
        obtain ⟨W1, E1, own1, gr1⟩ := put_ky (rwV x) MX.out (by unfold maxLen; have := HN4.out; omega) i1 i2
        unfold kyW rwV at E1
        have NM : Hid (wr.heap.size ≠ mb) := Lib.hid (by have := HM.out.lt; omega)
        have B1 : Hid (W1.heap[wr.heap.size]? = some (.cells #[.int .i64 x.o, .int .i64 x.d, .int .i64 x.c, .int .i64 x.a, .int .i64 x.q] tRw (0, 0))) := Lib.hid ((gr1.block _ (Array.getElem?_eq_some_iff.1 BX.out).1 (fun e => NM.out (Option.some.inj e))).trans BX.out)
        have OWN := Lib.hid own1
        have SAY : Hid (Says (D.put (kK x.o x.d) (.held (rwV x))) (L.take (k + 1))) := Lib.hid (by rw [TK.out]; exact HS.out.put HM.out.isMap RX.out LESS.out)
        have KW : Hid (Keeps w1 W1) := Lib.hid (Below.grown (HW.out.trans AX.out) gr1 (HW.out.trans AX.out).size (fun j hj => by rw [HMB.out]; cases hj; exact Nat.le_refl _))
        obtain ⟨⟨z0, z1, z2, z3, z4⟩, _⟩ := skFive_at BX.out
        obtain ⟨⟨_, _, _, _, y4⟩, _⟩ := skFive_at B1.out
        obtain ⟨T1, hT1⟩ : ∃ n, T + x.q = n := ⟨_, rfl⟩
        have HT1 : Hid (T1 = totL (L.take (k + 1))) := Lib.hid (by rw [tot_take HX.out, ← HTT.out]; exact hT1.symm)
        have WT : Hid (wrap64 (T + x.q) = T1) := Lib.hid (wrap_tot hT1 TBD.out.1 (by have := TBD.out; omega) RX.out.q0 RX.out.q1)
        clear hc9 hx hlt own1 gr1 hT1 i1 i2
        go_wp2_with fail
        go_roundg g
        case measure => omega
        case rel => exact ⟨k + 1, T1, _, by have := HI.out; omega, by first | (rw [WI.out]; rfl) | rfl | go_num, by first | rfl | rw [WT.out], HT1.out, OWN.out, SAY.out, KW.out⟩
      | zero =>
        obtain rfl : k = N := by as_aux_lemma => (omega)
        have hd : decide ((k : Int) < (k : Int)) = false := decide_eq_false (by as_aux_lemma => (omega))
        have hz : ¬ ((k : Int) < (k : Int)) := by as_aux_lemma => (omega)
        have TKL : Hid (L.take k = L) := Lib.hid (List.take_of_length_le (by rw [HN.out]; exact Nat.le_refl _))
        have HTE : Hid (T = totL L) := Lib.hid (by rw [HTT.out, TKL.out])
        have HSL : Hid (Says D L) := Lib.hid (by have := HS.out; rw [TKL.out] at this; exact this)
        obtain ⟨wa, hwa⟩ : ∃ W, W = wr := ⟨_, rfl⟩
        subst hwa
        obtain ⟨x0, x1, x2⟩ := CXX.out _ HW.out
        obtain ⟨P0, hP0⟩ : ∃ P : ByteArray, ⟨(Mon.put s).toArray⟩ = P := ⟨_, rfl⟩
        have HP0 := Lib.hid hP0
        have C2 : Hid (∀ W, Calls Tryd.prog 22 #[.int .i64 s] W fun e w' => e = .returned (.string P0) ∧ Keeps W w') := Lib.hid fun W => hP0 ▸ mp_put s W (by have := VA.out.s0; have := VA.out.s1; unfold I64 top; omega)
        clear hP0 HS TKL
        go_wp2_with fail
        refine (C2.out _).mono ?_
        rintro e w2 ⟨rfl, k2⟩
        have K2 := Lib.hid (HW.out.trans k2)
        have M2 := Lib.hid (own_map HM.out (k2.block mb HM.out.lt))
        clear k2 C2 x0 x1 x2
        obtain ⟨w3, hw3⟩ : ∃ W, w2.alloc (.cells #[.string ⟨#[109, 97, 110, 105, 102, 101, 115, 116]⟩, .string P0] tS) = W := ⟨_, rfl⟩
        obtain ⟨g3, hg3⟩ : ∃ n, w2.heap.size = n := ⟨_, rfl⟩
        have LO : Hid (skStrK.Own w1.heap.size w3 (slV (some ⟨g3, 0, none⟩, 2, 2)) (headT s)) := Lib.hid (by rw [← hw3, ← hg3]; exact sk_lit (n := 2) (by rw [← HP0.out]; rfl) rfl (by simp [maxLen]) _ K2.out.size)
        have K3 : Hid (Keeps w2 w3) := Lib.hid (hw3 ▸ kept_alloc (Keeps.refl w2) _)
        have TF := Lib.hid (TblO.first (B := w1.heap.size) (K2.out.trans K3.out).size LO.out)
        have K4 : Hid (Keeps w2 (w3.alloc (.cells #[slV (some ⟨g3, 0, none⟩, 2, 2)] tR))) := Lib.hid (kept_alloc K3.out _)
        unfold slV at K4 TF
        simp only at K4 TF
        go_upto_region 12 with (fail)
        clear hw3 hg3
        obtain ⟨w4, hw4⟩ : ∃ W, w3.alloc (.cells #[.slice (some ⟨g3, 0, none⟩) 2 2] tR) = W := ⟨_, rfl⟩
        obtain ⟨g4, hg4⟩ : ∃ n, w3.heap.size = n := ⟨_, rfl⟩
        rw [hw4] at K4 TF
        rw [hg4] at TF
        rw [hw4, hg4]
        clear hw4 hg4 LO
        have M4 := Lib.hid (own_map M2.out (K4.out.block mb M2.out.lt))
        have K5 := Lib.hid (K2.out.trans K4.out)
        obtain ⟨KK, hKK⟩ : ∃ K, grpL L = K := ⟨_, rfl⟩
        have HKK := Lib.hid hKK
        have KOKK : Hid (KOk KK) := Lib.hid (by rw [← hKK]; exact (grp_ok VA.out.good).1)
        clear hKK
        go_wp2_with fail
        go_loopg [8, 9, 10] 60 (fun g v8 v9 v10 W => ∃ (n : Nat) (p4 : Option Addr) (c4 : Nat) (vs : List Sl3) (M1 : Nat), n + g = 61 ∧ 1 ≤ n ∧ v8 = .slice p4 M1 c4 ∧ v9 = .int .i64 ((M1 - 1 : Nat) : Int) ∧ v10 = .int .i64 (n : Int) ∧ M1 = (upK KK ((n : Int) - 1)).length + 1 ∧ TblO w1.heap.size W (.slice p4 M1 c4) vs (headT s :: (upK KK ((n : Int) - 1)).map rowT) ∧ W.ownsMap Tryd.prog tKy asIs mb k D ∧ Keeps w1 W)
        case atStart =>
          have e0 : upK KK (((1 : Nat) : Int) - 1) = [] := up_none fun g hg => by have := (KOKK.out.each g hg).o0; omega
          exact ⟨1, _, 1, _, 1, rfl, Nat.le_refl _, rfl, rfl, rfl, by rw [e0]; rfl, by rw [e0]; exact TF.out, M4.out, K5.out⟩
        case round =>
          obtain ⟨n, p4, c4, vs, M1, hi, hn1, rfl, rfl, rfl, hm1, ht, hmm2, hw⟩ := hrel
          have HI := Lib.hid hi
          have HN1 := Lib.hid hn1
          have HM1 := Lib.hid hm1
          have HT := Lib.hid ht
          have HMP := Lib.hid hmm2
          have HW2 := Lib.hid hw
          obtain ⟨m, hm⟩ : ∃ m, M1 - 1 = m := ⟨_, rfl⟩
          have HMM := Lib.hid hm
          rw [hm]
          have MB : Hid (M1 ≤ 61 ∧ M1 = m + 1) := Lib.hid (by
            have h1 := up_len KK ((n : Int) - 1)
            have h2 := KOKK.out.few
            omega)
          clear hi hn1 hm1 ht hmm2 hw hm
          cases gk with
          | zero =>
            obtain rfl : n = 61 := by have := HI.out; omega
            have UA : Hid (upK KK (((61 : Nat) : Int) - 1) = KK) := Lib.hid (up_all fun g hg => by have := (KOKK.out.each g hg).o1; omega)
            obtain ⟨PE, hPE⟩ : ∃ P : ByteArray, ⟨(Mon.put (m : Int)).toArray⟩ = P := ⟨_, rfl⟩
            have HPE := Lib.hid hPE
            obtain ⟨PT, hPT⟩ : ∃ P : ByteArray, ⟨(Mon.put T).toArray⟩ = P := ⟨_, rfl⟩
            have HPT := Lib.hid hPT
            have CE : Hid (∀ W, Calls Tryd.prog 22 #[.int .i64 (m : Int)] W fun e w' => e = .returned (.string PE) ∧ Keeps W w') := Lib.hid fun W => hPE ▸ mp_put (m : Int) W (by have := MB.out; unfold I64 top; omega)
            have CT : Hid (∀ W, Calls Tryd.prog 22 #[.int .i64 T] W fun e w' => e = .returned (.string PT) ∧ Keeps W w') := Lib.hid fun W => hPT ▸ mp_put T W (by have := TBD.out; unfold I64 top; omega)
            have ML : Hid (m = KK.length) := Lib.hid (by have h1 := HM1.out; rw [UA.out] at h1; have := MB.out; omega)
            have TK : Hid (Mft.tableL s L = headT s :: (upK KK (((61 : Nat) : Int) - 1)).map rowT ++ [endT (m : Int) T]) := Lib.hid (by unfold Mft.tableL tableK; rw [UA.out, HKK.out, ML.out, HTE.out]; rfl)
            clear hPE hPT
            go_wp2_with fail
            refine (CE.out _).mono ?_
            rintro e w5 ⟨rfl, k5⟩
            go_wp2_with fail
            refine (CT.out _).mono ?_
            rintro e w5b ⟨rfl, k5b⟩
            have K6a := Lib.hid (HW2.out.trans (k5.trans k5b))
            have T5 := Lib.hid (HT.out.keeps (k5.trans k5b))
            obtain ⟨w6, hw6⟩ : ∃ W, w5b.alloc (.cells #[.string ⟨#[101, 110, 100]⟩, .string PE, .string PT] tS) = W := ⟨_, rfl⟩
            obtain ⟨g6, hg6⟩ : ∃ n, w5b.heap.size = n := ⟨_, rfl⟩
            have K6 : Hid (Keeps w1 w6) := Lib.hid (hw6 ▸ kept_alloc K6a.out _)
            have T6 : Hid (TblO w1.heap.size w6 (.slice p4 M1 c4) vs (headT s :: (upK KK (((61 : Nat) : Int) - 1)).map rowT)) := Lib.hid (T5.out.keeps (hw6 ▸ kept_alloc (Keeps.refl _) _))
            have LO : Hid (skStrK.Own w1.heap.size w6 (slV (some ⟨g6, 0, none⟩, 3, 3)) (endT (m : Int) T)) := Lib.hid (by rw [← hw6, ← hg6]; exact sk_lit (n := 3) (by rw [← HPE.out, ← HPT.out]; rfl) rfl (by simp [maxLen]) _ K6a.out.size)
            have LV : Hid (vs.length = M1) := Lib.hid (by rw [T6.out.2.1, List.length_cons, List.length_map]; exact HM1.out.symm)
            have T7 := Lib.hid (T6.out.keeps (kept_alloc (Keeps.refl w6) (.cells #[slV (some ⟨g6, 0, none⟩, 3, 3)] tR)))
            obtain ⟨p8, c8, w8, R1, R2, R3⟩ := skSliK.app_row (w6.alloc (.cells #[slV (some ⟨g6, 0, none⟩, 3, 3)] tR)) w1.heap.size (.slice p4 M1 c4) vs (.slice (some ⟨w6.heap.size, 0, none⟩) 1 1) [(some ⟨g6, 0, none⟩, 3, 3)] T7.out.1 (sk_src1 w6 (some ⟨g6, 0, none⟩, 3, 3)) (by rw [LV.out]; have := MB.out; simp; omega) (Nat.le_trans K6.out.size (by simp))
            rw [List.length_singleton, LV.out] at R1 R2
            have T8 : Hid (TblO w1.heap.size w8 (.slice p8 (M1 + 1) c8) (vs ++ [(some ⟨g6, 0, none⟩, 3, 3)]) (Mft.tableL s L)) := Lib.hid (by
              rw [TK.out]
              exact T7.out.app (skStrK.own_keeps LO.out (kept_alloc (Keeps.refl w6) _)) R2 R3)
            have K8 : Hid (Keeps w1 w8) := Lib.hid (sk_mono (kept_alloc K6.out (.cells #[slV (some ⟨g6, 0, none⟩, 3, 3)] tR)) R3 (fun j hj => (T6.out.off j hj).1))
            have HRA : Hid ((Builtin.append_ #[skSliK.ts, skSliK.ts] skSliK.ts #[.slice p4 M1 c4, .slice (some ⟨w6.heap.size, 0, none⟩) 1 1]).run Tryd.prog (w6.alloc (.cells #[.slice (some ⟨g6, 0, none⟩) 3 3] tR)) = .ok (.slice p8 (M1 + 1) c8) w8) := Lib.hid R1
            obtain ⟨X, hX⟩ : ∃ X : ByteArray, ⟨(Mft.fileL s L).toArray⟩ = X := ⟨_, rfl⟩
            have HX := Lib.hid hX
            have CP : Hid (Calls Tryd.prog 21 #[.slice p8 (M1 + 1) c8] w8 fun e w' => e = .returned (.string X) ∧ Keeps w8 w') := Lib.hid (by
              rw [← hX]
              exact csPrint_any (.slice p8 (M1 + 1) c8) (Mft.tableL s L) w8 (T8.out.rows (by unfold Mft.tableL; rw [table_len]; have := (grp_ok VA.out.good).1.few; omega)) (mf_fits VA.out) (HMW.out _ K8.out))
            clear R1 R2 R3 hX k5 k5b
            go_wp2_with (first
              | (at_builtin; refine wpAppKnown rfl _ _ _ _ rfl _ _ _ _ rfl rfl HRA.out ?_)
              | (go_at_call 21; refine CP.out.mono ?_; rintro e w9 ⟨rfl, k9⟩))
            go_ret2
            exact ⟨ret_skP (by rw [EO.out.1, HX.out]) EO.out.2.symm, KB.out.trans (K1.out.trans (K8.out.trans k9))⟩
          | succ g =>
            have hle : (n : Int) ≤ 60 := by have := HI.out; omega
            obtain ⟨r1, hr1⟩ : ∃ r, lkR L (n : Int) 2 = r := ⟨_, rfl⟩
            obtain ⟨r2, hr2⟩ : ∃ r, lkR L (n : Int) 5 = r := ⟨_, rfl⟩
            have HR1 := Lib.hid hr1
            have HR2 := Lib.hid hr2
            have NI : Hid (I64 (n : Int) ∧ I64 2 ∧ I64 5) := Lib.hid (by unfold I64 top; omega)
            have LK1 : Hid (∀ W, W.heap[mb]? = wr.heap[mb]? → (Instr.lookup tMk (.map (some mb)) (.agg #[.int .i64 (n : Int), .int .i64 2]) false).run Tryd.prog W = .ok (.agg #[.int .i64 r1.o, .int .i64 r1.d, .int .i64 r1.c, .int .i64 r1.a, .int .i64 r1.q]) W) := Lib.hid fun W hW => by
              have := look_ky (v := rwV r1) (own_map HMP.out hW) NI.out.1 NI.out.2.1 (by rw [← hr1]; exact HSL.out _ _ NI.out.1 NI.out.2.1)
              exact this
            have LK2 : Hid (∀ W, W.heap[mb]? = wr.heap[mb]? → (Instr.lookup tMk (.map (some mb)) (.agg #[.int .i64 (n : Int), .int .i64 5]) false).run Tryd.prog W = .ok (.agg #[.int .i64 r2.o, .int .i64 r2.d, .int .i64 r2.c, .int .i64 r2.a, .int .i64 r2.q]) W) := Lib.hid fun W hW => by
              have := look_ky (v := rwV r2) (own_map HMP.out hW) NI.out.1 NI.out.2.2 (by rw [← hr2]; exact HSL.out _ _ NI.out.1 NI.out.2.2)
              exact this
            clear hr1 hr2
            go_upto_region 16 with (fail)
            go_cut [11, 12] (fun v11 v12 W => TwoB wr r1 r2 v11 v12 W)
            case first =>
              have lt := HMP.out.lt
              have l1 := LK1.out wr.drew rfl
              have l2 := LK2.out wr.drew rfl
              have a1 : ∀ o, _ := fun o => LK1.out (wr.alloc o).drew ((ky_box wr o).block mb lt)
              have a2 : ∀ o, _ := fun o => LK2.out (wr.alloc o).drew ((ky_box wr o).block mb lt)
              have b1 : ∀ o o', _ := fun o o' => LK1.out ((wr.alloc o).alloc o').drew (((ky_box wr o).trans (ky_box _ o')).block mb lt)
              have b2 : ∀ o o', _ := fun o o' => LK2.out ((wr.alloc o).alloc o').drew (((ky_box wr o).trans (ky_box _ o')).block mb lt)
              go_region
              all_goals clear l1 l2 a1 a2 b1 b2
              all_goals go_wp2
              all_goals go_meet
              all_goals first | exact twoB_a wr r1 r2 | exact twoB_b wr r1 r2
            case rest =>
              obtain ⟨b1, b2, rfl, rfl, hb1, hb2, hl1, hl2, hk⟩ := hcut
              have HB1 := Lib.hid hb1
              have HB2 := Lib.hid hb2
              have HL1 := Lib.hid hl1
              have HL2 := Lib.hid hl2
              have KC : Hid (Keeps w1 wc) := Lib.hid (HW2.out.trans hk)
              have HTW := Lib.hid (HT.out.keeps hk)
              have HMC := Lib.hid (own_map HMP.out (hk.block mb HMP.out.lt))
              have HOF : Hid (∀ j, (Value.slice p4 M1 c4).ownBlock = some j → j < wr.heap.size) := Lib.hid fun j hj => (HT.out.off j hj).2
              have WN : Hid (wrap64 ((n : Int) + 1) = (n : Int) + 1) := Lib.hid (i64w (by as_aux_lemma => (unfold top; omega)) (by as_aux_lemma => (unfold top; omega)))
              have WM : Hid (wrap64 ((m : Int) + 1) = (m : Int) + 1) := Lib.hid (i64w (by as_aux_lemma => (unfold top; omega)) (by as_aux_lemma => (unfold top; have := MB.out; omega)))
              have NP1 : Hid (((n + 1 : Nat) : Int) - 1 = (n : Int)) := Lib.hid (by omega)
              have CI1 : Hid (∀ W, Calls Tryd.prog 23 #[.agg #[.int .i64 r1.o, .int .i64 r1.d, .int .i64 r1.c, .int .i64 r1.a, .int .i64 r1.q]] W fun e w' => e = .returned (.bool (decide (r1.c ≠ 0))) ∧ Keeps W w') := Lib.hid fun W => mp_isRow r1 W
              have CI2 : Hid (∀ W, Calls Tryd.prog 23 #[.agg #[.int .i64 r2.o, .int .i64 r2.d, .int .i64 r2.c, .int .i64 r2.a, .int .i64 r2.q]] W fun e w' => e = .returned (.bool (decide (r2.c ≠ 0))) ∧ Keeps W w') := Lib.hid fun W => mp_isRow r2 W
              obtain ⟨i1, hi1⟩ : ∃ p, decide (r1.c ≠ 0) = p := ⟨_, rfl⟩
              obtain ⟨i2, hi2⟩ : ∃ p, decide (r2.c ≠ 0) = p := ⟨_, rfl⟩
              rw [hi1] at CI1
              rw [hi2] at CI2
              obtain ⟨nb, hnb⟩ : ∃ p : Bool, (p = true ↔ (r1.c = 0 ∧ r2.c = 0)) := ⟨decide (r1.c = 0 ∧ r2.c = 0), by simp⟩
              have NBB := Lib.hid hnb
              have II1 : Hid (i1 = true ↔ r1.c ≠ 0) := Lib.hid (by rw [← hi1]; simp)
              have II2 : Hid (i2 = true ↔ r2.c ≠ 0) := Lib.hid (by rw [← hi2]; simp)
              clear hi1 hi2 hnb hl1 hl2 hk hb2
              obtain ⟨⟨z0, z1, z2, z3, z4⟩, _⟩ := skFive_at hb1
              go_upto_region 17 with (fail)
              go_cut [62] (fun v W => v = .bool nb ∧ Keeps wc W)
              case first =>
                go_wp2_with fail
                refine (CI1.out _).mono ?_
                rintro e4 w6 ⟨rfl, k6⟩
                cases i1 with
                | true =>
                  have hb : nb = false := by
                    cases nb with
                    | false => rfl
                    | true => exact absurd (NBB.out.1 rfl).1 (II1.out.1 rfl)
                  subst hb
                  have K6 := Lib.hid k6
                  clear k6 z0 z1 z2 z3 z4 hb1
                  go_wp2
                  go_meet
                  case rel => exact ⟨rfl, K6.out⟩
                | false =>
                  have ha0 : r1.c = 0 := Classical.byContradiction fun h => by have := II1.out.2 h; cases this
                  have BU2 := (k6.block _ (Array.getElem?_eq_some_iff.1 HB2.out).1).trans HB2.out
                  obtain ⟨⟨y0, y1, y2, y3, y4⟩, _⟩ := skFive_at BU2
                  have K6 := Lib.hid k6
                  have hb : nb = !i2 := by
                    cases i2 with
                    | true =>
                      cases nb with
                      | false => rfl
                      | true => exact absurd (NBB.out.1 rfl).2 (II2.out.1 rfl)
                    | false => exact NBB.out.2 ⟨ha0, Classical.byContradiction fun h => by have := II2.out.2 h; cases this⟩
                  subst hb
                  clear k6 z0 z1 z2 z3 z4 hb1 BU2 ha0
                  go_wp2_with fail
                  refine (CI2.out _).mono ?_
                  rintro e5 w7 ⟨rfl, k7⟩
                  have K7 := Lib.hid (K6.out.trans k7)
                  clear k7 y0 y1 y2 y3 y4
                  cases i2 <;>
                    (go_wp2
                     go_meet
                     case rel => exact ⟨rfl, K7.out⟩)
              case rest =>
              obtain ⟨rfl, hk6⟩ := hcut
              have KF := Lib.hid (KC.out.trans hk6)
              have HTC := Lib.hid (HTW.out.keeps hk6)
              have HMF := Lib.hid (own_map HMC.out (hk6.block mb HMC.out.lt))
              have BF1 := Lib.hid ((hk6.block _ (Array.getElem?_eq_some_iff.1 HB1.out).1).trans HB1.out)
              have BF2 := Lib.hid ((hk6.block _ (Array.getElem?_eq_some_iff.1 HB2.out).1).trans HB2.out)
              have UP : Hid ((∃ g ∈ KK, g.o = (n : Int) ∧ upK KK (n : Int) = upK KK ((n : Int) - 1) ++ [g]) ∨ ((∀ g ∈ KK, g.o ≠ (n : Int)) ∧ upK KK (n : Int) = upK KK ((n : Int) - 1))) := Lib.hid (by
                have := up_next ((n : Int) - 1) KOKK.out.rise
                rw [show (n : Int) - 1 + 1 = (n : Int) by omega] at this
                exact this)
              clear hk6 CI1 CI2 II1 II2 HB1 HB2 HTW HMC z0 z1 z2 z3 z4 hb1
              cases nb with
              | true =>
                have UE : Hid (upK KK (n : Int) = upK KK ((n : Int) - 1)) := Lib.hid (by
                  rcases UP.out with ⟨gr, hg, ho, _⟩ | ⟨_, h⟩
                  · have h2 := NBB.out.1 rfl
                    obtain ⟨⟨e1, _⟩, e2, _⟩ := lkR_two VA.out.good (g := gr) (by rw [HKK.out]; exact hg)
                    rw [ho, HR1.out] at e1
                    rw [ho, HR2.out] at e2
                    exact absurd ⟨e1.symm.trans h2.1, e2.symm.trans h2.2⟩ (KOKK.out.each gr hg).ab
                  · exact h)
                clear UP
                go_wp2_with fail
                go_roundg g
                case measure => omega
                case rel => exact ⟨n + 1, p4, c4, vs, M1, by have := HI.out; omega, by have := HI.out; omega, rfl, by rw [HMM.out], by first | rfl | (rw [WN.out]; rfl) | go_num, by rw [NP1.out, UE.out]; exact HM1.out, by rw [NP1.out, UE.out]; exact HTC.out, HMF.out, KF.out⟩
              | false =>
              obtain ⟨gr, GR⟩ : ∃ gr, gr ∈ KK ∧ gr.o = (n : Int) ∧ upK KK (n : Int) = upK KK ((n : Int) - 1) ++ [gr] := by
                rcases UP.out with ⟨gr, hg, ho, h⟩ | ⟨hno, _⟩
                · exact ⟨gr, hg, ho, h⟩
                · have h1 := lkR_no VA.out.good (o := (n : Int)) (by rw [HKK.out]; exact hno) 2
                  have h2 := lkR_no VA.out.good (o := (n : Int)) (by rw [HKK.out]; exact hno) 5
                  rw [HR1.out] at h1
                  rw [HR2.out] at h2
                  exact absurd (NBB.out.2 ⟨h1, h2⟩) (by simp)
              have HGR := Lib.hid GR
              clear GR UP
              have GOK : Hid (GOk gr) := Lib.hid (KOKK.out.each gr HGR.out.1)
              have RC : Hid ((r1.c = gr.a ∧ r1.q = gr.n) ∧ (r2.c = gr.b ∧ r2.q = gr.m)) := Lib.hid (by
                have := lkR_two VA.out.good (g := gr) (by rw [HKK.out]; exact HGR.out.1)
                rw [HGR.out.2.1, HR1.out, HR2.out] at this
                exact this)
              have TK : Hid (headT s :: (upK KK (n : Int)).map rowT = headT s :: (upK KK ((n : Int) - 1)).map rowT ++ [rowT gr]) := Lib.hid (by rw [HGR.out.2.2, List.map_append]; rfl)
              have LV : Hid (vs.length = M1) := Lib.hid (by rw [HTC.out.2.1, List.length_cons, List.length_map]; exact HM1.out.symm)
              have LEN : Hid (vs.length + [(some (⟨0, 0, none⟩ : Addr), 3, 3)].length = M1 + 1) := Lib.hid (by rw [LV.out]; rfl)
              have LN : Hid (vs.length + [(some (⟨0, 0, none⟩ : Addr), 3, 3)].length ≤ 100000) := Lib.hid (by rw [LV.out]; have := MB.out; simp; omega)
              have MN : Hid (M1 + 1 = (upK KK (((n + 1 : Nat) : Int) - 1)).length + 1) := Lib.hid (by rw [NP1.out, HGR.out.2.2, List.length_append, HM1.out]; rfl)
              have V9 : Hid (((M1 + 1 - 1 : Nat) : Int) = (m : Int) + 1) := Lib.hid (by have := MB.out; omega)
              have NB1 : Hid (∀ j, (Value.slice p4 M1 c4).ownBlock = some j → j ≠ b1) := Lib.hid fun j hj => by have := HOF.out j hj; have := HL1.out; omega
              have NB2 : Hid (∀ j, (Value.slice p4 M1 c4).ownBlock = some j → j ≠ b2) := Lib.hid fun j hj => by have := HOF.out j hj; have := HL2.out; omega
              have NB3 : Hid (∀ j, (Value.slice p4 M1 c4).ownBlock = some j → j ≠ mb) := Lib.hid fun j hj => by
                obtain ⟨c, hc⟩ := skSliK.own_tag HTC.out.1 hj
                exact map_not_cells HMF.out hc
              have RS1 : Hid (Row5 wc b1 r1) := Lib.hid (skFive_at BF1.out).1
              have RS2 : Hid (Row5 wc b2 r2) := Lib.hid (skFive_at BF2.out).1
              obtain ⟨P1, hP1⟩ : ∃ P : ByteArray, ⟨(Mon.put gr.o).toArray⟩ = P := ⟨_, rfl⟩
              obtain ⟨LT1, hLT1⟩ : ∃ P : ByteArray, ⟨(cellT gr.a gr.n).toArray⟩ = P := ⟨_, rfl⟩
              obtain ⟨LT2, hLT2⟩ : ∃ P : ByteArray, ⟨(cellT gr.b gr.m).toArray⟩ = P := ⟨_, rfl⟩
              have HP1 := Lib.hid hP1
              have HLT1 := Lib.hid hLT1
              have HLT2 := Lib.hid hLT2
              have CP1 : Hid (∀ W, Calls Tryd.prog 22 #[.int .i64 (n : Int)] W fun e w' => e = .returned (.string P1) ∧ Keeps W w') := Lib.hid fun W => by
                rw [← hP1, HGR.out.2.1]
                exact mp_put (n : Int) W NI.out.1
              have CC1 : Hid (∀ W, Calls Tryd.prog 24 #[.agg #[.int .i64 r1.o, .int .i64 r1.d, .int .i64 r1.c, .int .i64 r1.a, .int .i64 r1.q]] W fun e w' => e = .returned (.string LT1) ∧ Keeps W w') := Lib.hid fun W => by
                have := mp_cellOf r1 W (by rw [RC.out.1.1]; exact ⟨GOK.out.a0, GOK.out.a2⟩) (by rw [RC.out.1.2]; exact ⟨GOK.out.n0, GOK.out.n1⟩)
                rw [RC.out.1.1, RC.out.1.2, hLT1] at this
                exact this
              have CC2 : Hid (∀ W, Calls Tryd.prog 24 #[.agg #[.int .i64 r2.o, .int .i64 r2.d, .int .i64 r2.c, .int .i64 r2.a, .int .i64 r2.q]] W fun e w' => e = .returned (.string LT2) ∧ Keeps W w') := Lib.hid fun W => by
                have := mp_cellOf r2 W (by rw [RC.out.2.1]; exact ⟨GOK.out.b0, GOK.out.b2⟩) (by rw [RC.out.2.2]; exact ⟨GOK.out.m0, GOK.out.m1⟩)
                rw [RC.out.2.1, RC.out.2.2, hLT2] at this
                exact this
              clear hP1 hLT1 hLT2
              go_upto_region 18 with (fail)
              refine wp_region_held_drew (S := fun W => Row5 W b1 r1 ∧ Row5 W b2 r2) (by kernel_rfl) ⟨RS1.out.keeps (ky_drew _), RS2.out.keeps (ky_drew _)⟩ (fun hHeld => ?_)
              have HK : Hid (Keeps wc wc.drew) := Lib.hid (ky_drew wc)
              refine takeH (i := 0) (d := some 63) (v := ?av0) rfl rfl (by kernel_rfl) (by kernel_rfl) (by kernel_rfl) (fun _ _ _ h => h) (Or.inl ⟨by rfl, ?ay0⟩) (by assumption) ?ar0
              case ay0 => (intro W hSw; obtain ⟨⟨y0, y1, y2, y3, y4⟩, u0, u1, u2, u3, u4⟩ := hSw; go_simp; try with_reducible rfl)
              try simp only [Act.put, List.setIfInBounds_toArray, List.set_cons_zero, List.set_cons_succ]
              refine takeH (i := 1) (d := some 64) (v := ?av1) rfl rfl (by kernel_rfl) (by kernel_rfl) (by kernel_rfl) (fun _ _ _ h => h) (Or.inl ⟨by rfl, ?ay1⟩) (by assumption) ?ar1
              case ay1 => (intro W hSw; obtain ⟨⟨y0, y1, y2, y3, y4⟩, u0, u1, u2, u3, u4⟩ := hSw; go_simp; try with_reducible rfl)
              try simp only [Act.put, List.setIfInBounds_toArray, List.set_cons_zero, List.set_cons_succ]
              refine takeH (i := 3) (d := some 66) (v := ?av3) rfl rfl (by kernel_rfl) (by kernel_rfl) (by kernel_rfl) (fun _ _ _ h => h) (Or.inl ⟨by rfl, ?ay3⟩) (by assumption) ?ar3
              case ay3 => (intro W hSw; obtain ⟨⟨y0, y1, y2, y3, y4⟩, u0, u1, u2, u3, u4⟩ := hSw; go_simp; try with_reducible rfl)
              try simp only [Act.put, List.setIfInBounds_toArray, List.set_cons_zero, List.set_cons_succ]
              refine takeH (i := 5) (d := some 68) (v := ?av5) rfl rfl (by kernel_rfl) (by kernel_rfl) (by kernel_rfl) (fun _ _ _ h => h) (Or.inl ⟨by rfl, ?ay5⟩) (by assumption) ?ar5
              case ay5 => (intro W hSw; obtain ⟨⟨y0, y1, y2, y3, y4⟩, u0, u1, u2, u3, u4⟩ := hSw; go_simp; try with_reducible rfl)
              try simp only [Act.put, List.setIfInBounds_toArray, List.set_cons_zero, List.set_cons_succ]
              refine wpAnyH_ready (rs := [2]) (by decide +kernel) (by simp) ?_
              refine AllReadyH.cons rfl (fun K hK => ?_) AllReadyH.nil
              go_simp
              refine (CP1.out _).mono ?_
              rintro e wv0 ⟨rfl, kk⟩
              refine hK.out _ _ ⟨hHeld.1.keeps kk, hHeld.2.keeps kk⟩ (fun hHeld => ?_)
              have HK : Hid (Keeps wc _) := Lib.hid (Keeps.trans HK.out kk)
              clear hK K kk
              try simp only [Act.put, List.setIfInBounds_toArray, List.set_cons_zero, List.set_cons_succ]
              refine wpAnyH_ready (rs := [4]) (by decide +kernel) (by simp) ?_
              refine AllReadyH.cons rfl (fun K hK => ?_) AllReadyH.nil
              go_simp
              refine (CC1.out _).mono ?_
              rintro e wv1 ⟨rfl, kk⟩
              refine hK.out _ _ ⟨hHeld.1.keeps kk, hHeld.2.keeps kk⟩ (fun hHeld => ?_)
              have HK : Hid (Keeps wc _) := Lib.hid (Keeps.trans HK.out kk)
              clear hK K kk
              try simp only [Act.put, List.setIfInBounds_toArray, List.set_cons_zero, List.set_cons_succ]
              refine wpAnyH_ready (rs := [6]) (by decide +kernel) (by simp) ?_
              refine AllReadyH.cons rfl (fun K hK => ?_) AllReadyH.nil
              go_simp
              refine (CC2.out _).mono ?_
              rintro e wv2 ⟨rfl, kk⟩
              refine hK.out _ _ ⟨hHeld.1.keeps kk, hHeld.2.keeps kk⟩ (fun hHeld => ?_)
              have HK : Hid (Keeps wc _) := Lib.hid (Keeps.trans HK.out kk)
              clear hK K kk
              try simp only [Act.put, List.setIfInBounds_toArray, List.set_cons_zero, List.set_cons_succ]
              refine wpAnyH_ready (rs := [7]) (by decide +kernel) (by simp) ?_
              refine AllReadyH.cons rfl (fun K hK => ?_) AllReadyH.nil
              go_simp
              refine hK.out _ _ ⟨hHeld.1.keeps (kept_alloc (Keeps.refl _) _), hHeld.2.keeps (kept_alloc (Keeps.refl _) _)⟩ (fun hHeld => ?_)
              clear hK K
              try simp only [Act.put, List.setIfInBounds_toArray, List.set_cons_zero, List.set_cons_succ]
              refine wpAnyH_ready (rs := [8]) (by decide +kernel) (by simp) ?_
              refine AllReadyH.cons rfl (fun K hK => ?_) AllReadyH.nil
              go_simp
              refine hK.out _ _ ⟨hHeld.1.keeps (kept_alloc (Keeps.refl _) _), hHeld.2.keeps (kept_alloc (Keeps.refl _) _)⟩ (fun hHeld => ?_)
              clear hK K
              try simp only [Act.put, List.setIfInBounds_toArray, List.set_cons_zero, List.set_cons_succ]
              obtain ⟨wl, hwl⟩ : ∃ W, wv2.alloc (.cells #[.string P1, .string LT1, .string LT2] tS) = W := ⟨_, rfl⟩
              obtain ⟨gl, hgl⟩ : ∃ n, wv2.heap.size = n := ⟨_, rfl⟩
              have KC2 := Lib.hid (KF.out.trans HK.out)
              have LO : Hid (skStrK.Own w1.heap.size wl (slV (some ⟨gl, 0, none⟩, 3, 3)) (rowT gr)) := Lib.hid (by rw [← hwl, ← hgl]; exact sk_lit (n := 3) (by rw [← HP1.out, ← HLT1.out, ← HLT2.out]; rfl) rfl (by simp [maxLen]) _ KC2.out.size)
              have KL : Hid (Keeps wc wl) := Lib.hid (by rw [← hwl]; exact kept_alloc HK.out _)
              have SL : Hid (skSliK.Src (wl.alloc (.cells #[.slice (some ⟨gl, 0, none⟩) 3 3] tR)) (.slice (some ⟨gl + 1, 0, none⟩) 1 1) [(some ⟨gl, 0, none⟩, 3, 3)]) := Lib.hid (by
                have e : wl.heap.size = gl + 1 := by rw [← hwl, ← hgl]; simp
                rw [← e]
                exact sk_src1 wl (some ⟨gl, 0, none⟩, 3, 3))
              rw [hwl] at hHeld ⊢
              rw [hgl] at hHeld ⊢
              clear hwl hgl HK KC2
              have TB := Lib.hid ((HTC.out.keeps KL.out).keeps (kept_alloc (Keeps.refl wl) (.cells #[slV (some ⟨gl, 0, none⟩, 3, 3)] tR)))
              refine wpAnyH_ready (rs := [9]) (by decide +kernel) (by simp) ?_
              refine AllReadyH.cons rfl (fun K hK => ?_) AllReadyH.nil
              refine stepAppOwnK skSliK rfl _ _ rfl rfl w1.heap.size ?hB (.slice p4 M1 c4) (.slice (some ⟨gl + 1, 0, none⟩) 1 1) vs [(some ⟨gl, 0, none⟩, 3, 3)] (M1 + 1) LEN.out rfl rfl ?hO SL.out LN.out ?_
              case hB => exact Nat.le_trans (KF.out.trans KL.out).size (by simp)
              case hO => exact TB.out.1
              intro p5 c5 w5 o5 g5
              refine hK.out _ _ ⟨hHeld.1.grown g5 (fun e => NB1.out b1 e rfl), hHeld.2.grown g5 (fun e => NB2.out b2 e rfl)⟩ (fun hHeld => ?_)
              clear hK K
              try simp only [Act.put, List.setIfInBounds_toArray]
              have TA : Hid (TblO w1.heap.size w5 (.slice p5 (M1 + 1) c5) (vs ++ [(some ⟨gl, 0, none⟩, 3, 3)]) (headT s :: (upK KK (n : Int)).map rowT)) := Lib.hid (by
                have := TB.out.app (skStrK.own_keeps LO.out (kept_alloc (Keeps.refl wl) _)) o5 g5
                rw [TK.out]
                exact this)
              have KA : Hid (Keeps w1 w5) := Lib.hid (sk_mono ((KF.out.trans KL.out).trans (kept_alloc (Keeps.refl wl) _)) g5 (fun j hj => (HTC.out.off j hj).1))
              have MA : Hid (w5.ownsMap Tryd.prog tKy asIs mb k D) := Lib.hid (own_map HMF.out (((g5.block mb (Nat.lt_of_lt_of_le HMF.out.lt (KL.out.trans (kept_alloc (Keeps.refl wl) _)).size) (fun e => NB3.out mb e.symm rfl)).trans ((KL.out.trans (kept_alloc (Keeps.refl wl) _)).block mb HMF.out.lt))))
              clear o5 g5
              refine takeH (i := 10) (d := some 8) (v := ?bv10) rfl rfl (by kernel_rfl) (by kernel_rfl) (by kernel_rfl) (fun _ _ _ h => h) (Or.inl ⟨by rfl, ?by10⟩) (by assumption) ?br10
              case by10 => (intro W hSw; obtain ⟨⟨y0, y1, y2, y3, y4⟩, u0, u1, u2, u3, u4⟩ := hSw; go_simp; try with_reducible rfl)
              refine wpAnyH_done (by kernel_rfl) ?_ _
              clear hHeld
              have wm := WM.out
              go_wp2_with fail
              clear wm
              go_roundg g
              case measure => omega
              case rel => exact ⟨n + 1, p5, c5, _, M1 + 1, by have := HI.out; omega, by have := HI.out; omega, rfl, by rw [V9.out]; first | rfl | rw [WM.out], by first | rfl | (rw [WN.out]; rfl) | go_num, MN.out, by rw [NP1.out]; exact TA.out, MA.out, KA.out⟩
end Go.Proofs.YtnkcbefamajghaaDoor
