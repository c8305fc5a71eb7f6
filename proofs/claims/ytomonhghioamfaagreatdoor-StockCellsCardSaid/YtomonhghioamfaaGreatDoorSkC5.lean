
/- The program's stock: the rows of a file, one by one. The program's stock: a row read; Parse. The program's stock: Parse. -/
import Derived.Test.YtomonhghioamfaaGreatDoorSkC2
import Derived.Test.YtomonhghioamfaaGreatDoorRwCP
import Derived.Deep.CutRange
set_option linter.unusedVariables false
namespace Go.Proofs.YtomonhghioamfaaGreatDoor
open Go.ChangeShapes Go.WideShapes Go.ChangeAt Go.RowKit Ky Rw Csv Stk

abbrev tRd : TypeId := 78
/-- The reader's block. -/
abbrev RdAt (W : World) (n : Nat) (b e : Bool) (s : Int) (v : Value) : Prop := W.heap[n]? = some (.cells #[.bool b, .bool e, .int .i64 1, .int .i64 s, v] tRd (0, 0))
def firstC (F : List (List UInt8)) : Nat × Int := if wide F.length 2 ≠ 0 then (wide F.length 2, 1) else if numN (fa F 1) 1073741824 < 1 then (2, 3) else (0, 0)
theorem head_first (F : List (List UInt8)) : headC F = if fa F 0 ≠ wName then (1, 7) else firstC F := rfl
theorem below_keeps {n : Nat} {w W : World} (h : Keeps w W) (hn : n ≤ w.heap.size) : Below n w W := h.mono hn
set_option maxHeartbeats 8000000 in
set_option maxRecDepth 100000 in
theorem sp_readFirst (bf B : Nat) (en : Bool) (s : Int) (u v : Value) (F : List (List UInt8)) (A : List R) (w : World) (hb : RdAt w bf false en s u) (ho : rowK.Own B w u A) (hB : bf < B) (hF : StrsAt w v F) (hl : F.length ≤ 1000000) (hs : SkShort F) :
    Calls Tryz.prog 71 #[.pointer (some ⟨bf, 0, none⟩), v] w fun e w' => e = .returned (.tuple #[.int .i64 ((firstC F).1 : Int), .int .i64 (firstC F).2]) ∧ Below bf w w' ∧ ((firstC F).1 = 0 → RdAt w' bf true en (numN (fa F 1) 1073741824) u ∧ rowK.Own B w' u A) ∧ w.heap.size ≤ w'.heap.size := by
  obtain ⟨p, c, rfl, _, hp, hc⟩ := strs_at hF
  obtain ⟨n, hn⟩ : ∃ n, F.length = n := ⟨_, rfl⟩
  have HN := Lib.hid hn
  obtain ⟨S1, e1⟩ : ∃ S : ByteArray, ⟨(fa F 1).toArray⟩ = S := ⟨_, rfl⟩
  obtain ⟨g, hg⟩ : ∃ n, Mon.getV (fa F 1) = n := ⟨_, rfl⟩
  obtain ⟨b, hb1⟩ : ∃ b, numB (fa F 1) 1 1073741824 = b := ⟨_, rfl⟩
  have C2 : Hid (∀ W, Calls Tryz.prog 104 #[.string S1, .int .i64 1, .int .i64 1073741824] W fun e w' => e = .returned (.tuple #[.int .i64 g, .bool b]) ∧ Keeps W w') := Lib.hid fun W => by
    have := sp_number S1 1 1073741824 W (by rw [← e1, size_mk]; have := hs 1; unfold maxLen; omega) (by unfold top; omega) (by unfold top; omega)
    rw [← e1, data_mk, hg, hb1, e1] at this
    exact this
  have Q1 : Hid (1 < n → ∃ a, p = some a ∧ w.cell? ⟨a.block, a.off + 1, none⟩ = some (.string S1)) := Lib.hid fun h => by
    obtain ⟨a, ha⟩ := hp (by omega)
    exact ⟨a, ha, by rw [← e1]; exact (hc a ha).2 1 (by omega) (by omega)⟩
  have CW : Hid (∀ W, Calls Tryz.prog 103 #[.slice p n c, .int .i64 2] W fun e w' => e = .returned (.int .i64 (wide n 2 : Nat)) ∧ W = w') := Lib.hid fun W => sp_misfit p n c 2 W (by omega) (by omega)
  have HB := Lib.hid hb
  have HO := Lib.hid ho
  have LT := Lib.hid (Array.getElem?_eq_some_iff.1 hb).1
  have NB := Lib.hid hb1
  have NV := Lib.hid hg
  rw [hn]
  clear hF hl hs hp hc e1 hg hb1 hn hb ho
  go_enter Tryz.func71, Tryz.ntmps71
  by_cases hw : wide n 2 = 0
  rotate_left
  · have E : Hid (firstC F = (wide n 2, 1)) := Lib.hid (by unfold firstC; rw [HN.out, if_pos hw])
    obtain ⟨k, hk⟩ : ∃ k, wide n 2 = k := ⟨_, rfl⟩
    rw [hk] at CW E hw
    have HW := Lib.hid hw
    have hk0 : (0 : Int) < (k : Int) := by omega
    clear hw hk
    go_wp2_with (go_at_call 103; refine (CW.out _).mono ?_; rintro e w1 ⟨rfl, rfl⟩)
    go_ret2
    exact ⟨skRet2 (by rw [E.out]) (by rw [E.out]), Below.refl _ _, fun h => by rw [E.out] at h; exact absurd h HW.out, Nat.le_refl _⟩
  have hn2 : n = 2 := wide_zero hw
  subst hn2
  obtain ⟨a, rfl, q1⟩ := Q1.out (by omega)
  have E0 : Hid (firstC F = if numN (fa F 1) 1073741824 < 1 then (2, 3) else (0, 0)) := Lib.hid (by unfold firstC; rw [HN.out, if_neg (by rw [hw]; simp)])
  rw [hw] at CW
  clear hw Q1
  go_wp2_with (go_at_call 103; refine (CW.out _).mono ?_; rintro e w1 ⟨rfl, rfl⟩)
  refine (C2.out _).mono ?_
  rintro e w2 ⟨rfl, k2⟩
  have K2 := Lib.hid k2
  have hb2 := (k2.block _ LT.out).trans HB.out
  have HB2 := Lib.hid hb2
  obtain ⟨⟨z0, z1, z2, z3, z4⟩, f0, f1, f2, f3, f4⟩ := skFive_at hb2
  clear k2 q1 hb2
  cases b with
  | false =>
    have E : Hid (firstC F = (2, 3)) := Lib.hid (by rw [E0.out, if_pos (num_no1 NB.out)])
    go_wp2
    go_ret2
    exact ⟨skRet2 (by rw [E.out]; rfl) (by rw [E.out]), below_keeps K2.out (Nat.le_of_lt LT.out), fun h => (by rw [E.out] at h; cases h), K2.out.size⟩
  | true =>
    obtain ⟨nv, n1⟩ := num_yes1 NB.out
    have E : Hid (firstC F = (0, 0)) := Lib.hid (by rw [E0.out, if_neg (by rw [nv]; omega)])
    have EV : Hid (numN (fa F 1) 1073741824 = g) := Lib.hid (nv.trans NV.out)
    clear nv n1
    go_wp2
    go_ret2
    refine ⟨skRet2 (by rw [E.out]; rfl) (by rw [E.out]), ((below_keeps K2.out (Nat.le_of_lt LT.out)).setCell (p := ⟨bf, 3, none⟩) (Nat.le_refl _) _).setCell (p := ⟨bf, 0, none⟩) (Nat.le_refl _) _, fun _ => ⟨?_, ?_⟩, by simpa using K2.out.size⟩
    · rw [EV.out]
      exact Joins.block_setCell (i := 0) (Joins.block_setCell (i := 3) HB2.out (.int .i64 g)) (.bool true)
    · exact sk_own_set (sk_own_set (rowK.own_keeps HO.out K2.out) hB _) hB _
set_option maxHeartbeats 8000000 in
set_option maxRecDepth 100000 in
theorem sp_readEnd (bf B : Nat) (be en : Bool) (s : Int) (q : Option Addr) (N cq : Nat) (v : Value) (F : List (List UInt8)) (A : List R) (w : World) (hb : RdAt w bf be en s (.slice q N cq)) (ho : rowK.Own B w (.slice q N cq) A) (hB : bf < B) (hF : StrsAt w v F) (hl : F.length ≤ 1000000) (hs : SkShort F) (hN : A.length = N) (hN4 : N ≤ 1000000) :
    Calls Tryz.prog 72 #[.pointer (some ⟨bf, 0, none⟩), v] w fun e w' => e = .returned (.tuple #[.int .i64 ((tailC F A).1 : Int), .int .i64 (tailC F A).2]) ∧ Below bf w w' ∧ ((tailC F A).1 = 0 → RdAt w' bf be true s (.slice q N cq) ∧ rowK.Own B w' (.slice q N cq) A) ∧ w.heap.size ≤ w'.heap.size := by
  obtain ⟨p, c, rfl, _, hp, hc⟩ := strs_at hF
  obtain ⟨n, hn⟩ : ∃ n, F.length = n := ⟨_, rfl⟩
  have HN := Lib.hid hn
  have HA := Lib.hid hN
  obtain ⟨S1, e1⟩ : ∃ S : ByteArray, ⟨(fa F 1).toArray⟩ = S := ⟨_, rfl⟩
  obtain ⟨g, hg⟩ : ∃ n, Mon.getV (fa F 1) = n := ⟨_, rfl⟩
  obtain ⟨b, hb1⟩ : ∃ b, Mon.getB (fa F 1) = b := ⟨_, rfl⟩
  have C2 : Hid (∀ W, Calls Tryz.prog 105 #[.string S1] W fun e w' => e = .returned (.tuple #[.int .i64 g, .bool b]) ∧ Keeps W w') := Lib.hid fun W => by
    have := moGet_any S1 W (by rw [← e1, size_mk]; have := hs 1; unfold maxLen; omega)
    rw [← e1, data_mk, hg, hb1, e1] at this
    exact this
  have Q1 : Hid (1 < n → ∃ a, p = some a ∧ w.cell? ⟨a.block, a.off + 1, none⟩ = some (.string S1)) := Lib.hid fun h => by
    obtain ⟨a, ha⟩ := hp (by omega)
    exact ⟨a, ha, by rw [← e1]; exact (hc a ha).2 1 (by omega) (by omega)⟩
  have CW : Hid (∀ W, Calls Tryz.prog 103 #[.slice p n c, .int .i64 2] W fun e w' => e = .returned (.int .i64 (wide n 2 : Nat)) ∧ W = w') := Lib.hid fun W => sp_misfit p n c 2 W (by omega) (by omega)
  have HB := Lib.hid hb
  have HO := Lib.hid ho
  have LT := Lib.hid (Array.getElem?_eq_some_iff.1 hb).1
  have NB := Lib.hid hb1
  have NV := Lib.hid hg
  have wN : wrap64 (N : Int) = (N : Int) := i64w (by unfold top; omega) (by unfold top; omega)
  rw [hn]
  clear hF hl hs hp hc e1 hg hb1 hn hb ho hN
  go_enter Tryz.func72, Tryz.ntmps72
  by_cases hw : wide n 2 = 0
  rotate_left
  · have E : Hid (tailC F A = (wide n 2, 1)) := Lib.hid (by unfold tailC; rw [HN.out, if_pos hw])
    obtain ⟨k, hk⟩ : ∃ k, wide n 2 = k := ⟨_, rfl⟩
    rw [hk] at CW E hw
    have HW := Lib.hid hw
    have hk0 : (0 : Int) < (k : Int) := by omega
    clear hw hk
    go_wp2_with (go_at_call 103; refine (CW.out _).mono ?_; rintro e w1 ⟨rfl, rfl⟩)
    go_ret2
    exact ⟨skRet2 (by rw [E.out]) (by rw [E.out]), Below.refl _ _, fun h => by rw [E.out] at h; exact absurd h HW.out, Nat.le_refl _⟩
  have hn2 : n = 2 := wide_zero hw
  subst hn2
  obtain ⟨a, rfl, q1⟩ := Q1.out (by omega)
  have E0 : Hid (tailC F A = if b = false ∨ g < 0 then (2, 3) else if g ≠ (N : Int) then (2, 4) else (0, 0)) := Lib.hid (by unfold tailC; rw [HN.out, if_neg (by rw [hw]; simp), NB.out, NV.out, HA.out])
  rw [hw] at CW
  clear hw Q1
  go_wp2_with (go_at_call 103; refine (CW.out _).mono ?_; rintro e w1 ⟨rfl, rfl⟩)
  refine (C2.out _).mono ?_
  rintro e w2 ⟨rfl, k2⟩
  have K2 := Lib.hid k2
  have hb2 := (k2.block _ LT.out).trans HB.out
  have HB2 := Lib.hid hb2
  obtain ⟨⟨z0, z1, z2, z3, z4⟩, f0, f1, f2, f3, f4⟩ := skFive_at hb2
  clear k2 q1 hb2
  cases b with
  | false =>
    have E : Hid (tailC F A = (2, 3)) := Lib.hid (by rw [E0.out, if_pos (Or.inl rfl)])
    go_wp2
    go_ret2
    exact ⟨skRet2 (by rw [E.out]; rfl) (by rw [E.out]), below_keeps K2.out (Nat.le_of_lt LT.out), fun h => (by rw [E.out] at h; cases h), K2.out.size⟩
  | true =>
    by_cases h1 : g < 0
    · have E : Hid (tailC F A = (2, 3)) := Lib.hid (by rw [E0.out, if_pos (Or.inr h1)])
      go_wp2
      go_ret2
      exact ⟨skRet2 (by rw [E.out]; rfl) (by rw [E.out]), below_keeps K2.out (Nat.le_of_lt LT.out), fun h => (by rw [E.out] at h; cases h), K2.out.size⟩
    by_cases h2 : g = (N : Int)
    · have E : Hid (tailC F A = (0, 0)) := Lib.hid (by rw [E0.out, if_neg (by simp [h1]), if_neg (by simpa using h2)])
      subst h2
      go_wp2
      go_ret2
      refine ⟨skRet2 (by rw [E.out]; rfl) (by rw [E.out]), (below_keeps K2.out (Nat.le_of_lt LT.out)).setCell (p := ⟨bf, 1, none⟩) (Nat.le_refl _) _, fun _ => ⟨Joins.block_setCell (i := 1) HB2.out (.bool true), sk_own_set (rowK.own_keeps HO.out K2.out) hB _⟩, by simpa using K2.out.size⟩
    · have E : Hid (tailC F A = (2, 4)) := Lib.hid (by rw [E0.out, if_neg (by simp [h1]), if_pos h2])
      have t1 : (g == (N : Int)) = false := by rw [beq_eq_false_iff_ne]; exact h2
      have t2 : (g != (N : Int)) = true := by rw [bne, t1]; rfl
      clear h2
      go_wp2
      go_ret2
      exact ⟨skRet2 (by rw [E.out]; rfl) (by rw [E.out]), below_keeps K2.out (Nat.le_of_lt LT.out), fun h => (by rw [E.out] at h; cases h), K2.out.size⟩
abbrev RowAfter (bf B : Nat) (be en : Bool) (s : Int) (N : Nat) (F : List (List UInt8)) (A : List R) (w' : World) : Prop := ∃ q' c', RdAt w' bf be en s (.slice q' (N + 1) c') ∧ rowK.Own B w' (.slice q' (N + 1) c') (A ++ [rowR F])
set_option maxHeartbeats 16000000 in
set_option maxRecDepth 100000 in
theorem sp_readRow (bf B : Nat) (be en : Bool) (s : Int) (q : Option Addr) (N cq : Nat) (v : Value) (F : List (List UInt8)) (A : List R) (w : World) (hb : RdAt w bf be en s (.slice q N cq)) (ho : rowK.Own B w (.slice q N cq) A) (hB : bf < B) (hBw : B ≤ w.heap.size) (hF : StrsAt w v F) (hl : F.length ≤ 1000000) (hs : SkShort F) (hN : A.length = N) (hN4 : N ≤ 400) (hp : HasP w) :
    Calls Tryz.prog 73 #[.pointer (some ⟨bf, 0, none⟩), v] w fun e w' => e = .returned (.tuple #[.int .i64 ((rowC F A).1 : Int), .int .i64 (rowC F A).2]) ∧ Below bf w w' ∧ ((rowC F A).1 = 0 → RowAfter bf B be en s N F A w') ∧ w.heap.size ≤ w'.heap.size := by
  have CR := Lib.hid (fun h4 => sp_rowOf v F w hF h4 hs hp)
  obtain ⟨p, c, rfl, _, hpp, hc⟩ := strs_at hF
  obtain ⟨n, hn⟩ : ∃ n, F.length = n := ⟨_, rfl⟩
  rw [hn] at CR
  have HN := Lib.hid hn
  have HA := Lib.hid hN
  have HAL := Lib.hid hN4
  have CW : Hid (∀ W, Calls Tryz.prog 103 #[.slice p n c, .int .i64 4] W fun e w' => e = .returned (.int .i64 (wide n 4 : Nat)) ∧ W = w') := Lib.hid fun W => sp_misfit p n c 4 W (by omega) (by omega)
  have HB : Hid (∀ W, Keeps w W → RdAt W bf be en s (.slice q N cq)) := Lib.hid fun W k => (k.block _ (Array.getElem?_eq_some_iff.1 hb).1).trans hb
  have HO : Hid (∀ W, Keeps w W → rowK.Own B W (.slice q N cq) A) := Lib.hid fun W k => rowK.own_keeps ho k
  have RI : Hid (RowsIn w (.slice q N cq) A) := Lib.hid (own_rows ho (by omega))
  have LT := Lib.hid (Array.getElem?_eq_some_iff.1 hb).1
  have HBB := Lib.hid hB
  have HBW := Lib.hid hBw
  rw [hn]
  obtain ⟨⟨z0, z1, z2, z3, z4⟩, f0, f1, f2, f3, f4⟩ := skFive_at hb
  clear hF hl hs hp hpp hc hn hb ho hN hBw
  go_enter Tryz.func73, Tryz.ntmps73
  by_cases hw : wide n 4 = 0
  rotate_left
  · have E : Hid (rowC F A = (wide n 4, 1)) := Lib.hid (by unfold rowC; rw [HN.out, if_pos hw])
    obtain ⟨k, hk⟩ : ∃ k, wide n 4 = k := ⟨_, rfl⟩
    rw [hk] at CW E hw
    have HW := Lib.hid hw
    have hk0 : (0 : Int) < (k : Int) := by omega
    clear hw hk
    go_wp2_with (go_at_call 103; refine (CW.out _).mono ?_; rintro e w1 ⟨rfl, rfl⟩)
    go_ret2
    exact ⟨skRet2 (by rw [E.out]) (by rw [E.out]), Below.refl _ _, fun h => by rw [E.out] at h; exact absurd h HW.out, Nat.le_refl _⟩
  have hn2 : n = 4 := wide_zero hw
  subst hn2
  have RC0 : Hid (rowC F A = if 400 ≤ N then (1, 8) else if fitC F ≠ 0 then (fitC F, 3) else if ∃ y, A.getLast? = some y ∧ less y (rowR F) = false then (1, 6) else (0, 0)) := Lib.hid (by unfold rowC; rw [HN.out, if_neg (by rw [hw]; simp), HA.out])
  rw [hw] at CW
  have CR2 := Lib.hid (CR.out rfl)
  clear hw CR
  by_cases t1 : 400 ≤ N
  · have E : Hid (rowC F A = (1, 8)) := Lib.hid (RC0.out.trans (if_pos t1))
    have t1' : (400 : Int) ≤ (N : Int) := by omega
    go_wp2_with (go_at_call 103; refine (CW.out _).mono ?_; rintro e w1 ⟨rfl, rfl⟩)
    go_ret2
    exact ⟨skRet2 (by rw [E.out]; rfl) (by rw [E.out]), Below.refl _ _, fun h => (by rw [E.out] at h; cases h), Nat.le_refl _⟩
  have RC1 : Hid (rowC F A = if fitC F ≠ 0 then (fitC F, 3) else if ∃ y, A.getLast? = some y ∧ less y (rowR F) = false then (1, 6) else (0, 0)) := Lib.hid (RC0.out.trans (if_neg t1))
  have N4 : (N : Int) < 400 := by omega
  obtain ⟨k, hk⟩ : ∃ k, fitC F = k := ⟨_, rfl⟩
  obtain ⟨r, hr⟩ : ∃ r, fitR F = r := ⟨_, rfl⟩
  have HK := Lib.hid hk
  have HR := Lib.hid hr
  rw [hk, hr] at CR2
  unfold rwV at CR2
  clear RC0 t1 hk hr
  go_wp2_with (go_at_call 103; refine (CW.out _).mono ?_; rintro e w1 ⟨rfl, rfl⟩)
  refine CR2.out.mono ?_
  rintro e w2 ⟨rfl, k2⟩
  have K2 := Lib.hid k2
  clear k2 CR2 CW z0 z1 z2 z3 z4 f0 f1 f2 f3 f4
  go_upto_region 8 with (fail)
  obtain ⟨w3, hw3⟩ : ∃ W, w2.alloc (.cells #[.int .i64 r.o, .int .i64 r.d, .int .i64 r.c, .int .i64 r.a, .int .i64 r.q] tRw) = W := ⟨_, rfl⟩
  obtain ⟨rb, hrb⟩ : ∃ b, w2.heap.size = b := ⟨_, rfl⟩
  have K3 : Hid (Keeps w w3) := Lib.hid (hw3 ▸ kept_alloc K2.out _)
  have RB : Hid (w3.heap[rb]? = some (.cells #[.int .i64 r.o, .int .i64 r.d, .int .i64 r.c, .int .i64 r.a, .int .i64 r.q] tRw (0, 0))) := Lib.hid (by rw [← hw3, ← hrb]; exact heap_alloc_new _ _)
  have RLT : Hid (w.heap.size ≤ rb) := Lib.hid (by rw [← hrb]; exact K2.out.size)
  rw [hw3, hrb]
  clear hw3 hrb K2
  by_cases hk0 : k = 0
  rotate_left
  · have E : Hid (rowC F A = (k, 3)) := Lib.hid (by rw [RC1.out, HK.out, if_pos hk0])
    have HK0 := Lib.hid hk0
    have hk1 : (0 : Int) < (k : Int) := by omega
    clear hk0
    go_wp2
    go_ret2
    exact ⟨skRet2 (by rw [E.out]) (by rw [E.out]), below_keeps K3.out (Nat.le_of_lt LT.out), fun h => by rw [E.out] at h; exact absurd h HK0.out, K3.out.size⟩
  subst hk0
  have RR : Hid (rowR F = r) := Lib.hid (by rw [← HR.out]; unfold fitR; rw [if_pos HK.out])
  have RC : Hid (rowC F A = if ∃ y, A.getLast? = some y ∧ less y r = false then (1, 6) else (0, 0)) := Lib.hid (by rw [RC1.out, HK.out, if_neg (by simp), RR.out])
  obtain ⟨bad, hbad⟩ : ∃ b : Bool, (b = true ↔ ∃ y, A.getLast? = some y ∧ less y r = false) := by
    by_cases h : ∃ y, A.getLast? = some y ∧ less y r = false
    · exact ⟨true, by simp [h]⟩
    · exact ⟨false, by simp [h]⟩
  have BAD := Lib.hid hbad
  clear hbad RC1 HK HR
  obtain ⟨⟨y0, y1, y2, y3, y4⟩, g0, g1, g2, g3, g4⟩ := skFive_at RB.out
  obtain ⟨⟨z0, z1, z2, z3, z4⟩, f0, f1, f2, f3, f4⟩ := skFive_at (HB.out _ K3.out)
  go_upto_region 10 with (fail)
  go_cut [47] (fun v47 W => v47 = .bool bad ∧ Keeps w3 W)
  case first =>
    rcases Nat.eq_zero_or_pos N with h0 | h0
    · have hb : bad = false := by
        cases hq : bad with
        | false => rfl
        | true =>
          obtain ⟨y, hy, _⟩ := BAD.out.1 hq
          have := List.length_eq_zero_iff.1 (HA.out.trans h0)
          rw [this] at hy
          cases hy
      subst hb
      have hd0 : decide (0 < (N : Int)) = false := decide_eq_false (by omega)
      have hd1 : decide (0 < N) = false := decide_eq_false (by omega)
      have hd2 : ¬ 0 < N := by omega
      clear h0
      go_quiet (fail)
      go_wp2
      go_meet
      case rel => exact ⟨rfl, keeps_drewN (Keeps.refl w3) nq⟩
    · obtain ⟨j, hj⟩ : ∃ j, N - 1 = j := ⟨_, rfl⟩
      obtain ⟨y, hy⟩ : ∃ y, A[N - 1]? = some y := ⟨_, List.getElem?_eq_getElem (by have := HA.out; omega)⟩
      have LA : Hid (A.getLast? = some y) := Lib.hid (by rw [List.getLast?_eq_getElem?, HA.out]; exact hy)
      obtain ⟨p9, c9, e9, _, _, hc9⟩ := RI.out.keeps K3.out
      rw [HA.out] at e9
      simp only [Value.slice.injEq] at e9
      obtain ⟨rfl, _, rfl⟩ := e9
      obtain ⟨ad, rfl, QQ⟩ := hc9 (N - 1) y hy
      rw [hj] at QQ
      obtain ⟨u1, u2⟩ := pred_wrap (k := N) (j := j) h0 hj (by have := HAL.out; omega)
      have QY := Lib.hid QQ
      have hd0 : decide (0 < (N : Int)) = true := decide_eq_true (by omega)
      have hd1 : decide (0 < N) = true := decide_eq_true h0
      have hj1 : (j : Int) < (N : Int) := by omega
      have hj0 : (0 : Int) ≤ (j : Int) := by omega
      obtain ⟨l, hl⟩ : ∃ b, lessK y.o y.d r.o r.d = b := ⟨_, rfl⟩
      have hb : bad = !l := by
        rw [Bool.eq_iff_iff, BAD.out]
        constructor
        · rintro ⟨x, hx, hh⟩
          rw [LA.out] at hx
          cases hx
          unfold less at hh
          rw [hl] at hh
          simp [hh]
        · intro h
          exact ⟨y, LA.out, by unfold less; rw [hl]; simpa using h⟩
      have HBL := Lib.hid hb
      have CL : Hid (∀ W, Keeps w3 W → Calls Tryz.prog 94 #[.agg #[.int .i64 y.o, .int .i64 y.d], .agg #[.int .i64 r.o, .int .i64 r.d]] W fun e w' => e = .returned (.bool l) ∧ Keeps w3 w') := Lib.hid fun W kk => Calls.mono (hl ▸ pk_less y.o y.d r.o r.d W) fun e w' h => ⟨h.1, kk.trans h.2⟩
      have CS : Hid (∀ W, Keeps w3 W → (W.cell? ⟨rb, 0, none⟩ = some (.int .i64 r.o) ∧ W.cell? ⟨rb, 1, none⟩ = some (.int .i64 r.d)) ∧ W.cell? (ad.add (j * 5)) = some (.int .i64 y.o) ∧ W.cell? ⟨(ad.add (j * 5)).block, (ad.add (j * 5)).off + 1, none⟩ = some (.int .i64 y.d) ∧ W.cell? ⟨bf, 4, none⟩ = some (.slice (some ad) N cq)) := Lib.hid fun W kk => by
        obtain ⟨d0, d1, _⟩ := QY.out.keeps kk
        have b1 := (kk.block _ (Array.getElem?_eq_some_iff.1 RB.out).1).trans RB.out
        exact ⟨⟨Joins.cell_of_block b1 0, Joins.cell_of_block b1 1⟩, d0, d1, (skFive_at (HB.out W (K3.out.trans kk))).1.2.2.2.2⟩
      have HX := Lib.hid (Keeps.refl w3)
      clear hl hj hy h0 hc9 QQ hb y0 y1 y2 y3 y4 g0 g1 g2 g3 g4 z0 z1 z2 z3 z4 f0 f1 f2 f3 f4
      obtain ⟨⟨y0, y1⟩, z0, z1, z4⟩ := CS.out _ HX.out
      go_region_held3 (fun W => (W.cell? ⟨rb, 0, none⟩ = some (.int .i64 r.o) ∧ W.cell? ⟨rb, 1, none⟩ = some (.int .i64 r.d)) ∧ W.cell? (ad.add (j * 5)) = some (.int .i64 y.o) ∧ W.cell? ⟨(ad.add (j * 5)).block, (ad.add (j * 5)).off + 1, none⟩ = some (.int .i64 y.d) ∧ W.cell? ⟨bf, 4, none⟩ = some (.slice (some ad) N cq))
        (first | exact CS.out _ HX.out | exact CS.out _ (HX.out.trans (ky_drew _)) | assumption)
        ((go_at_call 94; refine (CL.out _ (HX.out.trans (ky_drew _))).mono ?_; clear HX CL; rintro e wx ⟨rfl, hv⟩; have HX := Lib.hid hv; have zv := CS.out _ hv; clear hv))
      go_wp2
      go_meet
      case rel => exact ⟨by rw [HBL.out], HX.out⟩
  case rest =>
    obtain ⟨rfl, hx⟩ := hcut
    have HX := Lib.hid (K3.out.trans hx)
    have RBX := Lib.hid ((hx.block rb (Array.getElem?_eq_some_iff.1 RB.out).1).trans RB.out)
    clear hx y0 y1 y2 y3 y4 g0 g1 g2 g3 g4 z0 z1 z2 z3 z4 f0 f1 f2 f3 f4
    cases bad with
    | true =>
      have E : Hid (rowC F A = (1, 6)) := Lib.hid (by rw [RC.out, if_pos (BAD.out.1 rfl)])
      go_wp2
      go_ret2
      exact ⟨skRet2 (by rw [E.out]; rfl) (by rw [E.out]), below_keeps HX.out (Nat.le_of_lt LT.out), fun h => (by rw [E.out] at h; cases h), HX.out.size⟩
    | false =>
      have E : Hid (rowC F A = (0, 0)) := Lib.hid (by rw [RC.out, if_neg (fun h => by have := BAD.out.2 h; cases this)])
      have LEN : Hid (A.length + [r].length = N + 1) := Lib.hid (by rw [HA.out]; rfl)
      have LN : Hid (A.length + [r].length ≤ 100000) := Lib.hid (by rw [HA.out]; have := HAL.out; simp; omega)
      have HBX := Lib.hid (HB.out _ HX.out)
      have HOX : Hid (∀ W, Keeps wc W → rowK.Own B W (.slice q N cq) A) := Lib.hid fun W k => HO.out W (HX.out.trans k)
      have BX : Hid (B ≤ wc.heap.size) := Lib.hid (Nat.le_trans HBW.out HX.out.size)
      have BLT : Hid (bf < wc.heap.size) := Lib.hid (Array.getElem?_eq_some_iff.1 HBX.out).1
      have OFF : Hid (∀ j, (Value.slice q N cq).ownBlock = some j → B ≤ j ∧ j < w.heap.size) := Lib.hid fun j hj => rowK.own_lt (HO.out _ (Keeps.refl w)) j hj
      clear HO RI BAD RC
      obtain ⟨⟨z0, z1, z2, z3, z4⟩, f0, f1, f2, f3, f4⟩ := skFive_at HBX.out
      obtain ⟨⟨y0, y1, y2, y3, y4⟩, g0, g1, g2, g3, g4⟩ := skFive_at RBX.out
      clear z0 z1 z2 z3 f0 f1 f2 f3 g0 g1 g2 g3 g4
      go_upto_region 12 with (fail)
      have l1 : bf < wc.heap.size := BLT.out
      have l0 : bf ≠ wc.heap.size := Nat.ne_of_lt l1
      go_region_law (
        (refine stepAppOwnK rowK rfl _ _ rfl rfl B ?hB _ _ A [r] (N + 1) LEN.out rfl rfl ?hO (sk_rsrc_row (heap_alloc_new _ _)) LN.out ?_
         case hB => exact Nat.le_trans BX.out (by simp)
         case hO => first | exact HOX.out _ (ky_box wc _) | exact HOX.out _ (Keeps.trans (ky_box wc _) (ky_drew _)) | exact HOX.out _ (Keeps.trans (ky_drew wc) (ky_box _ _))
         intro p5 c5 w5 o5 g5
         have hb5 := (g5.block bf (Nat.lt_of_lt_of_le BLT.out (by simp)) (fun e => by have := OFF.out _ e.symm; have := HBB.out; omega)).trans (Eq.trans (by first | exact (ky_box wc _).block bf BLT.out | exact (Keeps.trans (ky_box wc _) (ky_drew _)).block bf BLT.out | exact (Keeps.trans (ky_drew wc) (ky_box _ _)).block bf BLT.out) HBX.out)
         have hc5 := Joins.cell_of_block hb5 4
         have hf5 := Joins.unfrozen_of_block hb5 4))
      all_goals
        have O5 := Lib.hid o5
        have B5 := Lib.hid hb5
        have T5 : Hid (Below bf w w5) := Lib.hid (Below.grown (below_keeps (by first | exact Keeps.trans HX.out (ky_box wc _) | exact Keeps.trans HX.out (Keeps.trans (ky_box wc _) (ky_drew _)) | exact Keeps.trans HX.out (Keeps.trans (ky_drew wc) (ky_box _ _))) (Nat.le_of_lt LT.out)) g5 (Nat.le_trans (Nat.le_of_lt BLT.out) (by simp)) (fun j hj => by have := (OFF.out j hj).1; have := HBB.out; omega))
        clear o5 hb5 hc5 hf5 g5 l0 l1 y0 y1 y2 y3 y4
        go_wp2
        go_ret2
        refine ⟨skRet2 (by rw [E.out]; rfl) (by rw [E.out]), ?_, fun _ => ⟨p5, c5, ?_, ?_⟩, ?_⟩
        · first | exact (T5.out.setCell (p := ⟨bf, 4, none⟩) (Nat.le_refl _) _).drew | exact T5.out.setCell (p := ⟨bf, 4, none⟩) (Nat.le_refl _) _
        · exact Joins.block_setCell (i := 4) B5.out (.slice p5 (N + 1) c5)
        · rw [RR.out]
          first | exact rowK.own_keeps (sk_own_set (i := 4) O5.out HBB.out (.slice p5 (N + 1) c5)) (ky_drew _) | exact sk_own_set (i := 4) O5.out HBB.out (.slice p5 (N + 1) c5)
        · have := T5.out.size
          simpa using this
end Go.Proofs.YtomonhghioamfaaGreatDoor
namespace Go.Proofs.YtomonhghioamfaaGreatDoor
open Go.ChangeShapes Go.WideShapes Go.ChangeAt Go.RowKit Ky Rw Csv Stk

theorem headC_zero {F : List (List UInt8)} (h : (headC F).1 = 0) : headC F = (0, 0) := by
  unfold headC at h ⊢
  split at h
  · simp at h
  rename_i h1
  rw [if_neg h1]
  split at h
  · rename_i h2; exact absurd h h2
  rename_i h2
  rw [if_neg h2]
  split at h
  · simp at h
  rename_i h3
  rw [if_neg h3]
theorem firstC_zero {F : List (List UInt8)} (h : (firstC F).1 = 0) : firstC F = (0, 0) := by
  unfold firstC at h ⊢
  split at h
  · rename_i h2; exact absurd h h2
  rename_i h2
  rw [if_neg h2]
  split at h
  · simp at h
  rename_i h3
  rw [if_neg h3]
theorem tailC_zero {F : List (List UInt8)} {A : List R} (h : (tailC F A).1 = 0) : tailC F A = (0, 0) := by
  unfold tailC at h ⊢
  split at h
  · rename_i h2; exact absurd h h2
  rename_i h2
  rw [if_neg h2]
  split at h
  · simp at h
  rename_i h3
  rw [if_neg h3]
  split at h
  · simp at h
  rename_i h4
  rw [if_neg h4]
theorem rowC_zero {F : List (List UInt8)} {A : List R} (h : (rowC F A).1 = 0) : rowC F A = (0, 0) := by
  unfold rowC at h ⊢
  split at h
  · rename_i h2; exact absurd h h2
  rename_i h2
  rw [if_neg h2]
  split at h
  · simp at h
  rename_i h3
  rw [if_neg h3]
  split at h
  · rename_i h4; exact absurd h h4
  rename_i h4
  rw [if_neg h4]
  split at h
  · simp at h
  rename_i h5
  rw [if_neg h5]
/-- What a row leaves. -/
def ReadOut (bf B : Nat) (st : PS) (F : List (List UInt8)) (w : World) (e : Ending) (w' : World) : Prop :=
  Below bf w w' ∧ ((∃ st' q' N' c', Stk.step st F = .ok st' ∧ e = .returned (.tuple #[.int .i64 0, .int .i64 0]) ∧ RdAt w' bf true st'.ended st'.seq (.slice q' N' c') ∧ rowK.Own B w' (.slice q' N' c') st'.rows ∧ st'.rows.length = N') ∨
    (∃ (a : Nat) (b : Int), Stk.step st F = .error (st.n + 1, a, b) ∧ e = .returned (.tuple #[.int .i64 (a : Int), .int .i64 b]) ∧ b ≠ 0))
set_option maxHeartbeats 8000000 in
set_option maxRecDepth 100000 in
theorem sp_read (bf B : Nat) (st : PS) (q : Option Addr) (N cq : Nat) (v : Value) (F : List (List UInt8)) (w : World) (hb : RdAt w bf (decide (0 < st.n)) st.ended st.seq (.slice q N cq)) (ho : rowK.Own B w (.slice q N cq) st.rows) (hB : bf < B) (hBw : B ≤ w.heap.size) (hF : StrsAt w v F) (hne : F ≠ []) (hl : F.length ≤ 1000000) (hs : SkShort F) (hN : st.rows.length = N) (hN4 : N ≤ 400) (hp : HasP w) :
    Calls Tryz.prog 36 #[.pointer (some ⟨bf, 0, none⟩), v] w (ReadOut bf B st F w) := by
  have C1 := Lib.hid (fun (h : decide (0 < st.n) = false) => sp_readFirst bf B st.ended st.seq (.slice q N cq) v F st.rows w (h ▸ hb) ho hB hF hl hs)
  have C2 := Lib.hid (sp_readEnd bf B (decide (0 < st.n)) st.ended st.seq q N cq v F st.rows w hb ho hB hF hl hs hN (by omega))
  have C3 := Lib.hid (sp_readRow bf B (decide (0 < st.n)) st.ended st.seq q N cq v F st.rows w hb ho hB hBw hF hl hs hN hN4 hp)
  obtain ⟨p, c, rfl, _, hpp, hc⟩ := strs_at hF
  obtain ⟨a, rfl⟩ := hpp (List.length_pos_iff.2 hne)
  obtain ⟨n, hn⟩ : ∃ n, F.length = n := ⟨_, rfl⟩
  have n0 : 0 < n := by rw [← hn]; exact List.length_pos_iff.2 hne
  have n0' : (0 : Int) < (n : Int) := by omega
  obtain ⟨S0, h0⟩ : ∃ S : ByteArray, ⟨(fa F 0).toArray⟩ = S := ⟨_, rfl⟩
  have L0 : Hid (S0.data.toList = fa F 0) := Lib.hid (by rw [← h0, data_mk])
  have q0 : w.cell? a = some (.string S0) := by rw [← h0]; exact (hc a rfl).1 (by omega)
  rw [hn] at C1 C2 C3 ⊢
  have HB := Lib.hid hb
  have HO := Lib.hid ho
  have HNN := Lib.hid hN
  obtain ⟨⟨z0, z1, z2, z3, z4⟩, f0, f1, f2, f3, f4⟩ := skFive_at hb
  obtain ⟨be, hbe⟩ : ∃ b, decide (0 < st.n) = b := ⟨_, rfl⟩
  obtain ⟨en, hen⟩ : ∃ b, st.ended = b := ⟨_, rfl⟩
  have HBE := Lib.hid hbe
  have HEN := Lib.hid hen
  rw [hbe] at z0 C1 C2 C3 HB
  rw [hen] at z1 C1 C3 HB
  clear hF hne hl hs hpp hc h0 hn hb ho hN hBw hN4 hp hbe hen
  go_enter Tryz.func36, Tryz.ntmps36
  cases en with
  | true =>
    have E : Hid (Stk.step st F = .error (st.n + 1, 1, 7)) := Lib.hid (by unfold Stk.step; rw [if_pos HEN.out])
    go_wp2
    go_ret2
    exact ⟨Below.refl _ _, Or.inr ⟨1, 7, E.out, rfl, by decide⟩⟩
  | false =>
    cases be with
    | false =>
      have hn0 : st.n = 0 := by have := of_decide_eq_false HBE.out; omega
      have ST : Hid (Stk.step st F = if (headC F).1 ≠ 0 then .error (st.n + 1, headC F) else .ok ⟨st.n + 1, numN (fa F 1) 1073741824, st.rows, false⟩) := Lib.hid (by unfold Stk.step; rw [if_neg (by rw [HEN.out]; simp), if_pos hn0])
      have C1b := Lib.hid (C1.out rfl)
      clear hn0 C1
      by_cases hx : S0 = ⟨#[115, 116, 111, 99, 107]⟩
      · have X : fa F 0 = wName := by rw [← L0.out, hx]
        subst hx
        have HC : Hid (headC F = firstC F) := Lib.hid (by rw [head_first, if_neg (by simp [X])])
        obtain ⟨x, y, hxy⟩ : ∃ x y, firstC F = (x, y) := ⟨_, _, rfl⟩
        have HXY := Lib.hid hxy
        rw [hxy] at C1b
        clear X hxy
        go_wp2_with fail
        refine C1b.out.mono ?_
        rintro e w1 ⟨rfl, k1, h1, s1⟩
        go_wp2
        go_ret2
        refine ⟨k1, ?_⟩
        by_cases hx0 : x = 0
        · have hz : headC F = (0, 0) := headC_zero (by rw [HC.out, HXY.out]; exact hx0)
          have hy : y = 0 := by have := HC.out.symm.trans hz; rw [HXY.out] at this; cases this; rfl
          obtain ⟨g1, g2⟩ := h1 hx0
          refine Or.inl ⟨⟨st.n + 1, numN (fa F 1) 1073741824, st.rows, false⟩, q, N, cq, by rw [ST.out, hz, if_neg (by simp)], by rw [hx0, hy]; rfl, g1, g2, HNN.out⟩
        · refine Or.inr ⟨x, y, by rw [ST.out, HC.out, HXY.out, if_pos hx0], rfl, ?_⟩
          have := headC_no (F := F) (by rw [HC.out, HXY.out]; exact hx0)
          rw [HC.out, HXY.out] at this
          have h2 : 1 ≤ y := this
          omega
      · have E : Hid (Stk.step st F = .error (st.n + 1, 1, 7)) := Lib.hid (by
          have : headC F = (1, 7) := by rw [head_first, if_pos (fun e => hx (bytes_inj (by rw [L0.out, e])))]
          rw [ST.out, this, if_pos (by decide)])
        obtain ⟨t1, t2, t3⟩ := sv_neS (S := S0) (l := [115, 116, 111, 99, 107]) (fun e => hx (bytes_inj (by rw [e])))
        clear hx
        go_wp2
        go_ret2
        exact ⟨Below.refl _ _, Or.inr ⟨1, 7, E.out, rfl, by decide⟩⟩
    | true =>
      have hn0 : st.n ≠ 0 := by have := of_decide_eq_true HBE.out; omega
      have ST : Hid (Stk.step st F = if fa F 0 = wEnd then (if (tailC F st.rows).1 ≠ 0 then .error (st.n + 1, tailC F st.rows) else .ok ⟨st.n + 1, st.seq, st.rows, true⟩) else (if (rowC F st.rows).1 ≠ 0 then .error (st.n + 1, rowC F st.rows) else .ok ⟨st.n + 1, st.seq, st.rows ++ [rowR F], false⟩)) := Lib.hid (by unfold Stk.step; rw [if_neg (by rw [HEN.out]; simp), if_neg hn0])
      clear hn0 C1
      by_cases hx : S0 = ⟨#[101, 110, 100]⟩
      · have X : fa F 0 = wEnd := by rw [← L0.out, hx]
        have ST2 := Lib.hid (ST.out.trans (if_pos X))
        subst hx
        obtain ⟨x, y, hxy⟩ : ∃ x y, tailC F st.rows = (x, y) := ⟨_, _, rfl⟩
        have HXY := Lib.hid hxy
        rw [hxy] at C2
        clear X hxy
        go_wp2_with fail
        refine C2.out.mono ?_
        rintro e w1 ⟨rfl, k1, h1, s1⟩
        go_wp2
        go_ret2
        refine ⟨k1, ?_⟩
        by_cases hx0 : x = 0
        · have hz : tailC F st.rows = (0, 0) := tailC_zero (by rw [HXY.out]; exact hx0)
          have hy : y = 0 := by have := hz; rw [HXY.out] at this; cases this; rfl
          obtain ⟨g1, g2⟩ := h1 hx0
          refine Or.inl ⟨⟨st.n + 1, st.seq, st.rows, true⟩, q, N, cq, by rw [ST2.out, hz, if_neg (by simp)], by rw [hx0, hy]; rfl, g1, g2, HNN.out⟩
        · refine Or.inr ⟨x, y, by rw [ST2.out, HXY.out, if_pos hx0], rfl, ?_⟩
          have := tailC_no (F := F) (A := st.rows) (by rw [HXY.out]; exact hx0)
          rw [HXY.out] at this
          have h2 : 1 ≤ y := this
          omega
      · have X : fa F 0 ≠ wEnd := fun e => hx (bytes_inj (by rw [L0.out, e]))
        have ST2 := Lib.hid (ST.out.trans (if_neg X))
        obtain ⟨t1, t2, t3⟩ := sv_neS (S := S0) (l := [101, 110, 100]) (fun e => hx (bytes_inj (by rw [e])))
        obtain ⟨x, y, hxy⟩ : ∃ x y, rowC F st.rows = (x, y) := ⟨_, _, rfl⟩
        have HXY := Lib.hid hxy
        rw [hxy] at C3
        clear X hxy hx
        go_wp2_with fail
        refine C3.out.mono ?_
        rintro e w1 ⟨rfl, k1, h1, s1⟩
        go_wp2
        go_ret2
        refine ⟨k1, ?_⟩
        by_cases hx0 : x = 0
        · have hz : rowC F st.rows = (0, 0) := rowC_zero (by rw [HXY.out]; exact hx0)
          have hy : y = 0 := by have := hz; rw [HXY.out] at this; cases this; rfl
          obtain ⟨q', c', g1, g2⟩ := h1 hx0
          refine Or.inl ⟨⟨st.n + 1, st.seq, st.rows ++ [rowR F], false⟩, q', N + 1, c', by rw [ST2.out, hz, if_neg (by simp)], by rw [hx0, hy]; rfl, g1, g2, by simp [HNN.out]⟩
        · refine Or.inr ⟨x, y, by rw [ST2.out, HXY.out, if_pos hx0], rfl, ?_⟩
          have := rowC_no (F := F) (A := st.rows) (by rw [HXY.out]; exact hx0)
          rw [HXY.out] at this
          have h2 : 1 ≤ y := this
          omega
end Go.Proofs.YtomonhghioamfaaGreatDoor
namespace Go.Proofs.YtomonhghioamfaaGreatDoor
open Go.ChangeShapes Go.WideShapes Go.ChangeAt Go.RowKit Ky Rw Csv Stk

theorem sk_owns_local {w w' : World} {B : Nat} {e : TypeId} {v : Value} {n : Nat} {xs : List Value} (h : w.ownsRow B e 1 v n xs) (hk : ∀ g, v.ownBlock = some g → w'.heap[g]? = w.heap[g]?) : w'.ownsRow B e 1 v n xs := by
  obtain ⟨h0, h1⟩ := h
  refine ⟨h0, ?_⟩
  rcases h1 with h1 | ⟨g, cap, cur, rfl, hb, hg, h2⟩
  · exact Or.inl h1
  · exact Or.inr ⟨g, cap, cur, rfl, hb, (hk g rfl).trans hg, h2⟩
theorem own_table_local {w w' : World} {B : Nat} {v : Value} {T : List (List (List UInt8))} (h : OwnTable B w v T) (hk : ∀ g, B ≤ g → g < w.heap.size → w'.heap[g]? = w.heap[g]?) : OwnTable B w' v T := by
  obtain ⟨B', vr, row, hB, vals, h1, h2, h3⟩ := h
  have lo : ∀ {e : TypeId} {x : Value} {n : Nat} {xs : List Value}, w.ownsRow B' e 1 x n xs → w'.ownsRow B' e 1 x n xs := fun hx => sk_owns_local hx fun g hg => hk g (Nat.le_trans hB (hx.lt g hg).1) (hx.lt g hg).2
  refine ⟨B', vr, row, hB, vals, lo h1, lo h2, fun j r hr => ?_⟩
  obtain ⟨v', e1, e2, e3⟩ := h3 j r hr
  exact ⟨v', e1, lo e2, e3⟩
/-- Between two rows. -/
def SkPar2 (w2 : World) (T : List (List (List UInt8))) (N gh : Nat) (v24 : Value) (W : World) : Prop :=
  ∃ (i n' : Nat) (st : PS) (p' : Option Addr) (c' : Nat), i + gh = N ∧ v24 = .int .i64 (i : Int) ∧ st.n = i ∧ Stk.Inv st ∧ runL Stk.st0 T = runL st (T.drop i) ∧ st.rows.length = n' ∧
    RdAt W w2.heap.size (decide (0 < st.n)) st.ended st.seq (.slice p' n' c') ∧ rowK.Own (w2.heap.size + 1) W (.slice p' n' c') st.rows ∧ w2.heap.size + 1 ≤ W.heap.size ∧ Keeps w2 W
set_option maxHeartbeats 16000000 in
set_option maxRecDepth 100000 in
theorem sp_parse (s : ByteArray) (w : World) (hs : s.size ≤ maxLen) (hp : HasP w) (hm : HasMax w) :
    Calls Tryz.prog 14 #[.string s] w (SkOut s.data.toList w) := by
  have C1 : Hid (∀ W, Keeps w W → Calls Tryz.prog 35 #[.string s] W (CsvAll s.data.toList W)) := Lib.hid fun W k => parse_all s W hs (hm.keeps k)
  have HP : Hid (∀ W, Keeps w W → HasP W) := Lib.hid fun W k => hp.keeps k
  obtain ⟨l, hl⟩ : ∃ l, s.data.toList = l := ⟨_, rfl⟩
  rw [hl] at C1 ⊢
  clear hs hl hp hm
  go_enter Tryz.func14, Tryz.ntmps14
  go_wp2_with fail
  refine (C1.out _ (kept_alloc (kept_alloc (Keeps.refl w) _) _)).mono ?_
  rintro e w1 ⟨k1, v, line, col, code, rfl, ho⟩
  have HO := Lib.hid ho
  have B2 : Hid ((w1.heap[w.heap.size]? = some (.cells #[.int .i64 0, .int .i64 0, .slice none 0 0] tSt (0, 0)) ∧ w1.heap[w.heap.size + 1]? = some (.cells #[.int .i64 0, .int .i64 0, .int .i64 0] skRj (0, 0))) ∧ Keeps w w1) := Lib.hid (by
    have s1 : (w.alloc zeSt).heap.size = w.heap.size + 1 := by simp
    have n0 := heap_alloc_new w zeSt
    have n1 := heap_alloc_new (w.alloc zeSt) zeRj
    rw [s1] at n1
    have k2 := kept_alloc (Keeps.refl (w.alloc zeSt)) zeRj
    exact ⟨⟨(k1.block _ (by simp <;> omega)).trans ((k2.block _ (by simp)).trans n0), (k1.block _ (by simp)).trans n1⟩, (kept_alloc (kept_alloc (Keeps.refl w) _) _).trans k1⟩)
  have S2 : Hid (((w.alloc zeSt).alloc zeRj).heap.size = w.heap.size + 2) := Lib.hid (by simp)
  clear ho k1 C1
  obtain ⟨⟨y0, y1, y2⟩, g0, g1, g2⟩ := sk_three_atG B2.out.1.1
  obtain ⟨⟨r0, r1, r2⟩, d0, d1, d2⟩ := sk_three_atG B2.out.1.2
  go_upto_region 2 with (fail)
  obtain ⟨w2, hw2⟩ : ∃ W, ((w1.setCell ⟨w.heap.size + 1, 0, none⟩ (.int .i64 line)).setCell ⟨w.heap.size + 1, 1, none⟩ (.int .i64 col)).setCell ⟨w.heap.size + 1, 2, none⟩ (.int .i64 code) = W := ⟨_, rfl⟩
  have B3 : Hid (∀ W, Keeps w2 W → (W.heap[w.heap.size]? = some (.cells #[.int .i64 0, .int .i64 0, .slice none 0 0] tSt (0, 0)) ∧ W.heap[w.heap.size + 1]? = some (.cells #[.int .i64 line, .int .i64 col, .int .i64 code] skRj (0, 0))) ∧ Keeps w W) := Lib.hid (by
    intro W k
    have a0 := (sk_three_far (W := w1) (n := w.heap.size + 1) (m := w.heap.size) (by omega) (.int .i64 line) (.int .i64 col) (.int .i64 code)).trans B2.out.1.1
    have a1 := sk_three_setG B2.out.1.2 (.int .i64 line) (.int .i64 col) (.int .i64 code)
    have a2 := sk_three_keepsG (n := w.heap.size + 1) B2.out.2 (Nat.le_succ _) (.int .i64 line) (.int .i64 col) (.int .i64 code)
    rw [hw2] at a0 a1 a2
    exact ⟨⟨(k.block _ (Array.getElem?_eq_some_iff.1 a0).1).trans a0, (k.block _ (Array.getElem?_eq_some_iff.1 a1).1).trans a1⟩, a2.trans k⟩)
  have OT : Hid (∀ T, OwnTable ((w.alloc zeSt).alloc zeRj).heap.size w1 v T → ∀ W, Keeps w2 W → RowsAt W v T) := Lib.hid (by
    intro T h W k
    have h2 : OwnTable ((w.alloc zeSt).alloc zeRj).heap.size w2 v T := own_table_local h fun g h1 h2 => by
      rw [← hw2]
      rw [S2.out] at h1
      exact sk_three_far (W := w1) (n := w.heap.size + 1) (m := g) (by omega) (.int .i64 line) (.int .i64 col) (.int .i64 code)
    exact h2.rows.keeps k)
  rw [hw2]
  clear hw2 y0 y1 y2 g0 g1 g2 r0 r1 r2 d0 d1 d2 B2 S2
  have BW := Lib.hid (B3.out w2 (Keeps.refl _))
  obtain ⟨⟨y0, y1, y2⟩, g0, g1, g2⟩ := sk_three_atG BW.out.1.1
  obtain ⟨⟨r0, r1, r2⟩, d0, d1, d2⟩ := sk_three_atG BW.out.1.2
  rcases HO.out with ⟨T, hr, hp, hfi, how, rfl, rfl, rfl⟩ | ⟨a, b, hp, hc, rfl, rfl, rfl⟩
  rotate_left
  · have E := Lib.hid hp
    have tc : (code == 0) = false := by rw [beq_eq_false_iff_ne]; exact hc
    have tc2 : (code != 0) = true := by rw [bne, tc]; rfl
    clear hp hc HO OT
    go_upto_region 3 with (fail)
    have m1 : w.heap.size ≠ w.heap.size + 1 := by omega
    have m2 : w.heap.size + 1 ≠ w.heap.size := by omega
    go_region
    go_wp2
    have K6 := sk_six_keeps BW.out.2 (Nat.le_refl _) (.int .i64 0) (.int .i64 0) (.slice none 0 0) (.int .i64 (a : Int)) (.int .i64 (b : Int)) (.int .i64 code)
    obtain ⟨⟨e0, e1, e2⟩, e3, e4, e5⟩ := sk_six_set BW.out.1.1 BW.out.1.2 (.int .i64 0) (.int .i64 0) (.slice none 0 0) (.int .i64 (a : Int)) (.int .i64 (b : Int)) (.int .i64 code)
    exact bodyPost_ret (v := .tuple #[.agg #[.int .i64 0, .int .i64 0, .slice none 0 0], .agg #[.int .i64 (a : Int), .int .i64 (b : Int), .int .i64 code]]) (by simp [results, Tryz.results14, go_sem, e0, e1, e2, e3, e4, e5]) rfl (Or.inr ⟨a, b, code, E.out, rfl, K6.trans (ky_drew _)⟩)
  have RT := Lib.hid (OT.out T how)
  obtain ⟨N, hN⟩ : ∃ N, T.length = N := ⟨_, rfl⟩
  have HN := Lib.hid hN
  have HR := Lib.hid hp
  have HF := Lib.hid hfi
  have HL : Hid (N ≤ 65536) := Lib.hid (by rw [← hN]; exact hfi.len)
  have LT : Hid (w.heap.size + 1 < w2.heap.size) := Lib.hid (Array.getElem?_eq_some_iff.1 BW.out.1.2).1
  obtain ⟨pv, cv, rfl, hmx, _⟩ := how.rows
  rw [hN] at hmx RT ⊢
  unfold maxLen at hmx
  clear hr hp hfi how hN HO OT y0 y1 y2 g0 g1 g2 r0 r1 r2 d0 d1 d2
  obtain ⟨_, _, r2⟩ := (sk_three_atG BW.out.1.2).1
  go_upto_region 5 with (fail)
  obtain ⟨w3, hw3⟩ : ∃ W, w2.alloc (.cells #[.bool false, .bool false, .int .i64 1, .int .i64 0, .slice none 0 0] tRd) = W := ⟨_, rfl⟩
  have S0 : Hid (w3.heap[w2.heap.size]? = some (.cells #[.bool false, .bool false, .int .i64 1, .int .i64 0, .slice none 0 0] tRd (0, 0)) ∧ w2.heap.size + 1 ≤ w3.heap.size ∧ Keeps w2 w3) := Lib.hid (by
    rw [← hw3]
    exact ⟨heap_alloc_new _ _, by simp, kept_alloc (Keeps.refl w2) _⟩)
  rw [hw3]
  clear hw3 r2
  go_wp2_with fail
  go_loopg [24] N (fun g v24 W => SkPar2 w2 T N g v24 W)
  case atStart => exact ⟨0, 0, Stk.st0, none, 0, by omega, rfl, rfl, inv_zero, rfl, rfl, S0.out.1, rowK.own_nil _ _, S0.out.2.1, S0.out.2.2⟩
  case round =>
    obtain ⟨i, n', st, p', c', hi, rfl, hn, hinv, hrun, hlen, hbk, hown, hsz, hw⟩ := hrel
    have HI := Lib.hid hi
    have HNI := Lib.hid hn
    have HINV := Lib.hid hinv
    have HRUN := Lib.hid hrun
    have HLEN := Lib.hid hlen
    have HBK := Lib.hid hbk
    have HOWN := Lib.hid hown
    have HSZ := Lib.hid hsz
    have HW := Lib.hid hw
    have BW := Lib.hid (B3.out wr hw)
    clear hn hinv hrun hlen hown hsz hw
    cases gk with
    | zero =>
      have hiN : i = N := by as_aux_lemma => (omega)
      have hd : decide ((i : Int) < (N : Int)) = false := decide_eq_false (by as_aux_lemma => (omega))
      have PM : Hid (parseM l = runL st []) := Lib.hid (by
        rw [HR.out, HRUN.out, List.drop_eq_nil_of_le (by as_aux_lemma => (have := HN.out; omega))])
      have HIN := Lib.hid hiN
      have wN : wrap64 (1 + (N : Int)) = 1 + (N : Int) := i64w (by as_aux_lemma => (unfold top; omega)) (by as_aux_lemma => (unfold top; have := HL.out; omega))
      obtain ⟨⟨z0, z1, z2, z3, z4⟩, _⟩ := skFive_at hbk
      obtain ⟨⟨y0, y1, y2⟩, g0, g1, g2⟩ := sk_three_atG BW.out.1.1
      obtain ⟨⟨r0, r1, r2⟩, d0, d1, d2⟩ := sk_three_atG BW.out.1.2
      obtain ⟨en, hen⟩ : ∃ b, st.ended = b := ⟨_, rfl⟩
      have HEN := Lib.hid hen
      rw [hen] at z1
      clear hen hiN hbk
      cases en with
      | false =>
        have E : Hid (parseM l = .error (1 + N, 1, 7)) := Lib.hid (by rw [PM.out, runL, HEN.out, if_neg (by simp), HNI.out, HIN.out, Nat.add_comm])
        go_wp2
        obtain ⟨⟨e0, e1, e2⟩, e3, e4, e5⟩ := sk_six_set BW.out.1.1 BW.out.1.2 (.int .i64 0) (.int .i64 0) (.slice none 0 0) (.int .i64 (1 + (N : Int))) (.int .i64 1) (.int .i64 7)
        exact bodyPost_ret (v := .tuple #[.agg #[.int .i64 0, .int .i64 0, .slice none 0 0], .agg #[.int .i64 (1 + (N : Int)), .int .i64 1, .int .i64 7]]) (by simp [results, Tryz.results14, go_sem, e0, e1, e2, e3, e4, e5]) rfl (Or.inr ⟨1 + N, 1, 7, E.out, rfl, sk_six_keeps BW.out.2 (Nat.le_refl _) _ _ _ _ _ _⟩)
      | true =>
        have E : Hid (parseM l = .ok (st.seq, st.rows)) := Lib.hid (by rw [PM.out, runL, HEN.out, if_pos rfl])
        have m1 : w2.heap.size ≠ w.heap.size := by have := LT.out; omega
        have m2 : w2.heap.size ≠ w.heap.size + 1 := by have := LT.out; omega
        go_wp2
        have O6 : Hid (rowK.Own (w2.heap.size + 1) (sk_sixW wr w.heap.size (.int .i64 1) (.int .i64 st.seq) (.slice p' n' c') (.int .i64 0) (.int .i64 0) (.int .i64 0)) (.slice p' n' c') st.rows) := Lib.hid (by
          have l0 : w.heap.size < w2.heap.size + 1 := by have := LT.out; omega
          have l1 : w.heap.size + 1 < w2.heap.size + 1 := by have := LT.out; omega
          exact sk_own_set (sk_own_set (sk_own_set (sk_own_set (sk_own_set (sk_own_set HOWN.out l0 _) l0 _) l0 _) l1 _) l1 _) l1 _)
        obtain ⟨⟨e0, e1, e2⟩, e3, e4, e5⟩ := sk_six_set BW.out.1.1 BW.out.1.2 (.int .i64 1) (.int .i64 st.seq) (.slice p' n' c') (.int .i64 0) (.int .i64 0) (.int .i64 0)
        exact bodyPost_ret (v := .tuple #[.agg #[.int .i64 1, .int .i64 st.seq, .slice p' n' c'], .agg #[.int .i64 0, .int .i64 0, .int .i64 0]]) (by simp [results, Tryz.results14, go_sem, e0, e1, e2, e3, e4, e5]) rfl (Or.inl ⟨st.seq, st.rows, .slice p' n' c', E.out, rfl, own_rows O6.out (by as_aux_lemma => (have := HINV.out.few.1; omega)), sk_six_keeps BW.out.2 (Nat.le_refl _) _ _ _ _ _ _⟩)
    | succ g =>
      have hlt : i < N := by as_aux_lemma => (omega)
      obtain ⟨F, hF⟩ : ∃ F, T[i]? = some F := ⟨_, List.getElem?_eq_getElem (by as_aux_lemma => (have := HN.out; omega))⟩
      have FF := Lib.hid (HF.out.row F (List.mem_of_getElem? hF))
      have FS : Hid (SkShort F) := Lib.hid (HF.out.short (List.mem_of_getElem? hF))
      obtain ⟨pq, cq, eq, _, hcq⟩ := RT.out wr HW.out
      rw [HN.out] at eq
      simp only [Value.slice.injEq] at eq
      obtain ⟨rfl, _, rfl⟩ := eq
      obtain ⟨ad, vF, rfl, hcl, hst⟩ := hcq i F hF
      have hi1 : (i : Int) < (N : Int) := by as_aux_lemma => (omega)
      have hi0 : (0 : Int) ≤ (i : Int) := by as_aux_lemma => (omega)
      have wi : wrap64 ((i : Int) + 1) = (i : Int) + 1 := i64w (by as_aux_lemma => (unfold top; omega)) (by as_aux_lemma => (unfold top; have := HL.out; omega))
      have wi2 : wrap64 (1 + (i : Int)) = 1 + (i : Int) := i64w (by as_aux_lemma => (unfold top; omega)) (by as_aux_lemma => (unfold top; have := HL.out; omega))
      have DR : Hid (T.drop i = F :: T.drop (i + 1)) := Lib.hid (by
        obtain ⟨q1, q2⟩ := List.getElem?_eq_some_iff.1 hF
        rw [List.drop_eq_getElem_cons q1, q2])
      have ERR : Hid (∀ e, Stk.step st F = .error e → parseM l = .error e) := Lib.hid fun e he => by
        rw [HR.out, HRUN.out, DR.out, runL, he]
      have NEXT : Hid (∀ st', Stk.step st F = .ok st' → runL Stk.st0 T = runL st' (T.drop (i + 1))) := Lib.hid fun st' he => by
        rw [HRUN.out, DR.out, runL, he]
      have CR := Lib.hid (sp_read w2.heap.size (w2.heap.size + 1) st p' n' c' vF F wr hbk HOWN.out (Nat.lt_succ_self _) HSZ.out hst FF.out.1 (by have := FF.out.2.1; omega) FS.out HLEN.out (by have := HINV.out.few.1; have := HLEN.out; omega) (HP.out _ BW.out.2))
      clear hF hcq hst hbk
      go_wp2_with fail
      refine CR.out.mono ?_
      rintro e w5 ⟨hbl, hout⟩
      have K5 : Hid (Keeps w2 w5) := Lib.hid (Below.trans HW.out hbl)
      have S5 : Hid (w2.heap.size + 1 ≤ w5.heap.size) := Lib.hid (Nat.le_trans HSZ.out hbl.size)
      have HOUT := Lib.hid hout
      clear hbl hout CR hcl
      rcases HOUT.out with ⟨st', q', N', c'', h1, rfl, h3, h4, h5⟩ | ⟨a, b, h1, rfl, hb0⟩
      · have E1 := Lib.hid h1
        have E3 := Lib.hid h3
        have E4 := Lib.hid h4
        have E5 := Lib.hid h5
        have EN : Hid (decide (0 < st'.n) = true) := Lib.hid (decide_eq_true (by rw [step_n h1]; omega))
        clear h1 h3 h4 h5
        go_wp2_with fail
        go_roundg g
        case measure => omega
        case rel => exact ⟨i + 1, N', st', q', c'', by as_aux_lemma => (have := HI.out; omega), by first | (rw [wi]; rfl) | rfl | go_num, by rw [step_n E1.out, HNI.out], step_inv E1.out HINV.out, NEXT.out _ E1.out, E5.out, by rw [EN.out]; exact E3.out, E4.out, S5.out, K5.out⟩
      · have E : Hid (parseM l = .error (1 + i, a, b)) := Lib.hid (by rw [ERR.out _ h1, HNI.out, Nat.add_comm])
        have BX := Lib.hid (B3.out w5 K5.out)
        have tb : (b == 0) = false := by rw [beq_eq_false_iff_ne]; exact hb0
        have tb2 : (b != 0) = true := by rw [bne, tb]; rfl
        obtain ⟨⟨y0, y1, y2⟩, g0, g1, g2⟩ := sk_three_atG BX.out.1.1
        obtain ⟨⟨r0, r1, r2⟩, d0, d1, d2⟩ := sk_three_atG BX.out.1.2
        clear h1 hb0
        go_wp2
        obtain ⟨⟨e0, e1, e2⟩, e3, e4, e5⟩ := sk_six_set BX.out.1.1 BX.out.1.2 (.int .i64 0) (.int .i64 0) (.slice none 0 0) (.int .i64 (1 + (i : Int))) (.int .i64 (a : Int)) (.int .i64 b)
        exact bodyPost_ret (v := .tuple #[.agg #[.int .i64 0, .int .i64 0, .slice none 0 0], .agg #[.int .i64 (1 + (i : Int)), .int .i64 (a : Int), .int .i64 b]]) (by simp [results, Tryz.results14, go_sem, e0, e1, e2, e3, e4, e5]) rfl (Or.inr ⟨1 + i, a, b, E.out, rfl, sk_six_keeps BX.out.2 (Nat.le_refl _) _ _ _ _ _ _⟩)
end Go.Proofs.YtomonhghioamfaaGreatDoor
