
/- SettleMore: the walk. -/
import Derived.Test.YtomonhghioamfaaDoorSeL4
set_option linter.unusedVariables false
namespace Go.Proofs.YtomonhghioamfaaDoor
open Go.ChangeShapes Go.WideShapes Go.ChangeAt Go.RowKit Ky Rw Stl

theorem al1 {w W : World} {o : Obj} (h : Keeps (w.alloc o).drew W) : W.heap[w.heap.size]? = some o := (h.block _ (by simp)).trans (heap_alloc_new w o)
theorem al1_lt {w W : World} {o : Obj} (h : Keeps (w.alloc o).drew W) : w.heap.size < W.heap.size := by
  have := h.size
  have e : (w.alloc o).drew.heap.size = w.heap.size + 1 := by simp
  omega
theorem al2 {w W : World} {o o' : Obj} (h : Keeps ((w.alloc o).alloc o').drew W) : W.heap[w.heap.size]? = some o ∧ W.heap[w.heap.size + 1]? = some o' := by
  have s1 : (w.alloc o).heap.size = w.heap.size + 1 := by simp
  have n1 := heap_alloc_new (w.alloc o) o'
  rw [s1] at n1
  exact ⟨(h.block _ (by simp; omega)).trans (((kept_alloc (Keeps.refl (w.alloc o)) o').block _ (by simp)).trans (heap_alloc_new w o)), (h.block _ (by simp)).trans n1⟩
theorem ka0 {w V : World} (h : Keeps w V) : Keeps w V.drew := h.trans (ky_drew _)
theorem ka1 {w V : World} (h : Keeps w V) (o : Obj) : Keeps w (V.alloc o).drew := (kept_alloc h o).trans (ky_drew _)
theorem ka2 {w V : World} (h : Keeps w V) (o o' : Obj) : Keeps w ((V.alloc o).alloc o').drew := (kept_alloc (kept_alloc h o) o').trans (ky_drew _)
def TwoB (w W : World) (v x : Value) (a c : Int) : Prop :=
  ∃ b d, v = .pointer (some ⟨b, 0, none⟩) ∧ x = .pointer (some ⟨d, 0, none⟩) ∧ W.heap[b]? = some (.cells #[.int .i64 0, .int .i64 0, .slice none 0 0] tSt (0, 0)) ∧ W.heap[d]? = some (.cells #[.int .i64 a, .int .i64 2, .int .i64 c] tRj (0, 0)) ∧ Keeps w W
abbrev setS (W : World) (b : Nat) : World := ((W.setCell ⟨b, 0, none⟩ (.int .i64 0)).setCell ⟨b, 1, none⟩ (.int .i64 0)).setCell ⟨b, 2, none⟩ (.slice none 0 0)
abbrev setJ (W : World) (b : Nat) (a c : Int) : World := ((W.setCell ⟨b, 0, none⟩ (.int .i64 a)).setCell ⟨b, 1, none⟩ (.int .i64 2)).setCell ⟨b, 2, none⟩ (.int .i64 c)
abbrev pt (b : Nat) : Value := .pointer (some ⟨b, 0, none⟩)
abbrev oS : Obj := .cells #[.int .i64 0, .int .i64 0, .slice none 0 0] tSt
abbrev oJ (a c : Int) : Obj := .cells #[.int .i64 a, .int .i64 2, .int .i64 c] tRj
theorem al2n (w : World) (o o' : Obj) : ((w.alloc o).alloc o').heap[w.heap.size]? = some o ∧ ((w.alloc o).alloc o').heap[w.heap.size + 1]? = some o' := by
  have s1 : (w.alloc o).heap.size = w.heap.size + 1 := by simp
  have n1 := heap_alloc_new (w.alloc o) o'
  rw [s1] at n1
  exact ⟨((kept_alloc (Keeps.refl (w.alloc o)) o').block _ (by simp)).trans (heap_alloc_new w o), n1⟩
theorem tb1 {w W : World} (a c : Int) (h : Keeps w.drew W) : TwoB w ((W.alloc oS).alloc (oJ a c)) (pt W.heap.size) (pt (W.heap.size + 1)) a c :=
  ⟨_, _, rfl, rfl, (al2n W _ _).1, (al2n W _ _).2, kept_alloc (kept_alloc ((ky_drew w).trans h) _) _⟩
theorem tb2 {w W : World} (a c : Int) (h : Keeps w.drew W) : TwoB w ((W.alloc (oJ a c)).alloc oS) (pt (W.heap.size + 1)) (pt W.heap.size) a c :=
  ⟨_, _, rfl, rfl, (al2n W _ _).2, (al2n W _ _).1, kept_alloc (kept_alloc ((ky_drew w).trans h) _) _⟩
theorem tb3 {w W : World} (a c : Int) (h : Keeps (w.alloc oS).drew W) : TwoB w ((setS W w.heap.size).alloc (oJ a c)) (pt w.heap.size) (pt W.heap.size) a c := by
  have k : Keeps w W := (ka1 (Keeps.refl w) _).trans h
  have e := three_setG (show W.heap[w.heap.size]? = some (.cells #[.int .i64 0, .int .i64 0, .slice none 0 0] tSt (0, 0)) from al1 h) (.int .i64 0) (.int .i64 0) (.slice none 0 0)
  have k2 := three_keepsG k (Nat.le_refl _) (.int .i64 0) (.int .i64 0) (.slice none 0 0)
  have n := heap_alloc_new (setS W w.heap.size) (oJ a c)
  rw [show (setS W w.heap.size).heap.size = W.heap.size by simp] at n
  exact ⟨_, _, rfl, rfl, ((kept_alloc (Keeps.refl _) _).block _ (Array.getElem?_eq_some_iff.1 e).1).trans e, n, kept_alloc k2 _⟩
theorem tb5 {w W : World} (a c : Int) (h : Keeps (w.alloc zRj).drew W) : TwoB w ((setJ W w.heap.size a c).alloc oS) (pt W.heap.size) (pt w.heap.size) a c := by
  have k : Keeps w W := (ka1 (Keeps.refl w) _).trans h
  have e := three_setG (show W.heap[w.heap.size]? = some (.cells #[.int .i64 0, .int .i64 0, .int .i64 0] tRj (0, 0)) from al1 h) (.int .i64 a) (.int .i64 2) (.int .i64 c)
  have k2 := three_keepsG k (Nat.le_refl _) (.int .i64 a) (.int .i64 2) (.int .i64 c)
  have n := heap_alloc_new (setJ W w.heap.size a c) oS
  rw [show (setJ W w.heap.size a c).heap.size = W.heap.size by simp] at n
  exact ⟨_, _, rfl, rfl, n, ((kept_alloc (Keeps.refl _) _).block _ (Array.getElem?_eq_some_iff.1 e).1).trans e, kept_alloc k2 _⟩
theorem tbB {w W : World} {b d : Nat} (a c : Int) (k : Keeps w W) (hb : w.heap.size ≤ b) (hd : w.heap.size ≤ d) (ne : b ≠ d) (eb : W.heap[b]? = some (.cells #[.int .i64 0, .int .i64 0, .slice none 0 0] tSt (0, 0))) (ed : W.heap[d]? = some (.cells #[.int .i64 0, .int .i64 0, .int .i64 0] tRj (0, 0))) : TwoB w (setJ (setS W b) d a c) (pt b) (pt d) a c := by
  have e1 := three_setG eb (.int .i64 0) (.int .i64 0) (.slice none 0 0)
  have e2 := (three_far (W := W) ne.symm (.int .i64 0) (.int .i64 0) (.slice none 0 0)).trans ed
  have e3 := three_setG e2 (.int .i64 a) (.int .i64 2) (.int .i64 c)
  exact ⟨_, _, rfl, rfl, (three_far ne _ _ _).trans e1, e3, three_keepsG (three_keepsG k hb _ _ _) hd _ _ _⟩
theorem tb4 {w W : World} (a c : Int) (h : Keeps ((w.alloc oS).alloc zRj).drew W) : TwoB w (setJ (setS W w.heap.size) (w.heap.size + 1) a c) (pt w.heap.size) (pt (w.heap.size + 1)) a c :=
  tbB a c ((ka2 (Keeps.refl w) _ _).trans h) (Nat.le_refl _) (Nat.le_succ _) (Nat.ne_of_lt (Nat.lt_succ_self _)) (al2 h).1 (al2 h).2
theorem tb6 {w W : World} (a c : Int) (h : Keeps ((w.alloc zRj).alloc oS).drew W) : TwoB w (setJ (setS W (w.heap.size + 1)) w.heap.size a c) (pt (w.heap.size + 1)) (pt w.heap.size) a c :=
  tbB a c ((ka2 (Keeps.refl w) _ _).trans h) (Nat.le_succ _) (Nat.le_refl _) (Nat.ne_of_gt (Nat.lt_succ_self _)) (al2 h).2 (al2 h).1
theorem wrap_more {k N : Nat} (h : k < N) (hb : N ≤ 60) : wrap64 ((k : Int) + 3) = (k : Int) + 3 ∧ wrap64 ((k : Int) + 2) = (k : Int) + 2 := ⟨i64w (by unfold top; omega) (by unfold top; omega), i64w (by unfold top; omega) (by unfold top; omega)⟩
theorem more_ab {k M A B : Nat} (h : 29 * k = M ∧ 20 + M = A ∧ 49 + M = B) : A = 20 + 29 * k ∧ B = 49 + 29 * k := by omega
theorem ex_take (T : ByteArray) (b : Nat) : (T.extract 0 b).data.toList = T.data.toList.take b := by
  have q : (T.extract 0 b).data.toList = (T.data.toList.drop 0).take (b - 0) := by rw [← extract_list, ByteArray.toList_eq]
  rw [q]
  simp
theorem ex_drop (T : ByteArray) (a : Nat) : (T.extract a T.size).data.toList = T.data.toList.drop a := by
  have q : (T.extract a T.size).data.toList = (T.data.toList.drop a).take (T.size - a) := by rw [← extract_list, ByteArray.toList_eq]
  rw [q, List.take_of_length_le (by rw [List.length_drop, len_data]; exact Nat.le_refl _)]
theorem ex_cat {T P1 P2 P : ByteArray} {a b : Nat} (h1 : T.extract 0 b = P1) (h2 : T.extract a T.size = P2) (h : P1 ++ P2 = P) (hb : b ≤ 100000) (ht : T.size ≤ 100000) :
    P.data.toList = T.data.toList.take b ++ T.data.toList.drop a ∧ P.size ≤ maxLen ∧ ¬ (9223372036854775807 < P1.size + P2.size) := by
  have l1 : P1.data.toList = T.data.toList.take b := by rw [← h1, ex_take]
  have l2 : P2.data.toList = T.data.toList.drop a := by rw [← h2, ex_drop]
  have l : P.data.toList = T.data.toList.take b ++ T.data.toList.drop a := by rw [← h, ByteArray.data_append, Array.toList_append, l1, l2]
  have n1 : P1.size ≤ 100000 := by rw [← len_data, l1, List.length_take]; omega
  have n2 : P2.size ≤ 100000 := by rw [← len_data, l2, List.length_drop, len_data]; omega
  have n : P.size = P1.size + P2.size := by rw [← len_data, ← h, ByteArray.data_append, Array.toList_append, List.length_append, len_data, len_data]
  exact ⟨l, by unfold maxLen; omega, by omega⟩
theorem more_nums {k N M A B t : Nat} (hM : 29 * k = M) (hA : 20 + M = A) (hB : 49 + M = B) (hk : k < N) (hb : N ≤ 60) (ht : t = 44 + 29 * N) :
    wrap64 (29 * (k : Int)) = (M : Int) ∧ wrap64 (20 + (M : Int)) = (A : Int) ∧ wrap64 (49 + (M : Int)) = (B : Int) ∧ ((t : Int) != 20 + 29 * (N : Int) + 24) = false ∧ A ≤ t ∧ B ≤ t ∧ A ≤ 100000 ∧ B ≤ 100000 := by
  refine ⟨(i64w (by unfold top; omega) (by unfold top; omega)).trans (by omega), (i64w (by unfold top; omega) (by unfold top; omega)).trans (by omega), (i64w (by unfold top; omega) (by unfold top; omega)).trans (by omega), by rw [bne, show ((t : Int) == 20 + 29 * (N : Int) + 24) = true from beq_iff_eq.2 (by omega)]; rfl, by omega, by omega, by omega, by omega⟩
theorem ex_mid (T : ByteArray) (a b : Nat) : (T.extract a b).data.toList = (T.data.toList.drop a).take (b - a) := by rw [← extract_list, ByteArray.toList_eq]
theorem ex_four {T V1 V2 V3 V4 V12 V123 V : ByteArray} {a0 a b : Nat} (h1 : T.extract 0 a0 = V1) (h2 : T.extract a b = V2) (h3 : T.extract a0 a = V3) (h4 : T.extract b T.size = V4) (h12 : V1 ++ V2 = V12) (h123 : V12 ++ V3 = V123) (h : V123 ++ V4 = V) (ht : T.size ≤ 100000) :
    V.data.toList = T.data.toList.take a0 ++ (T.data.toList.drop a).take (b - a) ++ (T.data.toList.drop a0).take (a - a0) ++ T.data.toList.drop b ∧ V.size ≤ maxLen ∧ (¬ (9223372036854775807 < V1.size + V2.size)) ∧ (¬ (9223372036854775807 < V12.size + V3.size)) ∧ ¬ (9223372036854775807 < V123.size + V4.size) := by
  have l1 : V1.data.toList = T.data.toList.take a0 := by rw [← h1, ex_take]
  have l2 : V2.data.toList = (T.data.toList.drop a).take (b - a) := by rw [← h2, ex_mid]
  have l3 : V3.data.toList = (T.data.toList.drop a0).take (a - a0) := by rw [← h3, ex_mid]
  have l4 : V4.data.toList = T.data.toList.drop b := by rw [← h4, ex_drop]
  have s1 : V1.size ≤ 100000 := by rw [← len_data, l1, List.length_take, len_data]; omega
  have s2 : V2.size ≤ 100000 := by rw [← len_data, l2, List.length_take, List.length_drop, len_data]; omega
  have s3 : V3.size ≤ 100000 := by rw [← len_data, l3, List.length_take, List.length_drop, len_data]; omega
  have s4 : V4.size ≤ 100000 := by rw [← len_data, l4, List.length_drop, len_data]; omega
  have z12 : V12.size = V1.size + V2.size := by rw [← h12, ByteArray.size_append]
  have z123 : V123.size = V12.size + V3.size := by rw [← h123, ByteArray.size_append]
  have z : V.size = V123.size + V4.size := by rw [← h, ByteArray.size_append]
  refine ⟨?_, by unfold maxLen; omega, by omega, by omega, by omega⟩
  rw [← h, ByteArray.data_append, Array.toList_append, l4, ← h123, ByteArray.data_append, Array.toList_append, l3, ← h12, ByteArray.data_append, Array.toList_append, l1, l2]
theorem turn_nums {k N A B A0 t : Nat} (h : A = 20 + 29 * k ∧ B = 49 + 29 * k) (h0 : ¬ k = 0) (hk : k < N) (hb : N ≤ 60) (ha : A - 29 = A0) (ht : t = 44 + 29 * N) :
    IntKind.i64.wrap ((A : Int) - 29) = (A0 : Int) ∧ A0 ≤ t ∧ A ≤ B ∧ A0 ≤ A ∧ A ≤ t ∧ B ≤ t := by
  refine ⟨by rw [IntWalk.i64_in _ ⟨by omega, by omega⟩]; omega, by omega, by omega, by omega, by omega, by omega⟩
theorem turned_at {s : Int} {L : List R} (h : Valid 0 s L) {k A B A0 : Nat} (e : A = 20 + 29 * k ∧ B = 49 + 29 * k) (h0 : ¬ k = 0) (hk : k < L.length) (hl : L.length ≤ 100) (ha : A - 29 = A0) :
    parseM ((fileL s L).take A0 ++ ((fileL s L).drop A).take (B - A) ++ ((fileL s L).drop A0).take (A - A0) ++ (fileL s L).drop B) = .error (k + 2, 2, 6) := by
  obtain ⟨m, rfl⟩ : ∃ m, k = m + 1 := ⟨k - 1, by omega⟩
  have e1 : A0 = 20 + 29 * m := by omega
  have e2 : A = 49 + 29 * m := by omega
  have e3 : B = 78 + 29 * m := by omega
  have e4 : B - A = 29 := by omega
  have e5 : A - A0 = 29 := by omega
  rw [e4, e5, e1, e2, e3]
  exact turned_file h hk hl
theorem wrap_one {N : Nat} (hb : N ≤ 60) : wrap64 ((N : Int) + 1) = (N : Int) + 1 := i64w (by unfold top; omega) (by unfold top; omega)
theorem pos_no {m : Nat} (h : m = 0) : ¬ ((0 : Int) < (m : Int)) := by omega
theorem pos_yes {m : Nat} (h : ¬ m = 0) : (0 : Int) < (m : Int) := by omega
theorem long_nums {more R : Nat} (h : 65537 + more = R) (hm : more < 256) : wrap64 (65537 + wrap64 (more : Int)) = (R : Int) ∧ R ≤ 70000 ∧ 65536 < R := by
  refine ⟨?_, by omega, by omega⟩
  rw [i64w (n := (more : Int)) (by unfold top; omega) (by unfold top; omega)]
  exact (i64w (by unfold top; omega) (by unfold top; omega)).trans (by omega)
theorem long_max {t r : Nat} (h : t ≤ 100000) (g : r ≤ 70000) : t + r ≤ maxLen := by unfold maxLen; omega
theorem long_far {t r : Nat} (h : t ≤ 100000) (g : r ≤ 70000) : ¬ (9223372036854775807 < t + r) := by omega
theorem noughtsS (n : Nat) (hn : n ≤ 70000) : ∃ X : ByteArray, X.size = n ∧ X.data.toList = List.replicate n 0 ∧ (∀ w : World, (Instr.makeSlice 50 (.int .i64 (n : Int)) (.int .i64 (n : Int))).run Tryd.prog w = .ok (.slice (some ⟨w.heap.size, 0, none⟩) n n) (w.alloc (zrow n))) ∧
    ∀ W : World, (convert 50 9 (.slice (some ⟨W.heap.size, 0, none⟩) n n)).run Tryd.prog (W.alloc (zrow n)) = .ok (.string X) (W.alloc (zrow n)) := by
  refine ⟨⟨(List.replicate n (0 : UInt8)).toArray⟩, by rw [size_mk]; simp, rfl, make_zrow n (Nat.le_trans hn (by decide)), fun W => ?_⟩
  exact (lies_zrow W n).text 50 5 9 Tryd.underlying50 Tryd.underlying5 Tryd.underlying9 n n (by simp)
set_option maxHeartbeats 16000000 in
set_option maxRecDepth 100000 in
theorem settleMore_go (p s : Int) (v : Value) (L : List R) (which more : Nat) (w : World) (hp : HasP w) (hl : RowsIn w v L) (hw : which < 256) (hm : more < 256) :
    Calls Tryd.prog 7 #[stV p s v, .int .u8 (which : Int), .int .u8 (more : Int)] w fun e w' => e = .returned (.bool true) ∧ Keeps w w' := by
  have HWH := Lib.hid hw
  have HMO := Lib.hid hm
  have I1 := Lib.hid hl
  obtain ⟨q, c, rfl, hmx, -, -⟩ := hl
  obtain ⟨N, hN⟩ : ∃ N, L.length = N := ⟨_, rfl⟩
  have HN := Lib.hid hN
  rw [hN] at hmx I1 ⊢
  clear hN hw hm
  have KB := Lib.hid (ky_box w (stBox p s (.slice q N c)))
  have SB := Lib.hid (st_box w p s (.slice q N c))
  have IB := Lib.hid (I1.out.keeps KB.out)
  have HP : Hid (∀ W, Keeps w W → HasP W) := Lib.hid fun W k => hp.keeps k
  have HS : Hid (∀ W, Keeps w W → Calls Tryd.prog 21 #[] W fun e w' => e = .returned (.bool true) ∧ Keeps W w') := Lib.hid fun W k => sl_settled W (hp.keeps k)
  unfold maxLen at hmx
  unfold stV
  unfold stBox at KB SB IB
  clear hp
  obtain ⟨w1, hw1⟩ : ∃ W, w.alloc (.cells #[.int .i64 p, .int .i64 s, .slice q N c] tSt) = W := ⟨_, rfl⟩
  rw [hw1] at KB SB IB
  obtain ⟨x0, x1, x2⟩ := (three_atG (SB.out _ (Keeps.refl _))).1
  go_enter Tryd.func7, Tryd.ntmps7
  by_cases hz : N = 0
  · subst hz
    go_wp2_with fail
    refine (HS.out _ KB.out).mono ?_
    rintro e w2 ⟨rfl, k2⟩
    go_wp2
    go_ret
    exact ⟨rfl, KB.out.trans k2⟩
  have ez : ((N : Int) == 0) = false := size_nz (Nat.pos_of_ne_zero hz)
  have HZ := Lib.hid (Nat.pos_of_ne_zero hz)
  clear hz
  by_cases hbig : N ≤ 60
  rotate_left
  · go_wp2_with fail
    refine (HS.out _ KB.out).mono ?_
    rintro e w2 ⟨rfl, k2⟩
    go_wp2
    go_ret
    exact ⟨rfl, KB.out.trans k2⟩
  have C1 := Lib.hid (se_print p s _ L w1 IB.out (HP.out _ KB.out))
  have C2 : Hid (∀ W, Keeps w1 W → Calls Tryd.prog 11 #[stV p s (.slice q N c)] W fun e w' => e = .returned (.bool (validB p s L)) ∧ Keeps W w') := Lib.hid fun W k => pw_valid p s _ L W (HP.out _ (Keeps.trans KB.out k)) (IB.out.keeps k)
  by_cases hv : p = 0 ∧ validB p s L = true
  rotate_left
  · have PT : Hid (prtS p s L = ⟨#[]⟩ ∧ prtC p s L = 2) := Lib.hid (by unfold prtS Stl.prt prtC; rw [if_neg hv, if_neg hv]; exact ⟨rfl, rfl⟩)
    rw [PT.out.1, PT.out.2] at C1
    unfold stV at C1
    go_wp2_with fail
    refine C1.out.mono ?_
    rintro e w2 ⟨rfl, k2⟩
    have K2 := Lib.hid k2
    clear k2 C1 x0 x1 x2
    obtain ⟨x0, x1, x2⟩ := (three_atG (SB.out _ K2.out)).1
    obtain ⟨vb, hvb⟩ : ∃ b, validB p s L = b := ⟨_, rfl⟩
    have C2 := Lib.hid (C2.out _ K2.out)
    rw [hvb] at C2
    have PZ : Hid (vb = true → p ≠ 0) := Lib.hid fun e h => hv ⟨h, hvb.trans e⟩
    unfold stV at C2
    clear hv hvb ez
    go_wp2_with fail
    refine C2.out.mono ?_
    rintro e w3 ⟨rfl, k3⟩
    have K3 := Lib.hid (Keeps.trans KB.out (Keeps.trans K2.out k3))
    have K4 := Lib.hid (Keeps.trans K2.out k3)
    clear k3 C2 x0 x1 x2
    obtain ⟨x0, x1, x2⟩ := (three_atG (SB.out _ K4.out)).1
    cases vb with
    | false =>
      go_wp2_with fail
      refine (HS.out _ K3.out).mono ?_
      rintro e w4 ⟨rfl, k4⟩
      go_wp2
      go_ret
      exact ⟨rfl, Keeps.trans K3.out k4⟩
    | true =>
      have t : (p == 0) = false := by rw [beq_eq_false_iff_ne]; exact PZ.out rfl
      have t2 : (p != 0) = true := by rw [bne, t]; rfl
      go_wp2_with fail
      refine (HS.out _ K3.out).mono ?_
      rintro e w4 ⟨rfl, k4⟩
      go_wp2
      go_ret
      exact ⟨rfl, Keeps.trans K3.out k4⟩
  obtain ⟨rfl, hvb⟩ := hv
  have VA := Lib.hid (valid_iff.1 hvb)
  rw [hvb] at C2
  obtain ⟨T, hT⟩ : ∃ T, prtS 0 s L = T := ⟨_, rfl⟩
  have HTL : Hid (T.data.toList = fileL s L) := Lib.hid (by
    have hv : (0 : Int) = 0 ∧ validB 0 s L = true := ⟨rfl, hvb⟩
    rw [← hT]
    unfold prtS Stl.prt
    rw [if_pos hv, data_mk])
  have PC : prtC 0 s L = 0 := by unfold prtC; rw [if_pos ⟨rfl, hvb⟩]
  rw [hT, PC] at C1
  have zT : T.size = 44 + 29 * N := by rw [← len_data, HTL.out, file_len VA.out, HN.out]
  have CPs : Hid (∀ W, Keeps w W → Calls Tryd.prog 23 #[.string T] W fun e w' => ∃ v, e = .returned (.tuple #[stV 0 s v, .agg #[.int .i64 0, .int .i64 0, .int .i64 0]]) ∧ RowsIn w' v L ∧ Keeps W w') := Lib.hid fun W k => sl_yes T s L W (HP.out _ k) (size_max zT (Nat.le_trans hbig (by decide))) (by rw [HTL.out]; exact parse_file VA.out)
  unfold stV at C1 C2 CPs
  clear hT PC hvb
  obtain ⟨k, hk⟩ : ∃ k : Nat, which % N = k := ⟨_, rfl⟩
  have hk2 : k < N := by rw [← hk]; exact Nat.mod_lt _ HZ.out
  have hk3 : (which : Int) % (N : Int) = (k : Int) := by rw [← hk]; first | exact (Int.natCast_emod _ _).symm | exact (Int.ofNat_emod _ _).symm
  have wh := wrap_it (Nat.le_trans (Nat.le_of_lt HWH.out) (by decide))
  have wk := wrap_it (Nat.le_trans (Nat.le_of_lt hk2) (Nat.le_trans hbig (by decide)))
  have NZ : ¬ N = 0 := Nat.ne_of_gt HZ.out
  obtain ⟨M, hM⟩ : ∃ M, 29 * k = M := ⟨_, rfl⟩
  obtain ⟨A, hA⟩ : ∃ A, 20 + M = A := ⟨_, rfl⟩
  obtain ⟨B, hB⟩ : ∃ B, 49 + M = B := ⟨_, rfl⟩
  obtain ⟨g0, g1, g2, g3, g6, g7, g8, g9⟩ := more_nums hM hA hB hk2 hbig zT
  have ZT := Lib.hid zT
  have HK2 := Lib.hid hk2
  have HBIG := Lib.hid hbig
  have HAB := Lib.hid (And.intro hM (And.intro hA hB))
  clear hk zT hk2 hM hA hB
  go_wp2_with fail
  refine C1.out.mono ?_
  rintro e w2 ⟨rfl, k2⟩
  have K2 := Lib.hid k2
  clear k2 C1 x0 x1 x2
  obtain ⟨x0, x1, x2⟩ := (three_atG (SB.out _ K2.out)).1
  have HAB2 := HAB.out
  have TSZ := Lib.hid (small_t ZT.out (Nat.le_trans HBIG.out (by decide)))
  obtain ⟨P1, hP1⟩ : ∃ V, T.extract 0 B = V := ⟨_, rfl⟩
  obtain ⟨P2, hP2⟩ : ∃ V, T.extract A T.size = V := ⟨_, rfl⟩
  obtain ⟨P, hP⟩ : ∃ V, P1 ++ P2 = V := ⟨_, rfl⟩
  obtain ⟨lP, nP, sz1⟩ := ex_cat hP1 hP2 hP g9 TSZ.out
  obtain ⟨U1, hU1⟩ : ∃ V, T.extract 0 A = V := ⟨_, rfl⟩
  obtain ⟨U2, hU2⟩ : ∃ V, T.extract B T.size = V := ⟨_, rfl⟩
  obtain ⟨U, hU⟩ : ∃ V, U1 ++ U2 = V := ⟨_, rfl⟩
  obtain ⟨lU, nU, sz2⟩ := ex_cat hU1 hU2 hU g8 TSZ.out
  have EQ : Hid (A = 20 + 29 * k ∧ B = 49 + 29 * k) := Lib.hid (more_ab HAB.out)
  have CP1 : Hid (∀ W, Keeps w W → Calls Tryd.prog 23 #[.string P] W fun e w' => e = .returned (.tuple #[stV 0 0 (.slice none 0 0), .agg #[.int .i64 ((k + 3 : Nat) : Int), .int .i64 ((2 : Nat) : Int), .int .i64 6]]) ∧ Keeps W w') := Lib.hid fun W kk => sl_no P (k + 3) 2 6 W (HP.out _ kk) nP (by rw [lP, HTL.out, EQ.out.1, EQ.out.2]; exact twice_file VA.out (by rw [HN.out]; exact HK2.out) (by rw [HN.out]; exact Nat.le_trans HBIG.out (by decide)))
  have CP2 : Hid (∀ W, Keeps w W → Calls Tryd.prog 23 #[.string U] W fun e w' => e = .returned (.tuple #[stV 0 0 (.slice none 0 0), .agg #[.int .i64 ((N + 1 : Nat) : Int), .int .i64 ((2 : Nat) : Int), .int .i64 4]]) ∧ Keeps W w') := Lib.hid fun W kk => sl_no U (N + 1) 2 4 W (HP.out _ kk) nU (by rw [lU, HTL.out, EQ.out.1, EQ.out.2, ← HN.out]; exact less_file VA.out (by rw [HN.out]; exact HK2.out) (by rw [HN.out]; exact Nat.le_trans HBIG.out (by decide)))
  unfold stV at CP1 CP2
  have HU := Lib.hid (And.intro hU1 (And.intro hU2 (And.intro hU sz2)))
  clear HAB2 lP nP lU nU hU1 hU2 hU sz2
  clear C2 CPs
  have KW := Lib.hid (Keeps.trans KB.out K2.out)
  go_upto_region 9 with (fail)
  rw [hk3, g1, g2]
  clear wh wk g0 g1 g2 g3 hk3
  go_cut [13, 14] (fun v13 v14 W => TwoB w2 W v13 v14 ((k : Int) + 3) 6)
  case first =>
    go_region_with (go_at_call 23; refine (CP1.out _ ?kp).mono ?_; (case kp => (with_reducible first | exact ka2 KW.out _ _ | exact ka1 KW.out _ | exact ka0 KW.out)); rintro e w6 ⟨rfl, hk⟩; (with_reducible first | (have q := al2 hk; obtain ⟨q1, q2⟩ := q; obtain ⟨⟨a0, a1, a2⟩, f0, f1, f2⟩ := three_atG q1; obtain ⟨⟨b0, b1, b2⟩, h0, h1, h2⟩ := three_atG q2) | (have q1 := al1 hk; have l1 := al1_lt hk; have l2 := Nat.ne_of_lt l1; have l3 := l2.symm; obtain ⟨⟨a0, a1, a2⟩, f0, f1, f2⟩ := three_atG q1) | have k0 := hk))
    all_goals
      go_wp2_with fail
      go_meet
      case rel => with_reducible_and_instances first | exact tb1 _ _ hk | exact tb2 _ _ hk | exact tb3 _ _ hk | exact tb5 _ _ hk | exact tb4 _ _ hk | exact tb6 _ _ hk
  case rest =>
    rename World => wa
    obtain ⟨b1, d1, rfl, rfl, hb1, hd1, k3⟩ := hcut
    have HB1 := Lib.hid hb1
    have HD1 := Lib.hid hd1
    have K3 := Lib.hid (Keeps.trans KW.out k3)
    obtain ⟨u1, u2, u3, sz2⟩ := HU.out
    clear hb1 hd1 k3 sz1 hP1 hP2 hP x0 x1 x2
    go_upto_region 10 with (fail)
    go_cut [15, 16] (fun v15 v16 W => TwoB wa W v15 v16 ((N : Int) + 1) 4)
    case first =>
      go_region_with (go_at_call 23; refine (CP2.out _ ?kq).mono ?_; (case kq => (with_reducible first | exact ka2 K3.out _ _ | exact ka1 K3.out _ | exact ka0 K3.out)); rintro e w6 ⟨rfl, hk⟩; (with_reducible first | (have q := al2 hk; obtain ⟨q1, q2⟩ := q; obtain ⟨⟨a0, a1, a2⟩, f0, f1, f2⟩ := three_atG q1; obtain ⟨⟨b0, b1, b2⟩, h0, h1, h2⟩ := three_atG q2) | (have q1 := al1 hk; have l1 := al1_lt hk; have l2 := Nat.ne_of_lt l1; have l3 := l2.symm; obtain ⟨⟨a0, a1, a2⟩, f0, f1, f2⟩ := three_atG q1) | have k0 := hk))
      all_goals
        go_wp2_with fail
        go_meet
        case rel => with_reducible_and_instances first | exact tb1 _ _ hk | exact tb2 _ _ hk | exact tb3 _ _ hk | exact tb5 _ _ hk | exact tb4 _ _ hk | exact tb6 _ _ hk
    case rest =>
      rename World => wb
      obtain ⟨b2, d2, rfl, rfl, hb2, hd2, k4⟩ := hcut
      obtain ⟨Q, hQ⟩ : ∃ Q, (k : Int) + 3 = Q := ⟨_, rfl⟩
      obtain ⟨Q2, hQ2⟩ : ∃ Q, (N : Int) + 1 = Q := ⟨_, rfl⟩
      have FR : Hid (∀ W, Keeps wb W → (W.heap[b1]? = some (.cells #[.int .i64 0, .int .i64 0, .slice none 0 0] tSt (0, 0)) ∧ W.heap[d1]? = some (.cells #[.int .i64 Q, .int .i64 2, .int .i64 6] tRj (0, 0)) ∧ W.heap[b2]? = some (.cells #[.int .i64 0, .int .i64 0, .slice none 0 0] tSt (0, 0)) ∧ W.heap[d2]? = some (.cells #[.int .i64 Q2, .int .i64 2, .int .i64 4] tRj (0, 0))) ∧ Keeps w W) := Lib.hid fun W kk => by
        rw [← hQ, ← hQ2]
        have g := k4.trans kk
        exact ⟨⟨(g.block _ (Array.getElem?_eq_some_iff.1 HB1.out).1).trans HB1.out, (g.block _ (Array.getElem?_eq_some_iff.1 HD1.out).1).trans HD1.out, (kk.block _ (Array.getElem?_eq_some_iff.1 hb2).1).trans hb2, (kk.block _ (Array.getElem?_eq_some_iff.1 hd2).1).trans hd2⟩, K3.out.trans g⟩
      have CE : Hid (∀ W, Calls Tryd.prog 20 #[stV 0 0 (.slice none 0 0), stV 0 0 (.slice none 0 0)] W fun e w' => e = .returned (.bool true) ∧ Keeps W w') := Lib.hid fun W => same_zero ▸ pw_same 0 0 0 0 _ _ [] [] W (rows_nil W) (rows_nil W)
      unfold stV at CE
      clear hb2 hd2 k4 u1 u2 u3 sz2
      obtain ⟨⟨e1, e2, e3, e4⟩, _⟩ := FR.out wb (Keeps.refl _)
      obtain ⟨x0, x1, x2⟩ := (three_atG e1).1
      obtain ⟨y0, y1, y2⟩ := (three_atG e2).1
      obtain ⟨z0, z1, z2⟩ := (three_atG e3).1
      obtain ⟨t0, t1, t2⟩ := (three_atG e4).1
      clear e1 e2 e3 e4
      have wk3 : wrap64 ((k : Int) + 3) = Q := (wrap_more HK2.out HBIG.out).1.trans hQ
      have HQ2 := Lib.hid hQ2
      have WN1 : Hid (wrap64 ((N : Int) + 1) = Q2) := Lib.hid ((wrap_one HBIG.out).trans hQ2)
      have WK2 : Hid (wrap64 ((k : Int) + 2) = (k : Int) + 2) := Lib.hid (wrap_more HK2.out HBIG.out).2
      clear hQ hQ2
      go_wp2_with fail
      refine (CE.out _).mono ?_
      rintro e wc ⟨rfl, k7⟩
      have K7 := Lib.hid k7
      clear k7 x0 x1 x2 y0 y1 y2 z0 z1 z2 t0 t1 t2
      obtain ⟨⟨e1, e2, e3, e4⟩, _⟩ := FR.out _ K7.out
      obtain ⟨y0, y1, y2⟩ := (three_atG e2).1
      obtain ⟨z0, z1, z2⟩ := (three_atG e3).1
      clear e1 e2 e3 e4
      go_wp2_with fail
      refine (CE.out _).mono ?_
      rintro e wd ⟨rfl, k8⟩
      have K8 := Lib.hid (Keeps.trans K7.out k8)
      clear k8 y0 y1 y2 z0 z1 z2 wk3
      obtain ⟨⟨e1, e2, e3, e4⟩, kd⟩ := FR.out _ K8.out
      obtain ⟨t0, t1, t2⟩ := (three_atG e4).1
      have KD := Lib.hid kd
      clear e1 e2 e3 e4 kd
      have wn1 := HQ2.out
      obtain ⟨R, hR⟩ : ∃ R : Nat, 65537 + more = R := ⟨_, rfl⟩
      obtain ⟨hR1, hR2, hR3⟩ := long_nums hR HMO.out
      have WR := Lib.hid hR1
      obtain ⟨X, hXs, -, hmk, hcv⟩ := noughtsS R hR2
      have HMK := Lib.hid hmk
      have HCV := Lib.hid hcv
      obtain ⟨Z, hZ⟩ : ∃ V, T ++ X = V := ⟨_, rfl⟩
      have HZc := Lib.hid hZ
      have ZN : Hid (Z.size = T.size + R) := Lib.hid (by rw [← hZ, ByteArray.size_append, hXs])
      have HXS := Lib.hid hXs
      have CB : Hid (∀ W, Keeps w W → Calls Tryd.prog 24 #[.string Z, .int .i64 1, .int .i64 1, .int .i64 8] W fun e w' => e = .returned (.bool true) ∧ Keeps W w') := Lib.hid fun W k => sl_bad Z 1 1 8 W (HP.out _ k) (by rw [ZN.out]; exact long_max TSZ.out hR2) (long_text (by rw [len_data, ZN.out]; exact Nat.lt_of_lt_of_le hR3 (Nat.le_add_left _ _))) 1 1 rfl rfl
      have NF : Hid (¬ (9223372036854775807 < T.size + X.size)) := Lib.hid (by rw [hXs]; exact long_far TSZ.out hR2)
      clear hR1 hR2 hR3 hmk hcv hZ hXs hR
      by_cases hk0 : k = 0
      · have k1 := pos_no hk0
        have k2 : decide ((0 : Int) < (k : Int)) = false := decide_eq_false k1
        clear hk0
        go_upto_region 17 with (fail)
        clear wn1 k1 k2 t0 t1 t2
        have wR := WR.out
        have hmk := HMK.out
        have hcv := HCV.out
        have hZ := HZc.out
        have nf := NF.out
        go_wp2_with fail
        refine (CB.out _ ((KD.out).trans (kept_alloc (Keeps.refl _) _))).mono ?_
        rintro e wy ⟨rfl, k9⟩
        have K9 := Lib.hid ((KD.out.trans (kept_alloc (Keeps.refl _) _)).trans k9)
        clear k9 hmk hcv wR nf hZ
        go_wp2_with fail
        refine (HS.out _ K9.out).mono ?_
        rintro e wz ⟨rfl, k10⟩
        go_wp2
        go_ret
        exact ⟨rfl, K9.out.trans k10⟩
      · have k1 := pos_yes hk0
        have k2 : decide ((0 : Int) < (k : Int)) = true := decide_eq_true k1
        have HK0 := Lib.hid hk0
        clear hk0
        go_upto_region 14 with (fail)
        clear t0 t1 t2 wn1
        obtain ⟨A0, hA0⟩ : ∃ V, A - 29 = V := ⟨_, rfl⟩
        obtain ⟨j1, j2, j3, j4, j5, j6⟩ := turn_nums EQ.out HK0.out HK2.out HBIG.out hA0 ZT.out
        obtain ⟨V1, hV1⟩ : ∃ V, T.extract 0 A0 = V := ⟨_, rfl⟩
        obtain ⟨V2, hV2⟩ : ∃ V, T.extract A B = V := ⟨_, rfl⟩
        obtain ⟨V3, hV3⟩ : ∃ V, T.extract A0 A = V := ⟨_, rfl⟩
        obtain ⟨V4, hV4⟩ : ∃ V, T.extract B T.size = V := ⟨_, rfl⟩
        obtain ⟨V12, hV12⟩ : ∃ V, V1 ++ V2 = V := ⟨_, rfl⟩
        obtain ⟨V123, hV123⟩ : ∃ V, V12 ++ V3 = V := ⟨_, rfl⟩
        obtain ⟨V, hV⟩ : ∃ V, V123 ++ V4 = V := ⟨_, rfl⟩
        obtain ⟨lV, nV, f12, f123, f4⟩ := ex_four hV1 hV2 hV3 hV4 hV12 hV123 hV TSZ.out
        have CP3 : Hid (∀ W, Keeps w W → Calls Tryd.prog 23 #[.string V] W fun e w' => e = .returned (.tuple #[stV 0 0 (.slice none 0 0), .agg #[.int .i64 ((k + 2 : Nat) : Int), .int .i64 ((2 : Nat) : Int), .int .i64 6]]) ∧ Keeps W w') := Lib.hid fun W kk => sl_no V (k + 2) 2 6 W (HP.out _ kk) nV (by
          rw [lV, HTL.out]
          exact turned_at VA.out EQ.out HK0.out (by rw [HN.out]; exact HK2.out) (by rw [HN.out]; exact Nat.le_trans HBIG.out (by decide)) hA0)
        unfold stV at CP3
        clear lV nV hA0
        go_cut [17, 18] (fun v17 v18 W => TwoB wd W v17 v18 ((k : Int) + 2) 6)
        case first =>
          go_region_with (go_at_call 23; refine (CP3.out _ ?kr).mono ?_; (case kr => (with_reducible first | exact ka2 KD.out _ _ | exact ka1 KD.out _ | exact ka0 KD.out)); rintro e w6 ⟨rfl, hk⟩; (with_reducible first | (have q := al2 hk; obtain ⟨q1, q2⟩ := q; obtain ⟨⟨a0, a1, a2⟩, f0, f1, f2⟩ := three_atG q1; obtain ⟨⟨b0, b1, b2⟩, h0, h1, h2⟩ := three_atG q2) | (have q1 := al1 hk; have l1 := al1_lt hk; have l2 := Nat.ne_of_lt l1; have l3 := l2.symm; obtain ⟨⟨a0, a1, a2⟩, f0, f1, f2⟩ := three_atG q1) | have k0 := hk))
          all_goals
            go_wp2_with fail
            go_meet
            case rel => with_reducible_and_instances first | exact tb1 _ _ hk | exact tb2 _ _ hk | exact tb3 _ _ hk | exact tb5 _ _ hk | exact tb4 _ _ hk | exact tb6 _ _ hk
        case rest =>
          rename World => we
          obtain ⟨b3, d3, rfl, rfl, hb3, hd3, k5⟩ := hcut
          obtain ⟨Q3, hQ3⟩ : ∃ Q, (k : Int) + 2 = Q := ⟨_, rfl⟩
          rw [hQ3] at hd3
          have HD3 := Lib.hid hd3
          have wk2 : wrap64 ((k : Int) + 2) = Q3 := WK2.out.trans hQ3
          have KE := Lib.hid (KD.out.trans k5)
          obtain ⟨x0, x1, x2⟩ := (three_atG hb3).1
          clear hb3 hd3 k5 hQ3 j1 j2 j3 j4 j5 j6 f12 f123 f4 hV1 hV2 hV3 hV4 hV12 hV123 hV k1 k2
          go_wp2_with fail
          refine (CE.out _).mono ?_
          rintro e wf ⟨rfl, k11⟩
          obtain ⟨t0, t1, t2⟩ := (three_atG ((k11.block _ (Array.getElem?_eq_some_iff.1 HD3.out).1).trans HD3.out)).1
          have KD := Lib.hid (KE.out.trans k11)
          clear k11 x0 x1 x2
          go_upto_region 17 with (fail)
          clear wk2 t0 t1 t2
          have wR := WR.out
          have hmk := HMK.out
          have hcv := HCV.out
          have hZ := HZc.out
          have nf := NF.out
          go_wp2_with fail
          refine (CB.out _ ((KD.out).trans (kept_alloc (Keeps.refl _) _))).mono ?_
          rintro e wy ⟨rfl, k9⟩
          have K9 := Lib.hid ((KD.out.trans (kept_alloc (Keeps.refl _) _)).trans k9)
          clear k9 hmk hcv wR nf hZ
          go_wp2_with fail
          refine (HS.out _ K9.out).mono ?_
          rintro e wz ⟨rfl, k10⟩
          go_wp2
          go_ret
          exact ⟨rfl, K9.out.trans k10⟩
theorem settleMore_go' (p s : Int) (v : Value) (L : List R) (n m : Int) (w : World) (hp : HasP w) (hl : RowsIn w v L) (hn : (Lit.int .u8 n).wf = true) (hm : (Lit.int .u8 m).wf = true) :
    Calls Tryd.prog 7 #[stV p s v, .int .u8 n, .int .u8 m] w fun e w' => e = .returned (.bool true) ∧ Keeps w w' := by
  obtain ⟨C, rfl, hC⟩ := su8_of hn
  obtain ⟨D, rfl, hD⟩ := su8_of hm
  exact settleMore_go p s v L C D w hp hl hC hD
end Go.Proofs.YtomonhghioamfaaDoor
