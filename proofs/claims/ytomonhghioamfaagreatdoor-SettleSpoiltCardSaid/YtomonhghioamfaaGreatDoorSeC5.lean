
/- The program's settle: Parse. -/
import Derived.Test.YtomonhghioamfaaGreatDoorSeC4
import Derived.Test.YtomonhghioamfaaGreatDoorSeLoop
set_option linter.unusedVariables false
namespace Go.Proofs.YtomonhghioamfaaGreatDoor
open Go.RowKit Go.Shelf Go.WideShapes Ky Rw Csv Stl
attribute [local go_sem] Oper.semAt_some

theorem lines_in (n : Nat) (s : ByteArray) (w : World) :
    CallsIn Fence.wide n Tryz.prog 22 #[.string s] w fun e w' => e = .returned (.func (.func 53) #[] #[.pointer (some ⟨w.heap.size, 0, none⟩)]) ∧ w' = w.alloc (.cells #[.string s] tStr) := by
  refine callsIn_of_wp Tryz.func22 rfl trivial ?_ rfl
  simp only [Tryz.ntmps22, List.size_toArray, List.length_cons, List.length_nil, Nat.reduceAdd, Nat.reduceSub, Array.replicate_succ, Array.replicate_zero, List.push_toArray, List.append_toArray, List.nil_append, List.cons_append]
  gi_wp2
  go_ret
  exact ⟨rfl, rfl⟩
/-- A block that lies still. -/
theorem still_block {B b k : Nat} {X Y : World} {row : Option Nat} {o : Obj} (hg : X.grownBy Y row) (hr : ∀ r, row = some r → r = b ∨ (B ≤ r ∧ ∃ o : Obj, X.heap[r]? = some o ∧ o.isCells = false)) (hk : k < B) (hkb : k ≠ b) (h : X.heap[k]? = some o) : Y.heap[k]? = some o :=
  (hg.block k (Array.getElem?_eq_some_iff.1 h).1 (fun e => by rcases hr k e.symm with h1 | ⟨h1, _⟩ <;> omega)).trans h
theorem still_own {B b : Nat} {X Y : World} {row : Option Nat} {v : Value} {L : List R} (hb : b < B) (hg : X.grownBy Y row) (hr : ∀ r, row = some r → r = b ∨ (B ≤ r ∧ ∃ o : Obj, X.heap[r]? = some o ∧ o.isCells = false)) (h : rowK.Own B X v L) : rowK.Own B Y v L :=
  rowK.own_local h fun g hgo => hg.block g (rowK.own_lt h g hgo).2 (fun e => by
    rcases hr g e.symm with h1 | ⟨_, o, h2, h3⟩
    · have := (rowK.own_lt h g hgo).1; omega
    · obtain ⟨c, hc⟩ := rowK.own_tag h hgo
      rw [hc] at h2
      cases h2
      cases h3)
theorem still_keeps {B b : Nat} {w X Y : World} {row : Option Nat} (hb : w.heap.size ≤ b) (hB : w.heap.size ≤ B) (hg : X.grownBy Y row) (hr : ∀ r, row = some r → r = b ∨ (B ≤ r ∧ ∃ o : Obj, X.heap[r]? = some o ∧ o.isCells = false)) (h : Keeps w X) : Keeps w Y :=
  Below.grown h hg h.size fun k e => by rcases hr k e with h1 | ⟨h1, _⟩ <;> omega
/-- Between two lines. -/
def ParI (w : World) (m : Nat) (pre : List (List UInt8)) (W : World) : Prop :=
  ∃ (st : PS) (p : Option Addr) (n c : Nat), m + 5 ≤ W.heap.size ∧ Runs st0 pre st ∧ st.n = pre.length ∧ Inv st pre.flatten ∧ st.rows.length = n ∧ Boxed W (m + 3) 3 (.int .i64 ((pre.length + 1 : Nat) : Int)) ∧
    W.heap[m]? = some (.cells #[.int .i64 0, .int .i64 0, .slice none 0 0] tSt (0, 0)) ∧ W.heap[m + 1]? = some (.cells #[.int .i64 0, .int .i64 0, .int .i64 0] tRj (0, 0)) ∧
    W.heap[m + 2]? = some (rdBox (nextS st) st.seq p n c (totA st.rows)) ∧ rowK.Own (m + 5) W (.slice p n c) st.rows ∧ Keeps w W
/-- A line was wrong. -/
def ParX (w : World) (m : Nat) (l : List UInt8) (q : List (List UInt8)) (W : World) : Prop :=
  ∃ (a b : Nat) (c : Int), parseM l = .error (a, b, c) ∧ W.heap[m]? = some (.cells #[.int .i64 0, .int .i64 0, .slice none 0 0] tSt (0, 0)) ∧
    W.heap[m + 1]? = some (.cells #[.int .i64 (a : Int), .int .i64 (b : Int), .int .i64 c] tRj (0, 0)) ∧ Keeps w W
theorem parI_stays (w : World) (m : Nat) (hm : w.heap.size = m) : Stays (m + 5) (m + 4) (ParI w m) := by
  rintro pre X Y row ⟨st, p, n, c, h0, h1, h2, h3, h4, h5, h6, h7, h8, h9, h10⟩ hg hr
  exact ⟨st, p, n, c, Nat.le_trans h0 hg.size, h1, h2, h3, h4, still_block hg hr (by omega) (by omega) h5, still_block hg hr (by omega) (by omega) h6, still_block hg hr (by omega) (by omega) h7, still_block hg hr (by omega) (by omega) h8, still_own (by omega) hg hr h9, still_keeps (by omega) (by omega) hg hr h10⟩
theorem parX_stays (w : World) (m : Nat) (l : List UInt8) (hm : w.heap.size = m) : Stays (m + 5) (m + 4) (ParX w m l) := by
  rintro q X Y row ⟨a, b, c, h1, h2, h3, h4⟩ hg hr
  exact ⟨a, b, c, h1, still_block hg hr (by omega) (by omega) h2, still_block hg hr (by omega) (by omega) h3, still_keeps (by omega) (by omega) hg hr h4⟩
theorem lines_place {l : List UInt8} {pre rest : List (List UInt8)} {x : List UInt8} (h : linesL l = pre ++ x :: rest) (hl : l.length ≤ 65536) : 1 ≤ x.length ∧ x.length ≤ 65536 ∧ pre.length < 65536 := by
  have hx : x ∈ linesL l := by rw [h]; simp
  have e := congrArg List.length (lines_flat _ l (Nat.le_refl _))
  have h3 : x.length ≤ (linesL l).flatten.length := (List.sublist_flatten_of_mem hx).length_le
  have h4 := lines_count _ l (Nat.le_refl _)
  rw [h] at h4
  simp at h4
  exact ⟨line_pos _ _ (Nat.le_refl _) x hx, by omega, by omega⟩
theorem six_same (W : World) (r : Nat) (a0 a1 a2 b0 b1 b2 : Value) : (sixW W r a0 a1 a2 b0 b1 b2).os = W.os ∧ (sixW W r a0 a1 a2 b0 b1 b2).tape = W.tape ∧ (sixW W r a0 a1 a2 b0 b1 b2).output = W.output := by
  have k := ((((((Below.refl 0 W).setCell (p := ⟨r, 0, none⟩) (Nat.zero_le _) a0).setCell (p := ⟨r, 1, none⟩) (Nat.zero_le _) a1).setCell (p := ⟨r, 2, none⟩) (Nat.zero_le _) a2).setCell (p := ⟨r + 1, 0, none⟩) (Nat.zero_le _) b0).setCell (p := ⟨r + 1, 1, none⟩) (Nat.zero_le _) b1).setCell (p := ⟨r + 1, 2, none⟩) (Nat.zero_le _) b2
  exact ⟨k.os, k.tape, k.output⟩
theorem drew_parts (V : World) : V.drew.heap = V.heap ∧ V.drew.os = V.os ∧ V.drew.tape = V.tape ∧ V.drew.output = V.output := ⟨rfl, rfl, rfl, rfl⟩
/-- The world behind the return: both results stored, the loop's block shut. -/
theorem fin_world {w W V : World} {x0 x1 x2 y0 y1 y2 : Value} {D : Nat} (hD : D = w.heap.size + 5) (hK : W.heap[D]? = some (.deferred (some []))) (h0 : W.heap[w.heap.size]? = some (.cells #[x0, x1, x2] tSt (0, 0))) (h1 : W.heap[w.heap.size + 1]? = some (.cells #[y0, y1, y2] tRj (0, 0))) (k : Keeps w W) (a0 a1 a2 b0 b1 b2 : Value)
    (hV : V.heap = (sixW W w.heap.size a0 a1 a2 b0 b1 b2).heap) (ho : V.os = W.os) (ht : V.tape = W.tape) (hu : V.output = W.output) :
    V.heap[D]? = some (.deferred (some [])) ∧
    (((V.putObj D (.deferred none)).cell? ⟨w.heap.size, 0, none⟩ = some a0 ∧ (V.putObj D (.deferred none)).cell? ⟨w.heap.size, 1, none⟩ = some a1 ∧ (V.putObj D (.deferred none)).cell? ⟨w.heap.size, 2, none⟩ = some a2) ∧
      ((V.putObj D (.deferred none)).cell? ⟨w.heap.size + 1, 0, none⟩ = some b0 ∧ (V.putObj D (.deferred none)).cell? ⟨w.heap.size + 1, 1, none⟩ = some b1 ∧ (V.putObj D (.deferred none)).cell? ⟨w.heap.size + 1, 2, none⟩ = some b2)) ∧
    Keeps w (V.putObj D (.deferred none)) ∧ ∀ v L, rowK.Own (w.heap.size + 5) W v L → rowK.Own (w.heap.size + 5) (V.putObj D (.deferred none)) v L := by
  have far : ∀ j, j ≠ w.heap.size → j ≠ w.heap.size + 1 → V.heap[j]? = W.heap[j]? := fun j j0 j1 => by
    rw [hV]
    exact (three_far (n := w.heap.size + 1) j1 b0 b1 b2).trans (three_far (n := w.heap.size) j0 a0 a1 a2)
  have hKV : V.heap[D]? = some (.deferred (some [])) := (far D (by omega) (by omega)).trans hK
  have e0 : V.heap[w.heap.size]? = some (.cells #[a0, a1, a2] tSt (0, 0)) := by
    rw [hV]
    exact (three_far (W := ((W.setCell ⟨w.heap.size, 0, none⟩ a0).setCell ⟨w.heap.size, 1, none⟩ a1).setCell ⟨w.heap.size, 2, none⟩ a2) (n := w.heap.size + 1) (m := w.heap.size) (by omega) b0 b1 b2).trans (three_setG h0 a0 a1 a2)
  have e1 : V.heap[w.heap.size + 1]? = some (.cells #[b0, b1, b2] tRj (0, 0)) := by
    rw [hV]
    exact three_setG ((three_far (W := W) (n := w.heap.size) (m := w.heap.size + 1) (by omega) a0 a1 a2).trans h1) b0 b1 b2
  have p0 : (V.putObj D (.deferred none)).heap[w.heap.size]? = _ := (World.putObj_heap_other (by omega)).trans e0
  have p1 : (V.putObj D (.deferred none)).heap[w.heap.size + 1]? = _ := (World.putObj_heap_other (by omega)).trans e1
  have hs : V.heap.size = W.heap.size := by rw [hV]; simp
  have kv : Keeps w V := ⟨ho.trans k.os, ht.trans k.tape, hu.trans k.output, by rw [hs]; exact k.size, fun j hj => (far j (by omega) (by omega)).trans (k.block j hj)⟩
  refine ⟨hKV, ⟨(three_atG p0).1, (three_atG p1).1⟩, Below.grown kv (grownBy_putObj' V D (.deferred none)) kv.size (fun j e => by cases e; omega), fun v L h => ?_⟩
  have h2 : rowK.Own (w.heap.size + 5) V v L := rowK.own_local h fun g hg => by
    have := (rowK.own_lt h g hg).1
    exact far g (by omega) (by omega)
  exact still_own (b := w.heap.size) (by omega) (grownBy_putObj' V D (.deferred none)) (fun r e => by cases e; exact Or.inr ⟨by omega, _, hKV, rfl⟩) h2
theorem err_end {w W w1 : World} {D : Nat} {l : List UInt8} {I : List (List UInt8) → World → Prop} {a b : Nat} {c A : Int} (hA : A = (a : Int)) (hD : D = w.heap.size + 5) (hw1 : D ≤ w1.heap.size) (hP : parseM l = .error (a, b, c)) (hk : KeepsFrom D W w1) (hb : w1.heap[w.heap.size + 4]? = W.heap[w.heap.size + 4]?) (k : Keeps w w1)
    (h0 : w1.heap[w.heap.size]? = some (.cells #[.int .i64 0, .int .i64 0, .slice none 0 0] tSt (0, 0))) (h1 : w1.heap[w.heap.size + 1]? = some (.cells #[.int .i64 0, .int .i64 0, .int .i64 0] tRj (0, 0))) (act : Act) (xs : List (List UInt8)) :
    roundEnd D (w.heap.size + 4) I (ParX w w.heap.size l) xs W .ret act (sixW w1 w.heap.size (.int .i64 0) (.int .i64 0) (.slice none 0 0) (.int .i64 A) (.int .i64 (b : Int)) (.int .i64 c)).drew := by
  subst hA
  obtain ⟨V, hV⟩ : ∃ V, ((w1.setCell ⟨w.heap.size, 0, none⟩ (.int .i64 0)).setCell ⟨w.heap.size, 1, none⟩ (.int .i64 0)).setCell ⟨w.heap.size, 2, none⟩ (.slice none 0 0) = V := ⟨_, rfl⟩
  have v0 : ∀ j, j ≠ w.heap.size → V.heap[j]? = w1.heap[j]? := fun j hj => by rw [← hV]; exact three_far hj (.int .i64 0) (.int .i64 0) (.slice none 0 0)
  have v1 : V.heap[w.heap.size]? = some (.cells #[.int .i64 0, .int .i64 0, .slice none 0 0] tSt (0, 0)) := by rw [← hV]; exact three_setG h0 (.int .i64 0) (.int .i64 0) (.slice none 0 0)
  have v2 : Keeps w V := by rw [← hV]; exact three_keepsG k (Nat.le_refl _) (.int .i64 0) (.int .i64 0) (.slice none 0 0)
  have v3 : V.heap.size = w1.heap.size := by rw [← hV]; simp
  show roundEnd D (w.heap.size + 4) I (ParX w w.heap.size l) xs W .ret act (((((w1.setCell ⟨w.heap.size, 0, none⟩ (.int .i64 0)).setCell ⟨w.heap.size, 1, none⟩ (.int .i64 0)).setCell ⟨w.heap.size, 2, none⟩ (.slice none 0 0)).setCell ⟨w.heap.size + 1, 0, none⟩ (.int .i64 (a : Int))).setCell ⟨w.heap.size + 1, 1, none⟩ (.int .i64 (b : Int)) |>.setCell ⟨w.heap.size + 1, 2, none⟩ (.int .i64 c)).drew
  rw [hV]
  obtain ⟨U, hU⟩ : ∃ U, ((V.setCell ⟨w.heap.size + 1, 0, none⟩ (.int .i64 (a : Int))).setCell ⟨w.heap.size + 1, 1, none⟩ (.int .i64 (b : Int))).setCell ⟨w.heap.size + 1, 2, none⟩ (.int .i64 c) = U := ⟨_, rfl⟩
  rw [hU]
  have u0 : ∀ j, j ≠ w.heap.size + 1 → U.heap[j]? = V.heap[j]? := fun j hj => by rw [← hU]; exact three_far hj (.int .i64 (a : Int)) (.int .i64 (b : Int)) (.int .i64 c)
  have u1 : U.heap[w.heap.size + 1]? = some (.cells #[.int .i64 (a : Int), .int .i64 (b : Int), .int .i64 c] tRj (0, 0)) := by rw [← hU]; exact three_setG ((v0 _ (by omega)).trans h1) (.int .i64 (a : Int)) (.int .i64 (b : Int)) (.int .i64 c)
  have u2 : Keeps w U := by rw [← hU]; exact three_keepsG v2 (Nat.le_succ _) (.int .i64 (a : Int)) (.int .i64 (b : Int)) (.int .i64 c)
  have u3 : U.heap.size = V.heap.size := by rw [← hU]; simp
  clear hU hV
  have us : w1.heap.size ≤ U.drew.heap.size := Nat.le_of_eq ((u3.trans v3).symm)
  exact ⟨⟨Nat.le_trans hk.size us, fun j o hj ho hc => (u0 j (by omega)).trans ((v0 j (by omega)).trans (hk.same j o hj ho hc))⟩, a, b, c, hP, (u0 _ (by omega)).trans v1, u1, ⟨u2.os, u2.tape, u2.output, u2.size, u2.block⟩⟩
set_option maxRecDepth 100000 in
set_option maxHeartbeats 16000000 in
theorem parse_in (n : Nat) (hn : 4 ≤ n) (s : ByteArray) (w : World) (hs : s.size ≤ 65536) (hp : HasP w) :
    CallsIn Fence.wide n Tryz.prog 7 #[.string s] w (SetOut s.data.toList w) := by
  have h1 : 1 ≤ n := by omega
  have hd : decide ((65536 : Int) < (s.size : Int)) = false := decide_eq_false (by omega)
  refine callsIn_of_wp_marks Tryz.func7 rfl trivial ?_ rfl
  simp only [Tryz.ntmps7, List.size_toArray, List.length_cons, List.length_nil, Nat.reduceAdd, Nat.reduceSub, Array.replicate_succ, Array.replicate_zero, List.push_toArray, List.append_toArray, List.nil_append, List.cons_append]
  gi_wp2_with (refine ⟨trivial, ?_⟩; gi_at_call 22; refine (lines_in (n - 1) s _).mono ?_; rintro e w' ⟨rfl, rfl⟩)
  have s1 : (w.alloc zSt).heap.size = w.heap.size + 1 := by simp
  have s2 : ((w.alloc zSt).alloc zRj).heap.size = w.heap.size + 2 := by simp
  have s3 : (((w.alloc zSt).alloc zRj).alloc (rdBox ⟨#[72]⟩ 0 none 0 0 0)).heap.size = w.heap.size + 3 := by simp
  have s4 : ((((w.alloc zSt).alloc zRj).alloc (rdBox ⟨#[72]⟩ 0 none 0 0 0)).alloc (.cells #[.int .i64 1] 3)).heap.size = w.heap.size + 4 := by simp
  have s5 : (((((w.alloc zSt).alloc zRj).alloc (rdBox ⟨#[72]⟩ 0 none 0 0 0)).alloc (.cells #[.int .i64 1] 3)).alloc (.cells #[.string s] tStr)).heap.size = w.heap.size + 5 := by simp
  have b0 := heap_alloc_new w zSt
  have b1 := heap_alloc_new (w.alloc zSt) zRj
  have b2 := heap_alloc_new ((w.alloc zSt).alloc zRj) (rdBox ⟨#[72]⟩ 0 none 0 0 0)
  have b3 := heap_alloc_new (((w.alloc zSt).alloc zRj).alloc (rdBox ⟨#[72]⟩ 0 none 0 0 0)) (.cells #[.int .i64 1] 3)
  have b4 := heap_alloc_new ((((w.alloc zSt).alloc zRj).alloc (rdBox ⟨#[72]⟩ 0 none 0 0 0)).alloc (.cells #[.int .i64 1] 3)) (.cells #[.string s] tStr)
  rw [s1] at b1
  rw [s2] at b2
  rw [s3] at b3
  rw [s4] at b4
  have k4 := ky_box ((((w.alloc zSt).alloc zRj).alloc (rdBox ⟨#[72]⟩ 0 none 0 0 0)).alloc (.cells #[.int .i64 1] 3)) (.cells #[.string s] tStr)
  have k3 := Keeps.trans (ky_box (((w.alloc zSt).alloc zRj).alloc (rdBox ⟨#[72]⟩ 0 none 0 0 0)) (.cells #[.int .i64 1] 3)) k4
  have k2 := Keeps.trans (ky_box ((w.alloc zSt).alloc zRj) (rdBox ⟨#[72]⟩ 0 none 0 0 0)) k3
  have k1 := Keeps.trans (ky_box (w.alloc zSt) zRj) k2
  have k0 := Keeps.trans (ky_box w zSt) k1
  have B0 := (k1.block w.heap.size (by rw [s1]; omega)).trans b0
  have B1 := (k2.block (w.heap.size + 1) (by rw [s2]; omega)).trans b1
  have B2 := (k3.block (w.heap.size + 2) (by rw [s3]; omega)).trans b2
  have B3 := (k4.block (w.heap.size + 3) (by rw [s4]; omega)).trans b3
  obtain ⟨w0, hw0⟩ : ∃ W, ((((w.alloc zSt).alloc zRj).alloc (rdBox ⟨#[72]⟩ 0 none 0 0 0)).alloc (.cells #[.int .i64 1] 3)).alloc (.cells #[.string s] tStr) = W := ⟨_, rfl⟩
  rw [hw0] at s5 B0 B1 B2 B3 b4 k0
  have H0 : ParI w w.heap.size [] w0 := ⟨st0, none, 0, 0, by rw [s5]; exact Nat.le_refl _, Runs.nil _, rfl, Or.inl ⟨rfl, rfl, rfl, rfl⟩, rfl, B3, B0, B1, B2, rowK.own_nil _ _, k0⟩
  have K0 := Lib.hid k0
  clear s1 s2 s3 s4 b0 b1 b2 b3 k0 k1 k2 k3 k4 B0 B1 B2 B3
  show Code.wpIn _ _ _ _ _ _ (((((w.alloc zSt).alloc zRj).alloc (rdBox ⟨#[72]⟩ 0 none 0 0 0)).alloc (.cells #[.int .i64 1] 3)).alloc (.cells #[.string s] tStr))
  rw [hw0]
  clear hw0
  refine wp_range_all (n := n) h1 (gf := 53) (lb := #[.pointer (some ⟨w.heap.size + 4, 0, none⟩)]) rfl (enters_of Tryz.func53 (by kernel_rfl) rfl)
    (enc := fun l : List UInt8 => Value.string ⟨l.toArray⟩) (all := linesL s.data.toList) (b := w.heap.size + 4) (Start := fun W => Boxed W (w.heap.size + 4) tStr (.string s)) (lines1_in (n - 1) (by omega) (w.heap.size + 4) s hs)
    (by rw [s5]; omega) (fun W h => h.trans b4) rfl (ParI w w.heap.size) (ParX w w.heap.size s.data.toList) (by rw [s5]; exact parI_stays w _ rfl) (by rw [s5]; exact parX_stays w _ _ rfl) H0
    (fun x => { tmps := #[.string s, undef, .pointer (some ⟨w.heap.size, 0, none⟩), .pointer (some ⟨w.heap.size + 1, 0, none⟩), .pointer (some ⟨w.heap.size + 1 + 1, 0, none⟩), .pointer (some ⟨w.heap.size + 1 + 1 + 1, 0, none⟩), .string ⟨x.toArray⟩, undef, undef, .string s, .int .i64 (s.size : Int), .bool false, undef, undef, .agg #[.int .i64 0, .int .i64 0, .slice none 0 0], .agg #[.string ⟨#[72]⟩, .int .i64 0, .int .i64 0, .slice none 0 0, .int .i64 0], .string s, .func (.func 53) #[] #[.pointer (some ⟨w.heap.size + 1 + 1 + 1 + 1, 0, none⟩)], .string ⟨x.toArray⟩, undef, undef, undef, undef, undef, undef, undef, undef, undef, undef, undef, undef, undef, undef, undef, undef, undef, undef, undef, undef, undef, undef, undef], defers := [] }) ?assign ?body ?done ?stop
  case assign =>
    intro l x W K hK
    gi_wp2
    exact hK
  case body =>
    rintro l pre x rest W hall ⟨st, p, n', c, q0, q1, q2, q3, q4, q5, q6, q7, q8, q9, q10⟩
    obtain ⟨x1, x2, x3⟩ := lines_place hall (by rw [len_data]; exact hs)
    have VA : st.rows.length ≤ 400 ∧ ∀ y ∈ st.rows, Row1 0 y := by
      rcases q3 with ⟨_, h, _⟩ | ⟨_, h, _⟩
      · rw [h]; simp
      · exact ⟨h.good.len, h.good.each⟩
    obtain ⟨S, hS⟩ : ∃ S : ByteArray, ⟨x.toArray⟩ = S := ⟨_, rfl⟩
    have C := Lib.hid (se_read (w.heap.size + 1 + 1) (w.heap.size + 5) st x S p n' c W (by rw [← hS, data_mk]) (by rw [← hS, size_mk]; exact x1) (by rw [← hS, size_mk]; exact x2) q4 VA.1 VA.2 q8 q9 (by omega) q0 (hp.keeps q10))
    have OLT : Hid (∀ g, (Value.slice p n' c).ownBlock = some g → w.heap.size + 5 ≤ g ∧ g < W.heap.size) := Lib.hid fun g hg => rowK.own_lt q9 g hg
    have OTAG : Hid (∀ g, (Value.slice p n' c).ownBlock = some g → ∃ a, W.heap[g]? = some (.cells a rowK.t (0, 0))) := Lib.hid fun g hg => rowK.own_tag q9 hg
    have Q0 := Lib.hid q0
    have Q1 := Lib.hid q1
    have Q2 := Lib.hid q2
    have Q3 := Lib.hid q3
    have Q5 := Lib.hid q5
    have Q6 := Lib.hid q6
    have Q7 := Lib.hid q7
    have Q10 := Lib.hid q10
    have HX := Lib.hid (And.intro x1 (And.intro x2 x3))
    have HALL := Lib.hid hall
    clear q0 q1 q2 q3 q4 q5 q6 q7 q8 q9 q10 VA x1 x2 x3 hall H0
    rw [hS]
    gi_wp2_with fail
    refine ⟨trivial, (fun _ => by omega), ?_⟩
    refine (CallsIn.inRound l (callsIn_wide.2 C.out)).mono ?_
    rintro e w1 hro
    obtain ⟨ht, hres⟩ := hro
    have HT := Lib.hid ht
    have FAR : ∀ k, k < w.heap.size + 5 → k ≠ w.heap.size + 2 → w1.heap[k]? = W.heap[k]? := fun k h1 h2 => ht.same k (Nat.lt_of_lt_of_le h1 Q0.out) h2 (fun e => by have := (OLT.out k e.symm).1; omega)
    have HF := Lib.hid FAR
    have e5 := (FAR (w.heap.size + 3) (by omega) (by omega)).trans Q5.out
    have KFR : Hid (KeepsFrom w0.heap.size W w1) := Lib.hid ⟨ht.size, fun k o hk ho hc => (ht.same k (Array.getElem?_eq_some_iff.1 ho).1 (by omega) (fun e => by
      obtain ⟨a, ha⟩ := OTAG.out k e.symm
      rw [ha] at ho
      cases ho
      cases hc)).trans ho⟩
    have KW : Hid (Keeps w w1) := Lib.hid (ht.keeps (n := 0) Q10.out (by omega) (fun j hj => by have := (OLT.out j hj).1; omega))
    clear FAR ht
    rcases hres with ⟨st', p', n2, c2, r1, rfl, r2, r3, r4⟩ | ⟨a, b, r1, r2, rfl⟩
    · obtain ⟨k1, hk1⟩ : ∃ k, pre.length + 1 = k := ⟨_, rfl⟩
      have kk : wrap64 ((k1 : Int) + 1) = ((k1 + 1 : Nat) : Int) := (i64w (by unfold top; omega) (by have := HX.out.2.2; unfold top; omega)).trans (by omega)
      rw [hk1] at e5
      have c5 : w1.cell? ⟨w.heap.size + 1 + 1 + 1, 0, none⟩ = some (.int .i64 (k1 : Int)) := Boxed.cell e5
      have f5 : w1.frozen? ⟨w.heap.size + 1 + 1 + 1, 0, none⟩ = false := Boxed.frozen e5
      have E5 := Lib.hid e5
      have R1 := Lib.hid r1
      have R2 := Lib.hid r2
      have R3 := Lib.hid r3
      have R4 := Lib.hid r4
      have HK1 := Lib.hid hk1
      clear e5 r1 r2 r3 r4 hk1
      gi_wp2
      rw [kk]
      refine ⟨KFR.out.trans ((KeepsOthers.setCell _ _ _).from _), (Below.heap_setCell w1 ⟨w.heap.size + 1 + 1 + 1, 0, none⟩ _ (w.heap.size + 4) (by show w.heap.size + 4 ≠ w.heap.size + 1 + 1 + 1; omega)).trans (HF.out (w.heap.size + 4) (by omega) (by omega)), ?_⟩
      have far : ∀ k o, k ≠ w.heap.size + 3 → w1.heap[k]? = some o → (w1.setCell ⟨w.heap.size + 1 + 1 + 1, 0, none⟩ (.int .i64 ((k1 + 1 : Nat) : Int))).heap[k]? = some o := fun k o hk h => (Below.heap_setCell w1 ⟨w.heap.size + 1 + 1 + 1, 0, none⟩ _ k hk).trans h
      refine ⟨st', p', n2, c2, ?_, Runs.trans Q1.out (Runs.one R1.out), ?_, ?_, R2.out, ?_, far _ _ (by omega) ((HF.out _ (by omega) (by omega)).trans Q6.out), far _ _ (by omega) ((HF.out _ (by omega) (by omega)).trans Q7.out), far _ _ (by omega) R3.out, ?_, ?_⟩
      · exact Nat.le_trans Q0.out (Nat.le_trans HT.out.size (grownBy_setCell' w1 (w.heap.size + 1 + 1 + 1) _).size)
      · rw [step_n R1.out, Q2.out]; simp
      · have := step_inv R1.out Q3.out
        rw [List.flatten_append]
        simpa using this
      · have := Boxed.set (.int .i64 ((k1 + 1 : Nat) : Int)) E5.out
        rw [List.length_append, List.length_singleton, HK1.out]
        exact this
      · exact rowK.own_local R4.out fun g hg => Below.heap_setCell w1 ⟨w.heap.size + 1 + 1 + 1, 0, none⟩ _ g (by have := (rowK.own_lt R4.out g hg).1; show g ≠ w.heap.size + 1 + 1 + 1; omega)
      · exact Below.setCell KW.out (p := ⟨w.heap.size + 1 + 1 + 1, 0, none⟩) (by show w.heap.size ≤ w.heap.size + 1 + 1 + 1; omega) _
    · have e5' : Boxed w1 (w.heap.size + 3) 3 _ := e5
      have c5 : w1.cell? ⟨w.heap.size + 1 + 1 + 1, 0, none⟩ = some (.int .i64 ((pre.length + 1 : Nat) : Int)) := Boxed.cell e5
      obtain ⟨⟨y0, y1, y2⟩, g0, g1, g2⟩ := three_atG ((HF.out w.heap.size (by omega) (by omega)).trans Q6.out)
      obtain ⟨⟨z0, z1, z2⟩, f0, f1, f2⟩ := three_atG ((HF.out (w.heap.size + 1) (by omega) (by omega)).trans Q7.out)
      have tb : (b == 0) = false := by rw [beq_eq_false_iff_ne]; omega
      have R1 := Lib.hid r1
      have R2 := Lib.hid r2
      have R0 : Hid (parseM s.data.toList = .error (pre.length + 1, a, b)) := Lib.hid (by
        unfold parseM
        rw [if_neg (by rw [len_data]; omega), HALL.out, Q1.out.run, runL, r1, Q2.out])
      have PE : Hid (∀ act xs, roundEnd w0.heap.size (w.heap.size + 4) (ParI w w.heap.size) (ParX w w.heap.size s.data.toList) xs W .ret act (sixW w1 w.heap.size (.int .i64 0) (.int .i64 0) (.slice none 0 0) (.int .i64 ((pre.length : Int) + 1)) (.int .i64 (a : Int)) (.int .i64 b)).drew) :=
        Lib.hid (err_end (a := pre.length + 1) (by omega) s5 (Nat.le_trans (by rw [s5]; exact Q0.out) HT.out.size) R0.out KFR.out (HF.out _ (by omega) (by omega)) KW.out ((HF.out _ (by omega) (by omega)).trans Q6.out) ((HF.out _ (by omega) (by omega)).trans Q7.out))
      clear e5 e5' r1 r2 HF HT KFR KW R0 R1 R2 HALL HX Q1 Q2 Q3 Q5 Q6 Q7 Q10 OLT OTAG
      gi_wp2
      have hmix : Tryz.prog.follows .mixedOrders = true := by kernel_rfl
      gi_region_with_o (fail)
      all_goals gi_wp2
      all_goals exact PE.out _ _
  case done =>
    rintro W ⟨st, p, n', c, q0, q1, q2, q3, q4, q5, q6, q7, q8, q9, q10⟩ hK
    have PM : Hid (parseM s.data.toList = runL st []) := Lib.hid (by
      unfold parseM
      rw [if_neg (by rw [len_data]; omega)]
      have := q1.run []
      rwa [List.append_nil] at this)
    have VA : st.rows.length ≤ 400 := by
      rcases q3 with ⟨_, h, _⟩ | ⟨_, h, _⟩
      · rw [h]; simp
      · exact h.good.len
    obtain ⟨⟨z0, z1, z2, z3, z4⟩, f0, f1, f2, f3, f4⟩ := five_atG (show W.heap[w.heap.size + 1 + 1]? = _ from q8)
    obtain ⟨⟨y0, y1, y2⟩, g0, g1, g2⟩ := three_atG q6
    obtain ⟨⟨x0, x1, x2⟩, d0, d1, d2⟩ := three_atG q7
    have c5 : W.cell? ⟨w.heap.size + 1 + 1 + 1, 0, none⟩ = some (.int .i64 (((linesL s.data.toList).length + 1 : Nat) : Int)) := Boxed.cell q5
    have Q0 := Lib.hid q0
    have Q2 := Lib.hid q2
    have Q4 := Lib.hid q4
    have Q6 := Lib.hid q6
    have Q7 := Lib.hid q7
    have Q9 := Lib.hid q9
    have Q10 := Lib.hid q10
    have HK := Lib.hid hK
    have HVA := Lib.hid VA
    obtain ⟨NX, hNX⟩ : ∃ X, nextS st = X := ⟨_, rfl⟩
    rw [hNX] at z0
    obtain ⟨en, hen⟩ : ∃ b, st.ended = b := ⟨_, rfl⟩
    have HEN := Lib.hid hen
    clear q0 q1 q2 q3 q4 q5 q6 q7 q8 q9 q10 hK VA H0
    cases en with
    | true =>
      obtain rfl : NX = ⟨#[]⟩ := by rw [← hNX]; unfold nextS; rw [hen]; rfl
      have E : Hid (parseM s.data.toList = .ok (st.seq, st.rows)) := Lib.hid (by rw [PM.out, runL, HEN.out, if_pos rfl])
      clear hNX hen
      gi_wp2
      obtain ⟨hKV, ⟨⟨e0, e1, e2⟩, e3, e4, e5⟩, kk, oo⟩ := fin_world (w := w) (W := W) (V := sixW W w.heap.size (.int .i64 0) (.int .i64 st.seq) (.slice p n' c) (.int .i64 0) (.int .i64 0) (.int .i64 0)) s5 HK.out Q6.out Q7.out Q10.out (.int .i64 0) (.int .i64 st.seq) (.slice p n' c) (.int .i64 0) (.int .i64 0) (.int .i64 0) rfl (six_same _ _ _ _ _ _ _ _).1 (six_same _ _ _ _ _ _ _ _).2.1 (six_same _ _ _ _ _ _ _ _).2.2
      refine ⟨by simp, .inl ⟨_, _, rfl, run_takeDeferred hKV, ?_⟩⟩
      refine ⟨.tuple #[.agg #[.int .i64 0, .int .i64 st.seq, .slice p n' c], .agg #[.int .i64 0, .int .i64 0, .int .i64 0]], by simp [results, Tryz.results7, go_sem, e0, e1, e2, e3, e4, e5], ?_⟩
      exact Or.inl ⟨st.seq, st.rows, .slice p n' c, E.out, rfl, own_rows (oo _ _ Q9.out) (by have := HVA.out; omega), kk⟩
    | false =>
      have NN : NX ≠ ⟨#[]⟩ := by
        rw [← hNX]; unfold nextS; rw [hen, if_neg (by simp)]
        split <;> decide
      have E : Hid (parseM s.data.toList = .error ((linesL s.data.toList).length + 1, 1, 7)) := Lib.hid (by rw [PM.out, runL, HEN.out, if_neg (by simp), Q2.out])
      obtain ⟨t1, t2, t3⟩ := sv_ne (S := NX) (l := []) (fun e => NN (bytes_inj e))
      have t4 : ¬ NX = ByteArray.empty := NN
      clear hNX hen NN
      gi_wp2
      gi_region
      gi_wp2
      obtain ⟨hKV, ⟨⟨e0, e1, e2⟩, e3, e4, e5⟩, kk, oo⟩ := fin_world (w := w) (W := W) (V := (sixW W w.heap.size (.int .i64 0) (.int .i64 0) (.slice none 0 0) (.int .i64 (((linesL s.data.toList).length : Int) + 1)) (.int .i64 1) (.int .i64 7)).drew) s5 HK.out Q6.out Q7.out Q10.out (.int .i64 0) (.int .i64 0) (.slice none 0 0) (.int .i64 (((linesL s.data.toList).length : Int) + 1)) (.int .i64 1) (.int .i64 7) (drew_parts _).1 ((drew_parts _).2.1.trans (six_same _ _ _ _ _ _ _ _).1) ((drew_parts _).2.2.1.trans (six_same _ _ _ _ _ _ _ _).2.1) ((drew_parts _).2.2.2.trans (six_same _ _ _ _ _ _ _ _).2.2)
      refine ⟨by simp, .inl ⟨_, _, rfl, run_takeDeferred hKV, ?_⟩⟩
      refine ⟨.tuple #[.agg #[.int .i64 0, .int .i64 0, .slice none 0 0], .agg #[.int .i64 (((linesL s.data.toList).length : Int) + 1), .int .i64 1, .int .i64 7]], by simp [results, Tryz.results7, go_sem, e0, e1, e2, e3, e4, e5], ?_⟩
      exact Or.inr ⟨(linesL s.data.toList).length + 1, 1, 7, E.out, rfl, kk⟩
  case stop =>
    rintro q W ⟨a, b, c, q0, q1, q2, q3⟩ hK
    have p0 : (W.putObj w0.heap.size (.deferred none)).heap[w.heap.size]? = _ := (World.putObj_heap_other (by omega)).trans q1
    have p1 : (W.putObj w0.heap.size (.deferred none)).heap[w.heap.size + 1]? = _ := (World.putObj_heap_other (by omega)).trans q2
    obtain ⟨e0, e1, e2⟩ := (three_atG p0).1
    obtain ⟨e3, e4, e5⟩ := (three_atG p1).1
    gi_wp2
    refine ⟨by simp, .inl ⟨_, _, rfl, run_takeDeferred hK, ?_⟩⟩
    refine ⟨.tuple #[.agg #[.int .i64 0, .int .i64 0, .slice none 0 0], .agg #[.int .i64 (a : Int), .int .i64 (b : Int), .int .i64 c]], by simp [results, Tryz.results7, go_sem, e0, e1, e2, e3, e4, e5], ?_⟩
    exact Or.inr ⟨a, b, c, q0, rfl, Below.grown q3 (grownBy_putObj' W w0.heap.size (.deferred none)) q3.size (fun j e => by cases e; omega)⟩
set_option maxRecDepth 100000 in
set_option maxHeartbeats 4000000 in
theorem se_parse_long (s : ByteArray) (w : World) (hs : s.size ≤ maxLen) (hbig : ¬ s.size ≤ 65536) : Calls Tryz.prog 7 #[.string s] w (SetOut s.data.toList w) := by
  have E : Hid (parseM s.data.toList = .error (1, 1, 8)) := Lib.hid (by unfold parseM; rw [if_pos (by rw [len_data]; omega)])
  unfold maxLen at hs
  have hd : decide ((65536 : Int) < (s.size : Int)) = true := decide_eq_true (by omega)
  have hd2 : (65536 : Int) < (s.size : Int) := by omega
  go_enter Tryz.func7, Tryz.ntmps7
  go_wp2_with fail
  have e0 := heap_alloc_new (w.alloc zSt) (.cells #[.int .i64 1, .int .i64 1, .int .i64 8] tRj)
  have s1 : (w.alloc zSt).heap.size = w.heap.size + 1 := by simp
  rw [s1] at e0
  have e1 := ((kept_alloc (Keeps.refl (w.alloc zSt)) (.cells #[.int .i64 1, .int .i64 1, .int .i64 8] tRj)).block w.heap.size (by simp)).trans (heap_alloc_new w zSt)
  obtain ⟨⟨a0, a1, a2⟩, _⟩ := three_atG e1
  obtain ⟨⟨b0, b1, b2⟩, _⟩ := three_atG e0
  exact bodyPost_ret (v := .tuple #[.agg #[.int .i64 0, .int .i64 0, .slice none 0 0], .agg #[.int .i64 1, .int .i64 1, .int .i64 8]]) (by simp [results, Tryz.results7, go_sem, a0, a1, a2, b0, b1, b2]) rfl (Or.inr ⟨1, 1, 8, E.out, rfl, kept_alloc (kept_alloc (Keeps.refl _) _) _⟩)
theorem se_parse (s : ByteArray) (w : World) (hp : HasP w) (hs : s.size ≤ maxLen) : Calls Tryz.prog 7 #[.string s] w (SetOut s.data.toList w) := by
  by_cases hbig : s.size ≤ 65536
  · exact (callsIn_wide (n := 4)).1 (parse_in 4 (Nat.le_refl _) s w hbig hp)
  · exact se_parse_long s w hs hbig
end Go.Proofs.YtomonhghioamfaaGreatDoor
