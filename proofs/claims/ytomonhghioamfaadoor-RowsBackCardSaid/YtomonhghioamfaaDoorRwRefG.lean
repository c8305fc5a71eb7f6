
/- The document's rows: Get. -/
import Derived.Test.YtomonhghioamfaaDoorRwRefM
import Derived.Test.YtomonhghioamfaaDoorRwRefP
import Derived.Test.YtomonhghioamfaaDoorRwGetM
import Derived.Test.YtomonhghioamfaaDoorHeldSteps
set_option linter.unusedVariables false
set_option linter.unusedSimpArgs false
namespace Go.Proofs.YtomonhghioamfaaDoor
open Go.ChangeShapes Go.WideShapes Go.ChangeAt Go.RowKit Bit Ky Rw Csv

/-- What Get leaves. -/
def GotS (l : List UInt8) (w : World) (e : Ending) (w' : World) : Prop := ∃ p s L v c, e = .returned (.tuple #[stV p s v, .int .i64 c]) ∧ IsS l p s L c ∧ RowsIn w' v L ∧ Keeps w w'
theorem three_set {W : World} {n : Nat} {x0 x1 x2 : Value} (h : W.heap[n]? = some (.cells #[x0, x1, x2] tSt (0, 0))) (a0 a1 a2 : Value) :
    (((W.setCell ⟨n, 0, none⟩ a0).setCell ⟨n, 1, none⟩ a1).setCell ⟨n, 2, none⟩ a2).heap[n]? = some (.cells #[a0, a1, a2] tSt (0, 0)) :=
  Joins.block_setCell (i := 2) (Joins.block_setCell (i := 1) (Joins.block_setCell (i := 0) h a0) a1) a2
theorem three_at {W : World} {n : Nat} {x0 x1 x2 : Value} (h : W.heap[n]? = some (.cells #[x0, x1, x2] tSt (0, 0))) :
    (W.cell? ⟨n, 0, none⟩ = some x0 ∧ W.cell? ⟨n, 1, none⟩ = some x1 ∧ W.cell? ⟨n, 2, none⟩ = some x2) ∧ (W.frozen? ⟨n, 0, none⟩ = false ∧ W.frozen? ⟨n, 1, none⟩ = false ∧ W.frozen? ⟨n, 2, none⟩ = false) :=
  ⟨⟨Joins.cell_of_block h 0, Joins.cell_of_block h 1, Joins.cell_of_block h 2⟩, Joins.unfrozen_of_block h 0, Joins.unfrozen_of_block h 1, Joins.unfrozen_of_block h 2⟩
theorem three_keeps {w W : World} {n : Nat} (h : Keeps w W) (hn : w.heap.size ≤ n) (a0 a1 a2 : Value) : Keeps w (((W.setCell ⟨n, 0, none⟩ a0).setCell ⟨n, 1, none⟩ a1).setCell ⟨n, 2, none⟩ a2) :=
  ((h.setCell (p := ⟨n, 0, none⟩) hn a0).setCell (p := ⟨n, 1, none⟩) hn a1).setCell (p := ⟨n, 2, none⟩) hn a2
def stZ : Obj := stBox 0 0 (.slice none 0 0)
theorem rsrc_one {w : World} {b : Nat} {x : R} (h : w.heap[b]? = some (.cells #[.int .i64 x.o, .int .i64 x.d, .int .i64 x.c, .int .i64 x.a, .int .i64 x.q] tRw (0, 0))) : rowK.Src w (.slice (some ⟨b, 0, none⟩) 1 1) [x] := by
  refine ⟨_, 1, rfl, (fun e => by cases e), fun a ha j u hu => ?_⟩
  cases ha
  rw [addr_of, Joins.cell_of_block h j]
  have e : rowK.row [x] = [.int .i64 x.o, .int .i64 x.d, .int .i64 x.c, .int .i64 x.a, .int .i64 x.q] := rfl
  rw [e] at hu
  rw [← hu]
  simp
theorem nums_len (ns : List Nat) : ns.length ≤ (ns.flatMap sev).length := by
  induction ns with
  | nil => simp
  | cons n r ih =>
    have := sev_pos n
    rw [List.flatMap_cons, List.length_append, List.length_cons]
    omega
theorem wrap_small {n : Nat} (h : n ≤ 1099511627776) : wrap64 (n : Int) = (n : Int) ∧ IntKind.i64.wrap (n : Int) = (n : Int) := by
  refine ⟨i64w (by unfold top; omega) (by unfold top; omega), ?_⟩
  unfold IntKind.wrap
  simp [IntKind.signed, IntKind.bits]
  omega
theorem wrap_add {i t k : Nat} (h : i + t = k) (hi : i ≤ 1000000) (ht : t ≤ 10) : IntKind.i64.wrap ((i : Int) + (t : Int)) = (k : Int) ∧ wrap64 ((i : Int) + (t : Int)) = (k : Int) := by
  have e : (i : Int) + (t : Int) = (k : Int) := by omega
  rw [e]
  exact ⟨(wrap_small (by omega)).2, (wrap_small (by omega)).1⟩
theorem set_nums {W : World} {g tb i i1 i2 i3 i4 n0 n1 n2 n3 n4 : Nat} {v : Value} (h : W.cell? ⟨g, i, none⟩ = some (.int .u64 n0) ∧ W.cell? ⟨g, i1, none⟩ = some (.int .u64 n1) ∧ W.cell? ⟨g, i2, none⟩ = some (.int .u64 n2) ∧ W.cell? ⟨g, i3, none⟩ = some (.int .u64 n3) ∧ W.cell? ⟨g, i4, none⟩ = some (.int .u64 n4)) (hne : g ≠ tb) :
    (W.setCell ⟨tb, 2, none⟩ v).cell? ⟨g, i, none⟩ = some (.int .u64 n0) ∧ (W.setCell ⟨tb, 2, none⟩ v).cell? ⟨g, i1, none⟩ = some (.int .u64 n1) ∧ (W.setCell ⟨tb, 2, none⟩ v).cell? ⟨g, i2, none⟩ = some (.int .u64 n2) ∧ (W.setCell ⟨tb, 2, none⟩ v).cell? ⟨g, i3, none⟩ = some (.int .u64 n3) ∧ (W.setCell ⟨tb, 2, none⟩ v).cell? ⟨g, i4, none⟩ = some (.int .u64 n4) := by
  have e : ∀ k, (W.setCell ⟨tb, 2, none⟩ v).cell? ⟨g, k, none⟩ = W.cell? ⟨g, k, none⟩ := fun k => World.cell?_setCell_far W ⟨tb, 2, none⟩ ⟨g, k, none⟩ v (fun e => hne e.symm)
  rw [e, e, e, e, e]
  exact h
theorem grown_nums {W W' : World} {v : Value} {g i i1 i2 i3 i4 n0 n1 n2 n3 n4 : Nat} (h : W.cell? ⟨g, i, none⟩ = some (.int .u64 n0) ∧ W.cell? ⟨g, i1, none⟩ = some (.int .u64 n1) ∧ W.cell? ⟨g, i2, none⟩ = some (.int .u64 n2) ∧ W.cell? ⟨g, i3, none⟩ = some (.int .u64 n3) ∧ W.cell? ⟨g, i4, none⟩ = some (.int .u64 n4)) (k : W.grownBy W' v.ownBlock) (hne : some g ≠ v.ownBlock) :
    W'.cell? ⟨g, i, none⟩ = some (.int .u64 n0) ∧ W'.cell? ⟨g, i1, none⟩ = some (.int .u64 n1) ∧ W'.cell? ⟨g, i2, none⟩ = some (.int .u64 n2) ∧ W'.cell? ⟨g, i3, none⟩ = some (.int .u64 n3) ∧ W'.cell? ⟨g, i4, none⟩ = some (.int .u64 n4) := by
  have lt : g < W.heap.size := World.block_lt_of_cell? W _ h.1
  have e : ∀ t, W'.cell? ⟨g, t, none⟩ = W.cell? ⟨g, t, none⟩ := fun t => by unfold World.cell?; rw [k.block g lt hne]
  rw [e, e, e, e, e]
  exact h
theorem own_next {W : World} {tb j c : Nat} {p : Option Addr} {ns : List Nat} {x : R} (h : rowK.Own (tb + 1) W (.slice p (j + 1) c) (numL ns j ++ [x])) (hx : numR ns j = x) (hl : (numL ns j).length + 1 = j + 1) :
    rowK.Own (tb + 1) (W.setCell ⟨tb, 2, none⟩ (.slice p (j + 1) c)) (.slice p (j + 1) c) (numL ns (j + 1)) := by
  rw [numL_next, hx]
  have h' : rowK.Own (tb + 1) W (.slice p (numL ns j ++ [x]).length c) (numL ns j ++ [x]) := by rw [List.length_append, List.length_singleton, hl]; exact h
  exact rowK.own_local h fun g hg => Below.heap_setCell W ⟨tb, 2, none⟩ _ g (by
    have := (rowK.own_lt h' g (by rw [List.length_append, List.length_singleton, hl]; exact hg)).1
    show g ≠ tb
    omega)
theorem own_rowsM {B : Nat} {w : World} {v : Value} {L : List R} (h : rowK.Own B w v L) (hm : L.length ≤ maxLen) : RowsIn w v L := by
  rcases h.2 with ⟨rfl, h0⟩ | ⟨g, cap, cur, rfl, hb, hgb, r1, r2, r3, r4⟩
  · have : L = [] := List.length_eq_zero_iff.1 h0
    subst this
    exact rows_nil w
  · refine ⟨_, cap, rfl, hm, ⟨r1, fun e => by cases e⟩, fun j x hx => ⟨_, rfl, ?_⟩⟩
    have at_ : ∀ i u, (rwVals x)[i]? = some u → w.cell? ⟨g, j * 5 + i, none⟩ = some u := fun i u hu => RowK.own_at rowK h hx hu
    rw [addr_of]
    exact ⟨at_ 0 _ rfl, at_ 1 _ rfl, at_ 2 _ rfl, at_ 3 _ rfl, at_ 4 _ rfl⟩
/-- Rows of its own stay, whatever is stored into a block ahead of them. -/
theorem rows_far {wr W : World} {B r j c : Nat} {p : Option Addr} {L : List R} {a0 a1 a2 : Value} (h : RowsIn W (.slice p j c) L) (o : rowK.Own B wr (.slice p j c) L) (k : Keeps wr W) (hr : r < B) (hl : L.length = j) :
    RowsIn (((W.setCell ⟨r, 0, none⟩ a0).setCell ⟨r, 1, none⟩ a1).setCell ⟨r, 2, none⟩ a2) (.slice p j c) L := by
  subst hl
  have o2 : rowK.Own B W (.slice p L.length c) L := rowK.own_keeps o k
  obtain ⟨p', c', e, hm, _, _⟩ := h
  have o3 : rowK.Own B (((W.setCell ⟨r, 0, none⟩ a0).setCell ⟨r, 1, none⟩ a1).setCell ⟨r, 2, none⟩ a2) (.slice p L.length c) L := rowK.own_local o2 fun g hg => by
    have hne : g ≠ r := by have := (rowK.own_lt o2 g hg).1; omega
    rw [Below.heap_setCell _ ⟨r, 2, none⟩ _ _ hne, Below.heap_setCell _ ⟨r, 1, none⟩ _ _ hne, Below.heap_setCell _ ⟨r, 0, none⟩ _ _ hne]
  exact own_rowsM o3 hm
/-- The rows behind one more: what is kept of the start. -/
theorem read_step {w1 W W' : World} {v : Value} {tb : Nat} (k : Keeps w1 W) (g : W.grownBy W' v.ownBlock) (ht : w1.heap.size ≤ tb) (h : ∀ j, v.ownBlock = some j → tb + 1 ≤ j) : Keeps w1 W' := mono_grown k g fun j hj => by have := h j hj; omega
set_option maxHeartbeats 16000000 in
set_option maxRecDepth 100000 in
theorem rr_get (s : ByteArray) (w : World) (hs : s.size ≤ 50000) : Calls Tryd.prog 19 #[.string s] w (GotS s.data.toList w) := by
  have KB := Lib.hid (ky_box w stZ)
  have CX : Hid (∀ W, Keeps (w.alloc stZ) W → W.heap[w.heap.size]? = some (.cells #[.int .i64 0, .int .i64 0, .slice none 0 0] tSt (0, 0))) := Lib.hid fun W k => (k.block _ (by simp)).trans (heap_alloc_new w stZ)
  have C1 := Lib.hid (rr_numbers s (w.alloc stZ) hs)
  have HS := Lib.hid hs
  unfold stZ stBox at KB CX C1
  clear hs
  go_enter Tryd.func19, Tryd.ntmps19
  go_wp2_with fail
  refine C1.out.mono ?_
  rintro e w1 ⟨ns, ok, p, c, rfl, hn, ho, k1⟩
  obtain ⟨m, hm⟩ : ∃ m, ns.length = m := ⟨_, rfl⟩
  have HM := Lib.hid hm
  rw [hm] at ho ⊢
  have NI := Lib.hid hn
  have HO := Lib.hid ho
  have K1 := Lib.hid k1
  have hb1 := CX.out _ k1
  have B1 := Lib.hid hb1
  obtain ⟨⟨z0, z1, z2⟩, f0, f1, f2⟩ := three_at hb1
  obtain ⟨⟨e0, e1, e2⟩, _⟩ := three_at (three_set hb1 (.int .i64 0) (.int .i64 0) (.slice none 0 0))
  have EE := Lib.hid (And.intro e0 (And.intro e1 e2))
  clear hn ho hm k1 hb1 C1 e0 e1 e2
  by_cases hall : ok = true ∧ 3 ≤ m ∧ m % 5 = 3
  rotate_left
  · have G : Hid (∀ p' s' M, Valid p' s' M → putR p' s' M ≠ s.data.toList) := Lib.hid (by
      cases ok with
      | false => exact none_bad NI.out
      | true => exact none_len NI.out (fun g => hall ⟨rfl, by have := HM.out; omega, by have := HM.out; omega⟩))
    have hw : ok = false ∨ (ok = true ∧ m < 3) ∨ (ok = true ∧ 3 ≤ m ∧ m % 5 ≠ 3) := by cases ok <;> simp at hall ⊢ <;> omega
    rcases hw with rfl | ⟨rfl, h1⟩ | ⟨rfl, h1, h2⟩
    · clear hall
      go_wp2
      obtain ⟨e0, e1, e2⟩ := EE.out
      exact bodyPost_ret (v := .tuple #[.agg #[.int .i64 0, .int .i64 0, .slice none 0 0], .int .i64 10]) (by simp [results, Tryd.results19, go_sem, e0, e1, e2]) rfl ⟨0, 0, [], _, 10, rfl, Or.inr ⟨G.out, rfl, rfl, rfl, rfl⟩, rows_nil _, three_keeps (KB.out.trans K1.out) (Nat.le_refl _) _ _ _⟩
    · clear hall
      go_wp2
      obtain ⟨e0, e1, e2⟩ := EE.out
      exact bodyPost_ret (v := .tuple #[.agg #[.int .i64 0, .int .i64 0, .slice none 0 0], .int .i64 10]) (by simp [results, Tryd.results19, go_sem, e0, e1, e2]) rfl ⟨0, 0, [], _, 10, rfl, Or.inr ⟨G.out, rfl, rfl, rfl, rfl⟩, rows_nil _, three_keeps (KB.out.trans K1.out) (Nat.le_refl _) _ _ _⟩
    · have t : ((m : Int) % 5 == 3) = false := by rw [beq_eq_false_iff_ne]; omega
      have t2 : (Int.tmod (m : Int) 5 == 3) = false := by rw [Int.tmod_eq_emod_of_nonneg (by omega)]; exact t
      have t3 : ((m : Int) % 5 != 3) = true := by rw [bne, t]; rfl
      clear hall h2
      go_wp2
      obtain ⟨e0, e1, e2⟩ := EE.out
      exact bodyPost_ret (v := .tuple #[.agg #[.int .i64 0, .int .i64 0, .slice none 0 0], .int .i64 10]) (by simp [results, Tryd.results19, go_sem, e0, e1, e2]) rfl ⟨0, 0, [], _, 10, rfl, Or.inr ⟨G.out, rfl, rfl, rfl, rfl⟩, rows_nil _, three_keeps (KB.out.trans K1.out) (Nat.le_refl _) _ _ _⟩
  obtain ⟨rfl, h3, h5⟩ := hall
  have t : ((m : Int) % 5 == 3) = true := by rw [beq_iff_eq]; omega
  have t3 : ((m : Int) % 5 != 3) = false := by rw [bne, t]; rfl
  obtain ⟨M, hM⟩ : ∃ M, m = 3 + 5 * M := ⟨(m - 3) / 5, by omega⟩
  have HMM := Lib.hid hM
  have H3 := Lib.hid h3
  clear EE h5 hM
  obtain ⟨g, rfl⟩ : ∃ g, p = some ⟨g, 0, none⟩ := by
    have ho := HO.out
    rcases ho.2 with ⟨e, h0⟩ | ⟨g, cap, cur, e, _⟩
    · have := H3.out; have := HM.out; omega
    · simp only [Value.slice.injEq] at e
      exact ⟨g, e.1⟩
  have NA : Hid (∀ W, Keeps w1 W → ∀ i, i < m → W.cell? ⟨g, i, none⟩ = some (.int .u64 (at0 ns i))) := Lib.hid fun W k i hi => by
    have hx : ns[i]? = some (at0 ns i) := by
      unfold at0
      rw [List.getElem?_eq_getElem (by have := HM.out; omega)]
      rfl
    have ho : numK.Own (w.alloc (.cells #[.int .i64 0, .int .i64 0, .slice none 0 0] tSt)).heap.size w1 (.slice (some ⟨g, 0, none⟩) m c) ns := HO.out
    have := numK.own_at (numK.own_keeps ho k) hx (j := 0) (u := .int .u64 (at0 ns i)) rfl
    have e1 : numK.sz = 1 := rfl
    rw [e1, Nat.mul_one, Nat.add_zero] at this
    exact this
  have NL : Hid (∀ i, at0 ns i ≤ 1099511627776) := Lib.hid fun i => by
    rcases NI.out with ⟨_, hl, _⟩ | ⟨h1, _⟩
    · unfold at0
      cases hx : ns[i]? with
      | none => decide
      | some y => exact hl y (List.mem_of_getElem? hx)
    · cases h1
  obtain ⟨a0, ha0⟩ : ∃ a, at0 ns 0 = a := ⟨_, rfl⟩
  obtain ⟨a1, ha1⟩ : ∃ a, at0 ns 1 = a := ⟨_, rfl⟩
  have HA0 := Lib.hid ha0
  have HA1 := Lib.hid ha1
  have l0 : a0 ≤ 1099511627776 := ha0 ▸ NL.out 0
  have l1 : a1 ≤ 1099511627776 := ha1 ▸ NL.out 1
  have q0 := ha0 ▸ NA.out w1 (Keeps.refl _) 0 (by omega)
  have q1 := ha1 ▸ NA.out w1 (Keeps.refl _) 1 (by omega)
  have hg1 : g < w1.heap.size := World.block_lt_of_cell? w1 _ q0
  have hg2 : g ≠ w1.heap.size := Nat.ne_of_lt hg1
  have wr0 : wrap64 (a0 : Int) = (a0 : Int) := i64w (by unfold top; omega) (by unfold top; omega)
  have wr1 : wrap64 (a1 : Int) = (a1 : Int) := i64w (by unfold top; omega) (by unfold top; omega)
  have hi0 : (0 : Int) < (m : Int) := by omega
  have hi1 : (1 : Int) < (m : Int) := by omega
  have hm1 : 1 < m := by omega
  have hm0 : 0 < m := by omega
  clear ha0 ha1
  go_upto_region 4 with (fail)
  go_cut [6] from 27 (fun v6 wc => v6 = .pointer (some ⟨w1.heap.size, 0, none⟩) ∧ wc.heap[w1.heap.size]? = some (.cells #[.int .i64 a0, .int .i64 a1, .slice none 0 0] tSt (0, 0)) ∧ Keeps w1 wc)
  case first =>
    go_region
    all_goals
      go_wp2
      go_meet
      case rel => exact ⟨rfl, heap_alloc_new w1 _, (ky_box w1 _).trans (ky_drew _)⟩
  case rest =>
    obtain ⟨rfl, hb, hk⟩ := hcut
    have HB := Lib.hid hb
    have HK := Lib.hid hk
    obtain ⟨tb, htb⟩ : ∃ t, w1.heap.size = t := ⟨_, rfl⟩
    have HTB := Lib.hid htb
    rw [htb] at HB ⊢
    clear hb hk htb hg1 hg2 wr0 wr1 q0 q1 z0 z1 z2 f0 f1 f2 hi0 hi1 hm1 hm0
    have M5 : Hid (m ≤ 50000) := Lib.hid (by
      rcases NI.out with ⟨_, _, e⟩ | ⟨h1, _⟩
      · have e1 := nums_len ns
        rw [e, len_data, HM.out] at e1
        have := HS.out
        omega
      · cases h1)
    go_wp2_with fail
    go_loopw [7] (fun v7 W => ∃ (j i : Nat) (p' : Option Addr) (c' : Nat), j ≤ M ∧ i = 3 + 5 * j ∧ v7 = .int .i64 (i : Int) ∧ W.heap[tb]? = some (.cells #[.int .i64 a0, .int .i64 a1, .slice p' j c'] tSt (0, 0)) ∧ rowK.Own (tb + 1) W (.slice p' j c') (numL ns j) ∧ Keeps w1 W) (fun v7 _ => m - (intOf v7).toNat)
    case atStart => exact ⟨0, 3, none, 0, by omega, rfl, rfl, HB.out, rowK.own_nil _ _, HK.out⟩
    case round =>
      obtain ⟨j, i, p', c', hj, hi, rfl, hb, ho, hk⟩ := hrel
      have HJ := Lib.hid hj
      have HI := Lib.hid hi
      have HO' := Lib.hid ho
      have HBB := Lib.hid hb
      have HW := Lib.hid hk
      have HWS := Lib.hid hk.size
      clear hj ho hk HB HK
      by_cases hlt : j < M
      · have HL := Lib.hid hlt
        have him : i < m := by have := HMM.out; omega
        obtain ⟨i1, hi1⟩ : ∃ k, i + 1 = k := ⟨_, rfl⟩
        obtain ⟨i2, hi2⟩ : ∃ k, i + 2 = k := ⟨_, rfl⟩
        obtain ⟨i3, hi3⟩ : ∃ k, i + 3 = k := ⟨_, rfl⟩
        obtain ⟨i4, hi4⟩ : ∃ k, i + 4 = k := ⟨_, rfl⟩
        have hm4 : i4 < m := by have := HMM.out; omega
        have IM : Hid (i ≤ 50000) := Lib.hid (by have := M5.out; omega)
        obtain ⟨n0, h0⟩ : ∃ n, at0 ns i = n := ⟨_, rfl⟩
        obtain ⟨n1, h1⟩ : ∃ n, at0 ns i1 = n := ⟨_, rfl⟩
        obtain ⟨n2, h2⟩ : ∃ n, at0 ns i2 = n := ⟨_, rfl⟩
        obtain ⟨n3, h3'⟩ : ∃ n, at0 ns i3 = n := ⟨_, rfl⟩
        obtain ⟨n4, h4⟩ : ∃ n, at0 ns i4 = n := ⟨_, rfl⟩
        have l0 : n0 ≤ 1099511627776 := h0 ▸ NL.out i
        have l1 : n1 ≤ 1099511627776 := h1 ▸ NL.out i1
        have l2 : n2 ≤ 1099511627776 := h2 ▸ NL.out i2
        have l3 : n3 ≤ 1099511627776 := h3' ▸ NL.out i3
        have l4 : n4 ≤ 1099511627776 := h4 ▸ NL.out i4
        have d0 := h0 ▸ NA.out wr HW.out i him
        have d1 := h1 ▸ NA.out wr HW.out i1 (by omega)
        have d2 := h2 ▸ NA.out wr HW.out i2 (by omega)
        have d3 := h3' ▸ NA.out wr HW.out i3 (by omega)
        have d4 := h4 ▸ NA.out wr HW.out i4 hm4
        obtain ⟨⟨z0, z1, z2⟩, f0, f1, f2⟩ := three_at HBB.out
        have u1 : IntKind.i64.wrap ((i : Int) + 1) = (i1 : Int) := (wrap_add (t := 1) hi1 (by have := IM.out; omega) (by omega)).1
        have u1' : wrap64 ((i : Int) + 1) = (i1 : Int) := (wrap_add (t := 1) hi1 (by have := IM.out; omega) (by omega)).2
        have u2 : IntKind.i64.wrap ((i : Int) + 2) = (i2 : Int) := (wrap_add (t := 2) hi2 (by have := IM.out; omega) (by omega)).1
        have u2' : wrap64 ((i : Int) + 2) = (i2 : Int) := (wrap_add (t := 2) hi2 (by have := IM.out; omega) (by omega)).2
        have u3 : IntKind.i64.wrap ((i : Int) + 3) = (i3 : Int) := (wrap_add (t := 3) hi3 (by have := IM.out; omega) (by omega)).1
        have u3' : wrap64 ((i : Int) + 3) = (i3 : Int) := (wrap_add (t := 3) hi3 (by have := IM.out; omega) (by omega)).2
        have u4 : IntKind.i64.wrap ((i : Int) + 4) = (i4 : Int) := (wrap_add (t := 4) hi4 (by have := IM.out; omega) (by omega)).1
        have u4' : wrap64 ((i : Int) + 4) = (i4 : Int) := (wrap_add (t := 4) hi4 (by have := IM.out; omega) (by omega)).2
        obtain ⟨y0, y0'⟩ := wrap_small l0
        obtain ⟨y1, y1'⟩ := wrap_small l1
        obtain ⟨y2, y2'⟩ := wrap_small l2
        obtain ⟨y3, y3'⟩ := wrap_small l3
        obtain ⟨y4, y4'⟩ := wrap_small l4
        have g0 : (i : Int) < (m : Int) := by omega
        have g1 : (i1 : Int) < (m : Int) := by omega
        have g2 : (i2 : Int) < (m : Int) := by omega
        have g3 : (i3 : Int) < (m : Int) := by omega
        have g4 : (i4 : Int) < (m : Int) := by omega
        have k0 : (0 : Int) ≤ (i : Int) := by omega
        have k1 : (0 : Int) ≤ (i1 : Int) := by omega
        have k2 : (0 : Int) ≤ (i2 : Int) := by omega
        have k3 : (0 : Int) ≤ (i3 : Int) := by omega
        have k4 : (0 : Int) ≤ (i4 : Int) := by omega
        have HX : Hid (numR ns j = ⟨n0, n1, n2, n3, n4⟩) := Lib.hid (by
          unfold numR
          rw [show 3 + 5 * j = i from by omega, show 4 + 5 * j = i1 from by omega, show 5 + 5 * j = i2 from by omega, show 6 + 5 * j = i3 from by omega, show 7 + 5 * j = i4 from by omega, h0, h1, h2, h3', h4])
        have I14 : Hid (i + 5 = 3 + 5 * (j + 1)) := Lib.hid (by omega)
        have HIM := Lib.hid him
        clear hi hi1 hi2 hi3 hi4 h0 h1 h2 h3' h4 hlt hm4 him
        have e1 : g < wr.heap.size := World.block_lt_of_cell? wr _ d0
        have e2 : g ≠ wr.heap.size := Nat.ne_of_lt e1
        have t1 : tb < wr.heap.size := (Array.getElem?_eq_some_iff.1 HBB.out).1
        have t2 : tb ≠ wr.heap.size := Nat.ne_of_lt t1
        have T1 := Lib.hid t1
        have LEN : Hid ((numL ns j).length + [(⟨n0, n1, n2, n3, n4⟩ : R)].length = j + 1) := Lib.hid (by rw [numL_len]; rfl)
        have LN : Hid ((numL ns j).length + [(⟨n0, n1, n2, n3, n4⟩ : R)].length ≤ 100000) := Lib.hid (by rw [LEN.out]; have := HL.out; have := HMM.out; have := M5.out; omega)
        have GT : Hid (g < tb) := Lib.hid (by have h1 : g < w1.heap.size := World.block_lt_of_cell? w1 _ (NA.out w1 (Keeps.refl _) 0 (by have := H3.out; omega)); have h2 := HTB.out; omega)
        have OFF : Hid (∀ k, (Value.slice p' j c').ownBlock = some k → tb + 1 ≤ k) := Lib.hid fun k hk => by
          have ho := HO'.out
          have : rowK.Own (tb + 1) wr (.slice p' (numL ns j).length c') (numL ns j) := by rw [numL_len]; exact ho
          exact (rowK.own_lt this k (by rw [numL_len]; exact hk)).1
        go_upto_region 8 with (fail)
        refine wp_region_held_drew (S := fun W => W.cell? ⟨g, i, none⟩ = some (.int .u64 n0) ∧ W.cell? ⟨g, i1, none⟩ = some (.int .u64 n1) ∧ W.cell? ⟨g, i2, none⟩ = some (.int .u64 n2) ∧ W.cell? ⟨g, i3, none⟩ = some (.int .u64 n3) ∧ W.cell? ⟨g, i4, none⟩ = some (.int .u64 n4)) (by kernel_rfl) ⟨d0, d1, d2, d3, d4⟩ (fun hHeld => ?_)
        clear d0 d1 d2 d3 d4
        refine takeH (i := 0) (d := some 42) (v := ?v0) rfl rfl (by kernel_rfl) (by kernel_rfl) (by kernel_rfl) (fun _ _ _ h => h) (Or.inl ⟨by rfl, ?y0⟩) (by assumption) ?r0
        case y0 => (intro W hSw; obtain ⟨d0, d1, d2, d3, d4⟩ := hSw; go_simp; try with_reducible rfl)
        try simp only [Act.put, List.setIfInBounds_toArray, List.set_cons_zero, List.set_cons_succ]
        refine takeH (i := 2) (d := some 44) (v := ?v2) rfl rfl (by kernel_rfl) (by kernel_rfl) (by kernel_rfl) (fun _ _ _ h => h) (Or.inl ⟨by rfl, ?y2⟩) (by assumption) ?r2
        case y2 => (intro W hSw; obtain ⟨d0, d1, d2, d3, d4⟩ := hSw; go_simp; try with_reducible rfl)
        try simp only [Act.put, List.setIfInBounds_toArray, List.set_cons_zero, List.set_cons_succ]
        refine takeH (i := 3) (d := some 45) (v := ?v3) rfl rfl (by kernel_rfl) (by kernel_rfl) (by kernel_rfl) (fun _ _ _ h => h) (Or.inl ⟨by rfl, ?y3⟩) (by assumption) ?r3
        case y3 => (intro W hSw; obtain ⟨d0, d1, d2, d3, d4⟩ := hSw; go_simp; try with_reducible rfl)
        try simp only [Act.put, List.setIfInBounds_toArray, List.set_cons_zero, List.set_cons_succ]
        refine takeH (i := 4) (d := some 46) (v := ?v4) rfl rfl (by kernel_rfl) (by kernel_rfl) (by kernel_rfl) (fun _ _ _ h => h) (Or.inl ⟨by rfl, ?y4⟩) (by assumption) ?r4
        case y4 => (intro W hSw; obtain ⟨d0, d1, d2, d3, d4⟩ := hSw; go_simp; try with_reducible rfl)
        try simp only [Act.put, List.setIfInBounds_toArray, List.set_cons_zero, List.set_cons_succ]
        refine takeH (i := 5) (d := some 47) (v := ?v5) rfl rfl (by kernel_rfl) (by kernel_rfl) (by kernel_rfl) (fun _ _ _ h => h) (Or.inl ⟨by rfl, ?y5⟩) (by assumption) ?r5
        case y5 => (intro W hSw; obtain ⟨d0, d1, d2, d3, d4⟩ := hSw; go_simp; try with_reducible rfl)
        try simp only [Act.put, List.setIfInBounds_toArray, List.set_cons_zero, List.set_cons_succ]
        refine takeH (i := 6) (d := some 48) (v := ?v6) rfl rfl (by kernel_rfl) (by kernel_rfl) (by kernel_rfl) (fun _ _ _ h => h) (Or.inl ⟨by rfl, ?y6⟩) (by assumption) ?r6
        case y6 => (intro W hSw; obtain ⟨d0, d1, d2, d3, d4⟩ := hSw; go_simp; try with_reducible rfl)
        try simp only [Act.put, List.setIfInBounds_toArray, List.set_cons_zero, List.set_cons_succ]
        refine takeH (i := 7) (d := some 49) (v := ?v7) rfl rfl (by kernel_rfl) (by kernel_rfl) (by kernel_rfl) (fun _ _ _ h => h) (Or.inl ⟨by rfl, ?y7⟩) (by assumption) ?r7
        case y7 => (intro W hSw; obtain ⟨d0, d1, d2, d3, d4⟩ := hSw; go_simp; try with_reducible rfl)
        try simp only [Act.put, List.setIfInBounds_toArray, List.set_cons_zero, List.set_cons_succ]
        refine takeH (i := 8) (d := some 50) (v := ?v8) rfl rfl (by kernel_rfl) (by kernel_rfl) (by kernel_rfl) (fun _ _ _ h => h) (Or.inl ⟨by rfl, ?y8⟩) (by assumption) ?r8
        case y8 => (intro W hSw; obtain ⟨d0, d1, d2, d3, d4⟩ := hSw; go_simp; try with_reducible rfl)
        try simp only [Act.put, List.setIfInBounds_toArray, List.set_cons_zero, List.set_cons_succ]
        refine takeH (i := 9) (d := some 51) (v := ?v9) rfl rfl (by kernel_rfl) (by kernel_rfl) (by kernel_rfl) (fun _ _ _ h => h) (Or.inl ⟨by rfl, ?y9⟩) (by assumption) ?r9
        case y9 => (intro W hSw; obtain ⟨d0, d1, d2, d3, d4⟩ := hSw; go_simp; try with_reducible rfl)
        try simp only [Act.put, List.setIfInBounds_toArray, List.set_cons_zero, List.set_cons_succ]
        refine takeH (i := 10) (d := some 52) (v := ?v10) rfl rfl (by kernel_rfl) (by kernel_rfl) (by kernel_rfl) (fun _ _ _ h => h) (Or.inl ⟨by rfl, ?y10⟩) (by assumption) ?r10
        case y10 => (intro W hSw; obtain ⟨d0, d1, d2, d3, d4⟩ := hSw; go_simp; try with_reducible rfl)
        try simp only [Act.put, List.setIfInBounds_toArray, List.set_cons_zero, List.set_cons_succ]
        refine takeH (i := 11) (d := some 53) (v := ?v11) rfl rfl (by kernel_rfl) (by kernel_rfl) (by kernel_rfl) (fun _ _ _ h => h) (Or.inl ⟨by rfl, ?y11⟩) (by assumption) ?r11
        case y11 => (intro W hSw; obtain ⟨d0, d1, d2, d3, d4⟩ := hSw; go_simp; try with_reducible rfl)
        try simp only [Act.put, List.setIfInBounds_toArray, List.set_cons_zero, List.set_cons_succ]
        refine takeH (i := 12) (d := some 54) (v := ?v12) rfl rfl (by kernel_rfl) (by kernel_rfl) (by kernel_rfl) (fun _ _ _ h => h) (Or.inl ⟨by rfl, ?y12⟩) (by assumption) ?r12
        case y12 => (intro W hSw; obtain ⟨d0, d1, d2, d3, d4⟩ := hSw; go_simp; try with_reducible rfl)
        try simp only [Act.put, List.setIfInBounds_toArray, List.set_cons_zero, List.set_cons_succ]
        refine takeH (i := 13) (d := some 55) (v := ?v13) rfl rfl (by kernel_rfl) (by kernel_rfl) (by kernel_rfl) (fun _ _ _ h => h) (Or.inl ⟨by rfl, ?y13⟩) (by assumption) ?r13
        case y13 => (intro W hSw; obtain ⟨d0, d1, d2, d3, d4⟩ := hSw; go_simp; try with_reducible rfl)
        try simp only [Act.put, List.setIfInBounds_toArray, List.set_cons_zero, List.set_cons_succ]
        refine takeH (i := 14) (d := some 56) (v := ?v14) rfl rfl (by kernel_rfl) (by kernel_rfl) (by kernel_rfl) (fun _ _ _ h => h) (Or.inl ⟨by rfl, ?y14⟩) (by assumption) ?r14
        case y14 => (intro W hSw; obtain ⟨d0, d1, d2, d3, d4⟩ := hSw; go_simp; try with_reducible rfl)
        try simp only [Act.put, List.setIfInBounds_toArray, List.set_cons_zero, List.set_cons_succ]
        refine takeH (i := 15) (d := some 57) (v := ?v15) rfl rfl (by kernel_rfl) (by kernel_rfl) (by kernel_rfl) (fun _ _ _ h => h) (Or.inl ⟨by rfl, ?y15⟩) (by assumption) ?r15
        case y15 => (intro W hSw; obtain ⟨d0, d1, d2, d3, d4⟩ := hSw; go_simp; try with_reducible rfl)
        try simp only [Act.put, List.setIfInBounds_toArray, List.set_cons_zero, List.set_cons_succ]
        refine takeH (i := 16) (d := some 58) (v := ?v16) rfl rfl (by kernel_rfl) (by kernel_rfl) (by kernel_rfl) (fun _ _ _ h => h) (Or.inl ⟨by rfl, ?y16⟩) (by assumption) ?r16
        case y16 => (intro W hSw; obtain ⟨d0, d1, d2, d3, d4⟩ := hSw; go_simp; try with_reducible rfl)
        try simp only [Act.put, List.setIfInBounds_toArray, List.set_cons_zero, List.set_cons_succ]
        refine takeH (i := 17) (d := some 59) (v := ?v17) rfl rfl (by kernel_rfl) (by kernel_rfl) (by kernel_rfl) (fun _ _ _ h => h) (Or.inl ⟨by rfl, ?y17⟩) (by assumption) ?r17
        case y17 => (intro W hSw; obtain ⟨d0, d1, d2, d3, d4⟩ := hSw; go_simp; try with_reducible rfl)
        try simp only [Act.put, List.setIfInBounds_toArray, List.set_cons_zero, List.set_cons_succ]
        refine takeH (i := 18) (d := some 60) (v := ?v18) rfl rfl (by kernel_rfl) (by kernel_rfl) (by kernel_rfl) (fun _ _ _ h => h) (Or.inl ⟨by rfl, ?y18⟩) (by assumption) ?r18
        case y18 => (intro W hSw; obtain ⟨d0, d1, d2, d3, d4⟩ := hSw; go_simp; try with_reducible rfl)
        try simp only [Act.put, List.setIfInBounds_toArray, List.set_cons_zero, List.set_cons_succ]
        refine takeH (i := 19) (d := some 61) (v := ?v19) rfl rfl (by kernel_rfl) (by kernel_rfl) (by kernel_rfl) (fun _ _ _ h => h) (Or.inl ⟨by rfl, ?y19⟩) (by assumption) ?r19
        case y19 => (intro W hSw; obtain ⟨d0, d1, d2, d3, d4⟩ := hSw; go_simp; try with_reducible rfl)
        try simp only [Act.put, List.setIfInBounds_toArray, List.set_cons_zero, List.set_cons_succ]
        refine takeH (i := 20) (d := some 62) (v := ?v20) rfl rfl (by kernel_rfl) (by kernel_rfl) (by kernel_rfl) (fun _ _ _ h => h) (Or.inl ⟨by rfl, ?y20⟩) (by assumption) ?r20
        case y20 => (intro W hSw; obtain ⟨d0, d1, d2, d3, d4⟩ := hSw; go_simp; try with_reducible rfl)
        try simp only [Act.put, List.setIfInBounds_toArray, List.set_cons_zero, List.set_cons_succ]
        refine takeH (i := 21) (d := some 63) (v := ?v21) rfl rfl (by kernel_rfl) (by kernel_rfl) (by kernel_rfl) (fun _ _ _ h => h) (Or.inl ⟨by rfl, ?y21⟩) (by assumption) ?r21
        case y21 => (intro W hSw; obtain ⟨d0, d1, d2, d3, d4⟩ := hSw; go_simp; try with_reducible rfl)
        try simp only [Act.put, List.setIfInBounds_toArray, List.set_cons_zero, List.set_cons_succ]
        refine takeH (i := 22) (d := some 64) (v := ?v22) rfl rfl (by kernel_rfl) (by kernel_rfl) (by kernel_rfl) (fun _ _ _ h => h) (Or.inl ⟨by rfl, ?y22⟩) (by assumption) ?r22
        case y22 => (intro W hSw; obtain ⟨d0, d1, d2, d3, d4⟩ := hSw; go_simp; try with_reducible rfl)
        try simp only [Act.put, List.setIfInBounds_toArray, List.set_cons_zero, List.set_cons_succ]
        refine takeH (i := 23) (d := some 65) (v := ?v23) rfl rfl (by kernel_rfl) (by kernel_rfl) (by kernel_rfl) (fun _ _ _ h => h) (Or.inl ⟨by rfl, ?y23⟩) (by assumption) ?r23
        case y23 => (intro W hSw; obtain ⟨d0, d1, d2, d3, d4⟩ := hSw; go_simp; try with_reducible rfl)
        try simp only [Act.put, List.setIfInBounds_toArray, List.set_cons_zero, List.set_cons_succ]
        refine takeH (i := 24) (d := some 66) (v := ?v24) rfl rfl (by kernel_rfl) (by kernel_rfl) (by kernel_rfl) (fun _ _ _ h => h) (Or.inl ⟨by rfl, ?y24⟩) (by assumption) ?r24
        case y24 => (intro W hSw; obtain ⟨d0, d1, d2, d3, d4⟩ := hSw; go_simp; try with_reducible rfl)
        try simp only [Act.put, List.setIfInBounds_toArray, List.set_cons_zero, List.set_cons_succ]
        refine takeH (i := 25) (d := some 67) (v := ?v25) rfl rfl (by kernel_rfl) (by kernel_rfl) (by kernel_rfl) (fun _ _ _ h => h) (Or.inl ⟨by rfl, ?y25⟩) (by assumption) ?r25
        case y25 => (intro W hSw; obtain ⟨d0, d1, d2, d3, d4⟩ := hSw; go_simp; try with_reducible rfl)
        try simp only [Act.put, List.setIfInBounds_toArray, List.set_cons_zero, List.set_cons_succ]
        refine takeH (i := 26) (d := some 68) (v := ?v26) rfl rfl (by kernel_rfl) (by kernel_rfl) (by kernel_rfl) (fun _ _ _ h => h) (Or.inl ⟨by rfl, ?y26⟩) (by assumption) ?r26
        case y26 => (intro W hSw; obtain ⟨d0, d1, d2, d3, d4⟩ := hSw; go_simp; try with_reducible rfl)
        try simp only [Act.put, List.setIfInBounds_toArray, List.set_cons_zero, List.set_cons_succ]
        refine takeH (i := 27) (d := some 69) (v := ?v27) rfl rfl (by kernel_rfl) (by kernel_rfl) (by kernel_rfl) (fun _ _ _ h => h) (Or.inl ⟨by rfl, ?y27⟩) (by assumption) ?r27
        case y27 => (intro W hSw; obtain ⟨d0, d1, d2, d3, d4⟩ := hSw; go_simp; try with_reducible rfl)
        try simp only [Act.put, List.setIfInBounds_toArray, List.set_cons_zero, List.set_cons_succ]
        refine takeH (i := 28) (d := some 70) (v := ?v28) rfl rfl (by kernel_rfl) (by kernel_rfl) (by kernel_rfl) (fun _ _ _ h => h) (Or.inl ⟨by rfl, ?y28⟩) (by assumption) ?r28
        case y28 => (intro W hSw; obtain ⟨d0, d1, d2, d3, d4⟩ := hSw; go_simp; try with_reducible rfl)
        try simp only [Act.put, List.setIfInBounds_toArray, List.set_cons_zero, List.set_cons_succ]
        refine takeH (i := 29) (d := some 71) (v := ?v29) rfl rfl (by kernel_rfl) (by kernel_rfl) (by kernel_rfl) (fun _ _ _ h => h) (Or.inl ⟨by rfl, ?y29⟩) (by assumption) ?r29
        case y29 => (intro W hSw; obtain ⟨d0, d1, d2, d3, d4⟩ := hSw; go_simp; try with_reducible rfl)
        try simp only [Act.put, List.setIfInBounds_toArray, List.set_cons_zero, List.set_cons_succ]
        refine takeH (i := 30) (d := some 72) (v := ?v30) rfl rfl (by kernel_rfl) (by kernel_rfl) (by kernel_rfl) (fun _ _ _ h => h) (Or.inl ⟨by rfl, ?y30⟩) (by assumption) ?r30
        case y30 => (intro W hSw; obtain ⟨d0, d1, d2, d3, d4⟩ := hSw; go_simp; try with_reducible rfl)
        try simp only [Act.put, List.setIfInBounds_toArray, List.set_cons_zero, List.set_cons_succ]
        refine takeH (i := 31) (d := some 73) (v := ?v31) rfl rfl (by kernel_rfl) (by kernel_rfl) (by kernel_rfl) (fun _ _ _ h => h) (Or.inl ⟨by rfl, ?y31⟩) (by assumption) ?r31
        case y31 => (intro W hSw; obtain ⟨d0, d1, d2, d3, d4⟩ := hSw; go_simp; try with_reducible rfl)
        try simp only [Act.put, List.setIfInBounds_toArray, List.set_cons_zero, List.set_cons_succ]
        refine takeH (i := 32) (d := some 74) (v := ?v32) rfl rfl (by kernel_rfl) (by kernel_rfl) (by kernel_rfl) (fun _ _ _ h => h) (Or.inl ⟨by rfl, ?y32⟩) (by assumption) ?r32
        case y32 => (intro W hSw; obtain ⟨d0, d1, d2, d3, d4⟩ := hSw; go_simp; try with_reducible rfl)
        try simp only [Act.put, List.setIfInBounds_toArray, List.set_cons_zero, List.set_cons_succ]
        have NEW : Hid (∀ (W : World) (X : Obj), (W.cell? ⟨g, i, none⟩ = some (.int .u64 n0) ∧ W.cell? ⟨g, i1, none⟩ = some (.int .u64 n1) ∧ W.cell? ⟨g, i2, none⟩ = some (.int .u64 n2) ∧ W.cell? ⟨g, i3, none⟩ = some (.int .u64 n3) ∧ W.cell? ⟨g, i4, none⟩ = some (.int .u64 n4)) → (fun W : World => W.cell? ⟨g, i, none⟩ = some (.int .u64 n0) ∧ W.cell? ⟨g, i1, none⟩ = some (.int .u64 n1) ∧ W.cell? ⟨g, i2, none⟩ = some (.int .u64 n2) ∧ W.cell? ⟨g, i3, none⟩ = some (.int .u64 n3) ∧ W.cell? ⟨g, i4, none⟩ = some (.int .u64 n4)) (W.alloc X)) := Lib.hid fun W X h => ⟨cell_keeps (ky_box W X) h.1, cell_keeps (ky_box W X) h.2.1, cell_keeps (ky_box W X) h.2.2.1, cell_keeps (ky_box W X) h.2.2.2.1, cell_keeps (ky_box W X) h.2.2.2.2⟩
        refine wpAnyH_ready (rs := [1, 33]) (by kernel_rfl) (by simp) ?_
        refine AllReadyH.cons rfl (fun K hK => ?_) (AllReadyH.cons rfl (fun K hK => ?_) AllReadyH.nil)
        · go_simp
          refine hK.out _ _ hHeld (fun hHeld => ?_)
          clear hK K
          try simp only [Act.put, List.setIfInBounds_toArray, List.set_cons_zero, List.set_cons_succ]
          refine wpAnyH_ready (rs := [33]) (by kernel_rfl) (by simp) ?_
          refine AllReadyH.cons rfl (fun K hK => ?_) AllReadyH.nil
          go_simp
          refine hK.out _ _ (NEW.out _ _ hHeld) (fun hHeld => ?_)
          clear hK K
          try simp only [Act.put, List.setIfInBounds_toArray, List.set_cons_zero, List.set_cons_succ]
          refine wpAnyH_ready (rs := [34]) (by kernel_rfl) (by simp) ?_
          refine AllReadyH.cons rfl (fun K hK => ?_) AllReadyH.nil
          refine stepAppOwnK rowK rfl _ _ rfl rfl (tb + 1) ?ahB _ _ (numL ns j) [⟨n0, n1, n2, n3, n4⟩] (j + 1) LEN.out rfl rfl ?ahown (rsrc_one (heap_alloc_new _ _)) LN.out ?_
          case ahB => (simp; have := T1.out; omega)
          case ahown => exact rowK.own_keeps HO'.out (Keeps.trans (ky_box wr _) (ky_drew _))
          intro p5 c5 w5 o5 g5
          have hb5 := (g5.block tb (by simp; have := T1.out; omega) (fun e => by have := OFF.out tb e.symm; omega)).trans (Eq.trans ((Keeps.trans (ky_box wr _) (ky_drew _)).block tb T1.out) HBB.out)
          have hh5 := grown_nums hHeld g5 (fun e => by have := OFF.out g e.symm; have := GT.out; omega)
          have L5 := Lib.hid (read_step (HW.out.trans (Keeps.trans (ky_box wr _) (ky_drew _))) g5 (by have := HTB.out; omega) (fun k hk => OFF.out k hk))
          refine hK.out _ _ hh5 (fun hHeld => ?_)
          clear hK K hh5
          try simp only [Act.put, List.setIfInBounds_toArray, List.set_cons_zero, List.set_cons_succ]
          have f5 := Joins.unfrozen_of_block hb5 2
          have cc5 := Joins.cell_of_block hb5 2
          have B5 := Lib.hid hb5
          have O5 := Lib.hid o5
          clear hb5 o5 g5
          refine takeH (i := 35) (d := some 77) (v := ?av35) rfl rfl (by kernel_rfl) (by kernel_rfl) (by kernel_rfl) (fun _ _ _ h => h) (Or.inl ⟨by rfl, ?ay35⟩) (by assumption) ?ar35
          case ay35 => (intro W hSw; obtain ⟨d0, d1, d2, d3, d4⟩ := hSw; go_simp; try with_reducible rfl)
          try simp only [Act.put, List.setIfInBounds_toArray, List.set_cons_zero, List.set_cons_succ]
          refine wpAnyH_ready (rs := [36]) (by kernel_rfl) (by simp) ?_
          refine AllReadyH.cons rfl (fun K hK => ?_) AllReadyH.nil
          go_simp
          refine hK.out _ _ (set_nums hHeld (by have := GT.out; omega)) (fun hHeld => ?_)
          clear hK K
          try simp only [Act.put, List.setIfInBounds_toArray, List.set_cons_zero, List.set_cons_succ]
          refine wpAnyH_done (by kernel_rfl) ?_ _
          clear f5 cc5
          have BX5 := Lib.hid (Joins.block_setCell (i := 2) B5.out (.slice p5 (j + 1) c5))
          have OX5 : Hid (rowK.Own (tb + 1) (w5.setCell ⟨tb, 2, none⟩ (.slice p5 (j + 1) c5)) (.slice p5 (j + 1) c5) (numL ns (j + 1))) := Lib.hid (own_next O5.out HX.out (by rw [numL_len]))
          have KX5 := Lib.hid (Below.setCell L5.out (p := ⟨tb, 2, none⟩) (by have := HTB.out; simp; omega) (.slice p5 (j + 1) c5))
          clear hHeld
          have ib := IM.out
          go_wp2_with fail
          exact ⟨⟨j + 1, i + 5, p5, c5, by have := HL.out; omega, I14.out, by go_num, BX5.out, OX5.out, KX5.out⟩, by have := HIM.out; simp [intOf]; omega⟩
        · go_simp
          refine hK.out _ _ (NEW.out _ _ hHeld) (fun hHeld => ?_)
          clear hK K
          try simp only [Act.put, List.setIfInBounds_toArray, List.set_cons_zero, List.set_cons_succ]
          have z2a : (wr.alloc (.cells #[.int .i64 n0, .int .i64 n1, .int .i64 n2, .int .i64 n3, .int .i64 n4] tRw)).drew.cell? ⟨tb, 2, none⟩ = some (.slice p' j c') := cell_keeps (Keeps.trans (ky_box wr _) (ky_drew _)) z2
          refine wpAnyH_ready (rs := [1]) (by kernel_rfl) (by simp) ?_
          refine AllReadyH.cons rfl (fun K hK => ?_) AllReadyH.nil
          go_simp
          refine hK.out _ _ hHeld (fun hHeld => ?_)
          clear hK K
          try simp only [Act.put, List.setIfInBounds_toArray, List.set_cons_zero, List.set_cons_succ]
          refine wpAnyH_ready (rs := [34]) (by kernel_rfl) (by simp) ?_
          refine AllReadyH.cons rfl (fun K hK => ?_) AllReadyH.nil
          refine stepAppOwnK rowK rfl _ _ rfl rfl (tb + 1) ?bhB _ _ (numL ns j) [⟨n0, n1, n2, n3, n4⟩] (j + 1) LEN.out rfl rfl ?bhown (rsrc_one (heap_alloc_new _ _)) LN.out ?_
          case bhB => (simp; have := T1.out; omega)
          case bhown => exact rowK.own_keeps HO'.out (Keeps.trans (ky_box wr _) (ky_drew _))
          intro p5 c5 w5 o5 g5
          have hb5 := (g5.block tb (by simp; have := T1.out; omega) (fun e => by have := OFF.out tb e.symm; omega)).trans (Eq.trans ((Keeps.trans (ky_box wr _) (ky_drew _)).block tb T1.out) HBB.out)
          have hh5 := grown_nums hHeld g5 (fun e => by have := OFF.out g e.symm; have := GT.out; omega)
          have L5 := Lib.hid (read_step (HW.out.trans (Keeps.trans (ky_box wr _) (ky_drew _))) g5 (by have := HTB.out; omega) (fun k hk => OFF.out k hk))
          refine hK.out _ _ hh5 (fun hHeld => ?_)
          clear hK K hh5
          try simp only [Act.put, List.setIfInBounds_toArray, List.set_cons_zero, List.set_cons_succ]
          have f5 := Joins.unfrozen_of_block hb5 2
          have cc5 := Joins.cell_of_block hb5 2
          have B5 := Lib.hid hb5
          have O5 := Lib.hid o5
          clear hb5 o5 g5
          refine takeH (i := 35) (d := some 77) (v := ?bv35) rfl rfl (by kernel_rfl) (by kernel_rfl) (by kernel_rfl) (fun _ _ _ h => h) (Or.inl ⟨by rfl, ?by35⟩) (by assumption) ?br35
          case by35 => (intro W hSw; obtain ⟨d0, d1, d2, d3, d4⟩ := hSw; go_simp; try with_reducible rfl)
          try simp only [Act.put, List.setIfInBounds_toArray, List.set_cons_zero, List.set_cons_succ]
          refine wpAnyH_ready (rs := [36]) (by kernel_rfl) (by simp) ?_
          refine AllReadyH.cons rfl (fun K hK => ?_) AllReadyH.nil
          go_simp
          refine hK.out _ _ (set_nums hHeld (by have := GT.out; omega)) (fun hHeld => ?_)
          clear hK K
          try simp only [Act.put, List.setIfInBounds_toArray, List.set_cons_zero, List.set_cons_succ]
          refine wpAnyH_done (by kernel_rfl) ?_ _
          clear f5 cc5
          have BX5 := Lib.hid (Joins.block_setCell (i := 2) B5.out (.slice p5 (j + 1) c5))
          have OX5 : Hid (rowK.Own (tb + 1) (w5.setCell ⟨tb, 2, none⟩ (.slice p5 (j + 1) c5)) (.slice p5 (j + 1) c5) (numL ns (j + 1))) := Lib.hid (own_next O5.out HX.out (by rw [numL_len]))
          have KX5 := Lib.hid (Below.setCell L5.out (p := ⟨tb, 2, none⟩) (by have := HTB.out; simp; omega) (.slice p5 (j + 1) c5))
          clear hHeld
          have ib := IM.out
          go_wp2_with fail
          exact ⟨⟨j + 1, i + 5, p5, c5, by have := HL.out; omega, I14.out, by go_num, BX5.out, OX5.out, KX5.out⟩, by have := HIM.out; simp [intOf]; omega⟩
      · obtain rfl : j = M := by have := HJ.out; omega
        have him : i = m := by have := HMM.out; omega
        obtain ⟨P0, hP0⟩ : ∃ v, (Value.slice p' j c') = v := ⟨_, rfl⟩
        have HMJ := Lib.hid (show ns.length = 3 + 5 * j from by rw [HM.out]; exact HMM.out)
        have ROW : Hid (∀ W, Keeps wr W → RowsIn W (.slice p' j c') (numL ns j)) := Lib.hid fun W k => (own_rows HO'.out (by rw [numL_len]; have := HMM.out; have := M5.out; omega)).keeps k
        have TBK : Hid (∀ W, Keeps wr W → W.heap[tb]? = some (.cells #[.int .i64 a0, .int .i64 a1, .slice p' j c'] tSt (0, 0)) ∧ W.heap[w.heap.size]? = some (.cells #[.int .i64 0, .int .i64 0, .slice none 0 0] tSt (0, 0))) := Lib.hid fun W k =>
          ⟨(k.block _ (Array.getElem?_eq_some_iff.1 HBB.out).1).trans HBB.out, ((HW.out.trans k).block _ (Array.getElem?_eq_some_iff.1 B1.out).1).trans B1.out⟩
        have NO : Hid (¬ (Valid a0 a1 (numL ns j) ∧ putR a0 a1 (numL ns j) = s.data.toList) → ∀ p s' L, Valid p s' L → putR p s' L ≠ s.data.toList) := Lib.hid fun hv => none_else NI.out HMJ.out (by rw [HA0.out, HA1.out]; exact hv)
        obtain ⟨b, hbv⟩ : ∃ b, validB a0 a1 (numL ns j) = b := ⟨_, rfl⟩
        obtain ⟨X, hX⟩ : ∃ X, putSB a0 a1 (numL ns j) = X := ⟨_, rfl⟩
        have CV : Hid (∀ W, Keeps wr W → Calls Tryd.prog 12 #[.agg #[.int .i64 a0, .int .i64 a1, .slice p' j c']] W fun e w' => e = .returned (.bool b) ∧ Keeps wr w') := Lib.hid fun W k => (hbv ▸ rr_valid a0 a1 _ _ W (ROW.out W k)).mono fun e w' h => ⟨h.1, k.trans h.2⟩
        have CP : Hid (∀ W, Keeps wr W → Calls Tryd.prog 14 #[.agg #[.int .i64 a0, .int .i64 a1, .slice p' j c']] W fun e w' => e = .returned (.string X) ∧ Keeps wr w') := Lib.hid fun W k => (hX ▸ rr_put a0 a1 _ _ W (ROW.out W k)).mono fun e w' h => ⟨h.1, k.trans h.2⟩
        have HBV := Lib.hid hbv
        have HXX := Lib.hid hX
        have KW := Lib.hid (KB.out.trans (K1.out.trans HW.out))
        subst him
        clear hbv hX hP0 P0 hlt hi hb
        obtain ⟨t1, t2⟩ := TBK.out _ (Keeps.refl _)
        obtain ⟨⟨x0, x1, x2⟩, _⟩ := three_at t1
        clear t1 t2
        go_wp2_with fail
        refine (CV.out _ (Keeps.refl _)).mono ?_
        rintro e w8 ⟨rfl, k8⟩
        have K8 := Lib.hid k8
        obtain ⟨t1, t2⟩ := TBK.out _ k8
        have T2 := Lib.hid t2
        clear k8 x0 x1 x2
        obtain ⟨⟨x0, x1, x2⟩, _⟩ := three_at t1
        obtain ⟨⟨z0, z1, z2⟩, f0, f1, f2⟩ := three_at t2
        clear t1 t2
        cases b with
        | false =>
          have G := Lib.hid (NO.out (fun g => by have := HBV.out; rw [valid_iff.2 g.1] at this; cases this))
          go_wp2
          obtain ⟨⟨e0, e1, e2⟩, _⟩ := three_at (three_set T2.out (.int .i64 0) (.int .i64 0) (.slice none 0 0))
          exact bodyPost_ret (v := .tuple #[.agg #[.int .i64 0, .int .i64 0, .slice none 0 0], .int .i64 10]) (by simp [results, Tryd.results19, go_sem, e0, e1, e2]) rfl ⟨0, 0, [], _, 10, rfl, Or.inr ⟨G.out, rfl, rfl, rfl, rfl⟩, rows_nil _, three_keeps (KW.out.trans K8.out) (Nat.le_refl _) _ _ _⟩
        | true =>
          go_wp2_with fail
          refine (CP.out _ K8.out).mono ?_
          rintro e w9 ⟨rfl, k9⟩
          have K9 := Lib.hid k9
          obtain ⟨t1, t2⟩ := TBK.out _ k9
          have T2 := Lib.hid t2
          clear k9 x0 x1 x2 z0 z1 z2 f0 f1 f2
          obtain ⟨⟨x0, x1, x2⟩, _⟩ := three_at t1
          obtain ⟨⟨z0, z1, z2⟩, f0, f1, f2⟩ := three_at t2
          clear t1 t2
          have VA := Lib.hid (valid_iff.1 HBV.out)
          by_cases hx : X = s
          · have PE : Hid (putR a0 a1 (numL ns j) = s.data.toList) := Lib.hid (by rw [← hx, ← HXX.out, ← putS_yes VA.out]; rfl)
            subst hx
            have tt : (X.toList == X.toList) = true := by simp
            go_wp2
            obtain ⟨⟨e0, e1, e2⟩, _⟩ := three_at (three_set T2.out (.int .i64 a0) (.int .i64 a1) (.slice p' j c'))
            exact bodyPost_ret (v := .tuple #[.agg #[.int .i64 a0, .int .i64 a1, .slice p' j c'], .int .i64 0]) (by simp [results, Tryd.results19, go_sem, e0, e1, e2]) rfl ⟨a0, a1, numL ns j, _, 0, rfl, Or.inl ⟨VA.out, PE.out, rfl⟩, rows_far (ROW.out _ K9.out) HO'.out K9.out (by have h1 := HTB.out; have h2 := (KB.out.trans K1.out).size; omega) (by rw [numL_len]), three_keeps (KW.out.trans K9.out) (Nat.le_refl _) _ _ _⟩
          · have G := Lib.hid (NO.out (fun g => hx (bytes_inj (by rw [← g.2, ← HXX.out, ← putS_yes VA.out]; rfl))))
            have tt := bytes_eq hx
            clear hx
            go_wp2
            obtain ⟨⟨e0, e1, e2⟩, _⟩ := three_at (three_set T2.out (.int .i64 0) (.int .i64 0) (.slice none 0 0))
            exact bodyPost_ret (v := .tuple #[.agg #[.int .i64 0, .int .i64 0, .slice none 0 0], .int .i64 10]) (by simp [results, Tryd.results19, go_sem, e0, e1, e2]) rfl ⟨0, 0, [], _, 10, rfl, Or.inr ⟨G.out, rfl, rfl, rfl, rfl⟩, rows_nil _, three_keeps (KW.out.trans K9.out) (Nat.le_refl _) _ _ _⟩
end Go.Proofs.YtomonhghioamfaaDoor
