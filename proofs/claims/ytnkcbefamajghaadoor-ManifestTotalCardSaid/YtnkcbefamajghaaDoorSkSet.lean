
/- csv's Parse, of texts of any length, as stock asks it. What stock's Parse answers, as values; small things about blocks. -/
import Derived.Test.YtnkcbefamajghaaDoorSkMath
import Derived.Test.YtnkcbefamajghaaDoorCsvParseC
import Derived.Test.YtnkcbefamajghaaDoorCsvRefC
import Derived.Test.YtnkcbefamajghaaDoorCsvLaws
import Derived.Test.YtnkcbefamajghaaDoorMaxLen
import Derived.Test.YtnkcbefamajghaaDoorSkRefM
import Derived.Test.YtnkcbefamajghaaDoorRowsLaid
import Derived.Deep.DeepCutAuto
import Derived.Deep.LoopGhost
set_option linter.unusedVariables false
namespace Go.Proofs.YtnkcbefamajghaaDoor
open Go.ChangeShapes Go.WideShapes Go.ChangeAt Go.RowKit Go.Shelf Go.Proofs
namespace Stk

theorem wt_ge : ∀ F : List Bt, 4 * F.length ≤ Csv.wt F ∧ ∀ f ∈ F, 2 * f.length + 4 ≤ Csv.wt F
  | [] => by simp [Csv.wt]
  | g :: F => by
    obtain ⟨h1, h2⟩ := wt_ge F
    have e : Csv.wt (g :: F) = 2 * g.length + 4 + Csv.wt F := by simp [Csv.wt]
    refine ⟨by rw [e, List.length_cons]; omega, fun f hf => ?_⟩
    rcases List.mem_cons.1 hf with rfl | hf
    · omega
    · have := h2 f hf; omega
theorem sum_ge : ∀ {l : List Nat} {x : Nat}, x ∈ l → x ≤ l.sum
  | [], _, h => by cases h
  | y :: l, x, h => by
    rw [List.sum_cons]
    rcases List.mem_cons.1 h with rfl | h
    · omega
    · have := sum_ge h; omega
theorem sum_len : ∀ (T : List (List Bt)), (∀ F ∈ T, F ≠ []) → 4 * T.length ≤ (T.map Csv.wt).sum
  | [], _ => by simp
  | F :: T, h => by
    have ih := sum_len T fun G hG => h G (List.mem_cons_of_mem _ hG)
    have h1 := (wt_ge F).1
    have h2 := List.length_pos_iff.2 (h F (by simp))
    rw [List.map_cons, List.sum_cons, List.length_cons]
    omega
/-- What is read of a text: rows that have fields, none of them long. -/
structure Fine (T : List (List Bt)) : Prop where
  len : T.length ≤ 65536
  row : ∀ F ∈ T, F ≠ [] ∧ F.length ≤ 65536 ∧ ∀ f ∈ F, f.length ≤ 131072
theorem fine_of {l : Bt} {T : List (List Bt)} (h : Csv.run Csv.st0 0 l = .rows T) (hl : l.length ≤ 65536) : Fine T := by
  obtain ⟨s', h1, h2, h3, h4⟩ := Csv.run_rows h
  have hf : Csv.full T := by rw [← h4]; exact Csv.full_after h1 (by intro r hr; simp [Csv.st0] at hr)
  have h5 := Csv.pot_after h1
  have h6 : Csv.pot Csv.st0 = 0 := rfl
  have h7 : (T.map Csv.wt).sum ≤ Csv.pot s' := by unfold Csv.pot; rw [h4]; omega
  refine ⟨by have := sum_len T hf; omega, fun F hF => ?_⟩
  have h8 := sum_ge (List.mem_map_of_mem (f := Csv.wt) hF)
  obtain ⟨g1, g2⟩ := wt_ge F
  exact ⟨hf F hF, by omega, fun f hf' => by have := g2 f hf'; omega⟩
theorem Fine.short {T : List (List Bt)} (h : Fine T) {F : List Bt} (hF : F ∈ T) : ∀ i, (fa F i).length ≤ 200000 := fun i => by
  unfold fa
  cases hi : F[i]? with
  | none => simp
  | some f =>
    have := (h.row F hF).2.2 f (List.mem_of_getElem? hi)
    show f.length ≤ 200000
    omega
end Stk
open Csv Stk
/-- What csv tells of a text: rows, or what stock tells of it. -/
def CsvAll (l : List UInt8) (w : World) (e : Ending) (w' : World) : Prop :=
  Keeps w w' ∧ ∃ (v : Value) (line col code : Int), e = .returned (.tuple #[v, .agg #[.int .i64 line, .int .i64 col, .int .i64 code]]) ∧
    ((∃ T, Csv.run Csv.st0 0 l = .rows T ∧ parseM l = runL Stk.st0 T ∧ Stk.Fine T ∧ OwnTable w.heap.size w' v T ∧ line = 0 ∧ col = 0 ∧ code = 0) ∨
     (∃ (a b : Nat), parseM l = .error (a, b, code) ∧ code ≠ 0 ∧ v = .slice none 0 0 ∧ line = (a : Int) ∧ col = (b : Int)))
theorem all_of {l : List UInt8} {w w' : World} {e : Ending} (hl : l.length ≤ 65536) (h : ParseOut l w e w') : CsvAll l w e w' := by
  obtain ⟨k, v, line, col, code, rfl, h⟩ := h
  refine ⟨k, v, line, col, code, rfl, ?_⟩
  rcases h with ⟨T, h1, h2, h3, h4, h5⟩ | ⟨p, c, h1, h2, h3, h4, h5⟩
  · exact Or.inl ⟨T, h1, by unfold parseM; rw [if_neg (by omega), h1]; rfl, Stk.fine_of h1 hl, h2, h3, h4, h5⟩
  · have hk := (Csv.run_code h1).1
    refine Or.inr ⟨_, _, by unfold parseM; rw [if_neg (by omega), h1, h5]; rfl, by omega, h2, h3, h4⟩
theorem all_long {l : List UInt8} {w w' : World} {e : Ending} (hl : 65536 < l.length) (k : Keeps w w') (he : e = .returned (.tuple #[.slice none 0 0, .agg #[.int .i64 1, .int .i64 1, .int .i64 8]])) : CsvAll l w e w' :=
  ⟨k, _, _, _, _, he, Or.inr ⟨1, 1, by unfold parseM; rw [if_pos hl], by decide, rfl, rfl, rfl⟩⟩
set_option maxHeartbeats 1000000 in
theorem rparse_long (s : ByteArray) (w : World) (hs : 65536 < s.size) (hs2 : s.size ≤ maxLen) :
    Calls Tryd.prog 15 #[.string s] w fun e w' => e = .returned (.tuple #[.slice none 0 0, .agg #[.int .i64 1, .int .i64 1, .int .i64 8]]) ∧ Keeps w w' := by
  have hlong : decide ((65536 : Int) < (s.size : Int)) = true := decide_eq_true (by omega)
  go_enter Tryd.func15, Tryd.ntmps15
  go_wp2
  refine bodyPost_ret (v := .tuple #[.slice none 0 0, .agg #[.int .i64 1, .int .i64 1, .int .i64 8]]) (by simp [results, Tryd.results15, go_sem]) rfl ⟨rfl, ?_⟩
  exact (Below.refl _ _).alloc (Nat.le_refl _) _
theorem rparse_all (s : ByteArray) (w : World) (hs : s.size ≤ maxLen) : Calls Tryd.prog 15 #[.string s] w (CsvAll s.data.toList w) := by
  by_cases hl : s.size ≤ 65536
  · exact (rparse_any s w hl).mono fun e w' h => all_of (by rw [len_data]; exact hl) h
  · exact (rparse_long s w (by omega) hs).mono fun e w' h => all_long (by rw [len_data]; omega) h.2 h.1
theorem parse_all (s : ByteArray) (w : World) (hs : s.size ≤ maxLen) (hm : HasMax w) : Calls Tryd.prog 19 #[.string s] w (CsvAll s.data.toList w) := by
  by_cases hl : s.size ≤ 65536
  · exact (parse_any s w hl hm).mono fun e w' h => all_of (by rw [len_data]; exact hl) h
  · exact (parse_long s w (by omega) hs).mono fun e w' h => all_long (by rw [len_data]; omega) h.2 h.1
end Go.Proofs.YtnkcbefamajghaaDoor
namespace Go.Proofs.YtnkcbefamajghaaDoor
open Go.ChangeShapes Go.WideShapes Go.ChangeAt Go.RowKit Ky Rw Csv Stk

abbrev skRj : TypeId := 32
abbrev zeSt : Obj := .cells #[.int .i64 0, .int .i64 0, .slice none 0 0] tSt
abbrev zeRj : Obj := .cells #[.int .i64 0, .int .i64 0, .int .i64 0] skRj
/-- What Parse answers, as values. -/
def SkOut (l : List UInt8) (w : World) (e : Ending) (w' : World) : Prop :=
  (∃ s L v, parseM l = .ok (s, L) ∧ e = .returned (.tuple #[stV 1 s v, .agg #[.int .i64 0, .int .i64 0, .int .i64 0]]) ∧ RowsIn w' v L ∧ Keeps w w') ∨
  (∃ a b c, parseM l = .error (a, b, c) ∧ e = .returned (.tuple #[stV 0 0 (.slice none 0 0), .agg #[.int .i64 (a : Int), .int .i64 (b : Int), .int .i64 c]]) ∧ Keeps w w')
theorem sk_mono {w W W' : World} {v : Value} (k : Keeps w W) (g : W.grownBy W' v.ownBlock) (h : ∀ j, v.ownBlock = some j → w.heap.size ≤ j) : Keeps w W' := Below.grown k g k.size h
theorem sk_three_setG {W : World} {n : Nat} {t : TypeId} {x0 x1 x2 : Value} (h : W.heap[n]? = some (.cells #[x0, x1, x2] t (0, 0))) (a0 a1 a2 : Value) :
    (((W.setCell ⟨n, 0, none⟩ a0).setCell ⟨n, 1, none⟩ a1).setCell ⟨n, 2, none⟩ a2).heap[n]? = some (.cells #[a0, a1, a2] t (0, 0)) :=
  Joins.block_setCell (i := 2) (Joins.block_setCell (i := 1) (Joins.block_setCell (i := 0) h a0) a1) a2
theorem sk_three_atG {W : World} {n : Nat} {t : TypeId} {x0 x1 x2 : Value} (h : W.heap[n]? = some (.cells #[x0, x1, x2] t (0, 0))) :
    (W.cell? ⟨n, 0, none⟩ = some x0 ∧ W.cell? ⟨n, 1, none⟩ = some x1 ∧ W.cell? ⟨n, 2, none⟩ = some x2) ∧ (W.frozen? ⟨n, 0, none⟩ = false ∧ W.frozen? ⟨n, 1, none⟩ = false ∧ W.frozen? ⟨n, 2, none⟩ = false) :=
  ⟨⟨Joins.cell_of_block h 0, Joins.cell_of_block h 1, Joins.cell_of_block h 2⟩, Joins.unfrozen_of_block h 0, Joins.unfrozen_of_block h 1, Joins.unfrozen_of_block h 2⟩
theorem sk_three_far {W : World} {n m : Nat} (h : m ≠ n) (a0 a1 a2 : Value) : (((W.setCell ⟨n, 0, none⟩ a0).setCell ⟨n, 1, none⟩ a1).setCell ⟨n, 2, none⟩ a2).heap[m]? = W.heap[m]? := by
  rw [Below.heap_setCell _ ⟨n, 2, none⟩ _ _ h, Below.heap_setCell _ ⟨n, 1, none⟩ _ _ h, Below.heap_setCell _ ⟨n, 0, none⟩ _ _ h]
theorem sk_three_keepsG {w W : World} {n : Nat} (h : Keeps w W) (hn : w.heap.size ≤ n) (a0 a1 a2 : Value) : Keeps w (((W.setCell ⟨n, 0, none⟩ a0).setCell ⟨n, 1, none⟩ a1).setCell ⟨n, 2, none⟩ a2) :=
  ((h.setCell (p := ⟨n, 0, none⟩) hn a0).setCell (p := ⟨n, 1, none⟩) hn a1).setCell (p := ⟨n, 2, none⟩) hn a2
abbrev sk_sixW (W : World) (r : Nat) (a0 a1 a2 b0 b1 b2 : Value) : World := ((((((W.setCell ⟨r, 0, none⟩ a0).setCell ⟨r, 1, none⟩ a1).setCell ⟨r, 2, none⟩ a2).setCell ⟨r + 1, 0, none⟩ b0).setCell ⟨r + 1, 1, none⟩ b1).setCell ⟨r + 1, 2, none⟩ b2)
theorem sk_six_set {W : World} {r : Nat} {t u : TypeId} {x0 x1 x2 y0 y1 y2 : Value} (h : W.heap[r]? = some (.cells #[x0, x1, x2] t (0, 0))) (g : W.heap[r + 1]? = some (.cells #[y0, y1, y2] u (0, 0))) (a0 a1 a2 b0 b1 b2 : Value) :
    ((sk_sixW W r a0 a1 a2 b0 b1 b2).cell? ⟨r, 0, none⟩ = some a0 ∧ (sk_sixW W r a0 a1 a2 b0 b1 b2).cell? ⟨r, 1, none⟩ = some a1 ∧ (sk_sixW W r a0 a1 a2 b0 b1 b2).cell? ⟨r, 2, none⟩ = some a2) ∧
    ((sk_sixW W r a0 a1 a2 b0 b1 b2).cell? ⟨r + 1, 0, none⟩ = some b0 ∧ (sk_sixW W r a0 a1 a2 b0 b1 b2).cell? ⟨r + 1, 1, none⟩ = some b1 ∧ (sk_sixW W r a0 a1 a2 b0 b1 b2).cell? ⟨r + 1, 2, none⟩ = some b2) := by
  have e0 := (sk_three_far (W := ((W.setCell ⟨r, 0, none⟩ a0).setCell ⟨r, 1, none⟩ a1).setCell ⟨r, 2, none⟩ a2) (n := r + 1) (m := r) (by omega) b0 b1 b2).trans (sk_three_setG h a0 a1 a2)
  have e1 := sk_three_setG ((sk_three_far (W := W) (n := r) (m := r + 1) (by omega) a0 a1 a2).trans g) b0 b1 b2
  exact ⟨(sk_three_atG e0).1, (sk_three_atG e1).1⟩
theorem sk_six_keeps {w W : World} {r : Nat} (h : Keeps w W) (hn : w.heap.size ≤ r) (a0 a1 a2 b0 b1 b2 : Value) : Keeps w (sk_sixW W r a0 a1 a2 b0 b1 b2) := sk_three_keepsG (sk_three_keepsG h hn a0 a1 a2) (Nat.le_succ_of_le hn) b0 b1 b2
theorem sk_own_set {B b i : Nat} {W : World} {v : Value} {L : List R} (h : rowK.Own B W v L) (hb : b < B) (u : Value) : rowK.Own B (W.setCell ⟨b, i, none⟩ u) v L :=
  rowK.own_local h fun g hg => Below.heap_setCell _ ⟨b, i, none⟩ _ _ (Nat.ne_of_gt (Nat.lt_of_lt_of_le hb (rowK.own_lt h g hg).1))
theorem sk_rsrc_row {w : World} {b : Nat} {x : R} (h : w.heap[b]? = some (.cells #[.int .i64 x.o, .int .i64 x.d, .int .i64 x.c, .int .i64 x.a, .int .i64 x.q] tRw (0, 0))) : rowK.Src w (.slice (some ⟨b, 0, none⟩) 1 1) [x] := by
  refine ⟨_, 1, rfl, (fun e => by cases e), fun a ha j u hu => ?_⟩
  cases ha
  rw [addr_of, Joins.cell_of_block h j]
  have e : rowK.row [x] = [.int .i64 x.o, .int .i64 x.d, .int .i64 x.c, .int .i64 x.a, .int .i64 x.q] := rfl
  rw [e] at hu
  rw [← hu]
  simp
end Go.Proofs.YtnkcbefamajghaaDoor
