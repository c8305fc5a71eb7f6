/- A row whose block may have more room than its capacity says (as a slice of three indices leaves it): read, cut, appended to, an element exchanged. -/
import Derived.Test.YtajphjlfefhajaaNtMem
import Derived.Laws.AppendOwn
set_option linter.unusedVariables false
namespace Go.Proofs.Ytajphjlfefhajaa
open Go.ChangeShapes Go.WideShapes Go.ChangeAt Go.RowKit Csv
namespace RowK
variable {α : Type} (K : RowK α) {w w' : World}
/-- A row of elements in a block of its own, from its front on. -/
def Wide (w : World) (v : Value) (l : List α) : Prop :=
  (v = .slice none 0 0 ∧ l = []) ∨ ∃ g cap cur, v = .slice (some ⟨g, 0, none⟩) l.length cap ∧ w.heap[g]? = some (.cells cur K.t (0, 0)) ∧ l.length ≤ cap ∧ cap ≤ maxLen ∧ cap * K.sz ≤ cur.size ∧ cur.toList.take (l.length * K.sz) = K.row l
theorem wide_own {B : Nat} {v : Value} {l : List α} (h : K.Own B w v l) : K.Wide w v l := by
  rcases h.2 with ⟨rfl, h0⟩ | ⟨g, cap, cur, rfl, hb, hg, r1, r2, r3, r4⟩
  · exact Or.inl ⟨rfl, List.length_eq_zero_iff.1 h0⟩
  · exact Or.inr ⟨g, cap, cur, rfl, hg, r1, r2, Nat.le_of_eq r3.symm, r4⟩
theorem wide_shape {v : Value} {l : List α} (h : K.Wide w v l) : ∃ p c, v = .slice p l.length c := by
  rcases h with ⟨rfl, rfl⟩ | ⟨g, cap, cur, rfl, _⟩
  · exact ⟨_, _, rfl⟩
  · exact ⟨_, _, rfl⟩
theorem wide_local {v : Value} {l : List α} (h : K.Wide w v l) (hk : ∀ g, v.ownBlock = some g → w'.heap[g]? = w.heap[g]?) : K.Wide w' v l := by
  rcases h with h | ⟨g, cap, cur, rfl, hg, r⟩
  · exact Or.inl h
  · exact Or.inr ⟨g, cap, cur, rfl, (hk g rfl).trans hg, r⟩
theorem wide_tag {v : Value} {l : List α} (h : K.Wide w v l) {g : Nat} (hg : v.ownBlock = some g) : ∃ c, w.heap[g]? = some (.cells c K.t (0, 0)) := by
  rcases h with ⟨rfl, _⟩ | ⟨g', cap, cur, rfl, hg', r⟩
  · cases hg
  · cases hg; exact ⟨_, hg'⟩
theorem wide_lt {v : Value} {l : List α} (h : K.Wide w v l) {g : Nat} (hg : v.ownBlock = some g) : g < w.heap.size := by
  obtain ⟨c, hc⟩ := K.wide_tag h hg
  exact (Array.getElem?_eq_some_iff.1 hc).1
theorem wide_keeps {v : Value} {l : List α} (h : K.Wide w v l) (k : Keeps w w') : K.Wide w' v l := K.wide_local h fun g hg => k.block g (K.wide_lt h hg)
/-- The cells of a row, from its front on. -/
theorem wide_cell {g cap : Nat} {l : List α} (h : K.Wide w (.slice (some ⟨g, 0, none⟩) l.length cap) l) {j : Nat} {u : Value} (hu : (K.row l)[j]? = some u) : w.cell? ⟨g, j, none⟩ = some u := by
  rcases h with ⟨e, _⟩ | ⟨g', cap', cur, e, hg, r1, r2, r3, r4⟩
  · cases e
  · simp only [Value.slice.injEq, Option.some.injEq, Addr.mk.injEq] at e
    obtain ⟨⟨rfl, _, _⟩, _, rfl⟩ := e
    rw [← r4, List.getElem?_take] at hu
    split at hu
    · rw [Joins.cell_of_block hg j]; simpa using hu
    · cases hu
theorem wide_at {g cap : Nat} {l : List α} (h : K.Wide w (.slice (some ⟨g, 0, none⟩) l.length cap) l) {k : Nat} {x : α} (hx : l[k]? = some x) {j : Nat} {u : Value} (hu : (K.cells x)[j]? = some u) : w.cell? ⟨g, k * K.sz + j, none⟩ = some u :=
  K.wide_cell h (K.row_at hx hu)
theorem wide_src {v : Value} {l : List α} (h : K.Wide w v l) : K.Src w v l := by
  have hh := h
  rcases h with ⟨rfl, rfl⟩ | ⟨g, cap, cur, rfl, hg, r1, r2, r3, r4⟩
  · exact ⟨none, 0, rfl, fun _ => ⟨rfl, rfl⟩, fun a ha => by cases ha⟩
  · exact ⟨_, cap, rfl, (fun e => by cases e), fun a ha j u hu => by cases ha; rw [addr_of]; simpa using K.wide_cell hh hu⟩
theorem row_take (l : List α) (m : Nat) : K.row (l.take m) = (K.row l).take (m * K.sz) := by
  induction l generalizing m with
  | nil => simp [row]
  | cons x r ih =>
    cases m with
    | zero => simp [row]
    | succ m =>
      have e : K.row (x :: r) = K.cells x ++ K.row r := rfl
      have e2 : K.row ((x :: r).take (m + 1)) = K.cells x ++ K.row (r.take m) := rfl
      rw [e2, e, ih, Nat.add_mul, Nat.one_mul, Nat.add_comm (m * K.sz), List.take_append, K.len, Nat.add_sub_cancel_left, List.take_of_length_le (l := K.cells x) (by rw [K.len]; omega)]
theorem row_drop (l : List α) (m : Nat) : K.row (l.drop m) = (K.row l).drop (m * K.sz) := by
  induction l generalizing m with
  | nil => simp [row]
  | cons x r ih =>
    cases m with
    | zero => simp [row]
    | succ m =>
      have e : K.row (x :: r) = K.cells x ++ K.row r := rfl
      have e2 : K.row ((x :: r).drop (m + 1)) = K.row (r.drop m) := rfl
      rw [e2, e, ih, Nat.add_mul, Nat.one_mul, Nat.add_comm (m * K.sz), List.drop_append, K.len, Nat.add_sub_cancel_left, List.drop_of_length_le (l := K.cells x) (by rw [K.len]; omega), List.nil_append]
/-- Its front, cut to just so much room. -/
theorem wide_front {g cap i : Nat} {l : List α} (h : K.Wide w (.slice (some ⟨g, 0, none⟩) l.length cap) l) (hi : i ≤ l.length) : K.Wide w (.slice (some ⟨g, 0, none⟩) i i) (l.take i) := by
  rcases h with ⟨e, _⟩ | ⟨g', cap', cur, e, hg, r1, r2, r3, r4⟩
  · cases e
  · simp only [Value.slice.injEq, Option.some.injEq, Addr.mk.injEq] at e
    obtain ⟨⟨rfl, _, _⟩, _, rfl⟩ := e
    have hl : (l.take i).length = i := by rw [List.length_take, Nat.min_eq_left hi]
    have hm : i * K.sz ≤ cap * K.sz := Nat.mul_le_mul_right _ (Nat.le_trans hi r1)
    refine Or.inr ⟨g, i, cur, by rw [hl], hg, by rw [hl]; exact Nat.le_refl _, Nat.le_trans (Nat.le_trans hi r1) r2, Nat.le_trans hm r3, ?_⟩
    rw [hl, K.row_take, ← r4, List.take_take, Nat.min_eq_left (Nat.mul_le_mul_right _ hi)]
/-- What stands behind a place. -/
theorem wide_back {g cap m : Nat} {l : List α} (h : K.Wide w (.slice (some ⟨g, 0, none⟩) l.length cap) l) (c2 : Nat) : K.Src w (.slice (some ⟨g, m * K.sz, none⟩) (l.length - m) c2) (l.drop m) := by
  refine ⟨_, c2, by rw [List.length_drop], (fun e => by cases e), fun a ha j u hu => ?_⟩
  cases ha
  rw [K.row_drop, List.getElem?_drop] at hu
  have := K.wide_cell h hu
  rw [← this]
  congr 1
  unfold Addr.add
  split
  · simp_all
  · simp
theorem src_none (v : Value) (p : Option Addr) (c : Nat) (hc : p = none → c = 0) (hv : v = .slice p 0 c) : K.Src w v [] :=
  ⟨p, c, hv, fun e => ⟨rfl, hc e⟩, fun a ha j u hu => by simp [row] at hu⟩
/-- 'append' to such a row: it lies in its block still, or in a new one. -/
theorem wide_app (w : World) (v : Value) (l : List α) (src : Value) (m : List α) (hown : K.Wide w v l) (hs : K.Src w src m) (hn : l.length + m.length ≤ 100000) :
    ∃ p' c' w', (Builtin.append_ #[K.ts, K.ts] K.ts #[v, src]).run Try.prog w = .ok (.slice p' (l.length + m.length) c') w' ∧ K.Wide w' (.slice p' (l.length + m.length) c') (l ++ m) ∧ w.grownBy w' v.ownBlock ∧ ((Value.slice p' (l.length + m.length) c').ownBlock = v.ownBlock ∨ (Value.slice p' (l.length + m.length) c').ownBlock = some w.heap.size) := by
  obtain ⟨i, hi, hz, hsz, hb⟩ := K.parts
  have hmax : l.length + m.length ≤ maxLen := by unfold maxLen; omega
  have hsmall : l.length + m.length ≤ 9223372036854775807 := by omega
  have hbytes : (l.length + m.length) * i.bytes ≤ 140737488355328 := by
    rw [hb]
    have := K.small
    calc (l.length + m.length) * K.bytes ≤ 100000 * 1000 := Nat.mul_le_mul hn this
      _ ≤ 140737488355328 := by omega
  have hlen : (K.row l ++ K.row m).length = (l.length + m.length) * i.size := by rw [List.length_append, K.row_len, K.row_len, hsz, Nat.add_mul]
  have grown : ∀ (old : Nat), ∀ (row : Option Nat),
      K.Wide (w.drew.alloc (.cells ((K.row l).toArray ++ (K.row m).toArray ++ Builtin.zeroCells K.zero.cells (grownCap w (l.length + m.length) old K.t - (l.length + m.length))) K.t))
        (.slice (some ⟨w.heap.size, 0, none⟩) (l.length + m.length) (grownCap w (l.length + m.length) old K.t)) (l ++ m) ∧
      w.grownBy (w.drew.alloc (.cells ((K.row l).toArray ++ (K.row m).toArray ++ Builtin.zeroCells K.zero.cells (grownCap w (l.length + m.length) old K.t - (l.length + m.length))) K.t)) row := by
    intro old row
    have hge := grownCap_ge w (l.length + m.length) old K.t
    refine ⟨Or.inr ⟨w.heap.size, _, _, by rw [List.length_append], heap_alloc_new w.drew _, by rw [List.length_append]; exact hge, grownCap_le_maxLen w _ old K.t hmax, ?_, ?_⟩, ⟨rfl, rfl, rfl, by simp, fun k hk _ => heap_alloc_old w.drew _ hk⟩⟩
    · simp only [Array.size_append, List.size_toArray, size_zeroCells, K.zsize, K.row_len, ← Nat.add_mul]
      rw [Nat.add_sub_cancel' hge]
      exact Nat.le_refl _
    · simp only [Array.toList_append]
      rw [List.length_append, K.row_app, ← hsz, ← hlen]
      exact List.take_left
  obtain ⟨p, c, rfl, s1, s2⟩ := hs
  rcases hown with ⟨rfl, rfl⟩ | ⟨g, cap, cur, rfl, hg, r1, r2, r3, r4⟩
  · simp only [List.length_nil, Nat.zero_add, List.nil_append]
    cases p with
    | none =>
      obtain ⟨rfl, rfl⟩ := s1 rfl
      have hr := run_append_owned_none (P := Try.prog) w 0 K.ts K.ts K.t i K.sz K.under hi (.slice none 0 0) 0 [] (World.ownsRow_nil _ _ _ _)
      exact ⟨none, 0, w, hr, Or.inl ⟨rfl, rfl⟩, ⟨rfl, rfl, rfl, Nat.le_refl _, fun _ _ _ => rfl⟩, Or.inl rfl⟩
    | some a =>
      have hnews := s2 a rfl
      by_cases hm : m = []
      · subst hm
        refine ⟨none, 0, w, ?_, Or.inl ⟨rfl, rfl⟩, ⟨rfl, rfl, rfl, Nat.le_refl _, fun _ _ _ => rfl⟩, Or.inl rfl⟩
        simp [Builtin.append_, run_underlying K.under, sizeOf, typeInfo, hi, Builtin.lenOf, Builtin.firstCells, loadCells, loadCellsFrom]
      · have hm0 : 0 < m.length := List.length_pos_iff.2 hm
        have hr := run_append_nil (P := Try.prog) w K.ts K.ts K.t i K.zero K.under hi hz a m.length c (K.row m) (by rw [hsz]; exact K.row_len m) hnews (by omega) (by simp only [List.length_nil, Nat.zero_add] at hsmall; omega) (by simp only [List.length_nil, Nat.zero_add] at hbytes; omega)
        have hgr := grown 0 none
        have e0 : K.row ([] : List α) = [] := rfl
        simp only [List.length_nil, Nat.zero_add, List.nil_append, e0, Array.empty_append] at hgr
        exact ⟨_, _, _, hr, hgr.1, hgr.2, Or.inr rfl⟩
  · cases p with
    | none =>
      obtain ⟨rfl, rfl⟩ := s1 rfl
      have hr : (Builtin.append_ #[K.ts, K.ts] K.ts #[.slice (some ⟨g, 0, none⟩) l.length cap, .slice none 0 0]).run Try.prog w = .ok (.slice (some ⟨g, 0, none⟩) l.length cap) w := by
        simp [Builtin.append_, run_underlying K.under, sizeOf, typeInfo, hi, Builtin.lenOf, Builtin.firstCells, r1, storeCells]
      simp only [List.length_nil, Nat.add_zero, List.append_nil]
      exact ⟨some ⟨g, 0, none⟩, cap, w, hr, Or.inr ⟨g, cap, cur, rfl, hg, r1, r2, r3, r4⟩, ⟨rfl, rfl, rfl, Nat.le_refl _, fun _ _ _ => rfl⟩, Or.inl rfl⟩
    | some a =>
      have hnews := s2 a rfl
      by_cases hroom : l.length + m.length ≤ cap
      · have hfit : l.length * i.size + (K.row m).length ≤ cur.size := by
          rw [hsz, K.row_len, ← Nat.add_mul]
          exact Nat.le_trans (Nat.mul_le_mul_right _ hroom) r3
        have hr := run_append_room (P := Try.prog) w K.ts K.ts K.t i K.under hi g l.length cap cur hg a m.length c (K.row m) (by rw [hsz]; exact K.row_len m) hnews (K.row_one m) hroom hfit
        refine ⟨_, _, _, hr, Or.inr ⟨g, cap, _, by rw [List.length_append], setRow_heap w g cur _ K.t _ hg, by rw [List.length_append]; exact hroom, r2, ?_, ?_⟩, ⟨rfl, rfl, rfl, by simp, fun k _ hk => setRow_other w g k _ (fun e => hk (by simp [Value.ownBlock, e]))⟩, Or.inl rfl⟩
        · simp only [List.size_toArray, List.length_append, List.length_take, List.length_drop, Array.length_toList]
          omega
        · rw [List.length_append, K.row_app, hsz, r4, ← hsz, ← hlen]
          exact List.take_left
      · have hold : K.Wide w (.slice (some ⟨g, 0, none⟩) l.length cap) l := Or.inr ⟨g, cap, cur, rfl, hg, r1, r2, r3, r4⟩
        have holds : ∀ j u, (K.row l)[j]? = some u → w.cell? ((⟨g, 0, none⟩ : Addr).add j) = some u := fun j u hu => by
          rw [addr_of]; simpa using K.wide_cell hold hu
        have hr := run_append_grow (P := Try.prog) w K.ts K.ts K.t i K.zero K.under hi hz ⟨g, 0, none⟩ l.length cap (K.row l) (by rw [hsz]; exact K.row_len l) holds a m.length c (K.row m) (by rw [hsz]; exact K.row_len m) hnews (by omega) (by omega) (growslice_fits (by omega) hbytes)
        have hgr := grown cap (some g)
        exact ⟨_, _, _, hr, hgr.1, hgr.2, Or.inr rfl⟩
end RowK
end Go.Proofs.Ytajphjlfefhajaa
