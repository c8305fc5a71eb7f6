
/- The contracts of the statements' own helpers: is, bad, rowed. -/
import Derived.Test.YtnkcbefamajghaaDoorCsvSameC
import Derived.Test.YtnkcbefamajghaaDoorCsvParseC
set_option linter.unusedVariables false
namespace Go.Proofs.YtnkcbefamajghaaDoor
open Go.ChangeShapes Go.WideShapes Go.ChangeAt Go.RowKit Go.Shelf Go.Proofs Csv

theorem keepsA {w w' : World} (h : Keeps w w') (o : Obj) : Keeps w (w'.alloc o) := h.alloc h.size o
theorem below_of {w w' : World} (h : Keeps w w') : Below w.heap.size w w' := h

/-- Rows that are read, or nothing and where. -/
def RowsOut (L : List (List Bs)) (w : World) (e : Ending) (w' : World) : Prop :=
  ∃ v : Value, e = .returned (.tuple #[v, .agg #[.int .i64 0, .int .i64 0, .int .i64 0]]) ∧ RowsAt w' v L ∧ Keeps w w'
theorem out_rows {l : Bs} {w w' : World} {e : Ending} {L : List (List Bs)} (h : ParseOut l w e w') (hr : run st0 0 l = .rows L) : RowsOut L w e w' := by
  obtain ⟨hk, v, line, col, code, rfl, h⟩ := h
  rcases h with ⟨L', h1, h2, rfl, rfl, rfl⟩ | ⟨p, c, h1, _⟩
  · rw [hr] at h1; cases h1
    exact ⟨v, rfl, h2.rows, hk⟩
  · rw [hr] at h1; cases h1
theorem out_bad {l : Bs} {w w' : World} {e : Ending} {p c : Nat} (h : ParseOut l w e w') (hr : run st0 0 l = .bad p c) :
    e = .returned (.tuple #[.slice none 0 0, .agg #[.int .i64 (lineOf (l.take p) : Nat), .int .i64 (colOf (l.take p) : Nat), .int .i64 (c : Nat)]]) ∧ Keeps w w' := by
  obtain ⟨hk, v, line, col, code, rfl, h⟩ := h
  rcases h with ⟨L', h1, h2, rfl, rfl, rfl⟩ | ⟨p', c', h1, rfl, rfl, rfl, rfl⟩
  · rw [hr] at h1; cases h1
  · rw [hr] at h1; cases h1
    exact ⟨rfl, hk⟩

theorem parse_rows (s : ByteArray) (w : World) {L : List (List Bs)} (hs : s.size ≤ 65536) (hm : HasMax w) (hr : run st0 0 s.data.toList = .rows L) :
    Calls Tryd.prog 19 #[.string s] w (RowsOut L w) := (parse_any s w hs hm).mono fun _ _ h => out_rows h hr
theorem parse_bad (s : ByteArray) (w : World) {p c : Nat} (hs : s.size ≤ 65536) (hm : HasMax w) (hr : run st0 0 s.data.toList = .bad p c) :
    Calls Tryd.prog 19 #[.string s] w fun e w' => e = .returned (.tuple #[.slice none 0 0, .agg #[.int .i64 (lineOf (s.data.toList.take p) : Nat), .int .i64 (colOf (s.data.toList.take p) : Nat), .int .i64 (c : Nat)]]) ∧ Keeps w w' := (parse_any s w hs hm).mono fun _ _ h => out_bad h hr

set_option maxHeartbeats 1000000 in
theorem parse_long (s : ByteArray) (w : World) (hs : 65536 < s.size) (hs2 : s.size ≤ maxLen) :
    Calls Tryd.prog 19 #[.string s] w fun e w' => e = .returned (.tuple #[.slice none 0 0, .agg #[.int .i64 1, .int .i64 1, .int .i64 8]]) ∧ Keeps w w' := by
  have hlong : decide ((65536 : Int) < (s.size : Int)) = true := decide_eq_true (by omega)
  go_enter Tryd.func19, Tryd.ntmps19
  go_wp2
  go_step3
  go_wp2
  first
    | (rw [Exit.noGoto_ret]; refine bodyPost_ret (v := .tuple #[.slice none 0 0, .agg #[.int .i64 1, .int .i64 1, .int .i64 8]]) (by simp [results, Tryd.results19, go_sem]) rfl ⟨rfl, ?_⟩)
    | refine bodyPost_ret (v := .tuple #[.slice none 0 0, .agg #[.int .i64 1, .int .i64 1, .int .i64 8]]) (by simp [results, Tryd.results19, go_sem]) rfl ⟨rfl, ?_⟩
  exact (Below.refl _ _).alloc (Nat.le_refl _) _

/-- A row of one row, laid. -/
theorem one_row {w w' : World} {v : Value} {r : List Bs} (h : StrsAt w v r) (hk : Keeps w w') (t : TypeId) {b : Nat} (hb : b = w'.heap.size) : RowsAt (w'.alloc (.cells #[v] t)) (.slice (some ⟨b, 0, none⟩) 1 1) [r] := by
  subst hb
  refine ⟨_, _, rfl, by simp [maxLen], fun j q hq => ?_⟩
  have hj : j = 0 := by
    have := (List.getElem?_eq_some_iff.1 hq).1
    simp at this; omega
  subst hj
  simp at hq
  subst hq
  exact ⟨_, v, rfl, cell_one_new _ _ _ 0 v rfl, (h.keeps hk).keeps ((Below.refl _ _).alloc (Nat.le_refl _) _)⟩

/-- A row of texts, laid. -/
theorem laid_row {w' : World} {cs : Array Value} {r : List Bs} (t : TypeId) {b n : Nat} (hb : b = w'.heap.size) (hcs : cs = (svs r).toArray) (hn : n = r.length) (hm : r.length ≤ maxLen) : StrsAt (w'.alloc (.cells cs t)) (.slice (some ⟨b, 0, none⟩) n n) r := by
  subst hb hcs hn
  refine ⟨_, _, rfl, hm, fun j x hx => ⟨_, rfl, ?_⟩⟩
  have hl : j < r.length := (List.getElem?_eq_some_iff.1 hx).1
  have e : (⟨w'.heap.size, 0, none⟩ : Addr).add j = ⟨w'.heap.size, j, none⟩ := by
    by_cases h : j = 0
    · subst h; rfl
    · simp [Addr.add, h]
  rw [e, World.cell?_alloc_at _ _ _ _ rfl]
  simp [svs, hx]

/-- What a call may lean on: its first world, a block at rest. -/
structure Has (w : World) (b : Nat) (W : World) : Prop where
  keeps : Keeps w W
  rest : Rest W b
theorem Has.on {w W W' : World} {b : Nat} (h : Has w b W) (k : Keeps W W') : Has w b W' := ⟨Keeps.trans h.1 k, h.2.keeps k⟩
theorem Has.alloc {w W : World} {b : Nat} (h : Has w b W) (o : Obj) : Has w b (W.alloc o) := h.on ((Below.refl _ _).alloc (Nat.le_refl _) o)

end Go.Proofs.YtnkcbefamajghaaDoor
