
/- The plain mathematics of manifest (layer 15): a statement's rows as rows of orders, rows of texts as a statement: a statement's file, parsed; a file that is parsed; what is cut off, or says another quantity. The plain mathematics of manifest (layer 15), goes on: files, parsed; what is parsed may be; what is cut off, or says another quantity. -/
import Derived.Test.YtnkcbefamajghaaDoorSkMath
set_option linter.unusedVariables false
namespace Go.Proofs.YtnkcbefamajghaaDoor
open Go Ky Rw
namespace Mft
open Stk (numN fa wide Bt num_put num_yes num_le put_plain put_short plain_put wide_same wide_zero rows_short)

abbrev wName : Bt := [109, 97, 110, 105, 102, 101, 115, 116]
abbrev wEnd : Bt := [101, 110, 100]
abbrev wRef : Bt := [114, 101, 102, 117, 115, 101, 100]
abbrev wNo : Bt := [45]
abbrev wDone : Bt := [100, 111, 110, 101, 58]
/-- An order's row: what became of its two deeds (code 0: nothing), and how much. -/
structure G where
  o : Int
  a : Int
  n : Int
  b : Int
  m : Int
deriving DecidableEq
def one (o d c q : Int) : List R := if 0 < c then [⟨o, d, c, 0, q⟩] else []
def rowsG (g : G) : List R := one g.o 2 g.a g.n ++ one g.o 5 g.b g.m
def cellT (c q : Int) : Bt := if c = 0 then wNo else if c = 2 then wRef else wDone ++ Mon.put q
def headT (s : Int) : List Bt := [wName, Mon.put s]
def rowT (g : G) : List Bt := [Mon.put g.o, cellT g.a g.n, cellT g.b g.m]
def endT (n t : Int) : List Bt := [wEnd, Mon.put n, Mon.put t]
/-- All quantities together. -/
def totL : List R → Int
  | [] => 0
  | x :: r => x.q + totL r
def totK : List G → Int
  | [] => 0
  | g :: r => g.n + g.m + totK r
def lastO (l : Int) : List G → Int
  | [] => l
  | g :: r => lastO g.o r
def single (x : R) : G := if x.d = 2 then ⟨x.o, x.c, x.q, 0, 0⟩ else ⟨x.o, 0, 0, x.c, x.q⟩
def push (x : R) : List G → List G
  | [] => [single x]
  | g :: t => if x.o = g.o then ⟨x.o, x.c, x.q, g.b, g.m⟩ :: t else single x :: g :: t
theorem push_cons (x : R) (g : G) (t : List G) : push x (g :: t) = if x.o = g.o then ⟨x.o, x.c, x.q, g.b, g.m⟩ :: t else single x :: g :: t := rfl
/-- A statement's rows, an order a row. -/
def grpL (L : List R) : List G := L.foldr push []
def tableK (s : Int) (K : List G) (t : Int) : List (List Bt) := headT s :: (K.map rowT ++ [endT (K.length : Int) t])
def tableL (s : Int) (L : List R) : List (List Bt) := tableK s (grpL L) (totL L)
def fileL (s : Int) (L : List R) : Bt := Csv.prRows (tableL s L)
def prt (p s : Int) (L : List R) : Bt := if p = 2 ∧ validB p s L = true then fileL s L else []
def prtC (p s : Int) (L : List R) : Int := if p = 2 ∧ validB p s L = true then 0 else 2

/-- What a cell says: a code, or -1; and how much. -/
def cellC (f : Bt) : Int := if f = wNo then 0 else if f = wRef then 2 else if f.take 5 = wDone ∧ 0 ≤ numN (f.drop 5) 999 then 1 else -1
def cellQ (f : Bt) : Int := if cellC f = 1 then numN (f.drop 5) 999 else 0
def gOf (F : List Bt) : G := ⟨numN (fa F 0) 60, cellC (fa F 1), cellQ (fa F 1), cellC (fa F 2), cellQ (fa F 2)⟩
abbrev Rej := Nat × Nat × Int
def headC (F : List Bt) : Nat × Int :=
  if fa F 0 ≠ wName then (1, 7) else if wide F.length 2 ≠ 0 then (wide F.length 2, 1) else if numN (fa F 1) 1073741824 < 1 then (2, 3) else (0, 0)
def tailC (F : List Bt) (many tot : Int) : Nat × Int :=
  if Mon.getB (fa F 1) = false ∨ Mon.getV (fa F 1) < 0 then (2, 3) else if Mon.getV (fa F 1) ≠ many then (2, 4)
  else if Mon.getB (fa F 2) = false ∨ Mon.getV (fa F 2) < 0 then (3, 3) else if Mon.getV (fa F 2) ≠ tot then (3, 5) else (0, 0)
def rowC (F : List Bt) (last : Int) : Nat × Int :=
  if numN (fa F 0) 60 < 1 then (1, 3) else if cellC (fa F 1) < 0 then (2, 3) else if cellC (fa F 2) < 0 then (3, 3)
  else if cellC (fa F 1) = 0 ∧ cellC (fa F 2) = 0 then (2, 3) else if numN (fa F 0) 60 ≤ last then (1, 6) else (0, 0)
/-- What the rows gone through have told. -/
structure PS where
  n : Nat
  seq : Int
  rows : List R
  many : Int
  last : Int
  tot : Int
  ended : Bool
def step (st : PS) (F : List Bt) : Except Rej PS :=
  if st.ended = true then .error (st.n + 1, 1, 7)
  else if st.n = 0 then (if (headC F).1 ≠ 0 then .error (st.n + 1, headC F) else .ok ⟨st.n + 1, numN (fa F 1) 1073741824, st.rows, st.many, st.last, st.tot, false⟩)
  else if wide F.length 3 ≠ 0 then .error (st.n + 1, wide F.length 3, 1)
  else if fa F 0 = wEnd then (if (tailC F st.many st.tot).1 ≠ 0 then .error (st.n + 1, tailC F st.many st.tot) else .ok ⟨st.n + 1, st.seq, st.rows, st.many, st.last, st.tot, true⟩)
  else (if (rowC F st.last).1 ≠ 0 then .error (st.n + 1, rowC F st.last) else .ok ⟨st.n + 1, st.seq, st.rows ++ rowsG (gOf F), st.many + 1, (gOf F).o, st.tot + ((gOf F).n + (gOf F).m), false⟩)
def runL : PS → List (List Bt) → Except Rej (Int × List R)
  | st, [] => if st.ended = true then .ok (st.seq, st.rows) else .error (st.n + 1, 1, 7)
  | st, F :: r => match step st F with
    | .error e => .error e
    | .ok st' => runL st' r
def st0 : PS := ⟨0, 0, [], 0, 0, 0, false⟩
def told (t : Bt) : Csv.Res → Except Rej (Int × List R)
  | .bad p c => .error (Csv.lineOf (t.take p), Csv.colOf (t.take p), (c : Int))
  | .rows T => runL st0 T
def parseM (t : Bt) : Except Rej (Int × List R) := if 65536 < t.length then .error (1, 1, 8) else told t (Csv.run Csv.st0 0 t)

/-! ### Cells -/
theorem num_nil (most : Int) : numN [] most = -1 := by
  unfold numN
  rw [if_neg]
  rintro ⟨h, _⟩
  revert h; decide
theorem cell_done {q : Int} (h0 : 0 ≤ q) (h1 : q ≤ 999) : cellC (wDone ++ Mon.put q) = 1 ∧ cellQ (wDone ++ Mon.put q) = q := by
  have hn := num_put (n := q) (most := 999) h0 h1 (by unfold top; omega)
  have e1 : (wDone ++ Mon.put q).take 5 = wDone := rfl
  have e2 : (wDone ++ Mon.put q).drop 5 = Mon.put q := rfl
  have hc : cellC (wDone ++ Mon.put q) = 1 := by
    unfold cellC
    rw [if_neg (by simp), if_neg (by simp), e1, e2, hn, if_pos ⟨rfl, h0⟩]
  refine ⟨hc, ?_⟩
  unfold cellQ
  rw [if_pos hc, e2, hn]
theorem read_cell {c q : Int} (c0 : 0 ≤ c) (c2 : c ≤ 2) (q0 : 0 ≤ q) (q1 : q ≤ 999) (h : c ≠ 1 → q = 0) : cellC (cellT c q) = c ∧ cellQ (cellT c q) = q := by
  unfold cellT
  rcases (show c = 0 ∨ c = 1 ∨ c = 2 from by omega) with rfl | rfl | rfl
  · rw [if_pos rfl, h (by omega)]; decide
  · rw [if_neg (by omega), if_neg (by omega)]; exact cell_done q0 q1
  · rw [if_neg (by omega), if_pos rfl, h (by omega)]; decide
theorem cell_bound (f : Bt) : -1 ≤ cellC f ∧ cellC f ≤ 2 ∧ 0 ≤ cellQ f ∧ cellQ f ≤ 999 ∧ (cellC f ≠ 1 → cellQ f = 0) := by
  have hb : -1 ≤ cellC f ∧ cellC f ≤ 2 := by
    unfold cellC; (repeat' split) <;> omega
  refine ⟨hb.1, hb.2, ?_⟩
  unfold cellQ
  split
  · rename_i h
    refine ⟨?_, (num_le _ (by omega)).2, fun e => absurd h e⟩
    unfold cellC at h
    split at h
    · omega
    split at h
    · omega
    split at h
    · rename_i g; exact g.2
    · omega
  · exact ⟨by omega, by omega, fun _ => rfl⟩
/-! ### What an order's row may be -/
structure GOk (g : G) : Prop where
  o0 : 1 ≤ g.o
  o1 : g.o ≤ 60
  a0 : 0 ≤ g.a
  a2 : g.a ≤ 2
  n0 : 0 ≤ g.n
  n1 : g.n ≤ 999
  na : g.a ≠ 1 → g.n = 0
  b0 : 0 ≤ g.b
  b2 : g.b ≤ 2
  m0 : 0 ≤ g.m
  m1 : g.m ≤ 999
  mb : g.b ≠ 1 → g.m = 0
  ab : ¬ (g.a = 0 ∧ g.b = 0)
structure KOk (K : List G) : Prop where
  each : ∀ g ∈ K, GOk g
  rise : K.Pairwise fun g h => g.o < h.o
theorem KOk.sub {K M : List G} (h : KOk K) (s : M.Sublist K) : KOk M := ⟨fun x hx => h.each x (s.subset hx), h.rise.sublist s⟩
theorem carry_d {x : R} (h : Row1 2 x) : x.d = 2 ∨ x.d = 5 := by
  have hp := h.party
  rcases six h.key.d0 h.key.d1 with e | e | e | e | e | e
  all_goals rw [e] at hp
  · exact absurd hp (by decide)
  · exact absurd hp (by decide)
  · exact Or.inl e
  · exact absurd hp (by decide)
  · exact absurd hp (by decide)
  · exact Or.inr e
theorem row_a {x : R} (h : Row1 2 x) : x.a = 0 := by
  by_cases ha : x.a = 0
  · exact ha
  · have := (h.za ha).1
    simp at this
theorem row_q {x : R} (h : Row1 2 x) (hc : x.c ≠ 1) : x.q = 0 := by
  by_cases hq : x.q = 0
  · exact hq
  · have := (h.zq hq).2
    have := h.c1
    have := h.c2
    omega
theorem row_one {o d c q : Int} (o0 : 1 ≤ o) (o1 : o ≤ 60) (hd : d = 2 ∨ d = 5) (c0 : 0 < c) (c2 : c ≤ 2) (q0 : 0 ≤ q) (q1 : q ≤ 999) (h : c ≠ 1 → q = 0) : Row1 2 ⟨o, d, c, 0, q⟩ := by
  refine ⟨⟨?_, ?_, ?_, ?_⟩, ?_, ?_, ?_, by simp, by simp, q0, q1, by simp, ?_⟩
  · show 0 < o; omega
  · show o < 61; omega
  · show 0 ≤ d; omega
  · show d < 6; omega
  · rcases hd with rfl | rfl <;> rfl
  · show 1 ≤ c; omega
  · exact c2
  · intro e
    refine ⟨by omega, ?_⟩
    show c ≠ 2
    intro e2
    exact e (h (by omega))
theorem one_mem {o d c q : Int} {x : R} (h : x ∈ one o d c q) : 0 < c ∧ x = ⟨o, d, c, 0, q⟩ := by
  unfold one at h
  split at h
  · rename_i hc; exact ⟨hc, List.mem_singleton.1 h⟩
  · cases h
theorem mem_rows {g : G} {x : R} (h : x ∈ rowsG g) : (0 < g.a ∧ x = ⟨g.o, 2, g.a, 0, g.n⟩) ∨ (0 < g.b ∧ x = ⟨g.o, 5, g.b, 0, g.m⟩) := by
  unfold rowsG at h
  rcases List.mem_append.1 h with h | h
  · exact Or.inl (one_mem h)
  · exact Or.inr (one_mem h)
theorem rows_a {g : G} (h : 0 < g.a) : (⟨g.o, 2, g.a, 0, g.n⟩ : R) ∈ rowsG g := by unfold rowsG one; rw [if_pos h]; simp
theorem rows_b {g : G} (h : 0 < g.b) : (⟨g.o, 5, g.b, 0, g.m⟩ : R) ∈ rowsG g := by unfold rowsG one; rw [if_pos h]; simp
theorem rows_o {g : G} {x : R} (h : x ∈ rowsG g) : x.o = g.o := by
  rcases mem_rows h with ⟨_, rfl⟩ | ⟨_, rfl⟩ <;> rfl
theorem rows_ne {g : G} (h : GOk g) : ∃ x, x ∈ rowsG g := by
  by_cases ha : 0 < g.a
  · exact ⟨_, rows_a ha⟩
  · have := h.a0
    have := h.b0
    have := h.ab
    exact ⟨_, rows_b (by omega)⟩
theorem rows_row {g : G} (h : GOk g) {x : R} (hx : x ∈ rowsG g) : Row1 2 x := by
  rcases mem_rows hx with ⟨c, rfl⟩ | ⟨c, rfl⟩
  · exact row_one h.o0 h.o1 (Or.inl rfl) c h.a2 h.n0 h.n1 h.na
  · exact row_one h.o0 h.o1 (Or.inr rfl) c h.b2 h.m0 h.m1 h.mb
theorem rows_rise (g : G) : (rowsG g).Pairwise fun x y => less x y = true := by
  unfold rowsG one
  (repeat' split) <;> simp [less_iff]
/-- Keys of the carrier's that rise: two of each order at most. -/
theorem rise_few {L : List R} (h : ∀ x ∈ L, Row1 2 x) (hr : L.Pairwise fun x y => less x y = true) : L.length ≤ 120 := by
  have key : ∀ x ∈ L, 0 ≤ 2 * x.o + (if x.d = 2 then 0 else 1) - 2 ∧ 2 * x.o + (if x.d = 2 then 0 else 1) - 2 < 120 := fun x hx => by
    have := (h x hx).key.o0
    have := (h x hx).key.o1
    split <;> omega
  have mono : ∀ x ∈ L, ∀ y ∈ L, less x y = true → 2 * x.o + (if x.d = 2 then 0 else 1) < 2 * y.o + (if y.d = 2 then (0 : Int) else 1) := fun x hx y hy hl => by
    rw [less_iff] at hl
    rcases carry_d (h x hx) with e | e <;> rcases carry_d (h y hy) with f | f <;> ((repeat' split) <;> omega)
  have H : ∀ (M : List R) (b : Int), (∀ x ∈ M, x ∈ L) → M.Pairwise (fun x y => less x y = true) → (∀ x ∈ M, b ≤ 2 * x.o + (if x.d = 2 then 0 else 1) - 2) → b ≤ 120 → (M.length : Int) ≤ 120 - b := by
    intro M
    induction M with
    | nil => intro b _ _ _ hb; simp; omega
    | cons x M ih =>
      intro b hM hp hb h120
      rw [List.pairwise_cons] at hp
      have hx := hM x (by simp)
      have k1 := key x hx
      have k2 := hb x (by simp)
      have := ih (2 * x.o + (if x.d = 2 then 0 else 1) - 2 + 1) (fun y hy => hM y (List.mem_cons_of_mem _ hy)) hp.2 (fun y hy => by
        have := mono x hx y (hM y (List.mem_cons_of_mem _ hy)) (hp.1 y hy)
        omega) (by omega)
      simp only [List.length_cons]
      omega
  have := H L 0 (fun x hx => hx) hr (fun x hx => (key x hx).1) (by omega)
  omega
theorem KOk.few {K : List G} (h : KOk K) : K.length ≤ 60 := by
  have H : ∀ (M : List G) (b : Int), (∀ g ∈ M, GOk g) → M.Pairwise (fun g h => g.o < h.o) → (∀ g ∈ M, b < g.o) → b ≤ 60 → (M.length : Int) ≤ 60 - b := by
    intro M
    induction M with
    | nil => intro b _ _ _ hb; simp; omega
    | cons g M ih =>
      intro b hM hp hb h60
      rw [List.pairwise_cons] at hp
      have k1 := (hM g (by simp)).o1
      have k2 := hb g (by simp)
      have := ih g.o (fun y hy => hM y (List.mem_cons_of_mem _ hy)) hp.2 hp.1 k1
      simp only [List.length_cons]
      omega
  have := H K 0 h.each h.rise (fun g hg => by have := (h.each g hg).o0; omega) (by omega)
  omega
theorem KOk.good {K : List G} (h : KOk K) : Rw.Good 2 (K.flatMap rowsG) := by
  have he : ∀ x ∈ K.flatMap rowsG, Row1 2 x := fun x hx => by
    obtain ⟨g, hg, hx⟩ := List.mem_flatMap.1 hx
    exact rows_row (h.each g hg) hx
  have hr : (K.flatMap rowsG).Pairwise fun x y => less x y = true := by
    rw [List.pairwise_flatMap]
    refine ⟨fun g _ => rows_rise g, h.rise.imp fun {g k} hgk x hx y hy => ?_⟩
    rw [less_iff, rows_o hx, rows_o hy]
    exact Or.inl hgk
  exact ⟨by omega, by omega, Nat.le_trans (rise_few he hr) (by omega), he, hr⟩
/-! ### Rows, an order a row -/
theorem single_rows {x : R} (h : Row1 2 x) : rowsG (single x) = [x] := by
  have ha := row_a h
  have := h.c1
  rcases carry_d h with e | e
  · unfold rowsG single one
    rw [if_pos e]
    simp only
    rw [if_pos (by omega), if_neg (by omega)]
    cases x; simp only at ha e; subst ha e; rfl
  · unfold rowsG single one
    rw [if_neg (show ¬ x.d = 2 by omega)]
    simp only
    rw [if_neg (by omega), if_pos (by omega)]
    cases x; simp only at ha e; subst ha e; rfl
theorem single_o (x : R) : (single x).o = x.o := by unfold single; split <;> rfl
theorem single_ok {x : R} (h : Row1 2 x) : GOk (single x) := by
  have := h.key.o0
  have := h.key.o1
  have := h.c1
  unfold single
  split
  · exact ⟨by show 1 ≤ x.o; omega, by show x.o ≤ 60; omega, by show 0 ≤ x.c; omega, h.c2, h.q0, h.q1, row_q h, by simp, by simp, by simp, by simp, by simp, by simp; omega⟩
  · exact ⟨by show 1 ≤ x.o; omega, by show x.o ≤ 60; omega, by simp, by simp, by simp, by simp, by simp, by show 0 ≤ x.c; omega, h.c2, h.q0, h.q1, row_q h, by simp; omega⟩
theorem push_head (x : R) (K : List G) : ∃ g t, push x K = g :: t ∧ g.o = x.o := by
  cases K with
  | nil => exact ⟨_, _, rfl, single_o x⟩
  | cons g t =>
    rw [push_cons]
    split
    · exact ⟨_, _, rfl, rfl⟩
    · exact ⟨_, _, rfl, single_o x⟩
theorem grp_ok : ∀ {L : List R}, Rw.Good 2 L → KOk (grpL L) ∧ (grpL L).flatMap rowsG = L
  | [], _ => ⟨⟨by simp [grpL], by simp [grpL]⟩, by simp [grpL]⟩
  | x :: r, h => by
    obtain ⟨k, e⟩ := grp_ok (h.sub (List.sublist_cons_self x r))
    have hx := h.each x (by simp)
    have hp := List.pairwise_cons.1 h.rise
    have hs := single_ok hx
    have hr := single_rows hx
    have ho := single_o x
    show KOk (push x (grpL r)) ∧ (push x (grpL r)).flatMap rowsG = x :: r
    cases hK : grpL r with
    | nil =>
      rw [hK] at e
      have : r = [] := by rw [← e]; rfl
      subst this
      exact ⟨⟨fun g hg => by rw [List.mem_singleton.1 hg]; exact hs, by simp [push]⟩, by simp [push, hr]⟩
    | cons g t =>
      rw [hK] at k e
      have hg := k.each g (by simp)
      have hin : ∀ y ∈ rowsG g, less x y = true := fun y hy => hp.1 y (by rw [← e, List.flatMap_cons]; exact List.mem_append_left _ hy)
      have hpk := List.pairwise_cons.1 k.rise
      rw [push_cons]
      by_cases hxo : x.o = g.o
      · rw [if_pos hxo]
        have ga : g.a = 0 := by
          by_cases ha : 0 < g.a
          · have := less_iff.1 (hin _ (rows_a ha))
            simp only at this
            rcases carry_d hx with e2 | e2 <;> omega
          · have := hg.a0; omega
        have gb : 0 < g.b := by have := hg.b0; have := hg.ab; omega
        have xd : x.d = 2 := by
          have := less_iff.1 (hin _ (rows_b gb))
          simp only at this
          rcases carry_d hx with e2 | e2 <;> omega
        have c1 := hx.c1
        have k1 : KOk (⟨x.o, x.c, x.q, g.b, g.m⟩ :: t) := ⟨fun y hy => by
          rcases List.mem_cons.1 hy with rfl | hy
          · exact ⟨by show 1 ≤ x.o; rw [hxo]; exact hg.o0, by show x.o ≤ 60; rw [hxo]; exact hg.o1, by show 0 ≤ x.c; omega, hx.c2, hx.q0, hx.q1, row_q hx, hg.b0, hg.b2, hg.m0, hg.m1, hg.mb, by simp; omega⟩
          · exact k.each y (List.mem_cons_of_mem _ hy), by
          rw [List.pairwise_cons]
          exact ⟨fun y hy => by show x.o < y.o; rw [hxo]; exact hpk.1 y hy, hpk.2⟩⟩
        refine ⟨k1, ?_⟩
        have e3 : rowsG ⟨x.o, x.c, x.q, g.b, g.m⟩ = x :: rowsG g := by
          unfold rowsG one
          simp only
          rw [if_pos (show 0 < x.c by omega), hxo, if_pos gb, if_neg (show ¬ 0 < g.a by omega)]
          have ha := row_a hx
          cases x; simp only at ha xd hxo; subst ha xd hxo; rfl
        rw [List.flatMap_cons, e3, List.cons_append, ← List.flatMap_cons, e]
      · rw [if_neg hxo]
        have hlt : x.o < g.o := by
          obtain ⟨y, hy⟩ := rows_ne hg
          have := less_iff.1 (hin y hy)
          rw [rows_o hy] at this
          omega
        refine ⟨⟨fun y hy => ?_, ?_⟩, ?_⟩
        · rcases List.mem_cons.1 hy with rfl | hy
          · exact hs
          · exact k.each y hy
        · rw [List.pairwise_cons]
          refine ⟨fun y hy => ?_, k.rise⟩
          rw [ho]
          rcases List.mem_cons.1 hy with rfl | hy
          · exact hlt
          · have := hpk.1 y hy; omega
        · rw [List.flatMap_cons, hr, e]; rfl
theorem tot_append : ∀ (L M : List R), totL (L ++ M) = totL L + totL M
  | [], M => by simp [totL]
  | x :: L, M => by rw [List.cons_append, totL, totL, tot_append L M]; omega
theorem tot_rows {g : G} (h : GOk g) : totL (rowsG g) = g.n + g.m := by
  have := h.a0
  have := h.b0
  unfold rowsG one
  split <;> split <;> simp only [totL, List.append_nil, List.nil_append, List.cons_append]
  · omega
  · have := h.mb (by omega); omega
  · have := h.na (by omega); omega
  · have := h.na (by omega); have := h.mb (by omega); omega
theorem tot_flat : ∀ {K : List G}, KOk K → totL (K.flatMap rowsG) = totK K
  | [], _ => rfl
  | g :: K, h => by rw [List.flatMap_cons, tot_append, tot_rows (h.each g (by simp)), tot_flat (h.sub (List.sublist_cons_self g K)), totK]
theorem tot_bound : ∀ {K : List G}, (∀ g ∈ K, GOk g) → 0 ≤ totK K ∧ totK K ≤ 1998 * (K.length : Int)
  | [], _ => by simp [totK]
  | g :: K, h => by
    have ih := tot_bound (K := K) fun x hx => h x (List.mem_cons_of_mem _ hx)
    have g1 := h g (by simp)
    have := g1.n0; have := g1.n1; have := g1.m0; have := g1.m1
    rw [totK, List.length_cons]
    constructor <;> omega
theorem totL_bound {L : List R} (h : Rw.Good 2 L) : 0 ≤ totL L ∧ totL L ≤ 119880 := by
  obtain ⟨k, e⟩ := grp_ok h
  have h1 := tot_flat k
  rw [e] at h1
  have h2 := tot_bound k.each
  have h3 := k.few
  omega
/-- The orders of rows, as they come: one that is not the one ahead. -/
def ordL (p : Int) : List R → List Int
  | [] => []
  | x :: r => (if x.o = p then [] else [x.o]) ++ ordL x.o r
theorem ord_snoc : ∀ (M : List R) (p : Int) (x : R), ordL p (M ++ [x]) = ordL p M ++ (if x.o = (M.getLast?.map (·.o)).getD p then [] else [x.o])
  | [], p, x => by
    show (if x.o = p then [] else [x.o]) ++ [] = [] ++ _
    rw [List.append_nil]; rfl
  | y :: M, p, x => by
    rw [List.cons_append, ordL, ordL, ord_snoc M y.o x, List.append_assoc]
    congr 2
    cases M with
    | nil => rfl
    | cons z M => rw [List.getLast?_cons_cons]; cases h : (z :: M).getLast? with
      | none => simp at h
      | some w => rfl
theorem ord_grp : ∀ (r : List R) (x : R), ∃ g t, grpL (x :: r) = g :: t ∧ g.o = x.o ∧ t.map (·.o) = ordL x.o r
  | [], x => ⟨single x, [], rfl, single_o x, rfl⟩
  | y :: r, x => by
    obtain ⟨g, t, e1, e2, e3⟩ := ord_grp r y
    have e : grpL (x :: y :: r) = push x (grpL (y :: r)) := rfl
    rw [e, e1, push_cons]
    by_cases h : x.o = g.o
    · rw [if_pos h]
      refine ⟨_, t, rfl, rfl, ?_⟩
      rw [ordL, if_pos (by omega), List.nil_append, e3]
    · rw [if_neg h]
      refine ⟨_, g :: t, rfl, single_o x, ?_⟩
      rw [ordL, if_neg (by omega), List.map_cons, e3, e2]; rfl
theorem ord_all {L : List R} (h : Rw.Good 2 L) : ordL 0 L = (grpL L).map (·.o) := by
  cases L with
  | nil => rfl
  | cons x r =>
    obtain ⟨g, t, e1, e2, e3⟩ := ord_grp r x
    have := (h.each x (by simp)).key.o0
    rw [e1, List.map_cons, e3, e2, ordL, if_neg (by omega)]; rfl
/-! ### What rows say of a key -/
def lk (L : List R) (o d : Int) : Option R := L.find? fun y => decide (y.o = o) && decide (y.d = d)
theorem lk_mem : ∀ {L : List R} {x : R}, L.Pairwise (fun x y => less x y = true) → x ∈ L → lk L x.o x.d = some x
  | [], x, _, h => by cases h
  | y :: L, x, hp, h => by
    rw [List.pairwise_cons] at hp
    unfold lk
    rw [List.find?_cons]
    rcases List.mem_cons.1 h with rfl | h
    · simp
    · have := less_iff.1 (hp.1 x h)
      have hb : (decide (y.o = x.o) && decide (y.d = x.d)) = false := by
        rw [Bool.and_eq_false_iff, decide_eq_false_iff_not, decide_eq_false_iff_not]; omega
      rw [hb]
      exact lk_mem hp.2 h
theorem lk_none {L : List R} {o d : Int} (h : ∀ y ∈ L, ¬ (y.o = o ∧ y.d = d)) : lk L o d = none := by
  unfold lk
  rw [List.find?_eq_none]
  intro y hy
  simpa using h y hy
theorem lk_some {L : List R} {o d : Int} {x : R} (h : lk L o d = some x) : x ∈ L ∧ x.o = o ∧ x.d = d := by
  unfold lk at h
  have h1 := List.mem_of_find?_eq_some h
  have h2 := List.find?_some h
  simp only [Bool.and_eq_true, decide_eq_true_eq] at h2
  exact ⟨h1, h2⟩
theorem lk_snoc {M : List R} {x : R} (h : ∀ y ∈ M, less y x = true) (o d : Int) : lk (M ++ [x]) o d = if x.o = o ∧ x.d = d then some x else lk M o d := by
  by_cases hk : x.o = o ∧ x.d = d
  · rw [if_pos hk]
    obtain ⟨rfl, rfl⟩ := hk
    unfold lk
    rw [List.find?_append]
    have : (M.find? fun y => decide (y.o = x.o) && decide (y.d = x.d)) = none := lk_none (L := M) fun y hy => by
      have := less_iff.1 (h y hy); omega
    rw [this]
    simp
  · rw [if_neg hk]
    unfold lk
    rw [List.find?_append]
    have : ([x].find? fun y => decide (y.o = o) && decide (y.d = d)) = none := by
      rw [List.find?_eq_none]
      intro y hy
      rw [List.mem_singleton.1 hy]
      simpa using hk
    rw [this, Option.or_none]
theorem k_same : ∀ {K : List G} {g k : G}, K.Pairwise (fun g h => g.o < h.o) → g ∈ K → k ∈ K → g.o = k.o → g = k
  | [], g, k, _, h, _, _ => by cases h
  | y :: K, g, k, hp, h1, h2, e => by
    rw [List.pairwise_cons] at hp
    rcases List.mem_cons.1 h1 with c1 | c1 <;> rcases List.mem_cons.1 h2 with c2 | c2
    · rw [c1, c2]
    · have := hp.1 _ c2; rw [c1] at e; omega
    · have := hp.1 _ c1; rw [c2] at e; omega
    · exact k_same hp.2 c1 c2 e
/-- A row that is none. -/
def noR : R := ⟨0, 0, 0, 0, 0⟩
theorem lk_two {L : List R} (h : Rw.Good 2 L) {g : G} (hg : g ∈ grpL L) :
    lk L g.o 2 = (if 0 < g.a then some ⟨g.o, 2, g.a, 0, g.n⟩ else none) ∧ lk L g.o 5 = (if 0 < g.b then some ⟨g.o, 5, g.b, 0, g.m⟩ else none) := by
  obtain ⟨k, e⟩ := grp_ok h
  have mem : ∀ x ∈ rowsG g, x ∈ L := fun x hx => by rw [← e]; exact List.mem_flatMap.2 ⟨g, hg, hx⟩
  have back : ∀ y ∈ L, y.o = g.o → y ∈ rowsG g := fun y hy ho => by
    rw [← e] at hy
    obtain ⟨k', hk, hy⟩ := List.mem_flatMap.1 hy
    rw [k_same k.rise hg hk (by rw [← ho, rows_o hy])]
    exact hy
  constructor
  · by_cases ha : 0 < g.a
    · rw [if_pos ha]; exact lk_mem h.rise (mem _ (rows_a ha))
    · rw [if_neg ha]
      refine lk_none fun y hy ⟨h1, h2⟩ => ?_
      rcases mem_rows (back y hy h1) with ⟨c, rfl⟩ | ⟨c, rfl⟩
      · exact ha c
      · simp at h2
  · by_cases hb : 0 < g.b
    · rw [if_pos hb]; exact lk_mem h.rise (mem _ (rows_b hb))
    · rw [if_neg hb]
      refine lk_none fun y hy ⟨h1, h2⟩ => ?_
      rcases mem_rows (back y hy h1) with ⟨c, rfl⟩ | ⟨c, rfl⟩
      · simp at h2
      · exact hb c
theorem lk_no {L : List R} (h : Rw.Good 2 L) {o : Int} (hn : ∀ g ∈ grpL L, g.o ≠ o) (d : Int) : lk L o d = none := by
  obtain ⟨k, e⟩ := grp_ok h
  refine lk_none fun y hy ⟨h1, h2⟩ => ?_
  rw [← e] at hy
  obtain ⟨g, hg, hy⟩ := List.mem_flatMap.1 hy
  exact hn g hg (by rw [← rows_o hy, h1])
/-- The cell of what rows say of a key. -/
def cellB (L : List R) (o d : Int) : Bt := match lk L o d with
  | none => wNo
  | some r => if r.c = 2 then wRef else wDone ++ Mon.put r.q
theorem cellB_two {L : List R} (h : Rw.Good 2 L) {g : G} (hg : g ∈ grpL L) : cellB L g.o 2 = cellT g.a g.n ∧ cellB L g.o 5 = cellT g.b g.m := by
  obtain ⟨e1, e2⟩ := lk_two h hg
  have ok := (grp_ok h).1.each g hg
  have := ok.a0
  have := ok.b0
  unfold cellB
  rw [e1, e2]
  constructor
  · by_cases ha : 0 < g.a
    · rw [if_pos ha]; unfold cellT; rw [if_neg (show ¬ g.a = 0 by omega)]
    · rw [if_neg ha]; unfold cellT; rw [if_pos (by omega)]
  · by_cases hb : 0 < g.b
    · rw [if_pos hb]; unfold cellT; rw [if_neg (show ¬ g.b = 0 by omega)]
    · rw [if_neg hb]; unfold cellT; rw [if_pos (by omega)]
theorem rows_ord {L : List R} (h : Rw.Good 2 L) : (ordL 0 L).map (fun o => [Mon.put o, cellB L o 2, cellB L o 5]) = (grpL L).map rowT := by
  rw [ord_all h, List.map_map]
  apply List.map_congr_left
  intro g hg
  obtain ⟨e1, e2⟩ := cellB_two h hg
  simp only [Function.comp, rowT, e1, e2]
/-! ### Up to an order -/
def upK (K : List G) (k : Int) : List G := K.filter fun g => decide (g.o ≤ k)
theorem up_none {K : List G} {k : Int} (h : ∀ g ∈ K, k < g.o) : upK K k = [] := by
  unfold upK
  rw [List.filter_eq_nil_iff]
  intro g hg
  have := h g hg
  simpa using this
theorem up_all {K : List G} {k : Int} (h : ∀ g ∈ K, g.o ≤ k) : upK K k = K := by
  unfold upK
  rw [List.filter_eq_self]
  intro g hg
  simpa using h g hg
theorem up_next : ∀ {K : List G} (k : Int), K.Pairwise (fun g h => g.o < h.o) → (∃ g ∈ K, g.o = k + 1 ∧ upK K (k + 1) = upK K k ++ [g]) ∨ ((∀ g ∈ K, g.o ≠ k + 1) ∧ upK K (k + 1) = upK K k)
  | [], k, _ => Or.inr ⟨by simp, rfl⟩
  | g :: K, k, hp => by
    rw [List.pairwise_cons] at hp
    have c : ∀ j, upK (g :: K) j = if g.o ≤ j then g :: upK K j else upK K j := fun j => by
      unfold upK
      rw [List.filter_cons]
      simp only [decide_eq_true_eq]
    rcases (show g.o ≤ k ∨ g.o = k + 1 ∨ k + 1 < g.o from by omega) with h | h | h
    · rw [c, c, if_pos (by omega), if_pos h]
      rcases up_next (K := K) k hp.2 with ⟨x, h1, h2, h3⟩ | ⟨h1, h2⟩
      · exact Or.inl ⟨x, List.mem_cons_of_mem _ h1, h2, by rw [h3]; rfl⟩
      · refine Or.inr ⟨fun x hx => ?_, by rw [h2]⟩
        rcases List.mem_cons.1 hx with rfl | hx
        · omega
        · exact h1 x hx
    · refine Or.inl ⟨g, by simp, h, ?_⟩
      rw [c, c, if_pos (by omega), if_neg (by omega), up_none (k := k + 1) (fun x hx => by have := hp.1 x hx; omega), up_none (k := k) (fun x hx => by have := hp.1 x hx; omega)]
      rfl
    · refine Or.inr ⟨fun x hx => ?_, ?_⟩
      · rcases List.mem_cons.1 hx with rfl | hx
        · omega
        · have := hp.1 x hx; omega
      · rw [c, c, if_neg (by omega), if_neg (by omega), up_none (k := k + 1) (fun x hx => by have := hp.1 x hx; omega), up_none (k := k) (fun x hx => by have := hp.1 x hx; omega)]
theorem up_len (K : List G) (k : Int) : (upK K k).length ≤ K.length := List.length_filter_le _ _
end Mft
end Go.Proofs.YtnkcbefamajghaaDoor
namespace Go.Proofs.YtnkcbefamajghaaDoor
open Go Ky Rw
namespace Mft
open Stk (numN fa wide Bt num_put num_yes num_le put_plain put_short plain_put wide_same wide_zero rows_short)

/-! ### Plain fields -/
def Plain (F : List Bt) : Prop := F ≠ [] ∧ F.length ≤ 3 ∧ ∀ f ∈ F, Csv.quotes f = false ∧ f.length ≤ 24
theorem plain_cell {c q : Int} (c0 : 0 ≤ c) (c2 : c ≤ 2) (q0 : 0 ≤ q) (q1 : q ≤ 999) : Csv.quotes (cellT c q) = false ∧ (cellT c q).length ≤ 24 := by
  unfold cellT
  split
  · decide
  split
  · decide
  · have h1 := put_plain q0
    have h2 := put_short q0 (by unfold top; omega)
    refine ⟨?_, by rw [List.length_append]; simp; omega⟩
    unfold Csv.quotes at h1 ⊢
    rw [List.any_append, h1]
    decide
theorem plain_head {s : Int} (h0 : 1 ≤ s) (h1 : s ≤ 1073741824) : Plain (headT s) := by
  refine ⟨by simp [headT], by simp [headT], fun f hf => ?_⟩
  simp only [headT, List.mem_cons, List.not_mem_nil, or_false] at hf
  rcases hf with rfl | rfl
  · decide
  · have := put_short (n := s) (by omega) (by unfold top; omega)
    exact ⟨put_plain (by omega), by omega⟩
theorem plain_row {g : G} (h : GOk g) : Plain (rowT g) := by
  refine ⟨by simp [rowT], by simp [rowT], fun f hf => ?_⟩
  have o0 := h.o0
  have o1 := h.o1
  simp only [rowT, List.mem_cons, List.not_mem_nil, or_false] at hf
  rcases hf with rfl | rfl | rfl
  · have := put_short (n := g.o) (by omega) (by unfold top; omega)
    exact ⟨put_plain (by omega), by omega⟩
  · exact plain_cell h.a0 h.a2 h.n0 h.n1
  · exact plain_cell h.b0 h.b2 h.m0 h.m1
theorem plain_end {n t : Int} (h0 : 0 ≤ n) (h1 : n ≤ 1000000) (t0 : 0 ≤ t) (t1 : t ≤ 1000000) : Plain (endT n t) := by
  refine ⟨by simp [endT], by simp [endT], fun f hf => ?_⟩
  simp only [endT, List.mem_cons, List.not_mem_nil, or_false] at hf
  rcases hf with rfl | rfl | rfl
  · decide
  · have := put_short (n := n) (by omega) (by unfold top; omega)
    exact ⟨put_plain (by omega), by omega⟩
  · have := put_short (n := t) (by omega) (by unfold top; omega)
    exact ⟨put_plain (by omega), by omega⟩
theorem plain_table {s : Int} (s0 : 1 ≤ s) (s1 : s ≤ 1073741824) {K : List G} (h : ∀ g ∈ K, GOk g) (hl : K.length ≤ 60) {t : Int} (t0 : 0 ≤ t) (t1 : t ≤ 1000000) : ∀ F ∈ tableK s K t, Plain F := fun F hF => by
  unfold tableK at hF
  rcases List.mem_cons.1 hF with rfl | hF
  · exact plain_head s0 s1
  · rcases List.mem_append.1 hF with hF | hF
    · obtain ⟨g, hg, rfl⟩ := List.mem_map.1 hF
      exact plain_row (h g hg)
    · rw [List.mem_singleton.1 hF]
      exact plain_end (by omega) (by omega) t0 t1
theorem table_len (s : Int) (K : List G) (t : Int) : (tableK s K t).length = K.length + 2 := by simp [tableK]
theorem table_short {s : Int} {K : List G} {t : Int} (h : ∀ F ∈ tableK s K t, Plain F) (hl : K.length ≤ 60) : (Csv.prRows (tableK s K t)).length ≤ 65536 := by
  have h1 := rows_short (tableK s K t) 24 3 fun F hF => ⟨(h F hF).2.1, fun f hf => ((h F hF).2.2 f hf).2⟩
  rw [table_len] at h1
  have h3 : (K.length + 2) * (3 * (2 * 24 + 3) + 1) ≤ 62 * 154 := Nat.mul_le_mul (by omega) (by omega)
  exact Nat.le_trans h1 (Nat.le_trans h3 (by decide))
theorem plain_norm {T : List (List Bt)} (h : ∀ F ∈ T, Plain F) : Csv.run Csv.st0 0 (Csv.prRows T) = .rows T := by
  have := Csv.run_prRows T
  rw [Csv.norm_full fun F hF => (h F hF).1] at this
  exact this
/-! ### Steps -/
theorem step_head {s : Int} (h0 : 1 ≤ s) (h1 : s ≤ 1073741824) : step st0 (headT s) = .ok ⟨1, s, [], 0, 0, 0, false⟩ := by
  have e1 : fa (headT s) 0 = wName := rfl
  have e2 : fa (headT s) 1 = Mon.put s := rfl
  have e3 : (headT s).length = 2 := rfl
  have hn := num_put (n := s) (most := 1073741824) (by omega) h1 (by unfold top; omega)
  have hc : headC (headT s) = (0, 0) := by
    unfold headC
    rw [e1, e2, e3, if_neg (by simp), if_neg (by decide), hn, if_neg (by omega)]
  unfold step
  rw [if_neg (by simp [st0]), if_pos (show st0.n = 0 from rfl), hc, if_neg (by simp), e2, hn]
  rfl
theorem row_read {g : G} (h : GOk g) : gOf (rowT g) = g := by
  have e0 : fa (rowT g) 0 = Mon.put g.o := rfl
  have e1 : fa (rowT g) 1 = cellT g.a g.n := rfl
  have e2 : fa (rowT g) 2 = cellT g.b g.m := rfl
  have o0 := h.o0
  have o1 := h.o1
  unfold gOf
  rw [e0, e1, e2, num_put (by omega) (by omega) (by unfold top; omega), (read_cell h.a0 h.a2 h.n0 h.n1 h.na).1, (read_cell h.a0 h.a2 h.n0 h.n1 h.na).2, (read_cell h.b0 h.b2 h.m0 h.m1 h.mb).1, (read_cell h.b0 h.b2 h.m0 h.m1 h.mb).2]
theorem row_c {g : G} (h : GOk g) (l : Int) : rowC (rowT g) l = if g.o ≤ l then (1, 6) else (0, 0) := by
  have e0 : fa (rowT g) 0 = Mon.put g.o := rfl
  have e1 : fa (rowT g) 1 = cellT g.a g.n := rfl
  have e2 : fa (rowT g) 2 = cellT g.b g.m := rfl
  have o0 := h.o0
  have o1 := h.o1
  have a0 := h.a0
  have b0 := h.b0
  unfold rowC
  rw [e0, e1, e2, num_put (by omega) (by omega) (by unfold top; omega), (read_cell h.a0 h.a2 h.n0 h.n1 h.na).1, (read_cell h.b0 h.b2 h.m0 h.m1 h.mb).1, if_neg (by omega), if_neg (by omega), if_neg (by omega), if_neg h.ab]
theorem row_noEnd {g : G} (h : GOk g) : fa (rowT g) 0 ≠ wEnd := by
  intro e
  have e0 : fa (rowT g) 0 = Mon.put g.o := rfl
  have o0 := h.o0
  have h1 := plain_put (n := g.o) (by omega) 101 (by rw [← e0, e]; simp)
  revert h1
  decide
theorem step_row {g : G} (h : GOk g) {st : PS} (he : st.ended = false) (hn : 0 < st.n) :
    step st (rowT g) = if g.o ≤ st.last then .error (st.n + 1, 1, 6) else .ok ⟨st.n + 1, st.seq, st.rows ++ rowsG g, st.many + 1, g.o, st.tot + (g.n + g.m), false⟩ := by
  have e3 : (rowT g).length = 3 := rfl
  have hc := row_c h st.last
  unfold step
  rw [if_neg (by rw [he]; simp), if_neg (by omega), e3, if_neg (by decide), if_neg (row_noEnd h), hc, row_read h]
  by_cases hb : g.o ≤ st.last
  · rw [if_pos hb, if_pos hb, if_pos (by simp)]
  · rw [if_neg hb, if_neg hb, if_neg (by simp)]
theorem step_end {n t : Int} (h0 : 0 ≤ n) (h1 : n ≤ 1000000) (t0 : 0 ≤ t) (t1 : t ≤ 1000000) {st : PS} (he : st.ended = false) (hn : 0 < st.n) :
    step st (endT n t) = if n ≠ st.many then .error (st.n + 1, 2, 4) else if t ≠ st.tot then .error (st.n + 1, 3, 5) else .ok ⟨st.n + 1, st.seq, st.rows, st.many, st.last, st.tot, true⟩ := by
  have e0 : fa (endT n t) 0 = wEnd := rfl
  have e1 : fa (endT n t) 1 = Mon.put n := rfl
  have e2 : fa (endT n t) 2 = Mon.put t := rfl
  have e3 : (endT n t).length = 3 := rfl
  obtain ⟨a, b⟩ := Mon.get_put (n := n) (by unfold top; omega) (by unfold top; omega)
  obtain ⟨c, d⟩ := Mon.get_put (n := t) (by unfold top; omega) (by unfold top; omega)
  have hc : tailC (endT n t) st.many st.tot = if n ≠ st.many then (2, 4) else if t ≠ st.tot then (3, 5) else (0, 0) := by
    unfold tailC
    rw [e1, e2, a, b, c, d, if_neg (by simp; omega)]
    by_cases hb : n = st.many
    · have hz : ¬ (n ≠ st.many) := fun h => h hb
      rw [if_neg hz, if_neg (by simp; omega), if_neg hz]
    · rw [if_pos hb, if_pos hb]
  unfold step
  rw [if_neg (by rw [he]; simp), if_neg (by omega), e3, if_neg (by decide), if_pos e0, hc]
  by_cases hb : n = st.many
  · have hz : ¬ (n ≠ st.many) := fun h => h hb
    rw [if_neg hz, if_neg hz]
    by_cases ht : t = st.tot
    · have hy : ¬ (t ≠ st.tot) := fun h => h ht
      rw [if_neg hy, if_neg hy, if_neg (by simp)]
    · rw [if_pos ht, if_pos ht, if_pos (by simp)]
  · rw [if_pos hb, if_pos hb, if_pos (by simp)]
/-! ### Runs of steps -/
inductive Runs : PS → List (List Bt) → PS → Prop
  | nil (st : PS) : Runs st [] st
  | cons {st st' st'' : PS} {F : List Bt} {r : List (List Bt)} (h : step st F = .ok st') (g : Runs st' r st'') : Runs st (F :: r) st''
theorem Runs.run {st st' : PS} {T : List (List Bt)} (h : Runs st T st') (r : List (List Bt)) : runL st (T ++ r) = runL st' r := by
  induction h with
  | nil st => rfl
  | cons h g ih => rw [List.cons_append, runL, h]; exact ih
theorem run_rows : ∀ (K : List G) (n : Nat) (s : Int) (A : List R) (m l t : Int), (∀ g ∈ K, GOk g) → K.Pairwise (fun g h => g.o < h.o) → (∀ g ∈ K, l < g.o) → 0 < n → Runs ⟨n, s, A, m, l, t, false⟩ (K.map rowT) ⟨n + K.length, s, A ++ K.flatMap rowsG, m + K.length, lastO l K, t + totK K, false⟩
  | [], n, s, A, m, l, t, _, _, _, _ => by
    simp only [List.map_nil, List.length_nil, List.flatMap_nil, List.append_nil, lastO, totK, Nat.add_zero]
    have e : (⟨n, s, A, m + ((0 : Nat) : Int), l, t + 0, false⟩ : PS) = ⟨n, s, A, m, l, t, false⟩ := by rw [Int.natCast_zero, Int.add_zero, Int.add_zero]
    rw [e]
    exact Runs.nil _
  | g :: K, n, s, A, m, l, t, h, hp, hl, hn => by
    have hg := h g (by simp)
    rw [List.pairwise_cons] at hp
    have hs := step_row hg (st := ⟨n, s, A, m, l, t, false⟩) rfl hn
    rw [if_neg (by have := hl g (by simp); show ¬ g.o ≤ l; omega)] at hs
    have ih := run_rows K (n + 1) s (A ++ rowsG g) (m + 1) g.o (t + (g.n + g.m)) (fun x hx => h x (List.mem_cons_of_mem _ hx)) hp.2 hp.1 (by omega)
    rw [List.map_cons]
    refine Runs.cons hs ?_
    have e : (⟨n + 1 + K.length, s, A ++ rowsG g ++ K.flatMap rowsG, m + 1 + (K.length : Int), lastO g.o K, t + (g.n + g.m) + totK K, false⟩ : PS) = ⟨n + (g :: K).length, s, A ++ (g :: K).flatMap rowsG, m + ((g :: K).length : Nat), lastO l (g :: K), t + totK (g :: K), false⟩ := by
      rw [List.length_cons, List.flatMap_cons, lastO, totK, List.append_assoc]
      congr 1
      · omega
      · rw [Int.natCast_add]; omega
      · omega
    rw [← e]
    exact ih
theorem runs_front {s : Int} (h0 : 1 ≤ s) (h1 : s ≤ 1073741824) {K : List G} (g : ∀ g ∈ K, GOk g) (hp : K.Pairwise fun g h => g.o < h.o) : Runs st0 (headT s :: K.map rowT) ⟨1 + K.length, s, K.flatMap rowsG, (K.length : Int), lastO 0 K, totK K, false⟩ := by
  have := run_rows K 1 s [] 0 0 0 g hp (fun x hx => by have := (g x hx).o0; omega) (by omega)
  rw [List.nil_append, Int.zero_add, Int.zero_add] at this
  exact Runs.cons (step_head h0 h1) this
theorem table_split (s : Int) (K : List G) (t : Int) (r : List (List Bt)) : tableK s K t ++ r = headT s :: K.map rowT ++ (endT (K.length : Int) t :: r) := by simp [tableK]
/-- A file of orders' rows, whose end says another sum, or the sum. -/
theorem run_table {s : Int} (s0 : 1 ≤ s) (s1 : s ≤ 1073741824) {K : List G} (g : ∀ g ∈ K, GOk g) (hp : K.Pairwise fun g h => g.o < h.o) (hl : K.length ≤ 60) {t : Int} (t0 : 0 ≤ t) (t1 : t ≤ 1000000) :
    runL st0 (tableK s K t) = if t = totK K then .ok (s, K.flatMap rowsG) else .error (K.length + 2, 3, 5) := by
  have e1 := (runs_front s0 s1 g hp).run [endT (K.length : Int) t]
  have e2 := step_end (n := (K.length : Int)) (t := t) (by omega) (by omega) t0 t1 (st := ⟨1 + K.length, s, K.flatMap rowsG, (K.length : Int), lastO 0 K, totK K, false⟩) rfl (by show 0 < 1 + K.length; omega)
  have e3 := table_split s K t []
  rw [List.append_nil] at e3
  rw [if_neg (fun h => h rfl)] at e2
  rw [e3, e1, runL, e2]
  by_cases ht : t = totK K
  · rw [if_neg (fun h => h ht), if_pos ht]
    simp only
    rw [runL, if_pos rfl]
  · rw [if_pos (show t ≠ totK K from ht), if_neg ht]
    show Except.error (1 + K.length + 1, 3, 5) = _
    rw [show 1 + K.length + 1 = K.length + 2 by omega]
theorem run_good {s : Int} {L : List R} (h : Valid 2 s L) : runL st0 (tableL s L) = .ok (s, L) := by
  obtain ⟨k, e⟩ := grp_ok h.good
  obtain ⟨b0, b1⟩ := totL_bound h.good
  have ht := tot_flat k
  rw [e] at ht
  have := run_table h.s0 h.s1 k.each k.rise k.few (t := totL L) b0 (by omega)
  rw [if_pos ht, e] at this
  exact this
theorem table_plain {s : Int} {L : List R} (h : Valid 2 s L) : ∀ F ∈ tableL s L, Plain F := by
  obtain ⟨k, e⟩ := grp_ok h.good
  obtain ⟨b0, b1⟩ := totL_bound h.good
  exact plain_table h.s0 h.s1 k.each k.few b0 (by omega)
theorem run_file {s : Int} {L : List R} (h : Valid 2 s L) : Csv.run Csv.st0 0 (fileL s L) = .rows (tableL s L) := plain_norm (table_plain h)
theorem file_small {s : Int} {L : List R} (h : Valid 2 s L) : (fileL s L).length ≤ 65536 := table_short (table_plain h) (grp_ok h.good).1.few
theorem parse_file {s : Int} {L : List R} (h : Valid 2 s L) : parseM (fileL s L) = .ok (s, L) := by
  unfold parseM
  rw [if_neg (by have := file_small h; omega), run_file h]
  exact run_good h
/-- A row of an order says another quantity: the sum is another one. -/
theorem parse_total {s : Int} (s0 : 1 ≤ s) (s1 : s ≤ 1073741824) {K : List G} (g : ∀ g ∈ K, GOk g) (hp : K.Pairwise fun g h => g.o < h.o) (hl : K.length ≤ 60) {t : Int} (t0 : 0 ≤ t) (t1 : t ≤ 1000000) (hne : t ≠ totK K) : parseM (Csv.prRows (tableK s K t)) = .error (K.length + 2, 3, 5) := by
  have hpl := plain_table s0 s1 g hl t0 t1
  unfold parseM
  rw [if_neg (by have := table_short hpl hl; omega), plain_norm hpl]
  show runL st0 (tableK s K t) = _
  rw [run_table s0 s1 g hp hl t0 t1, if_neg hne]
theorem tot_set : ∀ {K : List G} {j : Nat} {g h : G}, K[j]? = some g → totK (K.set j h) = totK K - (g.n + g.m) + (h.n + h.m)
  | [], j, g, h, hj => by simp at hj
  | x :: K, 0, g, h, hj => by
    rw [List.getElem?_cons_zero] at hj
    cases hj
    rw [List.set_cons_zero, totK, totK]; omega
  | x :: K, j + 1, g, h, hj => by
    rw [List.getElem?_cons_succ] at hj
    rw [List.set_cons_succ, totK, totK, tot_set hj]; omega
theorem rise_set : ∀ {K : List G} {j : Nat} {g h : G}, K[j]? = some g → h.o = g.o → K.Pairwise (fun g h => g.o < h.o) → (K.set j h).Pairwise fun g h => g.o < h.o
  | [], j, g, h, hj, _, _ => by simp at hj
  | x :: K, 0, g, h, hj, e, hp => by
    rw [List.getElem?_cons_zero] at hj
    cases hj
    rw [List.pairwise_cons] at hp
    rw [List.set_cons_zero, List.pairwise_cons]
    exact ⟨fun y hy => by rw [e]; exact hp.1 y hy, hp.2⟩
  | x :: K, j + 1, g, h, hj, e, hp => by
    rw [List.getElem?_cons_succ] at hj
    rw [List.pairwise_cons] at hp
    rw [List.set_cons_succ, List.pairwise_cons]
    refine ⟨fun y hy => ?_, rise_set hj e hp.2⟩
    rcases List.mem_or_eq_of_mem_set hy with hy | rfl
    · exact hp.1 y hy
    · rw [e]; exact hp.1 g (List.mem_of_getElem? hj)
/-! ### What is parsed may be -/
theorem cell_cases (f : Bt) : cellC f = -1 ∨ cellC f = 0 ∨ cellC f = 1 ∨ cellC f = 2 := by have := cell_bound f; omega
theorem headC_yes {F : List Bt} (h : ¬ (headC F).1 ≠ 0) : 1 ≤ numN (fa F 1) 1073741824 ∧ numN (fa F 1) 1073741824 ≤ 1073741824 := by
  unfold headC at h
  split at h
  · simp at h
  split at h
  · rename_i h2; exact absurd h2 (by simpa using h)
  split at h
  · simp at h
  rename_i h3
  exact ⟨by omega, (num_le _ (by omega)).2⟩
theorem rowC_yes {F : List Bt} {l : Int} (h : ¬ (rowC F l).1 ≠ 0) : GOk (gOf F) ∧ l < (gOf F).o := by
  unfold rowC at h
  split at h
  · simp at h
  rename_i h1
  split at h
  · simp at h
  rename_i h2
  split at h
  · simp at h
  rename_i h3
  split at h
  · simp at h
  rename_i h4
  split at h
  · simp at h
  rename_i h5
  have b1 := cell_bound (fa F 1)
  have b2 := cell_bound (fa F 2)
  have b0 := num_le (fa F 0) (most := 60) (by omega)
  exact ⟨⟨by show 1 ≤ numN (fa F 0) 60; omega, by show numN (fa F 0) 60 ≤ 60; omega, by show 0 ≤ cellC (fa F 1); omega, b1.2.1, b1.2.2.1, b1.2.2.2.1, b1.2.2.2.2, by show 0 ≤ cellC (fa F 2); omega, b2.2.1, b2.2.2.1, b2.2.2.2.1, b2.2.2.2.2, h4⟩, by show l < numN (fa F 0) 60; omega⟩
/-- What has been gone through. -/
structure InvK (st : PS) (K : List G) : Prop where
  ok : KOk K
  rows : st.rows = K.flatMap rowsG
  many : st.many = (K.length : Int)
  tot : st.tot = totK K
  last : st.last = lastO 0 K
  up : ∀ g ∈ K, g.o ≤ st.last
def Inv (st : PS) : Prop := (st.n = 0 ∧ st.rows = [] ∧ st.many = 0 ∧ st.tot = 0 ∧ st.last = 0 ∧ st.ended = false) ∨ (0 < st.n ∧ 1 ≤ st.seq ∧ st.seq ≤ 1073741824 ∧ ∃ K, InvK st K)
theorem inv_zero : Inv st0 := Or.inl ⟨rfl, rfl, rfl, rfl, rfl, rfl⟩
theorem last_snoc : ∀ (K : List G) (l : Int) (g : G), lastO l (K ++ [g]) = g.o
  | [], l, g => rfl
  | x :: K, l, g => by rw [List.cons_append, lastO]; exact last_snoc K x.o g
theorem totK_append : ∀ (K M : List G), totK (K ++ M) = totK K + totK M
  | [], M => by simp [totK]
  | x :: K, M => by rw [List.cons_append, totK, totK, totK_append K M]; omega
theorem InvK.few {st : PS} {K : List G} (h : InvK st K) : st.rows.length ≤ 120 ∧ (∀ x ∈ st.rows, Row1 2 x) ∧ 0 ≤ st.many ∧ st.many ≤ 60 ∧ 0 ≤ st.tot ∧ st.tot ≤ 119880 ∧ 0 ≤ st.last ∧ st.last ≤ 60 := by
  have g := h.ok.good
  have f := h.ok.few
  have t := tot_bound h.ok.each
  rw [h.rows, h.many, h.tot]
  refine ⟨rise_few g.each g.rise, g.each, by omega, by omega, by omega, by omega, ?_, ?_⟩
  all_goals
    rw [h.last]
    have H : ∀ (M : List G) (l : Int), (∀ g ∈ M, GOk g) → 0 ≤ l → l ≤ 60 → 0 ≤ lastO l M ∧ lastO l M ≤ 60 := by
      intro M
      induction M with
      | nil => intro l _ a b; exact ⟨a, b⟩
      | cons x M ih => intro l hM a b; exact ih x.o (fun y hy => hM y (List.mem_cons_of_mem _ hy)) (by have := (hM x (by simp)).o0; omega) (hM x (by simp)).o1
    have := H K 0 h.ok.each (by omega) (by omega)
    omega
theorem Inv.few {st : PS} (h : Inv st) : st.rows.length ≤ 120 ∧ (∀ x ∈ st.rows, Row1 2 x) ∧ 0 ≤ st.many ∧ st.many ≤ 60 ∧ 0 ≤ st.tot ∧ st.tot ≤ 119880 ∧ 0 ≤ st.last ∧ st.last ≤ 60 := by
  rcases h with ⟨_, h, h1, h2, h3, _⟩ | ⟨_, _, _, K, h⟩
  · rw [h, h1, h2, h3]; simp
  · exact h.few
theorem step_inv {st st' : PS} {F : List Bt} (h : step st F = .ok st') (hi : Inv st) : Inv st' := by
  unfold step at h
  split at h
  · cases h
  rename_i h1
  split at h
  · rename_i hn
    split at h
    · cases h
    rename_i hc
    obtain ⟨a, b⟩ := headC_yes hc
    cases h
    rcases hi with ⟨_, e, e1, e2, e3, _⟩ | ⟨e, _⟩
    · refine Or.inr ⟨by show 0 < st.n + 1; omega, a, b, [], ⟨by simp, by simp⟩, e, e1, e2, e3, by simp⟩
    · omega
  rename_i hn
  obtain ⟨s0, s1, K, hk⟩ : 1 ≤ st.seq ∧ st.seq ≤ 1073741824 ∧ ∃ K, InvK st K := by
    rcases hi with ⟨e, _⟩ | ⟨_, e⟩
    · exact absurd e hn
    · exact e
  split at h
  · cases h
  split at h
  · split at h
    · cases h
    cases h
    exact Or.inr ⟨by show 0 < st.n + 1; omega, s0, s1, K, hk.ok, hk.rows, hk.many, hk.tot, hk.last, hk.up⟩
  · split at h
    · cases h
    rename_i hc
    obtain ⟨a, b⟩ := rowC_yes hc
    cases h
    refine Or.inr ⟨by show 0 < st.n + 1; omega, s0, s1, K ++ [gOf F], ⟨fun x hx => ?_, ?_⟩, ?_, ?_, ?_, (last_snoc K 0 (gOf F)).symm, fun x hx => ?_⟩
    · rcases List.mem_append.1 hx with hx | hx
      · exact hk.ok.each x hx
      · rw [List.mem_singleton.1 hx]; exact a
    · rw [List.pairwise_append]
      refine ⟨hk.ok.rise, by simp, fun x hx y hy => ?_⟩
      rw [List.mem_singleton.1 hy]
      have := hk.up x hx
      omega
    · show st.rows ++ rowsG (gOf F) = _
      rw [hk.rows, List.flatMap_append]
      simp
    · show st.many + 1 = _
      rw [hk.many, List.length_append, List.length_singleton]; omega
    · show st.tot + ((gOf F).n + (gOf F).m) = _
      rw [hk.tot, totK_append, totK, totK]; omega
    · show x.o ≤ (gOf F).o
      rcases List.mem_append.1 hx with hx | hx
      · have := hk.up x hx; omega
      · rw [List.mem_singleton.1 hx]; omega
theorem step_n {st st' : PS} {F : List Bt} (h : step st F = .ok st') : st'.n = st.n + 1 := by
  unfold step at h
  split at h
  · cases h
  split at h
  · split at h
    · cases h
    · cases h; rfl
  split at h
  · cases h
  split at h
  · split at h
    · cases h
    · cases h; rfl
  · split at h
    · cases h
    · cases h; rfl
theorem run_valid : ∀ (T : List (List Bt)) (st : PS) (s : Int) (L : List R), runL st T = .ok (s, L) → Inv st → Valid 2 s L
  | [], st, s, L, h, hi => by
    unfold runL at h
    split at h
    · rename_i he
      cases h
      rcases hi with ⟨_, _, _, _, _, e⟩ | ⟨_, s0, s1, K, hk⟩
      · rw [he] at e; cases e
      · exact ⟨s0, s1, by rw [hk.rows]; exact hk.ok.good⟩
    · cases h
  | F :: T, st, s, L, h, hi => by
    unfold runL at h
    cases hs : step st F with
    | error e => rw [hs] at h; cases h
    | ok st' =>
      rw [hs] at h
      exact run_valid T st' s L h (step_inv hs hi)
theorem parse_valid {t : Bt} {s : Int} {L : List R} (h : parseM t = .ok (s, L)) : Valid 2 s L := by
  unfold parseM at h
  split at h
  · cases h
  cases hr : Csv.run Csv.st0 0 t with
  | bad p c => rw [hr] at h; cases h
  | rows T =>
    rw [hr] at h
    exact run_valid T st0 s L h inv_zero
/-! ### What is rejected -/
theorem headC_no {F : List Bt} (h : (headC F).1 ≠ 0) : 1 ≤ (headC F).2 := by
  unfold headC at h ⊢
  split
  · simp
  rename_i h1
  rw [if_neg h1] at h
  split
  · simp
  rename_i h2
  rw [if_neg h2] at h
  split
  · simp
  rename_i h3
  rw [if_neg h3] at h
  exact absurd rfl h
theorem tailC_no {F : List Bt} {m t : Int} (h : (tailC F m t).1 ≠ 0) : 1 ≤ (tailC F m t).2 := by
  unfold tailC at h ⊢
  split
  · simp
  rename_i h1
  rw [if_neg h1] at h
  split
  · simp
  rename_i h2
  rw [if_neg h2] at h
  split
  · simp
  rename_i h3
  rw [if_neg h3] at h
  split
  · simp
  rename_i h4
  rw [if_neg h4] at h
  exact absurd rfl h
theorem rowC_no {F : List Bt} {l : Int} (h : (rowC F l).1 ≠ 0) : 1 ≤ (rowC F l).2 := by
  unfold rowC at h ⊢
  split
  · simp
  rename_i h1
  rw [if_neg h1] at h
  split
  · simp
  rename_i h2
  rw [if_neg h2] at h
  split
  · simp
  rename_i h3
  rw [if_neg h3] at h
  split
  · simp
  rename_i h4
  rw [if_neg h4] at h
  split
  · simp
  rename_i h5
  rw [if_neg h5] at h
  exact absurd rfl h
theorem step_bad {st : PS} {F : List Bt} {e : Rej} (h : step st F = .error e) : 1 ≤ e.1 ∧ 1 ≤ e.2.1 ∧ 1 ≤ e.2.2 := by
  unfold step at h
  split at h
  · cases h; simp
  split at h
  · split at h
    · rename_i hc
      cases h
      exact ⟨by simp, by show 1 ≤ (headC F).1; omega, headC_no hc⟩
    · cases h
  split at h
  · rename_i hw
    cases h
    exact ⟨by simp, by show 1 ≤ wide F.length 3; omega, by simp⟩
  split at h
  · split at h
    · rename_i hc
      cases h
      exact ⟨by simp, by show 1 ≤ (tailC F st.many st.tot).1; omega, tailC_no hc⟩
    · cases h
  · split at h
    · rename_i hc
      cases h
      exact ⟨by simp, by show 1 ≤ (rowC F st.last).1; omega, rowC_no hc⟩
    · cases h
theorem run_bad : ∀ (T : List (List Bt)) (st : PS) (e : Rej), runL st T = .error e → 1 ≤ e.1 ∧ 1 ≤ e.2.1 ∧ 1 ≤ e.2.2
  | [], st, e, h => by
    unfold runL at h
    split at h
    · cases h
    · cases h; simp
  | F :: T, st, e, h => by
    unfold runL at h
    cases hs : step st F with
    | error e' => rw [hs] at h; cases h; exact step_bad hs
    | ok st' => rw [hs] at h; exact run_bad T st' e h
theorem parse_bad {t : Bt} {e : Rej} (h : parseM t = .error e) : 1 ≤ e.1 ∧ 1 ≤ e.2.1 ∧ 1 ≤ e.2.2 := by
  unfold parseM at h
  split at h
  · cases h; simp
  cases hr : Csv.run Csv.st0 0 t with
  | bad p c =>
    rw [hr] at h
    cases h
    have hk := (Csv.run_code hr).1
    refine ⟨?_, (Csv.col_le _).1, ?_⟩
    · show 1 ≤ Csv.lineOf _
      unfold Csv.lineOf; omega
    · show (1 : Int) ≤ (c : Int)
      omega
  | rows T =>
    rw [hr] at h
    exact run_bad T st0 e h
/-! ### Cut off -/
theorem front_part {s : Int} {L : List R} {K M : List (List Bt)} (h : Valid 2 s L) (e : tableL s L = K ++ M) (hM : M ≠ []) : ∃ b, runL st0 K = .error b := by
  obtain ⟨k, _⟩ := grp_ok h.good
  have hk : K.length ≤ (grpL L).length + 1 := by
    have := congrArg List.length e
    rw [tableL, table_len, List.length_append] at this
    have := List.length_pos_iff.2 hM
    omega
  have eK : K = (tableL s L).take K.length := by rw [e]; simp
  have e2 : tableL s L = headT s :: (grpL L).map rowT ++ [endT ((grpL L).length : Int) (totL L)] := by simp [tableL, tableK]
  cases hn : K.length with
  | zero =>
    have : K = [] := List.length_eq_zero_iff.1 hn
    exact ⟨(1, 1, 7), by rw [this]; rfl⟩
  | succ j =>
    have e3 : K = headT s :: ((grpL L).take j).map rowT := by
      rw [eK, hn, e2, List.take_append_of_le_length (by simp; omega), List.take_succ_cons, List.map_take]
    have ks := k.sub (List.take_sublist j (grpL L))
    have r := (runs_front h.s0 h.s1 ks.each ks.rise).run []
    rw [List.append_nil, ← e3] at r
    exact ⟨_, by rw [r, runL, if_neg (by simp)]⟩
theorem cut_file {s : Int} {L : List R} (h : Valid 2 s L) {k : Nat} (hk : k < (fileL s L).length) : ∃ e, parseM ((fileL s L).take k) = .error e := by
  have hl := file_small h
  unfold parseM
  rw [if_neg (by rw [List.length_take]; omega)]
  cases hr : Csv.run Csv.st0 0 ((fileL s L).take k) with
  | bad p c => exact ⟨_, rfl⟩
  | rows K =>
    have h2 := run_file h
    rw [← List.take_append_drop k (fileL s L)] at h2
    obtain ⟨M, e, hM⟩ := Csv.cut_rows h2 (fun e => by
      have := congrArg List.length e
      rw [List.length_drop, List.length_nil] at this
      omega) hr
    exact front_part h e hM
/-! ### Rows up to a place -/
theorem ord_len : ∀ (M : List R) (p : Int), (ordL p M).length ≤ M.length
  | [], _ => Nat.le_refl _
  | x :: M, p => by
    have := ord_len M x.o
    rw [ordL, List.length_append, List.length_cons]
    split <;> simp <;> omega
theorem ord_next {L : List R} {k : Nat} {x : R} (hx : L[k]? = some x) : ordL 0 (L.take (k + 1)) = ordL 0 (L.take k) ++ (if x.o = ((L.take k).getLast?.map (·.o)).getD 0 then [] else [x.o]) := by
  rw [List.take_add_one, hx]
  exact ord_snoc _ _ _
theorem last_take {L : List R} {k : Nat} {y : R} (h : L[k]? = some y) : (L.take (k + 1)).getLast? = some y := by
  rw [List.take_add_one, h]
  exact List.getLast?_concat
theorem tot_take {L : List R} {k : Nat} {x : R} (hx : L[k]? = some x) : totL (L.take (k + 1)) = totL (L.take k) + x.q := by
  rw [List.take_add_one, hx, tot_append]
  show totL (L.take k) + (x.q + 0) = _
  omega
theorem tot_front {L : List R} (h : Rw.Good 2 L) (k : Nat) : 0 ≤ totL (L.take k) ∧ totL (L.take k) ≤ 119880 := totL_bound (h.sub (List.take_sublist k L))
end Mft
end Go.Proofs.YtnkcbefamajghaaDoor
