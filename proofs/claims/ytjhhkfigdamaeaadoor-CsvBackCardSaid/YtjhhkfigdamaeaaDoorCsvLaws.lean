
/- The contracts of the statements' own helpers: is, bad, rowed. -/
import Derived.Test.YtjhhkfigdamaeaaDoorCsvSameC
import Derived.Test.YtjhhkfigdamaeaaDoorCsvParseC
set_option linter.unusedVariables false
namespace Go.Proofs.YtjhhkfigdamaeaaDoor
open Go.ChangeShapes Go.WideShapes Go.ChangeAt Go.RowKit Go.Shelf Go.Proofs Csv

theorem keepsA {w w' : World} (h : Keeps w w') (o : Obj) : Keeps w (w'.alloc o) := h.alloc h.size o
theorem below_of {w w' : World} (h : Keeps w w') : Below w.heap.size w w' := h

/-- Rows that are read, or nothing and where. -/
def RowsOut (L : List (List Bs)) (w : World) (e : Ending) (w' : World) : Prop :=
  ∃ v : Value, e = .returned (.tuple #[v, .agg #[.int .i64 0, .int .i64 0, .int .i64 0]]) ∧ RowsAt w' v L ∧ Keeps w w'
theorem out_rows {l : Bs} {w w' : World} {e : Ending} {L : List (List Bs)} (h : ParseOut l w e w') (hr : run st0 0 l = .rows L) : RowsOut L w e w' := by
  obtain ⟨hk, v, line, col, code, rfl, h⟩ := h
  rcases h with ⟨L', h1, h2, rfl, rfl, rfl⟩ | ⟨p, c, h1, _⟩
  · rw [hr] at h1; cases h1
    exact ⟨v, rfl, h2, hk⟩
  · rw [hr] at h1; cases h1
theorem out_bad {l : Bs} {w w' : World} {e : Ending} {p c : Nat} (h : ParseOut l w e w') (hr : run st0 0 l = .bad p c) :
    e = .returned (.tuple #[.slice none 0 0, .agg #[.int .i64 (lineOf (l.take p) : Nat), .int .i64 (colOf (l.take p) : Nat), .int .i64 (c : Nat)]]) ∧ Keeps w w' := by
  obtain ⟨hk, v, line, col, code, rfl, h⟩ := h
  rcases h with ⟨L', h1, h2, rfl, rfl, rfl⟩ | ⟨p', c', h1, rfl, rfl, rfl, rfl⟩
  · rw [hr] at h1; cases h1
  · rw [hr] at h1; cases h1
    exact ⟨rfl, hk⟩

theorem parse_rows (s : ByteArray) (w : World) {L : List (List Bs)} (hs : s.size ≤ 65536) (hm : HasMax w) (hr : run st0 0 s.data.toList = .rows L) :
    Calls Tryd.prog 12 #[.string s] w (RowsOut L w) := (parse_any s w hs hm).mono fun _ _ h => out_rows h hr
theorem parse_bad (s : ByteArray) (w : World) {p c : Nat} (hs : s.size ≤ 65536) (hm : HasMax w) (hr : run st0 0 s.data.toList = .bad p c) :
    Calls Tryd.prog 12 #[.string s] w fun e w' => e = .returned (.tuple #[.slice none 0 0, .agg #[.int .i64 (lineOf (s.data.toList.take p) : Nat), .int .i64 (colOf (s.data.toList.take p) : Nat), .int .i64 (c : Nat)]]) ∧ Keeps w w' := (parse_any s w hs hm).mono fun _ _ h => out_bad h hr

set_option maxHeartbeats 1000000 in
theorem parse_long (s : ByteArray) (w : World) (hs : 65536 < s.size) (hs2 : s.size ≤ maxLen) :
    Calls Tryd.prog 12 #[.string s] w fun e w' => e = .returned (.tuple #[.slice none 0 0, .agg #[.int .i64 1, .int .i64 1, .int .i64 8]]) ∧ Keeps w w' := by
  have hlong : decide ((65536 : Int) < (s.size : Int)) = true := decide_eq_true (by omega)
  go_enter Tryd.func12, Tryd.ntmps12
  go_wp2
  go_step3
  go_wp2
  first
    | (rw [Exit.noGoto_ret]; refine bodyPost_ret (v := .tuple #[.slice none 0 0, .agg #[.int .i64 1, .int .i64 1, .int .i64 8]]) (by simp [results, Tryd.results12, go_sem]) rfl ⟨rfl, ?_⟩)
    | refine bodyPost_ret (v := .tuple #[.slice none 0 0, .agg #[.int .i64 1, .int .i64 1, .int .i64 8]]) (by simp [results, Tryd.results12, go_sem]) rfl ⟨rfl, ?_⟩
  exact (Below.refl _ _).alloc (Nat.le_refl _) _

set_option maxHeartbeats 1000000 in
theorem bad_yes (s : ByteArray) (w : World) {p c : Nat} {line col : Int} (hs : s.size ≤ 65536) (hm : HasMax w) (hr : run st0 0 s.data.toList = .bad p c)
    (h1 : line = (lineOf (s.data.toList.take p) : Nat)) (h2 : col = (colOf (s.data.toList.take p) : Nat)) :
    Calls Tryd.prog 15 #[.string s, .int .i64 line, .int .i64 col, .int .i64 (c : Int)] w fun e w' => e = .returned (.bool true) ∧ Keeps w w' := by
  have hp := parse_bad s w hs hm hr
  rw [← h1, ← h2] at hp
  clear h1 h2 hr hm
  go_enter Tryd.func15, Tryd.ntmps15
  go_wp2_with (go_at_call 12; refine hp.mono ?_; rintro e w1 ⟨rfl, hk⟩)
  go_ret
  exact ⟨rfl, hk.alloc hk.size _⟩
set_option maxHeartbeats 1000000 in
theorem bad_long (s : ByteArray) (w : World) (hs : 65536 < s.size) (hs2 : s.size ≤ maxLen) :
    Calls Tryd.prog 15 #[.string s, .int .i64 1, .int .i64 1, .int .i64 8] w fun e w' => e = .returned (.bool true) ∧ Keeps w w' := by
  have hp := parse_long s w hs hs2
  clear hs hs2
  go_enter Tryd.func15, Tryd.ntmps15
  go_wp2_with (go_at_call 12; refine hp.mono ?_; rintro e w1 ⟨rfl, hk⟩)
  go_ret
  exact ⟨rfl, hk.alloc hk.size _⟩

/-- A row of one row, laid. -/
theorem one_row {w w' : World} {v : Value} {r : List Bs} (h : StrsAt w v r) (hk : Keeps w w') (t : TypeId) {b : Nat} (hb : b = w'.heap.size) : RowsAt (w'.alloc (.cells #[v] t)) (.slice (some ⟨b, 0, none⟩) 1 1) [r] := by
  subst hb
  refine ⟨_, _, rfl, by simp [maxLen], fun j q hq => ?_⟩
  have hj : j = 0 := by
    have := (List.getElem?_eq_some_iff.1 hq).1
    simp at this; omega
  subst hj
  simp at hq
  subst hq
  exact ⟨_, v, rfl, cell_one_new _ _ _ 0 v rfl, (h.keeps hk).keeps ((Below.refl _ _).alloc (Nat.le_refl _) _)⟩

set_option maxHeartbeats 1000000 in
theorem is_yes (s : ByteArray) (v : Value) (w : World) {r : List Bs} (hs : s.size ≤ 65536) (hm : HasMax w) (hr : run st0 0 s.data.toList = .rows [r]) (hv : StrsAt w v r) :
    Calls Tryd.prog 16 #[.string s, v] w fun e w' => e = .returned (.bool true) ∧ Keeps w w' := by
  have hp := parse_rows s w hs hm hr
  have HV := Lib.hid hv
  obtain ⟨p, c, hvv, _⟩ := hv
  subst hvv
  clear hr hm
  go_enter Tryd.func16, Tryd.ntmps16
  go_wp2_with fail
  refine hp.mono ?_
  rintro e w1 ⟨vr, rfl, hrows, hk⟩
  have HR := Lib.hid hrows
  have HK := Lib.hid hk
  clear hrows hk hp
  go_wp2_with (go_at_call 14; refine (same_any _ _ [r] [r] _ ?s1 ?s2).mono ?_)
  case s1 => exact HR.out.keeps (keepsA (keepsA (Keeps.refl _) _) _)
  case s2 => exact one_row HV.out (keepsA HK.out _) _ (by simp)
  rintro e w2 ⟨rfl, hk2⟩
  have HK2 := Lib.hid hk2
  clear hk2
  have hs1 : sameB [r] [r] = true := by simp [sameB]
  go_wp2
  go_ret
  exact ⟨rfl, Keeps.trans (keepsA (keepsA HK.out _) _) HK2.out⟩

/-- A row of texts, laid. -/
theorem laid_row {w' : World} {cs : Array Value} {r : List Bs} (t : TypeId) {b n : Nat} (hb : b = w'.heap.size) (hcs : cs = (svs r).toArray) (hn : n = r.length) (hm : r.length ≤ maxLen) : StrsAt (w'.alloc (.cells cs t)) (.slice (some ⟨b, 0, none⟩) n n) r := by
  subst hb hcs hn
  refine ⟨_, _, rfl, hm, fun j x hx => ⟨_, rfl, ?_⟩⟩
  have hl : j < r.length := (List.getElem?_eq_some_iff.1 hx).1
  have e : (⟨w'.heap.size, 0, none⟩ : Addr).add j = ⟨w'.heap.size, j, none⟩ := by
    by_cases h : j = 0
    · subst h; rfl
    · simp [Addr.add, h]
  rw [e, World.cell?_alloc_at _ _ _ _ rfl]
  simp [svs, hx]

/-- What a call may lean on: its first world, a block at rest. -/
structure Has (w : World) (b : Nat) (W : World) : Prop where
  keeps : Keeps w W
  rest : Rest W b
theorem Has.on {w W W' : World} {b : Nat} (h : Has w b W) (k : Keeps W W') : Has w b W' := ⟨Keeps.trans h.1 k, h.2.keeps k⟩
theorem Has.alloc {w W : World} {b : Nat} (h : Has w b W) (o : Obj) : Has w b (W.alloc o) := h.on ((Below.refl _ _).alloc (Nat.le_refl _) o)

set_option maxRecDepth 100000 in
set_option maxHeartbeats 4000000 in
theorem rowed_yes (w : World) (hm : HasMax w) :
    Calls Tryd.prog 9 #[] w fun e w' => e = .returned (.bool true) ∧ Keeps w w' := by
  have HM := Lib.hid hm
  clear hm
  have c0 := parse_rows ⟨#[]⟩ w (L := []) (by decide) HM.out rfl
  have c1 : ∀ b W, Has w b W → ∀ v, StrsAt W v [[97], [98]] → Calls Tryd.prog 16 #[.string ⟨#[97, 44, 98, 10]⟩, v] W fun e w' => e = .returned (.bool true) ∧ Has w b w' := fun b W k v hv =>
    (is_yes ⟨#[97, 44, 98, 10]⟩ v W (by decide) (HM.out.keeps k.1) rfl hv).mono fun _ _ h => ⟨h.1, k.on h.2⟩
  have c2 : ∀ b W, Has w b W → ∀ v, StrsAt W v [[]] → Calls Tryd.prog 16 #[.string ⟨#[10]⟩, v] W fun e w' => e = .returned (.bool true) ∧ Has w b w' := fun b W k v hv =>
    (is_yes ⟨#[10]⟩ v W (by decide) (HM.out.keeps k.1) rfl hv).mono fun _ _ h => ⟨h.1, k.on h.2⟩
  have c3 : ∀ b W, Has w b W → ∀ v, StrsAt W v [[97, 34, 98], [99]] → Calls Tryd.prog 16 #[.string ⟨#[34, 97, 34, 34, 98, 34, 44, 99, 10]⟩, v] W fun e w' => e = .returned (.bool true) ∧ Has w b w' := fun b W k v hv =>
    (is_yes ⟨#[34, 97, 34, 34, 98, 34, 44, 99, 10]⟩ v W (by decide) (HM.out.keeps k.1) rfl hv).mono fun _ _ h => ⟨h.1, k.on h.2⟩
  have d1 : ∀ b W, Has w b W → Calls Tryd.prog 15 #[.string ⟨#[97, 34, 98, 10]⟩, .int .i64 1, .int .i64 2, .int .i64 2] W fun e w' => e = .returned (.bool true) ∧ Has w b w' := fun b W k =>
    (bad_yes (p := 1) (c := 2) ⟨#[97, 34, 98, 10]⟩ W (by decide) (HM.out.keeps k.1) rfl rfl rfl).mono fun _ _ h => ⟨h.1, k.on h.2⟩
  have d2 : ∀ b W, Has w b W → Calls Tryd.prog 15 #[.string ⟨#[34, 97, 34, 98, 10]⟩, .int .i64 1, .int .i64 4, .int .i64 2] W fun e w' => e = .returned (.bool true) ∧ Has w b w' := fun b W k =>
    (bad_yes (p := 3) (c := 2) ⟨#[34, 97, 34, 98, 10]⟩ W (by decide) (HM.out.keeps k.1) rfl rfl rfl).mono fun _ _ h => ⟨h.1, k.on h.2⟩
  have d3 : ∀ b W, Has w b W → Calls Tryd.prog 15 #[.string ⟨#[97, 44, 98]⟩, .int .i64 1, .int .i64 4, .int .i64 1] W fun e w' => e = .returned (.bool true) ∧ Has w b w' := fun b W k =>
    (bad_yes (p := 3) (c := 1) ⟨#[97, 44, 98]⟩ W (by decide) (HM.out.keeps k.1) rfl rfl rfl).mono fun _ _ h => ⟨h.1, k.on h.2⟩
  have d4 : ∀ b W, Has w b W → Calls Tryd.prog 15 #[.string ⟨#[34, 97]⟩, .int .i64 1, .int .i64 3, .int .i64 2] W fun e w' => e = .returned (.bool true) ∧ Has w b w' := fun b W k =>
    (bad_yes (p := 2) (c := 2) ⟨#[34, 97]⟩ W (by decide) (HM.out.keeps k.1) rfl rfl rfl).mono fun _ _ h => ⟨h.1, k.on h.2⟩
  have C1 := Lib.hid c1
  have C2 := Lib.hid c2
  have C3 := Lib.hid c3
  have D1 := Lib.hid d1
  have D2 := Lib.hid d2
  have D3 := Lib.hid d3
  have D4 := Lib.hid d4
  clear c1 c2 c3 d1 d2 d3 d4
  go_enter Tryd.func9, Tryd.ntmps9
  go_wp2_with fail
  refine c0.mono ?_
  rintro e w1 ⟨v, rfl, hrows, hk1⟩
  obtain ⟨pv, cv, rfl, _⟩ := hrows
  have H1 : Hid (Has w w1.heap.size (w1.alloc (.cells #[.int .i64 0, .int .i64 0, .int .i64 0] 27))) := ⟨keepsA hk1 _, heap_alloc_new w1 _⟩
  clear hk1 c0
  go_wp2_with fail
  refine (C1.out _ _ (H1.out.alloc _) _ (laid_row _ (by simp) rfl rfl (by decide))).mono ?_
  rintro e w2 ⟨rfl, h2⟩
  have H2 := Lib.hid h2
  clear h2 H1 C1
  go_wp2_with fail
  refine (C2.out _ _ (H2.out.alloc _) _ (laid_row _ (by simp) rfl rfl (by decide))).mono ?_
  rintro e w3 ⟨rfl, h3⟩
  have H3 := Lib.hid h3
  clear h3 H2 C2
  go_wp2_with fail
  refine (C3.out _ _ (H3.out.alloc _) _ (laid_row _ (by simp) rfl rfl (by decide))).mono ?_
  rintro e w4 ⟨rfl, h4⟩
  have H4 := Lib.hid h4
  clear h4 H3 C3
  go_wp2_with fail
  refine (D1.out _ _ H4.out).mono ?_
  rintro e w5 ⟨rfl, h5⟩
  have H5 := Lib.hid h5
  clear h5 H4 D1
  go_wp2_with fail
  refine (D2.out _ _ H5.out).mono ?_
  rintro e w6 ⟨rfl, h6⟩
  have H6 := Lib.hid h6
  clear h6 H5 D2
  go_wp2_with fail
  refine (D3.out _ _ H6.out).mono ?_
  rintro e w7 ⟨rfl, h7⟩
  have H7 := Lib.hid h7
  clear h7 H6 D3
  go_wp2_with fail
  refine (D4.out _ _ H7.out).mono ?_
  rintro e w8 ⟨rfl, h8⟩
  have H8 := Lib.hid h8
  clear h8 H7 D4
  obtain ⟨⟨e0, e1, e2⟩, f0, f1, f2⟩ := H8.out.rest.cells
  have hbl := H8.out.rest.lt
  go_wp2
  go_ret
  exact ⟨rfl, H8.out.keeps⟩
end Go.Proofs.YtjhhkfigdamaeaaDoor
