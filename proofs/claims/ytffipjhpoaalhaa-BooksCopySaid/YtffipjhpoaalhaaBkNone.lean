/- Books that are none: what each call answers, and the law. -/
import Derived.Test.YtffipjhpoaalhaaBkPosted
set_option linter.unusedVariables false
namespace Go.Proofs.Ytffipjhpoaalhaa
open Go.ChangeShapes Go.WideShapes Go.ChangeAt Go.RowKit Csv Bk Mon

section
variable {H : Type} {enc : TypeId × Value → H} {w : World} {base : Nat} {held : Bool}
theorem open_post_val {r : Reach} {b0 : Nat} {v : Value} {d : DataW H} {ps : List MemPlace} (hv : Value.okWide Try.prog w r b0 tPo v) (h : DataW.Trod enc Try.prog w base (fun _ => true) held tPo v d ps) :
    ∃ a : PI, v = a.val ∧ a.Good ∧ a.Good := by
  obtain ⟨cs, rfl, _⟩ := okWide_struct Try.underlying33 hv
  obtain ⟨fuel, h⟩ := h
  obtain ⟨a, h1, h2⟩ := post_of h
  have e : cs = a.vals.toArray := by
    have h1' : cs.toList = a.vals := h1
    rw [← h1']
  exact ⟨a, by rw [e]; rfl, h2, h2⟩
end
/-- Books that are none. -/
def NoBk (w : World) (q : Value) : Prop := q = .pointer none ∨ ∃ b, q = .pointer (some ⟨b, 0, none⟩) ∧ w.heap[b]? = some (.cells #[.slice none 0 0, .map none, .map none] tBo (0, 0))
theorem NoBk.keeps {w w' : World} {q : Value} (h : NoBk w q) (k : Keeps w w') : NoBk w' q := by
  rcases h with h | ⟨b, h1, h2⟩
  · exact Or.inl h
  · exact Or.inr ⟨b, h1, (k.block b (Array.getElem?_eq_some_iff.1 h2).1).trans h2⟩
theorem nnone_any {q : Value} {w : World} (h : NoBk w q) : Calls Try.prog 21 #[q] w fun e w' => e = .returned (.bool true) ∧ w' = w := by
  rcases h with rfl | ⟨b, rfl, hb⟩
  · go_enter Try.func21, Try.ntmps21
    go_wp2
    go_ret
    exact ⟨rfl, rfl⟩
  · have hq := fun w => run_eql_map_nil_sl (P := Try.prog) w tMb _ _ none Try.underlying41
    have c2 := Joins.cell_of_block hb 2
    simp only [List.getElem?_toArray, List.getElem?_cons_zero, List.getElem?_cons_succ] at c2
    clear hb
    go_enter Try.func21, Try.ntmps21
    go_wp2
    go_ret
    exact ⟨rfl, rfl⟩
theorem nbalance_any {q : Value} {w : World} (a o : Int) (h : NoBk w q) : Calls Try.prog 13 #[q, .int .i64 a, .int .i64 o] w fun e w' => e = .returned (.int .i64 0) ∧ w' = w := by
  have HN := Lib.hid (nnone_any h)
  clear h
  go_enter Try.func13, Try.ntmps13
  go_wp2_with fail
  refine HN.out.mono ?_
  rintro e w' ⟨rfl, rfl⟩
  go_wp2
  go_ret
  exact ⟨rfl, rfl⟩
theorem nzero_any {q : Value} {w : World} (h : NoBk w q) : Calls Try.prog 18 #[q] w fun e w' => e = .returned (.bool false) ∧ w' = w := by
  have HN := Lib.hid (nnone_any h)
  clear h
  go_enter Try.func18, Try.ntmps18
  go_wp2_with fail
  refine HN.out.mono ?_
  rintro e w' ⟨rfl, rfl⟩
  go_wp2
  go_ret
  exact ⟨rfl, rfl⟩
theorem nmany_any {q : Value} {w : World} (h : NoBk w q) : Calls Try.prog 17 #[q] w fun e w' => e = .returned (.int .i64 0) ∧ w' = w := by
  have HN := Lib.hid (nnone_any h)
  clear h
  go_enter Try.func17, Try.ntmps17
  go_wp2_with fail
  refine HN.out.mono ?_
  rintro e w' ⟨rfl, rfl⟩
  go_wp2
  go_ret
  exact ⟨rfl, rfl⟩
theorem nlist_any {q : Value} {w : World} (h : NoBk w q) : Calls Try.prog 15 #[q] w fun e w' => e = .returned (.slice none 0 0) ∧ w' = w := by
  have HN := Lib.hid (nnone_any h)
  clear h
  go_enter Try.func15, Try.ntmps15
  go_wp2_with fail
  refine HN.out.mono ?_
  rintro e w' ⟨rfl, rfl⟩
  go_wp2
  go_ret
  exact ⟨rfl, rfl⟩
theorem ncopy_any {q : Value} {w : World} (h : NoBk w q) : Calls Try.prog 19 #[q] w fun e w' => e = .returned (.pointer none) ∧ w' = w := by
  have HN := Lib.hid (nnone_any h)
  clear h
  go_enter Try.func19, Try.ntmps19
  go_wp2_with fail
  refine HN.out.mono ?_
  rintro e w' ⟨rfl, rfl⟩
  go_wp2
  go_ret
  exact ⟨rfl, rfl⟩
theorem npost_any {q : Value} {w : World} (p : PI) (h : NoBk w q) : Calls Try.prog 11 #[q, p.val] w fun e w' => e = .returned (.int .i64 1) ∧ Keeps w w' := by
  have K := Lib.hid (keeps_box w (.cells p.vals.toArray tPo))
  have HN := Lib.hid (nnone_any (h.keeps K.out))
  unfold PI.vals at HN
  unfold PI.val
  clear h
  go_enter Try.func11, Try.ntmps11
  go_wp2_with fail
  refine HN.out.mono ?_
  rintro e w' ⟨rfl, rfl⟩
  go_wp2
  go_ret
  exact ⟨rfl, K.out⟩
set_option maxRecDepth 100000 in
set_option maxHeartbeats 8000000 in
theorem booksNone_go (p : PI) (a o : Int) (w : World) (hp hp' : p.Good) (ha : (Lit.int .i64 a).wf = true) (ho : (Lit.int .i64 o).wf = true) :
    Calls Try.prog 4 #[p.val, .int .i64 a, .int .i64 o] w fun e w' => e = .returned (.bool true) ∧ Keeps w w' := by
  have HT := Lib.hid fun W => posted_any W
  have HK := Lib.hid (keeps_box w (.cells p.vals.toArray tPo))
  have HX : Hid (∀ W, Keeps (w.alloc (.cells p.vals.toArray tPo)) W → W.cell? ⟨w.heap.size, 0, none⟩ = some (.string p.s) ∧ W.cell? ⟨w.heap.size, 1, none⟩ = some (.int .i64 p.ord) ∧ W.cell? ⟨w.heap.size, 2, none⟩ = some (.int .i64 p.deb) ∧ W.cell? ⟨w.heap.size, 3, none⟩ = some (.int .i64 p.cre) ∧ W.cell? ⟨w.heap.size, 4, none⟩ = some (.int .i64 p.amt)) := Lib.hid fun W kW => by
    have e := heap_alloc_new w (.cells p.vals.toArray tPo)
    have e2 : W.heap[w.heap.size]? = some (.cells p.vals.toArray tPo (0, 0)) := (kW.block _ (by simp)).trans e
    exact ⟨Joins.cell_of_block e2 0, Joins.cell_of_block e2 1, Joins.cell_of_block e2 2, Joins.cell_of_block e2 3, Joins.cell_of_block e2 4⟩
  have CP : Hid (∀ W q, NoBk W q → Calls Try.prog 11 #[q, .agg #[.string p.s, .int .i64 p.ord, .int .i64 p.deb, .int .i64 p.cre, .int .i64 p.amt]] W fun e w' => e = .returned (.int .i64 1) ∧ Keeps W w') := Lib.hid fun W q h => npost_any p h
  unfold PI.val
  clear hp hp'
  go_enter Try.func4, Try.ntmps4
  go_wp2
  go_loopw [7, 8] (fun v7 v8 wr => ∃ t : Nat, t ≤ 2 ∧ v8 = .int .i64 (t : Int) ∧ NoBk wr v7 ∧ Keeps (w.alloc (.cells p.vals.toArray tPo)) wr) (fun _ v8 _ => 2 - (intOf v8).toNat)
  case atStart => exact ⟨0, by omega, rfl, Or.inl rfl, Keeps.refl _⟩
  case round =>
    obtain ⟨t, ht, rfl, hn, hk⟩ := hrel
    have HN := Lib.hid hn
    have HKR := Lib.hid hk
    obtain ⟨x0, x1, x2, x3, x4⟩ := HX.out wr hk
    by_cases hlt : t < 2
    · have ht1 : (t : Int) < 2 := by omega
      clear hk
      go_wp2_with fail
      refine (CP.out _ _ HN.out).mono ?_
      rintro e w2 ⟨rfl, k2⟩
      have HN2 := Lib.hid (HN.out.keeps k2)
      have HK2 := Lib.hid (HKR.out.trans k2)
      clear k2 x0 x1 x2 x3 x4
      go_wp2_with (first
        | (go_at_call 13; refine (nbalance_any _ _ HN2.out).mono ?_; rintro e wv ⟨rfl, rfl⟩)
        | (go_at_call 18; refine (nzero_any HN2.out).mono ?_; rintro e wv ⟨rfl, rfl⟩)
        | (go_at_call 17; refine (nmany_any HN2.out).mono ?_; rintro e wv ⟨rfl, rfl⟩)
        | (go_at_call 15; refine (nlist_any HN2.out).mono ?_; rintro e wv ⟨rfl, rfl⟩)
        | (go_at_call 19; refine (ncopy_any HN2.out).mono ?_; rintro e wv ⟨rfl, rfl⟩))
      exact ⟨⟨t + 1, by omega, by go_num, Or.inr ⟨_, rfl, heap_alloc_new _ _⟩, HK2.out.trans (keeps_box _ _)⟩, by simp [intOf]; omega⟩
    · obtain rfl : t = 2 := by omega
      clear hk
      go_wp2_with fail
      refine (HT.out _).mono ?_
      rintro e w2 ⟨rfl, k2⟩
      have K2 := Lib.hid (HK.out.trans (HKR.out.trans k2))
      clear k2
      go_wp2
      go_ret
      exact ⟨rfl, K2.out⟩
end Go.Proofs.Ytffipjhpoaalhaa
