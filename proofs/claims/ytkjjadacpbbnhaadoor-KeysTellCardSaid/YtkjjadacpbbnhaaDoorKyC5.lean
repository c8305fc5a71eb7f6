/- The program's keys: Get; what all of them answer, together (KyP). -/
import Derived.Test.YtkjjadacpbbnhaaDoorKyC4
set_option linter.unusedVariables false
namespace Go.Proofs.YtkjjadacpbbnhaaDoor
open Go.ChangeShapes Go.WideShapes Go.ChangeAt Go.RowKit Mon Ky

theorem cut_at : ∀ {a : List UInt8} (b : List UInt8), (∀ c ∈ a, c ≠ 45) → Lib.index (a ++ 45 :: b) [45] = a.length
  | [], b, _ => by simp [Lib.index, List.isPrefixOf]
  | c :: a, b, h => by
    have ih := cut_at b (a := a) (fun x hx => h x (by simp [hx]))
    have hc : c ≠ 45 := h c (by simp)
    have e : ((45 : UInt8) == c) = false := by simpa using fun e => hc e.symm
    rw [List.cons_append, Lib.index, ih]
    simp [List.isPrefixOf, e]
theorem cut_dash45 {a b : List UInt8} (h : ∀ c ∈ a, c ≠ 45) : Lib.cut (a ++ 45 :: b) [45] = (a, b, true) := by
  unfold Lib.cut
  rw [cut_at b h, if_pos (by omega)]
  have e : a.length + 1 = (a ++ [45]).length := by simp
  simp
theorem cut_small (l : List UInt8) : (Lib.cut l [45]).1.length ≤ l.length ∧ (Lib.cut l [45]).2.1.length ≤ l.length := by
  unfold Lib.cut
  split
  · simp; omega
  · simp
theorem dig_ne45 {c : UInt8} (h : isDig c = true) : c ≠ 45 := by
  rintro rfl
  exact absurd h (by decide)
theorem get_fin_no {l : List UInt8} {o d : Int} (ho : getV (Lib.cut l [45]).1 = o) (hd : deedV (Lib.cut l [45]).2.1 = d) (h : ¬ (Chk o d ∧ putK o d = l)) : GetIs l 0 0 false := by
  refine Or.inr ⟨rfl, rfl, rfl, fun o' d' hc e => ?_⟩
  rw [← e, putK_yes hc, cut_dash45 (fun c hx => dig_ne45 (put_digits hc.o0 c hx))] at ho hd
  have h1 := (get_put (n := o') (by have := hc.o0; unfold top; omega) (by have := hc.o1; unfold top; omega)).2
  have h2 := (deed_word hc.d0 hc.d1).2
  simp only at ho hd
  rw [h1] at ho
  rw [h2] at hd
  subst ho hd
  exact h ⟨hc, e⟩
theorem two_set {W : World} {n : Nat} {x y : Value} (h : W.heap[n]? = some (.cells #[x, y] tKy (0, 0))) (a b : Value) :
    ((W.setCell ⟨n, 0, none⟩ a).setCell ⟨n, 1, none⟩ b).heap[n]? = some (.cells #[a, b] tKy (0, 0)) := Joins.block_setCell (i := 1) (Joins.block_setCell (i := 0) h a) b
theorem getV64 (l : List UInt8) : I64 (getV l) := by
  cases h : getB l with
  | true =>
    obtain ⟨_, h1, h2⟩ := put_get h
    exact ⟨h1, h2⟩
  | false =>
    unfold getV
    rw [h]
    unfold I64 top
    simp
set_option maxHeartbeats 8000000 in
theorem pk_get (s : ByteArray) (w : World) (hw : HasK w) (hs : s.size ≤ 100) : Calls Tryd.prog 29 #[.string s] w (GetOut s.data.toList w) := by
  have hbx := heap_alloc_new w (.cells #[.int .i64 0, .int .i64 0] tKy)
  have KB := Lib.hid (ky_box w (.cells #[.int .i64 0, .int .i64 0] tKy))
  have CX : Hid (∀ W, Keeps (w.alloc (.cells #[.int .i64 0, .int .i64 0] tKy)) W → W.heap[w.heap.size]? = some (.cells #[.int .i64 0, .int .i64 0] tKy (0, 0))) := Lib.hid fun W k => (k.block _ (by simp)).trans hbx
  have hsl : s.data.toList.length ≤ 100 := by rw [len_data]; exact hs
  obtain ⟨hs1, hs2⟩ := cut_small s.data.toList
  obtain ⟨N, hN⟩ : ∃ N : ByteArray, ⟨(Lib.cut s.data.toList [45]).1.toArray⟩ = N := ⟨_, rfl⟩
  obtain ⟨V, hV⟩ : ∃ N : ByteArray, ⟨(Lib.cut s.data.toList [45]).2.1.toArray⟩ = N := ⟨_, rfl⟩
  obtain ⟨f, hf⟩ : ∃ f, (Lib.cut s.data.toList [45]).2.2 = f := ⟨_, rfl⟩
  have hNl : N.data.toList = (Lib.cut s.data.toList [45]).1 := by rw [← hN]
  have hVl : V.data.toList = (Lib.cut s.data.toList [45]).2.1 := by rw [← hV]
  have hNs : N.size ≤ maxLen := by rw [← len_data, hNl]; unfold maxLen; omega
  have hVs : V.size ≤ maxLen := by rw [← len_data, hVl]; unfold maxLen; omega
  obtain ⟨o, ho⟩ : ∃ o, getV N.data.toList = o := ⟨_, rfl⟩
  obtain ⟨b1, hb1⟩ : ∃ o, getB N.data.toList = o := ⟨_, rfl⟩
  obtain ⟨d, hd⟩ : ∃ o, deedV V.data.toList = o := ⟨_, rfl⟩
  obtain ⟨b2, hb2⟩ : ∃ o, deedB V.data.toList = o := ⟨_, rfl⟩
  have io : Hid (I64 o) := Lib.hid (ho ▸ getV64 _)
  have NO : Hid (¬ (Chk o d ∧ putK o d = s.data.toList) → GetIs s.data.toList 0 0 false) := Lib.hid fun h => get_fin_no (by rw [← hNl]; exact ho) (by rw [← hVl]; exact hd) h
  have HC1 : Hid (Calls Tryd.prog 33 #[.string s, .string ⟨#[45]⟩] (w.alloc (.cells #[.int .i64 0, .int .i64 0] tKy)) fun e w' => e = .returned (.tuple #[.string N, .string V, .bool f]) ∧ Keeps (w.alloc (.cells #[.int .i64 0, .int .i64 0] tKy)) w') := Lib.hid (by
    rw [← hN, ← hV, ← hf]
    exact sh_cut s ⟨#[45]⟩ _ (by omega) ((hw.keeps KB.out).2))
  have HC2 := Lib.hid fun W => moGet_any N W hNs
  have HC3 := Lib.hid fun W => pk_deed V W hVs
  rw [ho, hb1] at HC2
  rw [hd, hb2] at HC3
  have HC4 := Lib.hid fun W => pk_check o d W
  have HC5 := Lib.hid fun W => pk_put o d W
  obtain ⟨c, hc⟩ : ∃ c, checkK o d = c := ⟨_, rfl⟩
  obtain ⟨X, hX⟩ : ∃ X, putS o d = X := ⟨_, rfl⟩
  have HCC := Lib.hid hc
  have HXX := Lib.hid hX
  rw [hc] at HC4
  rw [hX] at HC5
  unfold kyV at HC4 HC5
  have iw := io.out
  unfold I64 top at iw
  obtain ⟨i1, i2⟩ := iw
  have iw2 : wrap64 o = o := i64w (by unfold top; omega) (by unfold top; omega)
  clear hbx hw hs hsl hs1 hs2 hN hV hf hNl hVl hNs hVs ho hb1 hd hb2 hc hX
  go_enter Tryd.func29, Tryd.ntmps29
  go_wp2_with fail
  refine HC1.out.mono ?_
  rintro e w1 ⟨rfl, k1⟩
  have HV := Lib.hid k1
  clear k1 HC1
  go_wp2_with fail
  refine (HC2.out _).mono ?_
  rintro e w2 ⟨rfl, k2⟩
  have HV := Lib.hid (HV.out.trans k2)
  clear k2 HC2
  go_wp2_with fail
  refine (HC3.out _).mono ?_
  rintro e w3 ⟨rfl, k3⟩
  have HV := Lib.hid (HV.out.trans k3)
  clear k3 HC3
  have hres := CX.out w3 HV.out
  have f0 := Joins.unfrozen_of_block hres 0
  have f1 := Joins.unfrozen_of_block hres 1
  have z0 := Joins.cell_of_block hres 0
  have z1 := Joins.cell_of_block hres 1
  simp only [List.getElem?_toArray, List.getElem?_cons_zero, List.getElem?_cons_succ] at z0 z1
  have B4 := Lib.hid (two_set hres (.int .i64 o) (.int .i64 d))
  have K4 : Hid (Keeps w ((w3.setCell ⟨w.heap.size, 0, none⟩ (.int .i64 o)).setCell ⟨w.heap.size, 1, none⟩ (.int .i64 d))) := Lib.hid (two_keeps (KB.out.trans HV.out) (Nat.le_refl _) _ _)
  clear hres
  go_wp2_with fail
  refine (HC4.out _).mono ?_
  rintro e w5 ⟨rfl, k5⟩
  have K5 := Lib.hid (K4.out.trans k5)
  have h5 := (k5.block w.heap.size (Array.getElem?_eq_some_iff.1 B4.out).1).trans B4.out
  have B5 := Lib.hid h5
  clear k5 HC4 f0 f1 z0 z1
  have f0 := Joins.unfrozen_of_block h5 0
  have f1 := Joins.unfrozen_of_block h5 1
  have z0 := Joins.cell_of_block h5 0
  have z1 := Joins.cell_of_block h5 1
  simp only [List.getElem?_toArray, List.getElem?_cons_zero, List.getElem?_cons_succ] at z0 z1
  clear h5
  cases c with
  | false =>
    have G : Hid (GetIs s.data.toList 0 0 false) := Lib.hid (NO.out fun h => by
      have := HCC.out
      rw [check_iff.2 h.1] at this
      cases this)
    go_wp2
    obtain ⟨e0, e1⟩ := (fun h => (⟨Joins.cell_of_block h 0, Joins.cell_of_block h 1⟩ : _ ∧ _)) (two_set B5.out (.int .i64 0) (.int .i64 0))
    simp only [List.getElem?_toArray, List.getElem?_cons_zero, List.getElem?_cons_succ] at e0 e1
    exact bodyPost_ret (v := .tuple #[.agg #[.int .i64 0, .int .i64 0], .bool false]) (by simp [results, Tryd.results29, go_sem, e0, e1]) rfl ⟨0, 0, false, rfl, G.out, two_keeps K5.out (Nat.le_refl _) _ _⟩
  | true =>
    go_wp2_with fail
    refine (HC5.out _).mono ?_
    rintro e w6 ⟨rfl, k6⟩
    have K6 := Lib.hid (K5.out.trans k6)
    have h6 := (k6.block w.heap.size (Array.getElem?_eq_some_iff.1 B5.out).1).trans B5.out
    have B6 := Lib.hid h6
    clear k6 HC5 f0 f1 z0 z1
    have f0 := Joins.unfrozen_of_block h6 0
    have f1 := Joins.unfrozen_of_block h6 1
    have z0 := Joins.cell_of_block h6 0
    have z1 := Joins.cell_of_block h6 1
    simp only [List.getElem?_toArray, List.getElem?_cons_zero, List.getElem?_cons_succ] at z0 z1
    clear h6
    by_cases hx : X = s
    · have G : Hid (GetIs s.data.toList o d true) := Lib.hid (Or.inl ⟨rfl, check_iff.1 HCC.out, by rw [← hx, ← HXX.out]; rfl⟩)
      subst hx
      go_wp2
      obtain ⟨e0, e1⟩ := (fun h => (⟨Joins.cell_of_block h 0, Joins.cell_of_block h 1⟩ : _ ∧ _)) (two_set B6.out (.int .i64 o) (.int .i64 d))
      simp only [List.getElem?_toArray, List.getElem?_cons_zero, List.getElem?_cons_succ] at e0 e1
      exact bodyPost_ret (v := .tuple #[.agg #[.int .i64 o, .int .i64 d], .bool true]) (by simp [results, Tryd.results29, go_sem, e0, e1]) rfl ⟨o, d, true, rfl, G.out, two_keeps K6.out (Nat.le_refl _) _ _⟩
    · have G : Hid (GetIs s.data.toList 0 0 false) := Lib.hid (NO.out fun h => hx (bytes_inj (by rw [← h.2, ← HXX.out]; rfl)))
      have t := bytes_eq hx
      clear hx
      go_wp2
      obtain ⟨e0, e1⟩ := (fun h => (⟨Joins.cell_of_block h 0, Joins.cell_of_block h 1⟩ : _ ∧ _)) (two_set B6.out (.int .i64 0) (.int .i64 0))
      simp only [List.getElem?_toArray, List.getElem?_cons_zero, List.getElem?_cons_succ] at e0 e1
      exact bodyPost_ret (v := .tuple #[.agg #[.int .i64 0, .int .i64 0], .bool false]) (by simp [results, Tryd.results29, go_sem, e0, e1]) rfl ⟨0, 0, false, rfl, G.out, two_keeps K6.out (Nat.le_refl _) _ _⟩
theorem kyP : KyP where
  check o d w _ _ := pk_check o d w
  party d w hw _ := (pk_party d w hw.1).mono fun e w' h => ⟨h.1, Keeps.of_eq h.2⟩
  undoes d w hd := (pk_undoes d w hd).mono fun e w' h => ⟨h.1, Keeps.of_eq h.2⟩
  word d w _ := pk_word d w
  deed s w hs := pk_deed s w (by unfold maxLen; omega)
  less o d o' d' w _ _ _ _ := pk_less o d o' d' w
  put o d w _ _ := pk_put o d w
  get s w hw hs := pk_get s w hw hs
end Go.Proofs.YtkjjadacpbbnhaaDoor
