
/- The document's keys: Put, Get. -/
import Derived.Test.YtkjjadacpbbnhaaDoorKyRefC
import Derived.Deep.RegionHeld3
import Derived.Deep.QuietTactic
import Derived.BigQuiet
import Derived.Lib.SmallJoins
set_option linter.unusedVariables false
namespace Go.Proofs.YtkjjadacpbbnhaaDoor
open Go.ChangeShapes Go.WideShapes Go.ChangeAt Go.RowKit Mon Ky

def putS (o d : Int) : ByteArray := ⟨(putK o d).toArray⟩
theorem ky_drew (w : World) : Below w.heap.size w w.drew := ⟨rfl, rfl, rfl, Nat.le_refl _, fun _ _ => rfl⟩
theorem ky_cell {w w' : World} {a : Addr} {v : Value} (k : Keeps w w') (h : w.cell? a = some v) : w'.cell? a = some v := by
  have hlt := World.block_lt_of_cell? w a h
  have := k.block a.block hlt
  unfold World.cell? at h ⊢
  rw [this]; exact h
theorem word_size {d : Int} : (wordS d).size ≤ 7 := by
  by_cases h : 0 ≤ d ∧ d < 6
  · rcases six h.1 h.2 with rfl | rfl | rfl | rfl | rfl | rfl <;> decide
  · unfold wordS; rw [word_none h]; decide
theorem put_size {o : Int} (h : Chk o 0 ∨ 0 < o ∧ o < 61) : (put o).length ≤ 20 := by
  have ho : 0 < o ∧ o < 61 := by
    rcases h with h | h
    · exact ⟨h.o0, h.o1⟩
    · exact h
  unfold put
  rw [if_pos (by omega), decN_len]
  exact cnt_le20 (by unfold topN; omega)
set_option maxHeartbeats 8000000 in
theorem kr_put (o d : Int) (w : World) : Calls Tryd.prog 16 #[kyV o d] w fun e w' => e = .returned (.string (putS o d)) ∧ Keeps w w' := by
  have KB := Lib.hid (ky_box w (.cells #[.int .i64 o, .int .i64 d] tKy))
  have HC := Lib.hid (kr_check o d (w.alloc (.cells #[.int .i64 o, .int .i64 d] tKy)))
  obtain ⟨b, hb⟩ : ∃ b, checkK o d = b := ⟨_, rfl⟩
  have HBB := Lib.hid hb
  rw [hb] at HC
  have hbx := heap_alloc_new w (.cells #[.int .i64 o, .int .i64 d] tKy)
  have CX : Hid (∀ W, Keeps (w.alloc (.cells #[.int .i64 o, .int .i64 d] tKy)) W → W.cell? ⟨w.heap.size, 0, none⟩ = some (.int .i64 o) ∧ W.cell? ⟨w.heap.size, 1, none⟩ = some (.int .i64 d)) := Lib.hid fun W k => by
    have e := (k.block _ (by simp)).trans hbx
    exact ⟨Joins.cell_of_block e 0, Joins.cell_of_block e 1⟩
  clear hb hbx
  unfold kyV at HC ⊢
  go_enter Tryd.func16, Tryd.ntmps16
  go_wp2_with fail
  refine HC.out.mono ?_
  rintro e w1 ⟨rfl, k1⟩
  have K1 := Lib.hid k1
  have K01 := Lib.hid (KB.out.trans k1)
  clear k1 HC
  cases b with
  | false =>
    have E : Hid (putS o d = ⟨#[]⟩) := Lib.hid (by unfold putS putK; rw [HBB.out]; rfl)
    go_wp2
    go_ret
    exact ⟨by rw [E.out]; rfl, K01.out⟩
  | true =>
    have HCK := Lib.hid (check_iff.1 HBB.out)
    obtain ⟨P, hP⟩ : ∃ P : ByteArray, ⟨(put o).toArray⟩ = P := ⟨_, rfl⟩
    obtain ⟨V, hV⟩ : ∃ V : ByteArray, wordS d = V := ⟨_, rfl⟩
    have hPs : P.size ≤ 20 := by rw [← hP, size_mk]; exact put_size (Or.inr ⟨HCK.out.o0, HCK.out.o1⟩)
    have hVs : V.size ≤ 7 := hV ▸ word_size
    obtain ⟨S1, h1⟩ : ∃ S1, P ++ ⟨#[45]⟩ = S1 := ⟨_, rfl⟩
    obtain ⟨S2, h2⟩ : ∃ S2, S1 ++ V = S2 := ⟨_, rfl⟩
    have hS1 : S1.size ≤ 21 := by rw [← h1, ByteArray.size_append]; show P.size + 1 ≤ 21; omega
    have E : Hid (putS o d = S2) := Lib.hid (by
      refine bytes_inj ?_
      rw [← h2, ← h1, ← hV, ← hP]
      unfold putS
      rw [putK_yes HCK.out]
      simp [wordS])
    have n1 : ¬ (9223372036854775807 < P.size + 1) := by omega
    have n2 : ¬ (9223372036854775807 < S1.size + V.size) := by omega
    have CP : Hid (∀ W, Keeps w1 W → Calls Tryd.prog 28 #[.int .i64 o] W fun e w' => e = .returned (.string P) ∧ Keeps w1 w') := Lib.hid fun W kk => by
      rw [← hP]
      refine (moRput_any o W (by unfold I64 top; have := HCK.out.o0; have := HCK.out.o1; omega)).mono ?_
      rintro e w' ⟨rfl, k⟩
      exact ⟨rfl, kk.trans k⟩
    have CW : Hid (∀ W, Keeps w1 W → Calls Tryd.prog 12 #[.int .i64 d] W fun e w' => e = .returned (.string V) ∧ Keeps w1 w') := Lib.hid fun W kk => by
      rw [← hV]
      refine (kr_word d W).mono ?_
      rintro e w' ⟨rfl, k⟩
      exact ⟨rfl, kk.trans k⟩
    obtain ⟨x0, x1⟩ := CX.out w1 K1.out
    clear hP hV hPs hVs hS1
    go_wp2
    go_region_held3 (fun W => W.cell? ⟨w.heap.size, 0, none⟩ = some (.int .i64 o) ∧ W.cell? ⟨w.heap.size, 1, none⟩ = some (.int .i64 d))
      (first | exact CX.out _ (K1.out.trans HV.out) | exact CX.out _ (K1.out.trans (ky_drew _)) | assumption) (first
      | (go_at_call 28; refine (CP.out _ (ky_drew _)).mono ?_; rintro e wv ⟨rfl, hv⟩; have HV := Lib.hid hv; have zv := CX.out _ (K1.out.trans hv); clear hv)
      | (go_at_call 12; refine (CW.out _ HV.out).mono ?_; clear HV; rintro e wv ⟨rfl, hv⟩; have HV := Lib.hid hv; have zv := CX.out _ (K1.out.trans hv); clear hv))
    go_wp2
    go_ret
    exact ⟨by rw [E.out]; rfl, K01.out.trans HV.out⟩
/-- No key below has the text. -/
def NoKey (s : ByteArray) (n m : Int) : Prop := ∀ o d, Chk o d → (o < n ∨ (o = n ∧ d < m)) → putK o d ≠ s.data.toList
theorem NoKey.next {s : ByteArray} {n m : Int} (h : NoKey s n m) (hn : putS n m ≠ s) : NoKey s n (m + 1) := fun o d hc hr e => by
  by_cases he : o = n ∧ d = m
  · obtain ⟨rfl, rfl⟩ := he
    exact hn (bytes_inj (by unfold putS; rw [← e]))
  · exact h o d hc (by omega) e
theorem NoKey.row {s : ByteArray} {n : Int} (h : NoKey s n 6) : NoKey s (n + 1) 0 := fun o d hc hr e => h o d hc (by
  have := hc.d0
  have := hc.d1
  omega) e
def GetOut (s : List UInt8) (w : World) (e : Ending) (w' : World) : Prop := ∃ o d ok, e = .returned (.tuple #[kyV o d, .bool ok]) ∧ GetIs s o d ok ∧ Keeps w w'
theorem two_cells {W : World} {n : Nat} (h : W.heap[n]? = some (.cells #[.int .i64 0, .int .i64 0] tKy (0, 0))) (a b : Value) :
    ((W.setCell ⟨n, 0, none⟩ a).setCell ⟨n, 1, none⟩ b).cell? ⟨n, 0, none⟩ = some a ∧ ((W.setCell ⟨n, 0, none⟩ a).setCell ⟨n, 1, none⟩ b).cell? ⟨n, 1, none⟩ = some b := by
  have h2 := Joins.block_setCell (i := 1) (Joins.block_setCell (i := 0) h a) b
  exact ⟨Joins.cell_of_block h2 0, Joins.cell_of_block h2 1⟩
theorem two_keeps {w W : World} {n : Nat} (h : Keeps w W) (hn : w.heap.size ≤ n) (a b : Value) : Keeps w ((W.setCell ⟨n, 0, none⟩ a).setCell ⟨n, 1, none⟩ b) :=
  (h.setCell (p := ⟨n, 0, none⟩) hn a).setCell (p := ⟨n, 1, none⟩) hn b
set_option maxHeartbeats 8000000 in
theorem kr_get (s : ByteArray) (w : World) : Calls Tryd.prog 20 #[.string s] w (GetOut s.data.toList w) := by
  have CP := Lib.hid fun o d W => kr_put o d W
  have hbx := heap_alloc_new w (.cells #[.int .i64 0, .int .i64 0] tKy)
  have KB := Lib.hid (ky_box w (.cells #[.int .i64 0, .int .i64 0] tKy))
  have CX : Hid (∀ W, Keeps (w.alloc (.cells #[.int .i64 0, .int .i64 0] tKy)) W → W.heap[w.heap.size]? = some (.cells #[.int .i64 0, .int .i64 0] tKy (0, 0))) := Lib.hid fun W k => (k.block _ (by simp)).trans hbx
  clear hbx
  unfold kyV at CP
  go_enter Tryd.func20, Tryd.ntmps20
  go_wp2
  go_loopw [4] (fun v4 wr => ∃ n : Int, 1 ≤ n ∧ n ≤ 61 ∧ v4 = .int .i64 n ∧ NoKey s n 0 ∧ Keeps (w.alloc (.cells #[.int .i64 0, .int .i64 0] tKy)) wr) (fun v4 _ => (61 - intOf v4).toNat)
  case atStart => exact ⟨1, by omega, by omega, rfl, (fun o d hc hr => by have := hc.o0; have := hc.d0; omega), Keeps.refl _⟩
  case round =>
    obtain ⟨n, h1, h61, rfl, hno, hk⟩ := hrel
    have HNO := Lib.hid hno
    have HK := Lib.hid hk
    have N1 := Lib.hid h1
    clear hno hk
    by_cases hn : n ≤ 60
    · have N60 := Lib.hid hn
      go_wp2
      go_loopw [5] (fun v5 W => ∃ m : Int, 0 ≤ m ∧ m ≤ 6 ∧ v5 = .int .i64 m ∧ NoKey s n m ∧ Keeps (w.alloc (.cells #[.int .i64 0, .int .i64 0] tKy)) W) (fun v5 _ => (6 - intOf v5).toNat)
      case atStart => exact ⟨0, by omega, by omega, rfl, HNO.out, HK.out⟩
      case round =>
        obtain ⟨m, m0, m6, rfl, hno, hk⟩ := hrel
        have HNO2 := Lib.hid hno
        have HK2 := Lib.hid hk
        have M0 := Lib.hid m0
        clear hno hk
        by_cases hm : m < 6
        · have M6 := Lib.hid hm
          have CP2 := Lib.hid (CP.out n m (wr.alloc (.cells #[.int .i64 n, .int .i64 m] tKy)))
          obtain ⟨X, hX⟩ : ∃ X, putS n m = X := ⟨_, rfl⟩
          have HX := Lib.hid hX
          rw [hX] at CP2
          clear hX
          have KB2 := Lib.hid (ky_box wr (.cells #[.int .i64 n, .int .i64 m] tKy))
          have hbk := heap_alloc_new wr (.cells #[.int .i64 n, .int .i64 m] tKy)
          have BK : Hid (∀ W, Keeps (wr.alloc (.cells #[.int .i64 n, .int .i64 m] tKy)) W → W.cell? ⟨wr.heap.size, 0, none⟩ = some (.int .i64 n) ∧ W.cell? ⟨wr.heap.size, 1, none⟩ = some (.int .i64 m)) := Lib.hid fun W k => by
            have e := (k.block _ (by simp)).trans hbk
            exact ⟨Joins.cell_of_block e 0, Joins.cell_of_block e 1⟩
          clear hbk
          go_wp2_with fail
          refine CP2.out.mono ?_
          rintro e w2 ⟨rfl, k2⟩
          have K2 := Lib.hid (HK2.out.trans (KB2.out.trans k2))
          obtain ⟨y0, y1⟩ := BK.out w2 k2
          have hres := CX.out w2 K2.out
          have z0 := Joins.cell_of_block hres 0
          have z1 := Joins.cell_of_block hres 1
          have f0 := Joins.unfrozen_of_block hres 0
          have f1 := Joins.unfrozen_of_block hres 1
          simp only [List.getElem?_toArray, List.getElem?_cons_zero, List.getElem?_cons_succ] at z0 z1
          have HRES := Lib.hid hres
          clear k2 hres
          by_cases hs : X = s
          · have G : Hid (GetIs s.data.toList n m true) := Lib.hid (by
              refine Or.inl ⟨rfl, ⟨by have := N1.out; omega, by have := N60.out; omega, M0.out, M6.out⟩, ?_⟩
              rw [← hs, ← HX.out]; rfl)
            subst hs
            have t : (X.toList == X.toList) = true := by simp
            go_wp2
            obtain ⟨e0, e1⟩ := two_cells HRES.out (.int .i64 n) (.int .i64 m)
            exact bodyPost_ret (v := .tuple #[.agg #[.int .i64 n, .int .i64 m], .bool true]) (by simp [results, Tryd.results20, go_sem, e0, e1]) rfl ⟨n, m, true, rfl, G.out, two_keeps (KB.out.trans K2.out) (Nat.le_refl _) _ _⟩
          · have HN2 := Lib.hid (HNO2.out.next (by rw [HX.out]; exact hs))
            have t := bytes_eq hs
            clear hs y0 y1 z0 z1 f0 f1
            go_wp2
            exact ⟨⟨m + 1, by have := M0.out; omega, by have := M6.out; omega, by go_num, HN2.out, K2.out⟩, by have := M6.out; have := M0.out; simp [intOf]; omega⟩
        · obtain rfl : m = 6 := by omega
          have HN2 := Lib.hid HNO2.out.row
          go_wp2
          exact ⟨⟨n + 1, by have := N1.out; omega, by have := N60.out; omega, by go_num, HN2.out, HK2.out⟩, by have := N60.out; have := N1.out; simp [intOf]; omega⟩
    · obtain rfl : n = 61 := by omega
      have G : Hid (GetIs s.data.toList 0 0 false) := Lib.hid (Or.inr ⟨rfl, rfl, rfl, fun o d hc => HNO.out o d hc (Or.inl hc.o1)⟩)
      have hres := CX.out wr HK.out
      have z0 := Joins.cell_of_block hres 0
      have z1 := Joins.cell_of_block hres 1
      have f0 := Joins.unfrozen_of_block hres 0
      have f1 := Joins.unfrozen_of_block hres 1
      simp only [List.getElem?_toArray, List.getElem?_cons_zero, List.getElem?_cons_succ] at z0 z1
      have HRES := Lib.hid hres
      clear hres
      go_wp2
      obtain ⟨e0, e1⟩ := two_cells HRES.out (.int .i64 0) (.int .i64 0)
      exact bodyPost_ret (v := .tuple #[.agg #[.int .i64 0, .int .i64 0], .bool false]) (by simp [results, Tryd.results20, go_sem, e0, e1]) rfl ⟨0, 0, false, rfl, G.out, two_keeps (KB.out.trans HK.out) (Nat.le_refl _) _ _⟩
end Go.Proofs.YtkjjadacpbbnhaaDoor
