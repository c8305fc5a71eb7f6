
/- The document's files of the payment: lines. -/
import Derived.Test.YtomonhghioamfaaGreatDoorStRefC
import Derived.Test.YtomonhghioamfaaGreatDoorStructRow
set_option linter.unusedVariables false
namespace Go.Proofs.YtomonhghioamfaaGreatDoor
open Go.ChangeShapes Go.WideShapes Go.ChangeAt Go.RowKit Ky Rw Csv Stl

def strK : RowK (List UInt8) where
  t := tS
  ts := tR
  sz := 1
  bytes := 16
  zero := .string ByteArray.empty
  cells := fun x => [sv x]
  under := Tryz.underlying47
  info := by kernel_rfl
  zsize := rfl
  pos := by omega
  small := by omega
  len := fun x => rfl
  one := fun x u hu => by
    simp only [List.mem_cons, List.not_mem_nil, or_false] at hu
    rw [hu]; rfl
theorem strK_row (L : List (List UInt8)) : strK.row L = svs L := by
  unfold RowK.row svs
  induction L with
  | nil => rfl
  | cons x r ih => rw [List.flatMap_cons, ih]; rfl
theorem strK_strs {B : Nat} {w : World} {v : Value} {L : List (List UInt8)} (h : strK.Own B w v L) : StrsAt w v L := by
  have h2 : w.ownsRow B tS 1 v L.length (svs L) := by rw [← strK_row]; exact h
  exact own_strs h2
theorem ssrc_one {w : World} {b : Nat} {x : List UInt8} (h : w.heap[b]? = some (.cells #[sv x] strK.t (0, 0))) : strK.Src w (.slice (some ⟨b, 0, none⟩) 1 1) [x] := by
  refine ⟨_, 1, rfl, (fun e => by cases e), fun a ha j u hu => ?_⟩
  cases ha
  rw [addr_of, Joins.cell_of_block h j]
  have e : strK.row [x] = [sv x] := rfl
  rw [e] at hu
  rw [← hu]
  simp
theorem mono_grown' {w W W' : World} {v : Value} (k : Keeps w W) (g : W.grownBy W' v.ownBlock) (h : ∀ j, v.ownBlock = some j → w.heap.size ≤ j) : Keeps w W' := Below.grown k g k.size h
/-- A line ends here. -/
theorem line_here {l : List UInt8} {f k : Nat} (hf : f ≤ k) (hn : ∀ c ∈ (l.drop f).take (k - f), c ≠ 10) (hk : l[k]? = some 10) : linesL (l.drop f) = (l.drop f).take (k + 1 - f) :: linesL (l.drop (k + 1)) := by
  have hlt := (List.getElem?_eq_some_iff.1 hk).1
  have e : l.drop f = ((l.drop f).take (k - f) ++ [10]) ++ l.drop (k + 1) := by
    have e1 : l.drop f = (l.drop f).take (k - f) ++ (l.drop f).drop (k - f) := (List.take_append_drop _ _).symm
    have e2 : (l.drop f).drop (k - f) = 10 :: l.drop (k + 1) := by
      rw [List.drop_drop, show f + (k - f) = k by omega, List.drop_eq_getElem_cons hlt]
      obtain ⟨h1, h2⟩ := List.getElem?_eq_some_iff.1 hk
      rw [h2]
    rw [e2] at e1
    rw [List.append_assoc]
    exact e1
  have e3 : (l.drop f).take (k + 1 - f) = (l.drop f).take (k - f) ++ [10] := by
    rw [show k + 1 - f = (k - f) + 1 by omega, List.take_add_one, List.getElem?_drop, show f + (k - f) = k by omega, hk]
    rfl
  rw [e3]
  conv => lhs; rw [e]
  exact lines_whole hn
theorem line_last {l : List UInt8} {f k : Nat} (hf : f ≤ k) (hn : ∀ c ∈ (l.drop f).take (k - f), c ≠ 10) {c : UInt8} (hk : l[k]? = some c) (hc : c ≠ 10) (hl : k + 1 = l.length) : linesL (l.drop f) = (l.drop f).take (k + 1 - f) :: linesL (l.drop (k + 1)) := by
  have e : (l.drop f).take (k + 1 - f) = l.drop f := List.take_of_length_le (by rw [List.length_drop]; omega)
  have e2 : (l.drop f).take (k + 1 - f) = (l.drop f).take (k - f) ++ [c] := by
    rw [show k + 1 - f = (k - f) + 1 by omega, List.take_add_one, List.getElem?_drop, show f + (k - f) = k by omega, hk]
    rfl
  have e3 : l.drop (k + 1) = [] := List.drop_of_length_le (by omega)
  rw [e, e3, linesL_nil]
  refine lines_part ?_ ?_
  · rw [← e, e2]
    intro x hx
    rcases List.mem_append.1 hx with hx | hx
    · exact hn x hx
    · rw [List.mem_singleton.1 hx]; exact hc
  · rw [← e, e2]
    simp
theorem line_on {l : List UInt8} {f k : Nat} (hf : f ≤ k) (hn : ∀ c ∈ (l.drop f).take (k - f), c ≠ 10) {c : UInt8} (hk : l[k]? = some c) (hc : c ≠ 10) : ∀ c ∈ (l.drop f).take (k + 1 - f), c ≠ 10 := by
  rw [show k + 1 - f = (k - f) + 1 by omega, List.take_add_one, List.getElem?_drop, show f + (k - f) = k by omega, hk]
  intro x hx
  rcases List.mem_append.1 hx with hx | hx
  · exact hn x hx
  · have : x = c := by simpa using hx
    rw [this]; exact hc
/-- The lines, as 'lines' hands them out. -/
def LinesOut (l : List UInt8) (w : World) (e : Ending) (w' : World) : Prop := ∃ (n : Nat) (p : Option Addr) (c : Nat), e = .returned (.slice p n c) ∧ (linesL l).length = n ∧ strK.Own w.heap.size w' (.slice p n c) (linesL l) ∧ Keeps w w'
set_option maxHeartbeats 8000000 in
set_option maxRecDepth 100000 in
theorem sr_lines (s : ByteArray) (w : World) (hs : s.size ≤ 65536) : Calls Tryz.prog 24 #[.string s] w (LinesOut s.data.toList w) := by
  have HS := Lib.hid hs
  have HL : Hid (s.data.toList.length = s.size) := Lib.hid (len_data s)
  go_enter Tryz.func24, Tryz.ntmps24
  go_wp2_with fail
  go_loopw [3, 4, 5] (fun v2 v3 v4 W => ∃ (k f n : Nat) (P : List (List UInt8)) (p : Option Addr) (c : Nat), k ≤ s.size ∧ f ≤ k ∧ v4 = .int .i64 (k : Int) ∧ v3 = .int .i64 (f : Int) ∧ v2 = .slice p n c ∧ P.length = n ∧ n ≤ k ∧ (k = s.size → f = s.size) ∧ linesL s.data.toList = P ++ linesL (s.data.toList.drop f) ∧ (∀ c ∈ (s.data.toList.drop f).take (k - f), c ≠ 10) ∧ strK.Own w.heap.size W (.slice p n c) P ∧ Keeps w W) (fun _ _ v4 _ => s.size - (intOf v4).toNat)
  case atStart => exact ⟨0, 0, 0, [], none, 0, by omega, by omega, rfl, rfl, rfl, rfl, by omega, fun h => h, by simp, by simp, strK.own_nil _ _, Keeps.refl _⟩
  case round =>
    obtain ⟨k, f, n, P, p, c, hk, hf, rfl, rfl, rfl, hP, hnk, hend, hl, hno, ho, hw⟩ := hrel
    have HK := Lib.hid hk
    have HF := Lib.hid hf
    have HP := Lib.hid hP
    have HNK := Lib.hid hnk
    have HLL := Lib.hid hl
    have HNO := Lib.hid hno
    have HO := Lib.hid ho
    have HW := Lib.hid hw
    clear hP hnk hl hno ho hw
    by_cases hlt : k < s.size
    rotate_left
    · have hkN : k = s.size := by omega
      subst hkN
      have G : Hid (linesL s.data.toList = P) := Lib.hid (by
        have := HLL.out
        rw [hend rfl, List.drop_of_length_le (by rw [HL.out]; exact Nat.le_refl _), linesL_nil, List.append_nil] at this
        exact this)
      clear hend
      go_wp2
      go_ret
      exact ⟨n, p, c, rfl, by rw [G.out]; exact HP.out, by rw [G.out]; exact HO.out, HW.out⟩
    have HLT := Lib.hid hlt
    have hks : k < s.size := hlt
    have HB : Hid (s.data.toList[k]? = some (s[k]'hks)) := Lib.hid (by rw [List.getElem?_eq_getElem (by rw [HL.out]; exact hlt)]; rfl)
    obtain ⟨k1, hk1⟩ : ∃ j, k + 1 = j := ⟨_, rfl⟩
    have HK1 := Lib.hid hk1
    have g1 : (k : Int) + 1 = (k1 : Int) := by omega
    have g2 : f ≤ k1 := by omega
    have g3 : k1 ≤ s.size := by omega
    obtain ⟨Y, hY⟩ : ∃ Y, s.extract f k1 = Y := ⟨_, rfl⟩
    have HY : Hid (Y = ⟨((s.data.toList.drop f).take (k + 1 - f)).toArray⟩) := Lib.hid (by
      apply bytes_inj
      rw [← hY, ← extract_list, ByteArray.toList_eq, data_mk, hk1])
    have FIN : Hid (∀ (q : Bool), linesL (s.data.toList.drop f) = (s.data.toList.drop f).take (k + 1 - f) :: linesL (s.data.toList.drop (k + 1)) → True) := Lib.hid fun _ _ => trivial
    obtain ⟨p', c', w3, R1, R2, R3⟩ := strK.app_row (wr.alloc (.cells #[.string Y] tS)) w.heap.size (.slice p n c) P (.slice (some ⟨wr.heap.size, 0, none⟩) 1 1) [(s.data.toList.drop f).take (k + 1 - f)] (strK.own_keeps HO.out (kept_alloc (Keeps.refl _) _)) (ssrc_one (by rw [HY.out]; exact heap_alloc_new _ _)) (by simp; have := HP.out; have := HNK.out; have := HS.out; omega) (Nat.le_trans HW.out.size (kept_alloc (Keeps.refl _) _).size)
    have hO2 : strK.Own w.heap.size wr (.slice p P.length c) P := by rw [HP.out]; exact HO.out
    have K3 : Hid (Keeps w w3) := Lib.hid (mono_grown' (kept_alloc HW.out _) R3 fun j hj => (strK.own_lt hO2 j (by rw [HP.out]; exact hj)).1)
    have HR : Hid ((Builtin.append_ #[tR, tR] tR #[.slice p n c, .slice (some ⟨wr.heap.size, 0, none⟩) 1 1]).run Tryz.prog (wr.alloc (.cells #[.string Y] tS)) = .ok (.slice p' (n + 1) c') w3) := Lib.hid (by rw [HP.out] at R1; exact R1)
    have O3 : Hid (strK.Own w.heap.size w3 (.slice p' (n + 1) c') (P ++ [(s.data.toList.drop f).take (k + 1 - f)])) := Lib.hid (by rw [HP.out] at R2; exact R2)
    have NEW : Hid (linesL (s.data.toList.drop f) = (s.data.toList.drop f).take (k + 1 - f) :: linesL (s.data.toList.drop (k + 1)) → linesL s.data.toList = (P ++ [(s.data.toList.drop f).take (k + 1 - f)]) ++ linesL (s.data.toList.drop k1)) := Lib.hid fun e => by
      rw [HLL.out, e, List.append_assoc, hk1]
      rfl
    clear hO2 R1 R2 R3 FIN hk1
    by_cases hc : s[k]'hks = 10
    · have t : (((s[k]'hks).toNat : Int) == 10) = true := by rw [hc]; rfl
      have L2 := Lib.hid (NEW.out (line_here HF.out HNO.out (by rw [HB.out, hc])))
      clear hc hend
      go_wp2_with (at_builtin; refine wpAppKnown rfl _ _ _ _ rfl _ _ _ _ rfl rfl HR.out ?_)
      exact ⟨⟨k1, k1, n + 1, _, p', c', g3, Nat.le_refl _, rfl, rfl, rfl, by rw [List.length_append, HP.out]; rfl, by have := HNK.out; have := HK1.out; omega, fun h => h, L2.out, by simp, O3.out, K3.out⟩, by have := HK1.out; simp [intOf]; omega⟩
    · have t : (((s[k]'hks).toNat : Int) == 10) = false := by
        rw [beq_eq_false_iff_ne]
        intro e
        exact hc (UInt8.toNat.inj (by show (s[k]'hks).toNat = 10; omega))
      by_cases hl : k1 = s.size
      · have t2 : ((k : Int) == (s.size : Int) - 1) = true := by rw [beq_iff_eq]; omega
        have L2 := Lib.hid (NEW.out (line_last HF.out HNO.out HB.out hc (by rw [HL.out]; have := HK1.out; omega)))
        clear hc hend hl
        go_wp2_with (at_builtin; refine wpAppKnown rfl _ _ _ _ rfl _ _ _ _ rfl rfl HR.out ?_)
        exact ⟨⟨k1, k1, n + 1, _, p', c', g3, Nat.le_refl _, rfl, rfl, rfl, by rw [List.length_append, HP.out]; rfl, by have := HNK.out; have := HK1.out; omega, fun h => h, L2.out, by simp, O3.out, K3.out⟩, by have := HK1.out; simp [intOf]; omega⟩
      · have t2 : ((k : Int) == (s.size : Int) - 1) = false := by rw [beq_eq_false_iff_ne]; omega
        have HNL := Lib.hid hl
        have NO2 := Lib.hid (line_on HF.out HNO.out HB.out hc)
        clear hc hend hl
        go_wp2_with fail
        exact ⟨⟨k1, f, n, P, p, c, g3, g2, rfl, rfl, rfl, HP.out, by have := HNK.out; have := HK1.out; omega, fun h => absurd h HNL.out, HLL.out, by rw [← HK1.out]; exact NO2.out, HO.out, HW.out⟩, by have := HK1.out; simp [intOf]; omega⟩
end Go.Proofs.YtomonhghioamfaaGreatDoor
