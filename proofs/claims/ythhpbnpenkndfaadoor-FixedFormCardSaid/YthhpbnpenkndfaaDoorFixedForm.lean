
/- The law FixedForm, walked. -/
import Derived.Test.YthhpbnpenkndfaaDoorFixedLaws
import Derived.Test.YthhpbnpenkndfaaDoorOpenArgs
set_option linter.unusedVariables false
namespace Go.Proofs.YthhpbnpenkndfaaDoor
open Go.ChangeShapes Go.WideShapes Go.ChangeAt Go.RowKit Csv Fix

/-! ### Widths that are made of bytes -/
def wOf (c : UInt8) : Int := 1 + (c.toNat : Int) % 40
def wsOf (l : Bs) : List Int := l.map wOf
theorem wOf_ok (c : UInt8) : okW1 (wOf c) = true := (okW1_iff _).2 (by unfold wOf; omega)
theorem wsOf_ok (l : Bs) (h : l.length ≤ 30) : okW (wsOf l) = true := by
  unfold okW wsOf
  rw [Bool.and_eq_true]
  refine ⟨decide_eq_true (by simp; omega), List.all_eq_true.2 fun n hn => ?_⟩
  obtain ⟨c, _, rfl⟩ := List.mem_map.1 hn
  exact wOf_ok c
theorem wsOf_at {l : Bs} {k : Nat} {c : UInt8} (h : l[k]? = some c) : (wsOf l)[k]? = some (wOf c) := by simp [wsOf, h]
theorem wsOf_len (l : Bs) : (wsOf l).length = l.length := by simp [wsOf]
theorem take_one {α : Type} {l : List α} {k : Nat} {x : α} (h : l[k]? = some x) : l.take (k + 1) = l.take k ++ [x] := by rw [List.take_add_one, h]; rfl

/-! ### What is parsed is printed -/
theorem cutS_small : ∀ (W : List Int) (l : Bs), W.all okW1 = true → ∀ f ∈ cutS W l, f.length ≤ 1000
  | [], l, _, f, hf => by cases hf
  | n :: W, l, h, f, hf => by
    simp only [List.all_cons, Bool.and_eq_true] at h
    rcases List.mem_cons.1 hf with rfl | hf
    · have h1 := trimR_len (l.take n.toNat)
      have h2 := (okW1_iff n).1 h.1
      rw [List.length_take] at h1
      omega
    · exact cutS_small W _ h.2 f hf
theorem form_bad {W : List Int} {l : Bs} {F : List Bs} {c : Nat} (h : okW W = true) (hp : pa W l = (F, c)) (hc : c ≠ 0) : F = [] ∧ 1 ≤ c ∧ c ≤ l.length + 1 := by
  by_cases hl : l.length = sumW W
  · cases ho : odd l with
    | some k =>
      rw [pa_odd h hl ho] at hp
      cases hp
      have := odd_lt ho
      exact ⟨rfl, by omega, by omega⟩
    | none =>
      rw [pa_yes h hl ho] at hp
      cases hp
      exact absurd rfl hc
  · rw [pa_long h hl] at hp
    cases hp
    exact ⟨rfl, by omega, by omega⟩
theorem form_good {W : List Int} {l : Bs} {F : List Bs} (h : okW W = true) (hp : pa W l = (F, 0)) : F.length = W.length ∧ pr W F = l ∧ ∀ f ∈ F, f.length ≤ 1100 := by
  by_cases hl : l.length = sumW W
  · cases ho : odd l with
    | some k =>
      rw [pa_odd h hl ho] at hp
      cases hp
    | none =>
      rw [pa_yes h hl ho] at hp
      cases hp
      have hw : W.all okW1 = true := by simp only [okW, Bool.and_eq_true] at h; exact h.2
      exact ⟨cutS_len W l, pr_pa h hl ho, fun f hf => by have := cutS_small W l hw f hf; omega⟩
  · rw [pa_long h hl] at hp
    cases hp

/-- Widths under way. -/
def FormRel (w : World) (l : Bs) (vW vs vi : Value) (wx : World) : Prop :=
  ∃ k S : Nat, k ≤ l.length ∧ vi = .int .i64 k ∧ vs = .int .i64 S ∧ S = sumW ((wsOf l).take k) ∧ S ≤ 40 * k ∧ wx.ownsRow w.heap.size 3 1 vW k (ivs ((wsOf l).take k)) ∧ Keeps w wx

set_option maxRecDepth 100000 in
set_option maxHeartbeats 4000000 in
theorem fixedForm_go (vU : Value) (l : Bs) (s : ByteArray) (b : Bool) (w : World) (hU : U8sAt w vU l) (hs : s.size ≤ maxLen) :
    Calls Tryd.prog 6 #[vU, .string s, .bool b] w fun e w' => e = .returned (.bool true) ∧ Keeps w w' := by
  have hinfoI : (Tryd.prog.info? 3).map (fun i => (i.zero, i.size, i.bytes)) = some (some (.int .i64 0), 1, 8) := by kernel_rfl
  obtain ⟨iI, hiI, hI⟩ := Option.map_eq_some_iff.1 hinfoI
  simp only [Prod.mk.injEq] at hI
  obtain ⟨hzI1, hzI2, hzI3⟩ := hI
  have HII := Lib.hid hiI
  have HZ := Lib.hid (And.intro hzI1 (And.intro hzI2 hzI3))
  clear hinfoI hiI hzI1 hzI2 hzI3
  have cl := lined_yes w
  obtain ⟨pU, cU, rfl, lU, hU⟩ := hU
  have HU := Lib.hid hU
  clear hU
  unfold maxLen at lU hs
  by_cases h1 : 30 < l.length
  · have t1 : decide ((30 : Int) < (l.length : Int)) = true := decide_eq_true (by omega)
    clear h1
    go_enter Tryd.func6, Tryd.ntmps6
    go_wp2_with (go_at_call 7; refine cl.mono ?_; rintro e w' ⟨rfl, hk⟩)
    go_ret
    exact ⟨rfl, hk⟩
  have t1 : decide ((30 : Int) < (l.length : Int)) = false := decide_eq_false (by omega)
  by_cases h2 : 1300 < s.size
  · have t2 : decide ((1300 : Int) < (s.size : Int)) = true := decide_eq_true (by omega)
    clear h1 h2
    go_enter Tryd.func6, Tryd.ntmps6
    go_wp2_with (go_at_call 7; refine cl.mono ?_; rintro e w' ⟨rfl, hk⟩)
    go_ret
    exact ⟨rfl, hk⟩
  have t2 : decide ((1300 : Int) < (s.size : Int)) = false := decide_eq_false (by omega)
  have hl30 : l.length ≤ 30 := by omega
  have hs1300 : s.size ≤ 1300 := by omega
  have HOK := Lib.hid (wsOf_ok l hl30)
  clear h1 h2 cl
  go_enter Tryd.func6, Tryd.ntmps6
  go_wp2
  clear t1 t2
  go_loopw [7, 8, 9] (fun vW vs vi wx => FormRel w l vW vs vi wx) (fun _ _ i _ => l.length - (intOf i).toNat)
  case atStart => exact ⟨0, 0, by omega, rfl, rfl, rfl, by omega, World.ownsRow_nil _ _ _ _, Keeps.refl _⟩
  case round =>
    obtain ⟨k, S, hk, rfl, rfl, hS, hS40, hown, hkp⟩ := hrel
    have HS := Lib.hid hS
    have HOW := Lib.hid hown
    have HK := Lib.hid hkp
    clear hS hown hkp
    by_cases hlt : k < l.length
    · obtain ⟨c, hc⟩ : ∃ c, l[k]? = some c := ⟨_, List.getElem?_eq_getElem hlt⟩
      obtain ⟨a, rfl, hca⟩ := HU.out k c hc
      have hca2 := cell_keeps HK.out hca
      have hi1 : (k : Int) < (l.length : Int) := by omega
      have hcl := c.toNat_lt
      have HW1 := Lib.hid (wsOf_at hc)
      have HCS := Lib.hid (show ivs ((wsOf l).take k) ++ [.int .i64 (1 + (c.toNat : Int) % 40)] = ivs ((wsOf l).take (k + 1)) from by
        rw [take_one HW1.out, ← ivs_snoc]; rfl)
      have HST := Lib.hid (show S + (1 + c.toNat % 40) = sumW ((wsOf l).take (k + 1)) from by
        rw [sumW_take _ _ _ HW1.out, HS.out]; unfold wOf; omega)
      clear hc hca
      go_wp2_with (at_builtin; refine wpList_append_own_at _ rfl _ _ 22 rfl w.heap.size 3 iI (.int .i64 0) 1 8 Tryd.underlying22 HII.out HZ.out.1 HZ.out.2.1 HZ.out.2.2 rfl (by decide) _ _ _ rfl (HOW.out.alloc _) ⟨wr.heap.size, 0, none⟩ 1 1 [.int .i64 (1 + (c.toNat : Int) % 40)] rfl rfl ?c1 ?c2 ?c3 ?c4 ?c5 ?_)
      case c1 => exact cell_one_new _ _ _
      case c2 => intro u hu; simp at hu; subst hu; rfl
      case c3 => unfold maxLen; omega
      case c4 => omega
      case c5 => have := HK.out.size; simp; omega
      intro vr' w4 hown4 hgrow hnil hat
      have hb2 := HK.out
      have HK4 := Lib.hid (Below.grown (hb2.alloc hb2.size (.cells #[.int .i64 (1 + (c.toNat : Int) % 40)] 3)) hgrow (by have := hb2.size; simp; omega) (fun q hq => by have := (HOW.out.lt q hq).1; omega))
      obtain ⟨gr, cr, hvr⟩ : ∃ gr cr, vr' = .slice (some ⟨gr, 0, none⟩) (k + 1) cr := by
        rcases hown4.2 with ⟨_, h0⟩ | ⟨g, cap, cur, h0, _⟩
        · omega
        · exact ⟨g, cap, h0⟩
      subst hvr
      have hck : w4.cell? ⟨gr, k, none⟩ = some (.int .i64 (1 + (c.toNat : Int) % 40)) := by
        rw [hown4.cellAt k (by omega), List.getElem?_append_right (by rw [ivs_len, List.length_take, wsOf_len]; omega)]
        have e : k - (ivs ((wsOf l).take k)).length = 0 := by rw [ivs_len, List.length_take, wsOf_len]; omega
        rw [e]; rfl
      rw [HCS.out] at hown4
      have HO4 := Lib.hid hown4
      have hkk : k < k + 1 := by omega
      clear hown4 hgrow hnil hat hb2 hca2
      go_wp2
      go_roundw
      case rel => exact ⟨k + 1, S + (1 + c.toNat % 40), by omega, by go_num, by go_num, HST.out, by omega, HO4.out, HK4.out⟩
      case measure => simp [intOf]; omega
    · obtain rfl : k = l.length := by omega
      have hz : ¬ ((l.length : Int) < (l.length : Int)) := by omega
      have HE1 := Lib.hid (show (wsOf l).take l.length = wsOf l from List.take_of_length_le (by rw [wsOf_len]; exact Nat.le_refl _))
      have HIW := Lib.hid (show IntsAt wr u7 (wsOf l) from by
        have h := HOW.out
        rw [HE1.out] at h
        rw [← wsOf_len l] at h
        exact own_ints h)
      obtain ⟨pW, cW, rfl, _⟩ := HIW.out
      rw [wsOf_len] at *
      obtain ⟨T, hT, hway⟩ : ∃ T : ByteArray, T.size ≤ 1300 ∧ ((b = true ∧ S < s.size ∧ s.extract 0 S = T) ∨ ((b = false ∨ s.size ≤ S) ∧ s = T)) := by
        by_cases hb : b = true ∧ S < s.size
        · exact ⟨_, by rw [ByteArray.size_extract]; omega, Or.inl ⟨hb.1, hb.2, rfl⟩⟩
        · refine ⟨s, hs1300, Or.inr ⟨?_, rfl⟩⟩
          cases b
          · exact Or.inl rfl
          · right
            by_cases h : S < s.size
            · exact absurd ⟨rfl, h⟩ hb
            · omega
      obtain ⟨D, hD⟩ : ∃ D, (pa (wsOf l) T.data.toList) = D := ⟨_, rfl⟩
      obtain ⟨FL, c⟩ := D
      have HD := Lib.hid hD
      have HTM := Lib.hid (show T.size ≤ maxLen from by unfold maxLen; omega)
      clear hD
      have hways : (b = true ∧ S < s.size ∧ s.extract 0 S = T) ∨ (b = false ∧ s = T) ∨ (b = true ∧ s.size ≤ S ∧ s = T) := by
        rcases hway with h | ⟨h1 | h1, h2⟩
        · exact Or.inl h
        · exact Or.inr (Or.inl ⟨h1, h2⟩)
        · cases b
          · exact Or.inr (Or.inl ⟨rfl, h2⟩)
          · exact Or.inr (Or.inr ⟨rfl, h1, h2⟩)
      clear hway
      by_cases hc0 : c = 0
      · subst hc0
        obtain ⟨g1, g2, g3⟩ := form_good HOK.out HD.out
        have G1 := Lib.hid g1
        have G2 := Lib.hid g2
        have G3 := Lib.hid g3
        rw [wsOf_len] at g1
        have hc1 : ((FL.length : Int) == (l.length : Int)) = true := by rw [g1]; simp
        clear g1 g2 g3
        rcases hways with ⟨rfl, h1, h2⟩ | ⟨rfl, rfl⟩ | ⟨rfl, h1, rfl⟩
        all_goals
          go_wp2_with fail
          refine (fparse_is HIW.out HTM.out HD.out).mono ?_
          rintro e w1 ⟨v1, rfl, hs1, hk1⟩
          have HK1 := Lib.hid (Keeps.trans HK.out hk1)
          have HW1 := Lib.hid (HIW.out.keeps hk1)
          have HS1 := Lib.hid hs1
          obtain ⟨p1, c1, rfl, _⟩ := hs1
          clear hk1
          go_wp2_with fail
          refine (fprint_is HW1.out HS1.out G3.out G2.out).mono ?_
          rintro e w2 ⟨rfl, hk2⟩
          have HK2 := Lib.hid (Keeps.trans HK1.out hk2)
          clear hk2
          have cl2 := lined_yes w2
          go_wp2_with (go_at_call 7; refine cl2.mono ?_; rintro e w' ⟨rfl, hk⟩)
          go_ret
          exact ⟨rfl, Keeps.trans HK2.out hk⟩
      · obtain ⟨g1, g2, g3⟩ := form_bad HOK.out HD.out hc0
        rw [len_data] at g3
        subst g1
        have hc1 : ((c : Int) != 0) = true := by simp [bne]; omega
        have hc2 : decide ((1 : Int) ≤ (c : Int)) = true := decide_eq_true (by omega)
        have hc3 : decide ((c : Int) ≤ (T.size : Int) + 1) = true := decide_eq_true (by omega)
        clear hc0
        rcases hways with ⟨rfl, h1, h2⟩ | ⟨rfl, rfl⟩ | ⟨rfl, h1, rfl⟩
        all_goals
          go_wp2_with fail
          refine (fparse_is HIW.out HTM.out HD.out).mono ?_
          rintro e w1 ⟨v1, rfl, hs1, hk1⟩
          have HK1 := Lib.hid (Keeps.trans HK.out hk1)
          obtain ⟨p1, c1, rfl, _⟩ := hs1
          clear hk1
          have cl1 := lined_yes w1
          go_wp2_with (go_at_call 7; refine cl1.mono ?_; rintro e w' ⟨rfl, hk⟩)
          go_ret
          exact ⟨rfl, Keeps.trans HK1.out hk⟩
end Go.Proofs.YthhpbnpenkndfaaDoor
