
/- The contract of the document's Whole. -/
import Derived.Test.YtlaepdpgegoopaaGreatRecGetC
import Derived.Test.YtlaepdpgegoopaaGreatCsvMem
import Derived.Maps.AppendAt
set_option linter.unusedVariables false
namespace Go.Proofs.YtlaepdpgegoopaaGreat
open Go.ChangeShapes Go.WideShapes Go.ChangeAt Go.RowKit Bit Crc Rc Csv

/-- What Whole tells. -/
def WholeOut (l : List UInt8) (w : World) (e : Ending) (w' : World) : Prop :=
  ∃ (xs : List (List UInt8 × Nat)) (a : Nat) (v : Value), e = .returned (.tuple #[v, .int .i64 (a : Int)]) ∧ Done l xs a ∧ w'.ownsRow w.heap.size tS 1 v (pays xs).length (svs (pays xs)) ∧ Keeps w w'
theorem pays_len (xs : List (List UInt8 × Nat)) : (pays xs).length = xs.length := by simp [pays]
theorem own_keeps {w w' : World} {B : Nat} {e : TypeId} {n : Nat} {v : Value} {vals : List Value} (h : w.ownsRow B e 1 v n vals) (k : Keeps w w') : w'.ownsRow B e 1 v n vals :=
  h.kept (grown_of_keeps k) (by cases v.ownBlock <;> simp)
theorem info_S : (Tryz.prog.info? tS).map (fun i => (i.zero, i.size, i.bytes)) = some (some (.string ByteArray.empty), 1, 16) := by kernel_rfl

set_option maxRecDepth 100000 in
set_option maxHeartbeats 4000000 in
theorem rwhole_any (s : ByteArray) (w : World) (hs : s.size ≤ 1000000) :
    Calls Tryz.prog 38 #[.string s] w (WholeOut s.data.toList w) := by
  obtain ⟨iS, hiS, hS⟩ := Option.map_eq_some_iff.1 info_S
  simp only [Prod.mk.injEq] at hS
  obtain ⟨hzS1, hzS2, hzS3⟩ := hS
  have HIS := Lib.hid hiS
  have HZ := Lib.hid (And.intro hzS1 (And.intro hzS2 hzS3))
  have HM := Lib.hid (show s.size ≤ maxLen by unfold maxLen; omega)
  clear hiS hzS1 hzS2 hzS3
  go_enter Tryz.func38, Tryz.ntmps38
  go_wp2
  go_loopw [4, 5] (fun vl va wr => ∃ (xs : List (List UInt8 × Nat)) (a : Nat), va = .int .i64 (a : Int) ∧ Trail s.data.toList xs a ∧ wr.ownsRow w.heap.size tS 1 vl (pays xs).length (svs (pays xs)) ∧ Keeps w wr) (fun _ va _ => s.size - (intOf va).toNat)
  case atStart => exact ⟨[], 0, rfl, Trail.nil, World.ownsRow_nil _ _ _ _, Keeps.refl _⟩
  case round =>
    obtain ⟨xs, a, rfl, htr, hown, hkp⟩ := hrel
    have HT := Lib.hid htr
    have HOW := Lib.hid hown
    have HKP := Lib.hid hkp
    have hle := htr.le
    rw [len_data] at hle
    clear htr hown hkp
    cases hg : gB (s.data.toList.drop a) with
    | false =>
      have HG := Lib.hid hg
      have C := Lib.hid (rrecGet_no s (a : Int) wr HM.out (by unfold I64 top; omega) (Or.inr (Or.inr (by simpa using hg))))
      clear hg
      go_wp2_with (go_at_call 65; refine C.out.mono ?_; rintro e w1 ⟨rfl, k1⟩; have K1 := Lib.hid k1; clear k1)
      go_ret2
      exact ⟨xs, a, _, rfl, ⟨HT.out, HG.out⟩, own_keeps HOW.out K1.out, HKP.out.trans K1.out⟩
    | true =>
      obtain ⟨y1, y2, y3, _, _⟩ := g_yes hg
      rw [List.length_drop, len_data] at y1 y3
      have HT2 := Lib.hid (Trail.snoc HT.out hg)
      have C := rrecGet_yes s a wr HM.out hg
      obtain ⟨b, hb⟩ : ∃ b, a + 8 + gN (s.data.toList.drop a) = b := ⟨_, rfl⟩
      obtain ⟨g, hgg⟩ : ∃ g, gT (s.data.toList.drop a) = g := ⟨_, rfl⟩
      rw [hb, hgg] at C HT2
      have hab : a < b := by omega
      have hbs : b ≤ s.size := by omega
      have hpl := pays_len xs
      have hP : (pays xs).length ≤ 200000 := by omega
      obtain ⟨X, hX⟩ : ∃ X : ByteArray, (⟨g.toArray⟩ : ByteArray) = X := ⟨_, rfl⟩
      rw [hX] at C
      have C := Lib.hid C
      have HPS := Lib.hid (show svs (pays xs) ++ [.string X] = svs (pays (xs ++ [(g, b)])) ∧ (pays (xs ++ [(g, b)])).length = (pays xs).length + 1 from by rw [← hX, show Value.string ⟨g.toArray⟩ = sv g from rfl, svs_snoc, pays_snoc]; simp)
      clear hg y1 y2 y3 hb hgg hpl hX
      go_wp2_with (first
        | (go_at_call 65; refine C.out.mono ?_; rintro e w1 ⟨rfl, k1⟩; have K1 := Lib.hid k1; have HOW1 := Lib.hid (own_keeps HOW.out k1); have hz1 := k1.size; clear k1)
        | (at_builtin; refine wpList_append_own_at _ rfl _ _ tR rfl w.heap.size tS iS (.string ByteArray.empty) 1 16 Tryz.underlying36 HIS.out HZ.out.1 HZ.out.2.1 HZ.out.2.2 rfl (by decide) _ _ _ rfl (HOW1.out.alloc _) ⟨w1.heap.size, 0, none⟩ 1 1 [.string X] rfl rfl ?c1 ?c2 ?c3 ?c4 ?c5 ?_))
      case c1 => exact cell_one_new _ _ _
      case c2 => simp [Value.oneCell']
      case c3 => unfold maxLen; omega
      case c4 => omega
      case c5 => have := HKP.out.size; simp; omega
      intro vr' w4 hown4 hgrow hnil hat
      have hb2 : Below w.heap.size w w1 := HKP.out.trans K1.out
      have HK4 := Lib.hid (Below.grown (hb2.alloc hb2.size (.cells #[.string X] tS)) hgrow (by have := hb2.size; simp; omega) (fun q hq => by have := (HOW.out.lt q hq).1; omega))
      rw [HPS.out.1, ← HPS.out.2] at hown4
      have HO4 := Lib.hid hown4
      clear hown4 hgrow hnil hat hb2
      go_wp2
      go_roundw
      case rel => exact ⟨xs ++ [(g, b)], b, rfl, HT2.out, HO4.out, HK4.out⟩
      case measure => simp [intOf]; omega
end Go.Proofs.YtlaepdpgegoopaaGreat
