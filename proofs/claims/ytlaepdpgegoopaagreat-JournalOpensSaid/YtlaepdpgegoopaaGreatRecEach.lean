
/- records.each: the records, one by one, to whatever loop body. -/
import Derived.RangeFuncBox
import Derived.RangeFuncNested
import Derived.RangeFuncBound
import Derived.RangeFuncCalls
import Derived.RangeFuncLeaves
import Derived.Shelf.Abstract
import Derived.Shelf.RegionOpen
import Derived.WalkKit
import Derived.OwnWalkIn
import Derived.TacticsInMore
import Derived.LoopNIn
import Derived.LoopIn
import Derived.Maps.AppendAt
import Derived.Test.YtlaepdpgegoopaaGreatRecWholeR
set_option linter.unusedVariables false
namespace Go.Proofs.YtlaepdpgegoopaaGreat
open Go.RowKit Go.Shelf Rc Csv
attribute [local go_sem] Oper.semAt_some

def eachM (n : Nat) (vn vo : Value) : Nat := match vo with
  | .bool true => n + 1 - (intOf vn).toNat
  | _ => 0
/-- What Get has told last. -/
def LastGot (l : List UInt8) (a : Nat) (vp vn vo : Value) : Prop :=
  (gB (l.drop a) = true ∧ vp = .string ⟨(gT (l.drop a)).toArray⟩ ∧ vn = .int .i64 ((a + 8 + gN (l.drop a) : Nat) : Int) ∧ vo = .bool true) ∨ (gB (l.drop a) = false ∧ vp = .string ⟨#[]⟩ ∧ vn = .int .i64 0 ∧ vo = .bool false)
theorem recGet_last (s : ByteArray) (a : Nat) (w : World) (hs : s.size ≤ 1000000) (ha : a ≤ s.size) :
    Calls Tryz.prog 94 #[.string s, .int .i64 (a : Int)] w fun e w' => ∃ vp vn vo, e = .returned (.tuple #[vp, vn, vo]) ∧ LastGot s.data.toList a vp vn vo ∧ Keeps w w' := by
  cases hg : gB (s.data.toList.drop a) with
  | true =>
    refine (recGet_yes s a w (by unfold maxLen; omega) hg).mono ?_
    rintro e w' ⟨rfl, k⟩
    exact ⟨_, _, _, rfl, Or.inl ⟨hg, rfl, rfl, rfl⟩, k⟩
  | false =>
    refine (recGet_no s (a : Int) w (by unfold maxLen; omega) (by unfold I64 top; omega) (Or.inr (Or.inr (by simpa using hg)))).mono ?_
    rintro e w' ⟨rfl, k⟩
    exact ⟨_, _, _, rfl, Or.inr ⟨hg, rfl, rfl, rfl⟩, k⟩

theorem cell_same {A B : World} {b i : Nat} (h : B.heap[b]? = A.heap[b]?) : B.cell? ⟨b, i, none⟩ = A.cell? ⟨b, i, none⟩ := by simp [World.cell?, h]
set_option maxRecDepth 100000 in
set_option maxHeartbeats 4000000 in
theorem each1_in (n : Nat) (hn : 1 ≤ n) (l Bn : Nat) (s : ByteArray) (hs : s.size ≤ 1000000) (J Jx : List (List UInt8 × Nat) → World → Prop) (W : World) (hJ : AbidesFrom W.heap.size J)
    (hY : ∀ pre x W, J pre W → pre.length < s.size → YieldAt Fence.wide (n - 1) Tryz.prog l #[.string ⟨x.1.toArray⟩, .int .i64 (x.2 : Int)] W fun e W' =>
      (e = .returned (.bool true) ∧ J (pre ++ [x]) W' ∧ W'.heap[Bn]? = W.heap[Bn]?) ∨ (e = .returned (.bool false) ∧ Jx (pre ++ [x]) W'))
    (hBn : W.cell? ⟨Bn, 0, none⟩ = some (.string s)) (h0 : J [] W) :
    CallsIn Fence.wide n Tryz.prog 93 #[.func (.yield l) #[] #[], .pointer (some ⟨Bn, 0, none⟩)] W fun e W' => (∃ v, e = .returned v) ∧
      ((∃ ys, (∃ a, Done s.data.toList ys a) ∧ J ys W') ∨ (∃ pre, True ∧ Jx pre W')) := by
  refine callsIn_of_wp Tryz.func93 rfl trivial ?_ rfl
  simp only [Tryz.ntmps93, List.size_toArray, List.length_cons, List.length_nil, Nat.reduceAdd, Nat.reduceSub, Array.replicate_succ, Array.replicate_zero, List.push_toArray, List.append_toArray, List.nil_append, List.cons_append]
  have hg0 := recGet_last s 0 W hs (by omega)
  have hlen := len_data s
  gi_wp2_with (refine ⟨trivial, ?_⟩; gi_at_call 94; refine (callsIn_wide.2 hg0).mono ?_; rintro e w1 ⟨vp, vn, vo, rfl, hl0, k0⟩)
  have hJ1 : J [] w1 := hJ _ _ _ none h0 (grown_of_keeps k0) (fun r e => by cases e)
  have hc1 : w1.cell? ⟨Bn, 0, none⟩ = some (.string s) := cell_keeps k0 hBn
  have hz1 : W.heap.size ≤ w1.heap.size := k0.size
  gi_loopw [3, 4, 5] (fun vp vn vo wr => ∃ (pre : List (List UInt8 × Nat)) (a : Nat), Trail s.data.toList pre a ∧ LastGot s.data.toList a vp vn vo ∧ J pre wr ∧ wr.cell? ⟨Bn, 0, none⟩ = some (.string s)) (fun vp vn vo wr => eachM s.size vn vo)
  case atStart => exact ⟨[], 0, Trail.nil, hl0, hJ1, hc1⟩
  case round =>
    obtain ⟨pre, a, htr, hlast, hJr, hcr⟩ := hrel
    have hle := htr.le
    rw [hlen] at hle
    rcases hlast with ⟨hg, rfl, rfl, rfl⟩ | ⟨hg, rfl, rfl, rfl⟩
    · obtain ⟨y1, y2, y3, _, _⟩ := g_yes hg
      rw [List.length_drop, hlen] at y1 y3
      have ht2 := Trail.snoc htr hg
      obtain ⟨b, hb⟩ : ∃ b, a + 8 + gN (s.data.toList.drop a) = b := ⟨_, rfl⟩
      obtain ⟨g, hgg⟩ : ∃ g, gT (s.data.toList.drop a) = g := ⟨_, rfl⟩
      rw [hb, hgg] at ht2 ⊢
      obtain ⟨fn, tmps, assign, body, hy, hR⟩ := hY pre (g, b) wr hJr (by omega)
      dsimp only at hy
      gi_wp2
      refine hR.mono ?_
      rintro e W3 (⟨rfl, hJ3, hk3⟩ | ⟨rfl, hJx3⟩)
      · have hc3 : W3.cell? ⟨Bn, 0, none⟩ = some (.string s) := (cell_same hk3).trans hcr
        have hg3 := recGet_last s b W3 hs (by omega)
        clear hy hR hY
        gi_wp2_with (refine ⟨trivial, ?_⟩; gi_at_call 94; refine (callsIn_wide.2 hg3).mono ?_; rintro e w4 ⟨vp4, vn4, vo4, rfl, hl4, k4⟩)
        go_roundw
        case rel => exact ⟨pre ++ [(g, b)], b, ht2, hl4, hJ _ _ _ none hJ3 (grown_of_keeps k4) (fun r e => by cases e), cell_keeps k4 hc3⟩
        case measure =>
          rcases hl4 with ⟨hg4, rfl, rfl, rfl⟩ | ⟨hg4, rfl, rfl, rfl⟩
          · have := (g_yes hg4).2.2.1
            rw [List.length_drop, hlen] at this
            simp [eachM, intOf]; omega
          · simp [eachM, intOf]; omega
      · clear hy hR hY
        gi_wp2
        go_end0
        exact ⟨⟨_, rfl⟩, .inr ⟨pre ++ [(g, b)], trivial, hJx3⟩⟩
    · gi_wp2
      refine ⟨fun _ h => (by cases h), ?_⟩
      gi_wp2
      go_end0
      exact ⟨⟨_, rfl⟩, .inl ⟨pre, ⟨a, htr, hg⟩, hJr⟩⟩
end Go.Proofs.YtlaepdpgegoopaaGreat
