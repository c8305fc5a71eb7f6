
/- What the program's net must answer (a structure), and it beside the document's. -/
import Derived.Test.YtajphjlfefhajaaNtRef3
set_option linter.unusedVariables false
namespace Go.Proofs.Ytajphjlfefhajaa
open Go.ChangeShapes Go.WideShapes Go.ChangeAt Go.RowKit Csv Ky
namespace Nt
/-- What becomes of a net of blocks F: other messages, in its blocks and new ones. -/
structure PGoes (At : World → Nat → (Nat → Prop) → List Mg → Prop) (W W' : World) (b : Nat) (F : Nat → Prop) (l : List Mg) : Prop where
  ex : ∃ F', At W' b F' l ∧ ∀ i, F' i → F i ∨ W.heap.size ≤ i
  only : Only F W W'
/-- A net of one's own, in new memory. -/
structure PNew (At : World → Nat → (Nat → Prop) → List Mg → Prop) (W W' : World) (e : Ending) (l : List Mg) : Prop where
  ex : ∃ b F, e = .returned (.pointer (some ⟨b, 0, none⟩)) ∧ At W' b F l ∧ ∀ i, F i → W.heap.size ≤ i
  keeps : Keeps W W'
/-- The program's net: how it lies, and what its calls answer. -/
structure NtP where
  At : World → Nat → (Nat → Prop) → List Mg → Prop
  loc : ∀ {W W' b F l}, At W b F l → (∀ i, F i → W'.heap[i]? = W.heap[i]?) → At W' b F l
  lt : ∀ {W b F l}, At W b F l → ∀ {i}, F i → i < W.heap.size
  new : ∀ W, Calls Try.prog 9 #[] W fun e w' => PNew At W w' e []
  send : ∀ {W b F l} (m : Mg), At W b F l → l.length ≤ 1000 → Calls Try.prog 16 #[.pointer (some ⟨b, 0, none⟩), mgV m] W fun e w' => e = .returned (.bool (room l)) ∧ PGoes At W w' b F (send l m)
  mail : ∀ {W b F l}, At W b F l → l.length ≤ 1000 → Calls Try.prog 14 #[.pointer (some ⟨b, 0, none⟩)] W fun e w' => ∃ v, e = .returned v ∧ mgK.Own W.heap.size w' v l ∧ Keeps W w'
  deliver : ∀ {W b F l} (i : Int), I64 i → At W b F l → l.length ≤ 1000 → Calls Try.prog 15 #[.pointer (some ⟨b, 0, none⟩), .int .i64 i] W fun e w' => e = .returned (.tuple #[delV (gone l i), .bool (isB l i)]) ∧ PGoes At W w' b F (del l i)
  drop : ∀ {W b F l} (i : Int), I64 i → At W b F l → l.length ≤ 1000 → Calls Try.prog 17 #[.pointer (some ⟨b, 0, none⟩), .int .i64 i] W fun e w' => e = .returned (.bool (isB l i)) ∧ PGoes At W w' b F (del l i)
  double : ∀ {W b F l} (i : Int), I64 i → At W b F l → l.length ≤ 1000 → Calls Try.prog 18 #[.pointer (some ⟨b, 0, none⟩), .int .i64 i] W fun e w' => e = .returned (.bool (dblB l i)) ∧ PGoes At W w' b F (dbl l i)
  turn : ∀ {W b F l} (i k : Int), I64 i → I64 k → At W b F l → l.length ≤ 1000 → Calls Try.prog 19 #[.pointer (some ⟨b, 0, none⟩), .int .i64 i, .int .i64 k] W fun e w' => e = .returned (.bool (turnB l i k)) ∧ PGoes At W w' b F (turn l i k)
  copy : ∀ {W b F l}, At W b F l → l.length ≤ 1000 → Calls Try.prog 10 #[.pointer (some ⟨b, 0, none⟩)] W fun e w' => PNew At W w' e l
section
variable {P : NtP} {W X Y : World} {b rb : Nat} {F G : Nat → Prop} {l l' : List Mg}
theorem NtP.keeps (h : P.At W b F l) (k : Keeps W X) : P.At X b F l := P.loc h fun i hi => k.block i (P.lt h hi)
/-- The program's net and the document's, with the same messages or not, apart. -/
structure Pr (P : NtP) (W : World) (b : Nat) (F : Nat → Prop) (l : List Mg) (rb : Nat) (G : Nat → Prop) (l' : List Mg) : Prop where
  one : P.At W b F l
  two : RefN W rb G l'
  dis : ∀ i, F i → ¬ G i
theorem Pr.lt (h : Pr P W b F l rb G l') {i : Nat} (hi : F i ∨ G i) : i < W.heap.size := by
  rcases hi with hi | hi
  · exact P.lt h.one hi
  · exact h.two.lt hi
theorem Pr.loc (h : Pr P W b F l rb G l') (hs : ∀ i, F i ∨ G i → X.heap[i]? = W.heap[i]?) : Pr P X b F l rb G l' :=
  ⟨P.loc h.one fun i hi => hs i (Or.inl hi), h.two.loc fun i hi => hs i (Or.inr hi), h.dis⟩
theorem Pr.keeps (h : Pr P W b F l rb G l') (k : Keeps W X) : Pr P X b F l rb G l' := h.loc fun i hi => k.block i (h.lt hi)
/-- What becomes of both. -/
structure Both (P : NtP) (W X : World) (b : Nat) (F : Nat → Prop) (l : List Mg) (rb : Nat) (G : Nat → Prop) (l' : List Mg) : Prop where
  ex : ∃ F' G', Pr P X b F' l rb G' l' ∧ (∀ i, F' i ∨ G' i → (F i ∨ G i) ∨ W.heap.size ≤ i)
  only : Only (fun i => F i ∨ G i) W X
theorem Both.refl (h : Pr P W b F l rb G l') : Both P W W b F l rb G l' := ⟨⟨F, G, h, fun i hi => Or.inl hi⟩, Only.refl _⟩
theorem Both.keeps (h : Both P W X b F l rb G l') (k : Keeps X Y) : Both P W Y b F l rb G l' := by
  obtain ⟨⟨F', G', h1, h2⟩, h3⟩ := h
  exact ⟨⟨F', G', h1.keeps k, h2⟩, h3.trans (Only.of_keeps k)⟩
theorem Both.from (h : Both P X Y b F l rb G l') (k : Keeps W X) : Both P W Y b F l rb G l' := by
  obtain ⟨⟨F', G', h1, h2⟩, h3⟩ := h
  exact ⟨⟨F', G', h1, fun i hi => (h2 i hi).imp id (Nat.le_trans k.size)⟩, (Only.of_keeps k).trans h3⟩
theorem Both.trans {l1 l1' l2 l2' : List Mg} (h : Both P W X b F l1 rb G l1') (hn : ∀ F' G', Pr P X b F' l1 rb G' l1' → Both P X Y b F' l2 rb G' l2') : Both P W Y b F l2 rb G l2' := by
  obtain ⟨⟨F', G', h1, h2⟩, h3⟩ := h
  obtain ⟨⟨F2, G2, g1, g2⟩, g3⟩ := hn F' G' h1
  refine ⟨⟨F2, G2, g1, fun i hi => ?_⟩, ?_⟩
  · rcases g2 i hi with q | q
    · exact h2 i q
    · exact Or.inr (Nat.le_trans h3.size q)
  · refine ⟨g3.os.trans h3.os, g3.tape.trans h3.tape, g3.output.trans h3.output, Nat.le_trans h3.size g3.size, fun i hi hn => ?_⟩
    refine (g3.same i (Nat.lt_of_lt_of_le hi h3.size) (fun q => ?_)).trans (h3.same i hi hn)
    rcases h2 i q with r | r
    · exact hn r
    · omega
theorem Both.after {F' G' : Nat → Prop} {l2 l2' : List Mg} (h : Both P X Y b F' l2 rb G' l2') (fr : ∀ i, F' i ∨ G' i → (F i ∨ G i) ∨ W.heap.size ≤ i) (o : Only (fun i => F i ∨ G i) W X) : Both P W Y b F l2 rb G l2' := by
  obtain ⟨⟨F2, G2, g1, g2⟩, g3⟩ := h
  refine ⟨⟨F2, G2, g1, fun i hi => ?_⟩, ?_⟩
  · rcases g2 i hi with q | q
    · exact fr i q
    · exact Or.inr (Nat.le_trans o.size q)
  · refine ⟨g3.os.trans o.os, g3.tape.trans o.tape, g3.output.trans o.output, Nat.le_trans o.size g3.size, fun i hi hn => ?_⟩
    refine (g3.same i (Nat.lt_of_lt_of_le hi o.size) (fun q => ?_)).trans (o.same i hi hn)
    rcases fr i q with r | r
    · exact hn r
    · omega
theorem both_one {l1 l2 : List Mg} (h : Pr P W b F l rb G l1) (g : PGoes P.At W X b F l2) : Both P W X b F l2 rb G l1 := by
  obtain ⟨⟨F', h1, h2⟩, h3⟩ := g
  refine ⟨⟨F', G, ⟨h1, h.two.loc fun i hi => h3.same i (h.two.lt hi) (fun q => h.dis i q hi), fun i hi hg => ?_⟩, fun i hi => ?_⟩, h3.mono fun i hi => Or.inl hi⟩
  · rcases h2 i hi with q | q
    · exact h.dis i q hg
    · have := h.two.lt hg; omega
  · rcases hi with hi | hi
    · exact (h2 i hi).imp Or.inl id
    · exact Or.inl (Or.inr hi)
theorem both_two {l1 l2 : List Mg} (h : Pr P W b F l rb G l1) (g : RGoes W X rb G l2) : Both P W X b F l rb G l2 := by
  obtain ⟨⟨G', h1, h2⟩, h3⟩ := g
  have hrb := h.two.self
  refine ⟨⟨F, G', ⟨P.loc h.one fun i hi => h3.same i (P.lt h.one hi) (fun q => by subst q; exact h.dis _ hi hrb), h1, fun i hi hg => ?_⟩, fun i hi => ?_⟩, h3.mono fun i hi => by subst hi; exact Or.inr hrb⟩
  · rcases h2 i hg with q | q
    · exact h.dis i hi q
    · have := P.lt h.one hi; omega
  · rcases hi with hi | hi
    · exact Or.inl (Or.inl hi)
    · exact (h2 i hi).imp Or.inr id
end
theorem ndrewN {w w' : World} (h : Keeps w w') (n : Nat) : Keeps w (w'.drewN n) := Below.trans h ⟨rfl, rfl, rfl, Nat.le_refl _, fun _ _ => rfl⟩
/-- Of two lists that are alike: they are the same. -/
theorem str_self (S : ByteArray) : (S.toList != S.toList) = false := by simp
set_option maxHeartbeats 4000000 in
set_option maxRecDepth 100000 in
theorem la_same (v v' : Value) (l : List Mg) (W : World) (h : MgsIn W v l) (h' : MgsIn W v' l) :
    Calls Try.prog 13 #[v, v'] W fun e w' => e = .returned (.bool true) ∧ Keeps W w' := by
  have H1 := Lib.hid h
  have H2 := Lib.hid h'
  obtain ⟨p, c, rfl, hm, _, _⟩ := h
  obtain ⟨p', c', rfl, _, _, _⟩ := h'
  obtain ⟨n, hn⟩ : ∃ n, l.length = n := ⟨_, rfl⟩
  have HN := Lib.hid hn
  rw [hn] at hm H1 H2 ⊢
  have hmx : n ≤ 9223372036854775807 := by unfold Go.maxLen at hm; omega
  clear hn hm
  go_enter Try.func13, Try.ntmps13
  go_wp2_with fail
  go_loopg [5] n (fun g v5 X => ∃ k : Nat, k + g = n ∧ v5 = .int .i64 (k : Int) ∧ Keeps W X)
  case atStart => exact ⟨0, by omega, rfl, Keeps.refl _⟩
  case round =>
    obtain ⟨k, hk, rfl, hw⟩ := hrel
    have HI := Lib.hid hk
    have HV := Lib.hid hw
    clear hk hw
    cases gk with
    | zero =>
      obtain rfl : k = n := by have := HI.out; omega
      have hz : ¬ ((k : Int) < (k : Int)) := by omega
      go_wp2
      go_ret
      exact ⟨rfl, HV.out⟩
    | succ g =>
      have hlt : k < n := by have := HI.out; omega
      obtain ⟨x, hx⟩ : ∃ x, l[k]? = some x := ⟨_, List.getElem?_eq_getElem (by rw [HN.out]; exact hlt)⟩
      obtain ⟨q1, d1, e1, _, _, hc1⟩ := H1.out.keeps HV.out
      obtain ⟨q2, d2, e2, _, _, hc2⟩ := H2.out.keeps HV.out
      rw [HN.out] at e1 e2
      simp only [Value.slice.injEq] at e1 e2
      obtain ⟨rfl, _, rfl⟩ := e1
      obtain ⟨rfl, _, rfl⟩ := e2
      obtain ⟨a1, rfl, r0, r1, r2, r3, r4, r5, r6⟩ := hc1 k x hx
      obtain ⟨a2, rfl, t0, t1, t2, t3, t4, t5, t6⟩ := hc2 k x hx
      have hk1 : (k : Int) < (n : Int) := by omega
      have hk0 : (0 : Int) ≤ (k : Int) := by omega
      have ss := str_self x.s
      have wi : Hid (wrap64 ((k : Int) + 1) = (k : Int) + 1) := Lib.hid (i64w (by unfold top; omega) (by unfold top; omega))
      clear hc1 hc2 hx hlt
      go_upto_region 6 with (fail)
      go_quiet (fail)
      have KQ : Hid (Keeps W (wr.drewN nq)) := Lib.hid (ndrewN HV.out nq)
      go_wp2_with fail
      go_roundg g
      case measure => omega
      case rel => exact ⟨k + 1, by have := HI.out; omega, by first | (rw [wi.out]; rfl) | rfl | go_num, KQ.out⟩
end Nt
end Go.Proofs.Ytajphjlfefhajaa
