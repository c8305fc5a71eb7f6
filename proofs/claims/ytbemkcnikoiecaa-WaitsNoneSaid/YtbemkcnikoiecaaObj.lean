
/- Objects that keep blocks of their own: what nothing but some blocks of is written; what becomes of an object; two of them apart. -/
import Derived.Test.YtbemkcnikoiecaaRowsLaid
set_option linter.unusedVariables false
namespace Go.Proofs.Ytbemkcnikoiecaa
open Go.ChangeShapes Go.WideShapes Go.ChangeAt Go.RowKit Csv
namespace Ob
/-- Nothing but blocks of F is written. -/
structure Only (F : Nat → Prop) (W W' : World) : Prop where
  os : W'.os = W.os
  tape : W'.tape = W.tape
  output : W'.output = W.output
  size : W.heap.size ≤ W'.heap.size
  same : ∀ i, i < W.heap.size → ¬ F i → W'.heap[i]? = W.heap[i]?
section
variable {F G : Nat → Prop} {X Y Z : World}
theorem Only.of_keeps (k : Keeps X Y) : Only F X Y := ⟨k.os, k.tape, k.output, k.size, fun i hi _ => k.block i hi⟩
theorem Only.refl (X : World) : Only F X X := Only.of_keeps (Keeps.refl _)
theorem Only.trans (h : Only F X Y) (g : Only F Y Z) : Only F X Z :=
  ⟨g.os.trans h.os, g.tape.trans h.tape, g.output.trans h.output, Nat.le_trans h.size g.size, fun i hi hn => (g.same i (Nat.lt_of_lt_of_le hi h.size) hn).trans (h.same i hi hn)⟩
theorem Only.mono (h : Only F X Y) (hs : ∀ i, F i → G i) : Only G X Y := ⟨h.os, h.tape, h.output, h.size, fun i hi hn => h.same i hi fun hf => hn (hs i hf)⟩
theorem Only.keeps {w : World} (h : Only F X Y) (k : Keeps w X) (hF : ∀ i, F i → w.heap.size ≤ i) : Keeps w Y :=
  ⟨h.os.trans k.os, h.tape.trans k.tape, h.output.trans k.output, Nat.le_trans k.size h.size, fun i hi => (h.same i (Nat.lt_of_lt_of_le hi k.size) (fun hf => by have := hF i hf; omega)).trans (k.block i hi)⟩
theorem Only.cell {X : World} {j o : Nat} (v : Value) : Only (fun i => i = j) X (X.setCell ⟨j, o, none⟩ v) :=
  ⟨rfl, rfl, rfl, by simp [World.setCell], fun i _ hn => Below.heap_setCell _ ⟨j, o, none⟩ _ _ (fun e => hn e)⟩
/-- New blocks, written besides. -/
theorem Only.new {W : World} {j : Nat} (h : Only F W X) (g : Only (fun i => i = j) X Y) (hj : W.heap.size ≤ j) : Only F W Y :=
  ⟨g.os.trans h.os, g.tape.trans h.tape, g.output.trans h.output, Nat.le_trans h.size g.size, fun i hi hn => (g.same i (Nat.lt_of_lt_of_le hi h.size) (by omega)).trans (h.same i hi hn)⟩
/-- Blocks of F, and such as are new since: then written. -/
theorem Only.after {W : World} (h : Only F W X) (g : Only G X Y) (hG : ∀ i, G i → F i ∨ W.heap.size ≤ i) : Only F W Y :=
  ⟨g.os.trans h.os, g.tape.trans h.tape, g.output.trans h.output, Nat.le_trans h.size g.size, fun i hi hn => (g.same i (Nat.lt_of_lt_of_le hi h.size) (fun q => (hG i q).elim hn (fun r => by omega))).trans (h.same i hi hn)⟩
end
section
variable {α : Type} {At : World → Nat → (Nat → Prop) → α → Prop} {W X Y Z : World} {b b' : Nat} {F G : Nat → Prop} {l l' l2 : α}
/-- What becomes of an object of blocks F: in its blocks and new ones; nothing else is written. -/
structure Goes (At : World → Nat → (Nat → Prop) → α → Prop) (W W' : World) (b : Nat) (F : Nat → Prop) (l : α) : Prop where
  ex : ∃ F', At W' b F' l ∧ ∀ i, F' i → F i ∨ W.heap.size ≤ i
  only : Only F W W'
/-- An object in new memory. -/
structure New (At : World → Nat → (Nat → Prop) → α → Prop) (W W' : World) (e : Ending) (l : α) : Prop where
  ex : ∃ b F, e = .returned (.pointer (some ⟨b, 0, none⟩)) ∧ At W' b F l ∧ ∀ i, F i → W.heap.size ≤ i
  keeps : Keeps W W'
/-- It lies in its blocks alone. -/
structure Lies (At : World → Nat → (Nat → Prop) → α → Prop) : Prop where
  loc : ∀ {W W' b F l}, At W b F l → (∀ i, F i → W'.heap[i]? = W.heap[i]?) → At W' b F l
  lt : ∀ {W b F l}, At W b F l → ∀ {i}, F i → i < W.heap.size
theorem Lies.keeps (L : Lies At) (h : At W b F l) (k : Keeps W X) : At X b F l := L.loc h fun i hi => k.block i (L.lt h hi)
theorem Goes.same (h : At Y b F l) (o : Only F X Y) : Goes At X Y b F l := ⟨⟨F, h, fun i hi => Or.inl hi⟩, o⟩
theorem Goes.since (h : Goes At X Y b F l) (k : Keeps W X) : Goes At W Y b F l := by
  obtain ⟨⟨F', h1, h2⟩, h3⟩ := h
  exact ⟨⟨F', h1, fun i hi => (h2 i hi).imp id (Nat.le_trans k.size)⟩, (Only.of_keeps k).trans h3⟩
theorem Goes.then (L : Lies At) (h : Goes At X Y b F l) (k : Keeps Y Z) : Goes At X Z b F l := by
  obtain ⟨⟨F', h1, h2⟩, h3⟩ := h
  exact ⟨⟨F', L.keeps h1 k, h2⟩, h3.trans (Only.of_keeps k)⟩
theorem Goes.trans (h : Goes At X Y b F l) (hn : ∀ F', At Y b F' l → Goes At Y Z b F' l2) : Goes At X Z b F l2 := by
  obtain ⟨⟨F', h1, h2⟩, h3⟩ := h
  obtain ⟨⟨F2, g1, g2⟩, g3⟩ := hn F' h1
  refine ⟨⟨F2, g1, fun i hi => ?_⟩, h3.after g3 h2⟩
  rcases g2 i hi with q | q
  · exact h2 i q
  · exact Or.inr (Nat.le_trans h3.size q)
/-- Blocks of E are as they were. -/
def Still (E : Nat → Prop) (X Y : World) : Prop := ∀ i, E i → Y.heap[i]? = X.heap[i]?
theorem Still.trans {E : Nat → Prop} {X Y Z : World} (h : Still E X Y) (g : Still E Y Z) : Still E X Z := fun i hi => (g i hi).trans (h i hi)
/-- No block. -/
def E0 : Nat → Prop := fun _ => False
/-- An object of one's own, since W; blocks of E are none of its. -/
structure Mine (At : World → Nat → (Nat → Prop) → α → Prop) (W : World) (E : Nat → Prop) (X : World) (b : Nat) (l : α) : Prop where
  ex : ∃ F, At X b F l ∧ ∀ i, F i → W.heap.size ≤ i ∧ ¬ E i
  k : Keeps W X
  e : ∀ i, E i → i < X.heap.size
variable {E : Nat → Prop}
theorem Mine.keeps (L : Lies At) (h : Mine At W E X b l) (k : Keeps X Y) : Mine At W E Y b l := by
  obtain ⟨⟨F, h1, h2⟩, h3, h4⟩ := h
  exact ⟨⟨F, L.keeps h1 k, h2⟩, h3.trans k, fun i hi => Nat.lt_of_lt_of_le (h4 i hi) k.size⟩
theorem Mine.still (h : Mine At W E X b l) (k : Keeps X Y) : Still E X Y := fun i hi => k.block i (h.e i hi)
/-- A new block is set aside. -/
theorem Mine.aside (L : Lies At) (h : Mine At W E X b l) (o : Obj) : Mine At W (fun i => E i ∨ i = X.heap.size) (X.alloc o) b l := by
  obtain ⟨⟨F, h1, h2⟩, h3, h4⟩ := h
  have k : Keeps X (X.alloc o) := (Below.refl _ X).alloc (Nat.le_refl _) _
  refine ⟨⟨F, L.keeps h1 k, fun i hi => ⟨(h2 i hi).1, ?_⟩⟩, h3.trans k, fun i hi => ?_⟩
  · rintro (q | rfl)
    · exact (h2 i hi).2 q
    · have := L.lt h1 hi; omega
  · rcases hi with q | rfl
    · have := h4 i q; simp; omega
    · simp
theorem Mine.sub {E' : Nat → Prop} (h : Mine At W E X b l) (hs : ∀ i, E' i → E i) : Mine At W E' X b l :=
  ⟨h.ex.imp fun F ⟨h1, h2⟩ => ⟨h1, fun i hi => ⟨(h2 i hi).1, fun q => (h2 i hi).2 (hs i q)⟩⟩, h.k, fun i hi => h.e i (hs i hi)⟩
/-- Blocks of E written by others. -/
theorem Mine.only (L : Lies At) (h : Mine At W E X b l) (g : Only E X Y) (hE : ∀ i, E i → W.heap.size ≤ i) : Mine At W E Y b l := by
  obtain ⟨⟨F, h1, h2⟩, h3, h4⟩ := h
  exact ⟨⟨F, L.loc h1 fun i hi => g.same i (L.lt h1 hi) (h2 i hi).2, h2⟩, g.keeps h3 hE, fun i hi => Nat.lt_of_lt_of_le (h4 i hi) g.size⟩
theorem Mine.goes (h : ∀ i, F i → W.heap.size ≤ i ∧ ¬ E i) (k : Keeps W X) (he : ∀ i, E i → i < X.heap.size) (g : Goes At X Y b F l') : Mine At W E Y b l' ∧ Still E X Y := by
  obtain ⟨⟨F', g1, g2⟩, g3⟩ := g
  refine ⟨⟨⟨F', g1, fun i hi => ?_⟩, g3.keeps k (fun i hi => (h i hi).1), fun i hi => Nat.lt_of_lt_of_le (he i hi) g3.size⟩, fun i hi => g3.same i (he i hi) (fun q => (h i q).2 hi)⟩
  rcases g2 i hi with q | q
  · exact h i q
  · exact ⟨Nat.le_trans k.size q, fun r => by have := he i r; omega⟩
theorem mine_new {e : Ending} (k : Keeps W X) (he : ∀ i, E i → i < X.heap.size) (h : New At X Y e l) : ∃ b, e = .returned (.pointer (some ⟨b, 0, none⟩)) ∧ Mine At W E Y b l := by
  obtain ⟨⟨b, F, h1, h2, h3⟩, h4⟩ := h
  exact ⟨b, h1, ⟨F, h2, fun i hi => ⟨Nat.le_trans k.size (h3 i hi), fun q => by have := he i q; have := h3 i hi; omega⟩⟩, k.trans h4, fun i hi => Nat.lt_of_lt_of_le (he i hi) h4.size⟩
theorem e0 (X : World) : ∀ i, E0 i → i < X.heap.size := fun _ h => h.elim
/-- Two of them, apart, both since W. -/
structure Two (At : World → Nat → (Nat → Prop) → α → Prop) (W X : World) (b : Nat) (F : Nat → Prop) (l : α) (b' : Nat) (G : Nat → Prop) (l' : α) : Prop where
  one : At X b F l
  two : At X b' G l'
  dis : ∀ i, F i → ¬ G i
  new : ∀ i, F i ∨ G i → W.heap.size ≤ i
  k : Keeps W X
theorem Two.keeps (L : Lies At) (h : Two At W X b F l b' G l') (k : Keeps X Y) : Two At W Y b F l b' G l' := ⟨L.keeps h.one k, L.keeps h.two k, h.dis, h.new, h.k.trans k⟩
theorem Two.first (L : Lies At) (h : Two At W X b F l b' G l') (g : Goes At X Y b F l2) : ∃ F2, Two At W Y b F2 l2 b' G l' := by
  obtain ⟨⟨F2, g1, g2⟩, g3⟩ := g
  refine ⟨F2, ⟨g1, L.loc h.two fun i hi => g3.same i (L.lt h.two hi) (fun q => h.dis i q hi), fun i hi hg => ?_, fun i hi => ?_, g3.keeps h.k (fun i hi => h.new i (Or.inl hi))⟩⟩
  · rcases g2 i hi with q | q
    · exact h.dis i q hg
    · have := L.lt h.two hg; omega
  · rcases hi with hi | hi
    · exact (g2 i hi).elim (fun q => h.new i (Or.inl q)) (Nat.le_trans h.k.size)
    · exact h.new i (Or.inr hi)
theorem Two.second (L : Lies At) (h : Two At W X b F l b' G l') (g : Goes At X Y b' G l2) : ∃ G2, Two At W Y b F l b' G2 l2 := by
  obtain ⟨⟨G2, g1, g2⟩, g3⟩ := g
  refine ⟨G2, ⟨L.loc h.one fun i hi => g3.same i (L.lt h.one hi) (fun q => h.dis i hi q), g1, fun i hi hg => ?_, fun i hi => ?_, g3.keeps h.k (fun i hi => h.new i (Or.inr hi))⟩⟩
  · rcases g2 i hg with q | q
    · exact h.dis i hi q
    · have := L.lt h.one hi; omega
  · rcases hi with hi | hi
    · exact h.new i (Or.inl hi)
    · exact (g2 i hi).elim (fun q => h.new i (Or.inr q)) (Nat.le_trans h.k.size)
theorem two_new {e : Ending} (L : Lies At) (h : Mine At W E X b l) (g : New At X Y e l') : ∃ b' F G, e = .returned (.pointer (some ⟨b', 0, none⟩)) ∧ Two At W Y b F l b' G l' := by
  obtain ⟨⟨F, h1, h2⟩, h3, _⟩ := h
  obtain ⟨⟨b', G, g1, g2, g3⟩, g4⟩ := g
  exact ⟨b', F, G, g1, L.keeps h1 g4, g2, fun i hi hg => (by have := L.lt h1 hi; have := g3 i hg; omega), fun i hi => hi.elim (fun q => (h2 i q).1) fun q => Nat.le_trans h3.size (g3 i q), h3.trans g4⟩
end
end Ob
end Go.Proofs.Ytbemkcnikoiecaa
