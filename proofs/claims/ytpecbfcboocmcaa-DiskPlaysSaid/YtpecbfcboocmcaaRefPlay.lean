
/- What an act holds of its own beside both disks; the plain part of DiskPlays. -/
import Derived.Test.YtpecbfcboocmcaaRefDo3
import Derived.Test.YtpecbfcboocmcaaRefNil
set_option linter.unusedVariables false
namespace Go.Proofs.Ytpecbfcboocmcaa
open Go.ChangeShapes Go.WideShapes Go.ChangeAt Go.RowKit Go.Maps Csv Dk

/-- An act's box and its own list, apart from both disks. -/
structure Spare (w : World) (G GR : List Nat) (B X : Nat) (cs : Array Value) (kv : Value) (xs : List Int) : Prop where
  box : w.heap[X]? = some (.cells cs tAct (0, 0))
  row : w.ownsRow B tI 1 kv xs.length (ivs xs)
  offX : X ∉ G ++ GR
  offR : ∀ b, kv.ownBlock = some b → b ∉ G ++ GR
section
variable {w w' : World} {G GR : List Nat} {B X d r : Nat} {cs : Array Value} {kv : Value} {xs : List Int} {D R : DiskM}
theorem Spare.ltR (h : Spare w G GR B X cs kv xs) : ∀ b, kv.ownBlock = some b → b < w.heap.size := fun b hb => (h.row.lt b hb).2
theorem Spare.goes (h : Spare w G GR B X cs kv xs) (p : PGoes w w' G GR d r D R) : ∃ G' GR', Pair w' d r D R G' GR' ∧ Spare w' G' GR' B X cs kv xs ∧ Frame (G ++ GR) w w' ∧ ∀ b ∈ G' ++ GR', b ∈ G ++ GR ∨ w.heap.size ≤ b := by
  obtain ⟨G', GR', p1, p2, p3⟩ := p
  have hX := block_lt h.box
  refine ⟨G', GR', p1, ⟨(p2.block X hX h.offX).trans h.box, own_local h.row fun b hb => p2.block b (h.ltR b hb) (h.offR b hb), fun hx => ?_, fun b hb hx => ?_⟩, p2, p3⟩
  · rcases p3 X hx with h1 | h1
    · exact h.offX h1
    · omega
  · have := h.ltR b hb
    rcases p3 b hx with h1 | h1
    · exact h.offR b hb h1
    · omega
theorem Spare.keeps (h : Spare w G GR B X cs kv xs) (k : Keeps w w') : Spare w' G GR B X cs kv xs :=
  ⟨(k.block X (block_lt h.box)).trans h.box, own_local h.row fun b hb => k.block b (h.ltR b hb), h.offX, h.offR⟩
theorem Spare.stable (h : Spare w G GR B X cs kv xs) : Stable (G ++ GR) w kv xs := fun w' hf => own_ints (own_zero (own_local h.row fun b hb => hf.block b (h.ltR b hb) (h.offR b hb)))
end

/-- Both disks, played so far: k more acts do not tell them apart. -/
def PlaysAt (w0 w : World) (d r k : Nat) : Prop := ∃ D R G GR, Pair w d r D R G GR ∧ Sim k D R ∧ I64 D.starts ∧ (∀ b ∈ G ++ GR, w0.heap.size ≤ b) ∧ Keeps w0 w
theorem PlaysAt.keeps {w0 w w' : World} {d r k : Nat} (h : PlaysAt w0 w d r k) (hk : Keeps w w') : PlaysAt w0 w' d r k := by
  obtain ⟨D, R, G, GR, h1, h2, h3, h4, h5⟩ := h
  exact ⟨D, R, G, GR, h1.keeps hk, h2, h3, h4, h5.trans hk⟩
theorem PlaysAt.less {w0 w : World} {d r k k' : Nat} (h : PlaysAt w0 w d r k) (hk : k' ≤ k) : PlaysAt w0 w d r k' := by
  obtain ⟨D, R, G, GR, h1, h2, h3, h4, h5⟩ := h
  exact ⟨D, R, G, GR, h1, h2.less hk, h3, h4, h5⟩
theorem goes_keeps {w0 w w' : World} {d r : Nat} {D R : DiskM} {G GR : List Nat} (hb : ∀ b ∈ G ++ GR, w0.heap.size ≤ b) (k0 : Keeps w0 w) (hf : Frame (G ++ GR) w w') : Keeps w0 w' := ⟨hf.os.trans k0.os, hf.tape.trans k0.tape, hf.output.trans k0.output, Nat.le_trans k0.size hf.size, fun i hi => (hf.block i (Nat.lt_of_lt_of_le hi k0.size) fun hx => by have := hb i hx; omega).trans (k0.block i hi)⟩
theorem plays_new {w0 w1 w2 w3 : World} {d r n : Nat} {G GR : List Nat} (k0 : Keeps w0 w1) (h1 : IsDisk w2 d (newD n) G) (k1 : Keeps w1 w2) (b1 : ∀ b ∈ G, w1.heap.size ≤ b) (h2 : IsRef w3 r (newD n) GR) (k2 : Keeps w2 w3) (b2 : ∀ b ∈ GR, w2.heap.size ≤ b) (k : Nat) : PlaysAt w0 w3 d r k := by
  refine ⟨newD n, newD n, G, GR, ⟨h1.keeps k2, h2, fun b hb hr => ?_⟩, Sim.refl _ _ rfl, ?_, fun b hb => ?_, (k0.trans k1).trans k2⟩
  · have := h1.lt b hb
    have := b2 b hr
    omega
  · show I64 0
    unfold I64 top; omega
  · rcases List.mem_append.1 hb with hb | hb
    · exact Nat.le_trans k0.size (b1 b hb)
    · exact Nat.le_trans (Nat.le_trans k0.size k1.size) (b2 b hb)
/-- A number stored into the act's own list. -/
theorem Spare.stored {w : World} {G GR : List Nat} {B X g c j : Nat} {cs : Array Value} {xs : List Int} (h : Spare w G GR B X cs (.slice (some ⟨g, 0, none⟩) xs.length c) xs) (hj : j < xs.length) (n : Int) : Spare (w.setCell ⟨g, j, none⟩ (.int .i64 n)) G GR B X cs (.slice (some ⟨g, 0, none⟩) xs.length c) (xs.set j n) := by
  have hgX : X ≠ g := by
    rintro rfl
    obtain ⟨cc, hcc⟩ := own_tag h.row (g := X) rfl
    exact tag_ne hcc h.box (by decide) rfl
  refine ⟨(Below.heap_setCell _ _ _ _ hgX).trans h.box, ?_, h.offX, h.offR⟩
  rcases h.row.2 with ⟨e, _⟩ | ⟨g', cap, cur, e, hb, hg, r1, r2, r3, r4⟩
  · cases e
  · cases e
    have b1 := Joins.block_setCell (i := j) hg (.int .i64 n)
    refine ⟨by rw [ivs_len, List.length_set, Nat.mul_one], Or.inr ⟨g, c, _, by rw [List.length_set], hb, b1, by rw [List.length_set]; exact r1, r2, by simpa using r3, ?_⟩⟩
    have e : ivs (xs.set j n) = (ivs xs).set j (.int .i64 n) := by unfold ivs; rw [List.map_set]
    rw [e, ← r4, List.length_set]
    simp only [Array.toList_setIfInBounds, List.take_set]
theorem stored_pair {w : World} {G GR : List Nat} {d r g j : Nat} {D R : DiskM} {u : Value} (h : Pair w d r D R G GR) (hg : g ∉ G ++ GR) : Pair (w.setCell ⟨g, j, none⟩ u) d r D R G GR := by
  have o : ∀ b, b ∈ G ++ GR → (w.setCell ⟨g, j, none⟩ u).heap[b]? = w.heap[b]? := fun b hb => Below.heap_setCell _ _ _ _ fun e => hg (by have e' : b = g := e; rw [← e']; exact hb)
  exact ⟨h.disk.local fun b hb => o b (by simp [hb]), h.ref.local fun b hb => o b (by simp [hb]), h.apart⟩
end Go.Proofs.Ytpecbfcboocmcaa
