
/- An act with both disks. -/
import Derived.Test.YtlaepdpgegoopaaGreatRefMake
import Derived.Test.YtlaepdpgegoopaaGreatOpenActs
import Derived.Deep.RegionHeld3
set_option linter.unusedVariables false
namespace Go.Proofs.YtlaepdpgegoopaaGreat
open Go.ChangeShapes Go.WideShapes Go.ChangeAt Go.RowKit Go.Maps Csv Dk

theorem Pair.keeps {w w' : World} {d r : Nat} {D R : DiskM} {G GR : List Nat} (h : Pair w d r D R G GR) (k : Keeps w w') : Pair w' d r D R G GR := ⟨h.disk.keeps k, h.ref.keeps k, h.apart⟩
theorem pair_d {w w' : World} {d r : Nat} {D R D' : DiskM} {G GR : List Nat} (h : Pair w d r D R G GR) (g : Goes w w' G d D') : PGoes w w' G GR d r D' R := by
  obtain ⟨G', g1, g2, g3⟩ := g
  refine ⟨G', GR, ⟨g1, h.ref.local fun b hb => g2.block b (h.ref.lt b hb) fun hx => h.apart b hx hb, fun b hb hr => ?_⟩, g2.mono (fun x hx => by simp [hx]), fun b hb => ?_⟩
  · rcases g3 b hb with h1 | h1
    · exact h.apart b h1 hr
    · have := h.ref.lt b hr; omega
  · rcases List.mem_append.1 hb with hb | hb
    · rcases g3 b hb with h1 | h1
      · exact Or.inl (by simp [h1])
      · exact Or.inr h1
    · exact Or.inl (by simp [hb])
theorem pair_r {w w' : World} {d r : Nat} {D R R' : DiskM} {G GR : List Nat} (h : Pair w d r D R G GR) (g : RGoes w w' GR r R') : PGoes w w' G GR d r D R' := by
  obtain ⟨G', g1, g2, g3⟩ := g.out h.ref
  refine ⟨G, G', ⟨h.disk.local fun b hb => g2.block b (h.disk.lt b hb) fun hx => h.apart b hb hx, g1, fun b hb hr => ?_⟩, g2.mono (fun x hx => by simp [hx]), fun b hb => ?_⟩
  · rcases g3 b hr with h1 | h1
    · exact h.apart b hb h1
    · have := h.disk.lt b hb; omega
  · rcases List.mem_append.1 hb with hb | hb
    · exact Or.inl (by simp [hb])
    · rcases g3 b hb with h1 | h1
      · exact Or.inl (by simp [h1])
      · exact Or.inr h1
theorem PGoes.trans {a b c : World} {d r : Nat} {D R D' R' : DiskM} {G GR : List Nat} (h : PGoes a b G GR d r D R) (g : ∀ G' GR', Pair b d r D R G' GR' → PGoes b c G' GR' d r D' R') : PGoes a c G GR d r D' R' := by
  obtain ⟨G1, GR1, h1, h2, h3⟩ := h
  obtain ⟨G2, GR2, g1, g2, g3⟩ := g G1 GR1 h1
  refine ⟨G2, GR2, g1, h2.trans g2 h3, fun b hb => ?_⟩
  rcases g3 b hb with hb | hb
  · exact h3 b hb
  · exact Or.inr (Nat.le_trans h2.size hb)
theorem PGoes.step {a b c : World} {d r : Nat} {D' R' : DiskM} {G GR G1 GR1 : List Nat} (h2 : Frame (G ++ GR) a b) (h3 : ∀ x ∈ G1 ++ GR1, x ∈ G ++ GR ∨ a.heap.size ≤ x) (g : PGoes b c G1 GR1 d r D' R') : PGoes a c G GR d r D' R' := by
  obtain ⟨G2, GR2, g1, g2, g3⟩ := g
  refine ⟨G2, GR2, g1, h2.trans g2 h3, fun b hb => ?_⟩
  rcases g3 b hb with hb | hb
  · exact h3 b hb
  · exact Or.inr (Nat.le_trans h2.size hb)
theorem PGoes.from {w w1 w' : World} {d r : Nat} {D R : DiskM} {G GR : List Nat} (k : Keeps w w1) (h : PGoes w1 w' G GR d r D R) : PGoes w w' G GR d r D R := by
  obtain ⟨G1, GR1, h1, h2, h3⟩ := h
  refine ⟨G1, GR1, h1, (Frame.of_keeps k (G ++ GR)).trans h2 fun x hx => Or.inl hx, fun b hb => ?_⟩
  rcases h3 b hb with hb | hb
  · exact Or.inl hb
  · exact Or.inr (Nat.le_trans k.size hb)
theorem PGoes.same {w w' : World} {d r : Nat} {D R : DiskM} {G GR : List Nat} (h : Pair w d r D R G GR) (k : Keeps w w') : PGoes w w' G GR d r D R := ⟨G, GR, h.keeps k, Frame.of_keeps k _, fun b hb => Or.inl hb⟩
end Go.Proofs.YtlaepdpgegoopaaGreat
