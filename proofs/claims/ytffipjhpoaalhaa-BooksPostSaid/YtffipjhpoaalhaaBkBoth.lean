/- The program's books and the document's, side by side. -/
import Derived.Test.YtffipjhpoaalhaaBkPosted
set_option linter.unusedVariables false
namespace Go.Proofs.Ytffipjhpoaalhaa
open Go.ChangeShapes Go.WideShapes Go.ChangeAt Go.RowKit Csv Bk Mon

/-- The program's books at b hold M, the document's at r hold M2; nothing that was there at w has changed. -/
structure LS (w : World) (b r : Nat) (M M2 : List PI) (F : Nat → Prop) (W : World) : Prop where
  pb : PBk W F b M
  rb : RBk W r M2
  off : ∀ i, F i → w.heap.size ≤ i ∧ i ≠ r
  sep : ∀ v, W.heap[r]? = some (.cells #[v] tRb (0, 0)) → ∀ g, v.ownBlock = some g → ¬ F g
  low : w.heap.size ≤ r
  keep : Keeps w W
theorem LS.rlt {w W : World} {b r : Nat} {M M2 : List PI} {F : Nat → Prop} (h : LS w b r M M2 F W) : r < W.heap.size := by
  obtain ⟨v, hv, _⟩ := h.rb
  exact (Array.getElem?_eq_some_iff.1 hv).1
theorem LS.doP {w W : World} {b r : Nat} {M M2 : List PI} {F : Nat → Prop} (h : LS w b r M M2 F W) (p : PI) (hg : GoodL M) (hp : p.Good) (hok : OkL (pms M)) (hl : M.length ≤ 900) :
    Calls Try.prog 11 #[.pointer (some ⟨b, 0, none⟩), p.val] W fun e w' => e = .returned (.int .i64 (postI M p).1) ∧ ∃ F', LS w b r (postI M p).2 M2 F' w' := by
  refine (ppost_any F b M p W h.pb hg hp hok hl).mono ?_
  rintro e w' ⟨rfl, F', hb, o⟩
  obtain ⟨v, hv, hown⟩ := h.rb
  have hr : w'.heap[r]? = W.heap[r]? := o.block r h.rlt (fun hF => (h.off r hF).2 rfl)
  refine ⟨rfl, F', hb, ⟨v, hr.trans hv, postK.own_local hown fun g hg => o.block g (postK.own_lt hown g hg).2 (h.sep v hv g hg)⟩, ?_, ?_, h.low, ?_⟩
  · intro i hi
    rcases o.own i hi with hi | hi
    · exact h.off i hi
    · have := h.keep.size; have := h.rlt; omega
  · intro v' hv' g hg hF
    rw [hr, hv] at hv'
    cases hv'
    rcases o.own g hF with hi | hi
    · exact h.sep v hv g hg hi
    · have := (postK.own_lt hown g hg).2; omega
  · exact ⟨o.os.trans h.keep.os, o.tape.trans h.keep.tape, o.output.trans h.keep.output, Nat.le_trans h.keep.size o.size, fun i hi => (o.block i (Nat.lt_of_lt_of_le hi h.keep.size) (fun hn => by have := (h.off i hn).1; omega)).trans (h.keep.block i hi)⟩
theorem LS.doR {w W : World} {b r : Nat} {M M2 : List PI} {F : Nat → Prop} (h : LS w b r M M2 F W) (p : PI) (hg : GoodL M2) (hp : p.Good) (hok : OkL (pms M2)) (hl : M2.length ≤ 900) :
    Calls Try.prog 12 #[.pointer (some ⟨r, 0, none⟩), p.val] W fun e w' => e = .returned (.int .i64 (postI M2 p).1) ∧ LS w b r M (postI M2 p).2 F w' := by
  refine (rbpost_any r M2 p W h.rb hg hp hok hl).mono ?_
  rintro e w' ⟨rfl, hb, h1, h2, h3, h4, h5, h6⟩
  refine ⟨rfl, h.pb.near fun i hi => h5 i (h.pb.lt i hi) (h.off i hi).2, hb, h.off, ?_, h.low, ?_⟩
  · intro v hv g hg hF
    rcases h6 with h6 | ⟨v', hv', h6⟩
    · rw [h6] at hv
      exact h.sep v hv g hg hF
    · rw [hv'] at hv
      cases hv
      have := h6 g hg
      have := h.pb.lt g hF
      omega
  · exact ⟨h1.trans h.keep.os, h2.trans h.keep.tape, h3.trans h.keep.output, Nat.le_trans h.keep.size h4, fun i hi => (h5 i (Nat.lt_of_lt_of_le hi h.keep.size) (by have := h.low; omega)).trans (h.keep.block i hi)⟩
theorem LS.keeps {w W W' : World} {b r : Nat} {M M2 : List PI} {F : Nat → Prop} (h : LS w b r M M2 F W) (k : Keeps W W') : LS w b r M M2 F W' :=
  ⟨h.pb.keeps k, h.rb.keeps k, h.off, fun v hv g hg => h.sep v (by rw [← k.block r h.rlt]; exact hv) g hg, h.low, h.keep.trans k⟩
/-- Blocks that neither holds may change. -/
theorem LS.below {w W W' : World} {b r : Nat} {M M2 : List PI} {F : Nat → Prop} (h : LS w b r M M2 F W) (k : Below W.heap.size W W') : LS w b r M M2 F W' := h.keeps k
theorem LS.doBp {w W : World} {b r : Nat} {M M2 : List PI} {F : Nat → Prop} (h : LS w b r M M2 F W) (hok : OkL (pms M)) (a o : Int) (ha : I64 a) (ho : I64 o) :
    Calls Try.prog 13 #[.pointer (some ⟨b, 0, none⟩), .int .i64 a, .int .i64 o] W fun e w' => e = .returned (.int .i64 (balM (pms M) a o)) ∧ Keeps W w' := pbalance_any F b M a o W h.pb hok ha ho
theorem LS.doBr {w W : World} {b r : Nat} {M M2 : List PI} {F : Nat → Prop} (h : LS w b r M M2 F W) (hg : GoodL M2) (hok : OkL (pms M2)) (hl : M2.length ≤ 1000) (a o : Int) :
    Calls Try.prog 14 #[.pointer (some ⟨r, 0, none⟩), .int .i64 a, .int .i64 o] W fun e w' => e = .returned (.int .i64 (balM (pms M2) a o)) ∧ Keeps W w' := rbalance_any r M2 a o W h.rb hg hok hl
/-- The document's postings, as Same reads them. -/
theorem LS.rlist {w W : World} {b r : Nat} {M M2 : List PI} {F : Nat → Prop} (h : LS w b r M M2 F W) (hg : GoodL M2) (hl : M2.length ≤ 1000) : ∃ p c, W.cell? ⟨r, 0, none⟩ = some (.slice p M2.length c) ∧ PostsAt W (.slice p M2.length c) M2 := by
  obtain ⟨v, hv, hown⟩ := h.rb
  obtain ⟨p, c, rfl⟩ := postK.own_shape hown
  have := Joins.cell_of_block hv 0
  exact ⟨p, c, by simpa using this, own_posts hown hg (by omega)⟩
end Go.Proofs.Ytffipjhpoaalhaa
