/- An act under way: both disks, and what the act holds of its own. -/
import Derived.Test.YtpecbfcboocmcaaRefPlay
import Derived.Test.YtpecbfcboocmcaaRefSame3
set_option linter.unusedVariables false
namespace Go.Proofs.Ytpecbfcboocmcaa
open Go.ChangeShapes Go.WideShapes Go.ChangeAt Go.RowKit Go.Maps Csv Dk

theorem own_cap {w : World} {B : Nat} {e : TypeId} {v : Value} {n : Nat} {xs : List Value} (h : w.ownsRow B e 1 v n xs) : ∀ p m c, v = .slice p m c → m ≤ c := by
  intro p m c e
  rcases h.2 with ⟨rfl, _⟩ | ⟨g, cap, cur, rfl, _, _, r1, _⟩
  · cases e; exact Nat.le_refl _
  · cases e; exact r1
theorem own_nil {w : World} {B : Nat} {e : TypeId} {v : Value} {n : Nat} {xs : List Value} (h : w.ownsRow B e 1 v n xs) : ∀ m c, v = .slice none m c → c = 0 := by
  intro m c e
  rcases h.2 with ⟨rfl, _⟩ | ⟨g, cap, cur, rfl, _⟩
  · cases e; rfl
  · cases e
def Mid (w0 w : World) (d r k B X : Nat) (cs : Array Value) (kv : Value) (xs : List Int) : Prop :=
  ∃ D R G GR, Pair w d r D R G GR ∧ Sim k D R ∧ I64 D.starts ∧ (∀ b ∈ G ++ GR, w0.heap.size ≤ b) ∧ Keeps w0 w ∧ Spare w G GR B X cs kv xs ∧ w0.heap.size ≤ X ∧ (∀ b, kv.ownBlock = some b → w0.heap.size ≤ b)
section
variable {w0 w w' : World} {d r k B X : Nat} {cs : Array Value} {kv : Value} {xs : List Int}
theorem Mid.keeps (h : Mid w0 w d r k B X cs kv xs) (k1 : Keeps w w') : Mid w0 w' d r k B X cs kv xs := by
  obtain ⟨D, R, G, GR, h1, h2, h3, h4, h5, h6, h7, h8⟩ := h
  exact ⟨D, R, G, GR, h1.keeps k1, h2, h3, h4, h5.trans k1, h6.keeps k1, h7, h8⟩
theorem Mid.plays (h : Mid w0 w d r k B X cs kv xs) : PlaysAt w0 w d r k := by
  obtain ⟨D, R, G, GR, h1, h2, h3, h4, h5, h6, h7, h8⟩ := h
  exact ⟨D, R, G, GR, h1, h2, h3, h4, h5⟩
theorem Mid.kept (h : Mid w0 w d r k B X cs kv xs) : Keeps w0 w := by
  obtain ⟨D, R, G, GR, h1, h2, h3, h4, h5, h6, h7, h8⟩ := h
  exact h5
theorem Mid.cell (h : Mid w0 w d r k B X cs kv xs) (i : Nat) : w.cell? ⟨X, i, none⟩ = cs[i]? := by
  obtain ⟨D, R, G, GR, h1, h2, h3, h4, h5, h6, h7, h8⟩ := h
  exact Joins.cell_of_block h6.box i
theorem Mid.ints (h : Mid w0 w d r k B X cs kv xs) : IntsAt w kv xs := by
  obtain ⟨D, R, G, GR, h1, h2, h3, h4, h5, h6, h7, h8⟩ := h
  exact own_ints h6.row
theorem Mid.less {k' : Nat} (h : Mid w0 w d r k B X cs kv xs) (hk : k' ≤ k) : Mid w0 w d r k' B X cs kv xs := by
  obtain ⟨D, R, G, GR, h1, h2, h3, h4, h5, h6, h7, h8⟩ := h
  exact ⟨D, R, G, GR, h1, h2.less hk, h3, h4, h5, h6, h7, h8⟩
theorem Mid.at_row {p : Option Addr} {m c : Nat} (h : Mid w0 w d r k B X cs (.slice p m c) xs) : xs.length = m ∧ ((p = none ∧ m = 0) ∨ ∃ g, p = some ⟨g, 0, none⟩ ∧ g ≠ X ∧ ∀ j, j < m → (∃ u, w.cell? ⟨g, j, none⟩ = some u) ∧ w.frozen? ⟨g, j, none⟩ = false) := by
  obtain ⟨D, R, G, GR, h1, h2, h3, h4, h5, h6, h7, h8⟩ := h
  rcases h6.row.2 with ⟨e, h0⟩ | ⟨g, cap, cur, e, hb, hg, r1, r2, r3, r4⟩
  · cases e; exact ⟨h0, Or.inl ⟨rfl, rfl⟩⟩
  · cases e
    refine ⟨rfl, Or.inr ⟨g, rfl, ?_, fun j hj => ⟨⟨cur[j]'(by omega), ?_⟩, Joins.unfrozen_of_block hg j⟩⟩⟩
    · rintro rfl
      exact tag_ne hg h6.box (by decide) rfl
    · rw [Joins.cell_of_block hg j]
      exact Array.getElem?_eq_getElem _
end
theorem mid_do (kind : Nat) (n at_ size : Int) (s : ByteArray) (kv : Value) (xs : List Int) (w0 w : World) (d r k B X : Nat) (cs : Array Value) (h : Mid w0 w d r (k + 1) B X cs kv xs) (hk : k < 1000) (hn : I64 n) (ha : I64 at_) (hz : I64 size) (hsz : s.size ≤ maxLen) (hl : xs.length ≤ 100) :
    Calls Try.prog 8 #[.agg #[.int .u8 (kind : Int), .int .i64 n, .int .i64 at_, .int .i64 size, .string s, kv], ptrV d, ptrV r] w fun e w' => e = .returned (.bool true) ∧ Mid w0 w' d r k B X cs kv xs := by
  obtain ⟨D, R, G, GR, h1, h2, h3, h4, h5, h6, h7, h8⟩ := h
  refine (do_any kind n at_ size s kv xs d r D R G GR w k h1 h2 hk h3 hn ha hz hsz h6.stable (own_cap h6.row) (own_nil h6.row) hl).mono ?_
  rintro e w' ⟨rfl, D', R', s1, s2, g⟩
  obtain ⟨G', GR', p1, p2, p3, p4⟩ := h6.goes g
  exact ⟨rfl, D', R', G', GR', p1, s1, s2, fun b hb => (p4 b hb).elim (h4 b) (fun h => Nat.le_trans h5.size h), goes_keeps (d := d) (r := r) (D := D) (R := R) h4 h5 p3, p2, h7, h8⟩
theorem mid_same (kv : Value) (xs : List Int) (w0 w : World) (d r k B X : Nat) (cs : Array Value) (h : Mid w0 w d r k B X cs kv xs) :
    Calls Try.prog 9 #[ptrV d, ptrV r] w fun e w' => e = .returned (.bool true) ∧ Mid w0 w' d r k B X cs kv xs := by
  have h' := h
  obtain ⟨D, R, G, GR, h1, h2, h3, h4, h5, h6, h7, h8⟩ := h
  refine (same_any d r D R G GR w h1 (h2.less (Nat.zero_le _))).mono ?_
  rintro e w' ⟨rfl, k1⟩
  exact ⟨rfl, h'.keeps k1⟩
theorem mid_new {w0 wr W1 : World} {d r k : Nat} (h : PlaysAt w0 wr d r k) (c0 c1 c2 c3 c4 c5 : Value) (xs : List Int) (p' : Option Addr) (m c' : Nat) (hm : xs.length = m) (hk : Keeps (wr.alloc (.cells #[c0, c1, c2, c3, c4, c5] tAct)) W1)
    (ho : W1.ownsRow (wr.alloc (.cells #[c0, c1, c2, c3, c4, c5] tAct)).heap.size tI 1 (.slice p' m c') m (ivs xs)) :
    Mid w0 (W1.setCell ⟨wr.heap.size, 5, none⟩ (.slice p' m c')) d r k (wr.heap.size + 1) wr.heap.size #[c0, c1, c2, c3, c4, .slice p' m c'] (.slice p' m c') xs := by
  subst hm
  obtain ⟨D, R, G, GR, h1, h2, h3, h4, h5⟩ := h
  have e0 : (wr.alloc (.cells #[c0, c1, c2, c3, c4, c5] tAct)).heap.size = wr.heap.size + 1 := by simp
  rw [e0] at ho
  have b1 := (hk.block wr.heap.size (by rw [e0]; omega)).trans (heap_alloc_new wr _)
  have b2 := Joins.block_setCell (i := 5) b1 (.slice p' xs.length c')
  have kA := (keeps_lit wr (.cells #[c0, c1, c2, c3, c4, c5] tAct)).trans hk
  have hnot : wr.heap.size ∉ G ++ GR := fun hx => by
    rcases List.mem_append.1 hx with hx | hx
    · have := h1.disk.lt _ hx; omega
    · have := h1.ref.lt _ hx; omega
  refine ⟨D, R, G, GR, stored_pair (h1.keeps kA) hnot, h2, h3, h4, (h5.trans kA).setCell h5.size _, ⟨by rw [b2]; rfl, own_local ho fun b hb => Below.heap_setCell _ _ _ _ fun e => ?_, hnot, fun b hb hx => ?_⟩, h5.size, fun b hb => ?_⟩
  · have e' : b = wr.heap.size := e
    have := (ho.lt b hb).1
    omega
  · have := (ho.lt b hb).1
    rcases List.mem_append.1 hx with hx | hx
    · have := h1.disk.lt _ hx; omega
    · have := h1.ref.lt _ hx; omega
  · have := (ho.lt b hb).1
    have := h5.size
    omega
theorem mid_store {w0 w : World} {d r k B X g c j : Nat} {cs : Array Value} {xs : List Int} (h : Mid w0 w d r k B X cs (.slice (some ⟨g, 0, none⟩) xs.length c) xs) (hj : j < xs.length) (n : Int) :
    Mid w0 (w.setCell ⟨g, j, none⟩ (.int .i64 n)) d r k B X cs (.slice (some ⟨g, 0, none⟩) xs.length c) (xs.set j n) := by
  obtain ⟨D, R, G, GR, h1, h2, h3, h4, h5, h6, h7, h8⟩ := h
  exact ⟨D, R, G, GR, stored_pair h1 (h6.offR g rfl), h2, h3, h4, h5.setCell (h8 g rfl) _, h6.stored hj n, h7, h8⟩
end Go.Proofs.Ytpecbfcboocmcaa
