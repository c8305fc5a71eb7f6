
/- What the program's waits must answer (a structure); beside the document's list. -/
import Derived.Test.YtbemkcnikoiecaaWtRefT
import Derived.Test.YtbemkcnikoiecaaWtRefK
import Derived.Test.YtbemkcnikoiecaaObj
set_option linter.unusedVariables false
namespace Go.Proofs.Ytbemkcnikoiecaa
open Go.ChangeShapes Go.WideShapes Go.ChangeAt Go.RowKit Csv Ky Ob
namespace Wt
abbrev ptrB (b : Nat) : Value := .pointer (some ⟨b, 0, none⟩)
/-- The program's waits: how they lie, and what their calls answer. -/
structure WtP where
  Has : World → Prop
  hask : ∀ {W W'}, Has W → Keeps W W' → Has W'
  At : World → Nat → (Nat → Prop) → List W5 → Prop
  lies : Lies At
  inv : ∀ {W b F l}, At W b F l → Inv l
  gap : ∀ (t : Int) W, I64 t → Has W → Calls Try.prog 23 #[.int .i64 t] W fun e w' => e = .returned (.int .i64 (gapN t)) ∧ Keeps W w'
  new : ∀ W, Has W → Calls Try.prog 9 #[] W fun e w' => New At W w' e []
  start : ∀ {W b F l} (o d now : Int), I64 o → I64 d → I64 now → Has W → At W b F l → Calls Try.prog 21 #[.pointer (some ⟨b, 0, none⟩), kyV o d, .int .i64 now] W fun e w' => e = .returned (.tuple #[]) ∧ Goes At W w' b F (startL l o d now)
  due : ∀ {W b F l} (o d now : Int), I64 o → I64 d → I64 now → Has W → At W b F l → Calls Try.prog 10 #[.pointer (some ⟨b, 0, none⟩), kyV o d, .int .i64 now] W fun e w' => e = .returned (.tuple #[]) ∧ Goes At W w' b F (dueL l o d now)
  stop : ∀ {W b F l} (o d : Int), I64 o → I64 d → Has W → At W b F l → Calls Try.prog 12 #[.pointer (some ⟨b, 0, none⟩), kyV o d] W fun e w' => e = .returned (.tuple #[]) ∧ Goes At W w' b F (stopL l o d)
  again : ∀ {W b F l} (o d now : Int), I64 o → I64 d → I64 now → Has W → At W b F l → Calls Try.prog 15 #[.pointer (some ⟨b, 0, none⟩), kyV o d, .int .i64 now] W fun e w' => e = .returned (.bool (hasB l o d)) ∧ Goes At W w' b F (againL l o d now)
  tick : ∀ {W b F l} (now : Int), I64 now → Has W → At W b F l → Calls Try.prog 19 #[.pointer (some ⟨b, 0, none⟩), .int .i64 now] W fun e w' => ∃ v, e = .returned v ∧ keK.Own W.heap.size w' v (toldL l now) ∧ Goes At W w' b F (tickL l now)
  list : ∀ {W b F l}, Has W → At W b F l → Calls Try.prog 25 #[.pointer (some ⟨b, 0, none⟩)] W fun e w' => ∃ v, e = .returned v ∧ pwK.Own W.heap.size w' v l ∧ Keeps W w'
  copy : ∀ {W b F l}, Has W → At W b F l → Calls Try.prog 20 #[.pointer (some ⟨b, 0, none⟩)] W fun e w' => New At W w' e l
section
variable {P : WtP} {wb X Y : World} {b : Nat} {v v' : Value} {l l' l2 : List W5} {E : Nat → Prop}
theorem Mine.inv (h : Mine P.At wb E X b l) : Inv l := by
  obtain ⟨⟨F, h1, _⟩, _, _⟩ := h
  exact P.inv h1
/-- The program's waits, and the document's row, apart, both since wb. -/
structure Pair (P : WtP) (wb X : World) (b : Nat) (v : Value) (l l' : List W5) : Prop where
  ex : ∃ F, P.At X b F l ∧ ∀ i, F i → wb.heap.size ≤ i ∧ v.ownBlock ≠ some i
  row : rwK.Own wb.heap.size X v l'
  k : Keeps wb X
theorem Pair.inv (h : Pair P wb X b v l l') : Inv l := by
  obtain ⟨⟨F, h1, _⟩, _, _⟩ := h
  exact P.inv h1
theorem Pair.keeps (h : Pair P wb X b v l l') (k : Keeps X Y) : Pair P wb Y b v l l' := by
  obtain ⟨⟨F, h1, h2⟩, h3, h4⟩ := h
  exact ⟨⟨F, P.lies.keeps h1 k, h2⟩, rwK.own_keeps h3 k, h4.trans k⟩
theorem Pair.src (h : Pair P wb X b v l l') : rwK.Src X v l' := rwK.own_src h.row
theorem pair_goes {F : Nat → Prop} (hF : ∀ i, F i → wb.heap.size ≤ i ∧ v.ownBlock ≠ some i) (hr : rwK.Own wb.heap.size X v l') (hk : Keeps wb X) (g : Goes P.At X Y b F l2) : Pair P wb Y b v l2 l' := by
  obtain ⟨⟨F', g1, g2⟩, g3⟩ := g
  refine ⟨⟨F', g1, fun i hi => ?_⟩, rwK.own_local hr fun i hi => g3.same i (rwK.own_lt hr i hi).2 (fun q => (hF i q).2 hi), g3.keeps hk (fun i hi => (hF i hi).1)⟩
  rcases g2 i hi with q | q
  · exact hF i q
  · exact ⟨Nat.le_trans hk.size q, fun e => by have := (rwK.own_lt hr i e).2; omega⟩
theorem pair_row (h : Pair P wb X b v l l') (g : PutOut X Y v v' l' l2) : Pair P wb Y b v' l l2 := by
  rcases g.own with ⟨rfl, rfl⟩ | q
  · exact h.keeps g.keeps
  · obtain ⟨⟨F, h1, h2⟩, h3, h4⟩ := h.keeps g.keeps
    obtain ⟨⟨F0, f1, f2⟩, f3, f4⟩ := h
    refine ⟨⟨F0, P.lies.keeps f1 g.keeps, fun i hi => ⟨(f2 i hi).1, fun e => ?_⟩⟩, rwK.own_base q fun j hj => Nat.le_trans f4.size (rwK.own_lt q j hj).1, f4.trans g.keeps⟩
    have := (rwK.own_lt q i e).1
    have := P.lies.lt f1 hi
    omega
theorem pr_start (h : Pair P wb X b v l l') (hp : P.Has X) (o d now : Int) (ho : I64 o) (hd : I64 d) (hn : I64 now) : Calls Try.prog 21 #[.pointer (some ⟨b, 0, none⟩), kyV o d, .int .i64 now] X fun e w' => e = .returned (.tuple #[]) ∧ Pair P wb w' b v (startL l o d now) l' := by
  obtain ⟨⟨F, h1, h2⟩, h3, h4⟩ := h
  exact (P.start o d now ho hd hn hp h1).mono fun e w' ⟨g1, g2⟩ => ⟨g1, pair_goes h2 h3 h4 g2⟩
theorem pr_due (h : Pair P wb X b v l l') (hp : P.Has X) (o d now : Int) (ho : I64 o) (hd : I64 d) (hn : I64 now) : Calls Try.prog 10 #[.pointer (some ⟨b, 0, none⟩), kyV o d, .int .i64 now] X fun e w' => e = .returned (.tuple #[]) ∧ Pair P wb w' b v (dueL l o d now) l' := by
  obtain ⟨⟨F, h1, h2⟩, h3, h4⟩ := h
  exact (P.due o d now ho hd hn hp h1).mono fun e w' ⟨g1, g2⟩ => ⟨g1, pair_goes h2 h3 h4 g2⟩
theorem pr_stop (h : Pair P wb X b v l l') (hp : P.Has X) (o d : Int) (ho : I64 o) (hd : I64 d) : Calls Try.prog 12 #[.pointer (some ⟨b, 0, none⟩), kyV o d] X fun e w' => e = .returned (.tuple #[]) ∧ Pair P wb w' b v (stopL l o d) l' := by
  obtain ⟨⟨F, h1, h2⟩, h3, h4⟩ := h
  exact (P.stop o d ho hd hp h1).mono fun e w' ⟨g1, g2⟩ => ⟨g1, pair_goes h2 h3 h4 g2⟩
theorem pr_again (h : Pair P wb X b v l l') (hp : P.Has X) (o d now : Int) (ho : I64 o) (hd : I64 d) (hn : I64 now) : Calls Try.prog 15 #[.pointer (some ⟨b, 0, none⟩), kyV o d, .int .i64 now] X fun e w' => e = .returned (.bool (hasB l o d)) ∧ Pair P wb w' b v (againL l o d now) l' := by
  obtain ⟨⟨F, h1, h2⟩, h3, h4⟩ := h
  exact (P.again o d now ho hd hn hp h1).mono fun e w' ⟨g1, g2⟩ => ⟨g1, pair_goes h2 h3 h4 g2⟩
/-- Tick, behind the document's: what that made since X0 stays, and lies apart. -/
theorem pr_tick {X0 : World} (h : Pair P wb X0 b v l l') (kx : Keeps X0 X) (hp : P.Has X) (now : Int) (hn : I64 now) : Calls Try.prog 19 #[.pointer (some ⟨b, 0, none⟩), .int .i64 now] X fun e w' => ∃ u, e = .returned u ∧ keK.Own X.heap.size w' u (toldL l now) ∧ (∀ i, X0.heap.size ≤ i → i < X.heap.size → w'.heap[i]? = X.heap[i]?) ∧ Pair P wb w' b v (tickL l now) l' ∧ ∀ s l2, rwK.Own X0.heap.size X s l2 → Pair P wb w' b s (tickL l now) l2 := by
  obtain ⟨⟨F, h1, h2⟩, h3, h4⟩ := h
  have hlt : ∀ i, F i → i < X0.heap.size := fun i hi => P.lies.lt h1 hi
  refine (P.tick now hn hp (P.lies.keeps h1 kx)).mono fun e w' ⟨u, g1, g2, g3⟩ => ⟨u, g1, g2, fun i hi hx => g3.only.same i hx (fun q => by have := hlt i q; omega), pair_goes h2 (rwK.own_keeps h3 kx) (h4.trans kx) g3, fun s l2 hs => pair_goes (fun i hi => ⟨(h2 i hi).1, fun e => ?_⟩) (rwK.own_base hs fun j hj => Nat.le_trans h4.size (rwK.own_lt hs j hj).1) (h4.trans kx) g3⟩
  have := (rwK.own_lt hs i e).1
  have := hlt i hi
  omega
theorem pr_list (h : Pair P wb X b v l l') (hp : P.Has X) : Calls Try.prog 25 #[.pointer (some ⟨b, 0, none⟩)] X fun e w' => ∃ u, e = .returned u ∧ pwK.Own X.heap.size w' u l ∧ Keeps X w' := by
  obtain ⟨⟨F, h1, h2⟩, h3, h4⟩ := h
  exact P.list hp h1
theorem pr_copy (h : Pair P wb X b v l l') (hp : P.Has X) : Calls Try.prog 20 #[.pointer (some ⟨b, 0, none⟩)] X fun e w' => ∃ c, e = .returned (.pointer (some ⟨c, 0, none⟩)) ∧ Mine P.At X E0 w' c l := by
  obtain ⟨⟨F, h1, h2⟩, h3, h4⟩ := h
  exact (P.copy hp h1).mono fun e w' g => mine_new (Keeps.refl _) (e0 _) g
theorem mi_new (hp : P.Has X) (k : Keeps wb X) (he : ∀ i, E i → i < X.heap.size) : Calls Try.prog 9 #[] X fun e w' => ∃ c, e = .returned (.pointer (some ⟨c, 0, none⟩)) ∧ Mine P.At wb E w' c [] := (P.new X hp).mono fun e w' g => mine_new k he g
theorem mi_start (h : Mine P.At wb E X b l) (hp : P.Has X) (o d now : Int) (ho : I64 o) (hd : I64 d) (hn : I64 now) : Calls Try.prog 21 #[.pointer (some ⟨b, 0, none⟩), kyV o d, .int .i64 now] X fun e w' => e = .returned (.tuple #[]) ∧ Mine P.At wb E w' b (startL l o d now) ∧ Still E X w' := by
  obtain ⟨⟨F, h1, h2⟩, h4, h5⟩ := h
  exact (P.start o d now ho hd hn hp h1).mono fun e w' ⟨g1, g2⟩ => ⟨g1, Mine.goes h2 h4 h5 g2⟩
theorem mi_stop (h : Mine P.At wb E X b l) (hp : P.Has X) (o d : Int) (ho : I64 o) (hd : I64 d) : Calls Try.prog 12 #[.pointer (some ⟨b, 0, none⟩), kyV o d] X fun e w' => e = .returned (.tuple #[]) ∧ Mine P.At wb E w' b (stopL l o d) ∧ Still E X w' := by
  obtain ⟨⟨F, h1, h2⟩, h4, h5⟩ := h
  exact (P.stop o d ho hd hp h1).mono fun e w' ⟨g1, g2⟩ => ⟨g1, Mine.goes h2 h4 h5 g2⟩
theorem mi_again (h : Mine P.At wb E X b l) (hp : P.Has X) (o d now : Int) (ho : I64 o) (hd : I64 d) (hn : I64 now) : Calls Try.prog 15 #[.pointer (some ⟨b, 0, none⟩), kyV o d, .int .i64 now] X fun e w' => e = .returned (.bool (hasB l o d)) ∧ Mine P.At wb E w' b (againL l o d now) ∧ Still E X w' := by
  obtain ⟨⟨F, h1, h2⟩, h4, h5⟩ := h
  exact (P.again o d now ho hd hn hp h1).mono fun e w' ⟨g1, g2⟩ => ⟨g1, Mine.goes h2 h4 h5 g2⟩
theorem mi_tick (h : Mine P.At wb E X b l) (hp : P.Has X) (now : Int) (hn : I64 now) : Calls Try.prog 19 #[.pointer (some ⟨b, 0, none⟩), .int .i64 now] X fun e w' => ∃ u, e = .returned u ∧ keK.Own X.heap.size w' u (toldL l now) ∧ Mine P.At wb E w' b (tickL l now) ∧ Still E X w' := by
  obtain ⟨⟨F, h1, h2⟩, h4, h5⟩ := h
  exact (P.tick now hn hp h1).mono fun e w' ⟨u, g1, g2, g3⟩ => ⟨u, g1, g2, Mine.goes h2 h4 h5 g3⟩
theorem mi_list (h : Mine P.At wb E X b l) (hp : P.Has X) : Calls Try.prog 25 #[.pointer (some ⟨b, 0, none⟩)] X fun e w' => ∃ u, e = .returned u ∧ pwK.Own X.heap.size w' u l ∧ Keeps X w' := by
  obtain ⟨⟨F, h1, h2⟩, h4, h5⟩ := h
  exact P.list hp h1
end
end Wt
end Go.Proofs.Ytbemkcnikoiecaa
