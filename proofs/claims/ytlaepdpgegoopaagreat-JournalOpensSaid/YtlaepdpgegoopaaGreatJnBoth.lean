
/- A journal and the document's, each on its own disk: calls of the one leave the other alone. A journal and the document's, each on its own disk: the two Opens; what is done with both. Files that came in (a number and its bytes), opened. -/
import Derived.Test.YtlaepdpgegoopaaGreatJnRefC
import Derived.Test.YtlaepdpgegoopaaGreatJnOwn2
import Derived.Test.YtlaepdpgegoopaaGreatRefSame
import Derived.Test.YtlaepdpgegoopaaGreatJnKept
import Derived.Test.YtlaepdpgegoopaaGreatOpenArgs
import Derived.Test.YtlaepdpgegoopaaGreatDiskMem
import Derived.Deep.Slices
import Derived.DataReads
set_option linter.unusedVariables false
namespace Go.Proofs.YtlaepdpgegoopaaGreat
open Go.ChangeShapes Go.WideShapes Go.ChangeAt Go.RowKit Go.Maps Csv Dk Jn

/-! ### No failure is set -/
def Good (st : Int) (D : DiskM) : Prop := D.fail = none ∧ D.up = true ∧ D.cap = 200000 ∧ D.starts = st
variable {st : Int}
theorem good_then {D : DiskM} (h : Good st D) (g : List FileM → List FileM) : Good st (D.then g).2 := by
  obtain ⟨cap, files, up, sts, fl⟩ := D
  obtain ⟨h1, h2, h3, h4⟩ := h
  simp only at h1 h2 h3 h4
  subst h1 h2 h3 h4
  exact ⟨rfl, rfl, rfl, rfl⟩
theorem good_with {D : DiskM} (h : Good st D) (n : Int) (k : FileM → Int × DiskM) (hk : ∀ f, Good st (k f).2) : Good st (withF D n k).2 := by
  unfold withF
  split
  · exact h
  · split
    · exact h
    · exact hk _
theorem good_create {D : DiskM} (h : Good st D) (n : Int) : Good st (createD D n).2 := by
  unfold createD
  split
  · exact h
  · split
    · exact h
    · split
      · exact h
      · split
        · exact h
        · exact good_then h _
theorem good_count {D : DiskM} (h : Good st D) : Good st D.count.2 := by
  obtain ⟨cap, files, up, sts, fl⟩ := D
  obtain ⟨h1, h2, h3, h4⟩ := h
  simp only at h1 h2 h3 h4
  subst h1 h2 h3 h4
  exact ⟨rfl, rfl, rfl, rfl⟩
theorem good_append {D : DiskM} (h : Good st D) (n : Int) (s : Bs) : Good st (appendD D n s).2 := by
  refine good_with h n _ fun f => ?_
  split
  · exact h
  · exact good_count (D := D.put _) ⟨h.1, h.2.1, h.2.2⟩
theorem good_sync {D : DiskM} (h : Good st D) (n : Int) : Good st (syncD D n).2 := good_with h n _ fun f => good_then h _
theorem good_trunc {D : DiskM} (h : Good st D) (n z : Int) : Good st (truncD D n z).2 := by
  refine good_with h n _ fun f => ?_
  split
  · exact h
  · exact good_then h _
theorem good_delete {D : DiskM} (h : Good st D) (n : Int) : Good st (deleteD D n).2 := good_with h n _ fun f => good_then h _
theorem good_next {x : Int × DiskM} {g : DiskM → Int × DiskM} (h : Good st x.2) (hg : ∀ D, Good st D → Good st (g D).2) : Good st (next x g).2 := by
  unfold next
  split
  · exact hg _ h
  · exact h
theorem good_dels (ns : List Int) : ∀ x : Int × DiskM, Good st x.2 → Good st (delsD x ns).2 := by
  induction ns with
  | nil => intro x h; exact h
  | cons n ns ih => intro x h; rw [delsD]; exact ih _ (good_next h fun D hD => good_delete hD n)
theorem good_lay {D : DiskM} (h : Good st D) (n : Int) (r : Bs) : Good st (layD D n r).2 := good_next (good_next (good_create h n) fun D hD => good_append hD n r) fun D hD => good_sync hD n
theorem good_fresh {D : DiskM} (h : Good st D) : Good st (freshD D).2 := by
  refine good_next ?_ fun D hD => good_lay hD 0 _
  split
  · exact h
  · exact good_delete h 0
theorem good_keep {D : DiskM} (h : Good st D) (k : Nat) (f : FileM) : Good st (keepD D k f).2 := by
  refine good_dels _ _ (good_next ?_ fun D hD => good_sync hD _)
  split
  · exact good_trunc h _ _
  · exact h
theorem good_open {D D' : DiskM} {x : Int} {o : Option (JM × List Bs)} (h : Good st D) (e : openD D = ((x, D'), o)) : Good st D' := by
  unfold openD at e
  split at e
  · split at e
    · simp only [Prod.mk.injEq] at e; rw [← e.1.2]; exact h
    · have := good_fresh h
      rw [(Prod.mk.inj e).1] at this
      exact this
  · split at e
    · simp only [Prod.mk.injEq] at e; rw [← e.1.2]; exact h
    · have := good_keep h ‹Nat› ‹FileM›
      rw [(Prod.mk.inj e).1] at this
      exact this
theorem good_app {D : DiskM} (h : Good st D) (J : JM) (s : Bs) : Good st (appJ D J s).1.2 := by
  unfold appJ
  split
  · exact h
  · split
    · exact h
    · exact good_next (good_append h _ _) fun D hD => good_sync hD _
theorem good_com {D : DiskM} (h : Good st D) (J : JM) (s : Bs) : Good st (comJ D J s).1.2 := by
  unfold comJ
  split
  · exact h
  · split
    · exact h
    · simp only
      split
      · exact good_delete (good_lay h _ _) _
      · exact good_lay h _ _


/-! ### So no act says that the disk is down -/
theorem ne_then {D : DiskM} (h : Good st D) (g : List FileM → List FileM) : (D.then g).1 ≠ 61 := by
  obtain ⟨cap, files, up, sts, fl⟩ := D
  obtain ⟨h1, h2, h3, h4⟩ := h
  simp only at h1 h2 h3 h4
  subst h1 h2 h3 h4
  exact (by decide : (0 : Int) ≠ 61)
theorem ne_count {D : DiskM} (h : Good st D) : D.count.1 ≠ 61 := by
  obtain ⟨cap, files, up, sts, fl⟩ := D
  obtain ⟨h1, h2, h3, h4⟩ := h
  simp only at h1 h2 h3 h4
  subst h1 h2 h3 h4
  exact (by decide : (0 : Int) ≠ 61)
theorem ne_with {D : DiskM} (h : Good st D) (n : Int) (k : FileM → Int × DiskM) (hk : ∀ f, (k f).1 ≠ 61) : (withF D n k).1 ≠ 61 := by
  unfold withF
  rw [if_neg (by rw [h.2.1]; decide)]
  split
  · exact (by decide : (4 : Int) ≠ 61)
  · exact hk _
theorem ne_create {D : DiskM} (h : Good st D) (n : Int) : (createD D n).1 ≠ 61 := by
  unfold createD
  rw [if_neg (by rw [h.2.1]; decide)]
  split
  · exact (by decide : (2 : Int) ≠ 61)
  · split
    · exact (by decide : (62 : Int) ≠ 61)
    · split
      · exact (by decide : (60 : Int) ≠ 61)
      · exact ne_then h _
theorem ne_append {D : DiskM} (h : Good st D) (n : Int) (s : Bs) : (appendD D n s).1 ≠ 61 := by
  refine ne_with h n _ fun f => ?_
  split
  · exact (by decide : (60 : Int) ≠ 61)
  · exact ne_count (D := D.put _) ⟨h.1, h.2.1, h.2.2⟩
theorem ne_sync {D : DiskM} (h : Good st D) (n : Int) : (syncD D n).1 ≠ 61 := ne_with h n _ fun f => ne_then h _
theorem ne_delete {D : DiskM} (h : Good st D) (n : Int) : (deleteD D n).1 ≠ 61 := ne_with h n _ fun f => ne_then h _
theorem ne_next {x : Int × DiskM} {g : DiskM → Int × DiskM} (hx : x.1 ≠ 61) (h : Good st x.2) (hg : ∀ D, Good st D → (g D).1 ≠ 61) : (next x g).1 ≠ 61 := by
  unfold next
  split
  · exact hg _ h
  · exact hx
theorem ne_lay {D : DiskM} (h : Good st D) (n : Int) (r : Bs) : (layD D n r).1 ≠ 61 :=
  ne_next (ne_next (ne_create h n) (good_create h n) fun D hD => ne_append hD n r) (good_next (good_create h n) fun D hD => good_append hD n r) fun D hD => ne_sync hD n
theorem ne_app {D : DiskM} (h : Good st D) (J : JM) (s : Bs) : (appJ D J s).1.1 ≠ 61 := by
  unfold appJ
  split
  · exact (by decide : (3 : Int) ≠ 61)
  · split
    · exact (by decide : (60 : Int) ≠ 61)
    · exact ne_next (ne_append h _ _) (good_append h _ _) fun D hD => ne_sync hD _
theorem ne_com {D : DiskM} (h : Good st D) (J : JM) (s : Bs) : (comJ D J s).1.1 ≠ 61 := by
  unfold comJ
  split
  · exact (by decide : (3 : Int) ≠ 61)
  · split
    · exact (by decide : (60 : Int) ≠ 61)
    · simp only
      split
      · exact ne_delete (good_lay h _ _) _
      · exact ne_lay h _ _
theorem app_file (D : DiskM) (J : JM) (s : Bs) : (appJ D J s).2.file = J.file ∧ (appJ D J s).2.starts = J.starts := by
  unfold appJ
  split
  · exact ⟨rfl, rfl⟩
  · split
    · exact ⟨rfl, rfl⟩
    · simp only
      split <;> exact ⟨rfl, rfl⟩

/-! ### Both disks -/
def Half (w : World) (d r : Nat) (D R : DiskM) (W : World) : Prop := ∃ G GR, Pair W d r D R G GR ∧ (∀ b ∈ G ++ GR, w.heap.size ≤ b) ∧ Keeps w W
def HalfJ (w : World) (d r b : Nat) (D R : DiskM) (J : JM) (W : World) : Prop := ∃ G GR, JJ W b d D J G ∧ IsRef W r R GR ∧ (∀ x ∈ b :: G, x ∉ GR) ∧ (∀ x ∈ (b :: G) ++ GR, w.heap.size ≤ x) ∧ Keeps w W
def Full (w : World) (d r b q : Nat) (D R : DiskM) (J J' : JM) (W : World) : Prop := ∃ G GR, JJ W b d D J G ∧ RJ W q r R J' false GR ∧ (∀ x ∈ b :: G, x ∉ q :: GR) ∧ (∀ x ∈ (b :: G) ++ (q :: GR), w.heap.size ≤ x) ∧ Keeps w W
theorem Half.kept {w W : World} {d r : Nat} {D R : DiskM} (h : Half w d r D R W) : Keeps w W := by obtain ⟨G, GR, h1, h2, h3⟩ := h; exact h3
theorem Half.keeps {w W W' : World} {d r : Nat} {D R : DiskM} (h : Half w d r D R W) (k : Keeps W W') : Half w d r D R W' := by
  obtain ⟨G, GR, h1, h2, h3⟩ := h
  exact ⟨G, GR, ⟨h1.disk.keeps k, h1.ref.keeps k, h1.apart⟩, h2, h3.trans k⟩
theorem half_goes {w W W' : World} {d r : Nat} {D R : DiskM} {G GR : List Nat} (hb : ∀ b ∈ G ++ GR, w.heap.size ≤ b) (k : Keeps w W) (g : PGoes W W' G GR d r D R) : Half w d r D R W' := by
  obtain ⟨G', GR', g1, g2, g3⟩ := g
  refine ⟨G', GR', g1, fun b hb' => ?_, frame_below g2 k hb⟩
  rcases g3 b hb' with h | h
  · exact hb b h
  · have := k.size; omega
section
variable {w W : World} {d r : Nat} {D R : DiskM}
theorem create_half (h : Half w d r D R W) {n : Int} (hn : I64 n) : Calls Tryz.prog 7 #[ptrV d, .int .i64 n] W fun e w' => e = .returned (.int .i64 (createD D n).1) ∧ Half w d r (createD D n).2 R w' := by
  obtain ⟨G, GR, h1, h2, h3⟩ := h
  exact (createD_any d D G n W h1.disk hn).mono fun e w' ⟨g1, g2⟩ => ⟨g1, half_goes h2 h3 (pair_d h1 g2)⟩
theorem rcreate_half (h : Half w d r D R W) {n : Int} (hn : I64 n) : Calls Tryz.prog 8 #[ptrV r, .int .i64 n] W fun e w' => e = .returned (.int .i64 (createD R n).1) ∧ Half w d r D (createD R n).2 w' := by
  obtain ⟨G, GR, h1, h2, h3⟩ := h
  exact (rcreate_any r R GR n W h1.ref hn).mono fun e w' ⟨g1, g2⟩ => ⟨g1, half_goes h2 h3 (pair_r h1 g2)⟩
theorem append_half (h : Half w d r D R W) {n : Int} (hn : I64 n) {s : ByteArray} (hs : s.size ≤ maxLen) : Calls Tryz.prog 9 #[ptrV d, .int .i64 n, .string s] W fun e w' => e = .returned (.int .i64 (appendD D n s.data.toList).1) ∧ Half w d r (appendD D n s.data.toList).2 R w' := by
  obtain ⟨G, GR, h1, h2, h3⟩ := h
  exact (append_any d D G n s W h1.disk hn hs).mono fun e w' ⟨g1, g2⟩ => ⟨g1, half_goes h2 h3 (pair_d h1 g2)⟩
theorem rappend_half (h : Half w d r D R W) {n : Int} {s : ByteArray} (hs : s.size ≤ maxLen) : Calls Tryz.prog 10 #[ptrV r, .int .i64 n, .string s] W fun e w' => e = .returned (.int .i64 (appendD R n s.data.toList).1) ∧ Half w d r D (appendD R n s.data.toList).2 w' := by
  obtain ⟨G, GR, h1, h2, h3⟩ := h
  exact (rappend_any r R GR n s W h1.ref hs).mono fun e w' ⟨g1, g2⟩ => ⟨g1, half_goes h2 h3 (pair_r h1 g2)⟩
end
end Go.Proofs.YtlaepdpgegoopaaGreat
namespace Go.Proofs.YtlaepdpgegoopaaGreat
open Go.ChangeShapes Go.WideShapes Go.ChangeAt Go.RowKit Go.Maps Csv Dk Jn

theorem TxtB.texts {W W' : World} {v : Value} {l : List Bs} (h : TxtB W v l) (q : ∀ (x : Nat) (c : Array Value), W.heap[x]? = some (.cells c tS (0, 0)) → W'.heap[x]? = some (.cells c tS (0, 0))) : TxtB W' v l := by
  obtain ⟨⟨p, c, e, hm, hc⟩, h2, h3⟩ := h
  rcases h3 with rfl | ⟨g, o, n, c', cs, rfl, hg⟩
  · exact ⟨⟨p, c, e, hm, fun j x hx => by simp at hx⟩, h2, Or.inl rfl⟩
  · have hg' := q g cs hg
    cases e
    refine ⟨⟨_, _, rfl, hm, fun j x hx => ?_⟩, h2, Or.inr ⟨g, o, _, _, cs, rfl, hg'⟩⟩
    obtain ⟨a, ea, hcell⟩ := hc j x hx
    cases ea
    have hb : ((⟨g, o, none⟩ : Addr).add j).block = g := by unfold Addr.add; split <;> rfl
    refine ⟨_, rfl, ?_⟩
    rw [World.cell?_of_block (w := W) (by rw [hb]; exact hg'.trans hg.symm)]
    exact hcell
theorem ref_tag {W : World} {r : Nat} {D : DiskM} {G : List Nat} (h : IsRef W r D G) {x : Nat} {c : Array Value} (hx : W.heap[x]? = some (.cells c tS (0, 0))) : x ≠ r := by
  obtain ⟨vL, vK, ks, h1, _⟩ := h
  exact tag_ne hx h1.ref (by decide)
theorem TxtB.refd {W W' : World} {v : Value} {l : List Bs} {r : Nat} {D : DiskM} {G : List Nat} (h : TxtB W v l) (hr : IsRef W r D G) (f : Frame [r] W W') : TxtB W' v l :=
  h.texts fun x c hx => (f.block x (block_lt hx) (by simp; exact ref_tag hr hx)).trans hx

/-- What a journal's numbers are, whatever was found. -/
theorem open_nums {st : Int} {D D' : DiskM} (h : Okay D) (hg : Good st D) {x : Int} {J : JM} {R : List Bs} (e : openD D = ((x, D'), some (J, R))) : 0 ≤ J.file ∧ J.file ≤ 9223372036854775807 ∧ J.bytes ≤ 2000000 ∧ J.many ≤ 2000000 ∧ J.starts = st := by
  have hst : D'.starts = st := (good_open hg e).2.2.2
  unfold openD at e
  split at e
  · split at e
    · simp at e
    · obtain ⟨e1, e2⟩ := Prod.mk.inj e
      split at e2
      · obtain ⟨rfl, rfl⟩ := Prod.mk.inj (Option.some.inj e2)
        rw [e1]
        exact ⟨by simp, by simp, by simp, by simp, hst⟩
      · cases e2
  · rename_i k hk
    split at e
    · simp at e
    · rename_i f hf
      obtain ⟨e1, e2⟩ := Prod.mk.inj e
      split at e2
      · obtain ⟨rfl, rfl⟩ := Prod.mk.inj (Option.some.inj e2)
        rw [e1]
        have hm := List.mem_of_getElem? hf
        have hn := h.nums f hm
        have hu := used_mem hm
        have hr := h.room
        have hc := h.cap
        have w1 := (whole_row f.data).1
        have hl := congrArg List.length w1
        rw [List.length_take] at hl
        have hge := rowL_ge (wholeP f.data)
        have hwl : wholeE f.data ≤ f.data.length := (whole_done f.data).1.le.2
        exact ⟨hn.1, hn.2, by simp only; omega, by simp only; omega, hst⟩
      · cases e2

section
variable {w W : World} {d r b q : Nat} {D R : DiskM} {J J1 : JM}
theorem jopen_half (h : Half w d r D R W) (hu : D.up = true) (hc : D.cap ≤ 1000000) : Calls Tryz.prog 11 #[ptrV d] W fun e w' =>
    (∃ x D', openD D = ((x, D'), none) ∧ x ≠ 0 ∧ e = .returned (.tuple #[.pointer none, .string ⟨#[]⟩, .slice none 0 0, .int .i64 x]) ∧ Half w d r D' R w') ∨
    (∃ D' J s l b v, openD D = ((0, D'), some (J, s :: l)) ∧ e = .returned (.tuple #[ptrV b, sv s, v, .int .i64 0]) ∧ HalfJ w d r b D' R J w' ∧ TxtB w' v l) := by
  obtain ⟨G, GR, h1, h2, h3⟩ := h
  refine (jopen_any d D G W h1.disk hu hc).mono ?_
  intro e w' ho
  rcases ho with ⟨x, D', e1, e2, e3, g⟩ | ⟨D', J, s, l, b, v, G', e1, e2, g, ⟨_, t⟩, hb, f, hn⟩
  · exact Or.inl ⟨x, D', e1, e2, e3, half_goes h2 h3 (pair_d h1 g)⟩
  · have hR : IsRef w' r R GR := h1.ref.local fun x hx => f.block x (h1.ref.lt x hx) fun hg => h1.apart x hg hx
    have hs := h3.size
    refine Or.inr ⟨D', J, s, l, b, v, e1, e2, ⟨G', GR, g, hR, fun x hx hr => ?_, fun x hx => ?_, frame_below f h3 fun x hx => h2 x (by simp [hx])⟩, t⟩
    · rcases List.mem_cons.1 hx with rfl | hx
      · have := h1.ref.lt _ hr; omega
      · rcases hn x hx with hg | hg
        · exact h1.apart x hg hr
        · have := h1.ref.lt _ hr; omega
    · rcases List.mem_append.1 hx with hx | hx
      · rcases List.mem_cons.1 hx with rfl | hx
        · omega
        · rcases hn x hx with hg | hg
          · exact h2 x (by simp [hg])
          · omega
      · exact h2 x (by simp [hx])
theorem ropen_no (h : Half w d r D R W) (hu : R.up = true) (hc : R.cap ≤ 1000000) {x : Int} {R' : DiskM} (ho : openD R = ((x, R'), none)) : Calls Tryz.prog 12 #[ptrV r] W fun e w' =>
    e = .returned (.tuple #[.pointer none, .string ⟨#[]⟩, .slice none 0 0, .int .i64 x]) ∧ Half w d r D R' w' := by
  obtain ⟨G, GR, h1, h2, h3⟩ := h
  refine (ropen_any r R GR W h1.ref hu hc).mono ?_
  intro e w' hr
  rcases hr with ⟨x', D', e1, e2, e3, g⟩ | ⟨D', J, s, l, b, v, G', e1, _⟩
  · rw [ho] at e1
    simp only [Prod.mk.injEq, and_true] at e1
    obtain ⟨rfl, rfl⟩ := e1
    exact ⟨e3, half_goes h2 h3 (pair_r h1 g)⟩
  · rw [ho] at e1
    simp at e1
theorem ropen_yes (h : HalfJ w d r b D R J W) (hu : R.up = true) (hc : R.cap ≤ 1000000) {R' : DiskM} {s : Bs} {l : List Bs} (ho : openD R = ((0, R'), some (J1, s :: l))) {v : Value} {m : List Bs} (ht : TxtB W v m) : Calls Tryz.prog 12 #[ptrV r] W fun e w' =>
    ∃ q v2, e = .returned (.tuple #[ptrV q, sv s, v2, .int .i64 0]) ∧ Full w d r b q D R' J J1 w' ∧ StrsAt w' v m ∧ StrsAt w' v2 l := by
  obtain ⟨G, GR, h1, h2, h3, h4, h5⟩ := h
  refine (ropen_any r R GR W h2 hu hc).mono ?_
  intro e w' hr
  rcases hr with ⟨x', D', e1, e2, e3, g⟩ | ⟨D', J', s', l', q, v2, G', e1, e2, hR, hj, hst, hq, hqG, f, hn⟩
  · rw [ho] at e1
    simp at e1
  · rw [ho] at e1
    simp only [Prod.mk.injEq, true_and, Option.some.injEq, List.cons.injEq] at e1
    obtain ⟨rfl, rfl, rfl, rfl⟩ := e1
    have hrm := h2.mem
    have hlt : ∀ x ∈ b :: G, x < W.heap.size := fun x hx => by
      rcases List.mem_cons.1 hx with rfl | hx
      · exact h1.jn.lt
      · exact h1.disk.lt x hx
    have same : ∀ x ∈ b :: G, w'.heap[x]? = W.heap[x]? := fun x hx => f.block x (hlt x hx) (by
      intro hm
      simp at hm
      subst hm
      exact h3 _ hx hrm)
    have hs := h5.size
    refine ⟨q, v2, e2, ⟨G, G', ⟨h1.disk.local fun x hx => same x (by simp [hx]), h1.jn.local (same b (by simp)), h1.off⟩, ⟨hR, hj, hqG⟩, fun x hx hm => ?_, fun x hx => ?_, frame_below f h5 fun x hx => ?_⟩, (ht.refd h2 f).1, hst _ (Frame.refl _ _)⟩
    · have hl := hlt x hx
      rcases List.mem_cons.1 hm with rfl | hm
      · omega
      · rcases hn x hm with hg | hg
        · exact h3 x hx hg
        · omega
    · rcases List.mem_append.1 hx with hx | hx
      · exact h4 x (List.mem_append_left _ hx)
      · rcases List.mem_cons.1 hx with rfl | hx
        · omega
        · rcases hn x hx with hg | hg
          · exact h4 x (List.mem_append_right _ hg)
          · omega
    · simp at hx
      subst hx
      exact h4 _ (List.mem_append_right _ hrm)
theorem Full.kept (h : Full w d r b q D R J J1 W) : Keeps w W := by obtain ⟨G, GR, h1, h2, h3, h4, h5⟩ := h; exact h5
theorem Full.keeps {W' : World} (h : Full w d r b q D R J J1 W) (k : Keeps W W') : Full w d r b q D R J J1 W' := by
  obtain ⟨G, GR, h1, h2, h3, h4, h5⟩ := h
  exact ⟨G, GR, ⟨h1.disk.keeps k, h1.jn.local (k.block b h1.jn.lt), h1.off⟩, h2.keeps k, h3, h4, h5.trans k⟩
theorem Full.same (h : Full w d r b q D D J J1 W) (hf : D.fail = none) : Calls Tryz.prog 14 #[ptrV d, ptrV r] W fun e w' => e = .returned (.bool true) ∧ Full w d r b q D D J J1 w' := by
  have hh := h
  obtain ⟨G, GR, h1, h2, h3, h4, h5⟩ := h
  exact (same_any d r D D G GR W ⟨h1.disk, h2.ref, fun x hx hr => h3 x (by simp [hx]) (by simp [hr])⟩ (Sim.refl _ _ hf)).mono fun e w' ⟨e1, k⟩ => ⟨e1, hh.keeps k⟩
theorem Half.same (h : Half w d r D D W) (hf : D.fail = none) : Calls Tryz.prog 14 #[ptrV d, ptrV r] W fun e w' => e = .returned (.bool true) ∧ Half w d r D D w' := by
  have hh := h
  obtain ⟨G, GR, h1, h2, h3⟩ := h
  exact (same_any d r D D G GR W h1 (Sim.refl _ _ hf)).mono fun e w' ⟨e1, k⟩ => ⟨e1, hh.keeps k⟩
theorem full_j (h : Full w d r b q D R J J1 W) {f : Nat} {av : Array Value} {x : (Int × DiskM) × JM} (hx : x.1.1 ≠ 61) (c : ∀ G, JJ W b d D J G → Calls Tryz.prog f av W (JDoneOut x b d G W)) :
    Calls Tryz.prog f av W fun e w' => e = .returned (.int .i64 x.1.1) ∧ Full w d r b q x.1.2 R x.2 J1 w' := by
  obtain ⟨G, GR, h1, h2, h3, h4, h5⟩ := h
  refine (c G h1).mono ?_
  rintro e w' ⟨e1, G', i, hb, f, hn, hj⟩
  have lt2 : ∀ x ∈ q :: GR, x < W.heap.size := fun x hx => by
    rcases List.mem_cons.1 hx with rfl | hx
    · exact block_lt h2.jn
    · exact h2.ref.lt x hx
  have same : ∀ x ∈ q :: GR, w'.heap[x]? = W.heap[x]? := fun x hx => f.block x (lt2 x hx) fun hm => h3 x hm hx
  have hs := h5.size
  refine ⟨e1, G', GR, ⟨i, hj hx, hb⟩, ⟨h2.ref.local fun x hx => same x (by simp [hx]), (same q (by simp)).trans h2.jn, h2.off⟩, fun x hx hr => ?_, fun x hx => ?_, frame_below f h5 fun x hx => h4 x (List.mem_append_left _ hx)⟩
  · rcases List.mem_cons.1 hx with rfl | hx
    · exact h3 _ (by simp) hr
    · rcases hn x hx with hg | hg
      · exact h3 x (by simp [hg]) hr
      · have := lt2 x hr; omega
  · rcases List.mem_append.1 hx with hx | hx
    · rcases List.mem_cons.1 hx with rfl | hx
      · exact h4 _ (by simp)
      · rcases hn x hx with hg | hg
        · exact h4 x (by simp [hg])
        · omega
    · exact h4 x (List.mem_append_right _ hx)
theorem full_r (h : Full w d r b q D R J J1 W) {f : Nat} {av : Array Value} {x : (Int × DiskM) × JM} (hx : x.1.1 ≠ 61) (c : ∀ G, RJ W q r R J1 false G → Calls Tryz.prog f av W fun e w' => e = .returned (.int .i64 x.1.1) ∧ RJGoes W w' G q r x.1.2 x.2 (x.1.1 == 61)) :
    Calls Tryz.prog f av W fun e w' => e = .returned (.int .i64 x.1.1) ∧ Full w d r b q D x.1.2 J x.2 w' := by
  obtain ⟨G, GR, h1, h2, h3, h4, h5⟩ := h
  refine (c GR h2).mono ?_
  rintro e w' ⟨e1, G', g, f, hn⟩
  have hd : (x.1.1 == 61) = false := by simp [hx]
  rw [hd] at g
  have hrm := h2.ref.mem
  have lt1 : ∀ x ∈ b :: G, x < W.heap.size := fun x hx => by
    rcases List.mem_cons.1 hx with rfl | hx
    · exact h1.jn.lt
    · exact h1.disk.lt x hx
  have same : ∀ x ∈ b :: G, w'.heap[x]? = W.heap[x]? := fun x hx => f.block x (lt1 x hx) fun hm => by
    simp at hm
    rcases hm with rfl | rfl
    · exact h3 _ hx (by simp)
    · exact h3 _ hx (by simp [hrm])
  have hs := h5.size
  refine ⟨e1, G, G', ⟨h1.disk.local fun x hx => same x (by simp [hx]), h1.jn.local (same b (by simp)), h1.off⟩, g, fun x hx hr => ?_, fun x hx => ?_, frame_below f h5 fun x hx => ?_⟩
  · rcases List.mem_cons.1 hr with rfl | hr
    · exact h3 _ hx (by simp)
    · rcases hn x hr with hg | hg
      · exact h3 x hx (by simp [hg])
      · have := lt1 x hx; omega
  · rcases List.mem_append.1 hx with hx | hx
    · exact h4 x (List.mem_append_left _ hx)
    · rcases List.mem_cons.1 hx with rfl | hx
      · exact h4 _ (by simp)
      · rcases hn x hx with hg | hg
        · exact h4 x (by simp [hg])
        · omega
  · simp at hx
    rcases hx with rfl | rfl
    · exact h4 _ (by simp)
    · exact h4 _ (by simp [hrm])
end
end Go.Proofs.YtlaepdpgegoopaaGreat
namespace Go.Proofs.YtlaepdpgegoopaaGreat
open Go.ChangeShapes Go.WideShapes Go.ChangeAt Go.RowKit Csv Go.Deep Dk

/-- A file as it came in. -/
structure FileIn where
  n : Int
  s : ByteArray
structure FileIn.Good (x : FileIn) : Prop where
  n : I64 x.n
  s : x.s.size ≤ maxLen
def FileInAt (w : World) (a : Addr) (x : FileIn) : Prop := w.cell? a = some (.int .i64 x.n) ∧ w.cell? ⟨a.block, a.off + 1, none⟩ = some (.string x.s)
theorem FileInAt.keeps {w w' : World} {a : Addr} {x : FileIn} (h : FileInAt w a x) (k : Keeps w w') : FileInAt w' a x := ⟨cell_keeps k h.1, cell_keeps k h.2⟩
def FilesInAt (w : World) (v : Value) (L : List FileIn) : Prop :=
  ∃ p c, v = .slice p L.length c ∧ L.length ≤ maxLen ∧ ∀ j x, L[j]? = some x → x.Good ∧ ∃ a : Addr, p = some a ∧ FileInAt w (a.add (j * 2)) x
theorem FilesInAt.keeps {w w' : World} {v : Value} {L : List FileIn} (h : FilesInAt w v L) (k : Keeps w w') : FilesInAt w' v L := by
  obtain ⟨p, c, h1, h2, h3⟩ := h
  refine ⟨p, c, h1, h2, fun j x hx => ?_⟩
  obtain ⟨g, a, ha, hc⟩ := h3 j x hx
  exact ⟨g, a, ha, hc.keeps k⟩

abbrev tFileIn : TypeId := 32
variable {H : Type} {enc : TypeId × Value → H} {w : World} {base : Nat} {held : Bool}
theorem cells_fileIn : Tryz.prog.cellsOf tFileIn = 2 := by kernel_rfl
theorem two_of {α : Type} {l : List α} (h : l.length = 2) : ∃ a b, l = [a, b] := by
  match l, h with
  | [a, b], _ => exact ⟨a, b, rfl⟩
/-- The two cells of a file, read. -/
theorem fileIn_of {fuel : Nat} {cs : List Value} {x : DataW H × List MemPlace} (h : DataW.trod enc Tryz.prog w base (fun _ => true) held fuel tFileIn cs = some x) :
    ∃ a : FileIn, cs = [.int .i64 a.n, .string a.s] ∧ a.Good := by
  obtain ⟨ys, n, _, _, hlen, hyl, hf⟩ := DataW.trod_struct Tryz.underlying32 h
  rw [cells_fileIn] at hlen
  obtain ⟨c0, c1, rfl⟩ := two_of hlen
  have hys : ys.length = 2 := hyl
  have g : ∀ i, i < 2 → ∃ y, ys[i]? = some y := fun i hi => ⟨_, List.getElem?_eq_getElem (by omega)⟩
  have f0 : DataW.trod enc Tryz.prog w base (fun _ => true) held n 3 (([c0, c1].drop 0).take (Tryz.prog.cellsOf 3)) = ys[0]? := hf 0 _ rfl
  have f1 : DataW.trod enc Tryz.prog w base (fun _ => true) held n 9 (([c0, c1].drop 1).take (Tryz.prog.cellsOf 9)) = ys[1]? := hf 1 _ rfl
  simp only [cells_int, cells_str, List.drop_zero, List.take_succ_cons, List.take_zero, List.drop_succ_cons] at f0 f1
  obtain ⟨y0, e0⟩ := g 0 (by omega)
  obtain ⟨y1, e1⟩ := g 1 (by omega)
  rw [e0] at f0
  rw [e1] at f1
  obtain ⟨k, q0, _, w0⟩ := DataW.trod_int Tryz.underlying3 f0
  obtain ⟨s, q1, _, w1⟩ := DataW.trod_string Tryz.underlying9 f1
  obtain rfl := (List.cons.inj q0).1
  obtain rfl := (List.cons.inj q1).1
  exact ⟨⟨k, s⟩, rfl, i64_of w0, w1⟩
theorem open_files_arg {p : Option Addr} {n c : Nat} {v : Value} {d : DataW H} {ps : List MemPlace} (e : v = .slice p n c) (h : DataW.Trod enc Tryz.prog w base (fun _ => true) held 22 v d ps) : ∃ L : List FileIn, FilesInAt w v L := by
  obtain ⟨fuel, h⟩ := h
  subst e
  rcases open_slice Tryz.underlying22 h with ⟨hcs, _⟩ | ⟨a, len, cap, m, n', D, Pl, hcs, _, hl, hm, hz, _, hi⟩
  · rw [(List.cons.inj hcs).1]
    exact ⟨[], none, 0, rfl, by simp [maxLen], fun j x hx => by simp at hx⟩
  · rw [(List.cons.inj hcs).1]
    simp only [if_true] at hz
    have key : ∀ i, i < len → ∃ x : FileIn, x.Good ∧ FileInAt w (a.add (i * 2)) x := by
      intro i hil
      obtain ⟨cs', h1, h2⟩ := hi i (by omega)
      rw [cells_fileIn] at h1
      obtain ⟨x, rfl, hg⟩ := fileIn_of h2
      obtain ⟨_, _, hat⟩ := World.cells?_some h1
      refine ⟨x, hg, ?_, ?_⟩
      · have h0 := hat 0 (by omega)
        have e : (a.add (i * 2)).add 0 = a.add (i * 2) := rfl
        rw [e] at h0
        exact h0
      · have h0 := hat 1 (by omega)
        have e : (a.add (i * 2)).add 1 = ⟨(a.add (i * 2)).block, (a.add (i * 2)).off + 1, none⟩ := by
          unfold Addr.add
          rw [if_neg (by omega : ¬ 1 = 0)]
        rw [e] at h0
        exact h0
    refine ⟨(List.range len).pmap (fun i hi => (key i hi).choose) (fun i hi => List.mem_range.1 hi), some a, cap, ?_, ?_, fun j x hx => ?_⟩
    · simp
    · simp; omega
    · rw [List.getElem?_pmap] at hx
      by_cases hj : j < len
      · simp only [List.getElem?_range hj, Option.pmap_some, Option.some.injEq] at hx
        subst hx
        exact ⟨(key j hj).choose_spec.1, a, rfl, (key j hj).choose_spec.2⟩
      · have : (List.range len)[j]? = none := List.getElem?_eq_none (by simp; omega)
        simp [this] at hx
end Go.Proofs.YtlaepdpgegoopaaGreat
