
/- A disk in memory: the struct, the map of its files, each file's struct and bytes, the failure that is set; what becomes of it where blocks turn. -/
import Derived.Test.YtlaepdpgegoopaaGreatDiskMath
import Derived.Test.YtlaepdpgegoopaaGreatRowsLaid
import Derived.Maps.RangeWalk
import Derived.Lib.SmallJoins
set_option linter.unusedVariables false
namespace Go.Proofs.YtlaepdpgegoopaaGreat
open Go.ChangeShapes Go.WideShapes Go.ChangeAt Go.RowKit Go.Maps Csv Dk

abbrev tDk : TypeId := 55
abbrev tFl : TypeId := 63
abbrev tFa : TypeId := 97
abbrev tMp : TypeId := 52
abbrev tPf : TypeId := 61
abbrev tI : TypeId := 3
abbrev tU8 : TypeId := 5

/-! ### Worlds in which just some blocks turn -/
structure Frame (G : List Nat) (w w' : World) : Prop where
  os : w'.os = w.os
  tape : w'.tape = w.tape
  output : w'.output = w.output
  size : w.heap.size ≤ w'.heap.size
  block : ∀ i, i < w.heap.size → i ∉ G → w'.heap[i]? = w.heap[i]?
theorem Frame.refl (G : List Nat) (w : World) : Frame G w w := ⟨rfl, rfl, rfl, Nat.le_refl _, fun _ _ _ => rfl⟩
theorem Frame.trans {G G1 : List Nat} {a b c : World} (h : Frame G a b) (g : Frame G1 b c) (hG : ∀ x ∈ G1, x ∈ G ∨ a.heap.size ≤ x) : Frame G a c :=
  ⟨g.os.trans h.os, g.tape.trans h.tape, g.output.trans h.output, Nat.le_trans h.size g.size, fun i hi hn =>
    (g.block i (Nat.lt_of_lt_of_le hi h.size) (fun hx => by (rcases hG i hx with h1 | h1); (· exact hn h1); (· omega))).trans (h.block i hi hn)⟩
theorem Frame.mono {G G1 : List Nat} {a b : World} (h : Frame G a b) (hG : ∀ x ∈ G, x ∈ G1) : Frame G1 a b :=
  ⟨h.os, h.tape, h.output, h.size, fun i hi hn => h.block i hi fun hx => hn (hG i hx)⟩
theorem Frame.of_keeps {w w' : World} (k : Keeps w w') (G : List Nat) : Frame G w w' := ⟨k.os, k.tape, k.output, k.size, fun i hi _ => k.block i hi⟩
theorem Frame.of_grown {w w' : World} {row : Option Nat} (k : w.grownBy w' row) {G : List Nat} (hG : ∀ g, row = some g → g ∈ G) : Frame G w w' :=
  ⟨k.os, k.tape, k.output, k.size, fun i hi hn => k.block i hi fun e => hn (hG i e.symm)⟩
theorem Frame.below {B : Nat} {G : List Nat} {w w' : World} (h : Frame G w w') (hB : B ≤ w.heap.size) (hG : ∀ x ∈ G, B ≤ x) : Below B w w' :=
  ⟨h.os, h.tape, h.output, h.size, fun i hi => h.block i (by omega) fun hx => by have := hG i hx; omega⟩
theorem Frame.keeps {w w' : World} (h : Frame [] w w') : Keeps w w' := h.below (Nat.le_refl _) (by simp)
theorem grown_setCell (w : World) (g i : Nat) (v : Value) : w.grownBy (w.setCell ⟨g, i, none⟩ v) (some g) :=
  ⟨rfl, rfl, rfl, by simp, fun k hk hn => Below.heap_setCell _ _ _ _ fun e => hn (by rw [e])⟩

/-! ### What blocks hold -/
theorem own_local {w w' : World} {B : Nat} {e : TypeId} {s : Nat} {v : Value} {n : Nat} {xs : List Value} (h : w.ownsRow B e s v n xs) (hk : ∀ g, v.ownBlock = some g → w'.heap[g]? = w.heap[g]?) : w'.ownsRow B e s v n xs := by
  obtain ⟨h1, h2⟩ := h
  refine ⟨h1, ?_⟩
  rcases h2 with h2 | ⟨g, cap, cur, rfl, hb, hg, r⟩
  · exact Or.inl h2
  · exact Or.inr ⟨g, cap, cur, rfl, hb, (hk g rfl).trans hg, r⟩
theorem own_base {w : World} {B B' : Nat} {e : TypeId} {s : Nat} {v : Value} {n : Nat} {xs : List Value} (h : w.ownsRow B e s v n xs) (hB : ∀ g, v.ownBlock = some g → B' ≤ g) : w.ownsRow B' e s v n xs := by
  obtain ⟨h1, h2⟩ := h
  refine ⟨h1, ?_⟩
  rcases h2 with h2 | ⟨g, cap, cur, rfl, hb, hg, r⟩
  · exact Or.inl h2
  · exact Or.inr ⟨g, cap, cur, rfl, hB g rfl, hg, r⟩
theorem own_zero {w : World} {B : Nat} {e : TypeId} {s : Nat} {v : Value} {n : Nat} {xs : List Value} (h : w.ownsRow B e s v n xs) : w.ownsRow 0 e s v n xs := own_base h fun _ _ => Nat.zero_le _
theorem own_tag {w : World} {B : Nat} {e : TypeId} {s : Nat} {v : Value} {n : Nat} {xs : List Value} (h : w.ownsRow B e s v n xs) {g : Nat} (hg : v.ownBlock = some g) : ∃ c, w.heap[g]? = some (.cells c e (0, 0)) := by
  rcases h.2 with ⟨rfl, _⟩ | ⟨g', cap, cur, rfl, hb, hg', r⟩
  · cases hg
  · cases hg; exact ⟨_, hg'⟩
theorem map_local {P : Program} {H : Type} {w w' : World} {k : TypeId} {R : Value → Option (DataW H × List MemPlace)} {b n : Nat} {D : DataW H} (h : w.ownsMap P k R b n D) (e : w'.heap[b]? = w.heap[b]?) : w'.ownsMap P k R b n D := by
  obtain ⟨es, clock, hb, r⟩ := h
  exact ⟨es, clock, e.trans hb, r⟩
theorem tag_ne {w : World} {a b : Nat} {c c' : Array Value} {t t' : TypeId} (h : w.heap[a]? = some (.cells c t (0, 0))) (h' : w.heap[b]? = some (.cells c' t' (0, 0))) (hne : t ≠ t') : a ≠ b := by
  rintro rfl
  rw [h] at h'
  simp only [Option.some.injEq, Obj.cells.injEq] at h'
  exact hne h'.2.1
theorem block_lt {w : World} {a : Nat} {o : Obj} (h : w.heap[a]? = some o) : a < w.heap.size := (Array.getElem?_eq_some_iff.1 h).1

/-! ### A file -/
structure FB where
  blk : Nat
  row : Option Nat
abbrev Ent := FileM × FB
def ptrV (b : Nat) : Value := .pointer (some ⟨b, 0, none⟩)
/-- How an element of the map reads: a pointer to a block's head, or nil. -/
def ptrR (v : Value) : Option (DataW Nat × List MemPlace) :=
  match v with
  | .pointer none => some (.nil, [])
  | .pointer (some a) => if a.off = 0 ∧ a.spot = none then some (.held a.block, []) else none
  | _ => none
theorem ptrR_nil {v : Value} {ps : List MemPlace} (h : ptrR v = some (.nil, ps)) : v = .pointer none := by
  unfold ptrR at h
  split at h
  · rfl
  · split at h <;> simp at h
  · cases h
theorem ptrR_held {v : Value} {b : Nat} {ps : List MemPlace} (h : ptrR v = some (.held b, ps)) : v = ptrV b := by
  unfold ptrR at h
  split at h
  · simp at h
  · rename_i a
    split at h
    · rename_i hc
      obtain ⟨bl, off, sp⟩ := a
      simp at h hc
      obtain ⟨rfl, rfl⟩ := hc
      rw [ptrV, h.1]
    · cases h
  · cases h
theorem ptrR_inv {v : Value} {y : DataW Nat × List MemPlace} (h : ptrR v = some y) : ∃ p : Option Addr, v = .pointer p := by
  unfold ptrR at h
  split at h
  · exact ⟨_, rfl⟩
  · exact ⟨_, rfl⟩
  · cases h
theorem ptrR_ptrV (b : Nat) : ptrR (ptrV b) = some (.held b, []) := by simp [ptrR, ptrV]

def FileAt (w : World) (x : Ent) : Prop :=
  ∃ v, w.heap[x.2.blk]? = some (.cells #[v, .int .i64 (x.1.sure : Int)] tFl (0, 0)) ∧ w.ownsRow 0 tU8 1 v x.1.data.length (x.1.data.map bv) ∧ v.ownBlock = x.2.row
theorem FileAt.local {w w' : World} {x : Ent} (h : FileAt w x) (h1 : w'.heap[x.2.blk]? = w.heap[x.2.blk]?) (h2 : ∀ r, x.2.row = some r → w'.heap[r]? = w.heap[r]?) : FileAt w' x := by
  obtain ⟨v, a, b, c⟩ := h
  exact ⟨v, h1.trans a, own_local b fun g hg => h2 g (c ▸ hg), c⟩
theorem FileAt.tag {w : World} {x : Ent} (h : FileAt w x) : ∃ c, w.heap[x.2.blk]? = some (.cells c tFl (0, 0)) := by
  obtain ⟨v, a, _⟩ := h; exact ⟨_, a⟩
theorem FileAt.rowtag {w : World} {x : Ent} (h : FileAt w x) {r : Nat} (hr : x.2.row = some r) : ∃ c, w.heap[r]? = some (.cells c tU8 (0, 0)) := by
  obtain ⟨v, a, b, c⟩ := h
  exact own_tag b (c.trans hr)

def ent (x : Ent) : Lit × DataW Nat := (.int .i64 x.1.n, .held x.2.blk)
def mapD (L : List Ent) : DataW Nat := .map (L.map ent)
def Apart (x y : Ent) : Prop := x.2.blk ≠ y.2.blk ∧ ∀ r, x.2.row = some r → y.2.row ≠ some r
theorem Apart.symm {x y : Ent} (h : Apart x y) : Apart y x := ⟨h.1.symm, fun r h1 h2 => h.2 r h2 h1⟩
theorem apart_iff {L : List Ent} : L.Pairwise Apart ↔ ∀ (i j : Nat) (x y : Ent), L[i]? = some x → L[j]? = some y → i ≠ j → Apart x y := by
  rw [List.pairwise_iff_getElem]
  constructor
  · intro h i j x y hi hj hne
    obtain ⟨hi1, rfl⟩ := List.getElem?_eq_some_iff.1 hi
    obtain ⟨hj1, rfl⟩ := List.getElem?_eq_some_iff.1 hj
    rcases Nat.lt_or_gt_of_ne hne with h1 | h1
    · exact h i j hi1 hj1 h1
    · exact (h j i hj1 hi1 h1).symm
  · intro h i j hi hj hlt
    exact h i j _ _ (List.getElem?_eq_getElem hi) (List.getElem?_eq_getElem hj) (by omega)

/-! ### A failure that is set -/
def FailAt (w : World) (k : Option (Nat × Option Nat)) (f : Option (Nat × List Int)) : Prop :=
  match k, f with
  | none, none => True
  | some (b, r), some (a, ks) => ∃ v, w.heap[b]? = some (.cells #[.int .i64 (a : Int), v] tFa (0, 0)) ∧ w.ownsRow 0 tI 1 v ks.length (ivs ks) ∧ v.ownBlock = r
  | _, _ => False
def footK (k : Option (Nat × Option Nat)) : List Nat := match k with | none => [] | some (b, r) => b :: r.toList
theorem FailAt.local {w w' : World} {k : Option (Nat × Option Nat)} {f : Option (Nat × List Int)} (h : FailAt w k f) (hk : ∀ b ∈ footK k, w'.heap[b]? = w.heap[b]?) : FailAt w' k f := by
  rcases k with _ | ⟨b, r⟩ <;> rcases f with _ | ⟨a, ks⟩ <;> simp only [FailAt] at h ⊢
  obtain ⟨v, h1, h2, h3⟩ := h
  refine ⟨v, (hk b (by simp [footK])).trans h1, own_local h2 fun g hg => hk g ?_, h3⟩
  rw [h3] at hg
  simp [footK, hg]
theorem FailAt.tags {w : World} {k : Option (Nat × Option Nat)} {f : Option (Nat × List Int)} (h : FailAt w k f) : ∀ b ∈ footK k, ∃ c, w.heap[b]? = some (.cells c tFa (0, 0)) ∨ w.heap[b]? = some (.cells c tI (0, 0)) := by
  rcases k with _ | ⟨b, r⟩ <;> rcases f with _ | ⟨a, ks⟩ <;> simp only [FailAt] at h
  · intro b hb; cases hb
  · obtain ⟨v, h1, h2, h3⟩ := h
    intro g hg
    simp only [footK, List.mem_cons, Option.mem_toList] at hg
    rcases hg with rfl | hg
    · exact ⟨_, Or.inl h1⟩
    · obtain ⟨c, hc⟩ := own_tag h2 (h3.trans hg)
      exact ⟨c, Or.inr hc⟩

/-! ### A disk -/
def footF (L : List Ent) : List Nat := L.flatMap fun x => x.2.blk :: x.2.row.toList
def foot (d m : Nat) (L : List Ent) (k : Option (Nat × Option Nat)) : List Nat := d :: m :: (footF L ++ footK k)
theorem mem_footF {L : List Ent} {b : Nat} : b ∈ footF L ↔ ∃ x ∈ L, b = x.2.blk ∨ x.2.row = some b := by
  unfold footF
  rw [List.mem_flatMap]
  simp
theorem mem_foot {d m b : Nat} {L : List Ent} {k : Option (Nat × Option Nat)} : b ∈ foot d m L k ↔ b = d ∨ b = m ∨ b ∈ footF L ∨ b ∈ footK k := by
  unfold foot; simp
def diskCells (m : Nat) (k : Option (Nat × Option Nat)) (D : DiskM) : Array Value :=
  #[.int .i64 (D.cap : Int), .map (some m), .bool D.up, .int .i64 D.starts, .pointer (k.map fun x => ⟨x.1, 0, none⟩)]
structure DiskAt (w : World) (d m : Nat) (L : List Ent) (k : Option (Nat × Option Nat)) (D : DiskM) : Prop where
  lst : D.files = L.map (·.1)
  disk : w.heap[d]? = some (.cells (diskCells m k D) tDk (0, 0))
  map : w.ownsMap Tryz.prog tI ptrR m L.length (mapD L)
  files : ∀ x ∈ L, FileAt w x
  apart : L.Pairwise Apart
  fail : FailAt w k D.fail
  okay : Okay D
def IsDisk (w : World) (d : Nat) (D : DiskM) (G : List Nat) : Prop := ∃ m L k, DiskAt w d m L k D ∧ G = foot d m L k
def Goes (w w' : World) (G : List Nat) (d : Nat) (D : DiskM) : Prop := ∃ G', IsDisk w' d D G' ∧ Frame G w w' ∧ ∀ b ∈ G', b ∈ G ∨ w.heap.size ≤ b

section
variable {w w' : World} {d m : Nat} {L : List Ent} {k : Option (Nat × Option Nat)} {D : DiskM}
theorem map_tag {P : Program} {H : Type} {kt : TypeId} {R : Value → Option (DataW H × List MemPlace)} {b n : Nat} {DD : DataW H} (h : w.ownsMap P kt R b n DD) {a : Nat} {c : Array Value} {t : TypeId} (ha : w.heap[a]? = some (.cells c t (0, 0))) : a ≠ b := by
  obtain ⟨es, clock, hb, _⟩ := h
  rintro rfl
  rw [ha] at hb
  cases hb
theorem DiskAt.local (h : DiskAt w d m L k D) (hk : ∀ b ∈ foot d m L k, w'.heap[b]? = w.heap[b]?) : DiskAt w' d m L k D := by
  refine ⟨h.lst, (hk d (by simp [foot])).trans h.disk, map_local h.map (hk m (by simp [foot])), fun x hx => ?_, h.apart, ?_, h.okay⟩
  · exact (h.files x hx).local (hk _ (mem_foot.2 (Or.inr (Or.inr (Or.inl (mem_footF.2 ⟨x, hx, Or.inl rfl⟩)))))) fun r hr => hk r (mem_foot.2 (Or.inr (Or.inr (Or.inl (mem_footF.2 ⟨x, hx, Or.inr hr⟩)))))
  · exact h.fail.local fun b hb => hk b (mem_foot.2 (Or.inr (Or.inr (Or.inr hb))))
theorem DiskAt.lt (h : DiskAt w d m L k D) : ∀ b ∈ foot d m L k, b < w.heap.size := by
  intro b hb
  rcases mem_foot.1 hb with rfl | rfl | hb | hb
  · exact block_lt h.disk
  · exact h.map.lt
  · obtain ⟨x, hx, rfl | hr⟩ := mem_footF.1 hb
    · obtain ⟨c, hc⟩ := (h.files x hx).tag; exact block_lt hc
    · obtain ⟨c, hc⟩ := (h.files x hx).rowtag hr; exact block_lt hc
  · obtain ⟨c, hc | hc⟩ := h.fail.tags b hb <;> exact block_lt hc
/-- The disk's own block is none of the others. -/
theorem DiskAt.d_ne (h : DiskAt w d m L k D) : d ≠ m ∧ (∀ b ∈ footF L, b ≠ d) ∧ ∀ b ∈ footK k, b ≠ d := by
  refine ⟨map_tag h.map h.disk, fun b hb => ?_, fun b hb => ?_⟩
  · obtain ⟨x, hx, rfl | hr⟩ := mem_footF.1 hb
    · obtain ⟨c, hc⟩ := (h.files x hx).tag; exact tag_ne hc h.disk (by decide)
    · obtain ⟨c, hc⟩ := (h.files x hx).rowtag hr; exact tag_ne hc h.disk (by decide)
  · obtain ⟨c, hc | hc⟩ := h.fail.tags b hb <;> exact tag_ne hc h.disk (by decide)
theorem DiskAt.m_ne (h : DiskAt w d m L k D) : d ≠ m ∧ (∀ b ∈ footF L, b ≠ m) ∧ ∀ b ∈ footK k, b ≠ m := by
  refine ⟨map_tag h.map h.disk, fun b hb => ?_, fun b hb => ?_⟩
  · obtain ⟨x, hx, rfl | hr⟩ := mem_footF.1 hb
    · obtain ⟨c, hc⟩ := (h.files x hx).tag; exact map_tag h.map hc
    · obtain ⟨c, hc⟩ := (h.files x hx).rowtag hr; exact map_tag h.map hc
  · obtain ⟨c, hc | hc⟩ := h.fail.tags b hb <;> exact map_tag h.map hc
theorem DiskAt.k_ne (h : DiskAt w d m L k D) : ∀ b ∈ footK k, b ∉ footF L := by
  intro b hb hx
  obtain ⟨x, hxL, h1⟩ := mem_footF.1 hx
  have : ∃ c, w.heap[b]? = some (.cells c tFl (0, 0)) ∨ w.heap[b]? = some (.cells c tU8 (0, 0)) := by
    rcases h1 with rfl | hr
    · obtain ⟨c, hc⟩ := (h.files x hxL).tag; exact ⟨c, Or.inl hc⟩
    · obtain ⟨c, hc⟩ := (h.files x hxL).rowtag hr; exact ⟨c, Or.inr hc⟩
  obtain ⟨c, hc⟩ := this
  obtain ⟨c', hc'⟩ := h.fail.tags b hb
  rcases hc with hc | hc <;> rcases hc' with hc' | hc' <;> exact tag_ne hc hc' (by decide) rfl

/-- The struct alone has turned, and perhaps the failure, which is new then. -/
theorem DiskAt.turn {D' : DiskM} {k' : Option (Nat × Option Nat)} (h : DiskAt w d m L k D) (hf : ∀ b, b < w.heap.size → b ≠ d → w'.heap[b]? = w.heap[b]?) (hd : w'.heap[d]? = some (.cells (diskCells m k' D') tDk (0, 0))) (hl : D'.files = D.files)
    (hk : FailAt w' k' D'.fail) (ho : Okay D') : DiskAt w' d m L k' D' := by
  obtain ⟨n1, n2, n3⟩ := h.d_ne
  have hlt := h.lt
  refine ⟨hl.trans h.lst, hd, map_local h.map (hf m (hlt m (by simp [foot])) n1.symm), fun x hx => ?_, h.apart, hk, ho⟩
  have g : ∀ b, b ∈ footF L → w'.heap[b]? = w.heap[b]? := fun b hb => hf b (hlt b (mem_foot.2 (Or.inr (Or.inr (Or.inl hb))))) (n2 b hb)
  exact (h.files x hx).local (g _ (mem_footF.2 ⟨x, hx, Or.inl rfl⟩)) fun r hr => g r (mem_footF.2 ⟨x, hx, Or.inr hr⟩)
/-- One file has turned. -/
theorem DiskAt.file {D' : DiskM} {i : Nat} {x y : Ent} (h : DiskAt w d m L k D) (hi : L[i]? = some x) (hf : ∀ b, b < w.heap.size → b ≠ x.2.blk → x.2.row ≠ some b → w'.heap[b]? = w.heap[b]?) (hy : FileAt w' y) (hb : y.2.blk = x.2.blk) (hn : y.1.n = x.1.n)
    (hr : y.2.row = x.2.row ∨ ∀ r, y.2.row = some r → w.heap.size ≤ r) (hl : D'.files = (L.set i y).map (·.1)) (hc : D'.cap = D.cap) (hu : D'.up = D.up) (hs : D'.starts = D.starts) (hk : D'.fail = D.fail) (ho : Okay D') : DiskAt w' d m (L.set i y) k D' := by
  have hx : x ∈ L := List.mem_of_getElem? hi
  have hlt := h.lt
  have hil : i < L.length := (List.getElem?_eq_some_iff.1 hi).1
  obtain ⟨n1, n2, n3⟩ := h.d_ne
  obtain ⟨_, m2, m3⟩ := h.m_ne
  have b1 := mem_footF.2 ⟨x, hx, Or.inl rfl⟩
  have b2 : ∀ r, x.2.row = some r → r ∈ footF L := fun r hr => mem_footF.2 ⟨x, hx, Or.inr hr⟩
  have keep : ∀ b, b ∈ foot d m L k → b ∉ [x.2.blk] → x.2.row ≠ some b → w'.heap[b]? = w.heap[b]? := fun b hb hn1 hn2 => hf b (hlt b hb) (by simpa using hn1) hn2
  have hcells : diskCells m k D' = diskCells m k D := by unfold diskCells; rw [hc, hu, hs]
  have hent : (L.set i y).map ent = L.map ent := by
    apply List.ext_getElem?
    intro j
    rw [List.getElem?_map, List.getElem?_map, List.getElem?_set]
    split
    · rename_i e
      subst e
      rw [hi]
      simp [ent, hn, hb]
    · rfl
  refine ⟨hl, ?_, ?_, fun z hz => ?_, ?_, ?_, ho⟩
  · rw [hcells]
    refine (keep d (by simp [foot]) (by simpa using (n2 _ b1).symm) fun e => n2 d (b2 d e) rfl).trans h.disk
  · have := map_local h.map (keep m (by simp [foot]) (by simpa using (m2 _ b1).symm) fun e => m2 m (b2 m e) rfl)
    rw [List.length_set]
    unfold mapD at this ⊢
    rw [hent]; exact this
  · obtain ⟨j, hj⟩ := List.mem_iff_getElem?.1 hz
    rw [List.getElem?_set] at hj
    split at hj
    · rename_i e
      subst e
      cases hj
      exact hy
    · rename_i hne
      have hzL := List.mem_of_getElem? hj
      obtain ⟨a1, a2⟩ := apart_iff.1 h.apart i j x z hi hj hne
      obtain ⟨c1, hc1⟩ := (h.files z hzL).tag
      obtain ⟨c2, hc2⟩ := (h.files x hx).tag
      refine (h.files z hzL).local (keep _ (mem_foot.2 (Or.inr (Or.inr (Or.inl (mem_footF.2 ⟨z, hzL, Or.inl rfl⟩))))) (by simpa using a1.symm) fun e => ?_) fun r hr => keep r (mem_foot.2 (Or.inr (Or.inr (Or.inl (mem_footF.2 ⟨z, hzL, Or.inr hr⟩))))) ?_ fun e => a2 r e hr
      · obtain ⟨c3, hc3⟩ := (h.files x hx).rowtag e
        exact tag_ne hc1 hc3 (by decide) rfl
      · obtain ⟨c3, hc3⟩ := (h.files z hzL).rowtag hr
        simpa using tag_ne hc3 hc2 (by decide)
  · rw [apart_iff]
    have key : ∀ j z, L[j]? = some z → i ≠ j → Apart y z := by
      intro j z hj hne
      obtain ⟨a1, a2⟩ := apart_iff.1 h.apart i j x z hi hj hne
      refine ⟨by rw [hb]; exact a1, fun r hy' hz' => ?_⟩
      rcases hr with hr | hr
      · exact a2 r (hr ▸ hy') hz'
      · have := hr r hy'
        have := hlt r (mem_foot.2 (Or.inr (Or.inr (Or.inl (mem_footF.2 ⟨z, List.mem_of_getElem? hj, Or.inr hz'⟩)))))
        omega
    intro a b p q ha hb' hne
    rw [List.getElem?_set] at ha hb'
    split at ha
    · rename_i e
      subst e
      cases ha
      rw [if_neg hne] at hb'
      exact key b q hb' hne
    · rename_i hai
      split at hb'
      · rename_i e
        subst e
        cases hb'
        exact (key a p ha hai).symm
      · exact apart_iff.1 h.apart a b p q ha hb' hne
  · rw [hk]
    refine h.fail.local fun b hb' => keep b (mem_foot.2 (Or.inr (Or.inr (Or.inr hb')))) (fun e => ?_) fun e => h.k_ne b hb' (b2 b e)
    have : b = x.2.blk := by simpa using e
    exact h.k_ne b hb' (this ▸ b1)
theorem set_map {D : DiskM} {g : FileM → FileM} {i : Nat} {x y : Ent} (hr : Rising (L.map (·.1))) (hi : L[i]? = some x) (hy : y.1 = g x.1) : (L.set i y).map (·.1) = setF (L.map (·.1)) x.1.n g := by
  have hil : i < L.length := (List.getElem?_eq_some_iff.1 hi).1
  apply List.ext_getElem?
  intro j
  unfold setF
  rw [List.getElem?_map, List.getElem?_set, List.getElem?_map, List.getElem?_map]
  split
  · rename_i e
    subst e
    rw [hi]
    simp [hy]
  · rename_i hne
    cases hj : L[j]? with
    | none => rfl
    | some z =>
      have hz : z.1.n ≠ x.1.n := by
        have hj1 := (List.getElem?_eq_some_iff.1 hj).1
        have hr' := List.pairwise_iff_getElem.1 hr
        rcases Nat.lt_or_gt_of_ne hne with h1 | h1
        · have := hr' i j (by simpa using hil) (by simpa using hj1) h1
          simp [(List.getElem?_eq_some_iff.1 hi).2, (List.getElem?_eq_some_iff.1 hj).2] at this
          omega
        · have := hr' j i (by simpa using hj1) (by simpa using hil) h1
          simp [(List.getElem?_eq_some_iff.1 hi).2, (List.getElem?_eq_some_iff.1 hj).2] at this
          omega
      simp [hz]
/-- A file is found. -/
theorem find_at (h : DiskAt w d m L k D) {n : Int} {f : FileM} (hf : findF D.files n = some f) : ∃ (i : Nat) (x : Ent), L[i]? = some x ∧ x.1 = f ∧ x.1.n = n ∧ L.find? (fun x => x.1.n == n) = some x := by
  rw [h.lst] at hf
  unfold findF at hf
  rw [List.find?_map] at hf
  obtain ⟨x, hx, e⟩ := Option.map_eq_some_iff.1 hf
  have hx' : L.find? (fun x => x.1.n == n) = some x := hx
  obtain ⟨i, hi⟩ := List.mem_iff_getElem?.1 (List.mem_of_find?_eq_some hx')
  exact ⟨i, x, hi, e, by simpa using List.find?_some hx', hx'⟩
theorem find_no (h : DiskAt w d m L k D) {n : Int} (hf : findF D.files n = none) : L.find? (fun x => x.1.n == n) = none := by
  rw [h.lst] at hf
  unfold findF at hf
  rw [List.find?_map] at hf
  exact Option.map_eq_none_iff.1 hf
theorem mapD_at (L : List Ent) (n : Int) : (mapD L).atKey (.int .i64 n) .nil = match L.find? (fun x => x.1.n == n) with | some x => .held x.2.blk | none => .nil := by
  unfold mapD DataW.atKey
  simp only
  rw [List.find?_map]
  have e : (fun x : Ent => x.1.n == n) = ((fun p : Lit × DataW Nat => p.1.sameKey (.int .i64 n)) ∘ ent) := by
    funext x; simp [ent, Lit.sameKey]; rfl
  rw [e]
  cases L.find? ((fun p : Lit × DataW Nat => p.1.sameKey (.int .i64 n)) ∘ ent) <;> rfl
end
end Go.Proofs.YtlaepdpgegoopaaGreat
