
/- Bytes that lie in a block of their own: read, written, made of a text, made a text. -/
import Derived.Test.YtlaepdpgegoopaaGreatArith
import Derived.Laws.IdiomStrings
import Derived.Deep.OwnRows
import Derived.Lib.LazyBuf
set_option linter.unusedVariables false
namespace Go.Proofs.YtlaepdpgegoopaaGreat
open Go.ChangeShapes Go.WideShapes Go.ChangeAt Go.RowKit

theorem info_byte : (Tryz.prog.info? 5).map (fun i => (i.zero, i.size, i.bytes)) = some (some (.int .u8 0), 1, 1) := by kernel_rfl

/-- The bytes l lie in block g, from its head on, and may be written. -/
def Lies (w : World) (g : Nat) (l : List UInt8) : Prop := g < w.heap.size ∧ ∀ i, i < l.length → w.cell? ⟨g, i, none⟩ = (l.map bv)[i]? ∧ w.frozen? ⟨g, i, none⟩ = false

theorem Lies.at {w : World} {g : Nat} {l : List UInt8} (h : Lies w g l) (i : Nat) (hi : i < l.length) : w.cell? ⟨g, i, none⟩ = some (.int .u8 l[i].toNat) := by
  rw [(h.2 i hi).1]; simp [hi]
theorem Lies.loose {w : World} {g : Nat} {l : List UInt8} (h : Lies w g l) (i : Nat) (hi : i < l.length) : w.frozen? ⟨g, i, none⟩ = false := (h.2 i hi).2
theorem Lies.set {w : World} {g : Nat} {l : List UInt8} (h : Lies w g l) (i : Nat) (hi : i < l.length) (v : Int) (c : UInt8) (hv : v = c.toNat) : Lies (w.setCell ⟨g, i, none⟩ (.int .u8 v)) g (l.set i c) := by
  refine ⟨by simpa using h.1, fun j hj => ?_⟩
  rw [List.length_set] at hj
  rw [World.frozen?_setCell]
  refine ⟨?_, (h.2 j hj).2⟩
  by_cases e : i = j
  · subst e
    rw [World.cell?_setCell_same (h := h.at i hi), hv]
    simp [hi]
  · rw [World.cell?_setCell_other (h := by intro q; exact e (by injection q)), (h.2 j hj).1, List.map_set, List.getElem?_set_ne e]
theorem Lies.below {w w' : World} {g B : Nat} {l : List UInt8} (h : Lies w g l) (hb : Below B w w') (hg : g < B) : Lies w' g l :=
  ⟨Nat.lt_of_lt_of_le h.1 hb.size, fun i hi => ⟨(hb.cell (p := ⟨g, i, none⟩) hg).trans (h.2 i hi).1, (hb.frozen (p := ⟨g, i, none⟩) hg).trans (h.2 i hi).2⟩⟩
theorem Lies.keeps {w w' : World} {g : Nat} {l : List UInt8} (h : Lies w g l) (hb : Keeps w w') : Lies w' g l := h.below hb h.1
theorem Lies.drew {w : World} {g : Nat} {l : List UInt8} (h : Lies w g l) : Lies w.drew g l := h
theorem Lies.text {P : Program} {w : World} {g : Nat} {l : List UInt8} (h : Lies w g l) (src e dst : TypeId) (hs : P.underlying src = some (.slice e)) (he : P.underlying e = some (.int .u8)) (hd : P.underlying dst = some .string) (n cap : Nat) (hn : l.length = n) :
    (convert src dst (.slice (some ⟨g, 0, none⟩) n cap)).run P w = .ok (.string ⟨l.toArray⟩) w :=
  loaded_string w src e hs he g n cap l hn (fun i hi => (h.2 i (by omega)).1) dst hd
/-- What 'make' laid. -/
theorem Lies.made {w : World} {B g n cap : Nat} {e : TypeId} {l : List UInt8} (h : w.ownsRow B e 1 (.slice (some ⟨g, 0, none⟩) n cap) n (l.map bv)) : Lies w g l := by
  have hl : l.length = n := by have := h.1; simpa using this
  refine ⟨(h.lt g rfl).2, fun i hi => ⟨h.cellAt i (by omega), h.frozenAt i⟩⟩
theorem lies_zeros (n : Nat) : (madeCells (Value.int .u8 0).cells (n * 1)).toList = (List.replicate n (0 : UInt8)).map bv := by
  rw [Nat.mul_one, show (Value.int .u8 0).cells = #[Value.int .u8 0] from rfl, toList_madeCells_one, List.map_replicate]; rfl
/-- '[]byte(s)'. -/
theorem bytes_lie (w : World) (s : ByteArray) : ∃ (cap : Nat) (w1 : World), (convert 9 51 (.string s)).run Tryz.prog w = .ok (.slice (some ⟨w.heap.size, 0, none⟩) s.size cap) w1 ∧ s.size ≤ cap ∧ Keeps w w1 ∧ Lies w1 w.heap.size s.data.toList ∧ w.heap.size < w1.heap.size := by
  have hr := run_bytes_of_string (P := Tryz.prog) w 9 51 5 s Tryz.underlying9 Tryz.underlying51 Tryz.underlying5
  have hge := grownCap_ge w s.size 0 5
  generalize grownCap w s.size 0 5 = cap at hr hge
  have hsz : s.size ≤ (bytesRow s cap).size := by unfold bytesRow; simp
  have hh : ∀ o, (w.drew.alloc o).heap.size = w.heap.size + 1 := fun o => by simp
  refine ⟨cap, _, hr, hge, ((Below.refl _ _).drew).alloc (Nat.le_refl _) _, ⟨by rw [hh]; omega, fun i hi => ⟨?_, ?_⟩⟩, by rw [hh]; omega⟩
  · rw [len_data] at hi
    refine (World.cell?_alloc_mark w.drew _ _ _ _).trans ?_
    rw [bytesRow_at s cap i hi, List.getElem?_map, List.getElem?_eq_getElem (by rw [len_data]; exact hi)]
    rfl
  · rw [len_data] at hi
    refine (World.frozen?_alloc_mark w.drew _ _ _ _ _).trans ?_
    rw [decide_eq_false (by omega)]; rfl

/-- A row of noughts, as 'make([]byte, n)' lays it. -/
def zrow (n : Nat) : Obj := .cells (madeCells #[.int .u8 0] n) 5
theorem make_zrow (n : Nat) (hn : n ≤ 281474976710656) : ∀ w : World, (Instr.makeSlice 51 (.int .i64 (n : Int)) (.int .i64 (n : Int))).run Tryz.prog w = .ok (.slice (some ⟨w.heap.size, 0, none⟩) n n) (w.alloc (zrow n)) :=
  fun w => run_make_row' (P := Tryz.prog) 51 5 (.int .u8 0) 1 Tryz.underlying51 info_byte rfl .i64 .i64 n (by omega) (by omega) w
theorem lies_zrow (w : World) (n : Nat) : Lies (w.alloc (zrow n)) w.heap.size (List.replicate n 0) := by
  refine ⟨by simp, fun i hi => ⟨?_, ?_⟩⟩
  · rw [zrow, World.cell?_alloc_at _ _ _ _ rfl, ← Array.getElem?_toList, toList_madeCells_one, List.map_replicate]; rfl
  · exact World.frozen?_alloc_at _ _ _ _ rfl
set_option maxRecDepth 100000 in
/-- 'copy(dst, s)', s a text that fits. -/
theorem Lies.copy {w : World} {g : Nat} {l : List UInt8} (h : Lies w g l) (s : ByteArray) (hs : s.size ≤ l.length) (ty n cap : Nat) (hn : l.length = n) : ∃ w1, (Builtin.copy_ #[51, 9] ty #[.slice (some ⟨g, 0, none⟩) n cap, .string s]).run Tryz.prog w = .ok (goInt s.size) w1 ∧
    Lies w1 g (s.data.toList ++ l.drop s.size) ∧ (∀ g' l', g' ≠ g → Lies w g' l' → Lies w1 g' l') ∧ (∀ B W0, B ≤ g → Below B W0 w → Below B W0 w1) := by
  have hz : ∀ w, (Go.sizeOf 5).run Tryz.prog w = .ok 1 w := fun w => by kernel_rfl
  have hr := run_copy_string (P := Tryz.prog) w 51 9 ty 5 g 0 n cap s Tryz.underlying51 hz (by omega)
    (fun j hj => by rw [Nat.zero_add, h.at j (by omega)]; rfl) (fun j hj => by rw [Nat.zero_add]; exact h.loose j (by omega))
  have hcl : (s.data.toList.map fun x => Value.int .u8 (x.toNat : Int)).length = s.size := by simp
  have hsz : ∀ (vs : List Value) (o : Nat) (w : World), (w.setCells g o vs).heap.size = w.heap.size := by
    intro vs
    induction vs with
    | nil => intro o w; rfl
    | cons v r ih => intro o w; rw [World.setCells, ih]; simp
  refine ⟨_, hr, ⟨by rw [hsz]; exact h.1, fun i hi => ⟨?_, ?_⟩⟩, fun g' l' hne h' => ⟨by rw [hsz]; exact h'.1, fun i hi => ⟨?_, ?_⟩⟩, fun B W0 hB hb => below_setCells hB _ _ _ hb⟩
  · rw [List.length_append, len_data, List.length_drop] at hi
    by_cases hlt : i < s.size
    · have := World.cell?_setCells_in g (s.data.toList.map fun x => Value.int .u8 (x.toNat : Int)) 0 w (fun j hj => by rw [Nat.zero_add, h.at j (by rw [hcl] at hj; omega)]; rfl) i (by rw [hcl]; exact hlt)
      rw [Nat.zero_add] at this
      rw [this, List.map_append, List.getElem?_append_left (by simpa using hlt)]
      exact (List.getElem?_eq_getElem (by simpa using hlt)).symm
    · have := World.cell?_setCells_out g (s.data.toList.map fun x => Value.int .u8 (x.toNat : Int)) 0 w ⟨g, i, none⟩ (fun _ _ => Or.inr (by rw [hcl]; show 0 + s.size ≤ i; omega))
      rw [this, (h.2 i (by omega)).1, List.map_append, List.getElem?_append_right (by simp; omega), List.map_drop, List.getElem?_drop]
      congr 1
      simp; omega
  · rw [World.frozen?_setCells]
    rw [List.length_append, len_data, List.length_drop] at hi
    exact h.loose i (by omega)
  · rw [World.cell?_setCells_out g _ 0 w ⟨g', i, none⟩ (fun e => absurd e hne)]; exact (h'.2 i hi).1
  · rw [World.frozen?_setCells]; exact (h'.2 i hi).2
end Go.Proofs.YtlaepdpgegoopaaGreat
