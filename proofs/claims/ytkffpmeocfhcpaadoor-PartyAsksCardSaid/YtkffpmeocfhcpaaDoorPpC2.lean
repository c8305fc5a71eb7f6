
/- The program's party: its three maps (rows by keys, stocks by names of goods, names by orders): looked up, laid in, taken out; cloned. The program's party, as it lies: its box, its three maps; what a call of it may turn. The program's party: none, isKind, named. The program's party: left, write, refuse. -/
import Derived.Test.YtkffpmeocfhcpaaDoorSoD3
import Derived.Test.YtkffpmeocfhcpaaDoorPtMath
import Derived.Test.YtkffpmeocfhcpaaDoorPtRefC
import Derived.Maps.OwnSet
import Derived.Maps.Ext
import Derived.DeepKeys4
import Derived.WideKeyEntry
import Derived.Lib.LazyBuf
import Derived.Laws.IdiomCopy
import Derived.Shelf.SlMaps.Clone
set_option linter.unusedVariables false
namespace Go.Proofs.YtkffpmeocfhcpaaDoor
open Go.ChangeShapes Go.WideShapes Go.ChangeAt Go.RowKit Ky Rw
open Go.Maps (Keyed)
namespace Pp
abbrev tMk : TypeId := 53
abbrev tGo : TypeId := 74
abbrev tMg : TypeId := 54
abbrev tMo : TypeId := 55
theorem lawKy : Keyed Tryd.prog tKy := Keyed.of_law (deep_law_laid (by kernel_rfl) (m := 2) (by omega) (of_decide_eq_true (by kernel_rfl)) (by kernel_rfl) (by kernel_rfl))
theorem lawGo : Keyed Tryd.prog tGo := Keyed.of_law (deep_law_laid (by kernel_rfl) (m := 8) (by omega) (of_decide_eq_true (by kernel_rfl)) (by kernel_rfl) (by kernel_rfl))
theorem lawI : Keyed Tryd.prog 3 := Maps.int_keyed Tryd.underlying3
/-- A key of a map, and what is there, if anything. -/
def At (D : DataW Value) (k : Lit) : Option Value → Prop
  | none => Maps.has D k = false ∧ ∀ z, D.atKey k z = z
  | some v => Maps.has D k = true ∧ ∀ z, D.atKey k z = .held v
theorem at_nil (k : Lit) : At (.map []) k none := ⟨rfl, fun _ => rfl⟩
theorem At.put_same {D : DataW Value} {k : Lit} {v : Value} (hm : Maps.IsMap D) (hk : WideAt.IsKeyLit k) : At (D.put k (.held v)) k (some v) :=
  ⟨Maps.has_put_same hm hk _, fun z => Maps.atKey_put_same hm hk _ z⟩
theorem At.put_other {D : DataW Value} {k j : Lit} {d : DataW Value} {x : Option Value} (h : At D k x) (hne : k ≠ j) : At (D.put j d) k x := by
  cases x with
  | none => exact ⟨by rw [Maps.has_put_other hne]; exact h.1, fun z => by rw [Maps.atKey_put_other hne]; exact h.2 z⟩
  | some v => exact ⟨by rw [Maps.has_put_other hne]; exact h.1, fun z => by rw [Maps.atKey_put_other hne]; exact h.2 z⟩
section
variable {w : World} {b n : Nat} {D : DataW Value} {t k e : TypeId} {key z : Value} {kl : Lit} {x : Option Value}
theorem look_at (h : w.ownsMap Tryd.prog k asIs b n D) (K : Keyed Tryd.prog k) (ht : Tryd.prog.underlying t = some (.map k e)) (hz : (zeroValue e).run Tryd.prog w = .ok z w) (hkey : keyOf Tryd.prog k key = some kl) (ha : At D kl x) :
    (Instr.lookup t (.map (some b)) key false).run Tryd.prog w = .ok (x.getD z) w := by
  obtain ⟨u, ps, hr, hu⟩ := h.lookup K ht hz (show asIs z = some (.held z, []) from rfl) hkey
  have := asIs_inv hu
  cases x with
  | none => rw [ha.2] at this; cases this; exact hr
  | some v => rw [ha.2] at this; cases this; exact hr
theorem look_ok (h : w.ownsMap Tryd.prog k asIs b n D) (K : Keyed Tryd.prog k) (ht : Tryd.prog.underlying t = some (.map k e)) (hz : (zeroValue e).run Tryd.prog w = .ok z w) (hkey : keyOf Tryd.prog k key = some kl) (ha : At D kl x) :
    (Instr.lookup t (.map (some b)) key true).run Tryd.prog w = .ok (.tuple #[x.getD z, .bool x.isSome]) w := by
  obtain ⟨u, ps, hr, hu⟩ := h.look_ok K ht hz (show asIs z = some (.held z, []) from rfl) hkey
  have := asIs_inv hu
  cases x with
  | none => rw [ha.2] at this; cases this; rw [ha.1] at hr; exact hr
  | some v => rw [ha.2] at this; cases this; rw [ha.1] at hr; exact hr
theorem put_at (v : Value) (h : w.ownsMap Tryd.prog k asIs b n D) (K : Keyed Tryd.prog k) (ht : Tryd.prog.underlying t = some (.map k e)) (hn : n < maxLen) (hkey : keyOf Tryd.prog k key = some kl) :
    ∃ w', (Instr.mapUpdate t (.map (some b)) key v).run Tryd.prog w = .ok () w' ∧ w'.ownsMap Tryd.prog k asIs b (n + 1) (D.put kl (.held v)) ∧ w.grownBy w' (some b) :=
  h.update K ht hn hkey (show asIs v = some (.held v, []) from rfl)
end
theorem own_map {w w' : World} {P : Program} {k : TypeId} {R : Value → Option (DataW Value × List MemPlace)} {b n : Nat} {D : DataW Value} (h : w.ownsMap P k R b n D) (e : w'.heap[b]? = w.heap[b]?) : w'.ownsMap P k R b n D := by
  obtain ⟨es, clock, hb, r⟩ := h
  exact ⟨es, clock, e.trans hb, r⟩
/-! ### Keys of deeds -/
def rwZ : Value := .agg #[.int .i64 0, .int .i64 0, .int .i64 0, .int .i64 0, .int .i64 0]
theorem zero_row (w : World) : (zeroValue tRw).run Tryd.prog w = .ok rwZ w := by kernel_rfl
def kK (o d : Int) : Lit := .string (keyBytes [.int .i64 o, .int .i64 d])
theorem wf_i {n : Int} (h : I64 n) : (Lit.int .i64 n).wf = true := by
  unfold I64 top at h
  exact WalkArith.wf_i64 (by omega)
theorem cells_ky : Tryd.prog.cellsOf tKy = 2 := by kernel_rfl
theorem cells_in : Tryd.prog.cellsOf 3 = 1 := by kernel_rfl
theorem cells_go : Tryd.prog.cellsOf tGo = 8 := by kernel_rfl
theorem cells_u8 : Tryd.prog.cellsOf 5 = 1 := by kernel_rfl
theorem isKey_ky : Tryd.prog.keyType tKy = true := by kernel_rfl
theorem isKey_go : Tryd.prog.keyType tGo = true := by kernel_rfl
theorem some_types : ∃ n, Tryd.prog.types.size = n + 1 := ⟨Tryd.prog.types.size - 1, by have : 0 < Tryd.prog.types.size := of_decide_eq_true (by kernel_rfl); omega⟩
theorem lits_int {d : Nat} {n : Int} (h : I64 n) : Tryd.prog.keyLits (d + 1) 3 [.int .i64 n] = some [.int .i64 n] := by
  simp [Program.keyLits, Tryd.underlying3, wf_i h]
theorem lits_u8 {d : Nat} (c : UInt8) : Tryd.prog.keyLits (d + 1) 5 [.int .u8 c.toNat] = some [.int .u8 c.toNat] := by
  have := c.toNat_lt
  have hw : (Lit.int .u8 (c.toNat : Int)).wf = true := by simp [Lit.wf, IntKind.min, IntKind.max, IntKind.signed, IntKind.bits]; omega
  simp [Program.keyLits, Tryd.underlying5, hw]
theorem kK_is {a o : Int} (ha : I64 a) (ho : I64 o) : keyOf Tryd.prog tKy (kyV a o) = some (kK a o) := by
  obtain ⟨n, hn⟩ := some_types
  have hl : Tryd.prog.keyLits (Tryd.prog.types.size + 1) tKy [.int .i64 a, .int .i64 o] = some [.int .i64 a, .int .i64 o] := by
    rw [hn]
    unfold Program.keyLits
    rw [Tryd.underlying33]
    simp [cells_ky, cells_in, lits_int ha, lits_int ho]
  have hf : (Value.agg #[.int .i64 a, .int .i64 o]).formed Tryd.prog tKy = true := by
    simp [Value.formed, Tryd.underlying33, cells_ky]
  unfold keyOf kyV
  rw [Tryd.underlying33]
  simp only [isKey_ky, hf, Bool.and_self, if_true]
  rw [show (Value.agg #[.int .i64 a, .int .i64 o]).cells.toList = [.int .i64 a, .int .i64 o] from rfl, hl]
  rfl
theorem kK_inj {a o a' o' : Int} (ha : I64 a) (ho : I64 o) (ha' : I64 a') (ho' : I64 o') (h : kK a o = kK a' o') : a = a' ∧ o = o' := by
  have := lawKy.inj (kK_is ha ho) (h ▸ kK_is ha' ho')
  unfold kyV at this
  simp at this
  exact this
/-! ### Names of goods -/
def goL (s : ByteArray) : List UInt8 := (s.data.toList ++ List.replicate 8 0).take 8
theorem goL_len (s : ByteArray) : (goL s).length = 8 := by unfold goL; simp
def goV (s : ByteArray) : Value := .agg ((goL s).map fun c => Value.int .u8 c.toNat).toArray
def kG (s : ByteArray) : Lit := .string (keyBytes ((goL s).map fun c => Lit.int .u8 c.toNat))
theorem kG_is (s : ByteArray) : keyOf Tryd.prog tGo (goV s) = some (kG s) := by
  unfold goV kG
  obtain ⟨l, hl, hn⟩ : ∃ l, goL s = l ∧ l.length = 8 := ⟨_, rfl, goL_len s⟩
  rw [hl]
  clear hl
  match l, hn with
  | [c0, c1, c2, c3, c4, c5, c6, c7], _ =>
  obtain ⟨n, hn⟩ := some_types
  have hl : Tryd.prog.keyLits (Tryd.prog.types.size + 1) tGo [.int .u8 c0.toNat, .int .u8 c1.toNat, .int .u8 c2.toNat, .int .u8 c3.toNat, .int .u8 c4.toNat, .int .u8 c5.toNat, .int .u8 c6.toNat, .int .u8 c7.toNat] =
      some [.int .u8 c0.toNat, .int .u8 c1.toNat, .int .u8 c2.toNat, .int .u8 c3.toNat, .int .u8 c4.toNat, .int .u8 c5.toNat, .int .u8 c6.toNat, .int .u8 c7.toNat] := by
    rw [hn]
    unfold Program.keyLits
    rw [Tryd.underlying74]
    simp [cells_go, cells_u8, lits_u8, List.range, List.range.loop]
  have hf : (Value.agg #[.int .u8 c0.toNat, .int .u8 c1.toNat, .int .u8 c2.toNat, .int .u8 c3.toNat, .int .u8 c4.toNat, .int .u8 c5.toNat, .int .u8 c6.toNat, .int .u8 c7.toNat]).formed Tryd.prog tGo = true := by
    simp [Value.formed, Tryd.underlying74, cells_go]
  unfold keyOf
  rw [Tryd.underlying74]
  simp only [isKey_go, List.map_cons, List.map_nil, hf, Bool.and_self, if_true]
  rw [show (Value.agg #[.int .u8 c0.toNat, .int .u8 c1.toNat, .int .u8 c2.toNat, .int .u8 c3.toNat, .int .u8 c4.toNat, .int .u8 c5.toNat, .int .u8 c6.toNat, .int .u8 c7.toNat]).cells.toList = [.int .u8 c0.toNat, .int .u8 c1.toNat, .int .u8 c2.toNat, .int .u8 c3.toNat, .int .u8 c4.toNat, .int .u8 c5.toNat, .int .u8 c6.toNat, .int .u8 c7.toNat] from rfl, hl]
  rfl
/-- A name of goods. -/
structure Nm (s : ByteArray) : Prop where
  some_ : 1 ≤ s.size
  few : s.size ≤ 8
  ok : Od.nameB s.data.toList = true
theorem goL_at (s : ByteArray) (hs : s.size ≤ 8) {i : Nat} (hi : i < 8) : (goL s)[i]? = if i < s.size then s.data.toList[i]? else some 0 := by
  unfold goL
  have hl : s.data.toList.length = s.size := by simp
  rw [List.getElem?_take, if_pos hi]
  by_cases h : i < s.size
  · rw [if_pos h, List.getElem?_append_left (by rw [hl]; exact h)]
  · rw [if_neg h, List.getElem?_append_right (by rw [hl]; omega), List.getElem?_replicate, if_pos (by rw [hl]; omega)]
theorem nz {u : ByteArray} (hu : Nm u) {i : Nat} {c : UInt8} (hc : u.data.toList[i]? = some c) : c ≠ 0 := fun e => by
  have := List.all_eq_true.1 hu.ok c (List.mem_of_getElem? hc)
  subst e
  simp [Od.nmI] at this
theorem goL_size {s t : ByteArray} (hs : Nm s) (ht : Nm t) (h : goL s = goL t) : ¬ s.size < t.size := fun hlt => by
  have h1 := goL_at s hs.few (i := s.size) (by have := ht.few; omega)
  have h2 := goL_at t ht.few (i := s.size) (by have := ht.few; omega)
  rw [if_neg (Nat.lt_irrefl _)] at h1
  rw [if_pos hlt, ← h, h1] at h2
  exact nz ht h2.symm rfl
theorem goL_inj {s t : ByteArray} (hs : Nm s) (ht : Nm t) (h : goL s = goL t) : s = t := by
  have e : s.size = t.size := Nat.le_antisymm (Nat.not_lt.1 (goL_size ht hs h.symm)) (Nat.not_lt.1 (goL_size hs ht h))
  have hl : s.data.toList.length = s.size := by simp
  have hl2 : t.data.toList.length = t.size := by simp
  apply ByteArray.ext
  apply Array.toList_inj.1
  apply List.ext_getElem?
  intro i
  by_cases hi : i < s.size
  · have h1 := goL_at s hs.few (i := i) (by have := hs.few; omega)
    have h2 := goL_at t ht.few (i := i) (by have := hs.few; omega)
    rw [if_pos hi] at h1
    rw [if_pos (by omega)] at h2
    rw [← h1, ← h2, h]
  · rw [List.getElem?_eq_none (by omega), List.getElem?_eq_none (by omega)]
theorem kG_inj {s t : ByteArray} (hs : Nm s) (ht : Nm t) (h : kG s = kG t) : s = t := by
  have := lawGo.inj (kG_is s) (h ▸ kG_is t)
  unfold goV at this
  simp only [Value.agg.injEq] at this
  have h2 := congrArg Array.toList this
  refine goL_inj hs ht ((List.map_inj_right (fun a b e => ?_)).1 h2)
  simp only [Value.int.injEq, Int.natCast_inj] at e
  exact UInt8.toNat_inj.1 e.2
theorem key_kK (o d : Int) : WideAt.IsKeyLit (kK o d) := trivial
theorem key_kG (s : ByteArray) : WideAt.IsKeyLit (kG s) := trivial
def goZ : Value := .agg #[.int .u8 0, .int .u8 0, .int .u8 0, .int .u8 0, .int .u8 0, .int .u8 0, .int .u8 0, .int .u8 0]
theorem zero_go (w : World) : (zeroValue tGo).run Tryd.prog w = .ok goZ w := by kernel_rfl
theorem zero_in (w : World) : (zeroValue 3).run Tryd.prog w = .ok (.int .i64 0) w := by kernel_rfl
end Pp
end Go.Proofs.YtkffpmeocfhcpaaDoor
namespace Go.Proofs.YtkffpmeocfhcpaaDoor
open Go.ChangeShapes Go.WideShapes Go.ChangeAt Go.RowKit Ky Rw
open Go.Maps (Keyed)
namespace Pp
abbrev tPp : TypeId := 57
/-- All blocks stay but some. -/
structure Only (F : Nat → Prop) (W W' : World) : Prop where
  os : W'.os = W.os
  tape : W'.tape = W.tape
  output : W'.output = W.output
  size : W.heap.size ≤ W'.heap.size
  same : ∀ i, i < W.heap.size → ¬ F i → W'.heap[i]? = W.heap[i]?
section
variable {F G : Nat → Prop} {X Y Z : World}
theorem Only.of_keeps (k : Keeps X Y) : Only F X Y := ⟨k.os, k.tape, k.output, k.size, fun i hi _ => k.block i hi⟩
theorem Only.refl (X : World) : Only F X X := Only.of_keeps (Keeps.refl _)
theorem Only.trans (h : Only F X Y) (g : Only F Y Z) : Only F X Z :=
  ⟨g.os.trans h.os, g.tape.trans h.tape, g.output.trans h.output, Nat.le_trans h.size g.size, fun i hi hn => (g.same i (Nat.lt_of_lt_of_le hi h.size) hn).trans (h.same i hi hn)⟩
theorem Only.mono (h : Only F X Y) (hs : ∀ i, F i → G i) : Only G X Y := ⟨h.os, h.tape, h.output, h.size, fun i hi hn => h.same i hi fun hf => hn (hs i hf)⟩
theorem Only.grown {b : Nat} (g : X.grownBy Y (some b)) (hb : F b) : Only F X Y := ⟨g.os, g.tape, g.output, g.size, fun i hi hn => g.block i hi (fun e => hn (by cases e; exact hb))⟩
theorem Only.keeps {w : World} (h : Only F X Y) (k : Keeps w X) (hF : ∀ i, F i → w.heap.size ≤ i) : Keeps w Y :=
  ⟨h.os.trans k.os, h.tape.trans k.tape, h.output.trans k.output, Nat.le_trans k.size h.size, fun i hi => (h.same i (Nat.lt_of_lt_of_le hi k.size) (fun hf => by have := hF i hf; omega)).trans (k.block i hi)⟩
end
def gOf (G : List Pt.Gd) (o : Int) : Option ByteArray := (G.find? fun g => decide (g.o = o)).map fun g => g.s
def ppObj (p : Pt.P) (br bs bh : Nat) (q : Int) : Obj := .cells #[.int .i64 p.kind, .int .i64 p.limit, .int .i64 p.stock, .map (some br), .map (some bs), .map (some bh), .int .i64 q] tPp (0, 0)
/-- The map of rows says what the list says. -/
def RowsAre (D : DataW Value) (L : List R) : Prop := ∀ o d, I64 o → I64 d → At D (kK o d) ((Pt.fd L o d).map rwV)
def HeldAre (D : DataW Value) (G : List Pt.Gd) : Prop := ∀ o, I64 o → At D (.int .i64 o) ((gOf G o).map goV)
structure StocksAre (D : DataW Value) (f : ByteArray → Option Int) (p : Pt.P) : Prop where
  at_ : ∀ s, Nm s → At D (kG s) ((f s).map fun n => .int .i64 n)
  is_ : ∀ s m, Nm s → f s = some m → m = Pt.left p s
  has_ : ∀ g ∈ p.G, Nm g.s ∧ ∃ m, f g.s = some m
/-- Its three maps, of at most so many entries. -/
structure Tabs (W : World) (br bs bh c : Nat) (p : Pt.P) : Prop where
  rows : ∃ n D, W.ownsMap Tryd.prog tKy asIs br n D ∧ n ≤ c ∧ RowsAre D p.L
  stocks : ∃ n D f, W.ownsMap Tryd.prog tGo asIs bs n D ∧ n ≤ c ∧ StocksAre D f p
  held : ∃ n D, W.ownsMap Tryd.prog 3 asIs bh n D ∧ n ≤ c ∧ HeldAre D p.G
  ab : br ≠ bs
  ac : br ≠ bh
  bc : bs ≠ bh
structure PpAt (W : World) (b br bs bh c : Nat) (p : Pt.P) (q : Int) : Prop where
  box : W.heap[b]? = some (ppObj p br bs bh q)
  tabs : Tabs W br bs bh c p
theorem Tabs.low {W : World} {br bs bh c : Nat} {p : Pt.P} (h : Tabs W br bs bh c p) : br < W.heap.size ∧ bs < W.heap.size ∧ bh < W.heap.size := by
  obtain ⟨_, _, h1, _⟩ := h.rows
  obtain ⟨_, _, _, h2, _⟩ := h.stocks
  obtain ⟨_, _, h3, _⟩ := h.held
  exact ⟨h1.lt, h2.lt, h3.lt⟩
theorem Tabs.kept {W W' : World} {br bs bh c : Nat} {p : Pt.P} (h : Tabs W br bs bh c p) (h1 : W'.heap[br]? = W.heap[br]?) (h2 : W'.heap[bs]? = W.heap[bs]?) (h3 : W'.heap[bh]? = W.heap[bh]?) : Tabs W' br bs bh c p := by
  obtain ⟨n1, D1, o1, r1⟩ := h.rows
  obtain ⟨n2, D2, f, o2, r2⟩ := h.stocks
  obtain ⟨n3, D3, o3, r3⟩ := h.held
  exact ⟨⟨n1, D1, own_map o1 h1, r1⟩, ⟨n2, D2, f, own_map o2 h2, r2⟩, ⟨n3, D3, own_map o3 h3, r3⟩, h.ab, h.ac, h.bc⟩
theorem PpAt.keeps {W W' : World} {b br bs bh c : Nat} {p : Pt.P} {q : Int} (h : PpAt W b br bs bh c p q) (k : Keeps W W') : PpAt W' b br bs bh c p q := by
  obtain ⟨l1, l2, l3⟩ := h.tabs.low
  have lb : b < W.heap.size := by
    rcases Nat.lt_or_ge b W.heap.size with h0 | h0
    · exact h0
    · have := h.box
      rw [Array.getElem?_eq_none h0] at this
      cases this
  exact ⟨(k.block b lb).trans h.box, h.tabs.kept (k.block br l1) (k.block bs l2) (k.block bh l3)⟩
theorem PpAt.cells {W : World} {b br bs bh c : Nat} {p : Pt.P} {q : Int} (h : PpAt W b br bs bh c p q) :
    W.cell? ⟨b, 0, none⟩ = some (.int .i64 p.kind) ∧ W.cell? ⟨b, 1, none⟩ = some (.int .i64 p.limit) ∧ W.cell? ⟨b, 2, none⟩ = some (.int .i64 p.stock) ∧ W.cell? ⟨b, 3, none⟩ = some (.map (some br)) ∧ W.cell? ⟨b, 4, none⟩ = some (.map (some bs)) ∧ W.cell? ⟨b, 5, none⟩ = some (.map (some bh)) ∧ W.cell? ⟨b, 6, none⟩ = some (.int .i64 q) := by
  have hb : W.heap[b]? = some (.cells #[.int .i64 p.kind, .int .i64 p.limit, .int .i64 p.stock, .map (some br), .map (some bs), .map (some bh), .int .i64 q] tPp (0, 0)) := h.box
  simp [World.cell?, hb]
/-- What is left of goods, by the map. -/
theorem stock_or {D : DataW Value} {f : ByteArray → Option Int} {p : Pt.P} (h : StocksAre D f p) {s : ByteArray} (hs : Nm s) (hn : f s = none) : Pt.left p s = p.stock := by
  have : ∀ G : List Pt.Gd, (∀ g ∈ G, ∃ m, f g.s = some m) → Pt.tot s G = 0 := by
    intro G
    induction G with
    | nil => intro _; rfl
    | cons g r ih =>
      intro hG
      obtain ⟨m, hm⟩ := hG g (List.mem_cons_self ..)
      have hne : ¬ g.s = s := fun e => by rw [e, hn] at hm; cases hm
      show (if g.s = s then g.q else 0) + Pt.tot s r = 0
      rw [if_neg hne, ih (fun x hx => hG x (List.mem_cons_of_mem _ hx))]
      rfl
  unfold Pt.left
  rw [this p.G (fun g hg => (h.has_ g hg).2)]
  omega
end Pp
end Go.Proofs.YtkffpmeocfhcpaaDoor
namespace Go.Proofs.YtkffpmeocfhcpaaDoor
open Go.ChangeShapes Go.WideShapes Go.ChangeAt Go.RowKit Ky Rw
namespace Pp
set_option maxRecDepth 100000 in
theorem pp_none {W : World} {b br bs bh c : Nat} {p : Pt.P} {q : Int} (h : PpAt W b br bs bh c p q) : Calls Tryd.prog 27 #[.pointer (some ⟨b, 0, none⟩)] W fun e w' => e = .returned (.bool false) ∧ w' = W := by
  have c3 := h.cells.2.2.2.1
  have hq := fun w => run_eql_map_nil_sl (P := Tryd.prog) w tMk _ _ (some br) Tryd.underlying53
  clear h
  go_enter Tryd.func27, Tryd.ntmps27
  go_wp2
  go_ret
  exact ⟨rfl, rfl⟩
theorem pp_none_nil (W : World) : Calls Tryd.prog 27 #[.pointer none] W fun e w' => e = .returned (.bool true) ∧ w' = W := by
  go_enter Tryd.func27, Tryd.ntmps27
  go_wp2
  go_ret
  exact ⟨rfl, rfl⟩
set_option maxRecDepth 100000 in
theorem pp_none_zero {W : World} {b : Nat} (h : W.cell? ⟨b, 3, none⟩ = some (.map none)) : Calls Tryd.prog 27 #[.pointer (some ⟨b, 0, none⟩)] W fun e w' => e = .returned (.bool true) ∧ w' = W := by
  have hq := fun w => run_eql_map_nil_sl (P := Tryd.prog) w tMk _ _ none Tryd.underlying53
  go_enter Tryd.func27, Tryd.ntmps27
  go_wp2
  go_ret
  exact ⟨rfl, rfl⟩
theorem pp_kind (n : Int) (W : World) : Calls Tryd.prog 26 #[.int .i64 n] W fun e w' => e = .returned (.bool (decide (0 ≤ n ∧ n ≤ 2))) ∧ w' = W := by
  by_cases h0 : n = 0
  · subst h0
    go_enter Tryd.func26, Tryd.ntmps26
    go_wp2
    go_ret
    exact ⟨rfl, rfl⟩
  by_cases h1 : n = 1
  · subst h1
    go_enter Tryd.func26, Tryd.ntmps26
    go_wp2
    go_ret
    exact ⟨rfl, rfl⟩
  by_cases h2 : n = 2
  · subst h2
    go_enter Tryd.func26, Tryd.ntmps26
    go_wp2
    go_ret
    exact ⟨rfl, rfl⟩
  have E : Hid (decide (0 ≤ n ∧ n ≤ 2) = false) := Lib.hid (by simp; omega)
  have e0 : (n == 0) = false := by simpa using h0
  have e1 : (n == 1) = false := by simpa using h1
  have e2 : (n == 2) = false := by simpa using h2
  clear h0 h1 h2
  generalize decide (0 ≤ n ∧ n ≤ 2) = B at E ⊢
  go_enter Tryd.func26, Tryd.ntmps26
  go_wp2
  go_ret
  exact ⟨by rw [E.out]; rfl, rfl⟩
theorem goL_get (s : ByteArray) : ∃ c0 c1 c2 c3 c4 c5 c6 c7 : UInt8, goL s = [c0, c1, c2, c3, c4, c5, c6, c7] := by
  obtain ⟨l, hl, hn⟩ : ∃ l, goL s = l ∧ l.length = 8 := ⟨_, rfl, goL_len s⟩
  match l, hn with
  | [c0, c1, c2, c3, c4, c5, c6, c7], _ => exact ⟨c0, c1, c2, c3, c4, c5, c6, c7, hl⟩
/-- The bytes of a name, laid over eight noughts. -/
theorem name_laid (W : World) (s : ByteArray) (hs : s.size ≤ 8) (i : Nat) (hi : i < 8) (c : UInt8) (hc : (goL s)[i]? = some c) :
    ((W.alloc (.cells #[.int .u8 0, .int .u8 0, .int .u8 0, .int .u8 0, .int .u8 0, .int .u8 0, .int .u8 0, .int .u8 0] tGo)).setCells W.heap.size 0 (s.data.toList.map fun x => Value.int .u8 (x.toNat : Int))).cell? ⟨W.heap.size, i, none⟩ = some (.int .u8 (c.toNat : Int)) := by
  have hl : (s.data.toList.map fun x => Value.int .u8 (x.toNat : Int)).length = s.size := by simp
  have hz : ∀ j, j < 8 → (W.alloc (.cells #[.int .u8 0, .int .u8 0, .int .u8 0, .int .u8 0, .int .u8 0, .int .u8 0, .int .u8 0, .int .u8 0] tGo)).cell? ⟨W.heap.size, j, none⟩ = some (.int .u8 0) := fun j hj => by
    have : j = 0 ∨ j = 1 ∨ j = 2 ∨ j = 3 ∨ j = 4 ∨ j = 5 ∨ j = 6 ∨ j = 7 := by omega
    rcases this with rfl | rfl | rfl | rfl | rfl | rfl | rfl | rfl <;> simp
  rw [goL_at s hs hi] at hc
  by_cases h : i < s.size
  · rw [if_pos h] at hc
    have := World.cell?_setCells_in W.heap.size (s.data.toList.map fun x => Value.int .u8 (x.toNat : Int)) 0 (W.alloc (.cells #[.int .u8 0, .int .u8 0, .int .u8 0, .int .u8 0, .int .u8 0, .int .u8 0, .int .u8 0, .int .u8 0] tGo)) (fun j hj => by
      rw [Nat.zero_add, hz j (by rw [hl] at hj; omega)]; rfl) i (by rw [hl]; exact h)
    rw [Nat.zero_add] at this
    rw [this]
    have e : (s.data.toList.map fun x => Value.int .u8 (x.toNat : Int))[i]? = some (.int .u8 (c.toNat : Int)) := by rw [List.getElem?_map, hc]; rfl
    rw [List.getElem?_eq_getElem (by rw [hl]; exact h)] at e
    exact e
  · rw [if_neg h] at hc
    cases hc
    rw [World.cell?_setCells_out W.heap.size _ 0 _ ⟨W.heap.size, i, none⟩ (fun _ _ => Or.inr (by rw [hl]; show 0 + s.size ≤ i; omega))]
    exact hz i hi
set_option maxHeartbeats 4000000 in
set_option maxRecDepth 100000 in
theorem pp_named (s : ByteArray) (W : World) (hs : s.size ≤ 8) : Calls Tryd.prog 45 #[.string s] W fun e w' => e = .returned (goV s) ∧ Keeps W w' := by
  obtain ⟨c0, c1, c2, c3, c4, c5, c6, c7, hg⟩ := goL_get s
  have E : Hid (goV s = .agg #[.int .u8 c0.toNat, .int .u8 c1.toNat, .int .u8 c2.toNat, .int .u8 c3.toNat, .int .u8 c4.toNat, .int .u8 c5.toNat, .int .u8 c6.toNat, .int .u8 c7.toNat]) := Lib.hid (by unfold goV; rw [hg]; rfl)
  have hz : ∀ w, (Go.sizeOf 5).run Tryd.prog w = .ok 1 w := fun w => by kernel_rfl
  have hr := run_copy_string (P := Tryd.prog) (W.alloc (.cells #[.int .u8 0, .int .u8 0, .int .u8 0, .int .u8 0, .int .u8 0, .int .u8 0, .int .u8 0, .int .u8 0] tGo)) 121 9 3 5 W.heap.size 0 8 8 s Tryd.underlying121 hz hs
    (fun j hj => by
      have : j = 0 ∨ j = 1 ∨ j = 2 ∨ j = 3 ∨ j = 4 ∨ j = 5 ∨ j = 6 ∨ j = 7 := by omega
      rcases this with rfl | rfl | rfl | rfl | rfl | rfl | rfl | rfl <;> simp) (fun j hj => by simp)
  have n := fun i hi c hc => name_laid W s hs i hi c hc
  have n0 := n 0 (by omega) c0 (by rw [hg]; rfl)
  have n1 := n 1 (by omega) c1 (by rw [hg]; rfl)
  have n2 := n 2 (by omega) c2 (by rw [hg]; rfl)
  have n3 := n 3 (by omega) c3 (by rw [hg]; rfl)
  have n4 := n 4 (by omega) c4 (by rw [hg]; rfl)
  have n5 := n 5 (by omega) c5 (by rw [hg]; rfl)
  have n6 := n 6 (by omega) c6 (by rw [hg]; rfl)
  have n7 := n 7 (by omega) c7 (by rw [hg]; rfl)
  have fr : ∀ i, ((W.alloc (.cells #[.int .u8 0, .int .u8 0, .int .u8 0, .int .u8 0, .int .u8 0, .int .u8 0, .int .u8 0, .int .u8 0] tGo)).setCells W.heap.size 0 (s.data.toList.map fun x => Value.int .u8 (x.toNat : Int))).frozen? ⟨W.heap.size, i, none⟩ = false := fun i => by
    rw [World.frozen?_setCells]; simp
  have K : Hid (Below W.heap.size W ((W.alloc (.cells #[.int .u8 0, .int .u8 0, .int .u8 0, .int .u8 0, .int .u8 0, .int .u8 0, .int .u8 0, .int .u8 0] tGo)).setCells W.heap.size 0 (s.data.toList.map fun x => Value.int .u8 (x.toNat : Int)))) := Lib.hid (below_setCells (Nat.le_refl _) _ _ _ (ky_box W _))
  generalize ((W.alloc (.cells #[.int .u8 0, .int .u8 0, .int .u8 0, .int .u8 0, .int .u8 0, .int .u8 0, .int .u8 0, .int .u8 0] tGo)).setCells W.heap.size 0 (s.data.toList.map fun x => Value.int .u8 (x.toNat : Int))) = X at hr n0 n1 n2 n3 n4 n5 n6 n7 fr K
  clear n hg
  have fr0 := fr 0
  go_enter Tryd.func45, Tryd.ntmps45
  go_wp2
  refine bodyPost_ret (v := .agg #[.int .u8 c0.toNat, .int .u8 c1.toNat, .int .u8 c2.toNat, .int .u8 c3.toNat, .int .u8 c4.toNat, .int .u8 c5.toNat, .int .u8 c6.toNat, .int .u8 c7.toNat]) (by simp [results, Tryd.results45, go_sem, n0, n1, n2, n3, n4, n5, n6, n7]) rfl ?_
  rw [E.out]
  exact ⟨rfl, (((((((K.out.setCell (Nat.le_refl _) _).setCell (Nat.le_refl _) _).setCell (Nat.le_refl _) _).setCell (Nat.le_refl _) _).setCell (Nat.le_refl _) _).setCell (Nat.le_refl _) _).setCell (Nat.le_refl _) _).setCell (Nat.le_refl _) _⟩
end Pp
end Go.Proofs.YtkffpmeocfhcpaaDoor
namespace Go.Proofs.YtkffpmeocfhcpaaDoor
open Go.ChangeShapes Go.WideShapes Go.ChangeAt Go.RowKit Ky Rw
namespace Pp
def goObj (c0 c1 c2 c3 c4 c5 c6 c7 : UInt8) : Obj := .cells #[.int .u8 c0.toNat, .int .u8 c1.toNat, .int .u8 c2.toNat, .int .u8 c3.toNat, .int .u8 c4.toNat, .int .u8 c5.toNat, .int .u8 c6.toNat, .int .u8 c7.toNat] tGo
theorem go_agg {s : ByteArray} {c0 c1 c2 c3 c4 c5 c6 c7 : UInt8} (h : goL s = [c0, c1, c2, c3, c4, c5, c6, c7]) : goV s = .agg #[.int .u8 c0.toNat, .int .u8 c1.toNat, .int .u8 c2.toNat, .int .u8 c3.toNat, .int .u8 c4.toNat, .int .u8 c5.toNat, .int .u8 c6.toNat, .int .u8 c7.toNat] := by
  unfold goV
  rw [h]
  rfl
set_option maxHeartbeats 4000000 in
set_option maxRecDepth 100000 in
theorem pp_left {W : World} {b br bs bh c : Nat} {p : Pt.P} {q : Int} (h : PpAt W b br bs bh c p q) (s : ByteArray) (hs : Nm s) :
    Calls Tryd.prog 44 #[.pointer (some ⟨b, 0, none⟩), goV s] W fun e w' => e = .returned (.int .i64 (Pt.left p s)) ∧ Keeps W w' := by
  obtain ⟨n2, D2, f, o2, _, SA⟩ := h.tabs.stocks
  obtain ⟨c0, c1, c2, c3, c4, c5, c6, c7, hg⟩ := goL_get s
  have KB := Lib.hid (ky_box W (goObj c0 c1 c2 c3 c4 c5 c6 c7))
  have A := SA.at_ s hs
  have OD : Hid (∀ X : World, X.heap[bs]? = W.heap[bs]? → (Instr.lookup tMg (.map (some bs)) (goV s) true).run Tryd.prog X = .ok (.tuple #[((f s).map fun n => Value.int .i64 n).getD (.int .i64 0), .bool ((f s).map fun n => Value.int .i64 n).isSome]) X) := Lib.hid fun X hX =>
    look_ok (own_map o2 hX) lawGo Tryd.underlying54 (zero_in X) (kG_is s) A
  have hlt := h.tabs.low.2.1
  have l1 := OD.out (W.alloc (goObj c0 c1 c2 c3 c4 c5 c6 c7)) (KB.out.block bs hlt)
  have l2 := OD.out (W.alloc (goObj c0 c1 c2 c3 c4 c5 c6 c7)).drew (KB.out.block bs hlt)
  have hk := h.keeps KB.out
  obtain ⟨_, _, x2, _, x4, _⟩ := hk.cells
  rw [go_agg hg] at l1 l2 ⊢
  clear OD A o2 hk
  cases hf : f s with
  | some m =>
    have E : Hid (Pt.left p s = m) := Lib.hid (SA.is_ s m hs hf).symm
    rw [hf] at l1 l2
    generalize Pt.left p s = r at E ⊢
    simp only [Option.map_some, Option.getD_some, Option.isSome_some] at l1 l2
    clear SA hf h
    unfold goObj at l1 l2 x2 x4 KB
    go_enter Tryd.func44, Tryd.ntmps44
    go_upto_region 1 with fail
    go_region
    all_goals clear l1 l2
    all_goals go_wp2
    all_goals go_ret
    all_goals exact ⟨by rw [E.out]; rfl, KB.out.trans (ky_drew _)⟩
  | none =>
    have E : Hid (Pt.left p s = p.stock) := Lib.hid (stock_or SA hs hf)
    rw [hf] at l1 l2
    generalize Pt.left p s = r at E ⊢
    simp only [Option.map_none, Option.getD_none, Option.isSome_none] at l1 l2
    have x2d : (W.alloc (goObj c0 c1 c2 c3 c4 c5 c6 c7)).drew.cell? ⟨b, 2, none⟩ = some (.int .i64 p.stock) := x2
    clear SA hf h
    unfold goObj at l1 l2 x2 x4 KB x2d
    go_enter Tryd.func44, Tryd.ntmps44
    go_upto_region 1 with fail
    go_region
    all_goals clear l1 l2
    all_goals go_wp2
    all_goals go_ret
    all_goals exact ⟨by rw [E.out]; rfl, KB.out.trans (ky_drew _)⟩
def withL (p : Pt.P) (L : List R) : Pt.P := ⟨p.kind, p.stock, p.limit, L, p.G⟩
def rwObj (r : R) : Obj := .cells #[.int .i64 r.o, .int .i64 r.d, .int .i64 r.c, .int .i64 r.a, .int .i64 r.q] tRw
theorem PpAt.low {W : World} {b br bs bh c : Nat} {p : Pt.P} {q : Int} (h : PpAt W b br bs bh c p q) : b < W.heap.size := by
  rcases Nat.lt_or_ge b W.heap.size with h0 | h0
  · exact h0
  · have := h.box
    rw [Array.getElem?_eq_none h0] at this
    cases this
theorem PpAt.off {W : World} {b br bs bh c : Nat} {p : Pt.P} {q : Int} (h : PpAt W b br bs bh c p q) : b ≠ br ∧ b ≠ bs ∧ b ≠ bh := by
  have no : ∀ {t k : TypeId} {m : Nat} {D : DataW Value} {R' : Value → Option (DataW Value × List MemPlace)} {x : Nat}, W.ownsMap Tryd.prog k R' x m D → b ≠ x := fun {t k m D R' x} ho e => by
    subst e
    obtain ⟨es, clock, hb, _⟩ := ho
    have := h.box
    rw [hb] at this
    cases this
  obtain ⟨_, _, o1, _⟩ := h.tabs.rows
  obtain ⟨_, _, _, o2, _⟩ := h.tabs.stocks
  obtain ⟨_, _, o3, _⟩ := h.tabs.held
  exact ⟨no (t := tKy) o1, no (t := tKy) o2, no (t := tKy) o3⟩
/-- A row laid into the map of rows. -/
theorem wrote {W X W2 : World} {b br bs bh c n : Nat} {p : Pt.P} {q : Int} {r : R} {D : DataW Value} (h : PpAt W b br bs bh c p q) (k : Keeps W X) (hn : Pt.fd p.L r.o r.d = none) (i1 : I64 r.o) (i2 : I64 r.d)
    (hm : Maps.IsMap D) (hr : RowsAre D p.L) (hnc : n ≤ c) (own : W2.ownsMap Tryd.prog tKy asIs br (n + 1) (D.put (kK r.o r.d) (.held (rwV r)))) (gr : X.grownBy W2 (some br)) :
    PpAt W2 b br bs bh (c + 1) (withL p (Pt.ins r p.L)) q ∧ Only (fun i => i = br) W W2 := by
  have hX := h.keeps k
  obtain ⟨ob, os, oh⟩ := h.off
  obtain ⟨l1, l2, l3⟩ := hX.tabs.low
  have sm : ∀ i, i < X.heap.size → i ≠ br → W2.heap[i]? = X.heap[i]? := fun i hi hne => gr.block i hi (fun e => hne (by cases e; rfl))
  refine ⟨⟨(sm b hX.low ob).trans hX.box, ⟨⟨n + 1, _, own, by omega, ?_⟩, ?_, ?_, h.tabs.ab, h.tabs.ac, h.tabs.bc⟩⟩, (Only.of_keeps k).trans (Only.grown gr rfl)⟩
  · intro o d ho hd
    show At _ _ ((Pt.fd (Pt.ins r p.L) o d).map rwV)
    rw [Pt.fd_ins hn]
    by_cases e : r.o = o ∧ r.d = d
    · rw [if_pos e]
      obtain ⟨rfl, rfl⟩ := e
      exact At.put_same hm (key_kK _ _)
    · rw [if_neg e]
      exact (hr o d ho hd).put_other fun hk => e (by
        have := kK_inj i1 i2 ho hd hk.symm
        exact this)
  · obtain ⟨n2, D2, f, o2, e2, S⟩ := hX.tabs.stocks
    exact ⟨n2, D2, f, own_map o2 (sm bs l2 (Ne.symm h.tabs.ab)), by omega, ⟨S.at_, S.is_, S.has_⟩⟩
  · obtain ⟨n3, D3, o3, e3, H⟩ := hX.tabs.held
    exact ⟨n3, D3, own_map o3 (sm bh l3 (Ne.symm h.tabs.ac)), by omega, H⟩
theorem PpAt.drew {W : World} {b br bs bh c : Nat} {p : Pt.P} {q : Int} (h : PpAt W b br bs bh c p q) : PpAt W.drew b br bs bh c p q := h.keeps (ky_drew W)
theorem Only.drew {F : Nat → Prop} {X Y : World} (h : Only F X Y) : Only F X Y.drew := h.trans (Only.of_keeps (ky_drew Y))
set_option maxHeartbeats 4000000 in
set_option maxRecDepth 100000 in
theorem pp_write {W : World} {b br bs bh c : Nat} {p : Pt.P} {q : Int} (h : PpAt W b br bs bh c p q) (hc : c < 1000000) (r : R) (hn : Pt.fd p.L r.o r.d = none) (i1 : I64 r.o) (i2 : I64 r.d) :
    Calls Tryd.prog 63 #[.pointer (some ⟨b, 0, none⟩), rwV r] W fun e w' => e = .returned (.tuple #[]) ∧ PpAt w' b br bs bh (c + 1) (withL p (Pt.ins r p.L)) q ∧ Only (fun i => i = br) W w' := by
  obtain ⟨n1, D1, o1, hnc, RA⟩ := h.tabs.rows
  have KB := Lib.hid (ky_box W (rwObj r))
  have hlt := h.tabs.low.1
  have hk := h.keeps KB.out
  obtain ⟨_, _, _, x3, _⟩ := hk.cells
  have hmx : n1 < maxLen := by unfold maxLen; omega
  obtain ⟨Wa, ea, owa, ga⟩ := put_at (rwV r) (own_map o1 (KB.out.block br hlt)) lawKy Tryd.underlying53 hmx (kK_is i1 i2)
  obtain ⟨Wb, eb, owb, gb⟩ := put_at (w := (W.alloc (rwObj r)).drew) (rwV r) (own_map o1 (KB.out.block br hlt)) lawKy Tryd.underlying53 hmx (kK_is i1 i2)
  have FA := Lib.hid (wrote h KB.out hn i1 i2 o1.isMap RA hnc owa ga)
  have FB := Lib.hid (wrote h (KB.out.trans (ky_drew _)) hn i1 i2 o1.isMap RA hnc owb gb)
  unfold rwV kyV at ea eb
  unfold rwV
  clear owa owb ga gb hn RA o1 hk h
  unfold rwObj at *
  go_enter Tryd.func63, Tryd.ntmps63
  go_upto_region 1 with fail
  go_region
  all_goals clear ea eb
  all_goals go_wp2
  all_goals go_end0
  all_goals first
    | exact ⟨rfl, FB.out.1, FB.out.2⟩
    | exact ⟨rfl, FA.out.1.drew, FA.out.2.drew⟩
set_option maxRecDepth 100000 in
theorem pp_refuse {W : World} {b br bs bh c : Nat} {p : Pt.P} {q : Int} (h : PpAt W b br bs bh c p q) (hc : c < 1000000) (o d : Int) (hn : Pt.fd p.L o d = none) (i1 : I64 o) (i2 : I64 d) :
    Calls Tryd.prog 61 #[.pointer (some ⟨b, 0, none⟩), kyV o d] W fun e w' => e = .returned (.tuple #[]) ∧ PpAt w' b br bs bh (c + 1) (withL p (Pt.ins ⟨o, d, 2, 0, 0⟩ p.L)) q ∧ Only (fun i => i = br) W w' := by
  have KB := Lib.hid (ky_box W (.cells #[.int .i64 o, .int .i64 d] tKy))
  have hw := Lib.hid (pp_write (h.keeps KB.out) hc ⟨o, d, 2, 0, 0⟩ hn i1 i2)
  clear h hn
  unfold rwV at hw
  unfold kyV
  go_enter Tryd.func61, Tryd.ntmps61
  go_wp2_with fail
  refine hw.out.mono ?_
  rintro e w1 ⟨rfl, h1, h2⟩
  have H1 := Lib.hid h1
  have H2 := Lib.hid h2
  clear h1 h2
  go_wp2
  go_end0
  exact ⟨rfl, H1.out, (Only.of_keeps KB.out).trans H2.out⟩
end Pp
end Go.Proofs.YtkffpmeocfhcpaaDoor
