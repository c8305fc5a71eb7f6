
/- Tables of texts in memory, as a call builds them, row by row. The document's files of the warehouse: Print. -/
import Derived.Test.YtnkcbefamajghaaDoorSkSet
import Derived.Test.YtnkcbefamajghaaDoorStructRow
import Derived.Test.YtnkcbefamajghaaDoorRwRefV
import Derived.Test.YtnkcbefamajghaaDoorMoneyRefC
import Derived.Test.YtnkcbefamajghaaDoorCsvRefP
import Derived.Deep.QuietTactic
set_option linter.unusedVariables false
namespace Go.Proofs.YtnkcbefamajghaaDoor
open Go.ChangeShapes Go.WideShapes Go.ChangeAt Go.RowKit Ky Rw Csv

def skStrK : RowK (List UInt8) where
  t := tS
  ts := tR
  sz := 1
  bytes := 16
  zero := .string ByteArray.empty
  cells := fun x => [sv x]
  under := Tryd.underlying43
  info := by kernel_rfl
  zsize := rfl
  pos := by omega
  small := by omega
  len := fun x => rfl
  one := fun x u hu => by
    simp only [List.mem_cons, List.not_mem_nil, or_false] at hu
    rw [hu]; rfl
theorem skStrK_row (L : List (List UInt8)) : skStrK.row L = svs L := by
  unfold RowK.row svs
  induction L with
  | nil => rfl
  | cons x r ih => rw [List.flatMap_cons, ih]; rfl
theorem skStrK_strs {B : Nat} {w : World} {v : Value} {L : List (List UInt8)} (h : skStrK.Own B w v L) : StrsAt w v L := by
  have h2 : w.ownsRow B tS 1 v L.length (svs L) := by rw [← skStrK_row]; exact h
  exact own_strs h2
abbrev Sl3 := Option Addr × Nat × Nat
def slV (x : Sl3) : Value := .slice x.1 x.2.1 x.2.2
def skSliK : RowK Sl3 where
  t := tR
  ts := 38
  sz := 1
  bytes := 24
  zero := .slice none 0 0
  cells := fun x => [slV x]
  under := Tryd.underlying38
  info := by kernel_rfl
  zsize := rfl
  pos := by omega
  small := by omega
  len := fun x => rfl
  one := fun x u hu => by
    simp only [List.mem_cons, List.not_mem_nil, or_false] at hu
    rw [hu]; rfl
/-- A table under way: its rows' headers, their texts. -/
def TblO (B : Nat) (W : World) (v : Value) (vs : List Sl3) (T : List (List (List UInt8))) : Prop :=
  skSliK.Own B W v vs ∧ vs.length = T.length ∧ ∀ (j : Nat) (F : List (List UInt8)), T[j]? = some F → ∃ x, vs[j]? = some x ∧ skStrK.Own B W (slV x) F
theorem TblO.keeps {B : Nat} {W W' : World} {v : Value} {vs : List Sl3} {T : List (List (List UInt8))} (h : TblO B W v vs T) (k : Keeps W W') : TblO B W' v vs T := by
  obtain ⟨h1, h2, h3⟩ := h
  refine ⟨skSliK.own_keeps h1 k, h2, fun j F hF => ?_⟩
  obtain ⟨x, hx, ho⟩ := h3 j F hF
  exact ⟨x, hx, skStrK.own_keeps ho k⟩
theorem TblO.rows {B : Nat} {W : World} {v : Value} {vs : List Sl3} {T : List (List (List UInt8))} (h : TblO B W v vs T) (hm : T.length ≤ 100000) : RowsAt W v T := by
  obtain ⟨h1, h2, h3⟩ := h
  rcases h1.2 with ⟨rfl, h0⟩ | ⟨g, cap, cur, rfl, hb, hgb, r⟩
  · have : T = [] := List.length_eq_zero_iff.1 (by omega)
    subst this
    exact RowsAt.nil W
  · refine ⟨_, cap, by rw [h2], by unfold maxLen; omega, fun j F hF => ?_⟩
    obtain ⟨x, hx, ho⟩ := h3 j F hF
    refine ⟨_, slV x, rfl, ?_, skStrK_strs ho⟩
    rw [addr_of]
    have := RowK.own_at skSliK h1 hx (j := 0) (u := slV x) rfl
    simpa [skSliK] using this
/-- A row of texts that a literal lays. -/
theorem sk_lit {w' : World} {cs : Array Value} {G : List (List UInt8)} {n : Nat} (hcs : cs = (svs G).toArray) (hn : n = G.length) (hm : n ≤ maxLen) (B : Nat) (hB : B ≤ w'.heap.size) : skStrK.Own B (w'.alloc (.cells cs tS)) (.slice (some ⟨w'.heap.size, 0, none⟩) n n) G := by
  subst hcs hn
  refine ⟨skStrK.row_len G, Or.inr ⟨w'.heap.size, G.length, (svs G).toArray, rfl, hB, heap_alloc_new w' _, Nat.le_refl _, hm, ?_, ?_⟩⟩
  · show (svs G).toArray.size = G.length * 1
    simp [svs]
  · rw [skStrK_row]
    show (svs G).toArray.toList.take (G.length * 1) = svs G
    rw [Nat.mul_one, List.take_of_length_le (by simp [svs])]
/-- One row's header, in a block of its own. -/
theorem sk_head1 (w' : World) (x : Sl3) (B : Nat) (hB : B ≤ w'.heap.size) : skSliK.Own B (w'.alloc (.cells #[slV x] tR)) (.slice (some ⟨w'.heap.size, 0, none⟩) 1 1) [x] :=
  ⟨rfl, Or.inr ⟨w'.heap.size, 1, #[slV x], rfl, hB, heap_alloc_new w' _, Nat.le_refl _, by simp [maxLen], rfl, rfl⟩⟩
theorem sk_src1 (w' : World) (x : Sl3) : skSliK.Src (w'.alloc (.cells #[slV x] tR)) (.slice (some ⟨w'.heap.size, 0, none⟩) 1 1) [x] := RowK.own_src skSliK (sk_head1 w' x w'.heap.size (Nat.le_refl _))
theorem TblO.first {B : Nat} {W : World} {x : Sl3} {F : List (List UInt8)} (hB : B ≤ W.heap.size) (hF : skStrK.Own B W (slV x) F) : TblO B (W.alloc (.cells #[slV x] tR)) (.slice (some ⟨W.heap.size, 0, none⟩) 1 1) [x] [F] := by
  refine ⟨sk_head1 W x B hB, rfl, fun j G hG => ?_⟩
  have hj : j = 0 := by
    have := (List.getElem?_eq_some_iff.1 hG).1
    simp at this; omega
  subst hj
  cases hG
  exact ⟨x, rfl, skStrK.own_keeps hF (kept_alloc (Keeps.refl W) _)⟩
theorem TblO.app {B : Nat} {W W' : World} {v v' : Value} {vs : List Sl3} {T : List (List (List UInt8))} {x : Sl3} {F : List (List UInt8)} (h : TblO B W v vs T) (hF : skStrK.Own B W (slV x) F) (ho : skSliK.Own B W' v' (vs ++ [x])) (hg : W.grownBy W' v.ownBlock) : TblO B W' v' (vs ++ [x]) (T ++ [F]) := by
  obtain ⟨h1, h2, h3⟩ := h
  have far : ∀ {u : Value} {G : List (List UInt8)}, skStrK.Own B W u G → skStrK.Own B W' u G := fun {u G} hu => by
    have hne : u.ownBlock = none ∨ u.ownBlock ≠ v.ownBlock := own_ne (e := tS) (e' := tR) hu h1 (by decide)
    exact World.ownsRow.kept (show W.ownsRow B tS 1 u G.length (skStrK.row G) from hu) hg hne
  refine ⟨ho, by simp [h2], fun j G hG => ?_⟩
  by_cases hj : j < T.length
  · rw [List.getElem?_append_left hj] at hG
    obtain ⟨y, hy, hoy⟩ := h3 j G hG
    exact ⟨y, by rw [List.getElem?_append_left (by omega)]; exact hy, far hoy⟩
  · have hj2 : j = T.length := by
      have := (List.getElem?_eq_some_iff.1 hG).1
      simp at this; omega
    subst hj2
    simp at hG
    subst hG
    exact ⟨x, by rw [← h2]; simp, far hF⟩
theorem TblO.off {B : Nat} {W : World} {v : Value} {vs : List Sl3} {T : List (List (List UInt8))} (h : TblO B W v vs T) : ∀ j, v.ownBlock = some j → B ≤ j ∧ j < W.heap.size := fun j hj => skSliK.own_lt h.1 j hj
theorem TblO.shape {B : Nat} {W : World} {v : Value} {vs : List Sl3} {T : List (List (List UInt8))} (h : TblO B W v vs T) : ∃ p c, v = .slice p T.length c := by
  obtain ⟨p, c, e⟩ := RowK.own_shape skSliK h.1
  exact ⟨p, c, by rw [e, h.2.1]⟩
end Go.Proofs.YtnkcbefamajghaaDoor
namespace Go.Proofs.YtnkcbefamajghaaDoor
open Go.ChangeShapes Go.WideShapes Go.ChangeAt Go.RowKit Ky Rw Csv Stk

/-- A row's five cells, read. -/
def Row5 (W : World) (b : Nat) (x : R) : Prop := W.cell? ⟨b, 0, none⟩ = some (.int .i64 x.o) ∧ W.cell? ⟨b, 1, none⟩ = some (.int .i64 x.d) ∧ W.cell? ⟨b, 2, none⟩ = some (.int .i64 x.c) ∧ W.cell? ⟨b, 3, none⟩ = some (.int .i64 x.a) ∧ W.cell? ⟨b, 4, none⟩ = some (.int .i64 x.q)
theorem Row5.keeps {W W' : World} {b : Nat} {x : R} (h : Row5 W b x) (k : Keeps W W') : Row5 W' b x := ⟨cell_keeps k h.1, cell_keeps k h.2.1, cell_keeps k h.2.2.1, cell_keeps k h.2.2.2.1, cell_keeps k h.2.2.2.2⟩
theorem Row5.grown {W W' : World} {b : Nat} {x : R} {r : Option Nat} (h : Row5 W b x) (g : W.grownBy W' r) (hne : ¬ r = some b) : Row5 W' b x := by
  have hb : W'.heap[b]? = W.heap[b]? := g.block b (World.block_lt_of_cell? W ⟨b, 0, none⟩ h.1) (fun e => hne e.symm)
  obtain ⟨h0, h1, h2, h3, h4⟩ := h
  unfold Row5
  simp only [World.cell?] at *
  rw [hb]
  exact ⟨h0, h1, h2, h3, h4⟩
theorem sk_fits {s : Int} {L : List R} (h : Valid 1 s L) : Fits (tableL s L) :=
  ⟨fun F hF f hf => by have := ((plain_table h F hF).2.2 f hf).2; omega, by have := file_short h; unfold fileL at this; omega⟩
def skPrtS (p s : Int) (L : List R) : ByteArray := ⟨(prt p s L).toArray⟩
theorem ret_skP {a b : ByteArray} {c d : Int} (h : a = b) (g : c = d) : Ending.returned (.tuple #[.string a, .int .i64 c]) = .returned (.tuple #[.string b, .int .i64 d]) := by rw [h, g]
end Go.Proofs.YtnkcbefamajghaaDoor
