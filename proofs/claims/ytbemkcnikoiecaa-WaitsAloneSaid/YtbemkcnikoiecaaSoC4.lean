
/- sort.Slice's own functions, where 'less' makes memory of its own (a call with structs by value boxes them): what a world may come to on the way, and what is kept. sort.insertionSort_func, where 'less' makes memory of its own. sort.siftDown_func and sort.heapSort_func, where 'less' makes memory of its own. sort.heapSort_func, where 'less' makes memory of its own. sort.partialInsertionSort_func, where 'less' makes memory of its own. -/
import Derived.Shelf.SlSortFuncK.SWK
import Derived.Sort.AssemblyPlain
import Derived.WalkKit
import Derived.Shelf.Abstract
import Derived.Test.YtbemkcnikoiecaaChecked
import Derived.Sort.WalkA
import Derived.Lib.Hide
set_option linter.unusedVariables false
namespace Go.Proofs.Ytbemkcnikoiecaa
open Go.Shelf Go.RowKit Go.Lib Go.Sort
namespace So

/-- A world that has drawn, and has new memory; nothing else. -/
def Gr (W W' : World) : Prop := ∃ (q : Nat) (os : Array Obj), W' = Sort.grow (W.drewN q) os
/-- All blocks but one stay as they are. -/
def Kx (blk c : Nat) (W W' : World) : Prop := W.heap.size ≤ W'.heap.size ∧ ∀ b, b < W.heap.size → b ≠ blk → b ≠ c → W'.heap[b]? = W.heap[b]?
theorem Kx.refl (blk c : Nat) (W : World) : Kx blk c W W := ⟨Nat.le_refl _, fun _ _ _ _ => rfl⟩
theorem Kx.trans {blk c : Nat} {X Y Z : World} (h : Kx blk c X Y) (g : Kx blk c Y Z) : Kx blk c X Z :=
  ⟨Nat.le_trans h.1 g.1, fun b hb h1 h2 => (g.2 b (Nat.lt_of_lt_of_le hb h.1) h1 h2).trans (h.2 b hb h1 h2)⟩
theorem Kx.more {blk c : Nat} {X Y : World} (h : Kx blk blk X Y) : Kx blk c X Y := ⟨h.1, fun b hb h1 _ => h.2 b hb h1 h1⟩
theorem Kx.gr {blk c : Nat} {W W' : World} (h : Gr W W') : Kx blk c W W' := by
  obtain ⟨q, os, rfl⟩ := h
  refine ⟨by rw [size_grow]; exact Nat.le_add_right _ _, fun b hb _ _ => ?_⟩
  show ((W.drewN q).heap ++ os)[b]? = _
  rw [Array.getElem?_append_left (by exact hb)]
  rfl
theorem Kx.alloc {blk c : Nat} (W : World) (o : Obj) : Kx blk c W (W.alloc o) := Kx.gr ⟨0, #[o], by rw [alloc_eq_grow]; rfl⟩
theorem Kx.setCell {blk c : Nat} (W : World) (o : Nat) (v : Value) : Kx blk c W (W.setCell ⟨blk, o, none⟩ v) :=
  ⟨(Below.refl 0 W).setCell (p := ⟨blk, o, none⟩) (Nat.zero_le _) v |>.size, fun _ _ h1 _ => Below.heap_setCell _ ⟨blk, o, none⟩ _ _ h1⟩
theorem Kx.setOther {blk c : Nat} (W : World) (o : Nat) (v : Value) : Kx blk c W (W.setCell ⟨c, o, none⟩ v) :=
  ⟨(Below.refl 0 W).setCell (p := ⟨c, o, none⟩) (Nat.zero_le _) v |>.size, fun _ _ _ h2 => Below.heap_setCell _ ⟨c, o, none⟩ _ _ h2⟩
theorem Kx.setCells {blk c : Nat} : ∀ (vs : List Value) (o : Nat) (W : World), Kx blk c W (W.setCells blk o vs)
  | [], _, W => Kx.refl blk c W
  | v :: r, o, W => by
    rw [World.setCells]
    exact (Kx.setCell W o v).trans (Kx.setCells r (o + 1) _)
theorem Kx.cell {blk c : Nat} {W W' : World} (h : Kx blk c W W') {b o : Nat} (hb : b < W.heap.size) (h1 : b ≠ blk) (h2 : b ≠ c) : W'.cell? ⟨b, o, none⟩ = W.cell? ⟨b, o, none⟩ := by
  have := h.2 b hb h1 h2
  simp only [World.cell?, this]

variable {α : Type} [Inhabited α] {enc : α → List Value} {k blk off n g sf : Nat} {lt : α → α → Bool} {lb sb : Array Value} {w0 W1 W W' : World} {dk dk' d : Array α}
theorem sw_gr (h : SWK enc k w0 blk off dk W) (hg : Gr W W') : SWK enc k w0 blk off dk W' := by
  obtain ⟨q, os, rfl⟩ := hg
  obtain ⟨m, os0, e⟩ := h.drewN q
  exact ⟨m, os0 ++ os, by rw [e]; unfold sortWorldK; rw [grow_grow]⟩

/-- On the way, from a world: the row holds so much, all else stays. -/
structure St (enc : α → List Value) (k blk off : Nat) (w0 : World) (c : Nat) (W1 : World) (dk : Array α) (W : World) : Prop where
  sw : SWK enc k w0 blk off dk W
  kx : Kx blk c W1 W
variable {c : Nat}
theorem St.start (h : SWK enc k w0 blk off dk W) : St enc k blk off w0 c W dk W := ⟨h, Kx.refl _ _ _⟩
theorem St.trans (h : St enc k blk off w0 c W1 dk W) (g : St enc k blk off w0 c W dk' W') : St enc k blk off w0 c W1 dk' W' := ⟨g.sw, h.kx.trans g.kx⟩
theorem St.more (h : St enc k blk off w0 blk W1 dk W) : St enc k blk off w0 c W1 dk W := ⟨h.sw, h.kx.more⟩
theorem St.gr (h : St enc k blk off w0 c W1 dk W) (g : Gr W W') : St enc k blk off w0 c W1 dk W' := ⟨sw_gr h.sw g, h.kx.trans (Kx.gr g)⟩
theorem St.alloc (h : St enc k blk off w0 c W1 dk W) (o : Obj) : St enc k blk off w0 c W1 dk (W.alloc o) := ⟨h.sw.alloc o, h.kx.trans (Kx.alloc W o)⟩
theorem St.drewN (h : St enc k blk off w0 c W1 dk W) (q : Nat) : St enc k blk off w0 c W1 dk (W.drewN q) := h.gr ⟨q, #[], by rw [grow_empty]⟩
/-- From a world with a box of the call's own. -/
theorem St.under {o : Obj} (h : St enc k blk off w0 c (W1.alloc o) dk W) : St enc k blk off w0 c W1 dk W := ⟨h.sw, (Kx.alloc W1 o).trans h.kx⟩
theorem St.le (h : St enc k blk off w0 c W1 dk W) : W1.heap.size ≤ W.heap.size := h.kx.1

/-- What a call of the sort leans on: the row, 'less' and 'swap'. -/
structure SE (enc : α → List Value) (k : Nat) (lt : α → α → Bool) (g : Nat) (lb : Array Value) (sf : Nat) (sb : Array Value) (blk off n : Nat) (w0 : World) : Prop where
  hk : ∀ x, (enc x).length = k
  hb : blk < w0.heap.size
  h0 : ∃ d0 : Array α, HoldsK enc k w0 blk off d0 ∧ d0.size = n
  hn : n < 4611686018427387904
  eg : ∀ args w, (callFunc g args).run Try.prog w = .ok (.enter g args) w
  less : ∀ (W : World) (dk : Array α), SWK enc k w0 blk off dk W → dk.size = n → ∀ i j : Nat, i < n → j < n →
    Calls Try.prog g (#[.int .i64 i, .int .i64 j] ++ lb) W fun e W' => e = .returned (.bool (lt dk[i]! dk[j]!)) ∧ Gr W W'
  swap : SwapSwapsK Try.prog sf sb enc k blk off n
theorem SE.ls (S : SE enc k lt g lb sf sb blk off n w0) (h : SWK enc k w0 blk off dk W) (hs : dk.size = n) (i j : Nat) (i' j' : Int) (hi : i' = (i : Int)) (hj : j' = (j : Int)) (h1 : i < n) (h2 : j < n) :
    Calls Try.prog g (#[.int .i64 i', .int .i64 j'] ++ lb) W fun e W' => e = .returned (.bool (lt dk[i]! dk[j]!)) ∧ Gr W W' := by
  subst hi; subst hj
  exact S.less W dk h hs i j h1 h2
theorem SE.holds (S : SE enc k lt g lb sf sb blk off n w0) (h : SWK enc k w0 blk off dk W) (hs : dk.size = n) : HoldsK enc k W blk off dk := by
  obtain ⟨d0, h0, e0⟩ := S.h0
  exact h.holds S.hb h0 (hs.trans e0.symm)
/-- A swap: what it does, and what stands behind it. -/
theorem SE.sp (S : SE enc k lt g lb sf sb blk off n w0) (h : St enc k blk off w0 c W1 dk W) (hs : dk.size = n) (i j : Nat) (i' j' : Int) (hi : i' = (i : Int)) (hj : j' = (j : Int)) (h1 : i < n) (h2 : j < n) :
    ∃ W2, (callFunc sf (#[.int .i64 i', .int .i64 j'] ++ sb)).run Try.prog W = .ok (.value (.tuple #[])) W2 ∧ St enc k blk off w0 c W1 (swp dk i j) W2 ∧ (swp dk i j).size = n := by
  subst hi; subst hj
  exact ⟨_, S.swap W dk (S.holds h.sw hs) hs i j h1 h2, ⟨h.sw.swap S.hk S.hb i j (by omega) (by omega), h.kx.trans ((Kx.setCells _ _ W).trans (Kx.setCells _ _ _))⟩, (size_swp dk i j).trans hs⟩
/-- The box of 'data' that a function lays when it is entered. -/
theorem SE.box (S : SE enc k lt g lb sf sb blk off n w0) (h : SWK enc k w0 blk off dk W) (o : Nat) {cs : Array Value} {t : Go.TypeId} {v : Value} (hv : (W.alloc (.cells cs t)).cell? ⟨W.heap.size, o, none⟩ = some v) (hc : c < W.heap.size) :
    ∀ {dj : Array α} {X : World}, St enc k blk off w0 c (W.alloc (.cells cs t)) dj X → X.cell? ⟨W.heap.size, o, none⟩ = some v := fun {_ _} hX =>
  (hX.kx.cell (by simp) (by have := h.lt S.hb; omega) (by omega)).trans hv
end So
end Go.Proofs.Ytbemkcnikoiecaa
namespace Go.Proofs.Ytbemkcnikoiecaa
open Go.Shelf Go.RowKit Go.Lib Go.Sort
namespace So
variable {α : Type} [Inhabited α] {enc : α → List Value} {k blk off n g sf : Nat} {lt : α → α → Bool} {lb sb : Array Value} {w0 : World}
set_option maxHeartbeats 4000000 in
set_option maxRecDepth 100000 in
theorem so_insertion (S : SE enc k lt g lb sf sb blk off n w0) (a b : Nat) (d : Array α) (W : World) (h : SWK enc k w0 blk off d W) (hs : d.size = n) (hab : a ≤ b) (hbn : b ≤ n) :
    Calls Try.prog 62 #[.agg #[.func (.func g) #[] lb, .func (.func sf) #[] sb], .int .i64 a, .int .i64 b] W fun e w' => e = .returned (.tuple #[]) ∧ St enc k blk off w0 blk W (Sort.insertionSort lt d a b) w' := by
  have hn := S.hn
  have eg := S.eg
  have hbW := h.lt S.hb
  have B0 := fun {dj : Array α} {X : World} => S.box (c := blk) (cs := #[.func (.func g) #[] lb, .func (.func sf) #[] sb]) (t := 88) (v := .func (.func g) #[] lb) h 0 (by simp) hbW (dj := dj) (X := X)
  have B1 := fun {dj : Array α} {X : World} => S.box (c := blk) (cs := #[.func (.func g) #[] lb, .func (.func sf) #[] sb]) (t := 88) (v := .func (.func sf) #[] sb) h 1 (by simp) hbW (dj := dj) (X := X)
  have H1 := St.start (c := blk) (h.alloc (.cells #[.func (.func g) #[] lb, .func (.func sf) #[] sb] 88))
  go_enter Try.func62, Try.ntmps62
  go_wp2
  go_loopw [6] (fun vi wr => ∃ (i : Nat) (dk : Array α), vi = .int .i64 i ∧ a < i ∧ i ≤ b + 1 ∧ dk.size = n ∧ St enc k blk off w0 blk (W.alloc (.cells #[.func (.func g) #[] lb, .func (.func sf) #[] sb] 88)) dk wr ∧
      insOuter lt a b i dk = insOuter lt a b (a + 1) d) (fun vi _ => b + 1 - (intOf vi).toNat)
  case atStart => exact ⟨a + 1, d, by go_num, by omega, by omega, hs, H1, rfl⟩
  case round =>
    obtain ⟨i, dk, rfl, hai, hib, hsk, hst, hO⟩ := hrel
    have HO : Hid (insOuter lt a b i dk = insOuter lt a b (a + 1) d) := Lib.hid hO
    have HST := Lib.hid hst
    clear hO hst H1
    go_wp2
    · have hlt : i < b := by assumption
      go_loopw [7] (fun vj wr2 => ∃ (j : Nat) (dj : Array α), vj = .int .i64 j ∧ a ≤ j ∧ j ≤ i ∧ dj.size = n ∧ St enc k blk off w0 blk (W.alloc (.cells #[.func (.func g) #[] lb, .func (.func sf) #[] sb] 88)) dj wr2 ∧
          insInner lt a j dj = insInner lt a i dk) (fun vj _ => (intOf vj).toNat)
      case atStart => exact ⟨i, dk, rfl, by omega, Nat.le_refl _, hsk, HST.out, rfl⟩
      case round =>
        obtain ⟨j, dj, rfl, haj, hji, hsj, hst, hI⟩ := hrel
        have HI : Hid (insInner lt a j dj = insInner lt a i dk) := Lib.hid hI
        have HS := Lib.hid hst
        have c0 := B0 hst
        clear hI hst HST
        have OUT : Hid ((j ≤ a ∨ lt dj[j]! dj[j - 1]! = false) → insOuter lt a b (i + 1) dj = insOuter lt a b (a + 1) d) := Lib.hid fun hx => by
          rw [← HO.out, insOuter_go _ _ _ _ _ hlt, ← HI.out, insInner_stop _ _ _ _ hx]
        by_cases hja : a < j
        · have hl := S.ls HS.out.sw hsj j (j - 1) (j : Int) ((j : Int) - 1) rfl (by omega) (by omega) (by omega)
          cases hlv : lt dj[j]! dj[j - 1]! with
          | true =>
            rw [hlv] at hl
            have HL := Lib.hid hlv
            clear hlv
            go_wp2_with (go_at_fn g; refine hl.mono ?_; rintro e w' ⟨rfl, hg⟩; have HS2 := Lib.hid (HS.out.gr hg); have c1 := B1 HS2.out; clear hg)
            obtain ⟨W3, hsw, hst3, hs3⟩ := S.sp HS2.out hsj j (j - 1) (j : Int) ((j : Int) - 1) rfl (by omega) (by omega) (by omega)
            have HS3 := Lib.hid hst3
            have Hs3 := Lib.hid hs3
            rw [hsw, Oper.upon_value]
            clear hsw hst3 hs3
            go_wp2
            go_roundw
            case rel =>
              (repeat apply Exists.intro)
              exact ⟨⟨j - 1, swp dj j (j - 1), by congr 1 <;> omega, by omega, by omega, Hs3.out, HS3.out, by rw [← HI.out, insInner_go lt a j dj hja HL.out]⟩, by rw [decide_eq_true hlt, show ((j - 1 : Nat) : Int) = (j : Int) - 1 by omega]⟩
            case measure => simp [intOf]; omega
          | false =>
            rw [hlv] at hl
            have HL := Lib.hid hlv
            clear hlv
            go_wp2_with (go_at_fn g; refine hl.mono ?_; rintro e w' ⟨rfl, hg⟩; have HS2 := Lib.hid (HS.out.gr hg); clear hg)
            go_roundw
            case rel => exact ⟨i + 1, dj, by go_num, by omega, by omega, hsj, HS2.out, OUT.out (Or.inr HL.out)⟩
            case measure => simp [intOf]; omega
        · go_wp2
          go_roundw
          case rel => exact ⟨i + 1, dj, by go_num, by omega, by omega, hsj, HS.out, OUT.out (Or.inl (by omega))⟩
          case measure => simp [intOf]; omega
    · have hge : ¬ i < b := by assumption
      go_end0
      exact ⟨rfl, by unfold Sort.insertionSort; rw [← HO.out, insOuter_stop _ _ _ _ _ hge]; exact HST.out.under⟩
end So
end Go.Proofs.Ytbemkcnikoiecaa
namespace Go.Proofs.Ytbemkcnikoiecaa
open Go.Shelf Go.RowKit Go.Lib Go.Sort
namespace So
variable {α : Type} [Inhabited α] {enc : α → List Value} {k blk off n g sf : Nat} {lt : α → α → Bool} {lb sb : Array Value} {w0 : World}
theorem sift_end {hi first root : Nat} {d : Array α} (h : 2 * root + 1 ≥ hi) : siftDown lt hi first root d = d := by
  rw [siftDown, dif_pos h]
/-- With the child that is chosen. -/
theorem sift_on {hi first root c : Nat} {d : Array α} (h : 2 * root + 1 < hi) (hc : (c = 2 * root + 2 ∧ c < hi ∧ lt d[first + (2 * root + 1)]! d[first + (2 * root + 1) + 1]! = true) ∨ (c = 2 * root + 1 ∧ (¬ 2 * root + 2 < hi ∨ lt d[first + (2 * root + 1)]! d[first + (2 * root + 1) + 1]! = false))) :
    siftDown lt hi first root d = if lt d[first + root]! d[first + c]! = true then siftDown lt hi first c (swp d (first + root) (first + c)) else d := by
  rw [siftDown, dif_neg (by omega)]
  rcases hc with ⟨rfl, h1, h2⟩ | ⟨rfl, h1⟩
  · rw [if_pos (by rw [h2]; simpa using h1)]
    cases lt d[first + root]! d[first + (2 * root + 2)]! <;> simp [h1]
  · rw [if_neg]
    · cases lt d[first + root]! d[first + (2 * root + 1)]! <;> simp
    · rcases h1 with h1 | h1
      · simp; intro h; omega
      · simp [h1]
theorem size_sift (hi first : Nat) : ∀ (q root : Nat) (d : Array α), hi - root ≤ q → (siftDown lt hi first root d).size = d.size := by
  intro q
  induction q with
  | zero => intro root d h; rw [sift_end (by omega)]
  | succ q ih =>
    intro root d h
    by_cases h1 : hi ≤ 2 * root + 1
    · rw [sift_end h1]
    · by_cases h2 : 2 * root + 2 < hi ∧ lt d[first + (2 * root + 1)]! d[first + (2 * root + 1) + 1]! = true
      · rw [sift_on (hi := hi) (c := 2 * root + 2) (by omega) (Or.inl ⟨rfl, h2.1, h2.2⟩)]
        split
        · rw [ih _ _ (by omega), size_swp]
        · rfl
      · rw [sift_on (hi := hi) (c := 2 * root + 1) (by omega) (Or.inr ⟨rfl, by
          by_cases h3 : 2 * root + 2 < hi
          · right
            cases e : lt d[first + (2 * root + 1)]! d[first + (2 * root + 1) + 1]! with
            | true => exact absurd ⟨h3, e⟩ h2
            | false => rfl
          · exact Or.inl h3⟩)]
        split
        · rw [ih _ _ (by omega), size_swp]
        · rfl
set_option maxHeartbeats 8000000 in
set_option maxRecDepth 100000 in
theorem so_sift (S : SE enc k lt g lb sf sb blk off n w0) (lo hi first : Nat) (d : Array α) (W : World) (h : SWK enc k w0 blk off d W) (hs : d.size = n) (hlo : lo ≤ hi) (hbn : first + hi ≤ n) :
    Calls Try.prog 70 #[.agg #[.func (.func g) #[] lb, .func (.func sf) #[] sb], .int .i64 lo, .int .i64 hi, .int .i64 first] W fun e w' => e = .returned (.tuple #[]) ∧ St enc k blk off w0 blk W (siftDown lt hi first lo d) w' := by
  have hn := S.hn
  have eg := S.eg
  have hbW := h.lt S.hb
  have B0 := fun {dj : Array α} {X : World} => S.box (c := blk) (cs := #[.func (.func g) #[] lb, .func (.func sf) #[] sb]) (t := 88) (v := .func (.func g) #[] lb) h 0 (by simp) hbW (dj := dj) (X := X)
  have B1 := fun {dj : Array α} {X : World} => S.box (c := blk) (cs := #[.func (.func g) #[] lb, .func (.func sf) #[] sb]) (t := 88) (v := .func (.func sf) #[] sb) h 1 (by simp) hbW (dj := dj) (X := X)
  have H1 := St.start (c := blk) (h.alloc (.cells #[.func (.func g) #[] lb, .func (.func sf) #[] sb] 88))
  go_enter Try.func70, Try.ntmps70
  go_wp2
  go_loopw [8] (fun vr wr => ∃ (root : Nat) (dk : Array α), vr = .int .i64 root ∧ root ≤ hi ∧ dk.size = n ∧ St enc k blk off w0 blk (W.alloc (.cells #[.func (.func g) #[] lb, .func (.func sf) #[] sb] 88)) dk wr ∧
      siftDown lt hi first root dk = siftDown lt hi first lo d) (fun vr _ => hi - (intOf vr).toNat)
  case atStart => exact ⟨lo, d, rfl, hlo, hs, H1, rfl⟩
  case round =>
    obtain ⟨root, dk, rfl, hrh, hsk, hst, hO⟩ := hrel
    have HO : Hid (siftDown lt hi first root dk = siftDown lt hi first lo d) := Lib.hid hO
    have HS := Lib.hid hst
    have c0 := B0 hst
    clear hO hst H1
    by_cases hend : hi ≤ 2 * root + 1
    · have hendz : (hi : Int) ≤ 2 * (root : Int) + 1 := by omega
      go_wp2
      go_end0
      refine ⟨rfl, ?_⟩
      rw [← HO.out, sift_end hend]
      exact HS.out.under
    · have hendz : ¬ (hi : Int) ≤ 2 * (root : Int) + 1 := by omega
      by_cases hsec : 2 * root + 2 < hi
      · have hsecz : 2 * (root : Int) + 1 + 1 < (hi : Int) := by omega
        have hl1 := S.ls HS.out.sw hsk (first + (2 * root + 1)) (first + (2 * root + 1) + 1) ((first : Int) + (2 * (root : Int) + 1)) ((first : Int) + (2 * (root : Int) + 1) + 1) (by omega) (by omega) (by omega) (by omega)
        cases hlv : lt dk[first + (2 * root + 1)]! dk[first + (2 * root + 1) + 1]! with
        | true =>
          rw [hlv] at hl1
          have HC := Lib.hid (sift_on (hi := hi) (c := 2 * root + 2) (by omega) (Or.inl ⟨rfl, hsec, hlv⟩))
          clear hlv
          have hl2 := fun (X : World) (HX : St enc k blk off w0 blk (W.alloc (.cells #[.func (.func g) #[] lb, .func (.func sf) #[] sb] 88)) dk X) => S.ls HX.sw hsk (first + root) (first + (2 * root + 2)) ((first : Int) + (root : Int)) ((first : Int) + (2 * (root : Int) + 1 + 1)) (by omega) (by omega) (by omega) (by omega)
          cases hlw : lt dk[first + root]! dk[first + (2 * root + 2)]! with
          | true =>
            rw [hlw] at hl2
            have HL := Lib.hid hlw
            clear hlw
            go_wp2_with (first
              | (go_at_fn g; refine (hl2 _ HS1.out).mono ?_; rintro e w2 ⟨rfl, hg2⟩; have HS2 := Lib.hid (HS1.out.gr hg2); have c1 := B1 HS2.out; clear hg2)
              | (go_at_fn g; refine hl1.mono ?_; rintro e w1 ⟨rfl, hg1⟩; have HS1 := Lib.hid (HS.out.gr hg1); have c01 := B0 HS1.out; clear hg1))
            obtain ⟨W3, hsw, hst3, hs3⟩ := S.sp HS2.out hsk (first + root) (first + (2 * root + 2)) ((first : Int) + (root : Int)) ((first : Int) + (2 * (root : Int) + 1 + 1)) (by omega) (by omega) (by omega) (by omega)
            have HS3 := Lib.hid hst3
            have Hs3 := Lib.hid hs3
            rw [hsw, Oper.upon_value]
            clear hsw hst3 hs3
            go_wp2
            go_roundw
            case rel => exact ⟨2 * root + 2, swp dk (first + root) (first + (2 * root + 2)), by go_num, by omega, Hs3.out, HS3.out, by rw [← HO.out, HC.out, if_pos HL.out]⟩
            case measure => simp [intOf]; omega
          | false =>
            rw [hlw] at hl2
            have HL := Lib.hid hlw
            clear hlw
            go_wp2_with (first
              | (go_at_fn g; refine (hl2 _ HS1.out).mono ?_; rintro e w2 ⟨rfl, hg2⟩; have HS2 := Lib.hid (HS1.out.gr hg2); clear hg2)
              | (go_at_fn g; refine hl1.mono ?_; rintro e w1 ⟨rfl, hg1⟩; have HS1 := Lib.hid (HS.out.gr hg1); have c01 := B0 HS1.out; clear hg1))
            (try simp only [Exit.inBlock, Exit.then]); refine bodyPost_ret (results_none rfl _ _ _) rfl ?_
            refine ⟨rfl, ?_⟩
            rw [← HO.out, HC.out, if_neg (by rw [HL.out]; exact Bool.false_ne_true)]
            exact HS2.out.under
        | false =>
          rw [hlv] at hl1
          have HC := Lib.hid (sift_on (hi := hi) (c := 2 * root + 1) (by omega) (Or.inr ⟨rfl, Or.inr hlv⟩))
          clear hlv
          have hl2 := fun (X : World) (HX : St enc k blk off w0 blk (W.alloc (.cells #[.func (.func g) #[] lb, .func (.func sf) #[] sb] 88)) dk X) => S.ls HX.sw hsk (first + root) (first + (2 * root + 1)) ((first : Int) + (root : Int)) ((first : Int) + (2 * (root : Int) + 1)) (by omega) (by omega) (by omega) (by omega)
          cases hlw : lt dk[first + root]! dk[first + (2 * root + 1)]! with
          | true =>
            rw [hlw] at hl2
            have HL := Lib.hid hlw
            clear hlw
            go_wp2_with (first
              | (go_at_fn g; refine (hl2 _ HS1.out).mono ?_; rintro e w2 ⟨rfl, hg2⟩; have HS2 := Lib.hid (HS1.out.gr hg2); have c1 := B1 HS2.out; clear hg2)
              | (go_at_fn g; refine hl1.mono ?_; rintro e w1 ⟨rfl, hg1⟩; have HS1 := Lib.hid (HS.out.gr hg1); have c01 := B0 HS1.out; clear hg1))
            obtain ⟨W3, hsw, hst3, hs3⟩ := S.sp HS2.out hsk (first + root) (first + (2 * root + 1)) ((first : Int) + (root : Int)) ((first : Int) + (2 * (root : Int) + 1)) (by omega) (by omega) (by omega) (by omega)
            have HS3 := Lib.hid hst3
            have Hs3 := Lib.hid hs3
            rw [hsw, Oper.upon_value]
            clear hsw hst3 hs3
            go_wp2
            go_roundw
            case rel => exact ⟨2 * root + 1, swp dk (first + root) (first + (2 * root + 1)), by go_num, by omega, Hs3.out, HS3.out, by rw [← HO.out, HC.out, if_pos HL.out]⟩
            case measure => simp [intOf]; omega
          | false =>
            rw [hlw] at hl2
            have HL := Lib.hid hlw
            clear hlw
            go_wp2_with (first
              | (go_at_fn g; refine (hl2 _ HS1.out).mono ?_; rintro e w2 ⟨rfl, hg2⟩; have HS2 := Lib.hid (HS1.out.gr hg2); clear hg2)
              | (go_at_fn g; refine hl1.mono ?_; rintro e w1 ⟨rfl, hg1⟩; have HS1 := Lib.hid (HS.out.gr hg1); have c01 := B0 HS1.out; clear hg1))
            (try simp only [Exit.inBlock, Exit.then]); refine bodyPost_ret (results_none rfl _ _ _) rfl ?_
            refine ⟨rfl, ?_⟩
            rw [← HO.out, HC.out, if_neg (by rw [HL.out]; exact Bool.false_ne_true)]
            exact HS2.out.under
      · have hsecz : ¬ 2 * (root : Int) + 1 + 1 < (hi : Int) := by omega
        have HC := Lib.hid (sift_on (lt := lt) (hi := hi) (first := first) (d := dk) (c := 2 * root + 1) (by omega) (Or.inr ⟨rfl, Or.inl hsec⟩))
        have hl2 := fun (X : World) (HX : St enc k blk off w0 blk (W.alloc (.cells #[.func (.func g) #[] lb, .func (.func sf) #[] sb] 88)) dk X) => S.ls HX.sw hsk (first + root) (first + (2 * root + 1)) ((first : Int) + (root : Int)) ((first : Int) + (2 * (root : Int) + 1)) (by omega) (by omega) (by omega) (by omega)
        cases hlw : lt dk[first + root]! dk[first + (2 * root + 1)]! with
        | true =>
          rw [hlw] at hl2
          have HL := Lib.hid hlw
          clear hlw
          go_wp2_with (first
            | (go_at_fn g; refine (hl2 _ HS.out).mono ?_; rintro e w2 ⟨rfl, hg2⟩; have HS2 := Lib.hid (HS.out.gr hg2); have c1 := B1 HS2.out; clear hg2))
          obtain ⟨W3, hsw, hst3, hs3⟩ := S.sp HS2.out hsk (first + root) (first + (2 * root + 1)) ((first : Int) + (root : Int)) ((first : Int) + (2 * (root : Int) + 1)) (by omega) (by omega) (by omega) (by omega)
          have HS3 := Lib.hid hst3
          have Hs3 := Lib.hid hs3
          rw [hsw, Oper.upon_value]
          clear hsw hst3 hs3
          go_wp2
          go_roundw
          case rel => exact ⟨2 * root + 1, swp dk (first + root) (first + (2 * root + 1)), by go_num, by omega, Hs3.out, HS3.out, by rw [← HO.out, HC.out, if_pos HL.out]⟩
          case measure => simp [intOf]; omega
        | false =>
          rw [hlw] at hl2
          have HL := Lib.hid hlw
          clear hlw
          go_wp2_with (first
            | (go_at_fn g; refine (hl2 _ HS.out).mono ?_; rintro e w2 ⟨rfl, hg2⟩; have HS2 := Lib.hid (HS.out.gr hg2); clear hg2))
          (try simp only [Exit.inBlock, Exit.then]); refine bodyPost_ret (results_none rfl _ _ _) rfl ?_
          refine ⟨rfl, ?_⟩
          rw [← HO.out, HC.out, if_neg (by rw [HL.out]; exact Bool.false_ne_true)]
          exact HS2.out.under
end So
end Go.Proofs.Ytbemkcnikoiecaa
namespace Go.Proofs.Ytbemkcnikoiecaa
open Go.Shelf Go.RowKit Go.Lib Go.Sort
namespace So
variable {α : Type} [Inhabited α] {enc : α → List Value} {k blk off n g sf : Nat} {lt : α → α → Bool} {lb sb : Array Value} {w0 : World}
set_option maxHeartbeats 8000000 in
set_option maxRecDepth 100000 in
theorem so_heap (S : SE enc k lt g lb sf sb blk off n w0) (a b : Nat) (d : Array α) (W : World) (h : SWK enc k w0 blk off d W) (hs : d.size = n) (hab : a < b) (hbn : b ≤ n) :
    Calls Try.prog 63 #[.agg #[.func (.func g) #[] lb, .func (.func sf) #[] sb], .int .i64 a, .int .i64 b] W fun e w' => e = .returned (.tuple #[]) ∧ St enc k blk off w0 blk W (Sort.heapSort lt d a b) w' := by
  have hn := S.hn
  have hbW := h.lt S.hb
  have B0 := fun {dj : Array α} {X : World} => S.box (c := blk) (cs := #[.func (.func g) #[] lb, .func (.func sf) #[] sb]) (t := 88) (v := .func (.func g) #[] lb) h 0 (by simp) hbW (dj := dj) (X := X)
  have B1 := fun {dj : Array α} {X : World} => S.box (c := blk) (cs := #[.func (.func g) #[] lb, .func (.func sf) #[] sb]) (t := 88) (v := .func (.func sf) #[] sb) h 1 (by simp) hbW (dj := dj) (X := X)
  have H1 := St.start (c := blk) (h.alloc (.cells #[.func (.func g) #[] lb, .func (.func sf) #[] sb] 88))
  obtain ⟨H, hbH⟩ : ∃ H, b = a + H := ⟨b - a, by omega⟩
  obtain ⟨m, hH⟩ : ∃ m, H = m + 1 := ⟨H - 1, by omega⟩
  have m1 : (b : Int) - (a : Int) = (H : Int) := by omega
  have m2 : (H : Int) - 1 = (m : Int) := by omega
  have m3 : (m : Int).tdiv 2 = ((m / 2 : Nat) : Int) := by rw [Int.tdiv_eq_ediv_of_nonneg (by omega)]; rfl
  have E : Hid (Sort.heapSort lt d a b = heapPop lt a H (heapBuild lt H a (m / 2 + 1) d)) := Lib.hid (by
    unfold Sort.heapSort
    rw [show b - a = H by omega, show H - 1 = m by omega])
  generalize Sort.heapSort lt d a b = R at E ⊢
  have haH : a + H ≤ n := by omega
  have hmH : m / 2 + 1 ≤ H := by omega
  have hmz : (H : Int) = (m : Int) + 1 := by omega
  have HMZ := Lib.hid hmz
  clear hbH hH hmz
  go_enter Try.func63, Try.ntmps63
  go_wp2
  go_loopw [9] (fun vi wr => ∃ (j : Nat) (z : Int) (dk : Array α), vi = .int .i64 z ∧ z + 1 = (j : Int) ∧ j ≤ m / 2 + 1 ∧ dk.size = n ∧ St enc k blk off w0 blk (W.alloc (.cells #[.func (.func g) #[] lb, .func (.func sf) #[] sb] 88)) dk wr ∧
      heapBuild lt H a j dk = heapBuild lt H a (m / 2 + 1) d) (fun vi _ => (intOf vi + 1).toNat)
  case atStart => exact ⟨m / 2 + 1, (m / 2 : Nat), d, rfl, by omega, Nat.le_refl _, hs, H1, rfl⟩
  case round =>
    obtain ⟨j, z, dk, rfl, hz, hj, hsk, hst, hO⟩ := hrel
    have HO : Hid (heapBuild lt H a j dk = heapBuild lt H a (m / 2 + 1) d) := Lib.hid hO
    have HS := Lib.hid hst
    have c0 := B0 hst
    have c1 := B1 hst
    clear hO hst H1
    cases j with
    | succ j =>
      obtain rfl : z = (j : Int) := by omega
      clear hz
      have hc := so_sift S j H a dk wr HS.out.sw hsk (by omega) (by omega)
      go_wp2_with (go_at_call 70; refine hc.mono ?_; rintro e w1 ⟨rfl, hst1⟩; have HS1 := Lib.hid (HS.out.trans hst1); clear hst1)
      go_roundw
      case rel => exact ⟨j, (j : Int) - 1, siftDown lt H a j dk, by go_num, by omega, by omega, by rw [size_sift _ _ _ _ _ (Nat.le_refl _)]; exact hsk, HS1.out, by rw [← HO.out]; rfl⟩
      case measure => simp [intOf] <;> omega
    | zero =>
      obtain rfl : z = -1 := by omega
      clear hz
      have EB : Hid (R = heapPop lt a H dk) := Lib.hid (by rw [E.out, ← HO.out]; rfl)
      clear E HO
      go_wp2
      go_loopw [10] (fun vi wr2 => ∃ (j : Nat) (z : Int) (dj : Array α), vi = .int .i64 z ∧ z + 1 = (j : Int) ∧ j ≤ H ∧ dj.size = n ∧ St enc k blk off w0 blk (W.alloc (.cells #[.func (.func g) #[] lb, .func (.func sf) #[] sb] 88)) dj wr2 ∧
          R = heapPop lt a j dj) (fun vi _ => (intOf vi + 1).toNat)
      case atStart => exact ⟨H, m, dk, rfl, HMZ.out.symm, Nat.le_refl _, hsk, HS.out, EB.out⟩
      case round =>
        obtain ⟨j, z, dj, rfl, hz, hj, hsj, hst, hO⟩ := hrel
        have HO := Lib.hid hO
        have HS2 := Lib.hid hst
        have c2 := B1 hst
        clear hO hst HS EB
        cases j with
        | succ j =>
          obtain rfl : z = (j : Int) := by omega
          clear hz
          go_wp2
          obtain ⟨W3, hsw, hst3, hs3⟩ := S.sp HS2.out hsj a (a + j) (a : Int) ((a : Int) + (j : Int)) rfl (by omega) (by omega) (by omega)
          have HS3 := Lib.hid hst3
          have Hs3 := Lib.hid hs3
          have c3 := B0 hst3
          have c4 := B1 hst3
          rw [hsw, Oper.upon_value]
          clear hsw hst3 hs3
          have hc := so_sift S 0 j a (swp dj a (a + j)) W3 HS3.out.sw Hs3.out (by omega) (by omega)
          go_wp2_with (go_at_call 70; refine hc.mono ?_; rintro e w1 ⟨rfl, hst1⟩; have HS4 := Lib.hid (HS3.out.trans hst1); clear hst1)
          go_roundw
          case rel => exact ⟨j, (j : Int) - 1, siftDown lt j a 0 (swp dj a (a + j)), by go_num, by omega, by omega, by rw [size_sift _ _ _ _ _ (Nat.le_refl _)]; exact Hs3.out, HS4.out, by rw [HO.out]; rfl⟩
          case measure => simp [intOf] <;> omega
        | zero =>
          obtain rfl : z = -1 := by omega
          clear hz
          go_wp2
          go_end0
          exact ⟨rfl, by rw [HO.out]; exact HS2.out.under⟩
end So
end Go.Proofs.Ytbemkcnikoiecaa
namespace Go.Proofs.Ytbemkcnikoiecaa
open Go.Shelf Go.RowKit Go.Lib Go.Sort
namespace So
variable {α : Type} [Inhabited α] {enc : α → List Value} {k blk off n g sf : Nat} {lt : α → α → Bool} {lb sb : Array Value} {w0 : World}
theorem scan_on {b i : Nat} {d : Array α} (h : i < b) (hl : lt d[i]! d[i - 1]! = false) : scanSorted lt d b i = scanSorted lt d b (i + 1) := by
  rw [scanSorted, if_pos (by simp [h, hl])]
theorem scan_stop {b i : Nat} {d : Array α} (h : ¬ i < b ∨ lt d[i]! d[i - 1]! = true) : scanSorted lt d b i = i := by
  rw [scanSorted, if_neg]
  rcases h with h | h
  · simp [h]
  · simp [h]
theorem pin_end {a b s i : Nat} {d : Array α} (h : scanSorted lt d b i = b) : partialIns lt a b (s + 1) i d = (d, true) := by
  rw [partialIns]; simp [h]
theorem pin_short {a b s i j : Nat} {d : Array α} (h : scanSorted lt d b i = j) (hj : j ≠ b) (hb : b - a < 50) : partialIns lt a b (s + 1) i d = (d, false) := by
  rw [partialIns]; simp [h, hj, hb]
theorem pin_go {a b s i j : Nat} {d : Array α} (h : scanSorted lt d b i = j) (hj : j ≠ b) (hb : ¬ b - a < 50) :
    partialIns lt a b (s + 1) i d = partialIns lt a b s j (if b - j ≥ 2 then shiftUp lt b (j + 1) (if j - a ≥ 2 then shiftDown lt (j - 1) (swp d j (j - 1)) else swp d j (j - 1)) else (if j - a ≥ 2 then shiftDown lt (j - 1) (swp d j (j - 1)) else swp d j (j - 1))) := by
  rw [partialIns]; simp only [h, if_neg hj, if_neg hb]
theorem sd_go {j : Nat} {d : Array α} (hl : lt d[j + 1]! d[j]! = true) : shiftDown lt (j + 1) d = shiftDown lt j (swp d (j + 1) j) := by
  rw [shiftDown, hl]; rfl
theorem sd_stop {j : Nat} {d : Array α} (hl : lt d[j + 1]! d[j]! = false) : shiftDown lt (j + 1) d = d := by
  rw [shiftDown, hl]; rfl
theorem su_go {b j : Nat} {d : Array α} (h : j < b) (hl : lt d[j]! d[j - 1]! = true) : shiftUp lt b j d = shiftUp lt b (j + 1) (swp d j (j - 1)) := by
  rw [shiftUp, if_pos h, hl]; rfl
theorem su_stop {b j : Nat} {d : Array α} (h : j < b) (hl : lt d[j]! d[j - 1]! = false) : shiftUp lt b j d = d := by
  rw [shiftUp, if_pos h, hl]; rfl
theorem su_end {b j : Nat} {d : Array α} (h : ¬ j < b) : shiftUp lt b j d = d := by
  rw [shiftUp, if_neg h]
set_option maxHeartbeats 8000000 in
set_option maxRecDepth 100000 in
theorem so_partial (S : SE enc k lt g lb sf sb blk off n w0) (a b : Nat) (d : Array α) (W : World) (h : SWK enc k w0 blk off d W) (hs : d.size = n) (hab : a < b) (hbn : b ≤ n) :
    Calls Try.prog 67 #[.agg #[.func (.func g) #[] lb, .func (.func sf) #[] sb], .int .i64 a, .int .i64 b] W fun e w' => e = .returned (.bool (Sort.partialInsertionSort lt d a b).2) ∧ St enc k blk off w0 blk W (Sort.partialInsertionSort lt d a b).1 w' ∧ (Sort.partialInsertionSort lt d a b).1.size = n := by
  have hn := S.hn
  have eg := S.eg
  have hbW := h.lt S.hb
  have B0 := fun {dj : Array α} {X : World} => S.box (c := blk) (cs := #[.func (.func g) #[] lb, .func (.func sf) #[] sb]) (t := 88) (v := .func (.func g) #[] lb) h 0 (by simp) hbW (dj := dj) (X := X)
  have B1 := fun {dj : Array α} {X : World} => S.box (c := blk) (cs := #[.func (.func g) #[] lb, .func (.func sf) #[] sb]) (t := 88) (v := .func (.func sf) #[] sb) h 1 (by simp) hbW (dj := dj) (X := X)
  have H1 := St.start (c := blk) (h.alloc (.cells #[.func (.func g) #[] lb, .func (.func sf) #[] sb] 88))
  have E : Hid (Sort.partialInsertionSort lt d a b = partialIns lt a b 5 (a + 1) d) := Lib.hid rfl
  generalize Sort.partialInsertionSort lt d a b = R at E ⊢
  go_enter Try.func67, Try.ntmps67
  go_wp2
  go_loopw [7, 8] (fun v7 v8 wr => ∃ (i s z : Nat) (dk : Array α), v7 = .int .i64 i ∧ v8 = .int .i64 z ∧ z + s = 5 ∧ a < i ∧ i ≤ b ∧ dk.size = n ∧ St enc k blk off w0 blk (W.alloc (.cells #[.func (.func g) #[] lb, .func (.func sf) #[] sb] 88)) dk wr ∧
      R = partialIns lt a b s i dk) (fun _ v8 _ => 5 - (intOf v8).toNat)
  case atStart => exact ⟨a + 1, 5, 0, d, by go_num, rfl, rfl, by omega, by omega, hs, H1, E.out⟩
  case round =>
    obtain ⟨i, s, z, dk, rfl, rfl, hzs, hai, hib, hsk, hst, hO⟩ := hrel
    have HO := Lib.hid hO
    have HST := Lib.hid hst
    clear hO hst H1 E
    cases s with
    | zero =>
      have hz5 : ¬ (z : Int) < 5 := by omega
      go_wp2
      (try simp only [Exit.inBlock, Exit.then, Exit.noGoto_ret]); refine bodyPost_ret (v := .bool false) (by simp [results, Try.results67, go_sem]) rfl ?_
      rw [HO.out]
      exact ⟨rfl, HST.out.under, hsk⟩
    | succ s =>
      have hz5 : (z : Int) < 5 := by omega
      go_wp2
      go_loopw [7] (fun v7 wr2 => ∃ (j : Nat), v7 = .int .i64 j ∧ i ≤ j ∧ j ≤ b ∧ St enc k blk off w0 blk (W.alloc (.cells #[.func (.func g) #[] lb, .func (.func sf) #[] sb] 88)) dk wr2 ∧ scanSorted lt dk b j = scanSorted lt dk b i) (fun v7 _ => b - (intOf v7).toNat)
      case atStart => exact ⟨i, rfl, Nat.le_refl _, hib, HST.out, rfl⟩
      case round =>
        obtain ⟨j, rfl, hij, hjb, hst, hI⟩ := hrel
        have HI := Lib.hid hI
        have HS := Lib.hid hst
        have c0 := B0 hst
        clear hI hst HST
        by_cases hend : j < b
        · have hl := S.ls HS.out.sw hsk j (j - 1) (j : Int) ((j : Int) - 1) rfl (by omega) (by omega) (by omega)
          cases hlv : lt dk[j]! dk[j - 1]! with
          | false =>
            rw [hlv] at hl
            have HL := Lib.hid hlv
            clear hlv
            go_wp2_with (go_at_fn g; refine hl.mono ?_; rintro e w1 ⟨rfl, hg⟩; have HS1 := Lib.hid (HS.out.gr hg); clear hg)
            go_roundw
            case rel => exact ⟨j + 1, by go_num, by omega, by omega, HS1.out, by rw [← HI.out]; exact (scan_on hend HL.out).symm⟩
            case measure => simp [intOf] <;> omega
          | true =>
            rw [hlv] at hl
            have HSC : Hid (scanSorted lt dk b i = j) := Lib.hid (by rw [← HI.out]; exact scan_stop (Or.inr hlv))
            clear hlv
            have hne : (j : Int) ≠ (b : Int) := by omega
            by_cases h50 : b - a < 50
            · have h50z : (b : Int) - (a : Int) < 50 := by omega
              go_wp2_with (go_at_fn g; refine hl.mono ?_; rintro e w1 ⟨rfl, hg⟩; have HS1 := Lib.hid (HS.out.gr hg); clear hg)
              (try simp only [Exit.inBlock, Exit.then, Exit.noGoto_ret]); refine bodyPost_ret (v := .bool false) (by simp [results, Try.results67, go_sem]) rfl ?_
              rw [HO.out, pin_short HSC.out (by omega) h50]
              exact ⟨rfl, HS1.out.under, hsk⟩
            · have h50z : ¬ (b : Int) - (a : Int) < 50 := by omega
              have HGO := Lib.hid (pin_go (lt := lt) (s := s) HSC.out (by omega) h50)
              go_wp2_with (go_at_fn g; refine hl.mono ?_; rintro e w1 ⟨rfl, hg⟩; have HS1 := Lib.hid (HS.out.gr hg); have c1 := B1 HS1.out; clear hg)
              obtain ⟨W3, hsw, hst3, hs3⟩ := S.sp HS1.out hsk j (j - 1) (j : Int) ((j : Int) - 1) rfl (by omega) (by omega) (by omega)
              have HS3 := Lib.hid hst3
              have Hs3 := Lib.hid hs3
              rw [hsw, Oper.upon_value]
              clear hsw hst3 hs3
              by_cases h2 : j - a ≥ 2
              · have h2z : (2 : Int) ≤ (j : Int) - (a : Int) := by omega
                go_wp2
                go_loopw [9] (fun v9 wr3 => ∃ (q : Nat) (dj : Array α), v9 = .int .i64 q ∧ q ≤ j - 1 ∧ dj.size = n ∧ St enc k blk off w0 blk (W.alloc (.cells #[.func (.func g) #[] lb, .func (.func sf) #[] sb] 88)) dj wr3 ∧ shiftDown lt q dj = shiftDown lt (j - 1) (swp dk j (j - 1))) (fun v9 _ => (intOf v9).toNat)
                case atStart => exact ⟨j - 1, swp dk j (j - 1), by congr 1; omega, Nat.le_refl _, Hs3.out, HS3.out, rfl⟩
                case round =>
                  obtain ⟨q, dj, rfl, hq, hsj, hst, hI3⟩ := hrel
                  have HI3 := Lib.hid hI3
                  have HS4 := Lib.hid hst
                  have c4 := B0 hst
                  clear hI3 hst
                  cases q with
                  | zero =>
                    have HD : Hid ((if j - a ≥ 2 then shiftDown lt (j - 1) (swp dk j (j - 1)) else swp dk j (j - 1)) = dj) := Lib.hid (by rw [if_pos h2, ← HI3.out]; rfl)
                    have HX := HS4
                    clear c4
                    by_cases h3 : b - j ≥ 2
                    · have h3z : (2 : Int) ≤ (b : Int) - (j : Int) := by omega
                      go_wp2
                      go_loopw [10] (fun v10 wr4 => ∃ (q : Nat) (du : Array α), v10 = .int .i64 q ∧ j + 1 ≤ q ∧ q ≤ b ∧ du.size = n ∧ St enc k blk off w0 blk (W.alloc (.cells #[.func (.func g) #[] lb, .func (.func sf) #[] sb] 88)) du wr4 ∧ shiftUp lt b q du = shiftUp lt b (j + 1) dj) (fun v10 _ => b - (intOf v10).toNat)
                      case atStart => exact ⟨j + 1, dj, by go_num, Nat.le_refl _, by omega, hsj, HX.out, rfl⟩
                      case round =>
                        obtain ⟨q, du, rfl, hjq, hqb, hsu, hst, hI7⟩ := hrel
                        have HI7 := Lib.hid hI7
                        have HS7 := Lib.hid hst
                        have c7 := B0 hst
                        clear hI7 hst
                        by_cases hqe : q < b
                        · have hqez : (q : Int) < (b : Int) := by omega
                          have hl7 := S.ls HS7.out.sw hsu q (q - 1) (q : Int) ((q : Int) - 1) rfl (by omega) (by omega) (by omega)
                          cases hlv7 : lt du[q]! du[q - 1]! with
                          | true =>
                            rw [hlv7] at hl7
                            have HL7 := Lib.hid hlv7
                            clear hlv7
                            go_wp2_with (go_at_fn g; refine hl7.mono ?_; rintro e w8 ⟨rfl, hg⟩; have HS8 := Lib.hid (HS7.out.gr hg); have c8 := B1 HS8.out; clear hg)
                            obtain ⟨W9, hsw, hst9, hs9⟩ := S.sp HS8.out hsu q (q - 1) (q : Int) ((q : Int) - 1) rfl (by omega) (by omega) (by omega)
                            have HS9 := Lib.hid hst9
                            have Hs9 := Lib.hid hs9
                            rw [hsw, Oper.upon_value]
                            clear hsw hst9 hs9
                            go_wp2
                            go_roundw
                            case rel =>
                              first
                                | exact ⟨q + 1, swp du q (q - 1), by go_num, by omega, by omega, Hs9.out, HS9.out, by rw [← HI7.out]; exact (su_go hqe HL7.out).symm⟩
                                | ((repeat apply Exists.intro)
                                   exact ⟨⟨q + 1, swp du q (q - 1), by go_num, by omega, by omega, Hs9.out, HS9.out, by rw [← HI7.out]; exact (su_go hqe HL7.out).symm⟩, by simp <;> and_intros <;> rfl⟩)
                            case measure => simp [intOf] <;> omega
                          | false =>
                            rw [hlv7] at hl7
                            have HU : Hid (shiftUp lt b (j + 1) dj = du) := Lib.hid (by rw [← HI7.out]; exact su_stop hqe hlv7)
                            clear hlv7
                            go_wp2_with (go_at_fn g; refine hl7.mono ?_; rintro e w8 ⟨rfl, hg⟩; have HS8 := Lib.hid (HS7.out.gr hg); clear hg)
                            go_roundw
                            case rel =>
                              first
                                | exact ⟨j, s, z + 1, du, rfl, by go_num, by omega, by omega, by omega, hsu, HS8.out, by rw [HO.out, HGO.out, if_pos h3, HD.out, HU.out]⟩
                                | ((repeat apply Exists.intro)
                                   exact ⟨⟨j, s, z + 1, du, rfl, by go_num, by omega, by omega, by omega, hsu, HS8.out, by rw [HO.out, HGO.out, if_pos h3, HD.out, HU.out]⟩, by simp <;> and_intros <;> rfl⟩)
                            case measure => simp [intOf] <;> omega
                        · have hqez : ¬ (q : Int) < (b : Int) := by omega
                          have HU : Hid (shiftUp lt b (j + 1) dj = du) := Lib.hid (by rw [← HI7.out]; exact su_end hqe)
                          go_wp2
                          go_roundw
                          case rel =>
                            first
                              | exact ⟨j, s, z + 1, du, rfl, by go_num, by omega, by omega, by omega, hsu, HS7.out, by rw [HO.out, HGO.out, if_pos h3, HD.out, HU.out]⟩
                              | ((repeat apply Exists.intro)
                                 exact ⟨⟨j, s, z + 1, du, rfl, by go_num, by omega, by omega, by omega, hsu, HS7.out, by rw [HO.out, HGO.out, if_pos h3, HD.out, HU.out]⟩, by simp <;> and_intros <;> rfl⟩)
                          case measure => simp [intOf] <;> omega
                    · have h3z : ¬ (2 : Int) ≤ (b : Int) - (j : Int) := by omega
                      go_wp2
                      go_roundw
                      case rel =>
                        first
                          | exact ⟨j, s, z + 1, dj, rfl, by go_num, by omega, by omega, by omega, hsj, HX.out, by rw [HO.out, HGO.out, if_neg h3, HD.out]⟩
                          | ((repeat apply Exists.intro)
                             exact ⟨⟨j, s, z + 1, dj, rfl, by go_num, by omega, by omega, by omega, hsj, HX.out, by rw [HO.out, HGO.out, if_neg h3, HD.out]⟩, by simp <;> and_intros <;> rfl⟩)
                      case measure => simp [intOf] <;> omega
                  | succ q =>
                    obtain ⟨y, hy⟩ : ∃ y : Nat, y = q + 1 := ⟨_, rfl⟩
                    have hyz : (y : Int) - 1 = (q : Int) := by omega
                    have hy1 : (1 : Int) ≤ (y : Int) := by omega
                    have hyn : y < n := by omega
                    have HYQ := Lib.hid hy
                    rw [← hy] at hq HI3 ⊢
                    clear hy
                    have hl4 := S.ls HS4.out.sw hsj y q (y : Int) (q : Int) rfl rfl hyn (by have := HYQ.out; omega)
                    cases hlv4 : lt dj[y]! dj[q]! with
                    | true =>
                      rw [hlv4] at hl4
                      have HL4 := Lib.hid hlv4
                      clear hlv4
                      go_wp2_with (go_at_fn g; refine hl4.mono ?_; rintro e w5 ⟨rfl, hg⟩; have HS5 := Lib.hid (HS4.out.gr hg); have c5 := B1 HS5.out; clear hg)
                      obtain ⟨W6, hsw, hst6, hs6⟩ := S.sp HS5.out hsj y q (y : Int) (q : Int) rfl rfl hyn (by have := HYQ.out; omega)
                      have HS6 := Lib.hid hst6
                      have Hs6 := Lib.hid hs6
                      rw [hsw, Oper.upon_value]
                      clear hsw hst6 hs6
                      go_wp2
                      go_roundw
                      case rel =>
                        first
                          | exact ⟨q, swp dj y q, rfl, by have := HYQ.out; omega, Hs6.out, HS6.out, by rw [← HI3.out]; have := HYQ.out; subst this; exact (sd_go HL4.out).symm⟩
                          | ((repeat apply Exists.intro)
                             exact ⟨⟨q, swp dj y q, rfl, by have := HYQ.out; omega, Hs6.out, HS6.out, by rw [← HI3.out]; have := HYQ.out; subst this; exact (sd_go HL4.out).symm⟩, by simp [hyz] <;> and_intros <;> rfl⟩)
                      case measure => simp [intOf] <;> omega
                    | false =>
                      rw [hlv4] at hl4
                      have HD : Hid ((if j - a ≥ 2 then shiftDown lt (j - 1) (swp dk j (j - 1)) else swp dk j (j - 1)) = dj) := Lib.hid (by rw [if_pos h2, ← HI3.out]; have := HYQ.out; subst this; exact sd_stop hlv4)
                      clear hlv4
                      by_cases h3 : b - j ≥ 2
                      · have h3z : (2 : Int) ≤ (b : Int) - (j : Int) := by omega
                        go_wp2_with (go_at_fn g; refine hl4.mono ?_; rintro e w5 ⟨rfl, hg⟩; have HX := Lib.hid (HS4.out.gr hg); clear hg)
                        go_loopw [10] (fun v10 wr4 => ∃ (q : Nat) (du : Array α), v10 = .int .i64 q ∧ j + 1 ≤ q ∧ q ≤ b ∧ du.size = n ∧ St enc k blk off w0 blk (W.alloc (.cells #[.func (.func g) #[] lb, .func (.func sf) #[] sb] 88)) du wr4 ∧ shiftUp lt b q du = shiftUp lt b (j + 1) dj) (fun v10 _ => b - (intOf v10).toNat)
                        case atStart => exact ⟨j + 1, dj, by go_num, Nat.le_refl _, by omega, hsj, HX.out, rfl⟩
                        case round =>
                          obtain ⟨q, du, rfl, hjq, hqb, hsu, hst, hI7⟩ := hrel
                          have HI7 := Lib.hid hI7
                          have HS7 := Lib.hid hst
                          have c7 := B0 hst
                          clear hI7 hst
                          by_cases hqe : q < b
                          · have hqez : (q : Int) < (b : Int) := by omega
                            have hl7 := S.ls HS7.out.sw hsu q (q - 1) (q : Int) ((q : Int) - 1) rfl (by omega) (by omega) (by omega)
                            cases hlv7 : lt du[q]! du[q - 1]! with
                            | true =>
                              rw [hlv7] at hl7
                              have HL7 := Lib.hid hlv7
                              clear hlv7
                              go_wp2_with (go_at_fn g; refine hl7.mono ?_; rintro e w8 ⟨rfl, hg⟩; have HS8 := Lib.hid (HS7.out.gr hg); have c8 := B1 HS8.out; clear hg)
                              obtain ⟨W9, hsw, hst9, hs9⟩ := S.sp HS8.out hsu q (q - 1) (q : Int) ((q : Int) - 1) rfl (by omega) (by omega) (by omega)
                              have HS9 := Lib.hid hst9
                              have Hs9 := Lib.hid hs9
                              rw [hsw, Oper.upon_value]
                              clear hsw hst9 hs9
                              go_wp2
                              go_roundw
                              case rel =>
                                first
                                  | exact ⟨q + 1, swp du q (q - 1), by go_num, by omega, by omega, Hs9.out, HS9.out, by rw [← HI7.out]; exact (su_go hqe HL7.out).symm⟩
                                  | ((repeat apply Exists.intro)
                                     exact ⟨⟨q + 1, swp du q (q - 1), by go_num, by omega, by omega, Hs9.out, HS9.out, by rw [← HI7.out]; exact (su_go hqe HL7.out).symm⟩, by simp <;> and_intros <;> rfl⟩)
                              case measure => simp [intOf] <;> omega
                            | false =>
                              rw [hlv7] at hl7
                              have HU : Hid (shiftUp lt b (j + 1) dj = du) := Lib.hid (by rw [← HI7.out]; exact su_stop hqe hlv7)
                              clear hlv7
                              go_wp2_with (go_at_fn g; refine hl7.mono ?_; rintro e w8 ⟨rfl, hg⟩; have HS8 := Lib.hid (HS7.out.gr hg); clear hg)
                              go_roundw
                              case rel =>
                                first
                                  | exact ⟨j, s, z + 1, du, rfl, by go_num, by omega, by omega, by omega, hsu, HS8.out, by rw [HO.out, HGO.out, if_pos h3, HD.out, HU.out]⟩
                                  | ((repeat apply Exists.intro)
                                     exact ⟨⟨j, s, z + 1, du, rfl, by go_num, by omega, by omega, by omega, hsu, HS8.out, by rw [HO.out, HGO.out, if_pos h3, HD.out, HU.out]⟩, by simp <;> and_intros <;> rfl⟩)
                              case measure => simp [intOf] <;> omega
                          · have hqez : ¬ (q : Int) < (b : Int) := by omega
                            have HU : Hid (shiftUp lt b (j + 1) dj = du) := Lib.hid (by rw [← HI7.out]; exact su_end hqe)
                            go_wp2
                            go_roundw
                            case rel =>
                              first
                                | exact ⟨j, s, z + 1, du, rfl, by go_num, by omega, by omega, by omega, hsu, HS7.out, by rw [HO.out, HGO.out, if_pos h3, HD.out, HU.out]⟩
                                | ((repeat apply Exists.intro)
                                   exact ⟨⟨j, s, z + 1, du, rfl, by go_num, by omega, by omega, by omega, hsu, HS7.out, by rw [HO.out, HGO.out, if_pos h3, HD.out, HU.out]⟩, by simp <;> and_intros <;> rfl⟩)
                            case measure => simp [intOf] <;> omega
                      · have h3z : ¬ (2 : Int) ≤ (b : Int) - (j : Int) := by omega
                        go_wp2_with (go_at_fn g; refine hl4.mono ?_; rintro e w5 ⟨rfl, hg⟩; have HX := Lib.hid (HS4.out.gr hg); clear hg)
                        go_roundw
                        case rel =>
                          first
                            | exact ⟨j, s, z + 1, dj, rfl, by go_num, by omega, by omega, by omega, hsj, HX.out, by rw [HO.out, HGO.out, if_neg h3, HD.out]⟩
                            | ((repeat apply Exists.intro)
                               exact ⟨⟨j, s, z + 1, dj, rfl, by go_num, by omega, by omega, by omega, hsj, HX.out, by rw [HO.out, HGO.out, if_neg h3, HD.out]⟩, by simp <;> and_intros <;> rfl⟩)
                        case measure => simp [intOf] <;> omega
              · have h2z : ¬ (2 : Int) ≤ (j : Int) - (a : Int) := by omega
                have HD : Hid ((if j - a ≥ 2 then shiftDown lt (j - 1) (swp dk j (j - 1)) else swp dk j (j - 1)) = swp dk j (j - 1)) := Lib.hid (by rw [if_neg h2])
                obtain ⟨dj, hdj⟩ : ∃ dj, dj = swp dk j (j - 1) := ⟨_, rfl⟩
                rw [← hdj] at HD HGO HS3 Hs3
                have hsj := Hs3.out
                clear hdj
                have HX := HS3
                by_cases h3 : b - j ≥ 2
                · have h3z : (2 : Int) ≤ (b : Int) - (j : Int) := by omega
                  go_wp2
                  go_loopw [10] (fun v10 wr4 => ∃ (q : Nat) (du : Array α), v10 = .int .i64 q ∧ j + 1 ≤ q ∧ q ≤ b ∧ du.size = n ∧ St enc k blk off w0 blk (W.alloc (.cells #[.func (.func g) #[] lb, .func (.func sf) #[] sb] 88)) du wr4 ∧ shiftUp lt b q du = shiftUp lt b (j + 1) dj) (fun v10 _ => b - (intOf v10).toNat)
                  case atStart => exact ⟨j + 1, dj, by go_num, Nat.le_refl _, by omega, hsj, HX.out, rfl⟩
                  case round =>
                    obtain ⟨q, du, rfl, hjq, hqb, hsu, hst, hI7⟩ := hrel
                    have HI7 := Lib.hid hI7
                    have HS7 := Lib.hid hst
                    have c7 := B0 hst
                    clear hI7 hst
                    by_cases hqe : q < b
                    · have hqez : (q : Int) < (b : Int) := by omega
                      have hl7 := S.ls HS7.out.sw hsu q (q - 1) (q : Int) ((q : Int) - 1) rfl (by omega) (by omega) (by omega)
                      cases hlv7 : lt du[q]! du[q - 1]! with
                      | true =>
                        rw [hlv7] at hl7
                        have HL7 := Lib.hid hlv7
                        clear hlv7
                        go_wp2_with (go_at_fn g; refine hl7.mono ?_; rintro e w8 ⟨rfl, hg⟩; have HS8 := Lib.hid (HS7.out.gr hg); have c8 := B1 HS8.out; clear hg)
                        obtain ⟨W9, hsw, hst9, hs9⟩ := S.sp HS8.out hsu q (q - 1) (q : Int) ((q : Int) - 1) rfl (by omega) (by omega) (by omega)
                        have HS9 := Lib.hid hst9
                        have Hs9 := Lib.hid hs9
                        rw [hsw, Oper.upon_value]
                        clear hsw hst9 hs9
                        go_wp2
                        go_roundw
                        case rel =>
                          first
                            | exact ⟨q + 1, swp du q (q - 1), by go_num, by omega, by omega, Hs9.out, HS9.out, by rw [← HI7.out]; exact (su_go hqe HL7.out).symm⟩
                            | ((repeat apply Exists.intro)
                               exact ⟨⟨q + 1, swp du q (q - 1), by go_num, by omega, by omega, Hs9.out, HS9.out, by rw [← HI7.out]; exact (su_go hqe HL7.out).symm⟩, by simp <;> and_intros <;> rfl⟩)
                        case measure => simp [intOf] <;> omega
                      | false =>
                        rw [hlv7] at hl7
                        have HU : Hid (shiftUp lt b (j + 1) dj = du) := Lib.hid (by rw [← HI7.out]; exact su_stop hqe hlv7)
                        clear hlv7
                        go_wp2_with (go_at_fn g; refine hl7.mono ?_; rintro e w8 ⟨rfl, hg⟩; have HS8 := Lib.hid (HS7.out.gr hg); clear hg)
                        go_roundw
                        case rel =>
                          first
                            | exact ⟨j, s, z + 1, du, rfl, by go_num, by omega, by omega, by omega, hsu, HS8.out, by rw [HO.out, HGO.out, if_pos h3, HD.out, HU.out]⟩
                            | ((repeat apply Exists.intro)
                               exact ⟨⟨j, s, z + 1, du, rfl, by go_num, by omega, by omega, by omega, hsu, HS8.out, by rw [HO.out, HGO.out, if_pos h3, HD.out, HU.out]⟩, by simp <;> and_intros <;> rfl⟩)
                        case measure => simp [intOf] <;> omega
                    · have hqez : ¬ (q : Int) < (b : Int) := by omega
                      have HU : Hid (shiftUp lt b (j + 1) dj = du) := Lib.hid (by rw [← HI7.out]; exact su_end hqe)
                      go_wp2
                      go_roundw
                      case rel =>
                        first
                          | exact ⟨j, s, z + 1, du, rfl, by go_num, by omega, by omega, by omega, hsu, HS7.out, by rw [HO.out, HGO.out, if_pos h3, HD.out, HU.out]⟩
                          | ((repeat apply Exists.intro)
                             exact ⟨⟨j, s, z + 1, du, rfl, by go_num, by omega, by omega, by omega, hsu, HS7.out, by rw [HO.out, HGO.out, if_pos h3, HD.out, HU.out]⟩, by simp <;> and_intros <;> rfl⟩)
                      case measure => simp [intOf] <;> omega
                · have h3z : ¬ (2 : Int) ≤ (b : Int) - (j : Int) := by omega
                  go_wp2
                  go_roundw
                  case rel =>
                    first
                      | exact ⟨j, s, z + 1, dj, rfl, by go_num, by omega, by omega, by omega, hsj, HX.out, by rw [HO.out, HGO.out, if_neg h3, HD.out]⟩
                      | ((repeat apply Exists.intro)
                         exact ⟨⟨j, s, z + 1, dj, rfl, by go_num, by omega, by omega, by omega, hsj, HX.out, by rw [HO.out, HGO.out, if_neg h3, HD.out]⟩, by simp <;> and_intros <;> rfl⟩)
                  case measure => simp [intOf] <;> omega
        · have hendz : ¬ (j : Int) < (b : Int) := by omega
          obtain rfl : j = b := by omega
          go_wp2
          (try simp only [Exit.inBlock, Exit.then, Exit.noGoto_ret]); refine bodyPost_ret (v := .bool true) (by simp [results, Try.results67, go_sem]) rfl ?_
          rw [HO.out, pin_end (by rw [← HI.out]; exact scan_stop (Or.inl hend))]
          exact ⟨rfl, HS.out.under, hsk⟩
end So
end Go.Proofs.Ytbemkcnikoiecaa
