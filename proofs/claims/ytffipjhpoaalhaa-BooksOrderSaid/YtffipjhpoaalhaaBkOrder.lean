/- BooksOrder: in whichever order postings come. -/
import Derived.Test.YtffipjhpoaalhaaBkOrd
import Derived.LoopN
import Derived.WalkKit
import Derived.OwnWalk
set_option linter.unusedVariables false
namespace Go.Proofs.Ytffipjhpoaalhaa
open Go.ChangeShapes Go.WideShapes Go.ChangeAt Go.RowKit Csv Bk Mon

/-- The row under way: its first elements are the law's own. -/
def Row1 (w : World) (L : List PI) (g k : Nat) (W : World) : Prop := Keeps w W ∧ w.heap.size ≤ g ∧ ∃ cs, W.heap[g]? = some (.cells cs tPo (0, 0)) ∧ cs.size = L.length * 5 ∧ ∀ (j : Nat) (x : PI), j < k → L[j]? = some x → ∀ (t : Nat) (u : Value), (ownI j x).vals[t]? = some u → cs[j * 5 + t]? = some u
theorem Row1.cells {w W : World} {L : List PI} {g k : Nat} (h : Row1 w L g k W) {j : Nat} (hj : j < L.length) : ∃ u0 u1 u2 u3 u4,
    (W.cell? ⟨g, j * 5, none⟩ = some u0 ∧ W.cell? ⟨g, j * 5 + 1, none⟩ = some u1 ∧ W.cell? ⟨g, j * 5 + 2, none⟩ = some u2 ∧ W.cell? ⟨g, j * 5 + 3, none⟩ = some u3 ∧ W.cell? ⟨g, j * 5 + 4, none⟩ = some u4) ∧ ∀ i, W.frozen? ⟨g, i, none⟩ = false := by
  obtain ⟨_, _, cs, hb, hs, _⟩ := h
  have c : ∀ i, i < cs.size → W.cell? ⟨g, i, none⟩ = some (cs[i]!) := fun i hi => by
    rw [Joins.cell_of_block hb i]
    simp [hi]
  exact ⟨_, _, _, _, _, ⟨c _ (by omega), c _ (by omega), c _ (by omega), c _ (by omega), c _ (by omega)⟩, fun i => Joins.unfrozen_of_block hb i⟩
theorem Row1.keeps {w W W' : World} {L : List PI} {g k : Nat} (h : Row1 w L g k W) (kk : Keeps W W') : Row1 w L g k W' := by
  obtain ⟨h1, h2, cs, hb, r⟩ := h
  exact ⟨h1.trans kk, h2, cs, (kk.block g (Array.getElem?_eq_some_iff.1 hb).1).trans hb, r⟩
/-- The next one, laid in by six stores. -/
theorem Row1.step {w W W' : World} {L : List PI} {g k : Nat} {x : PI} (h : Row1 w L g k W) (hx : L[k]? = some x) (a : Value)
    (hos : W'.os = W.os) (ht : W'.tape = W.tape) (ho : W'.output = W.output) (hsz : W.heap.size ≤ W'.heap.size) (hoff : ∀ i, i < W.heap.size → i ≠ g → W'.heap[i]? = W.heap[i]?)
    (hb : ∀ cs, W.heap[g]? = some (.cells cs tPo (0, 0)) → W'.heap[g]? = some (.cells ((((((cs.setIfInBounds (k * 5) a).setIfInBounds (k * 5 + 1) (.int .i64 (ownI k x).ord)).setIfInBounds (k * 5 + 2) (.int .i64 (ownI k x).deb)).setIfInBounds (k * 5 + 3) (.int .i64 (ownI k x).cre)).setIfInBounds (k * 5 + 4) (.int .i64 (ownI k x).amt)).setIfInBounds (k * 5) (.string (ownI k x).s)) tPo (0, 0))) :
    Row1 w L g (k + 1) W' := by
  obtain ⟨h1, h2, cs, h3, h4, h5⟩ := h
  have hk := (List.getElem?_eq_some_iff.1 hx).1
  refine ⟨⟨hos.trans h1.os, ht.trans h1.tape, ho.trans h1.output, Nat.le_trans h1.size hsz, fun i hi => (hoff i (Nat.lt_of_lt_of_le hi h1.size) (by omega)).trans (h1.block i hi)⟩, h2, _, hb cs h3, by simp [h4], fun j y hj hy t u hu => ?_⟩
  have ht5 : t < 5 := by have := (List.getElem?_eq_some_iff.1 hu).1; simpa [PI.vals] using this
  by_cases hjk : j = k
  · subst hjk
    rw [hx] at hy
    cases hy
    have hc : t = 0 ∨ t = 1 ∨ t = 2 ∨ t = 3 ∨ t = 4 := by omega
    rcases hc with rfl | rfl | rfl | rfl | rfl <;> (simp only [PI.vals, List.getElem?_cons_zero, List.getElem?_cons_succ, Option.some.injEq] at hu; subst hu) <;> (rw [Nat.add_zero] <;> skip) <;> simp [Array.getElem?_setIfInBounds, h4] <;> omega
  · have := h5 j y (by omega) hy t u hu
    rw [Array.getElem?_setIfInBounds_ne (by omega), Array.getElem?_setIfInBounds_ne (by omega), Array.getElem?_setIfInBounds_ne (by omega), Array.getElem?_setIfInBounds_ne (by omega), Array.getElem?_setIfInBounds_ne (by omega), Array.getElem?_setIfInBounds_ne (by omega)]
    exact this
theorem Row1.own {w W : World} {L : List PI} {g : Nat} (h : Row1 w L g L.length W) (hl : L.length ≤ 40) : postK.Own 0 W (.slice (some ⟨g, 0, none⟩) L.length L.length) (ownL L) := by
  obtain ⟨_, _, cs, h3, h4, h5⟩ := h
  have hrl := postK.row_len (ownL L)
  rw [ownL_len] at hrl
  have e5 : postK.sz = 5 := rfl
  unfold RowK.Own
  rw [ownL_len]
  refine ⟨by rw [hrl], Or.inr ⟨g, L.length, cs, rfl, Nat.zero_le _, h3, Nat.le_refl _, by unfold maxLen; omega, by rw [e5]; exact h4, ?_⟩⟩
  rw [e5]
  apply List.ext_getElem?
  intro i
  by_cases hi : i < L.length * 5
  · obtain ⟨x, hx⟩ : ∃ x, L[i / 5]? = some x := ⟨_, List.getElem?_eq_getElem (by omega)⟩
    obtain ⟨u, hu⟩ : ∃ u, (ownI (i / 5) x).vals[i % 5]? = some u := ⟨_, List.getElem?_eq_getElem (by simp [PI.vals]; omega)⟩
    have h6 := postK.row_at (ownL_at hx) (j := i % 5) hu
    have h7 := h5 (i / 5) x (by omega) hx (i % 5) u hu
    have e : i / 5 * postK.sz + i % 5 = i := by rw [e5]; omega
    have e2 : i / 5 * 5 + i % 5 = i := by omega
    rw [e] at h6
    rw [e2] at h7
    rw [h6, List.getElem?_take_of_lt hi]
    simpa using h7
  · rw [List.getElem?_eq_none (by simp; omega), List.getElem?_eq_none (by rw [hrl, e5]; omega)]
/-- Both books, and the row. -/
def OrSt (w : World) (b c : Nat) (M N : List PI) (vl : Value) (O : List PI) (W : World) : Prop := ∃ F G, PBk W F b M ∧ PBk W G c N ∧ (∀ i, F i → ¬ G i) ∧ (∀ i, F i → w.heap.size ≤ i) ∧ (∀ i, G i → w.heap.size ≤ i) ∧ Keeps w W ∧
  postK.Own 0 W vl O ∧ (∀ g, vl.ownBlock = some g → ¬ F g ∧ ¬ G g)
theorem OrSt.turn {w W : World} {b c : Nat} {M N O : List PI} {vl : Value} (h : OrSt w b c M N vl O W) : OrSt w c b N M vl O W := by
  obtain ⟨F, G, h1, h2, h3, h4, h5, h6, h7, h8⟩ := h
  exact ⟨G, F, h2, h1, fun i hg hf => h3 i hf hg, h5, h4, h6, h7, fun g hg => ⟨(h8 g hg).2, (h8 g hg).1⟩⟩
theorem OrSt.keep {w W : World} {b c : Nat} {M N O : List PI} {vl : Value} (h : OrSt w b c M N vl O W) : Keeps w W := by obtain ⟨F, G, _, _, _, _, _, h, _⟩ := h; exact h
theorem OrSt.oneB {w W : World} {b c : Nat} {M N O : List PI} {vl : Value} (h : OrSt w b c M N vl O W) : BkOne w b M W := by
  obtain ⟨F, G, h1, h2, h3, h4, h5, h6, h7, h8⟩ := h
  exact ⟨F, h1, h4, h6⟩
theorem OrSt.posts {w W : World} {b c : Nat} {M N O : List PI} {vl : Value} (h : OrSt w b c M N vl O W) (ho : TakeOk O) : PostsAt W vl O := by
  obtain ⟨F, G, h1, h2, h3, h4, h5, h6, h7, h8⟩ := h
  exact own_posts h7 (fun x hx => (ho.good x hx).1) (by have := ho.len; omega)
theorem OrSt.post {w W : World} {b c : Nat} {M M' N O : List PI} {vl : Value} {n : Int} (h : OrSt w b c M N vl O W) (p : PI) (hg : GoodL M) (hp : p.Good) (hok : OkL (pms M)) (hl : M.length ≤ 900) (e : postI M p = (n, M')) :
    Calls Try.prog 11 #[.pointer (some ⟨b, 0, none⟩), p.val] W fun e w' => e = .returned (.int .i64 n) ∧ OrSt w b c M' N vl O w' := by
  obtain ⟨F, G, h1, h2, h3, h4, h5, h6, h7, h8⟩ := h
  refine (ppost_any F b M p W h1 hg hp hok hl).mono ?_
  rintro e' w' ⟨rfl, F', hb, o⟩
  rw [e] at hb ⊢
  refine ⟨rfl, F', G, hb, h2.near fun i hi => o.block i (h2.lt i hi) (fun hf => h3 i hf hi), fun i hf hg => ?_, off_low h4 h6 o, h5, off_keep h4 h6 o, postK.own_local h7 fun i hi => o.block i (postK.own_lt h7 i hi).2 (h8 i hi).1, fun g hgo => ⟨fun hf => ?_, (h8 g hgo).2⟩⟩
  · rcases o.own i hf with h | h
    · exact h3 i h hg
    · have := h2.lt i hg; omega
  · rcases o.own g hf with h | h
    · exact (h8 g hgo).1 h
    · have := (postK.own_lt h7 g hgo).2; omega
theorem OrSt.start {w W W1 W2 : World} {b c : Nat} {F G : Nat → Prop} {O : List PI} {vl : Value} (k0 : Keeps w W) (ho : postK.Own 0 W vl O) (k1 : Keeps W W1) (hb : PBk W1 F b []) (hf : ∀ i, F i → W.heap.size ≤ i) (k2 : Keeps W1 W2) (hc : PBk W2 G c []) (hg : ∀ i, G i → W1.heap.size ≤ i) : OrSt w b c [] [] vl O W2 := by
  have s0 := k0.size
  have s1 := k1.size
  refine ⟨F, G, hb.keeps k2, hc, fun i hfi hgi => ?_, fun i hi => ?_, fun i hi => ?_, (k0.trans k1).trans k2, postK.own_keeps ho (k1.trans k2), fun g hgo => ⟨fun hfi => ?_, fun hgi => ?_⟩⟩
  · have := hb.lt i hfi; have := hg i hgi; omega
  · have := hf i hi; omega
  · have := hg i hi; omega
  · have := hf g hfi; have := (postK.own_lt ho g hgo).2; omega
  · have := hg g hgi; have := (postK.own_lt ho g hgo).2; omega
end Go.Proofs.Ytffipjhpoaalhaa
