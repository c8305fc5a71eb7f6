
/- Rows of postings; the document's books in memory; what a Post comes to, over postings as they lie. -/
import Derived.Test.YtffipjhpoaalhaaBkSumC
import Derived.Test.YtffipjhpoaalhaaStructRow
set_option linter.unusedVariables false
namespace Go.Proofs.Ytffipjhpoaalhaa
open Go.ChangeShapes Go.WideShapes Go.ChangeAt Go.RowKit Csv Bk Mon

abbrev tPs : TypeId := 22
def postK : RowK PI where
  t := tPo
  ts := tPs
  sz := 5
  bytes := 48
  zero := .agg #[.string ⟨#[]⟩, .int .i64 0, .int .i64 0, .int .i64 0, .int .i64 0]
  cells := PI.vals
  under := Try.underlying22
  info := by kernel_rfl
  zsize := rfl
  pos := by omega
  small := by omega
  len := fun x => rfl
  one := fun x u hu => by
    simp only [PI.vals, List.mem_cons, List.not_mem_nil, or_false] at hu
    rcases hu with rfl | rfl | rfl | rfl | rfl <;> rfl
def GoodL (L : List PI) : Prop := ∀ x ∈ L, x.Good
theorem own_posts {B : Nat} {w : World} {v : Value} {L : List PI} (h : postK.Own B w v L) (hg : GoodL L) (hm : L.length ≤ 100000) : PostsAt w v L := by
  rcases h.2 with ⟨rfl, h0⟩ | ⟨g, cap, cur, rfl, hb, hgb, r1, r2, r3, r4⟩
  · have : L = [] := List.length_eq_zero_iff.1 h0
    subst this
    exact ⟨none, 0, rfl, by simp [maxLen], by simp, fun j x hx => by simp at hx⟩
  · refine ⟨_, cap, rfl, by unfold maxLen; omega, r1, fun j x hx => ⟨hg x (List.mem_of_getElem? hx), _, rfl, ?_⟩⟩
    have at_ : ∀ i u, x.vals[i]? = some u → w.cell? ⟨g, j * 5 + i, none⟩ = some u := fun i u hu => RowK.own_at postK h hx hu
    rw [addr_of]
    exact ⟨at_ 0 _ rfl, at_ 1 _ rfl, at_ 2 _ rfl, at_ 3 _ rfl, at_ 4 _ rfl⟩
abbrev tRb : TypeId := 29
/-- The document's books in block r. -/
def RBk (w : World) (r : Nat) (L : List PI) : Prop := ∃ v, w.heap[r]? = some (.cells #[v] tRb (0, 0)) ∧ postK.Own 0 w v L
theorem RBk.keeps {w w' : World} {r : Nat} {L : List PI} (h : RBk w r L) (k : Keeps w w') : RBk w' r L := by
  obtain ⟨v, h1, h2⟩ := h
  exact ⟨v, (k.block r (Array.getElem?_eq_some_iff.1 h1).1).trans h1, postK.own_keeps h2 k⟩
/-- What a Post comes to. -/
def postI (L : List PI) (p : PI) : Int × List PI := ((postM (pms L) p.pm).1, if mayM p.pm = true ∧ idOf (pms L) p.pm.id = none ∧ fitsP (pms L) p.pm = true then L ++ [p] else L)
theorem pms_post (L : List PI) (p : PI) : pms (postI L p).2 = (postM (pms L) p.pm).2 := by
  unfold postI postM
  cases hm : mayM p.pm with
  | false => simp
  | true =>
    cases hi : idOf (pms L) p.pm.id with
    | some q => simp
    | none =>
      by_cases hf : fitsP (pms L) p.pm = true
      · have e : pms (L ++ [p]) = pms L ++ [p.pm] := by unfold pms; rw [List.map_append]; rfl
        simp [hf, e]
      · simp [hf]
theorem good_post {L : List PI} {p : PI} (h : GoodL L) (hp : p.Good) : GoodL (postI L p).2 := by
  unfold postI
  simp only
  split
  · intro x hx
    rcases List.mem_append.1 hx with hx | hx
    · exact h x hx
    · simp at hx; subst hx; exact hp
  · exact h
/-- No posting of the first k has the Id. -/
def NoId (L : List PI) (s : ByteArray) (k : Nat) : Prop := ∀ j x, j < k → L[j]? = some x → x.s ≠ s
theorem NoId.none {L : List PI} {s : ByteArray} (h : NoId L s L.length) : idOf (pms L) s.data.toList = none := by
  unfold idOf
  rw [List.find?_eq_none]
  intro q hq
  obtain ⟨x, hx, rfl⟩ := List.mem_map.1 hq
  obtain ⟨j, hj⟩ := List.mem_iff_getElem?.1 hx
  have := h j x (List.getElem?_eq_some_iff.1 hj).1 hj
  simp only [PI.pm, beq_iff_eq]
  exact fun e => this (bytes_inj e)
theorem NoId.some {L : List PI} {s : ByteArray} {k : Nat} {x : PI} (h : NoId L s k) (hx : L[k]? = some x) (hs : x.s = s) : idOf (pms L) s.data.toList = some x.pm := by
  unfold idOf
  induction L generalizing k with
  | nil => simp at hx
  | cons y r ih =>
    show List.find? _ (y.pm :: pms r) = _
    rw [List.find?_cons]
    cases k with
    | zero =>
      simp at hx; subst hx
      rw [show (y.pm.id == s.data.toList) = true by rw [← hs]; simp [PI.pm]]
    | succ k =>
      have hy : y.s ≠ s := h 0 y (by omega) rfl
      rw [show (y.pm.id == s.data.toList) = false by simp only [PI.pm, beq_eq_false_iff_ne, ne_eq]; exact fun e => hy (bytes_inj e)]
      exact ih (k := k) (fun j z hj hz => h (j + 1) z (by omega) (by simpa using hz)) (by simpa using hx)
end Go.Proofs.Ytffipjhpoaalhaa
