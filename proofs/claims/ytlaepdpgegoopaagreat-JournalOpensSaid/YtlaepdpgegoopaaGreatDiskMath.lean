
/- The plain mathematics of disk (layer 6): files, rising by their numbers; what each act makes of them. -/
import Derived.Test.YtlaepdpgegoopaaGreatCsvMath
import Derived.RowKit
set_option linter.unusedVariables false
namespace Go.Proofs.YtlaepdpgegoopaaGreat
namespace Dk
open Go Go.RowKit Csv

/-- A file: its number, its bytes, how many of them are sure. -/
structure FileM where
  n : Int
  data : Bs
  sure : Nat

/-- A disk. fail: so many changes are done ahead of the one that fails; what it keeps. -/
structure DiskM where
  cap : Nat
  files : List FileM
  up : Bool
  starts : Int
  fail : Option (Nat × List Int)

/-! ### Files -/
def used (l : List FileM) : Nat := (l.map fun f => f.data.length).sum
def findF (l : List FileM) (n : Int) : Option FileM := l.find? fun f => f.n == n
def insF (l : List FileM) (n : Int) : List FileM :=
  match l with
  | [] => [⟨n, [], 0⟩]
  | f :: r => if f.n < n then f :: insF r n else ⟨n, [], 0⟩ :: f :: r
def delF (l : List FileM) (n : Int) : List FileM := l.filter fun f => f.n != n
def setF (l : List FileM) (n : Int) (g : FileM → FileM) : List FileM := l.map fun f => if f.n == n then g f else f
def FileM.cut (f : FileM) (k : Nat) : FileM := ⟨f.n, f.data.take k, min f.sure k⟩
def FileM.loose (f : FileM) : Nat := f.data.length - f.sure
/-- How many bytes that are not sure stay. -/
def stays (k : Option Int) (loose : Nat) : Nat := min (max (k.getD 0) 0).toNat loose
def FileM.left (f : FileM) (k : Option Int) : FileM := ⟨f.n, f.data.take (f.sure + stays k f.loose), (f.data.take (f.sure + stays k f.loose)).length⟩
def downL : List FileM → List Int → List FileM
  | [], _ => []
  | f :: r, ks => f.left ks[0]? :: downL r (ks.drop 1)

/-- Rising numbers, from 0 on; sure ones among all. -/
def Rising (l : List FileM) : Prop := l.Pairwise fun a b => a.n < b.n
structure Okay (D : DiskM) : Prop where
  cap : D.cap ≤ 1048576
  many : D.files.length ≤ 100
  rising : Rising D.files
  nums : ∀ f ∈ D.files, 0 ≤ f.n ∧ f.n ≤ 9223372036854775807
  sure : ∀ f ∈ D.files, f.sure ≤ f.data.length
  room : used D.files ≤ D.cap
  fail : ∀ a ks, D.fail = some (a, ks) → a ≤ 9223372036854775807

/-! ### What each act answers, and leaves -/
def DiskM.free (D : DiskM) : Int := (D.cap : Int) - used D.files
def DiskM.down (D : DiskM) (ks : List Int) : DiskM := ⟨D.cap, downL D.files ks, false, D.starts, none⟩
def DiskM.put (D : DiskM) (l : List FileM) : DiskM := ⟨D.cap, l, D.up, D.starts, D.fail⟩
/-- A change is counted: does it fail? -/
def DiskM.count (D : DiskM) : Int × DiskM :=
  match D.fail with
  | none => (0, D)
  | some (0, ks) => (61, D.down ks)
  | some (a + 1, ks) => (0, ⟨D.cap, D.files, D.up, D.starts, some (a, ks)⟩)
/-- A change that is done where it does not fail. -/
def DiskM.then (D : DiskM) (g : List FileM → List FileM) : Int × DiskM :=
  if D.count.1 = 0 then (0, D.count.2.put (g D.count.2.files)) else D.count
def newD (cap : Nat) : DiskM := ⟨cap, [], true, 0, none⟩
def createD (D : DiskM) (n : Int) : Int × DiskM :=
  if D.up = false then (61, D) else if n < 0 then (2, D) else if (findF D.files n).isSome then (62, D) else if 100 ≤ D.files.length then (60, D) else D.then fun l => insF l n
/-- Of a file that is there. -/
def withF (D : DiskM) (n : Int) (k : FileM → Int × DiskM) : Int × DiskM :=
  if D.up = false then (61, D) else match findF D.files n with | none => (4, D) | some f => k f
def appendD (D : DiskM) (n : Int) (s : Bs) : Int × DiskM :=
  withF D n fun _ => if D.free < s.length then (60, D) else (D.put (setF D.files n fun f => ⟨f.n, f.data ++ s, f.sure⟩)).count
def syncD (D : DiskM) (n : Int) : Int × DiskM :=
  withF D n fun _ => D.then fun l => setF l n fun f => ⟨f.n, f.data, f.data.length⟩
def truncD (D : DiskM) (n size : Int) : Int × DiskM :=
  withF D n fun f => if size < 0 ∨ (f.data.length : Int) < size then (2, D) else D.then fun l => setF l n fun f => f.cut size.toNat
def deleteD (D : DiskM) (n : Int) : Int × DiskM := withF D n fun _ => D.then fun l => delF l n
def readD (D : DiskM) (n at_ size : Int) : Bs × Int :=
  if D.up = false then ([], 61) else match findF D.files n with
  | none => ([], 4)
  | some f => if at_ < 0 ∨ size < 0 ∨ (f.data.length : Int) - at_ < size then ([], 2) else ((f.data.drop at_.toNat).take size.toNat, 0)
def sizeD (D : DiskM) (n : Int) : Int × Int :=
  if D.up = false then (0, 61) else match findF D.files n with | none => (0, 4) | some f => (f.data.length, 0)
def crashD (D : DiskM) (ks : List Int) : Int × DiskM := if D.up = false then (61, D) else (0, D.down ks)
def startD (D : DiskM) : Int × DiskM := if D.up = true then (2, D) else (0, ⟨D.cap, D.files, true, wrap64 (D.starts + 1), D.fail⟩)
def failD (D : DiskM) (n : Int) (ks : List Int) : Int × DiskM :=
  if D.up = false then (61, D) else if n < 0 then (2, D) else (0, ⟨D.cap, D.files, D.up, D.starts, some (n.toNat, ks)⟩)

/-! ### Finding -/
theorem findF_none {l : List FileM} {n : Int} (h : findF l n = none) : ∀ f ∈ l, f.n ≠ n := by
  intro f hf e
  have := List.find?_eq_none.1 h f hf
  simp [e] at this
theorem findF_some {l : List FileM} {n : Int} {f : FileM} (h : findF l n = some f) : f ∈ l ∧ f.n = n := by
  refine ⟨List.mem_of_find?_eq_some h, ?_⟩
  have := List.find?_some h
  simpa using this
theorem findF_at {l : List FileM} (hr : Rising l) {i : Nat} {f : FileM} (h : l[i]? = some f) : findF l f.n = some f := by
  induction l generalizing i with
  | nil => simp at h
  | cons g r ih =>
    obtain ⟨h1, h2⟩ := List.pairwise_cons.1 hr
    unfold findF
    rw [List.find?_cons]
    cases i with
    | zero => simp at h; subst h; simp
    | succ i =>
      have h' : r[i]? = some f := by simpa using h
      have := h1 f (List.mem_of_getElem? h')
      have e : (g.n == f.n) = false := by simp; omega
      rw [e]
      exact ih h2 h'
theorem findF_put {l : List FileM} {n : Int} (h : ∀ f ∈ l, f.n ≠ n) : findF l n = none := List.find?_eq_none.2 fun f hf => by simpa using h f hf

/-! ### Sums -/
theorem used_nil : used [] = 0 := rfl
theorem used_cons (f : FileM) (r : List FileM) : used (f :: r) = f.data.length + used r := rfl
theorem used_mem {l : List FileM} {f : FileM} (h : f ∈ l) : f.data.length ≤ used l := by
  induction l with
  | nil => cases h
  | cons g r ih =>
    rw [used_cons]
    rcases List.mem_cons.1 h with rfl | h
    · omega
    · have := ih h; omega
theorem used_ins (l : List FileM) (n : Int) : used (insF l n) = used l := by
  induction l with
  | nil => rfl
  | cons f r ih =>
    unfold insF
    split
    · rw [used_cons, ih, used_cons]
    · rw [used_cons]; simp
theorem used_del (l : List FileM) (n : Int) : used (delF l n) ≤ used l := by
  induction l with
  | nil => exact Nat.le_refl _
  | cons f r ih =>
    unfold delF at *
    rw [List.filter_cons]
    split <;> simp only [used_cons] <;> omega
theorem used_set (l : List FileM) (n : Int) (g : FileM → FileM) (k : Nat) (hr : Rising l) (h : ∀ f ∈ l, f.n = n → (g f).data.length ≤ f.data.length + k) : used (setF l n g) ≤ used l + k := by
  induction l with
  | nil => simp [setF, used]
  | cons f r ih =>
    obtain ⟨h1, h2⟩ := List.pairwise_cons.1 hr
    have hi := ih h2 (fun f hf => h f (by simp [hf]))
    have e : setF (f :: r) n g = (if f.n == n then g f else f) :: setF r n g := rfl
    rw [e, used_cons, used_cons]
    by_cases hn : f.n = n
    · have hs : setF r n g = r := by
        unfold setF
        refine (List.map_congr_left (g := id) fun x hx => ?_).trans (List.map_id _)
        have := h1 x hx
        rw [if_neg (by simp; omega)]; rfl
      rw [if_pos (by simpa using hn), hs]
      have := h f (by simp) hn
      omega
    · rw [if_neg (by simpa using hn)]
      omega
theorem used_down (l : List FileM) (ks : List Int) : used (downL l ks) ≤ used l := by
  induction l generalizing ks with
  | nil => exact Nat.le_refl _
  | cons f r ih =>
    unfold downL
    rw [used_cons, used_cons]
    have := ih (ks.drop 1)
    have h2 : (f.left ks[0]?).data.length ≤ f.data.length := by unfold FileM.left; simp; omega
    omega

/-! ### Numbers -/
def numsF (l : List FileM) : List Int := l.map (·.n)
theorem nums_ins_mem (l : List FileM) (n : Int) (f : FileM) : f ∈ insF l n ↔ f = ⟨n, [], 0⟩ ∨ f ∈ l := by
  induction l with
  | nil => simp [insF]
  | cons g r ih =>
    unfold insF
    split
    · rw [List.mem_cons, ih, List.mem_cons]; constructor <;> (rintro (h | h | h) <;> simp [h])
    · simp
theorem rising_ins (l : List FileM) (n : Int) (hr : Rising l) (hn : ∀ f ∈ l, f.n ≠ n) : Rising (insF l n) := by
  induction l with
  | nil => exact List.pairwise_singleton _ _
  | cons g r ih =>
    obtain ⟨h1, h2⟩ := List.pairwise_cons.1 hr
    unfold insF
    split
    · rename_i hlt
      refine List.pairwise_cons.2 ⟨fun x hx => ?_, ih h2 fun f hf => hn f (by simp [hf])⟩
      rcases (nums_ins_mem r n x).1 hx with rfl | hx
      · exact hlt
      · exact h1 x hx
    · rename_i hge
      have hg : n < g.n := by have := hn g (by simp); omega
      refine List.pairwise_cons.2 ⟨fun x hx => ?_, hr⟩
      rcases List.mem_cons.1 hx with rfl | hx
      · exact hg
      · have := h1 x hx; show n < x.n; omega
theorem len_ins (l : List FileM) (n : Int) : (insF l n).length = l.length + 1 := by
  induction l with
  | nil => rfl
  | cons g r ih => unfold insF; split <;> simp [ih]
theorem rising_set (l : List FileM) (n : Int) (g : FileM → FileM) (hg : ∀ f, (g f).n = f.n) (hr : Rising l) : Rising (setF l n g) := by
  unfold Rising setF
  rw [List.pairwise_map]
  refine hr.imp fun {a b} h => ?_
  have e : ∀ f : FileM, (if f.n == n then g f else f).n = f.n := fun f => by split <;> simp [hg]
  rw [e, e]; exact h
theorem len_set (l : List FileM) (n : Int) (g : FileM → FileM) : (setF l n g).length = l.length := by simp [setF]
theorem mem_set {l : List FileM} {n : Int} {g : FileM → FileM} {f : FileM} (h : f ∈ setF l n g) : (f ∈ l ∧ f.n ≠ n) ∨ ∃ x ∈ l, x.n = n ∧ f = g x := by
  obtain ⟨x, hx, rfl⟩ := List.mem_map.1 h
  by_cases hn : x.n = n
  · rw [if_pos (by simpa using hn)]; exact Or.inr ⟨x, hx, hn, rfl⟩
  · rw [if_neg (by simpa using hn)]; exact Or.inl ⟨hx, hn⟩
theorem len_down (l : List FileM) (ks : List Int) : (downL l ks).length = l.length := by
  induction l generalizing ks with
  | nil => rfl
  | cons f r ih => unfold downL; simp [ih]
theorem nums_down (l : List FileM) (ks : List Int) : numsF (downL l ks) = numsF l := by
  induction l generalizing ks with
  | nil => rfl
  | cons f r ih =>
    have h := ih (ks.drop 1)
    unfold numsF at *
    unfold downL
    rw [List.map_cons, List.map_cons, h]; rfl
theorem rising_nums {l : List FileM} : Rising l ↔ (numsF l).Pairwise (· < ·) := by unfold Rising numsF; rw [List.pairwise_map]
theorem get_down (l : List FileM) (ks : List Int) (i : Nat) : (downL l ks)[i]? = l[i]?.map fun f => f.left ks[i]? := by
  induction l generalizing ks i with
  | nil => simp [downL]
  | cons f r ih =>
    unfold downL
    cases i with
    | zero => simp
    | succ i => rw [List.getElem?_cons_succ, ih, List.getElem?_cons_succ, List.getElem?_drop, Nat.add_comm]
theorem mem_down {l : List FileM} {ks : List Int} {f : FileM} (h : f ∈ downL l ks) : ∃ x ∈ l, ∃ k, f = x.left k := by
  obtain ⟨i, hi⟩ := List.mem_iff_getElem?.1 h
  rw [get_down] at hi
  obtain ⟨x, hx, rfl⟩ := Option.map_eq_some_iff.1 hi
  exact ⟨x, List.mem_of_getElem? hx, _, rfl⟩
theorem left_sure (f : FileM) (k : Option Int) : (f.left k).sure ≤ (f.left k).data.length := Nat.le_refl _

/-! ### All stays in order -/
theorem Okay.put {D : DiskM} (h : Okay D) (l : List FileM) (h1 : l.length ≤ 100) (h2 : Rising l) (h3 : ∀ f ∈ l, 0 ≤ f.n ∧ f.n ≤ 9223372036854775807) (h4 : ∀ f ∈ l, f.sure ≤ f.data.length) (h5 : used l ≤ D.cap) : Okay (D.put l) :=
  ⟨h.cap, h1, h2, h3, h4, h5, h.fail⟩
theorem Okay.down {D : DiskM} (h : Okay D) (ks : List Int) : Okay (D.down ks) :=
  ⟨h.cap, by show (downL D.files ks).length ≤ 100; rw [len_down]; exact h.many, by
    show Rising (downL D.files ks)
    rw [rising_nums, nums_down, ← rising_nums]; exact h.rising, fun f hf => by
    obtain ⟨x, hx, k, rfl⟩ := mem_down hf; exact h.nums x hx, fun f hf => by
    obtain ⟨x, hx, k, rfl⟩ := mem_down hf; exact left_sure x k, Nat.le_trans (used_down _ _) h.room, fun a ks h => by cases h⟩
theorem Okay.count {D : DiskM} (h : Okay D) : Okay D.count.2 := by
  unfold DiskM.count
  split
  · exact h
  · exact h.down _
  · rename_i a ks e
    exact ⟨h.cap, h.many, h.rising, h.nums, h.sure, h.room, fun a' ks' e' => by
      have := h.fail _ _ e
      simp at e'; omega⟩
theorem Okay.ins {D : DiskM} (h : Okay D) {n : Int} (h0 : 0 ≤ n) (h9 : n ≤ 9223372036854775807) (hf : findF D.files n = none) (hl : D.files.length < 100) : Okay (D.put (insF D.files n)) := by
  refine h.put _ (by rw [len_ins]; omega) (rising_ins _ _ h.rising (findF_none hf)) ?_ ?_ (by rw [used_ins]; exact h.room)
  · intro f hf'
    rcases (nums_ins_mem _ _ _).1 hf' with rfl | h'
    · exact ⟨h0, h9⟩
    · exact h.nums f h'
  · intro f hf'
    rcases (nums_ins_mem _ _ _).1 hf' with rfl | h'
    · exact Nat.le_refl _
    · exact h.sure f h'
theorem Okay.set {D : DiskM} (h : Okay D) (n : Int) (g : FileM → FileM) (k : Nat) (hg : ∀ f, (g f).n = f.n) (hs : ∀ f ∈ D.files, f.n = n → (g f).sure ≤ (g f).data.length) (hk : ∀ f ∈ D.files, f.n = n → (g f).data.length ≤ f.data.length + k) (hr : used D.files + k ≤ D.cap) :
    Okay (D.put (setF D.files n g)) := by
  refine h.put _ (by rw [len_set]; exact h.many) (rising_set _ _ _ hg h.rising) ?_ ?_ (Nat.le_trans (used_set _ _ _ k h.rising hk) hr)
  · intro f hf
    rcases mem_set hf with ⟨h1, _⟩ | ⟨x, hx, _, rfl⟩
    · exact h.nums f h1
    · rw [hg]; exact h.nums x hx
  · intro f hf
    rcases mem_set hf with ⟨h1, _⟩ | ⟨x, hx, hn, rfl⟩
    · exact h.sure f h1
    · exact hs x hx hn
theorem Okay.del {D : DiskM} (h : Okay D) (n : Int) : Okay (D.put (delF D.files n)) :=
  h.put _ (Nat.le_trans (List.length_filter_le _ _) h.many) (List.Pairwise.filter _ h.rising) (fun f hf => h.nums f (List.mem_filter.1 hf).1) (fun f hf => h.sure f (List.mem_filter.1 hf).1) (Nat.le_trans (used_del _ _) h.room)
theorem Okay.new {cap : Nat} (h : cap ≤ 1048576) : Okay (newD cap) :=
  ⟨h, (by simp [newD]), List.Pairwise.nil, (fun f hf => by simp [newD] at hf), (fun f hf => by simp [newD] at hf), Nat.zero_le _, (fun a ks h => by simp [newD] at h)⟩
end Dk
end Go.Proofs.YtlaepdpgegoopaaGreat
