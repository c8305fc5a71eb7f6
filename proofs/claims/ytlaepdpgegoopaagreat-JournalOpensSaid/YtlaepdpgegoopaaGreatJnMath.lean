
/- The plain mathematics of journal (layer 8): which file is whole, what Open, Append, Compact make of a disk. What is sure: what Open leads to behind a start, wherever the disk failed; the mathematics. Open, Append, Compact: what each leads to, wherever the disk fails; the mathematics. l[1:] as one equation. -/
import Derived.Test.YtlaepdpgegoopaaGreatDiskMath
import Derived.Test.YtlaepdpgegoopaaGreatRecMath
import Derived.Test.YtlaepdpgegoopaaGreatCsvMem
import Derived.Test.YtlaepdpgegoopaaGreatRowsLaid
set_option linter.unusedVariables false
namespace Go.Proofs.YtlaepdpgegoopaaGreat
namespace Jn

open Go Go.RowKit Dk Rc

/-! ### Whole -/
def wholeP (l : Bs) : List Bs := pays (Rc.steps l l.length).1
def wholeE (l : Bs) : Nat := (Rc.steps l l.length).2
theorem done_whole {l : Bs} {xs : List (Bs × Nat)} {a : Nat} (h : Done l xs a) : wholeP l = pays xs ∧ wholeE l = a := by
  have hl := h.1.le
  have e := h.stay l.length (by omega)
  unfold wholeP wholeE
  rw [e]
  exact ⟨rfl, rfl⟩
theorem steps_trail (l : Bs) : ∀ n, Trail l (Rc.steps l n).1 (Rc.steps l n).2 ∧ ((Rc.steps l n).1.length = n ∨ gB (l.drop (Rc.steps l n).2) = false)
  | 0 => ⟨Trail.nil, Or.inl rfl⟩
  | n + 1 => by
    obtain ⟨h1, h2⟩ := steps_trail l n
    rw [Rc.steps]
    split
    · rename_i hg
      refine ⟨Trail.snoc h1 hg, Or.inl ?_⟩
      rcases h2 with h2 | h2
      · simp [h2]
      · rw [hg] at h2; cases h2
    · rename_i hg
      exact ⟨h1, Or.inr (by simpa using hg)⟩
/-- There is always an end. -/
theorem whole_done (l : Bs) : Done l (Rc.steps l l.length).1 (wholeE l) := by
  obtain ⟨h1, h2⟩ := steps_trail l l.length
  refine ⟨h1, ?_⟩
  rcases h2 with h2 | h2
  · have hl := h1.le
    have h0 : l.length = 0 := by omega
    exact g_short (by rw [List.length_drop]; omega)
  · exact h2
theorem wholeE_le (l : Bs) : wholeE l ≤ l.length := (whole_done l).1.le.2
theorem whole_len (l : Bs) : 8 * (wholeP l).length ≤ wholeE l := by
  have := (whole_done l).1.le.1
  unfold wholeP pays
  rw [List.length_map]; exact this
theorem whole_iff (l : Bs) : wholeP l ≠ [] ↔ gB l = true := by
  have hd := whole_done l
  constructor
  · intro h
    cases hg : gB l with
    | true => rfl
    | false =>
      exfalso
      apply h
      have : Done l [] 0 := ⟨Trail.nil, by simpa using hg⟩
      have e := (done_whole this).1
      rw [e]; rfl
  · intro h e
    have hx : (Rc.steps l l.length).1 = [] := by
      unfold wholeP pays at e
      exact List.map_eq_nil_iff.1 e
    rw [hx] at hd
    have ha : wholeE l = 0 := by
      have := hd.1.last
      rw [← this]; rfl
    have := hd.2
    rw [ha, List.drop_zero, h] at this
    cases this
/-- Trails of payloads that may be: each at most MaxRecord bytes. -/
theorem trail_pays {l : Bs} {xs : List (Bs × Nat)} {a : Nat} (h : Trail l xs a) : l.take a = rowL (pays xs) ∧ ∀ p ∈ pays xs, p.length ≤ 65536 := by
  induction h with
  | nil => exact ⟨by simp [pays, rowL], fun p hp => by simp [pays] at hp⟩
  | snoc h hg ih =>
    rename_i xs a
    obtain ⟨y1, y2, y3, y4, y5⟩ := g_yes hg
    have hle := h.le.2
    rw [List.length_drop] at y1 y3
    constructor
    · rw [pays_snoc, rowL_snoc, ← ih.1, y5, y4]
      rw [show a + 8 + gN (l.drop a) = a + (8 + gN (l.drop a)) by omega, List.take_add]
    · intro p hp
      rw [pays_snoc] at hp
      rcases List.mem_append.1 hp with hp | hp
      · exact ih.2 p hp
      · simp at hp; subst hp
        rw [y5, List.length_take]; omega
theorem whole_row (l : Bs) : l.take (wholeE l) = rowL (wholeP l) ∧ ∀ p ∈ wholeP l, p.length ≤ 65536 := trail_pays (whole_done l).1
/-- A row that is cut off: all records that are whole. -/
theorem whole_cut (r : List Bs) (p : Bs) (hr : ∀ q ∈ r, q.length ≤ 65536) (hp : p.length ≤ 65536) (k : Nat) :
    wholeP (rowL r ++ (recL p).take k) = if p.length + 8 ≤ k then r ++ [p] else r := by
  have hall : ∀ q ∈ r ++ [p], q.length ≤ 65536 := fun q hq => by
    rcases List.mem_append.1 hq with h | h
    · exact hr q h
    · simp at h; subst h; exact hp
  have e0 : rowL (r ++ [p]) = rowL r ++ recL p := rowL_snoc r p
  have hl := recL_len p
  split
  · rename_i h
    have e : rowL r ++ (recL p).take k = (rowL (r ++ [p])).take (rowL (r ++ [p])).length := by
      rw [List.take_length, e0, List.take_of_length_le (by omega)]
    rw [e]
    obtain ⟨xs, h1, h2⟩ := done_cut (r ++ [p]) hall (r ++ [p]).length (rowL (r ++ [p])).length (Nat.le_refl _) (by rw [List.take_length]; exact Nat.le_refl _) (fun h => by omega) (Nat.le_refl _)
    rw [(done_whole h1).1, h2, List.take_length]
  · rename_i h
    have e : rowL r ++ (recL p).take k = (rowL (r ++ [p])).take ((rowL r).length + k) := by
      rw [e0, List.take_append, List.take_of_length_le (l := rowL r) (by omega)]; congr 2; omega
    rw [e]
    have ht : (r ++ [p]).take r.length = r := by rw [List.take_append_of_le_length (Nat.le_refl _), List.take_length]
    obtain ⟨xs, h1, h2⟩ := done_cut (r ++ [p]) hall r.length ((rowL r).length + k) (by simp) (by rw [ht]; omega) (fun _ => by
      have : (r ++ [p]).take (r.length + 1) = r ++ [p] := by rw [List.take_of_length_le (by simp)]
      rw [this, e0, List.length_append]; omega) (by rw [e0, List.length_append]; omega)
    rw [(done_whole h1).1, h2, ht]
theorem whole_rowL (r : List Bs) (hr : ∀ q ∈ r, q.length ≤ 65536) : wholeP (rowL r) = r ∧ wholeE (rowL r) = (rowL r).length := by
  obtain ⟨xs, h1, h2⟩ := done_cut r hr r.length (rowL r).length (Nat.le_refl _) (by rw [List.take_length]; exact Nat.le_refl _) (fun h => by omega) (Nat.le_refl _)
  rw [List.take_length] at h1 h2
  rw [List.take_length] at h1
  obtain ⟨e1, e2⟩ := done_whole h1
  exact ⟨e1.trans h2, e2⟩
theorem rowL_whole {r : List Bs} (hr : ∀ q ∈ r, q.length ≤ 65536) (hne : r ≠ []) : gB (rowL r) = true := by
  rw [← whole_iff, (whole_rowL r hr).1]; exact hne

/-! ### A journal -/
structure JM where
  file : Int
  bytes : Nat
  many : Nat
  starts : Int
def next (x : Int × DiskM) (g : DiskM → Int × DiskM) : Int × DiskM := if x.1 = 0 then g x.2 else x
theorem next_ok {D : DiskM} {g : DiskM → Int × DiskM} : next (0, D) g = g D := rfl
theorem next_no {x : Int × DiskM} {g : DiskM → Int × DiskM} (h : x.1 ≠ 0) : next x g = x := if_neg h
def layD (D : DiskM) (n : Int) (r : Bs) : Int × DiskM := next (next (createD D n) fun D => appendD D n r) fun D => syncD D n
def delsD : Int × DiskM → List Int → Int × DiskM
  | x, [] => x
  | x, n :: ns => delsD (next x fun D => deleteD D n) ns
/-- The place of the greatest file that is whole, among the first k. -/
def lastW (l : List FileM) : Nat → Option Nat
  | 0 => none
  | k + 1 => match l[k]? with
    | some f => if gB f.data = true then some k else lastW l k
    | none => lastW l k
def others (l : List FileM) (k : Nat) : List Int := numsF (l.take k) ++ numsF (l.drop (k + 1))
/-- Open, of a disk that is up. -/
def broken (l : List FileM) : Bool := match l with
  | [] => false
  | [f] => f.n != 0
  | _ => true
def freshD (D : DiskM) : Int × DiskM := next (if D.files = [] then (0, D) else deleteD D 0) fun D => layD D 0 (recL [])
def keepD (D : DiskM) (k : Nat) (f : FileM) : Int × DiskM :=
  delsD (next (if wholeE f.data < f.data.length then truncD D f.n (wholeE f.data) else (0, D)) fun D => syncD D f.n) (others D.files k)
def openD (D : DiskM) : (Int × DiskM) × Option (JM × List Bs) :=
  match lastW D.files D.files.length with
  | none => if broken D.files = true then ((63, D), none) else (freshD D, if (freshD D).1 = 0 then some (⟨0, 8, 0, (freshD D).2.starts⟩, [[]]) else none)
  | some k => match D.files[k]? with
    | none => ((0, D), none)
    | some f => (keepD D k f, if (keepD D k f).1 = 0 then some (⟨f.n, wholeE f.data, (wholeP f.data).length - 1, (keepD D k f).2.starts⟩, wholeP f.data) else none)
def appJ (D : DiskM) (J : JM) (s : Bs) : (Int × DiskM) × JM :=
  if 65536 < s.length then ((3, D), J) else if D.free - (s.length + 8 : Nat) < 70000 then ((60, D), J) else
    let x := next (appendD D J.file (recL s)) fun D => syncD D J.file
    (x, if x.1 = 0 then ⟨J.file, J.bytes + (s.length + 8), J.many + 1, J.starts⟩ else J)
def comJ (D : DiskM) (J : JM) (s : Bs) : (Int × DiskM) × JM :=
  if 65536 < s.length then ((3, D), J) else if D.free < (s.length + 8 : Nat) then ((60, D), J) else
    let x := layD D (wrap64 (J.file + 1)) (recL s)
    if x.1 = 0 then (deleteD x.2 J.file, ⟨wrap64 (J.file + 1), s.length + 8, 0, J.starts⟩) else (x, J)
end Jn
end Go.Proofs.YtlaepdpgegoopaaGreat
namespace Go.Proofs.YtlaepdpgegoopaaGreat

namespace Jn

open Go Go.RowKit Dk Rc

def bestF (l : List FileM) : Option FileM := (l.filter fun f => gB f.data).getLast?
theorem lastW_take (l : List FileM) : ∀ k, k ≤ l.length → bestF (l.take k) = (lastW l k).bind fun i => l[i]?
  | 0, _ => by simp [bestF, lastW]
  | k + 1, h => by
    obtain ⟨f, hf⟩ : ∃ f, l[k]? = some f := ⟨_, List.getElem?_eq_getElem (by omega)⟩
    have ih := lastW_take l k (by omega)
    have et : l.take (k + 1) = l.take k ++ [f] := by rw [List.take_add_one, hf]; rfl
    unfold bestF at ih ⊢
    rw [et, List.filter_append, lastW, hf]
    simp only
    cases hg : gB f.data with
    | true => simp [hg, hf]
    | false => simp [hg, ih]
theorem lastW_lt (l : List FileM) : ∀ k, k ≤ l.length → ∀ i, lastW l k = some i → i < k
  | 0, _, i, h => by simp [lastW] at h
  | k + 1, hk, i, h => by
    obtain ⟨f, hf⟩ : ∃ f, l[k]? = some f := ⟨_, List.getElem?_eq_getElem (by omega)⟩
    rw [lastW, hf] at h
    simp only at h
    split at h
    · cases h; omega
    · have := lastW_lt l k (by omega) i h; omega
theorem lastW_best {l : List FileM} {f : FileM} (h : bestF l = some f) : ∃ k, lastW l l.length = some k ∧ l[k]? = some f := by
  have e := lastW_take l l.length (Nat.le_refl _)
  rw [List.take_length, h] at e
  cases hk : lastW l l.length with
  | none => rw [hk] at e; cases e
  | some k => rw [hk] at e; exact ⟨k, rfl, e.symm⟩
theorem lastW_none {l : List FileM} (h : lastW l l.length = none) : bestF l = none := by
  have e := lastW_take l l.length (Nat.le_refl _)
  rw [List.take_length, h] at e
  exact e
theorem lastW_some {l : List FileM} {k : Nat} (h : lastW l l.length = some k) : ∃ f, l[k]? = some f ∧ bestF l = some f := by
  have e := lastW_take l l.length (Nat.le_refl _)
  rw [List.take_length, h] at e
  have hlt := lastW_lt l l.length (Nat.le_refl _) k h
  exact ⟨_, List.getElem?_eq_getElem hlt, by rw [e]; exact List.getElem?_eq_getElem hlt⟩
theorem best_mem {l : List FileM} {f : FileM} (h : bestF l = some f) : f ∈ l ∧ gB f.data = true := by
  unfold bestF at h
  have := List.mem_of_getLast? h
  simpa using List.mem_filter.1 this
theorem getLast_filter {α : Type} {p : α → Bool} : ∀ {l : List α} {x : α}, l.getLast? = some x → p x = true → (l.filter p).getLast? = some x := by
  intro l x h hp
  obtain ⟨ys, rfl⟩ : ∃ ys, l = ys ++ [x] := List.getLast?_eq_some_iff.1 h
  rw [List.filter_append]
  simp [hp]
theorem best_del {l : List FileM} {f : FileM} (h : bestF l = some f) {n : Int} (hn : f.n ≠ n) : bestF (delF l n) = some f := by
  unfold bestF delF at *
  rw [List.filter_filter]
  have : (fun a : FileM => gB a.data && (a.n != n)) = (fun a : FileM => (a.n != n) && gB a.data) := by funext a; exact Bool.and_comm _ _
  rw [this, ← List.filter_filter]
  exact getLast_filter h (by simpa using hn)
/-- Where only the best one turns, and stays whole. -/
theorem best_set {l : List FileM} {f : FileM} (h : bestF l = some f) {g : FileM → FileM} (hw : gB (g f).data = true) (hr : Rising l) : bestF (setF l f.n g) = some (g f) := by
  have huniq : ∀ a ∈ l, a.n = f.n → a = f := by
    intro a ha e
    obtain ⟨i, hi⟩ := List.mem_iff_getElem?.1 ha
    obtain ⟨j, hj⟩ := List.mem_iff_getElem?.1 (best_mem h).1
    have h1 := findF_at hr hi
    have h2 := findF_at hr hj
    rw [e, h2] at h1
    cases h1; rfl
  unfold bestF setF at *
  rw [List.filter_map]
  have : (l.filter ((fun f : FileM => gB f.data) ∘ fun a => if a.n == f.n then g a else a)) = l.filter fun f => gB f.data := by
    apply List.filter_congr
    intro a ha
    simp only [Function.comp]
    by_cases e : a.n = f.n
    · have := huniq a ha e
      subst this
      rw [if_pos (by simp), hw]
      exact (best_mem (l := l) h).2.symm
    · rw [if_neg (by simpa using e)]
  rw [this, List.getLast?_map, h]
  simp

/-! ### Changes -/
theorem then_cases (D : DiskM) (g : List FileM → List FileM) (hu : D.up = true) :
    (∃ f', D.then g = (0, ⟨D.cap, g D.files, true, D.starts, f'⟩) ∧ (D.fail = none → f' = none)) ∨ (∃ ks, D.then g = (61, D.down ks) ∧ D.fail ≠ none) := by
  obtain ⟨cap, files, up, st, f⟩ := D
  simp only at hu
  subst hu
  unfold DiskM.then DiskM.count
  rcases f with _ | ⟨_ | a, ks⟩
  · exact Or.inl ⟨none, rfl, fun _ => rfl⟩
  · exact Or.inr ⟨ks, rfl, by simp⟩
  · exact Or.inl ⟨some (a, ks), rfl, fun h => by simp at h⟩
theorem count_cases (D : DiskM) (hu : D.up = true) :
    (∃ f', D.count = (0, ⟨D.cap, D.files, true, D.starts, f'⟩) ∧ (D.fail = none → f' = none)) ∨ (∃ ks, D.count = (61, D.down ks) ∧ D.fail ≠ none) := by
  obtain ⟨cap, files, up, st, f⟩ := D
  simp only at hu
  subst hu
  unfold DiskM.count
  rcases f with _ | ⟨_ | a, ks⟩
  · exact Or.inl ⟨none, rfl, fun _ => rfl⟩
  · exact Or.inr ⟨ks, rfl, by simp⟩
  · exact Or.inl ⟨some (a, ks), rfl, fun h => by simp at h⟩
def Sure (l : List FileM) : Prop := ∀ f ∈ l, f.sure = f.data.length
theorem left_sure_eq {f : FileM} (h : f.sure = f.data.length) (k : Option Int) : f.left k = f := by
  obtain ⟨n, data, sure⟩ := f
  simp only at h
  subst h
  unfold FileM.left FileM.loose
  simp only
  rw [List.take_of_length_le (by omega)]
theorem down_sure {l : List FileM} (h : Sure l) (ks : List Int) : downL l ks = l := by
  induction l generalizing ks with
  | nil => rfl
  | cons f r ih =>
    rw [downL, left_sure_eq (h f (by simp)), ih fun x hx => h x (by simp [hx])]

structure Holds (C : Nat) (M : Int) (D : DiskM) (R : List Bs) : Prop where
  okay : Okay D
  cap : D.cap = C
  nums : ∀ f ∈ D.files, f.n ≤ M
  sure : Sure D.files
  best : ∃ f, bestF D.files = some f ∧ wholeP f.data = R
structure Live (C : Nat) (M : Int) (D : DiskM) (J : JM) (R : List Bs) : Prop where
  okay : Okay D
  cap : D.cap = C
  up : D.up = true
  files : D.files = [⟨J.file, rowL R, (rowL R).length⟩]
  num : J.file ≤ M
  bytes : J.bytes = (rowL R).length
  many : J.many + 1 = R.length
  starts : J.starts = D.starts
  lens : ∀ p ∈ R, p.length ≤ 65536
theorem Holds.more {C : Nat} {M M' : Int} {D : DiskM} {R : List Bs} (h : Holds C M D R) (hm : M ≤ M') : Holds C M' D R := ⟨h.okay, h.cap, fun f hf => by have := h.nums f hf; omega, h.sure, h.best⟩
theorem Live.more {C : Nat} {M M' : Int} {D : DiskM} {J : JM} {R : List Bs} (h : Live C M D J R) (hm : M ≤ M') : Live C M' D J R := ⟨h.okay, h.cap, h.up, h.files, by have := h.num; omega, h.bytes, h.many, h.starts, h.lens⟩
theorem Live.holds {C : Nat} {M : Int} {D : DiskM} {J : JM} {R : List Bs} (h : Live C M D J R) : Holds C M D R := by
  have hne : R ≠ [] := by intro e; have := h.many; rw [e] at this; simp at this
  refine ⟨h.okay, h.cap, fun f hf => ?_, fun f hf => ?_, ⟨⟨J.file, rowL R, (rowL R).length⟩, ?_, (whole_rowL R h.lens).1⟩⟩
  · rw [h.files] at hf; simp at hf; subst hf; exact h.num
  · rw [h.files] at hf; simp at hf; subst hf; rfl
  · rw [h.files]
    unfold bestF
    simp [rowL_whole h.lens hne]
theorem Holds.down {C : Nat} {M : Int} {D : DiskM} {R : List Bs} (h : Holds C M D R) (ks : List Int) : Holds C M (D.down ks) R := by
  have e : (D.down ks).files = D.files := down_sure h.sure ks
  exact ⟨h.okay.down ks, h.cap, by rw [e]; exact h.nums, by rw [e]; exact h.sure, by rw [e]; exact h.best⟩
/-- The same files, whatever else. -/
theorem Holds.of {C : Nat} {M : Int} {D D' : DiskM} {R : List Bs} (h : Holds C M D R) (hf : D'.files = D.files) (hc : D'.cap = D.cap) (ho : Okay D') : Holds C M D' R := ⟨ho, hc.trans h.cap, by rw [hf]; exact h.nums, by rw [hf]; exact h.sure, by rw [hf]; exact h.best⟩
/-- What came of a change: it is done, or the disk is down, and what it had is there. -/
def Down (C : Nat) (M : Int) (D D' : DiskM) (R : List Bs) : Prop := D'.up = false ∧ Holds C M D' R ∧ D'.fail = none ∧ D.fail ≠ none ∧ D'.starts = D.starts

theorem okay_fail {D : DiskM} (h : Okay D) (f' : Option (Nat × List Int)) (hf : ∀ a ks, f' = some (a, ks) → a ≤ 9223372036854775807) (up : Bool) (st : Int) : Okay ⟨D.cap, D.files, up, st, f'⟩ := ⟨h.cap, h.many, h.rising, h.nums, h.sure, h.room, hf⟩
theorem find_of {D : DiskM} (h : Okay D) {f : FileM} (hf : f ∈ D.files) : findF D.files f.n = some f := by
  obtain ⟨i, hi⟩ := List.mem_iff_getElem?.1 hf
  exact findF_at h.rising hi
theorem delete_at {D : DiskM} (h : Okay D) (hu : D.up = true) {f : FileM} (hf : f ∈ D.files) : deleteD D f.n = D.then fun l => delF l f.n := by
  unfold deleteD withF
  rw [if_neg (by rw [hu]; decide), find_of h hf]
theorem okay_delete {D : DiskM} (h : Okay D) (hu : D.up = true) {f : FileM} (hf : f ∈ D.files) {f' : Option (Nat × List Int)} (e : D.then (fun l => delF l f.n) = (0, ⟨D.cap, delF D.files f.n, true, D.starts, f'⟩)) : Okay (⟨D.cap, delF D.files f.n, true, D.starts, f'⟩ : DiskM) := by
  have h2 : (D.then fun l => delF l f.n).2 = ⟨D.cap, delF D.files f.n, true, D.starts, f'⟩ := by rw [e]
  rw [← h2]
  unfold DiskM.then
  split
  · exact h.count.del _
  · exact h.count

theorem mem_del {l : List FileM} {n : Int} {f : FileM} : f ∈ delF l n ↔ f ∈ l ∧ f.n ≠ n := by unfold delF; rw [List.mem_filter]; simp
theorem dels_no {x : Int × DiskM} (h : x.1 ≠ 0) : ∀ ns, delsD x ns = x
  | [] => rfl
  | n :: ns => by rw [delsD, next_no h]; exact dels_no h ns
/-- Others are deleted. -/
theorem dels_holds {C : Nat} {M : Int} {R : List Bs} {f : FileM} : ∀ (ns : List Int) (D : DiskM), Holds C M D R → D.up = true → bestF D.files = some f → (∀ n ∈ ns, n ≠ f.n ∧ ∃ g ∈ D.files, g.n = n) → ns.Pairwise (· ≠ ·) →
    (∃ D', delsD (0, D) ns = (0, D') ∧ Holds C M D' R ∧ D'.up = true ∧ D'.starts = D.starts ∧ bestF D'.files = some f ∧ (∀ g, g ∈ D'.files ↔ g ∈ D.files ∧ g.n ∉ ns)) ∨ (∃ D', delsD (0, D) ns = (61, D') ∧ Down C M D D' R)
  | [], D, h, hu, hb, _, _ => Or.inl ⟨D, rfl, h, hu, rfl, hb, fun g => by simp⟩
  | n :: ns, D, h, hu, hb, hn, hp => by
    obtain ⟨hp1, hp2⟩ := List.pairwise_cons.1 hp
    obtain ⟨hne, g, hg, rfl⟩ := hn n (by simp)
    rw [delsD, next_ok, delete_at h.okay hu hg]
    rcases then_cases D (fun l => delF l g.n) hu with ⟨f', e, hf'⟩ | ⟨ks, e, hfn⟩
    · have ho := okay_delete h.okay hu hg e
      rw [e]
      have h2 : Holds C M (⟨D.cap, delF D.files g.n, true, D.starts, f'⟩ : DiskM) R := by
        refine ⟨ho, h.cap, fun x hx => h.nums x (mem_del.1 hx).1, fun x hx => h.sure x (mem_del.1 hx).1, ?_⟩
        obtain ⟨b, hb1, hb2⟩ := h.best
        rw [hb] at hb1
        cases hb1
        exact ⟨f, best_del hb hne.symm, hb2⟩
      rcases dels_holds ns _ h2 rfl (best_del hb hne.symm) (fun m hm => ⟨(hn m (by simp [hm])).1, by
          obtain ⟨y, hy, hyn⟩ := (hn m (by simp [hm])).2
          exact ⟨y, mem_del.2 ⟨hy, by rw [hyn]; exact (hp1 m hm).symm⟩, hyn⟩⟩) hp2 with ⟨D', e1, e2, e3, e4, e5, e6⟩ | ⟨D', e1, e2, e3, e4, e5, e6⟩
      · refine Or.inl ⟨D', e1, e2, e3, e4, e5, fun y => ?_⟩
        rw [e6]
        show y ∈ delF D.files g.n ∧ _ ↔ _
        rw [mem_del]
        simp only [List.mem_cons, not_or, and_assoc]
      · exact Or.inr ⟨D', e1, e2, e3, e4, fun hx => e5 (hf' hx), e6⟩
    · rw [e]
      refine Or.inr ⟨D.down ks, dels_no (by show (61 : Int) ≠ 0; decide) ns, rfl, h.down ks, rfl, hfn, rfl⟩
end Jn
end Go.Proofs.YtlaepdpgegoopaaGreat
namespace Go.Proofs.YtlaepdpgegoopaaGreat

namespace Jn

open Go Go.RowKit Dk Rc

/-! ### All stays in order -/
theorem count_files {D : DiskM} (h : D.count.1 = 0) : D.count.2.files = D.files ∧ D.count.2.cap = D.cap ∧ D.count.2.up = D.up ∧ D.count.2.starts = D.starts := by
  obtain ⟨cap, files, up, st, f⟩ := D
  unfold DiskM.count at h ⊢
  rcases f with _ | ⟨_ | a, ks⟩
  · exact ⟨rfl, rfl, rfl, rfl⟩
  · simp at h
  · exact ⟨rfl, rfl, rfl, rfl⟩
theorem okay_then {D : DiskM} (h : Okay D) (g : List FileM → List FileM) (hg : D.count.1 = 0 → Okay D.count.2 → D.count.2.files = D.files → D.count.2.cap = D.cap → Okay (D.count.2.put (g D.count.2.files))) : Okay (D.then g).2 := by
  unfold DiskM.then
  split
  · rename_i h0
    exact hg h0 h.count (count_files h0).1 (count_files h0).2.1
  · exact h.count
theorem okay_create {D : DiskM} (h : Okay D) {n : Int} (hn : n ≤ 9223372036854775807) : Okay (createD D n).2 := by
  unfold createD
  split
  · exact h
  · split
    · exact h
    · split
      · exact h
      · split
        · exact h
        · rename_i h0 h1 h2
          refine okay_then h _ fun _ hc hf _ => hc.ins (by omega) hn (by rw [hf]; simpa using h1) (by rw [hf]; omega)
theorem okay_with {D : DiskM} (h : Okay D) (n : Int) (k : FileM → Int × DiskM) (hk : ∀ f, f ∈ D.files → f.n = n → Okay (k f).2) : Okay (withF D n k).2 := by
  unfold withF
  split
  · exact h
  · split
    · exact h
    · rename_i f hf
      exact hk f (findF_some hf).1 (findF_some hf).2
theorem okay_append {D : DiskM} (h : Okay D) (n : Int) (s : Bs) : Okay (appendD D n s).2 := by
  refine okay_with h n _ fun f _ _ => ?_
  split
  · exact h
  · rename_i hfr
    refine Okay.count (h.set n _ s.length (fun _ => rfl) (fun f hf _ => ?_) (fun f hf _ => by simp) ?_)
    · have := h.sure f hf
      simp only [List.length_append]; omega
    · unfold DiskM.free at hfr; omega
theorem okay_sync {D : DiskM} (h : Okay D) (n : Int) : Okay (syncD D n).2 := by
  refine okay_with h n _ fun f _ _ => okay_then h _ fun _ hc hf hcap => ?_
  exact hc.set n _ 0 (fun _ => rfl) (fun f _ _ => Nat.le_refl _) (fun f _ _ => Nat.le_refl _) (by simpa using hc.room)
theorem okay_trunc {D : DiskM} (h : Okay D) (n size : Int) : Okay (truncD D n size).2 := by
  refine okay_with h n _ fun f _ _ => ?_
  split
  · exact h
  · refine okay_then h _ fun _ hc hf hcap => ?_
    refine hc.set n _ 0 (fun _ => rfl) (fun f hf _ => ?_) (fun f _ _ => ?_) (by simpa using hc.room)
    · have := hc.sure f hf
      unfold FileM.cut; simp only [List.length_take]; omega
    · unfold FileM.cut; simp only [List.length_take]; omega
theorem okay_deleteD {D : DiskM} (h : Okay D) (n : Int) : Okay (deleteD D n).2 := by
  refine okay_with h n _ fun f _ _ => okay_then h _ fun _ hc hf hcap => hc.del n

/-! ### Open, where a file is whole -/
theorem sync_at {D : DiskM} (h : Okay D) (hu : D.up = true) {f : FileM} (hf : f ∈ D.files) : syncD D f.n = D.then fun l => setF l f.n fun f => ⟨f.n, f.data, f.data.length⟩ := by
  unfold syncD withF
  rw [if_neg (by rw [hu]; decide), find_of h hf]
theorem trunc_at {D : DiskM} (h : Okay D) (hu : D.up = true) {f : FileM} (hf : f ∈ D.files) {k : Nat} (hk : k ≤ f.data.length) : truncD D f.n (k : Int) = D.then fun l => setF l f.n fun f => f.cut k := by
  unfold truncD withF
  rw [if_neg (by rw [hu]; decide), find_of h hf]
  simp only
  rw [if_neg (by omega)]
  rfl
theorem setF_same {l : List FileM} (h : Sure l) (n : Int) : setF l n (fun f => ⟨f.n, f.data, f.data.length⟩) = l := by
  unfold setF
  conv => rhs; rw [← List.map_id l]
  apply List.map_congr_left
  intro f hf
  split
  · have := h f hf
    obtain ⟨n, data, sure⟩ := f
    simp only at this
    subst this; rfl
  · rfl
theorem nums_set (l : List FileM) (n : Int) (g : FileM → FileM) (hg : ∀ f, (g f).n = f.n) : numsF (setF l n g) = numsF l := by
  unfold numsF setF
  rw [List.map_map]
  apply List.map_congr_left
  intro f _
  simp only [Function.comp]
  split
  · exact hg f
  · rfl
/-- The best file, cut to its records. -/
theorem cut_holds {C : Nat} {M : Int} {D : DiskM} {R : List Bs} {f : FileM} (h : Holds C M D R) (hu : D.up = true) (hb : bestF D.files = some f) (hw : wholeP f.data = R) :
    (∃ D', (if wholeE f.data < f.data.length then truncD D f.n (wholeE f.data) else (0, D)) = (0, D') ∧ Holds C M D' R ∧ D'.up = true ∧ D'.starts = D.starts ∧ (D.fail = none → D'.fail = none) ∧ numsF D'.files = numsF D.files ∧
      bestF D'.files = some ⟨f.n, rowL R, (rowL R).length⟩) ∨
    (∃ D', (if wholeE f.data < f.data.length then truncD D f.n (wholeE f.data) else (0, D)) = (61, D') ∧ Down C M D D' R) := by
  obtain ⟨hm, hg⟩ := best_mem hb
  obtain ⟨w1, w2⟩ := whole_row f.data
  have hs := h.sure f hm
  rw [hw] at w1 w2
  have hle := wholeE_le f.data
  by_cases hlt : wholeE f.data < f.data.length
  · rw [if_pos hlt, trunc_at h.okay hu hm hle]
    have hcut : f.cut (wholeE f.data) = ⟨f.n, rowL R, (rowL R).length⟩ := by
      unfold FileM.cut
      rw [w1, hs, ← w1, List.length_take, Nat.min_comm]
    have hne : R ≠ [] := by rw [← hw]; exact (whole_iff _).2 hg
    have ho := okay_trunc h.okay f.n (wholeE f.data : Nat)
    rw [trunc_at h.okay hu hm hle] at ho
    rcases then_cases D (fun l => setF l f.n fun f' => f'.cut (wholeE f.data)) hu with ⟨f', e, hf'⟩ | ⟨ks, e, hfn⟩
    · rw [e] at ho ⊢
      have hbest : bestF (setF D.files f.n fun f' => f'.cut (wholeE f.data)) = some ⟨f.n, rowL R, (rowL R).length⟩ := by
        have := best_set hb (g := fun f' => f'.cut (wholeE f.data)) (by rw [hcut]; exact rowL_whole w2 hne) h.okay.rising
        rw [this, hcut]
      refine Or.inl ⟨_, rfl, ⟨ho, h.cap, ?_, ?_, _, hbest, (whole_rowL R w2).1⟩, rfl, rfl, hf', nums_set _ _ _ (fun _ => rfl), hbest⟩
      · intro x hx
        rcases mem_set hx with ⟨h1, _⟩ | ⟨y, hy, _, rfl⟩
        · exact h.nums x h1
        · exact h.nums y hy
      · intro x hx
        rcases mem_set hx with ⟨h1, _⟩ | ⟨y, hy, _, rfl⟩
        · exact h.sure x h1
        · have := h.sure y hy
          unfold FileM.cut
          simp only [List.length_take]; omega
    · rw [e]
      exact Or.inr ⟨_, rfl, rfl, h.down ks, rfl, hfn, rfl⟩
  · rw [if_neg hlt]
    have e : wholeE f.data = f.data.length := by omega
    rw [e, List.take_length] at w1
    refine Or.inl ⟨D, rfl, h, hu, rfl, fun h => h, rfl, ?_⟩
    rw [hb]
    obtain ⟨n, data, sure⟩ := f
    simp only at w1 hs
    subst w1 hs
    rfl
theorem sync_holds {C : Nat} {M : Int} {D : DiskM} {R : List Bs} {f : FileM} (h : Holds C M D R) (hu : D.up = true) (hb : f ∈ D.files) :
    (∃ D', syncD D f.n = (0, D') ∧ Holds C M D' R ∧ D'.up = true ∧ D'.starts = D.starts ∧ (D.fail = none → D'.fail = none) ∧ D'.files = D.files) ∨ (∃ D', syncD D f.n = (61, D') ∧ Down C M D D' R) := by
  have ho := okay_sync h.okay f.n
  rw [sync_at h.okay hu hb] at ho ⊢
  rcases then_cases D (fun l => setF l f.n fun f => ⟨f.n, f.data, f.data.length⟩) hu with ⟨f', e, hf'⟩ | ⟨ks, e, hfn⟩
  · rw [e] at ho ⊢
    have es := setF_same h.sure f.n
    exact Or.inl ⟨_, rfl, h.of es rfl ho, rfl, rfl, hf', es⟩
  · rw [e]
    exact Or.inr ⟨_, rfl, rfl, h.down ks, rfl, hfn, rfl⟩
theorem one_left {l : List FileM} {f : FileM} (hr : Rising l) (h : ∀ g, g ∈ l ↔ g = f) : l = [f] := by
  match l, hr, h with
  | [], _, h => exact absurd ((h f).2 rfl) (by simp)
  | [x], _, h => rw [(h x).1 (by simp)]
  | x :: y :: r, hr, h =>
    have h1 := (h x).1 (by simp)
    have h2 := (h y).1 (by simp)
    have := (List.pairwise_cons.1 hr).1 y (by simp)
    rw [h1, h2] at this
    omega
theorem nums_at {l : List FileM} {k : Nat} {f : FileM} (hk : l[k]? = some f) : numsF l = numsF (l.take k) ++ f.n :: numsF (l.drop (k + 1)) := by
  have e : l = l.take k ++ f :: l.drop (k + 1) := by
    obtain ⟨hl, rfl⟩ := List.getElem?_eq_some_iff.1 hk
    conv => lhs; rw [← List.take_append_drop k l]
    rw [List.drop_eq_getElem_cons hl]
  conv => lhs; rw [e]
  unfold numsF
  simp
theorem others_at {l : List FileM} {k : Nat} {f : FileM} (hr : Rising l) (hk : l[k]? = some f) : (∀ n, n ∈ others l k ↔ n ∈ numsF l ∧ n ≠ f.n) ∧ (others l k).Pairwise (· ≠ ·) := by
  have hp := rising_nums.1 hr
  rw [nums_at hk] at hp
  obtain ⟨p1, p2, p3⟩ := List.pairwise_append.1 hp
  obtain ⟨p4, p5⟩ := List.pairwise_cons.1 p2
  constructor
  · intro n
    rw [nums_at hk]
    unfold others
    simp only [List.mem_append, List.mem_cons]
    constructor
    · rintro (h | h)
      · exact ⟨Or.inl h, by have := p3 n h f.n (by simp); omega⟩
      · exact ⟨Or.inr (Or.inr h), by have := p4 n h; omega⟩
    · rintro ⟨h | h | h, hne⟩
      · exact Or.inl h
      · exact absurd h hne
      · exact Or.inr h
  · unfold others
    refine List.pairwise_append.2 ⟨p1.imp fun h => by omega, p5.imp fun h => by omega, fun a ha b hb => by have := p3 a ha b (by simp [hb]); omega⟩
theorem open_holds {C : Nat} {M : Int} {D : DiskM} {R : List Bs} (h : Holds C M D R) (hu : D.up = true) :
    (∃ J D', openD D = ((0, D'), some (J, R)) ∧ Live C M D' J R ∧ D'.starts = D.starts) ∨ (∃ D', openD D = ((61, D'), none) ∧ Down C M D D' R) := by
  obtain ⟨f, hb, hw⟩ := h.best
  obtain ⟨k, hk, hkf⟩ := lastW_best hb
  obtain ⟨o1, o2⟩ := others_at h.okay.rising hkf
  have w2 := (whole_row f.data).2
  rw [hw] at w2
  have hne : R ≠ [] := by rw [← hw]; exact (whole_iff _).2 (best_mem hb).2
  have hwl : wholeE f.data = (rowL R).length := by
    have e := congrArg List.length (whole_row f.data).1
    rw [hw, List.length_take] at e
    have := wholeE_le f.data
    omega
  unfold openD keepD
  rw [hk]
  simp only
  rw [hkf]
  simp only
  rcases cut_holds h hu hb hw with ⟨D1, e1, h1, u1, s1, n1, m1, b1⟩ | ⟨D1, e1, h1⟩
  · rw [e1, next_ok]
    have hm1 := (best_mem b1).1
    rcases sync_holds h1 u1 hm1 with ⟨D2, e2, h2, u2, s2, n2, m2⟩ | ⟨D2, e2, h2⟩
    · rw [show syncD D1 f.n = (0, D2) from e2]
      have b2 : bestF D2.files = some ⟨f.n, rowL R, (rowL R).length⟩ := by rw [m2]; exact b1
      have hn2 : numsF D2.files = numsF D.files := by rw [m2, m1]
      have hex : ∀ n ∈ others D.files k, n ≠ f.n ∧ ∃ g ∈ D2.files, g.n = n := fun n hn => by
        obtain ⟨q1, q2⟩ := (o1 n).1 hn
        rw [← hn2] at q1
        unfold numsF at q1
        obtain ⟨g, hg, rfl⟩ := List.mem_map.1 q1
        exact ⟨q2, g, hg, rfl⟩
      rcases dels_holds (others D.files k) D2 h2 u2 b2 hex o2 with ⟨D3, e3, h3, u3, s3, b3, m3⟩ | ⟨D3, e3, h3⟩
      · rw [e3]
        simp only [if_true]
        have hfiles : D3.files = [⟨f.n, rowL R, (rowL R).length⟩] := by
          refine one_left h3.okay.rising fun g => ?_
          rw [m3]
          constructor
          · rintro ⟨q1, q2⟩
            rw [o1, ← hn2] at q2
            have hgn : g.n = f.n := by
              by_cases e : g.n = f.n
              · exact e
              · exact absurd ⟨List.mem_map.2 ⟨g, q1, rfl⟩, e⟩ q2
            have a1 := find_of h2.okay q1
            have a2 := find_of h2.okay (best_mem b2).1
            rw [hgn] at a1
            simp only at a2
            rw [a1] at a2
            exact Option.some.inj a2
          · rintro rfl
            exact ⟨(best_mem b2).1, fun hn => ((o1 _).1 hn).2 rfl⟩
        refine Or.inl ⟨_, D3, by rw [hw], ⟨h3.okay, h3.cap, u3, hfiles, h.nums f (best_mem hb).1, hwl, ?_, rfl, w2⟩, s3.trans (s2.trans s1)⟩
        have : R.length ≠ 0 := by simpa using hne
        simp only; omega
      · rw [e3]
        exact Or.inr ⟨D3, by simp, h3.1, h3.2.1, h3.2.2.1, fun hx => h3.2.2.2.1 (n2 (n1 hx)), h3.2.2.2.2.trans (s2.trans s1)⟩
    · rw [show syncD D1 f.n = (61, D2) from e2, dels_no (by show (61 : Int) ≠ 0; decide)]
      exact Or.inr ⟨D2, by simp, h2.1, h2.2.1, h2.2.2.1, fun hx => h2.2.2.2.1 (n1 hx), h2.2.2.2.2.trans s1⟩
  · rw [e1, next_no (by show (61 : Int) ≠ 0; decide), dels_no (by show (61 : Int) ≠ 0; decide)]
    exact Or.inr ⟨D1, by simp, h1⟩

/-! ### Append, Compact, the first Open -/
theorem append_at {D : DiskM} (h : Okay D) (hu : D.up = true) {f : FileM} (hf : f ∈ D.files) {s : Bs} (hr : (s.length : Int) ≤ D.free) : appendD D f.n s = (D.put (setF D.files f.n fun f => ⟨f.n, f.data ++ s, f.sure⟩)).count := by
  unfold appendD withF
  rw [if_neg (by rw [hu]; decide), find_of h hf]
  simp only
  rw [if_neg (by omega)]
theorem setF_snoc {pre : List FileM} {x : FileM} {g : FileM → FileM} (h : ∀ f ∈ pre, f.n < x.n) : setF (pre ++ [x]) x.n g = pre ++ [g x] := by
  unfold setF
  rw [List.map_append]
  congr 1
  · conv => rhs; rw [← List.map_id pre]
    apply List.map_congr_left
    intro f hf
    have := h f hf
    rw [if_neg (by simp; omega)]; rfl
  · simp
theorem insF_snoc {pre : List FileM} {n : Int} (h : ∀ f ∈ pre, f.n < n) : insF pre n = pre ++ [⟨n, [], 0⟩] := by
  induction pre with
  | nil => rfl
  | cons f r ih =>
    unfold insF
    rw [if_pos (h f (by simp)), ih fun x hx => h x (by simp [hx])]
    rfl
theorem downL_snoc (pre : List FileM) (hs : Sure pre) (x : FileM) (ks : List Int) : ∃ k, downL (pre ++ [x]) ks = pre ++ [x.left k] := by
  induction pre generalizing ks with
  | nil => exact ⟨_, rfl⟩
  | cons f r ih =>
    obtain ⟨k, hk⟩ := ih (fun y hy => hs y (by simp [hy])) (ks.drop 1)
    refine ⟨k, ?_⟩
    rw [List.cons_append, downL, left_sure_eq (hs f (by simp)), hk]
    rfl
/-- A file whose end is not sure, behind others that are: it is appended to, and synced. -/
theorem add_sync {D : DiskM} {pre : List FileM} {n : Int} {data s : Bs} (h : Okay D) (hu : D.up = true) (hf : D.files = pre ++ [⟨n, data, data.length⟩]) (hs : Sure pre) (hr : (s.length : Int) ≤ D.free) :
    (∃ D', next (appendD D n s) (fun D => syncD D n) = (0, D') ∧ Okay D' ∧ D'.cap = D.cap ∧ D'.up = true ∧ D'.starts = D.starts ∧ (D.fail = none → D'.fail = none) ∧ D'.files = pre ++ [⟨n, data ++ s, (data ++ s).length⟩]) ∨
    (∃ D' k, next (appendD D n s) (fun D => syncD D n) = (61, D') ∧ Okay D' ∧ D'.cap = D.cap ∧ D'.up = false ∧ D'.starts = D.starts ∧ D'.fail = none ∧ D.fail ≠ none ∧ D'.files = pre ++ [⟨n, data ++ s.take k, (data ++ s.take k).length⟩]) := by
  have hlt : ∀ f ∈ pre, f.n < n := fun f hfm => by
    have := h.rising
    rw [hf] at this
    exact (List.pairwise_append.1 this).2.2 f hfm ⟨n, data, data.length⟩ (by simp)
  have hm : (⟨n, data, data.length⟩ : FileM) ∈ D.files := by rw [hf]; simp
  have ho := okay_append h n s
  have hset : setF D.files n (fun f => ⟨f.n, f.data ++ s, f.sure⟩) = pre ++ [⟨n, data ++ s, data.length⟩] := by
    rw [hf]; exact setF_snoc (x := ⟨n, data, data.length⟩) hlt
  have hleft : ∀ k : Option Int, ∃ j, (FileM.left ⟨n, data ++ s, data.length⟩ k) = ⟨n, data ++ s.take j, (data ++ s.take j).length⟩ := fun k => by
    refine ⟨stays k ((data ++ s).length - data.length), ?_⟩
    unfold FileM.left FileM.loose
    simp only
    rw [List.take_append, List.take_of_length_le (l := data) (by omega), Nat.add_sub_cancel_left]
  have e0 : appendD D n s = (D.put (pre ++ [⟨n, data ++ s, data.length⟩])).count := by
    rw [← hset]; exact append_at h hu hm hr
  rw [e0] at ho ⊢
  rcases count_cases (D.put (pre ++ [⟨n, data ++ s, data.length⟩])) hu with ⟨f', e, hf'⟩ | ⟨ks, e, hfn⟩
  · rw [e] at ho ⊢
    rw [next_ok]
    have ho2 : Okay (⟨D.cap, pre ++ [⟨n, data ++ s, data.length⟩], true, D.starts, f'⟩ : DiskM) := ho
    have hos := okay_sync ho2 n
    have e1 := sync_at ho2 rfl (f := ⟨n, data ++ s, data.length⟩) (by simp)
    simp only at e1
    rw [e1] at hos
    change (∃ D', syncD (⟨D.cap, pre ++ [⟨n, data ++ s, data.length⟩], true, D.starts, f'⟩ : DiskM) n = (0, D') ∧ _) ∨ (∃ D' k, syncD (⟨D.cap, pre ++ [⟨n, data ++ s, data.length⟩], true, D.starts, f'⟩ : DiskM) n = (61, D') ∧ _)
    rw [e1]
    rcases then_cases (⟨D.cap, pre ++ [⟨n, data ++ s, data.length⟩], true, D.starts, f'⟩ : DiskM) (fun l => setF l n fun f => ⟨f.n, f.data, f.data.length⟩) rfl with ⟨f2, e2, hf2⟩ | ⟨ks, e2, hfn⟩
    · rw [e2] at hos ⊢
      refine Or.inl ⟨_, rfl, hos, rfl, rfl, rfl, fun hx => hf2 (hf' hx), ?_⟩
      exact setF_snoc (x := ⟨n, data ++ s, data.length⟩) hlt
    · rw [e2] at hos ⊢
      obtain ⟨k, hk⟩ := downL_snoc pre hs ⟨n, data ++ s, data.length⟩ ks
      obtain ⟨j, hj⟩ := hleft k
      refine Or.inr ⟨_, j, rfl, hos, rfl, rfl, rfl, rfl, fun hx => hfn (hf' hx), ?_⟩
      rw [← hj]; exact hk
  · rw [e] at ho ⊢
    rw [next_no (by show (61 : Int) ≠ 0; decide)]
    obtain ⟨k, hk⟩ := downL_snoc pre hs ⟨n, data ++ s, data.length⟩ ks
    obtain ⟨j, hj⟩ := hleft k
    refine Or.inr ⟨_, j, rfl, ho, rfl, rfl, rfl, rfl, hfn, ?_⟩
    rw [← hj]; exact hk
/-- A file with one record, behind others. -/
theorem lay_cases {D : DiskM} {n : Int} {s : Bs} (h : Okay D) (hu : D.up = true) (hs : Sure D.files) (h0 : 0 ≤ n) (h9 : n ≤ 9223372036854775807) (hlt : ∀ f ∈ D.files, f.n < n) (hl : D.files.length < 100) (hr : (s.length : Int) ≤ D.free) :
    (∃ D', layD D n s = (0, D') ∧ Okay D' ∧ D'.cap = D.cap ∧ D'.up = true ∧ D'.starts = D.starts ∧ (D.fail = none → D'.fail = none) ∧ D'.files = D.files ++ [⟨n, s, s.length⟩]) ∨
    (∃ D', layD D n s = (61, D') ∧ Okay D' ∧ D'.cap = D.cap ∧ D'.up = false ∧ D'.starts = D.starts ∧ D'.fail = none ∧ D.fail ≠ none ∧ (D'.files = D.files ∨ ∃ k, D'.files = D.files ++ [⟨n, s.take k, (s.take k).length⟩])) := by
  have hfind : findF D.files n = none := findF_put fun f hf => by have := hlt f hf; omega
  have ho := okay_create h h9
  have e0 : createD D n = D.then fun l => insF l n := by
    unfold createD
    rw [if_neg (by rw [hu]; decide), if_neg (by omega), hfind, if_neg (by simp), if_neg (by omega)]
  rw [e0] at ho
  unfold layD
  rw [e0]
  rcases then_cases D (fun l => insF l n) hu with ⟨f', e, hf'⟩ | ⟨ks, e, hfn⟩
  · rw [e] at ho ⊢
    rw [next_ok, insF_snoc hlt] at *
    have hfree : (⟨D.cap, D.files ++ [⟨n, [], 0⟩], true, D.starts, f'⟩ : DiskM).free = D.free := by
      unfold DiskM.free used; simp
    rcases add_sync (D := ⟨D.cap, D.files ++ [⟨n, [], 0⟩], true, D.starts, f'⟩) (pre := D.files) (n := n) (data := []) (s := s) ho rfl rfl hs (by rw [hfree]; exact hr) with ⟨D', a1, a2, a3, a4, a5, a6, a7⟩ | ⟨D', k, a1, a2, a3, a4, a5, a6, a7, a8⟩
    · exact Or.inl ⟨D', a1, a2, a3, a4, a5, fun hx => a6 (hf' hx), a7⟩
    · exact Or.inr ⟨D', a1, a2, a3, a4, a5, a6, fun hx => a7 (hf' hx), Or.inr ⟨k, a8⟩⟩
  · rw [e] at ho ⊢
    rw [next_no (x := (61, D.down ks)) (by show (61 : Int) ≠ 0; decide), next_no (x := (61, D.down ks)) (by show (61 : Int) ≠ 0; decide)]
    exact Or.inr ⟨_, rfl, ho, rfl, rfl, rfl, rfl, hfn, Or.inl (down_sure hs ks)⟩
theorem sure_one (x : FileM) (h : x.sure = x.data.length) : Sure [x] := fun f hf => by simp at hf; subst hf; exact h
theorem best_one {n : Int} {l : Bs} {k : Nat} (h : gB l = true) : bestF [⟨n, l, k⟩] = some ⟨n, l, k⟩ := by unfold bestF; simp [h]
theorem best_two {a : FileM} {b : FileM} : bestF [a, b] = if gB b.data = true then some b else if gB a.data = true then some a else none := by
  unfold bestF
  cases hb : gB b.data <;> cases ha : gB a.data <;> simp [ha, hb]
theorem free_one {D : DiskM} {f : FileM} (h : D.files = [f]) : D.free = (D.cap : Int) - (f.data.length : Int) := by unfold DiskM.free; rw [h]; simp [used]
/-- What an Append leads to. -/
theorem app_live {C : Nat} {M : Int} {D : DiskM} {J : JM} {R : List Bs} (h : Live C M D J R) (s : Bs) :
    (((appJ D J s).1 = (3, D) ∧ 65536 < s.length ∨ (appJ D J s).1 = (60, D) ∧ D.free - (s.length + 8 : Nat) < 70000) ∧ (appJ D J s).2 = J) ∨
    (∃ D' J', appJ D J s = ((0, D'), J') ∧ Live C M D' J' (R ++ [s]) ∧ (D.fail = none → D'.fail = none)) ∨
    (∃ D' R', (appJ D J s).1 = (61, D') ∧ Down C M D D' R' ∧ (R' = R ∨ R' = R ++ [s])) := by
  unfold appJ
  by_cases c1 : 65536 < s.length
  · rw [if_pos c1]; exact Or.inl ⟨Or.inl ⟨rfl, c1⟩, rfl⟩
  rw [if_neg c1]
  by_cases c2 : D.free - (s.length + 8 : Nat) < 70000
  · rw [if_pos c2]; exact Or.inl ⟨Or.inr ⟨rfl, c2⟩, rfl⟩
  rw [if_neg c2]
  simp only
  have hl := recL_len s
  have hne : R ≠ [] := by intro e; have := h.many; rw [e] at this; simp at this
  have hlens : ∀ p ∈ R ++ [s], p.length ≤ 65536 := fun p hp => by
    rcases List.mem_append.1 hp with hp | hp
    · exact h.lens p hp
    · simp at hp; subst hp; omega
  rcases add_sync (D := D) (pre := []) (n := J.file) (data := rowL R) (s := recL s) h.okay h.up h.files (fun f hf => by cases hf) (by rw [hl]; omega) with ⟨D', a1, a2, a3, a4, a5, a6, a7⟩ | ⟨D', k, a1, a2, a3, a4, a5, a6, a7, a8⟩
  · rw [a1]
    simp only [if_true]
    refine Or.inr (Or.inl ⟨D', _, rfl, ⟨a2, a3.trans h.cap, a4, ?_, h.num, ?_, ?_, ?_, hlens⟩, a6⟩)
    · rw [a7, rowL_snoc]; rfl
    · rw [rowL_snoc, List.length_append, hl, h.bytes]
    · have := h.many; simp only [List.length_append, List.length_cons, List.length_nil]; omega
    · rw [a5]; exact h.starts
  · rw [a1]
    have hw := whole_cut R s h.lens (by omega) k
    have hg : gB (rowL R ++ (recL s).take k) = true := by
      rw [← whole_iff, hw]
      split
      · simp
      · exact hne
    refine Or.inr (Or.inr ⟨D', wholeP (rowL R ++ (recL s).take k), rfl, ⟨a4, ⟨a2, a3.trans h.cap, fun f hf => ?_, ?_, ⟨J.file, rowL R ++ (recL s).take k, (rowL R ++ (recL s).take k).length⟩, ?_, rfl⟩, a6, a7, a5⟩, ?_⟩)
    · rw [a8] at hf; simp only [List.nil_append, List.mem_singleton] at hf; subst hf; exact h.num
    · rw [a8]; exact sure_one _ rfl
    · rw [a8]; exact best_one hg
    · rw [hw]; split
      · exact Or.inr rfl
      · exact Or.inl rfl
/-- What a Compact leads to. -/
theorem com_live {C : Nat} {M : Int} {D : DiskM} {J : JM} {R : List Bs} (h : Live C M D J R) (hM : M ≤ 1000000000) (s : Bs) :
    (((comJ D J s).1 = (3, D) ∧ 65536 < s.length ∨ (comJ D J s).1 = (60, D) ∧ D.free < (s.length + 8 : Nat)) ∧ (comJ D J s).2 = J) ∨
    (∃ D' J', comJ D J s = ((0, D'), J') ∧ Live C (M + 1) D' J' [s] ∧ (D.fail = none → D'.fail = none)) ∨
    (∃ D' R', (comJ D J s).1 = (61, D') ∧ Down C (M + 1) D D' R' ∧ (R' = R ∨ R' = [s])) := by
  unfold comJ
  by_cases c1 : 65536 < s.length
  · rw [if_pos c1]; exact Or.inl ⟨Or.inl ⟨rfl, c1⟩, rfl⟩
  rw [if_neg c1]
  by_cases c2 : D.free < (s.length + 8 : Nat)
  · rw [if_pos c2]; exact Or.inl ⟨Or.inr ⟨rfl, c2⟩, rfl⟩
  rw [if_neg c2]
  simp only
  have hl := recL_len s
  have hne : R ≠ [] := by intro e; have := h.many; rw [e] at this; simp at this
  have hn := h.num
  have hs : Sure D.files := by rw [h.files]; exact sure_one _ rfl
  have h0 : 0 ≤ J.file := (h.okay.nums ⟨J.file, rowL R, (rowL R).length⟩ (by rw [h.files]; simp)).1
  have eW : wrap64 (J.file + 1) = J.file + 1 := by unfold wrap64; omega
  rw [eW]
  have hgR := rowL_whole h.lens hne
  have hws : wholeP (recL s) = [s] := by
    have := (whole_rowL [s] (fun p hp => by simp at hp; subst hp; omega)).1
    simpa [rowL] using this
  have hgs : gB (recL s) = true := by rw [← whole_iff, hws]; simp
  have hcut : ∀ k, wholeP ((recL s).take k) = if s.length + 8 ≤ k then [s] else [] := fun k => by
    have := whole_cut [] s (fun q hq => by cases hq) (by omega) k
    simpa [rowL] using this
  rcases lay_cases (D := D) (n := J.file + 1) (s := recL s) h.okay h.up hs (by omega) (by omega) (fun f hf => by rw [h.files] at hf; simp at hf; subst hf; show J.file < J.file + 1; omega) (by rw [h.files]; simp) (by rw [hl]; omega) with ⟨D', a1, a2, a3, a4, a5, a6, a7⟩ | ⟨D', a1, a2, a3, a4, a5, a6, a7, a8⟩
  · rw [a1]
    simp only [if_true]
    rw [h.files] at a7
    have hm : (⟨J.file, rowL R, (rowL R).length⟩ : FileM) ∈ D'.files := by rw [a7]; simp
    have hod := okay_deleteD a2 J.file
    have e := delete_at a2 a4 hm
    simp only at e
    rw [e] at hod ⊢
    rcases then_cases D' (fun l => delF l J.file) a4 with ⟨f', e2, hf'⟩ | ⟨ks, e2, hfn⟩
    · rw [e2] at hod ⊢
      refine Or.inr (Or.inl ⟨_, _, rfl, ⟨hod, a3.trans h.cap, rfl, ?_, ?_, ?_, ?_, ?_, ?_⟩, fun hx => hf' (a6 hx)⟩)
      · show delF D'.files J.file = _
        rw [a7]
        unfold delF
        rw [List.cons_append, List.nil_append, List.filter_cons_of_neg (by simp), List.filter_cons_of_pos (by simp; omega), List.filter_nil]
        simp [rowL]
      · simp only; omega
      · simp [rowL, hl]
      · simp
      · simp only; rw [a5]; exact h.starts
      · intro p hp; simp at hp; subst hp; omega
    · rw [e2] at hod ⊢
      have hs2 : Sure D'.files := by
        rw [a7]
        intro f hf
        simp at hf
        rcases hf with rfl | rfl <;> rfl
      have ed : (D'.down ks).files = D'.files := down_sure hs2 ks
      refine Or.inr (Or.inr ⟨_, [s], rfl, ⟨rfl, ⟨hod, a3.trans h.cap, ?_, ?_, ?_⟩, rfl, fun hx => hfn (a6 hx), a5⟩, Or.inr rfl⟩)
      · intro f hf
        rw [ed, a7] at hf
        simp at hf
        rcases hf with rfl | rfl <;> simp only <;> omega
      · rw [ed]; exact hs2
      · rw [ed, a7]
        refine ⟨⟨J.file + 1, recL s, (recL s).length⟩, ?_, hws⟩
        show bestF [_, _] = _
        rw [best_two, if_pos hgs]
  · rw [a1]
    simp only [show ¬ ((61 : Int) = 0) by decide, if_false]
    rcases a8 with a8 | ⟨k, a8⟩
    · refine Or.inr (Or.inr ⟨D', R, rfl, ⟨a4, (h.holds.more (by omega)).of a8 a3 a2, a6, a7, a5⟩, Or.inl rfl⟩)
    · rw [h.files] at a8
      have hnums : ∀ f ∈ D'.files, f.n ≤ M + 1 := fun f hf => by
        rw [a8] at hf
        simp at hf
        rcases hf with rfl | rfl <;> simp only <;> omega
      have hs2 : Sure D'.files := by
        rw [a8]
        intro f hf
        simp only [List.cons_append, List.nil_append, List.mem_cons, List.not_mem_nil, or_false] at hf
        rcases hf with rfl | rfl <;> rfl
      have hb := best_two (a := ⟨J.file, rowL R, (rowL R).length⟩) (b := ⟨J.file + 1, (recL s).take k, ((recL s).take k).length⟩)
      by_cases hk : s.length + 8 ≤ k
      · have hg : gB ((recL s).take k) = true := by rw [← whole_iff, hcut k, if_pos hk]; simp
        rw [if_pos hg] at hb
        exact Or.inr (Or.inr ⟨D', [s], rfl, ⟨a4, ⟨a2, a3.trans h.cap, hnums, hs2, _, by rw [a8]; exact hb, by simp only; rw [hcut k, if_pos hk]⟩, a6, a7, a5⟩, Or.inr rfl⟩)
      · have hg : ¬ gB ((recL s).take k) = true := by rw [← whole_iff, hcut k, if_neg hk]; simp
        rw [if_neg hg, if_pos hgR] at hb
        exact Or.inr (Or.inr ⟨D', R, rfl, ⟨a4, ⟨a2, a3.trans h.cap, hnums, hs2, _, by rw [a8]; exact hb, (whole_rowL R h.lens).1⟩, a6, a7, a5⟩, Or.inl rfl⟩)
/-- The first Open of a new disk. -/
theorem open_new {C : Nat} (h8 : 8 ≤ C) (hC : C ≤ 1048576) : ∃ J D', openD (newD C) = ((0, D'), some (J, [[]])) ∧ Live C 0 D' J [[]] ∧ D'.fail = none ∧ D'.starts = 0 := by
  have hl := recL_len []
  rcases lay_cases (D := newD C) (n := 0) (s := recL []) (Okay.new hC) rfl (fun f hf => by simp [newD] at hf) (by omega) (by omega) (fun f hf => by simp [newD] at hf) (by simp [newD]) (by rw [hl]; unfold DiskM.free newD used; simp; omega) with ⟨D', a1, a2, a3, a4, a5, a6, a7⟩ | ⟨D', a1, a2, a3, a4, a5, a6, a7, a8⟩
  · have ef : freshD (newD C) = (0, D') := by
      unfold freshD
      rw [if_pos (show (newD C).files = [] from rfl), next_ok]
      exact a1
    have eo : openD (newD C) = (freshD (newD C), if (freshD (newD C)).1 = 0 then some (⟨0, 8, 0, (freshD (newD C)).2.starts⟩, [[]]) else none) := rfl
    rw [eo, ef]
    refine ⟨_, D', rfl, ⟨a2, a3, a4, ?_, by simp, ?_, by simp, rfl, fun p hp => by simp at hp; subst hp; simp⟩, a6 rfl, a5⟩
    · rw [a7]; simp [newD, rowL]
    · simp [rowL, hl]
  · exact absurd rfl a7
end Jn
end Go.Proofs.YtlaepdpgegoopaaGreat
namespace Go.Proofs.YtlaepdpgegoopaaGreat
open Go.ChangeShapes Go.WideShapes Go.ChangeAt Go.RowKit Csv

def tailV (g n c : Nat) : Value := if c = 1 then .slice (some ⟨g, 0, none⟩) (n - 1) (c - 1) else .slice (some ⟨g, 1, none⟩) (n - 1) (c - 1)
theorem tail_run (g n c : Nat) (h1 : 1 ≤ n) (hc : n ≤ c) (hm : c ≤ maxLen) (w : World) : (Instr.slice tR (.slice (some ⟨g, 0, none⟩) n c) (some (.int .i64 1)) none none).run Tryz.prog w = .ok (tailV g n c) w := by
  unfold maxLen at hm
  unfold tailV
  go_simp
  rw [if_pos (by omega)]
  split <;> rfl
end Go.Proofs.YtlaepdpgegoopaaGreat
