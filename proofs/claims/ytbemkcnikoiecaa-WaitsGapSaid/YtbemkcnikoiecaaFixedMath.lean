
/- The plain mathematics of fixed (layer 5): fields as a line, a line by widths. -/
import Derived.Test.YtbemkcnikoiecaaCsvMath
set_option linter.unusedVariables false
namespace Go.Proofs.Ytbemkcnikoiecaa
namespace Fix
open Go Csv

/-! ### Widths -/
def okW1 (n : Int) : Bool := decide (1 ≤ n) && decide (n ≤ 1000)
def okW (W : List Int) : Bool := decide (W.length ≤ 100) && W.all okW1
def sumW (W : List Int) : Nat := (W.map Int.toNat).sum

theorem sumW_nil : sumW [] = 0 := rfl
theorem sumW_cons (n : Int) (W : List Int) : sumW (n :: W) = n.toNat + sumW W := by simp [sumW]
theorem sumW_append (A B : List Int) : sumW (A ++ B) = sumW A + sumW B := by simp [sumW]
theorem sumW_take (W : List Int) (k : Nat) (n : Int) (h : W[k]? = some n) : sumW (W.take (k + 1)) = sumW (W.take k) + n.toNat := by
  rw [List.take_add_one, h, sumW_append]; simp [sumW]
theorem sumW_part (W : List Int) (k : Nat) : sumW (W.take k) ≤ sumW W := by
  have := sumW_append (W.take k) (W.drop k)
  rw [List.take_append_drop] at this; omega
theorem okW1_iff (n : Int) : okW1 n = true ↔ 1 ≤ n ∧ n ≤ 1000 := by simp [okW1]
theorem okW_at {W : List Int} (h : okW W = true) {k : Nat} {n : Int} (hk : W[k]? = some n) : 1 ≤ n ∧ n ≤ 1000 := by
  simp only [okW, Bool.and_eq_true, List.all_eq_true] at h
  exact (okW1_iff n).1 (h.2 n (List.mem_of_getElem? hk))
theorem okW_len {W : List Int} (h : okW W = true) : W.length ≤ 100 := by
  simp only [okW, Bool.and_eq_true, decide_eq_true_eq] at h; exact h.1
theorem okW_no {W : List Int} {k : Nat} {n : Int} (hk : W[k]? = some n) (h : okW1 n = false) : okW W = false := by
  unfold okW
  rw [List.all_eq_false.2 ⟨n, List.mem_of_getElem? hk, by simp [h]⟩]; simp
theorem okW_yes {W : List Int} (hl : W.length ≤ 100) (h : (W.take W.length).all okW1 = true) : okW W = true := by
  rw [List.take_of_length_le (Nat.le_refl _)] at h
  unfold okW; rw [h]; simp [hl]
theorem all_take {α : Type} {l : List α} {k : Nat} {x : α} {g : α → Bool} (h : (l.take k).all g = true) (hx : l[k]? = some x) (hg : g x = true) : (l.take (k + 1)).all g = true := by
  rw [List.take_add_one, hx, List.all_append, h]; simp [hg]
theorem sumW_small : ∀ W : List Int, W.all okW1 = true → sumW W ≤ 1000 * W.length
  | [], _ => by simp [sumW]
  | n :: W, h => by
    simp only [List.all_cons, Bool.and_eq_true] at h
    have h1 := (okW1_iff n).1 h.1
    have ih := sumW_small W h.2
    rw [sumW_cons, List.length_cons]; omega
theorem okW_sum {W : List Int} (h : okW W = true) : sumW W ≤ 100000 := by
  have hl := okW_len h
  simp only [okW, Bool.and_eq_true] at h
  have := sumW_small W h.2; omega
/-- What is summed of the first k, as an integer. -/
theorem sumI_small (W : List Int) (k : Nat) (hl : W.length ≤ 100) (h : (W.take k).all okW1 = true) : sumW (W.take k) ≤ 100000 := by
  have := sumW_small _ h
  have : (W.take k).length ≤ W.length := by rw [List.length_take]; omega
  omega

/-! ### Bytes and fields -/
def okB (c : UInt8) : Bool := decide (32 ≤ c.toNat) && decide (c.toNat ≤ 126)
theorem okB_iff (c : UInt8) : okB c = true ↔ 32 ≤ c.toNat ∧ c.toNat ≤ 126 := by simp [okB]
/-- A blank that ends a field. -/
def endB (f : Bs) : Bool := f.getLast? == some 32
def fitB (f : Bs) (n : Int) : Bool := decide ((f.length : Int) ≤ n) && f.all okB && !endB f
/-- The place of the first byte that may not be. -/
def odd (l : Bs) : Option Nat := l.findIdx? (fun c => !okB c)

theorem odd_none {l : Bs} (h : l.all okB = true) : odd l = none := by
  unfold odd
  rw [List.findIdx?_eq_none_iff]
  intro x hx
  simp [List.all_eq_true.1 h x hx]
theorem odd_some {l : Bs} {k : Nat} {c : UInt8} (h : (l.take k).all okB = true) (hk : l[k]? = some c) (hc : okB c = false) : odd l = some k := by
  unfold odd
  rw [List.findIdx?_eq_some_iff_getElem]
  obtain ⟨hlt, e⟩ := List.getElem?_eq_some_iff.1 hk
  refine ⟨hlt, by simp [e, hc], fun j hj => ?_⟩
  have hm : l[j] ∈ l.take k := by
    rw [List.mem_take_iff_getElem]
    exact ⟨j, by omega, rfl⟩
  simp [List.all_eq_true.1 h _ hm]
theorem odd_of_none {l : Bs} (h : odd l = none) : l.all okB = true := by
  unfold odd at h
  rw [List.findIdx?_eq_none_iff] at h
  rw [List.all_eq_true]
  intro x hx
  simpa using h x hx
theorem odd_lt {l : Bs} {k : Nat} (h : odd l = some k) : k < l.length := by
  unfold odd at h
  obtain ⟨hlt, _⟩ := List.findIdx?_eq_some_iff_getElem.1 h
  exact hlt
theorem odd_all {l : Bs} : (odd l).isNone = l.all okB := by
  cases h : odd l with
  | none => simp [odd_of_none h]
  | some k =>
    unfold odd at h
    obtain ⟨hlt, h1, _⟩ := List.findIdx?_eq_some_iff_getElem.1 h
    symm
    simp only [Option.isNone_some, List.all_eq_false]
    exact ⟨l[k], List.getElem_mem hlt, by simpa using h1⟩

/-! ### A line -/
def padded (f : Bs) (n : Int) : Bs := f ++ List.replicate (n.toNat - f.length) 32
def lineS : List Int → List Bs → Bs
  | n :: W, f :: F => padded f n ++ lineS W F
  | _, _ => []
def fitsTo : List Int → List Bs → Bool
  | n :: W, f :: F => fitB f n && fitsTo W F
  | _, _ => true
def pr (W : List Int) (F : List Bs) : Bs := if okW W = true ∧ W.length = F.length ∧ fitsTo W F = true then lineS W F else []

theorem lineS_snoc : ∀ (W : List Int) (F : List Bs) (n : Int) (f : Bs), W.length = F.length → lineS (W ++ [n]) (F ++ [f]) = lineS W F ++ padded f n
  | [], [], n, f, _ => by simp [lineS]
  | m :: W, g :: F, n, f, h => by
    have := lineS_snoc W F n f (by simpa using h)
    simp [lineS, this]
  | [], g :: F, n, f, h => by simp at h
  | m :: W, [], n, f, h => by simp at h
theorem fitsTo_snoc : ∀ (W : List Int) (F : List Bs) (n : Int) (f : Bs), W.length = F.length → fitsTo (W ++ [n]) (F ++ [f]) = (fitsTo W F && fitB f n)
  | [], [], n, f, _ => by simp [fitsTo]
  | m :: W, g :: F, n, f, h => by
    have := fitsTo_snoc W F n f (by simpa using h)
    simp [fitsTo, this, Bool.and_assoc]
  | [], g :: F, n, f, h => by simp at h
  | m :: W, [], n, f, h => by simp at h
theorem len_takes {W : List Int} {F : List Bs} (h : W.length = F.length) (k : Nat) : (W.take k).length = (F.take k).length := by
  rw [List.length_take, List.length_take, h]
theorem lineS_take {W : List Int} {F : List Bs} {k : Nat} {n : Int} {f : Bs} (h : W.length = F.length) (hw : W[k]? = some n) (hf : F[k]? = some f) : lineS (W.take (k + 1)) (F.take (k + 1)) = lineS (W.take k) (F.take k) ++ padded f n := by
  rw [List.take_add_one, List.take_add_one, hw, hf]
  exact lineS_snoc _ _ n f (len_takes h k)
theorem fitsTo_take {W : List Int} {F : List Bs} {k : Nat} {n : Int} {f : Bs} (h : W.length = F.length) (hw : W[k]? = some n) (hf : F[k]? = some f) : fitsTo (W.take (k + 1)) (F.take (k + 1)) = (fitsTo (W.take k) (F.take k) && fitB f n) := by
  rw [List.take_add_one, List.take_add_one, hw, hf]
  exact fitsTo_snoc _ _ n f (len_takes h k)
theorem fitsTo_no : ∀ {W : List Int} {F : List Bs} {k : Nat} {n : Int} {f : Bs}, W[k]? = some n → F[k]? = some f → fitB f n = false → fitsTo W F = false
  | m :: W, g :: F, 0, n, f, hw, hf, h => by
    simp at hw hf; subst hw; subst hf
    simp [fitsTo, h]
  | m :: W, g :: F, k + 1, n, f, hw, hf, h => by
    simp at hw hf
    have := fitsTo_no hw hf h
    simp [fitsTo, this]
  | [], _, k, n, f, hw, _, _ => by simp at hw
  | m :: W, [], k, n, f, _, hf, _ => by simp at hf
theorem fitsTo_at : ∀ {W : List Int} {F : List Bs} {k : Nat} {n : Int} {f : Bs}, fitsTo W F = true → W[k]? = some n → F[k]? = some f → fitB f n = true
  | W, F, k, n, f, h, hw, hf => by
    cases hb : fitB f n with
    | true => rfl
    | false => rw [fitsTo_no hw hf hb] at h; cases h
theorem pr_no {W : List Int} {F : List Bs} (h : ¬ (okW W = true ∧ W.length = F.length ∧ fitsTo W F = true)) : pr W F = [] := by unfold pr; rw [if_neg h]
theorem pr_yes {W : List Int} {F : List Bs} (h1 : okW W = true) (h2 : W.length = F.length) (h3 : fitsTo W F = true) : pr W F = lineS W F := by unfold pr; rw [if_pos ⟨h1, h2, h3⟩]

theorem padded_len {f : Bs} {n : Int} (h : fitB f n = true) : (padded f n).length = n.toNat := by
  simp only [fitB, Bool.and_eq_true, decide_eq_true_eq] at h
  simp only [padded, List.length_append, List.length_replicate]
  omega
theorem lineS_len : ∀ (W : List Int) (F : List Bs), W.length = F.length → fitsTo W F = true → (lineS W F).length = sumW W
  | [], [], _, _ => by simp [lineS, sumW]
  | n :: W, f :: F, h, hf => by
    simp only [fitsTo, Bool.and_eq_true] at hf
    have ih := lineS_len W F (by simpa using h) hf.2
    rw [lineS, List.length_append, padded_len hf.1, ih, sumW_cons]
  | [], g :: F, h, _ => by simp at h
  | m :: W, [], h, _ => by simp at h

/-! ### A line by widths -/
def trimR (l : Bs) : Bs := (l.reverse.dropWhile (· == 32)).reverse
theorem trimR_nil : trimR [] = [] := rfl
theorem trimR_snoc (l : Bs) (c : UInt8) : trimR (l ++ [c]) = if c = 32 then trimR l else l ++ [c] := by
  unfold trimR
  rw [List.reverse_append]
  by_cases h : c = 32
  · rw [if_pos h]; simp [h]
  · rw [if_neg h]; simp [h]
theorem trimR_prefix (l : Bs) : trimR l <+: l := by
  have hs : (l.reverse.dropWhile (· == 32)) <:+ l.reverse := List.dropWhile_suffix _
  have := List.reverse_prefix.2 hs
  rwa [List.reverse_reverse] at this
theorem trimR_take (l : Bs) : trimR l = l.take (trimR l).length := List.prefix_iff_eq_take.1 (trimR_prefix l)
theorem trimR_len (l : Bs) : (trimR l).length ≤ l.length := (trimR_prefix l).length_le
/-- The step of a trim at a length. -/
theorem trimR_at {l : Bs} {k : Nat} {c : UInt8} (hk : l[k]? = some c) : trimR (l.take (k + 1)) = if c = 32 then trimR (l.take k) else l.take (k + 1) := by
  rw [List.take_add_one, hk]; exact trimR_snoc _ _
theorem getLast?_snoc (l : Bs) (c : UInt8) : (l ++ [c]).getLast? = some c := by simp
theorem trimR_end : ∀ (n : Nat) (l : Bs), l.length = n → endB (trimR l) = false
  | 0, l, h => by
    obtain rfl : l = [] := List.eq_nil_of_length_eq_zero h
    rfl
  | n + 1, l, h => by
    obtain ⟨m, c, rfl⟩ : ∃ m c, l = m ++ [c] := by
      rcases List.eq_nil_or_concat l with rfl | ⟨m, c, rfl⟩
      · simp at h
      · exact ⟨m, c, by simp⟩
    rw [trimR_snoc]
    by_cases hc : c = 32
    · rw [if_pos hc]; exact trimR_end n m (by simpa using h)
    · rw [if_neg hc]; simp [endB, hc]
theorem trimR_blanks : ∀ (k : Nat) (l : Bs), trimR (l ++ List.replicate k 32) = trimR l
  | 0, l => by simp
  | k + 1, l => by
    rw [List.replicate_succ', ← List.append_assoc, trimR_snoc, if_pos rfl]
    exact trimR_blanks k l
theorem trimR_self {l : Bs} (h : endB l = false) : trimR l = l := by
  rcases List.eq_nil_or_concat l with rfl | ⟨m, c, rfl⟩
  · rfl
  · have e : m.concat c = m ++ [c] := by simp
    rw [e] at h ⊢
    rw [trimR_snoc, if_neg]
    simpa [endB] using h
theorem trimR_padded {f : Bs} {n : Int} (h : fitB f n = true) : trimR (padded f n) = f := by
  simp only [fitB, Bool.and_eq_true, Bool.not_eq_true'] at h
  unfold padded
  rw [trimR_blanks, trimR_self h.2]
/-- What was trimmed is filled again. -/
theorem trimR_fill : ∀ (n : Nat) (l : Bs), l.length = n → trimR l ++ List.replicate (n - (trimR l).length) 32 = l
  | 0, l, h => by
    obtain rfl : l = [] := List.eq_nil_of_length_eq_zero h
    rfl
  | n + 1, l, h => by
    obtain ⟨m, c, rfl⟩ : ∃ m c, l = m ++ [c] := by
      rcases List.eq_nil_or_concat l with rfl | ⟨m, c, rfl⟩
      · simp at h
      · exact ⟨m, c, by simp⟩
    rw [trimR_snoc]
    by_cases hc : c = 32
    · rw [if_pos hc, hc]
      have hm : m.length = n := by simpa using h
      have ih := trimR_fill n m hm
      have hl := trimR_len m
      rw [Nat.succ_sub (by omega), List.replicate_succ', ← List.append_assoc, ih]
    · rw [if_neg hc, h]; simp

def cutS : List Int → Bs → List Bs
  | [], _ => []
  | n :: W, l => trimR (l.take n.toNat) :: cutS W (l.drop n.toNat)
theorem cutS_len : ∀ (W : List Int) (l : Bs), (cutS W l).length = W.length
  | [], _ => rfl
  | n :: W, l => by simp [cutS, cutS_len W]
theorem cutS_snoc : ∀ (W : List Int) (n : Int) (l : Bs), cutS (W ++ [n]) l = cutS W l ++ [trimR ((l.drop (sumW W)).take n.toNat)]
  | [], n, l => by simp [cutS, sumW]
  | m :: W, n, l => by
    have ih := cutS_snoc W n (l.drop m.toNat)
    rw [List.drop_drop, Nat.add_comm] at ih
    simp only [List.cons_append, cutS, ih, sumW_cons]
    rw [Nat.add_comm (sumW W)]
theorem cutS_take {W : List Int} {k : Nat} {n : Int} (l : Bs) (h : W[k]? = some n) : cutS (W.take (k + 1)) l = cutS (W.take k) l ++ [trimR ((l.drop (sumW (W.take k))).take n.toNat)] := by
  rw [List.take_add_one, h]
  exact cutS_snoc _ n l

/-- What is told of a line: the fields, the column. -/
def pa (W : List Int) (l : Bs) : List Bs × Nat :=
  if okW W = false then ([], 1)
  else if l.length ≠ sumW W then ([], min l.length (sumW W) + 1)
  else match odd l with
    | some k => ([], k + 1)
    | none => (cutS W l, 0)
theorem pa_wide {W : List Int} (l : Bs) (h : okW W = false) : pa W l = ([], 1) := by unfold pa; rw [if_pos h]
theorem pa_long {W : List Int} {l : Bs} (h : okW W = true) (hl : l.length ≠ sumW W) : pa W l = ([], min l.length (sumW W) + 1) := by unfold pa; rw [if_neg (by simp [h]), if_pos hl]
theorem pa_odd {W : List Int} {l : Bs} {k : Nat} (h : okW W = true) (hl : l.length = sumW W) (ho : odd l = some k) : pa W l = ([], k + 1) := by unfold pa; rw [if_neg (by simp [h]), if_neg (by simp [hl]), ho]
theorem pa_yes {W : List Int} {l : Bs} (h : okW W = true) (hl : l.length = sumW W) (ho : odd l = none) : pa W l = (cutS W l, 0) := by unfold pa; rw [if_neg (by simp [h]), if_neg (by simp [hl]), ho]

/-! ### There and back -/
theorem padded_ok {f : Bs} {n : Int} (h : fitB f n = true) : (padded f n).all okB = true := by
  simp only [fitB, Bool.and_eq_true] at h
  unfold padded
  rw [List.all_append, h.1.2, Bool.true_and, List.all_eq_true]
  intro x hx
  rw [List.mem_replicate] at hx
  rw [hx.2]; rfl
theorem lineS_ok : ∀ (W : List Int) (F : List Bs), fitsTo W F = true → (lineS W F).all okB = true
  | [], [], _ => rfl
  | n :: W, f :: F, h => by
    simp only [fitsTo, Bool.and_eq_true] at h
    rw [lineS, List.all_append, padded_ok h.1, lineS_ok W F h.2]; rfl
  | [], g :: F, _ => rfl
  | m :: W, [], _ => rfl
theorem cutS_line : ∀ (W : List Int) (F : List Bs), W.length = F.length → fitsTo W F = true → cutS W (lineS W F) = F
  | [], [], _, _ => rfl
  | n :: W, f :: F, h, hf => by
    simp only [fitsTo, Bool.and_eq_true] at hf
    have hl := padded_len hf.1
    have ih := cutS_line W F (by simpa using h) hf.2
    rw [lineS, cutS, List.take_left' hl, List.drop_left' hl, trimR_padded hf.1, ih]
  | [], g :: F, h, _ => by simp at h
  | m :: W, [], h, _ => by simp at h
/-- What is printed is parsed as those fields. -/
theorem pa_pr {W : List Int} {F : List Bs} (h1 : okW W = true) (h2 : W.length = F.length) (h3 : fitsTo W F = true) : pa W (lineS W F) = (F, 0) := by
  rw [pa_yes h1 (lineS_len W F h2 h3) (odd_none (lineS_ok W F h3)), cutS_line W F h2 h3]
theorem all_sub {l m : Bs} (h : l.all okB = true) (hs : ∀ x ∈ m, x ∈ l) : m.all okB = true := by
  rw [List.all_eq_true] at *
  exact fun x hx => h x (hs x hx)
theorem fit_trim {l : Bs} {n : Int} (hn : 1 ≤ n) (hl : l.length = n.toNat) (h : l.all okB = true) : fitB (trimR l) n = true := by
  have h1 := trimR_len l
  simp only [fitB, Bool.and_eq_true, decide_eq_true_eq, Bool.not_eq_true']
  exact ⟨⟨by omega, all_sub h fun x hx => (trimR_prefix l).subset hx⟩, trimR_end _ l rfl⟩
theorem line_cutS : ∀ (W : List Int) (l : Bs), W.all okW1 = true → l.length = sumW W → l.all okB = true → fitsTo W (cutS W l) = true ∧ lineS W (cutS W l) = l
  | [], l, _, hl, _ => by
    obtain rfl : l = [] := List.eq_nil_of_length_eq_zero (by simpa [sumW] using hl)
    exact ⟨rfl, rfl⟩
  | n :: W, l, hw, hl, ho => by
    simp only [List.all_cons, Bool.and_eq_true] at hw
    have hn := (okW1_iff n).1 hw.1
    rw [sumW_cons] at hl
    have h1 : (l.take n.toNat).length = n.toNat := by rw [List.length_take]; omega
    have ho1 : (l.take n.toNat).all okB = true := all_sub ho fun x hx => List.mem_of_mem_take hx
    have ho2 : (l.drop n.toNat).all okB = true := all_sub ho fun x hx => List.mem_of_mem_drop hx
    obtain ⟨a, b⟩ := line_cutS W (l.drop n.toNat) hw.2 (by rw [List.length_drop]; omega) ho2
    refine ⟨by rw [cutS, fitsTo, fit_trim hn.1 h1 ho1, a]; rfl, ?_⟩
    rw [cutS, lineS, b, padded]
    have := trimR_fill _ _ h1
    rw [this, List.take_append_drop]
/-- What is parsed is printed as that line. -/
theorem pr_pa {W : List Int} {l : Bs} (h1 : okW W = true) (hl : l.length = sumW W) (ho : odd l = none) : pr W (cutS W l) = l := by
  have hw : W.all okW1 = true := by simp only [okW, Bool.and_eq_true] at h1; exact h1.2
  obtain ⟨a, b⟩ := line_cutS W l hw hl (odd_of_none ho)
  rw [pr_yes h1 (cutS_len W l).symm a, b]
end Fix
end Go.Proofs.Ytbemkcnikoiecaa
