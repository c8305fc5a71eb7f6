
/- Plain facts on decimal digits: nothing of the program is read here. -/
import Derived.Test.YtbemkcnikoiecaaArith
namespace Go.Proofs.Ytbemkcnikoiecaa.Mon


/-- The last digit. -/
def dg (n : Nat) : UInt8 := UInt8.ofNat (48 + n % 10)
/-- The last k digits of n. -/
def dig : Nat → Nat → List UInt8
  | 0, _ => []
  | k + 1, n => dig k (n / 10) ++ [dg n]

theorem dig_length : ∀ (k n : Nat), (dig k n).length = k
  | 0, _ => rfl
  | k + 1, n => by simp [dig, dig_length k]

/-- The other way round: a digit ahead. -/
theorem dig_front : ∀ (k n : Nat), dig (k + 1) n = dg (n / 10 ^ k) :: dig k n
  | 0, n => by simp [dig]
  | k + 1, n => by
    have h := dig_front k (n / 10)
    rw [dig, h, Nat.div_div_eq_div_mul, Nat.mul_comm 10, ← Nat.pow_succ]
    simp [dig]

/-- A row of noughts that is filled from its end. -/
theorem fill_step {α : Type} (z u : α) (a : Nat) (D : List α) : (List.replicate (a + 1) z ++ D).set a u = List.replicate a z ++ u :: D := by
  induction a with
  | zero => rfl
  | succ a ih => rw [List.replicate_succ, List.cons_append, List.set_cons_succ, ih]; rfl
theorem fill_at {α : Type} (z : α) (a : Nat) (D : List α) : (List.replicate (a + 1) z ++ D)[a]? = some z := by
  rw [List.getElem?_append_left (by simp)]; simp

/-- How many digits n has; 0 has one. -/
def cntF : Nat → Nat → Nat
  | 0, _ => 1
  | f + 1, n => if n < 10 then 1 else cntF f (n / 10) + 1
def cnt (n : Nat) : Nat := cntF 64 n

theorem cntF_pos : ∀ f n, 1 ≤ cntF f n
  | 0, _ => by simp [cntF]
  | f + 1, n => by unfold cntF; split <;> omega

theorem pow10_succ (k : Nat) : (10 : Nat) ^ (k + 1) = 10 * 10 ^ k := by rw [Nat.pow_succ, Nat.mul_comm]

/-- With fuel enough: n is below 10^k, and not below 10^(k-1), but for k = 1. -/
theorem cntF_spec : ∀ f n, n < 10 ^ (f + 1) → n < 10 ^ cntF f n ∧ (cntF f n = 1 ∨ 10 ^ (cntF f n - 1) ≤ n)
  | 0, n, h => by simpa [cntF] using h
  | f + 1, n, h => by
    rw [cntF]
    by_cases hn : n < 10
    · rw [if_pos hn]; exact ⟨by simpa using hn, Or.inl rfl⟩
    · rw [if_neg hn]
      have h0 := pow10_succ (f + 1)
      obtain ⟨h1, h2⟩ := cntF_spec f (n / 10) (by omega)
      have hp := cntF_pos f (n / 10)
      have h3 := pow10_succ (cntF f (n / 10))
      refine ⟨by omega, Or.inr ?_⟩
      rw [Nat.add_sub_cancel]
      obtain ⟨j, hj⟩ : ∃ j, cntF f (n / 10) = j + 1 := ⟨cntF f (n / 10) - 1, by omega⟩
      rw [hj] at h2 ⊢
      have h4 := pow10_succ j
      rcases h2 with h2 | h2
      · obtain rfl : j = 0 := by omega
        simp; omega
      · simp only [Nat.add_sub_cancel] at h2
        omega

theorem topN_lt : topN < 10 ^ 20 := by decide
theorem fits {n : Nat} (hn : n < topN) : n < 10 ^ (64 + 1) := Nat.lt_trans (Nat.lt_trans hn topN_lt) (by decide)
theorem cnt_pos (n : Nat) : 1 ≤ cnt n := cntF_pos _ _
theorem lt_cnt {n : Nat} (hn : n < topN) : n < 10 ^ cnt n := (cntF_spec 64 n (fits hn)).1
theorem cnt_low {n : Nat} (hn : n < topN) : cnt n = 1 ∨ 10 ^ (cnt n - 1) ≤ n := (cntF_spec 64 n (fits hn)).2

theorem pow_lt_of {a b : Nat} (h : (10 : Nat) ^ a < 10 ^ b) : a < b := (Nat.pow_lt_pow_iff_right (a := 10) (by omega)).1 h
/-- Such a k is the count. -/
theorem cnt_is {n k : Nat} (hn : n < topN) (h1 : 1 ≤ k) (h2 : n < 10 ^ k) (h3 : k = 1 ∨ 10 ^ (k - 1) ≤ n) : cnt n = k := by
  have a := lt_cnt hn
  have b := cnt_low hn
  have c := cnt_pos n
  have p : k - 1 < cnt n := by
    rcases h3 with h3 | h3
    · omega
    · exact pow_lt_of (Nat.lt_of_le_of_lt h3 a)
  have q : cnt n - 1 < k := by
    rcases b with b | b
    · omega
    · exact pow_lt_of (Nat.lt_of_le_of_lt b h2)
  omega
theorem cnt_le {n k : Nat} (hn : n < topN) (h1 : 1 ≤ k) (h2 : n < 10 ^ k) : cnt n ≤ k := by
  rcases cnt_low hn with b | b
  · omega
  · have := pow_lt_of (Nat.lt_of_le_of_lt b h2); omega
theorem cnt_le20 {n : Nat} (hn : n < topN) : cnt n ≤ 20 := cnt_le hn (by omega) (Nat.lt_trans hn topN_lt)
theorem cnt_small {n : Nat} (h : n < 10) : cnt n = 1 := by unfold cnt; rw [cntF, if_pos h]
theorem cnt_step {n : Nat} (hn : n < topN) (h : 10 ≤ n) : cnt n = cnt (n / 10) + 1 := by
  have hd : n / 10 < topN := Nat.lt_of_le_of_lt (Nat.div_le_self _ _) hn
  have a := lt_cnt hd
  have b := cnt_low hd
  have c := cnt_pos (n / 10)
  refine cnt_is hn (by omega) ?_ (Or.inr ?_)
  · rw [pow10_succ]; omega
  · rw [Nat.add_sub_cancel]
    obtain ⟨j, hj⟩ : ∃ j, cnt (n / 10) = j + 1 := ⟨cnt (n / 10) - 1, by omega⟩
    rw [hj] at b ⊢
    rw [pow10_succ]
    rcases b with b | b
    · obtain rfl : j = 0 := by omega
      simp; omega
    · simp only [Nat.add_sub_cancel] at b; omega

/-! ### The number of a text of digits -/
def isDig (c : UInt8) : Bool := 48 ≤ c.toNat && c.toNat ≤ 57
def num : List UInt8 → Nat := fun l => l.foldl (fun n c => n * 10 + (c.toNat - 48)) 0
theorem num_snoc (l : List UInt8) (c : UInt8) : num (l ++ [c]) = num l * 10 + (c.toNat - 48) := by simp [num]
theorem num_lt (l : List UInt8) (h : ∀ c, c ∈ l → isDig c = true) : num l < 10 ^ l.length := by
  suffices H : ∀ l : List UInt8, (∀ c, c ∈ l → isDig c = true) → ∀ k n, n < 10 ^ k → l.foldl (fun n c => n * 10 + (c.toNat - 48)) n < 10 ^ (k + l.length) from by
    simpa [num] using H l h 0 0 (by decide)
  intro l
  induction l with
  | nil => intro _ k n hn; simpa using hn
  | cons c l ih =>
    intro h k n hn
    have hc := h c (by simp)
    simp only [isDig, Bool.and_eq_true, decide_eq_true_eq] at hc
    have := ih (fun x hx => h x (by simp [hx])) (k + 1) (n * 10 + (c.toNat - 48)) (by rw [pow10_succ]; omega)
    simpa [Nat.add_comm, Nat.add_left_comm] using this

theorem dig_all : ∀ (k n : Nat), ∀ c, c ∈ dig k n → isDig c = true
  | 0, _ => by simp [dig]
  | k + 1, n => by
    intro c hc
    simp only [dig, List.mem_append, List.mem_singleton] at hc
    rcases hc with hc | hc
    · exact dig_all k _ c hc
    · subst hc
      have : (48 + n % 10) % 256 = 48 + n % 10 := by omega
      simp [isDig, dg, UInt8.toNat_ofNat', this]; omega
theorem num_dig : ∀ (k n : Nat), num (dig k n) = n % 10 ^ k
  | 0, n => by simp [dig, num, Nat.mod_one]
  | k + 1, n => by
    have : (48 + n % 10) % 256 = 48 + n % 10 := by omega
    rw [dig, num_snoc, num_dig k, dg, UInt8.toNat_ofNat', this, Nat.add_sub_cancel_left, Nat.pow_succ, Nat.mul_comm (10 ^ k) 10, Nat.mod_mul]
    omega
theorem num_dig_eq {k n : Nat} (h : n < 10 ^ k) : num (dig k n) = n := by rw [num_dig, Nat.mod_eq_of_lt h]
/-- The digits of the number of digits. -/
theorem dig_num (l : List UInt8) (h : ∀ c, c ∈ l → isDig c = true) : dig l.length (num l) = l := by
  suffices H : ∀ (k : Nat) (l : List UInt8), l.length = k → (∀ c, c ∈ l → isDig c = true) → dig l.length (num l) = l from H _ l rfl h
  intro k
  induction k with
  | zero => intro l hl _; obtain rfl := List.length_eq_zero_iff.1 hl; rfl
  | succ k ih =>
    intro l hl h
    obtain ⟨i, c, rfl⟩ : ∃ i c, l = i ++ [c] := ⟨l.dropLast, l.getLast (by intro e; simp [e] at hl), (List.dropLast_concat_getLast _).symm⟩
    have hc := h c (by simp)
    simp only [isDig, Bool.and_eq_true, decide_eq_true_eq] at hc
    have hi := ih i (by simpa using hl) (fun x hx => h x (by simp [hx]))
    have e1 : (num i * 10 + (c.toNat - 48)) / 10 = num i := by omega
    have e2 : (num i * 10 + (c.toNat - 48)) % 10 = c.toNat - 48 := by omega
    have e3 : UInt8.ofNat (48 + (c.toNat - 48)) = c := by rw [Nat.add_sub_cancel' hc.1]; simp
    rw [List.length_append, List.length_singleton, dig, num_snoc, dg, e1, e2, e3, hi]

theorem byte_digit (M : Nat) : (48 : Int) + (M : Int) % 10 = ((dg M).toNat : Int) := by
  have : (48 + M % 10) % 256 = 48 + M % 10 := by omega
  rw [dg, UInt8.toNat_ofNat', this]; omega

/-! ### The text of an amount, and the amount of a text -/
def decN (n : Nat) : List UInt8 := dig (cnt n) n
def put (n : Int) : List UInt8 := if 0 ≤ n then decN n.toNat else 45 :: decN n.natAbs
def okNum (l : List UInt8) (most : Nat) : Bool := decide (1 ≤ l.length) && decide (l.length ≤ most) && l.all isDig
def valR (l : List UInt8) (most : Nat) : Nat := if okNum l most then num l else 0
def inI64 (n : Int) : Bool := decide (-top ≤ n) && decide (n < top)
/-- What may be the amount of s: its digits, with their sign. -/
def guess (s : List UInt8) : Int := match s with
  | 45 :: t => - (num t : Int)
  | t => num t
def tailOf (s : List UInt8) : List UInt8 := match s with | 45 :: t => t | t => t
/-- Is there an amount whose text this is? -/
def getB (s : List UInt8) : Bool := okNum (tailOf s) 19 && inI64 (guess s) && decide (put (guess s) = s)
def getV (s : List UInt8) : Int := if getB s then guess s else 0

theorem decN_num {n : Nat} (h : n < topN) : num (decN n) = n := num_dig_eq (lt_cnt h)
theorem decN_all (n : Nat) : ∀ c, c ∈ decN n → isDig c = true := dig_all _ _
theorem decN_len (n : Nat) : (decN n).length = cnt n := dig_length _ _
theorem decN_head (n : Nat) : ∃ c t, decN n = c :: t ∧ isDig c = true := by
  have h := decN_len n
  have hp := cnt_pos n
  have ha := decN_all n
  cases hd : decN n with
  | nil => rw [hd] at h; simp at h; omega
  | cons c t => exact ⟨c, t, rfl, ha c (by simp [hd])⟩
theorem put_tail (n : Int) : tailOf (put n) = decN n.natAbs := by
  unfold put
  split
  · rename_i h
    obtain ⟨c, t, hd, hc⟩ := decN_head n.toNat
    have e : n.toNat = n.natAbs := by omega
    rw [← e, hd]
    unfold tailOf
    split
    · rename_i h1; simp at h1; obtain ⟨rfl, _⟩ := h1; simp [isDig] at hc
    · rfl
  · rfl
theorem put_guess {n : Int} (h1 : -top ≤ n) (h2 : n < top) : guess (put n) = n := by
  have hb : n.natAbs < topN := by simp only [top, topN] at *; omega
  unfold put
  split
  · rename_i h
    obtain ⟨c, t, hd, hc⟩ := decN_head n.toNat
    have e : n.toNat = n.natAbs := by omega
    have hn := decN_num (n := n.toNat) (by omega)
    unfold guess
    split
    · rename_i h1; rw [hd] at h1; simp at h1; obtain ⟨rfl, _⟩ := h1; simp [isDig] at hc
    · rw [hn]; omega
  · simp only [guess, decN_num hb]; omega
theorem cnt19 {n : Nat} (h : n ≤ 9223372036854775808) : cnt n ≤ 19 := cnt_le (by simp only [topN]; omega) (by omega) (Nat.lt_of_le_of_lt h (by decide))
/-- What is put is got. -/
theorem get_put {n : Int} (h1 : -top ≤ n) (h2 : n < top) : getB (put n) = true ∧ getV (put n) = n := by
  have hg := put_guess h1 h2
  have hb : getB (put n) = true := by
    unfold getB okNum inI64
    rw [hg, put_tail, decN_len]
    have := cnt19 (n := n.natAbs) (by simp only [top] at *; omega)
    simp [cnt_pos, this, h1, h2, List.all_eq_true]
    exact decN_all _
  exact ⟨hb, by rw [getV, if_pos hb, hg]⟩
/-- What is got is put. -/
theorem put_get {s : List UInt8} (h : getB s = true) : put (getV s) = s ∧ -top ≤ getV s ∧ getV s < top := by
  have h' := h
  simp only [getB, inI64, Bool.and_eq_true, decide_eq_true_eq] at h'
  rw [getV, if_pos h]
  exact ⟨h'.2, h'.1.2.1, h'.1.2.2⟩
/-- Who knows an amount of that text knows what is got; where there is none nothing is. -/
theorem get_of {s : List UInt8} {n : Int} (h1 : -top ≤ n) (h2 : n < top) (h : put n = s) : getB s = true ∧ getV s = n := by
  subst h; exact get_put h1 h2
theorem get_none {s : List UInt8} (h : ∀ n, -top ≤ n → n < top → put n ≠ s) : getB s = false ∧ getV s = 0 := by
  have hb : getB s = false := by
    cases hb : getB s
    · rfl
    · have := put_get hb; exact absurd this.1 (h _ this.2.1 this.2.2)
  exact ⟨hb, by simp [getV, hb]⟩

theorem take_snoc (s : ByteArray) (k : Nat) (h : k < s.size) : s.data.toList.take (k + 1) = s.data.toList.take k ++ [s[k]] := by
  rw [List.take_succ_eq_append_getElem (by simpa using h)]; rfl
theorem mem_get (s : ByteArray) (k : Nat) (h : k < s.size) : s[k] ∈ s.data.toList := by
  have : s.data.toList[k]'(by simpa using h) ∈ s.data.toList := List.getElem_mem _
  exact this
theorem not_okNum_len {l : List UInt8} {most : Nat} (h : ¬ 1 ≤ l.length ∨ most < l.length) : okNum l most = false ∧ valR l most = 0 := by
  have hb : okNum l most = false := by
    unfold okNum
    rcases h with h | h
    · rw [decide_eq_false h]; simp
    · rw [decide_eq_false (show ¬ l.length ≤ most from by omega)]; simp
  exact ⟨hb, by rw [valR, hb]; rfl⟩
theorem okNum_full {l : List UInt8} {most : Nat} (h1 : 1 ≤ l.length) (h2 : l.length ≤ most) (h : ∀ c, c ∈ l → isDig c = true) : okNum l most = true ∧ valR l most = num l := by
  have hb : okNum l most = true := by
    unfold okNum
    rw [decide_eq_true h1, decide_eq_true h2]
    simpa [List.all_eq_true] using h
  exact ⟨hb, by rw [valR, hb]; rfl⟩
theorem not_okNum {s : ByteArray} {k most : Nat} (h : k < s.size) (hc : isDig s[k] = false) : okNum s.data.toList most = false := by
  cases ho : okNum s.data.toList most
  · rfl
  · simp only [okNum, Bool.and_eq_true, List.all_eq_true] at ho
    have := ho.2 _ (mem_get s k h)
    rw [hc] at this; cases this

/-! ### Sums -/
def sumB (n : Int) : Bool := inI64 n
def sumV (n : Int) : Int := if inI64 n then n else 0

/-! ### Widths -/
def padB (n : Int) (w : Int) : Bool := decide (0 ≤ n) && decide (1 ≤ w) && decide (w ≤ 18) && decide ((cnt n.toNat : Int) ≤ w)
def pad (n w : Int) : List UInt8 := if padB n w then dig w.toNat n.toNat else []
def unpadB (s : List UInt8) : Bool := okNum s 18
def unpadV (s : List UInt8) : Int := if unpadB s then num s else 0
theorem pad_back {n w : Int} (hn : n < top) (h : padB n w = true) : ((pad n w).length : Int) = w ∧ unpadB (pad n w) = true ∧ unpadV (pad n w) = n := by
  have h' := h
  simp only [padB, Bool.and_eq_true, decide_eq_true_eq] at h'
  obtain ⟨⟨⟨h0, h1⟩, h18⟩, hc⟩ := h'
  have hl : (pad n w).length = w.toNat := by rw [pad, if_pos h, dig_length]
  have hb : unpadB (pad n w) = true := by
    unfold unpadB okNum
    rw [hl, pad, if_pos h]
    simp [List.all_eq_true]
    exact ⟨⟨by omega, by omega⟩, dig_all _ _⟩
  refine ⟨by omega, hb, ?_⟩
  rw [unpadV, if_pos hb, pad, if_pos h]
  have hlt : n.toNat < topN := by simp only [top, topN] at *; omega
  have := lt_cnt hlt
  have : 10 ^ cnt n.toNat ≤ 10 ^ w.toNat := Nat.pow_le_pow_right (by omega) (by omega)
  rw [num_dig_eq (by omega)]
  omega
theorem num19 {s : List UInt8} {most : Nat} (h : okNum s most = true) : num s < 10 ^ most := by
  simp only [okNum, Bool.and_eq_true, decide_eq_true_eq, List.all_eq_true] at h
  exact Nat.lt_of_lt_of_le (num_lt s h.2) (Nat.pow_le_pow_right (by omega) h.1.2)
end Go.Proofs.Ytbemkcnikoiecaa.Mon
