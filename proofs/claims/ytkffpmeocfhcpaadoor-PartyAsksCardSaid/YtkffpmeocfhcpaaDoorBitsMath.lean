
/- Plain facts on bytes, sevens and signs: nothing of the program is read here. -/
import Derived.Test.YtkffpmeocfhcpaaDoorArith
set_option linter.unusedVariables false
namespace Go.Proofs.YtkffpmeocfhcpaaDoor.Bit

/-- The lowest byte. -/
def b8 (n : Nat) : UInt8 := UInt8.ofNat (n % 256)
/-- The lowest seven bits, and the highest bit. -/
def hi (n : Nat) : UInt8 := UInt8.ofNat (n % 128 + 128)
theorem b8_toNat (n : Nat) : (b8 n).toNat = n % 256 := by simp [b8]
theorem hi_toNat (n : Nat) : (hi n).toNat = n % 128 + 128 := by simp [hi]; omega
theorem u8_eq {a b : UInt8} (h : a.toNat = b.toNat) : a = b := UInt8.toNat_inj.1 h
theorem u8_lt (c : UInt8) : c.toNat < 256 := c.toNat_lt

/-- The k lowest bytes, the highest first. -/
def be : Nat → Nat → List UInt8
  | 0, _ => []
  | k + 1, n => be k (n / 256) ++ [b8 n]
theorem be_length : ∀ (k n : Nat), (be k n).length = k
  | 0, _ => rfl
  | k + 1, n => by simp [be, be_length k]
theorem be_front : ∀ (k n : Nat), be (k + 1) n = b8 (n / 256 ^ k) :: be k n
  | 0, n => by simp [be]
  | k + 1, n => by
    have h := be_front k (n / 256)
    rw [be, h, Nat.div_div_eq_div_mul, Nat.mul_comm 256, ← Nat.pow_succ]
    simp [be]
/-- A row of noughts that is filled from its end. -/
theorem fill_step {α : Type} (z u : α) (a : Nat) (D : List α) : (List.replicate (a + 1) z ++ D).set a u = List.replicate a z ++ u :: D := by
  induction a with
  | zero => rfl
  | succ a ih => rw [List.replicate_succ, List.cons_append, List.set_cons_succ, ih]; rfl
theorem fill_at {α : Type} (z : α) (a : Nat) (D : List α) : (List.replicate (a + 1) z ++ D)[a]? = some z := by
  rw [List.getElem?_append_left (by simp)]; simp
/-- A row of noughts that is filled from its front. -/
theorem ahead_step {α : Type} (z u : α) (D : List α) (a : Nat) : (D ++ List.replicate (a + 1) z).set D.length u = (D ++ [u]) ++ List.replicate a z := by
  induction D with
  | nil => rfl
  | cons d D ih => simp only [List.cons_append, List.length_cons, List.set_cons_succ, ih]
theorem ahead_at {α : Type} (z : α) (D : List α) (a : Nat) : (D ++ List.replicate (a + 1) z)[D.length]? = some z := by
  rw [List.getElem?_append_right (Nat.le_refl _)]; simp

/-- The bytes of a number, of a size that may be. -/
def putL (n : Nat) (size : Int) : List UInt8 := if 1 ≤ size ∧ size ≤ 8 then be size.toNat n else []

/-- The number of bytes, the highest first. -/
def beN (l : List UInt8) : Nat := l.foldl (fun n c => n * 256 + c.toNat) 0
theorem beN_snoc (l : List UInt8) (c : UInt8) : beN (l ++ [c]) = beN l * 256 + c.toNat := by simp [beN]
theorem beN_lt (l : List UInt8) : beN l < 256 ^ l.length := by
  suffices H : ∀ l : List UInt8, ∀ k n, n < 256 ^ k → l.foldl (fun n c => n * 256 + c.toNat) n < 256 ^ (k + l.length) from by
    simpa [beN] using H l 0 0 (by decide)
  intro l
  induction l with
  | nil => intro k n hn; simpa using hn
  | cons c t ih =>
    intro k n hn
    have h := ih (k + 1) (n * 256 + c.toNat) (by have := u8_lt c; rw [Nat.pow_succ]; omega)
    rw [List.foldl_cons, List.length_cons, show k + (t.length + 1) = k + 1 + t.length from by omega]; exact h
theorem beN_be : ∀ (k n : Nat), n < 256 ^ k → beN (be k n) = n
  | 0, n, h => by simp at h; subst h; rfl
  | k + 1, n, h => by
    rw [be, beN_snoc, beN_be k _ (by rw [Nat.pow_succ] at h; omega), b8_toNat]; omega
def getN (l : List UInt8) : Nat := beN (l.take 8)
theorem beN_take_lt (l : List UInt8) {k : Nat} (hk : k ≤ 8) : beN (l.take k) < topN := by
  have h := beN_lt (l.take k)
  have h2 : (l.take k).length ≤ k := List.length_take_le _ _
  have h3 : (256 : Nat) ^ (l.take k).length ≤ 256 ^ 8 := Nat.pow_le_pow_right (by omega) (by omega)
  have h4 : (256 : Nat) ^ 8 = topN := by decide
  omega
theorem beN_take_small (l : List UInt8) {k : Nat} (hk : k < 8) : beN (l.take k) * 256 < topN := by
  have h := beN_lt (l.take k)
  have h2 : (l.take k).length ≤ k := List.length_take_le _ _
  have h3 : (256 : Nat) ^ (l.take k).length ≤ 256 ^ 7 := Nat.pow_le_pow_right (by omega) (by omega)
  have h4 : (256 : Nat) ^ 7 * 256 = topN := by decide
  omega

/-! ### A number in sevens -/
def sevF : Nat → Nat → List UInt8
  | 0, n => [b8 n]
  | f + 1, n => if n < 128 then [b8 n] else hi n :: sevF f (n / 128)
def sev (n : Nat) : List UInt8 := sevF 10 n
theorem pow128 (k : Nat) : (128 : Nat) ^ (k + 1) = 128 * 128 ^ k := by rw [Nat.pow_succ, Nat.mul_comm]
theorem sevF_s (f n : Nat) : sevF (f + 1) n = if n < 128 then [b8 n] else hi n :: sevF f (n / 128) := rfl
theorem sevF_more : ∀ (f n : Nat), n < 128 ^ (f + 1) → sevF (f + 1) n = sevF f n
  | 0, n, h => by rw [sevF_s, if_pos (by simpa using h)]; rfl
  | f + 1, n, h => by
    have hd : n / 128 < 128 ^ (f + 1) := by rw [pow128] at h; omega
    rw [sevF_s (f + 1) n, sevF_s f n]
    by_cases hn : n < 128
    · rw [if_pos hn, if_pos hn]
    · rw [if_neg hn, if_neg hn, sevF_more f _ hd]
theorem topN_lt : topN < 128 ^ 10 := by decide
theorem sev_small {n : Nat} (h : n < 128) : sev n = [b8 n] := by unfold sev; rw [sevF, if_pos h]
theorem sev_step {n : Nat} (hn : n < topN) (h : 128 ≤ n) : sev n = hi n :: sev (n / 128) := by
  have h1 := topN_lt
  unfold sev
  rw [sevF, if_neg (by omega), sevF_more 9 _ (by omega)]
theorem sevF_len : ∀ (f n : Nat), 1 ≤ (sevF f n).length ∧ (sevF f n).length ≤ f + 1
  | 0, n => by simp [sevF]
  | f + 1, n => by
    rw [sevF]
    have := sevF_len f (n / 128)
    split <;> simp <;> omega
theorem sev_pos (n : Nat) : 1 ≤ (sev n).length := (sevF_len 10 n).1
theorem sev_le {n : Nat} (hn : n < topN) : (sev n).length ≤ 10 := by
  have h := topN_lt
  unfold sev
  rw [sevF_more 9 _ (by omega)]
  exact (sevF_len 9 n).2
theorem sev_lenstep {n : Nat} (hn : n < topN) (h : 128 ≤ n) : (sev n).length = (sev (n / 128)).length + 1 := by
  rw [sev_step hn h]; rfl
theorem div_top {n : Nat} (k : Nat) (hn : n < topN) : n / k < topN := Nat.lt_of_le_of_lt (Nat.div_le_self _ _) hn

/-- The first k sevens, with the highest bits. -/
def ups : Nat → Nat → List UInt8
  | 0, _ => []
  | k + 1, n => ups k n ++ [hi (n / 128 ^ k)]
theorem ups_length : ∀ (k n : Nat), (ups k n).length = k
  | 0, _ => rfl
  | k + 1, n => by simp [ups, ups_length k]
theorem ups_front : ∀ (k n : Nat), ups (k + 1) n = hi n :: ups k (n / 128)
  | 0, n => by simp [ups]
  | k + 1, n => by
    rw [ups, ups_front k n, ups, Nat.div_div_eq_div_mul, ← pow128]; rfl
theorem sev_ups : ∀ (f n : Nat), n < topN → (sev n).length = f + 1 → sev n = ups f n ++ [b8 (n / 128 ^ f)] ∧ n / 128 ^ f < 128
  | 0, n, hn, h => by
    by_cases c : n < 128
    · rw [sev_small c]; simp [ups]; exact c
    · have := sev_lenstep hn (by omega); have := sev_pos (n / 128); omega
  | f + 1, n, hn, h => by
    by_cases c : n < 128
    · rw [sev_small c] at h; simp at h
    · have hl := sev_lenstep hn (by omega)
      obtain ⟨h1, h2⟩ := sev_ups f (n / 128) (div_top _ hn) (by omega)
      rw [sev_step hn (by omega), h1, ups_front, Nat.div_div_eq_div_mul, ← pow128]
      rw [Nat.div_div_eq_div_mul, ← pow128] at h2
      exact ⟨rfl, h2⟩
theorem sev_last {n k : Nat} (hn : n < topN) (h : (sev n).length = k + 1) : sev n = ups k n ++ [b8 (n / 128 ^ k)] := (sev_ups k n hn h).1
theorem ups_hi : ∀ (k n : Nat) (c : UInt8), c ∈ ups k n → 128 ≤ c.toNat
  | 0, _, c, h => by simp [ups] at h
  | k + 1, n, c, h => by
    rw [ups] at h
    rcases List.mem_append.1 h with h | h
    · exact ups_hi k n c h
    · rw [List.mem_singleton.1 h, hi_toNat]; omega

/-- What bytes say in sevens. -/
def lo : List UInt8 → Nat
  | [] => 0
  | c :: t => c.toNat % 128 + 128 * lo t
theorem lo_snoc (l : List UInt8) (c : UInt8) : lo (l ++ [c]) = lo l + c.toNat % 128 * 128 ^ l.length := by
  induction l with
  | nil => simp [lo]
  | cons d t ih =>
    rw [List.cons_append, lo, lo, ih, List.length_cons, pow128]
    rw [Nat.mul_add, Nat.mul_left_comm]; omega
theorem lo_lt (l : List UInt8) : lo l < 128 ^ l.length := by
  induction l with
  | nil => simp [lo]
  | cons d t ih => rw [lo, List.length_cons, pow128]; omega
theorem lo_sev : ∀ (f n : Nat), n < topN → (sev n).length ≤ f → lo (sev n) = n
  | 0, n, _, h => by have := sev_pos n; omega
  | f + 1, n, hn, h => by
    by_cases c : n < 128
    · rw [sev_small c, lo, lo, b8_toNat]; omega
    · have hl := sev_lenstep hn (by omega)
      rw [sev_step hn (by omega), lo, lo_sev f _ (div_top _ hn) (by omega), hi_toNat]; omega

/-! ### Read -/
def isHi (c : UInt8) : Bool := 128 ≤ c.toNat
def rdK (l : List UInt8) : Nat := (l.takeWhile isHi).length
def rdB (l : List UInt8) : Bool := decide (rdK l < l.length) && decide (rdK l ≤ 9) && (sev (lo (l.take (rdK l + 1)) % topN) == l.take (rdK l + 1))
def rdV (l : List UInt8) : Nat := if rdB l = true then lo (l.take (rdK l + 1)) % topN else 0
def rdR (l : List UInt8) : List UInt8 := if rdB l = true then l.drop (rdK l + 1) else []
theorem rdV_lt (l : List UInt8) : rdV l < topN := by
  unfold rdV
  split
  · exact Nat.mod_lt _ (by decide)
  · decide
theorem takeWhile_len {α : Type} (p : α → Bool) : ∀ (l : List α) (k : Nat), (∀ c, c ∈ l.take k → p c = true) → k ≤ l.length → (∀ h : k < l.length, p (l[k]) = false) → (l.takeWhile p).length = k
  | [], k, _, hk, _ => by simp at hk; simp [hk]
  | c :: t, 0, _, _, h => by
    have := h (by simp)
    simp at this
    simp [this]
  | c :: t, k + 1, ha, hk, h => by
    have hc : p c = true := ha c (by simp)
    rw [List.takeWhile_cons, hc]
    simp only [if_true, List.length_cons]
    rw [takeWhile_len p t k (fun d hd => ha d (by simp [hd])) (by simpa using hk) (fun h2 => by have := h (by simpa using h2); simpa using this)]
theorem takeWhile_ge {α : Type} (p : α → Bool) : ∀ (l : List α) (k : Nat), (∀ c, c ∈ l.take k → p c = true) → k ≤ l.length → k ≤ (l.takeWhile p).length
  | _, 0, _, _ => by omega
  | [], k + 1, _, hk => by simp at hk
  | c :: t, k + 1, ha, hk => by
    have hc : p c = true := ha c (by simp)
    rw [List.takeWhile_cons, hc]
    simp only [if_true, List.length_cons]
    have := takeWhile_ge p t k (fun d hd => ha d (by simp [hd])) (by simpa using hk)
    omega
/-- The first byte below 128 stands at place k. -/
theorem rd_at {l : List UInt8} {k : Nat} (ha : ∀ c, c ∈ l.take k → isHi c = true) (hk : k < l.length) (h : isHi l[k] = false) : rdK l = k :=
  takeWhile_len isHi l k ha (by omega) (fun _ => h)
theorem rd_no {l : List UInt8} (h : rdB l = false) : rdV l = 0 ∧ rdR l = [] := by simp [rdV, rdR, h]
theorem rd_none {l : List UInt8} {k : Nat} (ha : ∀ c, c ∈ l.take k → isHi c = true) (hk : k ≤ l.length) (h : l.length ≤ k ∨ 10 ≤ k) : rdB l = false ∧ rdV l = 0 ∧ rdR l = [] := by
  have := takeWhile_ge isHi l k ha hk
  have hb : rdB l = false := by
    unfold rdB rdK
    rcases h with h | h
    · rw [decide_eq_false (show ¬ (List.takeWhile isHi l).length < l.length from by omega)]; rfl
    · rw [decide_eq_false (show ¬ (List.takeWhile isHi l).length ≤ 9 from by omega)]; simp
  exact ⟨hb, rd_no hb⟩
theorem rd_odd {l : List UInt8} {k : Nat} (hr : rdK l = k) (h : sev (lo (l.take (k + 1)) % topN) ≠ l.take (k + 1)) : rdB l = false ∧ rdV l = 0 ∧ rdR l = [] := by
  have hb : rdB l = false := by unfold rdB; rw [hr, show (sev (lo (l.take (k + 1)) % topN) == l.take (k + 1)) = false from by simpa using h]; simp
  exact ⟨hb, rd_no hb⟩
theorem rd_yes {l : List UInt8} {k : Nat} (hr : rdK l = k) (hk : k < l.length) (h9 : k ≤ 9) (h : sev (lo (l.take (k + 1)) % topN) = l.take (k + 1)) : rdB l = true ∧ rdV l = lo (l.take (k + 1)) % topN ∧ rdR l = l.drop (k + 1) := by
  have hb : rdB l = true := by unfold rdB; rw [hr, h]; simp [hk, h9]
  exact ⟨hb, by rw [rdV, if_pos hb, hr], by rw [rdR, if_pos hb, hr]⟩
/-- What is put is read. -/
theorem rd_sev {n : Nat} (hn : n < topN) (b : List UInt8) : rdB (sev n ++ b) = true ∧ rdV (sev n ++ b) = n ∧ rdR (sev n ++ b) = b := by
  obtain ⟨k, hk⟩ : ∃ k, (sev n).length = k + 1 := ⟨(sev n).length - 1, by have := sev_pos n; omega⟩
  have hl := sev_ups k n hn hk
  have hle := sev_le hn
  have hr : rdK (sev n ++ b) = k := by
    refine rd_at ?_ (show k < (sev n ++ b).length from by rw [List.length_append]; omega) ?_
    · intro c hc
      rw [hl.1, List.append_assoc, List.take_append_of_le_length (by rw [ups_length]; omega), List.take_of_length_le (by rw [ups_length]; omega)] at hc
      simpa [isHi] using ups_hi k n c hc
    · have : (sev n ++ b)[k]? = some (b8 (n / 128 ^ k)) := by
        rw [hl.1, List.append_assoc, List.getElem?_append_right (by rw [ups_length]; omega), ups_length]; simp
      obtain ⟨h1, h2⟩ := List.getElem?_eq_some_iff.1 this
      have e2 : (sev n ++ b)[k]'h1 = b8 (n / 128 ^ k) := h2
      refine (congrArg isHi e2).trans ?_
      have h128 := hl.2
      show decide (128 ≤ (b8 (n / 128 ^ k)).toNat) = false
      rw [b8_toNat, Nat.mod_eq_of_lt (Nat.lt_of_lt_of_le h128 (by decide))]
      exact decide_eq_false (Nat.not_le.2 h128)
  have ht : (sev n ++ b).take (k + 1) = sev n := by rw [← hk]; simp
  have hd : (sev n ++ b).drop (k + 1) = b := by rw [← hk]; simp
  have hlo : lo (sev n) % topN = n := by rw [lo_sev _ n hn (Nat.le_refl _), Nat.mod_eq_of_lt hn]
  have := rd_yes (l := sev n ++ b) hr (by rw [List.length_append]; omega) (by omega) (by rw [ht, hlo])
  rw [ht, hd, hlo] at this
  exact this
/-- What is cut off is not read. -/
theorem rd_cut {n : Nat} (hn : n < topN) {k : Nat} (hk : k < (sev n).length) : rdB ((sev n).take k) = false ∧ rdV ((sev n).take k) = 0 ∧ rdR ((sev n).take k) = [] := by
  obtain ⟨j, hj⟩ : ∃ j, (sev n).length = j + 1 := ⟨(sev n).length - 1, by have := sev_pos n; omega⟩
  refine rd_none (k := k) ?_ (by rw [List.length_take]; omega) (Or.inl (List.length_take_le _ _))
  intro c hc
  have hc2 : c ∈ ups j n := by
    rw [List.take_take, Nat.min_self, (sev_ups j n hn hj).1, List.take_append_of_le_length (by rw [ups_length]; omega)] at hc
    exact List.mem_of_mem_take hc
  simpa [isHi] using ups_hi j n c hc2
/-- What is read is put. -/
theorem rd_back {l : List UInt8} (h : rdB l = true) : sev (rdV l) ++ rdR l = l := by
  have h' := h
  simp only [rdB, Bool.and_eq_true, beq_iff_eq, decide_eq_true_eq] at h'
  rw [rdV, if_pos h, rdR, if_pos h, h'.2]; simp

/-! ### Cut -/
def ctB (l : List UInt8) : Bool := rdB l && decide (rdV l ≤ (rdR l).length)
def ctT (l : List UInt8) : List UInt8 := if ctB l = true then (rdR l).take (rdV l) else []
def ctR (l : List UInt8) : List UInt8 := if ctB l = true then (rdR l).drop (rdV l) else []
def text (l : List UInt8) : List UInt8 := sev l.length ++ l
theorem ct_no {l : List UInt8} (h : ctB l = false) : ctT l = [] ∧ ctR l = [] := by simp [ctT, ctR, h]
theorem ct_yes {l : List UInt8} (h : ctB l = true) : rdB l = true ∧ rdV l ≤ (rdR l).length ∧ ctT l = (rdR l).take (rdV l) ∧ ctR l = (rdR l).drop (rdV l) := by
  have h' := h
  simp only [ctB, Bool.and_eq_true, decide_eq_true_eq] at h'
  exact ⟨h'.1, h'.2, by rw [ctT, if_pos h], by rw [ctR, if_pos h]⟩
theorem ct_text {l : List UInt8} (hn : l.length < topN) (b : List UInt8) : ctB (text l ++ b) = true ∧ ctT (text l ++ b) = l ∧ ctR (text l ++ b) = b := by
  have hr := rd_sev hn (l ++ b)
  have e : text l ++ b = sev l.length ++ (l ++ b) := by rw [text, List.append_assoc]
  rw [e]
  have hb : ctB (sev l.length ++ (l ++ b)) = true := by unfold ctB; rw [hr.1, hr.2.1, hr.2.2]; simp
  have := ct_yes hb
  rw [hr.2.1, hr.2.2] at this
  exact ⟨hb, by rw [this.2.2.1]; simp, by rw [this.2.2.2]; simp⟩
theorem ct_cut {l : List UInt8} (hn : l.length < topN) : ctB ((text l).take ((text l).length - 1)) = false := by
  by_cases h0 : l.length = 0
  · obtain rfl : l = [] := List.length_eq_zero_iff.1 h0
    have := rd_cut (n := 0) (by decide) (k := (sev 0).length - 1) (by decide)
    unfold ctB
    rw [show (text []).take ((text []).length - 1) = (sev 0).take ((sev 0).length - 1) from by simp [text], this.1]; rfl
  · have e : (text l).take ((text l).length - 1) = sev l.length ++ l.take (l.length - 1) := by
      rw [text, List.length_append, show (sev l.length).length + l.length - 1 = (sev l.length).length + (l.length - 1) from by omega, List.take_length_add_append]
    have hr := rd_sev hn (l.take (l.length - 1))
    rw [e]
    unfold ctB
    rw [hr.1, hr.2.1, hr.2.2, List.length_take]
    simp; omega
theorem ct_back {l : List UInt8} (h : ctB l = true) : text (ctT l) ++ ctR l = l := by
  obtain ⟨h1, h2, h3, h4⟩ := ct_yes h
  have hb := rd_back h1
  rw [text, h3, h4, List.append_assoc, List.take_append_drop, List.length_take, Nat.min_eq_left h2]; exact hb

/-! ### Signs -/
def sgn (n : Int) : Nat := if n < 0 then (2 * (-1 - n) + 1).toNat else (2 * n).toNat
def bck (n : Nat) : Int := if n % 2 = 1 then -1 - ((n / 2 : Nat) : Int) else ((n / 2 : Nat) : Int)
theorem sgn_lt {n : Int} (h : I64 n) : sgn n < topN := by
  unfold I64 top at h; unfold sgn topN; split <;> omega
theorem bck_i64 {n : Nat} (h : n < topN) : I64 (bck n) := by
  unfold topN at h; unfold I64 top bck; split <;> omega
theorem bck_sgn (n : Int) : bck (sgn n) = n := by unfold bck sgn; split <;> split <;> omega
theorem sgn_bck (n : Nat) : sgn (bck n) = n := by unfold bck sgn; split <;> split <;> omega
end Go.Proofs.YtkffpmeocfhcpaaDoor.Bit
