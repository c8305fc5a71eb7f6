
/- Plain facts on the sum of bytes (CRC-32C): nothing of the program is read here. The contracts of sums.goesInto, Sum. The contracts of sums.tail, Seal, Open. -/
import Derived.Test.YtlaepdpgegoopaaGreatBitsMath
import Derived.Laws.BitsAllLaws
import Derived.Deep.Cut
import Derived.Test.YtlaepdpgegoopaaGreatBitsPutC
import Derived.Deep.RegionWith
import Derived.Deep.QuietTactic
import Derived.BigQuiet
set_option linter.unusedVariables false
namespace Go.Proofs.YtlaepdpgegoopaaGreat.Crc
open Bit

/-- What the state is put against, and the state ahead of all bytes; behind names. -/
def poly : Nat := 2197175160
def ones : Nat := 4294967295
def two32 : Nat := 4294967296
theorem two32_pow : two32 = 2 ^ 32 := rfl

/-- One step: the state is moved down by a bit, and put against the divisor if the bit that went was 1. -/
def stp (x : Nat) : Nat := x / 2 ^^^ (if x % 2 = 1 then poly else 0)
def steps : Nat → Nat → Nat
  | 0, x => x
  | k + 1, x => stp (steps k x)
theorem steps_add : ∀ (j k x : Nat), steps (j + k) x = steps j (steps k x)
  | 0, k, x => by rw [Nat.zero_add]; rfl
  | j + 1, k, x => by rw [show j + 1 + k = (j + k) + 1 from by omega, steps, steps_add j k x]; rfl
/-- A byte goes into a state. -/
def into (s b : Nat) : Nat := steps 8 (s ^^^ b)
def st (s : Nat) (l : List UInt8) : Nat := l.foldl (fun s c => into s c.toNat) s
theorem st_nil (s : Nat) : st s [] = s := rfl
theorem st_cons (s : Nat) (c : UInt8) (l : List UInt8) : st s (c :: l) = st (into s c.toNat) l := rfl
theorem st_snoc (s : Nat) (l : List UInt8) (c : UInt8) : st s (l ++ [c]) = into (st s l) c.toNat := by simp [st]
theorem st_append (s : Nat) (a b : List UInt8) : st s (a ++ b) = st (st s a) b := by simp [st]

theorem odd_xor (x y : Nat) : (x ^^^ y) % 2 = (x % 2 + y % 2) % 2 := by
  have h : ((x ^^^ y) % 2 ^ 1) = _ := Nat.xor_mod_two_pow (a := x) (b := y) (n := 1)
  rw [Nat.pow_one] at h
  rw [h]
  rcases Nat.mod_two_eq_zero_or_one x with a | a <;> rcases Nat.mod_two_eq_zero_or_one y with b | b <;> rw [a, b] <;> rfl
theorem half_xor (x y : Nat) : (x ^^^ y) / 2 = x / 2 ^^^ y / 2 := by
  have h := Nat.xor_div_two_pow (a := x) (b := y) (n := 1)
  rwa [Nat.pow_one] at h
theorem xor4 (a b c d : Nat) : (a ^^^ b) ^^^ (c ^^^ d) = (a ^^^ c) ^^^ (b ^^^ d) := by
  rw [Nat.xor_assoc, Nat.xor_assoc, ← Nat.xor_assoc b c d, Nat.xor_comm b c, Nat.xor_assoc c b d]
theorem stp_xor (x y : Nat) : stp (x ^^^ y) = stp x ^^^ stp y := by
  unfold stp
  rw [half_xor, odd_xor, xor4]
  congr 1
  rcases Nat.mod_two_eq_zero_or_one x with a | a <;> rcases Nat.mod_two_eq_zero_or_one y with b | b <;> rw [a, b] <;> simp
theorem steps_xor : ∀ (k x y : Nat), steps k (x ^^^ y) = steps k x ^^^ steps k y
  | 0, _, _ => rfl
  | k + 1, x, y => by rw [steps, steps, steps, steps_xor k, stp_xor]
theorem stp_two (v : Nat) : stp (2 * v) = v := by
  unfold stp
  rw [if_neg (by omega), Nat.mul_div_cancel_left _ (by omega)]; simp
theorem steps_up : ∀ (k v : Nat), steps k (2 ^ k * v) = v
  | 0, v => by simp [steps]
  | k + 1, v => by
    rw [show k + 1 = 1 + k from by omega, steps_add, Nat.pow_add, Nat.pow_one, Nat.mul_assoc, Nat.mul_left_comm, steps_up k]
    exact stp_two v
theorem steps_feed (y v : Nat) : steps 8 (y ^^^ 256 * v) = steps 8 y ^^^ v := by
  rw [steps_xor, show 256 * v = 2 ^ 8 * v from rfl, steps_up 8 v]

theorem poly_lt : poly < 2 ^ 32 := by decide
theorem stp_lt {x : Nat} (h : x < two32) : stp x < two32 := by
  unfold stp
  refine Nat.xor_lt_two_pow (n := 32) (by unfold two32 at h; omega) ?_
  split <;> decide
theorem steps_lt : ∀ (k : Nat) {x : Nat}, x < two32 → steps k x < two32
  | 0, _, h => h
  | k + 1, _, h => stp_lt (steps_lt k h)
theorem into_lt {s b : Nat} (h : s < two32) (hb : b < 256) : into s b < two32 :=
  steps_lt 8 (Nat.xor_lt_two_pow (n := 32) h (by omega))
theorem st_lt : ∀ (l : List UInt8) {s : Nat}, s < two32 → st s l < two32
  | [], _, h => h
  | c :: l, _, h => st_lt l (into_lt h (u8_lt c))
theorem xor_inj {a b c : Nat} (h : a ^^^ c = b ^^^ c) : a = b := by
  have g := congrArg (· ^^^ c) h
  simp only [Nat.xor_assoc, Nat.xor_self, Nat.xor_zero] at g
  exact g
theorem stp_top {x : Nat} (h : x < two32) : (stp x).testBit 31 = decide (x % 2 = 1) := by
  unfold stp
  rw [Nat.testBit_xor, Nat.testBit_lt_two_pow (x := x / 2) (i := 31) (by unfold two32 at h; omega)]
  split <;> rename_i g
  · rw [decide_eq_true g]; decide
  · rw [decide_eq_false g]; decide
theorem stp_inj {x y : Nat} (hx : x < two32) (hy : y < two32) (h : stp x = stp y) : x = y := by
  have hb : decide (x % 2 = 1) = decide (y % 2 = 1) := by rw [← stp_top hx, ← stp_top hy, h]
  unfold stp at h
  by_cases a : x % 2 = 1
  · have b : y % 2 = 1 := by rw [decide_eq_true a] at hb; exact of_decide_eq_true hb.symm
    rw [if_pos a, if_pos b] at h
    have := xor_inj h
    omega
  · have b : ¬ y % 2 = 1 := by rw [decide_eq_false a] at hb; exact of_decide_eq_false hb.symm
    rw [if_neg a, if_neg b] at h
    simp at h
    omega
theorem steps_inj : ∀ (k : Nat) {x y : Nat}, x < two32 → y < two32 → steps k x = steps k y → x = y
  | 0, _, _, _, _, h => h
  | k + 1, _, _, hx, hy, h => steps_inj k hx hy (stp_inj (steps_lt k hx) (steps_lt k hy) h)
theorem st_inj : ∀ (l : List UInt8) {s t : Nat}, s < two32 → t < two32 → st s l = st t l → s = t
  | [], _, _, _, _, h => h
  | c :: l, s, t, hs, ht, h => by
    have h1 := st_inj l (into_lt hs (u8_lt c)) (into_lt ht (u8_lt c)) h
    exact xor_inj (steps_inj 8 (Nat.xor_lt_two_pow (n := 32) hs (by have := u8_lt c; omega)) (Nat.xor_lt_two_pow (n := 32) ht (by have := u8_lt c; omega)) h1)

/-- The number of bytes, the lowest first. -/
def leN : List UInt8 → Nat
  | [] => 0
  | c :: l => c.toNat ^^^ 256 * leN l
theorem low_xor {b : Nat} (hb : b < 256) (v : Nat) : b ^^^ 256 * v = 256 * v + b := by
  have h := Nat.two_pow_add_eq_or_of_lt (i := 8) (b := b) hb v
  rw [show 256 * v + b = 2 ^ 8 * v + b from rfl, h]
  apply Nat.eq_of_testBit_eq
  intro i
  rw [Nat.testBit_xor, Nat.testBit_or]
  by_cases hi : i < 8
  · have e2 : (2 ^ 8 * v).testBit i = false := by
      rw [Nat.testBit_two_pow_mul]; simp; omega
    have e1 : (256 * v).testBit i = false := e2
    rw [e2]; simp
  · have hp : 2 ^ 8 ≤ 2 ^ i := Nat.pow_le_pow_right (by omega) (by omega)
    have : b.testBit i = false := Nat.testBit_lt_two_pow (by omega)
    rw [this]; simp
theorem leN_cons (c : UInt8) (l : List UInt8) : leN (c :: l) = 256 * leN l + c.toNat := low_xor (u8_lt c) _
theorem leN_lt : ∀ (l : List UInt8), leN l < 256 ^ l.length
  | [] => by simp [leN]
  | c :: l => by
    have := leN_lt l
    have := u8_lt c
    rw [leN_cons, List.length_cons, Nat.pow_succ]; omega
theorem leN_inj : ∀ (a b : List UInt8), a.length = b.length → leN a = leN b → a = b
  | [], [], _, _ => rfl
  | [], _ :: _, h, _ => by simp at h
  | _ :: _, [], h, _ => by simp at h
  | c :: a, d :: b, h, g => by
    rw [leN_cons, leN_cons] at g
    have h1 := u8_lt c
    have h2 := u8_lt d
    rw [leN_inj a b (by simpa using h) (by omega), u8_eq (show c.toNat = d.toNat by omega)]
theorem st_le : ∀ (e : List UInt8) (s : Nat), st s e = steps (8 * e.length) (s ^^^ leN e)
  | [], s => by simp [st, leN, steps]
  | c :: e, s => by
    rw [st_cons, st_le e, List.length_cons, show 8 * (e.length + 1) = 8 * e.length + 8 from by omega, steps_add]
    congr 1
    rw [leN, ← Nat.xor_assoc, steps_feed]; rfl
theorem pow4 {k : Nat} (h : k ≤ 4) : 256 ^ k ≤ 2 ^ 32 := Nat.le_trans (Nat.pow_le_pow_right (by omega) h) (by decide)
/-- Texts that differ within four bytes, side by side, lead to unlike states. -/
theorem st_win {s : Nat} (hs : s < two32) (a e f b : List UInt8) (hl : e.length = f.length) (h4 : e.length ≤ 4) (h : st s (a ++ (e ++ b)) = st s (a ++ (f ++ b))) : e = f := by
  rw [st_append, st_append, st_append, st_append] at h
  have ha := st_lt a hs
  have h1 := st_inj b (st_lt e ha) (st_lt f ha) h
  rw [st_le e, st_le f, ← hl] at h1
  have l1 := leN_lt e
  have l2 := leN_lt f
  have p := pow4 h4
  rw [← hl] at l2
  have h2 := steps_inj _ (Nat.xor_lt_two_pow (n := 32) ha (by omega)) (Nat.xor_lt_two_pow (n := 32) ha (by omega)) h1
  exact leN_inj e f hl (xor_inj (by rw [Nat.xor_comm _ (st s a), Nat.xor_comm _ (st s a)]; exact h2))

/-! ### Sums, and texts that are sealed -/
def sumN (l : List UInt8) : Nat := ones - st ones l
theorem ones_lt : ones < two32 := by decide
theorem sumN_lt (l : List UInt8) : sumN l < two32 := by unfold sumN ones two32; omega
theorem sumN_inj {a b : List UInt8} (h : sumN a = sumN b) : st ones a = st ones b := by
  have h1 := st_lt a ones_lt
  have h2 := st_lt b ones_lt
  unfold sumN at h
  have : two32 = ones + 1 := rfl
  omega
/-- Four bytes of a number, the lowest one first. -/
def le4 (n : Nat) : List UInt8 := [b8 n, b8 (n / 256), b8 (n / 65536), b8 (n / 16777216)]
theorem leN_le4 {n : Nat} (h : n < two32) : leN (le4 n) = n := by
  unfold le4
  rw [leN_cons, leN_cons, leN_cons, leN_cons, b8_toNat, b8_toNat, b8_toNat, b8_toNat]
  unfold two32 at h
  simp only [leN]
  omega
theorem le4_inj {n m : Nat} (h1 : n < two32) (h2 : m < two32) (h : le4 n = le4 m) : n = m := by rw [← leN_le4 h1, ← leN_le4 h2, h]
def sealL (l : List UInt8) : List UInt8 := l ++ le4 (sumN l)
theorem sealL_len (l : List UInt8) : (sealL l).length = l.length + 4 := by simp [sealL, le4]
def frontL (l : List UInt8) : List UInt8 := l.take (l.length - 4)
def opB (l : List UInt8) : Bool := decide (4 ≤ l.length) && (sealL (frontL l) == l)
def opT (l : List UInt8) : List UInt8 := if opB l = true then frontL l else []
theorem ones_xor {x : Nat} (h : x < two32) : x ^^^ (ones - x) = ones := by
  have e : ones - x = x ^^^ ones := by
    have h1 : ones = 2 ^ 32 - 1 := rfl
    rw [h1]
    apply Nat.eq_of_testBit_eq
    intro i
    rw [Nat.testBit_xor, Nat.testBit_two_pow_sub_one, show 2 ^ 32 - 1 - x = 2 ^ 32 - (x + 1) from by omega, Nat.testBit_two_pow_sub_succ h]
    by_cases hi : i < 32
    · simp [hi]
    · have hp : 2 ^ 32 ≤ 2 ^ i := Nat.pow_le_pow_right (by omega) (by omega)
      have : x.testBit i = false := Nat.testBit_lt_two_pow (by unfold two32 at h; omega)
      simp [hi, this]
  rw [e, ← Nat.xor_assoc, Nat.xor_self, Nat.zero_xor]
theorem st_seal (l : List UInt8) : st ones (sealL l) = steps 32 ones := by
  rw [sealL, st_append, st_le, leN_le4 (sumN_lt l), sumN, ones_xor (st_lt l ones_lt)]; rfl
theorem op_is {l : List UInt8} (h : opB l = true) : sealL (frontL l) = l := by
  unfold opB at h
  simp at h
  exact h.2
theorem op_st {l : List UInt8} (h : opB l = true) : st ones l = steps 32 ones := by
  have := st_seal (frontL l)
  rwa [op_is h] at this
theorem front_seal (l : List UInt8) : frontL (sealL l) = l := by
  unfold frontL
  rw [sealL_len, show l.length + 4 - 4 = l.length from by omega, sealL]; simp
theorem op_seal (l : List UInt8) : opB (sealL l) = true ∧ opT (sealL l) = l := by
  have h : opB (sealL l) = true := by unfold opB; rw [front_seal, sealL_len]; simp
  exact ⟨h, by rw [opT, if_pos h, front_seal]⟩
theorem op_no {l : List UInt8} (h : opB l = false) : opT l = [] := by simp [opT, h]
theorem op_yes {l : List UInt8} (h : opB l = true) : opT l = frontL l := by simp [opT, h]

/-! ### Bits that are turned over -/
def bend : List UInt8 → Nat → List UInt8
  | [], _ => []
  | c :: l, n => if n = 0 then c :: l else (c ^^^ b8 n) :: bend l (n / 256)
def bentL (l : List UInt8) (at' n : Nat) : List UInt8 := l.take at' ++ bend (l.drop at') n
theorem bend_zero (l : List UInt8) : bend l 0 = l := by cases l <;> simp [bend]
theorem bend_len : ∀ (l : List UInt8) (n : Nat), (bend l n).length = l.length
  | [], _ => rfl
  | c :: l, n => by
    rw [bend]; split
    · rfl
    · simp [bend_len l]
theorem bend_win : ∀ (k : Nat) (l : List UInt8) (n : Nat), n < 256 ^ k → ∃ e f b, l = e ++ b ∧ bend l n = f ++ b ∧ e.length = f.length ∧ e.length ≤ k
  | 0, l, n, h => ⟨[], [], l, rfl, by simp at h; subst h; exact bend_zero l, rfl, by simp⟩
  | k + 1, [], n, h => ⟨[], [], [], rfl, rfl, rfl, by simp⟩
  | k + 1, c :: l, n, h => by
    rw [bend]
    by_cases hn : n = 0
    · rw [if_pos hn]; exact ⟨[], [], c :: l, rfl, rfl, rfl, by simp⟩
    · rw [if_neg hn]
      obtain ⟨e, f, b, h1, h2, h3, h4⟩ := bend_win k l (n / 256) (by rw [Nat.pow_succ] at h; omega)
      exact ⟨c :: e, (c ^^^ b8 n) :: f, b, by rw [h1]; rfl, by rw [h2]; rfl, by simp [h3], by simp; omega⟩
theorem bentL_len (l : List UInt8) (k n : Nat) : (bentL l k n).length = l.length := by
  rw [bentL, List.length_append, bend_len, ← List.length_append, List.take_append_drop]
/-- A text some bits of which are turned over, within four bytes side by side, leads to another state. -/
theorem bent_st {l : List UInt8} {k n : Nat} (hn : n < two32) (h : st ones (bentL l k n) = st ones l) : bentL l k n = l := by
  obtain ⟨e, f, b, h1, h2, h3, h4⟩ := bend_win 4 (l.drop k) n hn
  have hl : l = l.take k ++ (e ++ b) := by rw [← h1, List.take_append_drop]
  unfold bentL at h ⊢
  rw [h2] at h ⊢
  have h' : st ones (List.take k l ++ (f ++ b)) = st ones (List.take k l ++ (e ++ b)) := by rw [h, ← hl]
  have := st_win ones_lt _ f e b h3.symm (by omega) h'
  rw [this, ← hl]
theorem bent_sum {l : List UInt8} {k n : Nat} (hn : n < two32) (h : bentL l k n ≠ l) : sumN (bentL l k n) ≠ sumN l :=
  fun g => h (bent_st hn (sumN_inj g))
theorem bent_seal {l : List UInt8} {k n : Nat} (hn : n < two32) (h : bentL (sealL l) k n ≠ sealL l) : opB (bentL (sealL l) k n) = false := by
  cases g : opB (bentL (sealL l) k n)
  · rfl
  · exact absurd (bent_st hn (by rw [op_st g, st_seal])) h

/-! ### Texts against each other -/
def both : List UInt8 → List UInt8 → List UInt8 := List.zipWith (· ^^^ ·)
theorem into_xor (s t b c : Nat) : into (s ^^^ t) (b ^^^ c) = into s b ^^^ into t c := by
  unfold into; rw [xor4, steps_xor]
theorem st_both : ∀ (x y : List UInt8) (s t : Nat), x.length = y.length → st (s ^^^ t) (both x y) = st s x ^^^ st t y
  | [], [], _, _, _ => rfl
  | [], _ :: _, _, _, h => by simp at h
  | _ :: _, [], _, _, h => by simp at h
  | c :: x, d :: y, s, t, h => by
    show st (s ^^^ t) ((c ^^^ d) :: both x y) = _
    rw [st_cons, st_cons, st_cons, UInt8.toNat_xor, into_xor, st_both x y _ _ (by simpa using h)]
theorem not_xor {x : Nat} (h : x < two32) : ones - x = x ^^^ ones := by
  have := ones_xor h
  rw [Nat.xor_comm] at this
  have h2 : (ones - x) ^^^ x ^^^ x = ones ^^^ x := by rw [this]
  rw [Nat.xor_assoc, Nat.xor_self, Nat.xor_zero] at h2
  rw [h2, Nat.xor_comm]
theorem both_zero : ∀ (l : List UInt8), both l (List.replicate l.length 0) = l
  | [] => rfl
  | c :: l => by
    show (c ^^^ 0) :: both l (List.replicate l.length 0) = c :: l
    rw [both_zero l]; simp
theorem both_len {x y : List UInt8} (h : x.length = y.length) : (both x y).length = x.length := by simp [both, h]
theorem sum_against (x y : List UInt8) (h : x.length = y.length) : sumN (both x y) ^^^ sumN (List.replicate x.length 0) = sumN x ^^^ sumN y := by
  have c : ∀ a b : List UInt8, sumN a ^^^ sumN b = st ones a ^^^ st ones b := by
    intro a b
    unfold sumN
    rw [not_xor (st_lt a ones_lt), not_xor (st_lt b ones_lt), xor4, Nat.xor_self, Nat.xor_zero]
  rw [c, c]
  have h1 := st_both x y ones ones h
  have h2 := st_both (both x y) (List.replicate x.length 0) ones ones (by simp [both_len h])
  rw [show List.replicate x.length (0 : UInt8) = List.replicate (both x y).length 0 from by rw [both_len h], both_zero, both_len h] at h2
  rw [← h1, ← h2]

/-! ### Two bytes that change places -/
theorem swap_win {l : List UInt8} {i g : Nat} (hg : g ≤ 3) (hl : i + g < l.length) (m : List UInt8) (hm : m.length = l.length) (h1 : m.take i = l.take i) (h2 : m.drop (i + g + 1) = l.drop (i + g + 1)) (h : sumN m = sumN l) : m = l := by
  have cut : ∀ x : List UInt8, x = x.take i ++ ((x.drop i).take (g + 1) ++ x.drop (i + g + 1)) := by
    intro x
    rw [show i + g + 1 = i + (g + 1) from by omega, ← List.drop_drop, List.take_append_drop, List.take_append_drop]
  have hs := sumN_inj h
  rw [cut m, cut l, h1, h2] at hs
  have := st_win ones_lt _ _ _ _ (by simp [hm]) (by simp; omega) hs
  rw [cut m, cut l, h1, h2, this]
end Go.Proofs.YtlaepdpgegoopaaGreat.Crc
namespace Go.Proofs.YtlaepdpgegoopaaGreat
open Go.ChangeShapes Go.WideShapes Go.ChangeAt Go.RowKit Bit Crc

theorem x32 {a b : Nat} (ha : a < two32) (hb : b < two32) : bits .xor .u32 (a : Int) (b : Int) = ((a ^^^ b : Nat) : Int) := u32_xor_nat a b ha hb
theorem x_lt {a b : Nat} (ha : a < two32) (hb : b < two32) : a ^^^ b < two32 := Nat.xor_lt_two_pow (n := 32) ha hb
theorem b_lt {b : Nat} (hb : b < 256) : b < two32 := by unfold two32; omega
theorem stp_odd {x : Nat} (h : x % 2 = 1) : stp x = x / 2 ^^^ poly := by unfold stp; rw [if_pos h]
theorem stp_even {x : Nat} (h : x % 2 = 0) : stp x = x / 2 := by unfold stp; rw [if_neg (by omega)]; simp

theorem and1 {x : Nat} (h : x < two32) : bits .and .u32 (x : Int) 1 = ((x % 2 : Nat) : Int) := by
  rw [show (1 : Int) = ((1 : Nat) : Int) from rfl, u32_and_nat x 1 h (by decide), Nat.and_one_is_mod]
theorem poly_int : (2197175160 : Int) = ((poly : Nat) : Int) := rfl
theorem xpoly {x : Nat} (h : x < two32) : bits .xor .u32 ((x : Int) / 2) 2197175160 = ((x / 2 ^^^ poly : Nat) : Int) := by
  rw [poly_int, show (x : Int) / 2 = ((x / 2 : Nat) : Int) from by omega, x32 (by unfold two32 at *; omega) poly_lt]
def GoesRel (Y : Nat) (x i : Value) : Prop := ∃ k X : Nat, k ≤ 8 ∧ i = .int .i64 k ∧ x = .int .u32 X ∧ X < two32 ∧ X = steps k Y

set_option maxRecDepth 100000 in
set_option maxHeartbeats 400000 in
theorem goes_any (S B : Nat) (w : World) (hS : S < two32) (hB : B < 256) :
    Calls Tryz.prog 106 #[.int .u32 S, .int .u8 B] w fun e w' => e = .returned (.int .u32 (into S B : Nat)) ∧ w = w' := by
  have HX := Lib.hid (x32 hS (b_lt hB))
  have HL := Lib.hid (x_lt hS (b_lt hB))
  have hw : IntKind.u32.wrap (B : Int) = B := by rw [IntKind.wrap_u32']; omega
  clear hS hB
  go_enter Tryz.func106, Tryz.ntmps106
  go_wp2
  clear hw
  go_loop [0, 10] (fun x i => GoesRel (S ^^^ B) x i) (fun _ i => 8 - (intOf i).toNat)
  case atStart => exact ⟨0, S ^^^ B, by omega, rfl, vint HX.out, HL.out, rfl⟩
  case round =>
    obtain ⟨k, X, hk, rfl, rfl, hX, hs⟩ := hrel
    have HT := Lib.hid hs
    have HXL := Lib.hid hX
    clear hs hX
    by_cases hlt : k < 8
    · rcases (show X % 2 = 1 ∨ X % 2 = 0 from by omega) with hp | hp
      · have hp2 : (bits .and .u32 (X : Int) 1 == 1) = true := by rw [and1 HXL.out, hp]; rfl
        have HP := Lib.hid hp
        clear hp
        go_wp2
        go_round
        case rel =>
          refine ⟨k + 1, stp X, by omega, by go_num, vint ?_, stp_lt HXL.out, by rw [HT.out]; rfl⟩
          rw [stp_odd HP.out, xpoly HXL.out]
        case measure => simp [intOf]; omega
      · have hp2 : (bits .and .u32 (X : Int) 1 == 1) = false := by rw [and1 HXL.out, hp]; rfl
        have HP := Lib.hid hp
        clear hp
        go_wp2
        go_round
        case rel =>
          refine ⟨k + 1, stp X, by omega, by go_num, vint ?_, stp_lt HXL.out, by rw [HT.out]; rfl⟩
          rw [stp_even HP.out]
          omega
        case measure => simp [intOf]; omega
    · obtain rfl : k = 8 := by omega
      go_wp2
      go_ret
      exact ⟨ret_int (by rw [HT.out]; rfl), rfl⟩

theorem take_more (s : ByteArray) (k : Nat) (h : k < s.size) : s.data.toList.take (k + 1) = s.data.toList.take k ++ [s[k]] := by
  rw [List.take_succ_eq_append_getElem (by simpa using h)]; rfl
theorem flip32 {x : Nat} (h : x < two32) : bits .xor .u32 IntKind.u32.max (x : Int) = ((ones - x : Nat) : Int) := by
  rw [show IntKind.u32.max = ((ones : Nat) : Int) from rfl, x32 ones_lt h, not_xor h, Nat.xor_comm]
def SumRel (l : List UInt8) (n : Nat) (x i : Value) : Prop := ∃ k X : Nat, k ≤ n ∧ i = .int .i64 k ∧ x = .int .u32 X ∧ X < two32 ∧ X = st ones (l.take k)

set_option maxRecDepth 100000 in
set_option maxHeartbeats 400000 in
theorem sum_any (s : ByteArray) (w : World) (hs : s.size ≤ maxLen) :
    Calls Tryz.prog 92 #[.string s] w fun e w' => e = .returned (.int .u32 (sumN s.data.toList : Nat)) ∧ w = w' := by
  unfold maxLen at hs
  go_enter Tryz.func92, Tryz.ntmps92
  go_wp2
  go_loop [3, 7] (fun x i => SumRel s.data.toList s.size x i) (fun _ i => s.size - (intOf i).toNat)
  case atStart => exact ⟨0, ones, Nat.zero_le _, rfl, rfl, ones_lt, rfl⟩
  case round =>
    obtain ⟨k, X, hk, rfl, rfl, hX, hx⟩ := hrel
    have HX := Lib.hid hX
    have HT := Lib.hid hx
    clear hX hx
    by_cases hlt : k < s.size
    · have HM := Lib.hid (take_more s k hlt)
      have HL := Lib.hid (u8_lt s[k])
      go_wp2_with (go_at_call 106; refine (goes_any _ _ _ HX.out HL.out).mono ?_; rintro e w' ⟨rfl, rfl⟩)
      go_round
      case rel => exact ⟨k + 1, _, by omega, by go_num, rfl, into_lt HX.out HL.out, by rw [HM.out, st_snoc, HT.out]⟩
      case measure => simp [intOf]; omega
    · have HE := Lib.hid (show s.data.toList.take k = s.data.toList from List.take_of_length_le (by rw [len_data]; omega))
      go_wp2
      go_ret
      refine ⟨ret_int ?_, rfl⟩
      rw [flip32 HX.out, sumN, HT.out, HE.out]
end Go.Proofs.YtlaepdpgegoopaaGreat
namespace Go.Proofs.YtlaepdpgegoopaaGreat
open Go.ChangeShapes Go.WideShapes Go.ChangeAt Go.RowKit Bit Crc

/-- A byte, put. -/
theorem put1_any (n : Int) (N : Nat) (w : World) (h : n = (N : Int)) (hN : N < topN) :
    Calls Tryz.prog 68 #[.int .u64 n, .int .i64 1] w fun e w' => e = .returned (.string ⟨#[b8 N]⟩) ∧ Keeps w w' := by
  rw [h]
  refine (put_any N 1 w hN).mono ?_
  rintro e w' ⟨rfl, hk⟩
  exact ⟨ret_str rfl, hk⟩

theorem u64_small {m : Int} {n : Nat} (h : m = n) (hn : n < 4294967296) : IntKind.u64.wrap m = (n : Int) := by
  rw [h]; exact u64w (by omega) (by unfold topN; omega)
def TailRel (w : World) (n : Nat) (p i : Value) (wr : World) : Prop := ∃ k : Nat, k ≤ 4 ∧ i = .int .i64 k ∧ p = .string ⟨((le4 n).take k).toArray⟩ ∧ Keeps w wr

set_option maxRecDepth 100000 in
set_option maxHeartbeats 400000 in
theorem tail_any (s : ByteArray) (w : World) (hs : s.size ≤ maxLen) :
    Calls Tryz.prog 86 #[.string s] w fun e w' => e = .returned (.string ⟨(le4 (sumN s.data.toList)).toArray⟩) ∧ Keeps w w' := by
  have S := Lib.hid hs
  obtain ⟨n, hn⟩ : ∃ n, n = sumN s.data.toList := ⟨_, rfl⟩
  have HL := Lib.hid (show n < two32 by rw [hn]; exact sumN_lt _)
  have HN := Lib.hid hn.symm
  rw [← hn]
  clear hs hn
  go_enter Tryz.func86, Tryz.ntmps86
  go_wp2_with (go_at_call 92; refine (sum_any _ _ S.out).mono ?_; rw [HN.out]; rintro e w' ⟨rfl, rfl⟩)
  go_loopw [4, 8] (fun p i wr => TailRel w n p i wr) (fun _ i _ => 4 - (intOf i).toNat)
  case atStart => exact ⟨0, by omega, rfl, rfl, Keeps.refl _⟩
  case round =>
    obtain ⟨k, hk, rfl, rfl, hw⟩ := hrel
    have HW := Lib.hid hw
    clear hw
    rcases (show k = 0 ∨ k = 1 ∨ k = 2 ∨ k = 3 ∨ k = 4 from by omega) with rfl | rfl | rfl | rfl | rfl
    · have H := Lib.hid (u64_small (m := ((n : Int))) (n := n) (by omega) (by have := HL.out; unfold two32 at this; omega))
      have G := Lib.hid (show n < topN from by have := HL.out; unfold two32 at this; unfold topN; omega)
      have hl : (⟨((le4 n).take 0).toArray⟩ : ByteArray).size ≤ 4 := by rw [size_mk, List.length_take]; omega
      go_wp2_with (go_at_call 68; refine (put1_any _ n _ H.out G.out).mono ?_; rintro e w1 ⟨rfl, k1⟩)
      go_roundw
      case rel => exact ⟨1, by omega, by go_num, vstr (by rw [ByteArray.mk_append_mk]; rfl), HW.out.trans k1⟩
      case measure => simp [intOf]
    · have H := Lib.hid (u64_small (m := ((n : Int) / 256)) (n := (n / 256)) (by omega) (by have := HL.out; unfold two32 at this; omega))
      have G := Lib.hid (show (n / 256) < topN from by have := HL.out; unfold two32 at this; unfold topN; omega)
      have hl : (⟨((le4 n).take 1).toArray⟩ : ByteArray).size ≤ 4 := by rw [size_mk, List.length_take]; omega
      go_wp2_with (go_at_call 68; refine (put1_any _ (n / 256) _ H.out G.out).mono ?_; rintro e w1 ⟨rfl, k1⟩)
      go_roundw
      case rel => exact ⟨2, by omega, by go_num, vstr (by rw [ByteArray.mk_append_mk]; rfl), HW.out.trans k1⟩
      case measure => simp [intOf]
    · have H := Lib.hid (u64_small (m := ((n : Int) / 65536)) (n := (n / 65536)) (by omega) (by have := HL.out; unfold two32 at this; omega))
      have G := Lib.hid (show (n / 65536) < topN from by have := HL.out; unfold two32 at this; unfold topN; omega)
      have hl : (⟨((le4 n).take 2).toArray⟩ : ByteArray).size ≤ 4 := by rw [size_mk, List.length_take]; omega
      go_wp2_with (go_at_call 68; refine (put1_any _ (n / 65536) _ H.out G.out).mono ?_; rintro e w1 ⟨rfl, k1⟩)
      go_roundw
      case rel => exact ⟨3, by omega, by go_num, vstr (by rw [ByteArray.mk_append_mk]; rfl), HW.out.trans k1⟩
      case measure => simp [intOf]
    · have H := Lib.hid (u64_small (m := ((n : Int) / 16777216)) (n := (n / 16777216)) (by omega) (by have := HL.out; unfold two32 at this; omega))
      have G := Lib.hid (show (n / 16777216) < topN from by have := HL.out; unfold two32 at this; unfold topN; omega)
      have hl : (⟨((le4 n).take 3).toArray⟩ : ByteArray).size ≤ 4 := by rw [size_mk, List.length_take]; omega
      go_wp2_with (go_at_call 68; refine (put1_any _ (n / 16777216) _ H.out G.out).mono ?_; rintro e w1 ⟨rfl, k1⟩)
      go_roundw
      case rel => exact ⟨4, by omega, by go_num, vstr (by rw [ByteArray.mk_append_mk]; rfl), HW.out.trans k1⟩
      case measure => simp [intOf]
    · go_wp2
      go_ret
      exact ⟨rfl, HW.out⟩
end Go.Proofs.YtlaepdpgegoopaaGreat
