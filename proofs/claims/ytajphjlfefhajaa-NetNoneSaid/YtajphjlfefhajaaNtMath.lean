
/- Messages on their way: the mathematics. -/
import Derived.Test.YtajphjlfefhajaaProg
import Derived.Test.YtajphjlfefhajaaArith
set_option linter.unusedVariables false
namespace Go.Proofs.Ytajphjlfefhajaa
namespace Nt
structure Mg where
  t : Int
  o : Int
  k : Int
  s : ByteArray
  q : Int
  a : Int
  c : Int
def zeM : Mg := ⟨0, 0, 0, ⟨#[]⟩, 0, 0, 0⟩
/-- Is there one at a place? -/
def isB (l : List Mg) (i : Int) : Bool := decide (0 ≤ i) && decide (i < (l.length : Int))
/-- The one at a place, if any. -/
def gone (l : List Mg) (i : Int) : Option Mg := if isB l i = true then l[i.toNat]? else none
/-- Without it. -/
def del (l : List Mg) (i : Int) : List Mg := if isB l i = true then l.take i.toNat ++ l.drop (i.toNat + 1) else l
def send (l : List Mg) (m : Mg) : List Mg := if l.length < 1000 then l ++ [m] else l
def room (l : List Mg) : Bool := decide (l.length < 1000)
def dblB (l : List Mg) (i : Int) : Bool := isB l i && room l
def dbl (l : List Mg) (i : Int) : List Mg := match gone l i with
  | some m => send l m
  | none => l
def turnB (l : List Mg) (i k : Int) : Bool := isB l i && isB l k
def turn (l : List Mg) (i k : Int) : List Mg :=
  if turnB l i k = true then (match l[i.toNat]?, l[k.toNat]? with
    | some x, some y => (l.set i.toNat y).set k.toNat x
    | _, _ => l) else l
/-- What is done. -/
structure Ac where
  kind : Nat
  m : Mg
  i : Int
  k : Int
def step (l : List Mg) (x : Ac) : List Mg :=
  if x.kind % 8 = 4 then del l x.i
  else if x.kind % 8 = 5 then del l x.i
  else if x.kind % 8 = 6 then dbl l x.i
  else if x.kind % 8 = 7 then turn l x.i x.k
  else send l x.m
theorem is_iff {l : List Mg} {i : Int} : isB l i = true ↔ 0 ≤ i ∧ i < (l.length : Int) := by
  unfold isB
  simp
theorem gone_some {l : List Mg} {i : Int} (h : isB l i = true) : ∃ m, l[i.toNat]? = some m ∧ gone l i = some m := by
  obtain ⟨h0, h1⟩ := is_iff.1 h
  have hl : i.toNat < l.length := by omega
  refine ⟨l[i.toNat], List.getElem?_eq_getElem hl, ?_⟩
  unfold gone
  rw [if_pos h, List.getElem?_eq_getElem hl]
theorem gone_none {l : List Mg} {i : Int} (h : isB l i = false) : gone l i = none := by
  unfold gone
  rw [if_neg (by rw [h]; exact Bool.false_ne_true)]
theorem del_no {l : List Mg} {i : Int} (h : isB l i = false) : del l i = l := by
  unfold del
  rw [if_neg (by rw [h]; exact Bool.false_ne_true)]
theorem del_yes {l : List Mg} {i : Int} (h : isB l i = true) : del l i = l.take i.toNat ++ l.drop (i.toNat + 1) := by
  unfold del
  rw [if_pos h]
theorem del_len {l : List Mg} {i : Int} : (del l i).length ≤ l.length := by
  unfold del
  split
  · rw [List.length_append, List.length_take, List.length_drop]; omega
  · exact Nat.le_refl _
theorem send_len {l : List Mg} {m : Mg} (h : l.length ≤ 1000) : (send l m).length ≤ 1000 := by
  unfold send
  split
  · rw [List.length_append]; simp; omega
  · exact h
theorem dbl_len {l : List Mg} {i : Int} (h : l.length ≤ 1000) : (dbl l i).length ≤ 1000 := by
  unfold dbl
  split
  · exact send_len h
  · exact h
theorem turn_len {l : List Mg} {i k : Int} : (turn l i k).length = l.length := by
  unfold turn
  split
  · split
    · rw [List.length_set, List.length_set]
    · rfl
  · rfl
theorem step_len {l : List Mg} {x : Ac} (h : l.length ≤ 1000) : (step l x).length ≤ 1000 := by
  unfold step
  split
  · exact Nat.le_trans del_len h
  · split
    · exact Nat.le_trans del_len h
    · split
      · exact dbl_len h
      · split
        · rw [turn_len]; exact h
        · exact send_len h
theorem dbl_no {l : List Mg} {i : Int} (h : isB l i = false) : dbl l i = l := by unfold dbl; rw [gone_none h]
theorem dbl_yes {l : List Mg} {i : Int} {m : Mg} (h : gone l i = some m) : dbl l i = send l m := by unfold dbl; rw [h]
theorem turn_no {l : List Mg} {i k : Int} (h : turnB l i k = false) : turn l i k = l := by
  unfold turn
  rw [if_neg (by rw [h]; exact Bool.false_ne_true)]
theorem turn_yes {l : List Mg} {i k : Int} {x y : Mg} (h : turnB l i k = true) (hx : l[i.toNat]? = some x) (hy : l[k.toNat]? = some y) : turn l i k = (l.set i.toNat y).set k.toNat x := by
  unfold turn
  rw [if_pos h, hx, hy]
/-- All that is kept by a loop that leaves one out. -/
theorem del_take {l : List Mg} {i k : Nat} {x : Mg} (hx : l[k]? = some x) : (l.take (k + 1)).eraseIdx i = if k = i then (l.take k).eraseIdx i else (l.take k).eraseIdx i ++ [x] := by
  have hk := (List.getElem?_eq_some_iff.1 hx).1
  have e : l.take (k + 1) = l.take k ++ [x] := by rw [List.take_add_one, hx]; rfl
  have ek : (l.take k).length = k := by rw [List.length_take]; omega
  rw [e]
  split
  · rename_i h
    subst h
    rw [List.eraseIdx_append_of_length_le (by omega), ek, Nat.sub_self, List.eraseIdx_of_length_le (by omega : (l.take k).length ≤ k)]
    simp
  · rename_i h
    by_cases hlt : i < k
    · rw [List.eraseIdx_append_of_lt_length (by omega)]
    · rw [List.eraseIdx_append_of_length_le (by omega), ek, List.eraseIdx_of_length_le (by omega : (l.take k).length ≤ i), List.eraseIdx_of_length_le (by simp; omega)]
theorem del_erase {l : List Mg} {i : Int} (h : isB l i = true) : l.eraseIdx i.toNat = del l i := by
  rw [del_yes h, List.eraseIdx_eq_take_drop_succ]
end Nt
end Go.Proofs.Ytajphjlfefhajaa
