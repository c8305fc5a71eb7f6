
/- Deeds that wait: the mathematics. -/
import Derived.Test.YtbemkcnikoiecaaProg
import Derived.Test.YtbemkcnikoiecaaKyMath
set_option linter.unusedVariables false
namespace Go.Proofs.Ytbemkcnikoiecaa
namespace Wt
open Ky
/-- A wait: order, deed, tries, next, parked. -/
structure W5 where
  o : Int
  d : Int
  t : Int
  n : Int
  p : Bool
def sameK (x : W5) (o d : Int) : Bool := decide (x.o = o) && decide (x.d = d)
def far : Int := 1099511627776
def near (n : Int) : Int := if n < 0 then 0 else if n < far then n else far
def gapN (t : Int) : Int := if t < 1 then 0 else if t = 1 then 1 else if t = 2 then 2 else if t = 3 then 4 else if t = 4 then 8 else 16
def stopL (l : List W5) (o d : Int) : List W5 := l.filter fun x => !sameK x o d
def ahead (y : W5) (x : W5) : Bool := lessK x.o x.d y.o y.d
def insL (l : List W5) (y : W5) : List W5 := l.takeWhile (ahead y) ++ y :: l.dropWhile (ahead y)
def putL (l : List W5) (y : W5) : List W5 := if checkK y.o y.d = true then insL (stopL l y.o y.d) y else l
def startL (l : List W5) (o d now : Int) : List W5 := putL l ⟨o, d, 1, near now + 1, false⟩
def dueL (l : List W5) (o d now : Int) : List W5 := putL l ⟨o, d, 0, near now, false⟩
def hasB (l : List W5) (o d : Int) : Bool := l.any fun x => sameK x o d
def nowB (m : Int) (x : W5) : Bool := !x.p && decide (x.n ≤ m)
def tick1 (m : Int) (x : W5) : W5 := if nowB m x = true then (if 5 ≤ x.t then { x with p := true } else { x with t := x.t + 1, n := m + gapN (x.t + 1) }) else x
def toldB (m : Int) (x : W5) : Bool := nowB m x && decide (x.t < 5)
def tickL (l : List W5) (now : Int) : List W5 := l.map (tick1 (near now))
def toldL (l : List W5) (now : Int) : List (Int × Int) := (l.filter (toldB (near now))).map fun x => (x.o, x.d)
def againL (l : List W5) (o d now : Int) : List W5 := if hasB l o d = true then startL l o d now else l
/-- What a wait is, at whatever time. -/
structure Ok (x : W5) : Prop where
  key : Chk x.o x.d
  t0 : 0 ≤ x.t
  t5 : x.t ≤ 5
  n0 : 0 ≤ x.n
  n1 : x.n ≤ far + 16
def Before (x y : W5) : Prop := lessK x.o x.d y.o y.d = true
structure Inv (l : List W5) : Prop where
  ok : ∀ x ∈ l, Ok x
  rise : l.Pairwise Before
theorem near_in (n : Int) : 0 ≤ near n ∧ near n ≤ far := by
  unfold near far
  split <;> (try split) <;> omega
theorem gap_in (t : Int) : 0 ≤ gapN t ∧ gapN t ≤ 16 := by
  unfold gapN
  split
  · omega
  · split
    · omega
    · split
      · omega
      · split
        · omega
        · split <;> omega
theorem inv_nil : Inv [] := ⟨fun x hx => (by cases hx), List.Pairwise.nil⟩
theorem same_iff {x : W5} {o d : Int} : sameK x o d = true ↔ x.o = o ∧ x.d = d := by unfold sameK; simp
theorem less_iff {o d o' d' : Int} : lessK o d o' d' = true ↔ o < o' ∨ (o = o' ∧ d < d') := by unfold lessK; simp
theorem Before.trans {x y z : W5} (h : Before x y) (g : Before y z) : Before x z := by
  unfold Before at *
  rw [less_iff] at *
  omega
theorem stop_ok {l : List W5} (h : Inv l) (o d : Int) : Inv (stopL l o d) := ⟨fun x hx => h.ok x (List.mem_filter.1 hx).1, List.Pairwise.filter _ h.rise⟩
theorem stop_none {l : List W5} {o d : Int} : ∀ x ∈ stopL l o d, ¬ (x.o = o ∧ x.d = d) := fun x hx => by
  have := (List.mem_filter.1 hx).2
  intro he
  rw [same_iff.2 he] at this
  cases this
theorem ins_mem {l : List W5} {y x : W5} : x ∈ insL l y ↔ x = y ∨ x ∈ l := by
  unfold insL
  have e : l.takeWhile (ahead y) ++ l.dropWhile (ahead y) = l := List.takeWhile_append_dropWhile
  constructor
  · intro h
    rcases List.mem_append.1 h with h | h
    · exact Or.inr (by rw [← e]; exact List.mem_append.2 (Or.inl h))
    · rcases List.mem_cons.1 h with h | h
      · exact Or.inl h
      · exact Or.inr (by rw [← e]; exact List.mem_append.2 (Or.inr h))
  · rintro (rfl | h)
    · simp
    · rw [← e] at h
      rcases List.mem_append.1 h with h | h
      · exact List.mem_append.2 (Or.inl h)
      · exact List.mem_append.2 (Or.inr (List.mem_cons_of_mem _ h))
theorem ahead_iff {x y : W5} : ahead y x = true ↔ Before x y := Iff.rfl
theorem ins_ok {l : List W5} {y : W5} (h : Inv l) (hy : Ok y) (hn : ∀ x ∈ l, ¬ (x.o = y.o ∧ x.d = y.d)) : Inv (insL l y) := by
  refine ⟨fun x hx => ?_, ?_⟩
  · rcases ins_mem.1 hx with rfl | hx
    · exact hy
    · exact h.ok x hx
  · have e : l.takeWhile (ahead y) ++ l.dropWhile (ahead y) = l := List.takeWhile_append_dropWhile
    have hr := h.rise
    rw [← e, List.pairwise_append] at hr
    obtain ⟨r1, r2, r3⟩ := hr
    have ht : ∀ x ∈ l.takeWhile (ahead y), Before x y := fun x hx => by
      have := List.all_takeWhile (p := ahead y) (l := l)
      exact List.all_eq_true.1 this x hx
    have hd : ∀ x ∈ l.dropWhile (ahead y), Before y x := by
      cases hdl : l.dropWhile (ahead y) with
      | nil => intro x hx; cases hx
      | cons z r =>
        have hz : ahead y z = false := by
          have := List.head?_dropWhile_not (ahead y) l
          rw [hdl] at this
          simpa using this
        have hzm : z ∈ l := by rw [← e, hdl]; simp
        have hyz : Before y z := by
          have h1 := hn z hzm
          have h2 : ¬ Before z y := fun q => by
            unfold Before at q
            unfold ahead at hz
            rw [hz] at q
            cases q
          unfold Before at *
          rw [less_iff] at *
          omega
        intro x hx
        rcases List.mem_cons.1 hx with rfl | hx
        · exact hyz
        · rw [hdl] at r2
          exact hyz.trans ((List.pairwise_cons.1 r2).1 x hx)
    unfold insL
    rw [List.pairwise_append]
    refine ⟨r1, List.pairwise_cons.2 ⟨hd, r2⟩, fun a ha b hb => ?_⟩
    rcases List.mem_cons.1 hb with rfl | hb
    · exact ht a ha
    · exact r3 a ha b hb
theorem put_ok {l : List W5} {y : W5} (h : Inv l) (hy : Chk y.o y.d → Ok y) : Inv (putL l y) := by
  unfold putL
  split
  · rename_i hc
    exact ins_ok (stop_ok h _ _) (hy (check_iff.1 hc)) stop_none
  · exact h
theorem start_ok {l : List W5} (h : Inv l) (o d now : Int) : Inv (startL l o d now) :=
  put_ok h fun hc => by
    have := near_in now
    exact ⟨hc, by show (0 : Int) ≤ 1; omega, by show (1 : Int) ≤ 5; omega, by show 0 ≤ near now + 1; omega, by show near now + 1 ≤ far + 16; omega⟩
theorem due_ok {l : List W5} (h : Inv l) (o d now : Int) : Inv (dueL l o d now) :=
  put_ok h fun hc => by
    have := near_in now
    exact ⟨hc, by show (0 : Int) ≤ 0; omega, by show (0 : Int) ≤ 5; omega, by show 0 ≤ near now; omega, by show near now ≤ far + 16; omega⟩
theorem again_ok {l : List W5} (h : Inv l) (o d now : Int) : Inv (againL l o d now) := by
  unfold againL
  split
  · exact start_ok h o d now
  · exact h
theorem tick1_key (m : Int) (x : W5) : (tick1 m x).o = x.o ∧ (tick1 m x).d = x.d := by
  unfold tick1
  split
  · split <;> exact ⟨rfl, rfl⟩
  · exact ⟨rfl, rfl⟩
theorem tick1_ok {m : Int} {x : W5} (h : Ok x) (m0 : 0 ≤ m) (m1 : m ≤ far) : Ok (tick1 m x) := by
  have k := tick1_key m x
  refine ⟨by rw [k.1, k.2]; exact h.key, ?_, ?_, ?_, ?_⟩
  all_goals
    unfold tick1
    have g := gap_in (x.t + 1)
    have := h.t0
    have := h.t5
    have := h.n0
    have := h.n1
    split
    · split
      · simp only; omega
      · simp only; omega
    · assumption
theorem tick_ok {l : List W5} (h : Inv l) (now : Int) : Inv (tickL l now) := by
  have m := near_in now
  refine ⟨fun x hx => ?_, ?_⟩
  · obtain ⟨y, hy, rfl⟩ := List.mem_map.1 hx
    exact tick1_ok (h.ok y hy) m.1 m.2
  · unfold tickL
    rw [List.pairwise_map]
    refine h.rise.imp fun {a b} hab => ?_
    have ka := tick1_key (near now) a
    have kb := tick1_key (near now) b
    unfold Before at *
    rw [ka.1, ka.2, kb.1, kb.2]
    exact hab
/-- A row of keys that rise is no longer than there are keys. -/
theorem rise_len {l : List W5} (h : Inv l) : ∀ a : Int, (∀ x ∈ l, a ≤ x.o * 6 + x.d) → a ≤ 366 → (l.length : Int) ≤ 366 - a := by
  induction l with
  | nil => intro a _ ha; simp; omega
  | cons x r ih =>
    intro a hx ha
    have hr : Inv r := ⟨fun y hy => h.ok y (List.mem_cons_of_mem _ hy), (List.pairwise_cons.1 h.rise).2⟩
    have hxk := (h.ok x (by simp)).key
    obtain ⟨k1, k2, k3, k4⟩ := hxk
    have h0 := hx x (by simp)
    have := ih hr (x.o * 6 + x.d + 1) (fun y hy => by
      have hb := (List.pairwise_cons.1 h.rise).1 y hy
      unfold Before at hb
      rw [less_iff] at hb
      obtain ⟨j1, j2, j3, j4⟩ := (h.ok y (List.mem_cons_of_mem _ hy)).key
      omega) (by omega)
    simp only [List.length_cons]
    omega
theorem Inv.len {l : List W5} (h : Inv l) : l.length ≤ 360 := by
  have := rise_len h 6 (fun x hx => by
    obtain ⟨k1, k2, k3, k4⟩ := (h.ok x hx).key
    omega) (by omega)
  omega
theorem stop_len (l : List W5) (o d : Int) : (stopL l o d).length ≤ l.length := List.length_filter_le _ _
/-- Has, as the document tells it: fewer are left. -/
theorem has_len (l : List W5) (o d : Int) : decide ((stopL l o d).length < l.length) = hasB l o d := by
  induction l with
  | nil => rfl
  | cons x r ih =>
    have hle := stop_len r o d
    unfold hasB stopL at *
    by_cases hx : sameK x o d = true
    · simp [hx]
      omega
    · have hx' : sameK x o d = false := by simpa using hx
      simp only [List.filter_cons, hx', Bool.not_false, if_true, List.length_cons, List.any_cons, Bool.false_or]
      rw [← ih]
      simp
theorem stop_not {l : List W5} {o d : Int} (h : hasB l o d = false) : stopL l o d = l := by
  unfold stopL
  rw [List.filter_eq_self]
  intro x hx
  unfold hasB at h
  rw [List.any_eq_false] at h
  have := h x hx
  simpa using this
end Wt
end Go.Proofs.Ytbemkcnikoiecaa
