
/- Acts as they came in; Great; a disk that is none; the law DiskNone. -/
import Derived.Test.YtlaepdpgegoopaaGreatDiskCrash
set_option linter.unusedVariables false
namespace Go.Proofs.YtlaepdpgegoopaaGreat
open Go.ChangeShapes Go.WideShapes Go.ChangeAt Go.RowKit Go.Maps Csv Dk

/-- What is done with a disk. -/
structure ActM where
  kind : Nat
  n : Int
  at_ : Int
  size : Int
  s : ByteArray
  kv : Value
  ks : List Int
structure ActM.Good (x : ActM) : Prop where
  kind : x.kind ≤ 255
  n : I64 x.n
  at_ : I64 x.at_
  size : I64 x.size
  s : x.s.size ≤ maxLen
  kv : ∀ p m c, x.kv = .slice p m c → m ≤ c
def ActM.vals (x : ActM) : List Value := [.int .u8 (x.kind : Int), .int .i64 x.n, .int .i64 x.at_, .int .i64 x.size, .string x.s, x.kv]
def ActAt (w : World) (a : Addr) (x : ActM) : Prop :=
  w.cell? a = some (.int .u8 (x.kind : Int)) ∧ w.cell? ⟨a.block, a.off + 1, none⟩ = some (.int .i64 x.n) ∧ w.cell? ⟨a.block, a.off + 2, none⟩ = some (.int .i64 x.at_) ∧ w.cell? ⟨a.block, a.off + 3, none⟩ = some (.int .i64 x.size) ∧ w.cell? ⟨a.block, a.off + 4, none⟩ = some (.string x.s) ∧ w.cell? ⟨a.block, a.off + 5, none⟩ = some x.kv ∧ IntsAt w x.kv x.ks
theorem ActAt.keeps {w w' : World} {a : Addr} {x : ActM} (h : ActAt w a x) (k : Keeps w w') : ActAt w' a x := by
  obtain ⟨h0, h1, h2, h3, h4, h5, h6⟩ := h
  exact ⟨cell_keeps k h0, cell_keeps k h1, cell_keeps k h2, cell_keeps k h3, cell_keeps k h4, cell_keeps k h5, h6.keeps k⟩
def ActsAt (w : World) (v : Value) (L : List ActM) : Prop :=
  ∃ p c, v = .slice p L.length c ∧ L.length ≤ maxLen ∧ ∀ j x, L[j]? = some x → x.Good ∧ ∃ a : Addr, p = some a ∧ ActAt w (a.add (j * 6)) x
theorem ActsAt.keeps {w w' : World} {v : Value} {L : List ActM} (h : ActsAt w v L) (k : Keeps w w') : ActsAt w' v L := by
  obtain ⟨p, c, h1, h2, h3⟩ := h
  refine ⟨p, c, h1, h2, fun j x hx => ?_⟩
  obtain ⟨g, a, ha, hc⟩ := h3 j x hx
  exact ⟨g, a, ha, hc.keeps k⟩
def bigA (x : ActM) : Bool := decide (2000 < x.s.size) || decide (100 < x.ks.length)
def greatB (L : List ActM) (most : Nat) : Bool := L.any bigA || decide (most < L.length)
theorem great_no {L : List ActM} {most : Nat} (h : greatB L most = false) : L.length ≤ most ∧ ∀ x ∈ L, x.s.size ≤ 2000 ∧ x.ks.length ≤ 100 := by
  unfold greatB at h
  rw [Bool.or_eq_false_iff] at h
  refine ⟨by have := of_decide_eq_false h.2; omega, fun x hx => ?_⟩
  have := List.any_eq_false.1 h.1 x hx
  simp only [bigA, Bool.or_eq_true, decide_eq_true_eq, not_or] at this
  omega
theorem dkAny_take {L : List ActM} {k : Nat} {x : ActM} (h : (L.take k).any bigA = false) (hx : L[k]? = some x) (hb : bigA x = false) : (L.take (k + 1)).any bigA = false := by
  rw [List.take_add_one, hx, List.any_append, h]
  simp [hb]
theorem dkAny_at {L : List ActM} {k : Nat} {x : ActM} (hx : L[k]? = some x) (hb : bigA x = true) : L.any bigA = true := List.any_eq_true.2 ⟨x, List.mem_of_getElem? hx, hb⟩

/-! ### A disk that is none -/
theorem read_none (p : Option Addr) (n a b : Int) (w : World) (h : NoDisk w p) : Calls Tryz.prog 45 #[.pointer p, .int .i64 n, .int .i64 a, .int .i64 b] w fun e w' => e = .returned (.tuple #[.string ⟨#[]⟩, .int .i64 1]) ∧ w = w' := by
  have c := find_none p n w h
  clear h
  go_enter Tryz.func45, Tryz.ntmps45
  go_wp2_with (go_at_call 27; refine c.mono ?_; rintro e w' ⟨rfl, rfl⟩)
  go_ret2
  exact ⟨rfl, rfl⟩
theorem size_none (p : Option Addr) (n : Int) (w : World) (h : NoDisk w p) : Calls Tryz.prog 31 #[.pointer p, .int .i64 n] w fun e w' => e = .returned (.tuple #[.int .i64 0, .int .i64 1]) ∧ w = w' := by
  have c := find_none p n w h
  clear h
  go_enter Tryz.func31, Tryz.ntmps31
  go_wp2_with (go_at_call 27; refine c.mono ?_; rintro e w' ⟨rfl, rfl⟩)
  go_ret2
  exact ⟨rfl, rfl⟩
theorem create_none (p : Option Addr) (n : Int) (w : World) (h : NoDisk w p) : Calls Tryz.prog 7 #[.pointer p, .int .i64 n] w fun e w' => e = .returned (.int .i64 1) ∧ w = w' := by
  have c := ready_none p w h
  clear h
  go_enter Tryz.func7, Tryz.ntmps7
  go_wp2_with (go_at_call 22; refine c.mono ?_; rintro e w' ⟨rfl, rfl⟩)
  go_ret
  exact ⟨rfl, rfl⟩
theorem append_none (p : Option Addr) (n : Int) (s : ByteArray) (w : World) (h : NoDisk w p) : Calls Tryz.prog 9 #[.pointer p, .int .i64 n, .string s] w fun e w' => e = .returned (.int .i64 1) ∧ w = w' := by
  have c := find_none p n w h
  clear h
  go_enter Tryz.func9, Tryz.ntmps9
  go_wp2_with (go_at_call 27; refine c.mono ?_; rintro e w' ⟨rfl, rfl⟩)
  go_ret
  exact ⟨rfl, rfl⟩
theorem sync_none (p : Option Addr) (n : Int) (w : World) (h : NoDisk w p) : Calls Tryz.prog 71 #[.pointer p, .int .i64 n] w fun e w' => e = .returned (.int .i64 1) ∧ w = w' := by
  have c := find_none p n w h
  clear h
  go_enter Tryz.func71, Tryz.ntmps71
  go_wp2_with (go_at_call 27; refine c.mono ?_; rintro e w' ⟨rfl, rfl⟩)
  go_ret
  exact ⟨rfl, rfl⟩
theorem trunc_none (p : Option Addr) (n a : Int) (w : World) (h : NoDisk w p) : Calls Tryz.prog 81 #[.pointer p, .int .i64 n, .int .i64 a] w fun e w' => e = .returned (.int .i64 1) ∧ w = w' := by
  have c := find_none p n w h
  clear h
  go_enter Tryz.func81, Tryz.ntmps81
  go_wp2_with (go_at_call 27; refine c.mono ?_; rintro e w' ⟨rfl, rfl⟩)
  go_ret
  exact ⟨rfl, rfl⟩
theorem delete_none (p : Option Addr) (n : Int) (w : World) (h : NoDisk w p) : Calls Tryz.prog 76 #[.pointer p, .int .i64 n] w fun e w' => e = .returned (.int .i64 1) ∧ w = w' := by
  have c := find_none p n w h
  clear h
  go_enter Tryz.func76, Tryz.ntmps76
  go_wp2_with (go_at_call 27; refine c.mono ?_; rintro e w' ⟨rfl, rfl⟩)
  go_ret
  exact ⟨rfl, rfl⟩
theorem up_none (p : Option Addr) (w : World) (h : NoDisk w p) : Calls Tryz.prog 44 #[.pointer p] w fun e w' => e = .returned (.bool false) ∧ w = w' := by
  have c := none_yes p w h
  clear h
  go_enter Tryz.func44, Tryz.ntmps44
  go_wp2_with (go_at_call 57; refine c.mono ?_; rintro e w' ⟨rfl, rfl⟩)
  go_ret
  exact ⟨rfl, rfl⟩
theorem starts_none (p : Option Addr) (w : World) (h : NoDisk w p) : Calls Tryz.prog 37 #[.pointer p] w fun e w' => e = .returned (.int .i64 0) ∧ w = w' := by
  have c := none_yes p w h
  clear h
  go_enter Tryz.func37, Tryz.ntmps37
  go_wp2_with (go_at_call 57; refine c.mono ?_; rintro e w' ⟨rfl, rfl⟩)
  go_ret
  exact ⟨rfl, rfl⟩
theorem act_laid (W : World) (x : ActM) (t : TypeId) (h : IntsAt W x.kv x.ks) : ActAt (W.alloc (.cells x.vals.toArray t)) ⟨W.heap.size, 0, none⟩ x := by
  have k : Keeps W (W.alloc (.cells x.vals.toArray t)) := (Below.refl _ _).alloc (Nat.le_refl _) _
  have c : ∀ j, (W.alloc (.cells x.vals.toArray t)).cell? ⟨W.heap.size, j, none⟩ = x.vals.toArray[j]? := fun j => World.cell?_alloc_at _ _ _ _ rfl
  refine ⟨c 0, ?_, ?_, ?_, ?_, ?_, h.keeps k⟩
  · exact c 1
  · exact c 2
  · exact c 3
  · exact c 4
  · exact c 5
theorem acts_one (W : World) (x : ActM) (t : TypeId) (hg : x.Good) (h : IntsAt W x.kv x.ks) : ActsAt (W.alloc (.cells x.vals.toArray t)) (.slice (some ⟨W.heap.size, 0, none⟩) 1 1) [x] := by
  refine ⟨_, _, rfl, by simp [maxLen], fun j y hy => ?_⟩
  have hj : j = 0 := by
    have := (List.getElem?_eq_some_iff.1 hy).1
    simp at this; omega
  subst hj
  simp at hy
  subst hy
  exact ⟨hg, _, rfl, by simpa [Addr.add] using act_laid W x t h⟩

end Go.Proofs.YtlaepdpgegoopaaGreat
