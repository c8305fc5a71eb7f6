
/- Acts as they came in; Great; a disk that is none; the law DiskNone. -/
import Derived.Test.YtpecbfcboocmcaaDiskCrash
set_option linter.unusedVariables false
namespace Go.Proofs.Ytpecbfcboocmcaa
open Go.ChangeShapes Go.WideShapes Go.ChangeAt Go.RowKit Go.Maps Csv Dk

/-- What is done with a disk. -/
structure ActM where
  kind : Nat
  n : Int
  at_ : Int
  size : Int
  s : ByteArray
  kv : Value
  ks : List Int
structure ActM.Good (x : ActM) : Prop where
  kind : x.kind ≤ 255
  n : I64 x.n
  at_ : I64 x.at_
  size : I64 x.size
  s : x.s.size ≤ maxLen
  kv : ∀ p m c, x.kv = .slice p m c → m ≤ c
def ActM.vals (x : ActM) : List Value := [.int .u8 (x.kind : Int), .int .i64 x.n, .int .i64 x.at_, .int .i64 x.size, .string x.s, x.kv]
def ActAt (w : World) (a : Addr) (x : ActM) : Prop :=
  w.cell? a = some (.int .u8 (x.kind : Int)) ∧ w.cell? ⟨a.block, a.off + 1, none⟩ = some (.int .i64 x.n) ∧ w.cell? ⟨a.block, a.off + 2, none⟩ = some (.int .i64 x.at_) ∧ w.cell? ⟨a.block, a.off + 3, none⟩ = some (.int .i64 x.size) ∧ w.cell? ⟨a.block, a.off + 4, none⟩ = some (.string x.s) ∧ w.cell? ⟨a.block, a.off + 5, none⟩ = some x.kv ∧ IntsAt w x.kv x.ks
theorem ActAt.keeps {w w' : World} {a : Addr} {x : ActM} (h : ActAt w a x) (k : Keeps w w') : ActAt w' a x := by
  obtain ⟨h0, h1, h2, h3, h4, h5, h6⟩ := h
  exact ⟨cell_keeps k h0, cell_keeps k h1, cell_keeps k h2, cell_keeps k h3, cell_keeps k h4, cell_keeps k h5, h6.keeps k⟩
def ActsAt (w : World) (v : Value) (L : List ActM) : Prop :=
  ∃ p c, v = .slice p L.length c ∧ L.length ≤ maxLen ∧ ∀ j x, L[j]? = some x → x.Good ∧ ∃ a : Addr, p = some a ∧ ActAt w (a.add (j * 6)) x
theorem ActsAt.keeps {w w' : World} {v : Value} {L : List ActM} (h : ActsAt w v L) (k : Keeps w w') : ActsAt w' v L := by
  obtain ⟨p, c, h1, h2, h3⟩ := h
  refine ⟨p, c, h1, h2, fun j x hx => ?_⟩
  obtain ⟨g, a, ha, hc⟩ := h3 j x hx
  exact ⟨g, a, ha, hc.keeps k⟩
def bigA (x : ActM) : Bool := decide (2000 < x.s.size) || decide (100 < x.ks.length)
def greatB (L : List ActM) (most : Nat) : Bool := L.any bigA || decide (most < L.length)
theorem great_no {L : List ActM} {most : Nat} (h : greatB L most = false) : L.length ≤ most ∧ ∀ x ∈ L, x.s.size ≤ 2000 ∧ x.ks.length ≤ 100 := by
  unfold greatB at h
  rw [Bool.or_eq_false_iff] at h
  refine ⟨by have := of_decide_eq_false h.2; omega, fun x hx => ?_⟩
  have := List.any_eq_false.1 h.1 x hx
  simp only [bigA, Bool.or_eq_true, decide_eq_true_eq, not_or] at this
  omega
theorem any_take {L : List ActM} {k : Nat} {x : ActM} (h : (L.take k).any bigA = false) (hx : L[k]? = some x) (hb : bigA x = false) : (L.take (k + 1)).any bigA = false := by
  rw [List.take_add_one, hx, List.any_append, h]
  simp [hb]
theorem any_at {L : List ActM} {k : Nat} {x : ActM} (hx : L[k]? = some x) (hb : bigA x = true) : L.any bigA = true := List.any_eq_true.2 ⟨x, List.mem_of_getElem? hx, hb⟩

set_option maxHeartbeats 2000000 in
theorem great_any (v : Value) (L : List ActM) (most : Nat) (w : World) (h : ActsAt w v L) (hm : most ≤ 1000) :
    Calls Try.prog 4 #[v, .int .i64 (most : Int)] w fun e w' => e = .returned (.bool (greatB L most)) ∧ w = w' := by
  obtain ⟨p, c, rfl, lL, hL⟩ := h
  obtain ⟨N, hN⟩ : ∃ N, L.length = N := ⟨_, rfl⟩
  have HL := Lib.hid hL
  have HN := Lib.hid hN
  rw [hN] at lL ⊢
  unfold maxLen at lL
  clear hL hN
  go_enter Try.func4, Try.ntmps4
  go_wp2
  go_loop [5] (fun i => ∃ k : Nat, k ≤ N ∧ i = .int .i64 (k : Int) ∧ (L.take k).any bigA = false) (fun i => N - (intOf i).toNat)
  case atStart => exact ⟨0, by omega, rfl, rfl⟩
  case round =>
    obtain ⟨k, hk, rfl, hall⟩ := hrel
    have HA := Lib.hid hall
    clear hall
    by_cases hlt : k < N
    · obtain ⟨x, hx⟩ : ∃ x, L[k]? = some x := ⟨_, List.getElem?_eq_getElem (by have := HN.out; omega)⟩
      obtain ⟨hg, a, rfl, q0, q1, q2, q3, q4, q5, q6⟩ := HL.out k x hx
      obtain ⟨pk, ck, hkv, lk, _⟩ := q6
      rw [hkv] at q5
      have hi1 : (k : Int) < (N : Int) := by omega
      have hs := hg.s
      have HX := Lib.hid hx
      obtain ⟨S, hS⟩ : ∃ S, x.s = S := ⟨_, rfl⟩
      obtain ⟨M, hM⟩ : ∃ M, x.ks.length = M := ⟨_, rfl⟩
      have HB := Lib.hid (show bigA x = (decide (2000 < S.size) || decide (100 < M)) by unfold bigA; rw [hS, hM])
      rw [hS] at q4 hs
      rw [hM] at q5 lk
      unfold maxLen at hs lk
      clear hx hg q0 q1 q2 q3 hkv hS hM
      by_cases h1 : 2000 < S.size
      · have t1 : decide ((2000 : Int) < (S.size : Int)) = true := decide_eq_true (by omega)
        have H := Lib.hid (show greatB L most = true by unfold greatB; rw [any_at HX.out (by rw [HB.out, decide_eq_true h1]; rfl)]; rfl)
        clear h1
        go_wp2
        go_ret
        exact ⟨ret_bool H.out.symm, rfl⟩
      · have t1 : decide ((2000 : Int) < (S.size : Int)) = false := decide_eq_false (by omega)
        by_cases h2 : 100 < M
        · have t2 : decide ((100 : Int) < (M : Int)) = true := decide_eq_true (by omega)
          have H := Lib.hid (show greatB L most = true by unfold greatB; rw [any_at HX.out (by rw [HB.out, decide_eq_true h2, Bool.or_true])]; rfl)
          clear h1 h2
          go_wp2
          go_ret
          exact ⟨ret_bool H.out.symm, rfl⟩
        · have t2 : decide ((100 : Int) < (M : Int)) = false := decide_eq_false (by omega)
          have H := Lib.hid (any_take HA.out HX.out (by rw [HB.out, decide_eq_false h1, decide_eq_false h2]; rfl))
          clear h1 h2
          go_wp2
          go_round
          case rel => exact ⟨k + 1, by omega, by go_num, H.out⟩
          case measure => simp [intOf]; omega
    · obtain rfl : k = N := by omega
      have hz : ¬ ((k : Int) < (k : Int)) := by omega
      have H := Lib.hid (show greatB L most = decide (most < k) by
        unfold greatB
        have h := HA.out
        rw [List.take_of_length_le (by rw [HN.out]; exact Nat.le_refl _)] at h
        rw [h, HN.out]; rfl)
      by_cases hgt : most < k
      · have t : decide ((most : Int) < (k : Int)) = true := decide_eq_true (by omega)
        have H2 := Lib.hid (show decide (most < k) = true from decide_eq_true hgt)
        clear hgt
        go_wp2
        go_ret
        exact ⟨ret_bool (by rw [H.out, H2.out]), rfl⟩
      · have t : decide ((most : Int) < (k : Int)) = false := decide_eq_false (by omega)
        have H2 := Lib.hid (show decide (most < k) = false from decide_eq_false hgt)
        clear hgt
        go_wp2
        go_ret
        exact ⟨ret_bool (by rw [H.out, H2.out]), rfl⟩

/-! ### A disk that is none -/
theorem read_none (p : Option Addr) (n a b : Int) (w : World) (h : NoDisk w p) : Calls Try.prog 16 #[.pointer p, .int .i64 n, .int .i64 a, .int .i64 b] w fun e w' => e = .returned (.tuple #[.string ⟨#[]⟩, .int .i64 1]) ∧ w = w' := by
  have c := find_none p n w h
  clear h
  go_enter Try.func16, Try.ntmps16
  go_wp2_with (go_at_call 40; refine c.mono ?_; rintro e w' ⟨rfl, rfl⟩)
  go_ret2
  exact ⟨rfl, rfl⟩
theorem size_none (p : Option Addr) (n : Int) (w : World) (h : NoDisk w p) : Calls Try.prog 19 #[.pointer p, .int .i64 n] w fun e w' => e = .returned (.tuple #[.int .i64 0, .int .i64 1]) ∧ w = w' := by
  have c := find_none p n w h
  clear h
  go_enter Try.func19, Try.ntmps19
  go_wp2_with (go_at_call 40; refine c.mono ?_; rintro e w' ⟨rfl, rfl⟩)
  go_ret2
  exact ⟨rfl, rfl⟩
theorem create_none (p : Option Addr) (n : Int) (w : World) (h : NoDisk w p) : Calls Try.prog 13 #[.pointer p, .int .i64 n] w fun e w' => e = .returned (.int .i64 1) ∧ w = w' := by
  have c := ready_none p w h
  clear h
  go_enter Try.func13, Try.ntmps13
  go_wp2_with (go_at_call 38; refine c.mono ?_; rintro e w' ⟨rfl, rfl⟩)
  go_ret
  exact ⟨rfl, rfl⟩
theorem append_none (p : Option Addr) (n : Int) (s : ByteArray) (w : World) (h : NoDisk w p) : Calls Try.prog 14 #[.pointer p, .int .i64 n, .string s] w fun e w' => e = .returned (.int .i64 1) ∧ w = w' := by
  have c := find_none p n w h
  clear h
  go_enter Try.func14, Try.ntmps14
  go_wp2_with (go_at_call 40; refine c.mono ?_; rintro e w' ⟨rfl, rfl⟩)
  go_ret
  exact ⟨rfl, rfl⟩
theorem sync_none (p : Option Addr) (n : Int) (w : World) (h : NoDisk w p) : Calls Try.prog 17 #[.pointer p, .int .i64 n] w fun e w' => e = .returned (.int .i64 1) ∧ w = w' := by
  have c := find_none p n w h
  clear h
  go_enter Try.func17, Try.ntmps17
  go_wp2_with (go_at_call 40; refine c.mono ?_; rintro e w' ⟨rfl, rfl⟩)
  go_ret
  exact ⟨rfl, rfl⟩
theorem trunc_none (p : Option Addr) (n a : Int) (w : World) (h : NoDisk w p) : Calls Try.prog 20 #[.pointer p, .int .i64 n, .int .i64 a] w fun e w' => e = .returned (.int .i64 1) ∧ w = w' := by
  have c := find_none p n w h
  clear h
  go_enter Try.func20, Try.ntmps20
  go_wp2_with (go_at_call 40; refine c.mono ?_; rintro e w' ⟨rfl, rfl⟩)
  go_ret
  exact ⟨rfl, rfl⟩
theorem delete_none (p : Option Addr) (n : Int) (w : World) (h : NoDisk w p) : Calls Try.prog 27 #[.pointer p, .int .i64 n] w fun e w' => e = .returned (.int .i64 1) ∧ w = w' := by
  have c := find_none p n w h
  clear h
  go_enter Try.func27, Try.ntmps27
  go_wp2_with (go_at_call 40; refine c.mono ?_; rintro e w' ⟨rfl, rfl⟩)
  go_ret
  exact ⟨rfl, rfl⟩
theorem up_none (p : Option Addr) (w : World) (h : NoDisk w p) : Calls Try.prog 22 #[.pointer p] w fun e w' => e = .returned (.bool false) ∧ w = w' := by
  have c := none_yes p w h
  clear h
  go_enter Try.func22, Try.ntmps22
  go_wp2_with (go_at_call 37; refine c.mono ?_; rintro e w' ⟨rfl, rfl⟩)
  go_ret
  exact ⟨rfl, rfl⟩
theorem starts_none (p : Option Addr) (w : World) (h : NoDisk w p) : Calls Try.prog 36 #[.pointer p] w fun e w' => e = .returned (.int .i64 0) ∧ w = w' := by
  have c := none_yes p w h
  clear h
  go_enter Try.func36, Try.ntmps36
  go_wp2_with (go_at_call 37; refine c.mono ?_; rintro e w' ⟨rfl, rfl⟩)
  go_ret
  exact ⟨rfl, rfl⟩
theorem crash_none (p : Option Addr) (v : Value) (w : World) (h : NoDisk w p) : Calls Try.prog 18 #[.pointer p, v] w fun e w' => e = .returned (.int .i64 1) ∧ w = w' := by
  have c := ready_none p w h
  clear h
  go_enter Try.func18, Try.ntmps18
  go_wp2_with (go_at_call 38; refine c.mono ?_; rintro e w' ⟨rfl, rfl⟩)
  go_ret
  exact ⟨rfl, rfl⟩
theorem start_none (p : Option Addr) (w : World) (h : NoDisk w p) : Calls Try.prog 11 #[.pointer p] w fun e w' => e = .returned (.int .i64 1) ∧ w = w' := by
  have c := none_yes p w h
  clear h
  go_enter Try.func11, Try.ntmps11
  go_wp2_with (go_at_call 37; refine c.mono ?_; rintro e w' ⟨rfl, rfl⟩)
  go_ret
  exact ⟨rfl, rfl⟩
theorem fail_none (p : Option Addr) (n : Int) (v : Value) (w : World) (h : NoDisk w p) : Calls Try.prog 21 #[.pointer p, .int .i64 n, v] w fun e w' => e = .returned (.int .i64 1) ∧ w = w' := by
  have c := ready_none p w h
  clear h
  go_enter Try.func21, Try.ntmps21
  go_wp2_with (go_at_call 38; refine c.mono ?_; rintro e w' ⟨rfl, rfl⟩)
  go_ret
  exact ⟨rfl, rfl⟩

theorem act_laid (W : World) (x : ActM) (t : TypeId) (h : IntsAt W x.kv x.ks) : ActAt (W.alloc (.cells x.vals.toArray t)) ⟨W.heap.size, 0, none⟩ x := by
  have k : Keeps W (W.alloc (.cells x.vals.toArray t)) := (Below.refl _ _).alloc (Nat.le_refl _) _
  have c : ∀ j, (W.alloc (.cells x.vals.toArray t)).cell? ⟨W.heap.size, j, none⟩ = x.vals.toArray[j]? := fun j => World.cell?_alloc_at _ _ _ _ rfl
  refine ⟨c 0, ?_, ?_, ?_, ?_, ?_, h.keeps k⟩
  · exact c 1
  · exact c 2
  · exact c 3
  · exact c 4
  · exact c 5
theorem acts_one (W : World) (x : ActM) (t : TypeId) (hg : x.Good) (h : IntsAt W x.kv x.ks) : ActsAt (W.alloc (.cells x.vals.toArray t)) (.slice (some ⟨W.heap.size, 0, none⟩) 1 1) [x] := by
  refine ⟨_, _, rfl, by simp [maxLen], fun j y hy => ?_⟩
  have hj : j = 0 := by
    have := (List.getElem?_eq_some_iff.1 hy).1
    simp at this; omega
  subst hj
  simp at hy
  subst hy
  exact ⟨hg, _, rfl, by simpa [Addr.add] using act_laid W x t h⟩

end Go.Proofs.Ytpecbfcboocmcaa
