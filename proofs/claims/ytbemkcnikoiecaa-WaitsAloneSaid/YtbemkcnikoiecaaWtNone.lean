
/- WaitsNone: waits that are none; the walk. And the laws over the program's waits. -/
import Derived.Test.YtbemkcnikoiecaaWmC7
import Derived.Test.YtbemkcnikoiecaaWtActs
import Derived.Test.YtbemkcnikoiecaaWtWaited
import Derived.Test.YtbemkcnikoiecaaWtPlay
import Derived.Test.YtbemkcnikoiecaaWtAlone
set_option linter.unusedVariables false
set_option linter.unusedSimpArgs false
namespace Go.Proofs.Ytbemkcnikoiecaa
open Go.ChangeShapes Go.WideShapes Go.ChangeAt Go.RowKit Csv Ky Km Ob
namespace Wt
/-- Waits that are none: no pointer, or a box without a map. -/
def NoneW (W : World) (v : Value) : Prop := v = .pointer none ∨ ∃ b, v = .pointer (some ⟨b, 0, none⟩) ∧ b < W.heap.size ∧ W.cell? ⟨b, 0, none⟩ = some (.map none)
theorem NoneW.keeps {W X : World} {v : Value} (h : NoneW W v) (k : Keeps W X) : NoneW X v := by
  rcases h with rfl | ⟨b, rfl, lt, h3⟩
  · exact Or.inl rfl
  · exact Or.inr ⟨b, rfl, Nat.lt_of_lt_of_le lt k.size, (k.cell (p := ⟨b, 0, none⟩) lt).trans h3⟩
theorem zw_none {W : World} {v : Value} (h : NoneW W v) : Calls Try.prog 31 #[v] W fun e w' => e = .returned (.bool true) ∧ w' = W := by
  rcases h with rfl | ⟨b, rfl, lt, h3⟩
  · exact pw_none_nil W
  · exact pw_none_zero h3
theorem zw_begin {W : World} {v : Value} (h : NoneW W v) (o d now t : Int) :
    Calls Try.prog 28 #[v, kyV o d, .int .i64 now, .int .i64 t] W fun e w' => e = .returned (.tuple #[]) ∧ Keeps W w' := by
  have K1 := Lib.hid (ky_box W (.cells #[.int .i64 o, .int .i64 d] tKy))
  have CN := Lib.hid (zw_none (h.keeps K1.out))
  clear h
  unfold kyV at *
  go_enter Try.func28, Try.ntmps28
  go_wp2_with (go_at_call 31; refine CN.out.mono ?_; rintro e w1 ⟨rfl, rfl⟩)
  (try simp only [Exit.inBlock, Exit.then]); refine bodyPost_ret (results_none rfl _ _ _) rfl ?_
  exact ⟨rfl, K1.out⟩
theorem zw_start {W : World} {v : Value} (h : NoneW W v) (o d now : Int) :
    Calls Try.prog 21 #[v, kyV o d, .int .i64 now] W fun e w' => e = .returned (.tuple #[]) ∧ Keeps W w' := by
  have K1 := Lib.hid (ky_box W (.cells #[.int .i64 o, .int .i64 d] tKy))
  have CB := Lib.hid (zw_begin (h.keeps K1.out) o d now 1)
  clear h
  unfold kyV at *
  go_enter Try.func21, Try.ntmps21
  go_wp2_with fail
  refine CB.out.mono ?_
  rintro e w1 ⟨rfl, k1⟩
  have H1 := Lib.hid (K1.out.trans k1)
  clear k1
  go_wp2
  go_end0
  exact ⟨rfl, H1.out⟩
theorem zw_due {W : World} {v : Value} (h : NoneW W v) (o d now : Int) :
    Calls Try.prog 10 #[v, kyV o d, .int .i64 now] W fun e w' => e = .returned (.tuple #[]) ∧ Keeps W w' := by
  have K1 := Lib.hid (ky_box W (.cells #[.int .i64 o, .int .i64 d] tKy))
  have CB := Lib.hid (zw_begin (h.keeps K1.out) o d now 0)
  clear h
  unfold kyV at *
  go_enter Try.func10, Try.ntmps10
  go_wp2_with fail
  refine CB.out.mono ?_
  rintro e w1 ⟨rfl, k1⟩
  have H1 := Lib.hid (K1.out.trans k1)
  clear k1
  go_wp2
  go_end0
  exact ⟨rfl, H1.out⟩
theorem zw_stop {W : World} {v : Value} (h : NoneW W v) (o d : Int) :
    Calls Try.prog 12 #[v, kyV o d] W fun e w' => e = .returned (.tuple #[]) ∧ Keeps W w' := by
  have K1 := Lib.hid (ky_box W (.cells #[.int .i64 o, .int .i64 d] tKy))
  have CN := Lib.hid (zw_none (h.keeps K1.out))
  clear h
  unfold kyV at *
  go_enter Try.func12, Try.ntmps12
  go_wp2_with (go_at_call 31; refine CN.out.mono ?_; rintro e w1 ⟨rfl, rfl⟩)
  go_end0
  exact ⟨rfl, K1.out⟩
theorem zw_again {W : World} {v : Value} (h : NoneW W v) (o d now : Int) :
    Calls Try.prog 15 #[v, kyV o d, .int .i64 now] W fun e w' => e = .returned (.bool false) ∧ Keeps W w' := by
  have K1 := Lib.hid (ky_box W (.cells #[.int .i64 o, .int .i64 d] tKy))
  have CN := Lib.hid (zw_none (h.keeps K1.out))
  clear h
  unfold kyV at *
  go_enter Try.func15, Try.ntmps15
  go_wp2_with (go_at_call 31; refine CN.out.mono ?_; rintro e w1 ⟨rfl, rfl⟩)
  go_ret
  exact ⟨rfl, K1.out⟩
theorem zw_list {W : World} {v : Value} (h : NoneW W v) :
    Calls Try.prog 25 #[v] W fun e w' => e = .returned (.slice none 0 0) ∧ w' = W := by
  have CN := Lib.hid (zw_none h)
  clear h
  go_enter Try.func25, Try.ntmps25
  go_wp2_with fail
  refine CN.out.mono ?_
  rintro e w1 ⟨rfl, rfl⟩
  go_wp2
  go_ret
  exact ⟨rfl, rfl⟩
theorem zw_copy {W : World} {v : Value} (h : NoneW W v) :
    Calls Try.prog 20 #[v] W fun e w' => e = .returned (.pointer none) ∧ w' = W := by
  have CN := Lib.hid (zw_none h)
  clear h
  go_enter Try.func20, Try.ntmps20
  go_wp2_with fail
  refine CN.out.mono ?_
  rintro e w1 ⟨rfl, rfl⟩
  go_wp2
  go_ret
  exact ⟨rfl, rfl⟩
theorem zw_tick {W : World} {v : Value} (h : NoneW W v) (now : Int) :
    Calls Try.prog 19 #[v, .int .i64 now] W fun e w' => e = .returned (.slice none 0 0) ∧ w' = W := by
  have CT := Lib.hid (pw_tick now W)
  have CL := Lib.hid (zw_list h)
  generalize near now = m at CT
  clear h
  go_enter Try.func19, Try.ntmps19
  go_wp2_with fail
  refine CT.out.mono ?_
  rintro e w1 ⟨rfl, h1⟩
  obtain rfl : W = w1 := h1.symm
  go_wp2_with fail
  refine CL.out.mono ?_
  rintro e w1 ⟨rfl, h1⟩
  obtain rfl : W = w1 := h1.symm
  go_wp2_with fail
  go_loopw [5, 13] (fun v5 v13 X => v5 = .slice none 0 0 ∧ v13 = .int .i64 0 ∧ X = W) (fun _ _ _ => 0)
  case atStart => exact ⟨rfl, rfl, rfl⟩
  case round =>
    obtain ⟨rfl, rfl, rfl⟩ := hrel
    go_wp2
    go_ret
    exact ⟨rfl, rfl⟩
set_option maxHeartbeats 8000000 in
set_option maxRecDepth 100000 in
theorem waitsNone_go (x : Ac) (W : World) (hx : AcOk x) (ht : True) :
    Calls Try.prog 5 #[acV x] W fun e w' => e = .returned (.bool true) ∧ Keeps W w' := by
  obtain ⟨kd, o, d, n⟩ := x
  obtain ⟨w1, hw1⟩ : ∃ w1, W.alloc (.cells #[.int .u8 (kd : Int), .int .i64 o, .int .i64 d, .int .i64 n] 30) = w1 := ⟨_, rfl⟩
  have K1 : Hid (Keeps W w1) := Lib.hid (hw1 ▸ wbox _ _)
  have B1 : Hid (w1.heap[W.heap.size]? = some (.cells #[.int .u8 (kd : Int), .int .i64 o, .int .i64 d, .int .i64 n] 30 (0, 0))) := Lib.hid (hw1 ▸ heap_alloc_new _ _)
  have HB : Hid (∀ X, Keeps w1 X → X.cell? ⟨W.heap.size, 1, none⟩ = some (.int .i64 o) ∧ X.cell? ⟨W.heap.size, 2, none⟩ = some (.int .i64 d) ∧ X.cell? ⟨W.heap.size, 3, none⟩ = some (.int .i64 n)) := Lib.hid fun X k => by
    have := wbox_keep B1.out k
    simp [World.cell?, this]
  have EW1 := Lib.hid hw1
  have AS : Hid (∀ X, Calls Try.prog 8 #[] X fun e w' => e = .returned (.bool true) ∧ Keeps X w') := Lib.hid fun X => la_waited (P := wtP) X (fun _ _ => trivial)
  have CS := Lib.hid fun X v (h : NoneW X v) => zw_start h o d n
  have CD := Lib.hid fun X v (h : NoneW X v) => zw_due h o d n
  have CP := Lib.hid fun X v (h : NoneW X v) => zw_stop h o d
  have CA := Lib.hid fun X v (h : NoneW X v) => zw_again h o d n
  have CT := Lib.hid fun X v (h : NoneW X v) => zw_tick h n
  have CL := Lib.hid fun X v (h : NoneW X v) => zw_list h
  have CC := Lib.hid fun X v (h : NoneW X v) => zw_copy h
  clear hx hw1
  unfold acV
  unfold kyV at *
  go_enter Try.func5, Try.ntmps5
  go_upto_region 1 with (fail)
  rw [EW1.out]
  clear EW1
  go_wp2_with fail
  go_loopw [3, 4] (fun v3 v4 wr => ∃ (t : Nat) (u : Value), t ≤ 2 ∧ v4 = .int .i64 (t : Int) ∧ u = v3 ∧ NoneW wr u ∧ Keeps w1 wr) (fun _ v4 _ => 2 - (intOf v4).toNat)
  case atStart => exact ⟨0, _, by omega, rfl, rfl, Or.inl rfl, Keeps.refl _⟩
  case round =>
    obtain ⟨t, u, ht, rfl, rfl, hn, hk⟩ := hrel
    have HN := Lib.hid hn
    have HKR := Lib.hid hk
    clear hn hk
    by_cases hlt : t < 2
    · have ht1 : (t : Int) < 2 := by omega
      obtain ⟨x1, x2, x3⟩ := HB.out wr HKR.out
      go_wp2_with fail
      refine (CS.out _ _ HN.out).mono ?_
      rintro e w2 ⟨rfl, k2⟩
      have K2 := Lib.hid (HKR.out.trans k2)
      have N2 := Lib.hid (HN.out.keeps k2)
      clear k2 x1 x2 x3
      obtain ⟨x1, x2, x3⟩ := HB.out w2 K2.out
      go_wp2_with fail
      refine (CD.out _ _ N2.out).mono ?_
      rintro e w3 ⟨rfl, k3⟩
      have K3 := Lib.hid (K2.out.trans k3)
      have N3 := Lib.hid (N2.out.keeps k3)
      clear k3 x1 x2 x3
      obtain ⟨x1, x2, x3⟩ := HB.out w3 K3.out
      go_wp2_with fail
      refine (CP.out _ _ N3.out).mono ?_
      rintro e w4 ⟨rfl, k4⟩
      have K4 := Lib.hid (K3.out.trans k4)
      have N4 := Lib.hid (N3.out.keeps k4)
      clear k4 x1 x2 x3
      obtain ⟨x1, x2, x3⟩ := HB.out w4 K4.out
      go_wp2_with fail
      refine (CA.out _ _ N4.out).mono ?_
      rintro e w5 ⟨rfl, k5⟩
      have K5 := Lib.hid (K4.out.trans k5)
      have N5 := Lib.hid (N4.out.keeps k5)
      clear k5 x1 x2 x3
      obtain ⟨x1, x2, x3⟩ := HB.out w5 K5.out
      go_wp2_with fail
      refine (CT.out _ _ N5.out).mono ?_
      rintro e w6 ⟨rfl, h6⟩
      obtain rfl : w5 = w6 := h6.symm
      go_wp2_with fail
      refine (CL.out _ _ N5.out).mono ?_
      rintro e w6 ⟨rfl, h6⟩
      obtain rfl : w5 = w6 := h6.symm
      go_wp2_with fail
      refine (CC.out _ _ N5.out).mono ?_
      rintro e w6 ⟨rfl, h6⟩
      obtain rfl : w5 = w6 := h6.symm
      clear x1 x2 x3
      go_wp2_with fail
      go_roundw
      case measure => simp [intOf]; omega
      case rel => exact ⟨t + 1, _, by omega, by go_num, rfl, Or.inr ⟨w5.heap.size, rfl, by simp, by simp⟩, K5.out.trans (wbox _ _)⟩
    · have ht1 : ¬ (t : Int) < 2 := by omega
      go_wp2_with fail
      refine (AS.out _).mono ?_
      rintro e w2 ⟨rfl, k2⟩
      have K2 := Lib.hid (K1.out.trans (HKR.out.trans k2))
      clear k2
      go_wp2
      go_ret
      exact ⟨rfl, K2.out⟩
/-! ### The laws, over the program's waits -/
theorem waitsPlay_all (v : Value) (L : List Ac) (w : World) (h : AcsAt w v L) :
    Calls Try.prog 3 #[v] w fun e w' => e = .returned (.bool true) ∧ Keeps w w' := waitsPlay_go wtP v L w (fun _ _ => trivial) h
theorem waitsGap_all (t : Int) (w : World) (h : (Lit.int .i64 t).wf = true) :
    Calls Try.prog 4 #[.int .i64 t] w fun e w' => e = .returned (.bool true) ∧ Keeps w w' := waitsGap_go wtP t w (fun _ _ => trivial) (i64_of h)
theorem waitsTries_all (x : Int × Int) (v : Value) (U : Csv.Bs) (w : World) (h1 : I64 x.1) (h2 : I64 x.2) (hU : U8sAt w v U) :
    Calls Try.prog 6 #[kyV x.1 x.2, v] w fun e w' => e = .returned (.bool true) ∧ Keeps w w' := waitsTries_go wtP x.1 x.2 v U w (fun _ _ => trivial) h1 h2 hU
theorem waitsAlone_all (x y : Int × Int) (v : Value) (U : Csv.Bs) (w : World) (h1 : I64 x.1) (h2 : I64 x.2) (h3 : I64 y.1) (h4 : I64 y.2) (hU : U8sAt w v U) :
    Calls Try.prog 7 #[kyV x.1 x.2, kyV y.1 y.2, v] w fun e w' => e = .returned (.bool true) ∧ Keeps w w' := waitsAlone_go wtP x.1 x.2 y.1 y.2 v U w (fun _ _ => trivial) h1 h2 h3 h4 hU
end Wt
end Go.Proofs.Ytbemkcnikoiecaa
