
/- WaitsGap, WaitsTries: the walks. -/
import Derived.Test.YtbemkcnikoiecaaWtActs
import Derived.Test.YtbemkcnikoiecaaOpenArgs
import Derived.Test.YtbemkcnikoiecaaKyCP
set_option linter.unusedVariables false
set_option linter.unusedSimpArgs false
namespace Go.Proofs.Ytbemkcnikoiecaa
open Go.ChangeShapes Go.WideShapes Go.ChangeAt Go.RowKit Csv Ky Ob
namespace Wt
set_option maxHeartbeats 8000000 in
set_option maxRecDepth 100000 in
theorem waitsGap_go (P : WtP) (t : Int) (W : World) (hp : ∀ Y, Keeps W Y → P.Has Y) (ht : I64 t) :
    Calls Try.prog 4 #[.int .i64 t] W fun e w' => e = .returned (.bool true) ∧ Keeps W w' := by
  have AS : Hid (∀ X, Keeps W X → Calls Try.prog 8 #[] X fun e w' => e = .returned (.bool true) ∧ Keeps W w') := Lib.hid fun X k => (la_waited (P := P) X (fun Y kY => hp Y (k.trans kY))).mono fun e w' ⟨h1, h2⟩ => ⟨h1, k.trans h2⟩
  have CG : Hid (∀ n X, I64 n → Keeps W X → Calls Try.prog 23 #[.int .i64 n] X fun e w' => e = .returned (.int .i64 (gapN n)) ∧ Keeps W w') := Lib.hid fun n X h k => (P.gap n X h (hp _ k)).mono fun e w' ⟨h1, h2⟩ => ⟨h1, k.trans h2⟩
  have CR : Hid (∀ n X, Keeps W X → Calls Try.prog 24 #[.int .i64 n] X fun e w' => e = .returned (.int .i64 (gapN n)) ∧ Keeps W w') := Lib.hid fun n X k => (wr_gap n X).mono fun e w' ⟨h1, h2⟩ => ⟨h1, k.trans h2⟩
  have HT := Lib.hid ht
  clear hp ht
  go_enter Try.func4, Try.ntmps4
  go_wp2_with fail
  go_loopg [3] 41 (fun g v3 X => ∃ (k : Nat) (n : Int), k + g = 41 ∧ n = (k : Int) - 1 ∧ v3 = .int .i64 n ∧ Keeps W X)
  case atStart => exact ⟨0, -1, by omega, by omega, rfl, Keeps.refl _⟩
  case round =>
    obtain ⟨k, n, hk, hn, rfl, hw⟩ := hrel
    have HI := Lib.hid hk
    have HV := Lib.hid hw
    have HN := Lib.hid hn
    have ss : (gapN n != gapN n) = false := by simp
    clear hk hn hw
    cases gk with
    | zero =>
      have hz : ¬ (n < 40) := by have := HI.out; have := HN.out; omega
      have tt : (gapN t == gapN t) = true := by simp
      clear ss
      go_wp2_with fail
      refine (CG.out _ _ HT.out HV.out).mono ?_
      rintro e w1 ⟨rfl, k1⟩
      have K1 := Lib.hid k1
      clear k1
      go_wp2_with fail
      refine (CR.out _ _ K1.out).mono ?_
      rintro e w2 ⟨rfl, k2⟩
      have K2 := Lib.hid k2
      clear k2
      go_wp2_with fail
      refine (AS.out _ K2.out).mono ?_
      rintro e w3 ⟨rfl, k3⟩
      have K3 := Lib.hid k3
      clear k3
      go_wp2
      go_ret
      exact ⟨rfl, K3.out⟩
    | succ g =>
      have hlt : n < 40 := by have := HI.out; have := HN.out; omega
      have wi : Hid (wrap64 (n + 1) = n + 1) := Lib.hid (i64w (by have := HN.out; unfold top; omega) (by have := HI.out; have := HN.out; unfold top; omega))
      go_wp2_with fail
      refine (CG.out _ _ (by have := HN.out; have := HI.out; unfold I64 top; omega) HV.out).mono ?_
      rintro e w1 ⟨rfl, k1⟩
      have K1 := Lib.hid k1
      clear k1
      go_wp2_with fail
      refine (CR.out _ _ K1.out).mono ?_
      rintro e w2 ⟨rfl, k2⟩
      have K2 := Lib.hid k2
      clear k2
      go_wp2_with fail
      go_roundg g
      case measure => omega
      case rel => exact ⟨k + 1, n + 1, by have := HI.out; omega, by have := HN.out; omega, by rw [wi.out], K2.out⟩
/-- A deed alone, looked at up to a tick: what it is ahead of the next look, and behind it. -/
structure Sg (x : W5) (o d now a : Int) : Prop where
  key : x.o = o ∧ x.d = d
  t : x.t = a
  park : x.p = true → x.t = 5
  n : x.p = false → x.n ≤ now + 16
structure Sh (x : W5) (o d now a : Int) : Prop where
  key : x.o = o ∧ x.d = d
  t : x.t = a
  park : x.p = true → a = 5
  n : x.p = false → now < x.n ∧ x.n ≤ now + 16
theorem Sh.next {x : W5} {o d now a : Int} (h : Sh x o d now a) : Sg x o d now a := ⟨h.key, h.t, fun hp => h.t.trans (h.park hp), fun hp => (h.n hp).2⟩
theorem near_self {n : Int} (h0 : 0 ≤ n) (h1 : n ≤ 100000) : near n = n := by
  unfold near far
  rw [if_neg (by omega), if_pos (by omega)]
theorem gap_one {t : Int} (h : 1 ≤ t) : 1 ≤ gapN t ∧ gapN t ≤ 16 := by
  have := gap_in t
  refine ⟨?_, this.2⟩
  unfold gapN
  rw [if_neg (by omega)]
  split
  · omega
  · split
    · omega
    · split
      · omega
      · split <;> omega
theorem sg_tick {x : W5} {o d now0 now a : Int} (h : Sg x o d now0 a) (hx : Ok x) (h0 : now0 ≤ now) : Sh (tick1 now x) o d now (a + (if toldB now x = true then 1 else 0)) := by
  have t0 := hx.t0
  have t5 := hx.t5
  have ht := h.t
  cases hp : x.p with
  | true =>
    have hb : nowB now x = false := by unfold nowB; rw [hp]; rfl
    have h1 : tick1 now x = x := by unfold tick1; rw [if_neg (by rw [hb]; exact Bool.false_ne_true)]
    have h2 : toldB now x = false := by unfold toldB; rw [hb]; rfl
    rw [h1, h2]
    exact ⟨h.key, by simpa using ht, fun _ => (by have := h.park hp; simp; omega), fun q => (by rw [hp] at q; cases q)⟩
  | false =>
    have hn := h.n hp
    by_cases hw : x.n ≤ now
    · have hb : nowB now x = true := by unfold nowB; rw [hp]; simpa using hw
      by_cases h5 : 5 ≤ x.t
      · have h1 : tick1 now x = { x with p := true } := by unfold tick1; rw [if_pos hb, if_pos h5]
        have h2 : toldB now x = false := by unfold toldB; rw [hb]; simp; omega
        rw [h1, h2]
        exact ⟨h.key, by simpa using ht, fun _ => (by simp; omega), fun q => (by cases q)⟩
      · have h1 : tick1 now x = { x with t := x.t + 1, n := now + gapN (x.t + 1) } := by unfold tick1; rw [if_pos hb, if_neg h5]
        have h2 : toldB now x = true := by unfold toldB; rw [hb]; simp; omega
        have g := gap_one (t := x.t + 1) (by omega)
        rw [h1, h2]
        refine ⟨h.key, by show x.t + 1 = _; simp; omega, fun q => ?_, fun _ => ?_⟩
        · have : x.p = true := q
          rw [hp] at this; cases this
        · show now < now + gapN (x.t + 1) ∧ now + gapN (x.t + 1) ≤ now + 16
          omega
    · have hb : nowB now x = false := by unfold nowB; rw [hp]; simp; omega
      have h1 : tick1 now x = x := by unfold tick1; rw [if_neg (by rw [hb]; exact Bool.false_ne_true)]
      have h2 : toldB now x = false := by unfold toldB; rw [hb]; rfl
      rw [h1, h2]
      exact ⟨h.key, by simpa using ht, fun q => (by rw [hp] at q; cases q), fun _ => ⟨by omega, by omega⟩⟩
theorem told_one (x : W5) (now : Int) : (toldL [x] now).length = if toldB (near now) x = true then 1 else 0 := by
  unfold toldL
  by_cases h : toldB (near now) x = true
  · simp [h]
  · have h' : toldB (near now) x = false := by simpa using h
    simp [h']
theorem start_one {o d : Int} (h : Chk o d) : startL [] o d 0 = [⟨o, d, 1, 1, false⟩] ∧ dueL [] o d 0 = [⟨o, d, 0, 0, false⟩] := by
  constructor
  · unfold startL putL
    rw [if_pos (check_iff.2 h)]
    rfl
  · unfold dueL putL
    rw [if_pos (check_iff.2 h)]
    rfl
theorem stop_one {x : W5} {o d : Int} (h : x.o = o ∧ x.d = d) : stopL [x] o d = [] := by unfold stopL; simp [same_iff.2 h]
section
variable {P : WtP} {wb X : World} {b b' : Nat} {F G : Nat → Prop} {l l' l2 : List W5}
theorem tw_first {f : FuncId} {args : Array Value} {v : Value} (h : Two P.At wb X b F l b' G l') (c : Calls Try.prog f args X fun e w' => e = .returned v ∧ Goes P.At X w' b F l2) : Calls Try.prog f args X fun e w' => e = .returned v ∧ ∃ F2, Two P.At wb w' b F2 l2 b' G l' :=
  c.mono fun e w' ⟨h1, h2⟩ => ⟨h1, h.first P.lies h2⟩
theorem tw_second {f : FuncId} {args : Array Value} {v : Value} (h : Two P.At wb X b F l b' G l') (c : Calls Try.prog f args X fun e w' => e = .returned v ∧ Goes P.At X w' b' G l2) : Calls Try.prog f args X fun e w' => e = .returned v ∧ ∃ G2, Two P.At wb w' b F l b' G2 l2 :=
  c.mono fun e w' ⟨h1, h2⟩ => ⟨h1, h.second P.lies h2⟩
theorem tw_tick1 (h : Two P.At wb X b F l b' G l') (hp : P.Has X) (now : Int) (hn : I64 now) : Calls Try.prog 19 #[.pointer (some ⟨b, 0, none⟩), .int .i64 now] X fun e w' => ∃ u, e = .returned u ∧ keK.Own X.heap.size w' u (toldL l now) ∧ ∃ F2, Two P.At wb w' b F2 (tickL l now) b' G l' :=
  (P.tick now hn hp h.one).mono fun e w' ⟨u, h1, h2, h3⟩ => ⟨u, h1, h2, h.first P.lies h3⟩
theorem tw_tick2 (h : Two P.At wb X b F l b' G l') (hp : P.Has X) (now : Int) (hn : I64 now) : Calls Try.prog 19 #[.pointer (some ⟨b', 0, none⟩), .int .i64 now] X fun e w' => ∃ u, e = .returned u ∧ keK.Own X.heap.size w' u (toldL l' now) ∧ (∃ G2, Two P.At wb w' b F l b' G2 (tickL l' now)) ∧ ∀ i, i < X.heap.size → ¬ G i → w'.heap[i]? = X.heap[i]? :=
  (P.tick now hn hp h.two).mono fun e w' ⟨u, h1, h2, h3⟩ => ⟨u, h1, h2, h.second P.lies h3, h3.only.same⟩
/-- A list of one, as it is told. -/
theorem list_one {u : Value} {x : W5} {B : Nat} {W : World} (h : pwK.Own B W u [x]) : ∃ g c, u = .slice (some ⟨g, 0, none⟩) 1 c ∧ ∀ Y, Keeps W Y → Y.cell? ⟨g, 2, none⟩ = some (.int .i64 x.t) ∧ Y.cell? ⟨g, 3, none⟩ = some (.int .i64 x.n) ∧ Y.cell? ⟨g, 4, none⟩ = some (.bool x.p) := by
  rcases h.2 with ⟨_, e0⟩ | ⟨g, cap, cur, rfl, _⟩
  · cases e0
  · refine ⟨g, cap, rfl, fun Y k => ?_⟩
    have hy := pwK.own_keeps h k
    exact ⟨pwK.own_at hy (k := 0) (x := x) rfl (j := 2) rfl, pwK.own_at hy (k := 0) (x := x) rfl (j := 3) rfl, pwK.own_at hy (k := 0) (x := x) rfl (j := 4) rfl⟩
end
theorem u8_here {wb : World} {pl : Option Addr} {N cl : Nat} {U : Csv.Bs} (HV : ∀ X, Keeps wb X → U8sAt X (.slice pl N cl) U) (hN : U.length = N) {k : Nat} (hk : k < N) : ∃ ad, pl = some ad ∧ ∃ u : Nat, u < 256 ∧ U[k]? = some (UInt8.ofNat u) ∧ ∀ X, Keeps wb X → X.cell? (ad.add k) = some (.int .u8 (u : Int)) := by
  obtain ⟨c, hc⟩ : ∃ c, U[k]? = some c := ⟨_, List.getElem?_eq_getElem (by rw [hN]; exact hk)⟩
  obtain ⟨p, c0, e, _, h⟩ := HV wb (Keeps.refl _)
  simp only [Value.slice.injEq] at e
  obtain ⟨rfl, _, rfl⟩ := e
  obtain ⟨ad, ha, _⟩ := h k c hc
  refine ⟨ad, ha, c.toNat, c.toNat_lt, by rw [hc]; simp, fun X kX => ?_⟩
  obtain ⟨p', c', e', _, h'⟩ := HV X kX
  simp only [Value.slice.injEq] at e'
  obtain ⟨rfl, _, rfl⟩ := e'
  obtain ⟨ad', ha', q⟩ := h' k c hc
  rw [ha] at ha'
  cases ha'
  exact q
theorem bv_u8 (c : UInt8) : ∃ u : Nat, bv c = .int .u8 (u : Int) ∧ u < 256 := ⟨c.toNat, rfl, c.toNat_lt⟩
set_option maxHeartbeats 16000000 in
set_option maxRecDepth 100000 in
theorem waitsTries_go (P : WtP) (o d : Int) (v : Value) (U : Csv.Bs) (W : World) (hp : ∀ Y, Keeps W Y → P.Has Y) (ho : I64 o) (hd : I64 d) (hU : U8sAt W v U) :
    Calls Try.prog 6 #[kyV o d, v] W fun e w' => e = .returned (.bool true) ∧ Keeps W w' := by
  obtain ⟨w1, hw1⟩ : ∃ w1, W.alloc (keBox o d) = w1 := ⟨_, rfl⟩
  have K1 : Hid (Keeps W w1) := Lib.hid (hw1 ▸ wbox _ _)
  have B1 : Hid (∀ X, Keeps w1 X → X.cell? ⟨W.heap.size, 0, none⟩ = some (.int .i64 o) ∧ X.cell? ⟨W.heap.size, 1, none⟩ = some (.int .i64 d)) := Lib.hid fun X k => ke_box_cells (wbox_keep (hw1 ▸ heap_alloc_new _ _) k)
  have AS : Hid (∀ X, Keeps w1 X → Calls Try.prog 8 #[] X fun e w' => e = .returned (.bool true) ∧ Keeps w1 w') := Lib.hid fun X k => (la_waited (P := P) X (fun Y kY => hp Y ((K1.out.trans k).trans kY))).mono fun e w' ⟨h1, h2⟩ => ⟨h1, k.trans h2⟩
  have HP : Hid (∀ Y, Keeps w1 Y → P.Has Y) := Lib.hid fun Y k => hp Y (K1.out.trans k)
  have CK : Hid (∀ X, Keeps w1 X → Calls Try.prog 26 #[kyV o d] X fun e w' => e = .returned (.bool (checkK o d)) ∧ Keeps w1 w') := Lib.hid fun X k => (pk_check o d X).mono fun e w' ⟨h1, h2⟩ => ⟨h1, k.trans h2⟩
  have HU : Hid (∀ X, Keeps w1 X → U8sAt X v U) := Lib.hid fun X k => hU.keeps (K1.out.trans k)
  obtain ⟨pu, cu, rfl, hmx, _⟩ := hU
  obtain ⟨N, hN⟩ : ∃ N : Nat, U.length = N := ⟨_, rfl⟩
  rw [hN] at HU hmx ⊢
  have HN := Lib.hid hN
  have HMX : Hid (N ≤ 9223372036854775807) := Lib.hid (by unfold maxLen at hmx; omega)
  have HO := Lib.hid ho
  have HD := Lib.hid hd
  have EW1 := Lib.hid hw1
  obtain ⟨z0, z1⟩ := B1.out _ (Keeps.refl _)
  clear hN hmx hp ho hd hw1
  unfold keBox at EW1
  unfold kyV at *
  go_enter Try.func6, Try.ntmps6
  go_upto_region 1 with (fail)
  rw [EW1.out]
  clear EW1
  by_cases hbig : (100 : Int) < (N : Int)
  · go_wp2_with fail
    refine (AS.out _ (Keeps.refl _)).mono ?_
    rintro e w2 ⟨rfl, k2⟩
    have K2 := Lib.hid k2
    clear k2
    go_wp2
    go_ret
    exact ⟨rfl, K1.out.trans K2.out⟩
  · have n100 : Hid (N ≤ 100) := Lib.hid (by omega)
    obtain ⟨B, hB⟩ : ∃ B, checkK o d = B := ⟨_, rfl⟩
    have HB := Lib.hid hB
    rw [hB] at CK
    clear hB
    go_wp2_with fail
    refine (CK.out _ (Keeps.refl _)).mono ?_
    rintro e w2 ⟨rfl, k2⟩
    have K2 := Lib.hid k2
    clear k2 z0 z1 CK hbig
    cases B with
    | false =>
      go_wp2_with fail
      refine (AS.out _ K2.out).mono ?_
      rintro e w3 ⟨rfl, k3⟩
      have K3 := Lib.hid k3
      clear k3
      go_wp2
      go_ret
      exact ⟨rfl, K1.out.trans K3.out⟩
    | true =>
      have CHK := Lib.hid (check_iff.1 HB.out)
      have ST := Lib.hid (start_one CHK.out)
      go_wp2_with fail
      refine (mi_new (P := P) (wb := w1) (E := E0) (HP.out _ K2.out) K2.out (e0 _)).mono ?_
      rintro e w3 ⟨b, rfl, m3⟩
      have M3 := Lib.hid m3
      clear m3
      go_wp2_with fail
      refine (P.new w3 (HP.out _ M3.out.k)).mono ?_
      intro e w4 hnew
      obtain ⟨b', F, G, rfl, h4⟩ := two_new P.lies M3.out hnew
      have T4 := Lib.hid h4
      obtain ⟨z0, z1⟩ := B1.out _ h4.k
      clear h4 hnew
      go_wp2_with fail
      refine (tw_first T4.out (P.start o d 0 HO.out HD.out (small (by omega) (by omega)) (HP.out _ T4.out.k) T4.out.one)).mono ?_
      rintro e w5 ⟨rfl, F5, h5⟩
      have T5 := Lib.hid h5
      clear h5 z0 z1
      obtain ⟨z0, z1⟩ := B1.out _ T5.out.k
      go_wp2_with fail
      refine (tw_second T5.out (P.due o d 0 HO.out HD.out (small (by omega) (by omega)) (HP.out _ T5.out.k) T5.out.two)).mono ?_
      rintro e w6 ⟨rfl, G6, h6⟩
      rw [ST.out.1, ST.out.2] at h6
      have T6 := Lib.hid h6
      clear h6 z0 z1
      have S6 : Hid (Sg ⟨o, d, 1, 1, false⟩ o d 0 1 ∧ Sg ⟨o, d, 0, 0, false⟩ o d 0 0) := Lib.hid ⟨⟨⟨rfl, rfl⟩, rfl, fun q => (by cases q), fun _ => (by show (1 : Int) ≤ 0 + 16; omega)⟩, ⟨⟨rfl, rfl⟩, rfl, fun q => (by cases q), fun _ => (by show (0 : Int) ≤ 0 + 16; omega)⟩⟩
      go_wp2_with fail
      go_loopg [7, 8, 9, 10] N (fun g v7 v8 v9 v10 X => ∃ (k : Nat) (T A D : Int) (x y : W5) (F G : Nat → Prop), k + g = N ∧ v7 = .int .i64 T ∧ v8 = .int .i64 A ∧ v9 = .int .i64 D ∧ v10 = .int .i64 (k : Int) ∧ (0 ≤ T ∧ T ≤ 255 * k) ∧ Sg x o d T A ∧ Sg y o d T D ∧ Two P.At w1 X b F [x] b' G [y])
      case atStart => exact ⟨0, 0, 1, 0, _, _, F5, G6, by omega, rfl, rfl, rfl, rfl, by omega, S6.out.1, S6.out.2, T6.out⟩
      case round =>
        obtain ⟨k, T, A, D, x, y, F0, G0, hk, rfl, rfl, rfl, rfl, hT, hx, hy, htw⟩ := hrel
        have HI := Lib.hid hk
        have HT := Lib.hid hT
        have SX := Lib.hid hx
        have SY := Lib.hid hy
        have TW := Lib.hid htw
        obtain ⟨z0, z1⟩ := B1.out _ htw.k
        clear hk hT hx hy htw
        cases gk with
        | zero =>
          obtain rfl : k = N := by have := HI.out; omega
          have hz : ¬ ((k : Int) < (k : Int)) := by omega
          go_wp2_with fail
          refine (tw_first TW.out (P.stop o d HO.out HD.out (HP.out _ TW.out.k) TW.out.one)).mono ?_
          rintro e w7 ⟨rfl, F7, h7⟩
          rw [stop_one SX.out.key] at h7
          have T7 := Lib.hid h7
          clear h7 z0 z1 hz
          go_wp2_with fail
          refine (P.list (HP.out _ T7.out.k) T7.out.one).mono ?_
          rintro e w8 ⟨u8, rfl, o8, k8⟩
          have T8 := Lib.hid (T7.out.keeps P.lies k8)
          obtain ⟨p8, c8, rfl⟩ := src_slice pwK (pwK.own_src o8)
          clear o8 k8
          simp only [List.length_nil]
          go_wp2_with fail
          refine (tw_tick1 T8.out (HP.out _ T8.out.k) 1073741824 (by unfold I64 top; omega)).mono ?_
          rintro e w9 ⟨u9, rfl, o9, F9, h9⟩
          obtain ⟨p9, c9, rfl⟩ := src_slice keK (keK.own_src o9)
          have T9 := Lib.hid h9
          have e9 : (toldL ([] : List W5) 1073741824).length = 0 := rfl
          rw [e9]
          clear o9 h9 e9
          go_wp2_with fail
          refine (AS.out _ T9.out.k).mono ?_
          rintro e wa ⟨rfl, ka⟩
          have KA := Lib.hid ka
          clear ka
          go_wp2
          go_ret
          exact ⟨rfl, K1.out.trans KA.out⟩
        | succ g =>
          have hlt : k < N := by have := HI.out; omega
          obtain ⟨ad, rfl, u, hu, _, hcu⟩ := u8_here HU.out HN.out hlt
          have qz := hcu _ TW.out.k
          have hk1 : (k : Int) < (N : Int) := by omega
          have hk0 : (0 : Int) ≤ (k : Int) := by omega
          have wi : Hid (wrap64 ((k : Int) + 1) = (k : Int) + 1) := Lib.hid (i64w (by unfold top; omega) (by have := n100.out; unfold top; omega))
          obtain ⟨T1, hT1⟩ : ∃ T1, T + (u : Int) = T1 := ⟨_, rfl⟩
          have wT : wrap64 (T + (u : Int)) = T1 := (i64w (by have := HT.out; unfold top; omega) (by have := HT.out; have := n100.out; unfold top; omega)).trans hT1
          have HT1 : Hid (0 ≤ T1 ∧ T1 ≤ 255 * ((k + 1 : Nat) : Int) ∧ T ≤ T1 ∧ T1 ≤ 25500) := Lib.hid (by have := HT.out; have := n100.out; omega)
          have IT1 : Hid (I64 T1) := Lib.hid (by have := HT1.out; unfold I64 top; omega)
          have NS := Lib.hid (near_self HT1.out.1 (by have := HT1.out; omega))
          have IX := Lib.hid (P.inv TW.out.one)
          have IY := Lib.hid (P.inv TW.out.two)
          have OX := Lib.hid (IX.out.ok x (by simp))
          have OY := Lib.hid (IY.out.ok y (by simp))
          have SHX := Lib.hid (sg_tick SX.out OX.out HT1.out.2.2.1)
          have SHY := Lib.hid (sg_tick SY.out OY.out HT1.out.2.2.1)
          have TKX : Hid (tickL [x] T1 = [tick1 T1 x]) := Lib.hid (by unfold tickL; rw [NS.out]; rfl)
          have TKY : Hid (tickL [y] T1 = [tick1 T1 y]) := Lib.hid (by unfold tickL; rw [NS.out]; rfl)
          have OX1 := Lib.hid (tick1_ok OX.out HT1.out.1 (by have := HT1.out; unfold far; omega))
          have OY1 := Lib.hid (tick1_ok OY.out HT1.out.1 (by have := HT1.out; unfold far; omega))
          obtain ⟨nx, hnx⟩ : ∃ n, (toldL [x] T1).length = n := ⟨_, rfl⟩
          obtain ⟨ny, hny⟩ : ∃ n, (toldL [y] T1).length = n := ⟨_, rfl⟩
          have HNX := Lib.hid hnx
          have HNY := Lib.hid hny
          obtain ⟨A1, hA1⟩ : ∃ A1, A + (nx : Int) = A1 := ⟨_, rfl⟩
          obtain ⟨D1, hD1⟩ : ∃ D1, D + (ny : Int) = D1 := ⟨_, rfl⟩
          have SX1 : Hid (Sh (tick1 T1 x) o d T1 A1) := Lib.hid (by
            have h := SHX.out
            have e : (if toldB T1 x = true then (1 : Int) else 0) = (nx : Int) := by rw [← hnx, told_one, NS.out]; split <;> rfl
            rw [e, hA1] at h; exact h)
          have SY1 : Hid (Sh (tick1 T1 y) o d T1 D1) := Lib.hid (by
            have h := SHY.out
            have e : (if toldB T1 y = true then (1 : Int) else 0) = (ny : Int) := by rw [← hny, told_one, NS.out]; split <;> rfl
            rw [e, hD1] at h; exact h)
          have BA : Hid (0 ≤ A1 ∧ A1 ≤ 5) := Lib.hid (by have h1 := OX1.out.t0; have h2 := OX1.out.t5; rw [SX1.out.t] at h1 h2; exact ⟨h1, h2⟩)
          have BD : Hid (0 ≤ D1 ∧ D1 ≤ 5) := Lib.hid (by have h1 := OY1.out.t0; have h2 := OY1.out.t5; rw [SY1.out.t] at h1 h2; exact ⟨h1, h2⟩)
          have WA : Hid (wrap64 (A + (nx : Int)) = A1) := Lib.hid (by rw [hA1]; exact i64w (by have := BA.out; unfold top; omega) (by have := BA.out; unfold top; omega))
          have WD : Hid (wrap64 (D + (ny : Int)) = D1) := Lib.hid (by rw [hD1]; exact i64w (by have := BD.out; unfold top; omega) (by have := BD.out; unfold top; omega))
          clear hlt hcu hT1 hnx hny hA1 hD1
          go_wp2_with fail
          refine (tw_tick1 TW.out (HP.out _ TW.out.k) T1 IT1.out).mono ?_
          rintro e w7 ⟨u7, rfl, o7, F7, h7⟩
          obtain ⟨p7, c7, rfl⟩ := src_slice keK (keK.own_src o7)
          rw [HNX.out, wT]
          have T7 := Lib.hid h7
          clear o7 h7 wT qz
          have wA := WA.out
          go_wp2_with fail
          refine (tw_tick2 T7.out (HP.out _ T7.out.k) T1 IT1.out).mono ?_
          rintro e w8 ⟨u8, rfl, o8, ⟨G8, h8⟩, _⟩
          obtain ⟨p8, c8, rfl⟩ := src_slice keK (keK.own_src o8)
          rw [HNY.out, wA]
          have T8 : Hid (Two P.At w1 w8 b F7 [tick1 T1 x] b' G8 [tick1 T1 y]) := Lib.hid (by rw [← TKX.out, ← TKY.out]; exact h8)
          clear o8 h8 wA
          have wD := WD.out
          go_wp2_with fail
          refine (P.list (HP.out _ T8.out.k) T8.out.one).mono ?_
          rintro e w9 ⟨u9, rfl, o9, k9⟩
          obtain ⟨g9, c9, rfl, cx⟩ := list_one o9
          have CX := Lib.hid cx
          have T9 := Lib.hid (T8.out.keeps P.lies k9)
          rw [wD]
          clear o9 k9 cx wD
          go_wp2_with fail
          refine (P.list (HP.out _ T9.out.k) T9.out.two).mono ?_
          rintro e wa ⟨ua, rfl, oa, ka⟩
          obtain ⟨ga, ca, rfl, cy⟩ := list_one oa
          obtain ⟨a0, _, _⟩ := cy _ (Keeps.refl _)
          obtain ⟨b0, b1, b2⟩ := CX.out _ ka
          have TA := Lib.hid (T9.out.keeps P.lies ka)
          rw [SY1.out.t] at a0
          rw [SX1.out.t] at b0
          clear oa ka cy z0 z1
          have h5a : ¬ ((5 : Int) < A1) := by have := BA.out; omega
          have h5d : ¬ ((5 : Int) < D1) := by have := BD.out; omega
          have saa : (A1 != A1) = false := by simp
          have sdd : (D1 != D1) = false := by simp
          have REL : Hid (Sg (tick1 T1 x) o d T1 A1 ∧ Sg (tick1 T1 y) o d T1 D1) := Lib.hid ⟨SX1.out.next, SY1.out.next⟩
          have PK : Hid ((tick1 T1 x).p = true → A1 = 5) := Lib.hid SX1.out.park
          have NK : Hid ((tick1 T1 x).p = false → T1 < (tick1 T1 x).n ∧ (tick1 T1 x).n ≤ T1 + 16) := Lib.hid SX1.out.n
          obtain ⟨pk, hpk⟩ : ∃ pk, (tick1 T1 x).p = pk := ⟨_, rfl⟩
          obtain ⟨n9, hn9⟩ : ∃ n9, (tick1 T1 x).n = n9 := ⟨_, rfl⟩
          rw [hpk] at b2 PK NK
          rw [hn9] at b1 NK
          clear hpk hn9
          cases pk with
          | true =>
            have h55 : (A1 != 5) = false := by rw [PK.out rfl]; rfl
            clear h5a
            have h5a : ¬ ((5 : Int) < A1) := by have := BA.out; omega
            go_wp2_with fail
            go_roundg g
            case measure => omega
            case rel => exact ⟨k + 1, T1, A1, D1, tick1 T1 x, tick1 T1 y, F7, G8, by have := HI.out; omega, rfl, rfl, rfl, by first | (rw [wi.out]; rfl) | rfl | go_num, ⟨HT1.out.1, HT1.out.2.1⟩, REL.out.1, REL.out.2, TA.out⟩
          | false =>
            obtain ⟨T16, hT16⟩ : ∃ T16, T1 + 16 = T16 := ⟨_, rfl⟩
            have wN : wrap64 (T1 + 16) = T16 := (i64w (by have := HT1.out; unfold top; omega) (by have := HT1.out; unfold top; omega)).trans hT16
            have hN1 : ¬ (T16 < n9) := by have := NK.out rfl; omega
            have hN2 : ¬ (n9 ≤ T1) := by have := NK.out rfl; omega
            clear hT16
            go_wp2_with fail
            go_roundg g
            case measure => omega
            case rel => exact ⟨k + 1, T1, A1, D1, tick1 T1 x, tick1 T1 y, F7, G8, by have := HI.out; omega, rfl, rfl, rfl, by first | (rw [wi.out]; rfl) | rfl | go_num, ⟨HT1.out.1, HT1.out.2.1⟩, REL.out.1, REL.out.2, TA.out⟩
end Wt
end Go.Proofs.Ytbemkcnikoiecaa
