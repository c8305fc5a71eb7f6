
/- The law's own functions over waits: Same, Keys, tells. -/
import Derived.Test.YtbemkcnikoiecaaWtP
set_option linter.unusedVariables false
set_option linter.unusedSimpArgs false
namespace Go.Proofs.Ytbemkcnikoiecaa
open Go.ChangeShapes Go.WideShapes Go.ChangeAt Go.RowKit Csv Ky Ob
namespace Wt
variable {P : WtP} {wb : World} {b : Nat} {v : Value} {l : List W5} {E : Nat → Prop}
set_option maxHeartbeats 4000000 in
set_option maxRecDepth 100000 in
theorem la_keys (v v' : Value) (l : List (Int × Int)) (W : World) (h : keK.Src W v l) (h' : keK.Src W v' l) (hl : l.length ≤ 1000) :
    Calls Try.prog 18 #[v, v'] W fun e w' => e = .returned (.bool true) ∧ Keeps W w' := by
  have H1 : Hid (∀ X, Keeps W X → keK.Src X v l) := Lib.hid fun X k => RowK.Src.keeps keK h k
  have H2 : Hid (∀ X, Keeps W X → keK.Src X v' l) := Lib.hid fun X k => RowK.Src.keeps keK h' k
  obtain ⟨p, c, rfl⟩ := src_slice keK h
  obtain ⟨p', c', rfl⟩ := src_slice keK h'
  obtain ⟨n, hn⟩ : ∃ n, l.length = n := ⟨_, rfl⟩
  have HN := Lib.hid hn
  rw [hn] at H1 H2 ⊢
  have hmx : n ≤ 1000 := by omega
  clear hn h h' hl
  go_enter Try.func18, Try.ntmps18
  go_wp2_with fail
  go_loopg [5] n (fun g v5 X => ∃ k : Nat, k + g = n ∧ v5 = .int .i64 (k : Int) ∧ Keeps W X)
  case atStart => exact ⟨0, by omega, rfl, Keeps.refl _⟩
  case round =>
    obtain ⟨k, hk, rfl, hw⟩ := hrel
    have HI := Lib.hid hk
    have HV := Lib.hid hw
    clear hk hw
    cases gk with
    | zero =>
      obtain rfl : k = n := by have := HI.out; omega
      have hz : ¬ ((k : Int) < (k : Int)) := by omega
      go_wp2
      go_ret
      exact ⟨rfl, HV.out⟩
    | succ g =>
      have hlt : k < n := by have := HI.out; omega
      obtain ⟨x, hx⟩ : ∃ x, l[k]? = some x := ⟨_, List.getElem?_eq_getElem (by rw [HN.out]; exact hlt)⟩
      obtain ⟨a1, rfl⟩ := src_some keK (H1.out _ (Keeps.refl _)) hx
      obtain ⟨a2, rfl⟩ := src_some keK (H2.out _ (Keeps.refl _)) hx
      obtain ⟨q0, q1⟩ := src_ke (H1.out _ HV.out) hx
      obtain ⟨r0, r1⟩ := src_ke (H2.out _ HV.out) hx
      have hk1 : (k : Int) < (n : Int) := by omega
      have hk0 : (0 : Int) ≤ (k : Int) := by omega
      have wi : Hid (wrap64 ((k : Int) + 1) = (k : Int) + 1) := Lib.hid (i64w (by unfold top; omega) (by unfold top; omega))
      clear hx hlt
      go_upto_region 6 with (fail)
      go_quiet (fail)
      have KQ : Hid (Keeps W (wr.drewN nq)) := Lib.hid (wdrewN HV.out nq)
      go_wp2_with fail
      go_roundg g
      case measure => omega
      case rel => exact ⟨k + 1, by have := HI.out; omega, by first | (rw [wi.out]; rfl) | rfl | go_num, KQ.out⟩
set_option maxHeartbeats 4000000 in
set_option maxRecDepth 100000 in
theorem la_same {X : World} (h : Pair P wb X b v l l) (hp : P.Has X) :
    Calls Try.prog 22 #[.pointer (some ⟨b, 0, none⟩), v] X fun e w' => e = .returned (.bool true) ∧ Keeps X w' := by
  have CL := Lib.hid (pr_list h hp)
  have H1 : Hid (∀ Y, Keeps X Y → rwK.Src Y v l) := Lib.hid fun Y k => RowK.Src.keeps rwK h.src k
  have hl := h.inv.len
  obtain ⟨p, c, rfl⟩ := src_slice rwK h.src
  obtain ⟨n, hn⟩ : ∃ n, l.length = n := ⟨_, rfl⟩
  have HN := Lib.hid hn
  rw [hn] at H1 ⊢
  have hmx : n ≤ 1000 := by omega
  clear hn h hl
  go_enter Try.func22, Try.ntmps22
  go_wp2_with fail
  refine CL.out.mono ?_
  rintro e W ⟨u, rfl, hu, kw⟩
  have H2 : Hid (∀ Y, Keeps W Y → pwK.Src Y u l) := Lib.hid fun Y k => RowK.Src.keeps pwK (pwK.own_src hu) k
  have KW := Lib.hid kw
  obtain ⟨p', c', rfl⟩ := src_slice pwK (pwK.own_src hu)
  rw [HN.out] at H2 ⊢
  clear hu kw CL
  go_wp2_with fail
  go_loopg [6] n (fun g v5 Y => ∃ k : Nat, k + g = n ∧ v5 = .int .i64 (k : Int) ∧ Keeps W Y)
  case atStart => exact ⟨0, by omega, rfl, Keeps.refl _⟩
  case round =>
    obtain ⟨k, hk, rfl, hw⟩ := hrel
    have HI := Lib.hid hk
    have HV := Lib.hid hw
    clear hk hw
    cases gk with
    | zero =>
      obtain rfl : k = n := by have := HI.out; omega
      have hz : ¬ ((k : Int) < (k : Int)) := by omega
      go_wp2
      go_ret
      exact ⟨rfl, KW.out.trans HV.out⟩
    | succ g =>
      have hlt : k < n := by have := HI.out; omega
      obtain ⟨x, hx⟩ : ∃ x, l[k]? = some x := ⟨_, List.getElem?_eq_getElem (by rw [HN.out]; exact hlt)⟩
      obtain ⟨a1, rfl⟩ := src_some rwK (H1.out _ (Keeps.refl _)) hx
      obtain ⟨a2, rfl⟩ := src_some pwK (H2.out _ (Keeps.refl _)) hx
      obtain ⟨q0, q1, q2, q3, q4⟩ := src_rw (H1.out _ (KW.out.trans HV.out)) hx
      obtain ⟨r0, r1, r2, r3, r4⟩ := src_pw (H2.out _ HV.out) hx
      have hk1 : (k : Int) < (n : Int) := by omega
      have hk0 : (0 : Int) ≤ (k : Int) := by omega
      have wi : Hid (wrap64 ((k : Int) + 1) = (k : Int) + 1) := Lib.hid (i64w (by unfold top; omega) (by unfold top; omega))
      clear hx hlt
      go_upto_region 7 with (fail)
      go_quiet (fail)
      have KQ : Hid (Keeps W (wr.drewN nq)) := Lib.hid (wdrewN HV.out nq)
      go_wp2_with fail
      go_roundg g
      case measure => omega
      case rel => exact ⟨k + 1, by have := HI.out; omega, by first | (rw [wi.out]; rfl) | rfl | go_num, KQ.out⟩
set_option maxHeartbeats 4000000 in
set_option maxRecDepth 100000 in
theorem la_tells_yes {X : World} (h : Mine P.At wb E X b l) (hp : ∀ Y, Keeps X Y → P.Has Y) (now o d : Int) (hn : I64 now) (ht : toldL l now = [(o, d)]) :
    Calls Try.prog 27 #[.pointer (some ⟨b, 0, none⟩), .int .i64 now, kyV o d, .bool true] X fun e w' => e = .returned (.bool true) ∧ Mine P.At wb E w' b (tickL l now) ∧ Still E X w' := by
  obtain ⟨w1, hw1⟩ : ∃ w1, X.alloc (keBox o d) = w1 := ⟨_, rfl⟩
  have K1 : Hid (Keeps X w1) := Lib.hid (hw1 ▸ wbox _ _)
  have B1 : Hid (w1.heap[X.heap.size]? = some (keBox o d)) := Lib.hid (hw1 ▸ heap_alloc_new _ _)
  have H1 := Lib.hid (h.keeps P.lies K1.out)
  have CT : Hid (Calls Try.prog 19 #[.pointer (some ⟨b, 0, none⟩), .int .i64 now] w1 fun e w' => ∃ u, e = .returned u ∧ keK.Own w1.heap.size w' u (toldL l now) ∧ (Mine P.At wb E w' b (tickL l now) ∧ Still E X w') ∧ w'.heap[X.heap.size]? = some (keBox o d)) := Lib.hid (by
    obtain ⟨⟨F, g1, g2⟩, g3, g4⟩ := h
    have hlt : ∀ i, F i → i < X.heap.size := fun i hi => P.lies.lt g1 hi
    exact (P.tick now hn (hp _ K1.out) (P.lies.keeps g1 K1.out)).mono fun e w' ⟨u, q1, q2, q3⟩ => ⟨u, q1, q2, ⟨(Mine.goes g2 (g3.trans K1.out) (fun i hi => Nat.lt_of_lt_of_le (g4 i hi) K1.out.size) q3).1, Still.trans (fun i hi => K1.out.block i (g4 i hi)) (Mine.goes g2 (g3.trans K1.out) (fun i hi => Nat.lt_of_lt_of_le (g4 i hi) K1.out.size) q3).2⟩, (q3.only.same _ (wbox_lt B1.out) (fun q => by have := hlt _ q; omega)).trans B1.out⟩)
  rw [ht] at CT
  have EW1 := Lib.hid hw1
  clear h hw1 ht
  unfold keBox at EW1
  unfold kyV
  go_enter Try.func27, Try.ntmps27
  go_upto_region 1 with (fail)
  rw [EW1.out]
  clear EW1
  go_wp2_with fail
  refine CT.out.mono ?_
  rintro e W ⟨u, rfl, hu, hm, hb⟩
  have HM := Lib.hid hm
  obtain ⟨z0, z1⟩ := ke_box_cells hb
  have hx : ([(o, d)] : List (Int × Int))[0]? = some (o, d) := rfl
  obtain ⟨p', c', rfl⟩ := src_slice keK (keK.own_src hu)
  obtain ⟨a, rfl⟩ := src_some keK (keK.own_src hu) hx
  obtain ⟨q0, q1⟩ := src_ke (keK.own_src hu) hx
  have ea : a.add (0 * 2) = a := rfl
  rw [ea] at q0 q1
  clear hu hm hb hx CT ea
  simp only [List.length_singleton]
  go_upto_region 2 with (fail)
  go_quiet (fail)
  have KQ := Lib.hid (HM.out.1.keeps P.lies (wdrewN (Keeps.refl W) nq))
  have SQ := Lib.hid (HM.out.2.trans (HM.out.1.still (wdrewN (Keeps.refl W) nq)))
  go_wp2
  go_ret
  exact ⟨rfl, KQ.out, SQ.out⟩
set_option maxHeartbeats 4000000 in
set_option maxRecDepth 100000 in
theorem la_tells_no {X : World} (h : Mine P.At wb E X b l) (hp : ∀ Y, Keeps X Y → P.Has Y) (now o d : Int) (hn : I64 now) (ht : toldL l now = []) :
    Calls Try.prog 27 #[.pointer (some ⟨b, 0, none⟩), .int .i64 now, kyV o d, .bool false] X fun e w' => e = .returned (.bool true) ∧ Mine P.At wb E w' b (tickL l now) ∧ Still E X w' := by
  obtain ⟨w1, hw1⟩ : ∃ w1, X.alloc (keBox o d) = w1 := ⟨_, rfl⟩
  have K1 : Hid (Keeps X w1) := Lib.hid (hw1 ▸ wbox _ _)
  have CT : Hid (Calls Try.prog 19 #[.pointer (some ⟨b, 0, none⟩), .int .i64 now] w1 fun e w' => ∃ u, e = .returned u ∧ keK.Own w1.heap.size w' u (toldL l now) ∧ (Mine P.At wb E w' b (tickL l now) ∧ Still E X w')) := Lib.hid ((mi_tick (h.keeps P.lies K1.out) (hp _ K1.out) now hn).mono fun e w' ⟨u, q1, q2, q3, q4⟩ => ⟨u, q1, q2, q3, (h.still K1.out).trans q4⟩)
  rw [ht] at CT
  have EW1 := Lib.hid hw1
  clear h hw1 ht
  unfold keBox at EW1
  unfold kyV
  go_enter Try.func27, Try.ntmps27
  go_upto_region 1 with (fail)
  rw [EW1.out]
  clear EW1
  go_wp2_with fail
  refine CT.out.mono ?_
  rintro e W ⟨u, rfl, hu, hm⟩
  have HM := Lib.hid hm
  obtain ⟨p', c', rfl⟩ := src_slice keK (keK.own_src hu)
  clear hu hm CT
  simp only [List.length_nil]
  go_upto_region 2 with (fail)
  go_quiet (fail)
  have KQ := Lib.hid (HM.out.1.keeps P.lies (wdrewN (Keeps.refl W) nq))
  have SQ := Lib.hid (HM.out.2.trans (HM.out.1.still (wdrewN (Keeps.refl W) nq)))
  go_wp2
  go_ret
  exact ⟨rfl, KQ.out, SQ.out⟩
end Wt
end Go.Proofs.Ytbemkcnikoiecaa
