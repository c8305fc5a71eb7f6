
/- The document's net: Deliver, Drop, Double. -/
import Derived.Test.YtajphjlfefhajaaNtRef
set_option linter.unusedVariables false
set_option linter.unusedSimpArgs false
namespace Go.Proofs.Ytajphjlfefhajaa
open Go.ChangeShapes Go.WideShapes Go.ChangeAt Go.RowKit Csv Ky
namespace Nt
/-- What Deliver tells. -/
def delV (o : Option Mg) : Value := match o with
  | some m => mgV m
  | none => .agg #[.int .i64 0, .int .i64 0, .int .i64 0, .string ⟨#[]⟩, .int .i64 0, .int .i64 0, .int .i64 0]
theorem RefN.list {W : World} {b : Nat} {F : Nat → Prop} {l : List Mg} (h : RefN W b F l) (hl : l.length ≤ 1000) : ∃ p c, (∀ X, Keeps W X → X.cell? ⟨b, 0, none⟩ = some (.slice p l.length c) ∧ X.frozen? ⟨b, 0, none⟩ = false) ∧ ∀ X, Keeps W X → ∀ j x, l[j]? = some x → ∃ a : Addr, p = some a ∧ MgAt X (a.add (j * 7)) x := by
  obtain ⟨v, h1, h2, h3⟩ := h
  obtain ⟨p, c, rfl⟩ := mgK.own_shape h2
  refine ⟨p, c, fun X k => one_at (box_keep h1 k), fun X k j x hx => ?_⟩
  obtain ⟨p', c', e, _, _, hc⟩ := own_mgs (mgK.own_keeps h2 k) (by omega)
  simp only [Value.slice.injEq] at e
  obtain ⟨rfl, _, rfl⟩ := e
  exact hc j x hx
set_option maxHeartbeats 16000000 in
set_option maxRecDepth 100000 in
theorem nr_deliver (b : Nat) (F : Nat → Prop) (l : List Mg) (i : Int) (W : World) (h : RefN W b F l) (hl : l.length ≤ 1000) :
    Calls Try.prog 22 #[.pointer (some ⟨b, 0, none⟩), .int .i64 i] W fun e w' => e = .returned (.tuple #[delV (gone l i), .bool (isB l i)]) ∧ RGoes W w' b F (del l i) := by
  obtain ⟨w1, hw1⟩ : ∃ w1, W.alloc zeBox = w1 := ⟨_, rfl⟩
  have K1 : Hid (Keeps W w1) := Lib.hid (hw1 ▸ nbox _ _)
  have B1 : Hid (w1.heap[W.heap.size]? = some zeBox) := Lib.hid (hw1 ▸ heap_alloc_new _ _)
  have HR := Lib.hid h
  have HR1 := Lib.hid (h.keeps K1.out)
  have CI := Lib.hid (nr_is b F l i w1 HR1.out)
  obtain ⟨p, c, hb, hc⟩ := (h.keeps K1.out).list hl
  have HB := Lib.hid hb
  have HC := Lib.hid hc
  obtain ⟨n, hn⟩ : ∃ n, l.length = n := ⟨_, rfl⟩
  rw [hn] at HB
  have HN := Lib.hid hn
  have n1000 : n ≤ 1000 := by omega
  have bl : Hid (b < W.heap.size) := Lib.hid (h.lt h.self)
  have EW1 := Lib.hid hw1
  obtain ⟨B, hB⟩ : ∃ B, isB l i = B := ⟨_, rfl⟩
  have HIS := Lib.hid hB
  rw [hB] at CI ⊢
  clear h hb hc hn hw1 hB hl
  unfold zeBox at EW1
  obtain ⟨⟨v0, v1, v2, v3, v4, v5, v6⟩, f0, f1, f2, f3, f4, f5, f6⟩ := ze_box_cells B1.out
  cases B with
  | false =>
    have E1 : Hid (gone l i = none) := Lib.hid (gone_none HIS.out)
    have E2 : Hid (del l i = l) := Lib.hid (del_no HIS.out)
    go_enter Try.func22, Try.ntmps22
    go_upto_region 1 with (fail)
    rw [EW1.out]
    clear EW1
    go_wp2_with fail
    refine CI.out.mono ?_
    rintro e w2 ⟨rfl, rfl⟩
    go_wp2
    refine bodyPost_ret (v := .tuple #[.agg #[.int .i64 0, .int .i64 0, .int .i64 0, .string ⟨#[]⟩, .int .i64 0, .int .i64 0, .int .i64 0], .bool false]) (by simp [results, Try.results22, go_sem, v0, v1, v2, v3, v4, v5, v6]) rfl ?_
    rw [E1.out, E2.out]
    have g := Only.keeps (seven_only w2 W.heap.size (.int .i64 0) (.int .i64 0) (.int .i64 0) (.string ⟨#[]⟩) (.int .i64 0) (.int .i64 0) (.int .i64 0)) K1.out (fun j hj => by omega)
    exact ⟨rfl, RGoes.same HR.out g⟩
  | true =>
    obtain ⟨hi0, hi1⟩ := is_iff.1 HIS.out
    obtain ⟨i0, hi⟩ : ∃ i0 : Nat, i = (i0 : Int) := ⟨i.toNat, by omega⟩
    subst hi
    obtain ⟨x, hx, hg⟩ := gone_some HIS.out
    have hxx : l[i0]? = some x := by simpa using hx
    have E1 := Lib.hid hg
    have ED : Hid (l.eraseIdx i0 = del l (i0 : Int)) := Lib.hid (by have := del_erase HIS.out; simpa using this)
    obtain ⟨ad, rfl, gx⟩ := HC.out _ (Keeps.refl _) i0 x hxx
    have HX := Lib.hid hxx
    obtain ⟨q0, q1, q2, q3, q4, q5, q6⟩ := gx
    rw [HN.out] at hi1
    obtain ⟨y0, z0⟩ := HB.out _ (Keeps.refl _)
    clear hx hg hxx
    go_enter Try.func22, Try.ntmps22
    go_upto_region 1 with (fail)
    rw [EW1.out]
    clear EW1
    go_wp2_with fail
    refine CI.out.mono ?_
    rintro e w2 ⟨rfl, rfl⟩
    obtain ⟨w3, hw3⟩ : ∃ w3, w2.alloc (mgBox x) = w3 := ⟨_, rfl⟩
    have K3 : Hid (Keeps w2 w3) := Lib.hid (hw3 ▸ nbox _ _)
    have B3 : Hid (w3.heap[w2.heap.size]? = some (mgBox x)) := Lib.hid (hw3 ▸ heap_alloc_new _ _)
    have EW3 := Lib.hid hw3
    clear hw3 CI
    unfold mgBox at EW3
    go_upto_region 4 with (fail)
    rw [EW3.out]
    clear EW3 q0 q1 q2 q3 q4 q5 q6 y0 z0 v0 v1 v2 v3 v4 v5 v6 f0 f1 f2 f3 f4 f5 f6
    obtain ⟨y0, z0⟩ := HB.out _ K3.out
    go_wp2_with fail
    go_loopg [7, 8] n (fun g v7 v8 X => ∃ (k : Nat) (p7 : Option Addr) (n7 c7 : Nat), k + g = n ∧ v7 = .slice p7 n7 c7 ∧ v8 = .int .i64 (k : Int) ∧ ((l.take k).eraseIdx i0).length = n7 ∧ mgK.Own w3.heap.size X (.slice p7 n7 c7) ((l.take k).eraseIdx i0) ∧ Keeps w3 X)
    case atStart => exact ⟨0, none, 0, 0, by omega, rfl, rfl, by simp, mgK.own_nil _ _, Keeps.refl _⟩
    case round =>
      obtain ⟨k, p7, n7, c7, hk, rfl, rfl, hn7, ho, hw⟩ := hrel
      have HI := Lib.hid hk
      have HV := Lib.hid hw
      have HO := Lib.hid ho
      have H7 := Lib.hid hn7
      clear hk hw ho hn7 y0 z0
      obtain ⟨y0, z0⟩ := HB.out _ (K3.out.trans HV.out)
      cases gk with
      | zero =>
        obtain rfl : k = n := by have := HI.out; omega
        have hz : ¬ ((k : Int) < (k : Int)) := by omega
        have OO : Hid (mgK.Own w3.heap.size wr (.slice p7 n7 c7) (del l (i0 : Int))) := Lib.hid (by
          have e : l.take k = l := List.take_of_length_le (by rw [HN.out]; exact Nat.le_refl _)
          have := HO.out
          rw [e, ED.out] at this
          exact this)
        have HR3 := Lib.hid (HR1.out.keeps K3.out)
        have PP := Lib.hid (ref_put HR3.out HV.out OO.out)
        have C1 : Hid ((wr.setCell ⟨b, 0, none⟩ (.slice p7 n7 c7)).heap[W.heap.size]? = some zeBox) := Lib.hid (((Only.cell (X := wr) (j := b) (o := 0) (.slice p7 n7 c7)).same _ (box_lt (box_keep B1.out (K3.out.trans HV.out))) (by have := bl.out; omega)).trans (box_keep B1.out (K3.out.trans HV.out)))
        have C3 : Hid ((wr.setCell ⟨b, 0, none⟩ (.slice p7 n7 c7)).heap[w2.heap.size]? = some (mgBox x)) := Lib.hid (((Only.cell (X := wr) (j := b) (o := 0) (.slice p7 n7 c7)).same _ (box_lt (box_keep B3.out HV.out)) (by have := bl.out; have := K1.out.size; omega)).trans (box_keep B3.out HV.out))
        have PW : Hid (RGoes W (wr.setCell ⟨b, 0, none⟩ (.slice p7 n7 c7)) b F (del l (i0 : Int))) := Lib.hid (PP.out.from (K1.out.trans K3.out))
        go_upto_region 11 with (fail)
        clear y0 z0
        obtain ⟨w9, hw9⟩ : ∃ w9, wr.setCell ⟨b, 0, none⟩ (.slice p7 n7 c7) = w9 := ⟨_, rfl⟩
        rw [hw9] at C1 C3 PP PW ⊢
        obtain ⟨⟨v0, v1, v2, v3, v4, v5, v6⟩, f0, f1, f2, f3, f4, f5, f6⟩ := ze_box_cells C1.out
        obtain ⟨⟨x0, x1, x2, x3, x4, x5, x6⟩, _⟩ := mg_box_cells C3.out
        go_wp2
        refine bodyPost_ret (v := .tuple #[mgV x, .bool true]) (by simp [results, Try.results22, go_sem, v0, v1, v2, v3, v4, v5, v6, mgV]) rfl ?_
        rw [E1.out]
        have g := seven_only w9 W.heap.size (.int .i64 x.t) (.int .i64 x.o) (.int .i64 x.k) (.string x.s) (.int .i64 x.q) (.int .i64 x.a) (.int .i64 x.c)
        obtain ⟨F', r1, r2⟩ := PP.out.ex
        have l1 := K1.out.size
        have l2 := K3.out.size
        have l3 := box_lt B1.out
        refine ⟨rfl, ⟨⟨F', r1.loc fun j hj => g.same j (r1.lt hj) (fun e => ?_), fun j hj => (r2 j hj).imp id (fun q => by omega)⟩, Only.new PW.out.only g (Nat.le_refl _)⟩⟩
        rcases r2 j hj with q | q
        · have := HR.out.lt q
          omega
        · omega
      | succ g =>
        have hlt : k < n := by have := HI.out; omega
        obtain ⟨u, hu⟩ : ∃ u, l[k]? = some u := ⟨_, List.getElem?_eq_getElem (by rw [HN.out]; exact hlt)⟩
        have DT := Lib.hid (del_take (i := i0) hu)
        obtain ⟨ad', ea, q0, q1, q2, q3, q4, q5, q6⟩ := HC.out _ (K3.out.trans HV.out) k u hu
        cases ea
        have hk1 : (k : Int) < (n : Int) := by omega
        have hk0 : (0 : Int) ≤ (k : Int) := by omega
        have wi : Hid (wrap64 ((k : Int) + 1) = (k : Int) + 1) := Lib.hid (i64w (by unfold top; omega) (by unfold top; omega))
        have N7 : Hid (n7 ≤ 1000) := Lib.hid (by
          rw [← H7.out]
          have h1 := List.length_eraseIdx_le (l.take k) i0
          rw [List.length_take] at h1
          omega)
        clear hu hlt
        by_cases he : k = i0
        · have NX : Hid ((l.take (k + 1)).eraseIdx i0 = (l.take k).eraseIdx i0) := Lib.hid (by rw [DT.out, if_pos he])
          subst he
          have t2 : ((k : Int) != (k : Int)) = false := by simp
          go_wp2_with fail
          go_roundg g
          case measure => omega
          case rel => exact ⟨k + 1, p7, n7, c7, by have := HI.out; omega, rfl, by first | (rw [wi.out]; rfl) | rfl | go_num, by rw [NX.out]; exact H7.out, by rw [NX.out]; exact HO.out, HV.out⟩
        · have NX : Hid ((l.take (k + 1)).eraseIdx i0 = (l.take k).eraseIdx i0 ++ [u]) := Lib.hid (by rw [DT.out, if_neg he])
          have t2 : ((k : Int) != (i0 : Int)) = true := by simp; omega
          clear he
          obtain ⟨p', c', W', r1, r2, r3⟩ := mgK.app_row (wr.alloc (.cells #[.int .i64 u.t, .int .i64 u.o, .int .i64 u.k, .string u.s, .int .i64 u.q, .int .i64 u.a, .int .i64 u.c] tMg)) w3.heap.size (.slice p7 n7 c7) ((l.take k).eraseIdx i0) (.slice (some ⟨wr.heap.size, 0, none⟩) 1 1) [u] (mgK.own_keeps HO.out (nbox _ _)) (mg_src1 wr u) (by rw [H7.out]; have := N7.out; simp; omega) (Nat.le_trans HV.out.size (by simp))
          rw [List.length_singleton, H7.out] at r1 r2
          have R1 : Hid ((Builtin.append_ #[mgK.ts, mgK.ts] mgK.ts #[.slice p7 n7 c7, .slice (some ⟨wr.heap.size, 0, none⟩) 1 1]).run Try.prog (wr.alloc (.cells #[.int .i64 u.t, .int .i64 u.o, .int .i64 u.k, .string u.s, .int .i64 u.q, .int .i64 u.a, .int .i64 u.c] tMg)) = .ok (.slice p' (n7 + 1) c') W') := Lib.hid r1
          have KW : Hid (Keeps w3 W') := Lib.hid (mono_grown (HV.out.trans (nbox _ _)) r3 fun j hj => (mgK.own_lt HO.out j hj).1)
          have OW : Hid (mgK.Own w3.heap.size W' (.slice p' (n7 + 1) c') ((l.take (k + 1)).eraseIdx i0)) := Lib.hid (by rw [NX.out]; exact r2)
          clear r1 r2 r3
          go_wp2_with (at_builtin; refine wpAppKnown rfl _ _ _ _ rfl _ _ _ _ rfl rfl R1.out ?_)
          go_roundg g
          case measure => omega
          case rel => exact ⟨k + 1, p', n7 + 1, c', by have := HI.out; omega, rfl, by first | (rw [wi.out]; rfl) | rfl | go_num, by rw [NX.out, List.length_append, H7.out]; rfl, OW.out, KW.out⟩
end Nt
end Go.Proofs.Ytajphjlfefhajaa
