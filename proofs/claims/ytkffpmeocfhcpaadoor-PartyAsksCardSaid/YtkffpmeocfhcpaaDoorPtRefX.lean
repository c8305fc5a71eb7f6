
/- The document's party: a row written. -/
import Derived.Test.YtkffpmeocfhcpaaDoorPtRefW
import Derived.Test.YtkffpmeocfhcpaaDoorHeldSteps
import Derived.Deep.DeepCutAuto
set_option linter.unusedVariables false
namespace Go.Proofs.YtkffpmeocfhcpaaDoor
open Go.ChangeShapes Go.WideShapes Go.ChangeAt Go.RowKit Ky Rw Csv

/-- What is left of a row of a call's own, behind a place. -/
theorem row_back {α : Type} (K : RowK α) {B g n c : Nat} {W : World} {l : List α} (h : K.Own B W (.slice (some ⟨g, 0, none⟩) n c) l) (k m c2 : Nat) (p : Option Addr) (hm : l.length - k = m) (hp : p = some ⟨g, k * K.sz, none⟩ ∨ (l.length ≤ k ∧ ∃ a, p = some a)) : K.Src W (.slice p m c2) (l.drop k) := by
  subst hm
  refine ⟨p, c2, by rw [List.length_drop], fun e => ?_, fun a ha j u hu => ?_⟩
  · rcases hp with rfl | ⟨_, a, rfl⟩ <;> cases e
  · rcases hp with rfl | ⟨hk, _⟩
    · cases ha
      obtain ⟨q, c', e, _, hs⟩ := RowK.own_src K h
      simp only [Value.slice.injEq] at e
      obtain ⟨rfl, _, rfl⟩ := e
      have e1 : K.row l = K.row (l.take k) ++ K.row (l.drop k) := by rw [← K.row_app, List.take_append_drop]
      have hkl : k ≤ l.length := by
        rcases Nat.lt_or_ge l.length k with h1 | h1
        · rw [List.drop_eq_nil_of_le (Nat.le_of_lt h1)] at hu; simp [RowK.row] at hu
        · exact h1
      have e2 : (K.row (l.take k)).length = k * K.sz := by rw [K.row_len, List.length_take, Nat.min_eq_left hkl]
      have h3 : (K.row l)[k * K.sz + j]? = some u := by
        rw [e1, List.getElem?_append_right (by rw [e2]; exact Nat.le_add_right _ _), e2, Nat.add_sub_cancel_left]; exact hu
      have h4 := hs _ rfl _ u h3
      rw [addr_of] at h4
      rw [← h4]
      congr 1
      unfold Addr.add
      split
      · rename_i h0; subst h0; simp
      · simp
    · rw [List.drop_eq_nil_of_le hk] at hu; simp [RowK.row] at hu
/-- The party with other rows: the block's fourth cell. -/
theorem ref_rows {w W : World} {b : Nat} {p : Pt.P} {seq : Int} {v : Value} {L : List R} {B : Nat} (h : RefP w b p seq) (k : Keeps w W) (ho : rowK.Own B W v L) :
    RefQ (fun g => B ≤ g) (W.setCell ⟨b, 3, none⟩ v) b ⟨p.kind, p.stock, p.limit, L, p.G⟩ seq := by
  obtain ⟨vL, vG, h1, h2, h3⟩ := h.keeps k
  refine ⟨v, vG, ?_, ?_, ?_, fun g hg => (rowK.own_lt ho g hg).1⟩
  · rw [Joins.block_setCell (i := 3) h1 v]; rfl
  · refine rowK.own_base (rowK.own_local ho fun g hg => Below.heap_setCell _ ⟨b, 3, none⟩ _ _ (fun e => ?_)) fun g _ => Nat.zero_le g
    obtain ⟨c, hc⟩ := rowK.own_tag ho hg
    rw [e, h1] at hc
    simp only [Option.some.injEq, Obj.cells.injEq] at hc
    exact absurd hc.2.1 (by decide)
  · refine gdK.own_local h3 fun g hg => Below.heap_setCell _ ⟨b, 3, none⟩ _ _ (fun e => ?_)
    obtain ⟨c, hc⟩ := gdK.own_tag h3 hg
    rw [e, h1] at hc
    simp only [Option.some.injEq, Obj.cells.injEq] at hc
    exact absurd hc.2.1 (by decide)
/-- Where the rows lie. -/
theorem row_lies {B : Nat} {W : World} {v : Value} {L : List R} (h : rowK.Own B W v L) : (v = .slice none 0 0 ∧ L = []) ∨ ∃ g c, v = .slice (some ⟨g, 0, none⟩) L.length c ∧ L.length ≤ c ∧ c ≤ maxLen := by
  rcases h.2 with ⟨rfl, h0⟩ | ⟨g, cap, cur, rfl, hb, hgb, r1, r2, r3, r4⟩
  · exact Or.inl ⟨rfl, List.length_eq_zero_iff.1 h0⟩
  · exact Or.inr ⟨g, cap, rfl, r1, r2⟩
set_option maxHeartbeats 16000000 in
set_option maxRecDepth 100000 in
theorem rp_write (b : Nat) (p : Pt.P) (seq : Int) (r : R) (w : World) (h : RefP w b p seq) (hl : p.L.length ≤ 400) :
    Calls Tryd.prog 35 #[.pointer (some ⟨b, 0, none⟩), rwV r] w fun e w' => e = .returned (.tuple #[]) ∧ RefQ (fun g => w.heap.size ≤ g) w' b ⟨p.kind, p.stock, p.limit, Pt.ins r p.L, p.G⟩ seq ∧ w.grownBy w' (some b) := by
  have HR := Lib.hid h
  have HN := Lib.hid hl
  clear h hl
  obtain ⟨vL, vG, hb, hL, hG⟩ := HR.out
  obtain ⟨N, hN⟩ : ∃ N, p.L.length = N := ⟨_, rfl⟩
  have HL := Lib.hid hN
  obtain ⟨pl, cl, hv, hcl, hlies⟩ : ∃ pl cl, vL = .slice pl N cl ∧ N ≤ cl ∧ ((pl = none ∧ p.L = [] ∧ cl = 0) ∨ ∃ g, pl = some ⟨g, 0, none⟩ ∧ cl ≤ maxLen) := by
    rcases row_lies hL with ⟨rfl, h0⟩ | ⟨g, c, rfl, h1, h2⟩
    · have : N = 0 := by rw [← hN, h0]; rfl
      subst this
      exact ⟨none, 0, rfl, Nat.le_refl _, Or.inl ⟨rfl, h0, rfl⟩⟩
    · exact ⟨some ⟨g, 0, none⟩, c, by rw [hN], by rw [← hN]; exact h1, Or.inr ⟨g, rfl, h2⟩⟩
  subst hv
  have HLI := Lib.hid hlies
  have HCL := Lib.hid hcl
  have HOL := Lib.hid hL
  have HC : Hid (∀ W, Keeps w W → ∀ (j : Nat) (x : R), p.L[j]? = some x → ∃ a : Addr, pl = some a ∧ RowAt W (a.add (j * 5)) x) := Lib.hid fun W k j x hx => by
    obtain ⟨q, c, e, _, _, hc⟩ := (own_rows hL (by have := HN.out; omega)).keeps k
    simp only [Value.slice.injEq] at e
    obtain ⟨rfl, _, rfl⟩ := e
    exact hc j x hx
  have HB : Hid (∀ W, Keeps w W → W.cell? ⟨b, 3, none⟩ = some (.slice pl N cl) ∧ W.frozen? ⟨b, 3, none⟩ = false) := Lib.hid fun W k => by
    have e := (k.block b (Array.getElem?_eq_some_iff.1 hb).1).trans hb
    have h6 := six_at e
    exact ⟨h6.1.2.2.2.1, h6.2.1⟩
  have BLT : Hid (b < w.heap.size) := Lib.hid (Array.getElem?_eq_some_iff.1 hb).1
  have RC := Lib.hid (rw_cells w r)
  have KB := Lib.hid (ky_box w (.cells #[.int .i64 r.o, .int .i64 r.d, .int .i64 r.c, .int .i64 r.a, .int .i64 r.q] tRw))
  clear hb hL hG hN hlies hcl
  unfold rwV
  obtain ⟨w1, hw1⟩ : ∃ W, w.alloc (.cells #[.int .i64 r.o, .int .i64 r.d, .int .i64 r.c, .int .i64 r.a, .int .i64 r.q] tRw) = W := ⟨_, rfl⟩
  have BSZ : Hid (w.heap.size < w1.heap.size) := Lib.hid (by rw [← hw1]; simp)
  rw [hw1] at RC KB
  obtain ⟨y3, f3⟩ := HB.out _ KB.out
  go_enter Tryd.func35, Tryd.ntmps35
  go_upto_region 2 with (fail)
  try rw [hw1]
  clear hw1
  go_wp2_with fail
  go_loopg [4, 5] N (fun g v4 v5 W => ∃ (k : Nat) (p4 : Option Addr) (c4 : Nat), k + g = N ∧ v4 = .slice p4 k c4 ∧ v5 = .int .i64 (k : Int) ∧ (∀ j x, j < k → p.L[j]? = some x → less x r = true) ∧ rowK.Own w1.heap.size W (.slice p4 k c4) (p.L.take k) ∧ Keeps w1 W)
  case atStart => exact ⟨0, none, 0, by omega, rfl, rfl, fun j x hj => absurd hj (Nat.not_lt_zero j), rowK.own_nil _ _, Keeps.refl _⟩
  case round =>
    obtain ⟨k, p4, c4, hk, rfl, rfl, hless, ho, hw⟩ := hrel
    have HI := Lib.hid hk
    have HV := Lib.hid hw
    have HO := Lib.hid ho
    have HLS := Lib.hid hless
    have KN : Hid (k ≤ N) := Lib.hid (by omega)
    clear y3 f3 ho hless hw
    obtain ⟨y3, f3⟩ := HB.out _ (KB.out.trans HV.out)
    obtain ⟨z0, z1, z2, z3, z4⟩ := RC.out _ HV.out
    obtain ⟨l, hl⟩ : ∃ l : Bool, (l = true ↔ ∃ x, p.L[k]? = some x ∧ less x r = true) := by
      cases hx : p.L[k]? with
      | none => exact ⟨false, by simp⟩
      | some x =>
        cases hb : less x r with
        | false => exact ⟨false, by simp [hb]⟩
        | true => exact ⟨true, by simp [hb]⟩
    have HLB := Lib.hid hl
    clear hl
    go_upto_region 3 with (fail)
    go_cut [26] (fun v W => v = .bool l ∧ Keeps wr W)
    case first =>
      by_cases hlt : k < N
      rotate_left
      · have hkN : k = N := by omega
        have hlf : l = false := by
          cases l with
          | false => rfl
          | true =>
            obtain ⟨x, hx, _⟩ := HLB.out.1 rfl
            have h1 := (List.getElem?_eq_some_iff.1 hx).1
            have h2 := HL.out
            omega
        subst hlf hkN
        have hd : decide ((k : Int) < (k : Int)) = false := decide_eq_false (by omega)
        go_quiet (fail)
        have KQ := Lib.hid (keeps_drewN (Keeps.refl wr) nq)
        go_wp2
        go_meet
        case rel => exact ⟨rfl, KQ.out⟩
      · obtain ⟨x, hx⟩ : ∃ x, p.L[k]? = some x := ⟨_, List.getElem?_eq_getElem (by rw [HL.out]; exact hlt)⟩
        have hlx : l = less x r := by
          cases hb : less x r with
          | true => exact HLB.out.2 ⟨x, hx, hb⟩
          | false =>
            cases l with
            | false => rfl
            | true =>
              obtain ⟨y, hy, h2⟩ := HLB.out.1 rfl
              rw [hx] at hy
              cases hy
              rw [hb] at h2; cases h2
        obtain ⟨a, rfl, QQ⟩ := HC.out _ (KB.out.trans HV.out) k x hx
        have QR := Lib.hid QQ
        have hd : decide ((k : Int) < (N : Int)) = true := decide_eq_true (by omega)
        have hi1 : (k : Int) < (N : Int) := by omega
        have hi0 : (0 : Int) ≤ (k : Int) := by omega
        have CL : Hid (∀ W, Keeps wr W → Calls Tryd.prog 67 #[.agg #[.int .i64 x.o, .int .i64 x.d], .agg #[.int .i64 r.o, .int .i64 r.d]] W fun e w' => e = .returned (.bool l) ∧ Keeps wr w') := Lib.hid fun W kk => Calls.mono ((show l = lessK x.o x.d r.o r.d from hlx) ▸ kr_less x.o x.d r.o r.d W) fun e w' h => ⟨h.1, kk.trans h.2⟩
        have CS : Hid (∀ W, Keeps wr W → (W.cell? ⟨w.heap.size, 0, none⟩ = some (.int .i64 r.o) ∧ W.cell? ⟨w.heap.size, 1, none⟩ = some (.int .i64 r.d)) ∧ (W.cell? (a.add (k * 5)) = some (.int .i64 x.o) ∧ W.cell? ⟨(a.add (k * 5)).block, (a.add (k * 5)).off + 1, none⟩ = some (.int .i64 x.d)) ∧ W.cell? ⟨b, 3, none⟩ = some (.slice (some a) N cl)) := Lib.hid fun W kk => by
          obtain ⟨d0, d1, _⟩ := QR.out.keeps kk
          obtain ⟨r0, r1, _⟩ := RC.out _ (HV.out.trans kk)
          exact ⟨⟨r0, r1⟩, ⟨d0, d1⟩, (HB.out _ (KB.out.trans (HV.out.trans kk))).1⟩
        have HX := Lib.hid (Keeps.refl wr)
        clear hx hlx QQ z0 z1 z2 z3 z4 y3 f3 hlt hk
        obtain ⟨⟨y0, y1⟩, ⟨z0, z1⟩, y3⟩ := CS.out _ HX.out
        go_region_held3 (fun W => (W.cell? ⟨w.heap.size, 0, none⟩ = some (.int .i64 r.o) ∧ W.cell? ⟨w.heap.size, 1, none⟩ = some (.int .i64 r.d)) ∧ (W.cell? (a.add (k * 5)) = some (.int .i64 x.o) ∧ W.cell? ⟨(a.add (k * 5)).block, (a.add (k * 5)).off + 1, none⟩ = some (.int .i64 x.d)) ∧ W.cell? ⟨b, 3, none⟩ = some (.slice (some a) N cl))
          (first | exact CS.out _ HX.out | exact CS.out _ (HX.out.trans (ky_drew _)) | assumption)
          ((go_at_call 67; refine (CL.out _ (HX.out.trans (ky_drew _))).mono ?_; clear HX CL; rintro e wv ⟨rfl, hv⟩; have HX := Lib.hid hv; have zv := CS.out _ hv; clear hv))
        go_wp2
        go_meet
        case rel => exact ⟨rfl, HX.out⟩
    case rest =>
    obtain ⟨rfl, hkq⟩ := hcut
    have KC : Hid (Keeps w1 wc) := Lib.hid (HV.out.trans hkq)
    have OC := Lib.hid (rowK.own_keeps HO.out hkq)
    clear hkq y3 f3 z0 z1 z2 z3 z4
    obtain ⟨y3, f3⟩ := HB.out _ (KB.out.trans KC.out)
    cases l with
    | true =>
      obtain ⟨x, hx, hxl⟩ := HLB.out.1 rfl
      have hlt : k < N := by rw [← HL.out]; exact (List.getElem?_eq_some_iff.1 hx).1
      obtain ⟨a, rfl, q0, q1, q2, q3, q4⟩ := HC.out _ (KB.out.trans KC.out) k x hx
      have hi1 : (k : Int) < (N : Int) := by omega
      have hi0 : (0 : Int) ≤ (k : Int) := by omega
      have wi : Hid (wrap64 ((k : Int) + 1) = (k : Int) + 1) := Lib.hid (i64w (by unfold top; omega) (by have := HN.out; have := HL.out; unfold top; omega))
      have NX : Hid (∀ j x, j < k + 1 → p.L[j]? = some x → less x r = true) := Lib.hid fun j y hj hy => by
        rcases Nat.lt_or_ge j k with h1 | h1
        · exact HLS.out j y h1 hy
        · obtain rfl : j = k := by omega
          rw [hx] at hy
          cases hy
          exact hxl
      have TK : Hid (p.L.take (k + 1) = p.L.take k ++ [x]) := Lib.hid (by rw [List.take_add_one, hx]; rfl)
      have LT : Hid ((p.L.take k).length = k) := Lib.hid (by rw [List.length_take, HL.out]; omega)
      obtain ⟨p', c', W', r1, r2, r3⟩ := rowK.app_row (wc.alloc (.cells #[.int .i64 x.o, .int .i64 x.d, .int .i64 x.c, .int .i64 x.a, .int .i64 x.q] tRw)) w1.heap.size (.slice p4 k c4) (p.L.take k) (.slice (some ⟨wc.heap.size, 0, none⟩) 1 1) [x] (rowK.own_keeps OC.out (kept_alloc (Keeps.refl _) _)) (row_src1 rowK wc x) (by rw [LT.out]; have := HN.out; have := HL.out; simp; omega) (Nat.le_trans KC.out.size (by simp))
      rw [List.length_singleton, LT.out] at r1 r2
      have R1 : Hid ((Builtin.append_ #[rowK.ts, rowK.ts] rowK.ts #[.slice p4 k c4, .slice (some ⟨wc.heap.size, 0, none⟩) 1 1]).run Tryd.prog (wc.alloc (.cells #[.int .i64 x.o, .int .i64 x.d, .int .i64 x.c, .int .i64 x.a, .int .i64 x.q] tRw)) = .ok (.slice p' (k + 1) c') W') := Lib.hid r1
      have KW : Hid (Keeps w1 W') := Lib.hid (pt_mono (kept_alloc KC.out _) r3 fun j hj => (rowK.own_lt OC.out j hj).1)
      have OW : Hid (rowK.Own w1.heap.size W' (.slice p' (k + 1) c') (p.L.take (k + 1))) := Lib.hid (by rw [TK.out]; exact r2)
      clear r1 r2 r3 hx hk hlt
      cases gk with
      | zero => exact absurd HI.out (by have := KN.out; omega)
      | succ gk =>
      go_wp2_with (at_builtin; refine wpAppKnown rfl _ _ _ _ rfl _ _ _ _ rfl rfl R1.out ?_)
      go_roundg gk
      case measure => omega
      case rel => exact ⟨k + 1, p', c', by have := HI.out; omega, rfl, by first | (rw [wi.out]; rfl) | rfl | go_num, NX.out, OW.out, KW.out⟩
    | false =>
      have INS : Hid (p.L.take k ++ [r] ++ p.L.drop k = Pt.ins r p.L) := Lib.hid (by
        rw [Pt.ins_take r p.L k HLS.out (by rw [HL.out]; exact KN.out) (fun x hx => by
          cases hb : less x r with
          | false => rfl
          | true => have := HLB.out.2 ⟨x, hx, hb⟩; cases this)]
        simp)
      have LT : Hid ((p.L.take k).length = k) := Lib.hid (by rw [List.length_take, HL.out]; have := KN.out; omega)
      have LEN1 : Hid ((p.L.take k).length + [r].length = k + 1) := Lib.hid (by rw [LT.out]; rfl)
      have LN1 : Hid ((p.L.take k).length + [r].length ≤ 100000) := Lib.hid (by rw [LEN1.out]; have := KN.out; have := HN.out; have := HL.out; omega)
      have LEN2 : Hid ((p.L.take k ++ [r]).length + (p.L.drop k).length = N + 1) := Lib.hid (by rw [List.length_append, LEN1.out, List.length_drop, HL.out]; have := KN.out; omega)
      have LN2 : Hid ((p.L.take k ++ [r]).length + (p.L.drop k).length ≤ 100000) := Lib.hid (by rw [LEN2.out]; have := HN.out; have := HL.out; omega)
      have hb1 : b < wc.heap.size := Nat.lt_of_lt_of_le BLT.out (KB.out.trans KC.out).size
      obtain ⟨z0, z1, z2, z3, z4⟩ := RC.out _ KC.out
      have hkn : k ≤ N := KN.out
      have hnc : N ≤ cl := HCL.out
      have hkc : k ≤ cl := Nat.le_trans hkn hnc
      have hb2 : w.heap.size < wc.heap.size := Nat.lt_of_lt_of_le BSZ.out KC.out.size
      clear hk
      rcases HLI.out with ⟨rfl, hnil, rfl⟩ | ⟨g, rfl, hcm⟩
      · obtain rfl : N = 0 := by rw [← HL.out, hnil]; rfl
        obtain rfl : k = 0 := by omega
        have S2 : Hid (∀ W, Keeps w1 W → rowK.Src W (.slice none 0 0) (p.L.drop 0)) := Lib.hid fun W kk => by rw [hnil]; exact ⟨none, 0, rfl, fun _ => ⟨rfl, rfl⟩, fun a ha => by cases ha⟩
        clear hkn hnc hkc hnil
        go_upto_region 7 with (fail)
        go_region_law (first
          | (refine stepAppOwnK rowK rfl _ _ rfl rfl w1.heap.size ?hB1 (.slice p4 0 c4) _ (p.L.take 0) [r] (0 + 1) LEN1.out rfl rfl ?hO1 ?hS1 LN1.out ?_
             case hB1 => exact Nat.le_trans KC.out.size (by simp)
             case hO1 => exact rowK.own_keeps OC.out (kept_alloc (rp_drew (Keeps.refl _)) _)
             case hS1 => exact row_src1 rowK _ r
             intro p5 c5 W5 o5 g5
             have K5 : Keeps w1 W5 := pt_mono (kept_alloc (rp_drew KC.out) _) g5 (fun j hj => (rowK.own_lt OC.out j hj).1)
             have y5 := (HB.out _ (KB.out.trans K5)).1
             have f5 := (HB.out _ (KB.out.trans K5)).2)
          | (refine stepAppOwnK rowK rfl _ _ rfl rfl w1.heap.size K5.size (.slice p5 (0 + 1) c5) _ (p.L.take 0 ++ [r]) (p.L.drop 0) (0 + 1) LEN2.out rfl rfl o5 (S2.out _ K5) LN2.out ?_
             intro p6 c6 W6 o6 g6
             have K6 : Keeps w1 W6 := pt_mono K5 g6 (fun j hj => (rowK.own_lt o5 j hj).1)
             have y6 := (HB.out _ (KB.out.trans K6)).1
             have f6 := (HB.out _ (KB.out.trans K6)).2))
        all_goals (go_wp2; all_goals (go_end0; exact ⟨rfl, (INS.out ▸ ref_rows HR.out (KB.out.trans K6) o6).mono (fun g hg => Nat.le_trans (Nat.le_of_lt BSZ.out) hg), pt_grown (KB.out.trans K6) (pt_set _ _ _ _)⟩))
      · have S2 : Hid (∀ W, Keeps w1 W → rowK.Src W (.slice (if cl = k then some ⟨g, 0, none⟩ else some ⟨g, k * 5, none⟩) (N - k) (cl - k)) (p.L.drop k)) := Lib.hid fun W kk => by
          refine row_back rowK (rowK.own_keeps HOL.out (KB.out.trans kk)) k _ _ _ (by rw [HL.out]) ?_
          split
          · exact Or.inr ⟨by rw [HL.out]; omega, _, rfl⟩
          · exact Or.inl rfl
        go_upto_region 7 with (fail)
        go_region_law (first
          | (refine stepAppOwnK rowK rfl _ _ rfl rfl w1.heap.size ?hB2 (.slice p4 k c4) _ (p.L.take k) [r] (k + 1) LEN1.out rfl rfl ?hO2 ?hS2 LN1.out ?_
             case hB2 => exact Nat.le_trans KC.out.size (by simp)
             case hO2 => exact rowK.own_keeps OC.out (kept_alloc (rp_drew (Keeps.refl _)) _)
             case hS2 => exact row_src1 rowK _ r
             intro p5 c5 W5 o5 g5
             have K5 : Keeps w1 W5 := pt_mono (kept_alloc (rp_drew KC.out) _) g5 (fun j hj => (rowK.own_lt OC.out j hj).1)
             have y5 := (HB.out _ (KB.out.trans K5)).1
             have f5 := (HB.out _ (KB.out.trans K5)).2)
          | (refine stepAppOwnK rowK rfl _ _ rfl rfl w1.heap.size K5.size (.slice p5 (k + 1) c5) _ (p.L.take k ++ [r]) (p.L.drop k) (N + 1) LEN2.out rfl rfl o5 (S2.out _ K5) LN2.out ?_
             intro p6 c6 W6 o6 g6
             have K6 : Keeps w1 W6 := pt_mono K5 g6 (fun j hj => (rowK.own_lt o5 j hj).1)
             have y6 := (HB.out _ (KB.out.trans K6)).1
             have f6 := (HB.out _ (KB.out.trans K6)).2))
        all_goals (go_wp2; all_goals (go_end0; exact ⟨rfl, (INS.out ▸ ref_rows HR.out (KB.out.trans K6) o6).mono (fun g hg => Nat.le_trans (Nat.le_of_lt BSZ.out) hg), pt_grown (KB.out.trans K6) (pt_set _ _ _ _)⟩))
end Go.Proofs.YtkffpmeocfhcpaaDoor
