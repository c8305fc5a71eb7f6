
/- The program's party: isGoods, Left. The laws of party: what they share (ask, answers, asked). What the laws of party take: a firm, messages. The laws of party: Great, Same. The laws of party: two parties at once. -/
import Derived.Test.YtkffpmeocfhcpaaDoorPpC2
import Derived.Test.YtkffpmeocfhcpaaDoorOdMayC
import Derived.Test.YtkffpmeocfhcpaaDoorPpZ
import Derived.Test.YtkffpmeocfhcpaaDoorOpenOrd
import Derived.Test.YtkffpmeocfhcpaaDoorPtRefC
import Derived.Deep.Slices
import Derived.Test.YtkffpmeocfhcpaaDoorRwRefV
set_option linter.unusedVariables false
namespace Go.Proofs.YtkffpmeocfhcpaaDoor
open Go.ChangeShapes Go.WideShapes Go.ChangeAt Go.RowKit Ky Rw
namespace Pp
def nmB (s : ByteArray) : Bool := Od.mayM 1 1 0 s 1 0 0
theorem nmB_iff {s : ByteArray} : nmB s = true ↔ Nm s := by
  unfold nmB Od.mayM
  have e1 : checkK 1 0 = true := by decide
  have e2 : partyK 0 = 1 := by decide
  simp only [e1, e2]
  simp
  constructor
  · rintro ⟨⟨h1, h2⟩, h3⟩
    exact ⟨h1, h2, h3⟩
  · rintro ⟨h1, h2, h3⟩
    exact ⟨⟨h1, h2⟩, h3⟩
theorem pp_isGoods (s : ByteArray) (W : World) (hp : HasP W) (hs : s.size ≤ maxLen) : Calls Tryd.prog 43 #[.string s] W fun e w' => e = .returned (.bool (nmB s)) ∧ Keeps W w' := by
  have hm := od_may 1 1 0 s 1 0 0 W hp hs
  have E : Hid (Od.mayM 1 1 0 s 1 0 0 = nmB s) := Lib.hid rfl
  rw [E.out] at hm
  unfold msV at hm
  go_enter Tryd.func43, Tryd.ntmps43
  go_wp2_with fail
  refine hm.mono ?_
  rintro e w1 ⟨rfl, k1⟩
  have K1 := Lib.hid k1
  clear k1
  go_wp2
  go_ret
  exact ⟨rfl, K1.out⟩
/-- What Left answers. -/
def leftV (p : Pt.P) (s : ByteArray) : Int := if p.kind = 1 ∧ nmB s = true then Pt.left p s else 0
set_option maxHeartbeats 4000000 in
set_option maxRecDepth 100000 in
theorem pp_Left {W : World} {b br bs bh c : Nat} {p : Pt.P} {q : Int} (h : PpAt W b br bs bh c p q) (hp : HasP W) (s : ByteArray) (hs : s.size ≤ maxLen) :
    Calls Tryd.prog 20 #[.pointer (some ⟨b, 0, none⟩), .string s] W fun e w' => e = .returned (.int .i64 (leftV p s)) ∧ Keeps W w' := by
  have CN := Lib.hid (pp_none h)
  have y0 := h.cells.1
  by_cases hk : p.kind = 1
  · have CG := Lib.hid (pp_isGoods s W hp hs)
    cases hn : nmB s with
    | true =>
      rw [hn] at CG
      have nm := nmB_iff.1 hn
      have E : Hid (leftV p s = Pt.left p s) := Lib.hid (by unfold leftV; rw [if_pos ⟨hk, hn⟩])
      generalize leftV p s = r at E ⊢
      have CD := Lib.hid fun (X : World) => pp_named s X nm.few
      have CL := Lib.hid fun (X : World) (k : Keeps W X) => pp_left (h.keeps k) s nm
      rw [hk] at y0
      clear h hk hn
      go_enter Tryd.func20, Tryd.ntmps20
      go_wp2_with fail
      refine CN.out.mono ?_
      rintro e w1 ⟨rfl, rfl⟩
      go_wp2_with fail
      refine CG.out.mono ?_
      rintro e w2 ⟨rfl, k2⟩
      have K2 := Lib.hid k2
      clear k2
      go_wp2_with fail
      refine (CD.out _).mono ?_
      rintro e w3 ⟨rfl, k3⟩
      have K3 := Lib.hid (K2.out.trans k3)
      clear k3
      go_wp2_with fail
      refine (CL.out _ K3.out).mono ?_
      rintro e w4 ⟨rfl, k4⟩
      have K4 := Lib.hid (K3.out.trans k4)
      clear k4
      go_wp2
      go_ret
      exact ⟨by rw [E.out]; rfl, K4.out⟩
    | false =>
      rw [hn] at CG
      have E : Hid (leftV p s = 0) := Lib.hid (by unfold leftV; rw [if_neg (fun e => by rw [hn] at e; exact Bool.false_ne_true e.2)])
      generalize leftV p s = r at E ⊢
      rw [hk] at y0
      clear h hk hn
      go_enter Tryd.func20, Tryd.ntmps20
      go_wp2_with fail
      refine CN.out.mono ?_
      rintro e w1 ⟨rfl, rfl⟩
      go_wp2_with fail
      refine CG.out.mono ?_
      rintro e w2 ⟨rfl, k2⟩
      have K2 := Lib.hid k2
      clear k2
      go_wp2
      go_ret
      exact ⟨by rw [E.out]; rfl, K2.out⟩
  · have E : Hid (leftV p s = 0) := Lib.hid (by unfold leftV; rw [if_neg (fun e => hk e.1)])
    generalize leftV p s = r at E ⊢
    have hkb : (p.kind != 1) = true := by simpa using hk
    clear h hk
    go_enter Tryd.func20, Tryd.ntmps20
    go_wp2_with fail
    refine CN.out.mono ?_
    rintro e w1 ⟨rfl, rfl⟩
    go_wp2
    go_ret
    exact ⟨by rw [E.out]; rfl, Keeps.refl _⟩
end Pp
end Go.Proofs.YtkffpmeocfhcpaaDoor
namespace Go.Proofs.YtkffpmeocfhcpaaDoor
open Go.ChangeShapes Go.WideShapes Go.ChangeAt Go.RowKit Ky Rw Od
namespace Pa
open Pp
/-- A party of a law's own, in memory that is its own. -/
structure Own (B : Nat) (W : World) (b br bs bh c : Nat) (p : Pt.P) (q : Int) : Prop where
  at_ : PpAt W b br bs bh c p q
  inv : Pt.Inv p
  lb : B ≤ b
  lr : B ≤ br
  ls : B ≤ bs
  lh : B ≤ bh
section
variable {B b br bs bh c : Nat} {p : Pt.P} {q : Int} {W X : World}
theorem Own.keeps (h : Own B W b br bs bh c p q) (k : Keeps W X) : Own B X b br bs bh c p q := ⟨h.at_.keeps k, h.inv, h.lb, h.lr, h.ls, h.lh⟩
theorem Own.only {F : Nat → Prop} (h : Own B W b br bs bh c p q) (g : Only F W X) (h0 : ¬ F b) (h1 : ¬ F br) (h2 : ¬ F bs) (h3 : ¬ F bh) : Own B X b br bs bh c p q := ⟨h.at_.only g h0 h1 h2 h3, h.inv, h.lb, h.lr, h.ls, h.lh⟩
theorem Own.ask (h : Own B W b br bs bh c p q) (hp : HasP W) (hc : c < 100000) (m : Pt.M) (hs : m.s.size ≤ maxLen) :
    Calls Tryd.prog 13 #[.pointer (some ⟨b, 0, none⟩), pmV m] W fun e w' => e = .returned (.tuple #[ansV m (Pt.ask p m).2, .bool (Pt.ask p m).2.isSome]) ∧ Own B w' b br bs bh (c + 4) (Pt.ask p m).1 q ∧ Only (three br bs bh) W w' :=
  (pp_ask h.at_ hp h.inv hc m hs).mono fun e w' ⟨h1, h2, h3⟩ => ⟨h1, ⟨h2, Pt.ask_inv h.inv m, h.lb, h.lr, h.ls, h.lh⟩, h3⟩
theorem Own.three (h : Own B W b br bs bh c p q) : ∀ i, three br bs bh i → B ≤ i := by
  rintro i (rfl | rfl | rfl)
  · exact h.lr
  · exact h.ls
  · exact h.lh
end
theorem own_new {W w' : World} {kind stock limit : Int} {e : Ending} (h : NewAt W (Pt.newP kind stock limit) e w') (h0 : 0 ≤ kind) (h2 : kind ≤ 2) : ∃ b br bs bh, e = .returned (.pointer (some ⟨b, 0, none⟩)) ∧ Own W.heap.size w' b br bs bh 0 (Pt.newP kind stock limit) 0 ∧ Keeps W w' := by
  obtain ⟨⟨b, br, bs, bh, rfl, h1, l0, l1, l2, l3⟩, k⟩ := h
  exact ⟨b, br, bs, bh, rfl, ⟨h1, Pt.inv_new h0 h2, l0, l1, l2, l3⟩, k⟩
theorem own_copy {W w' : World} {c : Nat} {p : Pt.P} {q : Int} {e : Ending} (h : CopyAt W c p q e w') (hi : Pt.Inv p) : ∃ b br bs bh, e = .returned (.pointer (some ⟨b, 0, none⟩)) ∧ Own W.heap.size w' b br bs bh c p q ∧ Keeps W w' := by
  obtain ⟨⟨b, br, bs, bh, rfl, h1, l0, l1, l2, l3⟩, k⟩ := h
  exact ⟨b, br, bs, bh, rfl, ⟨h1, hi, l0, l1, l2, l3⟩, k⟩
theorem pa_at5 {B : Nat} {W : World} {g N c i : Nat} {L : List R} {x : R} (h : rowK.Own B W (.slice (some ⟨g, 0, none⟩) N c) L) (hx : L[i]? = some x) :
    (W.cell? ⟨g, i * 5, none⟩ = some (.int .i64 x.o) ∧ W.cell? ⟨g, i * 5 + 1, none⟩ = some (.int .i64 x.d) ∧ W.cell? ⟨g, i * 5 + 2, none⟩ = some (.int .i64 x.c) ∧ W.cell? ⟨g, i * 5 + 3, none⟩ = some (.int .i64 x.a) ∧ W.cell? ⟨g, i * 5 + 4, none⟩ = some (.int .i64 x.q)) ∧
    (W.frozen? ⟨g, i * 5, none⟩ = false ∧ W.frozen? ⟨g, i * 5 + 1, none⟩ = false ∧ W.frozen? ⟨g, i * 5 + 2, none⟩ = false ∧ W.frozen? ⟨g, i * 5 + 3, none⟩ = false ∧ W.frozen? ⟨g, i * 5 + 4, none⟩ = false) := by
  have c : ∀ t u, (rwVals x)[t]? = some u → W.cell? ⟨g, i * 5 + t, none⟩ = some u := fun t u hu => rowK.own_at h hx hu
  obtain ⟨cs, hb⟩ := rowK.own_tag h (g := g) rfl
  exact ⟨⟨c 0 _ rfl, c 1 _ rfl, c 2 _ rfl, c 3 _ rfl, c 4 _ rfl⟩, Joins.unfrozen_of_block hb _, Joins.unfrozen_of_block hb _, Joins.unfrozen_of_block hb _, Joins.unfrozen_of_block hb _, Joins.unfrozen_of_block hb _⟩
theorem pa_ptr {B : Nat} {W : World} {pv : Option Addr} {n c : Nat} {L : List R} (h : rowK.Own B W (.slice pv n c) L) (hl : 1 ≤ L.length) : ∃ g, pv = some ⟨g, 0, none⟩ := by
  obtain ⟨h1, h2⟩ := h
  rcases h2 with ⟨e, hn⟩ | ⟨g', cap, cur, e, _⟩
  · exfalso
    cases e
    simp_all
  · simp only [Value.slice.injEq] at e
    exact ⟨g', e.1⟩
def nut : ByteArray := ⟨#[110, 117, 116]⟩
def rS : ByteArray := ⟨#[114]⟩
def mm (o d : Int) : Pt.M := ⟨1, o, d, nut, 4, 0, 0⟩
theorem nut_size : nut.size ≤ maxLen := by unfold maxLen; decide
theorem r_size : rS.size ≤ maxLen := by unfold maxLen; decide
def p1 : Pt.P := ⟨1, 5, 0, [⟨1, 0, 1, 0, 4⟩], [⟨1, nut, 4⟩]⟩
def p2 : Pt.P := ⟨1, 5, 0, [⟨1, 0, 1, 0, 4⟩, ⟨2, 0, 2, 0, 0⟩], [⟨1, nut, 4⟩]⟩
def p3 : Pt.P := ⟨1, 5, 0, [⟨1, 0, 1, 0, 4⟩, ⟨1, 3, 1, 0, 4⟩, ⟨2, 0, 2, 0, 0⟩], []⟩
def p4 : Pt.P := ⟨1, 5, 0, [⟨1, 0, 1, 0, 4⟩, ⟨1, 3, 1, 0, 4⟩, ⟨2, 0, 2, 0, 0⟩, ⟨3, 0, 2, 0, 0⟩, ⟨3, 3, 1, 0, 0⟩], []⟩
theorem a1 : Pt.ask (Pt.newP 1 5 0) (mm 1 0) = (p1, some 1) := by kernel_rfl
theorem a2 : Pt.ask p1 (mm 1 0) = (p1, some 1) := by kernel_rfl
theorem a3 : Pt.ask p1 (mm 2 0) = (p2, some 2) := by kernel_rfl
theorem a4 : Pt.ask p2 (mm 1 3) = (p3, some 1) := by kernel_rfl
theorem a5 : Pt.ask p3 (mm 1 0) = (p3, some 1) := by kernel_rfl
theorem a6 : Pt.ask p3 (mm 3 3) = (p4, some 1) := by kernel_rfl
theorem a7 : Pt.ask p4 (mm 3 0) = (p4, some 2) := by kernel_rfl
theorem l2 : leftV p2 nut = 1 := by kernel_rfl
theorem l3 : leftV p3 nut = 5 := by kernel_rfl
theorem is10 : IsM 1 rS nut 4 300 0 1 1 0 nut 4 0 := Or.inl ⟨by decide +kernel, by decide, by decide, by decide, rfl, rfl, Or.inr ⟨by decide, rfl, rfl, rfl⟩⟩
theorem is20 : IsM 2 rS nut 4 300 0 1 2 0 nut 4 0 := Or.inl ⟨by decide +kernel, by decide, by decide, by decide, rfl, rfl, Or.inr ⟨by decide, rfl, rfl, rfl⟩⟩
theorem is13 : IsM 1 rS nut 4 300 3 1 1 3 nut 4 0 := Or.inl ⟨by decide +kernel, by decide, by decide, by decide, rfl, rfl, Or.inr ⟨by decide, rfl, rfl, rfl⟩⟩
theorem is33 : IsM 3 rS nut 4 300 3 1 3 3 nut 4 0 := Or.inl ⟨by decide +kernel, by decide, by decide, by decide, rfl, rfl, Or.inr ⟨by decide, rfl, rfl, rfl⟩⟩
theorem is30 : IsM 3 rS nut 4 300 0 1 3 0 nut 4 0 := Or.inl ⟨by decide +kernel, by decide, by decide, by decide, rfl, rfl, Or.inr ⟨by decide, rfl, rfl, rfl⟩⟩
set_option maxHeartbeats 4000000 in
set_option maxRecDepth 100000 in
theorem la_ask {o d : Int} (hm : IsM o rS nut 4 300 d 1 o d nut 4 0) (W : World) : Calls Tryd.prog 56 #[.int .i64 o, .int .i64 d] W fun e w' => e = .returned (pmV (mm o d)) ∧ Keeps W w' := by
  have K1 := Lib.hid (ky_box W noObj)
  have CM := Lib.hid (fun X (k : Keeps W X) => show Calls Tryd.prog 77 #[odV o rS nut 4 300, .int .i64 d] X (fun e w' => e = .returned (msV 1 o d nut 4 0 0) ∧ Keeps X w') from (or_msg o rS nut 4 300 d X r_size nut_size).mono fun e w' h => by
    obtain ⟨t', o', k', S', Q', A', rfl, hm', k2⟩ := h
    obtain ⟨rfl, rfl, rfl, rfl, rfl, rfl⟩ := hm.same hm'
    exact ⟨rfl, k2⟩)
  have HB := Lib.hid (heap_alloc_new W noObj)
  have SEV := Lib.hid fun (X : World) (hX : X.heap[W.heap.size]? = some noObj) => (show (X.cell? ⟨W.heap.size, 0, none⟩ = some (.int .i64 0) ∧ X.cell? ⟨W.heap.size, 1, none⟩ = some (.int .i64 0) ∧ X.cell? ⟨W.heap.size, 2, none⟩ = some (.int .i64 0) ∧ X.cell? ⟨W.heap.size, 3, none⟩ = some (.string ⟨#[]⟩) ∧ X.cell? ⟨W.heap.size, 4, none⟩ = some (.int .i64 0) ∧ X.cell? ⟨W.heap.size, 5, none⟩ = some (.int .i64 0) ∧ X.cell? ⟨W.heap.size, 6, none⟩ = some (.int .i64 0)) ∧
      (∀ i, X.frozen? ⟨W.heap.size, i, none⟩ = false) from by
    refine ⟨by simp [World.cell?, hX, noObj], fun i => by simp [World.frozen?, hX, noObj]⟩)
  unfold odV msV at CM
  unfold pmV mm
  unfold nut rS at *
  unfold noObj at *
  clear hm
  go_enter Tryd.func56, Tryd.ntmps56
  go_wp2_with fail
  refine (CM.out _ (by first | exact K1.out | exact K1.out.trans (ky_drew _))).mono ?_
  rintro e w1 ⟨rfl, k1⟩
  have K2 := Lib.hid (Keeps.trans (ky_box _ _) k1)
  have hb := (k1.block W.heap.size (by simp)).trans HB.out
  obtain ⟨⟨v0, v1, v2, v3, v4, v5, v6⟩, fz⟩ := SEV.out _ hb
  have f0 := fz 0
  have f1 := fz 1
  have f2 := fz 2
  have f3 := fz 3
  have f4 := fz 4
  have f5 := fz 5
  have f6 := fz 6
  clear k1 hb fz
  go_wp2
  refine bodyPost_ret (v := .agg #[.int .i64 1, .int .i64 o, .int .i64 d, .string ⟨#[110, 117, 116]⟩, .int .i64 4, .int .i64 0, .int .i64 0]) (by simp [results, Tryd.results56, go_sem, v0, v1, v2, v3, v4, v5, v6]) rfl ?_
  exact ⟨rfl, Only.keeps (Pp.seven_set _ _ _ _ _ _ _ _ _) K2.out (fun i hi => by omega)⟩
set_option maxHeartbeats 4000000 in
set_option maxRecDepth 100000 in
theorem la_answers {B b br bs bh c : Nat} {p p' : Pt.P} {q : Int} {W : World} (h : Own B W b br bs bh c p q) (hp : HasP W) (hc : c < 100000) (hb : B ≤ W.heap.size) {o d k : Int} (hm : IsM o rS nut 4 300 d 1 o d nut 4 0) (he : Pt.ask p (mm o d) = (p', some k)) :
    Calls Tryd.prog 25 #[.pointer (some ⟨b, 0, none⟩), .int .i64 o, .int .i64 d, .int .i64 k] W fun e w' => e = .returned (.bool true) ∧ Own B w' b br bs bh (c + 4) p' q ∧ Only (three br bs bh) W w' := by
  have CA := Lib.hid (la_ask hm W)
  have CP := Lib.hid fun X (kk : Keeps W X) => (h.keeps kk).ask (hp.keeps kk) hc (mm o d) nut_size
  rw [he] at CP
  have e1 : (some k).isSome = true := rfl
  unfold ansV mm at CP
  simp only [e1] at CP
  clear hm he hp h
  go_enter Tryd.func25, Tryd.ntmps25
  go_wp2_with fail
  refine CA.out.mono ?_
  rintro e w1 ⟨rfl, k1⟩
  have K1 := Lib.hid k1
  clear k1
  unfold mm
  go_wp2_with fail
  refine (CP.out _ K1.out).mono ?_
  rintro e w2 ⟨rfl, h2, g2⟩
  have H2 := Lib.hid h2
  have G2 := Lib.hid g2
  clear h2 g2
  go_wp2
  go_ret
  have kb := ky_box w2 (.cells #[.int .i64 3, .int .i64 o, .int .i64 d, .string ⟨#[]⟩, .int .i64 0, .int .i64 0, .int .i64 k] tPm)
  exact ⟨rfl, H2.out.keeps kb, ((Only.of_keeps K1.out).trans G2.out).trans (Only.of_keeps kb)⟩
theorem rows5 : p4.L = [⟨1, 0, 1, 0, 4⟩, ⟨1, 3, 1, 0, 4⟩, ⟨2, 0, 2, 0, 0⟩, ⟨3, 0, 2, 0, 0⟩, ⟨3, 3, 1, 0, 0⟩] := rfl
set_option maxHeartbeats 8000000 in
set_option maxRecDepth 100000 in
theorem la_asked (W : World) (hp : HasP W) : Calls Tryd.prog 9 #[] W fun e w' => e = .returned (.bool true) ∧ Keeps W w' := by
  have CN := Lib.hid (pp_new 1 5 0 W (by omega))
  have HP := Lib.hid fun X (k : Keeps W X) => hp.keeps k
  have CA : Hid (∀ ⦃X : World⦄ ⦃b br bs bh c : Nat⦄ ⦃p p' : Pt.P⦄ ⦃o d k : Int⦄, Own W.heap.size X b br bs bh c p 0 → Keeps W X → c < 100000 → IsM o rS nut 4 300 d 1 o d nut 4 0 → Pt.ask p (mm o d) = (p', some k) →
      Calls Tryd.prog 25 #[.pointer (some ⟨b, 0, none⟩), .int .i64 o, .int .i64 d, .int .i64 k] X fun e w' => e = .returned (.bool true) ∧ Own W.heap.size w' b br bs bh (c + 4) p' 0 ∧ Keeps W w') := Lib.hid (by
    intro X b br bs bh c p p' o d k h kk hc hm he
    exact (la_answers h (hp.keeps kk) hc kk.size hm he).mono fun e w' ⟨h1, h2, h3⟩ => ⟨h1, h2, h3.keeps kk h.three⟩)
  have CL : Hid (∀ ⦃X : World⦄ ⦃b br bs bh c : Nat⦄ ⦃p : Pt.P⦄ ⦃n : Int⦄, Own W.heap.size X b br bs bh c p 0 → Keeps W X → leftV p nut = n →
      Calls Tryd.prog 20 #[.pointer (some ⟨b, 0, none⟩), .string ⟨#[110, 117, 116]⟩] X fun e w' => e = .returned (.int .i64 n) ∧ Own W.heap.size w' b br bs bh c p 0 ∧ Keeps W w') := Lib.hid (by
    intro X b br bs bh c p n h kk hn
    exact (pp_Left h.at_ (hp.keeps kk) nut nut_size).mono fun e w' ⟨h1, h2⟩ => ⟨hn ▸ h1, h.keeps h2, kk.trans h2⟩)
  clear hp
  go_enter Tryd.func9, Tryd.ntmps9
  go_wp2_with fail
  refine CN.out.mono ?_
  rintro e w0 hn
  obtain ⟨b, br, bs, bh, rfl, h, k0⟩ := own_new hn (by omega) (by omega)
  have H0 := Lib.hid h
  have K0 := Lib.hid k0
  clear hn h k0
  go_wp2_with fail
  refine (CA.out H0.out K0.out (by omega) is10 a1).mono ?_
  rintro e w1 ⟨rfl, h, k⟩
  have H1 := Lib.hid h
  have K1 := Lib.hid k
  clear h k
  go_wp2_with fail
  refine (CA.out H1.out K1.out (by omega) is10 a2).mono ?_
  rintro e w2 ⟨rfl, h, k⟩
  have H2 := Lib.hid h
  have K2 := Lib.hid k
  clear h k
  go_wp2_with fail
  refine (CA.out H2.out K2.out (by omega) is20 a3).mono ?_
  rintro e w3 ⟨rfl, h, k⟩
  have H3 := Lib.hid h
  have K3 := Lib.hid k
  clear h k
  go_wp2_with fail
  refine (CL.out H3.out K3.out l2).mono ?_
  rintro e w4 ⟨rfl, h, k⟩
  have H4 := Lib.hid h
  have K4 := Lib.hid k
  clear h k
  go_wp2_with fail
  refine (CA.out H4.out K4.out (by omega) is13 a4).mono ?_
  rintro e w5 ⟨rfl, h, k⟩
  have H5 := Lib.hid h
  have K5 := Lib.hid k
  clear h k
  go_wp2_with fail
  refine (CL.out H5.out K5.out l3).mono ?_
  rintro e w6 ⟨rfl, h, k⟩
  have H6 := Lib.hid h
  have K6 := Lib.hid k
  clear h k
  go_wp2_with fail
  refine (CA.out H6.out K6.out (by omega) is10 a5).mono ?_
  rintro e w7 ⟨rfl, h, k⟩
  have H7 := Lib.hid h
  have K7 := Lib.hid k
  clear h k
  go_wp2_with fail
  refine (CL.out H7.out K7.out l3).mono ?_
  rintro e w8 ⟨rfl, h, k⟩
  have H8 := Lib.hid h
  have K8 := Lib.hid k
  clear h k
  go_wp2_with fail
  refine (CA.out H8.out K8.out (by omega) is33 a6).mono ?_
  rintro e w9 ⟨rfl, h, k⟩
  have H9 := Lib.hid h
  have K9 := Lib.hid k
  clear h k
  go_wp2_with fail
  refine (CA.out H9.out K9.out (by omega) is30 a7).mono ?_
  rintro e wa ⟨rfl, h, k⟩
  have HA := Lib.hid h
  have KA := Lib.hid k
  clear h k
  go_wp2_with fail
  refine (pp_stmt HA.out.at_ HA.out.inv (by omega) (by omega) (by omega)).mono ?_
  rintro e wb ⟨v, rfl, hv, h, hg⟩
  obtain ⟨pv, cv, rfl⟩ := rowK.own_shape hv
  have KB := Lib.hid (hg.keeps KA.out (by rintro i rfl; exact HA.out.lb))
  obtain ⟨g, rfl⟩ := pa_ptr hv (by decide)
  have hl : p4.L.length = 5 := rfl
  have hk : p4.kind = 1 := rfl
  rw [hl] at hv ⊢
  rw [hk, show (0 : Int) + 1 = 1 from rfl]
  clear h hg
  have ko := ky_box wb (.cells #[.int .i64 1, .int .i64 1, .slice (some ⟨g, 0, none⟩) 5 cv] tSt)
  have h5 := rowK.own_keeps hv ko
  obtain ⟨⟨x0, x1, x2, x3, x4⟩, _⟩ := pa_at5 (i := 0) h5 (x := ⟨1, 0, 1, 0, 4⟩) rfl
  obtain ⟨⟨y0, y1, y2, y3, y4⟩, _⟩ := pa_at5 (i := 1) h5 (x := ⟨1, 3, 1, 0, 4⟩) rfl
  obtain ⟨⟨z0, z1, z2, z3, z4⟩, _⟩ := pa_at5 (i := 4) h5 (x := ⟨3, 3, 1, 0, 0⟩) rfl
  simp only [Nat.zero_mul, Nat.one_mul, Nat.zero_add, Nat.reduceMul, Nat.reduceAdd] at x0 x1 x2 x3 x4 y0 y1 y2 y3 y4 z0 z1 z2 z3 z4
  have KO := Lib.hid (KB.out.trans ko)
  clear hv h5 ko
  go_wp2
  go_ret
  exact ⟨rfl, KO.out⟩
end Pa
end Go.Proofs.YtkffpmeocfhcpaaDoor
namespace Go.Proofs.YtkffpmeocfhcpaaDoor
open Go.ChangeShapes Go.WideShapes Go.ChangeAt Go.RowKit Ky Rw Od Go.Deep
namespace Pa
def fmV (kind stock limit : Int) : Value := .agg #[.int .i64 kind, .int .i64 stock, .int .i64 limit]
abbrev tFm : TypeId := 23
def fmBox (kind stock limit : Int) : Obj := .cells #[.int .i64 kind, .int .i64 stock, .int .i64 limit] tFm
theorem fm_cells (w : World) (k s l : Int) : ∀ W, Keeps (w.alloc (fmBox k s l)) W → W.cell? ⟨w.heap.size, 0, none⟩ = some (.int .i64 k) ∧ W.cell? ⟨w.heap.size, 1, none⟩ = some (.int .i64 s) ∧ W.cell? ⟨w.heap.size, 2, none⟩ = some (.int .i64 l) := fun W kk => by
  have e := (kk.block _ (by simp)).trans (heap_alloc_new w (fmBox k s l))
  exact ⟨Joins.cell_of_block e 0, Joins.cell_of_block e 1, Joins.cell_of_block e 2⟩
def msgVals (m : Pt.M) : List Value := [.int .i64 m.t, .int .i64 m.o, .int .i64 m.k, .string m.s, .int .i64 m.q, .int .i64 m.a, .int .i64 m.c]
/-- A message in seven cells. -/
def MsgAt (w : World) (a : Addr) (m : Pt.M) : Prop :=
  w.cell? a = some (.int .i64 m.t) ∧ w.cell? ⟨a.block, a.off + 1, none⟩ = some (.int .i64 m.o) ∧ w.cell? ⟨a.block, a.off + 2, none⟩ = some (.int .i64 m.k) ∧ w.cell? ⟨a.block, a.off + 3, none⟩ = some (.string m.s) ∧ w.cell? ⟨a.block, a.off + 4, none⟩ = some (.int .i64 m.q) ∧ w.cell? ⟨a.block, a.off + 5, none⟩ = some (.int .i64 m.a) ∧ w.cell? ⟨a.block, a.off + 6, none⟩ = some (.int .i64 m.c)
theorem MsgAt.keeps {w w' : World} {a : Addr} {x : Pt.M} (h : MsgAt w a x) (k : Keeps w w') : MsgAt w' a x := ⟨cell_keeps k h.1, cell_keeps k h.2.1, cell_keeps k h.2.2.1, cell_keeps k h.2.2.2.1, cell_keeps k h.2.2.2.2.1, cell_keeps k h.2.2.2.2.2.1, cell_keeps k h.2.2.2.2.2.2⟩
/-- Messages that came in. -/
def MsgsAt (w : World) (v : Value) (L : List Pt.M) : Prop :=
  ∃ p c, v = .slice p L.length c ∧ L.length ≤ maxLen ∧ ∀ j x, L[j]? = some x → x.s.size ≤ maxLen ∧ ∃ a : Addr, p = some a ∧ MsgAt w (a.add (j * 7)) x
theorem MsgsAt.keeps {w w' : World} {v : Value} {L : List Pt.M} (h : MsgsAt w v L) (k : Keeps w w') : MsgsAt w' v L := by
  obtain ⟨p, c, h1, h2, h3⟩ := h
  refine ⟨p, c, h1, h2, fun j x hx => ?_⟩
  obtain ⟨g, a, ha, hc⟩ := h3 j x hx
  exact ⟨g, a, ha, hc.keeps k⟩
variable {H : Type} {enc : TypeId × Value → H} {w : World} {base : Nat} {held : Bool}
theorem pc_firm : Tryd.prog.cellsOf tFm = 3 := by kernel_rfl
set_option maxRecDepth 100000 in
theorem open_firm {r : Reach} {b0 : Nat} {v : Value} {d : DataW H} {ps : List MemPlace} (hv : Value.okWide Tryd.prog w r b0 tFm v) (h : DataW.Trod enc Tryd.prog w base (fun _ => true) held tFm v d ps) :
    ∃ k s l, v = fmV k s l ∧ I64 k ∧ I64 s ∧ I64 l := by
  obtain ⟨cs, rfl, hsz⟩ := okWide_struct Tryd.underlying23 hv
  obtain ⟨fuel, hf0⟩ := h
  obtain ⟨ys, n, _, _, hlen, hyl, hf⟩ := DataW.trod_struct Tryd.underlying23 hf0
  have hlen2 : cs.toList.length = 3 := by rw [Array.length_toList, hsz]; exact pc_firm
  obtain ⟨c0, c1, c2, hcs⟩ := sl3 hlen2
  obtain rfl : cs = #[c0, c1, c2] := by rw [← Array.toArray_toList (xs := cs), hcs]
  have hys : ys.length = 3 := hyl
  have g : ∀ i, i < 3 → ∃ y, ys[i]? = some y := fun i hi => ⟨_, List.getElem?_eq_getElem (by omega)⟩
  have f0 : DataW.trod enc Tryd.prog w base (fun _ => true) held n 3 (([c0, c1, c2].drop 0).take (Tryd.prog.cellsOf 3)) = ys[0]? := hf 0 _ rfl
  have f1 : DataW.trod enc Tryd.prog w base (fun _ => true) held n 3 (([c0, c1, c2].drop 1).take (Tryd.prog.cellsOf 3)) = ys[1]? := hf 1 _ rfl
  have f2 : DataW.trod enc Tryd.prog w base (fun _ => true) held n 2 (([c0, c1, c2].drop 2).take (Tryd.prog.cellsOf 2)) = ys[2]? := hf 2 _ rfl
  simp only [oc_int, oc_i64, List.drop_zero, List.take_succ_cons, List.take_zero, List.drop_succ_cons] at f0 f1 f2
  obtain ⟨y0, e0⟩ := g 0 (by omega)
  obtain ⟨y1, e1⟩ := g 1 (by omega)
  obtain ⟨y2, e2⟩ := g 2 (by omega)
  rw [e0] at f0
  rw [e1] at f1
  rw [e2] at f2
  obtain ⟨k0, q0, _, w0⟩ := DataW.trod_int Tryd.underlying3 f0
  obtain ⟨k1, q1, _, w1⟩ := DataW.trod_int Tryd.underlying3 f1
  obtain ⟨k2, q2, _, w2⟩ := DataW.trod_int Tryd.underlying2 f2
  obtain rfl := (List.cons.inj q0).1
  obtain rfl := (List.cons.inj q1).1
  obtain rfl := (List.cons.inj q2).1
  exact ⟨k0, k1, k2, rfl, i64_of w0, i64_of w1, i64_of w2⟩
set_option maxRecDepth 100000 in
/-- The seven cells of a message, read. -/
theorem msg_of {fuel : Nat} {cs : List Value} {x : DataW H × List MemPlace} (h : DataW.trod enc Tryd.prog w base (fun _ => true) held fuel tMs cs = some x) :
    ∃ m : Pt.M, cs = msgVals m ∧ m.s.size ≤ maxLen := by
  obtain ⟨ys, n, _, _, hlen, hyl, hf⟩ := DataW.trod_struct Tryd.underlying35 h
  rw [oc_msg] at hlen
  obtain ⟨c0, c1, c2, c3, c4, c5, c6, rfl⟩ := list7 hlen
  have hys : ys.length = 6 := hyl
  have g : ∀ i, i < 6 → ∃ y, ys[i]? = some y := fun i hi => ⟨_, List.getElem?_eq_getElem (by omega)⟩
  have f0 : DataW.trod enc Tryd.prog w base (fun _ => true) held n 3 (([c0, c1, c2, c3, c4, c5, c6].drop 0).take (Tryd.prog.cellsOf 3)) = ys[0]? := hf 0 _ rfl
  have f1 : DataW.trod enc Tryd.prog w base (fun _ => true) held n 33 (([c0, c1, c2, c3, c4, c5, c6].drop 1).take (Tryd.prog.cellsOf 33)) = ys[1]? := hf 1 _ rfl
  have f2 : DataW.trod enc Tryd.prog w base (fun _ => true) held n 9 (([c0, c1, c2, c3, c4, c5, c6].drop 3).take (Tryd.prog.cellsOf 9)) = ys[2]? := hf 2 _ rfl
  have f3 : DataW.trod enc Tryd.prog w base (fun _ => true) held n 3 (([c0, c1, c2, c3, c4, c5, c6].drop 4).take (Tryd.prog.cellsOf 3)) = ys[3]? := hf 3 _ rfl
  have f4 : DataW.trod enc Tryd.prog w base (fun _ => true) held n 2 (([c0, c1, c2, c3, c4, c5, c6].drop 5).take (Tryd.prog.cellsOf 2)) = ys[4]? := hf 4 _ rfl
  have f5 : DataW.trod enc Tryd.prog w base (fun _ => true) held n 3 (([c0, c1, c2, c3, c4, c5, c6].drop 6).take (Tryd.prog.cellsOf 3)) = ys[5]? := hf 5 _ rfl
  simp only [oc_int, oc_str, oc_i64, oc_key, List.drop_zero, List.take_succ_cons, List.take_zero, List.drop_succ_cons] at f0 f1 f2 f3 f4 f5
  obtain ⟨y0, e0⟩ := g 0 (by omega)
  obtain ⟨y1, e1⟩ := g 1 (by omega)
  obtain ⟨y2, e2⟩ := g 2 (by omega)
  obtain ⟨y3, e3⟩ := g 3 (by omega)
  obtain ⟨y4, e4⟩ := g 4 (by omega)
  obtain ⟨y5, e5⟩ := g 5 (by omega)
  rw [e0] at f0
  rw [e1] at f1
  rw [e2] at f2
  rw [e3] at f3
  rw [e4] at f4
  rw [e5] at f5
  obtain ⟨k0, q0, _, w0⟩ := DataW.trod_int Tryd.underlying3 f0
  obtain ⟨zs, m, _, _, _, hzl, hz⟩ := DataW.trod_struct Tryd.underlying33 f1
  have hzs : zs.length = 2 := hzl
  have z0 : DataW.trod enc Tryd.prog w base (fun _ => true) held m 3 (([c1, c2].drop 0).take (Tryd.prog.cellsOf 3)) = zs[0]? := hz 0 _ rfl
  have z1 : DataW.trod enc Tryd.prog w base (fun _ => true) held m 3 (([c1, c2].drop 1).take (Tryd.prog.cellsOf 3)) = zs[1]? := hz 1 _ rfl
  simp only [oc_int, List.drop_zero, List.take_succ_cons, List.take_zero, List.drop_succ_cons] at z0 z1
  obtain ⟨u0, eu0⟩ : ∃ y, zs[0]? = some y := ⟨_, List.getElem?_eq_getElem (by omega)⟩
  obtain ⟨u1, eu1⟩ : ∃ y, zs[1]? = some y := ⟨_, List.getElem?_eq_getElem (by omega)⟩
  rw [eu0] at z0
  rw [eu1] at z1
  obtain ⟨j0, qj0, _, wj0⟩ := DataW.trod_int Tryd.underlying3 z0
  obtain ⟨j1, qj1, _, wj1⟩ := DataW.trod_int Tryd.underlying3 z1
  obtain ⟨k2, q2, _, w2⟩ := DataW.trod_string Tryd.underlying9 f2
  obtain ⟨k3, q3, _, w3⟩ := DataW.trod_int Tryd.underlying3 f3
  obtain ⟨k4, q4, _, w4⟩ := DataW.trod_int Tryd.underlying2 f4
  obtain ⟨k5, q5, _, w5⟩ := DataW.trod_int Tryd.underlying3 f5
  obtain rfl := (List.cons.inj q0).1
  obtain rfl := (List.cons.inj qj0).1
  obtain rfl := (List.cons.inj qj1).1
  obtain rfl := (List.cons.inj q2).1
  obtain rfl := (List.cons.inj q3).1
  obtain rfl := (List.cons.inj q4).1
  obtain rfl := (List.cons.inj q5).1
  exact ⟨⟨k0, j0, j1, k2, k3, k4, k5⟩, rfl, w2⟩
theorem open_msgs_in {p : Option Addr} {n c : Nat} {v : Value} {d : DataW H} {ps : List MemPlace} (e : v = .slice p n c) (h : DataW.Trod enc Tryd.prog w base (fun _ => true) held 24 v d ps) : ∃ L : List Pt.M, MsgsAt w v L := by
  obtain ⟨fuel, h⟩ := h
  subst e
  rcases open_slice Tryd.underlying24 h with ⟨hcs, _⟩ | ⟨a, len, cap, m, n', D, Pl, hcs, _, hl, hm, hz, _, hi⟩
  · rw [(List.cons.inj hcs).1]
    exact ⟨[], none, 0, rfl, by simp [maxLen], fun j x hx => by simp at hx⟩
  · rw [(List.cons.inj hcs).1]
    simp only [if_true] at hz
    have key : ∀ i, i < len → ∃ x : Pt.M, x.s.size ≤ maxLen ∧ MsgAt w (a.add (i * 7)) x := by
      intro i hil
      obtain ⟨cs', h1, h2⟩ := hi i (by omega)
      rw [oc_msg] at h1
      obtain ⟨x, rfl, hg⟩ := msg_of h2
      obtain ⟨_, _, hat⟩ := World.cells?_some h1
      have far : ∀ k, 0 < k → (a.add (i * 7)).add k = ⟨(a.add (i * 7)).block, (a.add (i * 7)).off + k, none⟩ := fun k hk => by
        unfold Addr.add
        rw [if_neg (by omega : ¬ k = 0)]
      refine ⟨x, hg, ?_, ?_, ?_, ?_, ?_, ?_, ?_⟩
      · have h0 := hat 0 (by decide)
        have e : (a.add (i * 7)).add 0 = a.add (i * 7) := rfl
        rw [e] at h0
        exact h0
      · have h0 := hat 1 (by decide)
        rw [far 1 (by omega)] at h0
        exact h0
      · have h0 := hat 2 (by decide)
        rw [far 2 (by omega)] at h0
        exact h0
      · have h0 := hat 3 (by decide)
        rw [far 3 (by omega)] at h0
        exact h0
      · have h0 := hat 4 (by decide)
        rw [far 4 (by omega)] at h0
        exact h0
      · have h0 := hat 5 (by decide)
        rw [far 5 (by omega)] at h0
        exact h0
      · have h0 := hat 6 (by decide)
        rw [far 6 (by omega)] at h0
        exact h0
    refine ⟨(List.range len).pmap (fun i hi => (key i hi).choose) (fun i hi => List.mem_range.1 hi), some a, cap, ?_, ?_, fun j x hx => ?_⟩
    · simp
    · simp; omega
    · rw [List.getElem?_pmap] at hx
      by_cases hj : j < len
      · simp only [List.getElem?_range hj, Option.pmap_some, Option.some.injEq] at hx
        subst hx
        exact ⟨(key j hj).choose_spec.1, a, rfl, (key j hj).choose_spec.2⟩
      · have : (List.range len)[j]? = none := List.getElem?_eq_none (by simp; omega)
        simp [this] at hx
end Pa
end Go.Proofs.YtkffpmeocfhcpaaDoor
namespace Go.Proofs.YtkffpmeocfhcpaaDoor
open Go.ChangeShapes Go.WideShapes Go.ChangeAt Go.RowKit Ky Rw Od
namespace Pa
def greatP (L : List Pt.M) (n : Int) : Bool := L.any (fun x => decide ((50 : Int) < (x.s.size : Int))) || decide (n < (L.length : Int))
def NoLong (L : List Pt.M) (k : Nat) : Prop := ∀ j x, j < k → L[j]? = some x → (x.s.size : Int) ≤ 50
theorem great_yes {L : List Pt.M} {n : Int} {k : Nat} {x : Pt.M} (hx : L[k]? = some x) (h : (50 : Int) < (x.s.size : Int)) : greatP L n = true := by
  unfold greatP
  rw [Bool.or_eq_true]
  exact Or.inl (List.any_eq_true.2 ⟨x, List.mem_of_getElem? hx, by simpa using h⟩)
theorem great_end {L : List Pt.M} {n : Int} (h : NoLong L L.length) : greatP L n = decide (n < (L.length : Int)) := by
  have e : L.any (fun x => decide ((50 : Int) < (x.s.size : Int))) = false := by
    rw [List.any_eq_false]
    intro x hx
    obtain ⟨j, hj⟩ := List.mem_iff_getElem?.1 hx
    have := h j x (List.getElem?_eq_some_iff.1 hj).1 hj
    simpa using this
  unfold greatP
  rw [e, Bool.false_or]
set_option maxRecDepth 100000 in
set_option maxHeartbeats 8000000 in
theorem la_great (v : Value) (L : List Pt.M) (n : Int) (w : World) (h : MsgsAt w v L) :
    Calls Tryd.prog 8 #[v, .int .i64 n] w fun e w' => e = .returned (.bool (greatP L n)) ∧ Keeps w w' := by
  have HP := Lib.hid h
  obtain ⟨p, c, rfl, hmx, _⟩ := h
  obtain ⟨N, hN⟩ : ∃ N, L.length = N := ⟨_, rfl⟩
  have HN := Lib.hid hN
  rw [hN] at hmx ⊢
  have hmx' : N ≤ 9223372036854775807 := by unfold Go.maxLen at hmx; omega
  clear hN hmx
  go_enter Tryd.func8, Tryd.ntmps8
  go_wp2
  go_loopw [5] (fun vi wr => ∃ k : Nat, k ≤ N ∧ vi = .int .i64 (k : Int) ∧ NoLong L k ∧ Keeps w wr) (fun vi _ => N - (intOf vi).toNat)
  case atStart => exact ⟨0, by omega, rfl, (fun j x hj => by omega), Keeps.refl _⟩
  case round =>
    obtain ⟨k, hk, rfl, hno, hkr⟩ := hrel
    have HKR := Lib.hid hkr
    have HNO := Lib.hid hno
    clear hkr hno
    by_cases hlt : k < N
    · obtain ⟨x, hx⟩ : ∃ x, L[k]? = some x := ⟨_, List.getElem?_eq_getElem (by have := HN.out; omega)⟩
      obtain ⟨p', c', e', _, hc⟩ := HP.out
      simp only [Value.slice.injEq] at e'
      obtain ⟨rfl, _, rfl⟩ := e'
      obtain ⟨_, ad, rfl, q⟩ := hc k x hx
      obtain ⟨q0, q1, q2, q3, q4, q5, q6⟩ := q.keeps HKR.out
      have HX := Lib.hid hx
      have hi1 : (k : Int) < (N : Int) := by omega
      have hi2 : (k : Int) ≤ (N : Int) := by omega
      have hi0 : (0 : Int) ≤ (k : Int) := by omega
      clear hc q hx q0 q1 q2 q4 q5 q6
      by_cases hs : (50 : Int) < (x.s.size : Int)
      · have E : Hid (greatP L n = true) := Lib.hid (great_yes HX.out hs)
        go_wp2
        go_ret
        exact ⟨by rw [E.out]; rfl, HKR.out⟩
      · have HN2 : Hid (NoLong L (k + 1)) := Lib.hid fun j y hj hy => by
          by_cases hjk : j = k
          · subst hjk
            rw [HX.out] at hy
            cases hy
            omega
          · exact HNO.out j y (by omega) hy
        go_wp2
        exact ⟨⟨k + 1, by omega, by go_num, HN2.out, HKR.out⟩, by simp [intOf]; omega⟩
    · obtain rfl : k = N := by omega
      have hz : ¬ ((k : Int) < (k : Int)) := by omega
      have E := Lib.hid (great_end (n := n) (show NoLong L L.length from by have := HNO.out; rwa [← HN.out] at this))
      go_wp2
      go_ret
      exact ⟨by rw [E.out, HN.out]; rfl, HKR.out⟩
theorem great_no {L : List Pt.M} {n : Int} (h : greatP L n = false) : (∀ x ∈ L, (x.s.size : Int) ≤ 50) ∧ (L.length : Int) ≤ n := by
  unfold greatP at h
  rw [Bool.or_eq_false_iff] at h
  obtain ⟨h1, h2⟩ := h
  rw [List.any_eq_false] at h1
  exact ⟨fun x hx => by have := h1 x hx; simpa using this, by simpa using h2⟩
theorem la_same {v v' : Value} {L M : List R} {W : World} (h : RowsIn W v L) (g : RowsIn W v' M) :
    Calls Tryd.prog 16 #[v, v'] W fun e w' => e = .returned (.bool (decide (L = M))) ∧ Keeps W w' := by
  have C := Lib.hid (rr_same 0 0 0 0 v v' L M W h g)
  have E : sameB 0 0 0 0 L M = decide (L = M) := by unfold sameB; simp
  rw [E] at C
  unfold stV at C
  obtain ⟨p, c, rfl, _⟩ := h
  obtain ⟨p', c', rfl, _⟩ := g
  generalize decide (L = M) = B at *
  go_enter Tryd.func16, Tryd.ntmps16
  go_wp2_with fail
  refine C.out.mono ?_
  rintro e w1 ⟨rfl, k1⟩
  have K1 := Lib.hid k1
  clear k1
  go_wp2
  go_ret
  exact ⟨rfl, K1.out⟩
end Pa
end Go.Proofs.YtkffpmeocfhcpaaDoor
namespace Go.Proofs.YtkffpmeocfhcpaaDoor
open Go.ChangeShapes Go.WideShapes Go.ChangeAt Go.RowKit Ky Rw Od
namespace Pa
open Pp
theorem left_pos {p : Pt.P} (h : Pt.Inv p) (s : ByteArray) : 0 ≤ leftV p s ∧ leftV p s ≤ p.stock := by
  unfold leftV
  have := h.left0 s
  split
  · exact this
  · exact ⟨Int.le_refl _, h.s0⟩
theorem askL_next {p0 : Pt.P} {L : List Pt.M} {k : Nat} {x : Pt.M} (h : L[k]? = some x) : (Pt.ask (Pt.askL p0 (L.take k)) x).1 = Pt.askL p0 (L.take (k + 1)) := by
  have e : L.take (k + 1) = L.take k ++ [x] := by rw [List.take_add_one, h]; rfl
  rw [e, Pt.askL_snoc]
/-- Rows of a law's own, kept by what a party writes. -/
theorem own_only {F : Nat → Prop} {B : Nat} {X Y : World} {v : Value} {L : List R} (h : rowK.Own B X v L) (g : Only F X Y) (hF : ∀ i, F i → i < B) : rowK.Own B Y v L :=
  rowK.own_local h fun i hi => by
    obtain ⟨h1, h2⟩ := rowK.own_lt h i hi
    exact g.same i h2 fun hf => by have := hF i hf; omega
def Off (br bs bh x : Nat) : Prop := x ≠ br ∧ x ≠ bs ∧ x ≠ bh
structure Apart (b br bs bh b' br' bs' bh' : Nat) : Prop where
  x0 : Off br bs bh b'
  x1 : Off br bs bh br'
  x2 : Off br bs bh bs'
  x3 : Off br bs bh bh'
  y0 : Off br' bs' bh' b
  y1 : Off br' bs' bh' br
  y2 : Off br' bs' bh' bs
  y3 : Off br' bs' bh' bh
theorem off_not {br bs bh x : Nat} (h : Off br bs bh x) : ¬ three br bs bh x := by
  rintro (e | e | e)
  · exact h.1 e
  · exact h.2.1 e
  · exact h.2.2 e
theorem apart_of {C b br bs bh b' br' bs' bh' : Nat} (h1 : b < C) (h2 : br < C) (h3 : bs < C) (h4 : bh < C) (g1 : C ≤ b') (g2 : C ≤ br') (g3 : C ≤ bs') (g4 : C ≤ bh') : Apart b br bs bh b' br' bs' bh' :=
  ⟨⟨by omega, by omega, by omega⟩, ⟨by omega, by omega, by omega⟩, ⟨by omega, by omega, by omega⟩, ⟨by omega, by omega, by omega⟩, ⟨by omega, by omega, by omega⟩, ⟨by omega, by omega, by omega⟩, ⟨by omega, by omega, by omega⟩, ⟨by omega, by omega, by omega⟩⟩
/-- Two parties, apart. -/
structure Two (B : Nat) (W : World) (b br bs bh c : Nat) (p : Pt.P) (b' br' bs' bh' c' : Nat) (p' : Pt.P) : Prop where
  one : Own B W b br bs bh c p 0
  two : Own B W b' br' bs' bh' c' p' 0
  ap : Apart b br bs bh b' br' bs' bh'
section
variable {B b br bs bh c b' br' bs' bh' c' : Nat} {p p' : Pt.P} {W X : World}
theorem Two.keeps (h : Two B W b br bs bh c p b' br' bs' bh' c' p') (k : Keeps W X) : Two B X b br bs bh c p b' br' bs' bh' c' p' := ⟨h.one.keeps k, h.two.keeps k, h.ap⟩
theorem Two.ask1 (h : Two B W b br bs bh c p b' br' bs' bh' c' p') (hp : HasP W) (hc : c < 100000) (m : Pt.M) (hs : m.s.size ≤ maxLen) :
    Calls Tryd.prog 13 #[.pointer (some ⟨b, 0, none⟩), pmV m] W fun e w' => e = .returned (.tuple #[ansV m (Pt.ask p m).2, .bool (Pt.ask p m).2.isSome]) ∧ Two B w' b br bs bh (c + 4) (Pt.ask p m).1 b' br' bs' bh' c' p' ∧ Only (three br bs bh) W w' :=
  (h.one.ask hp hc m hs).mono fun e w' ⟨h1, h2, h3⟩ => ⟨h1, ⟨h2, h.two.only h3 (off_not h.ap.x0) (off_not h.ap.x1) (off_not h.ap.x2) (off_not h.ap.x3), h.ap⟩, h3⟩
theorem Two.ask2 (h : Two B W b br bs bh c p b' br' bs' bh' c' p') (hp : HasP W) (hc : c' < 100000) (m : Pt.M) (hs : m.s.size ≤ maxLen) :
    Calls Tryd.prog 13 #[.pointer (some ⟨b', 0, none⟩), pmV m] W fun e w' => e = .returned (.tuple #[ansV m (Pt.ask p' m).2, .bool (Pt.ask p' m).2.isSome]) ∧ Two B w' b br bs bh c p b' br' bs' bh' (c' + 4) (Pt.ask p' m).1 ∧ Only (three br' bs' bh') W w' :=
  (h.two.ask hp hc m hs).mono fun e w' ⟨h1, h2, h3⟩ => ⟨h1, ⟨h.one.only h3 (off_not h.ap.y0) (off_not h.ap.y1) (off_not h.ap.y2) (off_not h.ap.y3), h2, h.ap⟩, h3⟩
end
/-- An answer, as it lies. -/
theorem ans_shape (m : Pt.M) (o : Option Int) : ∃ t i k c : Int, ansV m o = .agg #[.int .i64 t, .int .i64 i, .int .i64 k, .string ⟨#[]⟩, .int .i64 0, .int .i64 0, .int .i64 c] := by
  cases o with
  | none => exact ⟨0, 0, 0, 0, rfl⟩
  | some c => exact ⟨3, m.o, m.k, c, rfl⟩
def ansBox (t i k c : Int) : Obj := .cells #[.int .i64 t, .int .i64 i, .int .i64 k, .string ⟨#[]⟩, .int .i64 0, .int .i64 0, .int .i64 c] tPm
/-- An answer in a box. -/
def AnsAt (W : World) (r : Nat) (t i k c : Int) : Prop :=
  W.cell? ⟨r, 0, none⟩ = some (.int .i64 t) ∧ W.cell? ⟨r, 1, none⟩ = some (.int .i64 i) ∧ W.cell? ⟨r, 2, none⟩ = some (.int .i64 k) ∧ W.cell? ⟨r, 3, none⟩ = some (.string ⟨#[]⟩) ∧ W.cell? ⟨r, 4, none⟩ = some (.int .i64 0) ∧ W.cell? ⟨r, 5, none⟩ = some (.int .i64 0) ∧ W.cell? ⟨r, 6, none⟩ = some (.int .i64 c)
theorem ans_at {W : World} {r : Nat} {t i k c : Int} (h : W.heap[r]? = some (ansBox t i k c)) : AnsAt W r t i k c :=
  ⟨Joins.cell_of_block h 0, Joins.cell_of_block h 1, Joins.cell_of_block h 2, Joins.cell_of_block h 3, Joins.cell_of_block h 4, Joins.cell_of_block h 5, Joins.cell_of_block h 6⟩
theorem AnsAt.keeps {W X : World} {r : Nat} {t i k c : Int} (h : AnsAt W r t i k c) (g : Keeps W X) : AnsAt X r t i k c :=
  ⟨cell_keeps g h.1, cell_keeps g h.2.1, cell_keeps g h.2.2.1, cell_keeps g h.2.2.2.1, cell_keeps g h.2.2.2.2.1, cell_keeps g h.2.2.2.2.2.1, cell_keeps g h.2.2.2.2.2.2⟩
/-- A box behind what a party may write. -/
theorem box_only {F : Nat → Prop} {W X : World} {r : Nat} {o : Obj} (h : W.heap[r]? = some o) (g : Only F W X) (hF : ¬ F r) : X.heap[r]? = some o :=
  (g.same r (by
    rcases Nat.lt_or_ge r W.heap.size with x | x
    · exact x
    · rw [Array.getElem?_eq_none x] at h; cases h) hF).trans h
theorem msg_here {wb : World} {pl : Option Addr} {N cl : Nat} {L : List Pt.M} (HV : ∀ X, Keeps wb X → MsgsAt X (.slice pl N cl) L) (hN : L.length = N) {k : Nat} {x : Pt.M} (hx : L[k]? = some x) : ∃ ad, pl = some ad ∧ ∀ X, Keeps wb X → MsgAt X (ad.add (k * 7)) x := by
  have key : ∀ X, Keeps wb X → ∃ ad, pl = some ad ∧ MsgAt X (ad.add (k * 7)) x := fun X kX => by
    obtain ⟨p1, c1, e1, _, hc⟩ := HV X kX
    rw [hN] at e1
    simp only [Value.slice.injEq] at e1
    obtain ⟨rfl, _, rfl⟩ := e1
    obtain ⟨_, ad, rfl, q⟩ := hc k x hx
    exact ⟨ad, rfl, q⟩
  obtain ⟨ad, rfl, _⟩ := key wb (Keeps.refl _)
  refine ⟨ad, rfl, fun X kX => ?_⟩
  obtain ⟨ad', e, q⟩ := key X kX
  cases e
  exact q
end Pa
end Go.Proofs.YtkffpmeocfhcpaaDoor
