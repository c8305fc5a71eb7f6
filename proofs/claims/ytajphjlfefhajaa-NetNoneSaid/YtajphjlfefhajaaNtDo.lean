
/- An act, done with the program's net and with the document's. -/
import Derived.Test.YtajphjlfefhajaaNtP
import Derived.Deep.RegionHeld3
set_option linter.unusedVariables false
namespace Go.Proofs.Ytajphjlfefhajaa
open Go.ChangeShapes Go.WideShapes Go.ChangeAt Go.RowKit Csv Ky
namespace Nt
abbrev tAc : TypeId := 37
def acV (x : Ac) : Value := .agg #[.int .u8 (x.kind : Int), .int .i64 x.m.t, .int .i64 x.m.o, .int .i64 x.m.k, .string x.m.s, .int .i64 x.m.q, .int .i64 x.m.a, .int .i64 x.m.c, .int .i64 x.i, .int .i64 x.k]
def acBox (x : Ac) : Obj := .cells #[.int .u8 (x.kind : Int), .int .i64 x.m.t, .int .i64 x.m.o, .int .i64 x.m.k, .string x.m.s, .int .i64 x.m.q, .int .i64 x.m.a, .int .i64 x.m.c, .int .i64 x.i, .int .i64 x.k] tAc
theorem ac_box_cells {X : World} {n : Nat} {x : Ac} (hX : X.heap[n]? = some (acBox x)) : X.cell? ⟨n, 0, none⟩ = some (.int .u8 (x.kind : Int)) ∧ X.cell? ⟨n, 1, none⟩ = some (.int .i64 x.m.t) ∧ X.cell? ⟨n, 2, none⟩ = some (.int .i64 x.m.o) ∧ X.cell? ⟨n, 3, none⟩ = some (.int .i64 x.m.k) ∧ X.cell? ⟨n, 4, none⟩ = some (.string x.m.s) ∧ X.cell? ⟨n, 5, none⟩ = some (.int .i64 x.m.q) ∧ X.cell? ⟨n, 6, none⟩ = some (.int .i64 x.m.a) ∧ X.cell? ⟨n, 7, none⟩ = some (.int .i64 x.m.c) ∧ X.cell? ⟨n, 8, none⟩ = some (.int .i64 x.i) ∧ X.cell? ⟨n, 9, none⟩ = some (.int .i64 x.k) := by
  simp [World.cell?, hX, acBox]
theorem del_shape (o : Option Mg) : ∃ t oo k s q a c, delV o = .agg #[.int .i64 t, .int .i64 oo, .int .i64 k, .string s, .int .i64 q, .int .i64 a, .int .i64 c] := by
  cases o with
  | none => exact ⟨_, _, _, _, _, _, _, rfl⟩
  | some m => exact ⟨_, _, _, _, _, _, _, rfl⟩
theorem fit_u8 {k : Nat} (h : k < 256) : Int.tmod (k : Int) 8 = ((k % 8 : Nat) : Int) := by
  rw [Int.tmod_eq_emod_of_nonneg (by omega)]; omega
theorem str_self2 (S : ByteArray) : (S.toList == S.toList) = true := by simp
variable {P : NtP}
set_option maxHeartbeats 8000000 in
set_option maxRecDepth 100000 in
theorem la_do {W : World} {b rb : Nat} {F G : Nat → Prop} {l : List Mg} (h : Pr P W b F l rb G l) (hl : l.length ≤ 1000) (x : Ac) (hk : x.kind < 256) (hi : I64 x.i) (hkk : I64 x.k) :
    Calls Try.prog 12 #[acV x, .pointer (some ⟨b, 0, none⟩), .pointer (some ⟨rb, 0, none⟩)] W fun e w' => e = .returned (.bool true) ∧ Both P W w' b F (step l x) rb G (step l x) := by
  obtain ⟨w1, hw1⟩ : ∃ w1, W.alloc (acBox x) = w1 := ⟨_, rfl⟩
  have K1 : Hid (Keeps W w1) := Lib.hid (hw1 ▸ nbox _ _)
  have B1 : Hid (w1.heap[W.heap.size]? = some (acBox x)) := Lib.hid (hw1 ▸ heap_alloc_new _ _)
  have H1 := Lib.hid (h.keeps K1.out)
  have NF : Hid (¬ (F W.heap.size ∨ G W.heap.size)) := Lib.hid fun q => by have := h.lt q; omega
  have EW1 := Lib.hid hw1
  have U8 := fit_u8 hk
  obtain ⟨m8, hm8⟩ : ∃ m, x.kind % 8 = m := ⟨_, rfl⟩
  rw [hm8] at U8
  obtain ⟨l', hl'⟩ : ∃ l', step l x = l' := ⟨_, rfl⟩
  have SL := Lib.hid hl'
  have M8 := Lib.hid hm8
  rw [hl']
  have hm : m8 < 8 := by omega
  clear h hw1 hl' hk hm8
  unfold acBox at EW1
  unfold acV
  obtain ⟨x0, x1, x2, x3, x4, x5, x6, x7, x8, x9⟩ := ac_box_cells B1.out
  by_cases h4 : m8 = 4
  · subst h4
    have ES : Hid (l' = del l x.i) := Lib.hid (by rw [← SL.out]; unfold step; rw [M8.out]; rfl)
    obtain ⟨t, oo, kk, s, q, a, c, hv⟩ := del_shape (gone l x.i)
    obtain ⟨ib, hib⟩ : ∃ ib, isB l x.i = ib := ⟨_, rfl⟩
    have CN : Hid (Calls Try.prog 15 #[.pointer (some ⟨b, 0, none⟩), .int .i64 x.i] w1 fun e w' => e = .returned (.tuple #[.agg #[.int .i64 t, .int .i64 oo, .int .i64 kk, .string s, .int .i64 q, .int .i64 a, .int .i64 c], .bool ib]) ∧ Both P w1 w' b F (del l x.i) rb G l) := Lib.hid (by
      have c := P.deliver x.i hi H1.out.one hl
      rw [hv, hib] at c
      exact c.mono fun e w' ⟨h1, h2⟩ => ⟨h1, both_one H1.out h2⟩)
    have CR : Hid (∀ X F' G', Pr P X b F' (del l x.i) rb G' l → Calls Try.prog 22 #[.pointer (some ⟨rb, 0, none⟩), .int .i64 x.i] X fun e w' => e = .returned (.tuple #[.agg #[.int .i64 t, .int .i64 oo, .int .i64 kk, .string s, .int .i64 q, .int .i64 a, .int .i64 c], .bool ib]) ∧ Both P X w' b F' (del l x.i) rb G' (del l x.i)) := Lib.hid fun X F' G' g => by
      have c := nr_deliver rb G' l x.i X g.two hl
      rw [hv, hib] at c
      exact c.mono fun e w' ⟨h1, h2⟩ => ⟨h1, both_two g h2⟩
    clear hv hib
    go_enter Try.func12, Try.ntmps12
    go_upto_region 1 with (fail)
    rw [EW1.out]
    clear EW1
    go_wp2_with fail
    refine CN.out.mono ?_
    rintro e w2 ⟨rfl, h2⟩
    obtain ⟨⟨F', G', hp, fr⟩, ho⟩ := h2
    have HP2 := Lib.hid hp
    have FR := Lib.hid fr
    have HO := Lib.hid ho
    have A2 := Lib.hid ((ho.same _ (box_lt B1.out) NF.out).trans B1.out)
    obtain ⟨w3, hw3⟩ : ∃ w3, w2.alloc (mgBox ⟨t, oo, kk, s, q, a, c⟩) = w3 := ⟨_, rfl⟩
    have K3 : Hid (Keeps w2 w3) := Lib.hid (hw3 ▸ nbox _ _)
    have B3 : Hid (w3.heap[w2.heap.size]? = some (mgBox ⟨t, oo, kk, s, q, a, c⟩)) := Lib.hid (hw3 ▸ heap_alloc_new _ _)
    have e3 := ac_box_cells (box_keep A2.out K3.out)
    rw [← hw3] at e3
    have EW3 := Lib.hid hw3
    obtain ⟨y0, y1, y2, y3, y4, y5, y6, y7, y8, y9⟩ := e3
    clear hp fr ho hw3 x0 x1 x2 x3 x4 x5 x6 x7 x8 x9 CN
    unfold mgBox at y8 EW3
    dsimp only at y8 EW3
    clear y0 y1 y2 y3 y4 y5 y6 y7 y9
    go_wp2_with fail
    rw [EW3.out]
    clear EW3 y8
    refine (CR.out _ _ _ (HP2.out.keeps K3.out)).mono ?_
    rintro e w4 ⟨rfl, h4⟩
    have H4 := Lib.hid h4
    have B4 : Hid (w4.heap[w2.heap.size]? = some (mgBox ⟨t, oo, kk, s, q, a, c⟩)) := Lib.hid ((h4.only.same _ (box_lt B3.out) (fun q => by have := HP2.out.lt q; omega)).trans B3.out)
    obtain ⟨w5, hw5⟩ : ∃ w5, w4.alloc (mgBox ⟨t, oo, kk, s, q, a, c⟩) = w5 := ⟨_, rfl⟩
    have K5 : Hid (Keeps w4 w5) := Lib.hid (hw5 ▸ nbox _ _)
    have C5 : Hid (w5.heap[w4.heap.size]? = some (mgBox ⟨t, oo, kk, s, q, a, c⟩)) := Lib.hid (hw5 ▸ heap_alloc_new _ _)
    have B5 := Lib.hid (box_keep B4.out K5.out)
    have EW5 := Lib.hid hw5
    have hab : (ib == ib) = true := by simp
    have hss := str_self2 s
    clear h4 hw5
    unfold mgBox at EW5
    dsimp only at EW5
    go_upto_region 5 with (fail)
    rw [EW5.out]
    clear EW5
    obtain ⟨⟨y0, y1, y2, y3, y4, y5, y6⟩, _⟩ := mg_box_cells B5.out
    obtain ⟨⟨z0, z1, z2, z3, z4, z5, z6⟩, _⟩ := mg_box_cells C5.out
    dsimp only at y0 y1 y2 y3 y4 y5 y6 z0 z1 z2 z3 z4 z5 z6
    go_wp2
    go_ret
    exact ⟨rfl, by rw [ES.out]; exact (((H4.out.from K3.out).keeps K5.out).after FR.out HO.out).from K1.out⟩
  ·
    -- arms
    by_cases h5 : m8 = 5
    · subst h5
      have ES : Hid (l' = del l x.i) := Lib.hid (by rw [← SL.out]; unfold step; rw [M8.out]; rfl)
      obtain ⟨ib, hib⟩ : ∃ ib, isB l x.i = ib := ⟨_, rfl⟩
      have CN : Hid (∀ X, Keeps w1 X → Calls Try.prog 17 #[.pointer (some ⟨b, 0, none⟩), .int .i64 x.i] X fun e w' => e = .returned (.bool ib) ∧ Both P X w' b F (del l x.i) rb G l) := Lib.hid (fun X kX => by
        have c := P.drop x.i hi (H1.out.keeps kX).one hl
        rw [hib] at c
        exact c.mono fun e w' ⟨h1, h2⟩ => ⟨h1, both_one (H1.out.keeps kX) h2⟩)
      have CR : Hid (∀ X F' G', Pr P X b F' (del l x.i) rb G' l → Calls Try.prog 23 #[.pointer (some ⟨rb, 0, none⟩), .int .i64 x.i] X fun e w' => e = .returned (.bool ib) ∧ Both P X w' b F' (del l x.i) rb G' (del l x.i)) := Lib.hid (fun X F' G' g => by
        have c := nr_drop rb G' l x.i X g.two hl
        rw [hib] at c
        exact c.mono fun e w' ⟨h1, h2⟩ => ⟨h1, both_two g h2⟩)
      have hab : (ib == ib) = true := by simp
      clear hib
      go_enter Try.func12, Try.ntmps12
      go_upto_region 1 with (fail)
      rw [EW1.out]
      clear EW1
      go_upto_region 7 with (fail)
      go_region_held3 (fun X => X.cell? ⟨W.heap.size, 8, none⟩ = some (.int .i64 x.i))
        (first | assumption | go_keep | (refine ⟨?_, ?_⟩ <;> assumption))
        (first
        | (go_at_call 17; refine (CN.out _ (ndrew _)).mono ?_; rintro e w2 ⟨rfl, h2⟩; obtain ⟨⟨F', G', hp, fr⟩, ho⟩ := h2; have HP2 := Lib.hid hp; have FR := Lib.hid fr; have HO := Lib.hid ho; have A2 := Lib.hid ((ho.same _ (box_lt (box_keep B1.out (ndrew _))) NF.out).trans (box_keep B1.out (ndrew _))); obtain ⟨y0, y1, y2, y3, y4, y5, y6, y7, y8, y9⟩ := ac_box_cells A2.out; clear hp fr ho)
        | (go_at_call 23; refine (CR.out _ _ _ (HP2.out.keeps (by first | exact Keeps.refl _ | exact ndrew _))).mono ?_; rintro e w4 ⟨rfl, h4'⟩; have H4 := Lib.hid (h4'.from (W := w2) (by first | exact Keeps.refl _ | exact ndrew _)); have A4 := Lib.hid ((H4.out.only.same _ (box_lt A2.out) (fun q => by
            rcases FR.out _ q with r | r
            · exact NF.out r
            · have := box_lt (box_keep B1.out (ndrew _))
              omega)).trans A2.out); obtain ⟨z0, z1, z2, z3, z4, z5, z6, z7, z8, z9⟩ := ac_box_cells A4.out; clear h4'))
      go_wp2
      go_ret
      exact ⟨rfl, by rw [ES.out]; exact (H4.out.after FR.out HO.out).from (K1.out.trans (ndrew _))⟩
    · by_cases h6 : m8 = 6
      · subst h6
        have ES : Hid (l' = dbl l x.i) := Lib.hid (by rw [← SL.out]; unfold step; rw [M8.out]; rfl)
        obtain ⟨ib, hib⟩ : ∃ ib, dblB l x.i = ib := ⟨_, rfl⟩
        have CN : Hid (∀ X, Keeps w1 X → Calls Try.prog 18 #[.pointer (some ⟨b, 0, none⟩), .int .i64 x.i] X fun e w' => e = .returned (.bool ib) ∧ Both P X w' b F (dbl l x.i) rb G l) := Lib.hid (fun X kX => by
          have c := P.double x.i hi (H1.out.keeps kX).one hl
          rw [hib] at c
          exact c.mono fun e w' ⟨h1, h2⟩ => ⟨h1, both_one (H1.out.keeps kX) h2⟩)
        have CR : Hid (∀ X F' G', Pr P X b F' (dbl l x.i) rb G' l → Calls Try.prog 24 #[.pointer (some ⟨rb, 0, none⟩), .int .i64 x.i] X fun e w' => e = .returned (.bool ib) ∧ Both P X w' b F' (dbl l x.i) rb G' (dbl l x.i)) := Lib.hid (fun X F' G' g => by
          have c := nr_double rb G' l x.i X g.two hl
          rw [hib] at c
          exact c.mono fun e w' ⟨h1, h2⟩ => ⟨h1, both_two g h2⟩)
        have hab : (ib == ib) = true := by simp
        clear hib
        go_enter Try.func12, Try.ntmps12
        go_upto_region 1 with (fail)
        rw [EW1.out]
        clear EW1
        go_upto_region 9 with (fail)
        go_region_held3 (fun X => X.cell? ⟨W.heap.size, 8, none⟩ = some (.int .i64 x.i))
          (first | assumption | go_keep | (refine ⟨?_, ?_⟩ <;> assumption))
          (first
          | (go_at_call 18; refine (CN.out _ (ndrew _)).mono ?_; rintro e w2 ⟨rfl, h2⟩; obtain ⟨⟨F', G', hp, fr⟩, ho⟩ := h2; have HP2 := Lib.hid hp; have FR := Lib.hid fr; have HO := Lib.hid ho; have A2 := Lib.hid ((ho.same _ (box_lt (box_keep B1.out (ndrew _))) NF.out).trans (box_keep B1.out (ndrew _))); obtain ⟨y0, y1, y2, y3, y4, y5, y6, y7, y8, y9⟩ := ac_box_cells A2.out; clear hp fr ho)
          | (go_at_call 24; refine (CR.out _ _ _ (HP2.out.keeps (by first | exact Keeps.refl _ | exact ndrew _))).mono ?_; rintro e w4 ⟨rfl, h4'⟩; have H4 := Lib.hid (h4'.from (W := w2) (by first | exact Keeps.refl _ | exact ndrew _)); have A4 := Lib.hid ((H4.out.only.same _ (box_lt A2.out) (fun q => by
              rcases FR.out _ q with r | r
              · exact NF.out r
              · have := box_lt (box_keep B1.out (ndrew _))
                omega)).trans A2.out); obtain ⟨z0, z1, z2, z3, z4, z5, z6, z7, z8, z9⟩ := ac_box_cells A4.out; clear h4'))
        go_wp2
        go_ret
        exact ⟨rfl, by rw [ES.out]; exact (H4.out.after FR.out HO.out).from (K1.out.trans (ndrew _))⟩
      · by_cases h7 : m8 = 7
        · subst h7
          have ES : Hid (l' = turn l x.i x.k) := Lib.hid (by rw [← SL.out]; unfold step; rw [M8.out]; rfl)
          obtain ⟨ib, hib⟩ : ∃ ib, turnB l x.i x.k = ib := ⟨_, rfl⟩
          have CN : Hid (∀ X, Keeps w1 X → Calls Try.prog 19 #[.pointer (some ⟨b, 0, none⟩), .int .i64 x.i, .int .i64 x.k] X fun e w' => e = .returned (.bool ib) ∧ Both P X w' b F (turn l x.i x.k) rb G l) := Lib.hid (fun X kX => by
            have c := P.turn x.i x.k hi hkk (H1.out.keeps kX).one hl
            rw [hib] at c
            exact c.mono fun e w' ⟨h1, h2⟩ => ⟨h1, both_one (H1.out.keeps kX) h2⟩)
          have CR : Hid (∀ X F' G', Pr P X b F' (turn l x.i x.k) rb G' l → Calls Try.prog 25 #[.pointer (some ⟨rb, 0, none⟩), .int .i64 x.i, .int .i64 x.k] X fun e w' => e = .returned (.bool ib) ∧ Both P X w' b F' (turn l x.i x.k) rb G' (turn l x.i x.k)) := Lib.hid (fun X F' G' g => by
            have c := nr_turn rb G' l x.i x.k X g.two hl
            rw [hib] at c
            exact c.mono fun e w' ⟨h1, h2⟩ => ⟨h1, both_two g h2⟩)
          have hab : (ib == ib) = true := by simp
          clear hib
          go_enter Try.func12, Try.ntmps12
          go_upto_region 1 with (fail)
          rw [EW1.out]
          clear EW1
          go_upto_region 11 with (fail)
          go_region_held3 (fun X => X.cell? ⟨W.heap.size, 8, none⟩ = some (.int .i64 x.i) ∧ X.cell? ⟨W.heap.size, 9, none⟩ = some (.int .i64 x.k))
            (first | assumption | go_keep | (refine ⟨?_, ?_⟩ <;> assumption))
            (first
            | (go_at_call 19; refine (CN.out _ (ndrew _)).mono ?_; rintro e w2 ⟨rfl, h2⟩; obtain ⟨⟨F', G', hp, fr⟩, ho⟩ := h2; have HP2 := Lib.hid hp; have FR := Lib.hid fr; have HO := Lib.hid ho; have A2 := Lib.hid ((ho.same _ (box_lt (box_keep B1.out (ndrew _))) NF.out).trans (box_keep B1.out (ndrew _))); obtain ⟨y0, y1, y2, y3, y4, y5, y6, y7, y8, y9⟩ := ac_box_cells A2.out; clear hp fr ho)
            | (go_at_call 25; refine (CR.out _ _ _ (HP2.out.keeps (by first | exact Keeps.refl _ | exact ndrew _))).mono ?_; rintro e w4 ⟨rfl, h4'⟩; have H4 := Lib.hid (h4'.from (W := w2) (by first | exact Keeps.refl _ | exact ndrew _)); have A4 := Lib.hid ((H4.out.only.same _ (box_lt A2.out) (fun q => by
                rcases FR.out _ q with r | r
                · exact NF.out r
                · have := box_lt (box_keep B1.out (ndrew _))
                  omega)).trans A2.out); obtain ⟨z0, z1, z2, z3, z4, z5, z6, z7, z8, z9⟩ := ac_box_cells A4.out; clear h4'))
          go_wp2
          go_ret
          exact ⟨rfl, by rw [ES.out]; exact (H4.out.after FR.out HO.out).from (K1.out.trans (ndrew _))⟩
        · have ES : Hid (l' = send l x.m) := Lib.hid (by rw [← SL.out]; unfold step; rw [M8.out, if_neg h4, if_neg h5, if_neg h6, if_neg h7])
          have hb4 : ((m8 : Int) == 4) = false := by simp; omega
          have hb5 : ((m8 : Int) == 5) = false := by simp; omega
          have hb6 : ((m8 : Int) == 6) = false := by simp; omega
          have hb7 : ((m8 : Int) == 7) = false := by simp; omega
          obtain ⟨ib, hib⟩ : ∃ ib, room l = ib := ⟨_, rfl⟩
          have CN : Hid (∀ X, Keeps w1 X → Calls Try.prog 16 #[.pointer (some ⟨b, 0, none⟩), .agg #[.int .i64 x.m.t, .int .i64 x.m.o, .int .i64 x.m.k, .string x.m.s, .int .i64 x.m.q, .int .i64 x.m.a, .int .i64 x.m.c]] X fun e w' => e = .returned (.bool ib) ∧ Both P X w' b F (send l x.m) rb G l) := Lib.hid (fun X kX => by
            have c := P.send x.m (H1.out.keeps kX).one hl
            rw [hib] at c
            exact c.mono fun e w' ⟨h1, h2⟩ => ⟨h1, both_one (H1.out.keeps kX) h2⟩)
          have CR : Hid (∀ X F' G', Pr P X b F' (send l x.m) rb G' l → Calls Try.prog 26 #[.pointer (some ⟨rb, 0, none⟩), .agg #[.int .i64 x.m.t, .int .i64 x.m.o, .int .i64 x.m.k, .string x.m.s, .int .i64 x.m.q, .int .i64 x.m.a, .int .i64 x.m.c]] X fun e w' => e = .returned (.bool ib) ∧ Both P X w' b F' (send l x.m) rb G' (send l x.m)) := Lib.hid (fun X F' G' g => by
            have c := nr_send rb G' l x.m X g.two hl
            rw [hib] at c
            exact c.mono fun e w' ⟨h1, h2⟩ => ⟨h1, both_two g h2⟩)
          have hab : (ib == ib) = true := by simp
          clear hib
          go_enter Try.func12, Try.ntmps12
          go_upto_region 1 with (fail)
          rw [EW1.out]
          clear EW1
          go_upto_region 12 with (fail)
          go_region_held3 (fun X => X.cell? ⟨W.heap.size, 1, none⟩ = some (.int .i64 x.m.t) ∧ X.cell? ⟨W.heap.size, 2, none⟩ = some (.int .i64 x.m.o) ∧ X.cell? ⟨W.heap.size, 3, none⟩ = some (.int .i64 x.m.k) ∧ X.cell? ⟨W.heap.size, 4, none⟩ = some (.string x.m.s) ∧ X.cell? ⟨W.heap.size, 5, none⟩ = some (.int .i64 x.m.q) ∧ X.cell? ⟨W.heap.size, 6, none⟩ = some (.int .i64 x.m.a) ∧ X.cell? ⟨W.heap.size, 7, none⟩ = some (.int .i64 x.m.c))
            (first | assumption | go_keep)
            (first
            | (go_at_call 16; refine (CN.out _ (ndrew _)).mono ?_; rintro e w2 ⟨rfl, h2⟩; obtain ⟨⟨F', G', hp, fr⟩, ho⟩ := h2; have HP2 := Lib.hid hp; have FR := Lib.hid fr; have HO := Lib.hid ho; have A2 := Lib.hid ((ho.same _ (box_lt (box_keep B1.out (ndrew _))) NF.out).trans (box_keep B1.out (ndrew _))); obtain ⟨y0, y1, y2, y3, y4, y5, y6, y7, y8, y9⟩ := ac_box_cells A2.out; clear hp fr ho)
            | (go_at_call 26; refine (CR.out _ _ _ (HP2.out.keeps (by first | exact Keeps.refl _ | exact ndrew _))).mono ?_; rintro e w4 ⟨rfl, h4'⟩; have H4 := Lib.hid (h4'.from (W := w2) (by first | exact Keeps.refl _ | exact ndrew _)); have A4 := Lib.hid ((H4.out.only.same _ (box_lt A2.out) (fun q => by
                rcases FR.out _ q with r | r
                · exact NF.out r
                · have := box_lt (box_keep B1.out (ndrew _))
                  omega)).trans A2.out); obtain ⟨z0, z1, z2, z3, z4, z5, z6, z7, z8, z9⟩ := ac_box_cells A4.out; clear h4'))
          go_wp2
          go_ret
          exact ⟨rfl, by rw [ES.out]; exact (H4.out.after FR.out HO.out).from (K1.out.trans (ndrew _))⟩
    -- arms end
end Nt
end Go.Proofs.Ytajphjlfefhajaa
