
/- PartyOnce: the walk. -/
import Derived.Test.YtkffpmeocfhcpaaDoorPaTwo
import Derived.Deep.QuietTactic
import Derived.Deep.RegionHeld3
import Derived.Deep.Cut
import Derived.Deep.LoopGhost
import Derived.Deep.DeepCutAuto
set_option linter.unusedVariables false
namespace Go.Proofs.YtkffpmeocfhcpaaDoor
open Go.ChangeShapes Go.WideShapes Go.ChangeAt Go.RowKit Ky Rw Od
namespace Pa
open Pp
theorem pp_cell {W : World} {b br bs bh c : Nat} {p : Pt.P} {q : Int} (h : PpAt W b br bs bh c p q) : b < W.heap.size ∧ br < W.heap.size ∧ bs < W.heap.size ∧ bh < W.heap.size := ⟨h.low, h.tabs.low⟩
theorem own_low {B B' : Nat} {W : World} {b br bs bh c : Nat} {p : Pt.P} {q : Int} (h : Own B W b br bs bh c p q) (hB : B' ≤ B) : Own B' W b br bs bh c p q :=
  ⟨h.at_, h.inv, Nat.le_trans hB h.lb, Nat.le_trans hB h.lr, Nat.le_trans hB h.ls, Nat.le_trans hB h.lh⟩
theorem two_new {D : Nat} {X Y : World} {b br bs bh b' br' bs' bh' : Nat} {p : Pt.P} {B C : Nat} (h : Own B X b br bs bh 0 p 0) (g : Own C Y b' br' bs' bh' 0 p 0) (k : Keeps X Y) (h1 : D ≤ B) (h2 : D ≤ C) (hC : C = X.heap.size) : Two D Y b br bs bh 0 p b' br' bs' bh' 0 p := by
  obtain ⟨l0, l1, l2, l3⟩ := pp_cell h.at_
  subst hC
  exact ⟨own_low (h.keeps k) h1, own_low g h2, apart_of l0 l1 l2 l3 g.lb g.lr g.ls g.lh⟩
theorem box_keeps {W X : World} {r : Nat} {o : Obj} (h : W.heap[r]? = some o) (k : Keeps W X) : X.heap[r]? = some o :=
  (k.block r (by
    rcases Nat.lt_or_ge r W.heap.size with x | x
    · exact x
    · rw [Array.getElem?_eq_none x] at h; cases h)).trans h
theorem box_lt {W : World} {r : Nat} {o : Obj} (h : W.heap[r]? = some o) : r < W.heap.size := by
  rcases Nat.lt_or_ge r W.heap.size with x | x
  · exact x
  · rw [Array.getElem?_eq_none x] at h; cases h
theorem bit_one {C k m : Nat} (hm : k % 32 = m) : (Int.tmod ((C : Int) / (2 : Int) ^ m) 2 == 1) = (C >>> (k % 32) % 2 == 1) := by
  have e : (C : Int) / (2 : Int) ^ m = ((C / 2 ^ m : Nat) : Int) := by push_cast; rfl
  rw [e, Int.tmod_eq_emod_of_nonneg (Int.natCast_nonneg _)]
  rw [hm, Nat.shiftRight_eq_div_pow]
  rw [Bool.eq_iff_iff]
  simp only [beq_iff_eq]
  omega
theorem three_old {B b br bs bh c : Nat} {p : Pt.P} {q : Int} {W : World} (h : Own B W b br bs bh c p q) : ¬ three br bs bh W.heap.size := by
  obtain ⟨_, l1, l2, l3⟩ := pp_cell h.at_
  unfold three
  omega
theorem cell_lt {W : World} {a : Addr} {v : Value} (h : W.cell? a = some v) : a.block < W.heap.size := by
  rcases Nat.lt_or_ge a.block W.heap.size with x | x
  · exact x
  · simp [World.cell?, Array.getElem?_eq_none x] at h
theorem three_new {D n b br bs bh c : Nat} {p : Pt.P} {q : Int} {W : World} (h : Own D W b br bs bh c p q) (hn : n < D) : ¬ three br bs bh n := fun e => by
  have := h.three n e
  omega
theorem no_cells {X : World} {n : Nat} (hX : X.heap[n]? = some noObj) : (X.cell? ⟨n, 0, none⟩ = some (.int .i64 0) ∧ X.cell? ⟨n, 1, none⟩ = some (.int .i64 0) ∧ X.cell? ⟨n, 2, none⟩ = some (.int .i64 0) ∧ X.cell? ⟨n, 3, none⟩ = some (.string ⟨#[]⟩) ∧ X.cell? ⟨n, 4, none⟩ = some (.int .i64 0) ∧ X.cell? ⟨n, 5, none⟩ = some (.int .i64 0) ∧ X.cell? ⟨n, 6, none⟩ = some (.int .i64 0)) ∧
    (X.frozen? ⟨n, 0, none⟩ = false ∧ X.frozen? ⟨n, 1, none⟩ = false ∧ X.frozen? ⟨n, 2, none⟩ = false ∧ X.frozen? ⟨n, 3, none⟩ = false ∧ X.frozen? ⟨n, 4, none⟩ = false ∧ X.frozen? ⟨n, 5, none⟩ = false ∧ X.frozen? ⟨n, 6, none⟩ = false) := by
  refine ⟨by simp [World.cell?, hX, noObj], by simp [World.frozen?, hX, noObj]⟩
set_option maxHeartbeats 16000000 in
set_option maxRecDepth 100000 in
theorem partyOnce_go (kind stock limit : Int) (v : Value) (L : List Pt.M) (twice : Nat) (w : World) (hp : HasP w) (hv : MsgsAt w v L) (ht : twice < 4294967296) :
    Calls Tryd.prog 5 #[fmV kind stock limit, v, .int .u32 (twice : Int)] w fun e w' => e = .returned (.bool true) ∧ Keeps w w' := by
  obtain ⟨wb, hwb⟩ : ∃ wb, w.alloc (fmBox kind stock limit) = wb := ⟨_, rfl⟩
  have KW := Lib.hid (show Keeps w wb from hwb ▸ ky_box w (fmBox kind stock limit))
  have BX := Lib.hid (show ∀ X, Keeps wb X → X.cell? ⟨w.heap.size, 0, none⟩ = some (.int .i64 kind) ∧ X.cell? ⟨w.heap.size, 1, none⟩ = some (.int .i64 stock) ∧ X.cell? ⟨w.heap.size, 2, none⟩ = some (.int .i64 limit) from fun X k => fm_cells w kind stock limit X (hwb ▸ k))
  have HP : Hid (∀ X, Keeps wb X → HasP X) := Lib.hid fun X k => hp.keeps (KW.out.trans k)
  have AS : Hid (∀ X, Keeps wb X → Calls Tryd.prog 9 #[] X fun e w' => e = .returned (.bool true) ∧ Keeps wb w') := Lib.hid fun X k => (la_asked X (HP.out X k)).mono fun e w' h => ⟨h.1, k.trans h.2⟩
  have HV : Hid (∀ X, Keeps wb X → MsgsAt X v L) := Lib.hid fun X k => hv.keeps (KW.out.trans k)
  have GR := Lib.hid (la_great v L 60 wb (HV.out wb (Keeps.refl _)))
  obtain ⟨gb, hgb⟩ : ∃ gb, greatP L 60 = gb := ⟨_, rfl⟩
  rw [hgb] at GR
  obtain ⟨pl, cl, rfl, hmx, _⟩ := hv
  obtain ⟨N, hN⟩ : ∃ N, L.length = N := ⟨_, rfl⟩
  rw [hN] at GR HV ⊢
  have HN := Lib.hid hN
  have HW := Lib.hid hwb
  have HT := Lib.hid ht
  clear hmx hN hwb hp ht
  unfold fmBox at HW
  unfold fmV
  go_enter Tryd.func5, Tryd.ntmps5
  go_wp2_with fail
  rw [HW.out]
  clear HW
  refine GR.out.mono ?_
  rintro e wg ⟨rfl, kg⟩
  have KG := Lib.hid kg
  clear kg GR
  cases gb with
  | true =>
    go_wp2_with fail
    refine (AS.out _ KG.out).mono ?_
    rintro e w2 ⟨rfl, k2⟩
    have K2 := Lib.hid k2
    clear k2
    go_wp2
    go_ret
    exact ⟨rfl, Keeps.trans KW.out K2.out⟩
  | false =>
    have NG := Lib.hid (great_no hgb)
    have hN60 : N ≤ 60 := by have := NG.out.2; rw [HN.out] at this; omega
    clear hgb
    obtain ⟨x0, x1, x2⟩ := BX.out _ KG.out
    by_cases hk : 0 ≤ kind ∧ kind ≤ 2
    · go_wp2_with fail
      have NEW : Hid (∀ X, Keeps wg X → Calls Tryd.prog 10 #[.int .i64 kind, .int .i64 stock, .int .i64 limit] X fun e w' => (∃ b br bs bh, e = .returned (.pointer (some ⟨b, 0, none⟩)) ∧ Own X.heap.size w' b br bs bh 0 (Pt.newP kind stock limit) 0) ∧ Keeps X w') := Lib.hid fun X kX =>
        (pp_new kind stock limit X hk).mono fun e w' hn => by
          obtain ⟨b, br, bs, bh, rfl, h, k0⟩ := own_new hn hk.1 hk.2
          exact ⟨⟨b, br, bs, bh, rfl, h⟩, k0⟩
      go_region_held3 (fun X => X.cell? ⟨w.heap.size, 0, none⟩ = some (.int .i64 kind) ∧ X.cell? ⟨w.heap.size, 1, none⟩ = some (.int .i64 stock) ∧ X.cell? ⟨w.heap.size, 2, none⟩ = some (.int .i64 limit))
        (first | assumption | go_keep) (first
        | (go_at_call 10; refine (NEW.out _ K0.out).mono ?_; rintro e w1 ⟨⟨b', br', bs', bh', rfl, h1⟩, k1⟩; have H1 := Lib.hid h1; have K1 := Lib.hid k1; have z0 := cell_keeps k1 y0; have z1 := cell_keeps k1 y1; have z2 := cell_keeps k1 y2; clear h1 k1)
        | (go_at_call 10; refine (NEW.out _ (ky_drew _)).mono ?_; rintro e w0 ⟨⟨b, br, bs, bh, rfl, h0⟩, k0⟩; have H0 := Lib.hid h0; have K0 := Lib.hid (Keeps.trans (ky_drew wg) k0); have y0 := cell_keeps K0.out x0; have y1 := cell_keeps K0.out x1; have y2 := cell_keeps K0.out x2; clear h0 k0))
      have T1 := Lib.hid (two_new (D := wb.heap.size) H0.out H1.out K1.out KG.out.size (Nat.le_trans KG.out.size K0.out.size) rfl)
      have K2 := Lib.hid (Keeps.trans KG.out (Keeps.trans K0.out K1.out))
      obtain ⟨p0, hp0⟩ : ∃ p0, Pt.newP kind stock limit = p0 := ⟨_, rfl⟩
      rw [hp0] at T1
      clear hp0 H0 H1 K0 K1 NEW x0 x1 x2 y0 y1 y2 z0 z1 z2
      go_wp2_with fail
      go_loopw [9] (fun v9 wr => ∃ k c c' : Nat, k ≤ N ∧ v9 = .int .i64 (k : Int) ∧ c ≤ 4 * k ∧ c' ≤ 8 * k ∧ Two wb.heap.size wr b br bs bh c (Pt.askL p0 (L.take k)) b' br' bs' bh' c' (Pt.askL p0 (L.take k)) ∧ Keeps wb wr) (fun v9 _ => N - (intOf v9).toNat)
      case atStart => exact ⟨0, 0, 0, by omega, rfl, by omega, by omega, T1.out, K2.out⟩
      case round =>
        obtain ⟨k, c, c', hk1, rfl, hc, hc', ht, hkr⟩ := hrel
        clear T1 K2
        obtain ⟨p, hpe⟩ : ∃ p, Pt.askL p0 (L.take k) = p := ⟨_, rfl⟩
        rw [hpe] at ht
        have TW := Lib.hid ht
        have HKR := Lib.hid hkr
        clear ht hkr
        by_cases hlt : k < N
        · obtain ⟨x, hx⟩ : ∃ x, L[k]? = some x := ⟨_, List.getElem?_eq_getElem (by have := HN.out; omega)⟩
          have xs50 := NG.out.1 x (List.mem_of_getElem? hx)
          have hxs : x.s.size ≤ maxLen := by unfold maxLen; omega
          obtain ⟨ad, rfl, gm⟩ := msg_here HV.out HN.out hx
          have GM := Lib.hid gm
          obtain ⟨p', o, hpo⟩ : ∃ p' o, Pt.ask p x = (p', o) := ⟨_, _, rfl⟩
          have EP : Hid (p' = Pt.askL p0 (L.take (k + 1))) := Lib.hid (by
            have e : (Pt.ask p x).1 = p' := by rw [hpo]
            rw [← e, ← hpe]; exact askL_next hx)
          have E1 := Lib.hid hpo
          have E2 : Hid (Pt.ask p' x = (p', o)) := Lib.hid (by
            have e := Pt.ask_twice p x
            rw [hpo] at e
            exact e)
          obtain ⟨t, i, kk, cc, hans⟩ := ans_shape x o
          obtain ⟨okb, hok⟩ : ∃ okb, o.isSome = okb := ⟨_, rfl⟩
          have CA : Hid (∀ (X : World) (c c' : Nat) (pA pB : Pt.P), Two wb.heap.size X b br bs bh c pA b' br' bs' bh' c' pB → Keeps wb X → c < 100000 → Pt.ask pA x = (p', o) →
              Calls Tryd.prog 13 #[.pointer (some ⟨b, 0, none⟩), .agg #[.int .i64 x.t, .int .i64 x.o, .int .i64 x.k, .string x.s, .int .i64 x.q, .int .i64 x.a, .int .i64 x.c]] X fun e w' => e = .returned (.tuple #[.agg #[.int .i64 t, .int .i64 i, .int .i64 kk, .string ⟨#[]⟩, .int .i64 0, .int .i64 0, .int .i64 cc], .bool okb]) ∧ Two wb.heap.size w' b br bs bh (c + 4) p' b' br' bs' bh' c' pB ∧ Only (three br bs bh) X w' ∧ Keeps wb w') := Lib.hid fun X c c' pA pB h kX hc he => by
            have := h.ask1 (HP.out X kX) hc x hxs
            rw [he, hans, hok] at this
            exact this.mono fun e w' ⟨h1, h2, h3⟩ => ⟨h1, h2, h3, h3.keeps kX h2.one.three⟩
          have CB : Hid (∀ (X : World) (c c' : Nat) (pA pB : Pt.P), Two wb.heap.size X b br bs bh c pA b' br' bs' bh' c' pB → Keeps wb X → c' < 100000 → Pt.ask pB x = (p', o) →
              Calls Tryd.prog 13 #[.pointer (some ⟨b', 0, none⟩), .agg #[.int .i64 x.t, .int .i64 x.o, .int .i64 x.k, .string x.s, .int .i64 x.q, .int .i64 x.a, .int .i64 x.c]] X fun e w' => e = .returned (.tuple #[.agg #[.int .i64 t, .int .i64 i, .int .i64 kk, .string ⟨#[]⟩, .int .i64 0, .int .i64 0, .int .i64 cc], .bool okb]) ∧ Two wb.heap.size w' b br bs bh c pA b' br' bs' bh' (c' + 4) p' ∧ Only (three br' bs' bh') X w' ∧ Keeps wb w') := Lib.hid fun X c c' pA pB h kX hc he => by
            have := h.ask2 (HP.out X kX) hc x hxs
            rw [he, hans, hok] at this
            exact this.mono fun e w' ⟨h1, h2, h3⟩ => ⟨h1, h2, h3, h3.keeps kX h2.two.three⟩
          have hi1 : (k : Int) < (N : Int) := by omega
          have hi0 : (0 : Int) ≤ (k : Int) := by omega
          clear gm hx hpo hans hok
          obtain ⟨q0, q1, q2, q3, q4, q5, q6⟩ := GM.out _ HKR.out
          go_wp2_with fail
          refine (CA.out _ _ _ _ _ TW.out HKR.out (by omega) E1.out).mono ?_
          rintro e w1 ⟨rfl, h1, g1, k1⟩
          have K1 := Lib.hid k1
          have W1 := Lib.hid h1
          obtain ⟨w2, hw2⟩ : ∃ w2, w1.alloc (ansBox t i kk cc) = w2 := ⟨_, rfl⟩
          have K2 := Lib.hid (show Keeps wb w2 from hw2 ▸ Keeps.trans k1 (ky_box _ _))
          have W2 := Lib.hid (show Two wb.heap.size w2 b br bs bh (c + 4) p' b' br' bs' bh' c' p from hw2 ▸ h1.keeps (ky_box _ _))
          have A2 := Lib.hid (show w2.heap[w1.heap.size]? = some (ansBox t i kk cc) from hw2 ▸ heap_alloc_new w1 _)
          have F2 : Hid (¬ three br' bs' bh' w1.heap.size) := Lib.hid (by
            obtain ⟨_, l1, l2, l3⟩ := pp_cell h1.two.at_
            unfold three
            omega)
          have e2 := GM.out _ K2.out
          rw [← hw2] at e2
          obtain ⟨q0', q1', q2', q3', q4', q5', q6'⟩ := e2
          have EW2 := Lib.hid hw2
          clear h1 g1 k1 hw2 q0 q1 q2 q3 q4 q5 q6
          unfold ansBox at q0' q1' q2' q3' q4' q5' q6' EW2
          go_wp2_with fail
          rw [EW2.out]
          clear q0' q1' q2' q3' q4' q5' q6'
          refine (CB.out _ _ _ _ _ W2.out K2.out (by omega) E1.out).mono ?_
          rintro e w3 ⟨rfl, h3, g3, k3⟩
          have A3 := Lib.hid (box_only A2.out g3 F2.out)
          obtain ⟨w4, hw4⟩ : ∃ w4, w3.alloc (ansBox t i kk cc) = w4 := ⟨_, rfl⟩
          have K4 := Lib.hid (show Keeps wb w4 from hw4 ▸ Keeps.trans k3 (ky_box _ _))
          have W4 := Lib.hid (show Two wb.heap.size w4 b br bs bh (c + 4) p' b' br' bs' bh' (c' + 4) p' from hw4 ▸ h3.keeps (ky_box _ _))
          have A4 := Lib.hid (show w4.heap[w1.heap.size]? = some (ansBox t i kk cc) from hw4 ▸ box_keeps A3.out (ky_box _ _))
          have B4 := Lib.hid (show w4.heap[w3.heap.size]? = some (ansBox t i kk cc) from hw4 ▸ heap_alloc_new w3 _)
          have e4 := GM.out _ K4.out
          have EW4 := Lib.hid hw4
          clear h3 g3 k3 hw4 A3
          unfold ansBox at EW4
          go_upto_region 11 with (fail)
          rw [EW4.out]
          clear EW4
          obtain ⟨a0, a1, a2, a3, a4, a5, a6⟩ := ans_at A4.out
          obtain ⟨b0, b1, b2, b3, b4, b5, b6⟩ := ans_at B4.out
          have hob : (okb != okb) = false := by simp
          obtain ⟨m, hm⟩ : ∃ m, k % 32 = m := ⟨_, rfl⟩
          have hm1 : (k : Int) % 32 = (m : Int) := by omega
          have hm2 : Int.tmod (k : Int) 32 = (m : Int) := by rw [Int.tmod_eq_emod_of_nonneg (by omega)]; exact hm1
          have hm32 : m < 32 := by omega
          obtain ⟨tb, htb⟩ : ∃ tb, (twice >>> (k % 32) % 2 == 1) = tb := ⟨_, rfl⟩
          have tbb := bit_one (C := twice) hm
          rw [htb] at tbb
          obtain ⟨q0', q1', q2', q3', q4', q5', q6'⟩ := e4
          clear hm htb
          cases tb with
          | true =>
            go_wp2_with fail
            clear q0' q1' q2' q3' q4' q5' q6' a0 a1 a2 a3 a4 a5 a6 b0 b1 b2 b3 b4 b5 b6
            refine (CB.out _ _ _ _ _ W4.out K4.out (by omega) E2.out).mono ?_
            rintro e w5 ⟨rfl, h5, g5, k5⟩
            have A5 := Lib.hid (box_only A4.out g5 F2.out)
            obtain ⟨w6, hw6⟩ : ∃ w6, w5.alloc (ansBox t i kk cc) = w6 := ⟨_, rfl⟩
            have K6 := Lib.hid (show Keeps wb w6 from hw6 ▸ Keeps.trans k5 (ky_box _ _))
            have W6 := Lib.hid (show Two wb.heap.size w6 b br bs bh (c + 4) p' b' br' bs' bh' (c' + 4 + 4) p' from hw6 ▸ h5.keeps (ky_box _ _))
            have A6 := Lib.hid (show w6.heap[w1.heap.size]? = some (ansBox t i kk cc) from hw6 ▸ box_keeps A5.out (ky_box _ _))
            have B6 := Lib.hid (show w6.heap[w5.heap.size]? = some (ansBox t i kk cc) from hw6 ▸ heap_alloc_new w5 _)
            have EW6 := Lib.hid hw6
            clear h5 g5 k5 hw6 A5
            unfold ansBox at EW6
            go_upto_region 15 with (fail)
            rw [EW6.out]
            clear EW6
            obtain ⟨a0, a1, a2, a3, a4, a5, a6⟩ := ans_at A6.out
            obtain ⟨b0, b1, b2, b3, b4, b5, b6⟩ := ans_at B6.out
            go_wp2_with fail
            exact ⟨⟨k + 1, c + 4, c' + 4 + 4, by omega, by go_num, by omega, by omega, by rw [← EP.out]; exact W6.out, K6.out⟩, by simp [intOf]; omega⟩
          | false =>
            go_wp2_with fail
            exact ⟨⟨k + 1, c + 4, c' + 4, by omega, by go_num, by omega, by omega, by rw [← EP.out]; exact W4.out, K4.out⟩, by simp [intOf]; omega⟩
        · obtain rfl : k = N := by omega
          have hz : ¬ ((k : Int) < (k : Int)) := by omega
          have TD : Hid (∀ j x, L[j]? = some x → ∃ o, Pt.ask p x = (p, o)) := Lib.hid fun j x hx => by
            have e := Pt.told_end p0 L hx
            rw [List.take_of_length_le (by rw [HN.out]; exact Nat.le_refl _)] at hpe
            rw [hpe] at e
            exact ⟨_, e.ask⟩
          clear hpe
          go_wp2_with fail
          go_loopg [16] k (fun g v16 W => ∃ j c2 : Nat, j + g = k ∧ v16 = .int .i64 (j : Int) ∧ c2 ≤ 8 * k + 4 * j ∧ Two wb.heap.size W b br bs bh c p b' br' bs' bh' c2 p ∧ Keeps wb W)
          case atStart => exact ⟨0, c', by omega, rfl, by omega, TW.out, HKR.out⟩
          case round =>
            rename World => wi
            obtain ⟨j, c2, hj, rfl, hc2, hti, hki⟩ := hrel
            have HJ := Lib.hid hj
            have TI := Lib.hid hti
            have KI := Lib.hid hki
            clear hj hti hki hz
            cases gk with
            | zero =>
              obtain rfl : j = k := by have := HJ.out; omega
              have hz : ¬ ((j : Int) < (j : Int)) := by omega
              go_wp2_with fail
              refine (pp_rows TI.out.one.at_ TI.out.one.inv (by omega)).mono ?_
              rintro e w1 ⟨v1, rfl, h1, k1⟩
              obtain ⟨pA, cA, rfl⟩ := rowK.own_shape h1
              have T1 := Lib.hid (TI.out.keeps k1)
              have K1 := Lib.hid (Keeps.trans KI.out k1)
              have V1 := Lib.hid h1
              have FW := Lib.hid TI.out.one.inv.few
              clear h1 k1
              go_wp2_with fail
              refine (pp_rows T1.out.two.at_ T1.out.two.inv (by omega)).mono ?_
              rintro e w2 ⟨v2, rfl, h2, k2⟩
              obtain ⟨pB, cB, rfl⟩ := rowK.own_shape h2
              have K2 := Lib.hid (Keeps.trans K1.out k2)
              have SM := Lib.hid (la_same (own_rows (rowK.own_keeps V1.out k2) (by have := FW.out; omega)) (own_rows h2 (by have := FW.out; omega)))
              rw [show decide (p.L = p.L) = true from decide_eq_true rfl] at SM
              obtain ⟨n, hn⟩ : ∃ n, p.L.length = n := ⟨_, rfl⟩
              rw [hn] at SM ⊢
              clear h2 k2 hn
              go_wp2_with fail
              refine SM.out.mono ?_
              rintro e w3 ⟨rfl, k3⟩
              have K3 := Lib.hid (Keeps.trans K2.out k3)
              clear k3
              go_wp2_with fail
              refine (AS.out _ K3.out).mono ?_
              rintro e w4 ⟨rfl, k4⟩
              have K4 := Lib.hid k4
              clear k4
              go_wp2
              go_ret
              exact ⟨rfl, Keeps.trans KW.out K4.out⟩
            | succ g =>
              have hlt : j < k := by have := HJ.out; omega
              obtain ⟨x, hx⟩ : ∃ x, L[j]? = some x := ⟨_, List.getElem?_eq_getElem (by have := HN.out; omega)⟩
              have xs50 := NG.out.1 x (List.mem_of_getElem? hx)
              have hxs : x.s.size ≤ maxLen := by unfold maxLen; omega
              obtain ⟨ad, rfl, gm⟩ := msg_here HV.out HN.out hx
              have GM := Lib.hid gm
              obtain ⟨o, hpo⟩ := TD.out j x hx
              have E1 := Lib.hid hpo
              obtain ⟨t, i, kk, cc, hans⟩ := ans_shape x o
              obtain ⟨okb, hok⟩ : ∃ okb, o.isSome = okb := ⟨_, rfl⟩
              have CP : Hid (∀ X, Keeps wi X → Calls Tryd.prog 12 #[.pointer (some ⟨b, 0, none⟩)] X fun e w' => (∃ b2 r2 s2 h2, e = .returned (.pointer (some ⟨b2, 0, none⟩)) ∧ Own X.heap.size w' b2 r2 s2 h2 c p 0) ∧ Keeps X w') := Lib.hid fun X kX =>
                (pp_copy (TI.out.one.keeps kX).at_).mono fun e w' hn => by
                  obtain ⟨b2, r2, s2, h2, rfl, h, k0⟩ := own_copy hn TI.out.one.inv
                  exact ⟨⟨b2, r2, s2, h2, rfl, h⟩, k0⟩
              have CQ : Hid (∀ (X : World) (D b2 r2 s2 h2 : Nat), Own D X b2 r2 s2 h2 c p 0 → Keeps wb X → Calls Tryd.prog 13 #[.pointer (some ⟨b2, 0, none⟩), .agg #[.int .i64 x.t, .int .i64 x.o, .int .i64 x.k, .string x.s, .int .i64 x.q, .int .i64 x.a, .int .i64 x.c]] X fun e w' => e = .returned (.tuple #[.agg #[.int .i64 t, .int .i64 i, .int .i64 kk, .string ⟨#[]⟩, .int .i64 0, .int .i64 0, .int .i64 cc], .bool okb]) ∧ Only (three r2 s2 h2) X w') := Lib.hid fun X D b2 r2 s2 h2 h kX => by
                have := h.ask (HP.out X kX) (by omega) x hxs
                rw [E1.out, hans, hok] at this
                exact this.mono fun e w' ⟨h1, h2, h3⟩ => ⟨h1, h3⟩
              have CB : Hid (∀ (X : World), Two wb.heap.size X b br bs bh c p b' br' bs' bh' c2 p → Keeps wb X →
                  Calls Tryd.prog 13 #[.pointer (some ⟨b', 0, none⟩), .agg #[.int .i64 x.t, .int .i64 x.o, .int .i64 x.k, .string x.s, .int .i64 x.q, .int .i64 x.a, .int .i64 x.c]] X fun e w' => e = .returned (.tuple #[.agg #[.int .i64 t, .int .i64 i, .int .i64 kk, .string ⟨#[]⟩, .int .i64 0, .int .i64 0, .int .i64 cc], .bool okb]) ∧ Two wb.heap.size w' b br bs bh c p b' br' bs' bh' (c2 + 4) p ∧ Only (three br' bs' bh') X w' ∧ Keeps wb w') := Lib.hid fun X h kX => by
                have := h.ask2 (HP.out X kX) (by omega) x hxs
                rw [E1.out, hans, hok] at this
                exact this.mono fun e w' ⟨h1, h2, h3⟩ => ⟨h1, h2, h3, h3.keeps kX h2.two.three⟩
              have hi1 : (j : Int) < (k : Int) := by omega
              have hi0 : (0 : Int) ≤ (j : Int) := by omega
              clear gm hx hpo hans hok
              obtain ⟨q0, q1, q2, q3, q4, q5, q6⟩ := GM.out _ KI.out
              have al := cell_lt q0
              have an : (ad.add (j * 7)).block ≠ wi.heap.size := Nat.ne_of_lt al
              have am : wi.heap.size ≠ (ad.add (j * 7)).block := Ne.symm an
              go_upto_region 20 with (fail)
              go_cut [17, 18] (fun v17 v18 wx => ∃ r, v17 = .pointer (some ⟨r, 0, none⟩) ∧ v18 = .bool okb ∧ wi.heap.size ≤ r ∧ wx.heap[r]? = some (ansBox t i kk cc) ∧ Keeps wi wx)
              case first =>
                go_wp2_with (go_region_with (first
                  | (go_at_call 12; refine (CP.out _ (by first | exact ky_drew _ | exact Keeps.trans (ky_box _ _) (ky_drew _) | exact Keeps.trans (ky_drew _) (ky_box _ _))).mono ?_; rintro e w1 ⟨⟨b2, r2, s2, h2, rfl, o1⟩, k1⟩; have O1 := Lib.hid o1; have K1 := Lib.hid (show Keeps wi w1 from Keeps.trans (by first | exact ky_drew _ | exact Keeps.trans (ky_box _ _) (ky_drew _) | exact Keeps.trans (ky_drew _) (ky_box _ _)) k1); obtain ⟨y0, y1, y2, y3, y4, y5, y6⟩ := GM.out _ (Keeps.trans KI.out K1.out)
                     have yl := cell_lt y0
                     have yn : (ad.add (j * 7)).block ≠ w1.heap.size := Nat.ne_of_lt yl
                     have ym : w1.heap.size ≠ (ad.add (j * 7)).block := Ne.symm yn
                     first
                       | (have Z1 := Lib.hid (show w1.heap[wi.heap.size]? = some noObj from box_keeps (box_keeps (heap_alloc_new wi noObj) (ky_drew _)) k1))
                       | (have Z1 := Lib.hid (show w1.heap[wi.heap.size]? = some noObj from box_keeps (W := wi.drew.alloc noObj) (heap_alloc_new wi.drew noObj) k1))
                       | skip
                     clear o1 k1)
                  | (go_at_call 13; refine (CQ.out _ _ _ _ _ _ (O1.out.keeps (by first | exact Keeps.refl _ | exact ky_box _ _ | exact Keeps.trans (ky_drew _) (ky_box _ _))) (Keeps.trans KI.out (Keeps.trans K1.out (by first | exact Keeps.refl _ | exact ky_box _ _ | exact Keeps.trans (ky_drew _) (ky_box _ _))))).mono ?_; rintro e w3 ⟨rfl, g3⟩; have G3 := Lib.hid g3
                     have K3 := Lib.hid (Only.keeps g3 (w := wi) (Keeps.trans K1.out (by first | exact Keeps.refl _ | exact ky_box _ _)) (fun i hi => by
                       have h := O1.out.three i hi
                       first
                         | exact h
                         | (simp at h; omega)))
                     first
                       | (have Z3 := box_only Z1.out g3 (three_new O1.out (by simp))
                          have zc := no_cells Z3
                          have zl := box_lt Z3
                          have zn : wi.heap.size ≠ w3.heap.size := Nat.ne_of_lt zl
                          have zm : w3.heap.size ≠ wi.heap.size := Ne.symm zn
                          obtain ⟨⟨z0, z1, z2, z3, z4, z5, z6⟩, f0, f1, f2, f3, f4, f5, f6⟩ := zc)
                       | (have Z3 := box_only (heap_alloc_new w1 noObj) g3 (three_old O1.out)
                          have zc := no_cells Z3
                          have zl := box_lt Z3
                          have zn : w1.heap.size ≠ w3.heap.size := Nat.ne_of_lt zl
                          have zm : w3.heap.size ≠ w1.heap.size := Ne.symm zn
                          obtain ⟨⟨z0, z1, z2, z3, z4, z5, z6⟩, f0, f1, f2, f3, f4, f5, f6⟩ := zc)
                       | skip
                     clear g3)))
                all_goals (go_wp2_with fail)
                all_goals go_meet
                all_goals first
                  | exact ⟨_, rfl, rfl, K3.out.size, heap_alloc_new w3 (ansBox t i kk cc), Keeps.trans K3.out (ky_box _ _)⟩
                  | exact ⟨_, rfl, rfl, Nat.le_refl _, Go.Proofs.YtkffpmeocfhcpaaDoor.seven_set Z3 _ _ _ _ _ _ _, Only.keeps (Pp.seven_set _ _ _ _ _ _ _ _ _) K3.out (fun i hi => by omega)⟩
                  | exact ⟨_, rfl, rfl, K1.out.size, Go.Proofs.YtkffpmeocfhcpaaDoor.seven_set Z3 _ _ _ _ _ _ _, Only.keeps (Pp.seven_set _ _ _ _ _ _ _ _ _) K3.out (fun i hi => by have := K1.out.size; omega)⟩
              case rest =>
                rename World => wa
                obtain ⟨r, rfl, rfl, hr, hbx, ka⟩ := hcut
                have KA := Lib.hid (Keeps.trans KI.out ka)
                have TA := Lib.hid (TI.out.keeps ka)
                have AA := Lib.hid hbx
                have FA : Hid (¬ three br' bs' bh' r) := Lib.hid (by
                  obtain ⟨_, l1, l2, l3⟩ := pp_cell TI.out.two.at_
                  unfold three
                  omega)
                clear hr hbx ka q0 q1 q2 q3 q4 q5 q6 al an am CP CQ
                obtain ⟨q0, q1, q2, q3, q4, q5, q6⟩ := GM.out _ KA.out
                go_wp2_with fail
                refine (CB.out _ TA.out KA.out).mono ?_
                rintro e w1 ⟨rfl, h1, g1, k1⟩
                have A1 := Lib.hid (box_only AA.out g1 FA.out)
                obtain ⟨w2, hw2⟩ : ∃ w2, w1.alloc (ansBox t i kk cc) = w2 := ⟨_, rfl⟩
                have K2 := Lib.hid (show Keeps wb w2 from hw2 ▸ Keeps.trans k1 (ky_box _ _))
                have W2 := Lib.hid (show Two wb.heap.size w2 b br bs bh c p b' br' bs' bh' (c2 + 4) p from hw2 ▸ h1.keeps (ky_box _ _))
                have A2 := Lib.hid (show w2.heap[r]? = some (ansBox t i kk cc) from hw2 ▸ box_keeps A1.out (ky_box _ _))
                have B2 := Lib.hid (show w2.heap[w1.heap.size]? = some (ansBox t i kk cc) from hw2 ▸ heap_alloc_new w1 _)
                have EW2 := Lib.hid hw2
                clear h1 g1 k1 hw2 A1 q0 q1 q2 q3 q4 q5 q6
                unfold ansBox at EW2
                go_upto_region 22 with (fail)
                rw [EW2.out]
                clear EW2
                have CL : Hid (∀ X, Keeps w2 X → Calls Tryd.prog 20 #[.pointer (some ⟨b, 0, none⟩), .string x.s] X fun e w' => e = .returned (.int .i64 (leftV p x.s)) ∧ Keeps X w') := Lib.hid fun X kX => pp_Left (W2.out.one.keeps kX).at_ (HP.out _ (Keeps.trans K2.out kX)) x.s hxs
                have CM : Hid (∀ X, Keeps w2 X → Calls Tryd.prog 20 #[.pointer (some ⟨b', 0, none⟩), .string x.s] X fun e w' => e = .returned (.int .i64 (leftV p x.s)) ∧ Keeps X w') := Lib.hid fun X kX => pp_Left (W2.out.two.keeps kX).at_ (HP.out _ (Keeps.trans K2.out kX)) x.s hxs
                obtain ⟨lv, hlv⟩ : ∃ lv, leftV p x.s = lv := ⟨_, rfl⟩
                rw [hlv] at CL CM
                have hob : (okb != okb) = false := by simp
                have hlb : (lv != lv) = false := by simp
                have CS : Hid (∀ W, Keeps w2 W → (W.cell? ⟨r, 0, none⟩ = some (.int .i64 t) ∧ W.cell? ⟨r, 1, none⟩ = some (.int .i64 i) ∧ W.cell? ⟨r, 2, none⟩ = some (.int .i64 kk) ∧ W.cell? ⟨r, 3, none⟩ = some (.string ⟨#[]⟩) ∧ W.cell? ⟨r, 4, none⟩ = some (.int .i64 0) ∧ W.cell? ⟨r, 5, none⟩ = some (.int .i64 0) ∧ W.cell? ⟨r, 6, none⟩ = some (.int .i64 cc)) ∧
                    (W.cell? ⟨w1.heap.size, 0, none⟩ = some (.int .i64 t) ∧ W.cell? ⟨w1.heap.size, 1, none⟩ = some (.int .i64 i) ∧ W.cell? ⟨w1.heap.size, 2, none⟩ = some (.int .i64 kk) ∧ W.cell? ⟨w1.heap.size, 3, none⟩ = some (.string ⟨#[]⟩) ∧ W.cell? ⟨w1.heap.size, 4, none⟩ = some (.int .i64 0) ∧ W.cell? ⟨w1.heap.size, 5, none⟩ = some (.int .i64 0) ∧ W.cell? ⟨w1.heap.size, 6, none⟩ = some (.int .i64 cc)) ∧
                    W.cell? ⟨(ad.add (j * 7)).block, (ad.add (j * 7)).off + 3, none⟩ = some (.string x.s)) := Lib.hid fun W kW => ⟨(ans_at A2.out).keeps kW, (ans_at B2.out).keeps kW, (GM.out _ (Keeps.trans K2.out kW)).2.2.2.1⟩
                clear hlv CB
                have HX := Lib.hid (Keeps.refl w2)
                obtain ⟨⟨a0, a1, a2, a3, a4, a5, a6⟩, ⟨b0, b1, b2, b3, b4, b5, b6⟩, y3⟩ := CS.out _ HX.out
                go_region_held3 (fun W => (W.cell? ⟨r, 0, none⟩ = some (.int .i64 t) ∧ W.cell? ⟨r, 1, none⟩ = some (.int .i64 i) ∧ W.cell? ⟨r, 2, none⟩ = some (.int .i64 kk) ∧ W.cell? ⟨r, 3, none⟩ = some (.string ⟨#[]⟩) ∧ W.cell? ⟨r, 4, none⟩ = some (.int .i64 0) ∧ W.cell? ⟨r, 5, none⟩ = some (.int .i64 0) ∧ W.cell? ⟨r, 6, none⟩ = some (.int .i64 cc)) ∧
                    (W.cell? ⟨w1.heap.size, 0, none⟩ = some (.int .i64 t) ∧ W.cell? ⟨w1.heap.size, 1, none⟩ = some (.int .i64 i) ∧ W.cell? ⟨w1.heap.size, 2, none⟩ = some (.int .i64 kk) ∧ W.cell? ⟨w1.heap.size, 3, none⟩ = some (.string ⟨#[]⟩) ∧ W.cell? ⟨w1.heap.size, 4, none⟩ = some (.int .i64 0) ∧ W.cell? ⟨w1.heap.size, 5, none⟩ = some (.int .i64 0) ∧ W.cell? ⟨w1.heap.size, 6, none⟩ = some (.int .i64 cc)) ∧
                    W.cell? ⟨(ad.add (j * 7)).block, (ad.add (j * 7)).off + 3, none⟩ = some (.string x.s))
                  (first | exact CS.out _ HX.out | exact CS.out _ (HX.out.trans (ky_drew _)) | assumption)
                  (first
                  | (go_at_call 20; refine (CL.out _ (by first | exact HX.out | exact HX.out.trans (ky_drew _))).mono ?_; rintro e wv ⟨rfl, hv⟩; have HX2 := Lib.hid (HX.out.trans (Keeps.trans (by first | exact Keeps.refl _ | exact ky_drew _) hv)); clear HX CL hv; have HX := Lib.hid HX2.out; clear HX2; have zv := CS.out _ HX.out)
                  | (go_at_call 20; refine (CM.out _ (by first | exact HX.out | exact HX.out.trans (ky_drew _))).mono ?_; rintro e wv ⟨rfl, hv⟩; have HX2 := Lib.hid (HX.out.trans (Keeps.trans (by first | exact Keeps.refl _ | exact ky_drew _) hv)); clear HX CM hv; have HX := Lib.hid HX2.out; clear HX2; have zv := CS.out _ HX.out))
                go_wp2_with fail
                go_roundg g
                case measure => omega
                case rel => exact ⟨j + 1, c2 + 4, by have := HJ.out; omega, by first | rfl | go_num, by omega, W2.out.keeps HX.out, Keeps.trans K2.out HX.out⟩
    · go_wp2_with fail
      have NEW : Hid (∀ X, Calls Tryd.prog 10 #[.int .i64 kind, .int .i64 stock, .int .i64 limit] X fun e w' => e = .returned (.pointer none) ∧ w' = X) := Lib.hid fun X => pp_new_no kind stock limit X hk
      go_region_held3 (fun X => X.cell? ⟨w.heap.size, 0, none⟩ = some (.int .i64 kind) ∧ X.cell? ⟨w.heap.size, 1, none⟩ = some (.int .i64 stock) ∧ X.cell? ⟨w.heap.size, 2, none⟩ = some (.int .i64 limit))
        (first | assumption | go_keep) ((go_at_call 10; refine (NEW.out _).mono ?_; rintro e w0 ⟨rfl, rfl⟩))
      go_wp2_with fail
      refine (AS.out _ (Keeps.trans KG.out (ky_drew _))).mono ?_
      rintro e w2 ⟨rfl, k2⟩
      have K2 := Lib.hid k2
      clear k2
      go_wp2
      go_ret
      exact ⟨rfl, Keeps.trans KW.out K2.out⟩
end Pa
end Go.Proofs.YtkffpmeocfhcpaaDoor
