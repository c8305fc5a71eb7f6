/- BooksOrder, walked. -/
import Derived.Test.YtffipjhpoaalhaaBkOrder
import Derived.LoopN
import Derived.WalkKit
import Derived.OwnWalk
import Derived.Deep.Cut
set_option linter.unusedVariables false
namespace Go.Proofs.Ytffipjhpoaalhaa
open Go.ChangeShapes Go.WideShapes Go.ChangeAt Go.RowKit Csv Bk Mon

/-- A byte, as a text, in whatever world holds it. -/
theorem obyte_any {P : Program} (src e : TypeId) (hs : P.underlying src = some (.slice e)) (he : P.underlying e = some (.int .u8)) (v : Int) (c : UInt8) (hv : v = c.toNat) (dst : TypeId) (hd : P.underlying dst = some .string) :
    ∀ (w : World) (b : Nat), w.cell? ⟨b, 0, none⟩ = some (Value.int .u8 v) → (convert src dst (.slice (some ⟨b, 0, none⟩) 1 1)).run P w = .ok (.string ⟨#[c]⟩) w := by
  intro w b hc
  exact loaded_string (P := P) w src e hs he b 1 1 [c] rfl (fun i hi => by
    obtain rfl : i = 0 := by omega
    rw [hc, hv]; rfl) dst hd
theorem oid_val {k : Nat} {C : UInt8} {V : Int} (hk : k < 40) (hC : UInt8.ofNat (97 + k) = C) (hV : ((97 + k : Nat) : Int) = V) : V = (C.toNat : Int) := by
  subst hC hV
  simp
  omega
theorem oid_wrap {k : Nat} (hk : k < 40) : IntKind.u8.wrap (k : Int) = (k : Int) ∧ IntKind.u8.wrap (97 + (k : Int)) = ((97 + k : Nat) : Int) := by
  have e : ∀ n : Int, 0 ≤ n → n < 256 → IntKind.u8.wrap n = n := fun n h0 h1 => by
    unfold IntKind.wrap
    simp [IntKind.signed, IntKind.bits]
    omega
  exact ⟨e _ (by omega) (by omega), (e _ (by omega) (by omega)).trans (by omega)⟩
theorem oset (W : World) (n i : Nat) (v : Value) : W.grownBy (W.setCell ⟨n, i, none⟩ v) (some n) :=
  ⟨rfl, rfl, rfl, by simp, fun k hk hn => Below.heap_setCell _ _ _ _ fun e => hn (by rw [e])⟩
/-- The five stores of a struct. -/
def five (W : World) (g m : Nat) (a b c d e : Value) : World := ((((W.setCell ⟨g, m, none⟩ a).setCell ⟨g, m + 1, none⟩ b).setCell ⟨g, m + 2, none⟩ c).setCell ⟨g, m + 3, none⟩ d).setCell ⟨g, m + 4, none⟩ e
theorem five_grown (W : World) (g m : Nat) (a b c d e : Value) : W.grownBy (five W g m a b c d e) (some g) :=
  ((((oset W g m a).trans (oset _ g (m + 1) b)).trans (oset _ g (m + 2) c)).trans (oset _ g (m + 3) d)).trans (oset _ g (m + 4) e)
theorem five_block {W : World} {g m : Nat} {cs : Array Value} (h : W.heap[g]? = some (.cells cs tPo (0, 0))) (a b c d e : Value) :
    (five W g m a b c d e).heap[g]? = some (.cells (((((cs.setIfInBounds m a).setIfInBounds (m + 1) b).setIfInBounds (m + 2) c).setIfInBounds (m + 3) d).setIfInBounds (m + 4) e) tPo (0, 0)) :=
  Joins.block_setCell (Joins.block_setCell (Joins.block_setCell (Joins.block_setCell (Joins.block_setCell h a) b) c) d) e
theorem Row1.next {w W W' : World} {L : List PI} {g k : Nat} {x : PI} {C : UInt8} (h : Row1 w L g k W) (hx : L[k]? = some x) (hC : UInt8.ofNat (97 + k) = C) (X : Obj)
    (e : W' = ((five W g (k * 5) (.string (smallI x).s) (.int .i64 (smallI x).ord) (.int .i64 (smallI x).deb) (.int .i64 (smallI x).cre) (.int .i64 (smallI x).amt)).setCell ⟨g, k * 5, none⟩ (.string ⟨#[C]⟩)).alloc X) : Row1 w L g (k + 1) W' := by
  subst e
  have hg5 := five_grown W g (k * 5) (.string (smallI x).s) (.int .i64 (smallI x).ord) (.int .i64 (smallI x).deb) (.int .i64 (smallI x).cre) (.int .i64 (smallI x).amt)
  have hg6 := hg5.trans (oset _ g (k * 5) (.string ⟨#[C]⟩))
  have hgg := hg6.trans (World.grownBy_alloc _ X (some g))
  have hlt : g < W.heap.size := by obtain ⟨_, _, cs, hb, _⟩ := h; exact (Array.getElem?_eq_some_iff.1 hb).1
  refine h.step hx (.string (smallI x).s) hgg.os hgg.tape hgg.output hgg.size (fun i hi hn => hgg.block i hi (fun e => hn (Option.some.inj e))) fun cs hcs => ?_
  have h5 := five_block (m := k * 5) hcs (.string (smallI x).s) (.int .i64 (smallI x).ord) (.int .i64 (smallI x).deb) (.int .i64 (smallI x).cre) (.int .i64 (smallI x).amt)
  have h7 := Joins.block_setCell (i := k * 5) h5 (.string ⟨#[C]⟩)
  rw [(keeps_box _ X).block g (Nat.lt_of_lt_of_le hlt hg6.size), h7, ← hC]
  rfl
theorem OrSt.cells {w W : World} {b c : Nat} {M N O : List PI} {g n m : Nat} (h : OrSt w b c M N (.slice (some ⟨g, 0, none⟩) n m) O W) {j : Nat} {x : PI} (hx : O[j]? = some x) :
    W.cell? ⟨g, j * 5, none⟩ = some (.string x.s) ∧ W.cell? ⟨g, j * 5 + 1, none⟩ = some (.int .i64 x.ord) ∧ W.cell? ⟨g, j * 5 + 2, none⟩ = some (.int .i64 x.deb) ∧ W.cell? ⟨g, j * 5 + 3, none⟩ = some (.int .i64 x.cre) ∧ W.cell? ⟨g, j * 5 + 4, none⟩ = some (.int .i64 x.amt) := by
  obtain ⟨F, G, h1, h2, h3, h4, h5, h6, h7, h8⟩ := h
  have c : ∀ t u, x.vals[t]? = some u → W.cell? ⟨g, j * 5 + t, none⟩ = some u := fun t u hu => postK.own_at h7 hx hu
  exact ⟨c 0 _ rfl, c 1 _ rfl, c 2 _ rfl, c 3 _ rfl, c 4 _ rfl⟩
theorem rem_nat {i n N : Nat} (hN : 0 < N) : Int.tmod ((i : Int) + (n : Int)) (N : Int) = (((i + n) % N : Nat) : Int) := by
  rw [Int.tmod_eq_emod_of_nonneg (by omega)]
  push_cast
  rfl
theorem near_sum {i n : Nat} (hi : i ≤ 100000) (hn : n < 256) : wrap64 ((i : Int) + (n : Int)) = (i : Int) + (n : Int) ∧ IntKind.i64.wrap (n : Int) = (n : Int) := by
  refine ⟨?_, ?_⟩
  · unfold wrap64; omega
  · rw [IntKind.wrap_i64]; omega
set_option maxRecDepth 100000 in
set_option maxHeartbeats 16000000 in
theorem booksorder_any (v : Value) (L : List PI) (n : Nat) (hn : n < 256) (w : World) (h : PostsAt w v L) :
    Calls Try.prog 6 #[v, .int .u8 (n : Int)] w fun e w' => e = .returned (.bool true) ∧ Keeps w w' := by
  have HP := Lib.hid h
  have HG := Lib.hid (great_any v L 40 w h)
  have HT := Lib.hid fun W => posted_any W
  have HN := Lib.hid fun W => pnew_any W
  have HNB := Lib.hid hn
  obtain ⟨p, c, rfl, hmx, _, _⟩ := h
  obtain ⟨N, hN⟩ : ∃ N, L.length = N := ⟨_, rfl⟩
  have HLN := Lib.hid hN
  rw [hN] at hmx HG ⊢
  clear hN hmx
  obtain ⟨gr, hgr⟩ : ∃ gr, greatP L 40 = gr := ⟨_, rfl⟩
  have HGR := Lib.hid hgr
  rw [hgr] at HG
  have OUT : Hid (∀ W, Keeps w W → Calls Try.prog 9 #[] W fun e w' => e = .returned (.bool true) ∧ Keeps w w') := Lib.hid fun W hW => by
    refine (HT.out W).mono ?_
    rintro e w' ⟨rfl, k⟩
    exact ⟨rfl, hW.trans k⟩
  clear hgr hn
  go_enter Try.func6, Try.ntmps6
  go_wp2_with fail
  refine HG.out.mono ?_
  rintro e w1 ⟨rfl, k1⟩
  have K1 := Lib.hid k1
  clear k1
  cases gr with
  | true =>
    go_wp2_with fail
    refine (OUT.out _ K1.out).mono ?_
    rintro e w2 ⟨rfl, k2⟩
    have K2 := Lib.hid k2
    clear k2
    go_wp2
    go_ret
    exact ⟨rfl, K2.out⟩
  | false =>
    by_cases hN0 : N = 0
    · subst hN0
      go_wp2_with fail
      refine (OUT.out _ K1.out).mono ?_
      rintro e w2 ⟨rfl, k2⟩
      have K2 := Lib.hid k2
      clear k2
      go_wp2
      go_ret
      exact ⟨rfl, K2.out⟩
    · have HN40 : Hid (N ≤ 40) := Lib.hid (by have := not_great (n := 40) HGR.out; have := HLN.out; omega)
      have HSH := Lib.hid (not_long HGR.out)
      have HPOS : Hid (0 < N) := Lib.hid (by omega)
      have t0 : ((N : Int) == 0) = false := by simp [hN0]
      obtain ⟨i, hi, hz, hsz, hb⟩ := postK.parts
      have HB2 : Hid (i.bytes * N ≤ 281474976710656) := Lib.hid (by rw [hb]; show 48 * N ≤ _; have := HN40.out; omega)
      have HB3 : Hid (N ≤ maxLen) := Lib.hid (by have := HN40.out; unfold maxLen; omega)
      clear hN0
      go_wp2_with (first
        | (at_make; refine wpList_make_full _ rfl _ _ tPs rfl w1.heap.size tPo i _ 5 Try.underlying22 hi hz hsz .i64 .i64 (N : Int) (N : Int) N rfl rfl rfl rfl HB2.out HB3.out (Nat.le_refl _) ?_; intro w2 hown2 hg2)
        | go_in)
      have HR : Hid (Row1 w L w1.heap.size 0 w2) := Lib.hid (by
        refine ⟨K1.out.trans (pgrown_keeps hg2), K1.out.size, ?_⟩
        rcases hown2.2 with ⟨e, h0⟩ | ⟨g, cap, cur, e, hb, hg, r1, r2, r3, r4⟩
        · have := HPOS.out; omega
        · simp only [Value.slice.injEq, Option.some.injEq, Addr.mk.injEq] at e
          obtain ⟨⟨rfl, _⟩, _, rfl⟩ := e
          exact ⟨cur, hg, by rw [r3, HLN.out], fun j x hj => by omega⟩)
      obtain ⟨g, hg⟩ : ∃ g, w1.heap.size = g := ⟨_, rfl⟩
      rw [hg] at HR ⊢
      clear hown2 hg2 hg hi hz hsz hb HB2 HB3
      go_wp2
      go_loopw [6] (fun vi wr => ∃ k : Nat, k ≤ N ∧ vi = .int .i64 (k : Int) ∧ Row1 w L g k wr) (fun vi _ => N - (intOf vi).toNat)
      case atStart => exact ⟨0, by omega, rfl, HR.out⟩
      case round =>
        obtain ⟨k, hk, rfl, hs⟩ := hrel
        have HO := Lib.hid hs
        have HK2 : Hid (k ≤ 100000) := Lib.hid (by have := HN40.out; omega)
        clear hs HR
        by_cases hlt : k < N
        · have HK1 := Lib.hid hlt
          obtain ⟨x, hx⟩ : ∃ x, L[k]? = some x := ⟨_, List.getElem?_eq_getElem (by have := HLN.out; omega)⟩
          obtain ⟨p', c', e', _, hcc, hc⟩ := HP.out
          simp only [Value.slice.injEq] at e'
          obtain ⟨rfl, e2, rfl⟩ := e'
          obtain ⟨xg, ad, rfl, q⟩ := hc k x hx
          obtain ⟨q0, q1, q2, q3, q4⟩ := q.keeps HO.out.1
          have HX := Lib.hid hx
          have CS : Hid (Calls Try.prog 20 #[.agg #[.string x.s, .int .i64 x.ord, .int .i64 x.deb, .int .i64 x.cre, .int .i64 x.amt]] wr fun e w' => e = .returned (smallI x).val ∧ Keeps wr w') := Lib.hid (small_any x wr)
          have hi1 : (k : Int) < (N : Int) := by omega
          have hi2 : (k : Int) ≤ (N : Int) := by omega
          have hi0 : (0 : Int) ≤ (k : Int) := by omega
          clear hc q hx xg hcc e2
          go_wp2_with fail
          refine CS.out.mono ?_
          rintro e w3 ⟨rfl, k3⟩
          have HO3 := Lib.hid (HO.out.keeps k3)
          obtain ⟨u0, u1, u2, u3, u4, ⟨z0, z1, z2, z3, z4⟩, hfr⟩ := HO3.out.cells (j := k) (by have := HLN.out; omega)
          have f0 := hfr (k * 5)
          have f1 := hfr (k * 5 + 1)
          have f2 := hfr (k * 5 + 2)
          have f3 := hfr (k * 5 + 3)
          have f4 := hfr (k * 5 + 4)
          obtain ⟨C, hC⟩ : ∃ C, UInt8.ofNat (97 + k) = C := ⟨_, rfl⟩
          have HC := Lib.hid hC
          obtain ⟨V, hV⟩ : ∃ V : Int, ((97 + k : Nat) : Int) = V := ⟨_, rfl⟩
          have HV := Lib.hid (oid_val (by have := HN40.out; omega) hC hV)
          have hv1 : IntKind.u8.wrap (k : Int) = (k : Int) := (oid_wrap (by have := HN40.out; omega)).1
          have hv2 : IntKind.u8.wrap (97 + (k : Int)) = V := (oid_wrap (by have := HN40.out; omega)).2.trans hV
          clear hC hV
          unfold PI.val
          clear k3 q0 q1 q2 q3 q4 hfr
          go_upto_region 8 with (fail)
          obtain ⟨w5, hw5⟩ : ∃ w5, five w3 g (k * 5) (.string (smallI x).s) (.int .i64 (smallI x).ord) (.int .i64 (smallI x).deb) (.int .i64 (smallI x).cre) (.int .i64 (smallI x).amt) = w5 := ⟨_, rfl⟩
          have HW5 := Lib.hid hw5
          unfold five at hw5
          rw [hw5]
          have NX : Hid (∀ W', W' = (w5.setCell ⟨g, k * 5, none⟩ (.string ⟨#[C]⟩)).alloc (.cells #[.int .u8 V] 5) → Row1 w L g (k + 1) W') := Lib.hid fun W' e => HO3.out.next HX.out HC.out (.cells #[.int .u8 V] 5) (by rw [HW5.out]; exact e)
          obtain ⟨cs, hcs⟩ : ∃ cs, w5.heap[g]? = some (.cells cs tPo (0, 0)) := by
            obtain ⟨_, _, cs, hb, _⟩ := HO3.out
            exact ⟨_, HW5.out ▸ five_block hb _ _ _ _ _⟩
          have hsz : k * 5 < cs.size := by
            obtain ⟨_, _, cs0, hb, hs0, _⟩ := HO3.out
            have e := five_block (m := k * 5) hb (.string (smallI x).s) (.int .i64 (smallI x).ord) (.int .i64 (smallI x).deb) (.int .i64 (smallI x).cre) (.int .i64 (smallI x).amt)
            rw [HW5.out, hcs] at e
            have e2 := congrArg (fun o => match o with | some (Obj.cells c _ _) => c.size | _ => 0) e
            simp at e2
            have := HLN.out
            omega
          have z5 : w5.cell? ⟨g, k * 5, none⟩ = some (cs[k * 5]!) := by rw [Joins.cell_of_block hcs]; simp [hsz]
          have f5 := Joins.unfrozen_of_block hcs (k * 5)
          have r1 : g < w5.heap.size := (Array.getElem?_eq_some_iff.1 hcs).1
          have r2 : g ≠ w5.heap.size := Nat.ne_of_lt r1
          have hcv := byte_string (P := Try.prog) w5 47 5 Try.underlying47 Try.underlying5 V C HV.out 9 Try.underlying9
          clear hw5 hcs hsz f0 f1 f2 f3 f4 z0 z1 z2 z3 z4
          go_wp2
          exact ⟨⟨k + 1, HK1.out, num_next HK2.out, NX.out _ rfl⟩, meas_lt HK1.out HK2.out⟩
        · obtain rfl : k = N := by omega
          obtain ⟨O, hO⟩ : ∃ O, ownL L = O := ⟨_, rfl⟩
          have HOL : Hid (O.length = k) := Lib.hid (by rw [← hO, ownL_len, HLN.out])
          have HT1 : Hid (TakeOk O) := Lib.hid (hO ▸ own_take (by have := HLN.out; have := HN40.out; omega) HSH.out)
          have HROW : Hid (postK.Own 0 wr (.slice (some ⟨g, 0, none⟩) k k) O) := Lib.hid (by
            have h1 := HO.out
            have e := HLN.out
            rw [← e] at h1
            have := h1.own (by have := HN40.out; omega)
            rw [e, hO] at this
            exact this)
          obtain ⟨R, hR⟩ : ∃ R, turned O n = R := ⟨_, rfl⟩
          have HT2 : Hid (TakeOk R) := Lib.hid (hR ▸ turned_take HT1.out n)
          have HRL : Hid (R.length = k) := Lib.hid (by rw [← hR, turned_len, HOL.out])
          have HRAT : Hid (∀ i, i < k → R[i]? = O[(i + n) % k]?) := Lib.hid fun i hi => by
            have := turned_at (R := O) (b := n) (t := i) (by rw [HOL.out]; exact hi)
            rw [hR, HOL.out] at this
            exact this
          have HBAL : Hid (∀ a o, bal (pms R) a o = bal (pms O) a o) := Lib.hid fun a o => hR ▸ turned_bal O n a o
          have HKEEP := Lib.hid HO.out.1
          clear hO hR hlt hk HO
          go_wp2_with fail
          refine (HN.out _).mono ?_
          rintro e wa ⟨b, F, rfl, hb, hf, ka⟩
          have HB := Lib.hid hb
          have HF := Lib.hid hf
          have KA := Lib.hid ka
          clear hb hf ka
          go_wp2_with fail
          refine (HN.out _).mono ?_
          rintro e wb ⟨c2, G, rfl, hc, hg2, kb⟩
          have HST := Lib.hid (OrSt.start HKEEP.out HROW.out KA.out HB.out HF.out kb hc hg2)
          clear hc hg2 kb
          go_wp2
          go_loopw [9] (fun vi W => ∃ i : Nat, i ≤ k ∧ vi = .int .i64 (i : Int) ∧ OrSt w b c2 (O.take i) (R.take i) (.slice (some ⟨g, 0, none⟩) k k) O W) (fun vi _ => k - (intOf vi).toNat)
          case atStart => exact ⟨0, by omega, rfl, HST.out⟩
          case round =>
            obtain ⟨i, hi, rfl, hs⟩ := hrel
            have HS := Lib.hid hs
            have HI2 : Hid (i ≤ 100000) := Lib.hid (by have := HN40.out; omega)
            clear hs
            by_cases hil : i < k
            · have HI1 := Lib.hid hil
              obtain ⟨x, hx⟩ : ∃ x, O[i]? = some x := ⟨_, List.getElem?_eq_getElem (by have := HOL.out; omega)⟩
              obtain ⟨t, ht⟩ : ∃ t, (i + n) % k = t := ⟨_, rfl⟩
              have htl : t < k := by rw [← ht]; exact Nat.mod_lt _ HPOS.out
              obtain ⟨y, hy⟩ : ∃ y, O[t]? = some y := ⟨_, List.getElem?_eq_getElem (by have := HOL.out; omega)⟩
              have hRy : R[i]? = some y := by rw [HRAT.out i hil, ht, hy]
              obtain ⟨sx, px⟩ := take_sm HT1.out i (by have := HOL.out; omega)
              obtain ⟨sy, py⟩ := take_sm HT2.out i (by have := HRL.out; omega)
              obtain ⟨sy1, _⟩ := take_sm HT2.out (i + 1) (by have := HRL.out; omega)
              have P1 : Hid (∀ W, OrSt w b c2 (O.take i) (R.take i) (.slice (some ⟨g, 0, none⟩) k k) O W → Calls Try.prog 11 #[.pointer (some ⟨b, 0, none⟩), x.val] W fun e w' => e = .returned (.int .i64 0) ∧ OrSt w b c2 (O.take (i + 1)) (R.take i) (.slice (some ⟨g, 0, none⟩) k k) O w') := Lib.hid fun W h =>
                h.post x sx.good (HT1.out.good x (List.mem_of_getElem? hx)).1 sx.ok (by have := sx.len; have := HI2.out; have := HN40.out; omega) (px x hx).1
              have P2 : Hid (∀ W, OrSt w b c2 (O.take (i + 1)) (R.take i) (.slice (some ⟨g, 0, none⟩) k k) O W → Calls Try.prog 11 #[.pointer (some ⟨c2, 0, none⟩), y.val] W fun e w' => e = .returned (.int .i64 0) ∧ OrSt w b c2 (O.take (i + 1)) (R.take (i + 1)) (.slice (some ⟨g, 0, none⟩) k k) O w') := Lib.hid fun W h => by
                refine (h.turn.post y sy.good (HT2.out.good y (List.mem_of_getElem? hRy)).1 sy.ok (by have := sy.len; have := HN40.out; omega) (py y hRy).1).mono ?_
                rintro e w' ⟨rfl, h'⟩
                exact ⟨rfl, h'.turn⟩
              have P3 : Hid (∀ W, OrSt w b c2 (O.take (i + 1)) (R.take (i + 1)) (.slice (some ⟨g, 0, none⟩) k k) O W → Calls Try.prog 11 #[.pointer (some ⟨c2, 0, none⟩), y.val] W fun e w' => e = .returned (.int .i64 0) ∧ OrSt w b c2 (O.take (i + 1)) (R.take (i + 1)) (.slice (some ⟨g, 0, none⟩) k k) O w') := Lib.hid fun W h => by
                refine (h.turn.post y sy1.good (HT2.out.good y (List.mem_of_getElem? hRy)).1 sy1.ok (by have := sy1.len; have := HN40.out; omega) (take_again HT2.out hRy)).mono ?_
                rintro e w' ⟨rfl, h'⟩
                exact ⟨rfl, h'.turn⟩
              have CX : Hid (∀ W M2 N2, OrSt w b c2 M2 N2 (.slice (some ⟨g, 0, none⟩) k k) O W → (W.cell? ⟨g, t * 5, none⟩ = some (.string y.s) ∧ W.cell? ⟨g, t * 5 + 1, none⟩ = some (.int .i64 y.ord) ∧ W.cell? ⟨g, t * 5 + 2, none⟩ = some (.int .i64 y.deb) ∧ W.cell? ⟨g, t * 5 + 3, none⟩ = some (.int .i64 y.cre) ∧ W.cell? ⟨g, t * 5 + 4, none⟩ = some (.int .i64 y.amt))) := Lib.hid fun W M2 N2 h => h.cells hy
              obtain ⟨x0, x1, x2, x3, x4⟩ := HS.out.cells hx
              have hrem : ((i : Int) + (n : Int)).tmod (k : Int) = (t : Int) := by rw [rem_nat HPOS.out, ht]
              obtain ⟨hw1, hw2⟩ := near_sum HI2.out HNB.out
              have hk0 : ((k : Int) == 0) = false := t0
              have hk1 : ¬ (k : Int) = 0 := by have := HPOS.out; omega
              have hi1 : (i : Int) < (k : Int) := by omega
              have hi0 : (0 : Int) ≤ (i : Int) := by omega
              have ht1 : (t : Int) < (k : Int) := by omega
              have ht2 : (0 : Int) ≤ (t : Int) := by omega
              unfold PI.val at P1 P2 P3
              clear hx hy hRy sx px sy py sy1 ht htl hil
              go_wp2_with fail
              refine (P1.out _ HS.out).mono ?_
              rintro e w5 ⟨rfl, h5⟩
              have H5 := Lib.hid h5
              obtain ⟨y0, y1, y2, y3, y4⟩ := CX.out _ _ _ h5
              clear h5 x0 x1 x2 x3 x4
              go_wp2_with fail
              refine (P2.out _ H5.out).mono ?_
              rintro e w6 ⟨rfl, h6⟩
              have H6 := Lib.hid h6
              clear y0 y1 y2 y3 y4
              obtain ⟨y0, y1, y2, y3, y4⟩ := CX.out _ _ _ h6
              clear h6
              go_wp2_with fail
              refine (P3.out _ H6.out).mono ?_
              rintro e w7 ⟨rfl, h7⟩
              have H7 := Lib.hid h7
              clear h7 y0 y1 y2 y3 y4
              go_wp2
              exact ⟨⟨i + 1, HI1.out, num_next HI2.out, H7.out⟩, meas_lt HI1.out HI2.out⟩
            · obtain rfl : i = k := by omega
              have HFIN : Hid (OrSt w b c2 O R (.slice (some ⟨g, 0, none⟩) i i) O wr) := Lib.hid (by
                have h := HS.out
                rw [List.take_of_length_le (by have := HOL.out; omega), List.take_of_length_le (by have := HRL.out; omega)] at h
                exact h)
              obtain ⟨wz, hwz⟩ : ∃ wz, wz = wr := ⟨_, rfl⟩
              subst hwz
              obtain ⟨f, hf⟩ : ∃ f : Int → Int → Int, f = fun a o => bal (pms O) a o := ⟨_, rfl⟩
              have DB : Hid (∀ a o, I64 a → I64 o → Calls Try.prog 13 #[.pointer (some ⟨b, 0, none⟩), .int .i64 a, .int .i64 o] wz fun e w' => e = .returned (.int .i64 (f a o)) ∧ w' = wz) := Lib.hid fun a o ha ho => by
                rw [hf]; exact HFIN.out.oneB.bal a o ha ho
              have DC : Hid (∀ a o, I64 a → I64 o → Calls Try.prog 13 #[.pointer (some ⟨c2, 0, none⟩), .int .i64 a, .int .i64 o] wz fun e w' => e = .returned (.int .i64 (f a o)) ∧ w' = wz) := Lib.hid fun a o ha ho => by
                rw [hf]
                have := HFIN.out.turn.oneB.bal a o ha ho
                rw [HBAL.out] at this
                exact this
              have I : Hid (∀ n : Nat, n ≤ 100 → I64 (n : Int)) := Lib.hid fun n hn => by unfold I64 top; omega
              have MB : Hid (∀ W, Keeps wz W → Calls Try.prog 17 #[.pointer (some ⟨b, 0, none⟩)] W fun e w' => e = .returned (.int .i64 (i : Int)) ∧ Keeps wz w') := Lib.hid fun W k => by
                rw [← HOL.out]
                refine (HFIN.out.oneB.keeps k).many.mono ?_
                rintro e w' ⟨rfl, k2⟩
                exact ⟨rfl, k.trans k2⟩
              have MC : Hid (∀ W, Keeps wz W → Calls Try.prog 17 #[.pointer (some ⟨c2, 0, none⟩)] W fun e w' => e = .returned (.int .i64 (i : Int)) ∧ Keeps wz w') := Lib.hid fun W k => by
                rw [← HRL.out]
                refine (HFIN.out.turn.oneB.keeps k).many.mono ?_
                rintro e w' ⟨rfl, k2⟩
                exact ⟨rfl, k.trans k2⟩
              have FIN : Hid (∀ W, Keeps wz W → Keeps w W) := Lib.hid fun W k => HFIN.out.keep.trans k
              clear hf HST hil hi
              go_wp2
              go_loopw [11] (fun v11 W => ∃ q : Nat, q ≤ 5 ∧ v11 = .int .i64 (q : Int) ∧ W = wz) (fun v11 _ => 5 - (intOf v11).toNat)
              case atStart => exact ⟨0, by omega, rfl, rfl⟩
              case round =>
                obtain ⟨q, hq, rfl, rfl⟩ := hrel
                obtain ⟨wy, hwy⟩ : ∃ wy, wy = wr := ⟨_, rfl⟩
                subst hwy
                by_cases hq4 : q < 5
                · have hq5 : (q : Int) < 5 := by omega
                  have HQ := Lib.hid hq4
                  have IQ := Lib.hid (I.out q (by omega))
                  go_wp2
                  go_loopw [12] (fun v12 W => ∃ m : Nat, m ≤ 5 ∧ v12 = .int .i64 (m : Int) ∧ W = wy) (fun v12 _ => 5 - (intOf v12).toNat)
                  case atStart => exact ⟨0, by omega, rfl, rfl⟩
                  case round =>
                    obtain ⟨m, hm, rfl, rfl⟩ := hrel
                    by_cases hm4 : m ≤ 4
                    · have hm5 : (m : Int) ≤ 4 := by omega
                      have HM : Hid (m < 5) := Lib.hid (by omega)
                      have DB2 := Lib.hid (DB.out q m IQ.out (I.out m (by omega)))
                      have DC2 := Lib.hid (DC.out q m IQ.out (I.out m (by omega)))
                      obtain ⟨z, hz⟩ : ∃ z, f (q : Int) (m : Int) = z := ⟨_, rfl⟩
                      rw [hz] at DB2 DC2
                      have t9 : (z != z) = false := by simp
                      clear hz
                      go_wp2_with fail
                      refine DB2.out.mono ?_
                      rintro e w'' ⟨rfl, rfl⟩
                      go_wp2_with fail
                      refine DC2.out.mono ?_
                      rintro e w'' ⟨rfl, rfl⟩
                      go_wp2
                      exact ⟨⟨m + 1, HM.out, by go_num, trivial⟩, by have := HM.out; simp [intOf]; omega⟩
                    · obtain rfl : m = 5 := by omega
                      rw [show ((5 : Nat) : Int) = (5 : Int) from rfl]
                      go_wp2
                      exact ⟨⟨q + 1, HQ.out, by go_num, trivial⟩, by have := HQ.out; simp [intOf]; omega⟩
                · obtain rfl : q = 5 := by omega
                  rw [show ((5 : Nat) : Int) = (5 : Int) from rfl]
                  have t9 : ((i : Int) == (i : Int)) = true := by simp
                  go_wp2_with fail
                  refine (MB.out _ (Keeps.refl _)).mono ?_
                  rintro e w8 ⟨rfl, k8⟩
                  have K8 := Lib.hid k8
                  clear k8
                  go_wp2_with fail
                  refine (MC.out _ K8.out).mono ?_
                  rintro e w9 ⟨rfl, k9⟩
                  have K9 := Lib.hid (FIN.out _ k9)
                  clear k9
                  go_wp2_with fail
                  refine (OUT.out _ K9.out).mono ?_
                  rintro e w10 ⟨rfl, k10⟩
                  have K10 := Lib.hid k10
                  clear k10
                  go_wp2
                  go_ret
                  exact ⟨rfl, K10.out⟩
theorem booksOrder_go (v : Value) (L : List PI) (n : Int) (w : World) (h : PostsAt w v L) (hn : (Lit.int .u8 n).wf = true) :
    Calls Try.prog 6 #[v, .int .u8 n] w fun e w' => e = .returned (.bool true) ∧ Keeps w w' := by
  have hb : 0 ≤ n ∧ n < 256 := by simp [Lit.wf, IntKind.min, IntKind.max, IntKind.signed, IntKind.bits] at hn; omega
  obtain ⟨m, rfl⟩ : ∃ m : Nat, n = (m : Int) := ⟨n.toNat, by omega⟩
  exact booksorder_any v L m (by omega) w h
end Go.Proofs.Ytffipjhpoaalhaa
