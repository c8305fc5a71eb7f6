
/- SettleSpoilt: the spots that came in, opened; the walk. -/
import Derived.Test.YtomonhghioamfaaGreatDoorSeL1
import Derived.Test.YtomonhghioamfaaGreatDoorSeL2
import Derived.Test.YtomonhghioamfaaGreatDoorStRefQ
import Derived.Test.YtomonhghioamfaaGreatDoorStRefP
import Derived.Test.YtomonhghioamfaaGreatDoorOpenSt
import Derived.Test.YtomonhghioamfaaGreatDoorFixedPar
import Derived.Deep.LoopGhost
import Derived.Deep.DeepCutAuto
set_option linter.unusedVariables false
namespace Go.Proofs.YtomonhghioamfaaGreatDoor
open Go.ChangeShapes Go.WideShapes Go.ChangeAt Go.RowKit Csv Go.Deep Ky Rw
section Open
variable {H : Type} {enc : TypeId × Value → H} {w : World} {base : Nat} {held : Bool}

abbrev tSp : TypeId := 33
structure SpM where
  a : Nat
  c : UInt8
/-- A spot that is read. -/
def SpAt (w : World) (a : Addr) (x : SpM) : Prop := w.cell? a = some (.int .u16 (x.a : Int)) ∧ w.cell? ⟨a.block, a.off + 1, none⟩ = some (.int .u8 (x.c.toNat : Int))
theorem SpAt.keeps {w w' : World} {a : Addr} {x : SpM} (h : SpAt w a x) (k : Keeps w w') : SpAt w' a x := ⟨cell_keeps k h.1, cell_keeps k h.2⟩
def SpsIn (w : World) (v : Value) (L : List SpM) : Prop := ∃ p c, v = .slice p L.length c ∧ L.length ≤ maxLen ∧ ∀ j x, L[j]? = some x → x.a < 65536 ∧ ∃ a : Addr, p = some a ∧ SpAt w (a.add (j * 2)) x
theorem SpsIn.keeps {w w' : World} {v : Value} {L : List SpM} (h : SpsIn w v L) (k : Keeps w w') : SpsIn w' v L := by
  obtain ⟨p, c, h1, h2, h3⟩ := h
  refine ⟨p, c, h1, h2, fun j x hx => ?_⟩
  obtain ⟨hb, a, ha, hr⟩ := h3 j x hx
  exact ⟨hb, a, ha, hr.keeps k⟩
theorem sc_sp : Tryz.prog.cellsOf tSp = 2 := by kernel_rfl
theorem sc_u8 : Tryz.prog.cellsOf 5 = 1 := by kernel_rfl
theorem sc_u16 : Tryz.prog.cellsOf 26 = 1 := by kernel_rfl
theorem wf_nat8 {n : Int} (h : (Lit.int .u8 n).wf = true) : ∃ N : UInt8, n = N.toNat := by
  simp only [Lit.wf, IntKind.min, IntKind.max, IntKind.signed, IntKind.bits, Bool.and_eq_true] at h
  refine ⟨UInt8.ofNat n.toNat, ?_⟩
  simp at h
  rw [UInt8.toNat_ofNat']
  omega
theorem wf_nat16 {n : Int} (h : (Lit.int .u16 n).wf = true) : ∃ N : Nat, n = N ∧ N < 65536 := by
  simp only [Lit.wf, IntKind.min, IntKind.max, IntKind.signed, IntKind.bits, Bool.and_eq_true] at h
  refine ⟨n.toNat, ?_, ?_⟩ <;> simp at h <;> omega
theorem sl2 {α : Type} {l : List α} (h : l.length = 2) : ∃ a b, l = [a, b] := by
  match l, h with
  | [a, b], _ => exact ⟨a, b, rfl⟩
theorem sp_of {fuel : Nat} {cs : List Value} {x : DataW H × List MemPlace} (h : DataW.trod enc Tryz.prog w base (fun _ => true) held fuel tSp cs = some x) : ∃ a : SpM, cs = [.int .u16 (a.a : Int), .int .u8 (a.c.toNat : Int)] ∧ a.a < 65536 := by
  obtain ⟨ys, n, _, _, hlen, hyl, hf⟩ := DataW.trod_struct Tryz.underlying33 h
  rw [sc_sp] at hlen
  obtain ⟨c0, c1, rfl⟩ := sl2 hlen
  have hys : ys.length = 2 := hyl
  have g : ∀ i, i < 2 → ∃ y, ys[i]? = some y := fun i hi => ⟨_, List.getElem?_eq_getElem (by omega)⟩
  have f0 : DataW.trod enc Tryz.prog w base (fun _ => true) held n 26 (([c0, c1].drop 0).take (Tryz.prog.cellsOf 26)) = ys[0]? := hf 0 _ rfl
  have f1 : DataW.trod enc Tryz.prog w base (fun _ => true) held n 5 (([c0, c1].drop 1).take (Tryz.prog.cellsOf 5)) = ys[1]? := hf 1 _ rfl
  simp only [sc_u8, sc_u16, List.drop_zero, List.take_succ_cons, List.take_zero, List.drop_succ_cons] at f0 f1
  obtain ⟨y0, e0⟩ := g 0 (by omega)
  obtain ⟨y1, e1⟩ := g 1 (by omega)
  rw [e0] at f0
  rw [e1] at f1
  obtain ⟨k0, q0, _, w0⟩ := DataW.trod_int Tryz.underlying26 f0
  obtain ⟨k1, q1, _, w1⟩ := DataW.trod_int Tryz.underlying5 f1
  obtain rfl := (List.cons.inj q0).1
  obtain rfl := (List.cons.inj q1).1
  obtain ⟨N0, rfl, h0⟩ := wf_nat16 w0
  obtain ⟨N1, rfl⟩ := wf_nat8 w1
  exact ⟨⟨N0, N1⟩, rfl, h0⟩
theorem open_spots_in {p : Option Addr} {n c : Nat} {v : Value} {d : DataW H} {ps : List MemPlace} (e : v = .slice p n c) (h : DataW.Trod enc Tryz.prog w base (fun _ => true) held 25 v d ps) : ∃ L : List SpM, SpsIn w v L := by
  obtain ⟨fuel, h⟩ := h
  subst e
  rcases open_slice Tryz.underlying25 h with ⟨hcs, _⟩ | ⟨a, len, cap, m, n', D, Pl, hcs, _, hl, hm, hz, _, hi⟩
  · rw [(List.cons.inj hcs).1]
    exact ⟨[], none, 0, rfl, by simp [maxLen], fun j x hx => by simp at hx⟩
  · rw [(List.cons.inj hcs).1]
    simp only [if_true] at hz
    have key : ∀ i, i < len → ∃ x : SpM, x.a < 65536 ∧ SpAt w (a.add (i * 2)) x := by
      intro i hil
      obtain ⟨cs', h1, h2⟩ := hi i (by omega)
      rw [sc_sp] at h1
      obtain ⟨x, rfl, hb⟩ := sp_of h2
      obtain ⟨_, _, hat⟩ := World.cells?_some h1
      have far : ∀ k, 0 < k → (a.add (i * 2)).add k = ⟨(a.add (i * 2)).block, (a.add (i * 2)).off + k, none⟩ := fun k hk => by
        unfold Addr.add
        rw [if_neg (by omega : ¬ k = 0)]
      refine ⟨x, hb, ?_, ?_⟩
      · have h0 := hat 0 (by decide)
        have e : (a.add (i * 2)).add 0 = a.add (i * 2) := rfl
        rw [e] at h0
        exact h0
      · have h0 := hat 1 (by decide)
        rw [far 1 (by omega)] at h0
        exact h0
    have hall : ∃ L : List SpM, L.length = len ∧ ∀ j x, L[j]? = some x → x.a < 65536 ∧ SpAt w (a.add (j * 2)) x := by
      refine ⟨(List.range len).map fun i => if hi : i < len then (key i hi).choose else ⟨0, 0⟩, by simp, fun j x hx => ?_⟩
      rw [List.getElem?_map] at hx
      have hj : j < len := by
        rcases Nat.lt_or_ge j len with h | h
        · exact h
        · rw [List.getElem?_eq_none (by simpa using h)] at hx
          cases hx
      rw [List.getElem?_range hj] at hx
      simp only [Option.map_some, hj, dif_pos, Option.some.injEq] at hx
      rw [← hx]
      exact (key j hj).choose_spec
    obtain ⟨L, hL, hR⟩ := hall
    exact ⟨L, some a, cap, by rw [hL], by omega, fun j x hx => ⟨(hR j x hx).1, a, rfl, (hR j x hx).2⟩⟩
end Open
end Go.Proofs.YtomonhghioamfaaGreatDoor
namespace Go.Proofs.YtomonhghioamfaaGreatDoor
open Go.ChangeShapes Go.WideShapes Go.ChangeAt Go.RowKit Ky Rw Stl

theorem rl_no' (S : ByteArray) (a b : Nat) (c : Int) (w : World) (hs : S.size ≤ maxLen) (h : parseM S.data.toList = .error (a, b, c)) :
    Calls Tryz.prog 8 #[.string S] w fun e w' => e = .returned (.tuple #[stV 0 0 (.slice none 0 0), .agg #[.int .i64 (a : Int), .int .i64 (b : Int), .int .i64 c]]) ∧ Keeps w w' := by
  refine (sr_parse S w hs).mono fun e w' ho => ?_
  rcases ho with ⟨s, L, v, h1, _⟩ | ⟨a', b', c', h1, h2, k⟩
  · rw [h] at h1; cases h1
  · rw [h] at h1
    cases h1
    exact ⟨h2, k⟩
theorem rl_yes' (S : ByteArray) (s : Int) (L : List R) (w : World) (hs : S.size ≤ maxLen) (h : parseM S.data.toList = .ok (s, L)) :
    Calls Tryz.prog 8 #[.string S] w fun e w' => ∃ v, e = .returned (.tuple #[stV 0 s v, .agg #[.int .i64 0, .int .i64 0, .int .i64 0]]) ∧ RowsIn w' v L ∧ Keeps w w' := by
  refine (sr_parse S w hs).mono fun e w' ho => ?_
  rcases ho with ⟨s', L', v, h1, h2, h3, k⟩ | ⟨a', b', c', h1, _⟩
  · rw [h] at h1
    cases h1
    exact ⟨v, h2, h3, k⟩
  · rw [h] at h1; cases h1
theorem z_small {t N : Nat} (h : t = 44 + 29 * N) (hb : N ≤ 60) : 0 < t ∧ t ≤ 2000 := by omega
theorem ex_front (T : ByteArray) (b : Nat) (h : T.size ≤ 2000) : (T.extract 0 b).size ≤ maxLen := by
  have q : (T.extract 0 b).data.toList = (T.data.toList.drop 0).take (b - 0) := by rw [← extract_list, ByteArray.toList_eq]
  have := congrArg List.length q
  rw [len_data, List.length_take, List.length_drop, len_data] at this
  unfold maxLen; omega
set_option maxHeartbeats 16000000 in
set_option maxRecDepth 100000 in
theorem settleSpoilt_go (p s : Int) (v : Value) (L : List R) (vl : Value) (CL : List SpM) (cut : Nat) (w : World) (hp : HasP w) (hl : RowsIn w v L) (hcl : SpsIn w vl CL) (hcu : cut < 65536) :
    Calls Tryz.prog 3 #[stV p s v, vl, .int .u16 (cut : Int)] w fun e w' => e = .returned (.bool true) ∧ Keeps w w' := by
  have HCU := Lib.hid hcu
  have I1 := Lib.hid hl
  obtain ⟨q, c, rfl, hmx, -, -⟩ := hl
  have F1 : Hid (∀ W, Keeps w W → SpsIn W vl CL) := Lib.hid fun W k => hcl.keeps k
  obtain ⟨pb, cb, rfl, hmb, -⟩ := hcl
  obtain ⟨N, hN⟩ : ∃ N, L.length = N := ⟨_, rfl⟩
  have HN := Lib.hid hN
  obtain ⟨NB, hNB⟩ : ∃ N, CL.length = N := ⟨_, rfl⟩
  have HNB := Lib.hid hNB
  rw [hN] at hmx I1 ⊢
  rw [hNB] at hmb F1 ⊢
  clear hN hNB hcu
  have KB := Lib.hid (ky_box w (stBox p s (.slice q N c)))
  have SB := Lib.hid (st_box w p s (.slice q N c))
  have IB := Lib.hid (I1.out.keeps KB.out)
  have HP : Hid (∀ W, Keeps w W → HasP W) := Lib.hid fun W k => hp.keeps k
  have HS : Hid (∀ W, Keeps w W → Calls Tryz.prog 5 #[] W fun e w' => e = .returned (.bool true) ∧ Keeps W w') := Lib.hid fun W k => sl_settled W (hp.keeps k)
  unfold maxLen at hmx hmb
  unfold stV
  unfold stBox at KB SB IB
  clear hp
  obtain ⟨w1, hw1⟩ : ∃ W, w.alloc (.cells #[.int .i64 p, .int .i64 s, .slice q N c] tSt) = W := ⟨_, rfl⟩
  rw [hw1] at KB SB IB
  obtain ⟨x0, x1, x2⟩ := (three_atG (SB.out _ (Keeps.refl _))).1
  go_enter Tryz.func3, Tryz.ntmps3
  by_cases hbig : N ≤ 60
  rotate_left
  · go_wp2_with fail
    refine (HS.out _ KB.out).mono ?_
    rintro e w2 ⟨rfl, k2⟩
    go_wp2
    go_ret
    exact ⟨rfl, KB.out.trans k2⟩
  by_cases hbb : NB ≤ 5
  rotate_left
  · go_wp2_with fail
    refine (HS.out _ KB.out).mono ?_
    rintro e w2 ⟨rfl, k2⟩
    go_wp2
    go_ret
    exact ⟨rfl, KB.out.trans k2⟩
  have HBIG := Lib.hid hbig
  have HBB := Lib.hid hbb
  have C1 := Lib.hid (sr_print p s _ L w1 IB.out)
  by_cases hv : p = 0 ∧ validB p s L = true
  rotate_left
  · have PT : Hid (prtS p s L = ⟨#[]⟩ ∧ prtC p s L = 2) := Lib.hid (by unfold prtS Stl.prt prtC; rw [if_neg hv, if_neg hv]; exact ⟨rfl, rfl⟩)
    rw [PT.out.1, PT.out.2] at C1
    unfold stV at C1
    go_wp2_with fail
    refine C1.out.mono ?_
    rintro e w2 ⟨rfl, k2⟩
    have K2 := Lib.hid (KB.out.trans k2)
    clear k2 C1 x0 x1 x2
    go_wp2_with fail
    refine (HS.out _ K2.out).mono ?_
    rintro e w4 ⟨rfl, k4⟩
    go_wp2
    go_ret
    exact ⟨rfl, Keeps.trans K2.out k4⟩
  obtain ⟨rfl, hvb⟩ := hv
  have VA := Lib.hid (valid_iff.1 hvb)
  obtain ⟨T, hT⟩ : ∃ T, prtS 0 s L = T := ⟨_, rfl⟩
  have HTL : Hid (T.data.toList = fileL s L) := Lib.hid (by
    have hv : (0 : Int) = 0 ∧ validB 0 s L = true := ⟨rfl, hvb⟩
    rw [← hT]
    unfold prtS Stl.prt
    rw [if_pos hv, data_mk])
  have PC : prtC 0 s L = 0 := by unfold prtC; rw [if_pos ⟨rfl, hvb⟩]
  rw [hT, PC] at C1
  have ZT : Hid (0 < T.size ∧ T.size ≤ 2000) := Lib.hid (z_small (by rw [← len_data, HTL.out, file_len VA.out, HN.out]) hbig)
  unfold stV at C1
  clear hT PC hvb
  go_wp2_with fail
  refine C1.out.mono ?_
  rintro e w2 ⟨rfl, k2⟩
  have K2 := Lib.hid (KB.out.trans k2)
  clear k2 C1 x0 x1 x2
  obtain ⟨cap, w3, hr, hcap, hk3, hl3, hlt3⟩ := bytes_lie w2 T
  have K3 := Lib.hid hk3
  have L3 := Lib.hid hl3
  have HCAP := Lib.hid hcap
  clear hk3 hl3 hcap hlt3
  go_upto_region 7 with (fail)
  clear hr
  obtain ⟨gB, hgB⟩ : ∃ g, w2.heap.size = g := ⟨_, rfl⟩
  rw [hgB] at L3 ⊢
  have HGB := Lib.hid hgB
  clear hgB
  obtain ⟨t, ht⟩ : ∃ t, T.size = t := ⟨_, rfl⟩
  have HT := Lib.hid ht
  rw [ht] at ZT HCAP ⊢
  clear ht
  go_wp2_with fail
  go_loopg [10] NB (fun g v10 W => ∃ (i : Nat) (l : List UInt8), i + g = NB ∧ v10 = .int .i64 (i : Int) ∧ Lies W gB l ∧ l.length = t ∧ Keeps w2 W)
  case atStart => exact ⟨0, T.data.toList, by omega, rfl, L3.out, by rw [len_data]; exact HT.out, K3.out⟩
  case round =>
    obtain ⟨i, l, hi, rfl, hli, hll, kw⟩ := hrel
    have HI := Lib.hid hi
    have LI := Lib.hid hli
    have HLL := Lib.hid hll
    have KW2 := Lib.hid kw
    have KW := Lib.hid (K2.out.trans kw)
    clear hli hll kw hi
    cases gk with
    | succ g =>
      have hlt : i < NB := by have := HI.out; as_aux_lemma => (omega)
      obtain ⟨x, hx⟩ : ∃ x, CL[i]? = some x := ⟨_, List.getElem?_eq_getElem (by rw [HNB.out]; exact hlt)⟩
      obtain ⟨pf, cf, ef, -, hcf⟩ := F1.out wr KW.out
      rw [HNB.out] at ef
      simp only [Value.slice.injEq] at ef
      obtain ⟨rfl, -, rfl⟩ := ef
      obtain ⟨hr1, af, rfl, d0, d1⟩ := hcf i x hx
      obtain ⟨xa, xc⟩ := x
      simp only at hr1 d0 d1
      have hi1 : (i : Int) < (NB : Int) := by as_aux_lemma => (omega)
      have hi0 : (0 : Int) ≤ (i : Int) := by as_aux_lemma => (omega)
      have ht0 : 0 < t := ZT.out.1
      obtain ⟨k, hk⟩ : ∃ k, xa % t = k := ⟨_, rfl⟩
      have hkM : k < t := by rw [← hk]; exact Nat.mod_lt _ ht0
      have hk2 : (xa : Int) % (t : Int) = (k : Int) := by rw [← hk]; first | exact (Int.natCast_emod _ _).symm | exact (Int.ofNat_emod _ _).symm
      have hlk : k < l.length := by rw [HLL.out]; exact hkM
      obtain ⟨ch, hch⟩ : ∃ c, l[k] = c := ⟨_, rfl⟩
      have hcell : wr.cell? ⟨gB, k, none⟩ = some (.int .u8 (ch.toNat : Int)) := by rw [LI.out.at k hlk, hch]
      have hfz := LI.out.loose k hlk
      have HLK := Lib.hid hlk
      have htb : t ≤ 2000 := ZT.out.2
      have hki : (k : Int) < (t : Int) := by as_aux_lemma => (omega)
      have hk0 : (0 : Int) ≤ (k : Int) := by as_aux_lemma => (omega)
      clear hx hcf hlt hk hch hlk
      go_upto_region 10 with (fail)
      go_region
      go_wp2
      go_roundg g
      case measure => omega
      case rel =>
        have e1 := LI.out.set k HLK.out (xc.toNat : Int) xc rfl
        have e2 : (l.set k xc).length = t := by rw [List.length_set]; exact HLL.out
        have e3 := KW2.out.setCell (p := ⟨gB, k, none⟩) (HGB.out ▸ Nat.le_refl _) (.int .u8 (xc.toNat : Int))
        exact ⟨i + 1, l.set k xc, by have := HI.out; as_aux_lemma => (omega), by first | rfl | go_num, by first | exact e1 | exact e1.drew, e2, by first | exact e3 | exact e3.drew⟩
    | zero =>
      obtain rfl : i = NB := by have := HI.out; as_aux_lemma => (omega)
      have hd : decide ((i : Int) < (i : Int)) = false := decide_eq_false (by as_aux_lemma => (omega))
      have hzz : ¬ ((i : Int) < (i : Int)) := by as_aux_lemma => (omega)
      have hcv := LI.out.text (P := Tryz.prog) 31 5 9 Tryz.underlying31 Tryz.underlying5 Tryz.underlying9 t cap HLL.out
      obtain ⟨X, hX⟩ : ∃ X : ByteArray, ⟨l.toArray⟩ = X := ⟨_, rfl⟩
      have HXS : Hid (X.size = t) := Lib.hid (by rw [← hX, size_mk]; exact HLL.out)
      rw [hX] at hcv
      clear hX
      by_cases hc0 : cut = 0
      · subst hc0
        have HZ : Hid (X.size ≤ maxLen) := Lib.hid (by rw [HXS.out]; exact Nat.le_trans ZT.out.2 (by unfold maxLen; decide))
        obtain ⟨Z, hZZ⟩ : ∃ Z, X = Z := ⟨_, rfl⟩
        subst hZZ
        obtain ⟨Z, hZZ⟩ : ∃ Z, Z = X := ⟨_, rfl⟩
        rw [← hZZ] at HZ hcv
        clear hZZ HXS
        cases hP : parseM Z.data.toList with
        | ok r =>
          obtain ⟨q, L⟩ := r
          have C1 := Lib.hid (sl_yes Z q L wr (HP.out _ KW.out) HZ.out hP)
          have C2 : Hid (∀ W, Calls Tryz.prog 8 #[.string Z] W fun e w' => ∃ v, e = .returned (.tuple #[stV 0 q v, .agg #[.int .i64 0, .int .i64 0, .int .i64 0]]) ∧ RowsIn w' v L ∧ Keeps W w') := Lib.hid fun W => rl_yes' Z q L W HZ.out hP
          unfold stV at C1 C2
          obtain ⟨N, hN⟩ : ∃ N, L.length = N := ⟨_, rfl⟩
          have HN := Lib.hid hN
          clear hP hN
          go_wp2_with fail
          refine C1.out.mono ?_
          rintro e w1 ⟨v1, rfl, i1, k1⟩
          have I1 : Hid (∀ W, Keeps w1 W → RowsIn W v1 L) := Lib.hid fun W k => i1.keeps k
          obtain ⟨p1, c1, e1, -⟩ := i1
          rw [HN.out] at e1
          subst e1
          have K1 := Lib.hid k1
          clear k1 C1
          go_upto_region 15 with (fail)
          have T1 := Lib.hid (two_rj w1 (.int .i64 0) (.int .i64 q) (.slice p1 N c1) (.int .i64 0) (.int .i64 0) (.int .i64 0))
          obtain ⟨U1, hU⟩ : ∃ U, (w1.alloc (.cells #[.int .i64 0, .int .i64 q, .slice p1 N c1] tSt)).alloc (.cells #[.int .i64 0, .int .i64 0, .int .i64 0] tRj) = U := ⟨_, rfl⟩
          rw [hU] at T1 ⊢
          clear hU
          go_wp2_with fail
          refine (C2.out _).mono ?_
          rintro e w2 ⟨v2, rfl, i2, k2⟩
          have I2 : Hid (∀ W, Keeps w2 W → RowsIn W v2 L) := Lib.hid fun W k => i2.keeps k
          obtain ⟨p2, c2, e2, -⟩ := i2
          rw [HN.out] at e2
          subst e2
          have K2 := Lib.hid k2
          clear k2 C2
          go_upto_region 16 with (fail)
          have T2 := Lib.hid (two_rj w2 (.int .i64 0) (.int .i64 q) (.slice p2 N c2) (.int .i64 0) (.int .i64 0) (.int .i64 0))
          obtain ⟨U2, hU⟩ : ∃ U, (w2.alloc (.cells #[.int .i64 0, .int .i64 q, .slice p2 N c2] tSt)).alloc (.cells #[.int .i64 0, .int .i64 0, .int .i64 0] tRj) = U := ⟨_, rfl⟩
          rw [hU] at T2 ⊢
          clear hU
          obtain ⟨⟨⟨b0, b1, b2⟩, y0, y1, y2⟩, ku2⟩ := T2.out U2 (Keeps.refl _)
          obtain ⟨⟨⟨a0, a1, a2⟩, x0, x1, x2⟩, ku1⟩ := T1.out U2 (Keeps.trans K2.out ku2)
          have CM : Hid (Calls Tryz.prog 9 #[stV 0 q (.slice p1 N c1), stV 0 q (.slice p2 N c2)] U2 fun e w' => e = .returned (.bool true) ∧ Keeps U2 w') := Lib.hid (by
            have := rr_same 0 q 0 q (.slice p1 N c1) (.slice p2 N c2) L L U2 (I1.out U2 ku1) (I2.out U2 ku2)
            rwa [same_self] at this)
          unfold stV at CM
          have KU2 := Lib.hid ku2
          clear ku1 ku2
          go_wp2_with fail
          refine CM.out.mono ?_
          rintro e w3 ⟨rfl, k3⟩
          have K3 := Lib.hid k3
          clear k3 CM a0 a1 a2 b0 b1 b2 x0 x1 x2 y0 y1 y2
          obtain ⟨⟨_, y0, y1, y2⟩, ku2⟩ := T2.out w3 K3.out
          obtain ⟨⟨_, x0, x1, x2⟩, ku1⟩ := T1.out w3 (Keeps.trans K2.out ku2)
          have K4 := Lib.hid (Keeps.trans KW.out (Keeps.trans K1.out ku1))
          clear ku1 ku2
          go_wp2_with fail
          refine (HS.out _ K4.out).mono ?_
          rintro e w5 ⟨rfl, k5⟩
          go_wp2
          go_ret
          exact ⟨rfl, Keeps.trans K4.out k5⟩
        | error r =>
          obtain ⟨a, b, c⟩ := r
          have C1 := Lib.hid (sl_no Z a b c wr (HP.out _ KW.out) HZ.out hP)
          have C2 : Hid (∀ W, Calls Tryz.prog 8 #[.string Z] W fun e w' => e = .returned (.tuple #[stV 0 0 (.slice none 0 0), .agg #[.int .i64 (a : Int), .int .i64 (b : Int), .int .i64 c]]) ∧ Keeps W w') := Lib.hid fun W => rl_no' Z a b c W HZ.out hP
          have CM : Hid (∀ W, Calls Tryz.prog 9 #[stV 0 0 (.slice none 0 0), stV 0 0 (.slice none 0 0)] W fun e w' => e = .returned (.bool true) ∧ Keeps W w') := Lib.hid fun W => same_zero ▸ rr_same 0 0 0 0 _ _ [] [] W (rows_nil W) (rows_nil W)
          unfold stV at C1 C2 CM
          clear hP
          go_wp2_with fail
          refine C1.out.mono ?_
          rintro e w1 ⟨rfl, k1⟩
          have K1 := Lib.hid k1
          clear k1 C1
          go_upto_region 15 with (fail)
          have T1 := Lib.hid (two_rj w1 (.int .i64 0) (.int .i64 0) (.slice none 0 0) (.int .i64 (a : Int)) (.int .i64 (b : Int)) (.int .i64 c))
          obtain ⟨U1, hU⟩ : ∃ U, (w1.alloc (.cells #[.int .i64 0, .int .i64 0, .slice none 0 0] tSt)).alloc (.cells #[.int .i64 (a : Int), .int .i64 (b : Int), .int .i64 c] tRj) = U := ⟨_, rfl⟩
          rw [hU] at T1 ⊢
          clear hU
          go_wp2_with fail
          refine (C2.out _).mono ?_
          rintro e w2 ⟨rfl, k2⟩
          have K2 := Lib.hid k2
          clear k2 C2
          go_upto_region 16 with (fail)
          have T2 := Lib.hid (two_rj w2 (.int .i64 0) (.int .i64 0) (.slice none 0 0) (.int .i64 (a : Int)) (.int .i64 (b : Int)) (.int .i64 c))
          obtain ⟨U2, hU⟩ : ∃ U, (w2.alloc (.cells #[.int .i64 0, .int .i64 0, .slice none 0 0] tSt)).alloc (.cells #[.int .i64 (a : Int), .int .i64 (b : Int), .int .i64 c] tRj) = U := ⟨_, rfl⟩
          rw [hU] at T2 ⊢
          clear hU
          obtain ⟨⟨⟨b0, b1, b2⟩, y0, y1, y2⟩, ku2⟩ := T2.out U2 (Keeps.refl _)
          obtain ⟨⟨⟨a0, a1, a2⟩, x0, x1, x2⟩, ku1⟩ := T1.out U2 (Keeps.trans K2.out ku2)
          clear ku1 ku2
          go_wp2_with fail
          refine (CM.out _).mono ?_
          rintro e w3 ⟨rfl, k3⟩
          have K3 := Lib.hid k3
          clear k3 CM a0 a1 a2 b0 b1 b2 x0 x1 x2 y0 y1 y2
          obtain ⟨⟨_, y0, y1, y2⟩, ku2⟩ := T2.out w3 K3.out
          obtain ⟨⟨_, x0, x1, x2⟩, ku1⟩ := T1.out w3 (Keeps.trans K2.out ku2)
          have K4 := Lib.hid (Keeps.trans KW.out (Keeps.trans K1.out ku1))
          clear ku1 ku2
          go_wp2_with fail
          refine (HS.out _ K4.out).mono ?_
          rintro e w5 ⟨rfl, k5⟩
          go_wp2
          go_ret
          exact ⟨rfl, Keeps.trans K4.out k5⟩
      · obtain ⟨k, hk⟩ : ∃ k, cut % (t + 1) = k := ⟨_, rfl⟩
        have hkM : k ≤ t := by rw [← hk]; exact Nat.le_of_lt_succ (Nat.mod_lt _ (Nat.succ_pos _))
        have hk2 : (cut : Int) % ((t : Int) + 1) = (k : Int) := by rw [← hk]; first | exact (Int.natCast_emod _ _).symm | exact (Int.ofNat_emod _ _).symm
        have hc1 : (0 : Int) < (cut : Int) := Int.natCast_pos.2 (Nat.pos_of_ne_zero hc0)
        have hcb := HCU.out
        have htb : t ≤ 2000 := ZT.out.2
        have hxs := HXS.out
        obtain ⟨Z, hZ⟩ : ∃ Z, X.extract 0 k = Z := ⟨_, rfl⟩
        have HZ : Hid (Z.size ≤ maxLen) := Lib.hid (by rw [← hZ]; exact ex_front X k (by rw [HXS.out]; exact htb))
        clear hk hc0
        go_upto_region 14 with (fail)
        clear hZ hcv hk2 hkM hxs
        cases hP : parseM Z.data.toList with
        | ok r =>
          obtain ⟨q, L⟩ := r
          have C1 := Lib.hid (sl_yes Z q L wr (HP.out _ KW.out) HZ.out hP)
          have C2 : Hid (∀ W, Calls Tryz.prog 8 #[.string Z] W fun e w' => ∃ v, e = .returned (.tuple #[stV 0 q v, .agg #[.int .i64 0, .int .i64 0, .int .i64 0]]) ∧ RowsIn w' v L ∧ Keeps W w') := Lib.hid fun W => rl_yes' Z q L W HZ.out hP
          unfold stV at C1 C2
          obtain ⟨N, hN⟩ : ∃ N, L.length = N := ⟨_, rfl⟩
          have HN := Lib.hid hN
          clear hP hN
          go_wp2_with fail
          refine C1.out.mono ?_
          rintro e w1 ⟨v1, rfl, i1, k1⟩
          have I1 : Hid (∀ W, Keeps w1 W → RowsIn W v1 L) := Lib.hid fun W k => i1.keeps k
          obtain ⟨p1, c1, e1, -⟩ := i1
          rw [HN.out] at e1
          subst e1
          have K1 := Lib.hid k1
          clear k1 C1
          go_upto_region 15 with (fail)
          have T1 := Lib.hid (two_rj w1 (.int .i64 0) (.int .i64 q) (.slice p1 N c1) (.int .i64 0) (.int .i64 0) (.int .i64 0))
          obtain ⟨U1, hU⟩ : ∃ U, (w1.alloc (.cells #[.int .i64 0, .int .i64 q, .slice p1 N c1] tSt)).alloc (.cells #[.int .i64 0, .int .i64 0, .int .i64 0] tRj) = U := ⟨_, rfl⟩
          rw [hU] at T1 ⊢
          clear hU
          go_wp2_with fail
          refine (C2.out _).mono ?_
          rintro e w2 ⟨v2, rfl, i2, k2⟩
          have I2 : Hid (∀ W, Keeps w2 W → RowsIn W v2 L) := Lib.hid fun W k => i2.keeps k
          obtain ⟨p2, c2, e2, -⟩ := i2
          rw [HN.out] at e2
          subst e2
          have K2 := Lib.hid k2
          clear k2 C2
          go_upto_region 16 with (fail)
          have T2 := Lib.hid (two_rj w2 (.int .i64 0) (.int .i64 q) (.slice p2 N c2) (.int .i64 0) (.int .i64 0) (.int .i64 0))
          obtain ⟨U2, hU⟩ : ∃ U, (w2.alloc (.cells #[.int .i64 0, .int .i64 q, .slice p2 N c2] tSt)).alloc (.cells #[.int .i64 0, .int .i64 0, .int .i64 0] tRj) = U := ⟨_, rfl⟩
          rw [hU] at T2 ⊢
          clear hU
          obtain ⟨⟨⟨b0, b1, b2⟩, y0, y1, y2⟩, ku2⟩ := T2.out U2 (Keeps.refl _)
          obtain ⟨⟨⟨a0, a1, a2⟩, x0, x1, x2⟩, ku1⟩ := T1.out U2 (Keeps.trans K2.out ku2)
          have CM : Hid (Calls Tryz.prog 9 #[stV 0 q (.slice p1 N c1), stV 0 q (.slice p2 N c2)] U2 fun e w' => e = .returned (.bool true) ∧ Keeps U2 w') := Lib.hid (by
            have := rr_same 0 q 0 q (.slice p1 N c1) (.slice p2 N c2) L L U2 (I1.out U2 ku1) (I2.out U2 ku2)
            rwa [same_self] at this)
          unfold stV at CM
          have KU2 := Lib.hid ku2
          clear ku1 ku2
          go_wp2_with fail
          refine CM.out.mono ?_
          rintro e w3 ⟨rfl, k3⟩
          have K3 := Lib.hid k3
          clear k3 CM a0 a1 a2 b0 b1 b2 x0 x1 x2 y0 y1 y2
          obtain ⟨⟨_, y0, y1, y2⟩, ku2⟩ := T2.out w3 K3.out
          obtain ⟨⟨_, x0, x1, x2⟩, ku1⟩ := T1.out w3 (Keeps.trans K2.out ku2)
          have K4 := Lib.hid (Keeps.trans KW.out (Keeps.trans K1.out ku1))
          clear ku1 ku2
          go_wp2_with fail
          refine (HS.out _ K4.out).mono ?_
          rintro e w5 ⟨rfl, k5⟩
          go_wp2
          go_ret
          exact ⟨rfl, Keeps.trans K4.out k5⟩
        | error r =>
          obtain ⟨a, b, c⟩ := r
          have C1 := Lib.hid (sl_no Z a b c wr (HP.out _ KW.out) HZ.out hP)
          have C2 : Hid (∀ W, Calls Tryz.prog 8 #[.string Z] W fun e w' => e = .returned (.tuple #[stV 0 0 (.slice none 0 0), .agg #[.int .i64 (a : Int), .int .i64 (b : Int), .int .i64 c]]) ∧ Keeps W w') := Lib.hid fun W => rl_no' Z a b c W HZ.out hP
          have CM : Hid (∀ W, Calls Tryz.prog 9 #[stV 0 0 (.slice none 0 0), stV 0 0 (.slice none 0 0)] W fun e w' => e = .returned (.bool true) ∧ Keeps W w') := Lib.hid fun W => same_zero ▸ rr_same 0 0 0 0 _ _ [] [] W (rows_nil W) (rows_nil W)
          unfold stV at C1 C2 CM
          clear hP
          go_wp2_with fail
          refine C1.out.mono ?_
          rintro e w1 ⟨rfl, k1⟩
          have K1 := Lib.hid k1
          clear k1 C1
          go_upto_region 15 with (fail)
          have T1 := Lib.hid (two_rj w1 (.int .i64 0) (.int .i64 0) (.slice none 0 0) (.int .i64 (a : Int)) (.int .i64 (b : Int)) (.int .i64 c))
          obtain ⟨U1, hU⟩ : ∃ U, (w1.alloc (.cells #[.int .i64 0, .int .i64 0, .slice none 0 0] tSt)).alloc (.cells #[.int .i64 (a : Int), .int .i64 (b : Int), .int .i64 c] tRj) = U := ⟨_, rfl⟩
          rw [hU] at T1 ⊢
          clear hU
          go_wp2_with fail
          refine (C2.out _).mono ?_
          rintro e w2 ⟨rfl, k2⟩
          have K2 := Lib.hid k2
          clear k2 C2
          go_upto_region 16 with (fail)
          have T2 := Lib.hid (two_rj w2 (.int .i64 0) (.int .i64 0) (.slice none 0 0) (.int .i64 (a : Int)) (.int .i64 (b : Int)) (.int .i64 c))
          obtain ⟨U2, hU⟩ : ∃ U, (w2.alloc (.cells #[.int .i64 0, .int .i64 0, .slice none 0 0] tSt)).alloc (.cells #[.int .i64 (a : Int), .int .i64 (b : Int), .int .i64 c] tRj) = U := ⟨_, rfl⟩
          rw [hU] at T2 ⊢
          clear hU
          obtain ⟨⟨⟨b0, b1, b2⟩, y0, y1, y2⟩, ku2⟩ := T2.out U2 (Keeps.refl _)
          obtain ⟨⟨⟨a0, a1, a2⟩, x0, x1, x2⟩, ku1⟩ := T1.out U2 (Keeps.trans K2.out ku2)
          clear ku1 ku2
          go_wp2_with fail
          refine (CM.out _).mono ?_
          rintro e w3 ⟨rfl, k3⟩
          have K3 := Lib.hid k3
          clear k3 CM a0 a1 a2 b0 b1 b2 x0 x1 x2 y0 y1 y2
          obtain ⟨⟨_, y0, y1, y2⟩, ku2⟩ := T2.out w3 K3.out
          obtain ⟨⟨_, x0, x1, x2⟩, ku1⟩ := T1.out w3 (Keeps.trans K2.out ku2)
          have K4 := Lib.hid (Keeps.trans KW.out (Keeps.trans K1.out ku1))
          clear ku1 ku2
          go_wp2_with fail
          refine (HS.out _ K4.out).mono ?_
          rintro e w5 ⟨rfl, k5⟩
          go_wp2
          go_ret
          exact ⟨rfl, Keeps.trans K4.out k5⟩
theorem settleSpoilt_go' (p s : Int) (v : Value) (L : List R) (vl : Value) (CL : List SpM) (n : Int) (w : World) (hp : HasP w) (hl : RowsIn w v L) (hcl : SpsIn w vl CL) (hn : (Lit.int .u16 n).wf = true) :
    Calls Tryz.prog 3 #[stV p s v, vl, .int .u16 n] w fun e w' => e = .returned (.bool true) ∧ Keeps w w' := by
  obtain ⟨C, rfl, hC⟩ := wf_nat16 hn
  exact settleSpoilt_go p s v L vl CL C w hp hl hcl hC
end Go.Proofs.YtomonhghioamfaaGreatDoor
