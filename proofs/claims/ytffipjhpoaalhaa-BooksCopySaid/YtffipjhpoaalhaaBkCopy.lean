/- BooksCopy: a copy goes on by itself. -/
import Derived.Test.YtffipjhpoaalhaaBkOne
import Derived.Test.YtffipjhpoaalhaaBkNone
import Derived.LoopN
import Derived.WalkKit
import Derived.Deep.Cut
import Derived.Deep.RegionHeld3
import Derived.Deep.RegionWith
import Derived.Deep.QuietTactic
import Derived.BigQuiet
set_option linter.unusedVariables false
set_option linter.unusedSimpArgs false
namespace Go.Proofs.Ytffipjhpoaalhaa
open Go.ChangeShapes Go.WideShapes Go.ChangeAt Go.RowKit Csv Bk Mon

theorem i64_in {n : Int} (h : in64 n = true) : wrap64 n = n ∧ IntKind.i64.wrap n = n := by
  have h1 := in64_iff.1 h
  refine ⟨?_, ?_⟩
  · unfold wrap64; omega
  · rw [IntKind.wrap_i64]; omega
theorem i64_near {n : Int} {j : Nat} (h : n = (j : Int) + 1) (hj : j ≤ 100000) : wrap64 n = n ∧ IntKind.i64.wrap n = n := by
  subst h
  refine ⟨?_, ?_⟩
  · unfold wrap64; omega
  · rw [IntKind.wrap_i64]; omega
/-- In a region that draws: an operation that is not wanted comes up first. -/
theorem skipH {P : Program} {md : Region.Mode} {ops : Array Oper} {Q : Exit → Act → World → Prop} {S : World → Prop} {i : Nat} {oi : Oper} {d : Option Tmp} {fuel : Nat} {listed : Array Bool} {a : Act} {w : World} (hi : ops[i]? = some oi) (hd : oi.dst = d)
    (hs : Region.noSelect ops = true) (hf : Region.free md ops listed i = true) (hr : (Region.ready md ops listed).contains i = true)
    (hQ : ∀ c a w, Q (.panic c) (a.put oi.dst undef) w → Q (.panic c) a w) (hw : Region.wanted oi (yielded ops a.tmps) = false) (hS : S w)
    (h : wpAnyH P md ops Q S fuel (listed.setIfInBounds i true) (a.put d undef) w) : wpAnyH P md ops Q S (fuel + 1) listed a w :=
  wpAnyH_take hi hs hf hr hQ (Or.inr ⟨hw, rfl⟩) hS (by rw [hd]; exact h)
/-- One that is wanted, and yields in every world that is meant. -/
theorem takeH {P : Program} {md : Region.Mode} {ops : Array Oper} {Q : Exit → Act → World → Prop} {S : World → Prop} {i : Nat} {oi : Oper} {d : Option Tmp} {v : Value} {fuel : Nat} {listed : Array Bool} {a : Act} {w : World} (hi : ops[i]? = some oi) (hd : oi.dst = d)
    (hs : Region.noSelect ops = true) (hf : Region.free md ops listed i = true) (hr : (Region.ready md ops listed).contains i = true)
    (hQ : ∀ c a w, Q (.panic c) (a.put oi.dst v) w → Q (.panic c) a w) (hy : YieldsIf P ops S oi v a) (hS : S w)
    (h : wpAnyH P md ops Q S fuel (listed.setIfInBounds i true) (a.put d v) w) : wpAnyH P md ops Q S (fuel + 1) listed a w :=
  wpAnyH_take hi hs hf hr hQ hy hS (by rw [hd]; exact h)
/-- The books, their copy, what was told of them, and the posting's box. -/
def CpSt (w : World) (b c : Nat) (M N : List PI) (vl : Value) (q : PI) (W : World) : Prop := ∃ F G, PBk W F b M ∧ PBk W G c N ∧ (∀ i, F i → ¬ G i) ∧ (∀ i, F i → w.heap.size < i) ∧ (∀ i, G i → w.heap.size < i) ∧ Keeps w W ∧
  postK.Own 0 W vl M ∧ (∀ g, vl.ownBlock = some g → ¬ F g ∧ ¬ G g ∧ w.heap.size < g) ∧ W.heap[w.heap.size]? = some (.cells q.vals.toArray tPo (0, 0))
theorem CpSt.keep {w W : World} {b c : Nat} {M N : List PI} {vl : Value} {q : PI} (h : CpSt w b c M N vl q W) : Keeps w W := by obtain ⟨F, G, _, _, _, _, _, h, _⟩ := h; exact h
theorem CpSt.keeps {w W W' : World} {b c : Nat} {M N : List PI} {vl : Value} {q : PI} (h : CpSt w b c M N vl q W) (k : Keeps W W') : CpSt w b c M N vl q W' := by
  obtain ⟨F, G, h1, h2, h3, h4, h5, h6, h7, h8, h9⟩ := h
  exact ⟨F, G, h1.keeps k, h2.keeps k, h3, h4, h5, h6.trans k, postK.own_keeps h7 k, h8, (k.block _ (Array.getElem?_eq_some_iff.1 h9).1).trans h9⟩
/-- The box is written. -/
theorem CpSt.boxed {w W W' : World} {b c : Nat} {M N : List PI} {vl : Value} {q q' : PI} (h : CpSt w b c M N vl q W) (g : W.grownBy W' (some w.heap.size)) (hb : W'.heap[w.heap.size]? = some (.cells q'.vals.toArray tPo (0, 0))) : CpSt w b c M N vl q' W' := by
  obtain ⟨F, G, h1, h2, h3, h4, h5, h6, h7, h8, h9⟩ := h
  have e : ∀ i, i < W.heap.size → w.heap.size < i → W'.heap[i]? = W.heap[i]? := fun i hi hn => g.block i hi (fun e => by have := Option.some.inj e; omega)
  refine ⟨F, G, h1.near fun i hi => e i (h1.lt i hi) (h4 i hi), h2.near fun i hi => e i (h2.lt i hi) (h5 i hi), h3, h4, h5, ?_, postK.own_local h7 fun i hi => e i (postK.own_lt h7 i hi).2 (h8 i hi).2.2, h8, hb⟩
  exact ⟨g.os.trans h6.os, g.tape.trans h6.tape, g.output.trans h6.output, Nat.le_trans h6.size g.size, fun i hi => (g.block i (Nat.lt_of_lt_of_le hi h6.size) (fun e => by have := Option.some.inj e; omega)).trans (h6.block i hi)⟩
theorem CpSt.postC {w W : World} {b c : Nat} {M N : List PI} {vl : Value} {q : PI} (h : CpSt w b c M N vl q W) (p : PI) (hg : GoodL N) (hp : p.Good) (hok : OkL (pms N)) (hl : N.length ≤ 900) :
    Calls Try.prog 11 #[.pointer (some ⟨c, 0, none⟩), p.val] W fun e w' => e = .returned (.int .i64 (postI N p).1) ∧ CpSt w b c M (postI N p).2 vl q w' := by
  obtain ⟨F, G, h1, h2, h3, h4, h5, h6, h7, h8, h9⟩ := h
  refine (ppost_any G c N p W h2 hg hp hok hl).mono ?_
  rintro e w' ⟨rfl, G', hb, o⟩
  have low : ∀ i, G' i → w.heap.size < i := fun i hi => by
    rcases o.own i hi with h | h
    · exact h5 i h
    · have := (Array.getElem?_eq_some_iff.1 h9).1; omega
  refine ⟨rfl, F, G', h1.near fun i hi => o.block i (h1.lt i hi) (h3 i hi), hb, fun i hf hg => ?_, h4, low, ?_, postK.own_local h7 fun i hi => o.block i (postK.own_lt h7 i hi).2 (h8 i hi).2.1, fun g hgo => ⟨(h8 g hgo).1, fun hg => ?_, (h8 g hgo).2.2⟩, ?_⟩
  · rcases o.own i hg with h | h
    · exact h3 i hf h
    · have := h1.lt i hf; omega
  · exact ⟨o.os.trans h6.os, o.tape.trans h6.tape, o.output.trans h6.output, Nat.le_trans h6.size o.size, fun i hi => (o.block i (Nat.lt_of_lt_of_le hi h6.size) (fun hn => by have := h5 i hn; omega)).trans (h6.block i hi)⟩
  · rcases o.own g hg with h | h
    · exact (h8 g hgo).2.1 h
    · have := (postK.own_lt h7 g hgo).2; omega
  · rw [o.block _ (Array.getElem?_eq_some_iff.1 h9).1 (fun hn => by have := h5 _ hn; omega)]
    exact h9
theorem CpSt.oneB {w W : World} {b c : Nat} {M N : List PI} {vl : Value} {q : PI} (h : CpSt w b c M N vl q W) : BkOne w b M W := by
  obtain ⟨F, G, h1, h2, h3, h4, h5, h6, h7, h8, h9⟩ := h
  exact ⟨F, h1, fun i hi => Nat.le_of_lt (h4 i hi), h6⟩
theorem CpSt.oneC {w W : World} {b c : Nat} {M N : List PI} {vl : Value} {q : PI} (h : CpSt w b c M N vl q W) : BkOne w c N W := by
  obtain ⟨F, G, h1, h2, h3, h4, h5, h6, h7, h8, h9⟩ := h
  exact ⟨G, h2, fun i hi => Nat.le_of_lt (h5 i hi), h6⟩
theorem CpSt.posts {w W : World} {b c : Nat} {M N : List PI} {vl : Value} {q : PI} (h : CpSt w b c M N vl q W) (hg : GoodL M) (hl : M.length ≤ 1000) : PostsAt W vl M := by
  obtain ⟨F, G, h1, h2, h3, h4, h5, h6, h7, h8, h9⟩ := h
  exact own_posts h7 hg (by omega)
theorem CpSt.cells {w W : World} {b c : Nat} {M N : List PI} {vl : Value} {q : PI} (h : CpSt w b c M N vl q W) :
    W.cell? ⟨w.heap.size, 0, none⟩ = some (.string q.s) ∧ W.cell? ⟨w.heap.size, 1, none⟩ = some (.int .i64 q.ord) ∧ W.cell? ⟨w.heap.size, 2, none⟩ = some (.int .i64 q.deb) ∧ W.cell? ⟨w.heap.size, 3, none⟩ = some (.int .i64 q.cre) ∧ W.cell? ⟨w.heap.size, 4, none⟩ = some (.int .i64 q.amt) := by
  obtain ⟨F, G, h1, h2, h3, h4, h5, h6, h7, h8, h9⟩ := h
  exact ⟨Joins.cell_of_block h9 0, Joins.cell_of_block h9 1, Joins.cell_of_block h9 2, Joins.cell_of_block h9 3, Joins.cell_of_block h9 4⟩
theorem CpSt.two {w W : World} {b c : Nat} {M N : List PI} {vl : Value} {q : PI} (h : CpSt w b c M N vl q W) : b ≠ c := by
  obtain ⟨F, G, ⟨v1, mp1, mb1, _, e1⟩, ⟨v2, mp2, mb2, _, e2⟩, h3, _⟩ := h
  rintro rfl
  exact h3 b ((e1 b).2 (Or.inl rfl)) ((e2 b).2 (Or.inl rfl))
theorem CpSt.box {w W : World} {b c : Nat} {M N : List PI} {vl : Value} {q : PI} (h : CpSt w b c M N vl q W) : W.heap[w.heap.size]? = some (.cells q.vals.toArray tPo (0, 0)) := by
  obtain ⟨F, G, h1, h2, h3, h4, h5, h6, h7, h8, h9⟩ := h
  exact h9
/-- A copy is there, and what the books tell. -/
theorem CpSt.start {w W W1 W2 : World} {b c : Nat} {M : List PI} {G : Nat → Prop} {vl : Value} {q : PI} (h : BkOne (w.alloc (.cells q.vals.toArray tPo)) b M W) (k1 : Keeps W W1) (hc : PBk W1 G c M) (hg : ∀ i, G i → W.heap.size ≤ i) (k2 : Keeps W1 W2) (hl : postK.Own W1.heap.size W2 vl M) : CpSt w b c M M vl q W2 := by
  obtain ⟨F, h1, h2, h3⟩ := h
  have s0 : (w.alloc (.cells q.vals.toArray tPo)).heap.size = w.heap.size + 1 := by simp
  have s1 := h3.size
  have s2 := k1.size
  have s3 := k2.size
  refine ⟨F, G, (h1.keeps k1).keeps k2, hc.keeps k2, fun i hf hgi => ?_, fun i hi => ?_, fun i hi => ?_, ?_, postK.own_base hl fun g _ => Nat.zero_le g, fun g hgo => ⟨fun hf => ?_, fun hgi => ?_, ?_⟩, ?_⟩
  · have := h1.lt i hf; have := hg i hgi; omega
  · have := h2 i hi; omega
  · have := hg i hi; omega
  · exact ((keeps_box w _).trans h3).trans (k1.trans k2)
  · have := h1.lt g hf; have := (postK.own_lt hl g hgo).1; omega
  · have := hc.lt g hgi; have := (postK.own_lt hl g hgo).1; omega
  · have := (postK.own_lt hl g hgo).1; omega
  · rw [((h3.trans k1).trans k2).block w.heap.size (by omega)]
    exact heap_alloc_new _ _
theorem gset (W : World) (n i : Nat) (v : Value) : W.grownBy (W.setCell ⟨n, i, none⟩ v) (some n) :=
  ⟨rfl, rfl, rfl, by simp, fun k hk hn => Below.heap_setCell _ _ _ _ fun e => hn (by rw [e])⟩
theorem six_cells {W : World} {n : Nat} {q : PI} (h : W.heap[n]? = some (.cells q.vals.toArray tPo (0, 0))) (a b c d e s : Value) :
    W.grownBy ((((((W.setCell ⟨n, 0, none⟩ a).setCell ⟨n, 1, none⟩ b).setCell ⟨n, 2, none⟩ c).setCell ⟨n, 3, none⟩ d).setCell ⟨n, 4, none⟩ e).setCell ⟨n, 0, none⟩ s) (some n) ∧
    ((((((W.setCell ⟨n, 0, none⟩ a).setCell ⟨n, 1, none⟩ b).setCell ⟨n, 2, none⟩ c).setCell ⟨n, 3, none⟩ d).setCell ⟨n, 4, none⟩ e).setCell ⟨n, 0, none⟩ s).heap[n]? = some (.cells #[s, b, c, d, e] tPo (0, 0)) := by
  have h1 := Joins.block_setCell (i := 0) h a
  have h2 := Joins.block_setCell (i := 1) h1 b
  have h3 := Joins.block_setCell (i := 2) h2 c
  have h4 := Joins.block_setCell (i := 3) h3 d
  have h5 := Joins.block_setCell (i := 4) h4 e
  have h6 := Joins.block_setCell (i := 0) h5 s
  exact ⟨(((((gset W n 0 a).trans (gset _ n 1 b)).trans (gset _ n 2 c)).trans (gset _ n 3 d)).trans (gset _ n 4 e)).trans (gset _ n 0 s), by rw [h6]; rfl⟩
/-- The other one. -/
def copyI (p : PI) : PI := ⟨⟨#[97, 110, 111, 116, 104, 101, 114, 32, 111, 110, 101, 32]⟩ ++ (smallI p).s, (smallI p).ord, (smallI p).deb, (smallI p).cre, (smallI p).amt⟩
theorem copyI_ok (p : PI) (h : p.s.size ≤ 100) : (copyI p).Good ∧ mayM (copyI p).pm = true ∧ (copyI p).pm.ord ≤ 4 ∧ (copyI p).pm.amt ≤ 1099511627775 := by
  obtain ⟨⟨g1, g2, g3, g4, g5⟩, g6⟩ := smallI_good p h
  obtain ⟨h1, h2, h3⟩ := small_may p
  obtain ⟨m1, m2, m3, m4, m5, m6, m7, m8⟩ := may_iff.1 h1
  have hs : (copyI p).s.size = 12 + (smallI p).s.size := by
    show (ByteArray.size (⟨#[97, 110, 111, 116, 104, 101, 114, 32, 111, 110, 101, 32]⟩ ++ (smallI p).s)) = _
    rw [ByteArray.size_append]
    rfl
  refine ⟨⟨by rw [hs]; unfold maxLen; omega, g2, g3, g4, g5⟩, may_iff.2 ⟨fun e => ?_, m2, m3, m4, m5, m6, m7, m8⟩, h2, h3⟩
  have : (copyI p).s.data.toList = [] := e
  have hl := congrArg List.length this
  rw [len_data, hs] at hl
  simp at hl
set_option maxRecDepth 100000 in
set_option maxHeartbeats 16000000 in
theorem bookscopy_any (v : Value) (L : List PI) (p : PI) (w : World) (h : PostsAt w v L) (hp : p.Good) :
    Calls Try.prog 7 #[v, p.val] w fun e w' => e = .returned (.bool true) ∧ Keeps w w' := by
  have HP := Lib.hid h
  have HPG := Lib.hid hp
  have K0 := Lib.hid (keeps_box w (.cells p.vals.toArray tPo))
  have HG : Hid (Calls Try.prog 8 #[v, .int .i64 40] (w.alloc (.cells #[.string p.s, .int .i64 p.ord, .int .i64 p.deb, .int .i64 p.cre, .int .i64 p.amt] tPo)) fun e w' => e = .returned (.bool (greatP L 40)) ∧ Keeps (w.alloc (.cells p.vals.toArray tPo)) w') := Lib.hid (great_any v L 40 _ (h.keeps K0.out))
  have HT := Lib.hid fun W => posted_any W
  have HN := Lib.hid fun W => pnew_any W
  obtain ⟨pp, c, rfl, hmx, _, _⟩ := h
  obtain ⟨N, hN⟩ : ∃ N, L.length = N := ⟨_, rfl⟩
  have HLN := Lib.hid hN
  rw [hN] at hmx HG ⊢
  clear hN hmx
  obtain ⟨gr, hgr⟩ : ∃ gr, greatP L 40 = gr := ⟨_, rfl⟩
  have HGR := Lib.hid hgr
  rw [hgr] at HG
  have HX : Hid (∀ W, Keeps (w.alloc (.cells p.vals.toArray tPo)) W → W.cell? ⟨w.heap.size, 0, none⟩ = some (.string p.s) ∧ W.cell? ⟨w.heap.size, 1, none⟩ = some (.int .i64 p.ord) ∧ W.cell? ⟨w.heap.size, 2, none⟩ = some (.int .i64 p.deb) ∧ W.cell? ⟨w.heap.size, 3, none⟩ = some (.int .i64 p.cre) ∧ W.cell? ⟨w.heap.size, 4, none⟩ = some (.int .i64 p.amt)) := Lib.hid fun W kW => by
    have e := heap_alloc_new w (.cells p.vals.toArray tPo)
    have e2 : W.heap[w.heap.size]? = some (.cells p.vals.toArray tPo (0, 0)) := (kW.block _ (by simp)).trans e
    exact ⟨Joins.cell_of_block e2 0, Joins.cell_of_block e2 1, Joins.cell_of_block e2 2, Joins.cell_of_block e2 3, Joins.cell_of_block e2 4⟩
  unfold PI.val
  clear hgr hp
  go_enter Try.func7, Try.ntmps7
  go_wp2_with fail
  refine HG.out.mono ?_
  rintro e w1 ⟨rfl, k1⟩
  have K1 := Lib.hid k1
  obtain ⟨x0, x1, x2, x3, x4⟩ := HX.out w1 k1
  clear k1
  have out : ∀ W, Hid (Keeps w W) → Hid (Calls Try.prog 9 #[] W fun e w' => e = .returned (.bool true) ∧ Keeps w w') := fun W hW => Lib.hid (by
    refine (HT.out W).mono ?_
    rintro e w' ⟨rfl, k⟩
    exact ⟨rfl, hW.out.trans k⟩)
  have OUT := Lib.hid out
  clear out
  cases gr with
  | true =>
    go_wp2_with fail
    refine (OUT.out _ (Lib.hid (K0.out.trans K1.out))).out.mono ?_
    rintro e w2 ⟨rfl, k2⟩
    have K2 := Lib.hid k2
    clear k2
    go_wp2
    go_ret
    exact ⟨rfl, K2.out⟩
  | false =>
    by_cases hlong : (100 : Int) < (p.s.size : Int)
    · go_wp2_with fail
      refine (OUT.out _ (Lib.hid (K0.out.trans K1.out))).out.mono ?_
      rintro e w2 ⟨rfl, k2⟩
      have K2 := Lib.hid k2
      clear k2
      go_wp2
      go_ret
      exact ⟨rfl, K2.out⟩
    · have HSZ : Hid (p.s.size ≤ 100) := Lib.hid (by omega)
      have HN40 : Hid (N ≤ 40) := Lib.hid (by have := not_great (n := 40) HGR.out; have := HLN.out; omega)
      have HSH := Lib.hid (not_long HGR.out)
      go_wp2_with fail
      refine (HN.out _).mono ?_
      rintro e w2 ⟨b, F, rfl, hb, hf, k2⟩
      have HS := Lib.hid (BkOne.start K1.out hb hf k2)
      clear hb hf k2 x0 x1 x2 x3 x4 hlong
      go_wp2
      go_loopw [6] (fun vi wr => ∃ (k : Nat) (M : List PI), k ≤ N ∧ vi = .int .i64 (k : Int) ∧ BkOne (w.alloc (.cells p.vals.toArray tPo)) b M wr ∧ Sm M k) (fun vi _ => N - (intOf vi).toNat)
      case atStart => exact ⟨0, [], by omega, rfl, HS.out, Sm.nil⟩
      case round =>
        obtain ⟨k, M, hk, rfl, hs, hsm⟩ := hrel
        have HO := Lib.hid hs
        have HSM := Lib.hid hsm
        have HK2 : Hid (k ≤ 100000) := Lib.hid (by have := HN40.out; omega)
        clear hs hsm HS
        by_cases hlt : k < N
        · have HK1 := Lib.hid hlt
          obtain ⟨x, hx⟩ : ∃ x, L[k]? = some x := ⟨_, List.getElem?_eq_getElem (by have := HLN.out; omega)⟩
          obtain ⟨p', c', e', _, hcc, hc⟩ := HP.out
          simp only [Value.slice.injEq] at e'
          obtain ⟨rfl, _, rfl⟩ := e'
          obtain ⟨xg, ad, rfl, q⟩ := hc k x hx
          obtain ⟨q0, q1, q2, q3, q4⟩ := q.keeps (K0.out.trans HO.out.keep)
          have XS : Hid (x.s.size ≤ 100) := Lib.hid (HSH.out x (List.mem_of_getElem? hx))
          have CS : Hid (Calls Try.prog 20 #[.agg #[.string x.s, .int .i64 x.ord, .int .i64 x.deb, .int .i64 x.cre, .int .i64 x.amt]] wr fun e w' => e = .returned (smallI x).val ∧ Keeps wr w') := Lib.hid (small_any x wr)
          have CP : Hid (∀ W, BkOne (w.alloc (.cells p.vals.toArray tPo)) b M W → Calls Try.prog 11 #[.pointer (some ⟨b, 0, none⟩), (smallI x).val] W fun e w' => (∃ n, e = .returned (.int .i64 n)) ∧ BkOne (w.alloc (.cells p.vals.toArray tPo)) b (postI M (smallI x)).2 w' ∧ Sm (postI M (smallI x)).2 (k + 1)) := Lib.hid fun W hW => by
            obtain ⟨s1, s2⟩ := HSM.out.postSmall (by have := HN40.out; omega) x XS.out
            refine (hW.post (smallI x) HSM.out.good (smallI_good x XS.out).1 HSM.out.ok (by have := HSM.out.len; have := HN40.out; omega)).mono ?_
            rintro e w' ⟨rfl, h⟩
            exact ⟨⟨_, rfl⟩, h, s1⟩
          have hi1 : (k : Int) < (N : Int) := by omega
          have hi2 : (k : Int) ≤ (N : Int) := by omega
          have hi0 : (0 : Int) ≤ (k : Int) := by omega
          clear hc q hx xg hcc
          go_wp2_with fail
          refine CS.out.mono ?_
          rintro e w3 ⟨rfl, k3⟩
          have HO3 := Lib.hid (HO.out.keeps k3)
          clear k3 q0 q1 q2 q3 q4
          go_wp2_with fail
          refine (CP.out _ HO3.out).mono ?_
          rintro e w4 ⟨⟨n, rfl⟩, h4, s4⟩
          have H4 := Lib.hid h4
          have S4 := Lib.hid s4
          clear h4 s4
          go_wp2
          exact ⟨⟨k + 1, _, HK1.out, num_next HK2.out, H4.out, S4.out⟩, meas_lt HK1.out HK2.out⟩
        · obtain rfl : k = N := by omega
          have HM1000 : Hid (M.length ≤ 40) := Lib.hid (by have := HSM.out.len; have := HN40.out; omega)
          have CC : Hid (Calls Try.prog 19 #[.pointer (some ⟨b, 0, none⟩)] wr (PCopyOut M wr)) := Lib.hid (by obtain ⟨F, h1, _, _⟩ := HO.out; exact pcopy_any F b M wr h1 (by have := HM1000.out; omega))
          have CL : Hid (∀ W, Keeps wr W → Calls Try.prog 15 #[.pointer (some ⟨b, 0, none⟩)] W fun e w' => ∃ pm cm, e = .returned (.slice pm M.length cm) ∧ postK.Own W.heap.size w' (.slice pm M.length cm) M ∧ Keeps W w') := Lib.hid fun W kk => by obtain ⟨F, h1, _, _⟩ := HO.out; exact plist_any F b M W (h1.keeps kk) HSM.out.good (by have := HM1000.out; omega)
          clear hlt hk
          go_wp2_with fail
          refine CC.out.mono ?_
          rintro e w5 ⟨c2, G, rfl, hc2, hg2, k5⟩
          have HC2 := Lib.hid hc2
          have HG2 := Lib.hid hg2
          have K5 := Lib.hid k5
          clear hc2 hg2 k5
          go_wp2_with fail
          refine (CL.out _ K5.out).mono ?_
          rintro e w6 ⟨pm, cm, rfl, hown, k6⟩
          have HST := Lib.hid (CpSt.start HO.out K5.out HC2.out HG2.out k6 hown)
          obtain ⟨y0, y1, y2, y3, y4⟩ := HST.out.cells
          have CS : Hid (Calls Try.prog 20 #[.agg #[.string p.s, .int .i64 p.ord, .int .i64 p.deb, .int .i64 p.cre, .int .i64 p.amt]] w6 fun e w' => e = .returned (smallI p).val ∧ Keeps w6 w') := Lib.hid (small_any p w6)
          clear hown k6
          go_wp2_with fail
          refine CS.out.mono ?_
          rintro e w7 ⟨rfl, k7⟩
          have HS7 := Lib.hid (HST.out.keeps k7)
          obtain ⟨z0, z1, z2, z3, z4⟩ := HS7.out.cells
          have hbx := HS7.out.box
          have f0 := Joins.unfrozen_of_block hbx 0
          have f1 := Joins.unfrozen_of_block hbx 1
          have f2 := Joins.unfrozen_of_block hbx 2
          have f3 := Joins.unfrozen_of_block hbx 3
          have f4 := Joins.unfrozen_of_block hbx 4
          unfold PI.val
          have hcat : ¬ (9223372036854775807 < 12 + (smallI p).s.size) := by have := (smallI_good p HSZ.out).2; omega
          have HSIX := Lib.hid (six_cells hbx (.string (smallI p).s) (.int .i64 (smallI p).ord) (.int .i64 (smallI p).deb) (.int .i64 (smallI p).cre) (.int .i64 (smallI p).amt) (.string (copyI p).s))
          clear hbx y0 y1 y2 y3 y4 k7
          go_wp2
          have HS9 : Hid (CpSt w b c2 M M (.slice pm M.length cm) (copyI p) ((((((w7.setCell ⟨w.heap.size, 0, none⟩ (.string (smallI p).s)).setCell ⟨w.heap.size, 1, none⟩ (.int .i64 (smallI p).ord)).setCell ⟨w.heap.size, 2, none⟩ (.int .i64 (smallI p).deb)).setCell ⟨w.heap.size, 3, none⟩ (.int .i64 (smallI p).cre)).setCell ⟨w.heap.size, 4, none⟩ (.int .i64 (smallI p).amt)).setCell ⟨w.heap.size, 0, none⟩ (.string (copyI p).s))) := Lib.hid (HS7.out.boxed HSIX.out.1 HSIX.out.2)
          clear z0 z1 z2 z3 z4 f0 f1 f2 f3 f4 HSIX
          have ES : Hid ((copyI p).s = ⟨#[97, 110, 111, 116, 104, 101, 114, 32, 111, 110, 101, 32]⟩ ++ (smallI p).s) := Lib.hid rfl
          rw [ES.out] at HS9
          generalize ((((((w7.setCell ⟨w.heap.size, 0, none⟩ (.string (smallI p).s)).setCell ⟨w.heap.size, 1, none⟩ (.int .i64 (smallI p).ord)).setCell ⟨w.heap.size, 2, none⟩ (.int .i64 (smallI p).deb)).setCell ⟨w.heap.size, 3, none⟩ (.int .i64 (smallI p).cre)).setCell ⟨w.heap.size, 4, none⟩ (.int .i64 (smallI p).amt)).setCell ⟨w.heap.size, 0, none⟩ (.string (⟨#[97, 110, 111, 116, 104, 101, 114, 32, 111, 110, 101, 32]⟩ ++ (smallI p).s))) = w9 at HS9 ⊢
          obtain ⟨q, hq⟩ : ∃ q, copyI p = q := ⟨_, rfl⟩
          have HQ : Hid (q.Good ∧ mayM q.pm = true ∧ q.pm.ord ≤ 4 ∧ q.pm.amt ≤ 1099511627775) := Lib.hid (hq ▸ copyI_ok p HSZ.out)
          rw [hq] at HS9
          obtain ⟨m0, hm0⟩ : ∃ m0, M.length = m0 := ⟨_, rfl⟩
          have HM0 := Lib.hid hm0
          have HM40 : Hid (m0 ≤ 40) := Lib.hid (by rw [← hm0]; exact HM1000.out)
          rw [hm0] at HS9 ⊢
          clear hq hm0 hcat ES
          generalize (⟨#[97, 110, 111, 116, 104, 101, 114, 32, 111, 110, 101, 32]⟩ ++ (smallI p).s : ByteArray) = dead
          go_loopw [9, 10] (fun v9 v10 W => ∃ (j : Nat) (f : Bool), j ≤ m0 ∧ v10 = .int .i64 (j : Int) ∧ v9 = .bool f ∧ CpSt w b c2 M M (.slice pm m0 cm) q W ∧ (f = true ↔ NoId M q.s j)) (fun _ v10 _ => m0 - (intOf v10).toNat)
          case atStart => exact ⟨0, true, by omega, rfl, rfl, HS9.out, by simp; intro j x hj; omega⟩
          case round =>
            obtain ⟨j, f, hj, rfl, rfl, hst, hf⟩ := hrel
            have HST2 := Lib.hid hst
            have HFI := Lib.hid hf
            have HJ2 : Hid (j ≤ 100000) := Lib.hid (by have := HM40.out; omega)
            clear hst hf
            by_cases hjl : j < m0
            · have HJ := Lib.hid hjl
              obtain ⟨x, hx⟩ : ∃ x, M[j]? = some x := ⟨_, List.getElem?_eq_getElem (by have := HM0.out; omega)⟩
              obtain ⟨p', c', e', _, hcc, hc⟩ := HST2.out.posts HSM.out.good (by have := HM0.out; have := HM40.out; omega)
              simp only [Value.slice.injEq] at e'
              obtain ⟨rfl, e2, rfl⟩ := e'
              obtain ⟨xg, ad, rfl, qq⟩ := hc j x hx
              obtain ⟨q0, _, _, _, _⟩ := qq
              obtain ⟨y0, _, _, _, _⟩ := HST2.out.cells
              have hi1 : (j : Int) < (m0 : Int) := by omega
              have hi2 : (j : Int) ≤ (m0 : Int) := by omega
              have hi0 : (0 : Int) ≤ (j : Int) := by omega
              have HX2 := Lib.hid hx
              clear hc hx xg hcc e2
              cases f with
              | false =>
                have HI2 : Hid (false = true ↔ NoId M q.s (j + 1)) := Lib.hid ⟨(fun e => by cases e), fun h => HFI.out.2 fun i y hi hy => h i y (by omega) hy⟩
                go_wp2
                go_quiet (fail)
                go_wp2
                exact ⟨⟨j + 1, false, HJ.out, num_next HJ2.out, rfl, HST2.out.keeps (drewN_keep _ _), HI2.out⟩, meas_lt HJ.out HJ2.out⟩
              | true =>
                by_cases he : x.s = q.s
                · have HI2 : Hid (false = true ↔ NoId M q.s (j + 1)) := Lib.hid ⟨(fun e => by cases e), fun h => absurd he (h j x (by omega) HX2.out)⟩
                  rw [he] at q0
                  go_wp2
                  go_quiet (fail)
                  go_wp2
                  exact ⟨⟨j + 1, false, HJ.out, num_next HJ2.out, rfl, HST2.out.keeps (drewN_keep _ _), HI2.out⟩, meas_lt HJ.out HJ2.out⟩
                · have HI2 : Hid (true = true ↔ NoId M q.s (j + 1)) := Lib.hid ⟨fun _ i y hi hy => by
                    by_cases hij : i = j
                    · subst hij
                      rw [HX2.out] at hy
                      cases hy
                      exact he
                    · exact HFI.out.1 rfl i y (by omega) hy, fun _ => rfl⟩
                  have t1 := str_ne he
                  clear he
                  go_wp2
                  go_quiet (fail)
                  go_wp2
                  exact ⟨⟨j + 1, true, HJ.out, num_next HJ2.out, rfl, HST2.out.keeps (drewN_keep _ _), ⟨fun _ => HI2.out.1 trivial, fun _ => rfl⟩⟩, meas_lt HJ.out HJ2.out⟩
            · obtain rfl : j = m0 := by omega
              have HPM : Hid (∀ W N, CpSt w b c2 M N (.slice pm j cm) q W → PostsAt W (.slice pm j cm) M) := Lib.hid fun W N h => h.posts HSM.out.good (by have := HM0.out; have := HM40.out; omega)
              have CLc : Hid (∀ W, CpSt w b c2 M M (.slice pm j cm) q W → Calls Try.prog 15 #[.pointer (some ⟨c2, 0, none⟩)] W fun e w' => ∃ p2 k2, e = .returned (.slice p2 j k2) ∧ PostsAt w' (.slice p2 j k2) M ∧ CpSt w b c2 M M (.slice pm j cm) q w') := Lib.hid fun W h => by
                have := h.oneC.list HSM.out.good (by have := HM0.out; have := HM40.out; omega)
                rw [HM0.out] at this
                refine this.mono ?_
                rintro e w' ⟨p2, k2, rfl, h1, k⟩
                exact ⟨p2, k2, rfl, h1, h.keeps k⟩
              have CLb : Hid (∀ W N, CpSt w b c2 M N (.slice pm j cm) q W → Calls Try.prog 15 #[.pointer (some ⟨b, 0, none⟩)] W fun e w' => ∃ p2 k2, e = .returned (.slice p2 j k2) ∧ PostsAt w' (.slice p2 j k2) M ∧ CpSt w b c2 M N (.slice pm j cm) q w') := Lib.hid fun W N h => by
                have := h.oneB.list HSM.out.good (by have := HM0.out; have := HM40.out; omega)
                rw [HM0.out] at this
                refine this.mono ?_
                rintro e w' ⟨p2, k2, rfl, h1, k⟩
                exact ⟨p2, k2, rfl, h1, h.keeps k⟩
              have CSA : Hid (∀ W N p2 k2, PostsAt W (.slice p2 j k2) M → CpSt w b c2 M N (.slice pm j cm) q W → Calls Try.prog 16 #[.slice p2 j k2, .slice pm j cm] W fun e w' => e = .returned (.bool true) ∧ CpSt w b c2 M N (.slice pm j cm) q w') := Lib.hid fun W N p2 k2 h1 h => by
                refine (same_any _ _ M M W h1 (HPM.out _ _ h)).mono ?_
                rintro e w' ⟨rfl, k⟩
                exact ⟨by simp, h.keeps k⟩
              have CT : Hid (∀ W N, CpSt w b c2 M N (.slice pm j cm) q W → Calls Try.prog 9 #[] W fun e w' => e = .returned (.bool true) ∧ CpSt w b c2 M N (.slice pm j cm) q w') := Lib.hid fun W N h => by
                refine (HT.out W).mono ?_
                rintro e w' ⟨rfl, k⟩
                exact ⟨rfl, h.keeps k⟩
              have CX : Hid (∀ W N, CpSt w b c2 M N (.slice pm j cm) q W → W.cell? ⟨w.heap.size, 1, none⟩ = some (.int .i64 q.ord) ∧ W.cell? ⟨w.heap.size, 2, none⟩ = some (.int .i64 q.deb) ∧ W.cell? ⟨w.heap.size, 4, none⟩ = some (.int .i64 q.amt)) := Lib.hid fun W N h => ⟨h.cells.2.1, h.cells.2.2.1, h.cells.2.2.2.2⟩
              clear hjl hj OUT CS HO HK2 HG HX HSH HST HS7 HS9
              go_wp2_with fail
              refine (CLc.out _ HST2.out).mono ?_
              rintro e w10 ⟨p2, k2, rfl, hp2, h10⟩
              have HP2 := Lib.hid hp2
              have H10 := Lib.hid h10
              clear hp2 h10
              go_wp2_with fail
              refine (CSA.out _ _ _ _ HP2.out H10.out).mono ?_
              rintro e w11 ⟨rfl, h11⟩
              have H11 := Lib.hid h11
              clear h11 H10 HP2
              cases f with
              | false =>
                go_wp2
                refine wp_region_held_drew (S := fun W => CpSt w b c2 M M (.slice pm j cm) q W) (by kernel_rfl) (H11.out.keeps (bbel_drew _)) (fun hHeld => ?_)
                refine takeH (i := 0) (d := some 75) (v := ?v0) rfl rfl (by kernel_rfl) (by kernel_rfl) (by kernel_rfl) (fun _ _ _ h => h) (Or.inl ⟨by rfl, ?y0⟩) (by assumption) ?r0
                case y0 => (intro W hSw; go_simp; try with_reducible rfl)
                try simp only [Act.put, List.setIfInBounds_toArray, List.set_cons_zero, List.set_cons_succ]
                refine takeH (i := 2) (d := some 77) (v := ?v2) rfl rfl (by kernel_rfl) (by kernel_rfl) (by kernel_rfl) (fun _ _ _ h => h) (Or.inl ⟨by rfl, ?y2⟩) (by assumption) ?r2
                case y2 => (intro W hSw; go_simp; try with_reducible rfl)
                try simp only [Act.put, List.setIfInBounds_toArray, List.set_cons_zero, List.set_cons_succ]
                refine wpAnyH_ready (rs := [1]) (by kernel_rfl) (by simp) ?_
                refine AllReadyH.cons rfl (fun K hK => ?_) AllReadyH.nil
                go_simp
                refine (CLb.out _ _ hHeld).mono ?_
                rintro e wv ⟨p3, k3, rfl, hp3, hv⟩
                first | done | skip
                refine hK.out _ _ hv (fun hHeld => ?_)
                clear hK K hv
                try simp only [Act.put, List.setIfInBounds_toArray, List.set_cons_zero, List.set_cons_succ]
                refine wpAnyH_ready (rs := [3]) (by kernel_rfl) (by simp) ?_
                refine AllReadyH.cons rfl (fun K hK => ?_) AllReadyH.nil
                go_simp
                refine (CSA.out _ _ _ _ hp3 hHeld).mono ?_
                rintro e wv ⟨rfl, hv⟩
                first | done | skip
                refine hK.out _ _ hv (fun hHeld => ?_)
                clear hK K hv
                try simp only [Act.put, List.setIfInBounds_toArray, List.set_cons_zero, List.set_cons_succ]
                refine takeH (i := 4) (d := some 79) (v := ?v4) rfl rfl (by kernel_rfl) (by kernel_rfl) (by kernel_rfl) (fun _ _ _ h => h) (Or.inl ⟨by rfl, ?y4⟩) (by assumption) ?r4
                case y4 => (intro W hSw; go_simp; try with_reducible rfl)
                try simp only [Act.put, List.setIfInBounds_toArray, List.set_cons_zero, List.set_cons_succ]
                refine takeH (i := 5) (d := some 80) (v := ?v5) rfl rfl (by kernel_rfl) (by kernel_rfl) (by kernel_rfl) (fun _ _ _ h => h) (Or.inl ⟨by rfl, ?y5⟩) (by assumption) ?r5
                case y5 => (intro W hSw; go_simp; try with_reducible rfl)
                try simp only [Act.put, List.setIfInBounds_toArray, List.set_cons_zero, List.set_cons_succ]
                refine takeH (i := 6) (d := some 81) (v := ?v6) rfl rfl (by kernel_rfl) (by kernel_rfl) (by kernel_rfl) (fun _ _ _ h => h) (Or.inl ⟨by rfl, ?y6⟩) (by assumption) ?r6
                case y6 => (intro W hSw; go_simp; try with_reducible rfl)
                try simp only [Act.put, List.setIfInBounds_toArray, List.set_cons_zero, List.set_cons_succ]
                refine takeH (i := 7) (d := some 82) (v := ?v7) rfl rfl (by kernel_rfl) (by kernel_rfl) (by kernel_rfl) (fun _ _ _ h => h) (Or.inl ⟨by rfl, ?y7⟩) (by assumption) ?r7
                case y7 => (intro W hSw; go_simp; try with_reducible rfl)
                try simp only [Act.put, List.setIfInBounds_toArray, List.set_cons_zero, List.set_cons_succ]
                refine skipH (i := 8) (d := some 83) rfl rfl (by kernel_rfl) (by kernel_rfl) (by kernel_rfl) (fun _ _ _ h => h) (by rfl) (by assumption) ?_
                try simp only [Act.put, List.setIfInBounds_toArray, List.set_cons_zero, List.set_cons_succ]
                refine skipH (i := 9) (d := some 84) rfl rfl (by kernel_rfl) (by kernel_rfl) (by kernel_rfl) (fun _ _ _ h => h) (by rfl) (by assumption) ?_
                try simp only [Act.put, List.setIfInBounds_toArray, List.set_cons_zero, List.set_cons_succ]
                refine skipH (i := 10) (d := some 85) rfl rfl (by kernel_rfl) (by kernel_rfl) (by kernel_rfl) (fun _ _ _ h => h) (by rfl) (by assumption) ?_
                try simp only [Act.put, List.setIfInBounds_toArray, List.set_cons_zero, List.set_cons_succ]
                refine skipH (i := 11) (d := some 86) rfl rfl (by kernel_rfl) (by kernel_rfl) (by kernel_rfl) (fun _ _ _ h => h) (by rfl) (by assumption) ?_
                try simp only [Act.put, List.setIfInBounds_toArray, List.set_cons_zero, List.set_cons_succ]
                refine skipH (i := 12) (d := some 87) rfl rfl (by kernel_rfl) (by kernel_rfl) (by kernel_rfl) (fun _ _ _ h => h) (by rfl) (by assumption) ?_
                try simp only [Act.put, List.setIfInBounds_toArray, List.set_cons_zero, List.set_cons_succ]
                refine skipH (i := 13) (d := some 88) rfl rfl (by kernel_rfl) (by kernel_rfl) (by kernel_rfl) (fun _ _ _ h => h) (by rfl) (by assumption) ?_
                try simp only [Act.put, List.setIfInBounds_toArray, List.set_cons_zero, List.set_cons_succ]
                refine skipH (i := 14) (d := some 89) rfl rfl (by kernel_rfl) (by kernel_rfl) (by kernel_rfl) (fun _ _ _ h => h) (by rfl) (by assumption) ?_
                try simp only [Act.put, List.setIfInBounds_toArray, List.set_cons_zero, List.set_cons_succ]
                refine skipH (i := 15) (d := some 90) rfl rfl (by kernel_rfl) (by kernel_rfl) (by kernel_rfl) (fun _ _ _ h => h) (by rfl) (by assumption) ?_
                try simp only [Act.put, List.setIfInBounds_toArray, List.set_cons_zero, List.set_cons_succ]
                refine skipH (i := 16) (d := some 91) rfl rfl (by kernel_rfl) (by kernel_rfl) (by kernel_rfl) (fun _ _ _ h => h) (by rfl) (by assumption) ?_
                try simp only [Act.put, List.setIfInBounds_toArray, List.set_cons_zero, List.set_cons_succ]
                refine skipH (i := 17) (d := some 92) rfl rfl (by kernel_rfl) (by kernel_rfl) (by kernel_rfl) (fun _ _ _ h => h) (by rfl) (by assumption) ?_
                try simp only [Act.put, List.setIfInBounds_toArray, List.set_cons_zero, List.set_cons_succ]
                refine skipH (i := 18) (d := some 93) rfl rfl (by kernel_rfl) (by kernel_rfl) (by kernel_rfl) (fun _ _ _ h => h) (by rfl) (by assumption) ?_
                try simp only [Act.put, List.setIfInBounds_toArray, List.set_cons_zero, List.set_cons_succ]
                refine skipH (i := 19) (d := some 94) rfl rfl (by kernel_rfl) (by kernel_rfl) (by kernel_rfl) (fun _ _ _ h => h) (by rfl) (by assumption) ?_
                try simp only [Act.put, List.setIfInBounds_toArray, List.set_cons_zero, List.set_cons_succ]
                refine skipH (i := 20) (d := some 95) rfl rfl (by kernel_rfl) (by kernel_rfl) (by kernel_rfl) (fun _ _ _ h => h) (by rfl) (by assumption) ?_
                try simp only [Act.put, List.setIfInBounds_toArray, List.set_cons_zero, List.set_cons_succ]
                refine skipH (i := 21) (d := some 96) rfl rfl (by kernel_rfl) (by kernel_rfl) (by kernel_rfl) (fun _ _ _ h => h) (by rfl) (by assumption) ?_
                try simp only [Act.put, List.setIfInBounds_toArray, List.set_cons_zero, List.set_cons_succ]
                refine skipH (i := 22) (d := some 97) rfl rfl (by kernel_rfl) (by kernel_rfl) (by kernel_rfl) (fun _ _ _ h => h) (by rfl) (by assumption) ?_
                try simp only [Act.put, List.setIfInBounds_toArray, List.set_cons_zero, List.set_cons_succ]
                refine skipH (i := 23) (d := some 98) rfl rfl (by kernel_rfl) (by kernel_rfl) (by kernel_rfl) (fun _ _ _ h => h) (by rfl) (by assumption) ?_
                try simp only [Act.put, List.setIfInBounds_toArray, List.set_cons_zero, List.set_cons_succ]
                refine skipH (i := 24) (d := some 99) rfl rfl (by kernel_rfl) (by kernel_rfl) (by kernel_rfl) (fun _ _ _ h => h) (by rfl) (by assumption) ?_
                try simp only [Act.put, List.setIfInBounds_toArray, List.set_cons_zero, List.set_cons_succ]
                refine skipH (i := 25) (d := some 100) rfl rfl (by kernel_rfl) (by kernel_rfl) (by kernel_rfl) (fun _ _ _ h => h) (by rfl) (by assumption) ?_
                try simp only [Act.put, List.setIfInBounds_toArray, List.set_cons_zero, List.set_cons_succ]
                refine skipH (i := 26) (d := some 101) rfl rfl (by kernel_rfl) (by kernel_rfl) (by kernel_rfl) (fun _ _ _ h => h) (by rfl) (by assumption) ?_
                try simp only [Act.put, List.setIfInBounds_toArray, List.set_cons_zero, List.set_cons_succ]
                refine skipH (i := 27) (d := some 102) rfl rfl (by kernel_rfl) (by kernel_rfl) (by kernel_rfl) (fun _ _ _ h => h) (by rfl) (by assumption) ?_
                try simp only [Act.put, List.setIfInBounds_toArray, List.set_cons_zero, List.set_cons_succ]
                refine skipH (i := 28) (d := some 103) rfl rfl (by kernel_rfl) (by kernel_rfl) (by kernel_rfl) (fun _ _ _ h => h) (by rfl) (by assumption) ?_
                try simp only [Act.put, List.setIfInBounds_toArray, List.set_cons_zero, List.set_cons_succ]
                refine skipH (i := 29) (d := some 104) rfl rfl (by kernel_rfl) (by kernel_rfl) (by kernel_rfl) (fun _ _ _ h => h) (by rfl) (by assumption) ?_
                try simp only [Act.put, List.setIfInBounds_toArray, List.set_cons_zero, List.set_cons_succ]
                refine skipH (i := 30) (d := some 105) rfl rfl (by kernel_rfl) (by kernel_rfl) (by kernel_rfl) (fun _ _ _ h => h) (by rfl) (by assumption) ?_
                try simp only [Act.put, List.setIfInBounds_toArray, List.set_cons_zero, List.set_cons_succ]
                refine skipH (i := 31) (d := some 106) rfl rfl (by kernel_rfl) (by kernel_rfl) (by kernel_rfl) (fun _ _ _ h => h) (by rfl) (by assumption) ?_
                try simp only [Act.put, List.setIfInBounds_toArray, List.set_cons_zero, List.set_cons_succ]
                refine takeH (i := 32) (d := some 107) (v := ?v32) rfl rfl (by kernel_rfl) (by kernel_rfl) (by kernel_rfl) (fun _ _ _ h => h) (Or.inl ⟨by rfl, ?y32⟩) (by assumption) ?r32
                case y32 => (intro W hSw; go_simp; try with_reducible rfl)
                try simp only [Act.put, List.setIfInBounds_toArray, List.set_cons_zero, List.set_cons_succ]
                refine takeH (i := 33) (d := some 108) (v := ?v33) rfl rfl (by kernel_rfl) (by kernel_rfl) (by kernel_rfl) (fun _ _ _ h => h) (Or.inl ⟨by rfl, ?y33⟩) (by assumption) ?r33
                case y33 => (intro W hSw; go_simp; try with_reducible rfl)
                try simp only [Act.put, List.setIfInBounds_toArray, List.set_cons_zero, List.set_cons_succ]
                refine takeH (i := 34) (d := some 109) (v := ?v34) rfl rfl (by kernel_rfl) (by kernel_rfl) (by kernel_rfl) (fun _ _ _ h => h) (Or.inl ⟨by rfl, ?y34⟩) (by assumption) ?r34
                case y34 => (intro W hSw; go_simp; try with_reducible rfl)
                try simp only [Act.put, List.setIfInBounds_toArray, List.set_cons_zero, List.set_cons_succ]
                refine wpAnyH_ready (rs := [35]) (by kernel_rfl) (by simp) ?_
                refine AllReadyH.cons rfl (fun K hK => ?_) AllReadyH.nil
                go_simp
                refine (CT.out _ _ hHeld).mono ?_
                rintro e wv ⟨rfl, hv⟩
                first | done | skip
                refine hK.out _ _ hv (fun hHeld => ?_)
                clear hK K hv
                try simp only [Act.put, List.setIfInBounds_toArray, List.set_cons_zero, List.set_cons_succ]
                refine takeH (i := 36) (d := some 111) (v := ?v36) rfl rfl (by kernel_rfl) (by kernel_rfl) (by kernel_rfl) (fun _ _ _ h => h) (Or.inl ⟨by rfl, ?y36⟩) (by assumption) ?r36
                case y36 => (intro W hSw; go_simp; try with_reducible rfl)
                try simp only [Act.put, List.setIfInBounds_toArray, List.set_cons_zero, List.set_cons_succ]
                refine takeH (i := 37) (d := some 4) (v := ?v37) rfl rfl (by kernel_rfl) (by kernel_rfl) (by kernel_rfl) (fun _ _ _ h => h) (Or.inl ⟨by rfl, ?y37⟩) (by assumption) ?r37
                case y37 => (intro W hSw; go_simp; try with_reducible rfl)
                try simp only [Act.put, List.setIfInBounds_toArray, List.set_cons_zero, List.set_cons_succ]
                refine wpAnyH_done (by kernel_rfl) ?_ _
                go_wp2
                go_ret
                exact ⟨rfl, CpSt.keep hHeld⟩
              | true =>
                have NI := Lib.hid (show idOf (pms M) q.pm.id = none from NoId.none (by have := HFI.out.1 rfl; rwa [← HM0.out] at this))
                have EP : Hid (postI M q = (0, M ++ [q])) := Lib.hid (by
                  rw [post_new HQ.out.2.1 NI.out]
                  have hm := may_iff.1 HQ.out.2.1
                  rw [small_fits HSM.out.small (by rw [pms_len]; have := HM1000.out; omega) hm.amt HQ.out.2.2.2 hm.ord HQ.out.2.2.1]
                  rfl)
                have CPC : Hid (Calls Try.prog 11 #[.pointer (some ⟨c2, 0, none⟩), .agg #[.string q.s, .int .i64 q.ord, .int .i64 q.deb, .int .i64 q.cre, .int .i64 q.amt]] w11 fun e w' => e = .returned (.int .i64 0) ∧ CpSt w b c2 M (M ++ [q]) (.slice pm j cm) q w') := Lib.hid (by
                  have := H11.out.postC q HSM.out.good HQ.out.1 HSM.out.ok (by have := HM1000.out; omega)
                  rw [EP.out] at this
                  exact this)
                obtain ⟨z0, z1, z2, z3, z4⟩ := H11.out.cells
                go_wp2_with fail
                refine CPC.out.mono ?_
                rintro e w12 ⟨rfl, h12⟩
                have H12 := Lib.hid h12
                clear h12 z0 z1 z2 z3 z4 H11
                have HGN : Hid (pms (M ++ [q]) = pms M ++ [q.pm]) := Lib.hid (by unfold pms; rw [List.map_append]; rfl)
                have HOKN : Hid (OkL (pms (M ++ [q]))) := Lib.hid (by
                  have := ok_post HSM.out.ok q.pm
                  rw [← pms_post, EP.out] at this
                  exact this)
                obtain ⟨y, hy⟩ : ∃ y, bal (pms M) q.deb q.ord = y := ⟨_, rfl⟩
                obtain ⟨y2, hy2⟩ : ∃ y, bal (pms (M ++ [q])) q.deb q.ord = y := ⟨_, rfl⟩
                have hw2 : y + q.amt = y2 ∧ wrap64 y2 = y2 ∧ IntKind.i64.wrap y2 = y2 := by
                  have h1 := HOKN.out.all q.deb q.ord
                  have h2 := next_deb (L := M) (p := q) (q := q.ord) (by simp [ordsOf])
                  unfold nextB at h2
                  rw [HGN.out] at h1 hy2
                  rw [h2, hy] at h1 hy2
                  rw [hy2] at h1
                  exact ⟨hy2, i64_in h1⟩
                obtain ⟨hw6, hw7, hw8⟩ := hw2
                obtain ⟨j1, hj1⟩ : ∃ j1 : Int, ((M ++ [q]).length : Int) = j1 := ⟨_, rfl⟩
                have hw1 : wrap64 ((j : Int) + 1) = j1 := by
                  rw [← hj1, List.length_append, List.length_singleton, HM0.out]
                  exact wrap_next HJ2.out
                have hw3 : (j : Int) + 1 = j1 := by rw [← hj1, List.length_append, List.length_singleton, HM0.out]; rfl
                obtain ⟨hw4, hw5⟩ := i64_near (hw3 ▸ rfl : j1 = (j : Int) + 1) HJ2.out
                have t1 : (j1 == j1) = true := by simp
                have t2 : (y2 == y2) = true := by simp
                have CMc : Hid (∀ W, CpSt w b c2 M (M ++ [q]) (.slice pm j cm) q W → Calls Try.prog 17 #[.pointer (some ⟨c2, 0, none⟩)] W fun e w' => e = .returned (.int .i64 j1) ∧ CpSt w b c2 M (M ++ [q]) (.slice pm j cm) q w') := Lib.hid fun W h => by
                  rw [← hj1]
                  refine h.oneC.many.mono ?_
                  rintro e w' ⟨rfl, k⟩
                  exact ⟨rfl, h.keeps k⟩
                have CMb : Hid (∀ W, CpSt w b c2 M (M ++ [q]) (.slice pm j cm) q W → Calls Try.prog 17 #[.pointer (some ⟨b, 0, none⟩)] W fun e w' => e = .returned (.int .i64 (j : Int)) ∧ CpSt w b c2 M (M ++ [q]) (.slice pm j cm) q w') := Lib.hid fun W h => by
                  rw [← HM0.out]
                  refine h.oneB.many.mono ?_
                  rintro e w' ⟨rfl, k⟩
                  rw [HM0.out]
                  exact ⟨rfl, h.keeps k⟩
                have CBc : Hid (∀ W, CpSt w b c2 M (M ++ [q]) (.slice pm j cm) q W → Calls Try.prog 13 #[.pointer (some ⟨c2, 0, none⟩), .int .i64 q.deb, .int .i64 q.ord] W fun e w' => e = .returned (.int .i64 y2) ∧ CpSt w b c2 M (M ++ [q]) (.slice pm j cm) q w') := Lib.hid fun W h => by
                  rw [← hy2]
                  refine (h.oneC.bal q.deb q.ord HQ.out.1.deb HQ.out.1.ord).mono ?_
                  rintro e w' ⟨rfl, rfl⟩
                  exact ⟨rfl, h⟩
                have CBb : Hid (∀ W, CpSt w b c2 M (M ++ [q]) (.slice pm j cm) q W → Calls Try.prog 13 #[.pointer (some ⟨b, 0, none⟩), .int .i64 q.deb, .int .i64 q.ord] W fun e w' => e = .returned (.int .i64 y) ∧ CpSt w b c2 M (M ++ [q]) (.slice pm j cm) q w') := Lib.hid fun W h => by
                  rw [← hy]
                  refine (h.oneB.bal q.deb q.ord HQ.out.1.deb HQ.out.1.ord).mono ?_
                  rintro e w' ⟨rfl, rfl⟩
                  exact ⟨rfl, h⟩
                clear hy hy2 hj1 CLc CPC
                go_wp2
                refine wp_region_held_drew (S := fun W => CpSt w b c2 M (M ++ [q]) (.slice pm j cm) q W) (by kernel_rfl) (H12.out.keeps (bbel_drew _)) (fun hHeld => ?_)
                refine takeH (i := 0) (d := some 75) (v := ?zv0) rfl rfl (by kernel_rfl) (by kernel_rfl) (by kernel_rfl) (fun _ _ _ h => h) (Or.inl ⟨by rfl, ?zy0⟩) (by assumption) ?zr0
                case zy0 => (intro W hSw; obtain ⟨l1, l2, l4⟩ := CX.out _ _ hSw; go_simp; try with_reducible rfl)
                try simp only [Act.put, List.setIfInBounds_toArray, List.set_cons_zero, List.set_cons_succ]
                refine takeH (i := 2) (d := some 77) (v := ?zv2) rfl rfl (by kernel_rfl) (by kernel_rfl) (by kernel_rfl) (fun _ _ _ h => h) (Or.inl ⟨by rfl, ?zy2⟩) (by assumption) ?zr2
                case zy2 => (intro W hSw; obtain ⟨l1, l2, l4⟩ := CX.out _ _ hSw; go_simp; try with_reducible rfl)
                try simp only [Act.put, List.setIfInBounds_toArray, List.set_cons_zero, List.set_cons_succ]
                refine wpAnyH_ready (rs := [1]) (by kernel_rfl) (by simp) ?_
                refine AllReadyH.cons rfl (fun K hK => ?_) AllReadyH.nil
                go_simp
                refine (CLb.out _ _ hHeld).mono ?_
                rintro e wv ⟨p3, k3, rfl, hp3, hv⟩
                first | done | skip
                refine hK.out _ _ hv (fun hHeld => ?_)
                clear hK K hv
                try simp only [Act.put, List.setIfInBounds_toArray, List.set_cons_zero, List.set_cons_succ]
                refine wpAnyH_ready (rs := [3]) (by kernel_rfl) (by simp) ?_
                refine AllReadyH.cons rfl (fun K hK => ?_) AllReadyH.nil
                go_simp
                refine (CSA.out _ _ _ _ hp3 hHeld).mono ?_
                rintro e wv ⟨rfl, hv⟩
                first | done | skip
                refine hK.out _ _ hv (fun hHeld => ?_)
                clear hK K hv
                try simp only [Act.put, List.setIfInBounds_toArray, List.set_cons_zero, List.set_cons_succ]
                refine takeH (i := 4) (d := some 79) (v := ?zv4) rfl rfl (by kernel_rfl) (by kernel_rfl) (by kernel_rfl) (fun _ _ _ h => h) (Or.inl ⟨by rfl, ?zy4⟩) (by assumption) ?zr4
                case zy4 => (intro W hSw; obtain ⟨l1, l2, l4⟩ := CX.out _ _ hSw; go_simp; try with_reducible rfl)
                try simp only [Act.put, List.setIfInBounds_toArray, List.set_cons_zero, List.set_cons_succ]
                refine takeH (i := 5) (d := some 80) (v := ?zv5) rfl rfl (by kernel_rfl) (by kernel_rfl) (by kernel_rfl) (fun _ _ _ h => h) (Or.inl ⟨by rfl, ?zy5⟩) (by assumption) ?zr5
                case zy5 => (intro W hSw; obtain ⟨l1, l2, l4⟩ := CX.out _ _ hSw; go_simp; try with_reducible rfl)
                try simp only [Act.put, List.setIfInBounds_toArray, List.set_cons_zero, List.set_cons_succ]
                refine takeH (i := 6) (d := some 81) (v := ?zv6) rfl rfl (by kernel_rfl) (by kernel_rfl) (by kernel_rfl) (fun _ _ _ h => h) (Or.inl ⟨by rfl, ?zy6⟩) (by assumption) ?zr6
                case zy6 => (intro W hSw; obtain ⟨l1, l2, l4⟩ := CX.out _ _ hSw; go_simp; try with_reducible rfl)
                try simp only [Act.put, List.setIfInBounds_toArray, List.set_cons_zero, List.set_cons_succ]
                refine takeH (i := 7) (d := some 82) (v := ?zv7) rfl rfl (by kernel_rfl) (by kernel_rfl) (by kernel_rfl) (fun _ _ _ h => h) (Or.inl ⟨by rfl, ?zy7⟩) (by assumption) ?zr7
                case zy7 => (intro W hSw; obtain ⟨l1, l2, l4⟩ := CX.out _ _ hSw; go_simp; try with_reducible rfl)
                try simp only [Act.put, List.setIfInBounds_toArray, List.set_cons_zero, List.set_cons_succ]
                refine takeH (i := 8) (d := some 83) (v := ?zv8) rfl rfl (by kernel_rfl) (by kernel_rfl) (by kernel_rfl) (fun _ _ _ h => h) (Or.inl ⟨by rfl, ?zy8⟩) (by assumption) ?zr8
                case zy8 => (intro W hSw; obtain ⟨l1, l2, l4⟩ := CX.out _ _ hSw; go_simp; try with_reducible rfl)
                try simp only [Act.put, List.setIfInBounds_toArray, List.set_cons_zero, List.set_cons_succ]
                refine takeH (i := 10) (d := some 85) (v := ?zv10) rfl rfl (by kernel_rfl) (by kernel_rfl) (by kernel_rfl) (fun _ _ _ h => h) (Or.inl ⟨by rfl, ?zy10⟩) (by assumption) ?zr10
                case zy10 => (intro W hSw; obtain ⟨l1, l2, l4⟩ := CX.out _ _ hSw; go_simp; try with_reducible rfl)
                try simp only [Act.put, List.setIfInBounds_toArray, List.set_cons_zero, List.set_cons_succ]
                refine wpAnyH_ready (rs := [9]) (by kernel_rfl) (by simp) ?_
                refine AllReadyH.cons rfl (fun K hK => ?_) AllReadyH.nil
                go_simp
                refine (CMc.out _ hHeld).mono ?_
                rintro e wv ⟨rfl, hv⟩
                first | done | skip
                refine hK.out _ _ hv (fun hHeld => ?_)
                clear hK K hv
                try simp only [Act.put, List.setIfInBounds_toArray, List.set_cons_zero, List.set_cons_succ]
                refine wpAnyH_ready (rs := [11]) (by kernel_rfl) (by simp) ?_
                refine AllReadyH.cons rfl (fun K hK => ?_) AllReadyH.nil
                go_simp
                refine (CMb.out _ hHeld).mono ?_
                rintro e wv ⟨rfl, hv⟩
                first | done | skip
                refine hK.out _ _ hv (fun hHeld => ?_)
                clear hK K hv
                try simp only [Act.put, List.setIfInBounds_toArray, List.set_cons_zero, List.set_cons_succ]
                refine takeH (i := 12) (d := some 87) (v := ?zv12) rfl rfl (by kernel_rfl) (by kernel_rfl) (by kernel_rfl) (fun _ _ _ h => h) (Or.inl ⟨by rfl, ?zy12⟩) (by assumption) ?zr12
                case zy12 => (intro W hSw; obtain ⟨l1, l2, l4⟩ := CX.out _ _ hSw; go_simp; try with_reducible rfl)
                try simp only [Act.put, List.setIfInBounds_toArray, List.set_cons_zero, List.set_cons_succ]
                refine takeH (i := 13) (d := some 88) (v := ?zv13) rfl rfl (by kernel_rfl) (by kernel_rfl) (by kernel_rfl) (fun _ _ _ h => h) (Or.inl ⟨by rfl, ?zy13⟩) (by assumption) ?zr13
                case zy13 => (intro W hSw; obtain ⟨l1, l2, l4⟩ := CX.out _ _ hSw; go_simp; try with_reducible rfl)
                try simp only [Act.put, List.setIfInBounds_toArray, List.set_cons_zero, List.set_cons_succ]
                refine takeH (i := 14) (d := some 89) (v := ?zv14) rfl rfl (by kernel_rfl) (by kernel_rfl) (by kernel_rfl) (fun _ _ _ h => h) (Or.inl ⟨by rfl, ?zy14⟩) (by assumption) ?zr14
                case zy14 => (intro W hSw; obtain ⟨l1, l2, l4⟩ := CX.out _ _ hSw; go_simp; try with_reducible rfl)
                try simp only [Act.put, List.setIfInBounds_toArray, List.set_cons_zero, List.set_cons_succ]
                refine takeH (i := 15) (d := some 90) (v := ?zv15) rfl rfl (by kernel_rfl) (by kernel_rfl) (by kernel_rfl) (fun _ _ _ h => h) (Or.inl ⟨by rfl, ?zy15⟩) (by assumption) ?zr15
                case zy15 => (intro W hSw; obtain ⟨l1, l2, l4⟩ := CX.out _ _ hSw; go_simp; try with_reducible rfl)
                try simp only [Act.put, List.setIfInBounds_toArray, List.set_cons_zero, List.set_cons_succ]
                refine takeH (i := 16) (d := some 91) (v := ?zv16) rfl rfl (by kernel_rfl) (by kernel_rfl) (by kernel_rfl) (fun _ _ _ h => h) (Or.inl ⟨by rfl, ?zy16⟩) (by assumption) ?zr16
                case zy16 => (intro W hSw; obtain ⟨l1, l2, l4⟩ := CX.out _ _ hSw; go_simp; try with_reducible rfl)
                try simp only [Act.put, List.setIfInBounds_toArray, List.set_cons_zero, List.set_cons_succ]
                refine takeH (i := 17) (d := some 92) (v := ?zv17) rfl rfl (by kernel_rfl) (by kernel_rfl) (by kernel_rfl) (fun _ _ _ h => h) (Or.inl ⟨by rfl, ?zy17⟩) (by assumption) ?zr17
                case zy17 => (intro W hSw; obtain ⟨l1, l2, l4⟩ := CX.out _ _ hSw; go_simp; try with_reducible rfl)
                try simp only [Act.put, List.setIfInBounds_toArray, List.set_cons_zero, List.set_cons_succ]
                refine takeH (i := 18) (d := some 93) (v := ?zv18) rfl rfl (by kernel_rfl) (by kernel_rfl) (by kernel_rfl) (fun _ _ _ h => h) (Or.inl ⟨by rfl, ?zy18⟩) (by assumption) ?zr18
                case zy18 => (intro W hSw; obtain ⟨l1, l2, l4⟩ := CX.out _ _ hSw; go_simp; try with_reducible rfl)
                try simp only [Act.put, List.setIfInBounds_toArray, List.set_cons_zero, List.set_cons_succ]
                refine takeH (i := 19) (d := some 94) (v := ?zv19) rfl rfl (by kernel_rfl) (by kernel_rfl) (by kernel_rfl) (fun _ _ _ h => h) (Or.inl ⟨by rfl, ?zy19⟩) (by assumption) ?zr19
                case zy19 => (intro W hSw; obtain ⟨l1, l2, l4⟩ := CX.out _ _ hSw; go_simp; try with_reducible rfl)
                try simp only [Act.put, List.setIfInBounds_toArray, List.set_cons_zero, List.set_cons_succ]
                refine takeH (i := 21) (d := some 96) (v := ?zv21) rfl rfl (by kernel_rfl) (by kernel_rfl) (by kernel_rfl) (fun _ _ _ h => h) (Or.inl ⟨by rfl, ?zy21⟩) (by assumption) ?zr21
                case zy21 => (intro W hSw; obtain ⟨l1, l2, l4⟩ := CX.out _ _ hSw; go_simp; try with_reducible rfl)
                try simp only [Act.put, List.setIfInBounds_toArray, List.set_cons_zero, List.set_cons_succ]
                refine takeH (i := 22) (d := some 97) (v := ?zv22) rfl rfl (by kernel_rfl) (by kernel_rfl) (by kernel_rfl) (fun _ _ _ h => h) (Or.inl ⟨by rfl, ?zy22⟩) (by assumption) ?zr22
                case zy22 => (intro W hSw; obtain ⟨l1, l2, l4⟩ := CX.out _ _ hSw; go_simp; try with_reducible rfl)
                try simp only [Act.put, List.setIfInBounds_toArray, List.set_cons_zero, List.set_cons_succ]
                refine takeH (i := 23) (d := some 98) (v := ?zv23) rfl rfl (by kernel_rfl) (by kernel_rfl) (by kernel_rfl) (fun _ _ _ h => h) (Or.inl ⟨by rfl, ?zy23⟩) (by assumption) ?zr23
                case zy23 => (intro W hSw; obtain ⟨l1, l2, l4⟩ := CX.out _ _ hSw; go_simp; try with_reducible rfl)
                try simp only [Act.put, List.setIfInBounds_toArray, List.set_cons_zero, List.set_cons_succ]
                refine takeH (i := 24) (d := some 99) (v := ?zv24) rfl rfl (by kernel_rfl) (by kernel_rfl) (by kernel_rfl) (fun _ _ _ h => h) (Or.inl ⟨by rfl, ?zy24⟩) (by assumption) ?zr24
                case zy24 => (intro W hSw; obtain ⟨l1, l2, l4⟩ := CX.out _ _ hSw; go_simp; try with_reducible rfl)
                try simp only [Act.put, List.setIfInBounds_toArray, List.set_cons_zero, List.set_cons_succ]
                refine takeH (i := 25) (d := some 100) (v := ?zv25) rfl rfl (by kernel_rfl) (by kernel_rfl) (by kernel_rfl) (fun _ _ _ h => h) (Or.inl ⟨by rfl, ?zy25⟩) (by assumption) ?zr25
                case zy25 => (intro W hSw; obtain ⟨l1, l2, l4⟩ := CX.out _ _ hSw; go_simp; try with_reducible rfl)
                try simp only [Act.put, List.setIfInBounds_toArray, List.set_cons_zero, List.set_cons_succ]
                refine takeH (i := 27) (d := some 102) (v := ?zv27) rfl rfl (by kernel_rfl) (by kernel_rfl) (by kernel_rfl) (fun _ _ _ h => h) (Or.inl ⟨by rfl, ?zy27⟩) (by assumption) ?zr27
                case zy27 => (intro W hSw; obtain ⟨l1, l2, l4⟩ := CX.out _ _ hSw; go_simp; try with_reducible rfl)
                try simp only [Act.put, List.setIfInBounds_toArray, List.set_cons_zero, List.set_cons_succ]
                refine takeH (i := 28) (d := some 103) (v := ?zv28) rfl rfl (by kernel_rfl) (by kernel_rfl) (by kernel_rfl) (fun _ _ _ h => h) (Or.inl ⟨by rfl, ?zy28⟩) (by assumption) ?zr28
                case zy28 => (intro W hSw; obtain ⟨l1, l2, l4⟩ := CX.out _ _ hSw; go_simp; try with_reducible rfl)
                try simp only [Act.put, List.setIfInBounds_toArray, List.set_cons_zero, List.set_cons_succ]
                refine wpAnyH_ready (rs := [20]) (by kernel_rfl) (by simp) ?_
                refine AllReadyH.cons rfl (fun K hK => ?_) AllReadyH.nil
                go_simp
                refine (CBc.out _ hHeld).mono ?_
                rintro e wv ⟨rfl, hv⟩
                first | done | skip
                refine hK.out _ _ hv (fun hHeld => ?_)
                clear hK K hv
                try simp only [Act.put, List.setIfInBounds_toArray, List.set_cons_zero, List.set_cons_succ]
                refine wpAnyH_ready (rs := [26]) (by kernel_rfl) (by simp) ?_
                refine AllReadyH.cons rfl (fun K hK => ?_) AllReadyH.nil
                go_simp
                refine (CBb.out _ hHeld).mono ?_
                rintro e wv ⟨rfl, hv⟩
                first | done | skip
                refine hK.out _ _ hv (fun hHeld => ?_)
                clear hK K hv
                try simp only [Act.put, List.setIfInBounds_toArray, List.set_cons_zero, List.set_cons_succ]
                refine takeH (i := 29) (d := some 104) (v := ?zv29) rfl rfl (by kernel_rfl) (by kernel_rfl) (by kernel_rfl) (fun _ _ _ h => h) (Or.inl ⟨by rfl, ?zy29⟩) (by assumption) ?zr29
                case zy29 => (intro W hSw; obtain ⟨l1, l2, l4⟩ := CX.out _ _ hSw; go_simp; try with_reducible rfl)
                try simp only [Act.put, List.setIfInBounds_toArray, List.set_cons_zero, List.set_cons_succ]
                refine takeH (i := 30) (d := some 105) (v := ?zv30) rfl rfl (by kernel_rfl) (by kernel_rfl) (by kernel_rfl) (fun _ _ _ h => h) (Or.inl ⟨by rfl, ?zy30⟩) (by assumption) ?zr30
                case zy30 => (intro W hSw; obtain ⟨l1, l2, l4⟩ := CX.out _ _ hSw; go_simp; try with_reducible rfl)
                try simp only [Act.put, List.setIfInBounds_toArray, List.set_cons_zero, List.set_cons_succ]
                refine takeH (i := 31) (d := some 106) (v := ?zv31) rfl rfl (by kernel_rfl) (by kernel_rfl) (by kernel_rfl) (fun _ _ _ h => h) (Or.inl ⟨by rfl, ?zy31⟩) (by assumption) ?zr31
                case zy31 => (intro W hSw; obtain ⟨l1, l2, l4⟩ := CX.out _ _ hSw; go_simp; try with_reducible rfl)
                try simp only [Act.put, List.setIfInBounds_toArray, List.set_cons_zero, List.set_cons_succ]
                refine takeH (i := 32) (d := some 107) (v := ?zv32) rfl rfl (by kernel_rfl) (by kernel_rfl) (by kernel_rfl) (fun _ _ _ h => h) (Or.inl ⟨by rfl, ?zy32⟩) (by assumption) ?zr32
                case zy32 => (intro W hSw; obtain ⟨l1, l2, l4⟩ := CX.out _ _ hSw; go_simp; try with_reducible rfl)
                try simp only [Act.put, List.setIfInBounds_toArray, List.set_cons_zero, List.set_cons_succ]
                refine takeH (i := 33) (d := some 108) (v := ?zv33) rfl rfl (by kernel_rfl) (by kernel_rfl) (by kernel_rfl) (fun _ _ _ h => h) (Or.inl ⟨by rfl, ?zy33⟩) (by assumption) ?zr33
                case zy33 => (intro W hSw; obtain ⟨l1, l2, l4⟩ := CX.out _ _ hSw; go_simp; try with_reducible rfl)
                try simp only [Act.put, List.setIfInBounds_toArray, List.set_cons_zero, List.set_cons_succ]
                refine takeH (i := 34) (d := some 109) (v := ?zv34) rfl rfl (by kernel_rfl) (by kernel_rfl) (by kernel_rfl) (fun _ _ _ h => h) (Or.inl ⟨by rfl, ?zy34⟩) (by assumption) ?zr34
                case zy34 => (intro W hSw; obtain ⟨l1, l2, l4⟩ := CX.out _ _ hSw; go_simp; try with_reducible rfl)
                try simp only [Act.put, List.setIfInBounds_toArray, List.set_cons_zero, List.set_cons_succ]
                refine wpAnyH_ready (rs := [35]) (by kernel_rfl) (by simp) ?_
                refine AllReadyH.cons rfl (fun K hK => ?_) AllReadyH.nil
                go_simp
                refine (CT.out _ _ hHeld).mono ?_
                rintro e wv ⟨rfl, hv⟩
                first | done | skip
                refine hK.out _ _ hv (fun hHeld => ?_)
                clear hK K hv
                try simp only [Act.put, List.setIfInBounds_toArray, List.set_cons_zero, List.set_cons_succ]
                refine takeH (i := 36) (d := some 111) (v := ?zv36) rfl rfl (by kernel_rfl) (by kernel_rfl) (by kernel_rfl) (fun _ _ _ h => h) (Or.inl ⟨by rfl, ?zy36⟩) (by assumption) ?zr36
                case zy36 => (intro W hSw; obtain ⟨l1, l2, l4⟩ := CX.out _ _ hSw; go_simp; try with_reducible rfl)
                try simp only [Act.put, List.setIfInBounds_toArray, List.set_cons_zero, List.set_cons_succ]
                refine takeH (i := 37) (d := some 4) (v := ?zv37) rfl rfl (by kernel_rfl) (by kernel_rfl) (by kernel_rfl) (fun _ _ _ h => h) (Or.inl ⟨by rfl, ?zy37⟩) (by assumption) ?zr37
                case zy37 => (intro W hSw; obtain ⟨l1, l2, l4⟩ := CX.out _ _ hSw; go_simp; try with_reducible rfl)
                try simp only [Act.put, List.setIfInBounds_toArray, List.set_cons_zero, List.set_cons_succ]
                refine wpAnyH_done (by kernel_rfl) ?_ _
                go_wp2
                go_ret
                exact ⟨rfl, CpSt.keep hHeld⟩
theorem booksCopy_go (v : Value) (L : List PI) (p : PI) (w : World) (h : PostsAt w v L) (hp hp' : p.Good) :
    Calls Try.prog 7 #[v, p.val] w fun e w' => e = .returned (.bool true) ∧ Keeps w w' := bookscopy_any v L p w h hp
end Go.Proofs.Ytffipjhpoaalhaa
