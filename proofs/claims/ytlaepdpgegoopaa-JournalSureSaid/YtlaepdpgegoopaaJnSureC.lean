
/- The walk of JournalSure. -/
import Derived.Test.YtlaepdpgegoopaaJnState
import Derived.Test.YtlaepdpgegoopaaJnActs
import Derived.Deep.CutBlock
import Derived.Deep.DeepCutAuto
import Derived.Laws.BitsLemmas
import Derived.Deep.QuietTactic
import Derived.BigQuiet
set_option linter.unusedVariables false
namespace Go.Proofs.Ytlaepdpgegoopaa
open Go.ChangeShapes Go.WideShapes Go.ChangeAt Go.RowKit Go.Maps Csv Dk Jn

theorem foreign_st : Foreign tSt := by unfold Foreign; decide
theorem foreign_act : Foreign tAct8 := by unfold Foreign; decide
theorem foreign_S : Foreign tS := by unfold Foreign; decide
/-- A box of a state. -/
def StBox (W : World) (x : Nat) (s : Bs) (v : Value) : Prop := W.heap[x]? = some (.cells #[sv s, v] tSt (0, 0))
theorem StBox.quiet {W W' : World} {x : Nat} {s : Bs} {v : Value} (h : StBox W x s v) (q : Quiet W W') : StBox W' x s v := q x _ _ h foreign_st
theorem StBox.cells {W : World} {x : Nat} {s : Bs} {v : Value} (h : StBox W x s v) : W.cell? ⟨x, 0, none⟩ = some (sv s) ∧ W.cell? ⟨x, 1, none⟩ = some v ∧ W.frozen? ⟨x, 0, none⟩ = false ∧ W.frozen? ⟨x, 1, none⟩ = false :=
  ⟨Joins.cell_of_block h 0, Joins.cell_of_block h 1, Joins.unfrozen_of_block h 0, Joins.unfrozen_of_block h 1⟩
theorem StBox.set {W : World} {x : Nat} {s s' : Bs} {v v' : Value} (h : StBox W x s v) : StBox (set2 W x (sv s') v') x s' v' := by
  have b1 := Joins.block_setCell (i := 0) h (sv s')
  have b2 := Joins.block_setCell (i := 1) b1 v'
  unfold StBox
  rw [b2]; rfl
theorem set2_other {W : World} {x : Nat} {u v : Value} {y : Nat} (hy : y ≠ x) : (set2 W x u v).heap[y]? = W.heap[y]? := by
  rw [Below.heap_setCell _ _ _ _ hy, Below.heap_setCell _ _ _ _ hy]
/-- A box of an act. -/
def ActBox (W : World) (x : Nat) (a : Act8) : Prop := W.heap[x]? = some (.cells #[.int .u8 (a.kind : Int), .string a.s, .int .i64 a.n, .int .i64 a.size, a.kv] tAct8 (0, 0))
theorem ActBox.quiet {W W' : World} {x : Nat} {a : Act8} (h : ActBox W x a) (q : Quiet W W') : ActBox W' x a := q x _ _ h foreign_act
/-- Something of other blocks is stored. -/
theorem OwnJ.stored {w0 W : World} {C : Nat} {M : Int} {d b : Nat} {R : List Bs} {nf : Bool} (h : OwnJ w0 C M d b R [] nf W) {x : Nat} {s : Bs} {v : Value} (hx : StBox W x s v) (hw : w0.heap.size ≤ x) (u u' : Value) : OwnJ w0 C M d b R [] nf (set2 W x u u') := by
  obtain ⟨D, J, G, h1, h2, h3, hs, h4, h5, h6, h7⟩ := h
  have hG := foreign_off h1.disk hx foreign_st
  have hb := foreign_ne h1.jn hx foreign_st
  exact ⟨D, J, G, ⟨h1.disk.local fun y hy => set2_other fun e => hG (e ▸ hy), h1.jn.local (set2_other hb.symm), h1.off⟩, h2, h3, hs, (h4.setCell (p := ⟨x, 0, none⟩) hw _).setCell (p := ⟨x, 1, none⟩) hw _, h5, h6, fun p hp => by cases hp⟩
theorem OwnD.stored {w0 W : World} {C : Nat} {M : Int} {d : Nat} {up : Bool} {R : List Bs} {nf : Bool} (h : OwnD w0 C M d up R [] nf W) {x : Nat} {s : Bs} {v : Value} (hx : StBox W x s v) (hw : w0.heap.size ≤ x) (u u' : Value) : OwnD w0 C M d up R [] nf (set2 W x u u') := by
  obtain ⟨D, G, h1, h2, h3, h4, hs, h6, h7, h8⟩ := h
  have hG := foreign_off h1 hx foreign_st
  exact ⟨D, G, h1.local fun y hy => set2_other fun e => hG (e ▸ hy), h2, h3, h4, hs, (h6.setCell (p := ⟨x, 0, none⟩) hw _).setCell (p := ⟨x, 1, none⟩) hw _, h7, fun p hp => by cases hp⟩
theorem TxtB.stored {W : World} {v : Value} {l : List Bs} (h : TxtB W v l) {x : Nat} {s : Bs} {v' : Value} (hx : StBox W x s v') (u u' : Value) : TxtB (set2 W x u u') v l := by
  obtain ⟨⟨p, c, e, hm, hc⟩, h2, h3⟩ := h
  rcases h3 with rfl | ⟨g, o, n, c', cs, rfl, hg⟩
  · exact ⟨⟨p, c, e, hm, fun j x hx => by simp at hx⟩, h2, Or.inl rfl⟩
  · have hne : g ≠ x := tag_ne hg hx (by decide)
    have hg' : (set2 W x u u').heap[g]? = W.heap[g]? := set2_other hne
    cases e
    refine ⟨⟨_, _, rfl, hm, fun j x hx => ?_⟩, h2, Or.inr ⟨g, o, _, _, cs, rfl, hg'.trans hg⟩⟩
    obtain ⟨a, ea, hcell⟩ := hc j x hx
    cases ea
    have hb : ((⟨g, o, none⟩ : Addr).add j).block = g := by unfold Addr.add; split <;> rfl
    refine ⟨_, rfl, ?_⟩
    rw [World.cell?_of_block (w := W) (by rw [hb]; exact hg')]
    exact hcell
/-- A row of the call's own. -/
theorem own_txt {w : World} {B n : Nat} {p : Option Addr} {c : Nat} {l : List Bs} (h : w.ownsRow B tS 1 (.slice p n c) n (svs l)) (hn : n = l.length) : TxtB w (.slice p n c) l := by
  subst hn
  refine ⟨own_strs h, fun p' n' c' e => ?_, ?_⟩
  · rcases h.2 with ⟨e', h0⟩ | ⟨g, cap, cur, e', _, _, r1, _⟩
    · simp only [Value.slice.injEq] at e e'
      omega
    · simp only [Value.slice.injEq] at e e'
      omega
  · rcases h.2 with ⟨e', h0⟩ | ⟨g, cap, cur, e', _, hg, _⟩
    · exact Or.inl (List.length_eq_zero_iff.1 h0)
    · cases e'; exact Or.inr ⟨g, 0, _, _, cur, rfl, hg⟩

/-- A few low bits of a number. -/
theorem low_bits (n : Int) (k : Nat) (m : Int) (hm : (BitVec.ofInt 64 m).toNat = 2 ^ k - 1) (hk : k ≤ 10) : bits .and .i64 n m = (((n % ((2 ^ 64 : Nat) : Int)).toNat % 2 ^ k : Nat) : Int) := by
  show IntKind.i64.wrap ((BitVec.ofInt 64 n &&& BitVec.ofInt 64 m).toNat : Nat) = _
  rw [BitVec.toNat_and, BitVec.toNat_ofInt, hm, Nat.and_two_pow_sub_one_eq_mod]
  have h1 : (n % ((2 ^ 64 : Nat) : Int)).toNat % 2 ^ k < 2 ^ k := Nat.mod_lt _ (Nat.two_pow_pos k)
  have h2 : 2 ^ k ≤ 2 ^ 10 := Nat.pow_le_pow_right (by omega) hk
  have h3 : (2 : Nat) ^ 10 = 1024 := by decide
  generalize (n % ((2 ^ 64 : Nat) : Int)).toNat % 2 ^ k = q at *
  rw [IntKind.wrap_i64]
  omega
theorem low15 (n : Int) : ∃ q : Nat, bits .and .i64 n 15 = (q : Int) ∧ q < 16 := ⟨_, low_bits n 4 15 (by decide) (by omega), Nat.mod_lt _ (by decide)⟩
theorem low3 (n : Int) : ∃ q : Nat, bits .and .i64 n 3 = (q : Int) ∧ q < 4 := ⟨_, low_bits n 2 3 (by decide) (by omega), Nat.mod_lt _ (by decide)⟩
/-- An Append, or a Compact, of few bytes: the number that it answers. -/
theorem AddOut.num {w0 : World} {C : Nat} {M M' : Int} {d b : Nat} {R R2 : List Bs} {nf : Bool} {long full : Prop} {e : Ending} {w' : World} (h : AddOut w0 C M M' d b R R2 [] nf long full e w') (hl : ¬ long) (hM : M ≤ M') :
    ∃ q : Int, e = .returned (.int .i64 q) ∧ ((q = 0 ∧ OwnJ w0 C M' d b R2 [] nf w') ∨ (q = 60 ∧ OwnJ w0 C M' d b R [] nf w') ∨ (q = 61 ∧ ∃ R', (R' = R ∨ R' = R2) ∧ OwnD w0 C M' d false R' [] true w')) := by
  rcases h with ⟨rfl, _, _, h⟩ | ⟨_, h, _⟩ | ⟨rfl, _, h⟩ | ⟨rfl, _, h⟩
  · exact ⟨0, rfl, Or.inl ⟨rfl, h⟩⟩
  · exact absurd h hl
  · exact ⟨60, rfl, Or.inr (Or.inl ⟨rfl, h.more hM⟩)⟩
  · exact ⟨61, rfl, Or.inr (Or.inr ⟨rfl, h⟩)⟩
/-- A call that leaves the world alone, in a region that draws its order. -/
theorem jq_same {P : Program} {f : FuncId} {args : Array Value} {w : World} {n : Nat} {v : Value} (h : Calls P f args (w.drewN n) fun e w' => e = .returned v ∧ w.drewN n = w') : Calls P f args (w.drewN n) fun e w'' => e = .returned v ∧ ∃ m, w'' = w.drewN m :=
  h.mono fun _ _ ⟨he, hm⟩ => ⟨he, n, hm.symm⟩
theorem keeps_dN (w : World) (n : Nat) : Keeps w (w.drewN n) := ⟨rfl, rfl, rfl, Nat.le_refl _, fun _ _ => rfl⟩
/-- At the head of the loop. -/
def SureAt (w : World) (d SB k : Nat) (vj : Value) (W : World) : Prop :=
  ∃ b s l v, vj = ptrV b ∧ OwnJ w 300000 (k : Int) d b (s :: l) [] false W ∧ StBox W SB s v ∧ TxtB W v l ∧ l.length ≤ k
/-- Behind an act. -/
def DoneAt (w : World) (d SB AB k b : Nat) (s : Bs) (l : List Bs) (v : Value) (vg : Value) (W : World) : Prop :=
  StBox W SB s v ∧ TxtB W v l ∧ ∃ s2 l2 v2, StBox W AB s2 v2 ∧ TxtB W v2 l2 ∧ l2.length ≤ k + 1 ∧
    ((vg = .int .i64 0 ∧ OwnJ w 300000 ((k + 1 : Nat) : Int) d b (s2 :: l2) [] false W) ∨ (vg = .int .i64 60 ∧ OwnJ w 300000 ((k + 1 : Nat) : Int) d b (s :: l) [] false W) ∨
     (vg = .int .i64 61 ∧ ∃ R', (R' = s :: l ∨ R' = s2 :: l2) ∧ OwnD w 300000 ((k + 1 : Nat) : Int) d false R' [] true W) ∨
     (vg = .int .i64 0 ∧ s2 = s ∧ l2 = l ∧ v2 = v ∧ OwnD w 300000 ((k + 1 : Nat) : Int) d false (s :: l) [] true W))

/-- The state that an act would lead to is stored. -/
theorem done_mk {w W : World} {d SB AB XB k b : Nat} {s s0 s2 : Bs} {l l2 : List Bs} {v v0 v2 : Value} {q : Int} {cs : Array Value} (hB : StBox W SB s v) (hT : TxtB W v l) (hA : StBox W AB s0 v0) (hn : AB ≠ SB) (hw : w.heap.size ≤ AB) (hT2 : TxtB W v2 l2) (hl2 : l2.length ≤ k + 1) (hX : W.heap[XB]? = some (.cells cs tAct8 (0, 0)))
    (hq : (q = 0 ∧ OwnJ w 300000 ((k + 1 : Nat) : Int) d b (s2 :: l2) [] false W) ∨ (q = 60 ∧ OwnJ w 300000 ((k + 1 : Nat) : Int) d b (s :: l) [] false W) ∨ (q = 61 ∧ ∃ R', (R' = s :: l ∨ R' = s2 :: l2) ∧ OwnD w 300000 ((k + 1 : Nat) : Int) d false R' [] true W)) :
    DoneAt w d SB AB k b s l v (.int .i64 q) (set2 W AB (sv s2) v2) ∧ (set2 W AB (sv s2) v2).heap[XB]? = some (.cells cs tAct8 (0, 0)) := by
  have hXA : XB ≠ AB := tag_ne hX hA (by decide)
  refine ⟨⟨?_, hT.stored hA _ _, s2, l2, v2, hA.set, hT2.stored hA _ _, hl2, ?_⟩, (set2_other hXA).trans hX⟩
  · unfold StBox; rw [set2_other hn.symm]; exact hB
  · rcases hq with ⟨rfl, h⟩ | ⟨rfl, h⟩ | ⟨rfl, R', h1, h⟩
    · exact Or.inl ⟨rfl, h.stored hA hw _ _⟩
    · exact Or.inr (Or.inl ⟨rfl, h.stored hA hw _ _⟩)
    · exact Or.inr (Or.inr (Or.inl ⟨rfl, R', h1, h.stored hA hw _ _⟩))
/-- Within the loop that opens again. -/
def InAt (w : World) (d SB AB XB k t : Nat) (cs : Array Value) (vj : Value) (W : World) : Prop :=
  W.heap[XB]? = some (.cells cs tAct8 (0, 0)) ∧
  ((t ≤ 3 ∧ ∃ s1 l1 v1 s2 l2 v2 R', StBox W SB s1 v1 ∧ TxtB W v1 l1 ∧ StBox W AB s2 v2 ∧ TxtB W v2 l2 ∧ l1.length ≤ k + 1 ∧ l2.length ≤ k + 1 ∧ (R' = s1 :: l1 ∨ R' = s2 :: l2) ∧ OwnD w 300000 ((k + 1 : Nat) : Int) d false R' [] true W) ∨
   (∃ b3 s3 l3 v3, vj = ptrV b3 ∧ OwnJ w 300000 ((k + 1 : Nat) : Int) d b3 (s3 :: l3) [] false W ∧ StBox W SB s3 v3 ∧ TxtB W v3 l3 ∧ l3.length ≤ k + 1))
theorem InAt.keeps {w : World} {d SB AB XB k t : Nat} {cs : Array Value} {vj : Value} {W W' : World} (h : InAt w d SB AB XB k t cs vj W) (kk : Keeps W W') : InAt w d SB AB XB k t cs vj W' := by
  obtain ⟨hX, hc⟩ := h
  have q := Quiet.keeps kk
  refine ⟨q _ _ _ hX foreign_act, ?_⟩
  rcases hc with ⟨h0, s1, l1, v1, s2, l2, v2, R', h1, h2, h3, h4, h5, h6, h7, h8⟩ | ⟨b3, s3, l3, v3, h1, h2, h3, h4, h5⟩
  · exact Or.inl ⟨h0, s1, l1, v1, s2, l2, v2, R', h1.quiet q, h2.quiet q, h3.quiet q, h4.quiet q, h5, h6, h7, h8.keeps kk⟩
  · exact Or.inr ⟨b3, s3, l3, v3, h1, h2.keeps kk, h3.quiet q, h4.quiet q, h5⟩
theorem OwnJ.step {w0 W : World} {C : Nat} {M M' : Int} {d b : Nat} {R : List Bs} {nf : Bool} (h : OwnJ w0 C M d b R [] nf W) (e : M = M') : OwnJ w0 C M' d b R [] nf W := e ▸ h

set_option maxRecDepth 100000 in
set_option maxHeartbeats 16000000 in
theorem journalSure_go (va : Value) (L : List Act8) (w : World) (h : Acts8At w va L) :
    Calls Try.prog 4 #[va] w fun e w' => e = .returned (.bool true) ∧ Keeps w w' := by
  have CG := Lib.hid (great_any8 va L 60 w h (by omega))
  obtain ⟨p, c, rfl, lL, hL⟩ := h
  obtain ⟨N, hN⟩ : ∃ N, L.length = N := ⟨_, rfl⟩
  have HL := Lib.hid hL
  have HN := Lib.hid hN
  rw [hN] at lL CG ⊢
  unfold maxLen at lL
  obtain ⟨gr, hgr⟩ : ∃ g, greatB8 L 60 = g := ⟨_, rfl⟩
  rw [hgr] at CG
  have CG : Hid (Calls Try.prog 14 #[.slice p N c, .int .i64 60] w fun e w' => e = .returned (.bool gr) ∧ w = w') := CG
  cases gr with
  | true =>
    clear hL hN hgr
    go_enter Try.func4, Try.ntmps4
    go_wp2_with fail
    refine CG.out.mono ?_
    rintro e w' ⟨rfl, rfl⟩
    go_wp2_with fail
    refine (kept_any _).mono ?_
    rintro e w1 ⟨rfl, k1⟩
    go_wp2
    go_ret
    exact ⟨rfl, k1⟩
  | false =>
    obtain ⟨hN60, hgood⟩ := great_no8 hgr
    rw [hN] at hN60
    have HG := Lib.hid fun (j : Nat) (x : Act8) (hx : L[j]? = some x) => hgood x (List.mem_of_getElem? hx)
    clear hL hN hgr hgood
    go_enter Try.func4, Try.ntmps4
    go_wp2_with fail
    refine CG.out.mono ?_
    rintro e w' ⟨rfl, rfl⟩
    go_wp2_with fail
    refine (new_own 300000 w w (Keeps.refl _) (by omega)).mono ?_
    rintro e w0 ⟨d, rfl, h0⟩
    have H0 := Lib.hid h0
    clear h0
    unfold ptrV
    go_wp2_with fail
    refine (jopen_new H0.out (by omega) (by omega)).mono ?_
    rintro e w1 ⟨b, vb, rfl, h1, _⟩
    have H1 := Lib.hid (h1.less (rows' := []) fun p hp => by cases hp)
    clear h1 H0
    unfold ptrV
    go_wp2
    obtain ⟨SB, hSB⟩ : ∃ x, w1.heap.size = x := ⟨_, rfl⟩
    have HSB := Lib.hid (show w.heap.size ≤ SB by rw [← hSB]; exact H1.out.kept.size)
    have HST : Hid (SureAt w d SB 0 (.pointer (some ⟨b, 0, none⟩)) (w1.alloc (.cells #[.string ⟨#[]⟩, .slice none 0 0] tSt))) := Lib.hid (by
      refine ⟨b, [], [], .slice none 0 0, rfl, (H1.out.keeps (keeps_lit _ _)).any, ?_, ?_, by simp⟩
      · unfold StBox; rw [← hSB]; exact heap_alloc_new _ _
      · exact ⟨StrsAt.nil _, fun p n c e => by cases e; exact Nat.le_refl _, Or.inl rfl⟩)
    rw [hSB]
    clear hSB
    go_loopw [5, 10] (fun vj vi wr => ∃ k : Nat, k ≤ N ∧ vi = .int .i64 (k : Int) ∧ SureAt w d SB k vj wr) (fun _ vi _ => N - (intOf vi).toNat)
    case atStart => exact ⟨0, by omega, rfl, HST.out⟩
    case round =>
      obtain ⟨k, hk, rfl, b, s, l, v, rfl, ho, hbx, htx, hlk⟩ := hrel
      obtain ⟨pv, cv, rfl, _, _⟩ := htx.1
      have HO := Lib.hid ho
      have HB := Lib.hid hbx
      have HT := Lib.hid htx
      clear ho hbx htx H1 HST
      by_cases hlt : k < N
      · obtain ⟨x, hx⟩ : ∃ x, L[k]? = some x := ⟨_, List.getElem?_eq_getElem (by have := HN.out; omega)⟩
        obtain ⟨hg, a, rfl, q0, q1, q2, q3, q4, q5⟩ := HL.out k x hx
        have hb5 := HG.out k x hx
        have k0 := HO.out.kept
        have q0' := cell_keeps k0 q0
        have q1' := cell_keeps k0 q1
        have q2' := cell_keeps k0 q2
        have q3' := cell_keeps k0 q3
        have q4' := cell_keeps k0 q4
        have hi1 : (k : Int) < (N : Int) := by omega
        obtain ⟨c0, c1, _, _⟩ := HB.out.cells
        have nSB : SB ≠ wr.heap.size := Ne.symm (World.new_ne _ _ c0)
        have nSB2 : SB < wr.heap.size := block_lt HB.out
        obtain ⟨kd, S, n, sz, kv, ks⟩ := x
        obtain ⟨pk, ck, ekv, _, _⟩ := q5
        have HI := Lib.hid (HL.out k _ hx).2
        have hS : S.size ≤ 3000 := hb5.1
        have hgs : Act8.Good ⟨kd, S, n, sz, kv, ks⟩ := hg
        have HGOOD := Lib.hid hgs
        have HSM := Lib.hid (show S.size ≤ maxLen by unfold maxLen; omega)
        simp only at q0' q1' q2' q3' q4' ekv
        have HI : Hid (IntsAt w kv ks) := Lib.hid (by obtain ⟨_, _, _, _, _, _, _, h⟩ := HI.out; exact h)
        subst ekv
        obtain ⟨m, hm⟩ : ∃ m, ks.length = m := ⟨_, rfl⟩
        rw [hm] at q4'
        have HMM := Lib.hid hm
        clear hm
        obtain ⟨Kd, hKd⟩ : ∃ Kd : Nat, kd % 14 = Kd := ⟨_, rfl⟩
        have hKd14 : Kd < 14 := by omega
        have eKd : (kd : Int) % 14 = (Kd : Int) := by omega
        clear hx hg hgs hb5 k0 q0 q1 q2 q3 q4 hKd
        go_upto_block 2 with (fail)
        have k2 : Keeps wr ((wr.alloc (.cells #[.int .u8 (kd : Int), .string S, .int .i64 n, .int .i64 sz, .slice pk m ck] tAct8)).alloc (.cells #[sv s, .slice pv l.length cv] tSt)) := (keeps_lit _ _).trans (keeps_lit _ _)
        have bX : ((wr.alloc (.cells #[.int .u8 (kd : Int), .string S, .int .i64 n, .int .i64 sz, .slice pk m ck] tAct8)).alloc (.cells #[sv s, .slice pv l.length cv] tSt)).heap[wr.heap.size]? = some (.cells #[.int .u8 (kd : Int), .string S, .int .i64 n, .int .i64 sz, .slice pk m ck] tAct8 (0, 0)) := ((keeps_lit _ _).block _ (by simp)).trans (heap_alloc_new _ _)
        have bA : StBox ((wr.alloc (.cells #[.int .u8 (kd : Int), .string S, .int .i64 n, .int .i64 sz, .slice pk m ck] tAct8)).alloc (.cells #[sv s, .slice pv l.length cv] tSt)) (wr.heap.size + 1) s (.slice pv l.length cv) := by
          have := heap_alloc_new (wr.alloc (.cells #[.int .u8 (kd : Int), .string S, .int .i64 n, .int .i64 sz, .slice pk m ck] tAct8)) (.cells #[sv s, .slice pv l.length cv] tSt)
          unfold StBox
          simpa using this
        generalize (wr.alloc (.cells #[.int .u8 (kd : Int), .string S, .int .i64 n, .int .i64 sz, .slice pk m ck] tAct8)).alloc (.cells #[sv s, .slice pv l.length cv] tSt) = W2 at *
        have HO2 := Lib.hid (HO.out.keeps k2)
        have HB2 := Lib.hid (HB.out.quiet (Quiet.keeps k2))
        have HT2 := Lib.hid (HT.out.quiet (Quiet.keeps k2))
        have HXB := Lib.hid bX
        have HAB := Lib.hid bA
        have HAW := Lib.hid (show w.heap.size ≤ wr.heap.size + 1 by have := HO.out.kept.size; omega)
        have nAS : wr.heap.size + 1 ≠ SB := by omega
        obtain ⟨AB, hAB⟩ : ∃ x, wr.heap.size + 1 = x := ⟨_, rfl⟩
        obtain ⟨XB, hXB⟩ : ∃ x, wr.heap.size = x := ⟨_, rfl⟩
        rw [hAB] at HAB HAW nAS ⊢
        rw [hXB] at HXB ⊢
        clear k2 bX bA hAB hXB HO HB HT nSB nSB2 c0 c1 q0' q1' q2' q3' q4'
        unfold ptrV
        go_cut [13] from 44 to 170 (fun vg W => DoneAt w d SB AB k b s l (.slice pv l.length cv) vg W ∧ W.heap[XB]? = some (.cells #[.int .u8 (kd : Int), .string S, .int .i64 n, .int .i64 sz, .slice pk m ck] tAct8 (0, 0)))
        case first =>
          have x0 := Joins.cell_of_block HXB.out 0
          have x1 := Joins.cell_of_block HXB.out 1
          have x2 := Joins.cell_of_block HXB.out 2
          have x4 := Joins.cell_of_block HXB.out 4
          simp only [List.getElem?_toArray, List.getElem?_cons_zero, List.getElem?_cons_succ] at x0 x1 x2 x4
          by_cases h5 : Kd = 5
          · have t5 : ((Kd : Int) == 5) = true := by rw [h5]; rfl
            clear h5
            go_wp2_with fail
            refine (jcom_own HO2.out (by omega) (by omega) S HSM.out).mono ?_
            rintro e w3 ⟨ho, hq⟩
            obtain ⟨q, rfl, hq3⟩ := ho.num (by omega) (by omega)
            have y1 := Joins.cell_of_block (hq _ _ _ HXB.out foreign_act) 1
            simp only [List.getElem?_toArray, List.getElem?_cons_zero, List.getElem?_cons_succ] at y1
            have hA3 := HAB.out.quiet hq
            obtain ⟨y2, y3, y4, y5⟩ := hA3.cells
            go_wp2_with fail
            go_meet
            exact done_mk (HB2.out.quiet hq) (HT2.out.quiet hq) hA3 nAS HAW.out (v2 := .slice none 0 0) (l2 := []) ⟨StrsAt.nil _, (fun p n c e => by cases e; exact Nat.le_refl _), Or.inl rfl⟩ (by simp) (hq _ _ _ HXB.out foreign_act) (by
              rw [show (((k + 1 : Nat) : Int)) = (k : Int) + 1 by omega]
              exact hq3)
          have t5 : ((Kd : Int) == 5) = false := by simp; omega
          by_cases h6 : Kd = 6
          · have t6 : ((Kd : Int) == 6) = true := by rw [h6]; rfl
            clear h6 h5
            go_wp2_with fail
            refine (crash_own HO2.out (v := .slice pk m ck) (ks := ks) (by rw [← HMM.out]; exact HI.out)).mono ?_
            rintro e w3 ⟨rfl, ho, hq⟩
            have DN : Hid (DoneAt w d SB AB k b s l (.slice pv l.length cv) (.int .i64 0) w3 ∧ w3.heap[XB]? = some (.cells #[.int .u8 (kd : Int), .string S, .int .i64 n, .int .i64 sz, .slice pk m ck] tAct8 (0, 0))) := Lib.hid ⟨⟨HB2.out.quiet hq, HT2.out.quiet hq, s, l, _, HAB.out.quiet hq, HT2.out.quiet hq, by omega, Or.inr (Or.inr (Or.inr ⟨rfl, rfl, rfl, rfl, ho.more (by omega)⟩))⟩, hq _ _ _ HXB.out foreign_act⟩
            clear ho hq HO2 HB2 HT2
            go_wp2_with fail
            go_meet
            exact DN.out
          have t6 : ((Kd : Int) == 6) = false := by simp; omega
          by_cases h9 : Kd = 9
          · have t9 : ((Kd : Int) == 9) = true := by rw [h9]; rfl
            obtain ⟨q9, e9, hq9⟩ := low15 n
            clear h9 h6 h5
            go_wp2_with fail
            refine (fail_ownJ HO2.out (v := .slice pk m ck) (ks := ks) (by rw [← HMM.out]; exact HI.out) (fun p m' c' e => by
              have := HGOOD.out.kv
              simp only [HMM.out] at this
              exact this p m' c' e) (n := (q9 : Int)) (by omega) (by unfold I64 top; omega)).mono ?_
            rintro e w3 ⟨rfl, ho, hq⟩
            have DN : Hid (DoneAt w d SB AB k b s l (.slice pv l.length cv) (.int .i64 0) w3 ∧ w3.heap[XB]? = some (.cells #[.int .u8 (kd : Int), .string S, .int .i64 n, .int .i64 sz, .slice pk m ck] tAct8 (0, 0))) := Lib.hid ⟨⟨HB2.out.quiet hq, HT2.out.quiet hq, s, l, _, HAB.out.quiet hq, HT2.out.quiet hq, by omega, Or.inl ⟨rfl, ho.more (by omega)⟩⟩, hq _ _ _ HXB.out foreign_act⟩
            clear ho hq HO2 HB2 HT2
            go_wp2_with fail
            go_meet
            exact DN.out
          have t9 : ((Kd : Int) == 9) = false := by simp; omega
          by_cases h4 : Kd ≤ 4
          · have hTT : ∃ T0 T1 T2 T3 T4 : Bool, ((Kd : Int) == 0) = T0 ∧ ((Kd : Int) == 1) = T1 ∧ ((Kd : Int) == 2) = T2 ∧ ((Kd : Int) == 3) = T3 ∧ ((Kd : Int) == 4) = T4 ∧ (T0 = true ∨ (T0 = false ∧ T1 = true) ∨ (T0 = false ∧ T1 = false ∧ T2 = true) ∨ (T0 = false ∧ T1 = false ∧ T2 = false ∧ T3 = true) ∨ (T0 = false ∧ T1 = false ∧ T2 = false ∧ T3 = false ∧ T4 = true)) := by
              refine ⟨_, _, _, _, _, rfl, rfl, rfl, rfl, rfl, ?_⟩
              have : Kd = 0 ∨ Kd = 1 ∨ Kd = 2 ∨ Kd = 3 ∨ Kd = 4 := by omega
              rcases this with h | h | h | h | h <;> subst h <;> decide
            obtain ⟨T0, T1, T2, T3, T4, t0, t1, t2, t3, t4, hT⟩ := hTT
            clear h4 h5 h6 h9
            rcases hT with rfl | ⟨rfl, rfl⟩ | ⟨rfl, rfl, rfl⟩ | ⟨rfl, rfl, rfl, rfl⟩ | ⟨rfl, rfl, rfl, rfl, rfl⟩
            all_goals
              go_wp2_with fail
              refine (japp_own HO2.out (by omega) (by omega) S HSM.out).mono ?_
              rintro e w3 ⟨ho, hq⟩
              obtain ⟨q, rfl, hq3⟩ := ho.num (by omega) (Int.le_refl _)
              have y1 := Joins.cell_of_block (hq _ _ _ HXB.out foreign_act) 1
              simp only [List.getElem?_toArray, List.getElem?_cons_zero, List.getElem?_cons_succ] at y1
              obtain ⟨y2, y3, y4, y5⟩ := (HB2.out.quiet hq).cells
              have CW := Lib.hid (with_st s _ l S w3 (HT2.out.quiet hq).1 (by omega))
              have HQ := Lib.hid hq
              have HQ3 := Lib.hid hq3
              clear ho hq hq3
              go_wp2_with fail
              refine CW.out.mono ?_
              rintro e w4 ⟨p4, c4, rfl, hown, k4⟩
              have hq4 := HQ.out.trans (Quiet.keeps k4)
              have DN := Lib.hid (done_mk (d := d) (k := k) (b := b) (q := q) (s2 := s) (l2 := l ++ [S.data.toList]) (v2 := .slice p4 (l.length + 1) c4) (HB2.out.quiet hq4) (HT2.out.quiet hq4) (HAB.out.quiet hq4) nAS HAW.out (own_txt hown (by simp)) (by simp; omega) (hq4 _ _ _ HXB.out foreign_act) (by
                rcases HQ3.out with ⟨h1, h2⟩ | ⟨h1, h2⟩ | ⟨h1, R', h2, h3⟩
                · exact Or.inl ⟨h1, (h2.keeps k4).more (by omega)⟩
                · exact Or.inr (Or.inl ⟨h1, (h2.keeps k4).more (by omega)⟩)
                · exact Or.inr (Or.inr ⟨h1, R', h2, (h3.keeps k4).more (by omega)⟩)))
              obtain ⟨z2, z3, z4, z5⟩ := (HAB.out.quiet hq4).cells
              clear hown k4 hq4 CW HQ HQ3
              go_wp2_with fail
              go_meet
              exact DN.out
          · have t0 : ((Kd : Int) == 0) = false := by simp; omega
            have t1 : ((Kd : Int) == 1) = false := by simp; omega
            have t2 : ((Kd : Int) == 2) = false := by simp; omega
            have t3 : ((Kd : Int) == 3) = false := by simp; omega
            have t4 : ((Kd : Int) == 4) = false := by simp; omega
            have DN : Hid (DoneAt w d SB AB k b s l (.slice pv l.length cv) (.int .i64 0) W2 ∧ W2.heap[XB]? = some (.cells #[.int .u8 (kd : Int), .string S, .int .i64 n, .int .i64 sz, .slice pk m ck] tAct8 (0, 0))) := Lib.hid ⟨⟨HB2.out, HT2.out, s, l, _, HAB.out, HT2.out, by omega, Or.inl ⟨rfl, HO2.out.more (by omega)⟩⟩, HXB.out⟩
            clear HO2 HB2 HT2 h4 h5 h6 h9
            go_wp2_with fail
            go_meet
            exact DN.out
        case rest =>
          obtain ⟨⟨hB, hT, s2, l2, v2, hA, hT2, hl2, hcase⟩, hX⟩ := hcut
          obtain ⟨p2, c2, rfl, _, _⟩ := hT2.1
          have HB3 := Lib.hid hB
          have HT3 := Lib.hid hT
          have HA3 := Lib.hid hA
          have HT4 := Lib.hid hT2
          have HX3 := Lib.hid hX
          obtain ⟨c0, c1, c2', c3'⟩ := hB.cells
          obtain ⟨a0, a1, _, _⟩ := hA.cells
          clear hB hT hA hT2 hX HO2 HB2 HT2 HXB HAB
          rcases hcase with ⟨rfl, ho⟩ | ⟨rfl, ho⟩ | hdown
          · have HO3 := Lib.hid (ho.stored HB3.out HSB.out (sv s2) (.slice p2 l2.length c2))
            have HB4 := Lib.hid (HB3.out.set (s' := s2) (v' := .slice p2 l2.length c2))
            have HT5 := Lib.hid (HT4.out.stored HB3.out (sv s2) (.slice p2 l2.length c2))
            clear ho
            go_wp2_with fail
            refine (up_ownJ HO3.out).mono ?_
            rintro e w5 ⟨rfl, rfl⟩
            have d1 := HB4.out.cells.2.1
            have CE := Lib.hid fun W' kk => ents_own (HO3.out.keeps (W' := W') kk) (n := l2.length) (by simp)
            have t1 : ((l2.length : Int) != (l2.length : Int)) = false := by simp
            unfold ptrV at CE
            go_wp2
            go_quiet ((go_at_call 10; exact jq_same (CE.out _ (keeps_dN _ _))))
            go_wp2
            go_roundw
            case rel =>
              exact ⟨k + 1, by omega, by go_num, b, s2, l2, _, rfl, HO3.out.keeps (keeps_dN _ _), HB4.out.quiet (Quiet.keeps (keeps_dN _ _)), HT5.out.quiet (Quiet.keeps (keeps_dN _ _)), hl2⟩
            case measure => simp [intOf]; omega
          · have HO3 := Lib.hid ho
            clear ho
            go_wp2_with fail
            refine (up_ownJ HO3.out).mono ?_
            rintro e w5 ⟨rfl, rfl⟩
            have CE := Lib.hid fun W' kk => ents_own (HO3.out.keeps (W' := W') kk) (n := l.length) (by simp)
            have t1 : ((l.length : Int) != (l.length : Int)) = false := by simp
            unfold ptrV at CE
            go_wp2
            go_quiet ((go_at_call 10; exact jq_same (CE.out _ (keeps_dN _ _))))
            go_wp2
            go_roundw
            case rel =>
              exact ⟨k + 1, by omega, by go_num, b, s, l, _, rfl, HO3.out.keeps (keeps_dN _ _), HB3.out.quiet (Quiet.keeps (keeps_dN _ _)), HT3.out.quiet (Quiet.keeps (keeps_dN _ _)), by omega⟩
            case measure => simp [intOf]; omega
          · rcases hdown with ⟨rfl, R', hR', ho⟩ | ⟨rfl, rfl, rfl, e2, ho⟩
            focus
              have HIN : Hid (InAt w d SB AB XB k 0 #[.int .u8 (kd : Int), .string S, .int .i64 n, .int .i64 sz, .slice pk m ck] (.pointer (some ⟨b, 0, none⟩)) wc) := Lib.hid ⟨HX3.out, Or.inl ⟨by omega, s, l, _, s2, l2, _, R', HB3.out, HT3.out, HA3.out, HT4.out, by omega, hl2, hR', ho⟩⟩
              have HUP := Lib.hid (up_ownD ho)
              clear ho HB3 HT3 HA3 HT4 HX3 hR'
              go_wp2_with fail
              refine HUP.out.mono ?_
              rintro e w5 ⟨rfl, rfl⟩
            rotate_left
            focus
              have nSX : XB ≠ SB := tag_ne HX3.out HB3.out (by decide)
              have HO3 := Lib.hid (ho.stored HB3.out HSB.out (sv s2) (.slice p2 l2.length c2))
              have HB4 := Lib.hid (HB3.out.set (s' := s2) (v' := .slice p2 l2.length c2))
              have HT5 := Lib.hid (HT4.out.stored HB3.out (sv s2) (.slice p2 l2.length c2))
              have HA4 : Hid (StBox (set2 wc SB (sv s2) (.slice p2 l2.length c2)) AB s2 (.slice p2 l2.length c2)) := Lib.hid ((set2_other nAS).trans HA3.out)
              have HIN : Hid (InAt w d SB AB XB k 0 #[.int .u8 (kd : Int), .string S, .int .i64 n, .int .i64 sz, .slice pk m ck] (.pointer (some ⟨b, 0, none⟩)) (set2 wc SB (sv s2) (.slice p2 l2.length c2))) := Lib.hid ⟨(set2_other nSX).trans HX3.out, Or.inl ⟨by omega, s2, l2, _, s2, l2, _, s2 :: l2, HB4.out, HT5.out, HA4.out, HT5.out, hl2, hl2, Or.inl rfl, HO3.out⟩⟩
              have HUP := Lib.hid (up_ownD HO3.out)
              clear ho HB3 HT3 HA3 HT4 HX3 HO3 HB4 HT5 HA4 nSX e2
              go_wp2_with fail
              refine HUP.out.mono ?_
              rintro e w5 ⟨rfl, rfl⟩
            all_goals
              clear HUP c0 c1 c2' c3' a0 a1
              go_wp2
              go_loopw [5, 14] (fun vj vi W' => ∃ t : Nat, t ≤ 20 ∧ vi = .int .i64 (t : Int) ∧ InAt w d SB AB XB k t #[.int .u8 (kd : Int), .string S, .int .i64 n, .int .i64 sz, .slice pk m ck] vj W') (fun _ vi _ => 20 - (intOf vi).toNat)
              case atStart => exact ⟨0, by omega, rfl, HIN.out⟩
              case round =>
                obtain ⟨t, ht, rfl, hX, hin⟩ := hrel
                rcases hin with ⟨ht3, s1, l1, v1, s2, l2, v2, R', hB, hT, hA, hT2, hl1, hl2, hR', ho⟩ | ⟨b3, s3, l3, v3, rfl, ho, hB, hT, hl3⟩
                · obtain ⟨p1, c1, rfl, _, _⟩ := hT.1
                  obtain ⟨p2, c2, rfl, _, _⟩ := hT2.1
                  have HX := Lib.hid hX
                  have HB := Lib.hid hB
                  have HT := Lib.hid hT
                  have HA := Lib.hid hA
                  have HT2 := Lib.hid hT2
                  have HR := Lib.hid hR'
                  have HO := Lib.hid ho
                  clear hX hB hT hA hT2 hR' ho HIN
                  have t20 : (t : Int) < 20 := by omega
                  go_wp2_with fail
                  refine (up_ownD HO.out).mono ?_
                  rintro e w5 ⟨rfl, rfl⟩
                  go_wp2_with fail
                  refine (start_ownD HO.out).mono ?_
                  rintro e w6 ⟨rfl, ho6, hq6⟩
                  have HO6 := Lib.hid ho6
                  have HQ6 := Lib.hid hq6
                  have x2 := Joins.cell_of_block (hq6 _ _ _ HX.out foreign_act) 2
                  have x4 := Joins.cell_of_block (hq6 _ _ _ HX.out foreign_act) 4
                  simp only [List.getElem?_toArray, List.getElem?_cons_zero, List.getElem?_cons_succ] at x2 x4
                  clear ho6 hq6 HO
                  -- what follows the Open, whatever was set ahead of it
                  have NEXT : Hid (∀ (nf : Bool) (W6 : World), (nf = false → t < 3) → OwnD w 300000 ((k + 1 : Nat) : Int) d true R' [] nf W6 → Quiet wr W6 → Calls Try.prog 12 #[.pointer (some ⟨d, 0, none⟩)] W6 fun e w' =>
                      (∃ b s' l' v', R' = s' :: l' ∧ e = .returned (.tuple #[.pointer (some ⟨b, 0, none⟩), sv s', v', .int .i64 0]) ∧ OwnJ w 300000 ((k + 1 : Nat) : Int) d b (s' :: l') [] false w' ∧ TxtB w' v' l' ∧ Quiet wr w') ∨
                      (e = .returned (.tuple #[.pointer none, .string ⟨#[]⟩, .slice none 0 0, .int .i64 61]) ∧ t < 3 ∧ OwnD w 300000 ((k + 1 : Nat) : Int) d false R' [] true w' ∧ Quiet wr w')) := Lib.hid fun nf W6 hnf ho hq => by
                    refine (jopen_own ho (by omega)).mono ?_
                    rintro e w' ⟨⟨b, v, s', l', rfl, rfl, h3, h4⟩ | ⟨rfl, h2, h3⟩, hq'⟩
                    · exact Or.inl ⟨b, s', l', v, rfl, rfl, (h3.less fun p hp => by cases hp).any, h4, hq.trans hq'⟩
                    · exact Or.inr ⟨rfl, hnf h2, h3, hq.trans hq'⟩
                  obtain ⟨q3, e3, hq3⟩ := low3 n
                  by_cases ht3' : t < 3
                  focus
                    have t3i : (t : Int) < 3 := by omega
                    go_wp2_with fail
                    refine (fail_ownD HO6.out (v := .slice pk m ck) (ks := ks) (by rw [← HMM.out]; exact HI.out) (fun p m' c' e => by
                      have := HGOOD.out.kv
                      simp only [HMM.out] at this
                      exact this p m' c' e) (n := (q3 : Int) + (t : Int)) (by omega) (by unfold I64 top; omega)).mono ?_
                    rintro e w7 ⟨rfl, ho7, hq7⟩
                    have C7 := Lib.hid (NEXT.out false w7 (fun _ => ht3') ho7 (HQ6.out.trans hq7))
                    clear ho7 hq7 HO6 HQ6 NEXT x2 x4 t3i
                    go_wp2_with fail
                    refine C7.out.mono ?_
                  rotate_left
                  focus
                    have t3i : ¬ (t : Int) < 3 := by omega
                    have C7 := Lib.hid (NEXT.out true w6 (fun e => by cases e) HO6.out HQ6.out)
                    clear HO6 HQ6 NEXT x2 x4
                    go_wp2_with fail
                    refine C7.out.mono ?_
                  all_goals
                    rintro e w8 (⟨b8, s8, l8, v8, hR8, rfl, ho8, ht8, hq8⟩ | ⟨rfl, ht38, ho8, hq8⟩)
                    · obtain ⟨p8, c8, rfl, _, _⟩ := ht8.1
                      have HO8 := Lib.hid ho8
                      have HT8 := Lib.hid ht8
                      have HB8 := Lib.hid (HB.out.quiet hq8)
                      have HA8 := Lib.hid (HA.out.quiet hq8)
                      have HS1 := Lib.hid (HT.out.quiet hq8)
                      have HS2 := Lib.hid (HT2.out.quiet hq8)
                      have HX8 := Lib.hid (hq8 _ _ _ HX.out foreign_act)
                      have HR8 := Lib.hid hR8
                      have nSB : SB < w8.heap.size := block_lt HB8.out
                      have nSB2 : SB ≠ w8.heap.size := by omega
                      have nAB : AB < w8.heap.size := block_lt HA8.out
                      have nAB2 : AB ≠ w8.heap.size := by omega
                      obtain ⟨u0, u1, _, _⟩ := HB8.out.cells
                      obtain ⟨a0, a1, _, _⟩ := HA8.out.cells
                      clear ho8 ht8 hq8 hR8 C7 HB HA HT HT2 HX
                      go_wp2_with fail
                      have k9 : Keeps w8 (w8.alloc (.cells #[.string ⟨s8.toArray⟩, .slice p8 l8.length c8] tSt)) := keeps_lit _ _
                      have bG : StBox (w8.alloc (.cells #[.string ⟨s8.toArray⟩, .slice p8 l8.length c8] tSt)) w8.heap.size s8 (.slice p8 l8.length c8) := heap_alloc_new _ _
                      generalize w8.alloc (.cells #[.string ⟨s8.toArray⟩, .slice p8 l8.length c8] tSt) = W9 at *
                      obtain ⟨GB, hGB⟩ : ∃ x, w8.heap.size = x := ⟨_, rfl⟩
                      rw [hGB] at bG nSB nAB nSB2 nAB2 ⊢
                      have HGB := Lib.hid bG
                      have K9 := Lib.hid k9
                      have C1 := Lib.hid (same_st s8 s1 _ _ l8 l1 W9 (HT8.out.quiet (Quiet.keeps k9)).1 (HS1.out.quiet (Quiet.keeps k9)).1)
                      clear bG k9 hGB u0 u1 a0 a1
                      by_cases hE : s8 :: l8 = s1 :: l1
                      focus
                        rw [decide_eq_true hE] at C1
                        have HL8 := Lib.hid (show l8.length ≤ k + 1 from by rw [(List.cons.inj hE).2]; exact hl1)
                        clear hE
                        refine C1.out.mono ?_
                        rintro e w10 ⟨rfl, k10⟩
                        have K10 := Lib.hid (K9.out.trans k10)
                        have g10 := HGB.out.quiet (Quiet.keeps k10)
                        have G10 := Lib.hid g10
                        clear k10 C1
                      rotate_left
                      focus
                        have hE2 : s8 :: l8 = s2 :: l2 := by
                          rcases HR.out with h | h
                          · exact absurd (HR8.out.symm.trans h) hE
                          · exact HR8.out.symm.trans h
                        have HL8 := Lib.hid (show l8.length ≤ k + 1 from by rw [(List.cons.inj hE2).2]; exact hl2)
                        rw [decide_eq_false hE] at C1
                        refine C1.out.mono ?_
                        rintro e w9' ⟨rfl, k9'⟩
                        obtain ⟨g0, g1, _, _⟩ := (HGB.out.quiet (Quiet.keeps k9')).cells
                        obtain ⟨a0, a1, _, _⟩ := (HA8.out.quiet (Quiet.keeps (K9.out.trans k9'))).cells
                        have C2 := Lib.hid (same_st s8 s2 _ _ l8 l2 w9' (HT8.out.quiet (Quiet.keeps (K9.out.trans k9'))).1 (HS2.out.quiet (Quiet.keeps (K9.out.trans k9'))).1)
                        rw [decide_eq_true hE2] at C2
                        have K9' := Lib.hid k9'
                        clear hE hE2 k9' C1
                        go_wp2_with fail
                        refine C2.out.mono ?_
                        rintro e w10 ⟨rfl, k10⟩
                        have K10 := Lib.hid (K9.out.trans (K9'.out.trans k10))
                        have g10 := HGB.out.quiet (Quiet.keeps (K9'.out.trans k10))
                        have G10 := Lib.hid g10
                        clear k10 C2 a0 a1 g0 g1 K9'
                      all_goals
                        have HB10 := Lib.hid (HB8.out.quiet (Quiet.keeps K10.out))
                        have HO10 := Lib.hid (HO8.out.keeps K10.out)
                        have HT10 := Lib.hid (HT8.out.quiet (Quiet.keeps K10.out))
                        have HX10 := Lib.hid ((Quiet.keeps K10.out) _ _ _ HX8.out foreign_act)
                        obtain ⟨g0, g1, _, _⟩ := g10.cells
                        obtain ⟨u0, u1, f0, f1⟩ := HB10.out.cells
                        clear g10 HO8 HT8 HB8 HA8 HS1 HS2 HX8 K9 K10 HGB
                        have nSX : XB ≠ SB := tag_ne HX10.out HB10.out (by decide)
                        have INX : Hid (InAt w d SB AB XB k (t + 1) #[.int .u8 (kd : Int), .string S, .int .i64 n, .int .i64 sz, .slice pk m ck] (.pointer (some ⟨b8, 0, none⟩)) (set2 w10 SB (sv s8) (.slice p8 l8.length c8))) := Lib.hid ⟨(set2_other nSX).trans HX10.out, Or.inr ⟨b8, s8, l8, _, rfl, HO10.out.stored HB10.out HSB.out _ _, HB10.out.set, HT10.out.stored HB10.out _ _, HL8.out⟩⟩
                        clear nSX HX10 HO10 HT10 HB10
                        go_wp2
                        go_region
                        go_wp2
                        go_roundw
                        case rel => exact ⟨t + 1, by omega, by go_num, by first | exact INX.out | exact INX.out.keeps ⟨rfl, rfl, rfl, Nat.le_refl _, fun _ _ => rfl⟩⟩
                        case measure => simp [intOf]; omega
                    · have IND : Hid (InAt w d SB AB XB k (t + 1) #[.int .u8 (kd : Int), .string S, .int .i64 n, .int .i64 sz, .slice pk m ck] u5 w8) := Lib.hid ⟨hq8 _ _ _ HX.out foreign_act, Or.inl ⟨by omega, s1, l1, _, s2, l2, _, R', HB.out.quiet hq8, HT.out.quiet hq8, HA.out.quiet hq8, HT2.out.quiet hq8, hl1, hl2, HR.out, ho8⟩⟩
                      clear ho8 hq8 C7 HB HA HT HT2 HX
                      go_wp2
                      go_roundw
                      case rel => exact ⟨t + 1, by omega, by go_num, IND.out⟩
                      case measure => simp [intOf]; omega
                · have HO := Lib.hid ho
                  have HB := Lib.hid hB
                  have HT := Lib.hid hT
                  have HUP := Lib.hid (up_ownJ ho)
                  clear ho hB hT hX HIN
                  unfold ptrV at *
                  by_cases ht20 : t < 20
                  · have t20 : (t : Int) < 20 := by omega
                    go_wp2_with fail
                    refine HUP.out.mono ?_
                    rintro e w5 ⟨rfl, rfl⟩
                    go_wp2_with fail
                    refine HUP.out.mono ?_
                    rintro e w5 ⟨rfl, rfl⟩
                    go_wp2
                    go_roundw
                    case rel => exact ⟨k + 1, by omega, by go_num, b3, s3, l3, v3, rfl, HO.out, HB.out, HT.out, hl3⟩
                    case measure => simp [intOf]; omega
                  · have t20 : ¬ (t : Int) < 20 := by omega
                    go_wp2_with fail
                    refine HUP.out.mono ?_
                    rintro e w5 ⟨rfl, rfl⟩
                    go_wp2
                    go_roundw
                    case rel => exact ⟨k + 1, by omega, by go_num, b3, s3, l3, v3, rfl, HO.out, HB.out, HT.out, hl3⟩
                    case measure => simp [intOf]; omega
      · obtain rfl : k = N := by omega
        have hz : ¬ ((k : Int) < (k : Int)) := by omega
        unfold ptrV
        go_wp2_with fail
        refine (jopen_own HO.out.disk (by omega)).mono ?_
        rintro e w2 ⟨⟨b2, v2, s2, l2, hR, rfl, ho2, ht2⟩ | ⟨rfl, _, ho2⟩, hq⟩
        · obtain ⟨rfl, rfl⟩ := List.cons.inj hR
          obtain ⟨p2, cc2, rfl, _, _⟩ := ht2.1
          obtain ⟨c0, c1, _, _⟩ := (HB.out.quiet hq).cells
          have HK2 := Lib.hid ho2.kept
          have CS : Hid (Calls Try.prog 19 #[.agg #[sv s, .slice pv l.length cv], .agg #[sv s, .slice p2 l.length cc2]] w2 fun e w' => e = .returned (.bool true) ∧ Keeps w2 w') := Lib.hid (by
            have := same_st s s _ _ l l w2 (HT.out.quiet hq).1 ht2.1
            rwa [decide_eq_true (rfl : s :: l = s :: l)] at this)
          clear hR ho2 ht2 hq HO HB HT
          unfold ptrV
          go_wp2_with fail
          refine CS.out.mono ?_
          rintro e w3 ⟨rfl, k3⟩
          have K3 := Lib.hid (HK2.out.trans k3)
          clear k3 HK2 CS c0 c1
          go_wp2_with fail
          refine (kept_any _).mono ?_
          rintro e w4 ⟨rfl, k4⟩
          go_wp2
          go_ret
          exact ⟨rfl, K3.out.trans k4⟩
        · have HK2 := Lib.hid ho2.kept
          clear ho2 hq HO HB HT
          go_wp2_with fail
          refine (kept_any _).mono ?_
          rintro e w4 ⟨rfl, k4⟩
          go_wp2
          go_ret
          exact ⟨rfl, HK2.out.trans k4⟩
end Go.Proofs.Ytlaepdpgegoopaa
