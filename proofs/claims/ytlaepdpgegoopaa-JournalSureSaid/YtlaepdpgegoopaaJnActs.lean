
/- The acts of layer 8 in memory: read, opened; are they more than is gone through? -/
import Derived.Test.YtlaepdpgegoopaaDiskOwn
import Derived.Test.YtlaepdpgegoopaaOpenArgs
import Derived.Deep.Slices
import Derived.DataReads
set_option linter.unusedVariables false
namespace Go.Proofs.Ytlaepdpgegoopaa
open Go.ChangeShapes Go.WideShapes Go.ChangeAt Go.RowKit Go.Maps Csv Dk Go.Deep

abbrev tAct8 : TypeId := 47
structure Act8 where
  kind : Nat
  s : ByteArray
  n : Int
  size : Int
  kv : Value
  ks : List Int
structure Act8.Good (x : Act8) : Prop where
  kind : x.kind ≤ 255
  s : x.s.size ≤ maxLen
  n : I64 x.n
  size : I64 x.size
  kv : ∀ p m c, x.kv = .slice p m c → m ≤ c
def Act8.vals (x : Act8) : List Value := [.int .u8 (x.kind : Int), .string x.s, .int .i64 x.n, .int .i64 x.size, x.kv]
def Act8At (w : World) (a : Addr) (x : Act8) : Prop :=
  w.cell? a = some (.int .u8 (x.kind : Int)) ∧ w.cell? ⟨a.block, a.off + 1, none⟩ = some (.string x.s) ∧ w.cell? ⟨a.block, a.off + 2, none⟩ = some (.int .i64 x.n) ∧ w.cell? ⟨a.block, a.off + 3, none⟩ = some (.int .i64 x.size) ∧ w.cell? ⟨a.block, a.off + 4, none⟩ = some x.kv ∧ IntsAt w x.kv x.ks
theorem Act8At.keeps {w w' : World} {a : Addr} {x : Act8} (h : Act8At w a x) (k : Keeps w w') : Act8At w' a x := by
  obtain ⟨h0, h1, h2, h3, h4, h5⟩ := h
  exact ⟨cell_keeps k h0, cell_keeps k h1, cell_keeps k h2, cell_keeps k h3, cell_keeps k h4, h5.keeps k⟩
def Acts8At (w : World) (v : Value) (L : List Act8) : Prop :=
  ∃ p c, v = .slice p L.length c ∧ L.length ≤ maxLen ∧ ∀ j x, L[j]? = some x → x.Good ∧ ∃ a : Addr, p = some a ∧ Act8At w (a.add (j * 5)) x
theorem Acts8At.keeps {w w' : World} {v : Value} {L : List Act8} (h : Acts8At w v L) (k : Keeps w w') : Acts8At w' v L := by
  obtain ⟨p, c, h1, h2, h3⟩ := h
  refine ⟨p, c, h1, h2, fun j x hx => ?_⟩
  obtain ⟨g, a, ha, hc⟩ := h3 j x hx
  exact ⟨g, a, ha, hc.keeps k⟩
def bigA8 (x : Act8) : Bool := decide (3000 < x.s.size) || decide (20 < x.ks.length)
def greatB8 (L : List Act8) (most : Nat) : Bool := L.any bigA8 || decide (most < L.length)
theorem great_no8 {L : List Act8} {most : Nat} (h : greatB8 L most = false) : L.length ≤ most ∧ ∀ x ∈ L, x.s.size ≤ 3000 ∧ x.ks.length ≤ 20 := by
  unfold greatB8 at h
  rw [Bool.or_eq_false_iff] at h
  refine ⟨by have := of_decide_eq_false h.2; omega, fun x hx => ?_⟩
  have := List.any_eq_false.1 h.1 x hx
  simp only [bigA8, Bool.or_eq_true, decide_eq_true_eq, not_or] at this
  omega
theorem any_take8 {L : List Act8} {k : Nat} {x : Act8} (h : (L.take k).any bigA8 = false) (hx : L[k]? = some x) (hb : bigA8 x = false) : (L.take (k + 1)).any bigA8 = false := by
  rw [List.take_add_one, hx, List.any_append, h]
  simp [hb]
theorem any_at8 {L : List Act8} {k : Nat} {x : Act8} (hx : L[k]? = some x) (hb : bigA8 x = true) : L.any bigA8 = true := List.any_eq_true.2 ⟨x, List.mem_of_getElem? hx, hb⟩

set_option maxHeartbeats 2000000 in
theorem great_any8 (v : Value) (L : List Act8) (most : Nat) (w : World) (h : Acts8At w v L) (hm : most ≤ 1000) :
    Calls Try.prog 14 #[v, .int .i64 (most : Int)] w fun e w' => e = .returned (.bool (greatB8 L most)) ∧ w = w' := by
  obtain ⟨p, c, rfl, lL, hL⟩ := h
  obtain ⟨N, hN⟩ : ∃ N, L.length = N := ⟨_, rfl⟩
  have HL := Lib.hid hL
  have HN := Lib.hid hN
  rw [hN] at lL ⊢
  unfold maxLen at lL
  clear hL hN
  go_enter Try.func14, Try.ntmps14
  go_wp2
  go_loop [5] (fun i => ∃ k : Nat, k ≤ N ∧ i = .int .i64 (k : Int) ∧ (L.take k).any bigA8 = false) (fun i => N - (intOf i).toNat)
  case atStart => exact ⟨0, by omega, rfl, rfl⟩
  case round =>
    obtain ⟨k, hk, rfl, hall⟩ := hrel
    have HA := Lib.hid hall
    clear hall
    by_cases hlt : k < N
    · obtain ⟨x, hx⟩ : ∃ x, L[k]? = some x := ⟨_, List.getElem?_eq_getElem (by have := HN.out; omega)⟩
      obtain ⟨hg, a, rfl, q0, q4, q2, q3, q5, q6⟩ := HL.out k x hx
      obtain ⟨pk, ck, hkv, lk, _⟩ := q6
      rw [hkv] at q5
      have hi1 : (k : Int) < (N : Int) := by omega
      have hs := hg.s
      have HX := Lib.hid hx
      obtain ⟨S, hS⟩ : ∃ S, x.s = S := ⟨_, rfl⟩
      obtain ⟨M, hM⟩ : ∃ M, x.ks.length = M := ⟨_, rfl⟩
      have HB := Lib.hid (show bigA8 x = (decide (3000 < S.size) || decide (20 < M)) by unfold bigA8; rw [hS, hM])
      rw [hS] at q4 hs
      rw [hM] at q5 lk
      unfold maxLen at hs lk
      clear hx hg q0 q2 q3 hkv hS hM
      by_cases h1 : 3000 < S.size
      · have t1 : decide ((3000 : Int) < (S.size : Int)) = true := decide_eq_true (by omega)
        have H := Lib.hid (show greatB8 L most = true by unfold greatB8; rw [any_at8 HX.out (by rw [HB.out, decide_eq_true h1]; rfl)]; rfl)
        clear h1
        go_wp2
        go_ret
        exact ⟨ret_bool H.out.symm, rfl⟩
      · have t1 : decide ((3000 : Int) < (S.size : Int)) = false := decide_eq_false (by omega)
        by_cases h2 : 20 < M
        · have t2 : decide ((20 : Int) < (M : Int)) = true := decide_eq_true (by omega)
          have H := Lib.hid (show greatB8 L most = true by unfold greatB8; rw [any_at8 HX.out (by rw [HB.out, decide_eq_true h2, Bool.or_true])]; rfl)
          clear h1 h2
          go_wp2
          go_ret
          exact ⟨ret_bool H.out.symm, rfl⟩
        · have t2 : decide ((20 : Int) < (M : Int)) = false := decide_eq_false (by omega)
          have H := Lib.hid (any_take8 HA.out HX.out (by rw [HB.out, decide_eq_false h1, decide_eq_false h2]; rfl))
          clear h1 h2
          go_wp2
          go_round
          case rel => exact ⟨k + 1, by omega, by go_num, H.out⟩
          case measure => simp [intOf]; omega
    · obtain rfl : k = N := by omega
      have hz : ¬ ((k : Int) < (k : Int)) := by omega
      have H := Lib.hid (show greatB8 L most = decide (most < k) by
        unfold greatB8
        have h := HA.out
        rw [List.take_of_length_le (by rw [HN.out]; exact Nat.le_refl _)] at h
        rw [h, HN.out]; rfl)
      by_cases hgt : most < k
      · have t : decide ((most : Int) < (k : Int)) = true := decide_eq_true (by omega)
        have H2 := Lib.hid (show decide (most < k) = true from decide_eq_true hgt)
        clear hgt
        go_wp2
        go_ret
        exact ⟨ret_bool (by rw [H.out, H2.out]), rfl⟩
      · have t : decide ((most : Int) < (k : Int)) = false := decide_eq_false (by omega)
        have H2 := Lib.hid (show decide (most < k) = false from decide_eq_false hgt)
        clear hgt
        go_wp2
        go_ret
        exact ⟨ret_bool (by rw [H.out, H2.out]), rfl⟩

variable {H : Type} {enc : TypeId × Value → H} {w : World} {base : Nat} {held : Bool}
theorem cells_act8 : Try.prog.cellsOf tAct8 = 5 := by kernel_rfl
theorem cells_ints8 : Try.prog.cellsOf 45 = 1 := by kernel_rfl
theorem wf_u8' {n : Int} (h : (Lit.int .u8 n).wf = true) : 0 ≤ n ∧ n ≤ 255 := by
  simp [Lit.wf, IntKind.min, IntKind.max, IntKind.signed, IntKind.bits] at h; omega
theorem five_of {α : Type} {l : List α} (h : l.length = 5) : ∃ a b c d e, l = [a, b, c, d, e] := by
  match l, h with
  | [a, b, c, d, e], _ => exact ⟨a, b, c, d, e, rfl⟩
/-- The five cells of an act, read. -/
theorem act_of8 {fuel : Nat} {cs : List Value} {x : DataW H × List MemPlace} (h : DataW.trod enc Try.prog w base (fun _ => true) held fuel tAct8 cs = some x) :
    ∃ a : Act8, cs = a.vals ∧ a.Good ∧ IntsAt w a.kv a.ks := by
  obtain ⟨ys, n, _, _, hlen, hyl, hf⟩ := DataW.trod_struct Try.underlying47 h
  rw [cells_act8] at hlen
  obtain ⟨c0, c1, c2, c3, c4, rfl⟩ := five_of hlen
  have hys : ys.length = 5 := hyl
  have g : ∀ i, i < 5 → ∃ y, ys[i]? = some y := fun i hi => ⟨_, List.getElem?_eq_getElem (by omega)⟩
  have f0 : DataW.trod enc Try.prog w base (fun _ => true) held n 5 (([c0, c1, c2, c3, c4].drop 0).take (Try.prog.cellsOf 5)) = ys[0]? := hf 0 _ rfl
  have f1 : DataW.trod enc Try.prog w base (fun _ => true) held n 9 (([c0, c1, c2, c3, c4].drop 1).take (Try.prog.cellsOf 9)) = ys[1]? := hf 1 _ rfl
  have f2 : DataW.trod enc Try.prog w base (fun _ => true) held n 3 (([c0, c1, c2, c3, c4].drop 2).take (Try.prog.cellsOf 3)) = ys[2]? := hf 2 _ rfl
  have f3 : DataW.trod enc Try.prog w base (fun _ => true) held n 3 (([c0, c1, c2, c3, c4].drop 3).take (Try.prog.cellsOf 3)) = ys[3]? := hf 3 _ rfl
  have f4 : DataW.trod enc Try.prog w base (fun _ => true) held n 45 (([c0, c1, c2, c3, c4].drop 4).take (Try.prog.cellsOf 45)) = ys[4]? := hf 4 _ rfl
  simp only [cells_u8, cells_int, cells_str, cells_ints8, List.drop_zero, List.take_succ_cons, List.take_zero, List.drop_succ_cons] at f0 f1 f2 f3 f4
  obtain ⟨y0, e0⟩ := g 0 (by omega)
  obtain ⟨y1, e1⟩ := g 1 (by omega)
  obtain ⟨y2, e2⟩ := g 2 (by omega)
  obtain ⟨y3, e3⟩ := g 3 (by omega)
  obtain ⟨y4, e4⟩ := g 4 (by omega)
  rw [e0] at f0
  rw [e1] at f1
  rw [e2] at f2
  rw [e3] at f3
  rw [e4] at f4
  obtain ⟨k, q0, _, w0⟩ := DataW.trod_int Try.underlying5 f0
  obtain ⟨s, q1, _, w1⟩ := DataW.trod_string Try.underlying9 f1
  obtain ⟨n2, q2, _, w2⟩ := DataW.trod_int Try.underlying3 f2
  obtain ⟨n3, q3, _, w3⟩ := DataW.trod_int Try.underlying3 f3
  obtain rfl := (List.cons.inj q0).1
  obtain rfl := (List.cons.inj q1).1
  obtain rfl := (List.cons.inj q2).1
  obtain rfl := (List.cons.inj q3).1
  obtain ⟨k', rfl⟩ : ∃ k' : Nat, k = k' := ⟨k.toNat, by have := wf_u8' w0; omega⟩
  have wk := wf_u8' w0
  rcases open_ints Try.underlying45 Try.underlying3 cells_int f4 with ⟨hcs, _⟩ | ⟨a, len, cap, zs, hcs, _, hl, hm, hz, _, hcell, _⟩
  · obtain rfl := (List.cons.inj hcs).1
    exact ⟨⟨k', s, n2, n3, .slice none 0 0, []⟩, rfl, ⟨by show k' ≤ 255; omega, w1, i64_of w2, i64_of w3, fun p m c e => by cases e; exact Nat.le_refl _⟩, IntsAt.nil w⟩
  · obtain rfl := (List.cons.inj hcs).1
    simp only [if_true] at hz
    refine ⟨⟨k', s, n2, n3, .slice (some a) len cap, zs.take len⟩, rfl, ⟨by show k' ≤ 255; omega, w1, i64_of w2, i64_of w3, fun p m c e => by cases e; exact hl⟩, some a, cap, ?_, ?_, fun j x hx => ⟨a, rfl, ?_⟩⟩
    · simp [hz]; omega
    · simp [hz]; omega
    · have hj : j < len := by
        have := (List.getElem?_eq_some_iff.1 hx).1
        simp at this; omega
      rw [hcell j (by omega)]
      rw [List.getElem?_take, if_pos hj] at hx
      simp [List.getD, hx]
theorem open_acts8_arg {p : Option Addr} {n c : Nat} {v : Value} {d : DataW H} {ps : List MemPlace} (e : v = .slice p n c) (h : DataW.Trod enc Try.prog w base (fun _ => true) held 41 v d ps) : ∃ L : List Act8, Acts8At w v L := by
  obtain ⟨fuel, h⟩ := h
  subst e
  rcases open_slice Try.underlying41 h with ⟨hcs, _⟩ | ⟨a, len, cap, m, n', D, Pl, hcs, _, hl, hm, hz, _, hi⟩
  · rw [(List.cons.inj hcs).1]
    exact ⟨[], none, 0, rfl, by simp [maxLen], fun j x hx => by simp at hx⟩
  · rw [(List.cons.inj hcs).1]
    simp only [if_true] at hz
    have key : ∀ i, i < len → ∃ x : Act8, x.Good ∧ Act8At w (a.add (i * 5)) x := by
      intro i hil
      obtain ⟨cs', h1, h2⟩ := hi i (by omega)
      rw [cells_act8] at h1
      obtain ⟨x, rfl, hg, hk⟩ := act_of8 h2
      obtain ⟨_, _, hat⟩ := World.cells?_some h1
      have c : ∀ j, 0 < j → j < 5 → w.cell? ⟨(a.add (i * 5)).block, (a.add (i * 5)).off + j, none⟩ = x.vals[j]? := fun j h0 hj => by
        rw [← hat j hj]
        congr 1
        unfold Addr.add
        rw [if_neg (by omega : ¬ j = 0)]
      refine ⟨x, hg, ?_, c 1 (by omega) (by omega), c 2 (by omega) (by omega), c 3 (by omega) (by omega), c 4 (by omega) (by omega), hk⟩
      have h0 := hat 0 (by omega)
      have e : (a.add (i * 5)).add 0 = a.add (i * 5) := rfl
      rw [e] at h0
      exact h0
    refine ⟨(List.range len).pmap (fun i hi => (key i hi).choose) (fun i hi => List.mem_range.1 hi), some a, cap, ?_, ?_, fun j x hx => ?_⟩
    · simp
    · simp; omega
    · rw [List.getElem?_pmap] at hx
      by_cases hj : j < len
      · simp only [List.getElem?_range hj, Option.pmap_some, Option.some.injEq] at hx
        subst hx
        exact ⟨(key j hj).choose_spec.1, a, rfl, (key j hj).choose_spec.2⟩
      · have : (List.range len)[j]? = none := List.getElem?_eq_none (by simp; omega)
        simp [this] at hx
end Go.Proofs.Ytlaepdpgegoopaa
