/- The program's books in memory, and what leaves them alone: New, none, Balance, Many, Zero. -/
import Derived.Test.YtffipjhpoaalhaaBkP
import Derived.Deep.RegionHeld3
import Derived.Deep.QuietTactic
import Derived.BigQuiet
import Derived.Lib.SliceRun
set_option linter.unusedVariables false
namespace Go.Proofs.Ytffipjhpoaalhaa
open Go.ChangeShapes Go.WideShapes Go.ChangeAt Go.RowKit Csv Bk Mon
open Go.Maps (Keyed)

abbrev tSs : TypeId := 39
abbrev tBo : TypeId := 43
def strK : RowK ByteArray where
  t := 9
  ts := tSs
  sz := 1
  bytes := 16
  zero := .string ⟨#[]⟩
  cells := fun s => [.string s]
  under := Try.underlying39
  info := by kernel_rfl
  zsize := rfl
  pos := by omega
  small := by omega
  len := fun x => rfl
  one := fun x u hu => by
    rw [List.mem_singleton] at hu
    subst hu; rfl
def idsOf (L : List PI) : List ByteArray := L.map PI.s
/-- The program's books: the texts at v, the postings in mp, the balances in mb. -/
structure PAt (w : World) (b : Nat) (v : Value) (mp mb : Nat) (L : List PI) : Prop where
  box : w.heap[b]? = some (.cells #[v, .map (some mp), .map (some mb)] tBo (0, 0))
  ids : strK.Own 0 w v (idsOf L)
  po : ∃ D, w.ownsMap Try.prog 9 asIs mp L.length D ∧ Posts D L
  ba : ∃ D, w.ownsMap Try.prog tHo asIs mb (4 * L.length) D ∧ Bals D (bal (pms L))
  ne : mp ≠ mb
/-- The blocks that are theirs. -/
def BkF (b : Nat) (v : Value) (mp mb : Nat) (i : Nat) : Prop := i = b ∨ i = mp ∨ i = mb ∨ v.ownBlock = some i
def PBk (w : World) (F : Nat → Prop) (b : Nat) (L : List PI) : Prop := ∃ v mp mb, PAt w b v mp mb L ∧ ∀ i, F i ↔ BkF b v mp mb i
theorem own_map {w w' : World} {P : Program} {k : TypeId} {R : Value → Option (DataW Value × List MemPlace)} {b n : Nat} {D : DataW Value} (h : w.ownsMap P k R b n D) (e : w'.heap[b]? = w.heap[b]?) : w'.ownsMap P k R b n D := by
  obtain ⟨es, clock, hb, r⟩ := h
  exact ⟨es, clock, e.trans hb, r⟩
theorem PAt.near {w w' : World} {b mp mb : Nat} {v : Value} {L : List PI} (h : PAt w b v mp mb L) (k : ∀ i, BkF b v mp mb i → w'.heap[i]? = w.heap[i]?) : PAt w' b v mp mb L := by
  obtain ⟨h1, h2, ⟨D, h3, h4⟩, ⟨D', h5, h6⟩, h7⟩ := h
  exact ⟨(k b (Or.inl rfl)).trans h1, strK.own_local h2 fun g hg => k g (Or.inr (Or.inr (Or.inr hg))), ⟨D, own_map h3 (k mp (Or.inr (Or.inl rfl))), h4⟩, ⟨D', own_map h5 (k mb (Or.inr (Or.inr (Or.inl rfl)))), h6⟩, h7⟩
theorem PAt.lt {w : World} {b mp mb : Nat} {v : Value} {L : List PI} (h : PAt w b v mp mb L) : ∀ i, BkF b v mp mb i → i < w.heap.size := by
  rintro i (rfl | rfl | rfl | hi)
  · exact (Array.getElem?_eq_some_iff.1 h.box).1
  · obtain ⟨D, h3, _⟩ := h.po; exact h3.lt
  · obtain ⟨D, h3, _⟩ := h.ba; exact h3.lt
  · exact (strK.own_lt h.ids i hi).2
theorem PAt.keeps {w w' : World} {b mp mb : Nat} {v : Value} {L : List PI} (h : PAt w b v mp mb L) (k : Keeps w w') : PAt w' b v mp mb L := h.near fun i hi => k.block i (h.lt i hi)
theorem PBk.near {w w' : World} {F : Nat → Prop} {b : Nat} {L : List PI} (h : PBk w F b L) (k : ∀ i, F i → w'.heap[i]? = w.heap[i]?) : PBk w' F b L := by
  obtain ⟨v, mp, mb, h1, h2⟩ := h
  exact ⟨v, mp, mb, h1.near fun i hi => k i ((h2 i).2 hi), h2⟩
theorem PBk.lt {w : World} {F : Nat → Prop} {b : Nat} {L : List PI} (h : PBk w F b L) : ∀ i, F i → i < w.heap.size := by
  obtain ⟨v, mp, mb, h1, h2⟩ := h
  exact fun i hi => h1.lt i ((h2 i).1 hi)
theorem PBk.keeps {w w' : World} {F : Nat → Prop} {b : Nat} {L : List PI} (h : PBk w F b L) (k : Keeps w w') : PBk w' F b L := h.near fun i hi => k.block i (h.lt i hi)
/-- A call that changes the books' own blocks alone. -/
structure OffF (F F' : Nat → Prop) (w w' : World) : Prop where
  os : w'.os = w.os
  tape : w'.tape = w.tape
  output : w'.output = w.output
  size : w.heap.size ≤ w'.heap.size
  block : ∀ i, i < w.heap.size → ¬ F i → w'.heap[i]? = w.heap[i]?
  own : ∀ i, F' i → F i ∨ w.heap.size ≤ i
theorem PAt.cells {w : World} {b mp mb : Nat} {v : Value} {L : List PI} (h : PAt w b v mp mb L) : w.cell? ⟨b, 0, none⟩ = some v ∧ w.cell? ⟨b, 1, none⟩ = some (.map (some mp)) ∧ w.cell? ⟨b, 2, none⟩ = some (.map (some mb)) :=
  ⟨Joins.cell_of_block h.box 0, Joins.cell_of_block h.box 1, Joins.cell_of_block h.box 2⟩
/-- A balance, where what is there may be. -/
theorem bal_below {l : List PM} (h : ∀ p ∈ l, May p) {a o : Int} (ho : o < 0) : bal l a o = 0 := by
  induction l with
  | nil => rfl
  | cons p r ih =>
    have e : bal (p :: r) a o = hit p a o + bal r a o := by unfold bal; simp
    have h1 := h p (by simp)
    have h2 : hit p a o = 0 := by
      unfold hit
      rw [if_pos]
      have := h1.ord
      omega
    rw [e, h2, ih fun q hq => h q (by simp [hq])]
    rfl
def PNewOut (w : World) (e : Ending) (w' : World) : Prop := ∃ b F, e = .returned (.pointer (some ⟨b, 0, none⟩)) ∧ PBk w' F b [] ∧ (∀ i, F i → w.heap.size ≤ i) ∧ Keeps w w'
theorem pnew_any (w : World) : Calls Try.prog 10 #[] w (PNewOut w) := by
  have hmm := @run_makeMap Try.prog
  go_enter Try.func10, Try.ntmps10
  go_wp2
  go_ret
  have z (W : World) (o : Obj) : (W.alloc o).heap.size = W.heap.size + 1 := by simp
  have k1 := keeps_box w (.map #[] 0)
  have k2 := keeps_box (w.alloc (.map #[] 0)) (.map #[] 0)
  have k3 := keeps_box ((w.alloc (.map #[] 0)).alloc (.map #[] 0)) (.cells #[.slice none 0 0, .map (some w.heap.size), .map (some (w.heap.size + 1))] tBo)
  refine ⟨w.heap.size + 2, BkF (w.heap.size + 2) (.slice none 0 0) w.heap.size (w.heap.size + 1), ?_, ⟨.slice none 0 0, w.heap.size, w.heap.size + 1, ⟨?_, strK.own_nil _ _, ?_, ?_, by omega⟩, fun i => Iff.rfl⟩, ?_, (k1.trans k2).trans k3⟩
  · rfl
  · have := heap_alloc_new ((w.alloc (.map #[] 0)).alloc (.map #[] 0)) (.cells #[.slice none 0 0, .map (some w.heap.size), .map (some (w.heap.size + 1))] tBo)
    rw [z, z] at this
    exact this
  · exact ⟨_, ((World.ownsMap_made w Try.prog 9 asIs).alloc _).alloc _, Posts.nil⟩
  · have := World.ownsMap_made (w.alloc (.map #[] 0)) Try.prog tHo asIs
    rw [z] at this
    exact ⟨_, this.alloc _, fun a o _ _ => rfl⟩
  · rintro i (rfl | rfl | rfl | hi)
    · omega
    · omega
    · omega
    · cases hi
theorem pnone_any {b mp mb : Nat} {v : Value} {L : List PI} {w : World} (h : PAt w b v mp mb L) : Calls Try.prog 21 #[.pointer (some ⟨b, 0, none⟩)] w fun e w' => e = .returned (.bool false) ∧ w' = w := by
  have hq := fun w => run_eql_map_nil_sl (P := Try.prog) w tMb _ _ (some mb) Try.underlying41
  obtain ⟨c0, c1, c2⟩ := h.cells
  clear h
  go_enter Try.func21, Try.ntmps21
  go_wp2
  go_ret
  exact ⟨rfl, rfl⟩
theorem pbalance_at {b mp mb : Nat} {v : Value} {L : List PI} {w : World} (a o : Int) (h : PAt w b v mp mb L) (ha : I64 a) (ho : I64 o) :
    Calls Try.prog 13 #[.pointer (some ⟨b, 0, none⟩), .int .i64 a, .int .i64 o] w fun e w' => e = .returned (.int .i64 (bal (pms L) a o)) ∧ w' = w := by
  obtain ⟨D, hD, hB⟩ := h.ba
  have hl := look_ho hD ha ho (hB a o ha ho)
  unfold hoV at hl
  have HN := Lib.hid (pnone_any h)
  obtain ⟨c0, c1, c2⟩ := h.cells
  obtain ⟨q, hq⟩ : ∃ q, bal (pms L) a o = q := ⟨_, rfl⟩
  rw [hq] at hl ⊢
  clear h hD hB hq
  go_enter Try.func13, Try.ntmps13
  go_wp2_with fail
  refine HN.out.mono ?_
  rintro e w' ⟨rfl, rfl⟩
  clear HN
  go_wp2
  go_ret
  exact ⟨rfl, rfl⟩
theorem pbalance_any (F : Nat → Prop) (b : Nat) (L : List PI) (a o : Int) (w : World) (h : PBk w F b L) (hok : OkL (pms L)) (ha : I64 a) (ho : I64 o) :
    Calls Try.prog 13 #[.pointer (some ⟨b, 0, none⟩), .int .i64 a, .int .i64 o] w fun e w' => e = .returned (.int .i64 (balM (pms L) a o)) ∧ Keeps w w' := by
  obtain ⟨v, mp, mb, h1, _⟩ := h
  refine (pbalance_at a o h1 ha ho).mono ?_
  rintro e w' ⟨rfl, rfl⟩
  refine ⟨?_, Keeps.refl _⟩
  unfold balM
  split
  · rename_i h0; rw [bal_below hok.may h0]
  · rfl
theorem pmany_any (F : Nat → Prop) (b : Nat) (L : List PI) (w : World) (h : PBk w F b L) : Calls Try.prog 17 #[.pointer (some ⟨b, 0, none⟩)] w fun e w' => e = .returned (.int .i64 (L.length : Int)) ∧ Keeps w w' := by
  obtain ⟨v, mp, mb, h, _⟩ := h
  have HN := Lib.hid (pnone_any h)
  obtain ⟨c0, c1, c2⟩ := h.cells
  have hi := h.ids
  obtain ⟨pv, cv, rfl⟩ := strK.own_shape hi
  have E : Hid ((idsOf L).length = L.length) := Lib.hid (by unfold idsOf; simp)
  clear h hi
  go_enter Try.func17, Try.ntmps17
  go_wp2_with fail
  refine HN.out.mono ?_
  rintro e w' ⟨rfl, rfl⟩
  clear HN
  go_wp2
  go_ret
  exact ⟨by rw [← E.out]; rfl, Keeps.refl _⟩
/-- The sum of the first accounts. -/
def psum (f : Int → Int) : Nat → Int
  | 0 => 0
  | k + 1 => psum f k + f k
theorem wrap0 : wrap64 0 = 0 := by unfold wrap64; omega
theorem psum_step (f : Int → Int) (k : Nat) : wrap64 (wrap64 (psum f k) + f k) = wrap64 (psum f (k + 1)) := by
  show _ = wrap64 (psum f k + f k)
  unfold wrap64
  omega
set_option maxRecDepth 100000 in
theorem pzero_any (F : Nat → Prop) (b : Nat) (L : List PI) (w : World) (h : PBk w F b L) (hok : OkL (pms L)) : Calls Try.prog 18 #[.pointer (some ⟨b, 0, none⟩)] w fun e w' => e = .returned (.bool true) ∧ Keeps w w' := by
  obtain ⟨v, mp, mb, h, _⟩ := h
  have HN := Lib.hid (pnone_any h)
  have HB : Hid (∀ a, I64 a → Calls Try.prog 13 #[.pointer (some ⟨b, 0, none⟩), .int .i64 a, .int .i64 0] w fun e w' => e = .returned (.int .i64 (bal (pms L) a 0)) ∧ w' = w) := Lib.hid fun a ha => pbalance_at a 0 h ha (by unfold I64 top; decide)
  obtain ⟨f, hf⟩ : ∃ f : Int → Int, f = fun a => bal (pms L) a 0 := ⟨_, rfl⟩
  have HF : Hid (psum f 5 = 0) := Lib.hid (by
    subst hf
    have := bal_zero hok.may 0
    show 0 + bal (pms L) 0 0 + bal (pms L) 1 0 + bal (pms L) 2 0 + bal (pms L) 3 0 + bal (pms L) 4 0 = 0
    omega)
  have HB2 : Hid (∀ a, I64 a → Calls Try.prog 13 #[.pointer (some ⟨b, 0, none⟩), .int .i64 a, .int .i64 0] w fun e w' => e = .returned (.int .i64 (f a)) ∧ w' = w) := Lib.hid (by rw [hf]; exact HB.out)
  clear h HB hf
  go_enter Try.func18, Try.ntmps18
  go_wp2_with fail
  refine HN.out.mono ?_
  rintro e w' ⟨rfl, rfl⟩
  clear HN
  go_wp2
  go_loopw [3, 4] (fun v3 v4 wr => ∃ k : Nat, k ≤ 5 ∧ v4 = .int .i64 (k : Int) ∧ v3 = .int .i64 (wrap64 (psum f k)) ∧ wr = w') (fun _ v4 _ => 6 - (intOf v4).toNat)
  case atStart => exact ⟨0, by omega, rfl, by rw [show psum f 0 = 0 from rfl, wrap0], rfl⟩
  case round =>
    obtain ⟨k, hk, rfl, rfl, rfl⟩ := hrel
    by_cases hlt : k ≤ 4
    · have hle : (k : Int) ≤ 4 := by omega
      have I1 : Hid (I64 (k : Int)) := Lib.hid (by unfold I64 top; omega)
      have hw := psum_step f k
      obtain ⟨s, hs⟩ : ∃ s, wrap64 (psum f k) = s := ⟨_, rfl⟩
      obtain ⟨q, hq⟩ : ∃ q, f (k : Int) = q := ⟨_, rfl⟩
      obtain ⟨s1, hs1⟩ : ∃ s, wrap64 (psum f (k + 1)) = s := ⟨_, rfl⟩
      have HB3 := Lib.hid (HB2.out k I1.out)
      rw [hq] at HB3
      rw [hs, hq, hs1] at hw
      rw [hs]
      have HS1 := Lib.hid hs1
      clear hs hs1 hq
      go_wp2_with fail
      refine HB3.out.mono ?_
      rintro e w'' ⟨rfl, rfl⟩
      go_wp2
      exact ⟨⟨k + 1, by omega, by go_num, by rw [hw, HS1.out]; exact ⟨rfl, trivial⟩⟩, by simp [intOf]; omega⟩
    · obtain rfl : k = 5 := by omega
      rw [HF.out]
      rw [wrap0]
      go_wp2
      go_ret
      exact ⟨rfl, Keeps.refl _⟩
theorem pgrown_keeps {w w' : World} (h : w.grownBy w' none) : Keeps w w' := ⟨h.os, h.tape, h.output, h.size, fun i hi => h.block i hi (by simp)⟩
set_option maxRecDepth 100000 in
set_option maxHeartbeats 4000000 in
theorem plist_any (F : Nat → Prop) (b : Nat) (L : List PI) (w : World) (h : PBk w F b L) (hg : GoodL L) (hl : L.length ≤ 1000) :
    Calls Try.prog 15 #[.pointer (some ⟨b, 0, none⟩)] w fun e w' => ∃ p c, e = .returned (.slice p L.length c) ∧ postK.Own w.heap.size w' (.slice p L.length c) L ∧ Keeps w w' := by
  obtain ⟨v, mp, mb, h, _⟩ := h
  have HN := Lib.hid (pnone_any h)
  have HA := Lib.hid h
  obtain ⟨c0, c1, c2⟩ := h.cells
  obtain ⟨pv, cv, rfl⟩ := strK.own_shape h.ids
  have EL : Hid ((idsOf L).length = L.length) := Lib.hid (by unfold idsOf; simp)
  have HG := Lib.hid hg
  obtain ⟨N, hN⟩ : ∃ N, L.length = N := ⟨_, rfl⟩
  have HN2 := Lib.hid hN
  have en : (idsOf L).length = N := by rw [EL.out, hN]
  rw [en] at HA c0
  rw [hN] at hl ⊢
  have HL := Lib.hid hl
  have HEN := Lib.hid en
  have CB : Hid (∀ W, Keeps w W → W.cell? ⟨b, 0, none⟩ = some (.slice pv N cv) ∧ W.cell? ⟨b, 1, none⟩ = some (.map (some mp))) := Lib.hid fun W k => ⟨cell_keeps k c0, cell_keeps k c1⟩
  obtain ⟨i, hi, hz, hsz, hb⟩ := postK.parts
  have HB2 : Hid (i.bytes * N ≤ 281474976710656) := Lib.hid (by rw [hb]; show 48 * N ≤ _; omega)
  have HB3 : Hid (N ≤ maxLen) := Lib.hid (by unfold maxLen; omega)
  clear h hN en c2 hg
  go_enter Try.func15, Try.ntmps15
  go_wp2_with fail
  refine HN.out.mono ?_
  rintro e w' ⟨rfl, rfl⟩
  clear HN
  go_wp2_with (first
    | (at_make; refine wpList_make_own _ rfl _ _ tPs rfl w'.heap.size tPo i _ 5 Try.underlying22 hi hz hsz .i64 .i64 (N : Int) N rfl rfl rfl HB2.out HB3.out (Nat.le_refl _) ?_; intro w1 hown1 hg1; have HG1 := Lib.hid (pgrown_keeps hg1); have HO1 : Hid (postK.Own w'.heap.size w1 (.slice (some ⟨w'.heap.size, 0, none⟩) 0 N) []) := Lib.hid hown1; obtain ⟨c3, c4⟩ := CB.out w1 HG1.out; clear c0 c1 hown1 hg1)
    | go_in)
  go_loopw [3, 19] (fun v3 v19 wr => ∃ k : Nat, k ≤ N ∧ v19 = .int .i64 (k : Int) ∧ (∃ p c, v3 = .slice p k c ∧ postK.Own w'.heap.size wr (.slice p k c) (L.take k)) ∧ Keeps w' wr) (fun _ v19 _ => N - (intOf v19).toNat)
  case atStart => exact ⟨0, by omega, rfl, ⟨_, _, rfl, HO1.out⟩, HG1.out⟩
  case round =>
    obtain ⟨k, hk, rfl, ⟨p, c, rfl, hown⟩, hkr⟩ := hrel
    have HKR := Lib.hid hkr
    have HOW := Lib.hid hown
    obtain ⟨d0, d1⟩ := CB.out wr hkr
    clear hown c3 c4
    by_cases hlt : k < N
    · obtain ⟨x, hx⟩ : ∃ x, L[k]? = some x := ⟨_, List.getElem?_eq_getElem (by have := HN2.out; omega)⟩
      have hi1 : (k : Int) < (N : Int) := by omega
      have hi0 : (0 : Int) ≤ (k : Int) := by omega
      obtain ⟨g, hpv, hcell⟩ : ∃ g, pv = some ⟨g, 0, none⟩ ∧ wr.cell? ⟨g, k, none⟩ = some (.string x.s) := by
        have hids := (HA.out.keeps hkr).ids
        have hh : wr.ownsRow 0 strK.t strK.sz (.slice pv N cv) (idsOf L).length (strK.row (idsOf L)) := hids
        rcases hh.2 with ⟨e, h0⟩ | ⟨g, cap, cur, e, _⟩
        · have := HEN.out; omega
        · simp only [Value.slice.injEq] at e
          obtain ⟨rfl, _, _⟩ := e
          refine ⟨g, rfl, ?_⟩
          have := strK.own_at hids (k := k) (x := x.s) (by unfold idsOf; rw [List.getElem?_map, hx]; rfl) (j := 0) rfl
          have e1 : strK.sz = 1 := rfl
          rw [e1, Nat.mul_one, Nat.add_zero] at this
          exact this
      subst hpv
      obtain ⟨D, hD, hP⟩ := (HA.out.keeps hkr).po
      have hlook := look_po false hD (HG.out x (List.mem_of_getElem? hx)).s (hP.2 k x hx)
      rw [if_neg (by decide)] at hlook
      have HTK : Hid (L.take k ++ [x] = L.take (k + 1)) := Lib.hid (by rw [List.take_add_one, hx]; rfl)
      obtain ⟨p', c', w2, R1, R2, R3⟩ := postK.app_row (wr.alloc (.cells x.vals.toArray tPo)) w'.heap.size (.slice p k c) (L.take k) (.slice (some ⟨wr.heap.size, 0, none⟩) 1 1) [x] (postK.own_keeps HOW.out (keeps_box _ _)) (psrc_one (heap_alloc_new _ _)) (by simp; have := HL.out; omega) (by have := hkr.size; have := (keeps_box wr (.cells x.vals.toArray tPo)).size; omega)
      have hrv : (Builtin.append_ #[tPs, tPs] tPs #[.slice p k c, .slice (some ⟨wr.heap.size, 0, none⟩) 1 1]).run Try.prog (wr.alloc (.cells x.vals.toArray tPo)) = .ok (.slice p' (k + 1) c') w2 := by
        have e : (L.take k).length = k := by rw [List.length_take]; have := HN2.out; omega
        have := R1
        rw [e] at this
        exact this
      have HR := Lib.hid hrv
      have HO2 : Hid (postK.Own w'.heap.size w2 (.slice p' (k + 1) c') (L.take (k + 1))) := Lib.hid (by
        have e : (L.take k).length = k := by rw [List.length_take]; have := HN2.out; omega
        rw [← HTK.out]
        have := R2
        rw [e] at this
        exact this)
      have HK2 : Hid (Keeps w' w2) := Lib.hid (by
        have k1 := hkr.trans (keeps_box wr (.cells x.vals.toArray tPo))
        refine ⟨R3.os.trans k1.os, R3.tape.trans k1.tape, R3.output.trans k1.output, Nat.le_trans k1.size R3.size, fun i hi => (R3.block i (Nat.lt_of_lt_of_le hi k1.size) (fun e => ?_)).trans (k1.block i hi)⟩
        have := postK.own_lt HOW.out i e.symm
        omega)
      unfold PI.val at hlook
      clear hx hD hP hrv R1 R2 R3 hkr
      go_wp2_with (first
        | (at_builtin; refine wpAppKnown rfl _ _ _ _ rfl _ _ _ _ rfl rfl HR.out ?_)
        | go_in)
      exact ⟨⟨k + 1, by omega, by go_num, ⟨p', c', rfl, HO2.out⟩, HK2.out⟩, by simp [intOf]; omega⟩
    · obtain rfl : k = N := by omega
      have hz : ¬ ((k : Int) < (k : Int)) := by omega
      have HLL : Hid (L.take k = L) := Lib.hid (List.take_of_length_le (by have := HN2.out; omega))
      go_wp2
      go_ret
      exact ⟨p, c, rfl, by have := HOW.out; rwa [HLL.out] at this, HKR.out⟩
set_option maxHeartbeats 4000000 in
/-- slices.Clone, of texts. -/
theorem pclone_ss (v : Value) (l : List ByteArray) (w : World) (h : strK.Own 0 w v l) (hl : l.length ≤ 100000) :
    Calls Try.prog 27 #[v] w fun e w' => ∃ p c, e = .returned (.slice p l.length c) ∧ strK.Own w.heap.size w' (.slice p l.length c) l ∧ Keeps w w' := by
  obtain ⟨pv, cv, rfl⟩ := strK.own_shape h
  have HS := Lib.hid (strK.own_src h)
  have HO := Lib.hid h
  obtain ⟨N, hN⟩ : ∃ N, l.length = N := ⟨_, rfl⟩
  have HN := Lib.hid hN
  rw [hN] at HS HO hl ⊢
  have HL := Lib.hid hl
  have hb := hN
  have q22 : ∀ (w : World) (a : Option Addr) (n c n' c' : Nat), (binOp .eql tSs (.slice a n c) (.slice none n' c')).run Try.prog w = .ok (.bool a.isNone) w := fun w a n c n' c' => Lib.run_eql_slice_nil w _ _ a n c n' c' Try.underlying39
  clear h hN
  cases pv with
  | none =>
    obtain ⟨h0, hc⟩ : l = [] ∧ cv = 0 := by
      obtain ⟨p, c, e, h1, _⟩ := HS.out
      simp only [Value.slice.injEq] at e
      obtain ⟨rfl, _, rfl⟩ := e
      exact h1 rfl
    subst h0 hc
    obtain rfl : N = 0 := hb.symm
    go_enter Try.func27, Try.ntmps27
    go_wp2
    go_ret
    exact ⟨none, 0, rfl, strK.own_nil _ _, Keeps.refl _⟩
  | some a =>
    go_enter Try.func27, Try.ntmps27
    have HW := Lib.hid (World.ownsRow_made w #[] 0 (base := w.heap.size) (e := strK.t) (size := strK.sz) (Nat.le_refl _) (Nat.zero_le _) (by simp))
    obtain ⟨p', c', w2, R1, R2, R3⟩ := strK.app_row (w.alloc (.cells #[] strK.t)) w.heap.size (.slice (some ⟨w.heap.size, 0, none⟩) 0 0) [] (.slice (some a) N cv) l HW.out (RowK.Src.keeps strK HS.out (keeps_box _ _)) (by simp; omega) (by simp)
    simp only [List.length_nil, Nat.zero_add, List.nil_append] at R1 R2
    rw [HN.out] at R1 R2
    have HR : Hid ((Builtin.append_ #[tSs, tSs] tSs #[.slice (some ⟨w.heap.size, 0, none⟩) 0 0, .slice (some a) N cv]).run Try.prog (w.alloc (.cells #[] strK.t)) = .ok (.slice p' N c') w2) := Lib.hid R1
    have HO2 := Lib.hid R2
    have HK2 : Hid (Keeps w w2) := Lib.hid (by
      have k1 := keeps_box w (.cells #[] strK.t)
      refine ⟨R3.os.trans k1.os, R3.tape.trans k1.tape, R3.output.trans k1.output, Nat.le_trans k1.size R3.size, fun i hi => (R3.block i (Nat.lt_of_lt_of_le hi k1.size) (fun e => ?_)).trans (k1.block i hi)⟩
      simp [Value.ownBlock] at e
      omega)
    clear R1 R2 R3 HW
    go_wp2_with (first
      | (at_builtin; refine wpAppKnown rfl _ _ _ _ rfl _ _ _ _ rfl rfl HR.out ?_)
      | go_in)
    go_ret
    exact ⟨p', c', rfl, HO2.out, HK2.out⟩
def PCopyOut (L : List PI) (w : World) (e : Ending) (w' : World) : Prop := ∃ c F', e = .returned (.pointer (some ⟨c, 0, none⟩)) ∧ PBk w' F' c L ∧ (∀ i, F' i → w.heap.size ≤ i) ∧ Keeps w w'
/-- A map's entries, as they lie. -/
theorem map_block {w : World} {P : Program} {k : TypeId} {R : Value → Option (DataW Value × List MemPlace)} {b n : Nat} {D : DataW Value} (h : w.ownsMap P k R b n D) :
    ∃ es clock, w.heap[b]? = some (.map es clock) ∧ ∀ (W : World) (c : Nat), W.heap[c]? = some (.map es clock) → W.ownsMap P k R c n D := by
  obtain ⟨es, clock, hb, F, hs, hD⟩ := h
  exact ⟨es, clock, hb, fun W c hc => ⟨es, clock, hc, F, hs, hD⟩⟩
theorem copied {w wa : World} {v1 : Value} {L : List PI} {es1 es2 : Array MapEntry} {k1 k2 : Nat} {D1 D2 : DataW Value} (O1 : strK.Own w.heap.size wa v1 (idsOf L)) (K1 : Keeps w wa)
    (H1 : ∀ (W : World) (c : Nat), W.heap[c]? = some (.map es1 k1) → W.ownsMap Try.prog 9 asIs c L.length D1) (Q1 : Posts D1 L)
    (H2 : ∀ (W : World) (c : Nat), W.heap[c]? = some (.map es2 k2) → W.ownsMap Try.prog tHo asIs c (4 * L.length) D2) (Q2 : Bals D2 (bal (pms L))) :
    PCopyOut L w (.returned (.pointer (some ⟨((wa.alloc (.map es1 k1)).alloc (.map es2 k2)).heap.size, 0, none⟩)))
      (((wa.alloc (.map es1 k1)).alloc (.map es2 k2)).alloc (.cells #[v1, .map (some wa.heap.size), .map (some (wa.alloc (.map es1 k1)).heap.size)] tBo)) := by
  have z (W : World) (o : Obj) : (W.alloc o).heap.size = W.heap.size + 1 := by simp
  have n1 := keeps_box wa (.map es1 k1)
  have n2 := keeps_box (wa.alloc (.map es1 k1)) (.map es2 k2)
  have n3 := keeps_box ((wa.alloc (.map es1 k1)).alloc (.map es2 k2)) (.cells #[v1, .map (some wa.heap.size), .map (some (wa.alloc (.map es1 k1)).heap.size)] tBo)
  refine ⟨_, BkF ((wa.alloc (.map es1 k1)).alloc (.map es2 k2)).heap.size v1 wa.heap.size (wa.alloc (.map es1 k1)).heap.size, rfl, ⟨v1, wa.heap.size, (wa.alloc (.map es1 k1)).heap.size, ⟨?_, ?_, ⟨D1, H1 _ _ ?_, Q1⟩, ⟨D2, H2 _ _ ?_, Q2⟩, ?_⟩, fun i => Iff.rfl⟩, ?_, ((K1.trans n1).trans n2).trans n3⟩
  · exact heap_alloc_new _ _
  · exact strK.own_base (strK.own_keeps O1 ((n1.trans n2).trans n3)) fun g _ => Nat.zero_le g
  · rw [(n2.trans n3).block wa.heap.size (by have := z wa (.map es1 k1); omega)]
    exact heap_alloc_new _ _
  · rw [n3.block (wa.alloc (.map es1 k1)).heap.size (by have := z (wa.alloc (.map es1 k1)) (.map es2 k2); omega)]
    exact heap_alloc_new _ _
  · rw [z]; omega
  · have hs := K1.size
    rintro i (rfl | rfl | rfl | hi)
    · rw [z, z]; omega
    · exact hs
    · rw [z]; omega
    · exact (strK.own_lt O1 i hi).1
set_option maxRecDepth 100000 in
set_option maxHeartbeats 8000000 in
theorem pcopy_any (F : Nat → Prop) (b : Nat) (L : List PI) (w : World) (h : PBk w F b L) (hl : L.length ≤ 1000) :
    Calls Try.prog 19 #[.pointer (some ⟨b, 0, none⟩)] w (PCopyOut L w) := by
  obtain ⟨v, mp, mb, h, _⟩ := h
  have HN := Lib.hid (pnone_any h)
  have HA := Lib.hid h
  have HC : Hid (∀ W, Keeps w W → W.cell? ⟨b, 0, none⟩ = some v ∧ W.cell? ⟨b, 1, none⟩ = some (.map (some mp)) ∧ W.cell? ⟨b, 2, none⟩ = some (.map (some mb))) := Lib.hid fun W k => (h.keeps k).cells
  obtain ⟨D1, m1, q1⟩ := h.po
  obtain ⟨D2, m2, q2⟩ := h.ba
  obtain ⟨es1, k1, hb1, H1⟩ := map_block m1
  obtain ⟨es2, k2, hb2, H2⟩ := map_block m2
  have HQ1 := Lib.hid q1
  have HQ2 := Lib.hid q2
  have HH1 := Lib.hid H1
  have HH2 := Lib.hid H2
  have EL : Hid ((idsOf L).length = L.length) := Lib.hid (by unfold idsOf; simp)
  have C1 : Hid (∀ W, Keeps w W → Calls Try.prog 27 #[v] W fun e w' => ∃ p c, e = .returned (.slice p L.length c) ∧ strK.Own W.heap.size w' (.slice p L.length c) (idsOf L) ∧ Keeps w w') := Lib.hid fun W k => by
    refine (pclone_ss v (idsOf L) W (h.keeps k).ids (by rw [EL.out]; omega)).mono ?_
    rintro e w' ⟨p, c, rfl, h1, h2⟩
    rw [EL.out] at h1 ⊢
    exact ⟨p, c, rfl, h1, k.trans h2⟩
  have C2 : Hid (∀ W, Keeps w W → Calls Try.prog 28 #[.map (some mp)] W fun e w' => e = .returned (.map (some W.heap.size)) ∧ w' = W.alloc (.map es1 k1)) := Lib.hid fun W k => pclone_po mp es1 k1 W ((k.block mp m1.lt).trans hb1)
  have C3 : Hid (∀ W, Keeps w W → Calls Try.prog 29 #[.map (some mb)] W fun e w' => e = .returned (.map (some W.heap.size)) ∧ w' = W.alloc (.map es2 k2)) := Lib.hid fun W k => pclone_ho mb es2 k2 W ((k.block mb m2.lt).trans hb2)
  obtain ⟨c0, c1, c2⟩ := HC.out w (Keeps.refl _)
  clear h m1 q1 m2 q2 hb1 H1 hb2 H2
  go_enter Try.func19, Try.ntmps19
  go_wp2_with fail
  refine HN.out.mono ?_
  rintro e w' ⟨rfl, rfl⟩
  clear HN
  go_wp2
  go_region_held3 (fun W => W.cell? ⟨b, 0, none⟩ = some v ∧ W.cell? ⟨b, 1, none⟩ = some (.map (some mp)) ∧ W.cell? ⟨b, 2, none⟩ = some (.map (some mb)))
    (first | exact HC.out _ (bbel_drew _) | exact HC.out _ K1.out | exact HC.out _ K2.out | exact HC.out _ K3.out | go_keep) (first
    | (go_at_call 27; refine (C1.out _ (bbel_drew _)).mono ?_; rintro e wa ⟨p1, c1', rfl, ho1, kk1⟩; have O1 := Lib.hid ho1; have K1 := Lib.hid kk1; clear ho1 kk1)
    | (go_at_call 28; refine (C2.out _ K1.out).mono ?_; rintro e wb ⟨rfl, hwb⟩; have W2 := Lib.hid hwb; have K2 := Lib.hid (K1.out.trans (Keeps.trans (keeps_box _ _) (Keeps.of_eq hwb.symm))); clear hwb)
    | (go_at_call 29; refine (C3.out _ K2.out).mono ?_; rintro e wc ⟨rfl, hwc⟩; have W3 := Lib.hid hwc; have K3 := Lib.hid (K2.out.trans (Keeps.trans (keeps_box _ _) (Keeps.of_eq hwc.symm))); clear hwc))
  go_wp2
  go_ret
  have e2 := W2.out
  have e3 := W3.out
  subst e2
  subst e3
  exact copied O1.out K1.out HH1.out HQ1.out HH2.out HQ2.out
end Go.Proofs.Ytffipjhpoaalhaa
