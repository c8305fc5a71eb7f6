
/- Bytes that lie in a block of their own: read, written, made of a text, made a text. The contract of fixed.Parse. The document's own answer for fixed: Parse. -/
import Derived.Test.YtomonhghioamfaaGreatDoorArith
import Derived.Laws.IdiomStrings
import Derived.Deep.OwnRows
import Derived.Lib.LazyBuf
import Derived.Test.YtomonhghioamfaaGreatDoorFixedC
import Derived.Laws.BytesArg
import Derived.Test.YtomonhghioamfaaGreatDoorFixedRefC
set_option linter.unusedVariables false
namespace Go.Proofs.YtomonhghioamfaaGreatDoor
open Go.ChangeShapes Go.WideShapes Go.ChangeAt Go.RowKit

theorem info_byte : (Tryz.prog.info? 5).map (fun i => (i.zero, i.size, i.bytes)) = some (some (.int .u8 0), 1, 1) := by kernel_rfl

/-- The bytes l lie in block g, from its head on, and may be written. -/
def Lies (w : World) (g : Nat) (l : List UInt8) : Prop := g < w.heap.size ∧ ∀ i, i < l.length → w.cell? ⟨g, i, none⟩ = (l.map bv)[i]? ∧ w.frozen? ⟨g, i, none⟩ = false

theorem Lies.at {w : World} {g : Nat} {l : List UInt8} (h : Lies w g l) (i : Nat) (hi : i < l.length) : w.cell? ⟨g, i, none⟩ = some (.int .u8 l[i].toNat) := by
  rw [(h.2 i hi).1]; simp [hi]
theorem Lies.loose {w : World} {g : Nat} {l : List UInt8} (h : Lies w g l) (i : Nat) (hi : i < l.length) : w.frozen? ⟨g, i, none⟩ = false := (h.2 i hi).2
theorem Lies.set {w : World} {g : Nat} {l : List UInt8} (h : Lies w g l) (i : Nat) (hi : i < l.length) (v : Int) (c : UInt8) (hv : v = c.toNat) : Lies (w.setCell ⟨g, i, none⟩ (.int .u8 v)) g (l.set i c) := by
  refine ⟨by simpa using h.1, fun j hj => ?_⟩
  rw [List.length_set] at hj
  rw [World.frozen?_setCell]
  refine ⟨?_, (h.2 j hj).2⟩
  by_cases e : i = j
  · subst e
    rw [World.cell?_setCell_same (h := h.at i hi), hv]
    simp [hi]
  · rw [World.cell?_setCell_other (h := by intro q; exact e (by injection q)), (h.2 j hj).1, List.map_set, List.getElem?_set_ne e]
theorem Lies.below {w w' : World} {g B : Nat} {l : List UInt8} (h : Lies w g l) (hb : Below B w w') (hg : g < B) : Lies w' g l :=
  ⟨Nat.lt_of_lt_of_le h.1 hb.size, fun i hi => ⟨(hb.cell (p := ⟨g, i, none⟩) hg).trans (h.2 i hi).1, (hb.frozen (p := ⟨g, i, none⟩) hg).trans (h.2 i hi).2⟩⟩
theorem Lies.keeps {w w' : World} {g : Nat} {l : List UInt8} (h : Lies w g l) (hb : Keeps w w') : Lies w' g l := h.below hb h.1
theorem Lies.drew {w : World} {g : Nat} {l : List UInt8} (h : Lies w g l) : Lies w.drew g l := h
theorem Lies.text {P : Program} {w : World} {g : Nat} {l : List UInt8} (h : Lies w g l) (src e dst : TypeId) (hs : P.underlying src = some (.slice e)) (he : P.underlying e = some (.int .u8)) (hd : P.underlying dst = some .string) (n cap : Nat) (hn : l.length = n) :
    (convert src dst (.slice (some ⟨g, 0, none⟩) n cap)).run P w = .ok (.string ⟨l.toArray⟩) w :=
  loaded_string w src e hs he g n cap l hn (fun i hi => (h.2 i (by omega)).1) dst hd
/-- What 'make' laid. -/
theorem Lies.made {w : World} {B g n cap : Nat} {e : TypeId} {l : List UInt8} (h : w.ownsRow B e 1 (.slice (some ⟨g, 0, none⟩) n cap) n (l.map bv)) : Lies w g l := by
  have hl : l.length = n := by have := h.1; simpa using this
  refine ⟨(h.lt g rfl).2, fun i hi => ⟨h.cellAt i (by omega), h.frozenAt i⟩⟩
theorem lies_zeros (n : Nat) : (madeCells (Value.int .u8 0).cells (n * 1)).toList = (List.replicate n (0 : UInt8)).map bv := by
  rw [Nat.mul_one, show (Value.int .u8 0).cells = #[Value.int .u8 0] from rfl, toList_madeCells_one, List.map_replicate]; rfl
/-- '[]byte(s)'. -/
theorem bytes_lie (w : World) (s : ByteArray) : ∃ (cap : Nat) (w1 : World), (convert 9 31 (.string s)).run Tryz.prog w = .ok (.slice (some ⟨w.heap.size, 0, none⟩) s.size cap) w1 ∧ s.size ≤ cap ∧ Keeps w w1 ∧ Lies w1 w.heap.size s.data.toList ∧ w.heap.size < w1.heap.size := by
  have hr := run_bytes_of_string (P := Tryz.prog) w 9 31 5 s Tryz.underlying9 Tryz.underlying31 Tryz.underlying5
  have hge := grownCap_ge w s.size 0 5
  generalize grownCap w s.size 0 5 = cap at hr hge
  have hsz : s.size ≤ (bytesRow s cap).size := by unfold bytesRow; simp
  have hh : ∀ o, (w.drew.alloc o).heap.size = w.heap.size + 1 := fun o => by simp
  refine ⟨cap, _, hr, hge, ((Below.refl _ _).drew).alloc (Nat.le_refl _) _, ⟨by rw [hh]; omega, fun i hi => ⟨?_, ?_⟩⟩, by rw [hh]; omega⟩
  · rw [len_data] at hi
    refine (World.cell?_alloc_mark w.drew _ _ _ _).trans ?_
    rw [bytesRow_at s cap i hi, List.getElem?_map, List.getElem?_eq_getElem (by rw [len_data]; exact hi)]
    rfl
  · rw [len_data] at hi
    refine (World.frozen?_alloc_mark w.drew _ _ _ _ _).trans ?_
    rw [decide_eq_false (by omega)]; rfl

/-- A row of noughts, as 'make([]byte, n)' lays it. -/
def zrow (n : Nat) : Obj := .cells (madeCells #[.int .u8 0] n) 5
theorem make_zrow (n : Nat) (hn : n ≤ 281474976710656) : ∀ w : World, (Instr.makeSlice 31 (.int .i64 (n : Int)) (.int .i64 (n : Int))).run Tryz.prog w = .ok (.slice (some ⟨w.heap.size, 0, none⟩) n n) (w.alloc (zrow n)) :=
  fun w => run_make_row' (P := Tryz.prog) 31 5 (.int .u8 0) 1 Tryz.underlying31 info_byte rfl .i64 .i64 n (by omega) (by omega) w
theorem lies_zrow (w : World) (n : Nat) : Lies (w.alloc (zrow n)) w.heap.size (List.replicate n 0) := by
  refine ⟨by simp, fun i hi => ⟨?_, ?_⟩⟩
  · rw [zrow, World.cell?_alloc_at _ _ _ _ rfl, ← Array.getElem?_toList, toList_madeCells_one, List.map_replicate]; rfl
  · exact World.frozen?_alloc_at _ _ _ _ rfl
set_option maxRecDepth 100000 in
/-- 'copy(dst, s)', s a text that fits. -/
theorem Lies.copy {w : World} {g : Nat} {l : List UInt8} (h : Lies w g l) (s : ByteArray) (hs : s.size ≤ l.length) (ty n cap : Nat) (hn : l.length = n) : ∃ w1, (Builtin.copy_ #[31, 9] ty #[.slice (some ⟨g, 0, none⟩) n cap, .string s]).run Tryz.prog w = .ok (goInt s.size) w1 ∧
    Lies w1 g (s.data.toList ++ l.drop s.size) ∧ (∀ g' l', g' ≠ g → Lies w g' l' → Lies w1 g' l') ∧ (∀ B W0, B ≤ g → Below B W0 w → Below B W0 w1) := by
  have hz : ∀ w, (Go.sizeOf 5).run Tryz.prog w = .ok 1 w := fun w => by kernel_rfl
  have hr := run_copy_string (P := Tryz.prog) w 31 9 ty 5 g 0 n cap s Tryz.underlying31 hz (by omega)
    (fun j hj => by rw [Nat.zero_add, h.at j (by omega)]; rfl) (fun j hj => by rw [Nat.zero_add]; exact h.loose j (by omega))
  have hcl : (s.data.toList.map fun x => Value.int .u8 (x.toNat : Int)).length = s.size := by simp
  have hsz : ∀ (vs : List Value) (o : Nat) (w : World), (w.setCells g o vs).heap.size = w.heap.size := by
    intro vs
    induction vs with
    | nil => intro o w; rfl
    | cons v r ih => intro o w; rw [World.setCells, ih]; simp
  refine ⟨_, hr, ⟨by rw [hsz]; exact h.1, fun i hi => ⟨?_, ?_⟩⟩, fun g' l' hne h' => ⟨by rw [hsz]; exact h'.1, fun i hi => ⟨?_, ?_⟩⟩, fun B W0 hB hb => below_setCells hB _ _ _ hb⟩
  · rw [List.length_append, len_data, List.length_drop] at hi
    by_cases hlt : i < s.size
    · have := World.cell?_setCells_in g (s.data.toList.map fun x => Value.int .u8 (x.toNat : Int)) 0 w (fun j hj => by rw [Nat.zero_add, h.at j (by rw [hcl] at hj; omega)]; rfl) i (by rw [hcl]; exact hlt)
      rw [Nat.zero_add] at this
      rw [this, List.map_append, List.getElem?_append_left (by simpa using hlt)]
      exact (List.getElem?_eq_getElem (by simpa using hlt)).symm
    · have := World.cell?_setCells_out g (s.data.toList.map fun x => Value.int .u8 (x.toNat : Int)) 0 w ⟨g, i, none⟩ (fun _ _ => Or.inr (by rw [hcl]; show 0 + s.size ≤ i; omega))
      rw [this, (h.2 i (by omega)).1, List.map_append, List.getElem?_append_right (by simp; omega), List.map_drop, List.getElem?_drop]
      congr 1
      simp; omega
  · rw [World.frozen?_setCells]
    rw [List.length_append, len_data, List.length_drop] at hi
    exact h.loose i (by omega)
  · rw [World.cell?_setCells_out g _ 0 w ⟨g', i, none⟩ (fun e => absurd e hne)]; exact (h'.2 i hi).1
  · rw [World.frozen?_setCells]; exact (h'.2 i hi).2
end Go.Proofs.YtomonhghioamfaaGreatDoor
namespace Go.Proofs.YtomonhghioamfaaGreatDoor
open Go.ChangeShapes Go.WideShapes Go.ChangeAt Go.RowKit Csv Fix

/-- What is told of a line. -/
def FixOut (W : List Int) (l : Bs) (w : World) (e : Ending) (w' : World) : Prop :=
  Keeps w w' ∧ ∃ (v : Value) (c : Nat), e = .returned (.tuple #[v, .int .i64 (c : Int)]) ∧ (pa W l).2 = c ∧ StrsAt w' v (pa W l).1
theorem fixOut_no {W : List Int} {l : Bs} {w : World} {c : Nat} {i : Int} (h : pa W l = ([], c)) (hi : i = c) : FixOut W l w (.returned (.tuple #[.slice none 0 0, .int .i64 i])) w :=
  ⟨Keeps.refl _, _, c, by rw [hi], by rw [h], by rw [h]; exact StrsAt.nil w⟩

/-- A line under way: the fields that are told, what stands behind them. -/
def ParRel (w : World) (W : List Int) (l : Bs) (vf vr vi : Value) (wx : World) : Prop :=
  ∃ k R C o S : Nat, k ≤ W.length ∧ vi = .int .i64 k ∧ vr = .slice (some ⟨w.heap.size, o, none⟩) R C ∧ S = sumW (W.take k) ∧ S + R = l.length ∧ R ≤ C ∧ (0 < R → o = S) ∧
    wx.ownsRow (w.heap.size + 1) tS 1 vf k (svs (cutS (W.take k) l)) ∧ Lies wx w.heap.size l ∧ Keeps w wx

/-- Bytes from a place on are turned into a text. -/
theorem text_at {P : Program} {w : World} {g : Nat} {l : Bs} (h : Lies w g l) (o n cap : Nat) (x : Bs) (hx : x = (l.drop o).take n) (hn : o + n ≤ l.length) (src e dst : TypeId) (hs : P.underlying src = some (.slice e)) (he : P.underlying e = some (.int .u8)) (hd : P.underlying dst = some .string) :
    (convert src dst (.slice (some ⟨g, o, none⟩) n cap)).run P w = .ok (.string ⟨x.toArray⟩) w := by
  have hxl : x.length = n := by rw [hx, List.length_take, List.length_drop]; omega
  have e0 : ∀ i, i < n → x[i]? = l[o + i]? := fun i hi => by rw [hx, List.getElem?_take, if_pos hi, List.getElem?_drop]
  have hr := run_convert_bytes_arg (P := P) w src e hs he g o n cap (x.map fun c => (c.toNat : Int)) (by simpa using hxl) (fun i hi => by
    rw [h.at (o + i) (by omega)]
    simp [List.getD, e0 i hi, List.getElem?_eq_getElem (show o + i < l.length by omega)]) dst hd
  rw [hr]
  congr 2
  simp only [strOfNums, List.map_map]
  congr 2
  refine (List.map_congr_left (g := id) fun c _ => ?_).trans (List.map_id _)
  simp
theorem Lies.rd {w : World} {g : Nat} {l x : Bs} {o n : Nat} (h : Lies w g l) (hx : x = (l.drop o).take n) (hn : o + n ≤ l.length) : BytesRd w (some ⟨g, o, none⟩) x := by
  intro j c hc
  rw [hx, List.getElem?_take] at hc
  by_cases hj : j < n
  · rw [if_pos hj, List.getElem?_drop, List.getElem?_eq_getElem (by omega)] at hc
    have hc' := Option.some.inj hc
    refine ⟨_, rfl, ?_⟩
    have := h.at (o + j) (by omega)
    rw [hc'] at this
    unfold Addr.add
    by_cases h0 : j = 0
    · subst h0; simpa using this
    · simpa [h0] using this
  · rw [if_neg hj] at hc; cases hc

theorem trimR_front (l : Bs) (o m : Nat) : trimR ((l.drop o).take m) = (l.drop o).take (trimR ((l.drop o).take m)).length := by
  have h := trimR_take ((l.drop o).take m)
  have hl := trimR_len ((l.drop o).take m)
  rw [List.length_take] at hl
  rw [List.take_take, Nat.min_eq_left (by omega)] at h
  exact h
theorem Lies.grown {w w' : World} {g : Nat} {l : List UInt8} {row : Option Nat} (h : Lies w g l) (hg : w.grownBy w' row) (hne : row ≠ some g) : Lies w' g l := by
  have hb := hg.block g h.1 (fun e => hne e.symm)
  refine ⟨Nat.lt_of_lt_of_le h.1 hg.size, fun i hi => ?_⟩
  have := h.2 i hi
  simp only [World.cell?, World.frozen?, hb] at this ⊢
  exact this

set_option maxRecDepth 100000 in
set_option maxHeartbeats 4000000 in
theorem fparse_any (vW : Value) (W : List Int) (s : ByteArray) (w : World) (hW : IntsAt w vW W) (hs : s.size ≤ maxLen) :
    Calls Tryz.prog 57 #[vW, .string s] w (FixOut W s.data.toList w) := by
  have hinfoS : (Tryz.prog.info? tS).map (fun i => (i.zero, i.size, i.bytes)) = some (some (.string ByteArray.empty), 1, 16) := by kernel_rfl
  obtain ⟨iS, hiS, hS⟩ := Option.map_eq_some_iff.1 hinfoS
  simp only [Prod.mk.injEq] at hS
  obtain ⟨hzS1, hzS2, hzS3⟩ := hS
  have HIS := Lib.hid hiS
  have HZ := Lib.hid (And.intro hzS1 (And.intro hzS2 hzS3))
  clear hinfoS hiS hzS1 hzS2 hzS3
  have ctg := together_any vW W w hW
  have co := firstOdd_any s w hs
  obtain ⟨pW, cW, rfl, lW, hW⟩ := hW
  have HW := Lib.hid hW
  clear hW
  unfold maxLen at lW hs
  cases hok : okW W with
  | false =>
    rw [hok] at ctg
    have H := Lib.hid (pa_wide s.data.toList hok)
    clear hok co
    go_enter Tryz.func57, Tryz.ntmps57
    go_wp2_with (go_at_call 87; refine ctg.mono ?_; rintro e w' ⟨rfl, rfl⟩)
    go_ret2
    exact fixOut_no H.out rfl
  | true =>
    rw [hok, togI_yes hok] at ctg
    have HOK := Lib.hid hok
    have hsum := okW_sum hok
    have hWl := okW_len hok
    obtain ⟨N, hN⟩ : ∃ N, sumW W = N := ⟨_, rfl⟩
    rw [hN] at ctg hsum
    have HN := Lib.hid hN
    clear hok hN
    by_cases hlen : s.size = N
    · have t1 : ((s.size : Int) != (N : Int)) = false := by simp [bne, hlen]
      have HE := Lib.hid hlen
      have HL := Lib.hid (show s.data.toList.length = sumW W from by rw [len_data, hlen, HN.out])
      clear hlen
      cases ho : odd s.data.toList with
      | some k =>
        rw [ho] at co
        have co' : Calls Tryz.prog 88 #[.string s] w fun e w' => e = .returned (.int .i64 (k : Int)) ∧ w = w' := co
        have H := Lib.hid (pa_odd HOK.out HL.out ho)
        have hk : k < s.size := by have := odd_lt ho; rwa [len_data] at this
        clear ho co
        go_enter Tryz.func57, Tryz.ntmps57
        go_wp2_with (first
          | (go_at_call 87; refine ctg.mono ?_; rintro e w' ⟨rfl, rfl⟩)
          | (go_at_call 88; refine co'.mono ?_; rintro e w' ⟨rfl, rfl⟩))
        go_ret2
        exact fixOut_no H.out (by omega)
      | none =>
        rw [ho] at co
        have co' : Calls Tryz.prog 88 #[.string s] w fun e w' => e = .returned (.int .i64 (-1)) ∧ w = w' := co
        have H := Lib.hid (pa_yes HOK.out HL.out ho)
        obtain ⟨cap, w1, hconv, hcap, hk1, hli, hgl⟩ := bytes_lie w s
        have HK1 := Lib.hid hk1
        have HLI := Lib.hid hli
        clear ho co hk1 hli
        go_enter Tryz.func57, Tryz.ntmps57
        go_wp2_with (first
          | (go_at_call 87; refine ctg.mono ?_; rintro e w' ⟨rfl, rfl⟩)
          | (go_at_call 88; refine co'.mono ?_; rintro e w' ⟨rfl, rfl⟩))
        clear ctg co' hconv t1
        have hcut0 : svs (cutS (W.take 0) s.data.toList) = [] := rfl
        go_loopw [4, 9, 39] (fun vf vr vi wx => ParRel w W s.data.toList vf vr vi wx) (fun _ _ i _ => W.length - (intOf i).toNat)
        case atStart => exact ⟨0, s.size, cap, 0, 0, by omega, rfl, rfl, rfl, by rw [len_data]; omega, hcap, fun _ => rfl, World.ownsRow_nil _ _ _ _, HLI.out, HK1.out⟩
        case round =>
          obtain ⟨k, R, C, o, S, hk, rfl, rfl, hS, hSR, hRC, ho, hown, hli, hkp⟩ := hrel
          have HS := Lib.hid hS
          have HLI2 := Lib.hid hli
          have HK := Lib.hid hkp
          have HOW := Lib.hid hown
          have HSR := Lib.hid hSR
          have HO := Lib.hid ho
          clear hS hSR ho hown hli hkp hcut0
          by_cases hlt : k < W.length
          · obtain ⟨n, hn⟩ : ∃ n, W[k]? = some n := ⟨_, List.getElem?_eq_getElem hlt⟩
            obtain ⟨a, rfl, hca⟩ := HW.out k n hn
            have hca2 := cell_keeps HK.out hca
            have hwn := okW_at HOK.out hn
            obtain ⟨m, hm⟩ : ∃ m : Nat, n = (m : Int) := ⟨n.toNat, by omega⟩
            subst hm
            have hst := sumW_take W k _ hn
            have hsp := sumW_part W (k + 1)
            rw [hst, ← HS.out, ← HL.out, ← HSR.out] at hsp
            obtain ⟨R', rfl⟩ : ∃ R', R = m + R' := ⟨R - m, by omega⟩
            obtain ⟨C', rfl⟩ : ∃ C', C = m + C' := ⟨C - m, by omega⟩
            obtain rfl : o = S := HO.out (by omega)
            have HST := Lib.hid (show o + m = sumW (W.take (k + 1)) from by rw [hst, ← HS.out]; simp)
            have HNK := Lib.hid hn
            have hi1 : (k : Int) < (W.length : Int) := by omega
            obtain ⟨fld, hf⟩ : ∃ fld, fld = (s.data.toList.drop o).take m := ⟨_, rfl⟩
            have hoN : o + m ≤ s.data.toList.length := by have := HSR.out; omega
            have hfl : fld.length = m := by rw [hf, List.length_take, List.length_drop]; omega
            have hm0 : m ≠ 0 := by omega
            have hm1 : 0 < m := by omega
            have hRC' : R' ≤ C' := by omega
            have hRo : R' + m + o = N := by have h := HSR.out; rw [len_data, HE.out] at h; omega
            have ct := trimRight_any (some ⟨w.heap.size, o, none⟩) fld m wr (by omega) (by omega) (by omega) (by omega) (HLI2.out.rd hf hoN)
            have htl := trimR_len fld
            rw [hfl] at ct htl
            obtain ⟨t, ht⟩ : ∃ t, (trimR fld).length = t := ⟨_, rfl⟩
            rw [ht] at ct htl
            have hcv := text_at HLI2.out o t m (trimR fld) (by rw [← ht, hf]; exact trimR_front _ _ _) (by omega) 31 5 9 Tryz.underlying31 Tryz.underlying5 Tryz.underlying9
            have HF := Lib.hid hf
            have HHT := Lib.hid ht
            have HCS := Lib.hid (show svs (cutS (W.take k) s.data.toList) ++ [sv (trimR fld)] = svs (cutS (W.take (k + 1)) s.data.toList) from by
              rw [svs_snoc, cutS_take _ HNK.out, ← HS.out, hf]; rfl)
            clear hca hn hst hsp hf hfl ht
            by_cases hC : C' = 0
            · subst hC
              obtain rfl : R' = 0 := by omega
              go_wp2_with (first
                | (go_at_call 89; refine ct.mono ?_; rintro e w' ⟨rfl, rfl⟩)
                | (at_builtin; refine wpList_append_own_at _ rfl _ _ tR rfl (w.heap.size + 1) tS iS (.string ByteArray.empty) 1 16 Tryz.underlying47 HIS.out HZ.out.1 HZ.out.2.1 HZ.out.2.2 rfl (by decide) _ _ _ rfl (HOW.out.alloc _) ⟨wr.heap.size, 0, none⟩ 1 1 [sv (trimR fld)] rfl rfl ?d1 ?d2 ?d3 ?d4 ?d5 ?_))
              case d1 => exact cell_one_new _ _ _
              case d2 => intro u hu; simp at hu; subst hu; rfl
              case d3 => unfold maxLen; omega
              case d4 => omega
              case d5 => have := HLI2.out.1; simp; omega
              intro vr' w4 hown4 hgrow hnil hat
              have hne : u4.ownBlock ≠ some w.heap.size := fun e => by have := (HOW.out.lt _ e).1; omega
              have HLI4 := Lib.hid ((HLI2.out.keeps ((Below.refl _ wr).alloc (Nat.le_refl _) (.cells #[sv (trimR fld)] tS))).grown hgrow hne)
              have hb2 := HK.out
              have HK4 := Lib.hid (Below.grown (hb2.alloc hb2.size (.cells #[sv (trimR fld)] tS)) hgrow (by have := hb2.size; simp; omega) (fun q hq => by have := (HOW.out.lt q hq).1; omega))
              rw [HCS.out] at hown4
              have HO4 := Lib.hid hown4
              clear hown4 hgrow hnil hat hb2 hne
              go_wp2
              go_roundw
              case rel => exact ⟨k + 1, 0, 0, o, o + m, by omega, by go_num, rfl, HST.out, by have := HSR.out; omega, by omega, fun h => by omega, HO4.out, HLI4.out, HK4.out⟩
              case measure => simp [intOf]; omega
            · have hC2 : ¬ (m + C' = m) := by omega
              go_wp2_with (first
                | (go_at_call 89; refine ct.mono ?_; rintro e w' ⟨rfl, rfl⟩)
                | (at_builtin; refine wpList_append_own_at _ rfl _ _ tR rfl (w.heap.size + 1) tS iS (.string ByteArray.empty) 1 16 Tryz.underlying47 HIS.out HZ.out.1 HZ.out.2.1 HZ.out.2.2 rfl (by decide) _ _ _ rfl (HOW.out.alloc _) ⟨wr.heap.size, 0, none⟩ 1 1 [sv (trimR fld)] rfl rfl ?c1 ?c2 ?c3 ?c4 ?c5 ?_))
              case c1 => exact cell_one_new _ _ _
              case c2 => intro u hu; simp at hu; subst hu; rfl
              case c3 => unfold maxLen; omega
              case c4 => omega
              case c5 => have := HLI2.out.1; simp; omega
              intro vr' w4 hown4 hgrow hnil hat
              have hne : u4.ownBlock ≠ some w.heap.size := fun e => by have := (HOW.out.lt _ e).1; omega
              have HLI4 := Lib.hid ((HLI2.out.keeps ((Below.refl _ wr).alloc (Nat.le_refl _) (.cells #[sv (trimR fld)] tS))).grown hgrow hne)
              have hb2 := HK.out
              have HK4 := Lib.hid (Below.grown (hb2.alloc hb2.size (.cells #[sv (trimR fld)] tS)) hgrow (by have := hb2.size; simp; omega) (fun q hq => by have := (HOW.out.lt q hq).1; omega))
              rw [HCS.out] at hown4
              have HO4 := Lib.hid hown4
              clear hown4 hgrow hnil hat hb2 hne
              go_wp2
              go_roundw
              case rel => exact ⟨k + 1, R', C', o + m, o + m, by omega, by go_num, rfl, HST.out, by have := HSR.out; omega, by omega, fun _ => rfl, HO4.out, HLI4.out, HK4.out⟩
              case measure => simp [intOf]; omega
          · obtain rfl : k = W.length := by omega
            have hz : ¬ ((W.length : Int) < (W.length : Int)) := by omega
            have HE1 := Lib.hid (show W.take W.length = W from List.take_of_length_le (Nat.le_refl _))
            go_wp2
            go_ret2
            refine ⟨HK.out, u4, 0, rfl, by rw [H.out], ?_⟩
            have h := HOW.out
            rw [HE1.out] at h
            rw [H.out]
            have hl := cutS_len W s.data.toList
            rw [← hl] at h
            exact own_strs h
    · have t1 : ((s.size : Int) != (N : Int)) = true := by simp [bne]; omega
      have H := Lib.hid (pa_long (l := s.data.toList) HOK.out (by rw [len_data, HN.out]; exact hlen))
      have H2 := Lib.hid (show min s.data.toList.length (sumW W) = min s.size N from by rw [len_data, HN.out])
      clear hlen co
      by_cases hmin : s.size < N
      all_goals
        go_enter Tryz.func57, Tryz.ntmps57
        go_wp2_with (go_at_call 87; refine ctg.mono ?_; rintro e w' ⟨rfl, rfl⟩)
        all_goals
          go_ret2
          exact fixOut_no H.out (by rw [H2.out]; omega)
end Go.Proofs.YtomonhghioamfaaGreatDoor
namespace Go.Proofs.YtomonhghioamfaaGreatDoor
open Go.ChangeShapes Go.WideShapes Go.ChangeAt Go.RowKit Csv Fix

/-- A line under way. -/
def RParRel (w : World) (W : List Int) (l : Bs) (vf va vi : Value) (wx : World) : Prop :=
  ∃ k o : Nat, k ≤ W.length ∧ vi = .int .i64 k ∧ va = .int .i64 o ∧ o = sumW (W.take k) ∧ o ≤ l.length ∧ wx.ownsRow w.heap.size tS 1 vf k (svs (cutS (W.take k) l)) ∧ Keeps w wx

def strSizeOf : Value → Nat | .string s => s.size | _ => 0
theorem ext_list (s : ByteArray) (a b : Nat) : (s.extract a b).data.toList = (s.data.toList.drop a).take (b - a) := by
  rw [← extract_list, ByteArray.toList_eq]

set_option maxRecDepth 100000 in
set_option maxHeartbeats 4000000 in
theorem rfparse_any (vW : Value) (W : List Int) (s : ByteArray) (w : World) (hW : IntsAt w vW W) (hs : s.size ≤ maxLen) :
    Calls Tryz.prog 25 #[vW, .string s] w (FixOut W s.data.toList w) := by
  have hinfoS : (Tryz.prog.info? tS).map (fun i => (i.zero, i.size, i.bytes)) = some (some (.string ByteArray.empty), 1, 16) := by kernel_rfl
  obtain ⟨iS, hiS, hS⟩ := Option.map_eq_some_iff.1 hinfoS
  simp only [Prod.mk.injEq] at hS
  obtain ⟨hzS1, hzS2, hzS3⟩ := hS
  have HIS := Lib.hid hiS
  have HZ := Lib.hid (And.intro hzS1 (And.intro hzS2 hzS3))
  clear hinfoS hiS hzS1 hzS2 hzS3
  have ctg := all_any vW W w hW
  obtain ⟨pW, cW, rfl, lW, hW⟩ := hW
  have HW := Lib.hid hW
  clear hW
  unfold maxLen at lW hs
  cases hok : okW W with
  | false =>
    rw [allI_no hok] at ctg
    have H := Lib.hid (pa_wide s.data.toList hok)
    clear hok
    go_enter Tryz.func25, Tryz.ntmps25
    go_wp2_with (go_at_call 49; refine ctg.mono ?_; rintro e w' ⟨rfl, rfl⟩)
    go_ret2
    exact fixOut_no H.out rfl
  | true =>
    rw [allI_yes hok] at ctg
    have HOK := Lib.hid hok
    have hsum := okW_sum hok
    have hWl := okW_len hok
    obtain ⟨N, hN⟩ : ∃ N, sumW W = N := ⟨_, rfl⟩
    rw [hN] at ctg hsum
    have HN := Lib.hid hN
    have t0 : decide ((N : Int) < 0) = false := decide_eq_false (by omega)
    clear hok hN
    by_cases hlen : s.size = N
    · have t1 : ((s.size : Int) != (N : Int)) = false := by simp [bne, hlen]
      have HE := Lib.hid hlen
      have HL := Lib.hid (show s.data.toList.length = sumW W from by rw [len_data, hlen, HN.out])
      clear hlen
      go_enter Tryz.func25, Tryz.ntmps25
      go_wp2_with (go_at_call 49; refine ctg.mono ?_; rintro e w' ⟨rfl, rfl⟩)
      clear ctg t0 t1
      go_loop [7] (fun i => ∃ k : Nat, k ≤ N ∧ i = .int .i64 k ∧ (s.data.toList.take k).all okB = true) (fun i => N - (intOf i).toNat)
      case atStart => exact ⟨0, by omega, rfl, rfl⟩
      case round =>
        obtain ⟨k, hk, rfl, hall⟩ := hrel
        have HA := Lib.hid hall
        clear hall
        by_cases hlt : k < N
        · have hls : k < s.size := by rw [HE.out]; exact hlt
          obtain ⟨c, hc⟩ : ∃ c, s[k]'hls = c := ⟨_, rfl⟩
          have hc2 : s[(k : Int).toNat]'(by simpa using hls) = c := by simpa using hc
          have HC := Lib.hid (show s.data.toList[k]? = some c from by rw [Lib.data_getElem? s k hls, hc])
          have hi1 : (k : Int) < (N : Int) := by omega
          have hi2 : (k : Int) < (s.size : Int) := by omega
          by_cases h1 : c.toNat < 32
          · have t1 : decide ((c.toNat : Int) < 32) = true := decide_eq_true (by omega)
            have H := Lib.hid (show pa W s.data.toList = ([], k + 1) from pa_odd HOK.out HL.out (odd_some HA.out HC.out (by unfold okB; rw [decide_eq_false (by omega)]; rfl)))
            go_wp2
            go_ret2
            exact fixOut_no H.out (by omega)
          · by_cases h2 : 126 < c.toNat
            · have t1 : decide ((c.toNat : Int) < 32) = false := decide_eq_false (by omega)
              have t2 : decide ((126 : Int) < (c.toNat : Int)) = true := decide_eq_true (by omega)
              have H := Lib.hid (show pa W s.data.toList = ([], k + 1) from pa_odd HOK.out HL.out (odd_some HA.out HC.out (by unfold okB; rw [decide_eq_false (show ¬ c.toNat ≤ 126 by omega), Bool.and_false])))
              go_wp2
              go_ret2
              exact fixOut_no H.out (by omega)
            · have t1 : decide ((c.toNat : Int) < 32) = false := decide_eq_false (by omega)
              have t2 : decide ((126 : Int) < (c.toNat : Int)) = false := decide_eq_false (by omega)
              have H := Lib.hid (all_take HA.out HC.out (show okB c = true from (okB_iff c).2 ⟨by omega, by omega⟩))
              go_wp2
              go_round
              case rel => exact ⟨k + 1, by omega, by go_num, H.out⟩
              case measure => simp [intOf]; omega
        · obtain rfl : k = N := by omega
          have hz : ¬ ((k : Int) < (k : Int)) := by omega
          have H := Lib.hid (show pa W s.data.toList = (cutS W s.data.toList, 0) from pa_yes HOK.out HL.out (odd_none (by have h := HA.out; rwa [List.take_of_length_le (by rw [len_data, HE.out]; exact Nat.le_refl _)] at h)))
          go_wp2
          clear hz
          go_loopw [8, 9, 10] (fun vf va vi wx => RParRel w W s.data.toList vf va vi wx) (fun _ _ i _ => W.length - (intOf i).toNat)
          case atStart => exact ⟨0, 0, by omega, rfl, rfl, rfl, by omega, World.ownsRow_nil _ _ _ _, Keeps.refl _⟩
          case round =>
            obtain ⟨q, o, hq, rfl, rfl, hS, hoL, hown, hkp⟩ := hrel
            have HS := Lib.hid hS
            have HKP := Lib.hid hkp
            have HOW := Lib.hid hown
            rw [len_data] at hoL
            clear hS hown hkp
            by_cases hlq : q < W.length
            · obtain ⟨n, hn⟩ : ∃ n, W[q]? = some n := ⟨_, List.getElem?_eq_getElem hlq⟩
              obtain ⟨a, rfl, hca⟩ := HW.out q n hn
              have hca2 := cell_keeps HKP.out hca
              have hwn := okW_at HOK.out hn
              obtain ⟨m, hm⟩ : ∃ m : Nat, n = (m : Int) := ⟨n.toNat, by omega⟩
              subst hm
              have hst := sumW_take W q _ hn
              have hsp := sumW_part W (q + 1)
              rw [hst, ← HS.out, ← HL.out, len_data] at hsp
              have hom : o + m ≤ s.size := by omega
              have HST := Lib.hid (show o + m = sumW (W.take (q + 1)) from by rw [hst, ← HS.out]; simp)
              obtain ⟨fld, hf⟩ : ∃ fld, fld = (s.data.toList.drop o).take m := ⟨_, rfl⟩
              have hfl : fld.length = m := by rw [hf, List.length_take, List.length_drop, len_data]; omega
              have HCS := Lib.hid (show svs (cutS (W.take q) s.data.toList) ++ [sv (trimR fld)] = svs (cutS (W.take (q + 1)) s.data.toList) from by
                rw [svs_snoc, cutS_take _ hn, ← HS.out, hf]; rfl)
              obtain ⟨om, hom1⟩ : ∃ om, o + m = om := ⟨_, rfl⟩
              have hI : (o : Int) + (m : Int) = (om : Int) := by omega
              rw [hom1] at hom HST
              have ho2 : o ≤ om := by omega
              obtain ⟨X, hX⟩ : ∃ X, s.extract o om = X := ⟨_, rfl⟩
              have HX := Lib.hid (show X.data.toList = fld from by rw [← hX, ext_list, hf]; congr 1; omega)
              have hi1 : (q : Int) < (W.length : Int) := by omega
              have HFL := Lib.hid hfl
              have HCA := Lib.hid hca
              have HI := Lib.hid hI
              have hB : o + m ≤ 100000 := by have := HE.out; omega
              clear hca hn hst hsp hf hom1 hfl
              go_wp2
              clear hX hI
              go_loop [11] (fun v => ∃ (j : Nat) (Y : ByteArray), j ≤ m ∧ v = .string Y ∧ Y.size = j ∧ Y.data.toList = fld.take j ∧ trimR fld = trimR (fld.take j)) (fun v => strSizeOf v)
              case atStart => exact ⟨m, X, Nat.le_refl _, rfl, by rw [← len_data, HX.out, HFL.out], by rw [HX.out, List.take_of_length_le (by rw [HFL.out]; exact Nat.le_refl _)], by rw [List.take_of_length_le (by rw [HFL.out]; exact Nat.le_refl _)]⟩
              case round =>
                obtain ⟨j, Y, hj, rfl, hYs, hYd, htr⟩ := hrel
                have HYD := Lib.hid hYd
                have HTR := Lib.hid htr
                clear hYd htr
                by_cases hY0 : Y.size = 0
                · have t1 : decide (0 < Y.size) = false := decide_eq_false (by omega)
                  have HYS := Lib.hid (show Value.string Y = sv (trimR fld) from by
                    have e : Y.data.toList = trimR fld := by
                      have e1 : Y.data.toList = [] := List.eq_nil_of_length_eq_zero (by rw [len_data]; exact hY0)
                      rw [HTR.out, ← HYD.out, e1]; rfl
                    rw [sv, ← e, mk_data])
                  clear hY0 hYs
                  go_wp2_with (at_builtin; refine wpList_append_own_at _ rfl _ _ tR rfl w.heap.size tS iS (.string ByteArray.empty) 1 16 Tryz.underlying47 HIS.out HZ.out.1 HZ.out.2.1 HZ.out.2.2 rfl (by decide) _ _ _ rfl (HOW.out.alloc _) ⟨wr.heap.size, 0, none⟩ 1 1 [.string Y] rfl rfl ?c1 ?c2 ?c3 ?c4 ?c5 ?_)
                  case c2 => rfl
                  case c3 => unfold maxLen; omega
                  case c4 => omega
                  case c5 => have := HKP.out.size; simp; omega
                  intro vr' w4 hown4 hgrow hnil hat
                  have hb2 := HKP.out
                  have HK4 := Lib.hid (Below.grown (hb2.alloc hb2.size (.cells #[.string Y] tS)) hgrow (by have := hb2.size; simp; omega) (fun q hq => by have := (HOW.out.lt q hq).1; omega))
                  rw [HYS.out, HCS.out] at hown4
                  have HO4 := Lib.hid hown4
                  have hca4 := cell_keeps HK4.out HCA.out
                  clear hown4 hgrow hnil hat hb2 hca2
                  go_wp2
                  go_roundw
                  case rel => exact ⟨q + 1, om, by omega, by go_num, vint HI.out, HST.out, by rw [len_data]; exact hom, HO4.out, HK4.out⟩
                  case measure => simp [intOf]; omega
                · obtain ⟨j', rfl⟩ : ∃ j', j = j' + 1 := ⟨j - 1, by omega⟩
                  have hjY : j' < Y.size := by omega
                  obtain ⟨c, hc⟩ : ∃ c, Y[j']'hjY = c := ⟨_, rfl⟩
                  have hc2 : Y[(j' : Int).toNat]'(by simpa using hjY) = c := by simpa using hc
                  have hcd : fld[j']? = some c := by
                    have h1 := Lib.data_getElem? Y j' hjY
                    rw [HYD.out, List.getElem?_take, if_pos (by omega), hc] at h1
                    exact h1
                  have hat0 := trimR_at hcd
                  have t1 : 0 < Y.size := by omega
                  have hYI : (Y.size : Int) - 1 = (j' : Int) := by omega
                  have hjI : (j' : Int) < (Y.size : Int) := by omega
                  have hjle : j' ≤ Y.size := by omega
                  by_cases h32 : c = 32
                  · have t2 : ((c.toNat : Int) == 32) = true := by rw [h32]; rfl
                    have HTR2 := Lib.hid (show trimR fld = trimR (fld.take j') from by rw [HTR.out, hat0, if_pos h32])
                    obtain ⟨Z, hZ⟩ : ∃ Z, Y.extract 0 j' = Z := ⟨_, rfl⟩
                    have HZD := Lib.hid (show Z.data.toList = fld.take j' from by
                      rw [← hZ, ext_list, HYD.out, List.drop_zero, List.take_take]; congr 1; omega)
                    have HZS := Lib.hid (show Z.size = j' from by rw [← hZ, ByteArray.size_extract]; omega)
                    have HYS2 := Lib.hid hYs
                    clear hY0 hYs hat0 hcd h32
                    go_wp2
                    clear hZ
                    go_round
                    case rel => exact ⟨j', Z, by omega, rfl, HZS.out, HZD.out, HTR2.out⟩
                    case measure => simp only [strSizeOf]; rw [HZS.out, HYS2.out]; omega
                  · have t2 : ((c.toNat : Int) == 32) = false := byte_no (n := 32) (by decide) h32
                    have HYS := Lib.hid (show Value.string Y = sv (trimR fld) from by
                      have e : Y.data.toList = trimR fld := by rw [HTR.out, hat0, if_neg h32, HYD.out]
                      rw [sv, ← e, mk_data])
                    clear hY0 hYs hat0 hcd h32
                    go_wp2_with (at_builtin; refine wpList_append_own_at _ rfl _ _ tR rfl w.heap.size tS iS (.string ByteArray.empty) 1 16 Tryz.underlying47 HIS.out HZ.out.1 HZ.out.2.1 HZ.out.2.2 rfl (by decide) _ _ _ rfl (HOW.out.alloc _) ⟨wr.heap.size, 0, none⟩ 1 1 [.string Y] rfl rfl ?d1 ?d2 ?d3 ?d4 ?d5 ?_)
                    case d2 => rfl
                    case d3 => unfold maxLen; omega
                    case d4 => omega
                    case d5 => have := HKP.out.size; simp; omega
                    intro vr' w4 hown4 hgrow hnil hat
                    have hb2 := HKP.out
                    have HK4 := Lib.hid (Below.grown (hb2.alloc hb2.size (.cells #[.string Y] tS)) hgrow (by have := hb2.size; simp; omega) (fun q hq => by have := (HOW.out.lt q hq).1; omega))
                    rw [HYS.out, HCS.out] at hown4
                    have HO4 := Lib.hid hown4
                    have hca4 := cell_keeps HK4.out HCA.out
                    clear hown4 hgrow hnil hat hb2 hca2
                    go_wp2
                    go_roundw
                    case rel => exact ⟨q + 1, om, by omega, by go_num, vint HI.out, HST.out, by rw [len_data]; exact hom, HO4.out, HK4.out⟩
                    case measure => simp [intOf]; omega
            · obtain rfl : q = W.length := by omega
              have hz : ¬ ((W.length : Int) < (W.length : Int)) := by omega
              have HE1 := Lib.hid (show W.take W.length = W from List.take_of_length_le (Nat.le_refl _))
              go_wp2
              go_ret2
              refine ⟨HKP.out, u8, 0, rfl, by rw [H.out], ?_⟩
              have h := HOW.out
              rw [HE1.out] at h
              rw [H.out]
              have hl := cutS_len W s.data.toList
              rw [← hl] at h
              exact own_strs h
    · have t1 : ((s.size : Int) != (N : Int)) = true := by simp [bne]; omega
      have H := Lib.hid (pa_long (l := s.data.toList) HOK.out (by rw [len_data, HN.out]; exact hlen))
      have H2 := Lib.hid (show min s.data.toList.length (sumW W) = min s.size N from by rw [len_data, HN.out])
      clear hlen
      by_cases hmin : s.size < N
      all_goals
        go_enter Tryz.func25, Tryz.ntmps25
        go_wp2_with (go_at_call 49; refine ctg.mono ?_; rintro e w' ⟨rfl, rfl⟩)
        all_goals
          go_ret2
          exact fixOut_no H.out (by rw [H2.out]; omega)
end Go.Proofs.YtomonhghioamfaaGreatDoor
