
/- The contracts of disk: Loose, goDown, count. -/
import Derived.Test.YtlaepdpgegoopaaGreatDiskC2
import Derived.Deep.RegionWith
import Derived.Deep.Cut
set_option linter.unusedVariables false
namespace Go.Proofs.YtlaepdpgegoopaaGreat
open Go.ChangeShapes Go.WideShapes Go.ChangeAt Go.RowKit Go.Maps Csv Dk

theorem dkKeeps_drewN (w : World) (n : Nat) : Keeps w (w.drewN n) := ⟨rfl, rfl, rfl, Nat.le_refl _, fun _ _ => rfl⟩
theorem DiskAt.keeps {w w' : World} {d m : Nat} {L : List Ent} {k : Option (Nat × Option Nat)} {D : DiskM} (h : DiskAt w d m L k D) (hk : Keeps w w') : DiskAt w' d m L k D := h.local fun b hb => hk.block b (h.lt b hb)
theorem find_idx {L : List Ent} (hr : Rising (L.map (·.1))) {i : Nat} {x : Ent} (h : L[i]? = some x) : L.find? (fun y => y.1.n == x.1.n) = some x := by
  induction L generalizing i with
  | nil => simp at h
  | cons y r ih =>
    obtain ⟨h1, h2⟩ := List.pairwise_cons.1 hr
    rw [List.find?_cons]
    cases i with
    | zero => simp at h; subst h; simp
    | succ i =>
      have h' : r[i]? = some x := by simpa using h
      have h3 : y.1.n < x.1.n := h1 x.1 (List.mem_map.2 ⟨x, List.mem_of_getElem? h', rfl⟩)
      have e : (y.1.n == x.1.n) = false := by simp; omega
      rw [e]
      exact ih h2 h'
theorem info_int : (Tryz.prog.info? 3).map (fun i => (i.zero, i.size, i.bytes)) = some (some (.int .i64 0), 1, 8) := by kernel_rfl
theorem take_snocI {l : List Int} {k : Nat} {x : Int} (h : l[k]? = some x) : l.take (k + 1) = l.take k ++ [x] := by
  rw [List.take_add_one, h]; rfl

def looseL (D : DiskM) : List Int := D.files.map fun f => (f.loose : Int)
set_option maxHeartbeats 1000000 in
theorem looseD_any (d m : Nat) (L : List Ent) (k : Option (Nat × Option Nat)) (D : DiskM) (w : World) (h : DiskAt w d m L k D) :
    Calls Tryz.prog 43 #[ptrV d] w fun e w' => ∃ v, e = .returned v ∧ w'.ownsRow w.heap.size tI 1 v D.files.length (ivs (looseL D)) ∧ Keeps w w' := by
  have cf := files_any d m L k D w h
  have H := Lib.hid h
  have hmany := h.okay.many
  obtain ⟨N, hN⟩ : ∃ N, D.files.length = N := ⟨_, rfl⟩
  obtain ⟨iI, hII, hI0, hI1, hI2⟩ := info_parts info_int
  have HII := Lib.hid hII
  have HZ := Lib.hid (show iI.zero = some (.int .i64 0) ∧ iI.size = 1 ∧ iI.bytes = 8 from ⟨hI0, hI1, hI2⟩)
  have HN := Lib.hid hN
  rw [hN] at cf hmany ⊢
  clear h hN hII hI0 hI1 hI2
  unfold ptrV at cf ⊢
  go_enter Tryz.func43, Tryz.ntmps43
  go_wp2_with fail
  refine cf.mono ?_
  rintro e w1 ⟨v, rfl, hrow, hk1⟩
  have hI : IntsAt w1 v (numsF D.files) := own_ints (by have e : (numsF D.files).length = N := by simp [numsF, HN.out]
                                                        rw [e]; exact hrow)
  obtain ⟨p, cp, rfl, hlen, hc⟩ := hI
  have hlN : (numsF D.files).length = N := by simp [numsF, HN.out]
  rw [hlN] at hrow ⊢
  have HC := Lib.hid hc
  have HK1 := Lib.hid hk1
  have hd1 := H.out.keeps hk1
  have HD1 := Lib.hid hd1
  have HLN := Lib.hid hlN
  clear hlen hc hk1 hd1 hrow cf hlN
  go_wp2
  go_loopw [3, 9] (fun vo vi wr => ∃ q : Nat, q ≤ N ∧ vi = .int .i64 (q : Int) ∧ wr.ownsRow w1.heap.size tI 1 vo q (ivs ((looseL D).take q)) ∧ Keeps w1 wr) (fun _ vi _ => N - (intOf vi).toNat)
  case atStart => exact ⟨0, by omega, rfl, by simpa [ivs] using World.ownsRow_nil _ _ _ _, Keeps.refl _⟩
  case round =>
    obtain ⟨q, hq, rfl, hown, hkr⟩ := hrel
    by_cases hlt : q < N
    · obtain ⟨x, hx⟩ : ∃ x, L[q]? = some x := by
        have : q < L.length := by have := HN.out; rw [H.out.lst, List.length_map] at this; omega
        exact ⟨_, List.getElem?_eq_getElem this⟩
      have hxn : (numsF D.files)[q]? = some x.1.n := by unfold numsF; rw [H.out.lst, List.map_map, List.getElem?_map, hx]; rfl
      have hxl : (looseL D)[q]? = some (x.1.loose : Int) := by unfold looseL; rw [H.out.lst, List.map_map, List.getElem?_map, hx]; rfl
      have hxf : x.1 ∈ D.files := by rw [H.out.lst]; exact List.mem_map.2 ⟨x, List.mem_of_getElem? hx, rfl⟩
      obtain ⟨n0, n1⟩ := H.out.okay.nums _ hxf
      have hs := H.out.okay.sure _ hxf
      have hlen : x.1.data.length ≤ 1048576 := by have := used_mem hxf; have := H.out.okay.room; have := H.out.okay.cap; omega
      obtain ⟨a, rfl, hca⟩ := HC.out q x.1.n hxn
      have hca' := cell_keeps hkr hca
      have hdr := HD1.out.keeps hkr
      have hl := (look_at hdr (n := x.1.n) (by unfold I64 top; omega)).2 x (find_idx (by rw [← H.out.lst]; exact H.out.okay.rising) hx)
      obtain ⟨_, m1, _⟩ := hdr.cells
      have cl := fun W (hW : Keeps wr W) => loose_any x W ((hdr.keeps hW).files x (List.mem_of_getElem? hx)) hs hlen
      have cl0 := cl wr (Keeps.refl _)
      have HTK := Lib.hid (show ivs ((looseL D).take q) ++ [.int .i64 (x.1.loose : Int)] = ivs ((looseL D).take (q + 1)) by rw [take_snocI hxl, ← ivs_snoc])
      have HOW := Lib.hid hown
      have HKR := Lib.hid hkr
      obtain ⟨n, hn⟩ : ∃ n, x.1.n = n := ⟨_, rfl⟩
      obtain ⟨lo, hlo⟩ : ∃ lo, x.1.loose = lo := ⟨_, rfl⟩
      have hi1 : (q : Int) < (N : Int) := by omega
      rw [hn] at hca' hl
      rw [hlo] at cl0 HTK
      clear hown hkr hca hdr cl hx hxn hxl hxf hs hlen hn hlo n0 n1
      unfold ptrV at cl0 hl
      go_wp2_with fail
      refine cl0.mono ?_
      rintro e w2 ⟨rfl, hw2⟩
      have HK2 := Lib.hid (show Keeps wr w2 by obtain ⟨z, rfl⟩ := hw2; exact dkKeeps_drewN _ _)
      clear hw2 cl0 hl m1 hca'
      go_wp2_with (at_builtin; refine wpList_append_own_at _ rfl _ _ 57 rfl w1.heap.size tI iI (.int .i64 0) 1 8 Tryz.underlying57 HII.out HZ.out.1 HZ.out.2.1 HZ.out.2.2 rfl (by decide) _ _ _ rfl ((own_local HOW.out (fun g hg => HK2.out.block g (HOW.out.lt g hg).2)).alloc _) ⟨w2.heap.size, 0, none⟩ 1 1 [.int .i64 (lo : Int)] rfl rfl ?c1 ?c2 ?c3 ?c4 ?c5 ?_)
      case c1 => exact cell_one_new _ _ _
      case c2 => intro u hu; simp at hu; subst hu; rfl
      case c3 => unfold maxLen; omega
      case c4 => omega
      case c5 => have h1 := HKR.out.size; have h2 := HK2.out.size; simp; omega
      intro vo' w4 hown4 hgrow hnil hat
      rw [HTK.out] at hown4
      have hb2 := Keeps.trans HKR.out HK2.out
      have HK4 := Lib.hid (Below.grown (hb2.alloc hb2.size (.cells #[.int .i64 (lo : Int)] tI)) hgrow (by have := hb2.size; simp; omega) (fun j hj => (HOW.out.lt j hj).1))
      have HO4 := Lib.hid hown4
      clear hown4 hgrow hnil hat hb2
      go_wp2
      go_roundw
      case rel => exact ⟨q + 1, by omega, by go_num, HO4.out, HK4.out⟩
      case measure => simp [intOf]; omega
    · obtain rfl : q = N := by omega
      have hz : ¬ ((q : Int) < (q : Int)) := by omega
      have e1 : (looseL D).take q = looseL D := List.take_of_length_le (by simp [looseL, HN.out])
      rw [e1] at hown
      have HOW := Lib.hid hown
      have HKR := Lib.hid hkr
      clear hown hkr e1
      go_wp2
      go_ret
      exact ⟨_, rfl, own_base HOW.out (fun g hg => by have := (HOW.out.lt g hg).1; have := HK1.out.size; omega), Keeps.trans HK1.out HKR.out⟩
theorem looseD_none (p : Option Addr) (w : World) (h : NoDisk w p) : Calls Tryz.prog 43 #[.pointer p] w fun e w' => e = .returned (.slice none 0 0) ∧ w = w' := by
  have c := files_none p w h
  clear h
  go_enter Tryz.func43, Tryz.ntmps43
  go_wp2_with (go_at_call 35; refine c.mono ?_; rintro e w' ⟨rfl, rfl⟩)
  refine wp_loop_rounds 1 ?_
  rw [rounds_succ]
  go_wp2
  go_ret
  exact ⟨rfl, rfl⟩

/-! ### goDown -/
/-- A list that is read, whatever the blocks G hold. -/
def Stable (G : List Nat) (w : World) (v : Value) (ks : List Int) : Prop := ∀ w', Frame G w w' → IntsAt w' v ks
theorem Stable.on {G : List Nat} {w w' : World} {v : Value} {ks : List Int} (h : Stable G w v ks) (hf : Frame G w w') : Stable G w' v ks := fun w2 h2 => h w2 (hf.trans h2 fun x hx => Or.inl hx)
def blks (L : List Ent) : List Nat := L.map (·.2.blk)
theorem FileAt.same {w w' : World} {x : Ent} (h : FileAt w x) (e : w'.heap = w.heap) : FileAt w' x := h.local (by rw [e]) fun r _ => by rw [e]
theorem cut_in (x : Ent) (k : Nat) (w : World) (h : FileAt w x) (h1 : x.1.sure ≤ x.1.data.length) (h2 : x.1.data.length ≤ 1048576) (hk : k ≤ x.1.data.length) (W : World) (e1 : W.heap = w.heap) (e2 : W.os = w.os) (e3 : W.tape = w.tape) (e4 : W.output = w.output) :
    Calls Tryz.prog 77 #[ptrV x.2.blk, .int .i64 (k : Int)] W fun e w' => e = .returned (.tuple #[]) ∧ FileAt w' (x.1.cut k, x.2) ∧ w.grownBy w' (some x.2.blk) :=
  (dkCut_any x k W (h.same e1) h1 h2 hk).mono fun e w' ⟨a, b, g⟩ => ⟨a, b, g.os.trans e2, g.tape.trans e3, g.output.trans e4, by rw [← e1]; exact g.size, fun i hi hn => (g.block i (by rw [e1]; exact hi) hn).trans (by rw [e1])⟩
theorem loose_in (x : Ent) (w : World) (h : FileAt w x) (h1 : x.1.sure ≤ x.1.data.length) (h2 : x.1.data.length ≤ 1048576) (W : World) (e : W.heap = w.heap) :
    Calls Tryz.prog 66 #[ptrV x.2.blk] W fun e w' => e = .returned (.int .i64 (x.1.loose : Int)) ∧ ∃ n, w' = W.drewN n := loose_any x W (h.same e) h1 h2
/-- 'f.sure = len(f.bytes)'. -/
theorem sure_file {w w' : World} {x : Ent} {p : Option Addr} {cap : Nat} (h : FileAt w x) (hc : w.heap[x.2.blk]? = some (.cells #[.slice p x.1.data.length cap, .int .i64 (x.1.sure : Int)] tFl (0, 0)))
    (ho : w.ownsRow 0 tU8 1 (.slice p x.1.data.length cap) x.1.data.length (x.1.data.map bv)) (hb : (Value.slice p x.1.data.length cap).ownBlock = x.2.row)
    (hw : w' = w.setCell ⟨x.2.blk, 1, none⟩ (.int .i64 (x.1.data.length : Int))) : FileAt w' (⟨x.1.n, x.1.data, x.1.data.length⟩, x.2) ∧ w.grownBy w' (some x.2.blk) := by
  subst hw
  obtain ⟨c, hcc⟩ := h.tag
  refine ⟨⟨.slice p x.1.data.length cap, ?_, own_local ho fun g hg => ?_, hb⟩, grown_setCell _ _ _ _⟩
  · rw [Joins.block_setCell (i := 1) hc]; rfl
  · obtain ⟨c2, hc2⟩ := h.rowtag (hb ▸ hg)
    exact Below.heap_setCell _ _ _ _ (tag_ne hc2 hcc (by decide))
theorem grown_frame {w w' : World} {b : Nat} {G : List Nat} (h : w.grownBy w' (some b)) (hb : b ∈ G) : Frame G w w' := Frame.of_grown h fun g hg => by cases hg; exact hb

/-- The files behind q rounds. -/
def downQ (D : DiskM) (ks : List Int) (q : Nat) : List FileM := (downL D.files ks).take q ++ D.files.drop q
theorem downQ_zero (D : DiskM) (ks : List Int) : downQ D ks 0 = D.files := by simp [downQ]
theorem downQ_all (D : DiskM) (ks : List Int) : downQ D ks D.files.length = downL D.files ks := by
  unfold downQ
  rw [List.take_of_length_le (by rw [len_down]; exact Nat.le_refl _), List.drop_of_length_le (Nat.le_refl _), List.append_nil]
theorem downQ_at {D : DiskM} {ks : List Int} {q i : Nat} (hq : q ≤ D.files.length) : (downQ D ks q)[i]? = if i < q then (downL D.files ks)[i]? else D.files[i]? := by
  unfold downQ
  have hl : ((downL D.files ks).take q).length = q := by rw [List.length_take, len_down]; omega
  split
  · rename_i h
    rw [List.getElem?_append_left (by omega), List.getElem?_take_of_lt h]
  · rename_i h
    rw [List.getElem?_append_right (by omega), hl, List.getElem?_drop]
    congr 1; omega
theorem downQ_step {D : DiskM} {ks : List Int} {q : Nat} {f : FileM} (hf : D.files[q]? = some f) : downQ D ks (q + 1) = (downQ D ks q).set q (f.left ks[q]?) := by
  have hq : q < D.files.length := (List.getElem?_eq_some_iff.1 hf).1
  apply List.ext_getElem?
  intro i
  rw [downQ_at (by omega), List.getElem?_set, downQ_at (by omega)]
  by_cases h1 : q = i
  · subst h1
    have hl : q < (downQ D ks q).length := by
      have := downQ_at (D := D) (ks := ks) (q := q) (i := q) (by omega)
      rw [if_neg (by omega), hf] at this
      exact (List.getElem?_eq_some_iff.1 this).1
    rw [if_pos (by omega), if_pos rfl, if_pos hl, get_down, hf]; rfl
  · rw [if_neg h1]
    by_cases h2 : i < q
    · rw [if_pos (by omega), if_pos h2]
    · rw [if_neg (by omega), if_neg h2]
theorem downQ_okay {D : DiskM} (h : Okay D) (ks : List Int) (q : Nat) (hq : q ≤ D.files.length) : Okay (D.put (downQ D ks q)) := by
  have hnum : numsF (downQ D ks q) = numsF D.files := by
    unfold downQ numsF
    rw [List.map_append, List.map_take, List.map_drop]
    have := nums_down D.files ks
    unfold numsF at this
    rw [this, List.take_append_drop]
  have hmem : ∀ f ∈ downQ D ks q, f ∈ downL D.files ks ∨ f ∈ D.files := fun f hf => by
    unfold downQ at hf
    rcases List.mem_append.1 hf with h | h
    · exact Or.inl (List.mem_of_mem_take h)
    · exact Or.inr (List.mem_of_mem_drop h)
  have hd := h.down ks
  refine h.put _ ?_ ?_ ?_ ?_ ?_
  · have : (downQ D ks q).length = (numsF D.files).length := by rw [← hnum]; simp [numsF]
    rw [this]; simp [numsF]; exact h.many
  · rw [rising_nums, hnum, ← rising_nums]; exact h.rising
  · intro f hf; rcases hmem f hf with h1 | h1
    · exact hd.nums f h1
    · exact h.nums f h1
  · intro f hf; rcases hmem f hf with h1 | h1
    · exact hd.sure f h1
    · exact h.sure f h1
  · have hap : ∀ a b : List FileM, used (a ++ b) = used a + used b := fun a b => by simp [used]
    have h1 := used_down (D.files.take q) ks
    have h2 : (downL D.files ks).take q = downL (D.files.take q) ks := by
      apply List.ext_getElem?
      intro i
      rw [List.getElem?_take, get_down, get_down, List.getElem?_take]
      split <;> rfl
    unfold downQ
    rw [hap, h2]
    have h3 : used (D.files.take q) + used (D.files.drop q) = used D.files := by rw [← hap, List.take_append_drop]
    have := h.room
    omega
theorem downQ_nums {D : DiskM} {ks : List Int} {q : Nat} : numsF (downQ D ks q) = numsF D.files := by
  unfold downQ numsF
  rw [List.map_append, List.map_take, List.map_drop]
  have := nums_down D.files ks
  unfold numsF at this
  rw [this, List.take_append_drop]
end Go.Proofs.YtlaepdpgegoopaaGreat
