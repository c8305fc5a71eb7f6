
/- The contracts of disk: cut, Free, Loose. -/
import Derived.Test.YtlaepdpgegoopaaGreatDiskFiles
import Derived.Deep.LoopGhost
set_option linter.unusedVariables false
namespace Go.Proofs.YtlaepdpgegoopaaGreat
open Go.ChangeShapes Go.WideShapes Go.ChangeAt Go.RowKit Go.Maps Csv Dk

theorem cut_file {w w' : World} {x : Ent} {p : Option Addr} {cap s k : Nat} (h : FileAt w x) (hc : w.heap[x.2.blk]? = some (.cells #[.slice p x.1.data.length cap, .int .i64 (x.1.sure : Int)] tFl (0, 0)))
    (ho : w.ownsRow 0 tU8 1 (.slice p x.1.data.length cap) x.1.data.length (x.1.data.map bv)) (hb : (Value.slice p x.1.data.length cap).ownBlock = x.2.row) (hk : k ≤ x.1.data.length) (hs : s = min x.1.sure k)
    (hw : w' = (w.setCell ⟨x.2.blk, 0, none⟩ (.slice p k cap)).setCell ⟨x.2.blk, 1, none⟩ (.int .i64 (s : Int))) : FileAt w' (x.1.cut k, x.2) ∧ w.grownBy w' (some x.2.blk) := by
  subst hw
  obtain ⟨c, hcc⟩ := h.tag
  refine ⟨⟨.slice p k cap, ?_, ?_, ?_⟩, ?_⟩
  · have h1 := Joins.block_setCell (i := 0) hc (.slice p k cap)
    have h2 := Joins.block_setCell (i := 1) h1 (.int .i64 (s : Int))
    rw [h2, hs]; rfl
  · have h1 := own_take ho hk
    have e : (x.1.data.map bv).take k = (x.1.cut k).data.map bv := by simp [FileM.cut, List.map_take]
    have e2 : (x.1.cut k).data.length = k := by simp [FileM.cut]; omega
    rw [e] at h1
    rw [e2]
    refine own_local h1 fun g hg => ?_
    have hg' : x.2.row = some g := by
      rw [← hb]
      revert hg
      cases p <;> simp [Value.ownBlock]
    obtain ⟨c2, hc2⟩ := h.rowtag hg'
    have hne := tag_ne hc2 hcc (by decide)
    rw [Below.heap_setCell _ _ _ _ hne, Below.heap_setCell _ _ _ _ hne]
  · show (Value.slice p k cap).ownBlock = x.2.row
    rw [← hb]
    cases p <;> rfl
  · exact (grown_setCell _ _ _ _).andThen (grown_setCell _ _ _ _) fun j hj => Or.inr hj

theorem dkCut_any (x : Ent) (k : Nat) (w : World) (h : FileAt w x) (h1 : x.1.sure ≤ x.1.data.length) (h2 : x.1.data.length ≤ 1048576) (hk : k ≤ x.1.data.length) :
    Calls Tryz.prog 77 #[ptrV x.2.blk, .int .i64 (k : Int)] w fun e w' => e = .returned (.tuple #[]) ∧ FileAt w' (x.1.cut k, x.2) ∧ w.grownBy w' (some x.2.blk) := by
  obtain ⟨p, cap, c0, c1, fz, hcap, hc, ho, hb, hp, hmax, hpp⟩ := h.cells
  have f0 := fz 0
  have f1 := fz 1
  have key := fun s w' (hs : s = min x.1.sure k) hw => cut_file (w' := w') h hc ho hb hk hs hw
  obtain ⟨N, hN⟩ : ∃ N, x.1.data.length = N := ⟨_, rfl⟩
  obtain ⟨S, hS⟩ : ∃ S, x.1.sure = S := ⟨_, rfl⟩
  obtain ⟨b, hb'⟩ : ∃ b, x.2.blk = b := ⟨_, rfl⟩
  have HX := Lib.hid hp
  rw [hN] at h1 h2 hk hcap c0
  rw [hS] at h1 c1 key
  rw [hb'] at c0 c1 f0 f1 key
  rw [hb']
  have KEY := Lib.hid key
  unfold maxLen at hmax
  clear fz hc ho hb h key hN hS hb' hp
  unfold ptrV
  rcases p with _ | a
  · have h0 := (HX.out rfl).1
    have h00 := (HX.out rfl).2
    subst h00
    obtain rfl : N = 0 := by omega
    obtain rfl : k = 0 := by omega
    obtain rfl : S = 0 := by omega
    clear h0
    go_enter Tryz.func77, Tryz.ntmps77
    go_wp2
    go_end0
    exact ⟨rfl, KEY.out 0 _ rfl rfl⟩
  · obtain ⟨g, rfl⟩ := hpp a rfl
    clear hpp
    by_cases hlt : S ≤ k
    · have hm : min (S : Int) (k : Int) = (S : Int) := by omega
      have HM := Lib.hid (show S = min S k by omega)
      go_enter Tryz.func77, Tryz.ntmps77
      go_wp2
      go_end0
      exact ⟨rfl, KEY.out S _ HM.out rfl⟩
    · have hm : min (S : Int) (k : Int) = (k : Int) := by omega
      have HM := Lib.hid (show k = min S k by omega)
      go_enter Tryz.func77, Tryz.ntmps77
      go_wp2
      go_end0
      exact ⟨rfl, KEY.out k _ HM.out rfl⟩

/-! ### Free -/
def doneSum (L : List Ent) (left : Lit → Bool) : Nat := ((L.filter fun x => !left (.int .i64 x.1.n)).map fun x => x.1.data.length).sum
theorem done_cons (x : Ent) (r : List Ent) (left : Lit → Bool) : doneSum (x :: r) left = (if left (.int .i64 x.1.n) = true then 0 else x.1.data.length) + doneSum r left := by
  unfold doneSum
  rw [List.filter_cons]
  cases left (.int .i64 x.1.n) <;> simp
theorem done_le (L : List Ent) (left : Lit → Bool) : doneSum L left ≤ used (L.map (·.1)) := by
  induction L with
  | nil => exact Nat.le_refl _
  | cons x r ih => rw [done_cons, List.map_cons, used_cons]; split <;> omega
theorem done_all (L : List Ent) (left : Lit → Bool) (h : ∀ kl, left kl = false) : doneSum L left = used (L.map (·.1)) := by
  induction L with
  | nil => rfl
  | cons x r ih => rw [done_cons, List.map_cons, used_cons, ih, if_neg (by rw [h]; decide)]
theorem done_none (L : List Ent) (left : Lit → Bool) (h : ∀ x ∈ L, left (.int .i64 x.1.n) = true) : doneSum L left = 0 := by
  induction L with
  | nil => rfl
  | cons x r ih => rw [done_cons, ih fun y hy => h y (by simp [hy]), if_pos (h x (by simp))]
theorem done_same (L : List Ent) (left : Lit → Bool) (n : Int) (h : ∀ x ∈ L, x.1.n ≠ n) : doneSum L (fun z => left z && !z.sameKey (.int .i64 n)) = doneSum L left := by
  induction L with
  | nil => rfl
  | cons x r ih =>
    rw [done_cons, done_cons, ih fun y hy => h y (by simp [hy])]
    have : (Lit.int IntKind.i64 x.1.n).sameKey (.int .i64 n) = false := by simp [Lit.sameKey, h x (by simp)]
    rw [this]; simp
theorem done_step {L : List Ent} (hr : Rising (L.map (·.1))) {x : Ent} (hx : x ∈ L) {left : Lit → Bool} (hl : left (.int .i64 x.1.n) = true) :
    doneSum L (fun z => left z && !z.sameKey (.int .i64 x.1.n)) = doneSum L left + x.1.data.length := by
  induction L with
  | nil => cases hx
  | cons y r ih =>
    obtain ⟨h1, h2⟩ := List.pairwise_cons.1 hr
    rw [done_cons, done_cons]
    rcases List.mem_cons.1 hx with rfl | hx
    · rw [done_same r left _ fun z hz => by have := h1 z.1 (List.mem_map.2 ⟨z, hz, rfl⟩); have h5 : x.1.n < z.1.n := this; omega, hl]
      have : (Lit.int IntKind.i64 x.1.n).sameKey (.int .i64 x.1.n) = true := by simp [Lit.sameKey]
      rw [this]; simp; omega
    · rw [ih h2 hx]
      have h5 : y.1.n < x.1.n := h1 x.1 (List.mem_map.2 ⟨x, hx, rfl⟩)
      have : (Lit.int IntKind.i64 y.1.n).sameKey (.int .i64 x.1.n) = false := by simp [Lit.sameKey]; omega
      rw [this]
      simp only [Bool.not_false, Bool.and_true]
      split <;> omega
theorem mapD_atz (L : List Ent) (n : Int) (z : DataW Nat) : (mapD L).atKey (.int .i64 n) z = match L.find? (fun x => x.1.n == n) with | some x => .held x.2.blk | none => z := by
  unfold mapD DataW.atKey
  simp only
  rw [List.find?_map]
  have e : (fun x : Ent => x.1.n == n) = ((fun p : Lit × DataW Nat => p.1.sameKey (.int .i64 n)) ∘ ent) := by
    funext x; simp [ent, Lit.sameKey]; rfl
  rw [e]
  cases L.find? ((fun p : Lit × DataW Nat => p.1.sameKey (.int .i64 n)) ∘ ent) <;> rfl
/-- An entry of the map that has come. -/
theorem came {L : List Ent} {n : Int} {v : Value} {y : DataW Nat × List MemPlace} (hv : ptrR v = some y) (hat : ∀ zd, (mapD L).atKey (.int .i64 n) zd = y.1) : ∃ x ∈ L, x.1.n = n ∧ v = ptrV x.2.blk := by
  have h1 := hat .nil
  have h2 := hat (.held 0)
  rw [mapD_atz] at h1 h2
  cases hf : L.find? (fun x => x.1.n == n) with
  | none => rw [hf] at h1 h2; simp only at h1 h2; rw [← h1] at h2; cases h2
  | some x =>
    rw [hf] at h1
    simp only at h1
    obtain ⟨y1, y2⟩ := y
    simp only at h1
    subst h1
    exact ⟨x, List.mem_of_find?_eq_some hf, by simpa using List.find?_some hf, ptrR_held hv⟩
theorem has_all {L : List Ent} : ∀ x ∈ L, Maps.has (mapD L) (.int .i64 x.1.n) = true := by
  intro x hx
  unfold mapD
  rw [Maps.has_eq, List.any_map, List.any_eq_true]
  exact ⟨x, hx, by simp [ent, Lit.sameKey]⟩

set_option maxHeartbeats 1000000 in
theorem free_any (d m : Nat) (L : List Ent) (k : Option (Nat × Option Nat)) (D : DiskM) (w : World) (h : DiskAt w d m L k D) :
    Calls Tryz.prog 28 #[ptrV d] w fun e w' => e = .returned (.int .i64 D.free) ∧ Keeps w w' := by
  have c := none_no d m L k D w h
  obtain ⟨c0, c1, c2, c3, c4, fz⟩ := h.cells
  have hown := h.map
  have HF := Lib.hid h.files
  have HO := Lib.hid h.okay
  have hris : Rising (L.map (·.1)) := by rw [← h.lst]; exact h.okay.rising
  have HR := Lib.hid hris
  have hroom : used (L.map (·.1)) ≤ D.cap := by rw [← h.lst]; exact h.okay.room
  have HE := Lib.hid (show D.free = (D.cap : Int) - (used (L.map (·.1)) : Int) by unfold DiskM.free; rw [h.lst])
  have hcap := h.okay.cap
  obtain ⟨CAP, hC⟩ : ∃ c, D.cap = c := ⟨_, rfl⟩
  obtain ⟨U, hU⟩ : ∃ U, used (L.map (·.1)) = U := ⟨_, rfl⟩
  rw [hC] at c0 hcap hroom HE
  rw [hU] at hroom HE
  have HU := Lib.hid hU
  clear c2 c3 c4 fz h hris hC hU
  unfold ptrV at c ⊢
  go_enter Tryz.func28, Tryz.ntmps28
  go_wp2_with (first
    | (go_at_call 57; refine c.mono ?_; rintro e w' ⟨rfl, rfl⟩)
    | (at_range; refine wpList_range_own _ rfl _ tMp rfl tI tPf (int_keyed Tryz.underlying3) Tryz.underlying52 _ m L.length _ rfl hown ?_; intro w0 hrg0 hg0 hs0))
  go_frame
  go_loopw [3] (fun v wr => ∃ (left : Lit → Bool) (cnt S : Nat), wr.ranges Tryz.prog tI ptrR m w.heap.size L.length (mapD L) left cnt ∧ v = .int .i64 ((CAP : Int) - (S : Int)) ∧ S ≤ U ∧ S = doneSum L left ∧ w.grownBy wr none)
    (fun _ wr => wr.rangeLeft m w.heap.size)
  case atStart => exact ⟨_, _, 0, hrg0, by simp, by omega, (done_none L _ has_all).symm, hg0⟩
  case round =>
    obtain ⟨left, cnt, S, hrg, rfl, hS, hsum, hgw⟩ := hrel
    have HS := Lib.hid hsum
    clear hsum
    go_wp2_with (first
      | (at_next; refine wpList_next_ranges _ rfl _ rfl tI (int_keyed Tryz.underlying3) ptrR (Value.int .i64) Value.pointer (fun key kl hk => by obtain ⟨x, hx, _⟩ := Maps.keyOf_int_inv Tryz.underlying3 hk; exact ⟨x, hx⟩) (fun v y hv => ptrR_inv hv) m w.heap.size L.length _ _ _ rfl hrg ?_ ?_))
    · intro hc0 hl0
      have H := Lib.hid (show S = U by rw [HS.out, done_all L left hl0, HU.out])
      clear hl0 hc0
      go_wp2
      go_ret
      exact ⟨ret_int (by rw [HE.out, H.out]), hgw.os, hgw.tape, hgw.output, hgw.size, fun i hi => hgw.block i hi (by simp)⟩
    · intro x c' kl yd yp w1 cnt1 hkey hlk hv hat hrg1 hlt hg1 hs1 hen
      obtain ⟨x', ex, rfl, hwx⟩ := Maps.keyOf_int_inv Tryz.underlying3 hkey
      simp only [Value.int.injEq, true_and] at ex
      subst ex
      obtain ⟨z, hz, hzn, hzv⟩ := came (y := (yd, yp)) hv hat
      unfold ptrV at hzv
      simp only [Value.pointer.injEq] at hzv
      subst hzv
      have hgw1 : w.grownBy w1 none := hgw.andThen hg1 (fun j hj => by cases hj; exact Or.inl (Nat.le_refl _))
      have hfile := HF.out z hz
      have hcell : w1.cell? ⟨z.2.blk, 0, none⟩ = w.cell? ⟨z.2.blk, 0, none⟩ := by
        obtain ⟨c, hc⟩ := hfile.tag
        exact World.cell?_of_block (hgw1.block _ (block_lt hc) (by simp))
      obtain ⟨p, cap, q0, _⟩ := hfile.cells
      rw [q0] at hcell
      have hst := done_step HR.out hz (left := left) (by rw [hzn]; exact hlk)
      rw [hzn, ← HS.out] at hst
      have hb := done_le L (fun z => left z && !z.sameKey (.int .i64 x))
      rw [hst, HU.out] at hb
      obtain ⟨N, hN⟩ : ∃ N, z.1.data.length = N := ⟨_, rfl⟩
      rw [hN] at hcell hst hb
      obtain ⟨B, hB⟩ : ∃ B, z.2.blk = B := ⟨_, rfl⟩
      rw [hB] at hcell hen
      have HST := Lib.hid hst
      have HRG := Lib.hid hrg1
      have HG := Lib.hid hgw1
      rw [hB] at hv
      clear hst hN q0 hfile hat hv hkey hlk hrg1 hgw1 hg1 hs1 hzn
      rw [hB]
      go_wp2
      go_roundw
      case rel => exact ⟨_, cnt1, S + N, HRG.out, by go_num, hb, HST.out.symm, HG.out⟩
      case measure => rw [HRG.out.left_eq, hrg.left_eq]; exact hlt
theorem free_none (p : Option Addr) (w : World) (h : NoDisk w p) : Calls Tryz.prog 28 #[.pointer p] w fun e w' => e = .returned (.int .i64 0) ∧ w = w' := by
  have c := none_yes p w h
  clear h
  go_enter Tryz.func28, Tryz.ntmps28
  go_wp2_with (go_at_call 57; refine c.mono ?_; rintro e w' ⟨rfl, rfl⟩)
  go_ret
  exact ⟨rfl, rfl⟩
end Go.Proofs.YtlaepdpgegoopaaGreat
