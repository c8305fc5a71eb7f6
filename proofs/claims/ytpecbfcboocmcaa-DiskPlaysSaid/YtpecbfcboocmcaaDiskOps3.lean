
/- The contracts of disk's calls: Sync, Truncate, Append, Delete, Create. -/
import Derived.Test.YtpecbfcboocmcaaDiskOps2
set_option linter.unusedVariables false
namespace Go.Proofs.Ytpecbfcboocmcaa
open Go.ChangeShapes Go.WideShapes Go.ChangeAt Go.RowKit Go.Maps Csv Dk

theorem count_code (D : DiskM) : (D.count.1 = 0 ∧ D.count.2.files = D.files ∧ D.count.2.cap = D.cap ∧ D.count.2.up = D.up) ∨ D.count.1 = 61 := by
  unfold DiskM.count
  split
  · exact Or.inl ⟨rfl, rfl, rfl, rfl⟩
  · exact Or.inr rfl
  · exact Or.inl ⟨rfl, rfl, rfl, rfl⟩
theorem then_ok {D : DiskM} (h : D.count.1 = 0) (g : List FileM → List FileM) : D.then g = (0, D.count.2.put (g D.count.2.files)) := by unfold DiskM.then; rw [if_pos h]
theorem then_no {D : DiskM} (h : D.count.1 = 61) (g : List FileM → List FileM) : D.then g = (61, D.count.2) := by unfold DiskM.then; rw [if_neg (by rw [h]; decide), ← h]
theorem withF_down {D : DiskM} {n : Int} {k : FileM → Int × DiskM} (h : D.up = false) : withF D n k = (61, D) := by unfold withF; rw [if_pos h]
theorem withF_none {D : DiskM} {n : Int} {k : FileM → Int × DiskM} (h : D.up = true) (hf : findF D.files n = none) : withF D n k = (4, D) := by unfold withF; rw [if_neg (by rw [h]; decide), hf]
theorem withF_some {D : DiskM} {n : Int} {k : FileM → Int × DiskM} {f : FileM} (h : D.up = true) (hf : findF D.files n = some f) : withF D n k = k f := by unfold withF; rw [if_neg (by rw [h]; decide), hf]

section
variable {w w' : World} {d m : Nat} {L : List Ent} {k : Option (Nat × Option Nat)} {D : DiskM}
theorem count_no (h : DiskAt w d m L k D) (hc : D.count.1 = 61) : Calls Try.prog 39 #[ptrV d] w fun e w' => e = .returned (.int .i64 61) ∧ Goes w w' (foot d m L k) d D.count.2 :=
  (count_any d m L k D w h).mono fun e w' ⟨h1, L', k', h2, h3, h4, h5, _⟩ => ⟨by rw [h1, hc], goes_mk h2 h5 (fun b hb => Or.inl (by rw [footF_of h3] at hb; exact mem_foot.2 (Or.inr (Or.inr (Or.inl hb))))) fun b hb => by
    rcases h4 with rfl | rfl
    · exact Or.inl (mem_foot.2 (Or.inr (Or.inr (Or.inr hb))))
    · cases hb⟩
theorem count_ok (h : DiskAt w d m L k D) (hc : D.count.1 = 0) : Calls Try.prog 39 #[ptrV d] w fun e w' => e = .returned (.int .i64 0) ∧ ∃ k', DiskAt w' d m L k' D.count.2 ∧ (∀ b ∈ footK k', b ∈ foot d m L k ∨ w.heap.size ≤ b) ∧ Frame (foot d m L k) w w' :=
  (count_any d m L k D w h).mono fun e w' ⟨h1, L', k', h2, h3, h4, h5, h6⟩ => ⟨by rw [h1, hc], k', by obtain ⟨rfl, _⟩ := h6 hc; exact h2, (fun b hb => by
    rcases h4 with rfl | rfl
    · exact Or.inl (mem_foot.2 (Or.inr (Or.inr (Or.inr hb))))
    · cases hb), h5⟩
theorem DiskAt.setfile {i : Nat} {x : Ent} {b' : FB} {g : FileM → FileM} (h : DiskAt w d m L k D) (hi : L[i]? = some x) (hf : ∀ b, b < w.heap.size → b ≠ x.2.blk → x.2.row ≠ some b → w'.heap[b]? = w.heap[b]?) (hy : FileAt w' (g x.1, b')) (hb : b'.blk = x.2.blk) (hn : (g x.1).n = x.1.n)
    (hr : b'.row = x.2.row ∨ ∀ r, b'.row = some r → w.heap.size ≤ r) (ho : Okay (D.put (setF D.files x.1.n g))) : DiskAt w' d m (L.set i (g x.1, b')) k (D.put (setF D.files x.1.n g)) := by
  have hl : Rising (L.map (·.1)) := by rw [← h.lst]; exact h.okay.rising
  exact h.file hi hf hy hb hn hr (by show setF D.files x.1.n g = _; rw [h.lst]; exact (set_map (D := D) hl hi rfl).symm) rfl rfl rfl rfl ho
theorem foot_set {i : Nat} {x y : Ent} {S : Nat} (hi : L[i]? = some x) (hb : y.2.blk = x.2.blk) (hr : y.2.row = x.2.row ∨ ∀ r, y.2.row = some r → S ≤ r) : ∀ b ∈ footF (L.set i y), b ∈ footF L ∨ S ≤ b := by
  intro b hb'
  have hx := List.mem_of_getElem? hi
  obtain ⟨z, hz, hzb⟩ := mem_footF.1 hb'
  rcases List.mem_or_eq_of_mem_set hz with hz | rfl
  · exact Or.inl (mem_footF.2 ⟨z, hz, hzb⟩)
  · rcases hzb with rfl | hzb
    · exact Or.inl (mem_footF.2 ⟨x, hx, Or.inl hb⟩)
    · rcases hr with hr | hr
      · exact Or.inl (mem_footF.2 ⟨x, hx, Or.inr (hr ▸ hzb)⟩)
      · exact Or.inr (hr b hzb)
theorem mem_fF {b : Nat} (h : b ∈ footF L) : b ∈ foot d m L k := mem_foot.2 (Or.inr (Or.inr (Or.inl h)))
theorem mem_fK {b : Nat} (h : b ∈ footK k) : b ∈ foot d m L k := mem_foot.2 (Or.inr (Or.inr (Or.inr h)))
end

/-- What all calls have in common that ask for a file: the disk is down, or has none. -/
theorem sync_any (d : Nat) (D : DiskM) (G : List Nat) (n : Int) (w : World) (h : IsDisk w d D G) (hn : I64 n) :
    Calls Try.prog 17 #[ptrV d, .int .i64 n] w fun e w' => e = .returned (.int .i64 (syncD D n).1) ∧ Goes w w' G d (syncD D n).2 := by
  obtain ⟨m, L, k, h, rfl⟩ := h
  have H := Lib.hid h
  cases hu : D.up with
  | false =>
    have c := find_down d m L k D n w h hu
    have e : syncD D n = (61, D) := withF_down hu
    rw [e]
    clear h hu e
    unfold ptrV at *
    go_enter Try.func17, Try.ntmps17
    go_wp2_with (go_at_call 40; refine c.mono ?_; rintro e w' ⟨rfl, rfl⟩)
    go_ret
    exact ⟨rfl, Goes.same ⟨m, L, k, H.out, rfl⟩ (Keeps.refl _)⟩
  | true =>
    cases hf : findF D.files n with
    | none =>
      have c := find_nofile d m L k D n w h hn hu hf
      have e : syncD D n = (4, D) := withF_none hu hf
      rw [e]
      clear h hu e hf hn
      unfold ptrV at *
      go_enter Try.func17, Try.ntmps17
      go_wp2_with (go_at_call 40; refine c.mono ?_; rintro e w' ⟨rfl, rfl⟩)
      go_ret
      exact ⟨rfl, Goes.same ⟨m, L, k, H.out, rfl⟩ (Keeps.refl _)⟩
    | some f =>
      obtain ⟨i, x, hi, rfl, hxn, hx⟩ := find_at h hf
      have c := find_file d m L k D n x w h hn hu hx
      have e : syncD D n = D.then fun l => setF l n fun f => ⟨f.n, f.data, f.data.length⟩ := withF_some hu hf
      rw [e]
      rcases count_code D with ⟨hc, cf, cc, cu⟩ | hc
      · rw [then_ok hc]
        have cn := count_ok h hc
        have HI := Lib.hid hi
        have HN := Lib.hid hxn
        have HCF := Lib.hid cf
        have HCC := Lib.hid cc
        clear h hu e hf hn hi hx hxn hc cf cc cu
        unfold ptrV at *
        go_enter Try.func17, Try.ntmps17
        go_wp2_with (first
          | (go_at_call 40; refine c.mono ?_; rintro e w' ⟨rfl, rfl⟩)
          | fail)
        refine cn.mono ?_
        rintro e w2 ⟨rfl, k', h2, hk2, hf2⟩
        have hfile := h2.files x (List.mem_of_getElem? HI.out)
        obtain ⟨p, cap, c0, c1, fz, hcap, hcc, ho, hb, hp, hmax, hpp⟩ := hfile.cells
        have f1 := fz 1
        have hset : Goes w (w2.setCell ⟨x.2.blk, 1, none⟩ (.int .i64 (x.1.data.length : Int))) (foot d m L k) d (D.count.2.put (setF D.count.2.files n fun f => ⟨f.n, f.data, f.data.length⟩)) := by
          obtain ⟨s1, s2⟩ := sure_file hfile hcc ho hb rfl
          have hok : Okay (D.count.2.put (setF D.count.2.files x.1.n fun f => ⟨f.n, f.data, f.data.length⟩)) := h2.okay.set _ _ 0 (fun _ => rfl) (fun _ _ _ => Nat.le_refl _) (fun _ _ _ => Nat.le_refl _) (by have := h2.okay.room; omega)
          have h3 := h2.setfile (g := fun f => ⟨f.n, f.data, f.data.length⟩) (b' := x.2) HI.out (fun b hb1 hb2 _ => s2.block b hb1 fun e => hb2 (by cases e; rfl)) s1 rfl rfl (Or.inl rfl) hok
          rw [← HN.out]
          refine goes_mk h3 (hf2.frame_grown s2 (mem_fF (mem_footF.2 ⟨x, List.mem_of_getElem? HI.out, Or.inl rfl⟩))) (fun b hb => ?_) hk2
          rcases foot_set (S := w.heap.size) HI.out (y := ((fun f : FileM => (⟨f.n, f.data, f.data.length⟩ : FileM)) x.1, x.2)) rfl (Or.inl rfl) b hb with h | h
          · exact Or.inl (mem_fF h)
          · exact Or.inr h
        have HSET := Lib.hid hset
        obtain ⟨N, hN⟩ : ∃ N, x.1.data.length = N := ⟨_, rfl⟩
        obtain ⟨b, hb'⟩ : ∃ b, x.2.blk = b := ⟨_, rfl⟩
        rw [hN, hb'] at c0 HSET
        rw [hb'] at f1 c1
        rw [hb']
        clear hset hfile fz hcap hcc ho hb hp hmax hpp hN hb' h2 hk2 hf2 c cn
        go_wp2
        go_ret
        exact ⟨rfl, HSET.out⟩
      · rw [then_no hc]
        have cn := count_no h hc
        clear h hu e hf hn hi hx hxn hc
        unfold ptrV at *
        go_enter Try.func17, Try.ntmps17
        go_wp2_with (first
          | (go_at_call 40; refine c.mono ?_; rintro e w' ⟨rfl, rfl⟩)
          | (go_at_call 39; refine cn.mono ?_; rintro e w' ⟨rfl, hg⟩))
        go_ret
        exact ⟨rfl, hg⟩
end Go.Proofs.Ytpecbfcboocmcaa
