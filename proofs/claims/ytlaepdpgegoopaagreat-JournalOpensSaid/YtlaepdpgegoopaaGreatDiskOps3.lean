
/- The contracts of disk's calls: Sync, Truncate, Append, Delete, Create. The contracts of disk's calls: Truncate, Append, Delete, Create. The contracts of disk's calls: Delete, Create, Fail, New. The contracts of disk's calls: Create, Fail, New. -/
import Derived.Test.YtlaepdpgegoopaaGreatDiskOps2
import Derived.Outline
import Derived.Lib.SliceRun
set_option linter.unusedVariables false
namespace Go.Proofs.YtlaepdpgegoopaaGreat
open Go.ChangeShapes Go.WideShapes Go.ChangeAt Go.RowKit Go.Maps Csv Dk

theorem count_code (D : DiskM) : (D.count.1 = 0 ∧ D.count.2.files = D.files ∧ D.count.2.cap = D.cap ∧ D.count.2.up = D.up) ∨ D.count.1 = 61 := by
  unfold DiskM.count
  split
  · exact Or.inl ⟨rfl, rfl, rfl, rfl⟩
  · exact Or.inr rfl
  · exact Or.inl ⟨rfl, rfl, rfl, rfl⟩
theorem then_ok {D : DiskM} (h : D.count.1 = 0) (g : List FileM → List FileM) : D.then g = (0, D.count.2.put (g D.count.2.files)) := by unfold DiskM.then; rw [if_pos h]
theorem then_no {D : DiskM} (h : D.count.1 = 61) (g : List FileM → List FileM) : D.then g = (61, D.count.2) := by unfold DiskM.then; rw [if_neg (by rw [h]; decide), ← h]
theorem withF_down {D : DiskM} {n : Int} {k : FileM → Int × DiskM} (h : D.up = false) : withF D n k = (61, D) := by unfold withF; rw [if_pos h]
theorem withF_none {D : DiskM} {n : Int} {k : FileM → Int × DiskM} (h : D.up = true) (hf : findF D.files n = none) : withF D n k = (4, D) := by unfold withF; rw [if_neg (by rw [h]; decide), hf]
theorem withF_some {D : DiskM} {n : Int} {k : FileM → Int × DiskM} {f : FileM} (h : D.up = true) (hf : findF D.files n = some f) : withF D n k = k f := by unfold withF; rw [if_neg (by rw [h]; decide), hf]

section
variable {w w' : World} {d m : Nat} {L : List Ent} {k : Option (Nat × Option Nat)} {D : DiskM}
theorem count_no (h : DiskAt w d m L k D) (hc : D.count.1 = 61) : Calls Tryz.prog 23 #[ptrV d] w fun e w' => e = .returned (.int .i64 61) ∧ Goes w w' (foot d m L k) d D.count.2 :=
  (count_any d m L k D w h).mono fun e w' ⟨h1, L', k', h2, h3, h4, h5, _⟩ => ⟨by rw [h1, hc], goes_mk h2 h5 (fun b hb => Or.inl (by rw [footF_of h3] at hb; exact mem_foot.2 (Or.inr (Or.inr (Or.inl hb))))) fun b hb => by
    rcases h4 with rfl | rfl
    · exact Or.inl (mem_foot.2 (Or.inr (Or.inr (Or.inr hb))))
    · cases hb⟩
theorem count_ok (h : DiskAt w d m L k D) (hc : D.count.1 = 0) : Calls Tryz.prog 23 #[ptrV d] w fun e w' => e = .returned (.int .i64 0) ∧ ∃ k', DiskAt w' d m L k' D.count.2 ∧ (∀ b ∈ footK k', b ∈ foot d m L k ∨ w.heap.size ≤ b) ∧ Frame (foot d m L k) w w' :=
  (count_any d m L k D w h).mono fun e w' ⟨h1, L', k', h2, h3, h4, h5, h6⟩ => ⟨by rw [h1, hc], k', by obtain ⟨rfl, _⟩ := h6 hc; exact h2, (fun b hb => by
    rcases h4 with rfl | rfl
    · exact Or.inl (mem_foot.2 (Or.inr (Or.inr (Or.inr hb))))
    · cases hb), h5⟩
theorem DiskAt.setfile {i : Nat} {x : Ent} {b' : FB} {g : FileM → FileM} (h : DiskAt w d m L k D) (hi : L[i]? = some x) (hf : ∀ b, b < w.heap.size → b ≠ x.2.blk → x.2.row ≠ some b → w'.heap[b]? = w.heap[b]?) (hy : FileAt w' (g x.1, b')) (hb : b'.blk = x.2.blk) (hn : (g x.1).n = x.1.n)
    (hr : b'.row = x.2.row ∨ ∀ r, b'.row = some r → w.heap.size ≤ r) (ho : Okay (D.put (setF D.files x.1.n g))) : DiskAt w' d m (L.set i (g x.1, b')) k (D.put (setF D.files x.1.n g)) := by
  have hl : Rising (L.map (·.1)) := by rw [← h.lst]; exact h.okay.rising
  exact h.file hi hf hy hb hn hr (by show setF D.files x.1.n g = _; rw [h.lst]; exact (set_map (D := D) hl hi rfl).symm) rfl rfl rfl rfl ho
theorem foot_set {i : Nat} {x y : Ent} {S : Nat} (hi : L[i]? = some x) (hb : y.2.blk = x.2.blk) (hr : y.2.row = x.2.row ∨ ∀ r, y.2.row = some r → S ≤ r) : ∀ b ∈ footF (L.set i y), b ∈ footF L ∨ S ≤ b := by
  intro b hb'
  have hx := List.mem_of_getElem? hi
  obtain ⟨z, hz, hzb⟩ := mem_footF.1 hb'
  rcases List.mem_or_eq_of_mem_set hz with hz | rfl
  · exact Or.inl (mem_footF.2 ⟨z, hz, hzb⟩)
  · rcases hzb with rfl | hzb
    · exact Or.inl (mem_footF.2 ⟨x, hx, Or.inl hb⟩)
    · rcases hr with hr | hr
      · exact Or.inl (mem_footF.2 ⟨x, hx, Or.inr (hr ▸ hzb)⟩)
      · exact Or.inr (hr b hzb)
theorem mem_fF {b : Nat} (h : b ∈ footF L) : b ∈ foot d m L k := mem_foot.2 (Or.inr (Or.inr (Or.inl h)))
theorem mem_fK {b : Nat} (h : b ∈ footK k) : b ∈ foot d m L k := mem_foot.2 (Or.inr (Or.inr (Or.inr h)))
end

/-- What all calls have in common that ask for a file: the disk is down, or has none. -/
theorem sync_any (d : Nat) (D : DiskM) (G : List Nat) (n : Int) (w : World) (h : IsDisk w d D G) (hn : I64 n) :
    Calls Tryz.prog 71 #[ptrV d, .int .i64 n] w fun e w' => e = .returned (.int .i64 (syncD D n).1) ∧ Goes w w' G d (syncD D n).2 := by
  obtain ⟨m, L, k, h, rfl⟩ := h
  have H := Lib.hid h
  cases hu : D.up with
  | false =>
    have c := find_down d m L k D n w h hu
    have e : syncD D n = (61, D) := withF_down hu
    rw [e]
    clear h hu e
    unfold ptrV at *
    go_enter Tryz.func71, Tryz.ntmps71
    go_wp2_with (go_at_call 27; refine c.mono ?_; rintro e w' ⟨rfl, rfl⟩)
    go_ret
    exact ⟨rfl, Goes.same ⟨m, L, k, H.out, rfl⟩ (Keeps.refl _)⟩
  | true =>
    cases hf : findF D.files n with
    | none =>
      have c := find_nofile d m L k D n w h hn hu hf
      have e : syncD D n = (4, D) := withF_none hu hf
      rw [e]
      clear h hu e hf hn
      unfold ptrV at *
      go_enter Tryz.func71, Tryz.ntmps71
      go_wp2_with (go_at_call 27; refine c.mono ?_; rintro e w' ⟨rfl, rfl⟩)
      go_ret
      exact ⟨rfl, Goes.same ⟨m, L, k, H.out, rfl⟩ (Keeps.refl _)⟩
    | some f =>
      obtain ⟨i, x, hi, rfl, hxn, hx⟩ := find_at h hf
      have c := find_file d m L k D n x w h hn hu hx
      have e : syncD D n = D.then fun l => setF l n fun f => ⟨f.n, f.data, f.data.length⟩ := withF_some hu hf
      rw [e]
      rcases count_code D with ⟨hc, cf, cc, cu⟩ | hc
      · rw [then_ok hc]
        have cn := count_ok h hc
        have HI := Lib.hid hi
        have HN := Lib.hid hxn
        have HCF := Lib.hid cf
        have HCC := Lib.hid cc
        clear h hu e hf hn hi hx hxn hc cf cc cu
        unfold ptrV at *
        go_enter Tryz.func71, Tryz.ntmps71
        go_wp2_with (first
          | (go_at_call 27; refine c.mono ?_; rintro e w' ⟨rfl, rfl⟩)
          | fail)
        refine cn.mono ?_
        rintro e w2 ⟨rfl, k', h2, hk2, hf2⟩
        have hfile := h2.files x (List.mem_of_getElem? HI.out)
        obtain ⟨p, cap, c0, c1, fz, hcap, hcc, ho, hb, hp, hmax, hpp⟩ := hfile.cells
        have f1 := fz 1
        have hset : Goes w (w2.setCell ⟨x.2.blk, 1, none⟩ (.int .i64 (x.1.data.length : Int))) (foot d m L k) d (D.count.2.put (setF D.count.2.files n fun f => ⟨f.n, f.data, f.data.length⟩)) := by
          obtain ⟨s1, s2⟩ := sure_file hfile hcc ho hb rfl
          have hok : Okay (D.count.2.put (setF D.count.2.files x.1.n fun f => ⟨f.n, f.data, f.data.length⟩)) := h2.okay.set _ _ 0 (fun _ => rfl) (fun _ _ _ => Nat.le_refl _) (fun _ _ _ => Nat.le_refl _) (by have := h2.okay.room; omega)
          have h3 := h2.setfile (g := fun f => ⟨f.n, f.data, f.data.length⟩) (b' := x.2) HI.out (fun b hb1 hb2 _ => s2.block b hb1 fun e => hb2 (by cases e; rfl)) s1 rfl rfl (Or.inl rfl) hok
          rw [← HN.out]
          refine goes_mk h3 (hf2.frame_grown s2 (mem_fF (mem_footF.2 ⟨x, List.mem_of_getElem? HI.out, Or.inl rfl⟩))) (fun b hb => ?_) hk2
          rcases foot_set (S := w.heap.size) HI.out (y := ((fun f : FileM => (⟨f.n, f.data, f.data.length⟩ : FileM)) x.1, x.2)) rfl (Or.inl rfl) b hb with h | h
          · exact Or.inl (mem_fF h)
          · exact Or.inr h
        have HSET := Lib.hid hset
        obtain ⟨N, hN⟩ : ∃ N, x.1.data.length = N := ⟨_, rfl⟩
        obtain ⟨b, hb'⟩ : ∃ b, x.2.blk = b := ⟨_, rfl⟩
        rw [hN, hb'] at c0 HSET
        rw [hb'] at f1 c1
        rw [hb']
        clear hset hfile fz hcap hcc ho hb hp hmax hpp hN hb' h2 hk2 hf2 c cn
        go_wp2
        go_ret
        exact ⟨rfl, HSET.out⟩
      · rw [then_no hc]
        have cn := count_no h hc
        clear h hu e hf hn hi hx hxn hc
        unfold ptrV at *
        go_enter Tryz.func71, Tryz.ntmps71
        go_wp2_with (first
          | (go_at_call 27; refine c.mono ?_; rintro e w' ⟨rfl, rfl⟩)
          | (go_at_call 23; refine cn.mono ?_; rintro e w' ⟨rfl, hg⟩))
        go_ret
        exact ⟨rfl, hg⟩
end Go.Proofs.YtlaepdpgegoopaaGreat
namespace Go.Proofs.YtlaepdpgegoopaaGreat
open Go.ChangeShapes Go.WideShapes Go.ChangeAt Go.RowKit Go.Maps Csv Dk

set_option maxHeartbeats 1000000 in
theorem trunc_any (d : Nat) (D : DiskM) (G : List Nat) (n : Int) (size : Int) (w : World) (h : IsDisk w d D G) (hn : I64 n) (hs : I64 size) :
    Calls Tryz.prog 81 #[ptrV d, .int .i64 n, .int .i64 size] w fun e w' => e = .returned (.int .i64 (truncD D n size).1) ∧ Goes w w' G d (truncD D n size).2 := by
  obtain ⟨m, L, k, h, rfl⟩ := h
  have H := Lib.hid h
  cases hu : D.up with
  | false =>
    have c := find_down d m L k D n w h hu
    have e : truncD D n size = (61, D) := withF_down hu
    rw [e]
    clear h hu e
    unfold ptrV at *
    go_enter Tryz.func81, Tryz.ntmps81
    go_wp2_with (go_at_call 27; refine c.mono ?_; rintro e w' ⟨rfl, rfl⟩)
    go_ret
    exact ⟨rfl, Goes.same ⟨m, L, k, H.out, rfl⟩ (Keeps.refl _)⟩
  | true =>
    cases hf : findF D.files n with
    | none =>
      have c := find_nofile d m L k D n w h hn hu hf
      have e : truncD D n size = (4, D) := withF_none hu hf
      rw [e]
      clear h hu e hf hn
      unfold ptrV at *
      go_enter Tryz.func81, Tryz.ntmps81
      go_wp2_with (go_at_call 27; refine c.mono ?_; rintro e w' ⟨rfl, rfl⟩)
      go_ret
      exact ⟨rfl, Goes.same ⟨m, L, k, H.out, rfl⟩ (Keeps.refl _)⟩
    | some f =>
      obtain ⟨i, x, hi, rfl, hxn, hx⟩ := find_at h hf
      have c := find_file d m L k D n x w h hn hu hx
      have hxf : x.1 ∈ D.files := by rw [h.lst]; exact List.mem_map.2 ⟨x, List.mem_of_getElem? hi, rfl⟩
      have hlen : x.1.data.length ≤ 1048576 := by have := used_mem hxf; have := h.okay.room; have := h.okay.cap; omega
      obtain ⟨p, cap, c0, c1, fz, _⟩ := (h.files x (List.mem_of_getElem? hi)).cells
      have e : truncD D n size = _ := withF_some hu hf
      rw [e]
      have hs' := hs.nat
      obtain ⟨N, hN⟩ : ∃ N, x.1.data.length = N := ⟨_, rfl⟩
      rw [hN] at c0 hlen ⊢
      by_cases hbad : size < 0 ∨ (N : Int) < size
      · rw [if_pos hbad]
        obtain ⟨b, hb⟩ : ∃ b, x.2.blk = b := ⟨_, rfl⟩
        rw [hb] at c0 c
        clear h hu e hf hn hi hx hxn hs hxf hN c1 fz hb
        unfold ptrV at *
        by_cases h1 : size < 0
        · have t1 : decide (size < 0) = true := decide_eq_true h1
          clear hbad
          go_enter Tryz.func81, Tryz.ntmps81
          go_wp2_with (go_at_call 27; refine c.mono ?_; rintro e w' ⟨rfl, rfl⟩)
          go_ret
          exact ⟨rfl, Goes.same ⟨m, L, k, H.out, rfl⟩ (Keeps.refl _)⟩
        · have h2 : (N : Int) < size := by omega
          have t1 : decide (size < 0) = false := decide_eq_false h1
          have t2 : decide ((N : Int) < size) = true := decide_eq_true h2
          clear hbad
          go_enter Tryz.func81, Tryz.ntmps81
          go_wp2_with (go_at_call 27; refine c.mono ?_; rintro e w' ⟨rfl, rfl⟩)
          go_ret
          exact ⟨rfl, Goes.same ⟨m, L, k, H.out, rfl⟩ (Keeps.refl _)⟩
      · rw [if_neg hbad]
        obtain ⟨S, rfl⟩ : ∃ S : Nat, size = S := ⟨size.toNat, by omega⟩
        have hSN : S ≤ N := by omega
        have t1 : decide ((S : Int) < 0) = false := decide_eq_false (by omega)
        have t2 : decide ((N : Int) < (S : Int)) = false := decide_eq_false (by omega)
        simp only [Int.toNat_natCast]
        rcases count_code D with ⟨hc, cf, cc, cu⟩ | hc
        · rw [then_ok hc]
          have cn := count_ok h hc
          have HI := Lib.hid hi
          have HN := Lib.hid hxn
          have HLN := Lib.hid hN
          obtain ⟨b, hb⟩ : ∃ b, x.2.blk = b := ⟨_, rfl⟩
          have HB := Lib.hid hb
          rw [hb] at c0 c
          clear h hu e hf hn hi hx hxn hc cf cc cu hs hxf hN c1 fz hb hbad
          unfold ptrV at *
          go_enter Tryz.func81, Tryz.ntmps81
          go_wp2_with (first
            | (go_at_call 27; refine c.mono ?_; rintro e w' ⟨rfl, rfl⟩)
            | fail)
          refine cn.mono ?_
          rintro e w2 ⟨rfl, k', h2, hk2, hf2⟩
          have hfile := h2.files x (List.mem_of_getElem? HI.out)
          have hmem : x.1 ∈ D.count.2.files := by rw [h2.lst]; exact List.mem_map.2 ⟨x, List.mem_of_getElem? HI.out, rfl⟩
          have ct := (dkCut_any x S w2 hfile (h2.okay.sure _ hmem) (by rw [HLN.out]; exact hlen) (by rw [HLN.out]; exact hSN))
          have key : ∀ w3, FileAt w3 (x.1.cut S, x.2) → w2.grownBy w3 (some x.2.blk) → Goes w w3 (foot d m L k) d (D.count.2.put (setF D.count.2.files n fun f => f.cut S)) := by
            intro w3 s1 s2
            have hok : Okay (D.count.2.put (setF D.count.2.files x.1.n fun f => f.cut S)) := h2.okay.set _ _ 0 (fun _ => rfl) (fun f hf _ => by unfold FileM.cut; have := h2.okay.sure f hf; simp; omega) (fun f _ _ => by unfold FileM.cut; simp; omega) (by have := h2.okay.room; omega)
            have h3 := h2.setfile (g := fun f => f.cut S) (b' := x.2) HI.out (fun b hb1 hb2 _ => s2.block b hb1 fun e => hb2 (by cases e; rfl)) s1 rfl rfl (Or.inl rfl) hok
            rw [← HN.out]
            refine goes_mk h3 (hf2.frame_grown s2 (mem_fF (mem_footF.2 ⟨x, List.mem_of_getElem? HI.out, Or.inl rfl⟩))) (fun b hb => ?_) hk2
            rcases foot_set (S := w.heap.size) HI.out (y := ((fun f : FileM => f.cut S) x.1, x.2)) rfl (Or.inl rfl) b hb with h | h
            · exact Or.inl (mem_fF h)
            · exact Or.inr h
          have KEY := Lib.hid key
          rw [HB.out] at ct KEY
          clear key hfile hmem h2 hk2 hf2 c cn
          unfold ptrV at *
          go_wp2_with (go_at_call 77; refine ct.mono ?_; rintro e w3 ⟨rfl, s1, s2⟩)
          go_ret
          exact ⟨rfl, KEY.out _ s1 s2⟩
        · rw [then_no hc]
          have cn := count_no h hc
          obtain ⟨b, hb⟩ : ∃ b, x.2.blk = b := ⟨_, rfl⟩
          rw [hb] at c0 c
          clear h hu e hf hn hi hx hxn hc hs hxf hN c1 fz hb hbad
          unfold ptrV at *
          go_enter Tryz.func81, Tryz.ntmps81
          go_wp2_with (first
            | (go_at_call 27; refine c.mono ?_; rintro e w' ⟨rfl, rfl⟩)
            | (go_at_call 23; refine cn.mono ?_; rintro e w' ⟨rfl, hg⟩))
          go_ret
          exact ⟨rfl, hg⟩

/-! ### Append -/
/-- 'append', whose run is known. -/
theorem wpList_append_known {P : Program} {w : World} {ops : Array Oper} {rest : List Oper} {o : Oper} {a : Act} {Q : Exit → Act → World → Prop} (hgd : o.guard = none) (sl x : Operand) (t u : TypeId)
    (ho : o.op = .call { callee := .builtin .append, args := #[sl, x], argTypes := #[t, u] }) (v y v' : Value) (w' : World) (hs : a.eval sl = v) (hx : a.eval x = y)
    (hr : (Builtin.append_ #[t, u] o.type #[v, y]).run P w = .ok v' w') (h : wpList P ops Q rest (a.put o.dst v') w') : wpList P ops Q (o :: rest) a w := by
  refine wpList_plain hgd fun K hK => ?_
  unfold Oper.wp execOp
  simp only [ho, resolve, invoke, builtin, Sem.run_bind, Sem.run_pure, Result.andThen_ok, List.map_toArray, List.map_cons, List.map_nil, hs, hx, hr]
  exact hK _ _ h
theorem dkInfo_u8 : (Tryz.prog.info? 5).map (fun i => (i.zero, i.size, i.bytes)) = some (some (.int .u8 0), 1, 1) := by kernel_rfl
theorem str_cells (s : ByteArray) : Lib.strCells s = s.data.toList.map bv := rfl
/-- 'append(f.bytes, s...)': the row is the same block's, or a new one's. -/
theorem append_str (w : World) (v : Value) (l : Bs) (s : ByteArray) (hown : w.ownsRow 0 tU8 1 v l.length (l.map bv)) (hl : l.length + s.size ≤ 4194304) :
    ∃ v' w1, (Builtin.append_ #[51, 9] 51 #[v, .string s]).run Tryz.prog w = .ok v' w1 ∧ w1.ownsRow 0 tU8 1 v' (l ++ s.data.toList).length ((l ++ s.data.toList).map bv) ∧ w.grownBy w1 v.ownBlock ∧ (v'.ownBlock = v.ownBlock ∨ ∀ g, v'.ownBlock = some g → w.heap.size ≤ g) := by
  obtain ⟨i, hi, hz, hs, hb⟩ := info_parts dkInfo_u8
  have e1 : (l ++ s.data.toList).length = l.length + s.size := by simp
  have e2 : (l ++ s.data.toList).map bv = l.map bv ++ Lib.strCells s := by rw [List.map_append, str_cells]
  have h63 : l.length + s.size ≤ maxLen := by unfold maxLen; omega
  rw [e1, e2]
  have hl' : (l.map bv).length = l.length := by simp
  rcases hown.2 with ⟨rfl, h0⟩ | ⟨g, cap, cur, rfl, hbg, hg, r1, r2, r3, r4⟩
  · have hn : l = [] := List.length_eq_zero_iff.1 h0
    subst hn
    obtain ⟨v', w1, q1, q2, q3, q4⟩ := Lib.run_append_own_string (P := Tryz.prog) w w.heap.size 51 9 51 5 i Tryz.underlying51 Tryz.underlying9 hi hz hs hb (.slice none 0 0) 0 [] (World.ownsRow_nil _ _ _ _) s (by simpa using h63) (by simp at hl; omega) (Nat.le_refl _)
    exact ⟨v', w1, q1, own_zero (by simpa using q2), q3, Or.inr fun g hg => (q2.lt g hg).1⟩
  · obtain ⟨v', w1, q1, q2, q3, q4⟩ := Lib.run_append_own_string (P := Tryz.prog) w 0 51 9 51 5 i Tryz.underlying51 Tryz.underlying9 hi hz hs hb (.slice (some ⟨g, 0, none⟩) l.length cap) l.length (l.map bv) hown s h63 (by omega) (Nat.zero_le _)
    refine ⟨v', w1, q1, q2, q3, ?_⟩
    by_cases hroom : l.length + s.size ≤ cap
    · have hr := Lib.run_append_room_string (P := Tryz.prog) w 51 9 51 5 i Tryz.underlying51 Tryz.underlying9 hi hs g l.length cap cur hg s hroom (by omega)
      rw [hr] at q1
      cases q1
      exact Or.inl rfl
    · have hr := Lib.run_append_grow_string (P := Tryz.prog) w 51 9 51 5 i (.int .u8 0) Tryz.underlying51 Tryz.underlying9 hi hz ⟨g, 0, none⟩ l.length cap (l.map bv) (by rw [hs]; simp) (hown.cells (g := g) rfl) s (by omega) (by omega) (by rw [hb]; exact growslice_fits (by omega) (by omega))
      rw [hr] at q1
      cases q1
      exact Or.inr fun g' hg' => by cases hg'; exact Nat.le_refl _

theorem own_shape {w : World} {B : Nat} {e : TypeId} {v : Value} {n : Nat} {xs : List Value} (h : w.ownsRow B e 1 v n xs) : ∃ p c, v = .slice p n c := by
  rcases h.2 with ⟨rfl, rfl⟩ | ⟨g, cap, cur, rfl, _⟩
  · exact ⟨_, _, rfl⟩
  · exact ⟨_, _, rfl⟩
set_option maxRecDepth 100000 in
set_option maxHeartbeats 1000000 in
theorem append_any (d : Nat) (D : DiskM) (G : List Nat) (n : Int) (s : ByteArray) (w : World) (h : IsDisk w d D G) (hn : I64 n) (hs : s.size ≤ maxLen) :
    Calls Tryz.prog 9 #[ptrV d, .int .i64 n, .string s] w fun e w' => e = .returned (.int .i64 (appendD D n s.data.toList).1) ∧ Goes w w' G d (appendD D n s.data.toList).2 := by
  obtain ⟨m, L, k, h, rfl⟩ := h
  have H := Lib.hid h
  cases hu : D.up with
  | false =>
    have c := find_down d m L k D n w h hu
    have e : appendD D n s.data.toList = (61, D) := withF_down hu
    rw [e]
    clear h hu e
    unfold ptrV at *
    go_enter Tryz.func9, Tryz.ntmps9
    go_wp2_with (go_at_call 27; refine c.mono ?_; rintro e w' ⟨rfl, rfl⟩)
    go_ret
    exact ⟨rfl, Goes.same ⟨m, L, k, H.out, rfl⟩ (Keeps.refl _)⟩
  | true =>
    cases hf : findF D.files n with
    | none =>
      have c := find_nofile d m L k D n w h hn hu hf
      have e : appendD D n s.data.toList = (4, D) := withF_none hu hf
      rw [e]
      clear h hu e hf hn
      unfold ptrV at *
      go_enter Tryz.func9, Tryz.ntmps9
      go_wp2_with (go_at_call 27; refine c.mono ?_; rintro e w' ⟨rfl, rfl⟩)
      go_ret
      exact ⟨rfl, Goes.same ⟨m, L, k, H.out, rfl⟩ (Keeps.refl _)⟩
    | some f =>
      obtain ⟨i, x, hi, rfl, hxn, hx⟩ := find_at h hf
      have c := find_file d m L k D n x w h hn hu hx
      have hxf : x.1 ∈ D.files := by rw [h.lst]; exact List.mem_map.2 ⟨x, List.mem_of_getElem? hi, rfl⟩
      have hlen : x.1.data.length ≤ 1048576 := by have := used_mem hxf; have := h.okay.room; have := h.okay.cap; omega
      have e : appendD D n s.data.toList = _ := withF_some hu hf
      rw [e]
      have hsl : s.data.toList.length = s.size := len_data s
      have cfr := free_any d m L k D w h
      have hroom := h.okay.room
      have hcapD := h.okay.cap
      unfold maxLen at hs
      by_cases hbad : D.free < s.data.toList.length
      · rw [if_pos hbad]
        rw [hsl] at hbad
        have t1 : decide (D.free < (s.size : Int)) = true := decide_eq_true hbad
        obtain ⟨F, hF⟩ : ∃ F, D.free = F := ⟨_, rfl⟩
        rw [hF] at cfr t1 hbad
        obtain ⟨b, hb⟩ : ∃ b, x.2.blk = b := ⟨_, rfl⟩
        rw [hb] at c
        clear h hu e hf hn hi hx hxn hxf hb hF hsl hroom hcapD
        unfold ptrV at *
        go_enter Tryz.func9, Tryz.ntmps9
        go_wp2_with (first
          | (go_at_call 27; refine c.mono ?_; rintro e w' ⟨rfl, rfl⟩)
          | (go_at_call 28; refine cfr.mono ?_; rintro e w1 ⟨rfl, hk1⟩))
        go_ret
        exact ⟨rfl, Goes.same ⟨m, L, k, H.out, rfl⟩ hk1⟩
      · rw [if_neg hbad]
        rw [hsl] at hbad
        have t1 : decide (D.free < (s.size : Int)) = false := decide_eq_false hbad
        have hfree : D.free = (D.cap : Int) - (used D.files : Int) := rfl
        have hsz : used D.files + s.size ≤ D.cap := by omega
        have hsz2 : s.size ≤ 1048576 := by omega
        obtain ⟨F, hF⟩ : ∃ F, D.free = F := ⟨_, rfl⟩
        rw [hF] at cfr t1 hbad
        obtain ⟨b, hb⟩ : ∃ b, x.2.blk = b := ⟨_, rfl⟩
        have HB := Lib.hid hb
        rw [hb] at c
        have HI := Lib.hid hi
        have HN := Lib.hid hxn
        have HLEN := Lib.hid hlen
        have HSZ := Lib.hid hsz
        have HXF := Lib.hid hxf
        have HSL := Lib.hid hsl
        clear h hu e hf hn hi hx hxn hxf hb hF hsl hroom hcapD hfree hsz hlen
        unfold ptrV at *
        go_enter Tryz.func9, Tryz.ntmps9
        go_wp2_with (first
          | (go_at_call 27; refine c.mono ?_; rintro e w' ⟨rfl, rfl⟩)
          | fail)
        refine cfr.mono ?_
        rintro e w1 ⟨rfl, hk1⟩
        have h1 := H.out.keeps hk1
        have hfile := h1.files x (List.mem_of_getElem? HI.out)
        have hmem := HXF.out
        obtain ⟨p, cap, c0, c1, fz, hcap, hcc, ho, hbo, hp, hmax, hpp⟩ := hfile.cells
        have f0 := fz 0
        obtain ⟨v', wA, q1, q2, q3, q4⟩ := append_str w1 _ x.1.data s ho (by have := HLEN.out; omega)
        obtain ⟨p', c', rfl⟩ := own_shape q2
        have hdt : ∀ r, x.2.row = some r → r ≠ x.2.blk := fun r hr => by
          obtain ⟨c1', hc1'⟩ := hfile.tag
          obtain ⟨c2', hc2'⟩ := hfile.rowtag hr
          exact tag_ne hc2' hc1' (by decide)
        have hblkA : wA.heap[x.2.blk]? = w1.heap[x.2.blk]? := q3.block _ (block_lt hcc) fun e => by
          rw [hbo] at e
          exact hdt _ e.symm rfl
        have hstep : DiskAt (wA.setCell ⟨x.2.blk, 0, none⟩ (Value.slice p' (x.1.data ++ s.data.toList).length c')) d m (L.set i ((fun f : FileM => (⟨f.n, f.data ++ s.data.toList, f.sure⟩ : FileM)) x.1, ⟨x.2.blk, (Value.slice p' (x.1.data ++ s.data.toList).length c').ownBlock⟩)) k (D.put (setF D.files x.1.n fun f => ⟨f.n, f.data ++ s.data.toList, f.sure⟩)) := by
          refine h1.setfile (g := fun f => ⟨f.n, f.data ++ s.data.toList, f.sure⟩) (b' := ⟨x.2.blk, (Value.slice p' (x.1.data ++ s.data.toList).length c').ownBlock⟩) HI.out (fun b hb1 hb2 hb3 => ?_) ?_ rfl rfl ?_ ?_
          · rw [Below.heap_setCell _ _ _ _ hb2]
            exact q3.block b hb1 fun e => hb3 (by rw [← hbo]; exact e.symm)
          · refine ⟨_, ?_, ?_, rfl⟩
            · have := Joins.block_setCell (i := 0) (hblkA.trans hcc) (Value.slice p' (x.1.data ++ s.data.toList).length c')
              rw [this]; rfl
            · refine own_local q2 fun g hg => Below.heap_setCell _ _ _ _ ?_
              obtain ⟨c3', hc3'⟩ := own_tag q2 hg
              exact tag_ne hc3' (hblkA.trans hcc) (by decide)
          · rcases q4 with q4 | q4
            · exact Or.inl (q4.trans hbo)
            · exact Or.inr q4
          · refine h1.okay.set _ _ s.size (fun _ => rfl) (fun f hf _ => ?_) (fun f hf _ => ?_) HSZ.out
            · have := h1.okay.sure f hf; simp; omega
            · simp
        have hfr : Frame (foot d m L k) w (wA.setCell ⟨x.2.blk, 0, none⟩ (Value.slice p' (x.1.data ++ s.data.toList).length c')) := by
          refine (Frame.of_keeps hk1 _).trans ((Frame.of_grown q3 (G := foot d m L k) fun g hg => ?_).frame_grown (grown_setCell _ _ _ _) (mem_fF (mem_footF.2 ⟨x, List.mem_of_getElem? HI.out, Or.inl rfl⟩))) fun x hx => Or.inl hx
          rw [hbo] at hg
          exact mem_fF (mem_footF.2 ⟨x, List.mem_of_getElem? HI.out, Or.inr hg⟩)
        have hcnt := count_any d m _ k _ _ hstep
        have key : ∀ W, W = wA.setCell ⟨x.2.blk, 0, none⟩ (Value.slice p' (x.1.data ++ s.data.toList).length c') → Calls Tryz.prog 23 #[ptrV d] W fun e w' => e = .returned (.int .i64 ((D.put (setF D.files n fun f => ⟨f.n, f.data ++ s.data.toList, f.sure⟩)).count).1) ∧ Goes w w' (foot d m L k) d ((D.put (setF D.files n fun f => ⟨f.n, f.data ++ s.data.toList, f.sure⟩)).count).2 := by
          rintro W rfl
          refine hcnt.mono fun e w' ⟨g1, L', k', g2, g3, g4, g5, _⟩ => ⟨by rw [← HN.out]; exact g1, ?_⟩
          rw [← HN.out]
          have hset : ∀ b ∈ footF (L.set i ((fun f : FileM => (⟨f.n, f.data ++ s.data.toList, f.sure⟩ : FileM)) x.1, ⟨x.2.blk, (Value.slice p' (x.1.data ++ s.data.toList).length c').ownBlock⟩)), b ∈ foot d m L k ∨ w.heap.size ≤ b := by
            intro b hb
            rcases foot_set (S := w1.heap.size) HI.out (y := ((fun f : FileM => (⟨f.n, f.data ++ s.data.toList, f.sure⟩ : FileM)) x.1, ⟨x.2.blk, (Value.slice p' (x.1.data ++ s.data.toList).length c').ownBlock⟩)) rfl (by
              rcases q4 with q4 | q4
              · exact Or.inl (q4.trans hbo)
              · exact Or.inr q4) b hb with h | h
            · exact Or.inl (mem_fF h)
            · exact Or.inr (Nat.le_trans hk1.size h)
          have hsub : ∀ b ∈ foot d m (L.set i ((fun f : FileM => (⟨f.n, f.data ++ s.data.toList, f.sure⟩ : FileM)) x.1, ⟨x.2.blk, (Value.slice p' (x.1.data ++ s.data.toList).length c').ownBlock⟩)) k, b ∈ foot d m L k ∨ w.heap.size ≤ b := by
            intro b hb
            rcases mem_foot.1 hb with rfl | rfl | hb | hb
            · exact Or.inl (by simp [foot])
            · exact Or.inl (by simp [foot])
            · exact hset b hb
            · exact Or.inl (mem_fK hb)
          refine goes_mk g2 (hfr.trans g5 hsub) (fun b hb => ?_) (fun b hb => ?_)
          · rw [footF_of g3] at hb
            exact hset b hb
          · rcases g4 with rfl | rfl
            · exact Or.inl (mem_fK hb)
            · cases hb
        have Q1 := Lib.hid q1
        obtain ⟨NL, hNL⟩ : ∃ NL, (x.1.data ++ s.data.toList).length = NL := ⟨_, rfl⟩
        have KEY := Lib.hid key
        obtain ⟨oldc, holdc⟩ : ∃ u, wA.cell? ⟨x.2.blk, 0, none⟩ = some u := ⟨_, Joins.cell_of_block (hblkA.trans hcc) 0⟩
        have hfrz : wA.frozen? ⟨x.2.blk, 0, none⟩ = false := Joins.unfrozen_of_block (hblkA.trans hcc) 0
        rw [HB.out] at c0 f0 KEY holdc hfrz
        rw [hNL] at KEY Q1
        clear hNL q1 key hcnt hfr hstep hblkA hdt q2 q3 q4 fz hcap hcc ho hbo hp hmax hpp hfile h1 hk1 c1 hmem c cfr hs hbad
        unfold ptrV at *
        go_wp2_with (first
          | (at_builtin; refine wpList_append_known rfl _ _ _ _ rfl _ _ _ _ rfl rfl Q1.out ?_)
          | (go_at_call 23; refine (KEY.out _ ?_).mono ?_; exact rfl; rintro e w3 ⟨rfl, hg⟩))
        go_ret
        exact ⟨rfl, hg⟩
end Go.Proofs.YtlaepdpgegoopaaGreat
namespace Go.Proofs.YtlaepdpgegoopaaGreat
open Go.ChangeShapes Go.WideShapes Go.ChangeAt Go.RowKit Go.Maps Csv Dk

theorem key_wf {n : Int} (hn : I64 n) : keyOf Tryz.prog tI (.int .i64 n) = some (.int .i64 n) :=
  keyOf_int_mk Tryz.underlying3 (by unfold I64 top at hn; simp [Lit.wf, IntKind.min, IntKind.max, IntKind.signed, IntKind.bits]; omega)
theorem keyI : Keyed Tryz.prog tI := int_keyed Tryz.underlying3
theorem map_del (L : List Ent) (n : Int) : (mapD L).del (.int .i64 n) = mapD (L.filter fun x => x.1.n != n) := by
  unfold mapD DataW.del
  simp only
  rw [List.filter_map]
  congr 2
  apply List.filter_congr
  intro x _
  simp only [Function.comp, ent, Lit.sameKey]
  by_cases h : x.1.n = n <;> simp [h]
theorem files_del (L : List Ent) (n : Int) : delF (L.map (·.1)) n = (L.filter fun x => x.1.n != n).map (·.1) := by
  unfold delF
  rw [List.filter_map]
  rfl
theorem map_tight {P : Program} {H : Type} {w : World} {k : TypeId} {R : Value → Option (DataW H × List MemPlace)} {b n : Nat} {D : DataW H} (h : w.ownsMap P k R b n D) : w.ownsMap P k R b (Maps.size D) D := by
  obtain ⟨es, clock, hb, F, hs, rfl⟩ := h
  exact ⟨es, clock, hb, F, by simp [Maps.size, length_sorted], rfl⟩
theorem size_mapD (L : List Ent) : Maps.size (mapD L) = L.length := by unfold mapD; rw [Maps.size_eq, List.length_map]

/-- A file is gone. -/
theorem DiskAt.del {w w' : World} {d m : Nat} {L : List Ent} {k : Option (Nat × Option Nat)} {D : DiskM} (h : DiskAt w d m L k D) (n : Int) (ht : w.mapTurned w' m) (hm : w'.ownsMap Tryz.prog tI ptrR m L.length ((mapD L).del (.int .i64 n))) :
    DiskAt w' d m (L.filter fun x => x.1.n != n) k (D.put (delF D.files n)) := by
  obtain ⟨n1, n2, n3⟩ := h.m_ne
  have hg := ht.grown
  have o : ∀ b, b ∈ foot d m L k → b ≠ m → w'.heap[b]? = w.heap[b]? := fun b hb hne => hg.block b (h.lt b hb) fun e => hne (by cases e; rfl)
  rw [map_del] at hm
  have hm' := map_tight hm
  rw [size_mapD] at hm'
  refine ⟨by show delF D.files n = _; rw [h.lst, files_del], (o d (by simp [foot]) n1).trans h.disk, hm', fun x hx => ?_, h.apart.filter _, h.fail.local fun b hb => o b (mem_fK hb) (n3 b hb), h.okay.del n⟩
  have hxL := (List.mem_filter.1 hx).1
  have hb : ∀ b, b ∈ footF L → w'.heap[b]? = w.heap[b]? := fun b hb => o b (mem_fF hb) (n2 b hb)
  exact (h.files x hxL).local (hb _ (mem_footF.2 ⟨x, hxL, Or.inl rfl⟩)) fun r hr => hb r (mem_footF.2 ⟨x, hxL, Or.inr hr⟩)

set_option maxHeartbeats 1000000 in
theorem deleteD_any (d : Nat) (D : DiskM) (G : List Nat) (n : Int) (w : World) (h : IsDisk w d D G) (hn : I64 n) :
    Calls Tryz.prog 76 #[ptrV d, .int .i64 n] w fun e w' => e = .returned (.int .i64 (deleteD D n).1) ∧ Goes w w' G d (deleteD D n).2 := by
  obtain ⟨m, L, k, h, rfl⟩ := h
  have H := Lib.hid h
  cases hu : D.up with
  | false =>
    have c := find_down d m L k D n w h hu
    have e : deleteD D n = (61, D) := withF_down hu
    rw [e]
    clear h hu e
    unfold ptrV at *
    go_enter Tryz.func76, Tryz.ntmps76
    go_wp2_with (go_at_call 27; refine c.mono ?_; rintro e w' ⟨rfl, rfl⟩)
    go_ret
    exact ⟨rfl, Goes.same ⟨m, L, k, H.out, rfl⟩ (Keeps.refl _)⟩
  | true =>
    cases hf : findF D.files n with
    | none =>
      have c := find_nofile d m L k D n w h hn hu hf
      have e : deleteD D n = (4, D) := withF_none hu hf
      rw [e]
      clear h hu e hf hn
      unfold ptrV at *
      go_enter Tryz.func76, Tryz.ntmps76
      go_wp2_with (go_at_call 27; refine c.mono ?_; rintro e w' ⟨rfl, rfl⟩)
      go_ret
      exact ⟨rfl, Goes.same ⟨m, L, k, H.out, rfl⟩ (Keeps.refl _)⟩
    | some f =>
      obtain ⟨i, x, hi, rfl, hxn, hx⟩ := find_at h hf
      have c := find_file d m L k D n x w h hn hu hx
      have e : deleteD D n = D.then fun l => delF l n := withF_some hu hf
      rw [e]
      rcases count_code D with ⟨hc, cf, cc, cu⟩ | hc
      · rw [then_ok hc]
        have cn := count_ok h hc
        have HKW := Lib.hid (key_wf hn)
        clear h hu e hf hn hi hx hxn hc cf cc cu
        unfold ptrV at *
        go_enter Tryz.func76, Tryz.ntmps76
        go_wp2_with (first
          | (go_at_call 27; refine c.mono ?_; rintro e w' ⟨rfl, rfl⟩)
          | fail)
        refine cn.mono ?_
        rintro e w2 ⟨rfl, k', h2, hk2, hf2⟩
        obtain ⟨_, m1, _⟩ := h2.cells
        have key : ∀ w3, w2.mapTurned w3 m → w3.ownsMap Tryz.prog tI ptrR m L.length ((mapD L).del (.int .i64 n)) → Goes w w3 (foot d m L k) d (D.count.2.put (delF D.count.2.files n)) := by
          intro w3 ht hm
          refine goes_mk (h2.del n ht hm) (hf2.frame_grown ht.grown (by simp [foot])) (fun b hb => ?_) hk2
          obtain ⟨z, hz, hzb⟩ := mem_footF.1 hb
          exact Or.inl (mem_fF (mem_footF.2 ⟨z, (List.mem_filter.1 hz).1, hzb⟩))
        have KEY := Lib.hid key
        have HOWN := Lib.hid h2.map
        clear key h2 hk2 hf2 c cn
        go_wp2_with (at_delete; refine wpList_delete_own _ rfl _ _ tMp tI rfl tPf keyI Tryz.underlying52 ptrR m L.length (mapD L) rfl HOWN.out _ (.int .i64 n) rfl HKW.out ?_; intro w3 hm3 ht3)
        go_ret
        exact ⟨rfl, KEY.out _ ht3 hm3⟩
      · rw [then_no hc]
        have cn := count_no h hc
        clear h hu e hf hn hi hx hxn hc
        unfold ptrV at *
        go_enter Tryz.func76, Tryz.ntmps76
        go_wp2_with (first
          | (go_at_call 27; refine c.mono ?_; rintro e w' ⟨rfl, rfl⟩)
          | (go_at_call 23; refine cn.mono ?_; rintro e w' ⟨rfl, hg⟩))
        go_ret
        exact ⟨rfl, hg⟩

/-! ### Create -/
def insL (L : List Ent) (n : Int) (b : FB) : List Ent :=
  match L with
  | [] => [(⟨n, [], 0⟩, b)]
  | x :: r => if x.1.n < n then x :: insL r n b else (⟨n, [], 0⟩, b) :: x :: r
theorem insL_files (L : List Ent) (n : Int) (b : FB) : (insL L n b).map (·.1) = insF (L.map (·.1)) n := by
  induction L with
  | nil => rfl
  | cons x r ih =>
    unfold insL
    rw [List.map_cons]
    unfold insF
    by_cases h : x.1.n < n
    · rw [if_pos h, if_pos h, List.map_cons, ih]
    · rw [if_neg h, if_neg h, List.map_cons, List.map_cons]
theorem insL_mem (L : List Ent) (n : Int) (b : FB) (x : Ent) : x ∈ insL L n b ↔ x = (⟨n, [], 0⟩, b) ∨ x ∈ L := by
  induction L with
  | nil => simp [insL]
  | cons g r ih =>
    unfold insL
    split
    · rw [List.mem_cons, ih, List.mem_cons]; constructor <;> (rintro (h | h | h) <;> simp [h])
    · simp
theorem insL_pair (L : List Ent) (n : Int) (b : FB) (h : L.Pairwise Apart) (hb : ∀ x ∈ L, Apart (⟨n, [], 0⟩, b) x) : (insL L n b).Pairwise Apart := by
  induction L with
  | nil => exact List.pairwise_singleton _ _
  | cons x r ih =>
    obtain ⟨h1, h2⟩ := List.pairwise_cons.1 h
    unfold insL
    split
    · refine List.pairwise_cons.2 ⟨fun y hy => ?_, ih h2 fun y hy => hb y (by simp [hy])⟩
      rcases (insL_mem r n b y).1 hy with rfl | hy
      · exact (hb x (by simp)).symm
      · exact h1 y hy
    · exact List.pairwise_cons.2 ⟨hb, h⟩
theorem map_put (L : List Ent) (n : Int) (b : Nat) (h : ∀ x ∈ L, x.1.n ≠ n) : (mapD L).put (.int .i64 n) (.held b) = mapD (insL L n ⟨b, none⟩) := by
  unfold mapD DataW.put
  simp only
  have e : (L.map ent).filter (fun p => !p.1.sameKey (.int .i64 n)) = L.map ent := by
    refine List.filter_eq_self.2 fun p hp => ?_
    obtain ⟨x, hx, rfl⟩ := List.mem_map.1 hp
    simp [ent, Lit.sameKey, h x hx]
  rw [e]
  clear e
  congr 1
  induction L with
  | nil => rfl
  | cons x r ih =>
    rw [List.map_cons]
    unfold DataW.insert insL
    have hx := h x (by simp)
    by_cases hlt : x.1.n < n
    · rw [if_pos hlt, if_neg (by simp [ent, Lit.before]; omega), List.map_cons, ih fun y hy => h y (by simp [hy])]
    · rw [if_neg hlt, if_pos (by simp [ent, Lit.before]; omega), List.map_cons]; rfl
/-- A file is new. -/
theorem DiskAt.ins {w wA w' : World} {d m b : Nat} {L : List Ent} {k : Option (Nat × Option Nat)} {D : DiskM} {n : Int} (h : DiskAt w d m L k D) (hok : Okay (D.put (insF D.files n))) (hf : findF D.files n = none) (hb : w.heap.size ≤ b) (hA : Keeps w wA) (hbA : wA.heap[b]? = some (.cells #[.slice none 0 0, .int .i64 0] tFl (0, 0)))
    (ht : wA.mapTurned w' m) (hm : w'.ownsMap Tryz.prog tI ptrR m (L.length + 1) ((mapD L).put (.int .i64 n) (.held b))) : DiskAt w' d m (insL L n ⟨b, none⟩) k (D.put (insF D.files n)) := by
  obtain ⟨n1, n2, n3⟩ := h.m_ne
  have hlt := h.lt
  have hg := ht.grown
  have o : ∀ x, x ∈ foot d m L k → x ≠ m → w'.heap[x]? = w.heap[x]? := fun x hx hne => (hg.block x (Nat.lt_of_lt_of_le (hlt x hx) hA.size) fun e => hne (by cases e; rfl)).trans (hA.block x (hlt x hx))
  have hno : ∀ x ∈ L, x.1.n ≠ n := fun x hx => findF_none hf x.1 (by rw [h.lst]; exact List.mem_map.2 ⟨x, hx, rfl⟩)
  rw [map_put L n b hno] at hm
  have hm' := map_tight hm
  rw [size_mapD] at hm'
  have hbm : b ≠ m := by have := hlt m (by simp [foot]); omega
  refine ⟨by show insF D.files n = _; rw [insL_files, h.lst], (o d (by simp [foot]) n1).trans h.disk, hm', fun x hx => ?_, insL_pair L n _ h.apart fun x hx => ⟨?_, fun r hr => by cases hr⟩, h.fail.local fun x hx => o x (mem_fK hx) (n3 x hx), hok⟩
  · rcases (insL_mem L n _ x).1 hx with rfl | hx
    · exact ⟨.slice none 0 0, (hg.block b (block_lt hbA) fun e => hbm (by cases e; rfl)).trans hbA, World.ownsRow_nil _ _ _ _, rfl⟩
    · have hb : ∀ b, b ∈ footF L → w'.heap[b]? = w.heap[b]? := fun b hb => o b (mem_fF hb) (n2 b hb)
      exact (h.files x hx).local (hb _ (mem_footF.2 ⟨x, hx, Or.inl rfl⟩)) fun r hr => hb r (mem_footF.2 ⟨x, hx, Or.inr hr⟩)
  · have := hlt _ (mem_fF (mem_footF.2 ⟨x, hx, Or.inl rfl⟩))
    show b ≠ x.2.blk
    omega
end Go.Proofs.YtlaepdpgegoopaaGreat
namespace Go.Proofs.YtlaepdpgegoopaaGreat
open Go.ChangeShapes Go.WideShapes Go.ChangeAt Go.RowKit Go.Maps Csv Dk

set_option maxHeartbeats 2000000 in
theorem createD_any (d : Nat) (D : DiskM) (G : List Nat) (n : Int) (w : World) (h : IsDisk w d D G) (hn : I64 n) :
    Calls Tryz.prog 7 #[ptrV d, .int .i64 n] w fun e w' => e = .returned (.int .i64 (createD D n).1) ∧ Goes w w' G d (createD D n).2 := by
  obtain ⟨m, L, k, h, rfl⟩ := h
  have H := Lib.hid h
  have hn' := hn.nat
  obtain ⟨c0, c1, c2, c3, c4, fz⟩ := h.cells
  clear c0 c2 c3 c4 fz
  cases hu : D.up with
  | false =>
    have c := ready_down h hu
    have e : createD D n = (61, D) := by unfold createD; rw [if_pos hu]
    rw [e]
    clear h hu e hn' hn c1
    unfold ptrV at *
    go_enter Tryz.func7, Tryz.ntmps7
    go_wp2_with (go_at_call 22; refine c.mono ?_; rintro e w' ⟨rfl, rfl⟩)
    go_ret
    exact ⟨rfl, Goes.same ⟨m, L, k, H.out, rfl⟩ (Keeps.refl _)⟩
  | true =>
    have c := ready_up h hu
    have hnu : ¬ D.up = false := by rw [hu]; decide
    by_cases h0 : n < 0
    · have e : createD D n = (2, D) := by unfold createD; rw [if_neg hnu, if_pos h0]
      rw [e]
      have t0 : decide (n < 0) = true := decide_eq_true h0
      clear h hu e hn' hn c1 h0 hnu
      unfold ptrV at *
      go_enter Tryz.func7, Tryz.ntmps7
      go_wp2_with (go_at_call 22; refine c.mono ?_; rintro e w' ⟨rfl, rfl⟩)
      go_ret
      exact ⟨rfl, Goes.same ⟨m, L, k, H.out, rfl⟩ (Keeps.refl _)⟩
    · have t0 : decide (n < 0) = false := decide_eq_false h0
      cases hf : findF D.files n with
      | some f =>
        obtain ⟨i, x, hi, rfl, hxn, hx⟩ := find_at h hf
        have hl := (look_at h hn).2 x hx
        have e : createD D n = (62, D) := by unfold createD; rw [if_neg hnu, if_neg h0, if_pos (by rw [hf]; rfl)]
        rw [e]
        clear h hu e hn' hn h0 hnu hf hi hxn hx
        unfold ptrV at *
        go_enter Tryz.func7, Tryz.ntmps7
        go_wp2_with (go_at_call 22; refine c.mono ?_; rintro e w' ⟨rfl, rfl⟩)
        go_ret
        exact ⟨rfl, Goes.same ⟨m, L, k, H.out, rfl⟩ (Keeps.refl _)⟩
      | none =>
        have hl := (look_at h hn).1 hf
        have hlen : ∀ ty, (Builtin.len_ #[tMp] ty #[.map (some m)]).run Tryz.prog w = .ok (.int .i64 (D.files.length : Int)) w := fun ty => by
          have := World.ownsMap.len (t := tMp) (e := tPf) h.map Tryz.underlying52 ty
          rw [size_mapD] at this
          rw [this, h.lst, List.length_map]
        have hnf : ¬ (findF D.files n).isSome = true := by rw [hf]; decide
        by_cases hfull : 100 ≤ D.files.length
        · have e : createD D n = (60, D) := by unfold createD; rw [if_neg hnu, if_neg h0, if_neg hnf, if_pos hfull]
          rw [e]
          obtain ⟨N, hN⟩ : ∃ N, D.files.length = N := ⟨_, rfl⟩
          rw [hN] at hlen hfull
          have hmany := h.okay.many
          rw [hN] at hmany
          have t1 : decide ((100 : Int) ≤ (N : Int)) = true := decide_eq_true (by omega)
          clear h hu e hn' hn h0 hnu hf hnf hN hfull
          unfold ptrV at *
          go_enter Tryz.func7, Tryz.ntmps7
          go_wp2_with (go_at_call 22; refine c.mono ?_; rintro e w' ⟨rfl, rfl⟩)
          go_ret
          exact ⟨rfl, Goes.same ⟨m, L, k, H.out, rfl⟩ (Keeps.refl _)⟩
        · have e : createD D n = D.then fun l => insF l n := by unfold createD; rw [if_neg hnu, if_neg h0, if_neg hnf, if_neg hfull]
          rw [e]
          obtain ⟨N, hN⟩ : ∃ N, D.files.length = N := ⟨_, rfl⟩
          have HFL := Lib.hid (show D.files.length < 100 by omega)
          rw [hN] at hlen hfull
          have t1 : decide ((100 : Int) ≤ (N : Int)) = false := decide_eq_false (by omega)
          have HF := Lib.hid hf
          rcases count_code D with ⟨hc, cf, cc, cu⟩ | hc
          · rw [then_ok hc]
            have cn := count_ok h hc
            have HKW := Lib.hid (key_wf hn)
            have HCF := Lib.hid cf
            have HN0 := Lib.hid (show 0 ≤ n by omega)
            clear h hu e hn h0 hnu hf hnf hN hfull hc cf cc cu
            unfold ptrV at *
            go_enter Tryz.func7, Tryz.ntmps7
            go_wp2_with (first
              | (go_at_call 22; refine c.mono ?_; rintro e w' ⟨rfl, rfl⟩)
              | fail)
            refine cn.mono ?_
            rintro e w2 ⟨rfl, k', h2, hk2, hf2⟩
            obtain ⟨_, m1, _⟩ := h2.cells
            have hf2' : findF D.count.2.files n = none := by rw [HCF.out]; exact HF.out
            have key : ∀ w3, (w2.alloc (.cells #[.slice none 0 0, .int .i64 0] tFl)).mapTurned w3 m → w3.ownsMap Tryz.prog tI ptrR m (L.length + 1) ((mapD L).put (.int .i64 n) (.held w2.heap.size)) → Goes w w3 (foot d m L k) d (D.count.2.put (insF D.count.2.files n)) := by
              intro w3 ht hm
              have hA : Keeps w2 (w2.alloc (.cells #[.slice none 0 0, .int .i64 0] tFl)) := (Below.refl _ _).alloc (Nat.le_refl _) _
              refine goes_mk (h2.ins (h2.okay.ins HN0.out (by omega) hf2' (by rw [HCF.out]; exact HFL.out)) hf2' (Nat.le_refl _) hA (heap_alloc_new w2 _) ht hm) ((hf2.trans (Frame.of_keeps hA (foot d m L k)) fun x hx => Or.inl hx).frame_grown ht.grown (by simp [foot])) (fun b hb => ?_) hk2
              obtain ⟨z, hz, hzb⟩ := mem_footF.1 hb
              rcases (insL_mem _ _ _ _).1 hz with rfl | hz
              · rcases hzb with rfl | hzb
                · exact Or.inr hf2.size
                · cases hzb
              · exact Or.inl (mem_fF (mem_footF.2 ⟨z, hz, hzb⟩))
            have KEY := Lib.hid key
            have HOWN := Lib.hid h2.map
            have HLL := Lib.hid (show L.length < maxLen by have := h2.okay.many; rw [h2.lst, List.length_map] at this; unfold maxLen; omega)
            clear key h2 hk2 hf2 c cn hf2' hl hlen c1
            go_wp2_with (at_mapUpdate; refine wpList_mapUpdate_in _ rfl _ _ _ tMp rfl tI tPf keyI Tryz.underlying52 ptrR m L.length (mapD L) rfl (HOWN.out.alloc _) HLL.out _ _ (.int .i64 n) rfl rfl HKW.out (.held w2.heap.size) [] (ptrR_ptrV _) ?_; intro w3 hm3 ht3)
            go_ret
            exact ⟨rfl, KEY.out _ ht3 hm3⟩
          · rw [then_no hc]
            have cn := count_no h hc
            clear h hu e hn' hn h0 hnu hf hnf hN hfull hc
            unfold ptrV at *
            go_enter Tryz.func7, Tryz.ntmps7
            go_wp2_with (first
              | (go_at_call 22; refine c.mono ?_; rintro e w' ⟨rfl, rfl⟩)
              | (go_at_call 23; refine cn.mono ?_; rintro e w' ⟨rfl, hg⟩))
            go_ret
            exact ⟨rfl, hg⟩

/-! ### slices.Clone -/
theorem ints_take {w : World} {p : Option Addr} {ks : List Int} {n c k : Nat} (h : IntsAt w (.slice p n c) ks) (hk : k ≤ n) : IntsAt w (.slice p k c) (ks.take k) := by
  obtain ⟨p', c', e, hm, hc⟩ := h
  cases e
  refine ⟨p, c, by rw [List.length_take, Nat.min_eq_left hk], by rw [List.length_take]; omega, fun j x hx => ?_⟩
  rw [List.getElem?_take] at hx
  split at hx
  · exact hc j x hx
  · cases hx
/-! ### New -/
theorem newD_no (n : Int) (w : World) (h : n < 0 ∨ 1048576 < n) : Calls Tryz.prog 5 #[.int .i64 n] w fun e w' => e = .returned (.tuple #[.pointer none, .int .i64 2]) ∧ w = w' := by
  by_cases h1 : n < 0
  · have t1 : decide (n < 0) = true := decide_eq_true h1
    clear h
    go_enter Tryz.func5, Tryz.ntmps5
    go_wp2
    go_ret2
    exact ⟨rfl, rfl⟩
  · have t1 : decide (n < 0) = false := decide_eq_false h1
    have t2 : decide (1048576 < n) = true := decide_eq_true (by omega)
    clear h
    go_enter Tryz.func5, Tryz.ntmps5
    go_wp2
    go_ret2
    exact ⟨rfl, rfl⟩
theorem newD_any (n : Nat) (w : World) (h : n ≤ 1048576) : Calls Tryz.prog 5 #[.int .i64 (n : Int)] w fun e w' => ∃ d G, e = .returned (.tuple #[ptrV d, .int .i64 0]) ∧ IsDisk w' d (newD n) G ∧ Keeps w w' ∧ ∀ b ∈ G, w.heap.size ≤ b := by
  have t1 : decide ((n : Int) < 0) = false := decide_eq_false (by omega)
  have t2 : decide (1048576 < (n : Int)) = false := decide_eq_false (by omega)
  have key : IsDisk ((w.alloc (.map #[] 0)).alloc (.cells (diskCells w.heap.size none (newD n)) tDk)) (w.heap.size + 1) (newD n) (foot (w.heap.size + 1) w.heap.size [] none) := by
    refine ⟨w.heap.size, [], none, ⟨rfl, ?_, (World.ownsMap_made w _ _ _).alloc _, (fun x hx => by cases hx), List.Pairwise.nil, trivial, Okay.new h⟩, rfl⟩
    have := heap_alloc_new (w.alloc (.map #[] 0)) (.cells (diskCells w.heap.size none (newD n)) tDk)
    simpa using this
  have KEY := Lib.hid key
  have hmm := @run_makeMap Tryz.prog
  clear key
  go_enter Tryz.func5, Tryz.ntmps5
  go_wp2
  go_ret2
  refine ⟨_, _, rfl, KEY.out, ((Below.refl _ _).alloc (Nat.le_refl _) _).alloc (by simp) _, fun b hb => ?_⟩
  rcases mem_foot.1 hb with rfl | rfl | hb | hb
  · omega
  · exact Nat.le_refl _
  · cases hb
  · cases hb
end Go.Proofs.YtlaepdpgegoopaaGreat
