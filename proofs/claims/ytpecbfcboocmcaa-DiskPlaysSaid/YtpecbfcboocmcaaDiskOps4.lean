
/- The contracts of disk's calls: Truncate, Append, Delete, Create. -/
import Derived.Test.YtpecbfcboocmcaaDiskOps3
import Derived.Outline
set_option linter.unusedVariables false
namespace Go.Proofs.Ytpecbfcboocmcaa
open Go.ChangeShapes Go.WideShapes Go.ChangeAt Go.RowKit Go.Maps Csv Dk

set_option maxHeartbeats 1000000 in
theorem trunc_any (d : Nat) (D : DiskM) (G : List Nat) (n : Int) (size : Int) (w : World) (h : IsDisk w d D G) (hn : I64 n) (hs : I64 size) :
    Calls Try.prog 20 #[ptrV d, .int .i64 n, .int .i64 size] w fun e w' => e = .returned (.int .i64 (truncD D n size).1) ∧ Goes w w' G d (truncD D n size).2 := by
  obtain ⟨m, L, k, h, rfl⟩ := h
  have H := Lib.hid h
  cases hu : D.up with
  | false =>
    have c := find_down d m L k D n w h hu
    have e : truncD D n size = (61, D) := withF_down hu
    rw [e]
    clear h hu e
    unfold ptrV at *
    go_enter Try.func20, Try.ntmps20
    go_wp2_with (go_at_call 40; refine c.mono ?_; rintro e w' ⟨rfl, rfl⟩)
    go_ret
    exact ⟨rfl, Goes.same ⟨m, L, k, H.out, rfl⟩ (Keeps.refl _)⟩
  | true =>
    cases hf : findF D.files n with
    | none =>
      have c := find_nofile d m L k D n w h hn hu hf
      have e : truncD D n size = (4, D) := withF_none hu hf
      rw [e]
      clear h hu e hf hn
      unfold ptrV at *
      go_enter Try.func20, Try.ntmps20
      go_wp2_with (go_at_call 40; refine c.mono ?_; rintro e w' ⟨rfl, rfl⟩)
      go_ret
      exact ⟨rfl, Goes.same ⟨m, L, k, H.out, rfl⟩ (Keeps.refl _)⟩
    | some f =>
      obtain ⟨i, x, hi, rfl, hxn, hx⟩ := find_at h hf
      have c := find_file d m L k D n x w h hn hu hx
      have hxf : x.1 ∈ D.files := by rw [h.lst]; exact List.mem_map.2 ⟨x, List.mem_of_getElem? hi, rfl⟩
      have hlen : x.1.data.length ≤ 1048576 := by have := used_mem hxf; have := h.okay.room; have := h.okay.cap; omega
      obtain ⟨p, cap, c0, c1, fz, _⟩ := (h.files x (List.mem_of_getElem? hi)).cells
      have e : truncD D n size = _ := withF_some hu hf
      rw [e]
      have hs' := hs.nat
      obtain ⟨N, hN⟩ : ∃ N, x.1.data.length = N := ⟨_, rfl⟩
      rw [hN] at c0 hlen ⊢
      by_cases hbad : size < 0 ∨ (N : Int) < size
      · rw [if_pos hbad]
        obtain ⟨b, hb⟩ : ∃ b, x.2.blk = b := ⟨_, rfl⟩
        rw [hb] at c0 c
        clear h hu e hf hn hi hx hxn hs hxf hN c1 fz hb
        unfold ptrV at *
        by_cases h1 : size < 0
        · have t1 : decide (size < 0) = true := decide_eq_true h1
          clear hbad
          go_enter Try.func20, Try.ntmps20
          go_wp2_with (go_at_call 40; refine c.mono ?_; rintro e w' ⟨rfl, rfl⟩)
          go_ret
          exact ⟨rfl, Goes.same ⟨m, L, k, H.out, rfl⟩ (Keeps.refl _)⟩
        · have h2 : (N : Int) < size := by omega
          have t1 : decide (size < 0) = false := decide_eq_false h1
          have t2 : decide ((N : Int) < size) = true := decide_eq_true h2
          clear hbad
          go_enter Try.func20, Try.ntmps20
          go_wp2_with (go_at_call 40; refine c.mono ?_; rintro e w' ⟨rfl, rfl⟩)
          go_ret
          exact ⟨rfl, Goes.same ⟨m, L, k, H.out, rfl⟩ (Keeps.refl _)⟩
      · rw [if_neg hbad]
        obtain ⟨S, rfl⟩ : ∃ S : Nat, size = S := ⟨size.toNat, by omega⟩
        have hSN : S ≤ N := by omega
        have t1 : decide ((S : Int) < 0) = false := decide_eq_false (by omega)
        have t2 : decide ((N : Int) < (S : Int)) = false := decide_eq_false (by omega)
        simp only [Int.toNat_natCast]
        rcases count_code D with ⟨hc, cf, cc, cu⟩ | hc
        · rw [then_ok hc]
          have cn := count_ok h hc
          have HI := Lib.hid hi
          have HN := Lib.hid hxn
          have HLN := Lib.hid hN
          obtain ⟨b, hb⟩ : ∃ b, x.2.blk = b := ⟨_, rfl⟩
          have HB := Lib.hid hb
          rw [hb] at c0 c
          clear h hu e hf hn hi hx hxn hc cf cc cu hs hxf hN c1 fz hb hbad
          unfold ptrV at *
          go_enter Try.func20, Try.ntmps20
          go_wp2_with (first
            | (go_at_call 40; refine c.mono ?_; rintro e w' ⟨rfl, rfl⟩)
            | fail)
          refine cn.mono ?_
          rintro e w2 ⟨rfl, k', h2, hk2, hf2⟩
          have hfile := h2.files x (List.mem_of_getElem? HI.out)
          have hmem : x.1 ∈ D.count.2.files := by rw [h2.lst]; exact List.mem_map.2 ⟨x, List.mem_of_getElem? HI.out, rfl⟩
          have ct := (cut_any x S w2 hfile (h2.okay.sure _ hmem) (by rw [HLN.out]; exact hlen) (by rw [HLN.out]; exact hSN))
          have key : ∀ w3, FileAt w3 (x.1.cut S, x.2) → w2.grownBy w3 (some x.2.blk) → Goes w w3 (foot d m L k) d (D.count.2.put (setF D.count.2.files n fun f => f.cut S)) := by
            intro w3 s1 s2
            have hok : Okay (D.count.2.put (setF D.count.2.files x.1.n fun f => f.cut S)) := h2.okay.set _ _ 0 (fun _ => rfl) (fun f hf _ => by unfold FileM.cut; have := h2.okay.sure f hf; simp; omega) (fun f _ _ => by unfold FileM.cut; simp; omega) (by have := h2.okay.room; omega)
            have h3 := h2.setfile (g := fun f => f.cut S) (b' := x.2) HI.out (fun b hb1 hb2 _ => s2.block b hb1 fun e => hb2 (by cases e; rfl)) s1 rfl rfl (Or.inl rfl) hok
            rw [← HN.out]
            refine goes_mk h3 (hf2.frame_grown s2 (mem_fF (mem_footF.2 ⟨x, List.mem_of_getElem? HI.out, Or.inl rfl⟩))) (fun b hb => ?_) hk2
            rcases foot_set (S := w.heap.size) HI.out (y := ((fun f : FileM => f.cut S) x.1, x.2)) rfl (Or.inl rfl) b hb with h | h
            · exact Or.inl (mem_fF h)
            · exact Or.inr h
          have KEY := Lib.hid key
          rw [HB.out] at ct KEY
          clear key hfile hmem h2 hk2 hf2 c cn
          unfold ptrV at *
          go_wp2_with (go_at_call 42; refine ct.mono ?_; rintro e w3 ⟨rfl, s1, s2⟩)
          go_ret
          exact ⟨rfl, KEY.out _ s1 s2⟩
        · rw [then_no hc]
          have cn := count_no h hc
          obtain ⟨b, hb⟩ : ∃ b, x.2.blk = b := ⟨_, rfl⟩
          rw [hb] at c0 c
          clear h hu e hf hn hi hx hxn hc hs hxf hN c1 fz hb hbad
          unfold ptrV at *
          go_enter Try.func20, Try.ntmps20
          go_wp2_with (first
            | (go_at_call 40; refine c.mono ?_; rintro e w' ⟨rfl, rfl⟩)
            | (go_at_call 39; refine cn.mono ?_; rintro e w' ⟨rfl, hg⟩))
          go_ret
          exact ⟨rfl, hg⟩

/-! ### Append -/
/-- 'append', whose run is known. -/
theorem wpList_append_known {P : Program} {w : World} {ops : Array Oper} {rest : List Oper} {o : Oper} {a : Act} {Q : Exit → Act → World → Prop} (hgd : o.guard = none) (sl x : Operand) (t u : TypeId)
    (ho : o.op = .call { callee := .builtin .append, args := #[sl, x], argTypes := #[t, u] }) (v y v' : Value) (w' : World) (hs : a.eval sl = v) (hx : a.eval x = y)
    (hr : (Builtin.append_ #[t, u] o.type #[v, y]).run P w = .ok v' w') (h : wpList P ops Q rest (a.put o.dst v') w') : wpList P ops Q (o :: rest) a w := by
  refine wpList_plain hgd fun K hK => ?_
  unfold Oper.wp execOp
  simp only [ho, resolve, invoke, builtin, Sem.run_bind, Sem.run_pure, Result.andThen_ok, List.map_toArray, List.map_cons, List.map_nil, hs, hx, hr]
  exact hK _ _ h
theorem info_u8 : (Try.prog.info? 5).map (fun i => (i.zero, i.size, i.bytes)) = some (some (.int .u8 0), 1, 1) := by kernel_rfl
theorem str_cells (s : ByteArray) : Lib.strCells s = s.data.toList.map bv := rfl
/-- 'append(f.bytes, s...)': the row is the same block's, or a new one's. -/
theorem append_str (w : World) (v : Value) (l : Bs) (s : ByteArray) (hown : w.ownsRow 0 tU8 1 v l.length (l.map bv)) (hl : l.length + s.size ≤ 4194304) :
    ∃ v' w1, (Builtin.append_ #[60, 9] 60 #[v, .string s]).run Try.prog w = .ok v' w1 ∧ w1.ownsRow 0 tU8 1 v' (l ++ s.data.toList).length ((l ++ s.data.toList).map bv) ∧ w.grownBy w1 v.ownBlock ∧ (v'.ownBlock = v.ownBlock ∨ ∀ g, v'.ownBlock = some g → w.heap.size ≤ g) := by
  obtain ⟨i, hi, hz, hs, hb⟩ := info_parts info_u8
  have e1 : (l ++ s.data.toList).length = l.length + s.size := by simp
  have e2 : (l ++ s.data.toList).map bv = l.map bv ++ Lib.strCells s := by rw [List.map_append, str_cells]
  have h63 : l.length + s.size ≤ maxLen := by unfold maxLen; omega
  rw [e1, e2]
  have hl' : (l.map bv).length = l.length := by simp
  rcases hown.2 with ⟨rfl, h0⟩ | ⟨g, cap, cur, rfl, hbg, hg, r1, r2, r3, r4⟩
  · have hn : l = [] := List.length_eq_zero_iff.1 h0
    subst hn
    obtain ⟨v', w1, q1, q2, q3, q4⟩ := Lib.run_append_own_string (P := Try.prog) w w.heap.size 60 9 60 5 i Try.underlying60 Try.underlying9 hi hz hs hb (.slice none 0 0) 0 [] (World.ownsRow_nil _ _ _ _) s (by simpa using h63) (by simp at hl; omega) (Nat.le_refl _)
    exact ⟨v', w1, q1, own_zero (by simpa using q2), q3, Or.inr fun g hg => (q2.lt g hg).1⟩
  · obtain ⟨v', w1, q1, q2, q3, q4⟩ := Lib.run_append_own_string (P := Try.prog) w 0 60 9 60 5 i Try.underlying60 Try.underlying9 hi hz hs hb (.slice (some ⟨g, 0, none⟩) l.length cap) l.length (l.map bv) hown s h63 (by omega) (Nat.zero_le _)
    refine ⟨v', w1, q1, q2, q3, ?_⟩
    by_cases hroom : l.length + s.size ≤ cap
    · have hr := Lib.run_append_room_string (P := Try.prog) w 60 9 60 5 i Try.underlying60 Try.underlying9 hi hs g l.length cap cur hg s hroom (by omega)
      rw [hr] at q1
      cases q1
      exact Or.inl rfl
    · have hr := Lib.run_append_grow_string (P := Try.prog) w 60 9 60 5 i (.int .u8 0) Try.underlying60 Try.underlying9 hi hz ⟨g, 0, none⟩ l.length cap (l.map bv) (by rw [hs]; simp) (hown.cells (g := g) rfl) s (by omega) (by omega) (by rw [hb]; exact growslice_fits (by omega) (by omega))
      rw [hr] at q1
      cases q1
      exact Or.inr fun g' hg' => by cases hg'; exact Nat.le_refl _

theorem own_shape {w : World} {B : Nat} {e : TypeId} {v : Value} {n : Nat} {xs : List Value} (h : w.ownsRow B e 1 v n xs) : ∃ p c, v = .slice p n c := by
  rcases h.2 with ⟨rfl, rfl⟩ | ⟨g, cap, cur, rfl, _⟩
  · exact ⟨_, _, rfl⟩
  · exact ⟨_, _, rfl⟩
set_option maxRecDepth 100000 in
set_option maxHeartbeats 1000000 in
theorem append_any (d : Nat) (D : DiskM) (G : List Nat) (n : Int) (s : ByteArray) (w : World) (h : IsDisk w d D G) (hn : I64 n) (hs : s.size ≤ maxLen) :
    Calls Try.prog 14 #[ptrV d, .int .i64 n, .string s] w fun e w' => e = .returned (.int .i64 (appendD D n s.data.toList).1) ∧ Goes w w' G d (appendD D n s.data.toList).2 := by
  obtain ⟨m, L, k, h, rfl⟩ := h
  have H := Lib.hid h
  cases hu : D.up with
  | false =>
    have c := find_down d m L k D n w h hu
    have e : appendD D n s.data.toList = (61, D) := withF_down hu
    rw [e]
    clear h hu e
    unfold ptrV at *
    go_enter Try.func14, Try.ntmps14
    go_wp2_with (go_at_call 40; refine c.mono ?_; rintro e w' ⟨rfl, rfl⟩)
    go_ret
    exact ⟨rfl, Goes.same ⟨m, L, k, H.out, rfl⟩ (Keeps.refl _)⟩
  | true =>
    cases hf : findF D.files n with
    | none =>
      have c := find_nofile d m L k D n w h hn hu hf
      have e : appendD D n s.data.toList = (4, D) := withF_none hu hf
      rw [e]
      clear h hu e hf hn
      unfold ptrV at *
      go_enter Try.func14, Try.ntmps14
      go_wp2_with (go_at_call 40; refine c.mono ?_; rintro e w' ⟨rfl, rfl⟩)
      go_ret
      exact ⟨rfl, Goes.same ⟨m, L, k, H.out, rfl⟩ (Keeps.refl _)⟩
    | some f =>
      obtain ⟨i, x, hi, rfl, hxn, hx⟩ := find_at h hf
      have c := find_file d m L k D n x w h hn hu hx
      have hxf : x.1 ∈ D.files := by rw [h.lst]; exact List.mem_map.2 ⟨x, List.mem_of_getElem? hi, rfl⟩
      have hlen : x.1.data.length ≤ 1048576 := by have := used_mem hxf; have := h.okay.room; have := h.okay.cap; omega
      have e : appendD D n s.data.toList = _ := withF_some hu hf
      rw [e]
      have hsl : s.data.toList.length = s.size := len_data s
      have cfr := free_any d m L k D w h
      have hroom := h.okay.room
      have hcapD := h.okay.cap
      unfold maxLen at hs
      by_cases hbad : D.free < s.data.toList.length
      · rw [if_pos hbad]
        rw [hsl] at hbad
        have t1 : decide (D.free < (s.size : Int)) = true := decide_eq_true hbad
        obtain ⟨F, hF⟩ : ∃ F, D.free = F := ⟨_, rfl⟩
        rw [hF] at cfr t1 hbad
        obtain ⟨b, hb⟩ : ∃ b, x.2.blk = b := ⟨_, rfl⟩
        rw [hb] at c
        clear h hu e hf hn hi hx hxn hxf hb hF hsl hroom hcapD
        unfold ptrV at *
        go_enter Try.func14, Try.ntmps14
        go_wp2_with (first
          | (go_at_call 40; refine c.mono ?_; rintro e w' ⟨rfl, rfl⟩)
          | (go_at_call 15; refine cfr.mono ?_; rintro e w1 ⟨rfl, hk1⟩))
        go_ret
        exact ⟨rfl, Goes.same ⟨m, L, k, H.out, rfl⟩ hk1⟩
      · rw [if_neg hbad]
        rw [hsl] at hbad
        have t1 : decide (D.free < (s.size : Int)) = false := decide_eq_false hbad
        have hfree : D.free = (D.cap : Int) - (used D.files : Int) := rfl
        have hsz : used D.files + s.size ≤ D.cap := by omega
        have hsz2 : s.size ≤ 1048576 := by omega
        obtain ⟨F, hF⟩ : ∃ F, D.free = F := ⟨_, rfl⟩
        rw [hF] at cfr t1 hbad
        obtain ⟨b, hb⟩ : ∃ b, x.2.blk = b := ⟨_, rfl⟩
        have HB := Lib.hid hb
        rw [hb] at c
        have HI := Lib.hid hi
        have HN := Lib.hid hxn
        have HLEN := Lib.hid hlen
        have HSZ := Lib.hid hsz
        have HXF := Lib.hid hxf
        have HSL := Lib.hid hsl
        clear h hu e hf hn hi hx hxn hxf hb hF hsl hroom hcapD hfree hsz hlen
        unfold ptrV at *
        go_enter Try.func14, Try.ntmps14
        go_wp2_with (first
          | (go_at_call 40; refine c.mono ?_; rintro e w' ⟨rfl, rfl⟩)
          | fail)
        refine cfr.mono ?_
        rintro e w1 ⟨rfl, hk1⟩
        have h1 := H.out.keeps hk1
        have hfile := h1.files x (List.mem_of_getElem? HI.out)
        have hmem := HXF.out
        obtain ⟨p, cap, c0, c1, fz, hcap, hcc, ho, hbo, hp, hmax, hpp⟩ := hfile.cells
        have f0 := fz 0
        obtain ⟨v', wA, q1, q2, q3, q4⟩ := append_str w1 _ x.1.data s ho (by have := HLEN.out; omega)
        obtain ⟨p', c', rfl⟩ := own_shape q2
        have hdt : ∀ r, x.2.row = some r → r ≠ x.2.blk := fun r hr => by
          obtain ⟨c1', hc1'⟩ := hfile.tag
          obtain ⟨c2', hc2'⟩ := hfile.rowtag hr
          exact tag_ne hc2' hc1' (by decide)
        have hblkA : wA.heap[x.2.blk]? = w1.heap[x.2.blk]? := q3.block _ (block_lt hcc) fun e => by
          rw [hbo] at e
          exact hdt _ e.symm rfl
        have hstep : DiskAt (wA.setCell ⟨x.2.blk, 0, none⟩ (Value.slice p' (x.1.data ++ s.data.toList).length c')) d m (L.set i ((fun f : FileM => (⟨f.n, f.data ++ s.data.toList, f.sure⟩ : FileM)) x.1, ⟨x.2.blk, (Value.slice p' (x.1.data ++ s.data.toList).length c').ownBlock⟩)) k (D.put (setF D.files x.1.n fun f => ⟨f.n, f.data ++ s.data.toList, f.sure⟩)) := by
          refine h1.setfile (g := fun f => ⟨f.n, f.data ++ s.data.toList, f.sure⟩) (b' := ⟨x.2.blk, (Value.slice p' (x.1.data ++ s.data.toList).length c').ownBlock⟩) HI.out (fun b hb1 hb2 hb3 => ?_) ?_ rfl rfl ?_ ?_
          · rw [Below.heap_setCell _ _ _ _ hb2]
            exact q3.block b hb1 fun e => hb3 (by rw [← hbo]; exact e.symm)
          · refine ⟨_, ?_, ?_, rfl⟩
            · have := Joins.block_setCell (i := 0) (hblkA.trans hcc) (Value.slice p' (x.1.data ++ s.data.toList).length c')
              rw [this]; rfl
            · refine own_local q2 fun g hg => Below.heap_setCell _ _ _ _ ?_
              obtain ⟨c3', hc3'⟩ := own_tag q2 hg
              exact tag_ne hc3' (hblkA.trans hcc) (by decide)
          · rcases q4 with q4 | q4
            · exact Or.inl (q4.trans hbo)
            · exact Or.inr q4
          · refine h1.okay.set _ _ s.size (fun _ => rfl) (fun f hf _ => ?_) (fun f hf _ => ?_) HSZ.out
            · have := h1.okay.sure f hf; simp; omega
            · simp
        have hfr : Frame (foot d m L k) w (wA.setCell ⟨x.2.blk, 0, none⟩ (Value.slice p' (x.1.data ++ s.data.toList).length c')) := by
          refine (Frame.of_keeps hk1 _).trans ((Frame.of_grown q3 (G := foot d m L k) fun g hg => ?_).frame_grown (grown_setCell _ _ _ _) (mem_fF (mem_footF.2 ⟨x, List.mem_of_getElem? HI.out, Or.inl rfl⟩))) fun x hx => Or.inl hx
          rw [hbo] at hg
          exact mem_fF (mem_footF.2 ⟨x, List.mem_of_getElem? HI.out, Or.inr hg⟩)
        have hcnt := count_any d m _ k _ _ hstep
        have key : ∀ W, W = wA.setCell ⟨x.2.blk, 0, none⟩ (Value.slice p' (x.1.data ++ s.data.toList).length c') → Calls Try.prog 39 #[ptrV d] W fun e w' => e = .returned (.int .i64 ((D.put (setF D.files n fun f => ⟨f.n, f.data ++ s.data.toList, f.sure⟩)).count).1) ∧ Goes w w' (foot d m L k) d ((D.put (setF D.files n fun f => ⟨f.n, f.data ++ s.data.toList, f.sure⟩)).count).2 := by
          rintro W rfl
          refine hcnt.mono fun e w' ⟨g1, L', k', g2, g3, g4, g5, _⟩ => ⟨by rw [← HN.out]; exact g1, ?_⟩
          rw [← HN.out]
          have hset : ∀ b ∈ footF (L.set i ((fun f : FileM => (⟨f.n, f.data ++ s.data.toList, f.sure⟩ : FileM)) x.1, ⟨x.2.blk, (Value.slice p' (x.1.data ++ s.data.toList).length c').ownBlock⟩)), b ∈ foot d m L k ∨ w.heap.size ≤ b := by
            intro b hb
            rcases foot_set (S := w1.heap.size) HI.out (y := ((fun f : FileM => (⟨f.n, f.data ++ s.data.toList, f.sure⟩ : FileM)) x.1, ⟨x.2.blk, (Value.slice p' (x.1.data ++ s.data.toList).length c').ownBlock⟩)) rfl (by
              rcases q4 with q4 | q4
              · exact Or.inl (q4.trans hbo)
              · exact Or.inr q4) b hb with h | h
            · exact Or.inl (mem_fF h)
            · exact Or.inr (Nat.le_trans hk1.size h)
          have hsub : ∀ b ∈ foot d m (L.set i ((fun f : FileM => (⟨f.n, f.data ++ s.data.toList, f.sure⟩ : FileM)) x.1, ⟨x.2.blk, (Value.slice p' (x.1.data ++ s.data.toList).length c').ownBlock⟩)) k, b ∈ foot d m L k ∨ w.heap.size ≤ b := by
            intro b hb
            rcases mem_foot.1 hb with rfl | rfl | hb | hb
            · exact Or.inl (by simp [foot])
            · exact Or.inl (by simp [foot])
            · exact hset b hb
            · exact Or.inl (mem_fK hb)
          refine goes_mk g2 (hfr.trans g5 hsub) (fun b hb => ?_) (fun b hb => ?_)
          · rw [footF_of g3] at hb
            exact hset b hb
          · rcases g4 with rfl | rfl
            · exact Or.inl (mem_fK hb)
            · cases hb
        have Q1 := Lib.hid q1
        obtain ⟨NL, hNL⟩ : ∃ NL, (x.1.data ++ s.data.toList).length = NL := ⟨_, rfl⟩
        have KEY := Lib.hid key
        obtain ⟨oldc, holdc⟩ : ∃ u, wA.cell? ⟨x.2.blk, 0, none⟩ = some u := ⟨_, Joins.cell_of_block (hblkA.trans hcc) 0⟩
        have hfrz : wA.frozen? ⟨x.2.blk, 0, none⟩ = false := Joins.unfrozen_of_block (hblkA.trans hcc) 0
        rw [HB.out] at c0 f0 KEY holdc hfrz
        rw [hNL] at KEY Q1
        clear hNL q1 key hcnt hfr hstep hblkA hdt q2 q3 q4 fz hcap hcc ho hbo hp hmax hpp hfile h1 hk1 c1 hmem c cfr hs hbad
        unfold ptrV at *
        go_wp2_with (first
          | (at_builtin; refine wpList_append_known rfl _ _ _ _ rfl _ _ _ _ rfl rfl Q1.out ?_)
          | (go_at_call 39; refine (KEY.out _ ?_).mono ?_; exact rfl; rintro e w3 ⟨rfl, hg⟩))
        go_ret
        exact ⟨rfl, hg⟩
end Go.Proofs.Ytpecbfcboocmcaa
