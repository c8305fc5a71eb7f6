
/- The contracts of disk's calls. -/
import Derived.Test.YtlaepdpgegoopaaGreatDiskDown
set_option linter.unusedVariables false
namespace Go.Proofs.YtlaepdpgegoopaaGreat
open Go.ChangeShapes Go.WideShapes Go.ChangeAt Go.RowKit Go.Maps Csv Dk

/-! ### What an act leaves -/
theorem IsDisk.keeps {w w' : World} {d : Nat} {D : DiskM} {G : List Nat} (h : IsDisk w d D G) (k : Keeps w w') : IsDisk w' d D G := by
  obtain ⟨m, L, kf, h1, h2⟩ := h
  exact ⟨m, L, kf, h1.keeps k, h2⟩
theorem IsDisk.local {w w' : World} {d : Nat} {D : DiskM} {G : List Nat} (h : IsDisk w d D G) (k : ∀ b ∈ G, w'.heap[b]? = w.heap[b]?) : IsDisk w' d D G := by
  obtain ⟨m, L, kf, h1, rfl⟩ := h
  exact ⟨m, L, kf, h1.local k, rfl⟩
theorem IsDisk.lt {w : World} {d : Nat} {D : DiskM} {G : List Nat} (h : IsDisk w d D G) : ∀ b ∈ G, b < w.heap.size := by
  obtain ⟨m, L, kf, h1, rfl⟩ := h
  exact h1.lt
theorem IsDisk.okay {w : World} {d : Nat} {D : DiskM} {G : List Nat} (h : IsDisk w d D G) : Okay D := by
  obtain ⟨m, L, kf, h1, rfl⟩ := h
  exact h1.okay
theorem Goes.same {w w' : World} {d : Nat} {D : DiskM} {G : List Nat} (h : IsDisk w d D G) (k : Keeps w w') : Goes w w' G d D := ⟨G, h.keeps k, Frame.of_keeps k G, fun b hb => Or.inl hb⟩
theorem Goes.trans {a b c : World} {d : Nat} {D D' : DiskM} {G : List Nat} (h : Goes a b G d D) (g : ∀ G', IsDisk b d D G' → Goes b c G' d D') : Goes a c G d D' := by
  obtain ⟨G1, h1, h2, h3⟩ := h
  obtain ⟨G2, g1, g2, g3⟩ := g G1 h1
  refine ⟨G2, g1, h2.trans g2 h3, fun x hx => ?_⟩
  rcases g3 x hx with h4 | h4
  · exact h3 x h4
  · exact Or.inr (Nat.le_trans h2.size h4)
theorem footF_of {L L' : List Ent} (h : L'.map (·.2) = L.map (·.2)) : footF L' = footF L := by
  have e : ∀ l : List Ent, footF l = (l.map (·.2)).flatMap fun b => b.blk :: b.row.toList := fun l => by unfold footF; rw [List.flatMap_map]
  rw [e, e, h]
theorem blks_foot {d m : Nat} {L : List Ent} {k : Option (Nat × Option Nat)} : ∀ b ∈ d :: blks L, b ∈ foot d m L k := by
  intro b hb
  rcases List.mem_cons.1 hb with rfl | hb
  · simp [foot]
  · obtain ⟨y, hy, rfl⟩ := List.mem_map.1 hb
    exact mem_foot.2 (Or.inr (Or.inr (Or.inl (mem_footF.2 ⟨y, hy, Or.inl rfl⟩))))
/-- Up to a new file, bytes or failure it is the same blocks. -/
theorem goes_mk {w w' : World} {d m : Nat} {L L' : List Ent} {k k' : Option (Nat × Option Nat)} {D' : DiskM} (h : DiskAt w' d m L' k' D') (hf : Frame (foot d m L k) w w')
    (hL : ∀ b ∈ footF L', b ∈ foot d m L k ∨ w.heap.size ≤ b) (hk : ∀ b ∈ footK k', b ∈ foot d m L k ∨ w.heap.size ≤ b) : Goes w w' (foot d m L k) d D' := by
  refine ⟨_, ⟨m, L', k', h, rfl⟩, hf, fun b hb => ?_⟩
  rcases mem_foot.1 hb with rfl | rfl | hb | hb
  · exact Or.inl (by simp [foot])
  · exact Or.inl (by simp [foot])
  · exact hL b hb
  · exact hk b hb

/-! ### count -/
theorem fail_stable {w : World} {d m : Nat} {L : List Ent} {k : Option (Nat × Option Nat)} {D : DiskM} (h : DiskAt w d m L k D) {b : Nat} {r : Option Nat} {a : Nat} {ks : List Int} {v : Value} (hk : k = some (b, r)) (hf : D.fail = some (a, ks))
    (hb : w.heap[b]? = some (.cells #[.int .i64 (a : Int), v] tFa (0, 0))) (ho : w.ownsRow 0 tI 1 v ks.length (ivs ks)) (hr : v.ownBlock = r) : Stable (d :: blks L) w v ks := by
  intro w' hfr
  refine own_ints (own_local ho fun g hg => ?_)
  obtain ⟨c, hc⟩ := own_tag ho hg
  refine hfr.block g (block_lt hc) fun hm => ?_
  rcases List.mem_cons.1 hm with rfl | hm
  · exact tag_ne hc h.disk (by decide) rfl
  · obtain ⟨y, hy, rfl⟩ := List.mem_map.1 hm
    obtain ⟨c2, hc2⟩ := (h.files y hy).tag
    exact tag_ne hc hc2 (by decide) rfl

set_option maxHeartbeats 1000000 in
theorem count_any (d m : Nat) (L : List Ent) (k : Option (Nat × Option Nat)) (D : DiskM) (w : World) (h : DiskAt w d m L k D) :
    Calls Tryz.prog 23 #[ptrV d] w fun e w' => e = .returned (.int .i64 D.count.1) ∧ (∃ L' k', DiskAt w' d m L' k' D.count.2 ∧ L'.map (·.2) = L.map (·.2) ∧ (k' = k ∨ k' = none) ∧ Frame (foot d m L k) w w' ∧ (D.count.1 = 0 → L' = L ∧ ∀ b ∈ d :: m :: footF L, b ≠ d → w'.heap[b]? = w.heap[b]?)) := by
  obtain ⟨c0, c1, c2, c3, c4, fz⟩ := h.cells
  have H := Lib.hid h
  have hfail := h.fail
  cases hf : D.fail with
  | none =>
    rw [hf] at hfail
    obtain rfl : k = none := by cases k with | none => rfl | some x => obtain ⟨a, b⟩ := x; cases hfail
    have hc : D.count = (0, D) := by unfold DiskM.count; rw [hf]
    rw [hc]
    have HC := Lib.hid hc
    have c4' : w.cell? ⟨d, 4, none⟩ = some (.pointer none) := c4
    clear c0 c1 c2 c3 c4 fz h hfail hf hc
    unfold ptrV
    go_enter Tryz.func23, Tryz.ntmps23
    go_wp2
    go_ret
    exact ⟨rfl, L, none, H.out, rfl, Or.inl rfl, Frame.refl _ _, fun _ => ⟨rfl, fun _ _ _ => rfl⟩⟩
  | some x =>
    obtain ⟨a, ks⟩ := x
    rw [hf] at hfail
    cases k with
    | none => cases hfail
    | some y =>
      obtain ⟨b, r⟩ := y
      obtain ⟨v, h1, h2, h3⟩ := hfail
      have c4' : w.cell? ⟨d, 4, none⟩ = some (.pointer (some ⟨b, 0, none⟩)) := c4
      have e0 := Joins.cell_of_block h1 0
      have e1 := Joins.cell_of_block h1 1
      have e2 := Joins.unfrozen_of_block h1 0
      have e0' : w.cell? ⟨b, 0, none⟩ = some (.int .i64 (a : Int)) := e0
      have e1' : w.cell? ⟨b, 1, none⟩ = some v := e1
      have ha := h.okay.fail a ks hf
      cases a with
      | zero =>
        have hc : D.count = (61, D.down ks) := by unfold DiskM.count; rw [hf]
        rw [hc]
        have cg := goDown_any d m L (some (b, r)) D ks v w h (fail_stable h rfl hf h1 h2 h3)
        have HH := Lib.hid h1
        clear c0 c1 c2 c3 c4 fz h hf hc h1 h2 h3 e0 e1 ha
        unfold ptrV at cg ⊢
        go_enter Tryz.func23, Tryz.ntmps23
        go_wp2_with (go_at_call 58; refine cg.mono ?_; rintro e w' ⟨rfl, L', g1, g2, g3⟩)
        go_ret
        exact ⟨rfl, L', none, g1, g2, Or.inr rfl, g3.mono blks_foot, fun h => by cases h⟩
      | succ a =>
        have hc : D.count = (0, ⟨D.cap, D.files, D.up, D.starts, some (a, ks)⟩) := by unfold DiskM.count; rw [hf]
        have hok := h.okay.count
        rw [hc] at hok ⊢
        have key : ∀ w4, w4 = w.setCell ⟨b, 0, none⟩ (.int .i64 (a : Int)) → DiskAt w4 d m L (some (b, r)) ⟨D.cap, D.files, D.up, D.starts, some (a, ks)⟩ ∧ Frame (foot d m L (some (b, r))) w w4 ∧ ∀ x ∈ d :: m :: footF L, x ≠ d → w4.heap[x]? = w.heap[x]? := by
          rintro w4 rfl
          have hbf : b ∈ footK (some (b, r)) := by simp [footK]
          have hbd : ∀ x ∈ d :: m :: footF L, x ≠ b := by
            intro x hx e
            subst e
            rcases List.mem_cons.1 hx with e | hx
            · exact h.d_ne.2.2 _ hbf e
            · rcases List.mem_cons.1 hx with e | hx
              · exact h.m_ne.2.2 _ hbf e
              · exact h.k_ne _ hbf hx
          have b1 := Joins.block_setCell (i := 0) h1 (.int .i64 (a : Int))
          have o : ∀ x, x ≠ b → (w.setCell ⟨b, 0, none⟩ (.int .i64 (a : Int))).heap[x]? = w.heap[x]? := fun x hx => Below.heap_setCell _ _ _ _ hx
          refine ⟨⟨h.lst, ?_, map_local h.map (o m (hbd m (by simp))), fun x hx => ?_, h.apart, ⟨v, b1, own_local h2 fun g hg => o g ?_, h3⟩, hok⟩, grown_frame (grown_setCell _ _ _ _) (mem_foot.2 (Or.inr (Or.inr (Or.inr hbf)))), fun x hx _ => o x (hbd x hx)⟩
          · exact (o d (hbd d (by simp))).trans h.disk
          · exact (h.files x hx).local (o _ (hbd _ (List.mem_cons_of_mem _ (List.mem_cons_of_mem _ (mem_footF.2 ⟨x, hx, Or.inl rfl⟩))))) fun r hr => o r (hbd r (List.mem_cons_of_mem _ (List.mem_cons_of_mem _ (mem_footF.2 ⟨x, hx, Or.inr hr⟩))))
          · obtain ⟨c, hc⟩ := own_tag h2 hg
            exact tag_ne hc h1 (by decide)
        have KEY := Lib.hid key
        have t0 : ((a + 1 : Nat) : Int) - 1 = (a : Int) := by omega
        have t1 : (0 : Int) < ((a + 1 : Nat) : Int) := by omega
        have ha2 : a + 1 ≤ 9223372036854775807 := ha
        clear c0 c1 c2 c3 c4 fz h hf hc h1 h2 h3 e0 e1 hok ha key
        unfold ptrV
        go_enter Tryz.func23, Tryz.ntmps23
        go_wp2
        go_ret
        obtain ⟨r1, r2, r3⟩ := KEY.out _ rfl
        exact ⟨rfl, L, some (b, r), r1, rfl, Or.inl rfl, r2, fun _ => ⟨rfl, r3⟩⟩

/-! ### The simple calls -/
theorem I64.nat {n : Int} (h : I64 n) : -9223372036854775808 ≤ n ∧ n ≤ 9223372036854775807 := by unfold I64 top at h; omega
theorem up_any (d : Nat) (D : DiskM) (G : List Nat) (w : World) (h : IsDisk w d D G) : Calls Tryz.prog 44 #[ptrV d] w fun e w' => e = .returned (.bool D.up) ∧ w = w' := by
  obtain ⟨m, L, k, h, rfl⟩ := h
  have c := none_no d m L k D w h
  obtain ⟨c0, c1, c2, c3, c4, fz⟩ := h.cells
  clear c0 c1 c3 c4 fz h
  unfold ptrV at *
  go_enter Tryz.func44, Tryz.ntmps44
  go_wp2_with (go_at_call 57; refine c.mono ?_; rintro e w' ⟨rfl, rfl⟩)
  go_ret
  exact ⟨rfl, rfl⟩
theorem starts_any (d : Nat) (D : DiskM) (G : List Nat) (w : World) (h : IsDisk w d D G) : Calls Tryz.prog 37 #[ptrV d] w fun e w' => e = .returned (.int .i64 D.starts) ∧ w = w' := by
  obtain ⟨m, L, k, h, rfl⟩ := h
  have c := none_no d m L k D w h
  obtain ⟨c0, c1, c2, c3, c4, fz⟩ := h.cells
  clear c0 c1 c2 c4 fz h
  unfold ptrV at *
  go_enter Tryz.func37, Tryz.ntmps37
  go_wp2_with (go_at_call 57; refine c.mono ?_; rintro e w' ⟨rfl, rfl⟩)
  go_ret
  exact ⟨rfl, rfl⟩
theorem sizeD_any (d : Nat) (D : DiskM) (G : List Nat) (n : Int) (w : World) (h : IsDisk w d D G) (hn : I64 n) : Calls Tryz.prog 31 #[ptrV d, .int .i64 n] w fun e w' => e = .returned (.tuple #[.int .i64 (sizeD D n).1, .int .i64 (sizeD D n).2]) ∧ w = w' := by
  obtain ⟨m, L, k, h, rfl⟩ := h
  cases hu : D.up with
  | false =>
    have c := find_down d m L k D n w h hu
    have e : sizeD D n = (0, 61) := by unfold sizeD; rw [if_pos hu]
    rw [e]
    clear h hu e
    unfold ptrV at *
    go_enter Tryz.func31, Tryz.ntmps31
    go_wp2_with (go_at_call 27; refine c.mono ?_; rintro e w' ⟨rfl, rfl⟩)
    go_ret2
    exact ⟨rfl, rfl⟩
  | true =>
    cases hf : findF D.files n with
    | none =>
      have c := find_nofile d m L k D n w h hn hu hf
      have e : sizeD D n = (0, 4) := by unfold sizeD; rw [if_neg (by rw [hu]; decide), hf]
      rw [e]
      clear h hu e hf hn
      unfold ptrV at *
      go_enter Tryz.func31, Tryz.ntmps31
      go_wp2_with (go_at_call 27; refine c.mono ?_; rintro e w' ⟨rfl, rfl⟩)
      go_ret2
      exact ⟨rfl, rfl⟩
    | some f =>
      obtain ⟨i, x, hi, rfl, hxn, hx⟩ := find_at h hf
      have c := find_file d m L k D n x w h hn hu hx
      obtain ⟨p, cap, c0, _⟩ := (h.files x (List.mem_of_getElem? hi)).cells
      have e : sizeD D n = ((x.1.data.length : Int), 0) := by unfold sizeD; rw [if_neg (by rw [hu]; decide), hf]
      rw [e]
      obtain ⟨N, hN⟩ : ∃ N, x.1.data.length = N := ⟨_, rfl⟩
      obtain ⟨b, hb⟩ : ∃ b, x.2.blk = b := ⟨_, rfl⟩
      rw [hN, hb] at c0
      rw [hb] at c
      simp only [hN]
      clear h hu e hf hn hi hx hxn hN hb
      unfold ptrV at *
      go_enter Tryz.func31, Tryz.ntmps31
      go_wp2_with (go_at_call 27; refine c.mono ?_; rintro e w' ⟨rfl, rfl⟩)
      go_ret2
      exact ⟨rfl, rfl⟩

/-! ### Bytes of a file as a text -/
theorem data_u8 (l : Bs) : (strOfNums (l.map fun c => (c.toNat : Int))) = ⟨l.toArray⟩ := by
  simp only [strOfNums, List.map_map]
  congr 2
  refine (List.map_congr_left (g := id) fun c _ => ?_).trans (List.map_id _)
  simp
theorem own_text {w : World} {p : Option Addr} {n cap : Nat} {l : Bs} (h : w.ownsRow 0 tU8 1 (.slice p n cap) n (l.map bv)) (hp : ∀ a, p = some a → ∃ g, a = ⟨g, 0, none⟩) (a b : Nat) (hab : a ≤ b) (hb : b ≤ n) (hcap : n ≤ cap) :
    ∃ q, (Instr.slice 51 (.slice p n cap) (some (.int .i64 (a : Int))) (some (.int .i64 (b : Int))) none).run Tryz.prog w = .ok q w ∧
      (convert 51 9 q).run Tryz.prog w = .ok (.string ⟨((l.drop a).take (b - a)).toArray⟩) w := by
  have hl : l.length = n := by have := h.1; simpa using this
  have hr := run_slice_lh (P := Tryz.prog) (w := w) 51 p n cap (by kernel_rfl) .i64 .i64 (a : Int) (b : Int) (by omega) (by omega) (by omega)
  have hz : (sizeOf (Tryz.prog.elem 51)).run Tryz.prog w = .ok 1 w := by kernel_rfl
  rw [hz] at hr
  simp only [Result.andThen, Int.toNat_natCast] at hr
  refine ⟨_, hr, ?_⟩
  cases p with
  | none =>
    have h0 : n = 0 := by
      rcases h.2 with ⟨_, h0⟩ | ⟨g, c, cur, e, _⟩
      · exact h0
      · cases e
    have e : (l.drop a).take (b - a) = [] := by
      have : l = [] := List.length_eq_zero_iff.1 (by omega)
      rw [this]; simp
    have e2 : sliced none a b cap 1 = .slice none (b - a) (cap - a) := by unfold sliced; split <;> rfl
    rw [e, e2]
    exact run_convert_bytes_nil w 51 5 Tryz.underlying51 Tryz.underlying5 _ _ 9 Tryz.underlying9
  | some ad =>
    obtain ⟨g, rfl⟩ := hp ad rfl
    have hc : ∀ i, i < n → w.cell? ⟨g, i, none⟩ = (l.map bv)[i]? := fun i hi => h.cellAt i (by omega)
    obtain ⟨o, ho, hs⟩ : ∃ o, sliced (some ⟨g, 0, none⟩) a b cap 1 = .slice (some ⟨g, o, none⟩) (b - a) (cap - a) ∧ (o = a ∨ b = a) := by
      unfold sliced
      split
      · exact ⟨0, rfl, Or.inr (by omega)⟩
      · exact ⟨a, by simp [addr_of], Or.inl rfl⟩
    rw [ho]
    have hxs : ((l.drop a).take (b - a)).length = b - a := by simp; omega
    rw [← data_u8]
    refine run_convert_bytes_arg w 51 5 Tryz.underlying51 Tryz.underlying5 g o (b - a) (cap - a) _ (by simpa using hxs) (fun i hi => ?_) 9 Tryz.underlying9
    obtain rfl : o = a := by omega
    rw [hc _ (by omega)]
    have h1 : o + i < l.length := by omega
    simp [List.getD, h1, hi]
end Go.Proofs.YtlaepdpgegoopaaGreat
