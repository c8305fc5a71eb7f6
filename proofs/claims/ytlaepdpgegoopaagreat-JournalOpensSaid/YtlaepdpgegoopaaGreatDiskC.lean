
/- The contracts of disk: none, ready, find, loose, cut; Size, Read, Up, Starts. -/
import Derived.Test.YtlaepdpgegoopaaGreatDiskMem
import Derived.WalkSpells
import Derived.Deep.QuietTactic
import Derived.BigQuiet
set_option linter.unusedVariables false
namespace Go.Proofs.YtlaepdpgegoopaaGreat
open Go.ChangeShapes Go.WideShapes Go.ChangeAt Go.RowKit Go.Maps Csv Dk

theorem disk_cells {w : World} {d m : Nat} {k : Option (Nat × Option Nat)} {D : DiskM} (h : w.heap[d]? = some (.cells (diskCells m k D) tDk (0, 0))) :
    w.cell? ⟨d, 0, none⟩ = some (.int .i64 (D.cap : Int)) ∧ w.cell? ⟨d, 1, none⟩ = some (.map (some m)) ∧ w.cell? ⟨d, 2, none⟩ = some (.bool D.up) ∧ w.cell? ⟨d, 3, none⟩ = some (.int .i64 D.starts) ∧
    w.cell? ⟨d, 4, none⟩ = some (.pointer (k.map fun x => ⟨x.1, 0, none⟩)) ∧ ∀ i, w.frozen? ⟨d, i, none⟩ = false := by
  have c := fun i => Joins.cell_of_block h i
  exact ⟨c 0, c 1, c 2, c 3, c 4, fun i => Joins.unfrozen_of_block h i⟩
theorem DiskAt.cells {w : World} {d m : Nat} {L : List Ent} {k : Option (Nat × Option Nat)} {D : DiskM} (h : DiskAt w d m L k D) :
    w.cell? ⟨d, 0, none⟩ = some (.int .i64 (D.cap : Int)) ∧ w.cell? ⟨d, 1, none⟩ = some (.map (some m)) ∧ w.cell? ⟨d, 2, none⟩ = some (.bool D.up) ∧ w.cell? ⟨d, 3, none⟩ = some (.int .i64 D.starts) ∧
    w.cell? ⟨d, 4, none⟩ = some (.pointer (k.map fun x => ⟨x.1, 0, none⟩)) ∧ ∀ i, w.frozen? ⟨d, i, none⟩ = false := disk_cells h.disk

/-- A disk that is none: nil, or one that New did not make. -/
def NoDisk (w : World) (p : Option Addr) : Prop := p = none ∨ ∃ d, p = some ⟨d, 0, none⟩ ∧ w.cell? ⟨d, 1, none⟩ = some (.map none)
theorem NoDisk.keeps {w w' : World} {p : Option Addr} (h : NoDisk w p) (k : Keeps w w') : NoDisk w' p := by
  rcases h with h | ⟨d, h1, h2⟩
  · exact Or.inl h
  · exact Or.inr ⟨d, h1, cell_keeps k h2⟩

theorem map_nil : ∀ (w : World) (r : Option Nat), (binOp .eql 52 (.map r) (.map none)).run Tryz.prog w = .ok (.bool r.isNone) w := fun w r => run_eql_map_nil w _ _ _ r Tryz.underlying52
theorem none_yes (p : Option Addr) (w : World) (h : NoDisk w p) : Calls Tryz.prog 57 #[.pointer p] w fun e w' => e = .returned (.bool true) ∧ w = w' := by
  rcases h with rfl | ⟨d, rfl, hc⟩
  · go_enter Tryz.func57, Tryz.ntmps57
    go_wp2
    go_ret
    exact ⟨rfl, rfl⟩
  · have e1 := map_nil
    go_enter Tryz.func57, Tryz.ntmps57
    go_wp2
    go_ret
    exact ⟨rfl, rfl⟩
theorem none_no (d m : Nat) (L : List Ent) (k : Option (Nat × Option Nat)) (D : DiskM) (w : World) (h : DiskAt w d m L k D) : Calls Tryz.prog 57 #[ptrV d] w fun e w' => e = .returned (.bool false) ∧ w = w' := by
  obtain ⟨c0, c1, c2, c3, c4, fz⟩ := h.cells
  clear c0 c2 c3 c4 fz h
  have e1 := map_nil
  unfold ptrV
  go_enter Tryz.func57, Tryz.ntmps57
  go_wp2
  go_ret
  exact ⟨rfl, rfl⟩

/-! ### ready -/
theorem ready_none (p : Option Addr) (w : World) (h : NoDisk w p) : Calls Tryz.prog 22 #[.pointer p] w fun e w' => e = .returned (.int .i64 1) ∧ w = w' := by
  have c := none_yes p w h
  clear h
  go_enter Tryz.func22, Tryz.ntmps22
  go_wp2_with (go_at_call 57; refine c.mono ?_; rintro e w' ⟨rfl, rfl⟩)
  go_ret
  exact ⟨rfl, rfl⟩
theorem ready_at (d m : Nat) (L : List Ent) (k : Option (Nat × Option Nat)) (D : DiskM) (w : World) (h : DiskAt w d m L k D) : Calls Tryz.prog 22 #[ptrV d] w fun e w' => e = .returned (.int .i64 (if D.up = true then 0 else 61)) ∧ w = w' := by
  have c := none_no d m L k D w h
  obtain ⟨c0, c1, c2, c3, c4, fz⟩ := h.cells
  clear c0 c1 c3 c4 fz h
  unfold ptrV at *
  cases hu : D.up
  all_goals
    rw [hu] at c2
    go_enter Tryz.func22, Tryz.ntmps22
    go_wp2_with (go_at_call 57; refine c.mono ?_; rintro e w' ⟨rfl, rfl⟩)
    go_ret
    exact ⟨rfl, rfl⟩
theorem ready_up {d m : Nat} {L : List Ent} {k : Option (Nat × Option Nat)} {D : DiskM} {w : World} (h : DiskAt w d m L k D) (hu : D.up = true) : Calls Tryz.prog 22 #[ptrV d] w fun e w' => e = .returned (.int .i64 0) ∧ w = w' := by
  have c := ready_at d m L k D w h
  rwa [if_pos hu] at c
theorem ready_down {d m : Nat} {L : List Ent} {k : Option (Nat × Option Nat)} {D : DiskM} {w : World} (h : DiskAt w d m L k D) (hu : D.up = false) : Calls Tryz.prog 22 #[ptrV d] w fun e w' => e = .returned (.int .i64 61) ∧ w = w' := by
  have c := ready_at d m L k D w h
  rwa [if_neg (by rw [hu]; decide)] at c

/-! ### find -/
theorem look_at {d m : Nat} {L : List Ent} {k : Option (Nat × Option Nat)} {D : DiskM} {w : World} (h : DiskAt w d m L k D) {n : Int} (hn : I64 n) :
    (findF D.files n = none → (Instr.lookup tMp (.map (some m)) (.int .i64 n) false).run Tryz.prog w = .ok (.pointer none) w) ∧
    ∀ x, L.find? (fun x => x.1.n == n) = some x → (Instr.lookup tMp (.map (some m)) (.int .i64 n) false).run Tryz.prog w = .ok (ptrV x.2.blk) w := by
  obtain ⟨v, ps, hr, hv⟩ := h.map.lookup (t := tMp) (e := tPf) (int_keyed Tryz.underlying3) Tryz.underlying52 (z := .pointer none) (by kernel_rfl) (zd := .nil) (zp := []) (by simp [ptrR]) (key := .int .i64 n) (keyOf_int_mk Tryz.underlying3 (by unfold I64 top at hn; simp [Lit.wf, IntKind.min, IntKind.max, IntKind.signed, IntKind.bits]; omega))
  rw [mapD_at] at hv
  refine ⟨fun hf => ?_, fun x hx => ?_⟩
  · rw [find_no h hf] at hv
    rw [hr, ptrR_nil hv]
  · rw [hx] at hv
    rw [hr, ptrR_held hv]
theorem find_none (p : Option Addr) (n : Int) (w : World) (h : NoDisk w p) : Calls Tryz.prog 27 #[.pointer p, .int .i64 n] w fun e w' => e = .returned (.tuple #[.pointer none, .int .i64 1]) ∧ w = w' := by
  have c := ready_none p w h
  clear h
  go_enter Tryz.func27, Tryz.ntmps27
  go_wp2_with (go_at_call 22; refine c.mono ?_; rintro e w' ⟨rfl, rfl⟩)
  go_ret2
  exact ⟨rfl, rfl⟩
theorem find_down (d m : Nat) (L : List Ent) (k : Option (Nat × Option Nat)) (D : DiskM) (n : Int) (w : World) (h : DiskAt w d m L k D) (hu : D.up = false) : Calls Tryz.prog 27 #[ptrV d, .int .i64 n] w fun e w' => e = .returned (.tuple #[.pointer none, .int .i64 61]) ∧ w = w' := by
  have c := ready_down h hu
  clear h hu
  unfold ptrV at *
  go_enter Tryz.func27, Tryz.ntmps27
  go_wp2_with (go_at_call 22; refine c.mono ?_; rintro e w' ⟨rfl, rfl⟩)
  go_ret2
  exact ⟨rfl, rfl⟩
theorem find_nofile (d m : Nat) (L : List Ent) (k : Option (Nat × Option Nat)) (D : DiskM) (n : Int) (w : World) (h : DiskAt w d m L k D) (hn : I64 n) (hu : D.up = true) (hf : findF D.files n = none) : Calls Tryz.prog 27 #[ptrV d, .int .i64 n] w fun e w' => e = .returned (.tuple #[.pointer none, .int .i64 4]) ∧ w = w' := by
  have c := ready_up h hu
  have hl := (look_at h hn).1 hf
  obtain ⟨c0, c1, c2, c3, c4, fz⟩ := h.cells
  clear c0 c2 c3 c4 fz h hu hf hn
  unfold ptrV at *
  go_enter Tryz.func27, Tryz.ntmps27
  go_wp2_with (go_at_call 22; refine c.mono ?_; rintro e w' ⟨rfl, rfl⟩)
  go_ret2
  exact ⟨rfl, rfl⟩
theorem find_file (d m : Nat) (L : List Ent) (k : Option (Nat × Option Nat)) (D : DiskM) (n : Int) (x : Ent) (w : World) (h : DiskAt w d m L k D) (hn : I64 n) (hu : D.up = true) (hx : L.find? (fun x => x.1.n == n) = some x) : Calls Tryz.prog 27 #[ptrV d, .int .i64 n] w fun e w' => e = .returned (.tuple #[ptrV x.2.blk, .int .i64 0]) ∧ w = w' := by
  have c := ready_up h hu
  have hl := (look_at h hn).2 x hx
  obtain ⟨c0, c1, c2, c3, c4, fz⟩ := h.cells
  clear c0 c2 c3 c4 fz h hu hx hn
  unfold ptrV at *
  go_enter Tryz.func27, Tryz.ntmps27
  go_wp2_with (go_at_call 22; refine c.mono ?_; rintro e w' ⟨rfl, rfl⟩)
  go_ret2
  exact ⟨rfl, rfl⟩

/-! ### loose, cut -/
theorem FileAt.cells {w : World} {x : Ent} (h : FileAt w x) : ∃ p cap, w.cell? ⟨x.2.blk, 0, none⟩ = some (.slice p x.1.data.length cap) ∧ w.cell? ⟨x.2.blk, 1, none⟩ = some (.int .i64 (x.1.sure : Int)) ∧ (∀ i, w.frozen? ⟨x.2.blk, i, none⟩ = false) ∧ x.1.data.length ≤ cap ∧
    w.heap[x.2.blk]? = some (.cells #[.slice p x.1.data.length cap, .int .i64 (x.1.sure : Int)] tFl (0, 0)) ∧ w.ownsRow 0 tU8 1 (.slice p x.1.data.length cap) x.1.data.length (x.1.data.map bv) ∧ (Value.slice p x.1.data.length cap).ownBlock = x.2.row ∧ (p = none → x.1.data = [] ∧ cap = 0) ∧ cap ≤ maxLen ∧ (∀ a, p = some a → ∃ g, a = ⟨g, 0, none⟩) := by
  obtain ⟨v, h1, h2, h3⟩ := h
  have c := fun i => Joins.cell_of_block h1 i
  have f := fun i => Joins.unfrozen_of_block h1 i
  rcases h2.2 with ⟨rfl, h0⟩ | ⟨g, cap, cur, rfl, hb, hg, r1, r2, r3, r4⟩
  · have e : x.1.data = [] := List.length_eq_zero_iff.1 h0
    exact ⟨none, 0, by rw [h0]; exact c 0, c 1, f, by omega, by rw [h0]; exact h1, by rw [h0] at *; exact h2, by rw [← h3]; rfl, fun _ => ⟨e, rfl⟩, by simp [maxLen], fun a ha => by cases ha⟩
  · exact ⟨_, cap, c 0, c 1, f, r1, h1, h2, h3, (fun e => by cases e), r2, (fun a ha => by cases ha; exact ⟨g, rfl⟩)⟩
theorem own_take {w : World} {e : TypeId} {p : Option Addr} {n cap k : Nat} {xs : List Value} (h : w.ownsRow 0 e 1 (.slice p n cap) n xs) (hk : k ≤ n) : w.ownsRow 0 e 1 (.slice p k cap) k (xs.take k) := by
  obtain ⟨h1, h2⟩ := h
  refine ⟨by rw [List.length_take]; omega, ?_⟩
  rcases h2 with ⟨h2, rfl⟩ | ⟨g, c, cur, h2, hb, hg, r1, r2, r3, r4⟩
  · obtain rfl : k = 0 := by omega
    exact Or.inl ⟨h2, rfl⟩
  · cases h2
    exact Or.inr ⟨g, cap, cur, rfl, hb, hg, by omega, r2, r3, by rw [← r4, List.take_take]; congr 1; omega⟩

theorem loose_any (x : Ent) (w : World) (h : FileAt w x) (h1 : x.1.sure ≤ x.1.data.length) (h2 : x.1.data.length ≤ 1048576) : Calls Tryz.prog 66 #[ptrV x.2.blk] w fun e w' => e = .returned (.int .i64 (x.1.loose : Int)) ∧ ∃ n, w' = w.drewN n := by
  obtain ⟨p, cap, c0, c1, fz, hc, _⟩ := h.cells
  have e : (x.1.loose : Int) = (x.1.data.length : Int) - (x.1.sure : Int) := by unfold FileM.loose; omega
  rw [e]
  obtain ⟨N, hN⟩ : ∃ N, x.1.data.length = N := ⟨_, rfl⟩
  obtain ⟨S, hS⟩ : ∃ S, x.1.sure = S := ⟨_, rfl⟩
  obtain ⟨b, hb⟩ : ∃ b, x.2.blk = b := ⟨_, rfl⟩
  rw [hb, hN] at c0
  rw [hb, hS] at c1
  rw [hN, hS, hb]
  rw [hN] at h1 h2
  rw [hS] at h1
  clear fz hc e hN hS hb h
  unfold ptrV
  go_enter Tryz.func66, Tryz.ntmps66
  go_wp2
  go_quiet (fail)
  go_wp2
  go_ret
  exact ⟨rfl, _, rfl⟩
end Go.Proofs.YtlaepdpgegoopaaGreat
