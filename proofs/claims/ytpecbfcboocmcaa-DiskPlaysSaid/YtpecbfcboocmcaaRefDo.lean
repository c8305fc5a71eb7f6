
/- An act with both disks. -/
import Derived.Test.YtpecbfcboocmcaaRefSim
import Derived.Test.YtpecbfcboocmcaaRefMake2
import Derived.Test.YtpecbfcboocmcaaOpenActs
import Derived.Deep.RegionHeld3
set_option linter.unusedVariables false
namespace Go.Proofs.Ytpecbfcboocmcaa
open Go.ChangeShapes Go.WideShapes Go.ChangeAt Go.RowKit Go.Maps Csv Dk

def boxed (w : World) (cs : Array Value) : World := (w.alloc (.cells cs tAct)).drew
theorem boxed_keeps (w : World) (cs : Array Value) : Keeps w (boxed w cs) := (Below.refl _ w).alloc (Nat.le_refl _) _ |>.trans ⟨rfl, rfl, rfl, Nat.le_refl _, fun _ _ => rfl⟩
theorem boxed_block (w : World) (cs : Array Value) : (boxed w cs).heap[w.heap.size]? = some (.cells cs tAct (0, 0)) := heap_alloc_new w _
theorem boxed_size (w : World) (cs : Array Value) : (boxed w cs).heap.size = w.heap.size + 1 := by simp [boxed, World.drew]
theorem Pair.keeps {w w' : World} {d r : Nat} {D R : DiskM} {G GR : List Nat} (h : Pair w d r D R G GR) (k : Keeps w w') : Pair w' d r D R G GR := ⟨h.disk.keeps k, h.ref.keeps k, h.apart⟩
theorem pair_d {w w' : World} {d r : Nat} {D R D' : DiskM} {G GR : List Nat} (h : Pair w d r D R G GR) (g : Goes w w' G d D') : PGoes w w' G GR d r D' R := by
  obtain ⟨G', g1, g2, g3⟩ := g
  refine ⟨G', GR, ⟨g1, h.ref.local fun b hb => g2.block b (h.ref.lt b hb) fun hx => h.apart b hx hb, fun b hb hr => ?_⟩, g2.mono (fun x hx => by simp [hx]), fun b hb => ?_⟩
  · rcases g3 b hb with h1 | h1
    · exact h.apart b h1 hr
    · have := h.ref.lt b hr; omega
  · rcases List.mem_append.1 hb with hb | hb
    · rcases g3 b hb with h1 | h1
      · exact Or.inl (by simp [h1])
      · exact Or.inr h1
    · exact Or.inl (by simp [hb])
theorem pair_r {w w' : World} {d r : Nat} {D R R' : DiskM} {G GR : List Nat} (h : Pair w d r D R G GR) (g : RGoes w w' GR r R') : PGoes w w' G GR d r D R' := by
  obtain ⟨G', g1, g2, g3⟩ := g
  refine ⟨G, G', ⟨h.disk.local fun b hb => g2.block b (h.disk.lt b hb) fun hx => h.apart b hb hx, g1, fun b hb hr => ?_⟩, g2.mono (fun x hx => by simp [hx]), fun b hb => ?_⟩
  · rcases g3 b hr with h1 | h1
    · exact h.apart b hb h1
    · have := h.disk.lt b hb; omega
  · rcases List.mem_append.1 hb with hb | hb
    · exact Or.inl (by simp [hb])
    · rcases g3 b hb with h1 | h1
      · exact Or.inl (by simp [h1])
      · exact Or.inr h1
theorem PGoes.trans {a b c : World} {d r : Nat} {D R D' R' : DiskM} {G GR : List Nat} (h : PGoes a b G GR d r D R) (g : ∀ G' GR', Pair b d r D R G' GR' → PGoes b c G' GR' d r D' R') : PGoes a c G GR d r D' R' := by
  obtain ⟨G1, GR1, h1, h2, h3⟩ := h
  obtain ⟨G2, GR2, g1, g2, g3⟩ := g G1 GR1 h1
  refine ⟨G2, GR2, g1, h2.trans g2 h3, fun b hb => ?_⟩
  rcases g3 b hb with hb | hb
  · exact h3 b hb
  · exact Or.inr (Nat.le_trans h2.size hb)
theorem PGoes.step {a b c : World} {d r : Nat} {D' R' : DiskM} {G GR G1 GR1 : List Nat} (h2 : Frame (G ++ GR) a b) (h3 : ∀ x ∈ G1 ++ GR1, x ∈ G ++ GR ∨ a.heap.size ≤ x) (g : PGoes b c G1 GR1 d r D' R') : PGoes a c G GR d r D' R' := by
  obtain ⟨G2, GR2, g1, g2, g3⟩ := g
  refine ⟨G2, GR2, g1, h2.trans g2 h3, fun b hb => ?_⟩
  rcases g3 b hb with hb | hb
  · exact h3 b hb
  · exact Or.inr (Nat.le_trans h2.size hb)
theorem PGoes.from {w w1 w' : World} {d r : Nat} {D R : DiskM} {G GR : List Nat} (k : Keeps w w1) (h : PGoes w1 w' G GR d r D R) : PGoes w w' G GR d r D R := by
  obtain ⟨G1, GR1, h1, h2, h3⟩ := h
  refine ⟨G1, GR1, h1, (Frame.of_keeps k (G ++ GR)).trans h2 fun x hx => Or.inl hx, fun b hb => ?_⟩
  rcases h3 b hb with hb | hb
  · exact Or.inl hb
  · exact Or.inr (Nat.le_trans k.size hb)
theorem PGoes.same {w w' : World} {d r : Nat} {D R : DiskM} {G GR : List Nat} (h : Pair w d r D R G GR) (k : Keeps w w') : PGoes w w' G GR d r D R := ⟨G, GR, h.keeps k, Frame.of_keeps k _, fun b hb => Or.inl hb⟩
/-- The first of two calls. -/
theorem pair_one {f : Nat} {av : Array Value} {w : World} {d r : Nat} {D R D1 : DiskM} {G GR : List Nat} {q : Int} (h : Pair w d r D R G GR) (cs : Array Value) (hc : ∀ W, Keeps w W → IsDisk W d D G → Calls Try.prog f av W fun e w' => e = .returned (.int .i64 q) ∧ Goes W w' G d D1) :
    Calls Try.prog f av (boxed w cs) fun e w' => e = .returned (.int .i64 q) ∧ PGoes (boxed w cs) w' G GR d r D1 R ∧ Frame (G ++ GR) w w' ∧ w'.heap[w.heap.size]? = some (.cells cs tAct (0, 0)) := by
  have k := boxed_keeps w cs
  refine (hc _ k (h.disk.keeps k)).mono ?_
  rintro e w' ⟨rfl, hg⟩
  have hp := pair_d (h.keeps k) hg
  obtain ⟨G', g1, g2, g3⟩ := hg
  refine ⟨rfl, hp, (Frame.of_keeps k (G ++ GR)).trans (g2.mono (G1 := G ++ GR) fun x hx => by simp [hx]) fun x hx => Or.inl hx, ?_⟩
  rw [g2.block _ (by rw [boxed_size]; omega) (fun hx => by have := h.disk.lt _ hx; omega), boxed_block]
/-- The second. -/
theorem pair_two {f : Nat} {av : Array Value} {w w1 : World} {d r : Nat} {D R D1 R1 : DiskM} {G GR : List Nat} {q : Int} (h : Pair w d r D R G GR) (cs : Array Value) (hp : PGoes (boxed w cs) w1 G GR d r D1 R) (hf : Frame (G ++ GR) w w1) (hX : w1.heap[w.heap.size]? = some (.cells cs tAct (0, 0)))
    (hc : ∀ W GR', Frame (G ++ GR) w W → IsRef W r R GR' → Calls Try.prog f av W fun e w' => e = .returned (.int .i64 q) ∧ RGoes W w' GR' r R1) :
    Calls Try.prog f av w1 fun e w' => e = .returned (.int .i64 q) ∧ PGoes w w' G GR d r D1 R1 ∧ w'.heap[w.heap.size]? = some (.cells cs tAct (0, 0)) := by
  have k := boxed_keeps w cs
  obtain ⟨G1, GR1, p1, p2, p3⟩ := hp
  refine (hc w1 GR1 hf p1.ref).mono ?_
  rintro e w' ⟨rfl, hg⟩
  have hl := block_lt hX
  refine ⟨rfl, PGoes.from k (PGoes.step p2 p3 (pair_r p1 hg)), ?_⟩
  obtain ⟨G', g1, g2, g3⟩ := hg
  rw [g2.block _ hl (fun hx => by
    rcases p3 _ (List.mem_append_right _ hx) with hb | hb
    · rcases List.mem_append.1 hb with hb | hb
      · have := h.disk.lt _ hb; omega
      · have := h.ref.lt _ hb; omega
    · rw [boxed_size] at hb; omega), hX]

set_option maxRecDepth 100000 in
set_option maxHeartbeats 2000000 in
theorem do_k0 (kind : Nat) (n at_ size : Int) (s : ByteArray) (kv : Value) (ks : List Int) (d r : Nat) (D R : DiskM) (G GR : List Nat) (w : World) (h : Pair w d r D R G GR) (hq : (kind : Int) % 14 = 0) (hn : I64 n) (ha : I64 at_) (hz : I64 size) (hsz : s.size ≤ maxLen) (hst : Stable (G ++ GR) w kv ks) (hkv : ∀ p m c, kv = .slice p m c → m ≤ c) (hkn : ∀ m c, kv = .slice none m c → c = 0) (hkl : ks.length ≤ 100) (hs : (createD D n).1 = (createD R n).1) :
    Calls Try.prog 8 #[.agg #[.int .u8 (kind : Int), .int .i64 n, .int .i64 at_, .int .i64 size, .string s, kv], ptrV d, ptrV r] w fun e w' => e = .returned (.bool true) ∧ PGoes w w' G GR d r (createD D n).2 (createD R n).2 := by
  have C1 := Lib.hid (pair_one (q := (createD D n).1) (D1 := (createD D n).2) h #[.int .u8 (kind : Int), .int .i64 n, .int .i64 at_, .int .i64 size, .string s, kv] fun W k hd => createD_any d D G n W hd hn)
  have C2 : Hid (∀ w1, PGoes (boxed w #[.int .u8 (kind : Int), .int .i64 n, .int .i64 at_, .int .i64 size, .string s, kv]) w1 G GR d r (createD D n).2 R → Frame (G ++ GR) w w1 → w1.heap[w.heap.size]? = some (.cells #[.int .u8 (kind : Int), .int .i64 n, .int .i64 at_, .int .i64 size, .string s, kv] tAct (0, 0)) → _) := Lib.hid fun w1 a b c => pair_two (q := (createD D n).1) (R1 := (createD R n).2) h _ a b c fun W GR' hf hr => by rw [hs]; exact rcreate_any r R GR' n W hr hn
  generalize (createD D n).1 = q at *
  generalize (createD D n).2 = D1 at *
  generalize (createD R n).2 = R1 at *
  unfold ptrV boxed at *
  clear hs h hn ha hz hsz hst hkv hkn hkl
  go_enter Try.func8, Try.ntmps8
  go_wp2
  go_region_held3 (fun W => W.cell? ⟨w.heap.size, 1, none⟩ = some (.int .i64 n)) (first | assumption | go_keep) (first
    | (go_at_call 13; refine C1.out.mono ?_; rintro e w1 ⟨rfl, ha, hb, hx⟩; have x1 : w1.cell? ⟨w.heap.size, 1, none⟩ = some (.int .i64 n) := Joins.cell_of_block hx 1)
    | (go_at_call 23; refine (C2.out w1 ha hb hx).mono ?_; rintro e w2 ⟨rfl, hp, hy⟩; have y1 : w2.cell? ⟨w.heap.size, 1, none⟩ = some (.int .i64 n) := Joins.cell_of_block hy 1))
  go_wp2
  go_ret
  exact ⟨rfl, hp⟩

set_option maxRecDepth 100000 in
set_option maxHeartbeats 2000000 in
theorem do_k1 (kind : Nat) (n at_ size : Int) (s : ByteArray) (kv : Value) (ks : List Int) (d r : Nat) (D R : DiskM) (G GR : List Nat) (w : World) (h : Pair w d r D R G GR) (hq : (kind : Int) % 14 = 1) (hn : I64 n) (ha : I64 at_) (hz : I64 size) (hsz : s.size ≤ maxLen) (hst : Stable (G ++ GR) w kv ks) (hkv : ∀ p m c, kv = .slice p m c → m ≤ c) (hkn : ∀ m c, kv = .slice none m c → c = 0) (hkl : ks.length ≤ 100) (hs : (appendD D n s.data.toList).1 = (appendD R n s.data.toList).1) :
    Calls Try.prog 8 #[.agg #[.int .u8 (kind : Int), .int .i64 n, .int .i64 at_, .int .i64 size, .string s, kv], ptrV d, ptrV r] w fun e w' => e = .returned (.bool true) ∧ PGoes w w' G GR d r (appendD D n s.data.toList).2 (appendD R n s.data.toList).2 := by
  have C1 := Lib.hid (pair_one (q := (appendD D n s.data.toList).1) (D1 := (appendD D n s.data.toList).2) h #[.int .u8 (kind : Int), .int .i64 n, .int .i64 at_, .int .i64 size, .string s, kv] fun W k hd => append_any d D G n s W hd hn hsz)
  have C2 : Hid (∀ w1, PGoes (boxed w #[.int .u8 (kind : Int), .int .i64 n, .int .i64 at_, .int .i64 size, .string s, kv]) w1 G GR d r (appendD D n s.data.toList).2 R → Frame (G ++ GR) w w1 → w1.heap[w.heap.size]? = some (.cells #[.int .u8 (kind : Int), .int .i64 n, .int .i64 at_, .int .i64 size, .string s, kv] tAct (0, 0)) → _) := Lib.hid fun w1 a b c => pair_two (q := (appendD D n s.data.toList).1) (R1 := (appendD R n s.data.toList).2) h _ a b c fun W GR' hf hr => by rw [hs]; exact rappend_any r R GR' n s W hr hsz
  generalize (appendD D n s.data.toList).1 = q at *
  generalize (appendD D n s.data.toList).2 = D1 at *
  generalize (appendD R n s.data.toList).2 = R1 at *
  unfold ptrV boxed at *
  clear hs h hn ha hz hsz hst hkv hkn hkl
  go_enter Try.func8, Try.ntmps8
  go_wp2
  go_region_held3 (fun W => W.cell? ⟨w.heap.size, 1, none⟩ = some (.int .i64 n) ∧ W.cell? ⟨w.heap.size, 4, none⟩ = some (.string s)) (first | assumption | go_keep) (first
    | (go_at_call 14; refine C1.out.mono ?_; rintro e w1 ⟨rfl, ha, hb, hx⟩; have x1 : w1.cell? ⟨w.heap.size, 1, none⟩ = some (.int .i64 n) := Joins.cell_of_block hx 1; have x4 : w1.cell? ⟨w.heap.size, 4, none⟩ = some (.string s) := Joins.cell_of_block hx 4)
    | (go_at_call 32; refine (C2.out w1 ha hb hx).mono ?_; rintro e w2 ⟨rfl, hp, hy⟩; have y1 : w2.cell? ⟨w.heap.size, 1, none⟩ = some (.int .i64 n) := Joins.cell_of_block hy 1; have y4 : w2.cell? ⟨w.heap.size, 4, none⟩ = some (.string s) := Joins.cell_of_block hy 4))
  go_wp2
  go_ret
  exact ⟨rfl, hp⟩

set_option maxRecDepth 100000 in
set_option maxHeartbeats 2000000 in
theorem do_k2 (kind : Nat) (n at_ size : Int) (s : ByteArray) (kv : Value) (ks : List Int) (d r : Nat) (D R : DiskM) (G GR : List Nat) (w : World) (h : Pair w d r D R G GR) (hq : (kind : Int) % 14 = 2) (hn : I64 n) (ha : I64 at_) (hz : I64 size) (hsz : s.size ≤ maxLen) (hst : Stable (G ++ GR) w kv ks) (hkv : ∀ p m c, kv = .slice p m c → m ≤ c) (hkn : ∀ m c, kv = .slice none m c → c = 0) (hkl : ks.length ≤ 100) (hs : (appendD D n s.data.toList).1 = (appendD R n s.data.toList).1) :
    Calls Try.prog 8 #[.agg #[.int .u8 (kind : Int), .int .i64 n, .int .i64 at_, .int .i64 size, .string s, kv], ptrV d, ptrV r] w fun e w' => e = .returned (.bool true) ∧ PGoes w w' G GR d r (appendD D n s.data.toList).2 (appendD R n s.data.toList).2 := by
  have C1 := Lib.hid (pair_one (q := (appendD D n s.data.toList).1) (D1 := (appendD D n s.data.toList).2) h #[.int .u8 (kind : Int), .int .i64 n, .int .i64 at_, .int .i64 size, .string s, kv] fun W k hd => append_any d D G n s W hd hn hsz)
  have C2 : Hid (∀ w1, PGoes (boxed w #[.int .u8 (kind : Int), .int .i64 n, .int .i64 at_, .int .i64 size, .string s, kv]) w1 G GR d r (appendD D n s.data.toList).2 R → Frame (G ++ GR) w w1 → w1.heap[w.heap.size]? = some (.cells #[.int .u8 (kind : Int), .int .i64 n, .int .i64 at_, .int .i64 size, .string s, kv] tAct (0, 0)) → _) := Lib.hid fun w1 a b c => pair_two (q := (appendD D n s.data.toList).1) (R1 := (appendD R n s.data.toList).2) h _ a b c fun W GR' hf hr => by rw [hs]; exact rappend_any r R GR' n s W hr hsz
  generalize (appendD D n s.data.toList).1 = q at *
  generalize (appendD D n s.data.toList).2 = D1 at *
  generalize (appendD R n s.data.toList).2 = R1 at *
  unfold ptrV boxed at *
  clear hs h hn ha hz hsz hst hkv hkn hkl
  go_enter Try.func8, Try.ntmps8
  go_wp2
  go_region_held3 (fun W => W.cell? ⟨w.heap.size, 1, none⟩ = some (.int .i64 n) ∧ W.cell? ⟨w.heap.size, 4, none⟩ = some (.string s)) (first | assumption | go_keep) (first
    | (go_at_call 14; refine C1.out.mono ?_; rintro e w1 ⟨rfl, ha, hb, hx⟩; have x1 : w1.cell? ⟨w.heap.size, 1, none⟩ = some (.int .i64 n) := Joins.cell_of_block hx 1; have x4 : w1.cell? ⟨w.heap.size, 4, none⟩ = some (.string s) := Joins.cell_of_block hx 4)
    | (go_at_call 32; refine (C2.out w1 ha hb hx).mono ?_; rintro e w2 ⟨rfl, hp, hy⟩; have y1 : w2.cell? ⟨w.heap.size, 1, none⟩ = some (.int .i64 n) := Joins.cell_of_block hy 1; have y4 : w2.cell? ⟨w.heap.size, 4, none⟩ = some (.string s) := Joins.cell_of_block hy 4))
  go_wp2
  go_ret
  exact ⟨rfl, hp⟩

set_option maxRecDepth 100000 in
set_option maxHeartbeats 2000000 in
theorem do_k3 (kind : Nat) (n at_ size : Int) (s : ByteArray) (kv : Value) (ks : List Int) (d r : Nat) (D R : DiskM) (G GR : List Nat) (w : World) (h : Pair w d r D R G GR) (hq : (kind : Int) % 14 = 3) (hn : I64 n) (ha : I64 at_) (hz : I64 size) (hsz : s.size ≤ maxLen) (hst : Stable (G ++ GR) w kv ks) (hkv : ∀ p m c, kv = .slice p m c → m ≤ c) (hkn : ∀ m c, kv = .slice none m c → c = 0) (hkl : ks.length ≤ 100) (hs : (appendD D n s.data.toList).1 = (appendD R n s.data.toList).1) :
    Calls Try.prog 8 #[.agg #[.int .u8 (kind : Int), .int .i64 n, .int .i64 at_, .int .i64 size, .string s, kv], ptrV d, ptrV r] w fun e w' => e = .returned (.bool true) ∧ PGoes w w' G GR d r (appendD D n s.data.toList).2 (appendD R n s.data.toList).2 := by
  have C1 := Lib.hid (pair_one (q := (appendD D n s.data.toList).1) (D1 := (appendD D n s.data.toList).2) h #[.int .u8 (kind : Int), .int .i64 n, .int .i64 at_, .int .i64 size, .string s, kv] fun W k hd => append_any d D G n s W hd hn hsz)
  have C2 : Hid (∀ w1, PGoes (boxed w #[.int .u8 (kind : Int), .int .i64 n, .int .i64 at_, .int .i64 size, .string s, kv]) w1 G GR d r (appendD D n s.data.toList).2 R → Frame (G ++ GR) w w1 → w1.heap[w.heap.size]? = some (.cells #[.int .u8 (kind : Int), .int .i64 n, .int .i64 at_, .int .i64 size, .string s, kv] tAct (0, 0)) → _) := Lib.hid fun w1 a b c => pair_two (q := (appendD D n s.data.toList).1) (R1 := (appendD R n s.data.toList).2) h _ a b c fun W GR' hf hr => by rw [hs]; exact rappend_any r R GR' n s W hr hsz
  generalize (appendD D n s.data.toList).1 = q at *
  generalize (appendD D n s.data.toList).2 = D1 at *
  generalize (appendD R n s.data.toList).2 = R1 at *
  unfold ptrV boxed at *
  clear hs h hn ha hz hsz hst hkv hkn hkl
  go_enter Try.func8, Try.ntmps8
  go_wp2
  go_region_held3 (fun W => W.cell? ⟨w.heap.size, 1, none⟩ = some (.int .i64 n) ∧ W.cell? ⟨w.heap.size, 4, none⟩ = some (.string s)) (first | assumption | go_keep) (first
    | (go_at_call 14; refine C1.out.mono ?_; rintro e w1 ⟨rfl, ha, hb, hx⟩; have x1 : w1.cell? ⟨w.heap.size, 1, none⟩ = some (.int .i64 n) := Joins.cell_of_block hx 1; have x4 : w1.cell? ⟨w.heap.size, 4, none⟩ = some (.string s) := Joins.cell_of_block hx 4)
    | (go_at_call 32; refine (C2.out w1 ha hb hx).mono ?_; rintro e w2 ⟨rfl, hp, hy⟩; have y1 : w2.cell? ⟨w.heap.size, 1, none⟩ = some (.int .i64 n) := Joins.cell_of_block hy 1; have y4 : w2.cell? ⟨w.heap.size, 4, none⟩ = some (.string s) := Joins.cell_of_block hy 4))
  go_wp2
  go_ret
  exact ⟨rfl, hp⟩

set_option maxRecDepth 100000 in
set_option maxHeartbeats 2000000 in
theorem do_k5 (kind : Nat) (n at_ size : Int) (s : ByteArray) (kv : Value) (ks : List Int) (d r : Nat) (D R : DiskM) (G GR : List Nat) (w : World) (h : Pair w d r D R G GR) (hq : (kind : Int) % 14 = 5) (hn : I64 n) (ha : I64 at_) (hz : I64 size) (hsz : s.size ≤ maxLen) (hst : Stable (G ++ GR) w kv ks) (hkv : ∀ p m c, kv = .slice p m c → m ≤ c) (hkn : ∀ m c, kv = .slice none m c → c = 0) (hkl : ks.length ≤ 100) (hs : (syncD D n).1 = (syncD R n).1) :
    Calls Try.prog 8 #[.agg #[.int .u8 (kind : Int), .int .i64 n, .int .i64 at_, .int .i64 size, .string s, kv], ptrV d, ptrV r] w fun e w' => e = .returned (.bool true) ∧ PGoes w w' G GR d r (syncD D n).2 (syncD R n).2 := by
  have C1 := Lib.hid (pair_one (q := (syncD D n).1) (D1 := (syncD D n).2) h #[.int .u8 (kind : Int), .int .i64 n, .int .i64 at_, .int .i64 size, .string s, kv] fun W k hd => sync_any d D G n W hd hn)
  have C2 : Hid (∀ w1, PGoes (boxed w #[.int .u8 (kind : Int), .int .i64 n, .int .i64 at_, .int .i64 size, .string s, kv]) w1 G GR d r (syncD D n).2 R → Frame (G ++ GR) w w1 → w1.heap[w.heap.size]? = some (.cells #[.int .u8 (kind : Int), .int .i64 n, .int .i64 at_, .int .i64 size, .string s, kv] tAct (0, 0)) → _) := Lib.hid fun w1 a b c => pair_two (q := (syncD D n).1) (R1 := (syncD R n).2) h _ a b c fun W GR' hf hr => by rw [hs]; exact rsync_any r R GR' n W hr
  generalize (syncD D n).1 = q at *
  generalize (syncD D n).2 = D1 at *
  generalize (syncD R n).2 = R1 at *
  unfold ptrV boxed at *
  clear hs h hn ha hz hsz hst hkv hkn hkl
  go_enter Try.func8, Try.ntmps8
  go_wp2
  go_region_held3 (fun W => W.cell? ⟨w.heap.size, 1, none⟩ = some (.int .i64 n)) (first | assumption | go_keep) (first
    | (go_at_call 17; refine C1.out.mono ?_; rintro e w1 ⟨rfl, ha, hb, hx⟩; have x1 : w1.cell? ⟨w.heap.size, 1, none⟩ = some (.int .i64 n) := Joins.cell_of_block hx 1)
    | (go_at_call 25; refine (C2.out w1 ha hb hx).mono ?_; rintro e w2 ⟨rfl, hp, hy⟩; have y1 : w2.cell? ⟨w.heap.size, 1, none⟩ = some (.int .i64 n) := Joins.cell_of_block hy 1))
  go_wp2
  go_ret
  exact ⟨rfl, hp⟩

set_option maxRecDepth 100000 in
set_option maxHeartbeats 2000000 in
theorem do_k6 (kind : Nat) (n at_ size : Int) (s : ByteArray) (kv : Value) (ks : List Int) (d r : Nat) (D R : DiskM) (G GR : List Nat) (w : World) (h : Pair w d r D R G GR) (hq : (kind : Int) % 14 = 6) (hn : I64 n) (ha : I64 at_) (hz : I64 size) (hsz : s.size ≤ maxLen) (hst : Stable (G ++ GR) w kv ks) (hkv : ∀ p m c, kv = .slice p m c → m ≤ c) (hkn : ∀ m c, kv = .slice none m c → c = 0) (hkl : ks.length ≤ 100) (hs : (syncD D n).1 = (syncD R n).1) :
    Calls Try.prog 8 #[.agg #[.int .u8 (kind : Int), .int .i64 n, .int .i64 at_, .int .i64 size, .string s, kv], ptrV d, ptrV r] w fun e w' => e = .returned (.bool true) ∧ PGoes w w' G GR d r (syncD D n).2 (syncD R n).2 := by
  have C1 := Lib.hid (pair_one (q := (syncD D n).1) (D1 := (syncD D n).2) h #[.int .u8 (kind : Int), .int .i64 n, .int .i64 at_, .int .i64 size, .string s, kv] fun W k hd => sync_any d D G n W hd hn)
  have C2 : Hid (∀ w1, PGoes (boxed w #[.int .u8 (kind : Int), .int .i64 n, .int .i64 at_, .int .i64 size, .string s, kv]) w1 G GR d r (syncD D n).2 R → Frame (G ++ GR) w w1 → w1.heap[w.heap.size]? = some (.cells #[.int .u8 (kind : Int), .int .i64 n, .int .i64 at_, .int .i64 size, .string s, kv] tAct (0, 0)) → _) := Lib.hid fun w1 a b c => pair_two (q := (syncD D n).1) (R1 := (syncD R n).2) h _ a b c fun W GR' hf hr => by rw [hs]; exact rsync_any r R GR' n W hr
  generalize (syncD D n).1 = q at *
  generalize (syncD D n).2 = D1 at *
  generalize (syncD R n).2 = R1 at *
  unfold ptrV boxed at *
  clear hs h hn ha hz hsz hst hkv hkn hkl
  go_enter Try.func8, Try.ntmps8
  go_wp2
  go_region_held3 (fun W => W.cell? ⟨w.heap.size, 1, none⟩ = some (.int .i64 n)) (first | assumption | go_keep) (first
    | (go_at_call 17; refine C1.out.mono ?_; rintro e w1 ⟨rfl, ha, hb, hx⟩; have x1 : w1.cell? ⟨w.heap.size, 1, none⟩ = some (.int .i64 n) := Joins.cell_of_block hx 1)
    | (go_at_call 25; refine (C2.out w1 ha hb hx).mono ?_; rintro e w2 ⟨rfl, hp, hy⟩; have y1 : w2.cell? ⟨w.heap.size, 1, none⟩ = some (.int .i64 n) := Joins.cell_of_block hy 1))
  go_wp2
  go_ret
  exact ⟨rfl, hp⟩

set_option maxRecDepth 100000 in
set_option maxHeartbeats 2000000 in
theorem do_k7 (kind : Nat) (n at_ size : Int) (s : ByteArray) (kv : Value) (ks : List Int) (d r : Nat) (D R : DiskM) (G GR : List Nat) (w : World) (h : Pair w d r D R G GR) (hq : (kind : Int) % 14 = 7) (hn : I64 n) (ha : I64 at_) (hz : I64 size) (hsz : s.size ≤ maxLen) (hst : Stable (G ++ GR) w kv ks) (hkv : ∀ p m c, kv = .slice p m c → m ≤ c) (hkn : ∀ m c, kv = .slice none m c → c = 0) (hkl : ks.length ≤ 100) (hs : (truncD D n size).1 = (truncD R n size).1) :
    Calls Try.prog 8 #[.agg #[.int .u8 (kind : Int), .int .i64 n, .int .i64 at_, .int .i64 size, .string s, kv], ptrV d, ptrV r] w fun e w' => e = .returned (.bool true) ∧ PGoes w w' G GR d r (truncD D n size).2 (truncD R n size).2 := by
  have C1 := Lib.hid (pair_one (q := (truncD D n size).1) (D1 := (truncD D n size).2) h #[.int .u8 (kind : Int), .int .i64 n, .int .i64 at_, .int .i64 size, .string s, kv] fun W k hd => trunc_any d D G n size W hd hn hz)
  have C2 : Hid (∀ w1, PGoes (boxed w #[.int .u8 (kind : Int), .int .i64 n, .int .i64 at_, .int .i64 size, .string s, kv]) w1 G GR d r (truncD D n size).2 R → Frame (G ++ GR) w w1 → w1.heap[w.heap.size]? = some (.cells #[.int .u8 (kind : Int), .int .i64 n, .int .i64 at_, .int .i64 size, .string s, kv] tAct (0, 0)) → _) := Lib.hid fun w1 a b c => pair_two (q := (truncD D n size).1) (R1 := (truncD R n size).2) h _ a b c fun W GR' hf hr => by rw [hs]; exact rtrunc_any r R GR' n size W hr hz
  generalize (truncD D n size).1 = q at *
  generalize (truncD D n size).2 = D1 at *
  generalize (truncD R n size).2 = R1 at *
  unfold ptrV boxed at *
  clear hs h hn ha hz hsz hst hkv hkn hkl
  go_enter Try.func8, Try.ntmps8
  go_wp2
  go_region_held3 (fun W => W.cell? ⟨w.heap.size, 1, none⟩ = some (.int .i64 n) ∧ W.cell? ⟨w.heap.size, 3, none⟩ = some (.int .i64 size)) (first | assumption | go_keep) (first
    | (go_at_call 20; refine C1.out.mono ?_; rintro e w1 ⟨rfl, ha, hb, hx⟩; have x1 : w1.cell? ⟨w.heap.size, 1, none⟩ = some (.int .i64 n) := Joins.cell_of_block hx 1; have x3 : w1.cell? ⟨w.heap.size, 3, none⟩ = some (.int .i64 size) := Joins.cell_of_block hx 3)
    | (go_at_call 26; refine (C2.out w1 ha hb hx).mono ?_; rintro e w2 ⟨rfl, hp, hy⟩; have y1 : w2.cell? ⟨w.heap.size, 1, none⟩ = some (.int .i64 n) := Joins.cell_of_block hy 1; have y3 : w2.cell? ⟨w.heap.size, 3, none⟩ = some (.int .i64 size) := Joins.cell_of_block hy 3))
  go_wp2
  go_ret
  exact ⟨rfl, hp⟩

set_option maxRecDepth 100000 in
set_option maxHeartbeats 2000000 in
theorem do_k8 (kind : Nat) (n at_ size : Int) (s : ByteArray) (kv : Value) (ks : List Int) (d r : Nat) (D R : DiskM) (G GR : List Nat) (w : World) (h : Pair w d r D R G GR) (hq : (kind : Int) % 14 = 8) (hn : I64 n) (ha : I64 at_) (hz : I64 size) (hsz : s.size ≤ maxLen) (hst : Stable (G ++ GR) w kv ks) (hkv : ∀ p m c, kv = .slice p m c → m ≤ c) (hkn : ∀ m c, kv = .slice none m c → c = 0) (hkl : ks.length ≤ 100) (hs : (deleteD D n).1 = (deleteD R n).1) :
    Calls Try.prog 8 #[.agg #[.int .u8 (kind : Int), .int .i64 n, .int .i64 at_, .int .i64 size, .string s, kv], ptrV d, ptrV r] w fun e w' => e = .returned (.bool true) ∧ PGoes w w' G GR d r (deleteD D n).2 (deleteD R n).2 := by
  have C1 := Lib.hid (pair_one (q := (deleteD D n).1) (D1 := (deleteD D n).2) h #[.int .u8 (kind : Int), .int .i64 n, .int .i64 at_, .int .i64 size, .string s, kv] fun W k hd => deleteD_any d D G n W hd hn)
  have C2 : Hid (∀ w1, PGoes (boxed w #[.int .u8 (kind : Int), .int .i64 n, .int .i64 at_, .int .i64 size, .string s, kv]) w1 G GR d r (deleteD D n).2 R → Frame (G ++ GR) w w1 → w1.heap[w.heap.size]? = some (.cells #[.int .u8 (kind : Int), .int .i64 n, .int .i64 at_, .int .i64 size, .string s, kv] tAct (0, 0)) → _) := Lib.hid fun w1 a b c => pair_two (q := (deleteD D n).1) (R1 := (deleteD R n).2) h _ a b c fun W GR' hf hr => by rw [hs]; exact rdelete_any r R GR' n W hr
  generalize (deleteD D n).1 = q at *
  generalize (deleteD D n).2 = D1 at *
  generalize (deleteD R n).2 = R1 at *
  unfold ptrV boxed at *
  clear hs h hn ha hz hsz hst hkv hkn hkl
  go_enter Try.func8, Try.ntmps8
  go_wp2
  go_region_held3 (fun W => W.cell? ⟨w.heap.size, 1, none⟩ = some (.int .i64 n)) (first | assumption | go_keep) (first
    | (go_at_call 27; refine C1.out.mono ?_; rintro e w1 ⟨rfl, ha, hb, hx⟩; have x1 : w1.cell? ⟨w.heap.size, 1, none⟩ = some (.int .i64 n) := Joins.cell_of_block hx 1)
    | (go_at_call 28; refine (C2.out w1 ha hb hx).mono ?_; rintro e w2 ⟨rfl, hp, hy⟩; have y1 : w2.cell? ⟨w.heap.size, 1, none⟩ = some (.int .i64 n) := Joins.cell_of_block hy 1))
  go_wp2
  go_ret
  exact ⟨rfl, hp⟩

set_option maxRecDepth 100000 in
set_option maxHeartbeats 2000000 in
theorem do_k10 (kind : Nat) (n at_ size : Int) (s : ByteArray) (kv : Value) (ks : List Int) (d r : Nat) (D R : DiskM) (G GR : List Nat) (w : World) (h : Pair w d r D R G GR) (hq : (kind : Int) % 14 = 10) (hn : I64 n) (ha : I64 at_) (hz : I64 size) (hsz : s.size ≤ maxLen) (hst : Stable (G ++ GR) w kv ks) (hkv : ∀ p m c, kv = .slice p m c → m ≤ c) (hkn : ∀ m c, kv = .slice none m c → c = 0) (hkl : ks.length ≤ 100) (hs : (crashD D ks).1 = (crashD R ks).1) :
    Calls Try.prog 8 #[.agg #[.int .u8 (kind : Int), .int .i64 n, .int .i64 at_, .int .i64 size, .string s, kv], ptrV d, ptrV r] w fun e w' => e = .returned (.bool true) ∧ PGoes w w' G GR d r (crashD D ks).2 (crashD R ks).2 := by
  have C1 := Lib.hid (pair_one (q := (crashD D ks).1) (D1 := (crashD D ks).2) h #[.int .u8 (kind : Int), .int .i64 n, .int .i64 at_, .int .i64 size, .string s, kv] fun W k hd => crash_any d D G kv ks W hd fun w' hf => hst w' ((Frame.of_keeps k (G ++ GR)).trans hf fun x hx => Or.inl (by simp [hx])))
  have C2 : Hid (∀ w1, PGoes (boxed w #[.int .u8 (kind : Int), .int .i64 n, .int .i64 at_, .int .i64 size, .string s, kv]) w1 G GR d r (crashD D ks).2 R → Frame (G ++ GR) w w1 → w1.heap[w.heap.size]? = some (.cells #[.int .u8 (kind : Int), .int .i64 n, .int .i64 at_, .int .i64 size, .string s, kv] tAct (0, 0)) → _) := Lib.hid fun w1 a b c => pair_two (q := (crashD D ks).1) (R1 := (crashD R ks).2) h _ a b c fun W GR' hf hr => by rw [hs]; exact rcrashd_any r R GR' kv ks W hr (hst W hf)
  generalize (crashD D ks).1 = q at *
  generalize (crashD D ks).2 = D1 at *
  generalize (crashD R ks).2 = R1 at *
  unfold ptrV boxed at *
  clear hs h hn ha hz hsz hst hkv hkn hkl
  go_enter Try.func8, Try.ntmps8
  go_wp2
  go_region_held3 (fun W => W.cell? ⟨w.heap.size, 5, none⟩ = some (kv)) (first | assumption | go_keep) (first
    | (go_at_call 18; refine C1.out.mono ?_; rintro e w1 ⟨rfl, ha, hb, hx⟩; have x5 : w1.cell? ⟨w.heap.size, 5, none⟩ = some (kv) := Joins.cell_of_block hx 5)
    | (go_at_call 30; refine (C2.out w1 ha hb hx).mono ?_; rintro e w2 ⟨rfl, hp, hy⟩; have y5 : w2.cell? ⟨w.heap.size, 5, none⟩ = some (kv) := Joins.cell_of_block hy 5))
  go_wp2
  go_ret
  exact ⟨rfl, hp⟩

set_option maxRecDepth 100000 in
set_option maxHeartbeats 2000000 in
theorem do_k13 (kind : Nat) (n at_ size : Int) (s : ByteArray) (kv : Value) (ks : List Int) (d r : Nat) (D R : DiskM) (G GR : List Nat) (w : World) (h : Pair w d r D R G GR) (hq : (kind : Int) % 14 = 13) (hn : I64 n) (ha : I64 at_) (hz : I64 size) (hsz : s.size ≤ maxLen) (hst : Stable (G ++ GR) w kv ks) (hkv : ∀ p m c, kv = .slice p m c → m ≤ c) (hkn : ∀ m c, kv = .slice none m c → c = 0) (hkl : ks.length ≤ 100) (hs : (failD D at_ ks).1 = (failD R at_ ks).1) :
    Calls Try.prog 8 #[.agg #[.int .u8 (kind : Int), .int .i64 n, .int .i64 at_, .int .i64 size, .string s, kv], ptrV d, ptrV r] w fun e w' => e = .returned (.bool true) ∧ PGoes w w' G GR d r (failD D at_ ks).2 (rfailD R at_ ks) := by
  have C1 := Lib.hid (pair_one (q := (failD D at_ ks).1) (D1 := (failD D at_ ks).2) h #[.int .u8 (kind : Int), .int .i64 n, .int .i64 at_, .int .i64 size, .string s, kv] fun W k hd => by have := failD_any d D G at_ kv ks W hd ha (hst W (Frame.of_keeps k _)) hkv; rwa [List.take_of_length_le hkl] at this)
  have C2 : Hid (∀ w1, PGoes (boxed w #[.int .u8 (kind : Int), .int .i64 n, .int .i64 at_, .int .i64 size, .string s, kv]) w1 G GR d r (failD D at_ ks).2 R → Frame (G ++ GR) w w1 → w1.heap[w.heap.size]? = some (.cells #[.int .u8 (kind : Int), .int .i64 n, .int .i64 at_, .int .i64 size, .string s, kv] tAct (0, 0)) → _) := Lib.hid fun w1 a b c => pair_two (q := (failD D at_ ks).1) (R1 := (rfailD R at_ ks)) h _ a b c fun W GR' hf hr => by rw [hs]; exact rfail_any r R GR' at_ kv ks W hr ha (hst W hf) hkn (by omega)
  generalize (failD D at_ ks).1 = q at *
  generalize (failD D at_ ks).2 = D1 at *
  generalize (rfailD R at_ ks) = R1 at *
  unfold ptrV boxed at *
  clear hs h hn ha hz hsz hst hkv hkn hkl
  go_enter Try.func8, Try.ntmps8
  go_wp2
  go_region_held3 (fun W => W.cell? ⟨w.heap.size, 2, none⟩ = some (.int .i64 at_) ∧ W.cell? ⟨w.heap.size, 5, none⟩ = some (kv)) (first | assumption | go_keep) (first
    | (go_at_call 21; refine C1.out.mono ?_; rintro e w1 ⟨rfl, ha, hb, hx⟩; have x2 : w1.cell? ⟨w.heap.size, 2, none⟩ = some (.int .i64 at_) := Joins.cell_of_block hx 2; have x5 : w1.cell? ⟨w.heap.size, 5, none⟩ = some (kv) := Joins.cell_of_block hx 5)
    | (go_at_call 31; refine (C2.out w1 ha hb hx).mono ?_; rintro e w2 ⟨rfl, hp, hy⟩; have y2 : w2.cell? ⟨w.heap.size, 2, none⟩ = some (.int .i64 at_) := Joins.cell_of_block hy 2; have y5 : w2.cell? ⟨w.heap.size, 5, none⟩ = some (kv) := Joins.cell_of_block hy 5))
  go_wp2
  go_ret
  exact ⟨rfl, hp⟩

set_option maxRecDepth 100000 in
set_option maxHeartbeats 2000000 in
theorem do_k11 (kind : Nat) (n at_ size : Int) (s : ByteArray) (kv : Value) (d r : Nat) (D R : DiskM) (G GR : List Nat) (w : World) (h : Pair w d r D R G GR) (hq : (kind : Int) % 14 = 11) (hst : I64 D.starts) (hst2 : I64 R.starts) (hs : (startD D).1 = (startD R).1) :
    Calls Try.prog 8 #[.agg #[.int .u8 (kind : Int), .int .i64 n, .int .i64 at_, .int .i64 size, .string s, kv], ptrV d, ptrV r] w fun e w' => e = .returned (.bool true) ∧ PGoes w w' G GR d r (startD D).2 (startD R).2 := by
  have HP := Lib.hid h
  have H1 := Lib.hid hst
  have H2 := Lib.hid hst2
  have HS := Lib.hid hs
  clear h hst hst2 hs
  unfold ptrV at *
  go_enter Try.func8, Try.ntmps8
  go_wp2_with fail
  refine (start_any d D G _ (HP.out.keeps (keeps_lit _ _)).disk H1.out).mono ?_
  rintro e w1 ⟨rfl, hg⟩
  obtain ⟨G1, GR1, p1, p2, p3⟩ := pair_d (HP.out.keeps (keeps_lit _ _)) hg
  have P1 := Lib.hid p1
  have P2 := Lib.hid p2
  have P3 := Lib.hid p3
  clear hg p1 p2 p3
  go_wp2_with fail
  refine (rstart_any r R GR1 _ P1.out.ref H2.out).mono ?_
  rintro e w2 ⟨rfl, hg2⟩
  have HG := Lib.hid hg2
  clear hg2
  rw [HS.out]
  go_wp2
  go_ret
  exact ⟨rfl, PGoes.from (keeps_lit _ _) (PGoes.step P2.out P3.out (pair_r P1.out HG.out))⟩

set_option maxRecDepth 100000 in
set_option maxHeartbeats 2000000 in
theorem do_k12 (kind : Nat) (n at_ size : Int) (s : ByteArray) (kv : Value) (d r : Nat) (D R : DiskM) (G GR : List Nat) (w : World) (h : Pair w d r D R G GR) (hq : (kind : Int) % 14 = 12) (hst : I64 D.starts) (hst2 : I64 R.starts) (hs : (startD D).1 = (startD R).1) :
    Calls Try.prog 8 #[.agg #[.int .u8 (kind : Int), .int .i64 n, .int .i64 at_, .int .i64 size, .string s, kv], ptrV d, ptrV r] w fun e w' => e = .returned (.bool true) ∧ PGoes w w' G GR d r (startD D).2 (startD R).2 := by
  have HP := Lib.hid h
  have H1 := Lib.hid hst
  have H2 := Lib.hid hst2
  have HS := Lib.hid hs
  clear h hst hst2 hs
  unfold ptrV at *
  go_enter Try.func8, Try.ntmps8
  go_wp2_with fail
  refine (start_any d D G _ (HP.out.keeps (keeps_lit _ _)).disk H1.out).mono ?_
  rintro e w1 ⟨rfl, hg⟩
  obtain ⟨G1, GR1, p1, p2, p3⟩ := pair_d (HP.out.keeps (keeps_lit _ _)) hg
  have P1 := Lib.hid p1
  have P2 := Lib.hid p2
  have P3 := Lib.hid p3
  clear hg p1 p2 p3
  go_wp2_with fail
  refine (rstart_any r R GR1 _ P1.out.ref H2.out).mono ?_
  rintro e w2 ⟨rfl, hg2⟩
  have HG := Lib.hid hg2
  clear hg2
  rw [HS.out]
  go_wp2
  go_ret
  exact ⟨rfl, PGoes.from (keeps_lit _ _) (PGoes.step P2.out P3.out (pair_r P1.out HG.out))⟩
end Go.Proofs.Ytpecbfcboocmcaa
