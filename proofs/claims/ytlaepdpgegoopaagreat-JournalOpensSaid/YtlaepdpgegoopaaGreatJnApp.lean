
/- Append of a journal that is not over. Compact of a journal that is not over; Size, Entries. read: a file, and what stands in it. Rows of steps that a call gathers. -/
import Derived.Test.YtlaepdpgegoopaaGreatJnSteps
import Derived.Deep.RegionHeld3
import Derived.Deep.QuietTactic
import Derived.BigQuiet
import Derived.Laws.Rows
import Derived.Maps.AppendAt
set_option linter.unusedVariables false
namespace Go.Proofs.YtlaepdpgegoopaaGreat
open Go.ChangeShapes Go.WideShapes Go.ChangeAt Go.RowKit Go.Maps Csv Dk Jn

def JGoes (w w' : World) (G : List Nat) (b d : Nat) (D : DiskM) (J : JM) : Prop := ∃ G', JJ w' b d D J G' ∧ Frame (b :: G) w w' ∧ ∀ x ∈ G', x ∈ G ∨ w.heap.size ≤ x
section
variable {w w' w2 : World} {b d : Nat} {D D' : DiskM} {J J' : JM} {G : List Nat}
theorem JnAt.cells (h : JnAt w b d J) : w.cell? ⟨b, 0, none⟩ = some (.pointer (some ⟨d, 0, none⟩)) ∧ w.cell? ⟨b, 1, none⟩ = some (.int .i64 J.starts) ∧ w.cell? ⟨b, 2, none⟩ = some (.int .i64 J.file) ∧ w.cell? ⟨b, 3, none⟩ = some (.int .i64 (J.bytes : Int)) ∧
    w.cell? ⟨b, 4, none⟩ = some (.int .i64 (J.many : Int)) ∧ ∀ i, w.frozen? ⟨b, i, none⟩ = false := by
  have c := fun i => Joins.cell_of_block (w := w) h i
  exact ⟨c 0, c 1, c 2, c 3, c 4, fun i => Joins.unfrozen_of_block h i⟩
theorem JJ.keeps (h : JJ w b d D J G) (k : Keeps w w') : JJ w' b d D J G := ⟨h.disk.keeps k, (k.block b (block_lt h.jn)).trans h.jn, h.off⟩
theorem JJ.same (h : JJ w b d D J G) (k : Keeps w w') : JGoes w w' G b d D J := ⟨G, h.keeps k, Frame.of_keeps k _, fun x hx => Or.inl hx⟩
/-- The disk has turned. -/
theorem JJ.turn (h : JJ w b d D J G) (g : Goes w w' G d D') : JGoes w w' G b d D' J := by
  obtain ⟨G', g1, g2, g3⟩ := g
  refine ⟨G', ⟨g1, (g2.block b (block_lt h.jn) h.off).trans h.jn, fun hx => ?_⟩, g2.mono fun x hx => List.mem_cons_of_mem _ hx, g3⟩
  rcases g3 b hx with h1 | h1
  · exact h.off h1
  · have := block_lt h.jn; omega
/-- The journal's own block has turned. -/
theorem JJ.own (h : JJ w b d D J G) (hj : JnAt w' b d J') (f : Frame [b] w w') : JGoes w w' G b d D J' := by
  refine ⟨G, ⟨h.disk.local fun x hx => f.block x (h.disk.lt x hx) fun hb => ?_, hj, h.off⟩, f.mono fun x hx => by simp at hx; simp [hx], fun x hx => Or.inl hx⟩
  simp at hb
  subst hb
  exact h.off hx
theorem JGoes.step (g : JGoes w w' G b d D J) (k : ∀ G', JJ w' b d D J G' → JGoes w' w2 G' b d D' J') : JGoes w w2 G b d D' J' := by
  obtain ⟨G1, i1, f1, b1⟩ := g
  obtain ⟨G2, i2, f2, b2⟩ := k G1 i1
  refine ⟨G2, i2, f1.trans f2 fun x hx => ?_, fun x hx => ?_⟩
  · rcases List.mem_cons.1 hx with rfl | hx
    · exact Or.inl (List.mem_cons_self ..)
    · rcases b1 x hx with h | h
      · exact Or.inl (List.mem_cons_of_mem _ h)
      · exact Or.inr h
  · rcases b2 x hx with h | h
    · exact b1 x h
    · exact Or.inr (Nat.le_trans f1.size h)
theorem JGoes.cells (g : JGoes w w' G b d D J) : w'.cell? ⟨b, 0, none⟩ = some (.pointer (some ⟨d, 0, none⟩)) ∧ w'.cell? ⟨b, 1, none⟩ = some (.int .i64 J.starts) ∧ w'.cell? ⟨b, 2, none⟩ = some (.int .i64 J.file) ∧ w'.cell? ⟨b, 3, none⟩ = some (.int .i64 (J.bytes : Int)) ∧
    w'.cell? ⟨b, 4, none⟩ = some (.int .i64 (J.many : Int)) ∧ ∀ i, w'.frozen? ⟨b, i, none⟩ = false := by
  obtain ⟨_, i, _, _⟩ := g
  exact i.jn.cells
theorem JGoes.drew (g : JGoes w w' G b d D J) : JGoes w w'.drew G b d D J := g.step fun _ i => i.same ⟨rfl, rfl, rfl, Nat.le_refl _, fun _ _ => rfl⟩
theorem JGoes.behind (k : Keeps w w') (g : JGoes w' w2 G b d D J) : JGoes w w2 G b d D J := by
  obtain ⟨G1, i1, f1, b1⟩ := g
  exact ⟨G1, i1, (Frame.of_keeps k (b :: G)).trans f1 fun x hx => Or.inl hx, fun x hx => (b1 x hx).imp id fun h => Nat.le_trans k.size h⟩
theorem JGoes.after {G1 : List Nat} {J1 : JM} (f1 : Frame (b :: G) w w') (b1 : ∀ x ∈ G1, x ∈ G ∨ w.heap.size ≤ x) (g : JGoes w' w2 G1 b d D J1) : JGoes w w2 G b d D J1 := by
  obtain ⟨G2, i2, f2, b2⟩ := g
  refine ⟨G2, i2, f1.trans f2 fun x hx => ?_, fun x hx => ?_⟩
  · rcases List.mem_cons.1 hx with rfl | hx
    · exact Or.inl (List.mem_cons_self ..)
    · rcases b1 x hx with h | h
      · exact Or.inl (List.mem_cons_of_mem _ h)
      · exact Or.inr h
  · rcases b2 x hx with h | h
    · exact b1 x h
    · exact Or.inr (Nat.le_trans f1.size h)
theorem JGoes.done {x : (Int × DiskM) × JM} {q : Int} (g : JGoes w w' G b d D J) (h : x = ((q, D), J)) : JDoneOut x b d G w (.returned (.int .i64 q)) w' := by
  subst h
  obtain ⟨G', i, f, b'⟩ := g
  exact ⟨rfl, G', i.disk, i.off, f, b', fun _ => i.jn⟩
end
theorem cell_past {w : World} {o : Obj} {a : Addr} {v : Value} (h : w.cell? a = some v) : (w.alloc o).cell? a = some v := cell_keeps ((Below.refl w.heap.size w).alloc (Nat.le_refl _) o) h
theorem keeps2 (w : World) (a b : Obj) : Keeps w ((w.alloc a).alloc b) := ((Below.refl _ w).alloc (Nat.le_refl _) _).alloc (by simp) _
theorem keeps3 (w : World) (a b c : Obj) : Keeps w (((w.alloc a).alloc b).alloc c) := (keeps2 w a b).alloc (by simp; omega) _
theorem keeps4 (w : World) (a b c d : Obj) : Keeps w ((((w.alloc a).alloc b).alloc c).alloc d) := (keeps3 w a b c).alloc (by simp; omega) _
theorem keeps5 (w : World) (a b c d e : Obj) : Keeps w (((((w.alloc a).alloc b).alloc c).alloc d).alloc e) := (keeps4 w a b c d).alloc (by simp; omega) _
theorem cell_drew {w : World} {a : Addr} {v : Value} (h : w.cell? a = some v) : w.drew.cell? a = some v := h
/-- The same, but for what was drawn. -/
def Alike (X W : World) : Prop := W.os = X.os ∧ W.tape = X.tape ∧ W.output = X.output ∧ W.heap = X.heap
theorem Alike.keeps {X W : World} (h : Alike X W) : Keeps X W := ⟨h.1, h.2.1, h.2.2.1, by rw [h.2.2.2]; exact Nat.le_refl _, fun i _ => by rw [h.2.2.2]⟩
theorem heap_lit {w : World} {o : Obj} {b : Nat} (h : b = w.heap.size) : (w.alloc o).heap[b]? = some o := by subst h; exact heap_alloc_new _ _
theorem heap_past {w : World} {o : Obj} {b : Nat} (h : b < w.heap.size) : (w.alloc o).heap[b]? = w.heap[b]? := (keeps_lit w o).block b h

/-- A row of steps as a literal lays it. -/
theorem lit_steps {G : List Nat} {w : World} {g n : Nat} {vs : List Value} {l : List StepM} (hb : w.heap[g]? = some (.cells vs.toArray tStp (0, 0))) (hg : g ∉ G) (hn : l.length = n) (hm : n ≤ 1000000)
    (h : ∀ (j : Nat) (x : StepM), l[j]? = some x → ∃ u, vs[j]? = some u ∧ StepAt G w u x) : StepsAt G w (.slice (some ⟨g, 0, none⟩) n n) l := by
  subst hn
  refine ⟨_, _, rfl, hm, fun j x hx => ?_⟩
  obtain ⟨u, hu, hs⟩ := h j x hx
  refine ⟨_, u, rfl, hg, ?_, hs⟩
  rw [addr_of, Joins.cell_of_block hb j]
  simpa using hu

theorem jn_same {P : Program} {f : FuncId} {args : Array Value} {w : World} {n : Nat} {v : Value} (h : Calls P f args (w.drewN n) fun e w' => e = .returned v ∧ w.drewN n = w') : Calls P f args (w.drewN n) fun e w'' => e = .returned v ∧ ∃ m, w'' = w.drewN m :=
  h.mono fun _ _ ⟨he, hm⟩ => ⟨he, n, hm.symm⟩
set_option maxRecDepth 100000 in
theorem jready_any (b d : Nat) (D : DiskM) (J : JM) (G : List Nat) (w : World) (h : JJ w b d D J G) (hu : D.up = true) (hs : D.starts = J.starts) :
    Calls Tryz.prog 46 #[ptrV b] w fun e w' => e = .returned (.int .i64 0) ∧ Keeps w w' := by
  obtain ⟨c0, c1, _⟩ := h.jn.cells
  obtain ⟨st, hst⟩ : ∃ x, J.starts = x := ⟨_, rfl⟩
  rw [hst] at c1
  have CU := Lib.hid fun W (k : Keeps w W) => (show Calls Tryz.prog 44 #[ptrV d] W fun e w' => e = .returned (.bool true) ∧ W = w' from hu ▸ up_any d D G W (h.disk.keeps k))
  have CS := Lib.hid fun W (k : Keeps w W) => (show Calls Tryz.prog 37 #[ptrV d] W fun e w' => e = .returned (.int .i64 st) ∧ W = w' from (hs.trans hst) ▸ starts_any d D G W (h.disk.keeps k))
  clear h hu hs hst
  unfold ptrV at *
  go_enter Tryz.func46, Tryz.ntmps46
  go_wp2
  go_quiet ((first
    | (go_at_call 44; exact jn_same (CU.out _ (dkKeeps_drewN _ _)))
    | (go_at_call 37; exact jn_same (CS.out _ (dkKeeps_drewN _ _)))))
  go_wp2
  go_ret
  exact ⟨rfl, dkKeeps_drewN _ _⟩

/-! ### Append -/
theorem off_new {w : World} {d x : Nat} {D : DiskM} {G : List Nat} (h : IsDisk w d D G) (hx : w.heap.size ≤ x) : x ∉ G := fun hm => by have := h.lt x hm; omega
/-- The two steps of an Append, as the literal lays them. -/
theorem app_order (b d : Nat) (D : DiskM) (J : JM) (G : List Nat) (n : Int) (r : ByteArray) (w W : World) (h : JJ w b d D J G) (hn : I64 n) (hr : r.size ≤ maxLen)
    (ha : Alike ((((w.alloc (.cells #[.int .i64 n] tI)).alloc (.cells #[.string r] tS)).alloc (.cells #[.int .i64 n] tI)).alloc (.cells #[.func (.func 69) #[] #[ptrV w.heap.size, ptrV (w.heap.size + 1)], .func (.func 70) #[] #[ptrV (w.heap.size + 2)]] tStp)) W) :
    Calls Tryz.prog 48 #[ptrV d, .slice (some ⟨w.heap.size + 3, 0, none⟩) 2 2] W fun e w' => e = .returned (.int .i64 (next (appendD D n r.data.toList) fun D => syncD D n).1) ∧ JGoes w w' G b d (next (appendD D n r.data.toList) fun D => syncD D n).2 J := by
  have hk : Keeps w ((((w.alloc (.cells #[.int .i64 n] tI)).alloc (.cells #[.string r] tS)).alloc (.cells #[.int .i64 n] tI)).alloc (.cells #[.func (.func 69) #[] #[ptrV w.heap.size, ptrV (w.heap.size + 1)], .func (.func 70) #[] #[ptrV (w.heap.size + 2)]] tStp)) :=
    ((((Below.refl _ w).alloc (Nat.le_refl _) _).alloc (by simp) _).alloc (by simp; omega) _).alloc (by simp; omega) _
  have b0 : BoxI W w.heap.size n := by unfold BoxI; rw [ha.2.2.2, heap_past (by simp; omega), heap_past (by simp; omega), heap_past (by simp), heap_lit rfl]
  have b1 : BoxS W (w.heap.size + 1) r := by unfold BoxS; rw [ha.2.2.2, heap_past (by simp), heap_past (by simp), heap_lit (by simp)]
  have b2 : BoxI W (w.heap.size + 2) n := by unfold BoxI; rw [ha.2.2.2, heap_past (by simp), heap_lit (by simp)]
  have b3 : W.heap[w.heap.size + 3]? = some (.cells (#[.func (.func 69) #[] #[ptrV w.heap.size, ptrV (w.heap.size + 1)], .func (.func 70) #[] #[ptrV (w.heap.size + 2)]]) tStp (0, 0)) := by rw [ha.2.2.2, heap_lit (by simp)]
  have hkW : Keeps w W := hk.trans ⟨ha.1, ha.2.1, ha.2.2.1, by rw [ha.2.2.2]; exact Nat.le_refl _, fun i _ => by rw [ha.2.2.2]⟩
  have hd := h.disk.keeps hkW
  have off : ∀ k, w.heap.size + k ∉ G := fun k => off_new h.disk (by omega)
  have hs : StepsAt G W (.slice (some ⟨w.heap.size + 3, 0, none⟩) 2 2) [.add n r, .sync n] := by
    refine lit_steps b3 (off 3) rfl (by omega) fun j x hx => ?_
    rcases j with _ | _ | j
    · cases hx; exact ⟨_, rfl, _, _, rfl, off 0, off 1, b0, b1, hn, hr⟩
    · cases hx; exact ⟨_, rfl, _, rfl, off 2, b2, hn⟩
    · simp at hx
  refine (inOrder_any d D G _ _ W hd hs).mono ?_
  rintro e w' ⟨rfl, g⟩
  exact ⟨rfl, JGoes.behind hkW ((h.keeps hkW).turn g)⟩

set_option maxRecDepth 100000 in
set_option maxHeartbeats 4000000 in
theorem japp_any (b d : Nat) (D : DiskM) (J : JM) (G : List Nat) (s : ByteArray) (w : World) (h : JJ w b d D J G) (hu : D.up = true) (hs : D.starts = J.starts) (hsz : s.size ≤ maxLen) (hb : J.bytes ≤ 2000000) (hm : J.many ≤ 2000000) (hn : I64 J.file) :
    Calls Tryz.prog 15 #[ptrV b, .string s] w (JDoneOut (appJ D J s.data.toList) b d G w) := by
  have CO := Lib.hid (jready_any b d D J G w h hu hs)
  have H := Lib.hid h
  have HO := Lib.hid h.disk.okay
  have HS := Lib.hid hsz
  have HN := Lib.hid hn
  clear h hu hs hsz hn
  by_cases c1 : 65536 < s.size
  · have e1 : appJ D J s.data.toList = ((3, D), J) := by unfold appJ; rw [if_pos (by rw [len_data]; exact c1)]
    have CP := Lib.hid fun W => recPut_long s W HS.out c1
    have E1 := Lib.hid e1
    clear e1 c1
    unfold ptrV at *
    go_enter Tryz.func15, Tryz.ntmps15
    go_wp2_with fail
    refine CO.out.mono ?_
    rintro e w1 ⟨rfl, k1⟩
    have K1 := Lib.hid k1
    clear k1
    go_wp2_with fail
    refine (CP.out _).mono ?_
    rintro e w2 ⟨rfl, k2⟩
    have K2 := Lib.hid k2
    clear k2
    go_wp2
    go_ret
    exact (H.out.same (K1.out.trans K2.out)).done E1.out
  have CP := Lib.hid fun W => recPut_any s W (by omega)
  obtain ⟨R, hR⟩ : ∃ R, recB s = R := ⟨_, rfl⟩
  rw [hR] at CP
  have hRs : R.size = s.size + 8 := by rw [← hR, recB_size]
  have HRd := Lib.hid (show R.data.toList = Rc.recL s.data.toList from by rw [← hR, recB_data])
  have HRs := Lib.hid hRs
  have hR9 : R.size ≤ 65544 := by omega
  have HRm := Lib.hid (show R.size ≤ maxLen from by unfold maxLen; omega)
  obtain ⟨F, hF⟩ : ∃ F, D.free = F := ⟨_, rfl⟩
  have hFb : 0 ≤ F ∧ F ≤ 1048576 := by have := HO.out.room; have := HO.out.cap; rw [← hF]; unfold DiskM.free; omega
  obtain ⟨hF0, hF9⟩ := hFb
  have HF := Lib.hid hF
  have HC1 := Lib.hid c1
  clear hR hRs hF c1
  have EA : Hid (appJ D J s.data.toList = if F - (R.size : Int) < 70000 then ((60, D), J) else (next (appendD D J.file R.data.toList) fun D => syncD D J.file, if (next (appendD D J.file R.data.toList) fun D => syncD D J.file).1 = 0 then ⟨J.file, J.bytes + R.size, J.many + 1, J.starts⟩ else J)) := Lib.hid (by
    unfold appJ
    rw [if_neg (by rw [len_data]; exact HC1.out), HF.out, len_data, HRd.out, HRs.out])
  obtain ⟨m, by_, mn, st⟩ := J
  simp only at hb hm HN EA
  unfold ptrV at *
  go_enter Tryz.func15, Tryz.ntmps15
  go_wp2_with fail
  refine CO.out.mono ?_
  rintro e w1 ⟨rfl, k1⟩
  have K1 := Lib.hid k1
  clear k1
  go_wp2_with fail
  refine (CP.out _).mono ?_
  rintro e w2 ⟨rfl, k2⟩
  have H2 := Lib.hid (H.out.keeps (K1.out.trans k2))
  have K2 := Lib.hid (K1.out.trans k2)
  obtain ⟨a0, _, a2, _⟩ := H2.out.jn.cells
  simp only at a2
  have CF : Hid (Calls Tryz.prog 28 #[.pointer (some ⟨d, 0, none⟩)] w2 fun e w' => e = .returned (.int .i64 F) ∧ Keeps w2 w') := Lib.hid (by
    obtain ⟨m', L', kk, hd, _⟩ := H2.out.disk
    have := free_any d m' L' kk D w2 hd
    rw [HF.out] at this
    exact this)
  clear k2 CO CP K1
  by_cases c2 : F - (R.size : Int) < 70000
  · have E1 := Lib.hid (EA.out.trans (if_pos c2))
    have t1 : decide (F - (R.size : Int) < 70000) = true := decide_eq_true c2
    clear c2 EA
    go_wp2_with fail
    refine CF.out.mono ?_
    rintro e w3 ⟨rfl, k3⟩
    have K3 := Lib.hid k3
    clear k3
    go_wp2
    go_ret
    exact (H.out.same (K2.out.trans K3.out)).done E1.out
  have E1 := Lib.hid (EA.out.trans (if_neg c2))
  have t1 : decide (F - (R.size : Int) < 70000) = false := decide_eq_false c2
  obtain ⟨⟨q1, D1⟩, hx1⟩ : ∃ x, (next (appendD D m R.data.toList) fun D => syncD D m) = x := ⟨_, rfl⟩
  rw [hx1] at E1
  have c2' : ¬ F - (R.size : Int) < 70000 := c2
  clear EA c2
  go_wp2_with fail
  refine CF.out.mono ?_
  rintro e w3 ⟨rfl, k3⟩
  have H3 := Lib.hid (H2.out.keeps k3)
  have K3 := Lib.hid (K2.out.trans k3)
  obtain ⟨x0, _, x2, _⟩ := H3.out.jn.cells
  simp only at x2
  have CI : Hid (∀ W, Alike ((((w3.alloc (.cells #[.int .i64 m] tI)).alloc (.cells #[.string R] tS)).alloc (.cells #[.int .i64 m] tI)).alloc (.cells #[.func (.func 69) #[] #[ptrV w3.heap.size, ptrV (w3.heap.size + 1)], .func (.func 70) #[] #[ptrV (w3.heap.size + 2)]] tStp)) W →
      Calls Tryz.prog 48 #[.pointer (some ⟨d, 0, none⟩), .slice (some ⟨w3.heap.size + 3, 0, none⟩) 2 2] W fun e w' => e = .returned (.int .i64 q1) ∧ JGoes w3 w' G b d D1 ⟨m, by_, mn, st⟩) := Lib.hid fun W ha => by
    have := app_order b d D _ G m R w3 W H3.out HN.out HRm.out ha
    rw [hx1] at this
    exact this
  have b3 := block_lt H3.out.jn
  have X0 := Lib.hid x0
  have X2 := Lib.hid x2
  clear k3 CF H2 a0 a2 hx1 K2
  go_wp2
  go_region_held3 (fun W => W.cell? ⟨b, 0, none⟩ = some (.pointer (some ⟨d, 0, none⟩)) ∧ W.cell? ⟨b, 2, none⟩ = some (.int .i64 m)) (first | exact ⟨X0.out, X2.out⟩ | exact ⟨cell_keeps (keeps2 w3 _ _) X0.out, cell_keeps (keeps2 w3 _ _) X2.out⟩ | exact ⟨cell_keeps (keeps3 w3 _ _ _) X0.out, cell_keeps (keeps3 w3 _ _ _) X2.out⟩ | exact ⟨cell_keeps (keeps4 w3 _ _ _ _) X0.out, cell_keeps (keeps4 w3 _ _ _ _) X2.out⟩ | (refine ⟨?_, ?_⟩ <;> assumption)) (first
    | (go_at_call 49; refine (mkAdd _ _ _).mono ?_; rintro e w' ⟨rfl, rfl⟩)
    | (go_at_call 50; refine (mkSync _ _).mono ?_; rintro e w' ⟨rfl, rfl⟩)
    | (go_at_call 48; refine (CI.out _ ?_).mono ?_; exact ⟨rfl, rfl, rfl, rfl⟩; rintro e w4 ⟨rfl, g4⟩; have x0 : w4.cell? ⟨b, 0, none⟩ = some (.pointer (some ⟨d, 0, none⟩)) := g4.cells.1; have x2 : w4.cell? ⟨b, 2, none⟩ = some (.int .i64 m) := g4.cells.2.2.1))
  have G4 := Lib.hid (JGoes.behind K3.out g4)
  have hz0 : (0 : Int) ≤ (by_ : Int) + (R.size : Int) := by omega
  have hz1 : (by_ : Int) + (R.size : Int) ≤ 3000000 := by omega
  have hz2 : (mn : Int) + 1 ≤ 3000000 := by omega
  clear g4 CI H3 K3 X0 X2
  by_cases h1 : q1 = 0
  · subst h1
    have E2 : Hid (appJ D ⟨m, by_, mn, st⟩ s.data.toList = ((0, D1), ⟨m, by_ + R.size, mn + 1, st⟩)) := Lib.hid (by rw [E1.out, if_pos rfl])
    obtain ⟨_, _, _, y3, y4, fz⟩ := G4.out.cells
    have f3 := fz 3
    have f4 := fz 4
    simp only at y3 y4
    have KEY : Hid (∀ w', w' = (w4.setCell ⟨b, 3, none⟩ (.int .i64 ((by_ : Int) + (R.size : Int)))).setCell ⟨b, 4, none⟩ (.int .i64 ((mn : Int) + 1)) → JGoes w w' G b d D1 ⟨m, by_ + R.size, mn + 1, st⟩) := Lib.hid fun w' e => G4.out.step fun G' i => by
      subst e
      have b1 := Joins.block_setCell (i := 3) i.jn (.int .i64 ((by_ : Int) + (R.size : Int)))
      have b2 := Joins.block_setCell (i := 4) b1 (.int .i64 ((mn : Int) + 1))
      exact i.own (J' := ⟨m, by_ + R.size, mn + 1, st⟩) (by unfold JnAt; rw [b2]; rfl) (((Frame.refl _ _).frame_grown (grown_setCell _ _ _ _) (by simp)).frame_grown (grown_setCell _ _ _ _) (by simp))
    clear fz E1 x0 x2
    go_wp2
    go_ret
    exact (KEY.out _ rfl).done E2.out
  · have E2 : Hid (appJ D ⟨m, by_, mn, st⟩ s.data.toList = ((q1, D1), ⟨m, by_, mn, st⟩)) := Lib.hid (by rw [E1.out, if_neg h1])
    have t2 : (q1 == 0) = false := by simpa using h1
    clear h1 E1
    go_wp2
    go_ret
    exact G4.out.done E2.out
end Go.Proofs.YtlaepdpgegoopaaGreat
namespace Go.Proofs.YtlaepdpgegoopaaGreat
open Go.ChangeShapes Go.WideShapes Go.ChangeAt Go.RowKit Go.Maps Csv Dk Jn

abbrev fCreate (a : Nat) : Value := .func (.func 74) #[] #[ptrV a]
abbrev fAdd (a b : Nat) : Value := .func (.func 69) #[] #[ptrV a, ptrV b]
abbrev fSync (a : Nat) : Value := .func (.func 70) #[] #[ptrV a]
abbrev fDel (a : Nat) : Value := .func (.func 75) #[] #[ptrV a]
/-- The three steps by which a file is laid. -/
theorem lay_order (b d : Nat) (D : DiskM) (J : JM) (G : List Nat) (n : Int) (r : ByteArray) (w W : World) (h : JJ w b d D J G) (hn : I64 n) (hr : r.size ≤ maxLen)
    (ha : Alike (((((w.alloc (.cells #[.int .i64 n] tI)).alloc (.cells #[.int .i64 n] tI)).alloc (.cells #[.string r] tS)).alloc (.cells #[.int .i64 n] tI)).alloc (.cells #[fCreate w.heap.size, fAdd (w.heap.size + 1) (w.heap.size + 2), fSync (w.heap.size + 3)] tStp)) W) :
    Calls Tryz.prog 48 #[ptrV d, .slice (some ⟨w.heap.size + 4, 0, none⟩) 3 3] W fun e w' => e = .returned (.int .i64 (layD D n r.data.toList).1) ∧ JGoes w w' G b d (layD D n r.data.toList).2 J := by
  have hk := keeps5 w (.cells #[.int .i64 n] tI) (.cells #[.int .i64 n] tI) (.cells #[.string r] tS) (.cells #[.int .i64 n] tI) (.cells #[fCreate w.heap.size, fAdd (w.heap.size + 1) (w.heap.size + 2), fSync (w.heap.size + 3)] tStp)
  have b0 : BoxI W w.heap.size n := by unfold BoxI; rw [ha.2.2.2, heap_past (by simp; omega), heap_past (by simp; omega), heap_past (by simp; omega), heap_past (by simp), heap_lit rfl]
  have b1 : BoxI W (w.heap.size + 1) n := by unfold BoxI; rw [ha.2.2.2, heap_past (by simp), heap_past (by simp), heap_past (by simp), heap_lit (by simp)]
  have b2 : BoxS W (w.heap.size + 2) r := by unfold BoxS; rw [ha.2.2.2, heap_past (by simp), heap_past (by simp), heap_lit (by simp)]
  have b3 : BoxI W (w.heap.size + 3) n := by unfold BoxI; rw [ha.2.2.2, heap_past (by simp), heap_lit (by simp)]
  have b4 : W.heap[w.heap.size + 4]? = some (.cells (#[fCreate w.heap.size, fAdd (w.heap.size + 1) (w.heap.size + 2), fSync (w.heap.size + 3)]) tStp (0, 0)) := by rw [ha.2.2.2, heap_lit (by simp)]
  have hkW : Keeps w W := hk.trans ha.keeps
  have hd := h.disk.keeps hkW
  have off : ∀ k, w.heap.size + k ∉ G := fun k => off_new h.disk (by omega)
  have hs : StepsAt G W (.slice (some ⟨w.heap.size + 4, 0, none⟩) 3 3) [.create n, .add n r, .sync n] := by
    refine lit_steps b4 (off 4) rfl (by omega) fun j x hx => ?_
    rcases j with _ | _ | _ | j
    · cases hx; exact ⟨_, rfl, _, rfl, off 0, b0, hn⟩
    · cases hx; exact ⟨_, rfl, _, _, rfl, off 1, off 2, b1, b2, hn, hr⟩
    · cases hx; exact ⟨_, rfl, _, rfl, off 3, b3, hn⟩
    · simp at hx
  refine (inOrder_any d D G _ _ W hd hs).mono ?_
  rintro e w' ⟨rfl, g⟩
  exact ⟨rfl, JGoes.behind hkW ((h.keeps hkW).turn g)⟩
/-- The one step by which the old file is deleted. -/
theorem del_order (b d : Nat) (D : DiskM) (J : JM) (G : List Nat) (n : Int) (w W : World) (h : JJ w b d D J G) (hn : I64 n)
    (ha : Alike ((w.alloc (.cells #[.int .i64 n] tI)).alloc (.cells #[fDel w.heap.size] tStp)) W) :
    Calls Tryz.prog 48 #[ptrV d, .slice (some ⟨w.heap.size + 1, 0, none⟩) 1 1] W fun e w' => e = .returned (.int .i64 (deleteD D n).1) ∧ JGoes w w' G b d (deleteD D n).2 J := by
  have hk := keeps2 w (.cells #[.int .i64 n] tI) (.cells #[fDel w.heap.size] tStp)
  have b0 : BoxI W w.heap.size n := by unfold BoxI; rw [ha.2.2.2, heap_past (by simp), heap_lit rfl]
  have b1 : W.heap[w.heap.size + 1]? = some (.cells (#[fDel w.heap.size]) tStp (0, 0)) := by rw [ha.2.2.2, heap_lit (by simp)]
  have hkW : Keeps w W := hk.trans ha.keeps
  have hd := h.disk.keeps hkW
  have off : ∀ k, w.heap.size + k ∉ G := fun k => off_new h.disk (by omega)
  have hs : StepsAt G W (.slice (some ⟨w.heap.size + 1, 0, none⟩) 1 1) [.del n] := by
    refine lit_steps b1 (off 1) rfl (by omega) fun j x hx => ?_
    rcases j with _ | j
    · cases hx; exact ⟨_, rfl, _, rfl, off 0, b0, hn⟩
    · simp at hx
  refine (inOrder_any d D G _ _ W hd hs).mono ?_
  rintro e w' ⟨rfl, g⟩
  exact ⟨rfl, JGoes.behind hkW ((h.keeps hkW).turn g)⟩

set_option maxRecDepth 100000 in
set_option maxHeartbeats 4000000 in
theorem jcom_any (b d : Nat) (D : DiskM) (J : JM) (G : List Nat) (s : ByteArray) (w : World) (h : JJ w b d D J G) (hu : D.up = true) (hs : D.starts = J.starts) (hsz : s.size ≤ maxLen) (hn0 : 0 ≤ J.file) (hn : J.file ≤ 9223372036854775807) :
    Calls Tryz.prog 17 #[ptrV b, .string s] w (JDoneOut (comJ D J s.data.toList) b d G w) := by
  have CO := Lib.hid (jready_any b d D J G w h hu hs)
  have H := Lib.hid h
  have HO := Lib.hid h.disk.okay
  have HS := Lib.hid hsz
  clear h hu hs hsz
  by_cases c1 : 65536 < s.size
  · have e1 : comJ D J s.data.toList = ((3, D), J) := by unfold comJ; rw [if_pos (by rw [len_data]; exact c1)]
    have CP := Lib.hid fun W => recPut_long s W HS.out c1
    have E1 := Lib.hid e1
    clear e1 c1
    unfold ptrV at *
    go_enter Tryz.func17, Tryz.ntmps17
    go_wp2_with fail
    refine CO.out.mono ?_
    rintro e w1 ⟨rfl, k1⟩
    have K1 := Lib.hid k1
    clear k1
    go_wp2_with fail
    refine (CP.out _).mono ?_
    rintro e w2 ⟨rfl, k2⟩
    have K2 := Lib.hid k2
    clear k2
    go_wp2
    go_ret
    exact (H.out.same (K1.out.trans K2.out)).done E1.out
  have CP := Lib.hid fun W => recPut_any s W (by omega)
  obtain ⟨R, hR⟩ : ∃ R, recB s = R := ⟨_, rfl⟩
  rw [hR] at CP
  have hRs : R.size = s.size + 8 := by rw [← hR, recB_size]
  have HRd := Lib.hid (show R.data.toList = Rc.recL s.data.toList from by rw [← hR, recB_data])
  have HRs := Lib.hid hRs
  have hR9 : R.size ≤ 65544 := by omega
  have HRm := Lib.hid (show R.size ≤ maxLen from by unfold maxLen; omega)
  obtain ⟨F, hF⟩ : ∃ F, D.free = F := ⟨_, rfl⟩
  have hFb : 0 ≤ F ∧ F ≤ 1048576 := by have := HO.out.room; have := HO.out.cap; rw [← hF]; unfold DiskM.free; omega
  obtain ⟨hF0, hF9⟩ := hFb
  have HF := Lib.hid hF
  have HC1 := Lib.hid c1
  clear hR hRs hF c1
  have EA : Hid (comJ D J s.data.toList = if F < (R.size : Int) then ((60, D), J) else if (layD D (wrap64 (J.file + 1)) R.data.toList).1 = 0 then (deleteD (layD D (wrap64 (J.file + 1)) R.data.toList).2 J.file, ⟨wrap64 (J.file + 1), R.size, 0, J.starts⟩) else (layD D (wrap64 (J.file + 1)) R.data.toList, J)) := Lib.hid (by
    unfold comJ
    rw [if_neg (by rw [len_data]; exact HC1.out), HF.out, len_data, HRd.out, HRs.out])
  obtain ⟨m, by_, mn, st⟩ := J
  simp only at hn hn0 EA
  obtain ⟨m1, hm1⟩ : ∃ m1, wrap64 (m + 1) = m1 := ⟨_, rfl⟩
  rw [hm1] at EA
  have eW : IntKind.i64.wrap (m + 1) = m1 := (IntWalk.i64_left _).trans hm1
  have eW2 : wrap64 (m + 1) = m1 := hm1
  have HM1 := Lib.hid (show I64 m1 by rw [← hm1]; unfold I64 top wrap64; omega)
  clear hm1
  have HM := Lib.hid (show I64 m by unfold I64 top; omega)
  unfold ptrV at *
  go_enter Tryz.func17, Tryz.ntmps17
  go_wp2_with fail
  refine CO.out.mono ?_
  rintro e w1 ⟨rfl, k1⟩
  have K1 := Lib.hid k1
  clear k1
  go_wp2_with fail
  refine (CP.out _).mono ?_
  rintro e w2 ⟨rfl, k2⟩
  have H2 := Lib.hid (H.out.keeps (K1.out.trans k2))
  have K2 := Lib.hid (K1.out.trans k2)
  obtain ⟨a0, _, a2, _⟩ := H2.out.jn.cells
  simp only at a2
  have CF : Hid (Calls Tryz.prog 28 #[.pointer (some ⟨d, 0, none⟩)] w2 fun e w' => e = .returned (.int .i64 F) ∧ Keeps w2 w') := Lib.hid (by
    obtain ⟨m', L', kk, hd, _⟩ := H2.out.disk
    have := free_any d m' L' kk D w2 hd
    rw [HF.out] at this
    exact this)
  clear k2 CO CP K1
  by_cases c2 : F < (R.size : Int)
  · have E1 := Lib.hid (EA.out.trans (if_pos c2))
    have t1 : decide (F < (R.size : Int)) = true := decide_eq_true c2
    clear EA
    go_wp2_with fail
    refine CF.out.mono ?_
    rintro e w3 ⟨rfl, k3⟩
    have K3 := Lib.hid k3
    clear k3
    go_wp2
    go_ret
    exact (H.out.same (K2.out.trans K3.out)).done E1.out
  have E1 := Lib.hid (EA.out.trans (if_neg c2))
  have t1 : decide (F < (R.size : Int)) = false := decide_eq_false c2
  obtain ⟨⟨q1, D1⟩, hx1⟩ : ∃ x, layD D m1 R.data.toList = x := ⟨_, rfl⟩
  rw [hx1] at E1
  have c2' : ¬ F < (R.size : Int) := c2
  clear EA c2
  go_wp2_with fail
  refine CF.out.mono ?_
  rintro e w3 ⟨rfl, k3⟩
  have H3 := Lib.hid (H2.out.keeps k3)
  have K3 := Lib.hid (K2.out.trans k3)
  obtain ⟨x0, _, x2, _⟩ := H3.out.jn.cells
  simp only at x2
  have CI : Hid (∀ W, Alike (((((w3.alloc (.cells #[.int .i64 m1] tI)).alloc (.cells #[.int .i64 m1] tI)).alloc (.cells #[.string R] tS)).alloc (.cells #[.int .i64 m1] tI)).alloc (.cells #[fCreate w3.heap.size, fAdd (w3.heap.size + 1) (w3.heap.size + 2), fSync (w3.heap.size + 3)] tStp)) W →
      Calls Tryz.prog 48 #[.pointer (some ⟨d, 0, none⟩), .slice (some ⟨w3.heap.size + 4, 0, none⟩) 3 3] W fun e w' => e = .returned (.int .i64 q1) ∧ JGoes w3 w' G b d D1 ⟨m, by_, mn, st⟩) := Lib.hid fun W ha => by
    have := lay_order b d D _ G m1 R w3 W H3.out HM1.out HRm.out ha
    rw [hx1] at this
    exact this
  have X0 := Lib.hid x0
  clear k3 CF H2 a0 a2 hx1 K2
  go_wp2
  go_region_held3 (fun W => W.cell? ⟨b, 0, none⟩ = some (.pointer (some ⟨d, 0, none⟩))) (first | exact X0.out | exact cell_keeps (keeps_lit w3 _) X0.out | exact cell_keeps (keeps2 w3 _ _) X0.out | exact cell_keeps (keeps3 w3 _ _ _) X0.out | exact cell_keeps (keeps4 w3 _ _ _ _) X0.out | exact cell_keeps (keeps5 w3 _ _ _ _ _) X0.out | assumption) (first
    | (go_at_call 54; refine (mkCreate _ _).mono ?_; rintro e w' ⟨rfl, rfl⟩)
    | (go_at_call 49; refine (mkAdd _ _ _).mono ?_; rintro e w' ⟨rfl, rfl⟩)
    | (go_at_call 50; refine (mkSync _ _).mono ?_; rintro e w' ⟨rfl, rfl⟩)
    | (go_at_call 48; refine (CI.out _ ?_).mono ?_; exact ⟨rfl, rfl, rfl, rfl⟩; rintro e w4 ⟨rfl, g4⟩; have x0 : w4.cell? ⟨b, 0, none⟩ = some (.pointer (some ⟨d, 0, none⟩)) := g4.cells.1))
  have G4 := Lib.hid (JGoes.behind K3.out g4)
  clear g4 CI H3 K3 X0
  by_cases h1 : q1 = 0
  · subst h1
    obtain ⟨⟨q2, D2⟩, hx2⟩ : ∃ x, deleteD D1 m = x := ⟨_, rfl⟩
    have E2 : Hid (comJ D ⟨m, by_, mn, st⟩ s.data.toList = ((q2, D2), ⟨m1, R.size, 0, st⟩)) := Lib.hid (by rw [E1.out, if_pos rfl, hx2])
    obtain ⟨_, _, y2, y3, y4, fz⟩ := G4.out.cells
    have f2 := fz 2
    have f3 := fz 3
    have f4 := fz 4
    simp only at y2 y3 y4
    obtain ⟨w5, hw5⟩ : ∃ w5, ((w4.setCell ⟨b, 2, none⟩ (.int .i64 m1)).setCell ⟨b, 3, none⟩ (.int .i64 (R.size : Int))).setCell ⟨b, 4, none⟩ (.int .i64 0) = w5 := ⟨_, rfl⟩
    have G5 : Hid (JGoes w w5 G b d D1 ⟨m1, R.size, 0, st⟩) := Lib.hid (G4.out.step fun G' i => by
      subst hw5
      have b1 := Joins.block_setCell (i := 2) i.jn (.int .i64 m1)
      have b2 := Joins.block_setCell (i := 3) b1 (.int .i64 (R.size : Int))
      have b3 := Joins.block_setCell (i := 4) b2 (.int .i64 0)
      exact i.own (J' := ⟨m1, R.size, 0, st⟩) (by unfold JnAt; rw [b3]; rfl) ((((Frame.refl _ _).frame_grown (grown_setCell _ _ _ _) (by simp)).frame_grown (grown_setCell _ _ _ _) (by simp)).frame_grown (grown_setCell _ _ _ _) (by simp)))
    clear fz E1
    have z0 : w5.cell? ⟨b, 0, none⟩ = some (.pointer (some ⟨d, 0, none⟩)) := G5.out.cells.1
    have Z0 := Lib.hid z0
    have CD : Hid (∀ W, Alike ((w5.alloc (.cells #[.int .i64 m] tI)).alloc (.cells #[fDel w5.heap.size] tStp)) W →
        Calls Tryz.prog 48 #[.pointer (some ⟨d, 0, none⟩), .slice (some ⟨w5.heap.size + 1, 0, none⟩) 1 1] W fun e w' => e = .returned (.int .i64 q2) ∧ JGoes w w' G b d D2 ⟨m1, R.size, 0, st⟩) := Lib.hid fun W ha => by
      obtain ⟨G', i5, f5, b5⟩ := G5.out
      have := del_order b d D1 _ G' m w5 W i5 HM.out ha
      rw [hx2] at this
      refine this.mono ?_
      rintro e w' ⟨rfl, g⟩
      exact ⟨rfl, JGoes.after f5 b5 g⟩
    clear hx2 G4
    go_upto_region 15 with (fail)
    try rw [hw5]
    clear hw5 y2 y3 y4 f2 f3 f4 x0
    go_region_held3 (fun W => W.cell? ⟨b, 0, none⟩ = some (.pointer (some ⟨d, 0, none⟩))) (first | exact Z0.out | exact cell_keeps (keeps_lit w5 _) Z0.out | exact cell_keeps (keeps2 w5 _ _) Z0.out | assumption) (first
      | (go_at_call 55; refine (mkDel _ _).mono ?_; rintro e w' ⟨rfl, rfl⟩)
      | (go_at_call 48; refine (CD.out _ ?_).mono ?_; exact ⟨rfl, rfl, rfl, rfl⟩; rintro e w6 ⟨rfl, g6⟩; have z1 : w6.cell? ⟨b, 0, none⟩ = some (.pointer (some ⟨d, 0, none⟩)) := g6.cells.1))
    have G6 := Lib.hid g6
    clear g6 CD
    go_wp2
    go_ret
    exact G6.out.done E2.out
  · have E3 : Hid (comJ D ⟨m, by_, mn, st⟩ s.data.toList = ((q1, D1), ⟨m, by_, mn, st⟩)) := Lib.hid (by rw [E1.out, if_neg h1])
    have t2 : (q1 == 0) = false := by simpa using h1
    have t3 : (q1 != 0) = true := by simpa using h1
    clear h1 E1
    go_wp2
    go_ret
    exact G4.out.done E3.out

theorem jsize_any (b d : Nat) (J : JM) (w : World) (h : JnAt w b d J) : Calls Tryz.prog 19 #[ptrV b] w fun e w' => e = .returned (.int .i64 (J.bytes : Int)) ∧ w = w' := by
  obtain ⟨_, _, _, c3, _⟩ := h.cells
  clear h
  unfold ptrV
  go_enter Tryz.func19, Tryz.ntmps19
  go_wp2
  go_ret
  exact ⟨rfl, rfl⟩
theorem jents_any (b d : Nat) (J : JM) (w : World) (h : JnAt w b d J) : Calls Tryz.prog 20 #[ptrV b] w fun e w' => e = .returned (.int .i64 (J.many : Int)) ∧ w = w' := by
  obtain ⟨_, _, _, _, c4, _⟩ := h.cells
  clear h
  unfold ptrV
  go_enter Tryz.func20, Tryz.ntmps20
  go_wp2
  go_ret
  exact ⟨rfl, rfl⟩
end Go.Proofs.YtlaepdpgegoopaaGreat
namespace Go.Proofs.YtlaepdpgegoopaaGreat
open Go.ChangeShapes Go.WideShapes Go.ChangeAt Go.RowKit Go.Maps Csv Dk Jn

abbrev tCt : TypeId := 73
/-- The cells of a content. -/
def CtAt (w : World) (b : Nat) (x y z u : Value) : Prop := w.heap[b]? = some (.cells #[x, y, z, u] tCt (0, 0))
theorem CtAt.cells {w : World} {b : Nat} {x y z u : Value} (h : CtAt w b x y z u) : w.cell? ⟨b, 0, none⟩ = some x ∧ w.cell? ⟨b, 1, none⟩ = some y ∧ w.cell? ⟨b, 2, none⟩ = some z ∧ w.cell? ⟨b, 3, none⟩ = some u ∧ ∀ i, w.frozen? ⟨b, i, none⟩ = false :=
  ⟨Joins.cell_of_block h 0, Joins.cell_of_block h 1, Joins.cell_of_block h 2, Joins.cell_of_block h 3, fun i => Joins.unfrozen_of_block h i⟩
theorem CtAt.keeps {w w' : World} {b : Nat} {x y z u : Value} (h : CtAt w b x y z u) (k : Keeps w w') : CtAt w' b x y z u := (k.block b (block_lt h)).trans h
abbrev set4 (w : World) (b : Nat) (x y z u : Value) : World := (((w.setCell ⟨b, 0, none⟩ x).setCell ⟨b, 1, none⟩ y).setCell ⟨b, 2, none⟩ z).setCell ⟨b, 3, none⟩ u
theorem CtAt.set {w : World} {b : Nat} {x0 y0 z0 u0 : Value} (h : CtAt w b x0 y0 z0 u0) (x y z u : Value) : CtAt (set4 w b x y z u) b x y z u := by
  have b1 := Joins.block_setCell (i := 0) h x
  have b2 := Joins.block_setCell (i := 1) b1 y
  have b3 := Joins.block_setCell (i := 2) b2 z
  have b4 := Joins.block_setCell (i := 3) b3 u
  unfold CtAt
  rw [b4]; rfl
theorem set4_grown (w : World) (b : Nat) (x y z u : Value) : w.grownBy (set4 w b x y z u) (some b) :=
  (((grown_setCell _ _ _ _).andThen (grown_setCell _ _ _ _) fun j hj => Or.inr hj).andThen (grown_setCell _ _ _ _) fun j hj => Or.inr hj).andThen (grown_setCell _ _ _ _) fun j hj => Or.inr hj
def ctV (x y z u : Value) : Value := .agg #[x, y, z, u]
/-- What read tells of a file that is there. -/
def ctOf (f : FileM) (v : Value) : Value := .agg #[.int .i64 f.n, v, .int .i64 (wholeE f.data : Int), .int .i64 (f.data.length : Int)]
def ReadOut (f : FileM) (w : World) (e : Ending) (w' : World) : Prop :=
  ∃ v, e = .returned (.tuple #[ctOf f v, .int .i64 0]) ∧ w'.ownsRow w.heap.size tS 1 v (wholeP f.data).length (svs (wholeP f.data)) ∧ Keeps w w'

set_option maxRecDepth 100000 in
set_option maxHeartbeats 4000000 in
theorem jread_any (d : Nat) (D : DiskM) (G : List Nat) (f : FileM) (w : World) (h : IsDisk w d D G) (hu : D.up = true) (hc : D.cap ≤ 1000000) (hf : f ∈ D.files) :
    Calls Tryz.prog 61 #[ptrV d, .int .i64 f.n] w (ReadOut f w) := by
  have ho := h.okay
  have hn := ho.nums f hf
  have hI : I64 f.n := by unfold I64 top; omega
  have hfind := find_of ho hf
  have hlen : f.data.length ≤ 1000000 := by have := used_mem hf; have := ho.room; omega
  have HS : Hid (∀ W, Keeps w W → Calls Tryz.prog 31 #[ptrV d, .int .i64 f.n] W fun e w' => e = .returned (.tuple #[.int .i64 (f.data.length : Int), .int .i64 0]) ∧ W = w') := Lib.hid fun W k => by
    have := sizeD_any d D G f.n W (h.keeps k) hI
    rw [show sizeD D f.n = ((f.data.length : Int), 0) from by unfold sizeD; rw [if_neg (by rw [hu]; decide), hfind]] at this
    exact this
  have HR : Hid (∀ W, Keeps w W → Calls Tryz.prog 45 #[ptrV d, .int .i64 f.n, .int .i64 0, .int .i64 (f.data.length : Int)] W fun e w' => e = .returned (.tuple #[sv f.data, .int .i64 0]) ∧ W = w') := Lib.hid fun W k => by
    have := dkRead_any d D G f.n 0 (f.data.length : Int) W (h.keeps k) hI (by unfold I64 top; omega) (by unfold I64 top; omega)
    rw [show readD D f.n 0 (f.data.length : Int) = (f.data, 0) from by unfold readD; rw [if_neg (by rw [hu]; decide), hfind]; simp] at this
    exact this
  obtain ⟨S, hS⟩ : ∃ S : ByteArray, (⟨f.data.toArray⟩ : ByteArray) = S := ⟨_, rfl⟩
  have hSd : S.data.toList = f.data := by rw [← hS]
  have hSz : S.size = f.data.length := by rw [← len_data, hSd]
  have HW : Hid (∀ W, Calls Tryz.prog 79 #[.string S] W fun e w' => ∃ v, e = .returned (.tuple #[v, .int .i64 (wholeE f.data : Int)]) ∧ w'.ownsRow W.heap.size tS 1 v (wholeP f.data).length (svs (wholeP f.data)) ∧ Keeps W w') := Lib.hid fun W => by
    refine (whole_any S W (by omega)).mono ?_
    rintro e w' ⟨xs, a, v, rfl, hd, ho, hk⟩
    rw [hSd] at hd
    obtain ⟨e1, e2⟩ := done_whole hd
    rw [← e1] at ho
    exact ⟨v, by rw [e2], ho, hk⟩
  have hsv : sv f.data = .string S := by unfold sv; rw [hS]
  rw [hsv] at HR
  obtain ⟨E, hE⟩ : ∃ E, wholeE f.data = E := ⟨_, rfl⟩
  obtain ⟨n, hn'⟩ : ∃ n, f.n = n := ⟨_, rfl⟩
  obtain ⟨N, hN⟩ : ∃ N, f.data.length = N := ⟨_, rfl⟩
  have HX : Hid (∀ v, ctOf f v = .agg #[.int .i64 n, v, .int .i64 (E : Int), .int .i64 (N : Int)]) := Lib.hid fun v => by unfold ctOf; rw [hE, hn', hN]
  rw [hn', hN] at HS HR
  rw [hn']
  rw [hE] at HW
  clear h hu hc hf ho hn hI hfind hlen hS hSd hSz hsv hE hn' hN
  unfold ptrV at *
  go_enter Tryz.func61, Tryz.ntmps61
  go_wp2_with fail
  refine (HS.out _ (keeps_lit _ _)).mono ?_
  rintro e w1 ⟨rfl, rfl⟩
  go_wp2_with fail
  refine (HR.out _ (keeps_lit _ _)).mono ?_
  rintro e w1 ⟨rfl, rfl⟩
  go_wp2_with fail
  refine (HW.out _).mono ?_
  rintro e w1 ⟨v, rfl, ho, hk⟩
  have hC : CtAt w1 w.heap.size (.int .i64 0) (.slice none 0 0) (.int .i64 0) (.int .i64 0) := CtAt.keeps (heap_alloc_new _ _) hk
  obtain ⟨c0, c1, c2, c3, fz⟩ := hC.cells
  have f0 := fz 0
  have f1 := fz 1
  have f2 := fz 2
  have f3 := fz 3
  obtain ⟨p, cp, rfl⟩ := own_shape ho
  have HO := Lib.hid ho
  have HK := Lib.hid hk
  have HC := Lib.hid hC
  clear ho hk hC fz
  go_wp2
  obtain ⟨e0, e1, e2, e3, _⟩ := (HC.out.set (.int .i64 n) (.slice p (wholeP f.data).length cp) (.int .i64 (E : Int)) (.int .i64 (N : Int))).cells
  refine bodyPost_ret (v := .tuple #[.agg #[.int .i64 n, .slice p (wholeP f.data).length cp, .int .i64 (E : Int), .int .i64 (N : Int)], .int .i64 0]) (by simp [results, Tryz.results61, go_sem, e0, e1, e2, e3]) rfl ?_
  have HB : Below w.heap.size w w1 := (keeps_lit w _).trans (HK.out.mono (by simp))
  refine ⟨_, by rw [HX.out], ?_, ?_⟩
  · refine own_base (B := (w.alloc (.cells #[.int .i64 0, .slice none 0 0, .int .i64 0, .int .i64 0] tCt)).heap.size) (HO.out.kept (set4_grown w1 w.heap.size _ _ _ _) (Or.inr fun e => ?_)) fun g hg => ?_
    · have := (HO.out.lt _ e).1
      rw [World.size_alloc] at this
      omega
    · have := (HO.out.lt g hg).1
      rw [World.size_alloc] at this
      omega
  · exact (((HB.setCell (p := ⟨w.heap.size, 0, none⟩) (Nat.le_refl _) _).setCell (p := ⟨w.heap.size, 1, none⟩) (Nat.le_refl _) _).setCell (p := ⟨w.heap.size, 2, none⟩) (Nat.le_refl _) _).setCell (p := ⟨w.heap.size, 3, none⟩) (Nat.le_refl _) _
end Go.Proofs.YtlaepdpgegoopaaGreat
namespace Go.Proofs.YtlaepdpgegoopaaGreat
open Go.ChangeShapes Go.WideShapes Go.ChangeAt Go.RowKit Go.Maps Csv Dk Jn

theorem info_step : (Tryz.prog.info? tStp).map (fun i => (i.zero, i.size, i.bytes)) = some (some .nilFunc, 1, 8) := by kernel_rfl
abbrev tSs : TypeId := 104
/-- Steps, gathered in a row of the call's own. -/
def RowS (G : List Nat) (B : Nat) (w : World) (v : Value) (l : List StepM) : Prop := ∃ us, w.ownsRow B tStp 1 v l.length us ∧ ∀ (j : Nat) (x : StepM), l[j]? = some x → ∃ u, us[j]? = some u ∧ StepAt G w u x
theorem RowS.nil (G : List Nat) (B : Nat) (w : World) : RowS G B w (.slice none 0 0) [] := ⟨[], World.ownsRow_nil _ _ _ _, fun j x hx => by simp at hx⟩
theorem RowS.keeps {G : List Nat} {B : Nat} {w w' : World} {v : Value} {l : List StepM} (h : RowS G B w v l) (k : Keeps w w') : RowS G B w' v l := by
  obtain ⟨us, h1, h2⟩ := h
  refine ⟨us, own_local h1 fun g hg => k.block g (h1.lt g hg).2, fun j x hx => ?_⟩
  obtain ⟨u, hu, hs⟩ := h2 j x hx
  exact ⟨u, hu, hs.goes (Frame.of_keeps k G) fun b hb => Or.inl hb⟩
theorem step_row {G : List Nat} {X Y : World} {row : Option Nat} {u : Value} {x : StepM} (h : StepAt G X u x) (hr : ∀ g, row = some g → ∃ c, X.heap[g]? = some (.cells c tStp (0, 0))) (hg : X.grownBy Y row) : StepAt G Y u x := by
  have ki : ∀ (a : Nat) (n : Int), BoxI X a n → BoxI Y a n := fun a n hb => (hg.block a (block_lt hb) fun e => by
    obtain ⟨c, hc⟩ := hr a e.symm
    exact tag_ne hb hc (by decide) rfl).trans hb
  have ks : ∀ (a : Nat) (s : ByteArray), BoxS X a s → BoxS Y a s := fun a s hb => (hg.block a (block_lt hb) fun e => by
    obtain ⟨c, hc⟩ := hr a e.symm
    exact tag_ne hb hc (by decide) rfl).trans hb
  cases x with
  | create n => obtain ⟨a, e, h1, h2, h3⟩ := h; exact ⟨a, e, h1, ki a n h2, h3⟩
  | add n s => obtain ⟨a, b, e, h1, h2, h3, h4, h5⟩ := h; exact ⟨a, b, e, h1, h2, ki a n h3, ks b s h4, h5⟩
  | sync n => obtain ⟨a, e, h1, h2, h3⟩ := h; exact ⟨a, e, h1, ki a n h2, h3⟩
  | trunc n s => obtain ⟨a, b, e, h1, h2, h3, h4, h5⟩ := h; exact ⟨a, b, e, h1, h2, ki a n h3, ki b s h4, h5⟩
  | del n => obtain ⟨a, e, h1, h2, h3⟩ := h; exact ⟨a, e, h1, ki a n h2, h3⟩
/-- Some steps more: us was there in w, X is the world in which they were laid, Y the one behind the append. -/
theorem RowS.more {G : List Nat} {B n : Nat} {w X Y : World} {v v' : Value} {l m : List StepM} {us vs : List Value} (h1 : w.ownsRow B tStp 1 v n us) (hn : l.length = n) (h2 : ∀ (j : Nat) (x : StepM), l[j]? = some x → ∃ u, us[j]? = some u ∧ StepAt G w u x) (k : Keeps w X)
    (hm : ∀ (j : Nat) (x : StepM), m[j]? = some x → ∃ u, vs[j]? = some u ∧ StepAt G X u x) (hl : vs.length = m.length) (hown : Y.ownsRow B tStp 1 v' (n + m.length) (us ++ vs)) (hg : X.grownBy Y v.ownBlock) : RowS G B Y v' (l ++ m) := by
  subst hn
  have hus : us.length = l.length := by have := h1.1; simpa using this
  have hr : ∀ g, v.ownBlock = some g → ∃ c, X.heap[g]? = some (.cells c tStp (0, 0)) := fun g e => by
    obtain ⟨c, hc⟩ := own_tag h1 e
    exact ⟨c, (k.block g (block_lt hc)).trans hc⟩
  refine ⟨us ++ vs, by rw [List.length_append]; exact hown, fun j x hx => ?_⟩
  by_cases hj : j < l.length
  · rw [List.getElem?_append_left hj] at hx
    obtain ⟨u, hu, hs⟩ := h2 j x hx
    exact ⟨u, by rw [List.getElem?_append_left (by omega)]; exact hu, step_row (hs.goes (Frame.of_keeps k G) fun b hb => Or.inl hb) hr hg⟩
  · rw [List.getElem?_append_right (by omega)] at hx
    obtain ⟨u, hu, hs⟩ := hm _ x hx
    exact ⟨u, by rw [List.getElem?_append_right (by omega), hus]; exact hu, step_row hs hr hg⟩
/-- The world behind such an append keeps what was there. -/
theorem own_grown_keeps {B : Nat} {w0 w X Y : World} {v : Value} {n : Nat} {us : List Value} (h1 : w.ownsRow B tStp 1 v n us) (k0 : Keeps w0 w) (hB : w0.heap.size ≤ B) (k : Keeps w X) (hg : X.grownBy Y v.ownBlock) : Keeps w0 Y := by
  have kX := k0.trans k
  exact Below.grown kX hg kX.size fun j hj => by have := (h1.lt j hj).1; omega
theorem RowS.steps {G : List Nat} {B : Nat} {w : World} {v : Value} {l : List StepM} (h : RowS G B w v l) (hG : ∀ b ∈ G, b < B) (hm : l.length ≤ 1000000) : StepsAt G w v l := by
  obtain ⟨us, h1, h2⟩ := h
  obtain ⟨p, c, rfl⟩ := own_shape h1
  refine ⟨p, c, rfl, hm, fun j x hx => ?_⟩
  obtain ⟨u, hu, hs⟩ := h2 j x hx
  have hj : j < l.length := (List.getElem?_eq_some_iff.1 hx).1
  rcases h1.2 with ⟨e, h0⟩ | ⟨g, cap, cur, e, hb, hg, _⟩
  · omega
  · cases e
    refine ⟨_, u, rfl, fun hm => ?_, ?_, hs⟩
    · have := hG g hm; omega
    · exact h1.cells rfl j u hu
/-- The steps as Open tells them. -/
theorem delsD_run : ∀ (ns : List Int) (x : Int × DiskM), delsD x ns = runS x (ns.map .del)
  | [], _ => rfl
  | n :: ns, x => delsD_run ns _
theorem nums_filter {l : List FileM} {k : Nat} {f : FileM} (hr : Rising l) (hk : l[k]? = some f) : (numsF l).filter (fun n => n != f.n) = others l k := by
  rw [nums_at hk, List.filter_append, List.filter_cons]
  unfold others
  simp only [bne_self_eq_false, Bool.false_eq_true, if_false]
  have hp := rising_nums.1 hr
  rw [nums_at hk, List.pairwise_append, List.pairwise_cons] at hp
  obtain ⟨_, ⟨h2, _⟩, h3⟩ := hp
  congr 1
  · refine List.filter_eq_self.2 fun n hn => ?_
    have := h3 n hn f.n (List.mem_cons_self ..)
    simp; omega
  · refine List.filter_eq_self.2 fun n hn => ?_
    have := h2 n hn
    simp; omega
end Go.Proofs.YtlaepdpgegoopaaGreat
