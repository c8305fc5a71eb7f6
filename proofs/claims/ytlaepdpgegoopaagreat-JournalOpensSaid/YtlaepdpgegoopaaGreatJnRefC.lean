
/- The document's journal: lay, fresh. The document's journal: Open. The document's journal: over, told, Append, Compact (of one that is not over). -/
import Derived.Test.YtlaepdpgegoopaaGreatRefMake
import Derived.Test.YtlaepdpgegoopaaGreatRecWholeR
import Derived.Test.YtlaepdpgegoopaaGreatJnMath
import Derived.Deep.RegionHeld3
import Derived.Deep.CutBlock
import Derived.Deep.DeepCutAuto
set_option linter.unusedVariables false
namespace Go.Proofs.YtlaepdpgegoopaaGreat
open Go.ChangeShapes Go.WideShapes Go.ChangeAt Go.RowKit Go.Maps Csv Dk Jn

abbrev tRj : TypeId := 47
def rjCells (r : Nat) (J : JM) (dead : Bool) : Array Value := #[ptrV r, .int .i64 J.file, .int .i64 (J.bytes : Int), .int .i64 (J.many : Int), .int .i64 J.starts, .bool dead]
def RJAt (w : World) (q r : Nat) (J : JM) (dead : Bool) : Prop := w.heap[q]? = some (.cells (rjCells r J dead) tRj (0, 0))
/-- Texts that are read, whatever becomes of these blocks. -/
def StaysS (X : List Nat) (w : World) (v : Value) (l : List Bs) : Prop := ∀ w', Frame X w w' → StrsAt w' v l
theorem RGoes.step {w w1 w2 : World} {r : Nat} {G G1 : List Nat} {D : DiskM} (f : Frame [r] w w1) (b : ∀ x ∈ G1, x ∈ G ∨ w.heap.size ≤ x) (g : RGoes w1 w2 G1 r D) : RGoes w w2 G r D := by
  obtain ⟨G2, g1, g2, g3⟩ := g
  refine ⟨G2, g1, f.trans g2 fun x hx => Or.inl hx, fun x hx => ?_⟩
  rcases g3 x hx with h | h
  · exact b x h
  · exact Or.inr (Nat.le_trans f.size h)
theorem RGoes.after {w w1 w2 : World} {r : Nat} {G : List Nat} {D : DiskM} (g : RGoes w w1 G r D) (k : Keeps w1 w2) : RGoes w w2 G r D := by
  obtain ⟨G1, i1, f1, b1⟩ := g
  exact RGoes.step f1 b1 (RGoes.same i1 k)
theorem IsRef.okay {w : World} {r : Nat} {D : DiskM} {G : List Nat} (h : IsRef w r D G) : Okay D := by
  obtain ⟨vL, vK, ks, h1, _⟩ := h; exact h1.okay

set_option maxRecDepth 100000 in
set_option maxHeartbeats 1000000 in
theorem rlay_any (r : Nat) (D : DiskM) (G : List Nat) (n : Int) (s : ByteArray) (w : World) (h : IsRef w r D G) (hn : I64 n) (hs : s.size ≤ maxLen) :
    Calls Tryz.prog 56 #[ptrV r, .int .i64 n, .string s] w fun e w' => e = .returned (.int .i64 (layD D n s.data.toList).1) ∧ RGoes w w' G r (layD D n s.data.toList).2 := by
  have c1 := rcreate_any r D G n w h hn
  obtain ⟨⟨q1, D1⟩, hx1⟩ : ∃ x, createD D n = x := ⟨_, rfl⟩
  have HL : Hid (layD D n s.data.toList = next (next (q1, D1) fun D => appendD D n s.data.toList) fun D => syncD D n) := Lib.hid (by rw [← hx1]; rfl)
  rw [hx1] at c1
  have C1 := Lib.hid c1
  have HN := Lib.hid hn
  have HS := Lib.hid hs
  clear c1 hx1 h hn hs
  unfold ptrV at *
  go_enter Tryz.func56, Tryz.ntmps56
  go_wp2_with fail
  refine C1.out.mono ?_
  rintro e w1 ⟨rfl, g1⟩
  by_cases h1 : q1 = 0
  · subst h1
    obtain ⟨G1, i1, f1, b1⟩ := g1
    have c2 := rappend_any r D1 G1 n s w1 i1 HS.out
    obtain ⟨⟨q2, D2⟩, hx2⟩ : ∃ x, appendD D1 n s.data.toList = x := ⟨_, rfl⟩
    have HL2 : Hid (layD D n s.data.toList = next (q2, D2) fun D => syncD D n) := Lib.hid (by rw [HL.out, next_ok, hx2])
    rw [hx2] at c2
    have C2 := Lib.hid c2
    have F1 := Lib.hid f1
    have B1 := Lib.hid b1
    clear c2 hx2 i1 f1 b1 C1 HL
    unfold ptrV at *
    go_wp2_with fail
    refine C2.out.mono ?_
    rintro e w2 ⟨rfl, g2⟩
    by_cases h2 : q2 = 0
    · subst h2
      obtain ⟨G2, i2, f2, b2⟩ := g2
      have c3 := rsync_any r D2 G2 n w2 i2
      obtain ⟨⟨q3, D3⟩, hx3⟩ : ∃ x, syncD D2 n = x := ⟨_, rfl⟩
      have HL3 : Hid (layD D n s.data.toList = (q3, D3)) := Lib.hid (by rw [HL2.out, next_ok, hx3])
      rw [hx3] at c3
      have C3 := Lib.hid c3
      have F2 := Lib.hid f2
      have B2 := Lib.hid b2
      clear c3 hx3 i2 f2 b2 C2 HL2
      unfold ptrV at *
      go_wp2_with fail
      refine C3.out.mono ?_
      rintro e w3 ⟨rfl, g3⟩
      have G3 := Lib.hid g3
      clear g3
      go_wp2
      go_ret
      rw [HL3.out]
      exact ⟨rfl, RGoes.step F1.out B1.out (RGoes.step F2.out B2.out G3.out)⟩
    · have t2 : (q2 == 0) = false := by simpa using h2
      have HL3 := Lib.hid (HL2.out.trans (next_no (x := (q2, D2)) h2))
      have G2 := Lib.hid g2
      clear g2 h2 C2 HL2
      go_wp2
      go_ret
      rw [HL3.out]
      exact ⟨rfl, RGoes.step F1.out B1.out G2.out⟩
  · have t1 : (q1 == 0) = false := by simpa using h1
    have HL3 : Hid (layD D n s.data.toList = (q1, D1)) := Lib.hid (by rw [HL.out, next_no (x := (q1, D1)) h1, next_no (x := (q1, D1)) h1])
    have G1 := Lib.hid g1
    clear g1 h1 C1 HL
    go_wp2
    go_ret
    rw [HL3.out]
    exact ⟨rfl, G1.out⟩

/-- What fresh tells. -/
def RFreshOut (D : DiskM) (r : Nat) (G : List Nat) (w : World) (e : Ending) (w' : World) : Prop :=
  (∃ x D', freshD D = (x, D') ∧ x ≠ 0 ∧ e = .returned (.tuple #[.pointer none, .int .i64 x]) ∧ RGoes w w' G r D') ∨
  (∃ D' q G', freshD D = (0, D') ∧ e = .returned (.tuple #[ptrV q, .int .i64 0]) ∧ IsRef w' r D' G' ∧ RJAt w' q r ⟨0, 8, 0, D'.starts⟩ false ∧ w.heap.size ≤ q ∧ q ∉ G' ∧ Frame [r] w w' ∧ ∀ b ∈ G', b ∈ G ∨ w.heap.size ≤ b)
theorem rec0 : (recB ⟨#[]⟩).size = 8 := by rw [recB_size]; rfl
/-- What lies behind the delete, or the disk as it was. -/
theorem fresh_box {w w2 : World} {r : Nat} {G : List Nat} {D' : DiskM} {st : Int} (g : RGoes w w2 G r D') (hs : D'.starts = st) :
    ∃ G', IsRef (w2.alloc (.cells #[.pointer (some ⟨r, 0, none⟩), .int .i64 0, .int .i64 8, .int .i64 0, .int .i64 st, .bool false] tRj)) r D' G' ∧
      RJAt (w2.alloc (.cells #[.pointer (some ⟨r, 0, none⟩), .int .i64 0, .int .i64 8, .int .i64 0, .int .i64 st, .bool false] tRj)) w2.heap.size r ⟨0, 8, 0, D'.starts⟩ false ∧ w.heap.size ≤ w2.heap.size ∧ w2.heap.size ∉ G' ∧
      Frame [r] w (w2.alloc (.cells #[.pointer (some ⟨r, 0, none⟩), .int .i64 0, .int .i64 8, .int .i64 0, .int .i64 st, .bool false] tRj)) ∧ ∀ b ∈ G', b ∈ G ∨ w.heap.size ≤ b := by
  obtain ⟨G', g1, g2, g3⟩ := g
  refine ⟨G', g1.keeps (keeps_lit _ _), ?_, g2.size, fun hx => ?_, g2.trans (Frame.of_keeps (keeps_lit _ _) [r]) fun x hx => Or.inl hx, g3⟩
  · subst hs
    exact heap_alloc_new _ _
  · have := g1.lt _ hx; omega
theorem IsRef.len {w : World} {r : Nat} {D : DiskM} {G : List Nat} (h : IsRef w r D G) : ∃ p c, w.cell? ⟨r, 1, none⟩ = some (.slice p D.files.length c) ∧ FilesAt w (.slice p D.files.length c) D.files ∧ D.files.length ≤ c ∧ w.cell? ⟨r, 2, none⟩ = some (.bool (!D.up)) ∧ w.cell? ⟨r, 3, none⟩ = some (.int .i64 D.starts) ∧
    ∀ w', Frame [r] w w' → FilesAt w' (.slice p D.files.length c) D.files := by
  obtain ⟨vL, vK, ks, h1, rfl⟩ := h
  obtain ⟨_, c1, c2, c3, _⟩ := h1.cells
  have hf := own_files h1.row
  have hst : ∀ w', Frame [r] w w' → FilesAt w' vL D.files := fun w' f => own_files (own_local h1.row fun g hg => by
    obtain ⟨c, hc⟩ := own_tag h1.row hg
    exact f.block g (block_lt hc) fun hx => by simp at hx; subst hx; exact h1.r_ne.1 hg)
  obtain ⟨p, c, rfl, hle, _⟩ := hf
  exact ⟨p, c, c1, own_files h1.row, hle, c2, c3, hst⟩

set_option maxRecDepth 100000 in
set_option maxHeartbeats 2000000 in
theorem rfresh_any (r : Nat) (D : DiskM) (G : List Nat) (w : World) (h : IsRef w r D G) :
    Calls Tryz.prog 39 #[ptrV r] w (RFreshOut D r G w) := by
  obtain ⟨p, c, c1, _, _, _⟩ := h.len
  have HI := Lib.hid h
  obtain ⟨N, hN⟩ : ∃ N, D.files.length = N := ⟨_, rfl⟩
  have hmany := h.okay.many
  rw [hN] at c1 hmany
  obtain ⟨R8, hR8⟩ : ∃ R8, recB ⟨#[]⟩ = R8 := ⟨_, rfl⟩
  have hR8s : R8.size = 8 := by rw [← hR8]; exact rec0
  have HR := Lib.hid (show R8.data.toList = Rc.recL [] from by rw [← hR8, recB_data])
  have HRS := Lib.hid (show R8.size ≤ maxLen from by unfold maxLen; omega)
  have CP := Lib.hid fun W : World => rrecPut_any ⟨#[]⟩ W (by decide)
  rw [hR8] at CP
  have HN := Lib.hid hN
  have cl : ∀ D1 W, RGoes w W G r D1 → Calls Tryz.prog 56 #[ptrV r, .int .i64 0, .string R8] W fun e w' => e = .returned (.int .i64 (layD D1 0 (Rc.recL [])).1) ∧ RGoes w w' G r (layD D1 0 (Rc.recL [])).2 := fun D1 W g => by
    obtain ⟨G1, i1, f1, b1⟩ := g
    rw [← HR.out]
    refine (rlay_any r D1 G1 0 R8 W i1 (by unfold I64 top; omega) HRS.out).mono ?_
    rintro e w' ⟨rfl, g⟩
    exact ⟨rfl, RGoes.step f1 b1 g⟩
  have CL := Lib.hid cl
  clear cl hR8 hN h
  by_cases h0 : N = 0
  · have hf : D.files = [] := List.length_eq_zero_iff.1 (by rw [HN.out]; exact h0)
    have HF : Hid (freshD D = layD D 0 (Rc.recL [])) := Lib.hid (by unfold freshD; rw [if_pos hf, next_ok])
    have t0 : decide ((0 : Int) < (N : Int)) = false := decide_eq_false (by omega)
    have t0n : decide (0 < N) = false := decide_eq_false (by omega)
    have GA := Lib.hid (RGoes.same HI.out (Keeps.refl w))
    clear hf h0
    unfold ptrV at *
    go_enter Tryz.func39, Tryz.ntmps39
    go_wp2_with fail
    refine (CP.out _).mono ?_
    rintro e w1 ⟨rfl, k1⟩
    have GB := Lib.hid (RGoes.after GA.out k1)
    clear k1
    have c2 := CL.out D w1 GB.out
    obtain ⟨⟨q2, D2⟩, hx2⟩ : ∃ x, layD D 0 (Rc.recL []) = x := ⟨_, rfl⟩
    have HFR := Lib.hid (HF.out.trans hx2)
    rw [hx2] at c2
    have C2 := Lib.hid c2
    clear c2 hx2
    unfold ptrV at *
    go_wp2_with fail
    refine C2.out.mono ?_
    rintro e w2 ⟨rfl, g2⟩
    by_cases h2 : q2 = 0
    · subst h2
      have GG := Lib.hid g2
      obtain ⟨G', i', f', b'⟩ := g2
      obtain ⟨_, _, _, _, _, _, c3, _⟩ := i'.len
      obtain ⟨st, hst⟩ : ∃ st, D2.starts = st := ⟨_, rfl⟩
      have FB := Lib.hid (fresh_box GG.out hst)
      rw [hst] at c3
      clear i' f' b' hst C2
      go_wp2
      go_ret2
      obtain ⟨G'', a1, a2, a3, a4, a5, a6⟩ := FB.out
      exact Or.inr ⟨D2, _, G'', HFR.out, rfl, a1, a2, a3, a4, a5, a6⟩
    · have t2 : (q2 == 0) = false := by simpa using h2
      have t3 : (q2 != 0) = true := by simpa using h2
      have G2 := Lib.hid g2
      have H2 := Lib.hid h2
      clear g2 h2 C2
      go_wp2
      go_ret2
      exact Or.inl ⟨q2, D2, HFR.out, H2.out, rfl, G2.out⟩
  · have hne : D.files ≠ [] := fun e => h0 (by rw [← HN.out, e]; rfl)
    have HF0 : Hid (freshD D = next (deleteD D 0) fun D => layD D 0 (Rc.recL [])) := Lib.hid (by unfold freshD; rw [if_neg hne])
    have t0 : decide ((0 : Int) < (N : Int)) = true := decide_eq_true (by omega)
    have t0n : decide (0 < N) = true := decide_eq_true (by omega)
    have cd := rdelete_any r D G 0 w HI.out
    obtain ⟨⟨q1, D1⟩, hx⟩ : ∃ x, deleteD D 0 = x := ⟨_, rfl⟩
    rw [hx] at cd HF0
    have CD := Lib.hid cd
    clear cd hx hne h0
    unfold ptrV at *
    go_enter Tryz.func39, Tryz.ntmps39
    go_wp2_with fail
    refine CD.out.mono ?_
    rintro e wd ⟨rfl, gd⟩
    have GA := Lib.hid gd
    clear gd CD
    by_cases h1 : q1 = 0
    · subst h1
      have HF := Lib.hid (HF0.out.trans next_ok)
      clear HF0
      go_wp2_with fail
      refine (CP.out _).mono ?_
      rintro e w1 ⟨rfl, k1⟩
      have GB := Lib.hid (RGoes.after GA.out k1)
      clear k1
      have c2 := CL.out D1 w1 GB.out
      obtain ⟨⟨q2, D2⟩, hx2⟩ : ∃ x, layD D1 0 (Rc.recL []) = x := ⟨_, rfl⟩
      have HFR := Lib.hid (HF.out.trans hx2)
      rw [hx2] at c2
      have C2 := Lib.hid c2
      clear c2 hx2
      unfold ptrV at *
      go_wp2_with fail
      refine C2.out.mono ?_
      rintro e w2 ⟨rfl, g2⟩
      by_cases h2 : q2 = 0
      · subst h2
        have GG := Lib.hid g2
        obtain ⟨G', i', f', b'⟩ := g2
        obtain ⟨_, _, _, _, _, _, c3, _⟩ := i'.len
        obtain ⟨st, hst⟩ : ∃ st, D2.starts = st := ⟨_, rfl⟩
        have FB := Lib.hid (fresh_box GG.out hst)
        rw [hst] at c3
        clear i' f' b' hst C2
        go_wp2
        go_ret2
        obtain ⟨G'', a1, a2, a3, a4, a5, a6⟩ := FB.out
        exact Or.inr ⟨D2, _, G'', HFR.out, rfl, a1, a2, a3, a4, a5, a6⟩
      · have t2 : (q2 == 0) = false := by simpa using h2
        have t3 : (q2 != 0) = true := by simpa using h2
        have G2 := Lib.hid g2
        have H2 := Lib.hid h2
        clear g2 h2 C2
        go_wp2
        go_ret2
        exact Or.inl ⟨q2, D2, HFR.out, H2.out, rfl, G2.out⟩
    · have t1 : (q1 == 0) = false := by simpa using h1
      have t2 : (q1 != 0) = true := by simpa using h1
      have HF := Lib.hid (HF0.out.trans (next_no (x := (q1, D1)) h1))
      have H1 := Lib.hid h1
      clear HF0 h1
      go_wp2_with fail
      refine (CP.out _).mono ?_
      rintro e w1 ⟨rfl, k1⟩
      have GB := Lib.hid (RGoes.after GA.out k1)
      clear k1
      go_wp2
      go_ret2
      exact Or.inl ⟨q1, D1, HF.out, H1.out, rfl, GB.out⟩
end Go.Proofs.YtlaepdpgegoopaaGreat
namespace Go.Proofs.YtlaepdpgegoopaaGreat
open Go.ChangeShapes Go.WideShapes Go.ChangeAt Go.RowKit Go.Maps Csv Dk Jn

theorem addr_zero (a : Addr) : a.add 0 = a := by simp [Addr.add]
theorem results_tmp4 {fn : Func} {t u v x : Tmp} (h : fn.results = #[.tmp t, .tmp u, .tmp v, .tmp x]) (tmps : Array Value) (P : Program) (w : World) :
    (results fn tmps).run P w = .ok (.tuple #[tmps.getD t undef, tmps.getD u undef, tmps.getD v undef, tmps.getD x undef]) w := by
  simp [results, h]
def ROpenOut (D : DiskM) (r : Nat) (G : List Nat) (w : World) (e : Ending) (w' : World) : Prop :=
  (∃ x D', openD D = ((x, D'), none) ∧ x ≠ 0 ∧ e = .returned (.tuple #[.pointer none, .string ⟨#[]⟩, .slice none 0 0, .int .i64 x]) ∧ RGoes w w' G r D') ∨
  (∃ D' J s l q v G', openD D = ((0, D'), some (J, s :: l)) ∧ e = .returned (.tuple #[ptrV q, sv s, v, .int .i64 0]) ∧ IsRef w' r D' G' ∧ RJAt w' q r J false ∧ StaysS (q :: G') w' v l ∧ w.heap.size ≤ q ∧ q ∉ G' ∧ Frame [r] w w' ∧ ∀ b ∈ G', b ∈ G ∨ w.heap.size ≤ b)
/-- What the search has found among the first k. -/
def Found (L : List FileM) (w wr : World) (k : Nat) (va ve vl : Value) : Prop :=
  va = .int .i64 (posI (lastW L k)) ∧ ((lastW L k = none ∧ ve = .int .i64 0 ∧ vl = .slice none 0 0) ∨
    ∃ a f, lastW L k = some a ∧ L[a]? = some f ∧ ve = .int .i64 (wholeE f.data : Int) ∧ wr.ownsRow w.heap.size tS 1 vl (wholeP f.data).length (svs (wholeP f.data)))
theorem Found.next {L : List FileM} {w wr w1 : World} {k : Nat} {va ve vl v : Value} {f : FileM} {xs : List (List UInt8 × Nat)} {e : Nat} (h : Found L w wr k va ve vl) (hk : L[k]? = some f) (hd : Rc.Done f.data xs e) (ho : w1.ownsRow wr.heap.size tS 1 v (Rc.pays xs).length (svs (Rc.pays xs))) (k0 : Keeps w wr) (k1 : Keeps wr w1) :
    ((Rc.pays xs).length = 0 → Found L w w1 (k + 1) va ve vl) ∧ (0 < (Rc.pays xs).length → Found L w w1 (k + 1) (.int .i64 (k : Int)) (.int .i64 (e : Int)) v) := by
  obtain ⟨e1, e2⟩ := done_whole hd
  have hw := whole_iff f.data
  rw [e1] at hw
  constructor
  · intro h0
    have hg : ¬ Rc.gB f.data = true := fun hg => (hw.2 hg) (List.length_eq_zero_iff.1 h0)
    have hl : lastW L (k + 1) = lastW L k := by rw [lastW, hk]; simp only; rw [if_neg hg]
    unfold Found at h ⊢
    rw [hl]
    obtain ⟨h1, h2⟩ := h
    refine ⟨h1, ?_⟩
    rcases h2 with h2 | ⟨a, g, a1, a2, a3, a4⟩
    · exact Or.inl h2
    · exact Or.inr ⟨a, g, a1, a2, a3, own_keeps a4 k1⟩
  · intro h0
    have hg : Rc.gB f.data = true := hw.1 fun e => by rw [e] at h0; simp at h0
    have hl : lastW L (k + 1) = some k := by rw [lastW, hk]; simp only; rw [if_pos hg]
    unfold Found
    rw [hl]
    refine ⟨rfl, Or.inr ⟨k, f, rfl, hk, by rw [e2], ?_⟩⟩
    rw [e1]
    exact own_base ho fun g hg => by have := (ho.lt g hg).1; have := k0.size; omega
theorem found_zero (L : List FileM) (w : World) : Found L w w 0 (.int .i64 (-1)) (.int .i64 0) (.slice none 0 0) := ⟨rfl, Or.inl ⟨rfl, rfl, rfl⟩⟩

/-- The others among the first k. -/
def othersTo (l : List FileM) (a k : Nat) : List Int := if k ≤ a then numsF (l.take k) else numsF (l.take a) ++ numsF ((l.take k).drop (a + 1))
theorem othersTo_zero (l : List FileM) (a : Nat) : othersTo l a 0 = [] := by unfold othersTo numsF; simp
theorem othersTo_all (l : List FileM) (a : Nat) (h : a < l.length) : othersTo l a l.length = others l a := by unfold othersTo others; rw [if_neg (by omega), List.take_length]
theorem othersTo_skip (l : List FileM) (a : Nat) (h : a < l.length) : othersTo l a (a + 1) = othersTo l a a := by
  unfold othersTo
  rw [if_neg (by omega), if_pos (Nat.le_refl _)]
  have : (l.take (a + 1)).drop (a + 1) = [] := List.drop_eq_nil_of_le (by rw [List.length_take]; omega)
  rw [this]; simp [numsF]
theorem othersTo_snoc (l : List FileM) (a k : Nat) {f : FileM} (hk : l[k]? = some f) (hne : k ≠ a) : othersTo l a (k + 1) = othersTo l a k ++ [f.n] := by
  have et : l.take (k + 1) = l.take k ++ [f] := by rw [List.take_add_one, hk]; rfl
  have hl := (List.getElem?_eq_some_iff.1 hk).1
  unfold othersTo
  by_cases h : k < a
  · rw [if_pos (by omega), if_pos (by omega), et]; simp [numsF]
  · rw [if_neg (by omega), if_neg (by omega), et, List.drop_append_of_le_length (by rw [List.length_take]; omega)]
    simp [numsF]
theorem dels_append (x : Int × DiskM) (a b : List Int) : delsD x (a ++ b) = delsD (delsD x a) b := by
  induction a generalizing x with
  | nil => rfl
  | cons n a ih => rw [List.cons_append, delsD, delsD, ih]
theorem dels_snoc (x : Int × DiskM) (a : List Int) (n : Int) : delsD x (a ++ [n]) = next (delsD x a) fun D => deleteD D n := by rw [dels_append]; rfl
/-- Where one failed, the others are not tried. -/
theorem dels_stop {l : List FileM} {a k : Nat} {x y : Int × DiskM} (ha : a < l.length) (hk : k ≤ l.length) (h : delsD x (othersTo l a k) = y) (hy : y.1 ≠ 0) : delsD x (others l a) = y := by
  have : ∃ rest, others l a = othersTo l a k ++ rest := by
    rw [← othersTo_all l a ha]
    unfold othersTo
    by_cases h1 : k ≤ a
    · rw [if_pos h1, if_neg (by omega)]
      refine ⟨numsF ((l.take a).drop k) ++ numsF ((l.take l.length).drop (a + 1)), ?_⟩
      rw [← List.append_assoc]
      congr 1
      unfold numsF
      rw [← List.map_append]
      congr 1
      conv => lhs; rw [← List.take_append_drop k (l.take a)]
      rw [List.take_take, Nat.min_eq_left h1]
    · rw [if_neg h1, if_neg (by omega)]
      refine ⟨numsF (l.drop k), ?_⟩
      rw [List.append_assoc]
      congr 1
      unfold numsF
      rw [← List.map_append]
      congr 1
      rw [List.take_length]
      conv => lhs; rw [← List.take_append_drop k l]
      rw [List.drop_append_of_le_length (by rw [List.length_take]; omega)]
  obtain ⟨rest, hr⟩ := this
  rw [hr, dels_append, h]
  exact dels_no hy rest

theorem IsRef.files {w : World} {r : Nat} {D : DiskM} {G : List Nat} (h : IsRef w r D G) : ∃ p c, w.cell? ⟨r, 1, none⟩ = some (.slice p D.files.length c) ∧ D.files.length ≤ c ∧ D.files.length ≤ 100 ∧ ∀ w', Frame [r] w w' → ∀ j f, D.files[j]? = some f →
    ∃ a : Addr, p = some a ∧ w'.cell? (a.add (j * 3)) = some (.int .i64 f.n) ∧ w'.cell? ⟨(a.add (j * 3)).block, (a.add (j * 3)).off + 1, none⟩ = some (sv f.data) := by
  obtain ⟨p, c, c1, _, hle, _, _, hst⟩ := h.len
  refine ⟨p, c, c1, hle, h.okay.many, fun w' f j g hg => ?_⟩
  obtain ⟨p', c', e, _, _, hL⟩ := hst w' f
  cases e
  obtain ⟨a, ha, q0, q1, _⟩ := hL j g hg
  exact ⟨a, ha, q0, q1⟩
theorem file_small {D : DiskM} (h : Okay D) (hc : D.cap ≤ 1000000) {f : FileM} (hf : f ∈ D.files) : f.data.length ≤ 1000000 := by
  have := used_mem hf
  have := h.room
  omega
theorem broken_one {f : FileM} : broken [f] = (f.n != 0) := rfl
theorem broken_many {l : List FileM} (h : 2 ≤ l.length) : broken l = true := by
  match l, h with
  | _ :: _ :: _, _ => rfl
theorem RFreshOut.open {D : DiskM} {r : Nat} {G : List Nat} {w w1 w2 : World} {e : Ending} (h : RFreshOut D r G w1 e w2) (k : Keeps w w1) (hl : lastW D.files D.files.length = none) (hb : broken D.files = false) :
    ∃ v x, e = .returned (.tuple #[v, .int .i64 x]) ∧ ROpenOut D r G w (.returned (.tuple #[v, .string ⟨#[]⟩, .slice none 0 0, .int .i64 x])) w2 := by
  have ho : openD D = (freshD D, if (freshD D).1 = 0 then some (⟨0, 8, 0, (freshD D).2.starts⟩, [[]]) else none) := by
    unfold openD; rw [hl]; simp only; rw [if_neg (by rw [hb]; decide)]
  rcases h with ⟨x, D', h1, h2, rfl, h4⟩ | ⟨D', q, G', h1, rfl, h3, h4, h5, h6, h7, h8⟩
  · refine ⟨_, _, rfl, Or.inl ⟨x, D', ?_, h2, rfl, RGoes.step (Frame.of_keeps k [r]) (fun x hx => Or.inl hx) h4⟩⟩
    rw [ho, h1, if_neg h2]
  · refine ⟨_, _, rfl, Or.inr ⟨D', _, [], [], q, .slice none 0 0, G', ?_, rfl, h3, h4, fun w' _ => StrsAt.nil w', Nat.le_trans k.size h5, h6, (Frame.of_keeps k [r]).trans h7 fun x hx => Or.inl hx, fun b hb => ?_⟩⟩
    · rw [ho, h1, if_pos rfl]
    · rcases h8 b hb with h | h
      · exact Or.inl h
      · exact Or.inr (Nat.le_trans k.size h)
theorem addr_one (g j : Nat) : (⟨g, 1, none⟩ : Addr).add j = ⟨g, j + 1, none⟩ := by
  by_cases h : j = 0
  · subst h; rfl
  · simp [Addr.add, h, Nat.add_comm]
/-- The row behind its head. -/
theorem head_tail {w : World} {B n c : Nat} {p : Option Addr} {s : Bs} {l : List Bs} (h : w.ownsRow B tS 1 (.slice p n c) n (svs (s :: l))) (hn : n = l.length + 1) :
    ∃ g, p = some ⟨g, 0, none⟩ ∧ B ≤ g ∧ g < w.heap.size ∧ n ≤ c ∧ c ≤ maxLen ∧ ∀ X w', Frame X w w' → g ∉ X → w'.cell? ⟨g, 0, none⟩ = some (sv s) ∧ StrsAt w' (tailV g n c) l := by
  have hh := h
  rcases h.2 with ⟨e, h0⟩ | ⟨g, cap, cur, e, hb, hg, r1, r2, r3, r4⟩
  · omega
  · cases e
    refine ⟨g, rfl, hb, block_lt hg, r1, r2, fun X w' f hx => ?_⟩
    have hh' : w'.ownsRow B tS 1 (.slice (some ⟨g, 0, none⟩) n c) n (svs (s :: l)) := own_local hh fun g' hg' => by
      cases hg'
      exact f.block g (block_lt hg) hx
    have hc := hh'.cells (g := g) rfl
    refine ⟨hc 0 (sv s) rfl, ?_⟩
    unfold tailV
    split
    · have hl0 : l = [] := List.length_eq_zero_iff.1 (by omega)
      subst hl0
      exact ⟨_, _, by rw [hn]; rfl, by simp [maxLen], fun j x hx => by simp at hx⟩
    · refine ⟨_, _, by rw [hn]; rfl, by unfold maxLen at r2 ⊢; omega, fun j x hx => ⟨_, rfl, ?_⟩⟩
      have := hc (j + 1) (sv x) (by simp [svs, hx])
      rw [← this, addr_of, addr_one]

theorem keeps_boxed (w : World) (o : Obj) : Keeps w (w.alloc o).drew := (keeps_lit w o).trans ⟨rfl, rfl, rfl, Nat.le_refl _, fun _ _ => rfl⟩
theorem stays_tail {w w1 w2 : World} {r g n c : Nat} {D : DiskM} {G G' : List Nat} {s : Bs} {l : List Bs} {o : Obj} (hI : IsRef w r D G) (f : Frame [r] w1 w2) (b : ∀ x ∈ G', x ∈ G ∨ w1.heap.size ≤ x) (hB : w.heap.size ≤ g) (hl : g < w1.heap.size)
    (H : ∀ X w', Frame X w1 w' → g ∉ X → w'.cell? ⟨g, 0, none⟩ = some (sv s) ∧ StrsAt w' (tailV g n c) l) : StaysS (w2.heap.size :: G') (w2.alloc o).drew (tailV g n c) l := by
  intro w' hf
  have hs := f.size
  have f2 : Frame (r :: w2.heap.size :: G') w1 w' := ((f.mono (G1 := r :: w2.heap.size :: G') fun x hx => by simp at hx; simp [hx]).trans (Frame.of_keeps (keeps_boxed w2 o) (r :: w2.heap.size :: G')) fun x hx => Or.inl hx).trans hf fun x hx => Or.inl (by simp at hx ⊢; exact Or.inr hx)
  refine (H _ w' f2 fun hx => ?_).2
  have hr := hI.lt r hI.mem
  simp only [List.mem_cons] at hx
  rcases hx with hx | hx | hx
  · omega
  · omega
  · rcases b g hx with h1 | h1
    · have := hI.lt g h1; omega
    · omega
set_option maxRecDepth 100000 in
set_option maxHeartbeats 4000000 in
theorem ropen_any (r : Nat) (D : DiskM) (G : List Nat) (w : World) (h : IsRef w r D G) (hu : D.up = true) (hcap : D.cap ≤ 1000000) :
    Calls Tryz.prog 12 #[ptrV r] w (ROpenOut D r G w) := by
  obtain ⟨p, c, c1, hle, hmany, hL⟩ := h.files
  obtain ⟨_, _, z1, _, _, c2, c3, _⟩ := h.len
  clear z1
  rw [hu] at c2
  have c2' : w.cell? ⟨r, 2, none⟩ = some (.bool false) := c2
  have HI := Lib.hid h
  have HL := Lib.hid hL
  have HS := Lib.hid fun (j : Nat) (f : FileM) (hj : D.files[j]? = some f) => file_small h.okay hcap (List.mem_of_getElem? hj)
  obtain ⟨N, hN⟩ : ∃ N, D.files.length = N := ⟨_, rfl⟩
  rw [hN] at c1 hle hmany
  have HN := Lib.hid hN
  have HU := Lib.hid hu
  clear h hL hN hu c2 c3 hcap
  unfold ptrV at *
  go_enter Tryz.func12, Tryz.ntmps12
  go_wp2
  go_loopw [7, 8, 9, 10] (fun va ve vl vi wr => ∃ k : Nat, k ≤ N ∧ vi = .int .i64 (k : Int) ∧ Keeps w wr ∧ Found D.files w wr k va ve vl) (fun _ _ _ vi _ => N - (intOf vi).toNat)
  case atStart => exact ⟨0, by omega, rfl, Keeps.refl _, found_zero _ _⟩
  case round =>
    obtain ⟨k, hk, rfl, hkw, hfd⟩ := hrel
    have HK := Lib.hid hkw
    have HFD := Lib.hid hfd
    clear hkw hfd
    by_cases hlt : k < N
    · obtain ⟨f, hf⟩ : ∃ f, D.files[k]? = some f := ⟨_, List.getElem?_eq_getElem (by have := HN.out; omega)⟩
      obtain ⟨a, rfl, _, q1⟩ := HL.out wr (Frame.of_keeps HK.out [r]) k f hf
      have hi1 : (k : Int) < (N : Int) := by omega
      obtain ⟨T, hT⟩ : ∃ T : ByteArray, (⟨f.data.toArray⟩ : ByteArray) = T := ⟨_, rfl⟩
      have hTs := HS.out k f hf
      have hTd : T.data.toList = f.data := by rw [← hT]
      have CW := Lib.hid (rwhole_any T wr (by rw [← len_data, hTd]; exact hTs))
      have HF := Lib.hid hf
      have HTD := Lib.hid hTd
      unfold sv at q1
      rw [hT] at q1
      clear hf hTs hTd hT
      go_wp2_with fail
      refine CW.out.mono ?_
      rintro e w1 ⟨xs, E, v, rfl, hd, ho, hk1⟩
      rw [HTD.out] at hd
      have hnx := HFD.out.next HF.out hd ho HK.out hk1
      have HKK := Lib.hid (HK.out.trans hk1)
      obtain ⟨p5, c5, rfl⟩ := own_shape ho
      obtain ⟨n, hn⟩ : ∃ n, (Rc.pays xs).length = n := ⟨_, rfl⟩
      rw [hn] at hnx ⊢
      have HNX := Lib.hid hnx
      clear hd ho hk1 hn hnx
      by_cases h0 : n = 0
      · have t0 : decide ((0 : Int) < (n : Int)) = false := decide_eq_false (by omega)
        have t0n : decide (0 < n) = false := decide_eq_false (by omega)
        have HQ := Lib.hid (HNX.out.1 h0)
        clear h0 HNX
        go_wp2
        go_roundw
        case rel => exact ⟨k + 1, by omega, by go_num, HKK.out, HQ.out⟩
        case measure => simp [intOf]; omega
      · have t0 : decide ((0 : Int) < (n : Int)) = true := decide_eq_true (by omega)
        have t0n : decide (0 < n) = true := decide_eq_true (by omega)
        have HQ := Lib.hid (HNX.out.2 (by omega))
        clear h0 HNX
        go_wp2
        go_roundw
        case rel => exact ⟨k + 1, by omega, by go_num, HKK.out, HQ.out⟩
        case measure => simp [intOf]; omega
    · obtain rfl : k = N := by omega
      have hz : ¬ ((k : Int) < (k : Int)) := by omega
      have HFE : Hid (Found D.files w wr D.files.length u7 u8 u9) := Lib.hid (by rw [HN.out]; exact HFD.out)
      obtain ⟨e1, hcase⟩ := HFD.out
      rcases hcase with ⟨hln, rfl, rfl⟩ | ⟨A, f, hA, hf, rfl, ho⟩
      · rw [hln] at e1
        have e1' : u7 = .int .i64 (-1) := e1
        subst e1'
        have HLN : Hid (lastW D.files D.files.length = none) := Lib.hid (by rw [HN.out]; exact hln)
        clear hln e1 HFD HFE
        by_cases hb : broken D.files = true
        · have HB := Lib.hid (show openD D = ((63, D), none) by unfold openD; rw [HLN.out]; simp only; rw [if_pos hb])
          have GG := Lib.hid (RGoes.same HI.out HK.out)
          by_cases h2 : 2 ≤ k
          · have t1 : decide ((1 : Int) < (k : Int)) = true := decide_eq_true (by omega)
            have t1n : decide (1 < k) = true := decide_eq_true (by omega)
            clear hb
            go_wp2
            (try simp only [Exit.inBlock, Exit.then])
            refine bodyPost_ret (results_tmp4 rfl _ _ _) rfl ?_
            exact Or.inl ⟨63, D, HB.out, by decide, rfl, GG.out⟩
          · have t1 : decide ((1 : Int) < (k : Int)) = false := decide_eq_false (by omega)
            have t1n : decide (1 < k) = false := decide_eq_false (by omega)
            obtain ⟨f0, hf0⟩ : ∃ f, D.files = [f] := by
              have hl := HN.out
              match hd : D.files, hb with
              | [], hb => cases hb
              | [f], _ => exact ⟨f, rfl⟩
              | _ :: _ :: _, _ => rw [hd] at hl; simp at hl; omega
            have hk1 : k = 1 := by have := HN.out; rw [hf0] at this; simpa using this.symm
            have hn0 : ¬ f0.n = 0 := by rw [hf0, broken_one] at hb; simpa using hb
            obtain ⟨a, rfl, q0, _⟩ := HL.out wr (Frame.of_keeps HK.out [r]) 0 f0 (by rw [hf0]; rfl)
            rw [Nat.zero_mul, addr_zero] at q0
            obtain ⟨m, hm⟩ : ∃ m, f0.n = m := ⟨_, rfl⟩
            rw [hm] at hn0 q0
            have t2 : ((k : Int) == 1) = true := by rw [hk1]; rfl
            have t2n : (k == 1) = true := by rw [hk1]; rfl
            have t3 : (m != 0) = true := by simpa using hn0
            have hk0 : 0 < k := by omega
            clear hb hf0 hk1 hn0 hm h2
            go_wp2
            (try simp only [Exit.inBlock, Exit.then])
            refine bodyPost_ret (results_tmp4 rfl _ _ _) rfl ?_
            exact Or.inl ⟨63, D, HB.out, by decide, rfl, GG.out⟩
        · have hb' : broken D.files = false := by simpa using hb
          have CF := Lib.hid ((rfresh_any r D G wr (HI.out.keeps HK.out)).mono fun e w2 hf => RFreshOut.open hf HK.out HLN.out hb')
          have h2 : ¬ 2 ≤ k := fun h => by rw [broken_many (by rw [HN.out]; exact h)] at hb'; cases hb'
          have t1 : decide ((1 : Int) < (k : Int)) = false := decide_eq_false (by omega)
          have t1n : decide (1 < k) = false := decide_eq_false (by omega)
          by_cases hk0 : k = 0
          · have t2 : ((k : Int) == 1) = false := by rw [hk0]; rfl
            have t2n : (k == 1) = false := by rw [hk0]; rfl
            clear hb hb' h2 hk0
            unfold ptrV at *
            go_wp2_with fail
            refine CF.out.mono ?_
            rintro e w2 ⟨v, x, rfl, ho⟩
            have HO := Lib.hid ho
            clear ho CF
            go_wp2
            (try simp only [Exit.inBlock, Exit.then])
            refine bodyPost_ret (results_tmp4 rfl _ _ _) rfl ?_
            exact HO.out
          · obtain ⟨f0, hf0⟩ : ∃ f, D.files = [f] := by
              have hl := HN.out
              match hd : D.files with
              | [] => rw [hd] at hl; simp at hl; omega
              | [f] => exact ⟨f, rfl⟩
              | _ :: _ :: _ => rw [hd] at hl; simp at hl; omega
            have hn0 : f0.n = 0 := by rw [hf0, broken_one] at hb'; simpa using hb'
            have hk1 : k = 1 := by omega
            obtain ⟨a, rfl, q0, _⟩ := HL.out wr (Frame.of_keeps HK.out [r]) 0 f0 (by rw [hf0]; rfl)
            rw [Nat.zero_mul, addr_zero, hn0] at q0
            have t2 : ((k : Int) == 1) = true := by rw [hk1]; rfl
            have t2n : (k == 1) = true := by rw [hk1]; rfl
            have hk00 : 0 < k := by omega
            clear hb hb' h2 hk0 hf0 hn0 hk1
            unfold ptrV at *
            go_wp2_with fail
            refine CF.out.mono ?_
            rintro e w2 ⟨v, x, rfl, ho⟩
            have HO := Lib.hid ho
            clear ho CF
            go_wp2
            (try simp only [Exit.inBlock, Exit.then])
            refine bodyPost_ret (results_tmp4 rfl _ _ _) rfl ?_
            exact HO.out
      · have HFE2 := HFE
        clear HFE2
        rw [hA] at e1
        have e1' : u7 = .int .i64 (A : Int) := e1
        subst e1'
        have hAlt := lastW_lt D.files k (by rw [HN.out]; exact Nat.le_refl _) A hA
        have HLA : Hid (lastW D.files D.files.length = some A) := Lib.hid (by rw [HN.out]; exact hA)
        obtain ⟨a, rfl, q0, q1⟩ := HL.out wr (Frame.of_keeps HK.out [r]) A f hf
        have HF := Lib.hid hf
        have HR := Lib.hid ho
        obtain ⟨p5, c5, rfl⟩ := own_shape ho
        clear HR
        obtain ⟨m, hm⟩ : ∃ m, f.n = m := ⟨_, rfl⟩
        rw [hm] at q0
        obtain ⟨T, hT⟩ : ∃ T : ByteArray, (⟨f.data.toArray⟩ : ByteArray) = T := ⟨_, rfl⟩
        have hTs : f.data.length = T.size := by rw [← hT, size_mk]
        unfold sv at q1
        rw [hT] at q1
        obtain ⟨E, hE⟩ : ∃ E, wholeE f.data = E := ⟨_, rfl⟩
        have hET : E ≤ T.size := by rw [← hE, ← hTs]; exact wholeE_le _
        have hT9 : T.size ≤ 1000000 := by rw [← hTs]; exact HS.out A f hf
        rw [hE]
        obtain ⟨s, l, hsl⟩ : ∃ s l, wholeP f.data = s :: l := by
          obtain ⟨f', hf1, hf2⟩ := lastW_some HLA.out
          rw [HF.out] at hf1
          cases hf1
          have hne := (whole_iff f.data).2 (best_mem hf2).2
          match hw : wholeP f.data, hne with
          | s :: l, _ => exact ⟨s, l, rfl⟩
        obtain ⟨n, hn⟩ : ∃ n, (wholeP f.data).length = n := ⟨_, rfl⟩
        have hnl : n = l.length + 1 := by rw [← hn, hsl]; rfl
        rw [hn]
        have ho' := ho
        rw [hn, hsl] at ho'
        obtain ⟨g, rfl, hgB, hgl, hnc, hcm, hrow⟩ := head_tail ho' hnl
        have HROW := Lib.hid hrow
        have HSL := Lib.hid hsl
        have HNL := Lib.hid (show n = l.length + 1 from hnl)
        obtain ⟨M, hM⟩ : ∃ M, l.length = M := ⟨_, rfl⟩
        have HLM := Lib.hid hM
        have HNM := Lib.hid (show n = M + 1 by rw [hnl, hM])
        have hn0 : 0 < n := by omega
        have hn1 : (1 : Nat) ≤ n := by omega
        clear ho' hrow hsl hn hnl hM
        have HM := Lib.hid hm
        have HE := Lib.hid hE
        have HTS := Lib.hid hTs
        have hA1 : (A : Int) < (k : Int) := by omega
        clear hm hE hTs hT hA hf e1 ho HFD HFE
        obtain ⟨⟨q1, D1⟩, hx1⟩ : ∃ x, (if wholeE f.data < f.data.length then truncD D f.n (wholeE f.data) else (0, D)) = x := ⟨_, rfl⟩
        have HX1 := Lib.hid hx1
        have CT : Hid (E < T.size → Calls Tryz.prog 40 #[.pointer (some ⟨r, 0, none⟩), .int .i64 m, .int .i64 (E : Int)] wr fun e w' => e = .returned (.int .i64 q1) ∧ RGoes wr w' G r D1) := Lib.hid fun hlt => by
          have e : truncD D m (E : Nat) = (q1, D1) := by rw [← hx1, if_pos (by rw [HE.out, HTS.out]; exact hlt), HM.out, HE.out]
          refine (rtrunc_any r D G m (E : Int) wr (HI.out.keeps HK.out) (by unfold I64 top; omega)).mono ?_
          rintro e' w' ⟨rfl, g⟩
          rw [e] at g ⊢
          exact ⟨rfl, g⟩
        have CN : Hid (¬ E < T.size → q1 = 0 ∧ RGoes wr wr G r D1) := Lib.hid fun hlt => by
          rw [if_neg (by rw [HE.out, HTS.out]; exact hlt)] at hx1
          cases hx1
          exact ⟨rfl, RGoes.same (HI.out.keeps HK.out) (Keeps.refl _)⟩
        clear hx1
        go_upto_if 83 with (fail)
        go_cut [16] (fun s16 wc => s16 = .int .i64 q1 ∧ RGoes wr wc G r D1)
        case first =>
          by_cases hlt2 : E < T.size
          · have t1 : decide (E < T.size) = true := decide_eq_true hlt2
            have C := Lib.hid (CT.out hlt2)
            go_wp2_with fail
            refine C.out.mono ?_
            rintro e w2 ⟨rfl, g2⟩
            have G2 := Lib.hid g2
            clear g2
            go_wp2_with fail
            go_meet
            exact ⟨rfl, G2.out⟩
          · have t1 : decide (E < T.size) = false := decide_eq_false hlt2
            have C := Lib.hid (CN.out hlt2)
            go_wp2_with fail
            go_meet
            exact ⟨by rw [C.out.1], C.out.2⟩
        case rest =>
          obtain ⟨rfl, g1⟩ := hcut
          have G1 := Lib.hid g1
          obtain ⟨⟨q2, D2⟩, hx2⟩ : ∃ x, next (q1, D1) (fun D => syncD D f.n) = x := ⟨_, rfl⟩
          have HX2 := Lib.hid hx2
          obtain ⟨G1', i1, f1, b1⟩ := g1
          have CT2 : Hid (q1 = 0 → Calls Tryz.prog 41 #[.pointer (some ⟨r, 0, none⟩), .int .i64 m] wc fun e w' => e = .returned (.int .i64 q2) ∧ RGoes wr w' G r D2) := Lib.hid fun h0 => by
            have e : syncD D1 m = (q2, D2) := by rw [← hx2, h0, next_ok, HM.out]
            refine (rsync_any r D1 G1' m wc i1).mono ?_
            rintro e' w' ⟨rfl, g⟩
            rw [e] at g ⊢
            exact ⟨rfl, RGoes.step f1 b1 g⟩
          have CN2 : Hid (¬ q1 = 0 → q2 = q1 ∧ RGoes wr wc G r D2) := Lib.hid fun h0 => by
            rw [next_no (x := (q1, D1)) h0] at hx2
            cases hx2
            exact ⟨rfl, G1.out⟩
          clear hx2 i1 f1 b1
          go_upto_if 89 with (fail)
          go_cut [16] (fun s16 w4 => s16 = .int .i64 q2 ∧ RGoes wr w4 G r D2)
          case first =>
            by_cases h0 : q1 = 0
            · have C := Lib.hid (CT2.out h0)
              have t1 : (q1 == 0) = true := by simpa using h0
              clear h0
              go_wp2_with fail
              refine C.out.mono ?_
              rintro e w2 ⟨rfl, g2⟩
              have G2 := Lib.hid g2
              clear g2
              go_wp2_with fail
              go_meet
              exact ⟨rfl, G2.out⟩
            · have C := Lib.hid (CN2.out h0)
              have t1 : (q1 == 0) = false := by simpa using h0
              clear h0
              go_wp2_with fail
              go_meet
              exact ⟨by rw [C.out.1], C.out.2⟩
          case rest =>
            obtain ⟨rfl, g2⟩ := hcut
            have G2 := Lib.hid g2
            clear g2 CT2 CN2 CT CN
            go_wp2
            go_loopw [16, 17] (fun ve vi wx => ∃ (j : Nat) (q3 : Int) (D3 : DiskM), j ≤ k ∧ vi = .int .i64 (j : Int) ∧ ve = .int .i64 q3 ∧ delsD (q2, D2) (othersTo D.files A j) = (q3, D3) ∧ RGoes wr wx G r D3) (fun _ vi _ => k - (intOf vi).toNat)
            case atStart => exact ⟨0, q2, D2, by omega, rfl, rfl, by rw [othersTo_zero]; rfl, G2.out⟩
            case round =>
              obtain ⟨j, q3, D3, hj, rfl, rfl, hx3, g3⟩ := hrel
              have HX3 := Lib.hid hx3
              have G3 := Lib.hid g3
              obtain ⟨G3', i3, f3, b3⟩ := g3
              have hopen : ∀ q D', delsD (q2, D2) (others D.files A) = (q, D') → openD D = ((q, D'), if q = 0 then some (⟨f.n, wholeE f.data, (wholeP f.data).length - 1, D'.starts⟩, wholeP f.data) else none) := fun q D' e => by
                have ek : keepD D A f = (q, D') := by unfold keepD; rw [HX1.out, HX2.out]; exact e
                unfold openD
                rw [HLA.out]; simp only
                rw [HF.out]; simp only
                rw [ek]
              have HO := Lib.hid hopen
              clear hopen hx3
              by_cases hq : q3 = 0
              · subst hq
                by_cases hlt2 : j < k
                · have hi2 : (j : Int) < (k : Int) := by omega
                  by_cases hjA : j = A
                  · have HQ : Hid (delsD (q2, D2) (othersTo D.files A (j + 1)) = (0, D3)) := Lib.hid (by have e := HX3.out; rw [hjA] at e ⊢; rw [othersTo_skip _ _ (by rw [HN.out]; exact hAlt)]; exact e)
                    have t1 : ((j : Int) != (A : Int)) = false := by rw [hjA]; simp
                    have t2 : (j != A) = false := by rw [hjA]; simp
                    clear hjA i3 f3 b3
                    go_wp2
                    go_roundw
                    case rel => exact ⟨j + 1, 0, D3, by omega, by go_num, rfl, HQ.out, G3.out⟩
                    case measure => simp [intOf]; omega
                  · obtain ⟨g, hg⟩ : ∃ g, D.files[j]? = some g := ⟨_, List.getElem?_eq_getElem (by rw [HN.out]; exact hlt2)⟩
                    obtain ⟨a', ea, p0, _⟩ := HL.out _ ((Frame.of_keeps HK.out [r]).trans f3 fun x hx => Or.inl hx) j g hg
                    cases ea
                    obtain ⟨n, hn⟩ : ∃ n, g.n = n := ⟨_, rfl⟩
                    rw [hn] at p0
                    obtain ⟨⟨q4, D4⟩, hx4⟩ : ∃ x, deleteD D3 n = x := ⟨_, rfl⟩
                    have HQ : Hid (delsD (q2, D2) (othersTo D.files A (j + 1)) = (q4, D4)) := Lib.hid (by rw [othersTo_snoc _ _ _ hg hjA, dels_snoc, HX3.out, next_ok, hn, hx4])
                    have cd := rdelete_any r D3 G3' n _ i3
                    rw [hx4] at cd
                    have CD := Lib.hid cd
                    have F3 := Lib.hid f3
                    have B3 := Lib.hid b3
                    have t1 : ((j : Int) != (A : Int)) = true := by simp; omega
                    have t2 : (j != A) = true := by simp; omega
                    clear hg hn hx4 cd hjA i3 f3 b3
                    unfold ptrV at *
                    go_wp2_with fail
                    refine CD.out.mono ?_
                    rintro e w2 ⟨rfl, g4⟩
                    have G4 := Lib.hid (RGoes.step F3.out B3.out g4)
                    clear g4
                    go_wp2
                    go_roundw
                    case rel => exact ⟨j + 1, q4, D4, by omega, by go_num, rfl, HQ.out, G4.out⟩
                    case measure => simp [intOf]; omega
                · obtain rfl : j = k := by omega
                  have HQ : Hid (delsD (q2, D2) (others D.files A) = (0, D3)) := Lib.hid (by rw [← othersTo_all _ _ (by rw [HN.out]; exact hAlt), HN.out]; exact HX3.out)
                  obtain ⟨_, _, z1, _, _, z2, c3, _⟩ := i3.len
                  obtain ⟨st, hst⟩ : ∃ st, D3.starts = st := ⟨_, rfl⟩
                  rw [hst] at c3
                  have hgr : g ∉ [r] := fun hx => by
                    have := HI.out.lt r HI.out.mem
                    simp at hx
                    omega
                  have crow := HROW.out [r] _ f3 hgr
                  have cs := crow.1
                  clear z1 z2
                  have HOP : Hid (openD D = ((0, D3), some (⟨m, E, M, st⟩, s :: l))) := Lib.hid (by
                    have := HO.out 0 D3 HQ.out
                    rw [if_pos rfl] at this
                    rw [this, HM.out, HE.out, hst, HSL.out]
                    rw [show (s :: l).length - 1 = M from HLM.out])
                  have eM : (n : Int) - 1 = (M : Int) := by have := HNM.out; omega
                  have hMb : (M : Int) ≤ 9223372036854775807 := by have := HNM.out; unfold maxLen at hcm; omega
                  have eW : IntKind.i64.wrap (M : Int) = (M : Int) := IntWalk.i64_in _ (by omega)
                  have eW2 : wrap64 (M : Int) = (M : Int) := IntWalk.wrap64_in _ (by omega)
                  have en := World.new_ne _ _ cs
                  clear hst
                  have hTR := tail_run g n c5 hn1 hnc hcm
                  go_wp2
                  go_region_held3 (fun W => W.cell? ⟨g, 0, none⟩ = some (sv s) ∧ W.cell? ⟨r, 3, none⟩ = some (.int .i64 st)) (first | assumption | go_keep) (fail)
                  go_wp2
                  (try simp only [Exit.inBlock, Exit.then])
                  refine bodyPost_ret (results_tmp4 rfl _ _ _) rfl ?_
                  have hk := HK.out.size
                  refine Or.inr ⟨D3, ⟨m, E, M, st⟩, s, l, _, _, G3', HOP.out, rfl, i3.keeps (keeps_boxed _ _), heap_alloc_new _ _, stays_tail HI.out f3 b3 hgB hgl HROW.out, ?_, fun hx => ?_, ?_, fun x hx => ?_⟩
                  · have := f3.size; omega
                  · have := i3.lt _ hx; omega
                  · exact ((Frame.of_keeps HK.out [r]).trans f3 fun x hx => Or.inl hx).trans (Frame.of_keeps (keeps_boxed _ _) [r]) fun x hx => Or.inl hx
                  · rcases b3 x hx with h1 | h1
                    · exact Or.inl h1
                    · exact Or.inr (by omega)
              · have HQ : Hid (delsD (q2, D2) (others D.files A) = (q3, D3)) := Lib.hid (dels_stop (by rw [HN.out]; exact hAlt) (by rw [HN.out]; exact hj) HX3.out hq)
                have HOP : Hid (openD D = ((q3, D3), none)) := Lib.hid (by have := HO.out q3 D3 HQ.out; rw [if_neg hq] at this; exact this)
                have HQ0 := Lib.hid hq
                have t1 : (q3 == 0) = false := by simpa using hq
                have t2 : (q3 != 0) = true := by simpa using hq
                clear hq i3 f3 b3
                by_cases hlt2 : j < k
                all_goals
                  go_wp2
                  (try simp only [Exit.inBlock, Exit.then])
                  refine bodyPost_ret (results_tmp4 rfl _ _ _) rfl ?_
                  exact Or.inl ⟨q3, D3, HOP.out, HQ0.out, rfl, RGoes.step (Frame.of_keeps HK.out [r]) (fun x hx => Or.inl hx) G3.out⟩
end Go.Proofs.YtlaepdpgegoopaaGreat
namespace Go.Proofs.YtlaepdpgegoopaaGreat
open Go.ChangeShapes Go.WideShapes Go.ChangeAt Go.RowKit Go.Maps Csv Dk Jn

structure RJ (w : World) (q r : Nat) (D : DiskM) (J : JM) (dead : Bool) (G : List Nat) : Prop where
  ref : IsRef w r D G
  jn : RJAt w q r J dead
  off : q ∉ G
def RJGoes (w w' : World) (G : List Nat) (q r : Nat) (D : DiskM) (J : JM) (dead : Bool) : Prop := ∃ G', RJ w' q r D J dead G' ∧ Frame [q, r] w w' ∧ ∀ b ∈ G', b ∈ G ∨ w.heap.size ≤ b
section
variable {w w' w2 : World} {q r : Nat} {D D' : DiskM} {J J' : JM} {dead dead' : Bool} {G : List Nat}
theorem RJAt.cells (h : RJAt w q r J dead) : w.cell? ⟨q, 0, none⟩ = some (.pointer (some ⟨r, 0, none⟩)) ∧ w.cell? ⟨q, 1, none⟩ = some (.int .i64 J.file) ∧ w.cell? ⟨q, 2, none⟩ = some (.int .i64 (J.bytes : Int)) ∧ w.cell? ⟨q, 3, none⟩ = some (.int .i64 (J.many : Int)) ∧
    w.cell? ⟨q, 4, none⟩ = some (.int .i64 J.starts) ∧ w.cell? ⟨q, 5, none⟩ = some (.bool dead) ∧ ∀ i, w.frozen? ⟨q, i, none⟩ = false := by
  have c := fun i => Joins.cell_of_block (w := w) h i
  exact ⟨c 0, c 1, c 2, c 3, c 4, c 5, fun i => Joins.unfrozen_of_block h i⟩
theorem RJ.lt (h : RJ w q r D J dead G) : q < w.heap.size ∧ q ≠ r := ⟨block_lt h.jn, fun e => h.off (e ▸ h.ref.mem)⟩
theorem RJ.keeps (h : RJ w q r D J dead G) (k : Keeps w w') : RJ w' q r D J dead G := ⟨h.ref.keeps k, (k.block q (block_lt h.jn)).trans h.jn, h.off⟩
theorem RJ.same (h : RJ w q r D J dead G) (k : Keeps w w') : RJGoes w w' G q r D J dead := ⟨G, h.keeps k, Frame.of_keeps k [q, r], fun b hb => Or.inl hb⟩
/-- The disk has turned. -/
theorem RJ.disk (h : RJ w q r D J dead G) (g : RGoes w w' G r D') : RJGoes w w' G q r D' J dead := by
  obtain ⟨G', g1, g2, g3⟩ := g
  obtain ⟨l1, l2⟩ := h.lt
  refine ⟨G', ⟨g1, (g2.block q l1 (by simp; exact l2)).trans h.jn, fun hx => ?_⟩, g2.mono fun x hx => by simp at hx; simp [hx], g3⟩
  rcases g3 q hx with h1 | h1
  · exact h.off h1
  · omega
/-- The journal's own block has turned. -/
theorem RJ.own (h : RJ w q r D J dead G) (hj : RJAt w' q r J' dead') (f : Frame [q] w w') : RJGoes w w' G q r D J' dead' := by
  refine ⟨G, ⟨h.ref.local fun b hb => f.block b (h.ref.lt b hb) fun hx => ?_, hj, h.off⟩, f.mono fun x hx => by simp at hx; simp [hx], fun b hb => Or.inl hb⟩
  simp at hx
  subst hx
  exact h.off hb
theorem RJ.disk' (h : RJ w q r D J dead G) {G' : List Nat} (g1 : IsRef w' r D' G') (g2 : Frame [r] w w') (g3 : ∀ b ∈ G', b ∈ G ∨ w.heap.size ≤ b) : RJGoes w w' G q r D' J dead := h.disk ⟨G', g1, g2, g3⟩
theorem RJGoes.step (g : RJGoes w w' G q r D J dead) (k : ∀ G', RJ w' q r D J dead G' → RJGoes w' w2 G' q r D' J' dead') : RJGoes w w2 G q r D' J' dead' := by
  obtain ⟨G1, i1, f1, b1⟩ := g
  obtain ⟨G2, i2, f2, b2⟩ := k G1 i1
  refine ⟨G2, i2, f1.trans f2 fun x hx => Or.inl hx, fun b hb => ?_⟩
  rcases b2 b hb with h | h
  · exact b1 b h
  · exact Or.inr (Nat.le_trans f1.size h)
end

set_option maxRecDepth 100000 in
set_option maxHeartbeats 1000000 in
theorem rover_any (q r : Nat) (D : DiskM) (J : JM) (G : List Nat) (w : World) (h : RJ w q r D J false G) (hu : D.up = true) (hs : D.starts = J.starts) :
    Calls Tryz.prog 51 #[ptrV q] w fun e w' => e = .returned (.bool false) ∧ RJGoes w w' G q r D J false := by
  obtain ⟨a0, a1, a2, a3, a4, a5, fz⟩ := h.jn.cells
  obtain ⟨_, _, z1, _, _, c2, c3, _⟩ := h.ref.len
  rw [hu] at c2
  rw [hs] at c3
  have c2' : w.cell? ⟨r, 2, none⟩ = some (.bool false) := c2
  have f5 := fz 5
  have key : ∀ w', w' = w.setCell ⟨q, 5, none⟩ (.bool false) → RJGoes w w' G q r D J false := fun w' e => by
    subst e
    have b1 := Joins.block_setCell (i := 5) h.jn (.bool false)
    exact h.own (by unfold RJAt; rw [b1]; rfl) ((Frame.refl _ _).frame_grown (grown_setCell _ _ _ _) (by simp))
  have KEY := Lib.hid key
  obtain ⟨st, hst⟩ : ∃ st, J.starts = st := ⟨_, rfl⟩
  rw [hst] at c3 a4
  have t1 : (st != st) = false := by simp
  clear key z1 h hu hs fz c2 a1 a2 a3 hst
  unfold ptrV
  go_enter Tryz.func51, Tryz.ntmps51
  go_wp2
  go_region
  go_wp2
  go_ret
  exact ⟨rfl, (KEY.out _ rfl).step fun _ i => i.same ⟨rfl, rfl, rfl, Nat.le_refl _, fun _ _ => rfl⟩⟩
set_option maxRecDepth 100000 in
set_option maxHeartbeats 1000000 in
theorem rtold_any (q r : Nat) (D : DiskM) (J : JM) (G : List Nat) (x : Int) (w : World) (h : RJ w q r D J false G) :
    Calls Tryz.prog 53 #[ptrV q, .int .i64 x] w fun e w' => e = .returned (.int .i64 x) ∧ RJGoes w w' G q r D J (x == 61) := by
  obtain ⟨a0, a1, a2, a3, a4, a5, fz⟩ := h.jn.cells
  have f5 := fz 5
  have key : ∀ b w', (x == 61) = b → w' = w.setCell ⟨q, 5, none⟩ (.bool b) → RJGoes w w' G q r D J b := fun b w' _ e => by
    subst e
    have b1 := Joins.block_setCell (i := 5) h.jn (.bool b)
    exact h.own (by unfold RJAt; rw [b1]; rfl) ((Frame.refl _ _).frame_grown (grown_setCell _ _ _ _) (by simp))
  obtain ⟨b, hb⟩ : ∃ b, (x == 61) = b := ⟨_, rfl⟩
  have KEY := Lib.hid fun w' => key b w' hb
  rw [hb]
  clear key h fz a0 a1 a2 a3 a4
  unfold ptrV
  go_enter Tryz.func53, Tryz.ntmps53
  go_wp2
  go_ret
  exact ⟨rfl, KEY.out _ rfl⟩

/-- What an Append leaves. -/
def RAppOut (D : DiskM) (J : JM) (s : Bs) (q r : Nat) (G : List Nat) (w : World) (e : Ending) (w' : World) : Prop :=
  e = .returned (.int .i64 (appJ D J s).1.1) ∧ RJGoes w w' G q r (appJ D J s).1.2 (appJ D J s).2 ((appJ D J s).1.1 == 61)
theorem RJGoes.after {w w1 w2 : World} {q r : Nat} {D : DiskM} {J : JM} {dead : Bool} {G G1 : List Nat} (f : Frame [q, r] w w1) (b : ∀ x ∈ G1, x ∈ G ∨ w.heap.size ≤ x) (g : RJGoes w1 w2 G1 q r D J dead) : RJGoes w w2 G q r D J dead := by
  obtain ⟨G2, i2, f2, b2⟩ := g
  refine ⟨G2, i2, f.trans f2 fun x hx => Or.inl hx, fun x hx => ?_⟩
  rcases b2 x hx with h | h
  · exact b x h
  · exact Or.inr (Nat.le_trans f.size h)
theorem RJGoes.cells {w w' : World} {q r : Nat} {D : DiskM} {J : JM} {dead : Bool} {G : List Nat} (g : RJGoes w w' G q r D J dead) : w'.cell? ⟨q, 0, none⟩ = some (.pointer (some ⟨r, 0, none⟩)) ∧ w'.cell? ⟨q, 1, none⟩ = some (.int .i64 J.file) ∧ w'.cell? ⟨q, 2, none⟩ = some (.int .i64 (J.bytes : Int)) ∧ w'.cell? ⟨q, 3, none⟩ = some (.int .i64 (J.many : Int)) ∧ ∀ i, w'.frozen? ⟨q, i, none⟩ = false := by
  obtain ⟨G', i, _⟩ := g
  obtain ⟨a0, a1, a2, a3, _, _, fz⟩ := i.jn.cells
  exact ⟨a0, a1, a2, a3, fz⟩
theorem rfree_is {w : World} {r : Nat} {D : DiskM} {G : List Nat} (h : IsRef w r D G) : Calls Tryz.prog 29 #[ptrV r] w fun e w' => e = .returned (.int .i64 D.free) ∧ w = w' := by
  obtain ⟨vL, vK, ks, h1, _⟩ := h
  exact rfree_any r vL vK ks D w h1
theorem RJGoes.drew {w w' : World} {q r : Nat} {D : DiskM} {J : JM} {dead : Bool} {G : List Nat} (g : RJGoes w w' G q r D J dead) : RJGoes w w'.drew G q r D J dead := g.step fun _ i => i.same ⟨rfl, rfl, rfl, Nat.le_refl _, fun _ _ => rfl⟩
theorem RJGoes.told {w w1 : World} {q r : Nat} {D : DiskM} {J : JM} {G : List Nat} (g : RJGoes w w1 G q r D J false) {x : Int} :
    Calls Tryz.prog 53 #[.pointer (some ⟨q, 0, none⟩), .int .i64 x] w1 fun e w' => e = .returned (.int .i64 x) ∧ RJGoes w w' G q r D J (x == 61) := by
  obtain ⟨G1, i1, f1, b1⟩ := g
  refine (rtold_any q r D J G1 x w1 i1).mono ?_
  rintro e w' ⟨rfl, g⟩
  exact ⟨rfl, RJGoes.after f1 b1 g⟩
/-- A call of the disk, behind what was done so far. -/
theorem RJGoes.calls {w w1 : World} {q r : Nat} {D D1 : DiskM} {J : JM} {dead : Bool} {G : List Nat} {f : Nat} {av : Array Value} {x : Int} (g : RJGoes w w1 G q r D J dead) (c : ∀ G', IsRef w1 r D G' → Calls Tryz.prog f av w1 fun e w' => e = .returned (.int .i64 x) ∧ RGoes w1 w' G' r D1) :
    Calls Tryz.prog f av w1 fun e w' => e = .returned (.int .i64 x) ∧ RJGoes w w' G q r D1 J dead := by
  obtain ⟨G1, i1, f1, b1⟩ := g
  refine (c G1 i1.ref).mono ?_
  rintro e w' ⟨rfl, g⟩
  exact ⟨rfl, RJGoes.after f1 b1 (i1.disk g)⟩
set_option maxRecDepth 100000 in
set_option maxHeartbeats 4000000 in
theorem rapp8_any (q r : Nat) (D : DiskM) (J : JM) (G : List Nat) (s : ByteArray) (w : World) (h : RJ w q r D J false G) (hu : D.up = true) (hs : D.starts = J.starts) (hsz : s.size ≤ maxLen) (hb : J.bytes ≤ 2000000) (hm : J.many ≤ 2000000) (hn : I64 J.file) :
    Calls Tryz.prog 16 #[ptrV q, .string s] w (RAppOut D J s.data.toList q r G w) := by
  have CO := Lib.hid (rover_any q r D J G w h hu hs)
  have HS := Lib.hid hsz
  have HO := Lib.hid h.ref.okay
  have HN := Lib.hid hn
  clear h hu hs hsz hn
  unfold ptrV at *
  by_cases c1 : 65536 < s.size
  · have e1 : appJ D J s.data.toList = ((3, D), J) := by unfold appJ; rw [if_pos (by rw [len_data]; exact c1)]
    have CP := Lib.hid fun W => rrecPut_long s W HS.out c1
    have E1 := Lib.hid e1
    clear e1 c1
    go_enter Tryz.func16, Tryz.ntmps16
    go_wp2_with fail
    refine CO.out.mono ?_
    rintro e w1 ⟨rfl, g1⟩
    have G1 := Lib.hid g1
    clear g1
    go_wp2_with fail
    refine (CP.out _).mono ?_
    rintro e w2 ⟨rfl, k2⟩
    have K2 := Lib.hid k2
    clear k2
    go_wp2
    go_ret
    unfold RAppOut
    rw [E1.out]
    exact ⟨rfl, G1.out.step fun _ i => i.same K2.out⟩
  have CP := Lib.hid fun W => rrecPut_any s W (by omega)
  obtain ⟨R, hR⟩ : ∃ R, recB s = R := ⟨_, rfl⟩
  rw [hR] at CP
  have hRs : R.size = s.size + 8 := by rw [← hR, recB_size]
  have HRd := Lib.hid (show R.data.toList = Rc.recL s.data.toList from by rw [← hR, recB_data])
  have HRs := Lib.hid hRs
  have hR9 : R.size ≤ 65544 := by omega
  have HRm := Lib.hid (show R.size ≤ maxLen from by unfold maxLen; omega)
  obtain ⟨F, hF⟩ : ∃ F, D.free = F := ⟨_, rfl⟩
  have hFb : 0 ≤ F ∧ F ≤ 1048576 := by have := HO.out.room; have := HO.out.cap; rw [← hF]; unfold DiskM.free; omega
  obtain ⟨hF0, hF9⟩ := hFb
  have HF := Lib.hid hF
  have HC1 := Lib.hid c1
  clear hR hRs hF c1
  have EA : Hid (appJ D J s.data.toList = if F - (R.size : Int) < 70000 then ((60, D), J) else (next (appendD D J.file R.data.toList) fun D => syncD D J.file, if (next (appendD D J.file R.data.toList) fun D => syncD D J.file).1 = 0 then ⟨J.file, J.bytes + R.size, J.many + 1, J.starts⟩ else J)) := Lib.hid (by
    unfold appJ
    rw [if_neg (by rw [len_data]; exact HC1.out), HF.out, len_data, HRd.out, HRs.out])
  obtain ⟨m, by_, mn, st⟩ := J
  simp only at hb hm HN EA
  go_enter Tryz.func16, Tryz.ntmps16
  go_wp2_with fail
  refine CO.out.mono ?_
  rintro e w1 ⟨rfl, g1⟩
  have G1 := Lib.hid g1
  clear g1
  go_wp2_with fail
  refine (CP.out _).mono ?_
  rintro e w2 ⟨rfl, k2⟩
  have G2 := Lib.hid (G1.out.step fun _ i => i.same k2)
  obtain ⟨G', i2, f2, b2⟩ := G2.out
  obtain ⟨a0, a1, _⟩ := i2.jn.cells
  simp only at a1
  have CF := Lib.hid (rfree_is i2.ref)
  rw [HF.out] at CF
  clear k2 i2 f2 b2 G1 CO CP
  unfold ptrV at *
  by_cases c2 : F - (R.size : Int) < 70000
  · have E1 := Lib.hid (EA.out.trans (if_pos c2))
    have t1 : decide (F - (R.size : Int) < 70000) = true := decide_eq_true c2
    clear c2 EA
    go_wp2_with fail
    refine CF.out.mono ?_
    rintro e w3 ⟨rfl, rfl⟩
    go_wp2
    go_ret
    unfold RAppOut
    rw [E1.out]
    exact ⟨rfl, G2.out⟩
  have E1 := Lib.hid (EA.out.trans (if_neg c2))
  have t1 : decide (F - (R.size : Int) < 70000) = false := decide_eq_false c2
  obtain ⟨⟨q1, D1⟩, hx1⟩ : ∃ x, appendD D m R.data.toList = x := ⟨_, rfl⟩
  rw [hx1] at E1
  have CA : Hid (Calls Tryz.prog 10 #[.pointer (some ⟨r, 0, none⟩), .int .i64 m, .string R] w2.drew fun e w' => e = .returned (.int .i64 q1) ∧ RJGoes w w' G q r D1 ⟨m, by_, mn, st⟩ false) := Lib.hid (G2.out.drew.calls fun G' i => by
    have := rappend_any r D G' m R _ i HRm.out
    rw [hx1] at this
    exact this)
  clear c2 EA hx1
  go_wp2_with fail
  refine CF.out.mono ?_
  rintro e w3 ⟨rfl, rfl⟩
  go_wp2
  go_region_held3 (fun W => W.cell? ⟨q, 0, none⟩ = some (.pointer (some ⟨r, 0, none⟩)) ∧ W.cell? ⟨q, 1, none⟩ = some (.int .i64 m)) (first | assumption | go_keep) ((go_at_call 10; refine CA.out.mono ?_; rintro e w4 ⟨rfl, g4⟩; have x0 : w4.cell? ⟨q, 0, none⟩ = some (.pointer (some ⟨r, 0, none⟩)) := g4.cells.1; have x1 : w4.cell? ⟨q, 1, none⟩ = some (.int .i64 m) := g4.cells.2.1))
  have G4 := Lib.hid g4
  clear g4 G2 CF CA
  by_cases h1 : q1 = 0
  · subst h1
    obtain ⟨⟨q2, D2⟩, hx2⟩ : ∃ x, syncD D1 m = x := ⟨_, rfl⟩
    have E2 : Hid (appJ D ⟨m, by_, mn, st⟩ s.data.toList = ((q2, D2), if q2 = 0 then ⟨m, by_ + R.size, mn + 1, st⟩ else ⟨m, by_, mn, st⟩)) := Lib.hid (by rw [E1.out, next_ok, hx2])
    have CS : Hid (Calls Tryz.prog 41 #[.pointer (some ⟨r, 0, none⟩), .int .i64 m] w4.drew fun e w' => e = .returned (.int .i64 q2) ∧ RJGoes w w' G q r D2 ⟨m, by_, mn, st⟩ false) := Lib.hid (G4.out.drew.calls fun G' i => by
      have := rsync_any r D1 G' m _ i
      rw [hx2] at this
      exact this)
    clear hx2 E1
    go_wp2
    go_region_held3 (fun W => W.cell? ⟨q, 0, none⟩ = some (.pointer (some ⟨r, 0, none⟩)) ∧ W.cell? ⟨q, 1, none⟩ = some (.int .i64 m)) (first | assumption | go_keep) ((go_at_call 41; refine CS.out.mono ?_; rintro e w5 ⟨rfl, g5⟩; have y0 : w5.cell? ⟨q, 0, none⟩ = some (.pointer (some ⟨r, 0, none⟩)) := g5.cells.1; have y1 : w5.cell? ⟨q, 1, none⟩ = some (.int .i64 m) := g5.cells.2.1))
    have G5 := Lib.hid g5
    clear g5 G4 CS
    by_cases h2 : q2 = 0
    · subst h2
      have E3 := Lib.hid (E2.out.trans (by rw [if_pos rfl]))
      obtain ⟨_, _, y2, y3, fz⟩ := G5.out.cells
      have f2 := fz 2
      have f3 := fz 3
      simp only at y2 y3
      have hz0 : (0 : Int) ≤ (by_ : Int) + (R.size : Int) := by omega
      have hz1 : (by_ : Int) + (R.size : Int) ≤ 3000000 := by omega
      have hz2 : (mn : Int) + 1 ≤ 3000000 := by omega
      have KEY := Lib.hid fun w' (e : w' = (w5.setCell ⟨q, 2, none⟩ (.int .i64 ((by_ : Int) + (R.size : Int)))).setCell ⟨q, 3, none⟩ (.int .i64 ((mn : Int) + 1))) => G5.out.step fun G' i => by
        subst e
        have b1 := Joins.block_setCell (i := 2) i.jn (.int .i64 ((by_ : Int) + (R.size : Int)))
        have b2 := Joins.block_setCell (i := 3) b1 (.int .i64 ((mn : Int) + 1))
        exact i.own (J' := ⟨m, by_ + R.size, mn + 1, st⟩) (dead' := false) (by unfold RJAt; rw [b2]; rfl) (((Frame.refl _ _).frame_grown (grown_setCell _ _ _ _) (by simp)).frame_grown (grown_setCell _ _ _ _) (by simp))
      clear fz E2
      go_wp2
      go_region
      go_wp2_with fail
      refine (KEY.out _ rfl).drew.told.mono ?_
      rintro e w6 ⟨rfl, g6⟩
      have G6 := Lib.hid g6
      clear g6 KEY G5
      go_wp2
      go_ret
      unfold RAppOut
      rw [E3.out]
      exact ⟨rfl, G6.out⟩
    · have E3 := Lib.hid (E2.out.trans (by rw [if_neg h2]))
      have t2 : (q2 == 0) = false := by simpa using h2
      clear h2 E2
      go_wp2_with fail
      refine G5.out.told.mono ?_
      rintro e w6 ⟨rfl, g6⟩
      have G6 := Lib.hid g6
      clear g6 G5
      go_wp2
      go_ret
      unfold RAppOut
      rw [E3.out]
      exact ⟨rfl, G6.out⟩
  · have E3 : Hid (appJ D ⟨m, by_, mn, st⟩ s.data.toList = ((q1, D1), ⟨m, by_, mn, st⟩)) := Lib.hid (by rw [E1.out, next_no (x := (q1, D1)) h1, if_neg h1])
    have t2 : (q1 == 0) = false := by simpa using h1
    clear h1 E1
    go_wp2_with fail
    refine G4.out.told.mono ?_
    rintro e w6 ⟨rfl, g6⟩
    have G6 := Lib.hid g6
    clear g6 G4
    go_wp2
    go_ret
    unfold RAppOut
    rw [E3.out]
    exact ⟨rfl, G6.out⟩

/-- What a Compact leaves. -/
def RComOut (D : DiskM) (J : JM) (s : Bs) (q r : Nat) (G : List Nat) (w : World) (e : Ending) (w' : World) : Prop :=
  e = .returned (.int .i64 (comJ D J s).1.1) ∧ RJGoes w w' G q r (comJ D J s).1.2 (comJ D J s).2 ((comJ D J s).1.1 == 61)
set_option maxRecDepth 100000 in
set_option maxHeartbeats 4000000 in
theorem rcom8_any (q r : Nat) (D : DiskM) (J : JM) (G : List Nat) (s : ByteArray) (w : World) (h : RJ w q r D J false G) (hu : D.up = true) (hs : D.starts = J.starts) (hsz : s.size ≤ maxLen) (hn0 : 0 ≤ J.file) (hn : J.file ≤ 9223372036854775807) :
    Calls Tryz.prog 18 #[ptrV q, .string s] w (RComOut D J s.data.toList q r G w) := by
  have CO := Lib.hid (rover_any q r D J G w h hu hs)
  have HS := Lib.hid hsz
  have HO := Lib.hid h.ref.okay
  clear h hu hs hsz
  unfold ptrV at *
  by_cases c1 : 65536 < s.size
  · have e1 : comJ D J s.data.toList = ((3, D), J) := by unfold comJ; rw [if_pos (by rw [len_data]; exact c1)]
    have CP := Lib.hid fun W => rrecPut_long s W HS.out c1
    have E1 := Lib.hid e1
    clear e1 c1
    go_enter Tryz.func18, Tryz.ntmps18
    go_wp2_with fail
    refine CO.out.mono ?_
    rintro e w1 ⟨rfl, g1⟩
    have G1 := Lib.hid g1
    clear g1
    go_wp2_with fail
    refine (CP.out _).mono ?_
    rintro e w2 ⟨rfl, k2⟩
    have K2 := Lib.hid k2
    clear k2
    go_wp2
    go_ret
    unfold RComOut
    rw [E1.out]
    exact ⟨rfl, G1.out.step fun _ i => i.same K2.out⟩
  have CP := Lib.hid fun W => rrecPut_any s W (by omega)
  obtain ⟨R, hR⟩ : ∃ R, recB s = R := ⟨_, rfl⟩
  rw [hR] at CP
  have hRs : R.size = s.size + 8 := by rw [← hR, recB_size]
  have HRd := Lib.hid (show R.data.toList = Rc.recL s.data.toList from by rw [← hR, recB_data])
  have HRs := Lib.hid hRs
  have hR9 : R.size ≤ 65544 := by omega
  have HRm := Lib.hid (show R.size ≤ maxLen from by unfold maxLen; omega)
  obtain ⟨F, hF⟩ : ∃ F, D.free = F := ⟨_, rfl⟩
  have hFb : 0 ≤ F ∧ F ≤ 1048576 := by have := HO.out.room; have := HO.out.cap; rw [← hF]; unfold DiskM.free; omega
  obtain ⟨hF0, hF9⟩ := hFb
  have HF := Lib.hid hF
  have HC1 := Lib.hid c1
  clear hR hRs hF c1
  have EA : Hid (comJ D J s.data.toList = if F < (R.size : Int) then ((60, D), J) else if (layD D (wrap64 (J.file + 1)) R.data.toList).1 = 0 then (deleteD (layD D (wrap64 (J.file + 1)) R.data.toList).2 J.file, ⟨wrap64 (J.file + 1), R.size, 0, J.starts⟩) else (layD D (wrap64 (J.file + 1)) R.data.toList, J)) := Lib.hid (by
    unfold comJ
    rw [if_neg (by rw [len_data]; exact HC1.out), HF.out, len_data, HRd.out, HRs.out])
  obtain ⟨m, by_, mn, st⟩ := J
  simp only at hn hn0 EA
  obtain ⟨m1, hm1⟩ : ∃ m1, wrap64 (m + 1) = m1 := ⟨_, rfl⟩
  rw [hm1] at EA
  have eW : IntKind.i64.wrap (m + 1) = m1 := (IntWalk.i64_left _).trans hm1
  have eW2 : wrap64 (m + 1) = m1 := hm1
  have HM1 := Lib.hid (show I64 m1 by rw [← hm1]; unfold I64 top wrap64; omega)
  clear hm1
  have HM := Lib.hid (show I64 m by unfold I64 top; omega)
  go_enter Tryz.func18, Tryz.ntmps18
  go_wp2_with fail
  refine CO.out.mono ?_
  rintro e w1 ⟨rfl, g1⟩
  have G1 := Lib.hid g1
  clear g1
  go_wp2_with fail
  refine (CP.out _).mono ?_
  rintro e w2 ⟨rfl, k2⟩
  have G2 := Lib.hid (G1.out.step fun _ i => i.same k2)
  obtain ⟨G', i2, f2, b2⟩ := G2.out
  obtain ⟨a0, a1, _⟩ := i2.jn.cells
  simp only at a1
  have CF := Lib.hid (rfree_is i2.ref)
  rw [HF.out] at CF
  clear k2 i2 f2 b2 G1 CO CP
  unfold ptrV at *
  by_cases c2 : F < (R.size : Int)
  · have E1 := Lib.hid (EA.out.trans (if_pos c2))
    have t1 : decide (F < (R.size : Int)) = true := decide_eq_true c2
    clear EA
    go_wp2_with fail
    refine CF.out.mono ?_
    rintro e w3 ⟨rfl, rfl⟩
    go_wp2
    go_ret
    unfold RComOut
    rw [E1.out]
    exact ⟨rfl, G2.out⟩
  have E1 := Lib.hid (EA.out.trans (if_neg c2))
  have t1 : decide (F < (R.size : Int)) = false := decide_eq_false c2
  obtain ⟨⟨q1, D1⟩, hx1⟩ : ∃ x, layD D m1 R.data.toList = x := ⟨_, rfl⟩
  rw [hx1] at E1
  have CA : Hid (Calls Tryz.prog 56 #[.pointer (some ⟨r, 0, none⟩), .int .i64 m1, .string R] w2.drew fun e w' => e = .returned (.int .i64 q1) ∧ RJGoes w w' G q r D1 ⟨m, by_, mn, st⟩ false) := Lib.hid (G2.out.drew.calls fun G' i => by
    have := rlay_any r D G' m1 R _ i HM1.out HRm.out
    rw [hx1] at this
    exact this)
  have c2' : ¬ F < (R.size : Int) := c2
  clear EA hx1 c2
  go_wp2_with fail
  refine CF.out.mono ?_
  rintro e w3 ⟨rfl, rfl⟩
  go_wp2
  go_region_held3 (fun W => W.cell? ⟨q, 0, none⟩ = some (.pointer (some ⟨r, 0, none⟩)) ∧ W.cell? ⟨q, 1, none⟩ = some (.int .i64 m)) (first | assumption | go_keep) ((go_at_call 56; refine CA.out.mono ?_; rintro e w4 ⟨rfl, g4⟩; have x0 : w4.cell? ⟨q, 0, none⟩ = some (.pointer (some ⟨r, 0, none⟩)) := g4.cells.1; have x1 : w4.cell? ⟨q, 1, none⟩ = some (.int .i64 m) := g4.cells.2.1))
  have G4 := Lib.hid g4
  clear g4 G2 CF CA
  by_cases h1 : q1 = 0
  · subst h1
    obtain ⟨⟨q2, D2⟩, hx2⟩ : ∃ x, deleteD D1 m = x := ⟨_, rfl⟩
    have E2 : Hid (comJ D ⟨m, by_, mn, st⟩ s.data.toList = ((q2, D2), ⟨m1, R.size, 0, st⟩)) := Lib.hid (by rw [E1.out, if_pos rfl, hx2])
    obtain ⟨_, _, y2, y3, fz⟩ := G4.out.cells
    have f1 := fz 1
    have f2 := fz 2
    have f3 := fz 3
    have KEY : Hid (∀ w', w' = ((w4.setCell ⟨q, 1, none⟩ (.int .i64 m1)).setCell ⟨q, 2, none⟩ (.int .i64 (R.size : Int))).setCell ⟨q, 3, none⟩ (.int .i64 0) → RJGoes w w' G q r D1 ⟨m1, R.size, 0, st⟩ false) := Lib.hid fun w' e => G4.out.step fun G' i => by
      subst e
      have b1 := Joins.block_setCell (i := 1) i.jn (.int .i64 m1)
      have b2 := Joins.block_setCell (i := 2) b1 (.int .i64 (R.size : Int))
      have b3 := Joins.block_setCell (i := 3) b2 (.int .i64 0)
      exact i.own (J' := ⟨m1, R.size, 0, st⟩) (dead' := false) (by unfold RJAt; rw [b3]; rfl) ((((Frame.refl _ _).frame_grown (grown_setCell _ _ _ _) (by simp)).frame_grown (grown_setCell _ _ _ _) (by simp)).frame_grown (grown_setCell _ _ _ _) (by simp))
    have CD : Hid (∀ W, W = ((w4.setCell ⟨q, 1, none⟩ (.int .i64 m1)).setCell ⟨q, 2, none⟩ (.int .i64 (R.size : Int))).setCell ⟨q, 3, none⟩ (.int .i64 0) → Calls Tryz.prog 42 #[.pointer (some ⟨r, 0, none⟩), .int .i64 m] W fun e w' => e = .returned (.int .i64 q2) ∧ RJGoes w w' G q r D2 ⟨m1, R.size, 0, st⟩ false) := Lib.hid fun W e => (KEY.out W e).calls fun G' i => by
      have := rdelete_any r D1 G' m _ i
      rw [hx2] at this
      exact this
    simp only at y2 y3
    clear hx2 E1 fz
    go_wp2_with fail
    refine (CD.out _ rfl).mono ?_
    rintro e w5 ⟨rfl, g5⟩
    have G5 := Lib.hid g5
    clear g5 KEY CD G4
    go_wp2_with fail
    refine G5.out.told.mono ?_
    rintro e w6 ⟨rfl, g6⟩
    have G6 := Lib.hid g6
    clear g6 G5
    go_wp2
    go_ret
    unfold RComOut
    rw [E2.out]
    exact ⟨rfl, G6.out⟩
  · have E3 : Hid (comJ D ⟨m, by_, mn, st⟩ s.data.toList = ((q1, D1), ⟨m, by_, mn, st⟩)) := Lib.hid (by rw [E1.out, if_neg h1])
    have t2 : (q1 == 0) = false := by simpa using h1
    have t3 : (q1 != 0) = true := by simpa using h1
    clear h1 E1
    go_wp2_with fail
    refine G4.out.told.mono ?_
    rintro e w6 ⟨rfl, g6⟩
    have G6 := Lib.hid g6
    clear g6 G4
    go_wp2
    go_ret
    unfold RComOut
    rw [E3.out]
    exact ⟨rfl, G6.out⟩
end Go.Proofs.YtlaepdpgegoopaaGreat
