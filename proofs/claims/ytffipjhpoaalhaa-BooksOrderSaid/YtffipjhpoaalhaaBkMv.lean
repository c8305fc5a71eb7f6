/- The program's books: what a posting moves. -/
import Derived.Test.YtffipjhpoaalhaaBkPC
import Derived.RegionTactic
import Derived.Deep.Cut
set_option linter.unusedVariables false
namespace Go.Proofs.Ytffipjhpoaalhaa
open Go.ChangeShapes Go.WideShapes Go.ChangeAt Go.RowKit Csv Bk Mon
open Go.Maps (Keyed)

theorem quiet_is {P : Program} {f : FuncId} {args : Array Value} {w : World} {n : Nat} {v : Value}
    (h : Calls P f args (w.drewN n) fun e w' => e = .returned v ∧ w.drewN n = w') : Calls P f args (w.drewN n) fun e w'' => e = .returned v ∧ ∃ m, w'' = w.drewN m :=
  h.mono fun _ _ ⟨he, hm⟩ => ⟨he, n, hm.symm⟩
/-- The orders that a posting is of. -/
def ordsOf (p : PI) : List Int := [p.ord, 0]
/-- What a balance would be. -/
def nextB (L : List PI) (p : PI) (a o : Int) : Int := bal (pms L ++ [p.pm]) a o
theorem next_deb {L : List PI} {p : PI} {q : Int} (hq : q ∈ ordsOf p) : nextB L p p.deb q = bal (pms L) p.deb q + p.amt := by
  unfold nextB
  rw [bal_snoc]
  unfold hit
  rw [if_neg, if_pos (show p.pm.deb = p.deb from rfl)]
  · rfl
  · unfold ordsOf at hq
    simp at hq
    rintro ⟨h1, h2⟩
    rcases hq with rfl | rfl
    · exact h2 rfl
    · exact h1 rfl
theorem next_cre {L : List PI} {p : PI} {q : Int} (hn : p.deb ≠ p.cre) (hq : q ∈ ordsOf p) : nextB L p p.cre q = bal (pms L) p.cre q - p.amt := by
  unfold nextB
  rw [bal_snoc]
  unfold hit
  rw [if_neg, if_neg (by exact hn), if_pos (show p.pm.cre = p.cre from rfl)]
  · show _ + -p.amt = _
    omega
  · unfold ordsOf at hq
    simp at hq
    rintro ⟨h1, h2⟩
    rcases hq with rfl | rfl
    · exact h2 rfl
    · exact h1 rfl
/-- Both balances of an order are int64s. -/
def fitQ (L : List PI) (p : PI) (q : Int) : Bool := in64 (nextB L p p.deb q) && in64 (nextB L p p.cre q)
theorem fits_ords (L : List PI) (p : PI) : fitsP (pms L) p.pm = (fitQ L p p.ord && fitQ L p 0) := by
  unfold fitsP fitQ nextB
  have e1 : p.pm.deb = p.deb := rfl
  have e2 : p.pm.cre = p.cre := rfl
  have e3 : p.pm.ord = p.ord := rfl
  rw [e1, e2, e3]
  cases in64 (bal (pms L ++ [p.pm]) p.deb p.ord) <;> cases in64 (bal (pms L ++ [p.pm]) p.cre p.ord) <;> cases in64 (bal (pms L ++ [p.pm]) p.deb 0) <;> rfl
/-- Under way: the posting's box, the two orders, the map of what is moved. -/
structure MvSt (w : World) (L : List PI) (p : PI) (k : Nat) (W : World) : Prop where
  keep : Keeps w W
  box : W.heap[w.heap.size]? = some (.cells p.vals.toArray tPo (0, 0))
  row : W.heap[w.heap.size + 2]? = some (.cells #[.int .i64 p.ord, .int .i64 0] 3 (0, 0))
  map : ∃ D, W.ownsMap Try.prog tHo asIs (w.heap.size + 1) (2 * k) D ∧ Moved D p.deb p.cre ((ordsOf p).take k) (nextB L p)
  fit : ∀ q ∈ (ordsOf p).take k, fitQ L p q = true
theorem MvSt.near {w W W' : World} {L : List PI} {p : PI} {k : Nat} (h : MvSt w L p k W) (kk : Keeps W W') : MvSt w L p k W' := by
  obtain ⟨h1, h2, h3, ⟨D, h4, h5⟩, h6⟩ := h
  exact ⟨h1.trans kk, (kk.block _ (Array.getElem?_eq_some_iff.1 h2).1).trans h2, (kk.block _ (Array.getElem?_eq_some_iff.1 h3).1).trans h3, ⟨D, own_map h4 (kk.block _ h4.lt), h5⟩, h6⟩
def PMovedOut (L : List PI) (p : PI) (w : World) (e : Ending) (w' : World) : Prop :=
  Keeps w w' ∧ ((fitsP (pms L) p.pm = false ∧ e = .returned (.tuple #[.map none, .bool false])) ∨
    (fitsP (pms L) p.pm = true ∧ ∃ m D, e = .returned (.tuple #[.map (some m), .bool true]) ∧ w.heap.size ≤ m ∧ w'.ownsMap Try.prog tHo asIs m 4 D ∧ Moved D p.deb p.cre (ordsOf p) (nextB L p)))
theorem MvSt.start (w : World) (L : List PI) (p : PI) : MvSt w L p 0 (((w.alloc (.cells p.vals.toArray tPo)).alloc (.map #[] 0)).alloc (.cells #[.int .i64 p.ord, .int .i64 0] 3)) := by
  have z (W : World) (o : Obj) : (W.alloc o).heap.size = W.heap.size + 1 := by simp
  have k1 := keeps_box w (.cells p.vals.toArray tPo)
  have k2 := keeps_box (w.alloc (.cells p.vals.toArray tPo)) (.map #[] 0)
  have k3 := keeps_box ((w.alloc (.cells p.vals.toArray tPo)).alloc (.map #[] 0)) (.cells #[.int .i64 p.ord, .int .i64 0] 3)
  refine ⟨(k1.trans k2).trans k3, ?_, ?_, ⟨.map [], ?_, Moved.nil _ _ _⟩, by simp⟩
  · rw [(k2.trans k3).block w.heap.size (by have := z w (.cells p.vals.toArray tPo); omega)]
    exact heap_alloc_new _ _
  · have := heap_alloc_new ((w.alloc (.cells p.vals.toArray tPo)).alloc (.map #[] 0)) (.cells #[.int .i64 p.ord, .int .i64 0] 3)
    rw [z, z] at this
    exact this
  · have := World.ownsMap_made (w.alloc (.cells p.vals.toArray tPo)) Try.prog tHo asIs
    rw [z] at this
    exact this.alloc _
theorem boxes2 (wr : World) (X Y : Obj) : (((wr.alloc X).alloc Y).drew).heap[wr.heap.size]? = some X ∧ (((wr.alloc X).alloc Y).drew).heap[wr.heap.size + 1]? = some Y ∧ Keeps wr ((wr.alloc X).alloc Y).drew := by
  have z (W : World) (o : Obj) : (W.alloc o).heap.size = W.heap.size + 1 := by simp
  have k1 := keeps_box wr X
  have k2 := keeps_box (wr.alloc X) Y
  have k3 : Keeps ((wr.alloc X).alloc Y) ((wr.alloc X).alloc Y).drew := bbel_drew _
  refine ⟨?_, ?_, (k1.trans k2).trans k3⟩
  · rw [(k2.trans k3).block _ (by rw [z]; omega)]
    exact heap_alloc_new _ _
  · rw [k3.block _ (by rw [z, z]; omega)]
    have := heap_alloc_new (wr.alloc X) Y
    rw [z] at this
    exact this
theorem drewN_keep (w : World) (n : Nat) : Keeps w (w.drewN n) := ⟨rfl, rfl, rfl, Nat.le_refl _, fun _ _ => rfl⟩
theorem map_not_cells {w : World} {P : Program} {k : TypeId} {R : Value → Option (DataW Value × List MemPlace)} {b g n : Nat} {D : DataW Value} {c : Array Value} {t : TypeId} {f : Nat × Nat} (h : w.ownsMap P k R b n D) (hg : w.heap[g]? = some (.cells c t f)) : g ≠ b := by
  obtain ⟨es, clock, hb, _⟩ := h
  rintro rfl
  rw [hb] at hg
  cases hg
theorem grown_cell {w w' : World} {m g i : Nat} {v : Value} (h : w.grownBy w' (some m)) (hc : w.cell? ⟨g, i, none⟩ = some v) (hn : g ≠ m) : w'.cell? ⟨g, i, none⟩ = some v := by
  have hb := h.block g (block_lt_of_cell hc) (fun e => hn (Option.some.inj e))
  unfold World.cell? at hc ⊢
  rw [hb]
  exact hc
theorem MvSt.step {w W W1 W2 : World} {L : List PI} {p : PI} {k : Nat} {q V1 V2 : Int} {D : DataW Value} (h : MvSt w L p k W) (hM : Moved D p.deb p.cre ((ordsOf p).take k) (nextB L p)) (hI : Maps.IsMap D) (hp : p.Good) (hm : May p.pm)
    (hq : (ordsOf p)[k]? = some q) (iq : I64 q) (hf : fitQ L p q = true) (e1 : V1 = nextB L p p.deb q) (e2 : V2 = nextB L p p.cre q) (g1 : W.drew.grownBy W1 (some (w.heap.size + 1))) (g2 : W1.grownBy W2 (some (w.heap.size + 1)))
    (ho : W2.ownsMap Try.prog tHo asIs (w.heap.size + 1) (2 * (k + 1)) ((D.put (kB p.deb q) (.held (.int .i64 V1))).put (kB p.cre q) (.held (.int .i64 V2)))) : MvSt w L p (k + 1) W2 := by
  have bl : ∀ i, i < W.heap.size → i ≠ w.heap.size + 1 → W2.heap[i]? = W.heap[i]? := fun i hi hn =>
    (g2.block i (Nat.lt_of_lt_of_le hi g1.size) (fun e => hn (Option.some.inj e))).trans (g1.block i hi (fun e => hn (Option.some.inj e)))
  have et : (ordsOf p).take (k + 1) = (ordsOf p).take k ++ [q] := by rw [List.take_add_one, hq]; rfl
  refine ⟨⟨(g2.os.trans g1.os).trans h.keep.os, (g2.tape.trans g1.tape).trans h.keep.tape, (g2.output.trans g1.output).trans h.keep.output, Nat.le_trans h.keep.size (Nat.le_trans g1.size g2.size), fun i hi => (bl i (Nat.lt_of_lt_of_le hi h.keep.size) (by omega)).trans (h.keep.block i hi)⟩, ?_, ?_, ⟨_, ho, ?_⟩, ?_⟩
  · rw [bl _ (Array.getElem?_eq_some_iff.1 h.box).1 (by omega)]; exact h.box
  · rw [bl _ (Array.getElem?_eq_some_iff.1 h.row).1 (by omega)]; exact h.row
  · rw [et]
    exact hM.step hI hp.deb hp.cre iq hm.ne e1 e2
  · rw [et]
    intro r hr
    rcases List.mem_append.1 hr with hr | hr
    · exact h.fit r hr
    · rw [List.mem_singleton] at hr; subst hr; exact hf
set_option maxRecDepth 100000 in
set_option maxHeartbeats 8000000 in
theorem pmoved_any {b mp mb : Nat} {v : Value} (L : List PI) (p : PI) (w : World) (h : PAt w b v mp mb L) (hp : p.Good) (hm : May p.pm) (hok : OkL (pms L)) :
    Calls Try.prog 23 #[.pointer (some ⟨b, 0, none⟩), p.val] w (PMovedOut L p w) := by
  have HA := Lib.hid h
  have HP := Lib.hid hp
  have HM := Lib.hid hm
  have HOK := Lib.hid hok
  have hmm := @run_makeMap Try.prog
  have HST := Lib.hid (MvSt.start w L p)
  have HC : Hid (∀ W k, MvSt w L p k W → W.cell? ⟨b, 2, none⟩ = some (.map (some mb)) ∧ (W.cell? ⟨w.heap.size, 1, none⟩ = some (.int .i64 p.ord) ∧ W.cell? ⟨w.heap.size, 2, none⟩ = some (.int .i64 p.deb) ∧ W.cell? ⟨w.heap.size, 3, none⟩ = some (.int .i64 p.cre) ∧ W.cell? ⟨w.heap.size, 4, none⟩ = some (.int .i64 p.amt))) := Lib.hid fun W k s =>
    ⟨(h.keeps s.keep).cells.2.2, Joins.cell_of_block s.box 1, Joins.cell_of_block s.box 2, Joins.cell_of_block s.box 3, Joins.cell_of_block s.box 4⟩
  unfold PI.vals at HST
  unfold PI.val
  clear h hp hm hok
  go_enter Try.func23, Try.ntmps23
  go_wp2
  go_loopw [4, 18] (fun v4 v18 wr => ∃ k : Nat, k ≤ 2 ∧ v18 = .int .i64 (k : Int) ∧ v4 = .map (some (w.heap.size + 1)) ∧ MvSt w L p k wr) (fun _ v18 _ => 2 - (intOf v18).toNat)
  case atStart => exact ⟨0, by omega, rfl, rfl, HST.out⟩
  case round =>
    obtain ⟨k, hk, rfl, rfl, hs⟩ := hrel
    have HS := Lib.hid hs
    obtain ⟨c2, ⟨e1, e2, e3, e4⟩⟩ := HC.out wr k hs
    by_cases hlt : k < 2
    · obtain ⟨q, hq⟩ : ∃ q, (ordsOf p)[k]? = some q := ⟨_, List.getElem?_eq_getElem (by simpa [ordsOf] using hlt)⟩
      have hcell : wr.cell? ⟨w.heap.size + 2, k, none⟩ = some (.int .i64 q) := by
        have := Joins.cell_of_block hs.row k
        rw [this]
        have : k = 0 ∨ k = 1 := by omega
        rcases this with rfl | rfl
        · simp [ordsOf] at hq; subst hq; rfl
        · simp [ordsOf] at hq; subst hq; rfl
      have hi1 : (k : Int) < 2 := by omega
      have hi0 : (0 : Int) ≤ (k : Int) := by omega
      have HQ := Lib.hid hq
      have hr1 : w.heap.size < wr.heap.size := (Array.getElem?_eq_some_iff.1 hs.box).1
      have hr2 : w.heap.size ≠ wr.heap.size := Nat.ne_of_lt hr1
      have hr3 : w.heap.size ≠ wr.heap.size + 1 := by omega
      clear hs hq
      go_wp2
      go_cut [7, 8, 9] from 22 to 30 (fun s7 s8 s9 wx => ∃ g8 g9, s7 = .int .i64 q ∧ s8 = .pointer (some ⟨g8, 0, none⟩) ∧ s9 = .pointer (some ⟨g9, 0, none⟩) ∧ wx.heap[g8]? = some (.cells #[.int .i64 p.deb, .int .i64 q] tHo (0, 0)) ∧ wx.heap[g9]? = some (.cells #[.int .i64 p.cre, .int .i64 q] tHo (0, 0)) ∧ Keeps wr wx)
      case first =>
        go_region
        all_goals (go_wp2; go_meet)
        · exact ⟨_, _, rfl, rfl, rfl, (boxes2 _ _ _).1, (boxes2 _ _ _).2.1, (boxes2 _ _ _).2.2⟩
        · exact ⟨_, _, rfl, rfl, rfl, (boxes2 _ _ _).2.1, (boxes2 _ _ _).1, (boxes2 _ _ _).2.2⟩
      case rest =>
        obtain ⟨g8, g9, rfl, rfl, rfl, hb8, hb9, hkc⟩ := hcut
        have HSC := Lib.hid (HS.out.near hkc)
        have HB8 := Lib.hid hb8
        have HB9 := Lib.hid hb9
        have IQ : Hid (I64 q) := Lib.hid (by
          have := HQ.out
          have h0 : k = 0 ∨ k = 1 := by omega
          rcases h0 with rfl | rfl
          · simp [ordsOf] at this; subst this; exact HP.out.ord
          · simp [ordsOf] at this; subst this; unfold I64 top; decide)
        have MQ : Hid (q ∈ ordsOf p) := Lib.hid (List.mem_of_getElem? HQ.out)
        have HBA : Hid (∀ W a, I64 a → Keeps w W → (Instr.lookup tMb (.map (some mb)) (.agg #[.int .i64 a, .int .i64 q]) false).run Try.prog W = .ok (.int .i64 (bal (pms L) a q)) W) := Lib.hid fun W a ha kW => by
          obtain ⟨D, hD, hB⟩ := (HA.out.keeps kW).ba
          exact look_ho hD ha IQ.out (hB a q ha IQ.out)
        obtain ⟨x, hx⟩ : ∃ x, bal (pms L) p.deb q = x := ⟨_, rfl⟩
        obtain ⟨y, hy⟩ : ∃ y, bal (pms L) p.cre q = y := ⟨_, rfl⟩
        have IX : Hid (I64 x) := Lib.hid (by rw [← hx]; have := in64_iff.1 (HOK.out.all p.deb q); unfold I64 top; omega)
        have IY : Hid (I64 y) := Lib.hid (by rw [← hy]; have := in64_iff.1 (HOK.out.all p.cre q); unfold I64 top; omega)
        have l1 : ∀ n, (Instr.lookup tMb (.map (some mb)) (.agg #[.int .i64 p.deb, .int .i64 q]) false).run Try.prog (wc.drewN n) = .ok (.int .i64 x) (wc.drewN n) := fun n => by
          rw [← hx]; exact HBA.out _ _ HP.out.deb (HSC.out.keep.trans (drewN_keep _ _))
        have HY : Hid (∀ W, Keeps wc W → (Instr.lookup tMb (.map (some mb)) (.agg #[.int .i64 p.cre, .int .i64 q]) false).run Try.prog W = .ok (.int .i64 y) W) := Lib.hid fun W kW => by
          rw [← hy]; exact HBA.out _ _ HP.out.cre (HSC.out.keep.trans kW)
        have ND : Hid (nextB L p p.deb q = x + p.amt) := Lib.hid (by rw [next_deb MQ.out, hx])
        have NC : Hid (nextB L p p.cre q = y - p.amt) := Lib.hid (by rw [next_cre HM.out.ne MQ.out, hy])
        have d0 := Joins.cell_of_block hb8 0
        have d1 := Joins.cell_of_block hb8 1
        have c0 := Joins.cell_of_block hb9 0
        have c1 := Joins.cell_of_block hb9 1
        simp only [List.getElem?_toArray, List.getElem?_cons_zero, List.getElem?_cons_succ] at d0 d1 c0 c1
        obtain ⟨f2, ⟨f1, f3, f4, f5⟩⟩ := HC.out wc k HSC.out
        have CA : Hid (∀ W, Calls Try.prog 31 #[.int .i64 x, .int .i64 p.amt] W fun e w' => e = .returned (.tuple #[.int .i64 (sumV (x + p.amt)), .bool (sumB (x + p.amt))]) ∧ W = w') := Lib.hid fun W => add_any x p.amt W IX.out HP.out.amt
        obtain ⟨V1, hV1⟩ : ∃ V, sumV (x + p.amt) = V := ⟨_, rfl⟩
        obtain ⟨B1, hB1⟩ : ∃ B, sumB (x + p.amt) = B := ⟨_, rfl⟩
        rw [hV1, hB1] at CA
        have HV1 := Lib.hid hV1
        have HB1 := Lib.hid hB1
        clear hx hy hV1 hB1 hb8 hb9 hkc c2 e1 e2 e3 e4 hcell hr1 hr2 hr3
        go_wp2
        go_quiet ((go_at_call 31; exact quiet_is (CA.out _)))
        have BX : Hid (∀ W, Keeps wc W → W.cell? ⟨g8, 0, none⟩ = some (.int .i64 p.deb) ∧ W.cell? ⟨g8, 1, none⟩ = some (.int .i64 q) ∧ W.cell? ⟨g9, 0, none⟩ = some (.int .i64 p.cre) ∧ W.cell? ⟨g9, 1, none⟩ = some (.int .i64 q)) := Lib.hid fun W kW => ⟨cell_keeps kW d0, cell_keeps kW d1, cell_keeps kW c0, cell_keeps kW c1⟩
        clear l1 f1 f2 f3 f4 f5 d0 d1 c0 c1 CA
        have HD1 := Lib.hid (drewN_keep wc nq)
        generalize wc.drewN nq = wd at HD1 ⊢
        cases B1 with
        | false =>
          have HF : Hid (fitsP (pms L) p.pm = false) := Lib.hid (by
            have h1 : fitQ L p q = false := by unfold fitQ; rw [ND.out, ← sumB_in, HB1.out]; rfl
            have h2 := MQ.out
            rw [fits_ords]
            simp only [ordsOf, List.mem_cons, List.not_mem_nil, or_false] at h2
            rcases h2 with rfl | rfl
            · rw [h1]; rfl
            · rw [h1, Bool.and_false])
          go_wp2
          go_ret2
          exact ⟨HSC.out.keep.trans HD1.out, Or.inl ⟨HF.out, rfl⟩⟩
        | true =>
          have EV1 : Hid (V1 = nextB L p p.deb q) := Lib.hid (by
            have h := HB1.out
            rw [sumB_in] at h
            rw [← HV1.out, sumV_in h, ND.out])
          have CS : Hid (∀ W, Calls Try.prog 32 #[.int .i64 y, .int .i64 p.amt] W fun e w' => e = .returned (.tuple #[.int .i64 (sumV (y - p.amt)), .bool (sumB (y - p.amt))]) ∧ W = w') := Lib.hid fun W => sub_any y p.amt W IY.out HP.out.amt
          obtain ⟨V2, hV2⟩ : ∃ V, sumV (y - p.amt) = V := ⟨_, rfl⟩
          obtain ⟨B2, hB2⟩ : ∃ B, sumB (y - p.amt) = B := ⟨_, rfl⟩
          rw [hV2, hB2] at CS
          have HV2 := Lib.hid hV2
          have HB2 := Lib.hid hB2
          obtain ⟨d0, d1, c0, c1⟩ := BX.out wd HD1.out
          obtain ⟨f2, ⟨f1, f3, f4, f5⟩⟩ := HC.out wd k (HSC.out.near HD1.out)
          have l2 : ∀ n, (Instr.lookup tMb (.map (some mb)) (.agg #[.int .i64 p.cre, .int .i64 q]) false).run Try.prog (wd.drewN n) = .ok (.int .i64 y) (wd.drewN n) := fun n => HY.out _ (HD1.out.trans (drewN_keep _ _))
          clear hV2 hB2
          go_wp2
          go_quiet ((go_at_call 32; exact quiet_is (CS.out _)))
          clear l2 f1 f2 f3 f4 f5 d0 d1 c0 c1 CS
          have HD2 := Lib.hid (HD1.out.trans (drewN_keep wd nq))
          generalize wd.drewN nq = we at HD2 ⊢
          cases B2 with
          | false =>
            have HF : Hid (fitsP (pms L) p.pm = false) := Lib.hid (by
              have h1 : fitQ L p q = false := by
                unfold fitQ
                rw [NC.out, ← sumB_in (y - p.amt), HB2.out, Bool.and_false]
              have h2 := MQ.out
              rw [fits_ords]
              simp only [ordsOf, List.mem_cons, List.not_mem_nil, or_false] at h2
              rcases h2 with rfl | rfl
              · rw [h1]; rfl
              · rw [h1, Bool.and_false])
            go_wp2
            go_ret2
            exact ⟨HSC.out.keep.trans HD2.out, Or.inl ⟨HF.out, rfl⟩⟩
          | true =>
            have EV2 : Hid (V2 = nextB L p p.cre q) := Lib.hid (by
              have h := HB2.out
              rw [sumB_in] at h
              rw [← HV2.out, sumV_in h, NC.out])
            have HFQ : Hid (fitQ L p q = true) := Lib.hid (by
              unfold fitQ
              rw [ND.out, NC.out, ← sumB_in, ← sumB_in, HB1.out, HB2.out]; rfl)
            have HSE := Lib.hid (HSC.out.near HD2.out)
            obtain ⟨D, hD, hMv⟩ := HSE.out.map
            have hDd : we.drew.ownsMap Try.prog tHo asIs (w.heap.size + 1) (2 * k) D := own_map hD rfl
            obtain ⟨d0, d1, c0, c1⟩ := BX.out we HD2.out
            have n8 : g8 ≠ w.heap.size + 1 := map_not_cells hD ((HD2.out.block g8 (Array.getElem?_eq_some_iff.1 HB8.out).1).trans HB8.out)
            have n9 : g9 ≠ w.heap.size + 1 := map_not_cells hD ((HD2.out.block g9 (Array.getElem?_eq_some_iff.1 HB9.out).1).trans HB9.out)
            obtain ⟨W1, E1, own1, gr1⟩ := put_ho (.int .i64 V1) hDd (by unfold maxLen; omega) HP.out.deb IQ.out
            obtain ⟨W2, E2, own2, gr2⟩ := put_ho (.int .i64 V2) own1 (by unfold maxLen; omega) HP.out.cre IQ.out
            unfold hoV at E1 E2
            have c0' := grown_cell gr1 (show we.drew.cell? ⟨g9, 0, none⟩ = some (.int .i64 p.cre) from c0) n9
            have c1' := grown_cell gr1 (show we.drew.cell? ⟨g9, 1, none⟩ = some (.int .i64 q) from c1) n9
            have HEND : Hid (MvSt w L p (k + 1) W2) := Lib.hid (HSE.out.step (D := D) hMv hD.isMap HP.out HM.out HQ.out IQ.out HFQ.out EV1.out EV2.out gr1 gr2 (own2.mono (by omega)))
            clear hD hMv hDd own1 gr1 own2 gr2 n8 n9
            go_wp2
            go_region
            go_wp2
            exact ⟨⟨k + 1, by omega, by go_num, rfl, HEND.out⟩, by simp [intOf]; omega⟩
    · obtain rfl : k = 2 := by omega
      have HF : Hid (fitsP (pms L) p.pm = true) := Lib.hid (by rw [fits_ords, hs.fit _ (by simp [ordsOf]), hs.fit _ (by simp [ordsOf])]; rfl)
      clear hs
      go_wp2
      go_ret2
      obtain ⟨D, h1, h2⟩ := HS.out.map
      exact ⟨HS.out.keep, Or.inr ⟨HF.out, _, D, rfl, by omega, h1, h2⟩⟩
end Go.Proofs.Ytffipjhpoaalhaa
