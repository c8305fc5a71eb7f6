/- The program's books: Post. -/
import Derived.Test.YtffipjhpoaalhaaBkMv
import Derived.Maps.AppendAt
set_option linter.unusedVariables false
namespace Go.Proofs.Ytffipjhpoaalhaa
open Go.ChangeShapes Go.WideShapes Go.ChangeAt Go.RowKit Csv Bk Mon
open Go.Maps (Keyed)

def PPostOut (F : Nat → Prop) (b : Nat) (L : List PI) (p : PI) (w : World) (e : Ending) (w' : World) : Prop := e = .returned (.int .i64 (postI L p).1) ∧ ∃ F', PBk w' F' b (postI L p).2 ∧ OffF F F' w w'
theorem PPostOut.same {F : Nat → Prop} {b : Nat} {L : List PI} {p : PI} {w w' : World} {n : Int} (h : PBk w F b L) (k : Keeps w w') (e : postI L p = (n, L)) : PPostOut F b L p w (.returned (.int .i64 n)) w' := by
  unfold PPostOut
  rw [e]
  exact ⟨rfl, F, h.keeps k, ⟨k.os, k.tape, k.output, k.size, fun i hi _ => k.block i hi, fun i hi => Or.inl hi⟩⟩
/-- What is looked up at a posting's Id. -/
theorem look_id {w : World} {b mp mb : Nat} {v : Value} {L : List PI} (h : PAt w b v mp mb L) (hg : GoodL L) (p : PI) (hp : p.Good) : ∃ (z : PI) (B : Bool),
    (∀ W, W.heap[mp]? = w.heap[mp]? → (Instr.lookup tMp (.map (some mp)) (.string p.s) true).run Try.prog W = .ok (.tuple #[z.val, .bool B]) W) ∧
    ((B = false ∧ idOf (pms L) p.pm.id = none) ∨ (B = true ∧ idOf (pms L) p.pm.id = some z.pm ∧ z.s = p.s)) := by
  obtain ⟨D, hD, h1, h2⟩ := h.po
  have hh := h1 p.s hp.s
  cases hi : idOf (pms L) p.s.data.toList with
  | none =>
    rw [hi] at hh
    have hv := Maps.atKey_of_not_has hh (.held poZ)
    refine ⟨⟨⟨#[]⟩, 0, 0, 0, 0⟩, false, fun W hW => ?_, Or.inl ⟨rfl, hi⟩⟩
    have := look_po true (own_map hD hW) hp.s hv
    rw [hh] at this
    exact this
  | some q =>
    rw [hi] at hh
    obtain ⟨hm, hq⟩ := id_some hi
    obtain ⟨x, hx, rfl⟩ := List.mem_map.1 hm
    obtain ⟨j, hj⟩ := List.mem_iff_getElem?.1 hx
    have hxs : x.s = p.s := bytes_inj hq
    have hv := h2 j x hj
    rw [hxs] at hv
    refine ⟨x, true, fun W hW => ?_, Or.inr ⟨rfl, hi, hxs⟩⟩
    have := look_po true (own_map hD hW) hp.s hv
    rw [hh] at this
    exact this
theorem ssrc_one {w : World} {b : Nat} {s : ByteArray} (h : w.heap[b]? = some (.cells #[.string s] strK.t (0, 0))) : strK.Src w (.slice (some ⟨b, 0, none⟩) 1 1) [s] := by
  refine ⟨_, 1, rfl, (fun e => by cases e), fun a ha j u hu => ?_⟩
  cases ha
  rw [addr_of, Joins.cell_of_block h j]
  have e : strK.row [s] = [.string s] := rfl
  rw [e] at hu
  rw [← hu]
  simp
/-- 'append' to a row that is there: where the new row lies. -/
theorem app_row_at {α : Type} (K : RowK α) (w : World) (B : Nat) (v : Value) (l : List α) (src : Value) (m : List α) (hown : K.Own B w v l) (hs : K.Src w src m) (hn : l.length + m.length ≤ 100000) (hB : B ≤ w.heap.size) :
    ∃ p' c' w', (Builtin.append_ #[K.ts, K.ts] K.ts #[v, src]).run Try.prog w = .ok (.slice p' (l.length + m.length) c') w' ∧ K.Own B w' (.slice p' (l.length + m.length) c') (l ++ m) ∧ w.grownBy w' v.ownBlock ∧ ((Value.slice p' (l.length + m.length) c').ownBlock = v.ownBlock ∨ (Value.slice p' (l.length + m.length) c').ownBlock = some w.heap.size) := by
  obtain ⟨i, hi, hz, hsz, hb⟩ := K.parts
  obtain ⟨p, c, rfl, h1, h2⟩ := hs
  cases p with
  | none =>
    obtain ⟨rfl, rfl⟩ := h1 rfl
    have hr := run_append_owned_none (P := Try.prog) w B K.ts K.ts K.t i K.sz K.under hi v l.length (K.row l) hown
    obtain ⟨p', c', rfl⟩ := K.own_shape hown
    exact ⟨p', c', w, hr, by simpa using hown, ⟨rfl, rfl, rfl, Nat.le_refl _, fun _ _ _ => rfl⟩, Or.inl rfl⟩
  | some a =>
    obtain ⟨v', w', q1, q2, q3, _, q4⟩ := run_append_own_at (P := Try.prog) w B K.ts K.ts K.t i _ K.sz K.bytes K.under hi hz hsz hb K.zsize K.pos v l.length (K.row l) hown a m.length c (K.row m) (K.row_len m) (h2 a rfl) (K.row_one m) (by unfold maxLen; omega) (by
      have := K.small
      calc (l.length + m.length) * K.bytes ≤ 100000 * 1000 := Nat.mul_le_mul hn this
        _ ≤ 140737488355328 := by omega) hB
    obtain ⟨p', c', rfl⟩ := K.own_shape q2
    exact ⟨p', c', w', q1, by unfold RowK.Own; rw [K.row_app, List.length_append]; exact q2, q3, q4⟩
theorem stepAppAtK {α : Type} (R : RowK α) {w : World} {ops : Array Oper} {o : Oper} {a : Act} {K : Act → World → Prop} {Q : Exit → Act → World → Prop} {E : Prop} (hgd : o.guard = none) (sl x : Operand)
    (ho : o.op = .call { callee := .builtin .append, args := #[sl, x], argTypes := #[R.ts, R.ts] }) (ht : o.type = R.ts) (B : Nat) (hB : B ≤ w.heap.size) (v src : Value) (L M : List α) (m : Nat) (hm : L.length + M.length = m) (hs : a.eval sl = v) (hx : a.eval x = src) (hown : R.Own B w v L) (hsrc : R.Src w src M) (hn : L.length + M.length ≤ 100000)
    (h : ∀ p' c' w', R.Own B w' (.slice p' m c') (L ++ M) → w.grownBy w' v.ownBlock → ((Value.slice p' m c').ownBlock = v.ownBlock ∨ (Value.slice p' m c').ownBlock = some w.heap.size) → K (a.put o.dst (.slice p' m c')) w') : if Region.wanted o (yielded ops a.tmps) = true then Oper.wp Try.prog o a w K Q else E := by
  subst hm
  obtain ⟨p', c', w', h1, h2, h3, h4⟩ := app_row_at R w B v L src M hown hsrc hn hB
  exact stepAppendKnown hgd sl x _ _ ho _ _ _ w' hs hx (by rw [ht]; exact h1) (h p' c' w' h2 h3 h4)
theorem ids_snoc (L : List PI) (p : PI) : idsOf (L ++ [p]) = idsOf L ++ [p.s] := by unfold idsOf; rw [List.map_append]; rfl
theorem PAt.ids_off {w : World} {b mp mb : Nat} {v : Value} {L : List PI} (h : PAt w b v mp mb L) : v.ownBlock ≠ some b ∧ v.ownBlock ≠ some mp ∧ v.ownBlock ≠ some mb ∧ b ≠ mp ∧ b ≠ mb := by
  obtain ⟨D, h1, _⟩ := h.po
  obtain ⟨D', h2, _⟩ := h.ba
  refine ⟨fun e => ?_, fun e => ?_, fun e => ?_, map_not_cells h1 h.box, map_not_cells h2 h.box⟩
  · obtain ⟨c, hc⟩ := strK.own_tag h.ids e
    rw [h.box] at hc
    have : tBo = strK.t := by injection hc with e; injection e
    exact absurd this (by decide)
  · obtain ⟨c, hc⟩ := strK.own_tag h.ids e
    exact map_not_cells h1 hc rfl
  · obtain ⟨c, hc⟩ := strK.own_tag h.ids e
    exact map_not_cells h2 hc rfl
/-- A posting is there: the world that Post leaves. -/
theorem posted_at {w w2 w3 w4 w4' w5 : World} {b mp mb : Nat} {v v5 : Value} {L : List PI} {p : PI} {F : Nat → Prop} {D3 Dp : DataW Value}
    (hF : ∀ i, F i ↔ BkF b v mp mb i) (hA : PAt w b v mp mb L) (k2 : Keeps w w2)
    (g3 : w2.grownBy w3 (some mb)) (h3 : w3.ownsMap Try.prog tHo asIs mb (4 * L.length + 4) D3) (q3 : Bals D3 (nextB L p))
    (g4 : w3.drew.grownBy w4 (some mp)) (h4 : w4.ownsMap Try.prog 9 asIs mp (L.length + 1) Dp) (q4 : Posts Dp (L ++ [p]))
    (k4 : Keeps w4 w4') (g5 : w4'.grownBy w5 v.ownBlock) (h5 : strK.Own 0 w5 v5 (idsOf L ++ [p.s])) (hl : v5.ownBlock = v.ownBlock ∨ v5.ownBlock = some w4'.heap.size) :
    ∃ F', PBk (w5.setCell ⟨b, 0, none⟩ v5) F' b (L ++ [p]) ∧ OffF F F' w (w5.setCell ⟨b, 0, none⟩ v5) := by
  obtain ⟨n1, n2, n3, n4, n5⟩ := hA.ids_off
  have s2 := k2.size
  have s3 : w2.heap.size ≤ w3.heap.size := g3.size
  have s4 : w3.heap.size ≤ w4.heap.size := g4.size
  have s4' := k4.size
  have s5 := g5.size
  have sc : ∀ i, i ≠ b → (w5.setCell ⟨b, 0, none⟩ v5).heap[i]? = w5.heap[i]? := fun i hi => by
    simp [World.setCell, Array.getElem?_modify, Ne.symm hi]
  have off5 : ∀ i, i < w4.heap.size → v.ownBlock ≠ some i → w5.heap[i]? = w4.heap[i]? := fun i hi hn => (g5.block i (by omega) (fun e => hn e.symm)).trans (k4.block i hi)
  have off4 : ∀ i, i < w3.heap.size → i ≠ mp → w4.heap[i]? = w3.heap[i]? := fun i hi hn => g4.block i hi (fun e => hn (Option.some.inj e))
  have off3 : ∀ i, i < w.heap.size → i ≠ mb → w3.heap[i]? = w.heap[i]? := fun i hi hn => (g3.block i (by omega) (fun e => hn (Option.some.inj e))).trans (k2.block i hi)
  have hlt := hA.lt
  have lb := hlt b (Or.inl rfl)
  have lp := hlt mp (Or.inr (Or.inl rfl))
  have lbb := hlt mb (Or.inr (Or.inr (Or.inl rfl)))
  have hb5 : w5.heap[b]? = some (.cells #[v, .map (some mp), .map (some mb)] tBo (0, 0)) := by
    rw [off5 b (by omega) n1, off4 b (by omega) n4, off3 b lb n5]; exact hA.box
  have n6 : v5.ownBlock ≠ some b := fun e => by
    obtain ⟨c, hc⟩ := strK.own_tag h5 e
    rw [hb5] at hc
    have : tBo = strK.t := by injection hc with e; injection e
    exact absurd this (by decide)
  refine ⟨BkF b v5 mp mb, ⟨v5, mp, mb, ⟨?_, ?_, ⟨Dp, (own_map h4 ?_).mono (by simp), q4⟩, ⟨D3, (own_map h3 ?_).mono ?_, ?_⟩, hA.ne⟩, fun i => Iff.rfl⟩, ⟨?_, ?_, ?_, ?_, ?_, ?_⟩⟩
  · simp [World.setCell, hb5, Array.getElem?_modify]
  · rw [ids_snoc]
    exact strK.own_local h5 fun g hg => sc g (fun e => n6 (by rw [hg, e]))
  · rw [sc mp (Ne.symm n4), off5 mp (by omega) n2]
  · rw [sc mb (Ne.symm n5), off5 mb (by omega) n3, off4 mb (by omega) (Ne.symm hA.ne)]
  · rw [List.length_append, List.length_singleton]; omega
  · have e : pms (L ++ [p]) = pms L ++ [p.pm] := by unfold pms; rw [List.map_append]; rfl
    rw [e]; exact q3
  · exact (((g5.os.trans k4.os).trans g4.os).trans g3.os).trans k2.os
  · exact (((g5.tape.trans k4.tape).trans g4.tape).trans g3.tape).trans k2.tape
  · exact (((g5.output.trans k4.output).trans g4.output).trans g3.output).trans k2.output
  · show w.heap.size ≤ (w5.heap.modify b _).size
    rw [Array.size_modify]; omega
  · intro i hi hn
    rw [hF] at hn
    unfold BkF at hn
    rw [not_or, not_or, not_or] at hn
    rw [sc i hn.1, off5 i (by omega) hn.2.2.2, off4 i (by omega) hn.2.1, off3 i hi hn.2.2.1]
  · rintro i (rfl | rfl | rfl | hi)
    · exact Or.inl ((hF _).2 (Or.inl rfl))
    · exact Or.inl ((hF _).2 (Or.inr (Or.inl rfl)))
    · exact Or.inl ((hF _).2 (Or.inr (Or.inr (Or.inl rfl))))
    · rcases hl with hl | hl
      · exact Or.inl ((hF _).2 (Or.inr (Or.inr (Or.inr (by rw [← hl, hi])))))
      · rw [hl] at hi
        have := Option.some.inj hi
        exact Or.inr (by omega)
set_option maxRecDepth 100000 in
set_option maxHeartbeats 8000000 in
theorem ppost_any (F : Nat → Prop) (b : Nat) (L : List PI) (p : PI) (w : World) (h : PBk w F b L) (hg : GoodL L) (hp : p.Good) (hok : OkL (pms L)) (hl : L.length ≤ 900) :
    Calls Try.prog 11 #[.pointer (some ⟨b, 0, none⟩), p.val] w (PPostOut F b L p w) := by
  have HB := Lib.hid h
  obtain ⟨v, mp, mb, hA, hF⟩ := h
  have HA := Lib.hid hA
  have HFF := Lib.hid hF
  have HG := Lib.hid hg
  have HP := Lib.hid hp
  have HOK := Lib.hid hok
  have HL := Lib.hid hl
  have k0 := keeps_box w (.cells p.vals.toArray tPo)
  have HN : Hid (Calls Try.prog 21 #[.pointer (some ⟨b, 0, none⟩)] (w.alloc (.cells #[.string p.s, .int .i64 p.ord, .int .i64 p.deb, .int .i64 p.cre, .int .i64 p.amt] tPo)) fun e w' => e = .returned (.bool false) ∧ w' = w.alloc (.cells #[.string p.s, .int .i64 p.ord, .int .i64 p.deb, .int .i64 p.cre, .int .i64 p.amt] tPo)) := Lib.hid (pnone_any (hA.keeps k0))
  have HM : Hid (∀ W, Calls Try.prog 22 #[.agg #[.string p.s, .int .i64 p.ord, .int .i64 p.deb, .int .i64 p.cre, .int .i64 p.amt]] W fun e w' => e = .returned (.bool (mayM p.pm)) ∧ Keeps W w') := Lib.hid fun W => pbmay_any p W
  obtain ⟨m, hm⟩ : ∃ m, mayM p.pm = m := ⟨_, rfl⟩
  have HMM := Lib.hid hm
  rw [hm] at HM
  have CX : Hid (∀ W, Keeps (w.alloc (.cells p.vals.toArray tPo)) W → W.heap[w.heap.size]? = some (.cells p.vals.toArray tPo (0, 0)) ∧ W.cell? ⟨w.heap.size, 0, none⟩ = some (.string p.s) ∧ W.cell? ⟨w.heap.size, 1, none⟩ = some (.int .i64 p.ord) ∧ W.cell? ⟨w.heap.size, 2, none⟩ = some (.int .i64 p.deb) ∧ W.cell? ⟨w.heap.size, 3, none⟩ = some (.int .i64 p.cre) ∧ W.cell? ⟨w.heap.size, 4, none⟩ = some (.int .i64 p.amt)) := Lib.hid fun W kW => by
    have e := heap_alloc_new w (.cells p.vals.toArray tPo)
    have e2 : W.heap[w.heap.size]? = some (.cells p.vals.toArray tPo (0, 0)) := (kW.block _ (by simp)).trans e
    exact ⟨e2, Joins.cell_of_block e2 0, Joins.cell_of_block e2 1, Joins.cell_of_block e2 2, Joins.cell_of_block e2 3, Joins.cell_of_block e2 4⟩
  have CB : Hid (∀ W, Keeps w W → W.cell? ⟨b, 0, none⟩ = some v ∧ W.cell? ⟨b, 1, none⟩ = some (.map (some mp)) ∧ W.cell? ⟨b, 2, none⟩ = some (.map (some mb))) := Lib.hid fun W kW => (hA.keeps kW).cells
  have K0 := Lib.hid k0
  unfold PI.val
  clear hA hF hg hp hok hl hm k0
  go_enter Try.func11, Try.ntmps11
  go_wp2_with fail
  refine HN.out.mono ?_
  rintro e w' ⟨rfl, rfl⟩
  clear HN
  go_wp2_with fail
  refine (HM.out _).mono ?_
  rintro e w1 ⟨rfl, k1⟩
  have K1 := Lib.hid k1
  clear k1 HM
  cases m with
  | false =>
    have E : Hid (postI L p = (2, L)) := Lib.hid (by unfold postI postM; simp [HMM.out])
    go_wp2
    go_ret
    exact PPostOut.same HB.out (K0.out.trans K1.out) E.out
  | true =>
    have K01 := Lib.hid (Keeps.trans K0.out K1.out)
    obtain ⟨z, B, hlook, hz⟩ := look_id (HA.out.keeps K01.out) HG.out p HP.out
    have HZ := Lib.hid hz
    obtain ⟨x0, x1, x2, x3, x4, x5⟩ := CX.out w1 K1.out
    obtain ⟨c0, c1, c2⟩ := CB.out w1 K01.out
    have l1 := hlook w1.drew rfl
    have l2 := hlook (w1.alloc (.cells #[.string ⟨#[]⟩, .int .i64 0, .int .i64 0, .int .i64 0, .int .i64 0] tPo)).drew ((keeps_box w1 _).block _ (by have := (HA.out.keeps K01.out).lt mp (Or.inr (Or.inl rfl)); exact this))
    have hq1 : b < w1.heap.size := block_lt_of_cell c0
    have hq2 : b ≠ w1.heap.size := Nat.ne_of_lt hq1
    have hq3 : w.heap.size < w1.heap.size := block_lt_of_cell x1
    have hq4 : w.heap.size ≠ w1.heap.size := Nat.ne_of_lt hq3
    unfold PI.val at l1 l2
    clear hlook hz x0
    go_wp2
    go_cut [5, 6] from 16 to 26 (fun s5 s6 wx => ∃ g5, s5 = .pointer (some ⟨g5, 0, none⟩) ∧ s6 = .bool B ∧ wx.heap[g5]? = some (.cells z.vals.toArray tPo (0, 0)) ∧ Keeps w1 wx)
    case first =>
      go_region
      all_goals (go_wp2; go_meet)
      all_goals exact ⟨_, rfl, rfl, heap_alloc_new _ _, Keeps.trans (keeps_box w1 _) (bbel_drew _)⟩
    case rest =>
      obtain ⟨g5, rfl, rfl, hb5, hkc⟩ := hcut
      have KC := Lib.hid (Keeps.trans K1.out hkc)
      have KW := Lib.hid (K01.out.trans hkc)
      obtain ⟨y0, y1, y2, y3, y4, y5⟩ := CX.out wc KC.out
      obtain ⟨d0, d1, d2⟩ := CB.out wc KW.out
      have b0 := Joins.cell_of_block hb5 0
      have b1 := Joins.cell_of_block hb5 1
      have b2 := Joins.cell_of_block hb5 2
      have b3 := Joins.cell_of_block hb5 3
      have b4 := Joins.cell_of_block hb5 4
      simp only [PI.vals, List.getElem?_toArray, List.getElem?_cons_zero, List.getElem?_cons_succ] at b0 b1 b2 b3 b4
      clear y0 hb5 hkc l1 l2 x1 x2 x3 x4 x5 c0 c1 c2 hq1 hq2 hq3 hq4
      rcases HZ.out with ⟨rfl, hi⟩ | ⟨rfl, hi, hs⟩
      · have HI := Lib.hid hi
        clear hi b0 b1 b2 b3 b4 HZ
        have CM : Hid (Calls Try.prog 23 #[.pointer (some ⟨b, 0, none⟩), .agg #[.string p.s, .int .i64 p.ord, .int .i64 p.deb, .int .i64 p.cre, .int .i64 p.amt]] wc (PMovedOut L p wc)) := Lib.hid (pmoved_any L p wc (HA.out.keeps KW.out) HP.out (may_iff.1 HMM.out) HOK.out)
        have EN := Lib.hid (post_new HMM.out HI.out)
        go_wp2_with fail
        refine CM.out.mono ?_
        rintro e w2 ⟨k2, ⟨hf, rfl⟩ | ⟨hf, m, D, rfl, hmlt, hown, hmv⟩⟩
        · have E : Hid (postI L p = (90, L)) := Lib.hid (by rw [EN.out, hf]; rfl)
          have K2 := Lib.hid (KW.out.trans k2)
          clear k2 hf
          go_wp2
          go_ret
          exact PPostOut.same HB.out K2.out E.out
        · have E : Hid (postI L p = (0, L ++ [p])) := Lib.hid (by rw [EN.out, hf]; rfl)
          have K2 := Lib.hid (KW.out.trans k2)
          have KC2 := Lib.hid (KC.out.trans k2)
          have HA2 := Lib.hid (HA.out.keeps K2.out)
          have CP : Hid (Calls Try.prog 24 #[.map (some mb), .map (some m)] w2 fun e w' => e = .returned (.tuple #[]) ∧ ∃ D3, w2.grownBy w' (some mb) ∧ w'.ownsMap Try.prog tHo asIs mb (4 * L.length + 4) D3 ∧ Bals D3 (nextB L p)) := Lib.hid (by
            obtain ⟨D0, hD0, hB0⟩ := HA2.out.ba
            have hsz := hown.size_le
            have hmb := (HA.out.keeps KW.out).lt mb (Or.inr (Or.inr (Or.inl rfl)))
            refine (pcopy_ho mb m (4 * L.length) 4 D0 D w2 hD0 hown (by omega) (by unfold maxLen; have := HL.out; omega)).mono ?_
            rintro e w' ⟨rfl, ⟨D', h1, h2⟩, h3⟩
            refine ⟨rfl, D', h3, h1.mono (by omega), Bals.laid hB0 hmv h2 fun a o hn => ?_⟩
            unfold nextB
            rw [bal_snoc, hit_off (may_iff.1 HMM.out) (by
              simp only [ordsOf, List.mem_cons, List.not_mem_nil, or_false] at hn
              exact hn), Int.add_zero])
          obtain ⟨z0, z1, z2, z3, z4, z5⟩ := CX.out w2 KC2.out
          obtain ⟨c0, c1, c2⟩ := CB.out w2 K2.out
          have Z0 := Lib.hid z0
          clear k2 hf hown hmv hmlt z0 d0 d1 d2 y1 y2 y3 y4 y5 z1 z2 z3 z4 z5
          go_wp2_with fail
          refine CP.out.mono ?_
          rintro e w3 ⟨rfl, D3, g3, h3, q3⟩
          have G3 := Lib.hid g3
          have H3 := Lib.hid h3
          have Q3 := Lib.hid q3
          obtain ⟨n1, n2, n3, n4, n5⟩ := HA2.out.ids_off
          have hb2 := HA2.out.box
          have hb3 : w3.heap[b]? = some (.cells #[v, .map (some mp), .map (some mb)] tBo (0, 0)) := (g3.block b (Array.getElem?_eq_some_iff.1 hb2).1 (fun e => n5 (Option.some.inj e))).trans hb2
          have nq : w.heap.size ≠ mb := by have := HA.out.lt mb (Or.inr (Or.inr (Or.inl rfl))); omega
          have nq2 : w.heap.size ≠ mp := by have := HA.out.lt mp (Or.inr (Or.inl rfl)); omega
          have nq3 : w.heap.size ≠ b := by have := HA.out.lt b (Or.inl rfl); omega
          have hp3 : w3.heap[w.heap.size]? = some (.cells p.vals.toArray tPo (0, 0)) := (g3.block _ (Array.getElem?_eq_some_iff.1 Z0.out).1 (fun e => nq (Option.some.inj e))).trans Z0.out
          obtain ⟨Dq, hDq, hPq⟩ := HA2.out.po
          have hDq3 : w3.drew.ownsMap Try.prog 9 asIs mp L.length Dq := own_map hDq (g3.block mp hDq.lt (fun e => HA2.out.ne (Option.some.inj e)))
          obtain ⟨w4, E4, own4, g4⟩ := put_po p.val hDq3 (by unfold maxLen; have := HL.out; omega) HP.out.s
          have hb4 : w4.heap[b]? = some (.cells #[v, .map (some mp), .map (some mb)] tBo (0, 0)) := (g4.block b (Array.getElem?_eq_some_iff.1 hb3).1 (fun e => n4 (Option.some.inj e))).trans hb3
          have hp4 : w4.heap[w.heap.size]? = some (.cells p.vals.toArray tPo (0, 0)) := (g4.block _ (Array.getElem?_eq_some_iff.1 hp3).1 (fun e => nq2 (Option.some.inj e))).trans hp3
          have hids4 : strK.Own 0 w4 v (idsOf L) := strK.own_local HA2.out.ids fun g hg => by
            have hlt := (strK.own_lt HA2.out.ids g hg).2
            rw [g4.block g (Nat.lt_of_lt_of_le hlt g3.size) (fun e => n2 (hg.trans e)), show w3.drew.heap[g]? = w3.heap[g]? from rfl, g3.block g hlt (fun e => n3 (hg.trans e))]
          have G4 := Lib.hid g4
          have O4 := Lib.hid own4
          have Q4 := Lib.hid (hPq.put hDq.isMap HI.out)
          have HB4 := Lib.hid hb4
          have HI4 := Lib.hid hids4
          have N1 := Lib.hid n1
          have z1 := Joins.cell_of_block hp3 0
          have z2 := Joins.cell_of_block hp3 1
          have z3 := Joins.cell_of_block hp3 2
          have z4 := Joins.cell_of_block hp3 3
          have z5 := Joins.cell_of_block hp3 4
          have y1 := Joins.cell_of_block hp4 0
          have c1 := Joins.cell_of_block hb3 1
          have c4 := Joins.cell_of_block hb4 0
          simp only [PI.vals, List.getElem?_toArray, List.getElem?_cons_zero, List.getElem?_cons_succ] at z1 z2 z3 z4 z5 y1 c1 c4
          have hq1 : b < w4.heap.size := (Array.getElem?_eq_some_iff.1 hb4).1
          have hq2 : b ≠ w4.heap.size := Nat.ne_of_lt hq1
          have hq3 : w.heap.size < w4.heap.size := (Array.getElem?_eq_some_iff.1 hp4).1
          have hq4 : w.heap.size ≠ w4.heap.size := Nat.ne_of_lt hq3
          have EL : Hid ((idsOf L).length = L.length) := Lib.hid (by unfold idsOf; simp)
          have HLM : Hid ((idsOf L).length + [p.s].length = L.length + 1) := Lib.hid (by rw [EL.out]; rfl)
          have HLN : Hid ((idsOf L).length + [p.s].length ≤ 100000) := Lib.hid (by rw [EL.out]; have := HL.out; simp; omega)
          unfold PI.val at E4
          clear g3 h3 q3 hb2 hb3 hp3 hp4 hDq hPq hDq3 own4 g4 hb4 hids4 n1 n2 n3 n4 n5 nq nq2 nq3
          go_wp2
          go_region
          go_wp2
          go_region_law (first
            | (refine stepAppAtK strK rfl _ _ rfl rfl 0 (Nat.zero_le _) v _ (idsOf L) [p.s] (L.length + 1) HLM.out rfl rfl (strK.own_keeps HI4.out ?k4) (ssrc_one (heap_alloc_new _ _)) HLN.out ?_
               case k4 => first | exact bbel_alloc w4 _ | exact Keeps.trans (keeps_box w4 _) (bbel_drew _)
               intro p5 c5 w5 o5 g5 l5
               have hb5 := (g5.block b (Nat.lt_of_lt_of_le hq1 (by simp)) N1.out.symm).trans (Eq.trans (by first | exact (bbel_alloc w4 _).block b hq1 | exact (Keeps.trans (keeps_box w4 _) (bbel_drew _)).block b hq1) HB4.out)
               have hf5 := Joins.unfrozen_of_block hb5 0
               have hc5 := Joins.cell_of_block hb5 0))
          all_goals (have O5 := Lib.hid o5; have G5 := Lib.hid g5; have L5 := Lib.hid l5; clear o5 g5 l5 hb5 hf5 hc5; go_wp2; go_ret; unfold PPostOut; rw [E.out]; refine ⟨rfl, posted_at HFF.out HA.out K2.out G3.out H3.out Q3.out G4.out O4.out Q4.out (by first | exact bbel_alloc w4 _ | exact Keeps.trans (keeps_box w4 _) (bbel_drew _)) G5.out O5.out L5.out⟩)
      · have E : Hid (postI L p = (if z.pm = p.pm then 0 else 91, L)) := Lib.hid (post_there HMM.out hi)
        obtain ⟨zs, zo, zd, zc, zm⟩ := z
        dsimp only at hs b0 b1 b2 b3 b4
        subst hs
        clear hi HZ
        by_cases he : zo = p.ord ∧ zd = p.deb ∧ zc = p.cre ∧ zm = p.amt
        · obtain ⟨rfl, rfl, rfl, rfl⟩ := he
          have E0 : Hid (postI L p = (0, L)) := Lib.hid (E.out.trans (by rw [if_pos rfl]))
          clear E
          go_wp2
          go_ret
          exact PPostOut.same HB.out KW.out E0.out
        · have E0 : Hid (postI L p = (91, L)) := Lib.hid (E.out.trans (by
            have : ¬ PI.pm ⟨p.s, zo, zd, zc, zm⟩ = p.pm := fun e => he (by simpa [PI.pm] using e)
            rw [if_neg this]))
          clear E
          by_cases e1 : zo = p.ord
          · by_cases e2 : zd = p.deb
            · by_cases e3 : zc = p.cre
              · have e4 : (zm == p.amt) = false := by
                  have : zm ≠ p.amt := fun e => he ⟨e1, e2, e3, e⟩
                  simpa using this
                subst e1 e2 e3
                clear he
                go_wp2
                go_ret
                exact PPostOut.same HB.out KW.out E0.out
              · have e4 : (zc == p.cre) = false := by simpa using e3
                subst e1 e2
                clear he e3
                go_wp2
                go_ret
                exact PPostOut.same HB.out KW.out E0.out
            · have e4 : (zd == p.deb) = false := by simpa using e2
              subst e1
              clear he e2
              go_wp2
              go_ret
              exact PPostOut.same HB.out KW.out E0.out
          · have e4 : (zo == p.ord) = false := by simpa using e1
            clear he e1
            go_wp2
            go_ret
            exact PPostOut.same HB.out KW.out E0.out
end Go.Proofs.Ytffipjhpoaalhaa
