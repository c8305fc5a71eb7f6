
/- The document's own disk: Fail. -/
import Derived.Test.YtpecbfcboocmcaaRefDel
set_option linter.unusedVariables false
namespace Go.Proofs.Ytpecbfcboocmcaa
open Go.ChangeShapes Go.WideShapes Go.ChangeAt Go.RowKit Go.Maps Csv Dk

abbrev tIs : TypeId := 32
theorem copy_ints (w : World) (v : Value) (ws : List Int) (h : IntsAt w v ws) (hc : ∀ n c, v = .slice none n c → c = 0) (hl : ws.length ≤ 1000) :
    ∃ p' c' w', (Builtin.append_ #[tIs, tIs] tIs #[.slice none 0 0, v]).run Try.prog w = .ok (.slice p' ws.length c') w' ∧ w'.ownsRow w.heap.size tI 1 (.slice p' ws.length c') ws.length (ivs ws) ∧ Keeps w w' := by
  obtain ⟨i, hi, hz, hsz, hb⟩ := info_parts info_int
  obtain ⟨p, c, rfl, h1, h2⟩ := h
  cases p with
  | none =>
    have h0 : ws = [] := by
      cases ws with
      | nil => rfl
      | cons x r => obtain ⟨a, ha, _⟩ := h2 0 x rfl; cases ha
    subst h0
    obtain rfl := hc _ _ rfl
    have hr := run_append_owned_none (P := Try.prog) w w.heap.size tIs tIs tI i 1 Try.underlying32 hi (.slice none 0 0) 0 [] (World.ownsRow_nil _ _ _ _)
    exact ⟨none, 0, w, hr, World.ownsRow_nil _ _ _ _, Keeps.refl _⟩
  | some a =>
    obtain ⟨v', w', q1, q2, q3, _⟩ := run_append_own (P := Try.prog) w w.heap.size tIs tIs tI i _ 1 8 Try.underlying32 hi hz hsz hb rfl (by omega) (.slice none 0 0) 0 [] (World.ownsRow_nil _ _ _ _) a ws.length c (ivs ws) (by rw [ivs_len]; omega)
      (fun j u hj => by
        unfold ivs at hj
        rw [List.getElem?_map] at hj
        obtain ⟨x, hx, rfl⟩ := Option.map_eq_some_iff.1 hj
        obtain ⟨a', e, hcell⟩ := h2 j x hx
        cases e
        exact hcell)
      (fun u hu => by obtain ⟨x, _, rfl⟩ := List.mem_map.1 hu; rfl) (by unfold maxLen; omega) (by omega) (Nat.le_refl _)
    obtain ⟨p', c', rfl⟩ : ∃ p c, v' = .slice p ws.length c := by
      rcases q2.2 with ⟨rfl, h0⟩ | ⟨g, cap, cur, rfl, _⟩
      · exact ⟨none, 0, by rw [show ws.length = 0 by omega]⟩
      · exact ⟨_, _, by rw [Nat.zero_add]⟩
    exact ⟨p', c', w', q1, by simpa using q2, ⟨q3.os, q3.tape, q3.output, q3.size, fun i hi => q3.block i hi (by simp [Value.ownBlock])⟩⟩
theorem step_ints {w : World} {ops : Array Oper} {o : Oper} {a : Act} {K : Act → World → Prop} {Q : Exit → Act → World → Prop} {E : Prop} (hgd : o.guard = none) (sl x : Operand)
    (ho : o.op = .call { callee := .builtin .append, args := #[sl, x], argTypes := #[tIs, tIs] }) (ht : o.type = tIs) (w0 : World) (k0 : Below w0.heap.size w0 w) (v : Value) (ws : List Int) (m : Nat) (hm : ws.length = m) (hs : a.eval sl = .slice none 0 0) (hx : a.eval x = v) (hv : IntsAt w0 v ws) (hc : ∀ n c, v = .slice none n c → c = 0) (hn : ws.length ≤ 1000)
    (h : ∀ p' c' w', w'.ownsRow w0.heap.size tI 1 (.slice p' m c') ws.length (ivs ws) → Below w0.heap.size w0 w' → K (a.put o.dst (.slice p' m c')) w') : if Region.wanted o (yielded ops a.tmps) = true then Oper.wp Try.prog o a w K Q else E := by
  subst hm
  obtain ⟨p', c', w', h1, h2, h3⟩ := copy_ints w v ws (hv.keeps k0) hc hn
  exact step_append_known hgd sl x _ _ ho _ _ _ w' hs hx (by rw [ht]; exact h1) (h p' c' w' (own_base h2 fun g hg => Nat.le_trans k0.size (h2.lt g hg).1) ⟨h3.os.trans k0.os, h3.tape.trans k0.tape, h3.output.trans k0.output, Nat.le_trans k0.size h3.size, fun i hi => (h3.block i (Nat.lt_of_lt_of_le hi k0.size)).trans (k0.block i hi)⟩)

/-- What Fail leaves: the document's disk counts to 2^40 at most. -/
def rfailD (D : DiskM) (n : Int) (ws : List Int) : DiskM :=
  if D.up = false then D else if n < 0 then D else ⟨D.cap, D.files, D.up, D.starts, some (min n.toNat 1099511627776, ws)⟩

set_option maxRecDepth 100000 in
set_option maxHeartbeats 2000000 in
theorem rfail_any (r : Nat) (D : DiskM) (G : List Nat) (n : Int) (v : Value) (ws : List Int) (w : World) (h : IsRef w r D G) (hn : I64 n) (hv : IntsAt w v ws) (hcv : ∀ n c, v = .slice none n c → c = 0) (hl : ws.length ≤ 1000) :
    Calls Try.prog 31 #[ptrV r, .int .i64 n, v] w fun e w' => e = .returned (.int .i64 (failD D n ws).1) ∧ RGoes w w' G r (rfailD D n ws) := by
  obtain ⟨vL, vK, ks, h, rfl⟩ := h
  have H := Lib.hid h
  have hn' := hn.nat
  have hv0 := hv
  obtain ⟨pv, cv, rfl, lv, _⟩ := hv0
  obtain ⟨c0, c1, c2, c3, c4, c5, fz⟩ := h.cells
  have f4 := fz 4
  have f5 := fz 5
  clear c0 c1 c3 fz
  cases hu : D.up with
  | false =>
    have e : failD D n ws = (61, D) := by unfold failD; rw [if_pos hu]
    have e2 : rfailD D n ws = D := by unfold rfailD; rw [if_pos hu]
    rw [e, e2]
    have c2' : w.cell? ⟨r, 2, none⟩ = some (.bool true) := by rw [c2, hu]; rfl
    clear h hu e e2 c2 hn hn' c4 c5 f4 f5 hv hcv lv hl
    unfold ptrV at *
    go_enter Try.func31, Try.ntmps31
    go_wp2
    go_ret
    exact ⟨rfl, RGoes.same ⟨vL, vK, ks, H.out, rfl⟩ (Keeps.refl _)⟩
  | true =>
    have hnu : ¬ D.up = false := by rw [hu]; decide
    have c2' : w.cell? ⟨r, 2, none⟩ = some (.bool false) := by rw [c2, hu]; rfl
    by_cases h0 : n < 0
    · have e : failD D n ws = (2, D) := by unfold failD; rw [if_neg hnu, if_pos h0]
      have e2 : rfailD D n ws = D := by unfold rfailD; rw [if_neg hnu, if_pos h0]
      rw [e, e2]
      have t0 : decide (n < 0) = true := decide_eq_true h0
      clear h hu e e2 c2 hn hn' c4 c5 f4 f5 hv hcv lv hl h0 hnu
      unfold ptrV at *
      go_enter Try.func31, Try.ntmps31
      go_wp2
      go_ret
      exact ⟨rfl, RGoes.same ⟨vL, vK, ks, H.out, rfl⟩ (Keeps.refl _)⟩
    · have t0 : decide (n < 0) = false := decide_eq_false h0
      obtain ⟨M, hM⟩ : ∃ M, min n.toNat 1099511627776 = M := ⟨_, rfl⟩
      have e : (failD D n ws).1 = 0 := by unfold failD; rw [if_neg hnu, if_neg h0]
      have e2 : rfailD D n ws = ⟨D.cap, D.files, D.up, D.starts, some (M, ws)⟩ := by unfold rfailD; rw [if_neg hnu, if_neg h0, hM]
      rw [e, e2]
      have hmin : min n 1099511627776 = (M : Int) := by omega
      have hM9 : M ≤ 1099511627776 := by omega
      have key : ∀ W1 p1 cp1, W1.ownsRow w.heap.size tI 1 (.slice p1 ws.length cp1) ws.length (ivs ws) → Below w.heap.size w W1 →
          RGoes w ((W1.setCell ⟨r, 4, none⟩ (.int .i64 ((M + 1 : Nat) : Int))).setCell ⟨r, 5, none⟩ (.slice p1 ws.length cp1)) (rfoot r vL vK) r ⟨D.cap, D.files, D.up, D.starts, some (M, ws)⟩ := fun W1 p1 cp1 q1 k1 => by
        have h3 := h.keeps k1
        have hrl := block_lt h.ref
        have b1 := Joins.block_setCell (i := 4) h3.ref (.int .i64 ((M + 1 : Nat) : Int))
        have b2 := Joins.block_setCell (i := 5) b1 (.slice p1 ws.length cp1)
        have o : ∀ b, b ≠ r → ((W1.setCell ⟨r, 4, none⟩ (.int .i64 ((M + 1 : Nat) : Int))).setCell ⟨r, 5, none⟩ (.slice p1 ws.length cp1)).heap[b]? = W1.heap[b]? := fun b hb => by rw [Below.heap_setCell _ _ _ _ hb, Below.heap_setCell _ _ _ _ hb]
        have ho := h.okay
        refine rgoes_mk (vL' := vL) (vK' := .slice p1 ws.length cp1) (ks' := ws) (RefAt.turn (by rw [b2]; rfl) (own_local h3.row fun b hb => o b fun e => h3.r_ne.1 (e ▸ hb)) (own_zero (own_local q1 fun b hb => o b fun e => by have := (q1.lt b hb).1; omega)) (Or.inr ⟨M, rfl, hM9⟩) ⟨ho.cap, ho.many, ho.rising, ho.nums, ho.sure, ho.room, (fun a ks h => by cases h; omega)⟩) ?_ (fun b hb => Or.inl (mem_rfoot.2 (Or.inr (Or.inl hb)))) (fun b hb => Or.inr (q1.lt b hb).1)
        have fr : Frame [r] W1 ((W1.setCell ⟨r, 4, none⟩ (.int .i64 ((M + 1 : Nat) : Int))).setCell ⟨r, 5, none⟩ (.slice p1 ws.length cp1)) := ⟨rfl, rfl, rfl, by simp, fun b hb hn => o b (by simpa using hn)⟩
        exact (Frame.of_keeps k1 (rfoot r vL vK)).trans fr fun x hx => by simp at hx; subst hx; exact Or.inl (by simp [rfoot])
      have KEY := Lib.hid key
      have HV := Lib.hid hv
      have HCV := Lib.hid hcv
      have HL := Lib.hid hl
      have HR := Lib.hid (block_lt h.ref)
      have cell4 := c4
      have hw1 : IntKind.i64.wrap ((M : Int) + 1) = ((M + 1 : Nat) : Int) := by rw [IntWalk.i64_in _ (by omega)]; omega
      have REF := Lib.hid h.ref
      obtain ⟨L, hL⟩ : ∃ L, ws.length = L := ⟨_, rfl⟩
      rw [hL] at KEY ⊢
      have HLL := Lib.hid hL
      obtain ⟨M1, hM1⟩ : ∃ M1, M + 1 = M1 := ⟨_, rfl⟩
      rw [hM1] at hw1 KEY
      obtain ⟨p1, cp1, W1, q1, q2, k1⟩ := copy_ints w _ ws HV.out HCV.out HL.out
      have k1 : Below w.heap.size w W1 := k1
      have b1 := (k1.block r HR.out).trans REF.out
      have c4' : W1.cell? ⟨r, 4, none⟩ = some (.int .i64 (failsN D.fail : Int)) := Joins.cell_of_block b1 4
      have c5' : W1.cell? ⟨r, 5, none⟩ = some vK := Joins.cell_of_block b1 5
      have f4' := Joins.unfrozen_of_block b1 4
      have f5' := Joins.unfrozen_of_block b1 5
      rw [hL] at q1 q2
      have Q1 := Lib.hid q1
      have Q2 := Lib.hid q2
      have K1 := Lib.hid k1
      clear q1 q2 k1 b1
      clear key h hu e e2 c2 hn h0 hnu hM hv hcv hl hL hM1
      unfold ptrV at *
      go_enter Try.func31, Try.ntmps31
      go_wp2_with (at_builtin; refine wpList_append_known rfl _ _ _ _ rfl _ _ _ _ rfl rfl Q1.out ?_)
      go_ret
      exact ⟨rfl, KEY.out _ _ _ Q2.out K1.out⟩
end Go.Proofs.Ytpecbfcboocmcaa
