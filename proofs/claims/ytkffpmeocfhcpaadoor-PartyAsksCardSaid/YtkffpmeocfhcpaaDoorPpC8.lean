
/- The program's party: free. The program's party: agrees. The program's party: undo. The program's party: do. -/
import Derived.Test.YtkffpmeocfhcpaaDoorPpC4
set_option linter.unusedVariables false
namespace Go.Proofs.YtkffpmeocfhcpaaDoor
open Go.ChangeShapes Go.WideShapes Go.ChangeAt Go.RowKit Ky Rw
open Go.ChangeMaps
namespace Pp
theorem gOf_nil (o : Int) : gOf [] o = none := rfl
theorem gOf_cons (g : Pt.Gd) (G : List Pt.Gd) (o : Int) : gOf (g :: G) o = if g.o = o then some g.s else gOf G o := by
  unfold gOf
  by_cases e : g.o = o <;> simp [e]
theorem gOf_none {G : List Pt.Gd} {o : Int} : gOf G o = none → ∀ g ∈ G, g.o ≠ o := by
  induction G with
  | nil => intro _ g hg; cases hg
  | cons x r ih =>
    intro h g hg
    rw [gOf_cons] at h
    by_cases e : x.o = o
    · rw [if_pos e] at h; cases h
    · rw [if_neg e] at h
      rcases List.mem_cons.1 hg with rfl | hg
      · exact e
      · exact ih h g hg
theorem free_none {G : List Pt.Gd} {o : Int} (h : ∀ g ∈ G, g.o ≠ o) : Pt.free o G = G := by
  unfold Pt.free
  exact List.filter_eq_self.2 fun g hg => by simpa using h g hg
theorem gOf_some {G : List Pt.Gd} {o : Int} {s : ByteArray} (h : gOf G o = some s) : ∃ g ∈ G, g.o = o ∧ g.s = s := by
  induction G with
  | nil => cases h
  | cons x r ih =>
    rw [gOf_cons] at h
    by_cases e : x.o = o
    · rw [if_pos e] at h; cases h; exact ⟨x, List.mem_cons_self .., e, rfl⟩
    · rw [if_neg e] at h
      obtain ⟨g, hg, h1, h2⟩ := ih h
      exact ⟨g, List.mem_cons_of_mem _ hg, h1, h2⟩
theorem gOf_free (o o' : Int) : ∀ G : List Pt.Gd, gOf (Pt.free o G) o' = if o = o' then none else gOf G o'
  | [] => by rw [show Pt.free o [] = [] from rfl, gOf_nil]; simp
  | g :: r => by
    have ih := gOf_free o o' r
    by_cases e : g.o = o
    · rw [show Pt.free o (g :: r) = Pt.free o r by simp [Pt.free, e], ih, gOf_cons]
      by_cases e' : o = o'
      · rw [if_pos e', if_pos e']
      · rw [if_neg e', if_neg e', if_neg (by rw [e]; exact e')]
    · rw [show Pt.free o (g :: r) = g :: Pt.free o r by simp [Pt.free, e], gOf_cons, gOf_cons, ih]
      by_cases e' : o = o'
      · rw [if_pos e', if_pos e', if_neg (by rw [← e']; exact e)]
      · rw [if_neg e', if_neg e']
theorem tot_freed {o m : Int} {s : ByteArray} (t : ByteArray) : ∀ {G : List Pt.Gd}, (G.Pairwise fun g h => g.o ≠ h.o) → gOf G o = some s → (∀ g ∈ G, g.o = o → g.q = m) → Pt.tot t (Pt.free o G) = Pt.tot t G - (if s = t then m else 0)
  | [], _, h, _ => by cases h
  | g :: r, ap, h, hm => by
    obtain ⟨a1, a2⟩ := List.pairwise_cons.1 ap
    rw [gOf_cons] at h
    by_cases e : g.o = o
    · rw [if_pos e] at h
      cases h
      have hr : ∀ x ∈ r, x.o ≠ o := fun x hx hxo => a1 x hx (e.trans hxo.symm)
      rw [show Pt.free o (g :: r) = Pt.free o r by simp [Pt.free, e], free_none hr]
      show _ = (if g.s = t then g.q else 0) + Pt.tot t r - _
      rw [hm g (List.mem_cons_self ..) e]
      omega
    · rw [if_neg e] at h
      rw [show Pt.free o (g :: r) = g :: Pt.free o r by simp [Pt.free, e]]
      show (if g.s = t then g.q else 0) + Pt.tot t (Pt.free o r) = (if g.s = t then g.q else 0) + Pt.tot t r - _
      rw [tot_freed t a2 h fun x hx => hm x (List.mem_cons_of_mem _ hx)]
      omega
theorem At.del_same {D : DataW Value} {k : Lit} : At (D.del k) k none := ⟨Maps.has_del_same, fun z => Maps.atKey_del_same z⟩
theorem At.del_other {D : DataW Value} {k j : Lit} {x : Option Value} (h : At D k x) (hne : k ≠ j) : At (D.del j) k x := by
  cases x with
  | none => exact ⟨by rw [Maps.has_del_other hne]; exact h.1, fun z => by rw [Maps.atKey_del_other hne]; exact h.2 z⟩
  | some v => exact ⟨by rw [Maps.has_del_other hne]; exact h.1, fun z => by rw [Maps.atKey_del_other hne]; exact h.2 z⟩
theorem Only.turned {F : Nat → Prop} {X Y : World} {b : Nat} (h : X.mapTurned Y b) (hb : F b) : Only F X Y := by
  obtain ⟨es, clock, es', clock', h1, rfl⟩ := h
  exact ⟨rfl, rfl, rfl, by simp [setBlock], fun i _ hi => heap_setBlock_other h1 _ (fun e => hi (by rw [e]; exact hb))⟩
/-- What was held, put back in both maps. -/
theorem freed_two {W X Y Z : World} {b br bs bh c n2 n3 : Nat} {p : Pt.P} {q o m : Int} {s : ByteArray} {D2 D3 : DataW Value} {f : ByteArray → Option Int} (h : PpAt W b br bs bh c p q) (k : Keeps W X)
    (g1 : Only (fun i => i = bs) X Y) (own2 : Y.ownsMap Tryd.prog tGo asIs bs (n2 + 1) (D2.put (kG s) (.held (.int .i64 (Pt.left p s + m))))) (e2 : n2 ≤ c) (S : StocksAre D2 f p) (m2 : Maps.IsMap D2) (hs : Nm s)
    (g2 : Only (fun i => i = bh) Y Z) (own3 : Z.ownsMap Tryd.prog 3 asIs bh n3 (D3.del (.int .i64 o))) (e3 : n3 ≤ c) (H : HeldAre D3 p.G) (hg : gOf p.G o = some s) (ap : p.G.Pairwise fun g h => g.o ≠ h.o) (hm : ∀ g ∈ p.G, g.o = o → g.q = m) :
    PpAt Z b br bs bh (c + 1) (withG p (Pt.free o p.G)) q ∧ Only (fun i => i = bs ∨ i = bh) W Z := by
  have hX := h.keeps k
  obtain ⟨o1, o2, o3⟩ := h.off
  obtain ⟨l1, l2, l3⟩ := hX.tabs.low
  have t := h.tabs
  have sm : ∀ i, i < X.heap.size → i ≠ bs → i ≠ bh → Z.heap[i]? = X.heap[i]? := fun i hi h1 h2 => (g2.same i (Nat.lt_of_lt_of_le hi g1.size) h2).trans (g1.same i hi h1)
  refine ⟨⟨(sm b hX.low o2 o3).trans hX.box, ⟨?_, ⟨n2 + 1, _, fun t => if t = s then some (Pt.left p s + m) else f t, own_map own2 (g2.same bs (Nat.lt_of_lt_of_le l2 g1.size) t.bc), by omega, ?_⟩, ⟨n3, _, own3, by omega, ?_⟩, t.ab, t.ac, t.bc⟩⟩, (Only.of_keeps k).trans ((g1.mono fun i hi => Or.inl hi).trans (g2.mono fun i hi => Or.inr hi))⟩
  · obtain ⟨n1, D1, own1, e1, RA⟩ := hX.tabs.rows
    exact ⟨n1, D1, own_map own1 (sm br l1 t.ab t.ac), by omega, RA⟩
  · have lf : ∀ t, Pt.left (withG p (Pt.free o p.G)) t = Pt.left p t + (if s = t then m else 0) := fun t => by
      unfold Pt.left withG
      show p.stock - Pt.tot t (Pt.free o p.G) = p.stock - Pt.tot t p.G + (if s = t then m else 0)
      rw [tot_freed t ap hg hm]
      omega
    refine ⟨fun t ht => ?_, fun t v ht e => ?_, fun g hg' => ?_⟩
    · by_cases e : t = s
      · subst e
        rw [if_pos rfl]
        exact At.put_same m2 (key_kG t)
      · rw [if_neg e]
        exact (S.at_ t ht).put_other fun hk => e (kG_inj ht hs hk)
    · rw [lf]
      by_cases e' : t = s
      · subst e'
        rw [if_pos rfl] at e ⊢
        cases e
        rfl
      · rw [if_neg e'] at e
        rw [if_neg (Ne.symm e'), S.is_ t v ht e]
        omega
    · obtain ⟨h2, v, h3⟩ := S.has_ g ((Pt.free_sub o p.G).subset hg')
      refine ⟨h2, ?_⟩
      by_cases e : g.s = s
      · exact ⟨_, if_pos e⟩
      · exact ⟨v, by rw [if_neg e]; exact h3⟩
  · intro o' ho'
    show At _ _ ((gOf (Pt.free o p.G) o').map goV)
    rw [gOf_free]
    by_cases e : o = o'
    · subst e
      rw [if_pos rfl]
      exact At.del_same
    · rw [if_neg e]
      exact (H o' ho').del_other fun hk => e (by cases hk; rfl)
set_option maxHeartbeats 4000000 in
set_option maxRecDepth 100000 in
theorem pp_free {W : World} {b br bs bh c : Nat} {p : Pt.P} {q : Int} (h : PpAt W b br bs bh c p q) (hc : c < 1000000) (o m : Int) (io : I64 o) (ap : p.G.Pairwise fun g h => g.o ≠ h.o) (hm : ∀ g ∈ p.G, g.o = o → g.q = m) (h0 : 0 ≤ m) (h1 : m ≤ 1000000) (hl : ∀ s, 0 ≤ Pt.left p s ∧ Pt.left p s ≤ 1000000000) :
    Calls Tryd.prog 78 #[.pointer (some ⟨b, 0, none⟩), .int .i64 o, .int .i64 m] W fun e w' => e = .returned (.tuple #[]) ∧ PpAt w' b br bs bh (c + 1) (withG p (Pt.free o p.G)) q ∧ Only (fun i => i = bs ∨ i = bh) W w' := by
  obtain ⟨n2, D2, f, ow2, e2, SA⟩ := h.tabs.stocks
  obtain ⟨n3, D3, ow3, e3, HA⟩ := h.tabs.held
  have hk : keyOf Tryd.prog 3 (.int .i64 o) = some (.int .i64 o) := by
    simp [keyOf, mapKey, Tryd.underlying3, wf_i io]
  have hmx2 : n2 < maxLen := by unfold maxLen; omega
  have l2 := h.tabs.low.2.1
  have l3 := h.tabs.low.2.2
  have x5 := h.cells.2.2.2.2.2.1
  have A3 := HA o io
  have lk := look_ok ow3 lawI Tryd.underlying55 (zero_go W) hk A3
  cases hg : gOf p.G o with
  | none =>
    rw [hg] at lk
    simp only [Option.map_none, Option.getD_none, Option.isSome_none] at lk
    unfold goZ at lk
    have FIN := Lib.hid fun (X : World) (k : Keeps W X) => (show PpAt X b br bs bh (c + 1) (withG p (Pt.free o p.G)) q from by
      have hX := h.keeps k
      rw [free_none (gOf_none hg)]
      obtain ⟨a, a2, a3, a4, a5⟩ := hX.tabs.rows
      obtain ⟨d, d2, d3, d4, d5, d6⟩ := hX.tabs.stocks
      obtain ⟨g, g2, g3, g4, g5⟩ := hX.tabs.held
      exact ⟨hX.box, ⟨a, a2, a3, by omega, a5⟩, ⟨d, d2, d3, d4, by omega, d6⟩, ⟨g, g2, g3, by omega, g5⟩, h.tabs.ab, h.tabs.ac, h.tabs.bc⟩)
    clear SA HA ow2 ow3 A3 h hg hm ap hl hk
    go_enter Tryd.func78, Tryd.ntmps78
    go_wp2
    refine bodyPost_ret (results_none rfl _ _ _) rfl ?_
    exact ⟨rfl, FIN.out _ (ky_box W _), Only.of_keeps (ky_box W _)⟩
  | some s =>
    obtain ⟨gs, hgs, hgo, rfl⟩ := gOf_some hg
    obtain ⟨hs, v0, hv0⟩ := SA.has_ gs hgs
    have hv := SA.is_ _ _ hs hv0
    have A2 : At D2 (kG gs.s) (some (.int .i64 (Pt.left p gs.s))) := by
      have := SA.at_ gs.s hs
      rw [hv0, hv] at this
      exact this
    obtain ⟨lz0, lz1⟩ := hl gs.s
    rw [hg] at lk
    simp only [Option.map_some, Option.getD_some, Option.isSome_some] at lk
    obtain ⟨c0, c1, c2, c3, c4, c5, c6, c7, hgl⟩ := goL_get gs.s
    have AG := Lib.hid (go_agg hgl)
    have KB := Lib.hid (ky_box W (goObj c0 c1 c2 c3 c4 c5 c6 c7))
    have x4 := (h.keeps KB.out).cells.2.2.2.2.1
    have x5' := (h.keeps KB.out).cells.2.2.2.2.2.1
    have ENT : Hid (∀ X : World, Keeps (W.alloc (goObj c0 c1 c2 c3 c4 c5 c6 c7)) X → (Instr.lookup tMg (.map (some bs)) (goV gs.s) false).run Tryd.prog X = .ok (.int .i64 (Pt.left p gs.s)) X ∧
        ∃ st : Nat, (Instr.mapEntry tMg (.map (some bs)) (goV gs.s)).run Tryd.prog X = .ok (.tuple #[.int .i64 (Pt.left p gs.s), goInt st]) X ∧
          ∀ Y : World, Keeps X Y → ∃ Z, (Instr.entryStore tMg (.map (some bs)) (goInt st) (.int .i64 (Pt.left p gs.s + m))).run Tryd.prog Y = .ok () Z ∧ Z.ownsMap Tryd.prog tGo asIs bs (n2 + 1) (D2.put (kG gs.s) (.held (.int .i64 (Pt.left p gs.s + m)))) ∧ Only (fun i => i = bs) (W.alloc (goObj c0 c1 c2 c3 c4 c5 c6 c7)) Z) := Lib.hid fun X k => by
      have lb : bs < (W.alloc (goObj c0 c1 c2 c3 c4 c5 c6 c7)).heap.size := Nat.lt_of_lt_of_le l2 KB.out.size
      have ow := own_map ow2 ((k.block bs lb).trans (KB.out.block bs l2))
      have lo := look_ok ow lawGo Tryd.underlying54 (zero_in X) (kG_is gs.s) A2
      refine ⟨look_at ow lawGo Tryd.underlying54 (zero_in X) (kG_is gs.s) A2, ?_⟩
      obtain ⟨st, r1, r2⟩ := entry_there ow lawGo Tryd.underlying54 (zero_in X) hmx2 (kG_is gs.s) lo
      refine ⟨st, r1, fun Y k2 => ?_⟩
      obtain ⟨Z, z1, z2, z3⟩ := r2 Y (.int .i64 (Pt.left p gs.s + m)) (k2.block bs (Nat.lt_of_lt_of_le lb k.size))
      exact ⟨Z, z1, z2, (Only.of_keeps (k.trans k2)).trans (Only.grown z3 rfl)⟩
    have DEL : Hid (∀ Y : World, Only (fun i => i = bs) (W.alloc (goObj c0 c1 c2 c3 c4 c5 c6 c7)) Y → Y.cell? ⟨b, 5, none⟩ = some (.map (some bh)) ∧ ∃ Z, (Builtin.delete_ #[tMo, 3] 0 #[.map (some bh), .int .i64 o]).run Tryd.prog Y = .ok (.tuple #[]) Z ∧ Z.ownsMap Tryd.prog 3 asIs bh n3 (D3.del (.int .i64 o)) ∧ Only (fun i => i = bh) Y Z) := Lib.hid fun Y g => by
      have lb : bh < (W.alloc (goObj c0 c1 c2 c3 c4 c5 c6 c7)).heap.size := Nat.lt_of_lt_of_le l3 KB.out.size
      have hk1 := h.keeps KB.out
      have hb : Y.heap[b]? = some (ppObj p br bs bh q) := (g.same b hk1.low h.off.2.1).trans hk1.box
      obtain ⟨Z, r1, r2, r3⟩ := (own_map ow3 ((g.same bh lb (Ne.symm h.tabs.bc)).trans (KB.out.block bh l3))).drop lawI Tryd.underlying55 hk 0
      exact ⟨by simp [World.cell?, hb, ppObj], Z, r1, r2, Only.turned r3 rfl⟩
    have FIN := Lib.hid fun (Y Z : World) (g1 : Only (fun i => i = bs) (W.alloc (goObj c0 c1 c2 c3 c4 c5 c6 c7)) Y) (r2 : Y.ownsMap Tryd.prog tGo asIs bs (n2 + 1) (D2.put (kG gs.s) (.held (.int .i64 (Pt.left p gs.s + m))))) (g2 : Only (fun i => i = bh) Y Z) (r3 : Z.ownsMap Tryd.prog 3 asIs bh n3 (D3.del (.int .i64 o))) =>
      freed_two h KB.out g1 r2 e2 SA ow2.isMap hs g2 r3 e3 HA hg ap hm
    generalize Pt.left p gs.s = lf at *
    have hwr : IntKind.i64.wrap (lf + m) = lf + m := by simp [IntKind.wrap, IntKind.bits, IntKind.signed]; omega
    rw [AG.out] at lk ENT
    clear SA HA ow2 ow3 A3 A2 h hg hm ap hl hk hgl AG hv hv0 hgs hgo hs
    unfold goObj at *
    go_enter Tryd.func78, Tryd.ntmps78
    go_upto_region 2 with fail
    go_cut [] (fun wx => wx.ownsMap Tryd.prog tGo asIs bs (n2 + 1) (D2.put (kG gs.s) (.held (.int .i64 (lf + m)))) ∧ Only (fun i => i = bs) (W.alloc (.cells #[.int .u8 c0.toNat, .int .u8 c1.toNat, .int .u8 c2.toNat, .int .u8 c3.toNat, .int .u8 c4.toNat, .int .u8 c5.toNat, .int .u8 c6.toNat, .int .u8 c7.toNat] tGo)) wx)
    case first =>
      obtain ⟨k1, st1, m1, s1⟩ := ENT.out _ (Keeps.refl _)
      obtain ⟨k2, st2, m2, s2⟩ := ENT.out _ (ky_drew _)
      obtain ⟨Za, ea, ra, ga⟩ := s1 _ (Keeps.refl _)
      obtain ⟨Zb, eb, rb, gb⟩ := s1 _ (ky_drew _)
      obtain ⟨Zc, ec, rc, gc⟩ := s2 _ (Keeps.refl _)
      have RA := Lib.hid ra
      have RB := Lib.hid rb
      have RC := Lib.hid rc
      have GA := Lib.hid ga
      have GB := Lib.hid gb
      have GC := Lib.hid gc
      clear ra rb rc ga gb gc s1 s2
      unfold goInt at m1 m2 ea eb ec
      go_region
      all_goals clear ea eb ec k1 k2 m1 m2
      all_goals go_wp2_with fail
      all_goals go_meet
      all_goals first
        | exact ⟨RC.out, GC.out⟩
        | exact ⟨RB.out, GB.out⟩
        | exact ⟨RA.out, GA.out⟩
        | exact ⟨own_map RA.out rfl, GA.out.drew⟩
    case rest =>
      rename World => wc
      obtain ⟨r2, g2⟩ := hcut
      have R2 := Lib.hid r2
      have G2 := Lib.hid g2
      clear r2 g2
      obtain ⟨y5, Z, ez, rz, gz⟩ := DEL.out _ G2.out
      have FA := Lib.hid (FIN.out wc Z G2.out R2.out gz rz)
      clear rz gz
      go_wp2
      go_end0
      exact ⟨rfl, FA.out.1, FA.out.2⟩
end Pp
end Go.Proofs.YtkffpmeocfhcpaaDoor
namespace Go.Proofs.YtkffpmeocfhcpaaDoor
open Go.ChangeShapes Go.WideShapes Go.ChangeAt Go.RowKit Ky Rw
namespace Pp
theorem may_nm {m : Pt.M} (h : Pt.may m = true) (ht : m.t ≠ 0) : Nm m.s := by
  unfold Pt.may Od.mayM at h
  simp only [Bool.and_eq_true, decide_eq_true_eq, ht, if_false] at h
  exact ⟨h.2.1.1.1.1.1, h.2.1.1.1.1.2, h.2.1.1.1.2⟩
set_option maxHeartbeats 4000000 in
set_option maxRecDepth 100000 in
theorem pp_agrees {W : World} {b br bs bh c : Nat} {p : Pt.P} {q : Int} (h : PpAt W b br bs bh c p q) (m : Pt.M) (hm : Pt.may m = true) (ht : m.t = p.kind) (h3 : m.k < 3) :
    Calls Tryd.prog 60 #[.pointer (some ⟨b, 0, none⟩), pmV m] W fun e w' => e = .returned (.bool (Pt.does p m)) ∧ Keeps W w' := by
  have ok := Pt.may_ok hm
  have hk0 := ok.key.d0
  have hto := ok.to
  have KB := Lib.hid (ky_box W (pmBox m))
  have HX := Lib.hid (pm_cells W m)
  have HP := Lib.hid fun (X : World) (k : Keeps (W.alloc (pmBox m)) X) => h.keeps (KB.out.trans k)
  have NM := Lib.hid fun (e : m.t ≠ 0) => may_nm hm e
  obtain ⟨⟨x0, x1, x2, x3, x4, x5, x6⟩, _⟩ := HX.out _ (Keeps.refl _)
  obtain ⟨_, z1, _⟩ := (HP.out _ (Keeps.refl _)).cells
  clear hm ok h
  unfold pmV
  have hcase : m.k = 0 ∨ m.k = 1 ∨ m.k = 2 := by omega
  rcases hcase with e | e | e
  · have t1 : m.t = 1 := by rw [hto, e]; rfl
    have nm := NM.out (by omega)
    have E : Hid (Pt.does p m = decide (m.q ≤ Pt.left p m.s)) := Lib.hid (by unfold Pt.does; rw [if_pos (by omega)])
    generalize Pt.does p m = B at E ⊢
    rw [e] at x2
    have hf := nm.few
    clear hto t1 ht e h3 hk0
    unfold pmBox at *
    go_enter Tryd.func60, Tryd.ntmps60
    go_upto_region 3 with fail
    go_wp2_with (go_region_with (first
      | (go_at_call 45; refine (pp_named m.s _ hf).mono ?_; rintro e w1 ⟨rfl, k1⟩; have K1 := Lib.hid (show Keeps (W.alloc (.cells #[.int .i64 m.t, .int .i64 m.o, .int .i64 m.k, .string m.s, .int .i64 m.q, .int .i64 m.a, .int .i64 m.c] tPm)) w1 by first | exact k1 | exact (ky_drew _).trans k1); clear k1; obtain ⟨⟨y0, y1, y2, y3, y4, y5, y6⟩, _⟩ := HX.out _ K1.out)
      | (go_at_call 44; refine (pp_left (HP.out _ (by first | exact K1.out | exact K1.out.trans (ky_drew _))) m.s nm).mono ?_; rintro e w2 ⟨rfl, k2⟩; have K2 := Lib.hid (show Keeps (W.alloc (.cells #[.int .i64 m.t, .int .i64 m.o, .int .i64 m.k, .string m.s, .int .i64 m.q, .int .i64 m.a, .int .i64 m.c] tPm)) w2 by first | exact K1.out.trans k2 | exact (K1.out.trans (ky_drew _)).trans k2); clear k2; obtain ⟨⟨v0, v1, v2, v3, v4, v5, v6⟩, _⟩ := HX.out _ K2.out)))
    all_goals go_wp2
    all_goals go_ret
    all_goals exact ⟨by rw [E.out]; rfl, by first | exact KB.out.trans K2.out | exact (KB.out.trans K2.out).trans (ky_drew _)⟩
  · have t0 : p.kind = 0 := by rw [← ht, hto, e]; rfl
    have E : Hid (Pt.does p m = decide (m.a ≤ p.limit)) := Lib.hid (by unfold Pt.does; rw [if_neg (by omega), if_pos t0])
    generalize Pt.does p m = B at E ⊢
    rw [e] at x2
    clear hto t0 ht e h3 hk0
    unfold pmBox at *
    go_enter Tryd.func60, Tryd.ntmps60
    go_upto_region 5 with fail
    go_region
    all_goals go_wp2
    all_goals go_ret
    all_goals exact ⟨by rw [E.out]; rfl, KB.out.trans (ky_drew _)⟩
  · have t2 : p.kind = 2 := by rw [← ht, hto, e]; rfl
    have E : Hid (Pt.does p m = decide (m.q ≤ p.limit)) := Lib.hid (by unfold Pt.does; rw [if_neg (by omega), if_neg (by omega)])
    generalize Pt.does p m = B at E ⊢
    rw [e] at x2
    clear hto t2 ht e h3 hk0
    unfold pmBox at *
    go_enter Tryd.func60, Tryd.ntmps60
    go_upto_region 6 with fail
    go_region
    all_goals go_wp2
    all_goals go_ret
    all_goals exact ⟨by rw [E.out]; rfl, KB.out.trans (ky_drew _)⟩
end Pp
end Go.Proofs.YtkffpmeocfhcpaaDoor
namespace Go.Proofs.YtkffpmeocfhcpaaDoor
open Go.ChangeShapes Go.WideShapes Go.ChangeAt Go.RowKit Ky Rw
namespace Pp
theorem PpAt.more {W : World} {b br bs bh c c' : Nat} {p : Pt.P} {q : Int} (h : PpAt W b br bs bh c p q) (hc : c ≤ c') : PpAt W b br bs bh c' p q := by
  obtain ⟨a, a2, a3, a4, a5⟩ := h.tabs.rows
  obtain ⟨d, d2, d3, d4, d5, d6⟩ := h.tabs.stocks
  obtain ⟨g, g2, g3, g4, g5⟩ := h.tabs.held
  exact ⟨h.box, ⟨a, a2, a3, by omega, a5⟩, ⟨d, d2, d3, d4, by omega, d6⟩, ⟨g, g2, g3, by omega, g5⟩, h.tabs.ab, h.tabs.ac, h.tabs.bc⟩
def three (br bs bh : Nat) (i : Nat) : Prop := i = br ∨ i = bs ∨ i = bh
theorem Only.one {br bs bh : Nat} {X Y : World} (h : Only (fun i => i = br) X Y) : Only (three br bs bh) X Y := h.mono fun i hi => Or.inl hi
theorem Only.two {br bs bh : Nat} {X Y : World} (h : Only (fun i => i = bs ∨ i = bh) X Y) : Only (three br bs bh) X Y := h.mono fun i hi => Or.inr hi
theorem chk64 {o d : Int} (h : Chk o d) : I64 o ∧ I64 d := by
  have := h.o0
  have := h.o1
  have := h.d0
  have := h.d1
  unfold I64 top
  omega
/-- Rows looked up, in whatever world they lie. -/
theorem rows_look {W : World} {b br bs bh c : Nat} {p : Pt.P} {q : Int} (h : PpAt W b br bs bh c p q) (o d : Int) (io : I64 o) (id : I64 d) (X : World) (hX : X.heap[br]? = W.heap[br]?) :
    (Instr.lookup tMk (.map (some br)) (.agg #[.int .i64 o, .int .i64 d]) true).run Tryd.prog X = .ok (.tuple #[((Pt.fd p.L o d).map rwV).getD rwZ, .bool ((Pt.fd p.L o d).map rwV).isSome]) X ∧
    (Instr.lookup tMk (.map (some br)) (.agg #[.int .i64 o, .int .i64 d]) false).run Tryd.prog X = .ok (((Pt.fd p.L o d).map rwV).getD rwZ) X := by
  obtain ⟨n, D, ow, _, RA⟩ := h.tabs.rows
  exact ⟨look_ok (own_map ow hX) lawKy Tryd.underlying53 (zero_row X) (kK_is io id) (RA o d io id), look_at (own_map ow hX) lawKy Tryd.underlying53 (zero_row X) (kK_is io id) (RA o d io id)⟩
def keyObj (o d : Int) : Obj := .cells #[.int .i64 o, .int .i64 d] tKy
theorem undo_rows {p : Pt.P} (hi : Pt.Inv p) {m : Pt.M} (h3 : 3 ≤ m.k) (hn : Pt.fd p.L m.o m.k = none) :
    ∃ (L1 : List R) (r1 : R), (L1 = if (Pt.fd p.L m.o (m.k - 3)).isSome = true then p.L else Pt.ins ⟨m.o, m.k - 3, 2, 0, 0⟩ p.L) ∧ Pt.fd L1 m.o (m.k - 3) = some r1 ∧
      (Pt.done p m).1 = ⟨p.kind, p.stock, p.limit, Pt.ins ⟨m.o, m.k, 1, r1.a, r1.q⟩ L1, Pt.free m.o p.G⟩ ∧ Pt.fd L1 m.o m.k = none ∧ (∀ g ∈ p.G, g.o = m.o → m.k - 3 = 0 → g.q = r1.q) ∧ 0 ≤ r1.q ∧ r1.q ≤ 999 := by
  cases hw : Pt.fd p.L m.o (m.k - 3) with
  | some w =>
    obtain ⟨hmem, _, _⟩ := Pt.fd_some hw
    have hr := hi.each w hmem
    refine ⟨p.L, w, by simp, hw, ?_, hn, fun g hg hgo h0 => ?_, hr.q0, hr.q1⟩
    · unfold Pt.done
      rw [if_pos h3, hw]
    · have := (hi.gk g hg).1
      rw [hgo, ← h0, hw] at this
      simp only [Option.some.injEq] at this
      rw [this]
  | none =>
    refine ⟨Pt.ins ⟨m.o, m.k - 3, 2, 0, 0⟩ p.L, ⟨m.o, m.k - 3, 2, 0, 0⟩, by simp, ?_, ?_, ?_, fun g hg hgo h0 => ?_, (by show (0 : Int) ≤ 0; omega), (by show (0 : Int) ≤ 999; omega)⟩
    · rw [Pt.fd_ins hw, if_pos ⟨rfl, rfl⟩]
    · unfold Pt.done
      rw [if_pos h3, hw]
    · rw [Pt.fd_ins hw, if_neg (fun e => by have : m.k - 3 = m.k := e.2; omega)]
      exact hn
    · have := (hi.gk g hg).1
      rw [hgo, ← h0, hw] at this
      cases this
set_option maxHeartbeats 8000000 in
set_option maxRecDepth 100000 in
theorem pp_undo {W : World} {b br bs bh c : Nat} {p : Pt.P} {q : Int} (h : PpAt W b br bs bh c p q) (hi : Pt.Inv p) (hc : c < 100000) (m : Pt.M) (ok : Pt.Ok m) (ht : m.t = p.kind) (h3 : 3 ≤ m.k) (hn : Pt.fd p.L m.o m.k = none) :
    Calls Tryd.prog 59 #[.pointer (some ⟨b, 0, none⟩), kyV m.o m.k, kyV m.o (m.k - 3)] W fun e w' => e = .returned (.tuple #[]) ∧ PpAt w' b br bs bh (c + 3) (Pt.done p m).1 q ∧ Only (three br bs bh) W w' := by
  obtain ⟨io, id⟩ := chk64 ok.key
  obtain ⟨ck, _⟩ := Pt.party_back ok.key h3
  obtain ⟨_, iu⟩ := chk64 ck
  obtain ⟨L1, r1, EL, ER, ED, EN, EG, q0, q1⟩ := undo_rows hi h3 hn
  have hcase : m.k = 3 ∨ m.k = 4 ∨ m.k = 5 := by have := ok.key.d1; omega
  have k3 : m.k ≠ 3 → p.G = [] := fun e => hi.goods (by
    rw [← ht, ok.to]
    rcases hcase with h | h | h
    · exact absurd h e
    · rw [h]; decide
    · rw [h]; decide)
  have HF := Lib.hid fun (s : ByteArray) => (show 0 ≤ Pt.left p s ∧ Pt.left p s ≤ 1000000000 from by have := hi.left0 s; have := hi.s1; omega)
  have AP := Lib.hid hi.ap
  rw [ED]
  obtain ⟨d, hd⟩ : ∃ d, m.k = d := ⟨_, rfl⟩
  obtain ⟨u, hu⟩ : ∃ u, m.k - 3 = u := ⟨_, rfl⟩
  obtain ⟨o, ho⟩ : ∃ o, m.o = o := ⟨_, rfl⟩
  rw [hu] at iu EL ER EG ⊢
  rw [hd] at id hcase k3 EN hn ⊢
  rw [ho] at io EL ER EN EG hn ⊢
  have hd3 : Hid (d = 3 → u = 0) := Lib.hid (by omega)
  clear hd hu ho ED h3 ok ht hi ck
  have K1 := Lib.hid (ky_box W (keyObj o d))
  have K2 := Lib.hid (K1.out.trans (ky_box (W.alloc (keyObj o d)) (keyObj o u)))
  have HW := Lib.hid (h.keeps K2.out)
  have lt := HW.out.tabs.low.1
  have x3 := HW.out.cells.2.2.2.1
  have LK := Lib.hid fun (X : World) (hX : X.heap[br]? = ((W.alloc (keyObj o d)).alloc (keyObj o u)).heap[br]?) => (rows_look HW.out o u io iu X hX).1
  have hkb : ∀ (X : World), Keeps ((W.alloc (keyObj o d)).alloc (keyObj o u)) X → X.cell? ⟨W.heap.size, 0, none⟩ = some (.int .i64 o) ∧ X.cell? ⟨W.heap.size, 1, none⟩ = some (.int .i64 d) ∧ X.cell? ⟨W.heap.size + 1, 0, none⟩ = some (.int .i64 o) ∧ X.cell? ⟨W.heap.size + 1, 1, none⟩ = some (.int .i64 u) := fun X k => by
    have a1 : X.heap[W.heap.size]? = some (keyObj o d) := (k.block _ (by simp; omega)).trans (((ky_box (W.alloc (keyObj o d)) (keyObj o u)).block _ (by simp)).trans (heap_alloc_new W _))
    have a2 : X.heap[W.heap.size + 1]? = some (keyObj o u) := (k.block _ (by simp)).trans (So.two_alloc W _ _)
    simp [World.cell?, a1, a2, keyObj]
  have HKB := Lib.hid hkb
  have HKO : Hid (∀ (X : World), Only (three br bs bh) ((W.alloc (keyObj o d)).alloc (keyObj o u)) X → X.cell? ⟨W.heap.size, 0, none⟩ = some (.int .i64 o) ∧ X.cell? ⟨W.heap.size, 1, none⟩ = some (.int .i64 d) ∧ X.cell? ⟨W.heap.size + 1, 0, none⟩ = some (.int .i64 o) ∧ X.cell? ⟨W.heap.size + 1, 1, none⟩ = some (.int .i64 u)) := Lib.hid fun X k => by
    obtain ⟨t1, t2, t3⟩ := h.tabs.low
    have a1 : X.heap[W.heap.size]? = some (keyObj o d) := (k.same _ (by simp; omega) (by unfold three; omega)).trans (((ky_box (W.alloc (keyObj o d)) (keyObj o u)).block _ (by simp)).trans (heap_alloc_new W _))
    have a2 : X.heap[W.heap.size + 1]? = some (keyObj o u) := (k.same _ (by simp) (by unfold three; omega)).trans (So.two_alloc W _ _)
    simp [World.cell?, a1, a2, keyObj]
  have HLOW := Lib.hid h.tabs.low
  obtain ⟨y0, y1, y2, y3⟩ := hkb _ (Keeps.refl _)
  have z3 : ∀ ob, (((W.alloc (keyObj o d)).alloc (keyObj o u)).alloc ob).cell? ⟨b, 3, none⟩ = some (.map (some br)) := fun ob => (HW.out.keeps (ky_box _ ob)).cells.2.2.2.1
  have z4 : ∀ ob, (((W.alloc (keyObj o d)).alloc (keyObj o u)).alloc ob).cell? ⟨W.heap.size + 1, 0, none⟩ = some (.int .i64 o) := fun ob => (hkb _ (ky_box _ ob)).2.2.1
  have z5 : ∀ ob, (((W.alloc (keyObj o d)).alloc (keyObj o u)).alloc ob).cell? ⟨W.heap.size + 1, 1, none⟩ = some (.int .i64 u) := fun ob => (hkb _ (ky_box _ ob)).2.2.2
  clear hkb h
  unfold kyV
  have l1 := LK.out ((W.alloc (keyObj o d)).alloc (keyObj o u)) rfl
  have l2 := LK.out ((W.alloc (keyObj o d)).alloc (keyObj o u)).drew rfl
  have l3 : ∀ ob, _ := fun ob => LK.out (((W.alloc (keyObj o d)).alloc (keyObj o u)).alloc ob) ((ky_box _ ob).block br lt)
  have l4 : ∀ ob, _ := fun ob => LK.out (((W.alloc (keyObj o d)).alloc (keyObj o u)).alloc ob).drew ((ky_box _ ob).block br lt)
  obtain ⟨rv, hrv⟩ : ∃ rv : R, ((Pt.fd p.L o u).map rwV).getD rwZ = rwV rv := by
    cases Pt.fd p.L o u with
    | some w => exact ⟨w, rfl⟩
    | none => exact ⟨⟨0, 0, 0, 0, 0⟩, rfl⟩
  rw [hrv] at l1 l2 l3 l4
  rw [Option.isSome_map] at l1 l2 l3 l4
  obtain ⟨iss, hiss⟩ : ∃ iss, (Pt.fd p.L o u).isSome = iss := ⟨_, rfl⟩
  rw [hiss] at l1 l2 l3 l4 EL
  unfold rwV at l1 l2 l3 l4
  unfold keyObj at *
  clear hrv
  go_enter Tryd.func59, Tryd.ntmps59
  go_upto_region 1 with fail
  go_cut [7] (fun v7 wx => v7 = .bool iss ∧ Keeps ((W.alloc (.cells #[.int .i64 o, .int .i64 d] tKy)).alloc (.cells #[.int .i64 o, .int .i64 u] tKy)) wx)
  case first =>
    go_region
    all_goals clear l1 l2 l3 l4
    all_goals go_wp2_with fail
    all_goals go_meet
    all_goals exact ⟨rfl, (ky_box _ _).trans (ky_drew _)⟩
  case rest =>
    rename World => wa
    obtain ⟨rfl, ka⟩ := hcut
    have KA := Lib.hid ka
    clear ka l1 l2 l3 l4 x3 y0 y1 y2 y3
    clear z3 z4 z5
    have HWa := Lib.hid (HW.out.keeps KA.out)
    obtain ⟨y0, y1, y2, y3⟩ := HKB.out _ KA.out
    go_upto_if 19 with fail
    go_cut [] (fun wx => PpAt wx b br bs bh (c + 1) (withL p L1) q ∧ Only (three br bs bh) ((W.alloc (.cells #[.int .i64 o, .int .i64 d] tKy)).alloc (.cells #[.int .i64 o, .int .i64 u] tKy)) wx)
    case first =>
      cases iss with
      | true =>
        rw [if_pos rfl] at EL
        go_wp2_with fail
        go_meet
        rw [EL]
        exact ⟨HWa.out.more (Nat.le_succ _), Only.of_keeps KA.out⟩
      | false =>
        rw [if_neg Bool.false_ne_true] at EL
        have hno : Pt.fd p.L o u = none := by
          cases hf : Pt.fd p.L o u with
          | none => rfl
          | some x => rw [hf] at hiss; cases hiss
        have hc1 := Lib.hid (pp_refuse HWa.out (by omega) o u hno io iu)
        unfold kyV at hc1
        clear hno
        go_wp2_with fail
        refine hc1.out.mono ?_
        rintro e w1 ⟨rfl, r1, r2⟩
        have R1 := Lib.hid r1
        have R2 := Lib.hid r2
        clear r1 r2
        go_wp2_with fail
        go_meet
        rw [EL]
        exact ⟨R1.out, (Only.of_keeps KA.out).trans R2.out.one⟩
    case rest =>
      rename World => wb
      obtain ⟨hb1, hb2⟩ := hcut
      have HB := Lib.hid hb1
      have GB := Lib.hid hb2
      clear hb1 hb2 y0 y1 y2 y3 EL
      obtain ⟨y0, y1, y2, y3⟩ := HKO.out _ GB.out
      have x3 := HB.out.cells.2.2.2.1
      have lt := HB.out.tabs.low.1
      have LK2 := Lib.hid fun (X : World) (hX : X.heap[br]? = wb.heap[br]?) => (rows_look HB.out o u io iu X hX).2
      have l1 := LK2.out wb rfl
      have l2 := LK2.out wb.drew rfl
      have l3 : ∀ ob, _ := fun ob => LK2.out (wb.alloc ob) ((ky_box _ ob).block br lt)
      have l4 : ∀ ob, _ := fun ob => LK2.out (wb.alloc ob).drew ((ky_box _ ob).block br lt)
      have er : ((Pt.fd (withL p L1).L o u).map rwV).getD rwZ = .agg #[.int .i64 r1.o, .int .i64 r1.d, .int .i64 r1.c, .int .i64 r1.a, .int .i64 r1.q] := by
        show ((Pt.fd L1 o u).map rwV).getD rwZ = _
        rw [ER]; rfl
      rw [er] at l1 l2 l3 l4
      have z3 : ∀ ob, (wb.alloc ob).cell? ⟨b, 3, none⟩ = some (.map (some br)) := fun ob => (HB.out.keeps (ky_box _ ob)).cells.2.2.2.1
      have z4 : ∀ ob, (wb.alloc ob).cell? ⟨W.heap.size + 1, 0, none⟩ = some (.int .i64 o) := fun ob => (HKO.out _ (GB.out.trans (Only.of_keeps (ky_box _ ob)))).2.2.1
      have z5 : ∀ ob, (wb.alloc ob).cell? ⟨W.heap.size + 1, 1, none⟩ = some (.int .i64 u) := fun ob => (HKO.out _ (GB.out.trans (Only.of_keeps (ky_box _ ob)))).2.2.2
      clear er
      go_upto_region 4 with fail
      go_cut [8] (fun v8 wx => ∃ g8 : Nat, v8 = .pointer (some ⟨g8, 0, none⟩) ∧ wx.heap[g8]? = some (rwObj r1) ∧ wb.heap.size ≤ g8 ∧ Keeps wb wx)
      case first =>
        go_region
        all_goals clear l1 l2 l3 l4 z3 z4 z5
        all_goals go_wp2_with fail
        all_goals go_meet
        all_goals exact ⟨_, rfl, heap_alloc_new wb (rwObj r1), Nat.le_refl _, (ky_box _ _).trans (ky_drew _)⟩
      case rest =>
        rename World => wd
        obtain ⟨g8, rfl, hg8, hlg, kd⟩ := hcut
        have KD := Lib.hid kd
        have G8 := Lib.hid hg8
        clear kd hg8 l1 l2 l3 l4 z3 z4 z5 y0 y1 y2 y3 x3 LK2
        have HD := Lib.hid (HB.out.keeps KD.out)
        have GD := Lib.hid (GB.out.trans (Only.of_keeps KD.out))
        obtain ⟨y0, y1, y2, y3⟩ := HKO.out _ GD.out
        have five : ∀ X : World, X.heap[g8]? = some (rwObj r1) → X.cell? ⟨g8, 2, none⟩ = some (.int .i64 r1.c) ∧ X.cell? ⟨g8, 3, none⟩ = some (.int .i64 r1.a) ∧ X.cell? ⟨g8, 4, none⟩ = some (.int .i64 r1.q) := fun X hX => by
          simp [World.cell?, hX, rwObj]
        have FIVE := Lib.hid five
        obtain ⟨f2, f3, f4⟩ := five _ G8.out
        clear five
        go_upto_if 31 with fail
        go_cut [] (fun wx => PpAt wx b br bs bh (c + 2) (withG (withL p L1) (Pt.free o p.G)) q ∧ Only (three br bs bh) ((W.alloc (.cells #[.int .i64 o, .int .i64 d] tKy)).alloc (.cells #[.int .i64 o, .int .i64 u] tKy)) wx ∧ wx.heap[g8]? = some (rwObj r1))
        case first =>
          by_cases hd : d = 3
          · have HDD := Lib.hid hd
            have hdb : (d == 3) = true := by simpa using hd
            clear hd
            have hcf := Lib.hid (pp_free HD.out (by omega) o r1.q io AP.out (fun g hg hgo => EG g hg hgo (hd3.out HDD.out)) q0 (by omega) (fun s => HF.out s))
            go_wp2_with fail
            refine hcf.out.mono ?_
            rintro e w1 ⟨rfl, r1', r2'⟩
            have R1 := Lib.hid r1'
            have R2 := Lib.hid r2'
            clear r1' r2'
            have lg : g8 < wd.heap.size := by
              rcases Nat.lt_or_ge g8 wd.heap.size with h0 | h0
              · exact h0
              · have := G8.out; rw [Array.getElem?_eq_none h0] at this; cases this
            have hq8 := Lib.hid ((R2.out.same g8 lg (by obtain ⟨t1, t2, t3⟩ := HB.out.tabs.low; omega)).trans G8.out)
            go_wp2_with fail
            go_meet
            exact ⟨R1.out, GD.out.trans R2.out.two, hq8.out⟩
          · have hdb : (d == 3) = false := by simpa using hd
            have hG := k3 hd
            go_wp2_with fail
            go_meet
            have e : withG (withL p L1) (Pt.free o p.G) = withL p L1 := by rw [hG]; unfold withG withL; rw [hG]; rfl
            rw [e]
            exact ⟨HD.out.more (by omega), GD.out, G8.out⟩
        case rest =>
          rename World => we
          obtain ⟨he1, he2, he3⟩ := hcut
          have HE := Lib.hid he1
          have GE := Lib.hid he2
          obtain ⟨f2', f3', f4'⟩ := FIVE.out _ he3
          clear he1 he2 he3 y0 y1 y2 y3 f2 f3 f4
          obtain ⟨y0, y1, y2, y3⟩ := HKO.out _ GE.out
          have hcw := Lib.hid (pp_write HE.out (by omega) ⟨o, d, 1, r1.a, r1.q⟩ EN io id)
          unfold rwV at hcw
          go_wp2_with fail
          refine hcw.out.mono ?_
          rintro e w1 ⟨rfl, r1', r2'⟩
          have R1 := Lib.hid r1'
          have R2 := Lib.hid r2'
          clear r1' r2'
          go_wp2
          go_end0
          exact ⟨rfl, R1.out, (Only.of_keeps K2.out).trans (GE.out.trans R2.out.one)⟩
end Pp
end Go.Proofs.YtkffpmeocfhcpaaDoor
namespace Go.Proofs.YtkffpmeocfhcpaaDoor
open Go.ChangeShapes Go.WideShapes Go.ChangeAt Go.RowKit Ky Rw
namespace Pp
theorem no_held {p : Pt.P} (hi : Pt.Inv p) {o : Int} (hn : Pt.fd p.L o 0 = none) : gOf p.G o = none := by
  cases h : gOf p.G o with
  | none => rfl
  | some s =>
    obtain ⟨g, hg, hgo, _⟩ := gOf_some h
    have := (hi.gk g hg).1
    rw [hgo, hn] at this
    cases this
set_option maxHeartbeats 8000000 in
set_option maxRecDepth 100000 in
theorem pp_do {W : World} {b br bs bh c : Nat} {p : Pt.P} {q : Int} (h : PpAt W b br bs bh c p q) (hi : Pt.Inv p) (hc : c < 100000) (m : Pt.M) (hm : Pt.may m = true) (ht : m.t = p.kind) (hn : Pt.fd p.L m.o m.k = none) :
    Calls Tryd.prog 31 #[.pointer (some ⟨b, 0, none⟩), pmV m] W fun e w' => e = .returned (.tuple #[]) ∧ PpAt w' b br bs bh (c + 4) (Pt.done p m).1 q ∧ Only (three br bs bh) W w' := by
  have ok := Pt.may_ok hm
  obtain ⟨io, ik⟩ := chk64 ok.key
  have hk0 := ok.key.d0
  have hk1 := ok.key.d1
  have hto := ok.to
  have KB := Lib.hid (ky_box W (pmBox m))
  have HX := Lib.hid (pm_cells W m)
  have HP := Lib.hid fun (X : World) (k : Keeps (W.alloc (pmBox m)) X) => h.keeps (KB.out.trans k)
  have HXO : Hid (∀ X : World, Only (three br bs bh) (W.alloc (pmBox m)) X → X.cell? ⟨W.heap.size, 0, none⟩ = some (.int .i64 m.t) ∧ X.cell? ⟨W.heap.size, 1, none⟩ = some (.int .i64 m.o) ∧ X.cell? ⟨W.heap.size, 2, none⟩ = some (.int .i64 m.k) ∧ X.cell? ⟨W.heap.size, 3, none⟩ = some (.string m.s) ∧ X.cell? ⟨W.heap.size, 4, none⟩ = some (.int .i64 m.q) ∧ X.cell? ⟨W.heap.size, 5, none⟩ = some (.int .i64 m.a) ∧ X.cell? ⟨W.heap.size, 6, none⟩ = some (.int .i64 m.c)) := Lib.hid fun X k => by
    obtain ⟨t1, t2, t3⟩ := h.tabs.low
    have a1 : X.heap[W.heap.size]? = some (pmBox m) := (k.same _ (by simp) (by unfold three; omega)).trans (heap_alloc_new W _)
    simp [World.cell?, a1, pmBox]
  have hun := Lib.hid fun (X : World) => pk_undoes m.k X ik
  obtain ⟨⟨x0, x1, x2, x3, x4, x5, x6⟩, _⟩ := HX.out _ (Keeps.refl _)
  by_cases h3 : 3 ≤ m.k
  · have U1 : undoW m.k = m.k - 3 := by unfold undoW; rw [if_pos ⟨h3, by omega⟩]
    have U2 : undoB m.k = true := by unfold undoB; simp; omega
    have hcu := Lib.hid (pp_undo (HP.out _ (Keeps.refl _)) hi hc m ok ht h3 hn)
    unfold kyV at hcu
    rw [U1, U2] at hun
    generalize (Pt.done p m).1 = R at hcu ⊢
    unfold pmV
    clear hm ok h hi hn h3 U1 U2 hto hk0 hk1 ht
    unfold pmBox at *
    go_enter Tryd.func31, Tryd.ntmps31
    go_wp2_with fail
    refine (hun.out _).mono ?_
    rintro e w1 ⟨rfl, rfl⟩
    go_wp2_with fail
    refine hcu.out.mono ?_
    rintro e w1 ⟨rfl, r1, r2⟩
    have R1 := Lib.hid r1
    have R2 := Lib.hid r2
    clear r1 r2
    go_wp2
    refine bodyPost_ret (results_none rfl _ _ _) rfl ?_
    exact ⟨rfl, R1.out.more (by omega), (Only.of_keeps KB.out).trans R2.out⟩
  · have U2 : undoB m.k = false := by unfold undoB; simp; omega
    obtain ⟨uw, huw⟩ : ∃ uw, undoW m.k = uw := ⟨_, rfl⟩
    rw [U2, huw] at hun
    have hca := Lib.hid fun (X : World) (k : Keeps (W.alloc (pmBox m)) X) => pp_agrees (HP.out X k) m hm ht (by omega)
    have NM := Lib.hid fun (e : m.t ≠ 0) => may_nm hm e
    cases hd : Pt.does p m with
    | false =>
      rw [hd] at hca
      have ED : (Pt.done p m).1 = withL p (Pt.ins ⟨m.o, m.k, 2, 0, 0⟩ p.L) := by unfold Pt.done; rw [if_neg h3, if_neg (by rw [hd]; exact Bool.false_ne_true)]; rfl
      rw [ED]
      have hcr := Lib.hid fun (X : World) (k : Keeps (W.alloc (pmBox m)) X) => pp_refuse (HP.out X k) (by omega) m.o m.k hn io ik
      unfold kyV at hcr
      clear hm ok h hi hn h3 U2 hto hk0 hk1 ht hd ED huw
      unfold pmV at *
      unfold pmBox at *
      go_enter Tryd.func31, Tryd.ntmps31
      go_wp2_with fail
      refine (hun.out _).mono ?_
      rintro e w1 ⟨rfl, rfl⟩
      go_wp2_with fail
      refine (hca.out _ (Keeps.refl _)).mono ?_
      rintro e w2 ⟨rfl, k2⟩
      have K2 := Lib.hid k2
      clear k2 x0 x1 x2 x3 x4 x5 x6
      obtain ⟨⟨x0, x1, x2, x3, x4, x5, x6⟩, _⟩ := HX.out _ K2.out
      go_wp2_with fail
      refine (hcr.out _ K2.out).mono ?_
      rintro e w3 ⟨rfl, r1, r2⟩
      have R1 := Lib.hid r1
      have R2 := Lib.hid r2
      clear r1 r2
      go_wp2
      refine bodyPost_ret (results_none rfl _ _ _) rfl ?_
      exact ⟨rfl, R1.out.more (by omega), (Only.of_keeps (KB.out.trans K2.out)).trans R2.out.one⟩
    | true =>
      rw [hd] at hca
      have ED : (Pt.done p m).1 = withL (withG p (if p.kind = 1 then p.G ++ [⟨m.o, m.s, m.q⟩] else p.G)) (Pt.ins ⟨m.o, m.k, 1, m.a, m.q⟩ p.L) := by unfold Pt.done; rw [if_neg h3, if_pos hd]; rfl
      rw [ED]
      have HW := Lib.hid fun (X : World) (G : List Pt.Gd) (cc : Nat) (hcc : cc ≤ c + 2) (hX : PpAt X b br bs bh cc (withG p G) q) => pp_write hX (by omega) ⟨m.o, m.k, 1, m.a, m.q⟩ hn io ik
      unfold rwV at HW
      by_cases hz : m.k = 0
      · have k1 : p.kind = 1 := by rw [← ht, hto, hz]; rfl
        have nm := NM.out (by omega)
        have hlq : 0 ≤ m.q ∧ m.q ≤ Pt.left p m.s ∧ Pt.left p m.s ≤ 1000000000 := by
          unfold Pt.does at hd
          rw [if_pos k1] at hd
          have := hi.left0 m.s
          have := hi.s1
          have := ok.q0
          exact ⟨by omega, of_decide_eq_true hd, by omega⟩
        rw [if_pos k1]
        have hgn := no_held hi (o := m.o) (by rw [← hz]; exact hn)
        have hch := Lib.hid fun (X : World) (k : Keeps (W.alloc (pmBox m)) X) => pp_hold (HP.out X k) (by omega) m.o m.q m.s nm io hgn hlq.1 hlq.2.1 hlq.2.2
        have hfew := nm.few
        have hzb : (m.k == 0) = true := by simpa using hz
        clear hm ok h hi hn h3 U2 hto hk0 hk1 ht hd ED huw hz k1 hlq hgn nm
        unfold pmV at *
        unfold pmBox at *
        go_enter Tryd.func31, Tryd.ntmps31
        go_wp2_with fail
        refine (hun.out _).mono ?_
        rintro e w1 ⟨rfl, rfl⟩
        go_wp2_with fail
        refine (hca.out _ (Keeps.refl _)).mono ?_
        rintro e w2 ⟨rfl, k2⟩
        have K2 := Lib.hid k2
        clear k2 x0 x1 x2 x3 x4 x5 x6
        obtain ⟨⟨x0, x1, x2, x3, x4, x5, x6⟩, _⟩ := HX.out _ K2.out
        go_upto_region 7 with fail
        go_cut [] (fun wx => PpAt wx b br bs bh (c + 1) (withG p (p.G ++ [⟨m.o, m.s, m.q⟩])) q ∧ Only (three br bs bh) (W.alloc (.cells #[.int .i64 m.t, .int .i64 m.o, .int .i64 m.k, .string m.s, .int .i64 m.q, .int .i64 m.a, .int .i64 m.c] tPm)) wx)
        case first =>
          go_wp2_with (go_region_with (first
            | (go_at_call 45; refine (pp_named m.s _ hfew).mono ?_; rintro e w3 ⟨rfl, k3⟩; have K3 := Lib.hid (show Keeps (W.alloc (.cells #[.int .i64 m.t, .int .i64 m.o, .int .i64 m.k, .string m.s, .int .i64 m.q, .int .i64 m.a, .int .i64 m.c] tPm)) w3 by first | exact K2.out.trans k3 | exact (K2.out.trans (ky_drew _)).trans k3); clear k3; obtain ⟨⟨y0, y1, y2, y3, y4, y5, y6⟩, _⟩ := HX.out _ K3.out)
            | (go_at_call 62; refine (hch.out _ (by first | exact K3.out | exact K3.out.trans (ky_drew _))).mono ?_; rintro e w4 ⟨rfl, r1, r2⟩; have R1 := Lib.hid r1; have R2 := Lib.hid (show Only (three br bs bh) (W.alloc (.cells #[.int .i64 m.t, .int .i64 m.o, .int .i64 m.k, .string m.s, .int .i64 m.q, .int .i64 m.a, .int .i64 m.c] tPm)) w4 by first | exact (Only.of_keeps K3.out).trans r2.two | exact (Only.of_keeps (K3.out.trans (ky_drew _))).trans r2.two); clear r1 r2)))
          all_goals go_wp2_with fail
          all_goals go_meet
          all_goals first
            | exact ⟨R1.out, R2.out⟩
            | exact ⟨R1.out.drew, R2.out.drew⟩
        case rest =>
          rename World => wa
          obtain ⟨ha1, ha2⟩ := hcut
          have HA := Lib.hid ha1
          have GA := Lib.hid ha2
          clear ha1 ha2 x0 x1 x2 x3 x4 x5 x6
          obtain ⟨x0, x1, x2, x3, x4, x5, x6⟩ := HXO.out _ GA.out
          go_wp2_with fail
          refine (HW.out _ _ _ (by omega) HA.out).mono ?_
          rintro e w5 ⟨rfl, r1, r2⟩
          have R1 := Lib.hid r1
          have R2 := Lib.hid r2
          clear r1 r2
          go_wp2
          go_end0
          exact ⟨rfl, R1.out.more (by omega), (Only.of_keeps KB.out).trans (GA.out.trans R2.out.one)⟩
      · have kn : p.kind ≠ 1 := by
          rw [← ht, hto]
          have : m.k = 1 ∨ m.k = 2 := by omega
          rcases this with e | e
          · rw [e]; decide
          · rw [e]; decide
        rw [if_neg kn]
        have hzb : (m.k == 0) = false := by simpa using hz
        have ew : withG p p.G = p := rfl
        rw [ew]
        clear hm ok hi hn h3 U2 hto hk0 hk1 ht hd ED huw hz kn
        unfold pmV at *
        unfold pmBox at *
        go_enter Tryd.func31, Tryd.ntmps31
        go_wp2_with fail
        refine (hun.out _).mono ?_
        rintro e w1 ⟨rfl, rfl⟩
        go_wp2_with fail
        refine (hca.out _ (Keeps.refl _)).mono ?_
        rintro e w2 ⟨rfl, k2⟩
        have K2 := Lib.hid k2
        clear k2 x0 x1 x2 x3 x4 x5 x6
        obtain ⟨⟨x0, x1, x2, x3, x4, x5, x6⟩, _⟩ := HX.out _ K2.out
        go_wp2_with fail
        refine (HW.out _ p.G c (by omega) (HP.out _ K2.out)).mono ?_
        rintro e w5 ⟨rfl, r1, r2⟩
        have R1 := Lib.hid r1
        have R2 := Lib.hid r2
        clear r1 r2
        go_wp2
        go_end0
        exact ⟨rfl, R1.out.more (by omega), (Only.of_keeps (KB.out.trans K2.out)).trans R2.out.one⟩
end Pp
end Go.Proofs.YtkffpmeocfhcpaaDoor
