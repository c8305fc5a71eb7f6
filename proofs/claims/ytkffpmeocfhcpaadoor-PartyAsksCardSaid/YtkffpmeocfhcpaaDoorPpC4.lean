
/- The program's party: Rows. The program's party: a stock that turns where it lies. The program's party: hold, free. -/
import Derived.Test.YtkffpmeocfhcpaaDoorPpV3
import Derived.Test.YtkffpmeocfhcpaaDoorPpC2
import Derived.Deep.RegionWith
import Derived.Deep.DeepCutAuto
set_option linter.unusedVariables false
namespace Go.Proofs.YtkffpmeocfhcpaaDoor
open Go.ChangeShapes Go.WideShapes Go.ChangeAt Go.RowKit Go.Shelf Ky Rw
namespace Pp
theorem rise_total {L : List R} (h : L.Pairwise fun x y => less x y = true) {x y : R} (hx : x ∈ L) (hy : y ∈ L) (hne : x ≠ y) : less x y = true ∨ less y x = true := by
  obtain ⟨i, hi, rfl⟩ := List.mem_iff_getElem.1 hx
  obtain ⟨j, hj, rfl⟩ := List.mem_iff_getElem.1 hy
  rcases Nat.lt_trichotomy i j with h1 | h1 | h1
  · exact Or.inl (List.pairwise_iff_getElem.1 h i j hi hj h1)
  · subst h1; exact absurd rfl hne
  · exact Or.inr (List.pairwise_iff_getElem.1 h j i hj hi h1)
theorem sorted_same {L L' : List R} (h : L.Pairwise fun x y => less x y = true) (hp : L'.Perm L) (hs : L'.Pairwise fun x y => less y x = false) : L' = L := by
  have nd : L.Nodup := h.imp fun {a b} hab e => by subst e; rw [less_irrefl] at hab; cases hab
  have nd' : L'.Nodup := hp.nodup_iff.2 nd
  have h' : L'.Pairwise fun x y => less x y = true := (hs.and nd').imp_of_mem fun {a b} ha hb hab => by
    rcases rise_total h (hp.subset ha) (hp.subset hb) hab.2 with e | e
    · exact e
    · rw [hab.1] at e; cases e
  exact List.Perm.eq_of_pairwise (le := fun a b => less a b = true) (fun a b _ _ h1 h2 => by rw [less_asymm h1] at h2; cases h2) h' h hp
theorem tidy_of {p : Pt.P} (hi : Pt.Inv p) : Tidy p.L := ⟨hi.rise, fun x hx => by
  have hr := hi.each x hx
  have := hr.key.o0
  have := hr.key.o1
  have := hr.key.d0
  have := hr.key.d1
  unfold I64 top
  omega⟩
theorem vals_any (br : Nat) (w : World) : Calls Tryd.prog 39 #[.map (some br)] w fun e w' =>
    e = .returned (.func (.func 69) #[] #[.pointer (some ⟨w.heap.size, 0, none⟩)]) ∧ w' = w.alloc (.cells #[.map (some br)] tMk) := by
  go_enter Tryd.func39, Tryd.ntmps39
  go_wp2
  go_ret
  exact ⟨rfl, rfl⟩
set_option maxHeartbeats 4000000 in
set_option maxRecDepth 100000 in
theorem pp_rows {W : World} {b br bs bh c : Nat} {p : Pt.P} {q : Int} (h : PpAt W b br bs bh c p q) (hi : Pt.Inv p) (hc : c ≤ 1000000) :
    Calls Tryd.prog 15 #[.pointer (some ⟨b, 0, none⟩)] W fun e w' => ∃ v, e = .returned v ∧ rowK.Own W.heap.size w' v p.L ∧ Keeps W w' := by
  have CN := Lib.hid (pp_none h)
  have x3 := h.cells.2.2.2.1
  obtain ⟨n1, D1, o1, hn1, RA⟩ := h.tabs.rows
  have k1 := ky_box W (.cells #[.map (some br)] tMk)
  have CC := Lib.hid (coll_any W.heap.size br n1 D1 p.L RA (tidy_of hi) (W.alloc (.cells #[.map (some br)] tMk)) (by simp) (by simp) (own_map o1 (k1.block br o1.lt)) (by omega))
  have K1 := Lib.hid k1
  have HI := Lib.hid hi
  have few := hi.few
  clear h hi RA o1 k1
  go_enter Tryd.func15, Tryd.ntmps15
  go_wp2_with fail
  refine CN.out.mono ?_
  rintro e w1 ⟨rfl, rfl⟩
  go_wp2_with fail
  refine (vals_any br w1).mono ?_
  rintro e w2 ⟨rfl, rfl⟩
  go_wp2_with fail
  refine CC.out.mono ?_
  rintro e w3 ⟨v, xs, rfl, hp, ho, k3⟩
  have HPX := Lib.hid hp
  have OX := Lib.hid ho
  have K3 := Lib.hid (K1.out.trans k3)
  have hxl : xs.length ≤ 100000 := by rw [hp.length_eq]; omega
  obtain ⟨pv, cv, rfl⟩ := rowK.own_shape ho
  have NB : Hid ((Value.slice pv xs.length cv).ownBlock ≠ some w3.heap.size) := Lib.hid fun e => by have := (rowK.own_lt OX.out _ e).2; omega
  have SR := Lib.hid (So.so_rows (Bs := w3.heap.size) (w := w3.alloc (.cells #[.slice pv xs.length cv] tRs)) (v := .slice pv xs.length cv) (rowK.own_keeps ho (ky_box w3 _)) (by simp) (by simp) NB.out hxl)
  have BX : Hid ((w3.alloc (.cells #[.slice pv xs.length cv] tRs)).heap[w3.heap.size]? = some (.cells #[.slice pv xs.length cv] tRs (0, 0))) := Lib.hid (heap_alloc_new w3 _)
  clear hp ho k3 x3
  go_wp2_with fail
  refine SR.out.mono ?_
  rintro e w4 ⟨rfl, L', hp', hs', ho', g'⟩
  have hb4 : w4.heap[w3.heap.size]? = some (.cells #[.slice pv xs.length cv] tRs (0, 0)) := (g'.block _ (by simp) (fun e => NB.out e.symm)).trans BX.out
  have hc4 : w4.cell? ⟨w3.heap.size, 0, none⟩ = some (.slice pv xs.length cv) := by simp [World.cell?, hb4]
  have EL : Hid (L' = p.L) := Lib.hid (sorted_same HI.out.rise (hp'.trans HPX.out) hs')
  have O4 := Lib.hid ho'
  have G4 := Lib.hid g'
  clear hp' hs' ho' g' hb4
  go_wp2
  go_ret
  refine ⟨_, rfl, ?_, ?_⟩
  · have := O4.out
    rw [EL.out] at this
    exact rowK.own_base this fun g hg => by
      have := (rowK.own_lt OX.out g hg).1
      simp at this
      omega
  · have kk := K3.out.trans (ky_box w3 (.cells #[.slice pv xs.length cv] tRs))
    refine ⟨G4.out.os.trans kk.os, G4.out.tape.trans kk.tape, G4.out.output.trans kk.output, Nat.le_trans kk.size G4.out.size, fun i hi' => (G4.out.block i (Nat.lt_of_lt_of_le hi' kk.size) fun e => ?_).trans (kk.block i hi')⟩
    have := (rowK.own_lt OX.out i e.symm).1
    simp at this
    omega
end Pp
end Go.Proofs.YtkffpmeocfhcpaaDoor
namespace Go.Proofs.YtkffpmeocfhcpaaDoor
open Go.ChangeShapes Go.WideShapes Go.ChangeAt Go.RowKit Ky Rw
open Go.ChangeMaps
namespace Pp
theorem same_block {w : World} {b : Nat} {o : Obj} (h : w.heap[b]? = some o) : setBlock w b o = w := by
  unfold setBlock
  have : w.heap.setIfInBounds b o = w.heap := by
    apply Array.ext_getElem?
    intro i
    rw [Array.getElem?_setIfInBounds]
    by_cases e : b = i
    · subst e
      have hb : b < w.heap.size := by
        rcases Nat.lt_or_ge b w.heap.size with h0 | h0
        · exact h0
        · rw [Array.getElem?_eq_none h0] at h; cases h
      simp [hb]
      rw [← Option.some_inj, ← h, Array.getElem?_eq_getElem hb]
    · simp [e]
  rw [this]
section
variable {P : Program} {k e t : TypeId}
theorem entry_there {w : World} {b n : Nat} {D : DataW Value} (h : w.ownsMap P k asIs b n D) (K : Maps.Keyed P k) (ht : P.underlying t = some (.map k e)) {z : Value} (hz : (zeroValue e).run P w = .ok z w) (hn : n < maxLen) {key : Value} {kl : Lit} (hk : keyOf P k key = some kl)
    {v : Value} (hl : (Instr.lookup t (.map (some b)) key true).run P w = .ok (.tuple #[v, .bool true]) w) :
    ∃ st : Nat, (Instr.mapEntry t (.map (some b)) key).run P w = .ok (.tuple #[v, goInt st]) w ∧
      ∀ (w2 : World) (u : Value), w2.heap[b]? = w.heap[b]? → ∃ w3, (Instr.entryStore t (.map (some b)) (goInt st) u).run P w2 = .ok () w3 ∧ w3.ownsMap P k asIs b (n + 1) (D.put kl (.held u)) ∧ w2.grownBy w3 (some b) := by
  have hput := fun u => h.update (val := u) K ht hn hk (show asIs u = some (.held u, []) from rfl)
  obtain ⟨es, clock, hb, F, hs, rfl⟩ := h
  obtain ⟨s1, s2, _⟩ := F.stamped
  rcases K.find w hk es.toList F.keys with ⟨h1, h2⟩ | ⟨j, e0, h1, h2, h3⟩
  · exfalso
    simp [Instr.lookup, run_underlying ht, MapKept.run_getObj_map hb, K.check w _ hk, h1, hz, Result.andThen] at hl
  · have hj : es[j]? = some e0 := by simpa using h2
    have hsame : es.modify j (fun e => { e with key := key }) = es := by
      apply Array.ext'
      rw [Array.toList_modify, modify_eq_set _ _ _ _ h2]
      have : ({ e0 with key := key } : MapEntry) = e0 := by rw [← h3]
      rw [this]
      exact Go.WideElems.set_self _ _ _ h2
    have hv : e0.val = v := by
      simp [Instr.lookup, run_underlying ht, MapKept.run_getObj_map hb, K.check w _ hk, h1, Result.andThen] at hl
      exact hl
    refine ⟨e0.born, ?_, fun w2 u hw2 => ?_⟩
    · have hr : (Instr.mapEntry t (.map (some b)) key).run P w = .ok (.tuple #[e0.val, goInt e0.born]) (setBlock w b (.map es clock)) := by
        simp [Instr.mapEntry, run_underlying ht, MapKept.run_getObj_map hb, K.check w _ hk, h1, hj, h3, K.stays w hk, hsame, MapKept.run_setObj_map _ hb, Result.andThen, setBlock]
      rw [hr, same_block hb, hv]
    · have hw2' : w2.heap[b]? = some (.map es clock) := hw2.trans hb
      have hidx : es.findIdx? (fun e => ((e.born : Nat) : Int) == ((e0.born : Nat) : Int)) = some j := by
        rw [Go.WideElems.findIdx_arr]
        exact Go.WideElems.findIdx_born s2 h2
      have hmod : es.modify j (fun e => { e with val := u }) = es.modify j (fun e' => { e' with key := key, val := u }) := by
        apply Array.ext'
        rw [Array.toList_modify, Array.toList_modify, modify_eq_set _ _ _ _ h2, modify_eq_set _ _ _ _ h2, ← h3]
      have hst : (Instr.entryStore t (.map (some b)) (goInt e0.born) u).run P w2 = .ok () (setBlock w2 b (.map (es.modify j (fun e' => { e' with key := key, val := u })) clock)) := by
        simp [Instr.entryStore, MapKept.run_getObj_map hw2', asInt, asIntOf, goInt, hidx, hmod, MapKept.run_setObj_map _ hw2', Result.andThen, setBlock]
      have hup : (Instr.mapUpdate t (.map (some b)) key u).run P w = .ok () (setBlock w b (.map (es.modify j (fun e' => { e' with key := key, val := u })) clock)) := by
        simp [Instr.mapUpdate, run_underlying ht, MapKept.run_getObj_map hb, K.check w _ hk, h1, hj, h3, K.stays w hk, MapKept.run_setObj_map _ hb, Result.andThen, setBlock]
      obtain ⟨w', hr, own, _⟩ := hput u
      rw [hup] at hr
      cases hr
      refine ⟨_, hst, own_map own (by rw [heap_setBlock_same hw2', heap_setBlock_same hb]), ⟨rfl, rfl, rfl, by simp [setBlock], fun i _ hi => heap_setBlock_other hw2' _ (fun e => hi (by rw [e]))⟩⟩
end
end Pp
end Go.Proofs.YtkffpmeocfhcpaaDoor
namespace Go.Proofs.YtkffpmeocfhcpaaDoor
open Go.ChangeShapes Go.WideShapes Go.ChangeAt Go.RowKit Ky Rw
namespace Pp
def withG (p : Pt.P) (G : List Pt.Gd) : Pt.P := ⟨p.kind, p.stock, p.limit, p.L, G⟩
theorem at_some {D : DataW Value} {k : Lit} {x : Option Value} {v : Value} (h : At D k x) (e : x = some v) : At D k (some v) := e ▸ h
theorem gOf_snoc {G : List Pt.Gd} {g : Pt.Gd} (o : Int) : gOf (G ++ [g]) o = (gOf G o).or (if g.o = o then some g.s else none) := by
  unfold gOf
  rw [List.find?_append]
  cases G.find? fun g => decide (g.o = o) with
  | some x => simp
  | none =>
    by_cases e : g.o = o
    · simp [e]
    · simp [e]
/-- What is held, laid into both maps. -/
theorem held_two {W X Y Z : World} {b br bs bh c n2 n3 : Nat} {p : Pt.P} {q o m : Int} {s : ByteArray} {D2 D3 : DataW Value} {f : ByteArray → Option Int} (h : PpAt W b br bs bh c p q) (k : Keeps W X)
    (g1 : Only (fun i => i = bs) X Y) (own2 : Y.ownsMap Tryd.prog tGo asIs bs (n2 + 1) (D2.put (kG s) (.held (.int .i64 (Pt.left p s - m))))) (e2 : n2 ≤ c) (S : StocksAre D2 f p) (m2 : Maps.IsMap D2) (hs : Nm s)
    (g2 : Only (fun i => i = bh) Y Z) (own3 : Z.ownsMap Tryd.prog 3 asIs bh (n3 + 1) (D3.put (.int .i64 o) (.held (goV s)))) (e3 : n3 ≤ c) (H : HeldAre D3 p.G) (m3 : Maps.IsMap D3) (hg : gOf p.G o = none) :
    PpAt Z b br bs bh (c + 1) (withG p (p.G ++ [⟨o, s, m⟩])) q ∧ Only (fun i => i = bs ∨ i = bh) W Z := by
  have hX := h.keeps k
  obtain ⟨o1, o2, o3⟩ := h.off
  obtain ⟨l1, l2, l3⟩ := hX.tabs.low
  have t := h.tabs
  have sm : ∀ i, i < X.heap.size → i ≠ bs → i ≠ bh → Z.heap[i]? = X.heap[i]? := fun i hi h1 h2 => (g2.same i (Nat.lt_of_lt_of_le hi g1.size) h2).trans (g1.same i hi h1)
  refine ⟨⟨(sm b hX.low o2 o3).trans hX.box, ⟨?_, ⟨n2 + 1, _, fun t => if t = s then some (Pt.left p s - m) else f t, own_map own2 (g2.same bs (Nat.lt_of_lt_of_le l2 g1.size) t.bc), by omega, ?_⟩, ⟨n3 + 1, _, own3, by omega, ?_⟩, t.ab, t.ac, t.bc⟩⟩, (Only.of_keeps k).trans ((g1.mono fun i hi => Or.inl hi).trans (g2.mono fun i hi => Or.inr hi))⟩
  · obtain ⟨n1, D1, own1, e1, RA⟩ := hX.tabs.rows
    exact ⟨n1, D1, own_map own1 (sm br l1 t.ab t.ac), by omega, RA⟩
  · have lf : ∀ t, Pt.left (withG p (p.G ++ [⟨o, s, m⟩])) t = Pt.left p t - (if s = t then m else 0) := fun t => by
      unfold Pt.left withG
      rw [Pt.tot_app]
      show p.stock - (Pt.tot t p.G + ((if s = t then m else 0) + 0)) = p.stock - Pt.tot t p.G - (if s = t then m else 0)
      omega
    refine ⟨fun t ht => ?_, fun t v ht e => ?_, fun g hg' => ?_⟩
    · by_cases e : t = s
      · subst e
        rw [if_pos rfl]
        exact At.put_same m2 (key_kG t)
      · rw [if_neg e]
        exact (S.at_ t ht).put_other fun hk => e (kG_inj ht hs hk)
    · rw [lf]
      by_cases e' : t = s
      · subst e'
        rw [if_pos rfl] at e ⊢
        cases e
        rfl
      · rw [if_neg e'] at e
        rw [if_neg (Ne.symm e'), S.is_ t v ht e]
        omega
    · rcases List.mem_append.1 hg' with h1 | h1
      · obtain ⟨h2, v, h3⟩ := S.has_ g h1
        refine ⟨h2, ?_⟩
        by_cases e : g.s = s
        · exact ⟨_, if_pos e⟩
        · exact ⟨v, by rw [if_neg e]; exact h3⟩
      · simp only [List.mem_singleton] at h1
        subst h1
        exact ⟨hs, _, if_pos rfl⟩
  · intro o' ho'
    show At _ _ ((gOf (p.G ++ [⟨o, s, m⟩]) o').map goV)
    rw [gOf_snoc]
    by_cases e : o = o'
    · subst e
      rw [hg, if_pos rfl]
      exact At.put_same m3 trivial
    · rw [if_neg e, Option.or_none]
      exact (H o' ho').put_other fun hk => e (by cases hk; rfl)
set_option maxHeartbeats 4000000 in
set_option maxRecDepth 100000 in
theorem pp_hold {W : World} {b br bs bh c : Nat} {p : Pt.P} {q : Int} (h : PpAt W b br bs bh c p q) (hc : c < 1000000) (o m : Int) (s : ByteArray) (hs : Nm s) (io : I64 o) (hg : gOf p.G o = none) (h0 : 0 ≤ m) (h1 : m ≤ Pt.left p s) (h2 : Pt.left p s ≤ 1000000000) :
    Calls Tryd.prog 62 #[.pointer (some ⟨b, 0, none⟩), .int .i64 o, goV s, .int .i64 m] W fun e w' => e = .returned (.tuple #[]) ∧ PpAt w' b br bs bh (c + 1) (withG p (p.G ++ [⟨o, s, m⟩])) q ∧ Only (fun i => i = bs ∨ i = bh) W w' := by
  obtain ⟨n2, D2, f, ow2, e2, SA⟩ := h.tabs.stocks
  obtain ⟨n3, D3, ow3, e3, HA⟩ := h.tabs.held
  obtain ⟨c0, c1, c2, c3, c4, c5, c6, c7, hgl⟩ := goL_get s
  have KB := Lib.hid (ky_box W (goObj c0 c1 c2 c3 c4 c5 c6 c7))
  have hmx2 : n2 < maxLen := by unfold maxLen; omega
  have hmx3 : n3 < maxLen := by unfold maxLen; omega
  have l2 := h.tabs.low.2.1
  have l3 := h.tabs.low.2.2
  have HH := Lib.hid h
  have x4 := (h.keeps KB.out).cells.2.2.2.2.1
  have hl := Lib.hid fun (X : World) (k : Keeps W X) => pp_left (h.keeps k) s hs
  have PUT : Hid (∀ X : World, Keeps (W.alloc (goObj c0 c1 c2 c3 c4 c5 c6 c7)) X → ∃ Y, (Instr.mapUpdate tMg (.map (some bs)) (goV s) (.int .i64 (Pt.left p s - m))).run Tryd.prog X = .ok () Y ∧ Y.ownsMap Tryd.prog tGo asIs bs (n2 + 1) (D2.put (kG s) (.held (.int .i64 (Pt.left p s - m)))) ∧ Only (fun i => i = bs) (W.alloc (goObj c0 c1 c2 c3 c4 c5 c6 c7)) Y) := Lib.hid fun X k => by
    obtain ⟨Y, r1, r2, r3⟩ := put_at (.int .i64 (Pt.left p s - m)) (own_map ow2 ((k.block bs (Nat.lt_of_lt_of_le l2 KB.out.size)).trans (KB.out.block bs l2))) lawGo Tryd.underlying54 hmx2 (kG_is s)
    exact ⟨Y, r1, r2, (Only.of_keeps k).trans (Only.grown r3 rfl)⟩
  have PUT3 : Hid (∀ Y Z : World, Only (fun i => i = bs) (W.alloc (goObj c0 c1 c2 c3 c4 c5 c6 c7)) Y → Keeps Y Z → ∃ T, (Instr.mapUpdate tMo (.map (some bh)) (.int .i64 o) (goV s)).run Tryd.prog Z = .ok () T ∧ T.ownsMap Tryd.prog 3 asIs bh (n3 + 1) (D3.put (.int .i64 o) (.held (goV s))) ∧ Only (fun i => i = bh) Y T) := Lib.hid fun Y Z g k => by
    have lb : bh < (W.alloc (goObj c0 c1 c2 c3 c4 c5 c6 c7)).heap.size := Nat.lt_of_lt_of_le l3 KB.out.size
    have hk : keyOf Tryd.prog 3 (.int .i64 o) = some (.int .i64 o) := by
      simp [keyOf, mapKey, Tryd.underlying3, wf_i io]
    obtain ⟨T, r1, r2, r3⟩ := put_at (goV s) (own_map ow3 ((k.block bh (Nat.lt_of_lt_of_le lb g.size)).trans ((g.same bh lb (Ne.symm h.tabs.bc)).trans (KB.out.block bh l3)))) lawI Tryd.underlying55 hmx3 hk
    exact ⟨T, r1, r2, (Only.of_keeps k).trans (Only.grown r3 rfl)⟩
  have FIN := Lib.hid fun (Y Z : World) (g1 : Only (fun i => i = bs) (W.alloc (goObj c0 c1 c2 c3 c4 c5 c6 c7)) Y) (r2 : Y.ownsMap Tryd.prog tGo asIs bs (n2 + 1) (D2.put (kG s) (.held (.int .i64 (Pt.left p s - m))))) (g2 : Only (fun i => i = bh) Y Z) (r3 : Z.ownsMap Tryd.prog 3 asIs bh (n3 + 1) (D3.put (.int .i64 o) (.held (goV s)))) =>
    held_two h KB.out g1 r2 e2 SA ow2.isMap hs g2 r3 e3 HA ow3.isMap hg
  have AG := Lib.hid (go_agg hgl)
  have BX : Hid ((W.alloc (goObj c0 c1 c2 c3 c4 c5 c6 c7)).heap[W.heap.size]? = some (goObj c0 c1 c2 c3 c4 c5 c6 c7)) := Lib.hid (heap_alloc_new W _)
  have HY : Hid (∀ X, Keeps (W.alloc (goObj c0 c1 c2 c3 c4 c5 c6 c7)) X → X.cell? ⟨b, 4, none⟩ = some (.map (some bs)) ∧ X.cell? ⟨W.heap.size, 0, none⟩ = some (.int .u8 c0.toNat) ∧ X.cell? ⟨W.heap.size, 1, none⟩ = some (.int .u8 c1.toNat) ∧ X.cell? ⟨W.heap.size, 2, none⟩ = some (.int .u8 c2.toNat) ∧ X.cell? ⟨W.heap.size, 3, none⟩ = some (.int .u8 c3.toNat) ∧
    X.cell? ⟨W.heap.size, 4, none⟩ = some (.int .u8 c4.toNat) ∧ X.cell? ⟨W.heap.size, 5, none⟩ = some (.int .u8 c5.toNat) ∧ X.cell? ⟨W.heap.size, 6, none⟩ = some (.int .u8 c6.toNat) ∧ X.cell? ⟨W.heap.size, 7, none⟩ = some (.int .u8 c7.toNat)) := Lib.hid fun X k => by
    have hz : X.heap[W.heap.size]? = some (goObj c0 c1 c2 c3 c4 c5 c6 c7) := (k.block _ (by simp)).trans BX.out
    refine ⟨((HH.out.keeps KB.out).keeps k).cells.2.2.2.2.1, ?_⟩
    simp [World.cell?, hz, goObj]
  have HZ : Hid (∀ Y, Only (fun i => i = bs) (W.alloc (goObj c0 c1 c2 c3 c4 c5 c6 c7)) Y → Y.cell? ⟨b, 5, none⟩ = some (.map (some bh)) ∧ Y.cell? ⟨W.heap.size, 0, none⟩ = some (.int .u8 c0.toNat) ∧ Y.cell? ⟨W.heap.size, 1, none⟩ = some (.int .u8 c1.toNat) ∧ Y.cell? ⟨W.heap.size, 2, none⟩ = some (.int .u8 c2.toNat) ∧ Y.cell? ⟨W.heap.size, 3, none⟩ = some (.int .u8 c3.toNat) ∧
    Y.cell? ⟨W.heap.size, 4, none⟩ = some (.int .u8 c4.toNat) ∧ Y.cell? ⟨W.heap.size, 5, none⟩ = some (.int .u8 c5.toNat) ∧ Y.cell? ⟨W.heap.size, 6, none⟩ = some (.int .u8 c6.toNat) ∧ Y.cell? ⟨W.heap.size, 7, none⟩ = some (.int .u8 c7.toNat)) := Lib.hid fun Y g => by
    have hz : Y.heap[W.heap.size]? = some (goObj c0 c1 c2 c3 c4 c5 c6 c7) := (g.same _ (by simp) (by omega)).trans BX.out
    have hk := HH.out.keeps KB.out
    have hb : Y.heap[b]? = some (ppObj p br bs bh q) := (g.same b hk.low h.off.2.1).trans hk.box
    refine ⟨by simp [World.cell?, hb, ppObj], ?_⟩
    simp [World.cell?, hz, goObj]
  generalize Pt.left p s = lf at *
  have hwr : IntKind.i64.wrap (lf - m) = lf - m := by simp [IntKind.wrap, IntKind.bits, IntKind.signed]; omega
  rw [AG.out] at hl PUT PUT3 FIN ⊢
  clear SA HA ow2 ow3 hg h hgl AG
  obtain ⟨yy4, yy0, yy1, yy2, yy3, yy5, yy6, yy7, yy8⟩ := HY.out _ (Keeps.refl _)
  clear x4
  unfold goObj at *
  go_enter Tryd.func62, Tryd.ntmps62
  go_upto_region 1 with fail
  go_cut [] (fun wx => wx.ownsMap Tryd.prog tGo asIs bs (n2 + 1) (D2.put (kG s) (.held (.int .i64 (lf - m)))) ∧ Only (fun i => i = bs) (W.alloc (.cells #[.int .u8 c0.toNat, .int .u8 c1.toNat, .int .u8 c2.toNat, .int .u8 c3.toNat, .int .u8 c4.toNat, .int .u8 c5.toNat, .int .u8 c6.toNat, .int .u8 c7.toNat] tGo)) wx)
  case first =>
    go_wp2_with (go_region_with (go_at_call 44; refine (hl.out _ (by first | exact KB.out | exact KB.out.trans (ky_drew _))).mono ?_; rintro e w1 ⟨rfl, k1⟩; have K1 := Lib.hid (show Keeps (W.alloc (.cells #[.int .u8 c0.toNat, .int .u8 c1.toNat, .int .u8 c2.toNat, .int .u8 c3.toNat, .int .u8 c4.toNat, .int .u8 c5.toNat, .int .u8 c6.toNat, .int .u8 c7.toNat] tGo)) w1 by first | exact k1 | exact (ky_drew _).trans k1); clear k1; obtain ⟨v4, v0, v1, v2, v3, v5, v6, v7, v8⟩ := HY.out _ K1.out; obtain ⟨Ya, ea, ra, ga⟩ := PUT.out w1 K1.out; obtain ⟨Yb, eb, rb, gb⟩ := PUT.out w1.drew (K1.out.trans (ky_drew _)); have RA := Lib.hid ra; have RB := Lib.hid rb; have GA := Lib.hid ga; have GB := Lib.hid gb; clear ra rb ga gb))
    all_goals go_wp2_with fail
    all_goals go_meet
    all_goals first
      | exact ⟨RB.out, GB.out⟩
      | exact ⟨RA.out, GA.out⟩
      | exact ⟨own_map RA.out rfl, GA.out.drew⟩
  case rest =>
    rename World => wc
    obtain ⟨r2, g2⟩ := hcut
    have R2 := Lib.hid r2
    have G2 := Lib.hid g2
    clear r2 g2 yy4 yy0 yy1 yy2 yy3 yy5 yy6 yy7 yy8
    obtain ⟨v5', v0, v1, v2, v3, v4, v5, v6, v7⟩ := HZ.out _ G2.out
    obtain ⟨Za, ea, ra, ga⟩ := PUT3.out wc wc G2.out (Keeps.refl _)
    obtain ⟨Zb, eb, rb, gb⟩ := PUT3.out wc wc.drew G2.out (ky_drew _)
    have FA := Lib.hid (FIN.out wc Za G2.out R2.out ga ra)
    have FB := Lib.hid (FIN.out wc Zb G2.out R2.out gb rb)
    clear ga ra gb rb
    go_upto_region 2 with fail
    go_region
    all_goals clear ea eb
    all_goals go_wp2
    all_goals go_end0
    all_goals first
      | exact ⟨rfl, FB.out.1, FB.out.2⟩
      | exact ⟨rfl, FA.out.1.drew, FA.out.2.drew⟩
end Pp
end Go.Proofs.YtkffpmeocfhcpaaDoor
