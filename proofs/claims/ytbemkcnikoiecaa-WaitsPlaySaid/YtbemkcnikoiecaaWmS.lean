
/- The sort of waits by their keys: what its 'less' does, and what the sort comes to. -/
import Derived.Test.YtbemkcnikoiecaaSoD1
import Derived.Test.YtbemkcnikoiecaaWmIs
import Derived.Deep.RegionWith
import Derived.Deep.Cut
import Derived.Deep.QuietTactic
import Derived.BigQuiet
import Derived.Shelf.GgSortFunc.Tiny
import Derived.Shelf.GgSortFunc.SmallK
set_option linter.unusedVariables false
namespace Go.Proofs.Ytbemkcnikoiecaa
open Go.Shelf Go.RowKit Go.Lib Go.Sort Ky Wt
namespace So
instance : Inhabited W5 := ⟨⟨0, 0, 0, 0, false⟩⟩
def less (x y : W5) : Bool := lessK x.o x.d y.o y.d
theorem wless_iff {x y : W5} : less x y = true ↔ x.o < y.o ∨ (x.o = y.o ∧ x.d < y.d) := less_iff
theorem Gr.refl (W : World) : Gr W W := ⟨0, #[], by rw [grow_empty]; rfl⟩
theorem Gr.alloc {W W' : World} (h : Gr W W') (o : Obj) : Gr W (W'.alloc o) := by
  obtain ⟨q, os, rfl⟩ := h
  exact ⟨q, os ++ #[o], by rw [alloc_eq_grow, grow_grow]⟩
theorem Gr.drewN {W W' : World} (h : Gr W W') (m : Nat) : Gr W (W'.drewN m) := by
  obtain ⟨q, os, rfl⟩ := h
  refine ⟨q + m, os, ?_⟩
  have e1 : (Sort.grow (W.drewN q) os).drewN m = Sort.grow ((W.drewN q).drewN m) os := rfl
  have e2 : (W.drewN q).drewN m = W.drewN (q + m) := Sort.ahead_ahead W q m
  rw [e1, e2]
theorem Gr.drew {W W' : World} (h : Gr W W') : Gr W W'.drew := h.drewN 1
theorem less_exact (o d o' d' : Int) (w : World) : Calls Try.prog 39 #[kyV o d, kyV o' d'] w fun e w' => e = .returned (.bool (lessK o d o' d')) ∧
    w' = (w.alloc (.cells #[.int .i64 o, .int .i64 d] tKy)).alloc (.cells #[.int .i64 o', .int .i64 d'] tKy) := by
  unfold kyV
  by_cases h : o = o'
  · subst h
    have E : Hid (lessK o d o d' = decide (d < d')) := Lib.hid (by unfold lessK; simp)
    have e1 : (o != o) = false := by simp
    go_enter Try.func39, Try.ntmps39
    go_wp2
    go_ret
    exact ⟨by rw [E.out]; rfl, rfl⟩
  · have E : Hid (lessK o d o' d' = decide (o < o')) := Lib.hid (by unfold lessK; simp [h])
    have e1 : (o != o') = true := by simpa using h
    clear h
    go_enter Try.func39, Try.ntmps39
    go_wp2
    go_ret
    exact ⟨by rw [E.out]; rfl, rfl⟩
set_option maxHeartbeats 4000000 in
set_option maxRecDepth 100000 in
theorem so_less (g c Bs n i j : Nat) (W : World) (d : Array W5) (hs : W.cell? ⟨Bs, 0, none⟩ = some (.slice (some ⟨g, 0, none⟩) n c)) (hd : HoldsK wtVals 5 W g 0 d) (hz : d.size = n) (hi : i < n) (hj : j < n) (hn : n < 4611686018427387904) :
    Calls Try.prog 38 #[.int .i64 i, .int .i64 j, .pointer (some ⟨Bs, 0, none⟩)] W fun e w' => e = .returned (.bool (less d[i]! d[j]!)) ∧ Gr W w' := by
  have ci0 := (hd.cell (i := i) (c := 0) (by omega) (by omega)).1
  have ci1 := (hd.cell (i := i) (c := 1) (by omega) (by omega)).1
  have cj0 := (hd.cell (i := j) (c := 0) (by omega) (by omega)).1
  have cj1 := (hd.cell (i := j) (c := 1) (by omega) (by omega)).1
  simp only [Nat.zero_add, Nat.add_zero] at ci0 ci1 cj0 cj1
  replace ci0 : _ = some (Value.int IntKind.i64 d[i]!.o) := ci0
  replace ci1 : _ = some (Value.int IntKind.i64 d[i]!.d) := ci1
  replace cj0 : _ = some (Value.int IntKind.i64 d[j]!.o) := cj0
  replace cj1 : _ = some (Value.int IntKind.i64 d[j]!.d) := cj1
  have E : Hid (less d[i]! d[j]! = lessK d[i]!.o d[i]!.d d[j]!.o d[j]!.d) := Lib.hid rfl
  generalize less d[i]! d[j]! = B at E ⊢
  generalize d[i]!.o = o at *
  generalize d[i]!.d = k at *
  generalize d[j]!.o = o' at *
  generalize d[j]!.d = k' at *
  have hc := fun X => less_exact o k o' k' X
  unfold kyV at hc
  clear hd
  go_enter Try.func38, Try.ntmps38
  go_upto_region 1 with fail
  go_wp2_with (go_region_with (go_at_call 39; refine (hc _).mono ?_; rintro e w1 ⟨rfl, rfl⟩))
  all_goals
    go_wp2
    go_ret
    refine ⟨by rw [E.out]; rfl, ?_⟩
    exact (((Gr.refl W).alloc _).alloc _).drew
end So
end Go.Proofs.Ytbemkcnikoiecaa
namespace Go.Proofs.Ytbemkcnikoiecaa
open Go.Shelf Go.RowKit Go.Lib Go.Sort Ky Wt
namespace So
theorem swo_less : SWO less where
  irrefl := fun x => by cases hb : less x x with | false => rfl | true => exact absurd (wless_iff.1 hb) (by omega)
  trans := fun x y z h g => by rw [wless_iff] at *; omega
  ntrans := fun x y z h g => by
    cases hb : less x z with
    | false => rfl
    | true =>
      exfalso
      have h1 : ¬ less x y = true := by rw [h]; exact Bool.false_ne_true
      have h2 : ¬ less y z = true := by rw [g]; exact Bool.false_ne_true
      rw [wless_iff] at h1 h2 hb
      omega
theorem ieR_ex : ∃ ie, Try.prog.info? tPw = some ie ∧ ie.hasPointers = false ∧ ie.bytes = 40 ∧ ie.size = 5 := by
  have h : (Try.prog.info? tPw).map (fun i => (i.hasPointers, i.bytes, i.size)) = some (false, 40, 5) := by kernel_rfl
  cases e : Try.prog.info? tPw with
  | none => rw [e] at h; cases h
  | some ie =>
    rw [e] at h
    simp only [Option.map_some, Option.some.injEq, Prod.mk.injEq] at h
    exact ⟨ie, rfl, h.1, h.2.1, h.2.2⟩
theorem isR_ex : ∃ i, Try.prog.info? tPws = some i ∧ i.desc = .slice tPw := by
  have h : (Try.prog.info? tPws).map (fun i => i.desc) = some (.slice tPw) := by kernel_rfl
  cases e : Try.prog.info? tPws with
  | none => rw [e] at h; cases h
  | some i =>
    rw [e] at h
    simp only [Option.map_some, Option.some.injEq] at h
    exact ⟨i, rfl, h⟩
theorem svK {ie : TypeInfo} (a : ie.hasPointers = false) (b : ie.bytes = 40) (n : Nat) (h2 : 2 ≤ n) : Lib.swapperK n ie 25 = 9 := by
  have c : (n == 0) = false := by simp; omega
  have d : (n == 1) = false := by simp; omega
  simp [Lib.swapperK, a, b, c, d]
theorem sw_cell {α : Type} [Inhabited α] {enc : α → List Value} {k blk off B o : Nat} {w0 W : World} {dk : Array α} (h : SWK enc k w0 blk off dk W) (hb : B < w0.heap.size) (hne : B ≠ blk) : W.cell? ⟨B, o, none⟩ = w0.cell? ⟨B, o, none⟩ := by
  obtain ⟨m, os, rfl⟩ := h
  exact (Kx.sorted (c := blk) w0 m dk os).cell hb hne hne
/-- The row as the sort holds it. -/
theorem own_holds {B g n c : Nat} {w : World} {L : List W5} (h : pwK.Own B w (.slice (some ⟨g, 0, none⟩) n c) L) : HoldsK wtVals 5 w g 0 L.toArray := by
  intro t ht
  have hn : t < L.length * 5 := by simpa using ht
  obtain ⟨i, u, rfl, hu⟩ : ∃ i u, t = i * 5 + u ∧ u < 5 := ⟨t / 5, t % 5, by omega, by omega⟩
  have hi : i < L.length := by omega
  have hx : L[i]? = some L[i] := List.getElem?_eq_getElem hi
  have hv : (wtVals L[i])[u]? = some (wtVals L[i])[u]! := by
    rw [List.getElem!_eq_getElem?_getD, List.getElem?_eq_getElem (by exact hu)]; rfl
  have hc := RowK.own_at pwK h hx hv
  have ef : (flatK wtVals 5 L.toArray)[i * 5 + u]! = (wtVals L[i])[u]! := by
    rw [get_flatK _ _ _ _ (by simpa using hn)]
    have e1 : (i * 5 + u) / 5 = i := by omega
    have e2 : (i * 5 + u) % 5 = u := by omega
    rw [e1, e2]
    congr 2
    simp [hi]
  refine ⟨?_, ?_⟩
  · rw [Nat.zero_add, ef]; exact hc
  · obtain ⟨cs, hg⟩ := pwK.own_tag h (g := g) rfl
    simp [World.frozen?, hg]
/-- A row in a world that the sort came to. -/
theorem own_sorted {B g n c : Nat} {w w' : World} {L : List W5} {d : Array W5} (h : pwK.Own B w (.slice (some ⟨g, 0, none⟩) n c) L) (hs : SWK wtVals 5 w g 0 d w') (hz : d.size = L.length) : pwK.Own B w' (.slice (some ⟨g, 0, none⟩) n c) d.toList := by
  have hlt := (RowK.own_lt pwK h g rfl).2
  have hH := hs.holds hlt (own_holds h) (by simpa using hz)
  obtain ⟨m, os, rfl⟩ := hs
  rcases h.2 with ⟨h2, _⟩ | ⟨g', cap, cur, e, hb, hg, r1, r2, r3, r4⟩
  · cases h2
  cases e
  obtain ⟨cur', hg', hz'⟩ : ∃ cur' : Array Value, (sortWorldK wtVals 5 w g 0 m d os).heap[g]? = some (.cells cur' tPw (0, 0)) ∧ cur'.size = cur.size := by
    refine ⟨putCells id 0 (flatK wtVals 5 d) cur, ?_, ?_⟩
    · show ((putRowK wtVals 5 (Sort.ahead w m) g 0 d).heap ++ os)[g]? = _
      rw [Array.getElem?_append_left (by simpa [putRowK, putRow, mapBlock] using hlt)]
      have hg2 : (Sort.ahead w m).heap[g]? = some (.cells cur tPw (0, 0)) := hg
      simp only [putRowK, putRow, mapBlock, Array.getElem?_modify, hg2, if_true, Option.map_some, onCells]
    · simp [putCells]
  have hcell : ∀ j, j < L.length * 5 → cur'[j]? = some (flatK wtVals 5 d)[j]! := fun j hj => by
    have := (hH j (by rw [size_flatK, hz]; exact hj)).1
    rw [Nat.zero_add] at this
    simpa [World.cell?, hg'] using this
  refine ⟨by rw [pwK.row_len, Array.length_toList], Or.inr ⟨g, c, cur', by rw [show d.toList.length = L.length from (Array.length_toList (xs := d)).trans hz], hb, hg', by rw [Array.length_toList, hz]; exact r1, r2, by rw [hz']; exact r3, ?_⟩⟩
  apply List.ext_getElem?
  intro j
  rw [Array.length_toList, hz]
  have e5 : pwK.sz = 5 := rfl
  rw [e5, List.getElem?_take]
  by_cases hj : j < L.length * 5
  · rw [if_pos hj]
    obtain ⟨i, u, rfl, hu⟩ : ∃ i u, j = i * 5 + u ∧ u < 5 := ⟨j / 5, j % 5, by omega, by omega⟩
    have hi : i < d.size := by omega
    have hx : d.toList[i]? = some d[i]! := by
      rw [Array.getElem?_toList, getElem!_pos d i hi]
      exact Array.getElem?_eq_getElem hi
    have hv : (wtVals d[i]!)[u]? = some (wtVals d[i]!)[u]! := by
      rw [List.getElem!_eq_getElem?_getD, List.getElem?_eq_getElem (by exact hu)]; rfl
    rw [show (pwK.row d.toList)[i * 5 + u]? = _ from pwK.row_at hx hv]
    have := hcell _ hj
    rw [get_flatK _ _ _ _ (by omega), show (i * 5 + u) / 5 = i by omega, show (i * 5 + u) % 5 = u by omega] at this
    rw [← this]
    simp
  · rw [if_neg hj, List.getElem?_eq_none (by rw [pwK.row_len, Array.length_toList, e5]; omega)]
theorem sorted_list {n : Nat} {d d' : Array W5} (hz : d.size = n) (hp : PermIn 0 n d d') (hs : SortedIn less 0 n d') : d'.toList.Perm d.toList ∧ d'.toList.Pairwise fun x y => less y x = false := by
  obtain ⟨h1, _, h3⟩ := hp
  have e1 : d'.extract 0 n = d' := by rw [← hz, ← h1, Array.extract_size]
  have e2 : d.extract 0 n = d := by rw [← hz, Array.extract_size]
  rw [e1, e2] at h3
  refine ⟨h3, List.pairwise_iff_getElem.2 fun i j hi hj hij => ?_⟩
  have := hs i j (Nat.zero_le _) hij (by simpa [h1, hz] using hj)
  rw [getElem!_pos d' j (by simpa using hj), getElem!_pos d' i (by simpa using hi)] at this
  simpa using this
set_option maxRecDepth 100000 in
/-- sort.Slice over such rows, the slice lying in a variable that 'less' reads. -/
theorem so_rows {B Bs : Nat} {w : World} {v : Value} {L : List W5} (hown : pwK.Own B w v L) (hc : w.cell? ⟨Bs, 0, none⟩ = some v) (hBs : Bs < w.heap.size) (hne : v.ownBlock ≠ some Bs) (hL : L.length ≤ 100000) :
    Calls Try.prog 37 #[.iface tPws v, .func (.func 38) #[] #[.pointer (some ⟨Bs, 0, none⟩)]] w fun e w' => e = .returned (.tuple #[]) ∧
      ∃ L', L'.Perm L ∧ (L'.Pairwise fun x y => less y x = false) ∧ pwK.Own B w' v L' ∧ w.grownBy w' v.ownBlock := by
  obtain ⟨ie, hie, p1, p2, p3⟩ := ieR_ex
  obtain ⟨ii, hii, hd⟩ := isR_ex
  have grown : ∀ (m : Nat) (os : Array Obj) (W : World), W.grownBy (Sort.grow (W.drewN m) os) v.ownBlock := fun m os W =>
    ⟨rfl, rfl, rfl, by rw [size_grow]; exact Nat.le_add_right _ _, fun b hb _ => (Kx.gr (blk := b + 1) (c := b + 1) ⟨m, os, rfl⟩).2 b hb (by omega) (by omega)⟩
  have tiny : ∀ (p : Option Addr) (c : Nat), v = .slice p L.length c → L.length ≤ 1 → Calls Try.prog 37 #[.iface tPws (.slice p L.length c), .func (.func 38) #[] #[.pointer (some ⟨Bs, 0, none⟩)]] w fun e w' => e = .returned (.tuple #[]) ∧
      ∃ L', L'.Perm L ∧ (L'.Pairwise fun x y => less y x = false) ∧ pwK.Own B w' v L' ∧ w.grownBy w' v.ownBlock := fun p c hv h1 => by
    have fin : ∀ w', (∃ os, w' = Sort.grow w os) → ∃ L', L'.Perm L ∧ (L'.Pairwise fun x y => less y x = false) ∧ pwK.Own B w' v L' ∧ w.grownBy w' v.ownBlock := fun w' ⟨os, e⟩ => by
      subst e
      have gg := grown 0 os w
      refine ⟨L, List.Perm.refl _, ?_, pwK.own_local hown fun g hg => ?_, gg⟩
      · match L, h1 with
        | [], _ => exact List.Pairwise.nil
        | [x], _ => simp
      · have := (Kx.gr (blk := g + 1) (c := g + 1) (W := w) (W' := Sort.grow w os) ⟨0, os, rfl⟩).2 g (pwK.own_lt hown g hg).2 (by omega) (by omega)
        exact this
    rcases Nat.lt_or_ge L.length 1 with h0 | h0
    · refine (Any.sort_Slice_tiny laysGg6 tPws tPw ii ie hii hd (by kernel_rfl) hie 25 (fun _ => by kernel_rfl) p L.length c h1 51 (by rw [show L.length = 0 by omega]; kernel_rfl) _ _ _ w).mono ?_
      rintro e w' ⟨rfl, h⟩
      exact ⟨rfl, fin _ h⟩
    · refine (Any.sort_Slice_tiny laysGg6 tPws tPw ii ie hii hd (by kernel_rfl) hie 25 (fun _ => by kernel_rfl) p L.length c h1 52 (by rw [show L.length = 1 by omega]; kernel_rfl) _ _ _ w).mono ?_
      rintro e w' ⟨rfl, h⟩
      exact ⟨rfl, fin _ h⟩
  obtain ⟨pv, cv, rfl⟩ := pwK.own_shape hown
  by_cases h1 : L.length ≤ 1
  · exact tiny pv cv rfl h1
  · obtain ⟨g, rfl⟩ : ∃ g, pv = some ⟨g, 0, none⟩ := by
      rcases hown.2 with ⟨e, h0⟩ | ⟨g, cap, cur, e, _⟩
      · omega
      · cases e; exact ⟨g, rfl⟩
    clear tiny
    have hgl := (RowK.own_lt pwK hown g rfl).2
    have hgb : g ≠ Bs := fun e => hne (by rw [e]; rfl)
    have hsw : SwapSwapsK Try.prog 59 #[.slice (some ⟨g, 0, none⟩) L.length cv, typeHandle Try.prog tPw] wtVals 5 g 0 L.length :=
      swapSwapsK_of_literal false 59 (fun args W => run_callFunc_extern Try.func59 (by kernel_rfl) (by kernel_rfl) (by kernel_rfl) (e := Extern.ReflectliteSwapper.swap false) (by kernel_rfl) args W) tPw ie hie wtVals 5 (fun _ => rfl) p3 (fun _ => by kernel_rfl) (fun x u hu => pwK.one x u hu) g 0 L.length cv
    have S : SE wtVals 5 less 38 #[.pointer (some ⟨Bs, 0, none⟩)] 59 #[.slice (some ⟨g, 0, none⟩) L.length cv, typeHandle Try.prog tPw] g 0 L.length w := {
      hk := fun _ => rfl
      hb := hgl
      h0 := ⟨L.toArray, own_holds hown, by simp⟩
      hn := by omega
      eg := enters_of Try.func38 (by kernel_rfl) rfl
      less := fun W dk hW hz i j hi hj => so_less g cv Bs L.length i j W dk ((sw_cell hW hBs (Ne.symm hgb)).trans hc) (hW.holds hgl (own_holds hown) (by simpa using hz)) hz hi hj (by omega)
      swap := hsw }
    refine Any.sort_Slice_of_pdq laysGg6 tPws tPw ii ie hii hd (by kernel_rfl) hie 25 (fun _ => by kernel_rfl) (some ⟨g, 0, none⟩) L.length cv (by omega) 59 (by rw [svK p1 p2 _ (by omega)]; kernel_rfl) _ _ _ w _ ?_
    have hB : sliceBound Try.prog tPw ie 25 (some ⟨g, 0, none⟩) L.length cv = #[.slice (some ⟨g, 0, none⟩) L.length cv, typeHandle Try.prog tPw] := by
      unfold sliceBound; rw [svK p1 p2 _ (by omega)]; rfl
    rw [hB]
    have hst : SWK wtVals 5 w g 0 L.toArray (sliceWorld Try.prog laysGg6_ren tPws (some ⟨g, 0, none⟩) L.length cv w) := ((SWK.start (own_holds hown)).alloc _).alloc _
    have hlim : Lib.bitLen L.length < 4611686018427387904 := Nat.lt_of_le_of_lt (Lib.bitLen_le L.length 62 (by omega) (by omega)) (by omega)
    refine (so_pdq S swo_less (L.length + 1) 0 L.length (Lib.bitLen L.length) L.toArray _ (by omega) hst (by simp) (Nat.zero_le _) (Nat.le_refl _) hlim (Or.inl rfl)).mono ?_
    rintro e w' ⟨rfl, R', q1, q2, st⟩
    obtain ⟨z1, z2⟩ := sorted_list (by simp) q1 q2
    have hz : R'.size = L.length := q1.1.trans (by simp)
    refine ⟨rfl, R'.toList, by simpa using z1, z2, own_sorted hown st.sw hz, ?_⟩
    obtain ⟨m, os, e⟩ := st.sw
    rw [e]
    exact ⟨rfl, rfl, rfl, (Kx.sorted (blk := g) (c := g) w m R' os).1, fun b hb hb2 => (Kx.sorted (blk := g) (c := g) w m R' os).2 b hb (fun e => hb2 (by rw [e]; rfl)) (fun e => hb2 (by rw [e]; rfl))⟩
end So
end Go.Proofs.Ytbemkcnikoiecaa
