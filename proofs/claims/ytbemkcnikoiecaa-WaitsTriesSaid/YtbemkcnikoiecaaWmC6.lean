
/- The program's waits: List. -/
import Derived.Test.YtbemkcnikoiecaaWmC5
import Derived.Test.YtbemkcnikoiecaaWmV
import Derived.Test.YtbemkcnikoiecaaWmS
set_option linter.unusedVariables false
set_option linter.unusedSimpArgs false
namespace Go.Proofs.Ytbemkcnikoiecaa
open Go.ChangeShapes Go.WideShapes Go.ChangeAt Go.RowKit Csv Ky Km Ob
namespace Wt
theorem rise_total {L : List W5} (h : L.Pairwise Before) {x y : W5} (hx : x ∈ L) (hy : y ∈ L) (hne : x ≠ y) : Before x y ∨ Before y x := by
  obtain ⟨i, hi, rfl⟩ := List.mem_iff_getElem.1 hx
  obtain ⟨j, hj, rfl⟩ := List.mem_iff_getElem.1 hy
  rcases Nat.lt_trichotomy i j with h1 | h1 | h1
  · exact Or.inl (List.pairwise_iff_getElem.1 h i j hi hj h1)
  · subst h1; exact absurd rfl hne
  · exact Or.inr (List.pairwise_iff_getElem.1 h j i hj hi h1)
theorem before_irrefl {x : W5} (h : Before x x) : False := by
  unfold Before at h
  rw [less_iff] at h
  omega
theorem before_asymm {x y : W5} (h : Before x y) (g : Before y x) : False := before_irrefl (h.trans g)
theorem sorted_same {L L' : List W5} (h : L.Pairwise Before) (hp : L'.Perm L) (hs : L'.Pairwise fun x y => So.less y x = false) : L' = L := by
  have nd : L.Nodup := h.imp fun {a b} hab e => by subst e; exact before_irrefl hab
  have nd' : L'.Nodup := hp.nodup_iff.2 nd
  have h' : L'.Pairwise Before := (hs.and nd').imp_of_mem fun {a b} ha hb hab => by
    rcases rise_total h (hp.subset ha) (hp.subset hb) hab.2 with e | e
    · exact e
    · have := hab.1
      unfold Before at e
      unfold So.less at this
      rw [e] at this
      cases this
  exact List.Perm.eq_of_pairwise (le := Before) (fun a b _ _ h1 h2 => (before_asymm h1 h2).elim) h' h hp
theorem vals_any (br : Nat) (w : World) : Calls Try.prog 36 #[.map (some br)] w fun e w' =>
    e = .returned (.func (.func 45) #[] #[.pointer (some ⟨w.heap.size, 0, none⟩)]) ∧ w' = w.alloc (.cells #[.map (some br)] tMw) := by
  go_enter Try.func36, Try.ntmps36
  go_wp2
  go_ret
  exact ⟨rfl, rfl⟩
set_option maxHeartbeats 4000000 in
set_option maxRecDepth 100000 in
theorem pw_list {W : World} {b m : Nat} {l : List W5} (h : PwAt W b m l) :
    Calls Try.prog 25 #[.pointer (some ⟨b, 0, none⟩)] W fun e w' => ∃ v, e = .returned v ∧ pwK.Own W.heap.size w' v l ∧ Keeps W w' := by
  have CN := Lib.hid (pw_none h)
  have x3 := h.cell
  obtain ⟨D1, o1, RA⟩ := h.map
  have few := h.inv.len
  have k1 := ky_box W (.cells #[.map (some m)] tMw)
  have CC := Lib.hid (coll_any W.heap.size m l.length D1 l RA ⟨h.inv.dist, h.inv.keysOk⟩ (W.alloc (.cells #[.map (some m)] tMw)) (by simp) (by simp) (own_map o1 (k1.block m o1.lt)) (by omega))
  have K1 := Lib.hid k1
  have HI := Lib.hid h.inv
  clear h RA o1 k1
  go_enter Try.func25, Try.ntmps25
  go_wp2_with fail
  refine CN.out.mono ?_
  rintro e w1 ⟨rfl, rfl⟩
  go_wp2_with fail
  refine (vals_any m w1).mono ?_
  rintro e w2 ⟨rfl, rfl⟩
  go_wp2_with fail
  refine CC.out.mono ?_
  rintro e w3 ⟨v, xs, rfl, hp, ho, k3⟩
  have HPX := Lib.hid hp
  have OX := Lib.hid ho
  have K3 := Lib.hid (K1.out.trans k3)
  have hxl : xs.length ≤ 100000 := by rw [hp.length_eq]; omega
  obtain ⟨pv, cv, rfl⟩ := pwK.own_shape ho
  have NB : Hid ((Value.slice pv xs.length cv).ownBlock ≠ some w3.heap.size) := Lib.hid fun e => by have := (pwK.own_lt OX.out _ e).2; omega
  have SR := Lib.hid (So.so_rows (Bs := w3.heap.size) (w := w3.alloc (.cells #[.slice pv xs.length cv] tPws)) (v := .slice pv xs.length cv) (pwK.own_keeps ho (ky_box w3 _)) (by simp) (by simp) NB.out hxl)
  have BX : Hid ((w3.alloc (.cells #[.slice pv xs.length cv] tPws)).heap[w3.heap.size]? = some (.cells #[.slice pv xs.length cv] tPws (0, 0))) := Lib.hid (heap_alloc_new w3 _)
  clear hp ho k3 x3
  go_wp2_with fail
  refine SR.out.mono ?_
  rintro e w4 ⟨rfl, L', hp', hs', ho', g'⟩
  have hb4 : w4.heap[w3.heap.size]? = some (.cells #[.slice pv xs.length cv] tPws (0, 0)) := (g'.block _ (by simp) (fun e => NB.out e.symm)).trans BX.out
  have hc4 : w4.cell? ⟨w3.heap.size, 0, none⟩ = some (.slice pv xs.length cv) := by simp [World.cell?, hb4]
  have EL : Hid (L' = l) := Lib.hid (sorted_same HI.out.rise (hp'.trans HPX.out) hs')
  have O4 := Lib.hid ho'
  have G4 := Lib.hid g'
  clear hp' hs' ho' g' hb4
  go_wp2
  go_ret
  refine ⟨_, rfl, ?_, ?_⟩
  · have := O4.out
    rw [EL.out] at this
    exact pwK.own_base this fun g hg => by
      have := (pwK.own_lt OX.out g hg).1
      simp at this
      omega
  · have kk := K3.out.trans (ky_box w3 (.cells #[.slice pv xs.length cv] tPws))
    refine ⟨G4.out.os.trans kk.os, G4.out.tape.trans kk.tape, G4.out.output.trans kk.output, Nat.le_trans kk.size G4.out.size, fun i hi' => (G4.out.block i (Nat.lt_of_lt_of_le hi' kk.size) fun e => ?_).trans (kk.block i hi')⟩
    have := (pwK.own_lt OX.out i e.symm).1
    simp at this
    omega
end Wt
end Go.Proofs.Ytbemkcnikoiecaa
