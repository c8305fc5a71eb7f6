
/- The document's books: Post, Balance. -/
import Derived.Test.YtffipjhpoaalhaaBkRow
import Derived.LoopN
import Derived.Laws.Rows
import Derived.Lib.SmallJoins
import Derived.WalkKit
import Derived.Deep.RegionHeld3
import Derived.Deep.QuietTactic
import Derived.BigQuiet
import Derived.Deep.Cut
import Derived.Deep.CutBlock
import Derived.Deep.DeepCutAuto
import Derived.Deep.RegionLaw
set_option linter.unusedVariables false
namespace Go.Proofs.Ytffipjhpoaalhaa
open Go.ChangeShapes Go.WideShapes Go.ChangeAt Go.RowKit Csv Bk Mon

def RPostOut (L : List PI) (p : PI) (r : Nat) (w : World) (e : Ending) (w' : World) : Prop :=
  e = .returned (.int .i64 (postI L p).1) ∧ RBk w' r (postI L p).2 ∧ w'.os = w.os ∧ w'.tape = w.tape ∧ w'.output = w.output ∧ w.heap.size ≤ w'.heap.size ∧ (∀ i, i < w.heap.size → i ≠ r → w'.heap[i]? = w.heap[i]?) ∧ (w'.heap[r]? = w.heap[r]? ∨ ∃ v, w'.heap[r]? = some (.cells #[v] tRb (0, 0)) ∧ ∀ g, v.ownBlock = some g → w.heap.size ≤ g)
theorem RPostOut.same {L : List PI} {p : PI} {r : Nat} {w w' : World} {q : Int} (h : RBk w r L) (k : Keeps w w') (e : postI L p = (q, L)) : RPostOut L p r w (.returned (.int .i64 q)) w' := by
  unfold RPostOut
  rw [e]
  exact ⟨rfl, h.keeps k, k.os, k.tape, k.output, k.size, fun i hi _ => k.block i hi, Or.inl (k.block r (by obtain ⟨v, hv, _⟩ := h; exact (Array.getElem?_eq_some_iff.1 hv).1))⟩

theorem RPostOut.stored {L M : List PI} {p : PI} {r B : Nat} {w W : World} {q : Int} {u0 v : Value} (k : Keeps w W) (h : W.heap[r]? = some (.cells #[u0] tRb (0, 0))) (ho : postK.Own B W v M) (hB : r < B) (hw : w.heap.size ≤ B) (e : postI L p = (q, M)) : RPostOut L p r w (.returned (.int .i64 q)) (W.setCell ⟨r, 0, none⟩ v) := by
  have off : ∀ i, i ≠ r → (W.setCell ⟨r, 0, none⟩ v).heap[i]? = W.heap[i]? := fun i hi => by
    simp [World.setCell, Array.getElem?_modify, Ne.symm hi]
  unfold RPostOut
  rw [e]
  refine ⟨rfl, ⟨v, by simp [World.setCell, h, Array.getElem?_modify], ?_⟩, k.os, k.tape, k.output, by simpa [World.setCell] using k.size, fun i hi hr => (off i hr).trans (k.block i hi), Or.inr ⟨v, by simp [World.setCell, h, Array.getElem?_modify], fun g hg => Nat.le_trans hw (Nat.le_trans (Nat.le_refl _) (postK.own_lt ho g hg).1)⟩⟩
  exact postK.own_local (postK.own_base ho fun g _ => Nat.zero_le _) fun g hg => off g (by have := (postK.own_lt ho g hg).1; omega)

theorem bbel_drew (w : World) : Below w.heap.size w w.drew := ⟨rfl, rfl, rfl, Nat.le_refl _, fun _ _ => rfl⟩
theorem bbel_alloc (w : World) (X : Obj) : Below w.heap.size w (w.drew.alloc X) := (bbel_drew w).alloc (Nat.le_refl _) X
theorem psrc_one {w : World} {b : Nat} {p : PI} (h : w.heap[b]? = some (.cells #[.string p.s, .int .i64 p.ord, .int .i64 p.deb, .int .i64 p.cre, .int .i64 p.amt] tPo (0, 0))) : postK.Src w (.slice (some ⟨b, 0, none⟩) 1 1) [p] := by
  refine ⟨_, 1, rfl, (fun e => by cases e), fun a ha j u hu => ?_⟩
  cases ha
  rw [addr_of, Joins.cell_of_block h j]
  have e : postK.row [p] = p.vals := by unfold RowK.row; simp [postK]
  rw [e] at hu
  rw [← hu]
  simp [PI.vals]
theorem str_ne {a b : ByteArray} (h : a ≠ b) : (a.toList == b.toList) = false := by
  rw [ByteArray.toList_eq, ByteArray.toList_eq, beq_eq_false_iff_ne]
  exact fun e => h (bytes_inj e)
theorem post_there {L : List PI} {p : PI} {q : PM} (hm : mayM p.pm = true) (hi : idOf (pms L) p.pm.id = some q) : postI L p = (if q = p.pm then 0 else 91, L) := by
  unfold postI postM; simp [hm, hi]
theorem post_new {L : List PI} {p : PI} (hm : mayM p.pm = true) (hi : idOf (pms L) p.pm.id = none) : postI L p = (if fitsP (pms L) p.pm = true then 0 else 90, if fitsP (pms L) p.pm = true then L ++ [p] else L) := by
  unfold postI postM
  by_cases hf : fitsP (pms L) p.pm = true <;> simp [hm, hi, hf]
set_option maxRecDepth 100000 in
set_option maxHeartbeats 8000000 in
theorem rbpost_any (r : Nat) (L : List PI) (p : PI) (w : World) (h : RBk w r L) (hg : GoodL L) (hp : p.Good) (hok : OkL (pms L)) (hl : L.length ≤ 900) :
    Calls Try.prog 12 #[.pointer (some ⟨r, 0, none⟩), p.val] w (RPostOut L p r w) := by
  have HB := Lib.hid h
  have HM := Lib.hid fun W => rbmay_any p W
  obtain ⟨w0, hw0⟩ : ∃ w0, w.alloc (.cells #[.string p.s, .int .i64 p.ord, .int .i64 p.deb, .int .i64 p.cre, .int .i64 p.amt] tPo) = w0 := ⟨_, rfl⟩
  have k0 : Keeps w w0 := hw0 ▸ keeps_box w _
  have b0 : w0.heap[w.heap.size]? = some (.cells #[.string p.s, .int .i64 p.ord, .int .i64 p.deb, .int .i64 p.cre, .int .i64 p.amt] tPo (0, 0)) := by rw [← hw0]; exact heap_alloc_new _ _
  have B0 := Lib.hid b0
  have K0 := Lib.hid k0
  have c0 := Joins.cell_of_block b0 0
  have c1 := Joins.cell_of_block b0 1
  have c2 := Joins.cell_of_block b0 2
  have c3 := Joins.cell_of_block b0 3
  have c4 := Joins.cell_of_block b0 4
  simp only [List.getElem?_toArray, List.getElem?_cons_zero, List.getElem?_cons_succ] at c0 c1 c2 c3 c4
  clear k0 b0 h
  cases hm : mayM p.pm with
  | false =>
    have E : Hid (postI L p = (2, L)) := Lib.hid (by unfold postI postM; simp [hm])
    rw [hm] at HM
    unfold PI.val at HM ⊢
    go_enter Try.func12, Try.ntmps12
    go_wp2_with fail
    refine (HM.out _).mono ?_
    rintro e w1 ⟨rfl, k1⟩
    have K1 := Lib.hid k1
    clear k1
    go_wp2
    go_ret
    exact RPostOut.same HB.out (K0.out.trans K1.out) E.out
  | true =>
    rw [hm] at HM
    unfold PI.val at HM ⊢
    go_enter Try.func12, Try.ntmps12
    go_wp2_with fail
    refine (HM.out _).mono ?_
    rintro e w1 ⟨rfl, k1⟩
    have K1 := Lib.hid (K0.out.trans k1)
    have K01 := Lib.hid k1
    clear k1
    obtain ⟨v, hv, hrow⟩ := HB.out
    obtain ⟨pv, cv, rfl⟩ := postK.own_shape hrow
    obtain ⟨N, hN⟩ : ∃ N, L.length = N := ⟨_, rfl⟩
    have HN := Lib.hid hN
    have HROW := Lib.hid hrow
    have HV := Lib.hid hv
    rw [hN] at hl hv
    have HC : Hid (∀ W, Keeps w1 W → W.cell? ⟨w.heap.size, 0, none⟩ = some (.string p.s) ∧ W.cell? ⟨w.heap.size, 1, none⟩ = some (.int .i64 p.ord) ∧ W.cell? ⟨w.heap.size, 2, none⟩ = some (.int .i64 p.deb) ∧ W.cell? ⟨w.heap.size, 3, none⟩ = some (.int .i64 p.cre) ∧ W.cell? ⟨w.heap.size, 4, none⟩ = some (.int .i64 p.amt)) := Lib.hid fun W kW => by
      have k := Keeps.trans K01.out kW
      exact ⟨cell_keeps k c0, cell_keeps k c1, cell_keeps k c2, cell_keeps k c3, cell_keeps k c4⟩
    have HRC : Hid (∀ W, Keeps w1 W → W.cell? ⟨r, 0, none⟩ = some (.slice pv N cv)) := Lib.hid fun W kW => by
      have := Joins.cell_of_block (((Keeps.trans K1.out kW).block r (Array.getElem?_eq_some_iff.1 HV.out).1).trans HV.out) 0
      rw [← HN.out]
      simpa using this
    have HPO : Hid (PostsAt w (.slice pv L.length cv) L) := Lib.hid (own_posts HROW.out hg (by omega))
    have HGL := Lib.hid hg
    have HOK := Lib.hid hok
    have HPG := Lib.hid hp
    clear hrow hN hv c0 c1 c2 c3 c4 hg hok hp
    have HMAY := Lib.hid hm
    clear hm
    go_wp2
    go_loopw [5] (fun vi wr => ∃ k : Nat, k ≤ N ∧ vi = .int .i64 (k : Int) ∧ NoId L p.s k ∧ Keeps w1 wr) (fun vi _ => N - (intOf vi).toNat)
    case atStart => exact ⟨0, by omega, rfl, (fun j x hj => by omega), Keeps.refl _⟩
    case round =>
      obtain ⟨k, hk, rfl, hno, hkr⟩ := hrel
      have HKR := Lib.hid hkr
      have HNO := Lib.hid hno
      have hrc := HRC.out wr hkr
      obtain ⟨d0, d1, d2, d3, d4⟩ := HC.out wr hkr
      clear hkr hno
      by_cases hlt : k < N
      · obtain ⟨x, hx⟩ : ∃ x, L[k]? = some x := ⟨_, List.getElem?_eq_getElem (by have := HN.out; omega)⟩
        obtain ⟨p', c', e', _, _, hc⟩ := HPO.out
        simp only [Value.slice.injEq] at e'
        obtain ⟨rfl, _, rfl⟩ := e'
        obtain ⟨_, ad, rfl, q⟩ := hc k x hx
        obtain ⟨q0, q1, q2, q3, q4⟩ := q.keeps (Keeps.trans K1.out HKR.out)
        have HX := Lib.hid hx
        have hi1 : (k : Int) < (N : Int) := by omega
        have hi2 : (k : Int) ≤ (N : Int) := by omega
        have hi0 : (0 : Int) ≤ (k : Int) := by omega
        obtain ⟨xs, xo, xd, xc, xm⟩ := x
        dsimp only at q0 q1 q2 q3 q4
        clear hc q hx
        by_cases hs : xs = p.s
        · subst hs
          have HI := Lib.hid (HNO.out.some HX.out rfl)
          have t1 : decide (p.s = p.s) = true := decide_eq_true rfl
          go_wp2
          go_quiet (fail)
          go_wp2
          by_cases he : xo = p.ord ∧ xd = p.deb ∧ xc = p.cre ∧ xm = p.amt
          · obtain ⟨rfl, rfl, rfl, rfl⟩ := he
            have E : Hid (postI L p = (0, L)) := Lib.hid ((post_there HMAY.out HI.out).trans (by rw [if_pos rfl]))
            go_quiet (fail)
            go_wp2
            go_ret
            exact RPostOut.same HB.out ((Keeps.trans K1.out HKR.out).trans ⟨rfl, rfl, rfl, Nat.le_refl _, fun _ _ => rfl⟩) E.out
          · have E : Hid (postI L p = (91, L)) := Lib.hid (by
              have : ¬ PI.pm ⟨p.s, xo, xd, xc, xm⟩ = p.pm := fun e => he (by simpa [PI.pm] using e)
              exact (post_there HMAY.out HI.out).trans (by rw [if_neg this]))
            by_cases e1 : xo = p.ord
            · by_cases e2 : xd = p.deb
              · by_cases e3 : xc = p.cre
                · have e4 : (xm == p.amt) = false := by
                    have : xm ≠ p.amt := fun e => he ⟨e1, e2, e3, e⟩
                    simpa using this
                  subst e1 e2 e3
                  clear he
                  go_quiet (fail)
                  go_wp2
                  go_ret
                  exact RPostOut.same HB.out ((Keeps.trans K1.out HKR.out).trans ⟨rfl, rfl, rfl, Nat.le_refl _, fun _ _ => rfl⟩) E.out
                · have e4 : (xc == p.cre) = false := by simpa using e3
                  subst e1 e2
                  clear he e3
                  go_quiet (fail)
                  go_wp2
                  go_ret
                  exact RPostOut.same HB.out ((Keeps.trans K1.out HKR.out).trans ⟨rfl, rfl, rfl, Nat.le_refl _, fun _ _ => rfl⟩) E.out
              · have e4 : (xd == p.deb) = false := by simpa using e2
                subst e1
                clear he e2
                go_quiet (fail)
                go_wp2
                go_ret
                exact RPostOut.same HB.out ((Keeps.trans K1.out HKR.out).trans ⟨rfl, rfl, rfl, Nat.le_refl _, fun _ _ => rfl⟩) E.out
            · have e4 : (xo == p.ord) = false := by simpa using e1
              clear he e1
              go_quiet (fail)
              go_wp2
              go_ret
              exact RPostOut.same HB.out ((Keeps.trans K1.out HKR.out).trans ⟨rfl, rfl, rfl, Nat.le_refl _, fun _ _ => rfl⟩) E.out
        · have HN2 : Hid (NoId L p.s (k + 1)) := Lib.hid fun j y hj hy => by
            by_cases hjk : j = k
            · subst hjk
              rw [HX.out] at hy
              cases hy
              exact hs
            · exact HNO.out j y (by omega) hy
          have t1 : decide (xs = p.s) = false := decide_eq_false hs
          have t2 := str_ne hs
          clear hs t1
          go_wp2
          go_quiet (fail)
          go_wp2
          exact ⟨⟨k + 1, by omega, by go_num, HN2.out, HKR.out.trans ⟨rfl, rfl, rfl, Nat.le_refl _, fun _ _ => rfl⟩⟩, by simp [intOf]; omega⟩
      · obtain rfl : k = N := by omega
        have hz : ¬ ((k : Int) < (k : Int)) := by omega
        have HI := Lib.hid (show idOf (pms L) p.pm.id = none from NoId.none (by have := HNO.out; rwa [← HN.out] at this))
        have KR := Lib.hid (K1.out.trans HKR.out)
        have SRC : Hid (postK.Src wr (.slice pv k cv) L) := Lib.hid (by
          have := RowK.Src.keeps postK (postK.own_src HROW.out) KR.out
          rwa [HN.out] at this)
        have D0 := Lib.hid d0
        have D1 := Lib.hid d1
        have D2 := Lib.hid d2
        have D3 := Lib.hid d3
        have D4 := Lib.hid d4
        have RC := Lib.hid hrc
        have HL1 := Lib.hid (show L.length ≤ 100000 by have := HN.out; omega)
        have HL2 := Lib.hid (show L.length + [p].length = k + 1 by have := HN.out; simp; omega)
        have HL3 := Lib.hid (show L.length + [p].length ≤ 100000 by have := HN.out; simp; omega)
        have hr1 : r < wr.heap.size := block_lt_of_cell RC.out
        have hr2 : r ≠ wr.heap.size := Nat.ne_of_lt hr1
        have hq1 : w.heap.size < wr.heap.size := block_lt_of_cell D0.out
        have hq2 : w.heap.size ≠ wr.heap.size := Nat.ne_of_lt hq1
        clear hk hlt
        go_wp2
        go_cut [6] from 47 to 54 (fun s6 wx => ∃ p6 c6, s6 = .slice p6 (k + 1) c6 ∧ postK.Own wr.heap.size wx (.slice p6 (k + 1) c6) (L ++ [p]) ∧ Keeps wr wx)
        case first =>
          go_region_law (first
            | (refine stepCopyK postK rfl _ _ rfl rfl wr ?c1 _ L k HN.out rfl rfl SRC.out HL1.out ?_
               case c1 => first | exact bbel_drew wr | exact bbel_alloc wr _
               intro p1 cp1 W1 q1 k1 z1
               have e0 := cell_keeps k1 D0.out
               have e1 := cell_keeps k1 D1.out
               have e2 := cell_keeps k1 D2.out
               have e3 := cell_keeps k1 D3.out
               have e4 := cell_keeps k1 D4.out)
            | (refine stepAppK postK rfl _ _ rfl rfl wr W1 k1 ?c1 _ _ L [p] (k + 1) HL2.out rfl rfl q1 ?c2 HL3.out ?_
               case c1 => first | exact Below.refl _ _ | exact (Below.refl _ _).alloc (Nat.le_refl _) _
               case c2 => first | exact psrc_one (heap_alloc_new _ _) | exact psrc_one ((z1 _ (by simp)).trans (heap_alloc_new _ _))
               intro p2 cp2 W2 q2 k2))
          all_goals (clear q1 k1 z1 e0 e1 e2 e3 e4; go_wp2; go_meet; exact ⟨_, _, rfl, q2, k2⟩)
        case rest =>
          obtain ⟨p6, c6, rfl, hO, hKc⟩ := hcut
          have KC := Lib.hid (HKR.out.trans hKc)
          have KC1 := Lib.hid (Keeps.trans K1.out (HKR.out.trans hKc))
          have HO := Lib.hid hO
          have HS : Hid (∀ W a o, Keeps wc W → Calls Try.prog 26 #[.slice p6 (k + 1) c6, .int .i64 a, .int .i64 o] W fun e w' => ∃ n, e = .returned (.tuple #[.int .i64 n, .bool (in64 (bal (pms L ++ [p.pm]) a o))]) ∧ Keeps W w') := Lib.hid fun W a o kW => by
            have hgl : GoodL (L ++ [p]) := by
              intro x hx
              rcases List.mem_append.1 hx with hx | hx
              · exact HGL.out x hx
              · rw [List.mem_singleton] at hx; subst hx; exact HPG.out
            have hlen : (L ++ [p]).length = k + 1 := by rw [List.length_append]; exact HL2.out
            have ho : postK.Own wr.heap.size W (.slice p6 (k + 1) c6) (L ++ [p]) := postK.own_keeps HO.out kW
            refine (rsum_any _ (L ++ [p]) a o W (own_posts ho hgl (by omega)) (by omega) ?_).mono ?_
            · intro j hj
              have e : (pms (L ++ [p])).take j = (pms L).take j := by
                unfold pms
                rw [List.map_append, List.take_append_of_le_length (by rw [List.length_map]; have := HN.out; omega)]
              rw [e]
              exact HOK.out.fit j a o
            · rintro e w' ⟨n, b, rfl, ⟨h1, h2, h3⟩, kk⟩
              refine ⟨n, ?_, kk⟩
              have e2 : (pms (L ++ [p])).take (L ++ [p]).length = pms L ++ [p.pm] := by
                unfold pms
                rw [List.take_of_length_le (by rw [List.length_map]; omega), List.map_append]; rfl
              rw [h1, e2]
          obtain ⟨f1, hf1⟩ : ∃ b, in64 (bal (pms L ++ [p.pm]) p.deb p.ord) = b := ⟨_, rfl⟩
          obtain ⟨f2, hf2⟩ : ∃ b, in64 (bal (pms L ++ [p.pm]) p.cre p.ord) = b := ⟨_, rfl⟩
          obtain ⟨f3, hf3⟩ : ∃ b, in64 (bal (pms L ++ [p.pm]) p.deb 0) = b := ⟨_, rfl⟩
          obtain ⟨f4, hf4⟩ : ∃ b, in64 (bal (pms L ++ [p.pm]) p.cre 0) = b := ⟨_, rfl⟩
          have HF : Hid (fitsP (pms L) p.pm = (f1 && f2 && f3 && f4)) := Lib.hid (by subst hf1 hf2 hf3 hf4; rfl)
          have HF1 := Lib.hid hf1
          have HF2 := Lib.hid hf2
          have HF3 := Lib.hid hf3
          have HF4 := Lib.hid hf4
          obtain ⟨g0, g1, g2, g3, g4⟩ := HC.out wc KC.out
          clear hO hKc hf1 hf2 hf3 hf4 hr1 hr2 hq1 hq2 hrc d0 d1 d2 d3 d4 D0 D1 D2 D3 D4 RC SRC
          go_wp2_with fail
          refine (HS.out _ _ _ (Keeps.refl _)).mono ?_
          rw [HF1.out]
          rintro e w2 ⟨n1, rfl, k2⟩
          have KW2 := Lib.hid k2
          obtain ⟨g10, g11, g12, g13, g14⟩ := HC.out w2 (KC.out.trans k2)
          clear k2 g0 g1 g2 g3 g4
          go_wp2_with fail
          refine (HS.out _ _ _ KW2.out).mono ?_
          rw [HF2.out]
          rintro e w3 ⟨n2, rfl, k3⟩
          have KW3 := Lib.hid (KW2.out.trans k3)
          obtain ⟨g20, g21, g22, g23, g24⟩ := HC.out w3 (KC.out.trans KW3.out)
          clear k3 g10 g11 g12 g13 g14
          go_wp2_with fail
          refine (HS.out _ _ _ KW3.out).mono ?_
          rw [HF3.out]
          rintro e w4 ⟨n3, rfl, k4⟩
          have KW4 := Lib.hid (KW3.out.trans k4)
          obtain ⟨g30, g31, g32, g33, g34⟩ := HC.out w4 (KC.out.trans KW4.out)
          clear k4 g20 g21 g22 g23 g24
          go_wp2_with fail
          refine (HS.out _ _ _ KW4.out).mono ?_
          rw [HF4.out]
          rintro e w5 ⟨n4, rfl, k5⟩
          have KW5 := Lib.hid (KC1.out.trans (KW4.out.trans k5))
          have g5 := HRC.out w5 (KC.out.trans (KW4.out.trans k5))
          have HO5 : Hid (postK.Own wr.heap.size w5 (.slice p6 (k + 1) c6) (L ++ [p])) := Lib.hid (postK.own_keeps HO.out (KW4.out.trans k5))
          clear k5 g30 g31 g32 g33 g34
          have HW5 : Hid (w5.heap[r]? = some (.cells #[.slice pv k cv] tRb (0, 0))) := Lib.hid (by
            have := ((KW5.out.block r (Array.getElem?_eq_some_iff.1 HV.out).1).trans HV.out)
            rwa [HN.out] at this)
          have hz5 := Joins.unfrozen_of_block HW5.out 0
          have HRW : Hid (r < wr.heap.size) := Lib.hid (Nat.lt_of_lt_of_le (Array.getElem?_eq_some_iff.1 HV.out).1 KR.out.size)
          have HP := Lib.hid (post_new HMAY.out HI.out)
          have E90 : ∀ b : Bool, fitsP (pms L) p.pm = b → b = false → Hid (postI L p = (90, L)) := fun b h1 h2 => Lib.hid (by rw [HP.out, h1, h2]; rfl)
          have hf := HF.out
          cases f1 with
          | false =>
            have E := E90 _ hf rfl
            clear E90 hf hz5
            go_wp2
            go_ret
            exact RPostOut.same HB.out KW5.out E.out
          | true =>
            cases f2 with
            | false =>
              have E := E90 _ hf rfl
              clear E90 hf hz5
              go_wp2
              go_ret
              exact RPostOut.same HB.out KW5.out E.out
            | true =>
              cases f3 with
              | false =>
                have E := E90 _ hf rfl
                clear E90 hf hz5
                go_wp2
                go_ret
                exact RPostOut.same HB.out KW5.out E.out
              | true =>
                cases f4 with
                | false =>
                  have E := E90 _ hf rfl
                  clear E90 hf hz5
                  go_wp2
                  go_ret
                  exact RPostOut.same HB.out KW5.out E.out
                | true =>
                  have E : Hid (postI L p = (0, L ++ [p])) := Lib.hid (by rw [HP.out, hf]; rfl)
                  clear E90 hf
                  go_wp2
                  go_ret
                  exact RPostOut.stored KW5.out HW5.out HO5.out HRW.out KR.out.size E.out
end Go.Proofs.Ytffipjhpoaalhaa
