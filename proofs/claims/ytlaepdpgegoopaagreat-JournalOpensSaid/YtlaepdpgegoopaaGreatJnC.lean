
/- clean: of a disk's files one is left, cut to its records, and synced. unwritten, begin: the file 0 is made. The contract of Open. The program's journal: all contracts of its calls. -/
import Derived.Test.YtlaepdpgegoopaaGreatJnApp
import Derived.LoopN
import Derived.Deep.Cut
import Derived.Deep.CutBlock
import Derived.Deep.DeepCutAuto
import Derived.Test.YtlaepdpgegoopaaGreatJnNew
import Derived.Test.YtlaepdpgegoopaaGreatJnMath
set_option linter.unusedVariables false
namespace Go.Proofs.YtlaepdpgegoopaaGreat
open Go.ChangeShapes Go.WideShapes Go.ChangeAt Go.RowKit Go.Maps Csv Dk Jn

def preS (f : FileM) : List StepM := if wholeE f.data < f.data.length then [.trunc f.n (wholeE f.data : Int)] else []
def cleanS (D : DiskM) (f : FileM) : List StepM := preS f ++ [.sync f.n] ++ ((numsF D.files).filter fun n => n != f.n).map .del
theorem clean_run {D : DiskM} {k : Nat} {f : FileM} (hr : Rising D.files) (hk : D.files[k]? = some f) : runS (0, D) (cleanS D f) = keepD D k f := by
  unfold cleanS keepD
  rw [runS_app, runS_app, nums_filter hr hk, ← delsD_run]
  congr 1
  unfold preS
  split <;> rfl

set_option maxRecDepth 100000 in
set_option maxHeartbeats 8000000 in
theorem jclean_any (d : Nat) (D : DiskM) (G : List Nat) (k : Nat) (f : FileM) (v : Value) (w : World) (h : IsDisk w d D G) (hk : D.files[k]? = some f) :
    Calls Tryz.prog 33 #[ptrV d, ctOf f v] w fun e w' => e = .returned (.int .i64 (keepD D k f).1) ∧ Goes w w' G d (keepD D k f).2 := by
  have ho := h.okay
  have hf : f ∈ D.files := List.mem_of_getElem? hk
  have hn := ho.nums f hf
  have hI : I64 f.n := by unfold I64 top; omega
  have hE := wholeE_le f.data
  have hlen : f.data.length ≤ 1048576 := by have := used_mem hf; have := ho.room; have := ho.cap; omega
  have hGl := h.lt
  have HD := Lib.hid h
  have HRUN := Lib.hid (clean_run ho.rising hk)
  have hLl : (numsF D.files).length = D.files.length := by simp [numsF]
  have hmany := ho.many
  have HF : Hid (∀ W, Keeps w W → Calls Tryz.prog 35 #[ptrV d] W fun e w' => ∃ v, e = .returned v ∧ w'.ownsRow W.heap.size tI 1 v (numsF D.files).length (ivs (numsF D.files)) ∧ Keeps W w') := Lib.hid fun W kW => by
    obtain ⟨m, L, kk, hd, _⟩ := h.keeps kW
    rw [hLl]
    exact files_any d m L kk D W hd
  have HNUM : Hid (∀ x ∈ numsF D.files, I64 x) := Lib.hid fun x hx => by
    unfold numsF at hx
    obtain ⟨g, hg, rfl⟩ := List.mem_map.1 hx
    have := ho.nums g hg
    unfold I64 top; omega
  obtain ⟨iS, hiS, hS0, hS1, hS2⟩ := info_parts info_step
  have HIS := Lib.hid hiS
  have HZ := Lib.hid (show iS.zero = some .nilFunc ∧ iS.size = 1 ∧ iS.bytes = 8 from ⟨hS0, hS1, hS2⟩)
  obtain ⟨n, hn'⟩ : ∃ n, f.n = n := ⟨_, rfl⟩
  obtain ⟨E, hE'⟩ : ∃ E, wholeE f.data = E := ⟨_, rfl⟩
  obtain ⟨N, hN'⟩ : ∃ N, f.data.length = N := ⟨_, rfl⟩
  obtain ⟨L, hL⟩ : ∃ L, numsF D.files = L := ⟨_, rfl⟩
  have hEN : E ≤ N := hE' ▸ hN' ▸ hE
  have hN9 : N ≤ 1048576 := hN' ▸ hlen
  have HPRE : Hid (preS f = if E < N then [.trunc n (E : Int)] else []) := Lib.hid (by unfold preS; rw [hn', hE', hN'])
  have HCL : Hid (cleanS D f = preS f ++ [.sync n] ++ (L.filter fun x => x != n).map .del) := Lib.hid (by unfold cleanS; rw [hn', hL])
  rw [hL] at HF HNUM hLl
  have hLm : L.length ≤ 100 := by omega
  have HI := Lib.hid (show I64 n from hn' ▸ hI)
  have HOFF : Hid (∀ W, Keeps w W → ∀ a, W.heap.size ≤ a → a ∉ G) := Lib.hid fun W kW a ha hm => by have := hGl a hm; have := kW.size; omega
  unfold ctOf
  rw [hn', hE', hN'] at *
  clear hE hlen h hk ho hf hn hI hLl hmany hiS hS0 hS1 hS2 hn' hE' hN' hL
  unfold ptrV at *
  go_enter Tryz.func33, Tryz.ntmps33
  go_upto_if 12 with (fail)
  obtain ⟨w0, hw0⟩ : ∃ w0, w.alloc (.cells #[.int .i64 n, v, .int .i64 (E : Int), .int .i64 (N : Int)] tCt) = w0 := ⟨_, rfl⟩
  have k0 : Keeps w w0 := hw0 ▸ keeps_lit w _
  have ct0 : CtAt w0 w.heap.size (.int .i64 n) v (.int .i64 (E : Int)) (.int .i64 (N : Int)) := hw0 ▸ heap_lit rfl
  rw [hw0]
  have K0 := Lib.hid k0
  have CT0 := Lib.hid ct0
  clear hw0 k0 ct0
  go_cut [5] from 12 to 20 (fun s5 wc => RowS G w0.heap.size wc s5 (preS f) ∧ Keeps w0 wc)
  case first =>
    obtain ⟨x0, _, x2, x3, _⟩ := CT0.out.cells
    have hK0 := K0.out.size
    by_cases hlt : E < N
    · have t1 : decide (E < N) = true := decide_eq_true hlt
      have HP := Lib.hid (HPRE.out.trans (if_pos hlt))
      have hIE : I64 (E : Int) := by unfold I64 top; omega
      have HIE := Lib.hid hIE
      clear hIE
      go_wp2_with (first
        | (go_at_call 62; refine (mkTrunc _ _ _).mono ?_; rintro e w' ⟨rfl, rfl⟩)
        | (at_builtin; refine wpList_append_own_at _ rfl _ _ tSs rfl w0.heap.size tStp iS .nilFunc 1 8 Tryz.underlying104 HIS.out HZ.out.1 HZ.out.2.1 HZ.out.2.2 rfl (by decide) _ _ _ rfl (World.ownsRow_nil _ _ _ _) ⟨w0.heap.size + 1 + 1, 0, none⟩ 1 1 [.func (.func 80) #[] #[ptrV w0.heap.size, ptrV (w0.heap.size + 1)]] rfl rfl ?c1 ?c2 ?c3 ?c4 ?c5 ?_))
      case c1 =>
        intro j u hu
        rcases j with _ | j
        · cases hu
          exact Joins.cell_of_block (heap_lit (by simp)) 0
        · simp at hu
      case c2 => intro u hu; simp at hu; subst hu; rfl
      case c3 => unfold maxLen; omega
      case c4 => omega
      case c5 => simp; omega
      intro v1 w1 hown1 hgrow1 _ _
      obtain ⟨p1, q1, rfl⟩ := own_shape hown1
      have hk1 := own_grown_keeps (w0 := w0) (World.ownsRow_nil w0 w0.heap.size tStp 1) (Keeps.refl _) (Nat.le_refl _) (keeps3 w0 _ _ _) hgrow1
      have hrow : RowS G w0.heap.size w1 (.slice p1 1 q1) (preS f) := by
        rw [HP.out]
        refine RowS.more (l := []) (us := []) (w := w0) (v := .slice none 0 0) (World.ownsRow_nil _ _ _ _) rfl (fun j x hx => by simp at hx) (keeps3 w0 _ _ _) (m := [.trunc n (E : Int)]) (fun j x hx => ?_) rfl hown1 hgrow1
        rcases j with _ | j
        · cases hx
          refine ⟨_, rfl, _, _, rfl, HOFF.out _ K0.out _ (Nat.le_refl _), HOFF.out _ K0.out _ (by omega), ?_, ?_, HI.out, HIE.out⟩
          · unfold BoxI; rw [heap_past (by simp; omega), heap_past (by simp), heap_lit rfl]
          · unfold BoxI; rw [heap_past (by simp), heap_lit (by simp)]
        · simp at hx
      have HROW := Lib.hid hrow
      have HK1 := Lib.hid hk1
      clear hown1 hgrow1 hk1 hrow
      go_wp2
      go_meet
      exact ⟨HROW.out, HK1.out⟩
    · have t1 : decide (E < N) = false := decide_eq_false hlt
      have HP := Lib.hid (HPRE.out.trans (if_neg hlt))
      go_wp2
      go_meet
      exact ⟨by rw [HP.out]; exact RowS.nil _ _ _, Keeps.refl _⟩
  case rest =>
    obtain ⟨hrow, hkc⟩ := hcut
    obtain ⟨us0, hu1, hu2⟩ := hrow
    have HU2 := Lib.hid hu2
    have HU1 := Lib.hid hu1
    obtain ⟨p5, q5, rfl⟩ := own_shape hu1
    have ct1 := CT0.out.keeps hkc
    obtain ⟨x0, _⟩ := ct1.cells
    have KC := Lib.hid (Keeps.trans K0.out hkc)
    have KC0 := Lib.hid hkc
    have hKC := KC0.out.size
    obtain ⟨M0, hM0⟩ : ∃ M, (preS f).length = M := ⟨_, rfl⟩
    have hM1 : M0 ≤ 1 := by rw [← hM0, HPRE.out]; split <;> simp
    have HM0 := Lib.hid hM0
    have CT1 := Lib.hid ct1
    rw [hM0] at hu1
    have HU1' := Lib.hid hu1
    rw [hM0]
    clear hu1 hu2 hM0 hkc ct1
    go_wp2_with (first
      | (go_at_call 50; refine (mkSync _ _).mono ?_; rintro e w' ⟨rfl, rfl⟩)
      | (at_builtin; refine wpList_append_own_at _ rfl _ _ tSs rfl w0.heap.size tStp iS .nilFunc 1 8 Tryz.underlying104 HIS.out HZ.out.1 HZ.out.2.1 HZ.out.2.2 rfl (by decide) _ _ _ rfl ((HU1'.out.alloc _).alloc _) ⟨wc.heap.size + 1, 0, none⟩ 1 1 [fSync wc.heap.size] rfl rfl ?d1 ?d2 ?d3 ?d4 ?d5 ?_)
      | fail)
    case d1 =>
      intro j u hu
      rcases j with _ | j
      · cases hu
        exact Joins.cell_of_block (heap_lit (by simp)) 0
      · simp at hu
    case d2 => intro u hu; simp at hu; subst hu; rfl
    case d3 => unfold maxLen; omega
    case d4 => omega
    case d5 => simp; omega
    intro v1 w1 hown1 hgrow1 _ _
    obtain ⟨p1, q1, rfl⟩ := own_shape hown1
    have hk1 := own_grown_keeps (w0 := w0) HU1'.out KC0.out (Nat.le_refl _) (keeps2 wc _ _) hgrow1
    have hrow : RowS G w0.heap.size w1 (.slice p1 (M0 + 1) q1) (preS f ++ [.sync n]) := by
      refine RowS.more (l := preS f) (w := wc) HU1'.out HM0.out HU2.out (keeps2 wc _ _) (m := [.sync n]) (vs := [fSync wc.heap.size]) (fun j x hx => ?_) rfl hown1 hgrow1
      rcases j with _ | j
      · cases hx
        refine ⟨_, rfl, _, rfl, HOFF.out _ KC.out _ (Nat.le_refl _), ?_, HI.out⟩
        unfold BoxI; rw [heap_past (by simp), heap_lit rfl]
      · simp at hx
    have HROW := Lib.hid hrow
    have HK1 := Lib.hid hk1
    have HCT := Lib.hid (CT0.out.keeps HK1.out)
    clear hown1 hgrow1 hk1 hrow HU1 HU2 HU1' x0
    go_wp2_with fail
    refine (HF.out _ (Keeps.trans K0.out HK1.out)).mono ?_
    rintro e w2 ⟨vL, rfl, hrowL, hk2⟩
    have hI2 := own_ints hrowL
    obtain ⟨pL, cL, rfl, _, _⟩ := hI2
    obtain ⟨NL, hNL⟩ : ∃ NL, L.length = NL := ⟨_, rfl⟩
    have HNL := Lib.hid hNL
    have HROWL := Lib.hid hrowL
    have HK2 := Lib.hid (Keeps.trans HK1.out hk2)
    have HR2 := Lib.hid (HROW.out.keeps hk2)
    have hw2 := hk2.size
    have hw1 := HK1.out.size
    rw [hNL] at hLm ⊢
    clear hrowL hNL hk2
    go_wp2
    go_loopw [5, 30] (fun v5 vi wr => ∃ q : Nat, q ≤ NL ∧ vi = .int .i64 (q : Int) ∧ RowS G w0.heap.size wr v5 (preS f ++ [.sync n] ++ ((L.take q).filter fun x => x != n).map .del) ∧ Keeps w0 wr ∧ wr.ownsRow w1.heap.size tI 1 (.slice pL L.length cL) L.length (ivs L)) (fun _ vi _ => NL - (intOf vi).toNat)
    case atStart => exact ⟨0, by omega, rfl, by simpa using HR2.out, HK2.out, HROWL.out⟩
    case round =>
      obtain ⟨q, hq, rfl, ⟨us, hu1, hu2⟩, hkr, hints⟩ := hrel
      have hgl2 : (preS f ++ [StepM.sync n] ++ ((L.take q).filter fun x => x != n).map StepM.del).length ≤ 1000 := by
        have h1 := HPRE.out
        have h2 : (preS f).length ≤ 1 := by rw [h1]; split <;> simp
        have h3 : (((L.take q).filter fun x => x != n).map StepM.del).length ≤ q := by
          rw [List.length_map]
          refine Nat.le_trans (List.length_filter_le _ _) ?_
          rw [List.length_take]; omega
        rw [List.length_append, List.length_append]
        simp only [List.length_singleton]
        omega
      obtain ⟨m, hm⟩ : ∃ m, (preS f ++ [StepM.sync n] ++ ((L.take q).filter fun x => x != n).map StepM.del).length = m := ⟨_, rfl⟩
      rw [hm] at hu1 hgl2
      obtain ⟨pv, cv, rfl⟩ := own_shape hu1
      have HM := Lib.hid hm
      have HU1 := Lib.hid hu1
      have HU2 := Lib.hid hu2
      have HKR := Lib.hid hkr
      have HIN := Lib.hid hints
      have KW := Lib.hid (Keeps.trans K0.out hkr)
      obtain ⟨x0, _⟩ := (CT0.out.keeps hkr).cells
      have hwr := hkr.size
      clear hu1 hu2 hkr hm
      by_cases hlt : q < NL
      · obtain ⟨x, hx⟩ : ∃ x, L[q]? = some x := ⟨_, List.getElem?_eq_getElem (by have := HNL.out; omega)⟩
        have hI3 := own_ints hints
        obtain ⟨pp, cc, e, _, hc⟩ := hI3
        cases e
        obtain ⟨a, rfl, hca⟩ := hc q x hx
        have hIx := HNUM.out x (List.mem_of_getElem? hx)
        have HIX := Lib.hid hIx
        have hi1 : (q : Int) < (NL : Int) := by omega
        have HX := Lib.hid (show L.take (q + 1) = L.take q ++ [x] from take_snocI hx)
        have HW0 := Lib.hid hwr
        clear hc hints hx hIx
        by_cases hxn : x = n
        · have HR : Hid (RowS G w0.heap.size wr (.slice pv m cv) (preS f ++ [.sync n] ++ ((L.take (q + 1)).filter fun x => x != n).map .del)) := Lib.hid (by
            rw [HX.out, List.filter_append]
            subst hxn
            simp only [List.filter_cons, bne_self_eq_false, Bool.false_eq_true, if_false, List.filter_nil, List.append_nil]
            exact ⟨us, by rw [HM.out]; exact HU1.out, HU2.out⟩)
          have t1 : (x == n) = true := by simpa using hxn
          have t2 : (x != n) = false := by simpa using hxn
          clear hxn
          go_wp2
          go_roundw
          case rel => exact ⟨q + 1, by omega, by go_num, HR.out, HKR.out, HIN.out⟩
          case measure => simp [intOf]; omega
        · have t1 : (x == n) = false := by simpa using hxn
          have t2 : (x != n) = true := by simpa using hxn
          have HXF : Hid (((L.take (q + 1)).filter fun x => x != n).map StepM.del = ((L.take q).filter fun x => x != n).map .del ++ [.del x]) := Lib.hid (by
            rw [HX.out, List.filter_append, List.map_append]
            congr 1
            simp [hxn])
          clear hxn
          go_wp2_with (first
            | (go_at_call 55; refine (mkDel _ _).mono ?_; rintro e w' ⟨rfl, rfl⟩)
            | (at_builtin; refine wpList_append_own_at _ rfl _ _ tSs rfl w0.heap.size tStp iS .nilFunc 1 8 Tryz.underlying104 HIS.out HZ.out.1 HZ.out.2.1 HZ.out.2.2 rfl (by decide) _ _ _ rfl ((HU1.out.alloc _).alloc _) ⟨wr.heap.size + 1, 0, none⟩ 1 1 [fDel wr.heap.size] rfl rfl ?e1 ?e2 ?e3 ?e4 ?e5 ?_)
            | fail)
          case e1 =>
            intro j u hu
            rcases j with _ | j
            · cases hu
              exact Joins.cell_of_block (heap_lit (by simp)) 0
            · simp at hu
          case e2 => intro u hu; simp at hu; subst hu; rfl
          case e3 => unfold maxLen; omega
          case e4 => omega
          case e5 => simp; omega
          intro v4 w4 hown4 hgrow4 _ _
          have hrow : RowS G w0.heap.size w4 v4 (preS f ++ [.sync n] ++ ((L.take (q + 1)).filter fun x => x != n).map .del) := by
            rw [HXF.out, ← List.append_assoc]
            refine RowS.more (w := wr) HU1.out HM.out HU2.out (keeps2 wr _ _) (m := [.del x]) (vs := [fDel wr.heap.size]) (fun j y hy => ?_) rfl hown4 hgrow4
            rcases j with _ | j
            · cases hy
              refine ⟨_, rfl, _, rfl, HOFF.out _ KW.out _ (Nat.le_refl _), ?_, HIX.out⟩
              unfold BoxI; rw [heap_past (by simp), heap_lit rfl]
            · simp at hy
          have HROW4 := Lib.hid hrow
          have HK4 := Lib.hid (own_grown_keeps (w0 := w0) HU1.out HKR.out (Nat.le_refl _) (keeps2 wr _ _) hgrow4)
          have HIN4 := Lib.hid (show w4.ownsRow w1.heap.size tI 1 (.slice (some a) L.length cL) L.length (ivs L) from own_local HIN.out fun g hg => by
            obtain ⟨c1, hc1⟩ := own_tag HIN.out hg
            have hl := (HIN.out.lt g hg).2
            refine (hgrow4.block g (by simp; omega) fun e => ?_).trans ((keeps2 wr _ _).block g hl)
            obtain ⟨c2, hc2⟩ := own_tag HU1.out e.symm
            exact tag_ne hc1 hc2 (by decide) rfl)
          clear hown4 hgrow4 hrow
          go_wp2
          go_roundw
          case rel => exact ⟨q + 1, by omega, by go_num, HROW4.out, HK4.out, HIN4.out⟩
          case measure => simp [intOf]; omega
      · obtain rfl : q = NL := by omega
        have hz : ¬ ((q : Int) < (q : Int)) := by omega
        have HR : Hid (RowS G w0.heap.size wr (.slice pv m cv) (cleanS D f)) := Lib.hid (by
          rw [HCL.out]
          have e : L.take q = L := List.take_of_length_le (by rw [HNL.out]; exact Nat.le_refl _)
          have := HU1.out
          rw [← HM.out] at this
          rw [← HM.out]
          have h2 := HU2.out
          rw [e] at this h2 ⊢
          exact ⟨us, this, h2⟩)
        have HC := Lib.hid (inOrder_any d D G _ _ wr (HD.out.keeps KW.out) (HR.out.steps (fun b hb => by have := hGl b hb; have := K0.out.size; omega) (by
          obtain ⟨us', hh, _⟩ := HR.out
          have := own_shape hh
          obtain ⟨_, _, e⟩ := this
          cases e
          omega)))
        rw [HRUN.out] at HC
        unfold ptrV at HC
        clear hz hints
        have hz : ¬ ((q : Int) < (q : Int)) := by omega
        go_wp2_with fail
        refine HC.out.mono ?_
        rintro e w5 ⟨rfl, g5⟩
        have G5 : Goes w w5 G d (keepD D k f).2 := by
          obtain ⟨G', i1, f1, b1⟩ := g5
          exact ⟨G', i1, (Frame.of_keeps KW.out G).trans f1 fun x hx => Or.inl hx, fun x hx => (b1 x hx).imp id fun h => Nat.le_trans KW.out.size h⟩
        have HG5 := Lib.hid G5
        clear g5 G5
        go_wp2
        go_ret
        exact ⟨rfl, HG5.out⟩
end Go.Proofs.YtlaepdpgegoopaaGreat
namespace Go.Proofs.YtlaepdpgegoopaaGreat
open Go.ChangeShapes Go.WideShapes Go.ChangeAt Go.RowKit Go.Maps Csv Dk Jn

def unwr : List Int → Bool
  | [] => true
  | [x] => x == 0
  | _ => false
theorem unwr_broken (l : List FileM) : unwr (numsF l) = !broken l := by
  rcases l with _ | ⟨f, _ | ⟨g, r⟩⟩
  · rfl
  · show (f.n == 0) = !(f.n != 0)
    simp [bne]
  · rfl
set_option maxRecDepth 100000 in
theorem junwritten_any (v : Value) (L : List Int) (w : World) (h : IntsAt w v L) : Calls Tryz.prog 34 #[v] w fun e w' => e = .returned (.bool (unwr L)) ∧ w = w' := by
  obtain ⟨p, c, rfl, hm, hc⟩ := h
  rcases L with _ | ⟨x, _ | ⟨y, r⟩⟩
  · clear hc
    go_enter Tryz.func34, Tryz.ntmps34
    go_wp2
    go_ret
    exact ⟨rfl, rfl⟩
  · obtain ⟨a, rfl, h0⟩ := hc 0 x rfl
    rw [show a.add 0 = a from by simp [Addr.add]] at h0
    have H : ∀ b, (x == 0) = b → Hid (unwr [x] = b) := fun b e => Lib.hid e
    clear hc
    cases hx : (x == 0) with
    | true =>
      have H := H _ hx
      go_enter Tryz.func34, Tryz.ntmps34
      go_wp2
      go_ret
      exact ⟨by rw [H.out]; rfl, rfl⟩
    | false =>
      have H := H _ hx
      go_enter Tryz.func34, Tryz.ntmps34
      go_wp2
      go_ret
      exact ⟨by rw [H.out]; rfl, rfl⟩
  · obtain ⟨n, hn⟩ : ∃ n, (x :: y :: r).length = n := ⟨_, rfl⟩
    have hn2 : 2 ≤ n := by rw [← hn]; simp
    have H : Hid (unwr (x :: y :: r) = false) := Lib.hid rfl
    rw [hn] at hm ⊢
    have t1 : ((n : Int) == 0) = false := by simp; omega
    have t2 : ((n : Int) == 1) = false := by simp; omega
    clear hc hn
    go_enter Tryz.func34, Tryz.ntmps34
    go_wp2
    go_ret
    exact ⟨by rw [H.out]; rfl, rfl⟩

/-- All files deleted, and the file 0 made. -/
def beginS (L : List Int) (r : ByteArray) : List StepM := L.map .del ++ [.create 0, .add 0 r, .sync 0]
theorem begin_run {D : DiskM} {r : ByteArray} (hr : r.data.toList = Rc.recL []) (hb : broken D.files = false) : runS (0, D) (beginS (numsF D.files) r) = freshD D := by
  unfold beginS freshD
  rw [runS_app]
  have e : ∀ x : Int × DiskM, runS x [.create 0, .add 0 r, .sync 0] = next x fun D => layD D 0 (Rc.recL []) := by
    rintro ⟨q, D1⟩
    by_cases hq : q = 0
    · subst hq
      rw [next_ok]
      rw [← hr]
      rfl
    · rw [next_no (x := (q, D1)) hq, runS_no (x := (q, D1)) hq]
  rw [e]
  congr 1
  rcases hf : D.files with _ | ⟨f, _ | ⟨g, l⟩⟩
  · rfl
  · rw [hf] at hb
    have : f.n = 0 := by
      unfold broken at hb
      simpa using hb
    simp only [numsF, List.map_cons, List.map_nil, this]
    rfl
  · rw [hf] at hb; cases hb
def BeginOut (D : DiskM) (d : Nat) (G : List Nat) (w : World) (e : Ending) (w' : World) : Prop :=
  ∃ g, e = .returned (.tuple #[.agg #[.int .i64 0, .slice (some ⟨g, 0, none⟩) 1 1, .int .i64 8, .int .i64 8], .int .i64 (freshD D).1]) ∧ w.heap.size ≤ g ∧ w'.heap[g]? = some (.cells #[.string ⟨#[]⟩] tS (0, 0)) ∧
    ∃ G', IsDisk w' d (freshD D).2 G' ∧ Frame G w w' ∧ (∀ b ∈ G', b ∈ G ∨ w.heap.size ≤ b) ∧ g ∉ G'

set_option maxRecDepth 100000 in
set_option maxHeartbeats 8000000 in
theorem jbegin_any (d : Nat) (D : DiskM) (G : List Nat) (w : World) (h : IsDisk w d D G) (hb : broken D.files = false) : Calls Tryz.prog 36 #[ptrV d] w (BeginOut D d G w) := by
  have ho := h.okay
  have hGl := h.lt
  have HD := Lib.hid h
  obtain ⟨R, hR⟩ : ∃ R, recB ⟨#[]⟩ = R := ⟨_, rfl⟩
  have hRd : R.data.toList = Rc.recL [] := by rw [← hR, recB_data]
  have hRs : R.size = 8 := by rw [← hR, recB_size]; rfl
  have HRUN := Lib.hid (begin_run hRd hb)
  have HRS := Lib.hid hRs
  have CP : Hid (∀ W, Calls Tryz.prog 47 #[.string ⟨#[]⟩] W fun e w' => e = .returned (.tuple #[.string R, .int .i64 0]) ∧ Keeps W w') := Lib.hid fun W => hR ▸ recPut_any ⟨#[]⟩ W (by decide)
  have hLl : (numsF D.files).length = D.files.length := by simp [numsF]
  have hmany := ho.many
  have HF : Hid (∀ W, Keeps w W → Calls Tryz.prog 35 #[ptrV d] W fun e w' => ∃ v, e = .returned v ∧ w'.ownsRow W.heap.size tI 1 v (numsF D.files).length (ivs (numsF D.files)) ∧ Keeps W w') := Lib.hid fun W kW => by
    obtain ⟨m, L, kk, hd, _⟩ := h.keeps kW
    rw [hLl]
    exact files_any d m L kk D W hd
  have HNUM : Hid (∀ x ∈ numsF D.files, I64 x) := Lib.hid fun x hx => by
    unfold numsF at hx
    obtain ⟨g, hg, rfl⟩ := List.mem_map.1 hx
    have := ho.nums g hg
    unfold I64 top; omega
  obtain ⟨iS, hiS, hS0, hS1, hS2⟩ := info_parts info_step
  have HIS := Lib.hid hiS
  have HZ := Lib.hid (show iS.zero = some .nilFunc ∧ iS.size = 1 ∧ iS.bytes = 8 from ⟨hS0, hS1, hS2⟩)
  obtain ⟨L, hL⟩ : ∃ L, numsF D.files = L := ⟨_, rfl⟩
  rw [hL] at HF HNUM hLl HRUN
  have hLm : L.length ≤ 100 := by omega
  have HOFF : Hid (∀ W, Keeps w W → ∀ a, W.heap.size ≤ a → a ∉ G) := Lib.hid fun W kW a ha hm => by have := hGl a hm; have := kW.size; omega
  obtain ⟨w0, hw0⟩ : ∃ w0, w.alloc (.cells #[.int .i64 0, .slice none 0 0, .int .i64 0, .int .i64 0] tCt) = w0 := ⟨_, rfl⟩
  have k0 : Keeps w w0 := hw0 ▸ keeps_lit w _
  have ct0 : CtAt w0 w.heap.size (.int .i64 0) (.slice none 0 0) (.int .i64 0) (.int .i64 0) := hw0 ▸ heap_lit rfl
  have hs0 : w0.heap.size = w.heap.size + 1 := by rw [← hw0]; simp
  have K0 := Lib.hid k0
  have CT0 := Lib.hid ct0
  have HS0 := Lib.hid hs0
  clear h ho hLl hmany hiS hS0 hS1 hS2 hL hR hRd hRs hb k0 ct0 hs0
  unfold ptrV at *
  go_enter Tryz.func36, Tryz.ntmps36
  go_wp2_with fail
  clear hw0
  refine (CP.out _).mono ?_
  rintro e w1 ⟨rfl, hk1⟩
  have HK1 := Lib.hid hk1
  clear hk1
  go_wp2_with fail
  refine (HF.out _ (Keeps.trans K0.out HK1.out)).mono ?_
  rintro e w2 ⟨vL, rfl, hrowL, hk2⟩
  have hI2 := own_ints hrowL
  obtain ⟨pL, cL, rfl, _, _⟩ := hI2
  obtain ⟨NL, hNL⟩ : ∃ NL, L.length = NL := ⟨_, rfl⟩
  have HNL := Lib.hid hNL
  have HROWL := Lib.hid hrowL
  have HK2 := Lib.hid (Keeps.trans HK1.out hk2)
  have hw2 := hk2.size
  have hw1 := HK1.out.size
  rw [hNL] at hLm ⊢
  clear hrowL hNL hk2
  go_wp2
  go_loopw [5, 19] (fun v5 vi wr => ∃ q : Nat, q ≤ NL ∧ vi = .int .i64 (q : Int) ∧ RowS G w0.heap.size wr v5 ((L.take q).map .del) ∧ Keeps w0 wr ∧ wr.ownsRow w1.heap.size tI 1 (.slice pL L.length cL) L.length (ivs L)) (fun _ vi _ => NL - (intOf vi).toNat)
  case atStart => exact ⟨0, by omega, rfl, by simpa using RowS.nil _ _ _, HK2.out, HROWL.out⟩
  case round =>
    obtain ⟨q, hq, rfl, ⟨us, hu1, hu2⟩, hkr, hints⟩ := hrel
    have hgl2 : ((L.take q).map StepM.del).length ≤ 1000 := by
      rw [List.length_map, List.length_take]; omega
    obtain ⟨m, hm⟩ : ∃ m, ((L.take q).map StepM.del).length = m := ⟨_, rfl⟩
    rw [hm] at hu1 hgl2
    obtain ⟨pv, cv, rfl⟩ := own_shape hu1
    have HM := Lib.hid hm
    have HU1 := Lib.hid hu1
    have HU2 := Lib.hid hu2
    have HKR := Lib.hid hkr
    have HIN := Lib.hid hints
    have KW := Lib.hid (Keeps.trans K0.out hkr)
    have hwr := hkr.size
    clear hu1 hu2 hkr hm
    by_cases hlt : q < NL
    · obtain ⟨x, hx⟩ : ∃ x, L[q]? = some x := ⟨_, List.getElem?_eq_getElem (by have := HNL.out; omega)⟩
      have hI3 := own_ints hints
      obtain ⟨pp, cc, e, _, hc⟩ := hI3
      cases e
      obtain ⟨a, rfl, hca⟩ := hc q x hx
      have hIx := HNUM.out x (List.mem_of_getElem? hx)
      have HIX := Lib.hid hIx
      have hi1 : (q : Int) < (NL : Int) := by omega
      have HX := Lib.hid (show L.take (q + 1) = L.take q ++ [x] from take_snocI hx)
      have HW0 := Lib.hid hwr
      clear hc hints hx hIx
      have HXF : Hid ((L.take (q + 1)).map StepM.del = (L.take q).map .del ++ [.del x]) := Lib.hid (by rw [HX.out, List.map_append]; rfl)
      go_wp2_with (first
        | (go_at_call 55; refine (mkDel _ _).mono ?_; rintro e w' ⟨rfl, rfl⟩)
        | (at_builtin; refine wpList_append_own_at _ rfl _ _ tSs rfl w0.heap.size tStp iS .nilFunc 1 8 Tryz.underlying104 HIS.out HZ.out.1 HZ.out.2.1 HZ.out.2.2 rfl (by decide) _ _ _ rfl ((HU1.out.alloc _).alloc _) ⟨wr.heap.size + 1, 0, none⟩ 1 1 [fDel wr.heap.size] rfl rfl ?e1 ?e2 ?e3 ?e4 ?e5 ?_)
        | fail)
      case e1 =>
        intro j u hu
        rcases j with _ | j
        · cases hu
          exact Joins.cell_of_block (heap_lit (by simp)) 0
        · simp at hu
      case e2 => intro u hu; simp at hu; subst hu; rfl
      case e3 => unfold maxLen; omega
      case e4 => omega
      case e5 => simp; omega
      intro v4 w4 hown4 hgrow4 _ _
      have hrow : RowS G w0.heap.size w4 v4 ((L.take (q + 1)).map .del) := by
        rw [HXF.out]
        refine RowS.more (w := wr) HU1.out HM.out HU2.out (keeps2 wr _ _) (m := [.del x]) (vs := [fDel wr.heap.size]) (fun j y hy => ?_) rfl hown4 hgrow4
        rcases j with _ | j
        · cases hy
          refine ⟨_, rfl, _, rfl, HOFF.out _ KW.out _ (Nat.le_refl _), ?_, HIX.out⟩
          unfold BoxI; rw [heap_past (by simp), heap_lit rfl]
        · simp at hy
      have HROW4 := Lib.hid hrow
      have HK4 := Lib.hid (own_grown_keeps (w0 := w0) HU1.out HKR.out (Nat.le_refl _) (keeps2 wr _ _) hgrow4)
      have HIN4 := Lib.hid (show w4.ownsRow w1.heap.size tI 1 (.slice (some a) L.length cL) L.length (ivs L) from own_local HIN.out fun g hg => by
        obtain ⟨c1, hc1⟩ := own_tag HIN.out hg
        have hl := (HIN.out.lt g hg).2
        refine (hgrow4.block g (by simp; omega) fun e => ?_).trans ((keeps2 wr _ _).block g hl)
        obtain ⟨c2, hc2⟩ := own_tag HU1.out e.symm
        exact tag_ne hc1 hc2 (by decide) rfl)
      clear hown4 hgrow4 hrow
      go_wp2
      go_roundw
      case rel => exact ⟨q + 1, by omega, by go_num, HROW4.out, HK4.out, HIN4.out⟩
      case measure => simp [intOf]; omega
    · obtain rfl : q = NL := by omega
      have hz : ¬ ((q : Int) < (q : Int)) := by omega
      have HR2 : Hid (∀ (j : Nat) (x : StepM), (L.map StepM.del)[j]? = some x → ∃ u, us[j]? = some u ∧ StepAt G wr u x) := Lib.hid (by
        have h2 := HU2.out
        rwa [List.take_of_length_le (by rw [HNL.out]; exact Nat.le_refl _)] at h2)
      have HML : Hid ((L.map StepM.del).length = m) := Lib.hid (by
        have := HM.out
        rwa [List.take_of_length_le (by rw [HNL.out]; exact Nat.le_refl _)] at this)
      have hz : ¬ ((q : Int) < (q : Int)) := by omega
      clear hints
      go_wp2_with (first
        | (go_at_call 54; refine (mkCreate _ _).mono ?_; rintro e w' ⟨rfl, rfl⟩)
        | (go_at_call 49; refine (mkAdd _ _ _).mono ?_; rintro e w' ⟨rfl, rfl⟩)
        | (go_at_call 50; refine (mkSync _ _).mono ?_; rintro e w' ⟨rfl, rfl⟩)
        | (at_builtin; refine wpList_append_own_at _ rfl _ _ tSs rfl w0.heap.size tStp iS .nilFunc 1 8 Tryz.underlying104 HIS.out HZ.out.1 HZ.out.2.1 HZ.out.2.2 rfl (by decide) _ _ _ rfl (((((HU1.out.alloc _).alloc _).alloc _).alloc _).alloc _) ⟨wr.heap.size + 4, 0, none⟩ 3 3 [fCreate wr.heap.size, fAdd (wr.heap.size + 1) (wr.heap.size + 2), fSync (wr.heap.size + 3)] rfl rfl ?g1 ?g2 ?g3 ?g4 ?g5 ?_)
        | fail)
      case g1 =>
        intro j u hu
        rcases j with _ | _ | _ | j
        · cases hu
          exact Joins.cell_of_block (heap_lit (by simp)) 0
        · cases hu
          exact Joins.cell_of_block (heap_lit (by simp)) 1
        · cases hu
          exact Joins.cell_of_block (heap_lit (by simp)) 2
        · simp at hu
      case g2 => intro u hu; simp at hu; rcases hu with rfl | rfl | rfl <;> rfl
      case g3 => unfold maxLen; omega
      case g4 => omega
      case g5 => simp; omega
      intro v4 w4 hown4 hgrow4 _ _
      have hrow : RowS G w0.heap.size w4 v4 (beginS L R) := by
        refine RowS.more (w := wr) HU1.out HML.out HR2.out (keeps5 wr _ _ _ _ _) (m := [.create 0, .add 0 R, .sync 0]) (vs := [fCreate wr.heap.size, fAdd (wr.heap.size + 1) (wr.heap.size + 2), fSync (wr.heap.size + 3)]) (fun j y hy => ?_) rfl hown4 hgrow4
        have i0 : I64 0 := by unfold I64 top; omega
        rcases j with _ | _ | _ | j
        · cases hy
          refine ⟨_, rfl, _, rfl, HOFF.out _ KW.out _ (Nat.le_refl _), ?_, i0⟩
          unfold BoxI; rw [heap_past (by simp; omega), heap_past (by simp; omega), heap_past (by simp; omega), heap_past (by simp), heap_lit rfl]
        · cases hy
          refine ⟨_, rfl, _, _, rfl, HOFF.out _ KW.out _ (by omega), HOFF.out _ KW.out _ (by omega), ?_, ?_, i0, by rw [HRS.out]; unfold maxLen; omega⟩
          · unfold BoxI; rw [heap_past (by simp), heap_past (by simp), heap_past (by simp), heap_lit (by simp)]
          · unfold BoxS; rw [heap_past (by simp), heap_past (by simp), heap_lit (by simp)]
        · cases hy
          refine ⟨_, rfl, _, rfl, HOFF.out _ KW.out _ (by omega), ?_, i0⟩
          unfold BoxI; rw [heap_past (by simp), heap_lit (by simp)]
        · simp at hy
      have HK4 := Lib.hid (own_grown_keeps (w0 := w0) HU1.out HKR.out (Nat.le_refl _) (keeps5 wr _ _ _ _ _) hgrow4)
      obtain ⟨p4, c4, rfl⟩ := own_shape hown4
      have HROW4 := Lib.hid hrow
      have hl4 : (beginS L R).length ≤ 2000 := by unfold beginS; rw [List.length_append]; have := HML.out; simp only [List.length_cons, List.length_nil]; omega
      have HC : Hid (∀ W, Keeps w4 W → Calls Tryz.prog 48 #[.pointer (some ⟨d, 0, none⟩), .slice p4 (m + 3) c4] W fun e w' => e = .returned (.int .i64 (freshD D).1) ∧ Goes W w' G d (freshD D).2) := Lib.hid fun W kW => by
        have := inOrder_any d D G _ _ W (HD.out.keeps (Keeps.trans (Keeps.trans K0.out HK4.out) kW)) ((HROW4.out.keeps kW).steps (fun b hb => by have := hGl b hb; have := K0.out.size; omega) (by omega))
        rw [HRUN.out] at this
        exact this
      clear hown4 hgrow4 hrow hl4
      go_wp2_with fail
      refine (HC.out _ (keeps_lit _ _)).mono ?_
      rintro e w5 ⟨rfl, G', i5, f5, b5⟩
      have kX : Keeps w (w4.alloc (.cells #[.string ⟨#[]⟩] tS)) := Keeps.trans (Keeps.trans K0.out HK4.out) (keeps_lit _ _)
      have c4' : CtAt (w4.alloc (.cells #[.string ⟨#[]⟩] tS)) w.heap.size (.int .i64 0) (.slice none 0 0) (.int .i64 0) (.int .i64 0) := CtAt.keeps (CT0.out.keeps HK4.out) (keeps_lit _ _)
      have hoff : w.heap.size ∉ G := fun hm => by have := hGl _ hm; omega
      have c5 : CtAt w5 w.heap.size (.int .i64 0) (.slice none 0 0) (.int .i64 0) (.int .i64 0) := (f5.block _ (block_lt c4') hoff).trans c4'
      obtain ⟨y0, y1, y2, y3, fy⟩ := c5.cells
      have fy0 := fy 0
      have fy1 := fy 1
      have fy2 := fy 2
      have fy3 := fy 3
      have C5 := Lib.hid c5
      have hoff4 : w4.heap.size ∉ G := fun hm => by have := hGl _ hm; have := K0.out.size; have := HK4.out.size; omega
      have hlit : w5.heap[w4.heap.size]? = some (.cells #[.string ⟨#[]⟩] tS (0, 0)) := (f5.block _ (by simp) hoff4).trans (heap_lit rfl)
      have h54 : w4.heap.size < w5.heap.size := by have := f5.size; simp at this; omega
      have I5 := Lib.hid i5
      have F5 := Lib.hid ((Frame.of_keeps kX G).trans f5 fun x hx => Or.inl hx)
      have B5 : Hid (∀ b ∈ G', b ∈ G ∨ w.heap.size + 1 ≤ b) := Lib.hid fun b hb => (b5 b hb).imp id fun h => by have := HK4.out.size; have := HS0.out; simp at h; omega
      have O5 : Hid (w4.heap.size ∉ G') := Lib.hid fun hm => by
        rcases b5 _ hm with h | h
        · exact hoff4 h
        · rw [World.size_alloc] at h; omega
      have HL5 := Lib.hid hlit
      have hlow : w.heap.size < w4.heap.size := by have := HK4.out.size; have := HS0.out; omega
      clear fy c5 c4' kX hlit i5 f5 b5
      go_wp2
      have hset := C5.out.set (.int .i64 0) (.slice (some ⟨w4.heap.size, 0, none⟩) 1 1) (.int .i64 (R.size : Int)) (.int .i64 (R.size : Int))
      have hgrown := set4_grown w5 w.heap.size (.int .i64 0) (.slice (some ⟨w4.heap.size, 0, none⟩) 1 1) (.int .i64 (R.size : Int)) (.int .i64 (R.size : Int))
      obtain ⟨e0, e1, e2, e3, _⟩ := hset.cells
      refine bodyPost_ret (v := .tuple #[.agg #[.int .i64 0, .slice (some ⟨w4.heap.size, 0, none⟩) 1 1, .int .i64 (R.size : Int), .int .i64 (R.size : Int)], .int .i64 (freshD D).1]) (by simp [results, Tryz.results36, go_sem, e0, e1, e2, e3]) rfl ?_
      refine ⟨w4.heap.size, by rw [HRS.out]; rfl, by omega, (hgrown.block _ h54 (by simp; omega)).trans HL5.out, G', I5.out.local fun b hb => hgrown.block b (I5.out.lt b hb) ?_, F5.out.trans (Frame.of_grown hgrown (G := [w.heap.size]) (by simp)) fun x hx => ?_, fun b hb => (B5.out b hb).imp id fun h => by omega, O5.out⟩
      · intro e
        have e' : b = w.heap.size := by simpa using e
        rcases B5.out b hb with h | h
        · have := hGl b h; omega
        · omega
      · simp at hx; subst hx; exact Or.inr (Nat.le_refl _)
end Go.Proofs.YtlaepdpgegoopaaGreat
namespace Go.Proofs.YtlaepdpgegoopaaGreat
open Go.ChangeShapes Go.WideShapes Go.ChangeAt Go.RowKit Go.Maps Csv Dk Jn

/-- What newest tells, whichever it is. -/
def NewCase (D : DiskM) (w : World) (x : Int) (y : Value) (z u q : Int) (w' : World) : Prop :=
  (lastW D.files D.files.length = none ∧ x = 0 ∧ y = .slice none 0 0 ∧ z = 0 ∧ u = 0 ∧ q = 63) ∨
  (∃ k f, lastW D.files D.files.length = some k ∧ D.files[k]? = some f ∧ x = f.n ∧ z = (wholeE f.data : Int) ∧ u = (f.data.length : Int) ∧ q = 0 ∧ w'.ownsRow w.heap.size tS 1 y (wholeP f.data).length (svs (wholeP f.data)))
theorem newest_uni (d : Nat) (D : DiskM) (G : List Nat) (w : World) (h : IsDisk w d D G) (hu : D.up = true) (hc : D.cap ≤ 1000000) :
    Calls Tryz.prog 32 #[ptrV d] w fun e w' => ∃ x z u p n c q, e = .returned (.tuple #[.agg #[.int .i64 x, .slice p n c, .int .i64 z, .int .i64 u], .int .i64 q]) ∧ NewCase D w x (.slice p n c) z u q w' ∧ Keeps w w' := by
  refine (newest_any d D G w h hu hc).mono ?_
  rintro e w' (⟨h1, rfl, hk⟩ | ⟨k, f, v, h1, h2, rfl, ho, hk⟩)
  · exact ⟨_, _, _, none, 0, 0, 63, rfl, Or.inl ⟨h1, rfl, rfl, rfl, rfl, rfl⟩, hk⟩
  · obtain ⟨p, c, rfl⟩ := own_shape ho
    exact ⟨_, _, _, p, _, c, 0, rfl, Or.inr ⟨k, f, h1, h2, rfl, rfl, rfl, rfl, ho⟩, hk⟩
theorem find_below {D : DiskM} (h : Okay D) : findF D.files (-1) = none := by
  cases hf : findF D.files (-1) with
  | none => rfl
  | some f =>
    unfold findF at hf
    have h1 := List.mem_of_find?_eq_some hf
    have h2 := List.find?_some hf
    have := (h.nums f h1).1
    simp at h2
    omega
/-- Behind the switch. -/
def OpenMid (D : DiskM) (d Bc : Nat) (G : List Nat) (w : World) (s5 : Value) (wc : World) : Prop :=
  ∃ q : Int, s5 = .int .i64 q ∧ ((q ≠ 0 ∧ ∃ D', openD D = ((q, D'), none) ∧ Goes w wc G d D') ∨
    (q = 0 ∧ ∃ D' J s l g M c u G', openD D = ((0, D'), some (J, s :: l)) ∧ CtAt wc Bc (.int .i64 J.file) (.slice (some ⟨g, 0, none⟩) M c) (.int .i64 (J.bytes : Int)) u ∧ M = l.length + 1 ∧ M ≤ c ∧ c ≤ maxLen ∧ J.many = l.length ∧ J.starts = D'.starts ∧
      wc.ownsRow w.heap.size tS 1 (.slice (some ⟨g, 0, none⟩) M c) M (svs (s :: l)) ∧ IsDisk wc d D' G' ∧ Frame G w wc ∧ (∀ x ∈ G', x ∈ G ∨ w.heap.size ≤ x) ∧ g ∉ G' ∧ Bc ∉ G'))
theorem goes_local {w W W' : World} {d : Nat} {D' : DiskM} {G G' : List Nat} {b : Nat} (i : IsDisk W d D' G') (f : Frame G w W) (hb : ∀ x ∈ G', x ∈ G ∨ w.heap.size ≤ x) (hg : W.grownBy W' (some b)) (hbG : b ∉ G') (hbw : w.heap.size ≤ b) : IsDisk W' d D' G' ∧ Frame G w W' :=
  ⟨i.local fun x hx => hg.block x (i.lt x hx) (fun e => hbG (by have e' : x = b := by simpa using e
                                                                exact e' ▸ hx)), f.trans (Frame.of_grown hg (G := [b]) (by simp)) fun x hx => by simp at hx; subst hx; exact Or.inr hbw⟩
theorem openD_none {D : DiskM} (h : lastW D.files D.files.length = none) : openD D = if broken D.files = true then ((63, D), none) else (freshD D, if (freshD D).1 = 0 then some (⟨0, 8, 0, (freshD D).2.starts⟩, [[]]) else none) := by
  unfold openD; rw [h]
theorem openD_some {D : DiskM} {k : Nat} {f : FileM} (h : lastW D.files D.files.length = some k) (hf : D.files[k]? = some f) : openD D = (keepD D k f, if (keepD D k f).1 = 0 then some (⟨f.n, wholeE f.data, (wholeP f.data).length - 1, (keepD D k f).2.starts⟩, wholeP f.data) else none) := by
  unfold openD; rw [h]; simp only [hf]
theorem whole_some {l : List FileM} {k : Nat} {f : FileM} (h : lastW l l.length = some k) (hf : l[k]? = some f) : wholeP f.data ≠ [] := by
  obtain ⟨g, hg, hb⟩ := lastW_some h
  rw [hf] at hg
  cases hg
  exact (whole_iff _).2 (best_mem hb).2
/-- Where the file of the greatest number that is whole was cleaned. -/
theorem mid_some {D : DiskM} {d Bc n c : Nat} {G : List Nat} {w w1 w2 w3 : World} {x z u : Int} {p : Option Addr} {k : Nat} {f : FileM} (hBc : Bc = w1.heap.size) (hG : ∀ b ∈ G, b < w.heap.size) (k1 : Keeps w w1) (k2 : Keeps w1 w2) (hlt : w1.heap.size < w2.heap.size) (h1 : lastW D.files D.files.length = some k) (hf : D.files[k]? = some f)
    (hx : x = f.n) (hz : z = (wholeE f.data : Int)) (ho : w1.ownsRow w.heap.size tS 1 (.slice p n c) (wholeP f.data).length (svs (wholeP f.data)))
    (ct : CtAt w2 Bc (.int .i64 x) (.slice p n c) (.int .i64 z) (.int .i64 u)) (g : Goes w2 w3 G d (keepD D k f).2) : OpenMid D d Bc G w (.int .i64 (keepD D k f).1) w3 := by
  have hO := openD_some h1 hf
  have kk := k1.trans k2
  obtain ⟨G', i3, f3, b3⟩ := g
  have f3' : Frame G w w3 := (Frame.of_keeps kk G).trans f3 fun x hx => Or.inl hx
  have b3' : ∀ x ∈ G', x ∈ G ∨ w.heap.size ≤ x := fun x hx => (b3 x hx).imp id fun h => Nat.le_trans kk.size h
  refine ⟨_, rfl, ?_⟩
  by_cases h0 : (keepD D k f).1 = 0
  · refine Or.inr ⟨h0, ?_⟩
    rw [if_pos h0] at hO
    obtain ⟨⟨q, D'⟩, hq⟩ : ∃ y, keepD D k f = y := ⟨_, rfl⟩
    rw [hq] at hO h0 i3
    simp only at h0
    subst h0
    obtain ⟨s, l, hl⟩ : ∃ s l, wholeP f.data = s :: l := by
      cases hw : wholeP f.data with
      | nil => exact absurd hw (whole_some h1 hf)
      | cons s l => exact ⟨s, l, rfl⟩
    rw [hl] at hO ho
    rcases ho.2 with ⟨_, e⟩ | ⟨g, cap, cur, e, hb, hg, r1, r2, r3, r4⟩
    · simp at e
    · cases e
      have hg1 : g < w1.heap.size := block_lt hg
      have hgG : g ∉ G := fun hm => by have := hG g hm; omega
      have k0 : w.heap.size ≤ w1.heap.size := k1.size
      have hBG : Bc ∉ G := fun hm => by have := hG Bc hm; omega
      have hg3 : w3.heap[g]? = some (.cells cur tS (0, 0)) := (f3.block g (by omega) hgG).trans ((k2.block g hg1).trans hg)
      refine ⟨D', ⟨f.n, wholeE f.data, l.length, D'.starts⟩, s, l, g, (s :: l).length, c, .int .i64 u, G', ?_, ?_, rfl, r1, r2, rfl, rfl, ⟨ho.1, Or.inr ⟨g, c, cur, rfl, hb, hg3, r1, r2, r3, r4⟩⟩, i3, f3', b3', ?_, ?_⟩
      · rw [hO]; simp
      · subst hx hz
        exact (f3.block Bc (by omega) hBG).trans ct
      · intro hm
        rcases b3 g hm with h | h
        · exact hgG h
        · omega
      · intro hm
        rcases b3 Bc hm with h | h
        · exact hBG h
        · omega
  · refine Or.inl ⟨h0, (keepD D k f).2, ?_, G', i3, f3', b3'⟩
    rw [hO, if_neg h0]
/-- Where the file 0 was made. -/
theorem mid_none {D : DiskM} {d Bc g : Nat} {G G' : List Nat} {w w2 w3 w4 : World} {x y z u : Value} (hG : ∀ b ∈ G, b < w.heap.size) (k2 : Keeps w w2) (hBc : w.heap.size ≤ Bc) (h1 : lastW D.files D.files.length = none) (hb : broken D.files = false)
    (ct : CtAt w2 Bc x y z u) (hg : w2.heap.size ≤ g) (hlit : w3.heap[g]? = some (.cells #[.string ⟨#[]⟩] tS (0, 0))) (i3 : IsDisk w3 d (freshD D).2 G') (f3 : Frame G w2 w3) (b3 : ∀ x ∈ G', x ∈ G ∨ w2.heap.size ≤ x) (hgG : g ∉ G')
    (hw4 : w4 = set4 w3 Bc (.int .i64 0) (.slice (some ⟨g, 0, none⟩) 1 1) (.int .i64 8) (.int .i64 8)) : OpenMid D d Bc G w (.int .i64 (freshD D).1) w4 := by
  have hO := openD_none h1
  rw [hb, if_neg (by decide)] at hO
  have hBl : Bc < w2.heap.size := block_lt ct
  have hBG : Bc ∉ G := fun hm => by have := hG Bc hm; omega
  have hBG' : Bc ∉ G' := fun hm => by
    rcases b3 Bc hm with h | h
    · exact hBG h
    · omega
  have ct3 : CtAt w3 Bc x y z u := (f3.block Bc hBl hBG).trans ct
  have hgr := set4_grown w3 Bc (.int .i64 0) (.slice (some ⟨g, 0, none⟩) 1 1) (.int .i64 8) (.int .i64 8)
  have hset := ct3.set (.int .i64 0) (.slice (some ⟨g, 0, none⟩) 1 1) (.int .i64 8) (.int .i64 8)
  rw [← hw4] at hgr hset
  have f3' : Frame G w w3 := (Frame.of_keeps k2 G).trans f3 fun x hx => Or.inl hx
  have b3' : ∀ x ∈ G', x ∈ G ∨ w.heap.size ≤ x := fun x hx => (b3 x hx).imp id fun h => Nat.le_trans k2.size h
  obtain ⟨i4, f4⟩ := goes_local i3 f3' b3' hgr hBG' hBc
  refine ⟨_, rfl, ?_⟩
  by_cases h0 : (freshD D).1 = 0
  · refine Or.inr ⟨h0, ?_⟩
    rw [if_pos h0] at hO
    obtain ⟨⟨q, D'⟩, hq⟩ : ∃ y, freshD D = y := ⟨_, rfl⟩
    rw [hq] at hO h0 i4
    simp only at h0
    subst h0
    have k0 := k2.size
    refine ⟨D', ⟨0, 8, 0, D'.starts⟩, [], [], g, 1, 1, .int .i64 8, G', hO, hset, rfl, Nat.le_refl _, by unfold maxLen; omega, rfl, rfl, ⟨rfl, Or.inr ⟨g, 1, _, rfl, by omega, (hgr.block g (block_lt hlit) (by simp; omega)).trans hlit, Nat.le_refl _, by unfold maxLen; omega, rfl, rfl⟩⟩, i4, f4, b3', hgG, hBG'⟩
  · refine Or.inl ⟨h0, (freshD D).2, ?_, G', i4, f4, b3'⟩
    rw [hO, if_neg h0]
theorem jn_results4 {fn : Func} {t u v x : Tmp} (h : fn.results = #[.tmp t, .tmp u, .tmp v, .tmp x]) (tmps : Array Value) (P : Program) (w : World) :
    (results fn tmps).run P w = .ok (.tuple #[tmps.getD t undef, tmps.getD u undef, tmps.getD v undef, tmps.getD x undef]) w := by
  simp [results, h]
theorem txt_strs {w : World} {B g M c : Nat} {s : Bs} {l : List Bs} (h : w.ownsRow B tS 1 (.slice (some ⟨g, 0, none⟩) M c) M (svs (s :: l))) (hM : M = l.length + 1) :
    w.cell? ⟨g, 0, none⟩ = some (sv s) ∧ StrsAt w (tailV g M c) l ∧ (∀ p n c', tailV g M c = .slice p n c' → n ≤ c') ∧ ∃ o n c' cs, tailV g M c = .slice (some ⟨g, o, none⟩) n c' ∧ w.heap[g]? = some (.cells cs tS (0, 0)) := by
  have hc := h.cells (g := g) rfl
  rcases h.2 with ⟨e, h0⟩ | ⟨g', cap, cur, e, hb, hg, r1, r2, r3, r4⟩
  · omega
  · cases e
    refine ⟨by have := hc 0 (sv s) rfl; simpa [Addr.add] using this, ?_, ?_, ?_⟩
    · unfold tailV
      split
      · rename_i h1
        have : l = [] := List.length_eq_zero_iff.1 (by omega)
        subst this
        exact ⟨_, _, by rw [hM]; rfl, by simp [maxLen], fun j x hx => by simp at hx⟩
      · refine ⟨_, _, by rw [hM]; rfl, by omega, fun j x hx => ⟨_, rfl, ?_⟩⟩
        have := hc (j + 1) (sv x) (by simp [svs, hx])
        have e : (⟨g, 1, none⟩ : Addr).add j = (⟨g, 0, none⟩ : Addr).add (j + 1) := by simp [Addr.add, Nat.add_comm]
        rw [e]
        exact this
    · intro p n c' e
      unfold tailV at e
      split at e <;> cases e <;> omega
    · unfold tailV
      split
      · exact ⟨_, _, _, cur, rfl, hg⟩
      · exact ⟨_, _, _, cur, rfl, hg⟩
theorem txt_tail {w : World} {B g M c : Nat} {s : Bs} {l : List Bs} (h : w.ownsRow B tS 1 (.slice (some ⟨g, 0, none⟩) M c) M (svs (s :: l))) (hM : M = l.length + 1) : TxtB w (tailV g M c) l ∧ ∀ X, g ∉ X → Stays X w (tailV g M c) l := by
  obtain ⟨_, h1, h2, h3⟩ := txt_strs h hM
  obtain ⟨o, n, c', cs, e, hg⟩ := h3
  refine ⟨⟨h1, h2, Or.inr ⟨g, o, n, c', cs, e, hg⟩⟩, fun X hX w' f => ?_⟩
  obtain ⟨_, k1, k2, _⟩ := txt_strs (own_local h fun g' hg' => by
    have : g' = g := by simpa [Value.ownBlock] using hg'.symm
    subst this
    exact f.block g' (block_lt hg) hX) hM
  exact ⟨k1, k2⟩
set_option maxRecDepth 100000 in
set_option maxHeartbeats 8000000 in
theorem jopen_any (d : Nat) (D : DiskM) (G : List Nat) (w : World) (h : IsDisk w d D G) (hu : D.up = true) (hc : D.cap ≤ 1000000) : Calls Tryz.prog 11 #[ptrV d] w (JOpenOut D d G w) := by
  have ho := h.okay
  have hGl := h.lt
  have HD := Lib.hid h
  have HS : Hid (Calls Tryz.prog 31 #[ptrV d, .int .i64 (-1)] w fun e w' => e = .returned (.tuple #[.int .i64 0, .int .i64 4]) ∧ w = w') := Lib.hid (by
    have := sizeD_any d D G (-1) w h (by unfold I64 top; omega)
    rw [show sizeD D (-1) = (0, 4) from by unfold sizeD; rw [if_neg (by rw [hu]; decide), find_below ho]] at this
    exact this)
  have HN := Lib.hid (newest_uni d D G w h hu hc)
  clear h ho hu hc
  unfold ptrV at *
  go_enter Tryz.func11, Tryz.ntmps11
  go_wp2_with fail
  refine HS.out.mono ?_
  rintro e w0 ⟨rfl, rfl⟩
  go_wp2_with fail
  refine HN.out.mono ?_
  rintro e w1 ⟨x, z, u, p, n, c, q, rfl, hcase, hk⟩
  have HCASE := Lib.hid hcase
  have HK := Lib.hid hk
  clear hcase hk HN HS
  go_upto_block 0 with (fail)
  obtain ⟨w2, hw2⟩ : ∃ w2, w1.alloc (.cells #[.int .i64 x, .slice p n c, .int .i64 z, .int .i64 u] tCt) = w2 := ⟨_, rfl⟩
  have ct2 : CtAt w2 w1.heap.size (.int .i64 x) (.slice p n c) (.int .i64 z) (.int .i64 u) := hw2 ▸ heap_lit rfl
  have K2 := Lib.hid (Keeps.trans HK.out (hw2 ▸ keeps_lit w1 _))
  have K12 : Hid (Keeps w1 w2) := Lib.hid (hw2 ▸ keeps_lit w1 _)
  rw [hw2]
  have CT2 := Lib.hid ct2
  clear hw2 ct2
  go_cut [5] from 22 to 40 (fun s5 wc => OpenMid D d w1.heap.size G w s5 wc)
  case first =>
    obtain ⟨y0, y1, y2, y3, fy⟩ := CT2.out.cells
    have fy0 := fy 0
    have fy1 := fy 1
    have fy2 := fy 2
    have fy3 := fy 3
    clear fy
    rcases HCASE.out with ⟨h1, hx, hy, hz, hu, hq⟩ | ⟨k, f, h1, hf, hx, hz, hu, hq, ho⟩
    · simp only [Value.slice.injEq] at hy
      obtain ⟨rfl, rfl, rfl⟩ := hy
      subst hx hz hu hq
      have H1 := Lib.hid h1
      have HF : Hid (Calls Tryz.prog 35 #[.pointer (some ⟨d, 0, none⟩)] w2 fun e w' => ∃ v, e = .returned v ∧ IntsAt w' v (numsF D.files) ∧ Keeps w2 w') := Lib.hid (by
        obtain ⟨m, L, kk, hd, _⟩ := HD.out.keeps K2.out
        have := files_any d m L kk D w2 hd
        refine this.mono ?_
        rintro e w' ⟨v, rfl, hrow, hk⟩
        rw [show D.files.length = (numsF D.files).length from by simp [numsF]] at hrow
        exact ⟨v, rfl, own_ints hrow, hk⟩)
      cases hb : broken D.files with
      | true =>
        have HB := Lib.hid hb
        have HU : Hid (∀ v W, IntsAt W v (numsF D.files) → Calls Tryz.prog 34 #[v] W fun e w' => e = .returned (.bool false) ∧ W = w') := Lib.hid fun v W hv => by
          have := junwritten_any v _ W hv
          rw [unwr_broken, HB.out] at this
          exact this
        clear h1 hb
        go_wp2_with fail
        refine HF.out.mono ?_
        rintro e w3 ⟨v, rfl, hv, hk3⟩
        have HU2 := Lib.hid (HU.out v w3 hv)
        have HK3 := Lib.hid hk3
        clear hv hk3 HF HU
        go_wp2_with fail
        refine HU2.out.mono ?_
        rintro e w4 ⟨rfl, rfl⟩
        go_wp2
        go_meet
        exact ⟨63, rfl, Or.inl ⟨by decide, D, by rw [openD_none H1.out, HB.out, if_pos rfl], Goes.same HD.out (Keeps.trans K2.out HK3.out)⟩⟩
      | false =>
        have HB := Lib.hid hb
        have HU : Hid (∀ v W, IntsAt W v (numsF D.files) → Calls Tryz.prog 34 #[v] W fun e w' => e = .returned (.bool true) ∧ W = w') := Lib.hid fun v W hv => by
          have := junwritten_any v _ W hv
          rw [unwr_broken, HB.out] at this
          exact this
        clear h1 hb
        go_wp2_with fail
        refine HF.out.mono ?_
        rintro e w3 ⟨v, rfl, hv, hk3⟩
        have HU2 := Lib.hid (HU.out v w3 hv)
        have HK3 := Lib.hid (Keeps.trans K2.out hk3)
        have CT3 := Lib.hid (CT2.out.keeps hk3)
        have HBE := Lib.hid (jbegin_any d D G w3 (HD.out.keeps HK3.out) HB.out)
        unfold ptrV at HBE
        clear hv hk3 HF HU
        go_wp2_with fail
        refine HU2.out.mono ?_
        rintro e w4 ⟨rfl, rfl⟩
        go_wp2_with fail
        refine HBE.out.mono ?_
        rintro e w5 ⟨g, rfl, hg, hlit, G', i5, f5, b5, hgG⟩
        have hBG : w1.heap.size ∉ G := fun hm => by have := hGl _ hm; have := HK.out.size; omega
        have c5 : CtAt w5 w1.heap.size (.int .i64 0) (.slice none 0 0) (.int .i64 0) (.int .i64 0) := (f5.block _ (block_lt CT3.out) hBG).trans CT3.out
        obtain ⟨z0, z1, z2, z3, fz⟩ := c5.cells
        have fz0 := fz 0
        have fz1 := fz 1
        have fz2 := fz 2
        have fz3 := fz 3
        have MID := Lib.hid (mid_none hGl HK3.out HK.out.size H1.out HB.out CT3.out hg hlit i5 f5 b5 hgG rfl)
        clear fz c5 hlit i5 f5 b5 hgG
        go_wp2
        go_meet
        exact MID.out
    · subst hq
      have HC := Lib.hid (jclean_any d D G k f (.slice p n c) w2 (HD.out.keeps K2.out) hf)
      unfold ctOf ptrV at HC
      rw [← hx, ← hz, ← hu] at HC
      have MID : Hid (∀ w3, Goes w2 w3 G d (keepD D k f).2 → OpenMid D d w1.heap.size G w (.int .i64 (keepD D k f).1) w3) := Lib.hid fun w3 g => mid_some rfl hGl HK.out K12.out (block_lt CT2.out) h1 hf hx hz (by
        have hn : n = (wholeP f.data).length := by
          obtain ⟨_, _, e⟩ := own_shape ho
          cases e; rfl
        rw [← hn] at ho ⊢
        exact ho) CT2.out g
      clear h1 hf hx hz hu ho
      go_wp2_with fail
      refine HC.out.mono ?_
      rintro e w3 ⟨rfl, g3⟩
      have M3 := Lib.hid (MID.out w3 g3)
      clear g3 HC MID
      go_wp2
      go_meet
      exact M3.out
  case rest =>
    obtain ⟨q, rfl, ⟨hq, D', hO, hg⟩ | ⟨rfl, D', J, s, l, g, M, c', u', G', hO, hct, hM, hMc, hcm, hmany, hst, hrow, i', f', b', hgG, hBG⟩⟩ := hcut
    · have t1 : (q == 0) = false := by simpa using hq
      have t2 : (q != 0) = true := by simpa using hq
      have HQ := Lib.hid hq
      have HG := Lib.hid hg
      clear hq hg
      go_wp2
      refine bodyPost_ret (jn_results4 rfl _ _ _) rfl ?_
      exact Or.inl ⟨q, D', hO, HQ.out, rfl, HG.out⟩
    · obtain ⟨x0, x1, x2, _⟩ := hct.cells
      obtain ⟨e0, e1, _, e2⟩ := txt_strs hrow hM
      obtain ⟨pt, ctl, ht, _⟩ := e1
      have hTR : ∀ W, (Instr.slice tR (.slice (some ⟨g, 0, none⟩) M c') (some (.int .i64 1)) none none).run Tryz.prog W = .ok (.slice pt l.length ctl) W := fun W => by rw [tail_run g M c' (by omega) hMc hcm W, ht]
      have HT := Lib.hid ht
      obtain ⟨ln, hln⟩ : ∃ n, l.length = n := ⟨_, rfl⟩
      obtain ⟨st, hst2⟩ : ∃ n, J.starts = n := ⟨_, rfl⟩
      obtain ⟨fl, hfl⟩ : ∃ n, J.file = n := ⟨_, rfl⟩
      obtain ⟨by_, hby⟩ : ∃ n, J.bytes = n := ⟨_, rfl⟩
      have CS : Hid (∀ W, Keeps wc W → Calls Tryz.prog 37 #[.pointer (some ⟨d, 0, none⟩)] W fun e w' => e = .returned (.int .i64 st) ∧ W = w') := Lib.hid fun W kW => by
        have := starts_any d D' G' W (i'.keeps kW)
        rw [← hst, hst2] at this
        exact this
      have HTX := Lib.hid (txt_tail hrow hM)
      have HJ : Hid (jnCells d J = #[.pointer (some ⟨d, 0, none⟩), .int .i64 st, .int .i64 fl, .int .i64 (by_ : Int), .int .i64 (ln : Int)]) := Lib.hid (by unfold jnCells ptrV; rw [hst2, hfl, hby, hmany, hln])
      have hM1 : 0 < M := by omega
      have hln9 : ln ≤ M := by omega
      unfold maxLen at hcm
      have HI := Lib.hid i'
      have HF := Lib.hid f'
      have HB := Lib.hid b'
      have HGG := Lib.hid hgG
      have HO := Lib.hid hO
      rw [hfl] at x0
      rw [hby] at x2
      have X0 := Lib.hid x0
      have X2 := Lib.hid x2
      rw [hln] at hTR
      have HLN := Lib.hid hln
      have HGL : Hid (g < wc.heap.size) := Lib.hid (by obtain ⟨_, _, _, cs, hee, hh⟩ := e2; exact block_lt hh)
      clear hct hM hmany hst hrow i' f' b' hgG hBG hO ht hln hst2 hfl hby e2
      go_upto_region 11 with (fail)
      go_region_held3 (fun W => W.cell? ⟨w1.heap.size, 1, none⟩ = some (.slice (some ⟨g, 0, none⟩) M c') ∧ W.cell? ⟨g, 0, none⟩ = some (sv s)) (first | assumption | go_keep) (fail)
      clear hTR
      go_wp2
      go_region_held3 (fun W => W.cell? ⟨w1.heap.size, 0, none⟩ = some (.int .i64 fl) ∧ W.cell? ⟨w1.heap.size, 2, none⟩ = some (.int .i64 (by_ : Int))) (first | exact ⟨X0.out, X2.out⟩ | exact ⟨cell_keeps (keeps_lit wc _) X0.out, cell_keeps (keeps_lit wc _) X2.out⟩ | (refine ⟨?_, ?_⟩ <;> assumption)) ((go_at_call 37; refine (CS.out _ ?_).mono ?_; exact ⟨rfl, rfl, rfl, Nat.le_refl _, fun _ _ => rfl⟩; rintro e w' ⟨rfl, rfl⟩))
      go_wp2
      refine bodyPost_ret (jn_results4 rfl _ _ _) rfl ?_
      have k0 := keeps_lit wc (.cells #[.pointer (some ⟨d, 0, none⟩), .int .i64 st, .int .i64 fl, .int .i64 (by_ : Int), .int .i64 (ln : Int)] tJn)
      have kF : Keeps wc (wc.alloc (.cells #[.pointer (some ⟨d, 0, none⟩), .int .i64 st, .int .i64 fl, .int .i64 (by_ : Int), .int .i64 (ln : Int)] tJn)).drew.drew := ⟨k0.os, k0.tape, k0.output, k0.size, k0.block⟩
      have hT2 : tailV g M c' = .slice pt ln ctl := by rw [HT.out, HLN.out]
      obtain ⟨tx, ts⟩ := HTX.out
      rw [hT2] at tx ts
      have hjn : JnAt (wc.alloc (.cells #[.pointer (some ⟨d, 0, none⟩), .int .i64 st, .int .i64 fl, .int .i64 (by_ : Int), .int .i64 (ln : Int)] tJn)).drew.drew wc.heap.size d J := by
        unfold JnAt
        rw [HJ.out]
        exact heap_lit (w := wc) rfl
      have hgX : g ∉ wc.heap.size :: G' := fun hm => by
        rcases List.mem_cons.1 hm with h | h
        · have := HGL.out; omega
        · exact HGG.out h
      refine Or.inr ⟨D', J, s, l, wc.heap.size, _, G', HO.out, rfl, ⟨HI.out.keeps kF, hjn, fun hm => by have := HI.out.lt _ hm; omega⟩, ⟨fun w' f => ts _ hgX w' ((Frame.of_keeps kF _).trans f fun x hx => Or.inl hx), tx.1.keeps kF, tx.2.1, tx.2.2.imp id fun ⟨g, o, n, c, cs, e, hh⟩ => ⟨g, o, n, c, cs, e, (kF.block g (block_lt hh)).trans hh⟩⟩, HF.out.size, HF.out.trans (Frame.of_keeps kF G) fun x hx => Or.inl hx, HB.out⟩
end Go.Proofs.YtlaepdpgegoopaaGreat
namespace Go.Proofs.YtlaepdpgegoopaaGreat
end Go.Proofs.YtlaepdpgegoopaaGreat
