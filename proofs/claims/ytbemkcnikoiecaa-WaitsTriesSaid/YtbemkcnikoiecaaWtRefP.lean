
/- The document's waits: Has, Put, Start, Due. -/
import Derived.Test.YtbemkcnikoiecaaWtRef
import Derived.Test.YtbemkcnikoiecaaKyRefG
set_option linter.unusedVariables false
set_option linter.unusedSimpArgs false
namespace Go.Proofs.Ytbemkcnikoiecaa
open Go.ChangeShapes Go.WideShapes Go.ChangeAt Go.RowKit Csv Ky
namespace Wt
theorem wr_has (v : Value) (l : List W5) (o d : Int) (w : World) (h : rwK.Src w v l) (hl : l.length ≤ 1000) :
    Calls Try.prog 14 #[v, kyV o d] w fun e w' => e = .returned (.bool (hasB l o d)) ∧ Keeps w w' := by
  obtain ⟨w1, hw1⟩ : ∃ w1, w.alloc (keBox o d) = w1 := ⟨_, rfl⟩
  have K1 : Hid (Keeps w w1) := Lib.hid (hw1 ▸ wbox _ _)
  have B1 : Hid (w1.heap[w.heap.size]? = some (keBox o d)) := Lib.hid (hw1 ▸ heap_alloc_new _ _)
  have CS := Lib.hid (wr_stop v l o d w1 (RowK.Src.keeps rwK h K1.out) hl)
  have HH := Lib.hid (has_len l o d)
  obtain ⟨p0, c0, rfl⟩ := src_slice rwK h
  obtain ⟨n, hn⟩ : ∃ n, l.length = n := ⟨_, rfl⟩
  rw [hn] at CS HH ⊢
  obtain ⟨z0, z1⟩ := ke_box_cells B1.out
  have EW1 := Lib.hid hw1
  generalize hasB l o d = B at HH ⊢
  generalize (stopL l o d).length = M at CS HH
  clear h hn hw1 hl
  unfold keBox at EW1
  unfold kyV at *
  go_enter Try.func14, Try.ntmps14
  go_upto_region 1 with (fail)
  rw [EW1.out]
  clear EW1
  go_wp2_with fail
  refine CS.out.mono ?_
  rintro e w2 ⟨p, c, rfl, _, k2⟩
  have K2 := Lib.hid (K1.out.trans k2)
  clear k2
  go_wp2
  go_ret
  exact ⟨by rw [← HH.out]; simp, K2.out⟩
theorem wrow_take {α : Type} (K : RowK α) (l : List α) (m : Nat) : K.row (l.take m) = (K.row l).take (m * K.sz) := by
  induction l generalizing m with
  | nil => simp [RowK.row]
  | cons x r ih =>
    cases m with
    | zero => simp [RowK.row]
    | succ m =>
      have e : K.row (x :: r) = K.cells x ++ K.row r := rfl
      have e2 : K.row ((x :: r).take (m + 1)) = K.cells x ++ K.row (r.take m) := rfl
      rw [e2, e, ih, Nat.add_mul, Nat.one_mul, Nat.add_comm (m * K.sz), List.take_append, K.len, Nat.add_sub_cancel_left, List.take_of_length_le (l := K.cells x) (by rw [K.len]; omega)]
theorem wrow_drop {α : Type} (K : RowK α) (l : List α) (m : Nat) : K.row (l.drop m) = (K.row l).drop (m * K.sz) := by
  induction l generalizing m with
  | nil => simp [RowK.row]
  | cons x r ih =>
    cases m with
    | zero => simp [RowK.row]
    | succ m =>
      have e : K.row (x :: r) = K.cells x ++ K.row r := rfl
      have e2 : K.row ((x :: r).drop (m + 1)) = K.row (r.drop m) := rfl
      rw [e2, e, ih, Nat.add_mul, Nat.one_mul, Nat.add_comm (m * K.sz), List.drop_append, K.len, Nat.add_sub_cancel_left, List.drop_of_length_le (l := K.cells x) (by rw [K.len]; omega), List.nil_append]
/-- What Put makes: the same row, or a new one. -/
structure PutOut (w w' : World) (v v' : Value) (l l' : List W5) : Prop where
  src : rwK.Src w' v' l'
  own : (v' = v ∧ l' = l) ∨ rwK.Own w.heap.size w' v' l'
  keeps : Keeps w w'
/-- A copy of a row, in a region that draws: all that was there is kept. -/
theorem stepCopyKeep {α : Type} (R : RowK α) {w : World} {ops : Array Oper} {o : Oper} {a : Act} {K : Act → World → Prop} {Q : Exit → Act → World → Prop} {E : Prop} (hgd : o.guard = none) (sl x : Operand)
    (ho : o.op = .call { callee := .builtin .append, args := #[sl, x], argTypes := #[R.ts, R.ts] }) (ht : o.type = R.ts) (src : Value) (M : List α) (m : Nat) (hm : M.length = m) (hs : a.eval sl = .slice none 0 0) (hx : a.eval x = src) (hsrc : R.Src w src M) (hn : M.length ≤ 100000)
    (h : ∀ p' c' w', R.Own w.heap.size w' (.slice p' m c') M → Keeps w w' → K (a.put o.dst (.slice p' m c')) w') : if Region.wanted o (yielded ops a.tmps) = true then Oper.wp Try.prog o a w K Q else E := by
  subst hm
  obtain ⟨p', c', w', h1, h2, h3⟩ := R.copy_row w src M hsrc hn
  exact stepAppendKnown hgd sl x _ _ ho _ _ _ w' hs hx (by rw [ht]; exact h1) (h p' c' w' h2 h3)
theorem own_front {α : Type} (K : RowK α) {B g n c m : Nat} {W : World} {l : List α} (h : K.Own B W (.slice (some ⟨g, 0, none⟩) n c) l) (hm : m ≤ l.length) : K.Src W (.slice (some ⟨g, 0, none⟩) m c) (l.take m) := by
  refine ⟨_, c, by rw [List.length_take, Nat.min_eq_left hm], (fun e => by cases e), fun a ha j u hu => ?_⟩
  obtain ⟨p, c', e, e0, hs⟩ := RowK.own_src K h
  simp only [Value.slice.injEq] at e
  obtain ⟨rfl, _, rfl⟩ := e
  refine hs a ha j u ?_
  rw [wrow_take, List.getElem?_take] at hu
  split at hu
  · exact hu
  · cases hu
theorem own_back {α : Type} (K : RowK α) {B g n c m : Nat} {W : World} {l : List α} (h : K.Own B W (.slice (some ⟨g, 0, none⟩) n c) l) (c2 : Nat) : K.Src W (.slice (some ⟨g, m * K.sz, none⟩) (l.length - m) c2) (l.drop m) := by
  refine ⟨_, c2, by rw [List.length_drop], (fun e => by cases e), fun a ha j u hu => ?_⟩
  cases ha
  obtain ⟨p, c', e, e0, hs⟩ := RowK.own_src K h
  simp only [Value.slice.injEq] at e
  obtain ⟨rfl, _, rfl⟩ := e
  rw [wrow_drop, List.getElem?_drop] at hu
  have := hs _ rfl _ u hu
  rw [addr_of] at this
  rw [← this]
  congr 1
  unfold Addr.add
  split
  · simp_all
  · simp
theorem ins_split (l : List W5) (y : W5) : ∃ k, k ≤ l.length ∧ l.takeWhile (ahead y) = l.take k ∧ l.dropWhile (ahead y) = l.drop k ∧ (∀ j x, j < k → l[j]? = some x → ahead y x = true) ∧ (∀ x, l[k]? = some x → ahead y x = false) := by
  induction l with
  | nil => exact ⟨0, by simp, rfl, rfl, fun j x hj => by omega, fun x hx => by simp at hx⟩
  | cons a r ih =>
    by_cases ha : ahead y a = true
    · obtain ⟨k, h1, h2, h3, h4, h5⟩ := ih
      refine ⟨k + 1, by simp; omega, by simp [ha, h2], by simp [ha, h3], fun j x hj hx => ?_, fun x hx => h5 x (by simpa using hx)⟩
      cases j with
      | zero => simp at hx; subst hx; exact ha
      | succ j => exact h4 j x (by omega) (by simpa using hx)
    · have ha' : ahead y a = false := by simpa using ha
      exact ⟨0, by simp, by simp [ha'], by simp [ha'], fun j x hj => by omega, fun x hx => by simp at hx; subst hx; exact ha'⟩
set_option maxHeartbeats 8000000 in
set_option maxRecDepth 100000 in
theorem wr_put (v : Value) (l : List W5) (y : W5) (w : World) (h : rwK.Src w v l) (hl : l.length ≤ 1000) :
    Calls Try.prog 29 #[v, wtV y] w fun e w' => ∃ v', e = .returned v' ∧ PutOut w w' v v' l (putL l y) := by
  obtain ⟨w1, hw1⟩ : ∃ w1, w.alloc (wtBox tRw y) = w1 := ⟨_, rfl⟩
  have K1 : Hid (Keeps w w1) := Lib.hid (hw1 ▸ wbox _ _)
  have B1 : Hid (w1.heap[w.heap.size]? = some (wtBox tRw y)) := Lib.hid (hw1 ▸ heap_alloc_new _ _)
  have CC := Lib.hid (kr_check y.o y.d w1)
  have HS := Lib.hid h
  have CS : Hid (∀ X, Keeps w1 X → Calls Try.prog 13 #[v, kyV y.o y.d] X fun e w' => ∃ p c, e = .returned (.slice p (stopL l y.o y.d).length c) ∧ rwK.Own X.heap.size w' (.slice p (stopL l y.o y.d).length c) (stopL l y.o y.d) ∧ Keeps X w') := Lib.hid fun X k => wr_stop v l y.o y.d X (RowK.Src.keeps rwK h (K1.out.trans k)) hl
  have HBX : Hid (∀ X, Keeps w1 X → X.cell? ⟨w.heap.size, 0, none⟩ = some (.int .i64 y.o) ∧ X.cell? ⟨w.heap.size, 1, none⟩ = some (.int .i64 y.d) ∧ X.cell? ⟨w.heap.size, 2, none⟩ = some (.int .i64 y.t) ∧ X.cell? ⟨w.heap.size, 3, none⟩ = some (.int .i64 y.n) ∧ X.cell? ⟨w.heap.size, 4, none⟩ = some (.bool y.p)) := Lib.hid fun X k => (wt_box_cells (wbox_keep B1.out k)).1
  have CL := Lib.hid fun (x : W5) X => kr_less x.o x.d y.o y.d X
  have ML : Hid ((stopL l y.o y.d).length ≤ 1000) := Lib.hid (Nat.le_trans (stop_len l y.o y.d) hl)
  obtain ⟨q0, q1, q2, q3, q4⟩ := HBX.out _ (Keeps.refl _)
  have EW1 := Lib.hid hw1
  obtain ⟨L, hL⟩ : ∃ L, stopL l y.o y.d = L := ⟨_, rfl⟩
  have HL := Lib.hid hL
  rw [hL] at CS ML
  obtain ⟨n, hn⟩ : ∃ n, L.length = n := ⟨_, rfl⟩
  have HN := Lib.hid hn
  rw [hn] at CS ML
  obtain ⟨B, hB⟩ : ∃ B, checkK y.o y.d = B := ⟨_, rfl⟩
  have HB := Lib.hid hB
  rw [hB] at CC
  obtain ⟨p0, c0, rfl⟩ := src_slice rwK h
  clear h hl hw1 hL hn hB
  unfold wtBox at EW1
  unfold wtV
  unfold kyV at CC CS CL
  cases B with
  | false =>
    have EP : Hid (putL l y = l) := Lib.hid (by unfold putL; rw [if_neg (by rw [HB.out]; exact Bool.false_ne_true)])
    go_enter Try.func29, Try.ntmps29
    go_upto_region 1 with (fail)
    rw [EW1.out]
    clear EW1
    go_wp2_with fail
    refine CC.out.mono ?_
    rintro e w2 ⟨rfl, k2⟩
    have K2 := Lib.hid (K1.out.trans k2)
    clear k2
    go_wp2
    go_ret
    exact ⟨_, rfl, by rw [EP.out]; exact ⟨RowK.Src.keeps rwK HS.out K2.out, Or.inl ⟨rfl, rfl⟩, K2.out⟩⟩
  | true =>
    obtain ⟨m, hm, et, ed, hbe, hst⟩ := ins_split L y
    have EP : Hid (putL l y = L.take m ++ y :: L.drop m) := Lib.hid (by unfold putL insL; rw [if_pos HB.out, HL.out, et, ed])
    have HBE := Lib.hid hbe
    have HST := Lib.hid hst
    have HM := Lib.hid hm
    clear hm et ed hbe hst
    go_enter Try.func29, Try.ntmps29
    go_upto_region 1 with (fail)
    rw [EW1.out]
    clear EW1
    go_wp2_with fail
    refine CC.out.mono ?_
    rintro e w2 ⟨rfl, k2⟩
    have K2 := Lib.hid k2
    clear k2 q0 q1 q2 q3 q4
    obtain ⟨q0, q1, q2, q3, q4⟩ := HBX.out _ K2.out
    go_wp2_with fail
    refine (CS.out _ K2.out).mono ?_
    rintro e w3 ⟨p3, c3, rfl, o3, k3⟩
    have O3 := Lib.hid o3
    have K3 := Lib.hid (K2.out.trans k3)
    have SRC : Hid (∀ X, Keeps w3 X → rwK.Src X (.slice p3 n c3) L) := Lib.hid fun X kX => RowK.Src.keeps rwK (rwK.own_src o3) kX
    clear o3 k3 q0 q1 q2 q3 q4 CS CC
    have PS : Hid ((p3 = none ∧ n = 0 ∧ c3 = 0) ∨ ∃ g, p3 = some ⟨g, 0, none⟩ ∧ n ≤ c3) := Lib.hid (by
      rcases O3.out.2 with ⟨e, h0⟩ | ⟨g, cap, cur, e, _, _, r1, _⟩
      · simp only [Value.slice.injEq] at e
        exact Or.inl ⟨e.1, e.2.1, e.2.2⟩
      · simp only [Value.slice.injEq] at e
        obtain ⟨rfl, rfl, rfl⟩ := e
        rw [HN.out] at r1
        exact Or.inr ⟨g, rfl, r1⟩)
    go_wp2_with fail
    go_loopg [5] m (fun g v5 X => ∃ k : Nat, k + g = m ∧ v5 = .int .i64 (k : Int) ∧ Keeps w3 X)
    case atStart => exact ⟨0, by omega, rfl, Keeps.refl _⟩
    case round =>
      obtain ⟨k, hk, rfl, hw⟩ := hrel
      have HI := Lib.hid hk
      have HV := Lib.hid hw
      have hkn : k ≤ n := by have := HM.out; have := HN.out; omega
      clear hw
      obtain ⟨lb, hlb⟩ : ∃ lb : Bool, (lb = true ↔ ∃ x, L[k]? = some x ∧ ahead y x = true) := by
        cases hx : L[k]? with
        | none => exact ⟨false, by simp⟩
        | some x =>
          cases hb : ahead y x with
          | false => exact ⟨false, by simp [hb]⟩
          | true => exact ⟨true, by simp [hb]⟩
      have HLB := Lib.hid hlb
      clear hlb
      go_upto_region 5 with (fail)
      go_cut [28] (fun v W => v = .bool lb ∧ Keeps wr W)
      case first =>
        by_cases hlt : k < n
        rotate_left
        · have hkN : k = n := by omega
          have hlf : lb = false := by
            cases lb with
            | false => rfl
            | true =>
              obtain ⟨x, hx, _⟩ := HLB.out.1 rfl
              have h1 := (List.getElem?_eq_some_iff.1 hx).1
              have h2 := HN.out
              omega
          subst hlf hkN
          have hd : decide ((k : Int) < (k : Int)) = false := decide_eq_false (by omega)
          go_quiet (fail)
          have KQ := Lib.hid (wdrewN (Keeps.refl wr) nq)
          go_wp2
          go_meet
          case rel => exact ⟨rfl, KQ.out⟩
        · obtain ⟨x, hx⟩ : ∃ x, L[k]? = some x := ⟨_, List.getElem?_eq_getElem (by rw [HN.out]; exact hlt)⟩
          have hlx : lb = ahead y x := by
            cases hb : ahead y x with
            | true => exact HLB.out.2 ⟨x, hx, hb⟩
            | false =>
              cases lb with
              | false => rfl
              | true =>
                obtain ⟨z, hz, h2⟩ := HLB.out.1 rfl
                rw [hx] at hz
                cases hz
                rw [hb] at h2; cases h2
          obtain ⟨a, rfl⟩ := src_some rwK (SRC.out _ (Keeps.refl _)) hx
          have MX : Hid (∀ X, Keeps w3 X → WtAt X (a.add (k * 5)) x) := Lib.hid fun X kX => src_rw (SRC.out X kX) hx
          have hd : decide ((k : Int) < (n : Int)) = true := decide_eq_true (by omega)
          have hi1 : (k : Int) < (n : Int) := by omega
          have hi0 : (0 : Int) ≤ (k : Int) := by omega
          have CL2 : Hid (∀ W, Keeps wr W → Calls Try.prog 42 #[.agg #[.int .i64 x.o, .int .i64 x.d], .agg #[.int .i64 y.o, .int .i64 y.d]] W fun e w' => e = .returned (.bool lb) ∧ Keeps wr w') := Lib.hid fun W kk => Calls.mono ((show lb = lessK x.o x.d y.o y.d from hlx) ▸ CL.out x W) fun e w' h => ⟨h.1, kk.trans h.2⟩
          have CS : Hid (∀ W, Keeps wr W → (W.cell? ⟨w.heap.size, 0, none⟩ = some (.int .i64 y.o) ∧ W.cell? ⟨w.heap.size, 1, none⟩ = some (.int .i64 y.d)) ∧ (W.cell? (a.add (k * 5)) = some (.int .i64 x.o) ∧ W.cell? ⟨(a.add (k * 5)).block, (a.add (k * 5)).off + 1, none⟩ = some (.int .i64 x.d))) := Lib.hid fun W kk => by
            obtain ⟨d0, d1, _⟩ := MX.out W (HV.out.trans kk)
            obtain ⟨r0, r1, _⟩ := HBX.out W (K3.out.trans (HV.out.trans kk))
            exact ⟨⟨r0, r1⟩, ⟨d0, d1⟩⟩
          have HX := Lib.hid (Keeps.refl wr)
          clear hx hlx hlt hk
          obtain ⟨⟨y0, y1⟩, ⟨z0, z1⟩⟩ := CS.out _ HX.out
          go_region_held3 (fun W => (W.cell? ⟨w.heap.size, 0, none⟩ = some (.int .i64 y.o) ∧ W.cell? ⟨w.heap.size, 1, none⟩ = some (.int .i64 y.d)) ∧ (W.cell? (a.add (k * 5)) = some (.int .i64 x.o) ∧ W.cell? ⟨(a.add (k * 5)).block, (a.add (k * 5)).off + 1, none⟩ = some (.int .i64 x.d)))
            (first | exact CS.out _ HX.out | exact CS.out _ (HX.out.trans (ky_drew _)) | assumption)
            ((go_at_call 42; refine (CL2.out _ (HX.out.trans (ky_drew _))).mono ?_; clear HX CL2; rintro e wv ⟨rfl, hv⟩; have HX := Lib.hid hv; have zv := CS.out _ hv; clear hv))
          go_wp2
          go_meet
          case rel => exact ⟨rfl, HX.out⟩
      case rest =>
      obtain ⟨rfl, hkq⟩ := hcut
      have KC : Hid (Keeps w3 wc) := Lib.hid (HV.out.trans hkq)
      clear hkq
      cases gk with
      | succ g =>
        obtain rfl : lb = true := by
          obtain ⟨x, hx⟩ : ∃ x, L[k]? = some x := ⟨_, List.getElem?_eq_getElem (by have := HM.out; have := HI.out; omega)⟩
          exact HLB.out.2 ⟨x, hx, HBE.out k x (by have := HI.out; omega) hx⟩
        have wi : Hid (wrap64 ((k : Int) + 1) = (k : Int) + 1) := Lib.hid (i64w (by unfold top; omega) (by have := ML.out; unfold top; omega))
        go_wp2_with fail
        go_roundg g
        case measure => omega
        case rel => exact ⟨k + 1, by have := HI.out; omega, by first | (rw [wi.out]; rfl) | rfl | go_num, KC.out⟩
      | zero =>
      obtain rfl : k = m := by have := HI.out; omega
      obtain rfl : lb = false := by
        cases lb with
        | false => rfl
        | true =>
          obtain ⟨x, hx, hax⟩ := HLB.out.1 rfl
          rw [HST.out x hx] at hax
          cases hax
      have KW3 : Hid (Keeps w1 wc) := Lib.hid (K3.out.trans KC.out)
      have NT : Hid ((L.take k).length = k) := Lib.hid (by rw [List.length_take, HN.out]; omega)
      have LT : Hid ((L.take k).length ≤ 100000) := Lib.hid (by rw [NT.out]; have := ML.out; omega)
      have N2 : Hid ((L.take k).length + [y].length = k + 1) := Lib.hid (by rw [NT.out]; rfl)
      have L2 : Hid ((L.take k).length + [y].length ≤ 100000) := Lib.hid (by rw [N2.out]; have := ML.out; omega)
      have N3 : Hid ((L.take k ++ [y]).length + (L.drop k).length = n + 1) := Lib.hid (by rw [List.length_append, NT.out, List.length_drop, HN.out, List.length_singleton]; omega)
      have L3 : Hid ((L.take k ++ [y]).length + (L.drop k).length ≤ 100000) := Lib.hid (by rw [N3.out]; have := ML.out; omega)
      have DONE : Hid (∀ p c W7, rwK.Own wc.heap.size W7 (.slice p (n + 1) c) (L.take k ++ [y] ++ L.drop k) → Keeps wc W7 → ∃ v', Ending.returned (.slice p (n + 1) c) = .returned v' ∧ PutOut w W7 (.slice p0 l.length c0) v' l (putL l y)) := Lib.hid fun p c W7 o7 k7 => by
        have e : L.take k ++ [y] ++ L.drop k = putL l y := by rw [EP.out]; simp
        rw [e] at o7
        have kk := K1.out.trans (KW3.out.trans k7)
        refine ⟨_, rfl, rwK.own_src o7, Or.inr (rwK.own_base o7 fun g hg => ?_), kk⟩
        have := (rwK.own_lt o7 g hg).1
        have := (K1.out.trans KW3.out).size
        omega
      clear HLB HBE HST HI CL
      by_cases hck : c3 = k
      · subst hck
        obtain rfl : n = c3 := by
          rcases PS.out with ⟨_, e, e2⟩ | ⟨_, _, hc3⟩ <;> omega
        have TL : L.take n = L := List.take_of_length_le (by rw [HN.out]; exact Nat.le_refl _)
        have SF : Hid (rwK.Src wc (.slice p3 n n) (L.take n)) := Lib.hid (by rw [TL]; exact SRC.out _ KC.out)
        have SB : Hid (rwK.Src wc (.slice p3 0 0) (L.drop n)) := Lib.hid (by
          rw [List.drop_of_length_le (by rw [HN.out]; exact Nat.le_refl _)]
          exact ⟨p3, 0, rfl, fun _ => ⟨rfl, rfl⟩, fun a ha j u hu => by simp [RowK.row] at hu⟩)
        clear TL PS hkn
        have kk := Nat.le_refl n
        go_upto_region 7 with (fail)
      -- region 1
        refine wp_region_held_drew (S := fun X => Keeps wc X) (by kernel_rfl) (wdrew _) (fun hHeld => ?_)
        refine takeH (i := 0) (d := some 31) (v := ?vxa0) rfl rfl (by kernel_rfl) (by kernel_rfl) (by kernel_rfl) (fun _ _ _ h => h) (Or.inl ⟨by rfl, ?yxa0⟩) (by assumption) ?rxa0
        case yxa0 => (intro W hSw; go_simp; try with_reducible rfl)
        try simp only [Act.put, List.getElem_toArray, List.getElem_cons_succ, List.getElem_cons_zero, List.setIfInBounds_toArray, List.set_cons_zero, List.set_cons_succ]
        refine takeH (i := 1) (d := some 32) (v := ?vxa1) rfl rfl (by kernel_rfl) (by kernel_rfl) (by kernel_rfl) (fun _ _ _ h => h) (Or.inl ⟨by rfl, ?yxa1⟩) (by assumption) ?rxa1
        case yxa1 => (intro W hSw; go_simp; try with_reducible rfl)
        try simp only [Act.put, List.getElem_toArray, List.getElem_cons_succ, List.getElem_cons_zero, List.setIfInBounds_toArray, List.set_cons_zero, List.set_cons_succ]
        refine takeH (i := 2) (d := some 33) (v := ?vxa2) rfl rfl (by kernel_rfl) (by kernel_rfl) (by kernel_rfl) (fun _ _ _ h => h) (Or.inl ⟨by rfl, ?yxa2⟩) (by assumption) ?rxa2
        case yxa2 => (intro W hSw; go_simp; try with_reducible rfl)
        try simp only [Act.put, List.getElem_toArray, List.getElem_cons_succ, List.getElem_cons_zero, List.setIfInBounds_toArray, List.set_cons_zero, List.set_cons_succ]
        refine takeH (i := 4) (d := some 35) (v := ?vxa4) rfl rfl (by kernel_rfl) (by kernel_rfl) (by kernel_rfl) (fun _ _ _ h => h) (Or.inl ⟨by rfl, ?yxa4⟩) (by assumption) ?rxa4
        case yxa4 => (intro W hSw; obtain ⟨q0, q1, q2, q3, q4⟩ := HBX.out W (KW3.out.trans hSw); go_simp; try with_reducible rfl)
        try simp only [Act.put, List.getElem_toArray, List.getElem_cons_succ, List.getElem_cons_zero, List.setIfInBounds_toArray, List.set_cons_zero, List.set_cons_succ]
        refine takeH (i := 7) (d := some 38) (v := ?vxa7) rfl rfl (by kernel_rfl) (by kernel_rfl) (by kernel_rfl) (fun _ _ _ h => h) (Or.inl ⟨by rfl, ?yxa7⟩) (by assumption) ?rxa7
        case yxa7 => (intro W hSw; go_simp; try with_reducible rfl)
        try simp only [Act.put, List.getElem_toArray, List.getElem_cons_succ, List.getElem_cons_zero, List.setIfInBounds_toArray, List.set_cons_zero, List.set_cons_succ]
        refine takeH (i := 8) (d := some 39) (v := ?vxa8) rfl rfl (by kernel_rfl) (by kernel_rfl) (by kernel_rfl) (fun _ _ _ h => h) (Or.inl ⟨by rfl, ?yxa8⟩) (by assumption) ?rxa8
        case yxa8 => (intro W hSw; go_simp; try with_reducible rfl)
        try simp only [Act.put, List.getElem_toArray, List.getElem_cons_succ, List.getElem_cons_zero, List.setIfInBounds_toArray, List.set_cons_zero, List.set_cons_succ]
        refine takeH (i := 9) (d := some 40) (v := ?vxa9) rfl rfl (by kernel_rfl) (by kernel_rfl) (by kernel_rfl) (fun _ _ _ h => h) (Or.inl ⟨by rfl, ?yxa9⟩) (by assumption) ?rxa9
        case yxa9 => (intro W hSw; go_simp; try with_reducible rfl)
        try simp only [Act.put, List.getElem_toArray, List.getElem_cons_succ, List.getElem_cons_zero, List.setIfInBounds_toArray, List.set_cons_zero, List.set_cons_succ]
        refine wpAnyH_ready (rs := [3, 5]) (by kernel_rfl) (by simp) ?_
        refine AllReadyH.cons rfl (fun K hK => ?_) (AllReadyH.cons rfl (fun K hK => ?_) AllReadyH.nil)
        · refine stepCopyKeep rwK rfl _ _ rfl rfl _ (L.take n) n NT.out rfl rfl (RowK.Src.keeps rwK SF.out (wdrew wc)) LT.out ?_
          intro p3 c3 W3 o3 k3
          have K3 : Keeps wc W3 := Keeps.trans (wdrew wc) k3
          refine hK.out _ _ (K3) (fun hHeld => ?_)
          clear hK K
          try simp only [Act.put, List.getElem_toArray, List.getElem_cons_succ, List.getElem_cons_zero, List.setIfInBounds_toArray, List.set_cons_zero, List.set_cons_succ]
          refine wpAnyH_ready (rs := [5]) (by kernel_rfl) (by simp) ?_
          refine AllReadyH.cons rfl (fun K hK => ?_) AllReadyH.nil
          go_simp
          refine hK.out _ _ (Keeps.trans K3 (wbox _ _)) (fun hHeld => ?_)
          clear hK K
          try simp only [Act.put, List.getElem_toArray, List.getElem_cons_succ, List.getElem_cons_zero, List.setIfInBounds_toArray, List.set_cons_zero, List.set_cons_succ]
          refine wpAnyH_ready (rs := [6]) (by kernel_rfl) (by simp) ?_
          refine AllReadyH.cons rfl (fun K hK => ?_) AllReadyH.nil
          refine stepAppOwnK rwK rfl _ _ rfl rfl wc.heap.size (Keeps.trans K3 (wbox W3 (.cells #[.int .i64 y.o, .int .i64 y.d, .int .i64 y.t, .int .i64 y.n, .bool y.p] tRw))).size (.slice p3 n c3) _ (L.take n) [y] (n + 1) N2.out rfl rfl (rwK.own_keeps (rwK.own_base o3 (fun j hj => (rwK.own_lt o3 j hj).1)) (wbox _ _)) (wt_src1 W3 y) L2.out ?_
          intro p6 c6 W6 o6 g6
          have K6 : Keeps wc W6 := own_grown rwK (Keeps.trans K3 (wbox W3 (.cells #[.int .i64 y.o, .int .i64 y.d, .int .i64 y.t, .int .i64 y.n, .bool y.p] tRw))) (rwK.own_keeps (rwK.own_base o3 (fun j hj => (rwK.own_lt o3 j hj).1)) (wbox _ _)) g6
          refine hK.out _ _ (K6) (fun hHeld => ?_)
          clear hK K
          try simp only [Act.put, List.getElem_toArray, List.getElem_cons_succ, List.getElem_cons_zero, List.setIfInBounds_toArray, List.set_cons_zero, List.set_cons_succ]
          refine wpAnyH_ready (rs := [10]) (by kernel_rfl) (by simp) ?_
          refine AllReadyH.cons rfl (fun K hK => ?_) AllReadyH.nil
          refine stepAppOwnK rwK rfl _ _ rfl rfl wc.heap.size K6.size (.slice p6 (n + 1) c6) _ (L.take n ++ [y]) (L.drop n) (n + 1) N3.out rfl rfl o6 (RowK.Src.keeps rwK SB.out K6) L3.out ?_
          intro p7 c7 W7 o7 g7
          have K7 : Keeps wc W7 := own_grown rwK K6 o6 g7
          refine hK.out _ _ (K7) (fun hHeld => ?_)
          clear hK K
          try simp only [Act.put, List.getElem_toArray, List.getElem_cons_succ, List.getElem_cons_zero, List.setIfInBounds_toArray, List.set_cons_zero, List.set_cons_succ]
          refine takeH (i := 11) (d := some 4) (v := ?vxb11) rfl rfl (by kernel_rfl) (by kernel_rfl) (by kernel_rfl) (fun _ _ _ h => h) (Or.inl ⟨by rfl, ?yxb11⟩) (by assumption) ?rxb11
          case yxb11 => (intro W hSw; go_simp; try with_reducible rfl)
          try simp only [Act.put, List.getElem_toArray, List.getElem_cons_succ, List.getElem_cons_zero, List.setIfInBounds_toArray, List.set_cons_zero, List.set_cons_succ]
          refine wpAnyH_done (by kernel_rfl) ?_ _
          go_wp2
          go_ret
          exact DONE.out _ _ _ o7 K7
        · go_simp
          refine hK.out _ _ (show Keeps wc ((wc.drew).alloc (.cells #[.int .i64 y.o, .int .i64 y.d, .int .i64 y.t, .int .i64 y.n, .bool y.p] tRw)) from Keeps.trans (wdrew _) (wbox _ _)) (fun hHeld => ?_)
          clear hK K
          try simp only [Act.put, List.getElem_toArray, List.getElem_cons_succ, List.getElem_cons_zero, List.setIfInBounds_toArray, List.set_cons_zero, List.set_cons_succ]
          refine wpAnyH_ready (rs := [3]) (by kernel_rfl) (by simp) ?_
          refine AllReadyH.cons rfl (fun K hK => ?_) AllReadyH.nil
          refine stepCopyKeep rwK rfl _ _ rfl rfl _ (L.take n) n NT.out rfl rfl (RowK.Src.keeps rwK SF.out (show Keeps wc ((wc.drew).alloc (.cells #[.int .i64 y.o, .int .i64 y.d, .int .i64 y.t, .int .i64 y.n, .bool y.p] tRw)) from Keeps.trans (wdrew _) (wbox _ _))) LT.out ?_
          intro p3 c3 W3 o3 k3
          have K3 : Keeps wc W3 := Keeps.trans (show Keeps wc ((wc.drew).alloc (.cells #[.int .i64 y.o, .int .i64 y.d, .int .i64 y.t, .int .i64 y.n, .bool y.p] tRw)) from Keeps.trans (wdrew _) (wbox _ _)) k3
          refine hK.out _ _ (K3) (fun hHeld => ?_)
          clear hK K
          try simp only [Act.put, List.getElem_toArray, List.getElem_cons_succ, List.getElem_cons_zero, List.setIfInBounds_toArray, List.set_cons_zero, List.set_cons_succ]
          refine wpAnyH_ready (rs := [6]) (by kernel_rfl) (by simp) ?_
          refine AllReadyH.cons rfl (fun K hK => ?_) AllReadyH.nil
          refine stepAppOwnK rwK rfl _ _ rfl rfl wc.heap.size (K3).size (.slice p3 n c3) _ (L.take n) [y] (n + 1) N2.out rfl rfl (rwK.own_base o3 (fun j hj => Nat.le_trans (wbox (wc.drew) (.cells #[.int .i64 y.o, .int .i64 y.d, .int .i64 y.t, .int .i64 y.n, .bool y.p] tRw)).size (rwK.own_lt o3 j hj).1)) (RowK.Src.keeps rwK (wt_src1 wc.drew y) k3) L2.out ?_
          intro p6 c6 W6 o6 g6
          have K6 : Keeps wc W6 := own_grown rwK (K3) (rwK.own_base o3 (fun j hj => Nat.le_trans (wbox (wc.drew) (.cells #[.int .i64 y.o, .int .i64 y.d, .int .i64 y.t, .int .i64 y.n, .bool y.p] tRw)).size (rwK.own_lt o3 j hj).1)) g6
          refine hK.out _ _ (K6) (fun hHeld => ?_)
          clear hK K
          try simp only [Act.put, List.getElem_toArray, List.getElem_cons_succ, List.getElem_cons_zero, List.setIfInBounds_toArray, List.set_cons_zero, List.set_cons_succ]
          refine wpAnyH_ready (rs := [10]) (by kernel_rfl) (by simp) ?_
          refine AllReadyH.cons rfl (fun K hK => ?_) AllReadyH.nil
          refine stepAppOwnK rwK rfl _ _ rfl rfl wc.heap.size K6.size (.slice p6 (n + 1) c6) _ (L.take n ++ [y]) (L.drop n) (n + 1) N3.out rfl rfl o6 (RowK.Src.keeps rwK SB.out K6) L3.out ?_
          intro p7 c7 W7 o7 g7
          have K7 : Keeps wc W7 := own_grown rwK K6 o6 g7
          refine hK.out _ _ (K7) (fun hHeld => ?_)
          clear hK K
          try simp only [Act.put, List.getElem_toArray, List.getElem_cons_succ, List.getElem_cons_zero, List.setIfInBounds_toArray, List.set_cons_zero, List.set_cons_succ]
          refine takeH (i := 11) (d := some 4) (v := ?vxc11) rfl rfl (by kernel_rfl) (by kernel_rfl) (by kernel_rfl) (fun _ _ _ h => h) (Or.inl ⟨by rfl, ?yxc11⟩) (by assumption) ?rxc11
          case yxc11 => (intro W hSw; go_simp; try with_reducible rfl)
          try simp only [Act.put, List.getElem_toArray, List.getElem_cons_succ, List.getElem_cons_zero, List.setIfInBounds_toArray, List.set_cons_zero, List.set_cons_succ]
          refine wpAnyH_done (by kernel_rfl) ?_ _
          go_wp2
          go_ret
          exact DONE.out _ _ _ o7 K7
      -- region 1 end
      · obtain ⟨g, rfl, hc3⟩ : ∃ g, p3 = some ⟨g, 0, none⟩ ∧ n ≤ c3 := by
          rcases PS.out with ⟨_, e, e2⟩ | h
          · omega
          · exact h
        have SF : Hid (rwK.Src wc (.slice (some ⟨g, 0, none⟩) k c3) (L.take k)) := Lib.hid (own_front rwK (rwK.own_keeps O3.out KC.out) (by rw [HN.out]; exact hkn))
        have SB : Hid (rwK.Src wc (.slice (some ⟨g, k * 5, none⟩) (n - k) (c3 - k)) (L.drop k)) := Lib.hid (by
          have := own_back rwK (rwK.own_keeps O3.out KC.out) (m := k) (c3 - k)
          rw [HN.out] at this
          exact this)
        have hkc : k ≤ c3 := by omega
        clear PS
        go_upto_region 7 with (fail)
      -- region 2
        refine wp_region_held_drew (S := fun X => Keeps wc X) (by kernel_rfl) (wdrew _) (fun hHeld => ?_)
        refine takeH (i := 0) (d := some 31) (v := ?vya0) rfl rfl (by kernel_rfl) (by kernel_rfl) (by kernel_rfl) (fun _ _ _ h => h) (Or.inl ⟨by rfl, ?yya0⟩) (by assumption) ?rya0
        case yya0 => (intro W hSw; go_simp; try with_reducible rfl)
        try simp only [Act.put, List.getElem_toArray, List.getElem_cons_succ, List.getElem_cons_zero, List.setIfInBounds_toArray, List.set_cons_zero, List.set_cons_succ]
        refine takeH (i := 1) (d := some 32) (v := ?vya1) rfl rfl (by kernel_rfl) (by kernel_rfl) (by kernel_rfl) (fun _ _ _ h => h) (Or.inl ⟨by rfl, ?yya1⟩) (by assumption) ?rya1
        case yya1 => (intro W hSw; go_simp; try with_reducible rfl)
        try simp only [Act.put, List.getElem_toArray, List.getElem_cons_succ, List.getElem_cons_zero, List.setIfInBounds_toArray, List.set_cons_zero, List.set_cons_succ]
        refine takeH (i := 2) (d := some 33) (v := ?vya2) rfl rfl (by kernel_rfl) (by kernel_rfl) (by kernel_rfl) (fun _ _ _ h => h) (Or.inl ⟨by rfl, ?yya2⟩) (by assumption) ?rya2
        case yya2 => (intro W hSw; go_simp; try with_reducible rfl)
        try simp only [Act.put, List.getElem_toArray, List.getElem_cons_succ, List.getElem_cons_zero, List.setIfInBounds_toArray, List.set_cons_zero, List.set_cons_succ]
        refine takeH (i := 4) (d := some 35) (v := ?vya4) rfl rfl (by kernel_rfl) (by kernel_rfl) (by kernel_rfl) (fun _ _ _ h => h) (Or.inl ⟨by rfl, ?yya4⟩) (by assumption) ?rya4
        case yya4 => (intro W hSw; obtain ⟨q0, q1, q2, q3, q4⟩ := HBX.out W (KW3.out.trans hSw); go_simp; try with_reducible rfl)
        try simp only [Act.put, List.getElem_toArray, List.getElem_cons_succ, List.getElem_cons_zero, List.setIfInBounds_toArray, List.set_cons_zero, List.set_cons_succ]
        refine takeH (i := 7) (d := some 38) (v := ?vya7) rfl rfl (by kernel_rfl) (by kernel_rfl) (by kernel_rfl) (fun _ _ _ h => h) (Or.inl ⟨by rfl, ?yya7⟩) (by assumption) ?rya7
        case yya7 => (intro W hSw; go_simp; try with_reducible rfl)
        try simp only [Act.put, List.getElem_toArray, List.getElem_cons_succ, List.getElem_cons_zero, List.setIfInBounds_toArray, List.set_cons_zero, List.set_cons_succ]
        refine takeH (i := 8) (d := some 39) (v := ?vya8) rfl rfl (by kernel_rfl) (by kernel_rfl) (by kernel_rfl) (fun _ _ _ h => h) (Or.inl ⟨by rfl, ?yya8⟩) (by assumption) ?rya8
        case yya8 => (intro W hSw; go_simp; try with_reducible rfl)
        try simp only [Act.put, List.getElem_toArray, List.getElem_cons_succ, List.getElem_cons_zero, List.setIfInBounds_toArray, List.set_cons_zero, List.set_cons_succ]
        refine takeH (i := 9) (d := some 40) (v := ?vya9) rfl rfl (by kernel_rfl) (by kernel_rfl) (by kernel_rfl) (fun _ _ _ h => h) (Or.inl ⟨by rfl, ?yya9⟩) (by assumption) ?rya9
        case yya9 => (intro W hSw; go_simp; try with_reducible rfl)
        try simp only [Act.put, List.getElem_toArray, List.getElem_cons_succ, List.getElem_cons_zero, List.setIfInBounds_toArray, List.set_cons_zero, List.set_cons_succ]
        refine wpAnyH_ready (rs := [3, 5]) (by kernel_rfl) (by simp) ?_
        refine AllReadyH.cons rfl (fun K hK => ?_) (AllReadyH.cons rfl (fun K hK => ?_) AllReadyH.nil)
        · refine stepCopyKeep rwK rfl _ _ rfl rfl _ (L.take k) k NT.out rfl rfl (RowK.Src.keeps rwK SF.out (wdrew wc)) LT.out ?_
          intro p3 c3 W3 o3 k3
          have K3 : Keeps wc W3 := Keeps.trans (wdrew wc) k3
          refine hK.out _ _ (K3) (fun hHeld => ?_)
          clear hK K
          try simp only [Act.put, List.getElem_toArray, List.getElem_cons_succ, List.getElem_cons_zero, List.setIfInBounds_toArray, List.set_cons_zero, List.set_cons_succ]
          refine wpAnyH_ready (rs := [5]) (by kernel_rfl) (by simp) ?_
          refine AllReadyH.cons rfl (fun K hK => ?_) AllReadyH.nil
          go_simp
          refine hK.out _ _ (Keeps.trans K3 (wbox _ _)) (fun hHeld => ?_)
          clear hK K
          try simp only [Act.put, List.getElem_toArray, List.getElem_cons_succ, List.getElem_cons_zero, List.setIfInBounds_toArray, List.set_cons_zero, List.set_cons_succ]
          refine wpAnyH_ready (rs := [6]) (by kernel_rfl) (by simp) ?_
          refine AllReadyH.cons rfl (fun K hK => ?_) AllReadyH.nil
          refine stepAppOwnK rwK rfl _ _ rfl rfl wc.heap.size (Keeps.trans K3 (wbox W3 (.cells #[.int .i64 y.o, .int .i64 y.d, .int .i64 y.t, .int .i64 y.n, .bool y.p] tRw))).size (.slice p3 k c3) _ (L.take k) [y] (k + 1) N2.out rfl rfl (rwK.own_keeps (rwK.own_base o3 (fun j hj => (rwK.own_lt o3 j hj).1)) (wbox _ _)) (wt_src1 W3 y) L2.out ?_
          intro p6 c6 W6 o6 g6
          have K6 : Keeps wc W6 := own_grown rwK (Keeps.trans K3 (wbox W3 (.cells #[.int .i64 y.o, .int .i64 y.d, .int .i64 y.t, .int .i64 y.n, .bool y.p] tRw))) (rwK.own_keeps (rwK.own_base o3 (fun j hj => (rwK.own_lt o3 j hj).1)) (wbox _ _)) g6
          refine hK.out _ _ (K6) (fun hHeld => ?_)
          clear hK K
          try simp only [Act.put, List.getElem_toArray, List.getElem_cons_succ, List.getElem_cons_zero, List.setIfInBounds_toArray, List.set_cons_zero, List.set_cons_succ]
          refine wpAnyH_ready (rs := [10]) (by kernel_rfl) (by simp) ?_
          refine AllReadyH.cons rfl (fun K hK => ?_) AllReadyH.nil
          refine stepAppOwnK rwK rfl _ _ rfl rfl wc.heap.size K6.size (.slice p6 (k + 1) c6) _ (L.take k ++ [y]) (L.drop k) (n + 1) N3.out rfl rfl o6 (RowK.Src.keeps rwK SB.out K6) L3.out ?_
          intro p7 c7 W7 o7 g7
          have K7 : Keeps wc W7 := own_grown rwK K6 o6 g7
          refine hK.out _ _ (K7) (fun hHeld => ?_)
          clear hK K
          try simp only [Act.put, List.getElem_toArray, List.getElem_cons_succ, List.getElem_cons_zero, List.setIfInBounds_toArray, List.set_cons_zero, List.set_cons_succ]
          refine takeH (i := 11) (d := some 4) (v := ?vyb11) rfl rfl (by kernel_rfl) (by kernel_rfl) (by kernel_rfl) (fun _ _ _ h => h) (Or.inl ⟨by rfl, ?yyb11⟩) (by assumption) ?ryb11
          case yyb11 => (intro W hSw; go_simp; try with_reducible rfl)
          try simp only [Act.put, List.getElem_toArray, List.getElem_cons_succ, List.getElem_cons_zero, List.setIfInBounds_toArray, List.set_cons_zero, List.set_cons_succ]
          refine wpAnyH_done (by kernel_rfl) ?_ _
          go_wp2
          go_ret
          exact DONE.out _ _ _ o7 K7
        · go_simp
          refine hK.out _ _ (show Keeps wc ((wc.drew).alloc (.cells #[.int .i64 y.o, .int .i64 y.d, .int .i64 y.t, .int .i64 y.n, .bool y.p] tRw)) from Keeps.trans (wdrew _) (wbox _ _)) (fun hHeld => ?_)
          clear hK K
          try simp only [Act.put, List.getElem_toArray, List.getElem_cons_succ, List.getElem_cons_zero, List.setIfInBounds_toArray, List.set_cons_zero, List.set_cons_succ]
          refine wpAnyH_ready (rs := [3]) (by kernel_rfl) (by simp) ?_
          refine AllReadyH.cons rfl (fun K hK => ?_) AllReadyH.nil
          refine stepCopyKeep rwK rfl _ _ rfl rfl _ (L.take k) k NT.out rfl rfl (RowK.Src.keeps rwK SF.out (show Keeps wc ((wc.drew).alloc (.cells #[.int .i64 y.o, .int .i64 y.d, .int .i64 y.t, .int .i64 y.n, .bool y.p] tRw)) from Keeps.trans (wdrew _) (wbox _ _))) LT.out ?_
          intro p3 c3 W3 o3 k3
          have K3 : Keeps wc W3 := Keeps.trans (show Keeps wc ((wc.drew).alloc (.cells #[.int .i64 y.o, .int .i64 y.d, .int .i64 y.t, .int .i64 y.n, .bool y.p] tRw)) from Keeps.trans (wdrew _) (wbox _ _)) k3
          refine hK.out _ _ (K3) (fun hHeld => ?_)
          clear hK K
          try simp only [Act.put, List.getElem_toArray, List.getElem_cons_succ, List.getElem_cons_zero, List.setIfInBounds_toArray, List.set_cons_zero, List.set_cons_succ]
          refine wpAnyH_ready (rs := [6]) (by kernel_rfl) (by simp) ?_
          refine AllReadyH.cons rfl (fun K hK => ?_) AllReadyH.nil
          refine stepAppOwnK rwK rfl _ _ rfl rfl wc.heap.size (K3).size (.slice p3 k c3) _ (L.take k) [y] (k + 1) N2.out rfl rfl (rwK.own_base o3 (fun j hj => Nat.le_trans (wbox (wc.drew) (.cells #[.int .i64 y.o, .int .i64 y.d, .int .i64 y.t, .int .i64 y.n, .bool y.p] tRw)).size (rwK.own_lt o3 j hj).1)) (RowK.Src.keeps rwK (wt_src1 wc.drew y) k3) L2.out ?_
          intro p6 c6 W6 o6 g6
          have K6 : Keeps wc W6 := own_grown rwK (K3) (rwK.own_base o3 (fun j hj => Nat.le_trans (wbox (wc.drew) (.cells #[.int .i64 y.o, .int .i64 y.d, .int .i64 y.t, .int .i64 y.n, .bool y.p] tRw)).size (rwK.own_lt o3 j hj).1)) g6
          refine hK.out _ _ (K6) (fun hHeld => ?_)
          clear hK K
          try simp only [Act.put, List.getElem_toArray, List.getElem_cons_succ, List.getElem_cons_zero, List.setIfInBounds_toArray, List.set_cons_zero, List.set_cons_succ]
          refine wpAnyH_ready (rs := [10]) (by kernel_rfl) (by simp) ?_
          refine AllReadyH.cons rfl (fun K hK => ?_) AllReadyH.nil
          refine stepAppOwnK rwK rfl _ _ rfl rfl wc.heap.size K6.size (.slice p6 (k + 1) c6) _ (L.take k ++ [y]) (L.drop k) (n + 1) N3.out rfl rfl o6 (RowK.Src.keeps rwK SB.out K6) L3.out ?_
          intro p7 c7 W7 o7 g7
          have K7 : Keeps wc W7 := own_grown rwK K6 o6 g7
          refine hK.out _ _ (K7) (fun hHeld => ?_)
          clear hK K
          try simp only [Act.put, List.getElem_toArray, List.getElem_cons_succ, List.getElem_cons_zero, List.setIfInBounds_toArray, List.set_cons_zero, List.set_cons_succ]
          refine takeH (i := 11) (d := some 4) (v := ?vyc11) rfl rfl (by kernel_rfl) (by kernel_rfl) (by kernel_rfl) (fun _ _ _ h => h) (Or.inl ⟨by rfl, ?yyc11⟩) (by assumption) ?ryc11
          case yyc11 => (intro W hSw; go_simp; try with_reducible rfl)
          try simp only [Act.put, List.getElem_toArray, List.getElem_cons_succ, List.getElem_cons_zero, List.setIfInBounds_toArray, List.set_cons_zero, List.set_cons_succ]
          refine wpAnyH_done (by kernel_rfl) ?_ _
          go_wp2
          go_ret
          exact DONE.out _ _ _ o7 K7
      -- region 2 end
end Wt
end Go.Proofs.Ytbemkcnikoiecaa
