/- BooksPost. -/
import Derived.Test.YtffipjhpoaalhaaBkBoth
import Derived.LoopN
import Derived.WalkKit
import Derived.Deep.RegionHeld3
import Derived.Deep.QuietTactic
import Derived.BigQuiet
import Derived.Deep.Cut
import Derived.Deep.CutBlock
import Derived.Deep.CutRange
set_option linter.unusedVariables false
namespace Go.Proofs.Ytffipjhpoaalhaa
open Go.ChangeShapes Go.WideShapes Go.ChangeAt Go.RowKit Csv Bk Mon

theorem not_great {L : List PI} {n : Nat} (h : greatP L (n : Int) = false) : L.length ≤ n := by
  unfold greatP at h
  rw [Bool.or_eq_false_iff] at h
  have := h.2
  simp at this
  omega
theorem LS.start {w w1 : World} {b : Nat} {F : Nat → Prop} (k1 : Keeps w w1) (hb : PBk w1 F b []) (hf : ∀ i, F i → w.heap.size ≤ i) : LS w b w1.heap.size [] [] F (w1.alloc (.cells #[.slice none 0 0] tRb)) := by
  have k2 : Keeps w1 (w1.alloc (.cells #[.slice none 0 0] tRb)) := keeps_box _ _
  refine ⟨hb.keeps k2, ⟨_, heap_alloc_new _ _, postK.own_nil _ _⟩, ?_, ?_, k1.size, k1.trans k2⟩
  · intro i hi
    have := hb.lt i hi
    have := hf i hi
    omega
  · intro v hv g hg
    rw [heap_alloc_new] at hv
    simp only [Option.some.injEq, Obj.cells.injEq, Array.mk.injEq, List.cons.injEq] at hv
    rw [← hv.1.1] at hg
    cases hg
/-- A list of the call's own, that is emptied. -/
def Emp (wb : World) (pm : Option Addr) (m0 : Nat) (W : World) : Prop := m0 = 0 ∨ ∃ g cs, pm = some ⟨g, 0, none⟩ ∧ wb.heap.size ≤ g ∧ W.heap[g]? = some (.cells cs tPo (0, 0)) ∧ m0 * 5 ≤ cs.size
theorem five_cells {W : World} {g j : Nat} {cs : Array Value} {t : TypeId} (h : W.heap[g]? = some (.cells cs t (0, 0))) (hj : (j + 1) * 5 ≤ cs.size) : ∃ u0 u1 u2 u3 u4,
    W.cell? ⟨g, j * 5, none⟩ = some u0 ∧ W.cell? ⟨g, j * 5 + 1, none⟩ = some u1 ∧ W.cell? ⟨g, j * 5 + 2, none⟩ = some u2 ∧ W.cell? ⟨g, j * 5 + 3, none⟩ = some u3 ∧ W.cell? ⟨g, j * 5 + 4, none⟩ = some u4 := by
  have c : ∀ i, i < cs.size → W.cell? ⟨g, i, none⟩ = some (cs[i]!) := fun i hi => by
    rw [Joins.cell_of_block h i]
    simp [hi]
  exact ⟨_, _, _, _, _, c _ (by omega), c _ (by omega), c _ (by omega), c _ (by omega), c _ (by omega)⟩
theorem emp_keeps {wb W : World} {g n : Nat} (hb : wb.heap.size ≤ g) (k : Keeps wb W) (a b c d e : Value) :
    Keeps wb (((((W.setCell ⟨g, n, none⟩ a).setCell ⟨g, n + 1, none⟩ b).setCell ⟨g, n + 2, none⟩ c).setCell ⟨g, n + 3, none⟩ d).setCell ⟨g, n + 4, none⟩ e) :=
  ((((k.setCell (p := ⟨g, n, none⟩) hb a).setCell (p := ⟨g, n + 1, none⟩) hb b).setCell (p := ⟨g, n + 2, none⟩) hb c).setCell (p := ⟨g, n + 3, none⟩) hb d).setCell (p := ⟨g, n + 4, none⟩) hb e
theorem emp_set {wb W : World} {g n m0 : Nat} {cs : Array Value} {a b c d e : Value} (hb : wb.heap.size ≤ g) (h : W.heap[g]? = some (.cells cs tPo (0, 0))) (hl : m0 * 5 ≤ cs.size) :
    Emp wb (some ⟨g, 0, none⟩) m0 (((((W.setCell ⟨g, n, none⟩ a).setCell ⟨g, n + 1, none⟩ b).setCell ⟨g, n + 2, none⟩ c).setCell ⟨g, n + 3, none⟩ d).setCell ⟨g, n + 4, none⟩ e) := by
  have h1 := Joins.block_setCell (i := n) h a
  have h2 := Joins.block_setCell (i := n + 1) h1 b
  have h3 := Joins.block_setCell (i := n + 2) h2 c
  have h4 := Joins.block_setCell (i := n + 3) h3 d
  have h5 := Joins.block_setCell (i := n + 4) h4 e
  exact Or.inr ⟨g, _, rfl, hb, h5, by simpa using hl⟩
theorem wrap_next {k : Nat} (h : k ≤ 100000) : wrap64 ((k : Int) + 1) = ((k + 1 : Nat) : Int) := by unfold wrap64; omega
theorem num_next {k : Nat} (h : k ≤ 100000) : Value.int .i64 (wrap64 ((k : Int) + 1)) = .int .i64 ((k + 1 : Nat) : Int) := by rw [wrap_next h]
theorem meas_lt {N k : Nat} (h : k < N) (hk : k ≤ 100000) : N - (intOf (.int .i64 (wrap64 ((k : Int) + 1)))).toNat < N - (intOf (.int .i64 (k : Int))).toNat := by
  rw [wrap_next hk]
  simp [intOf]; omega
/-- Both, whatever blocks are the program's. -/
def BkHalf (w : World) (b r : Nat) (M M2 : List PI) (W : World) : Prop := ∃ F, LS w b r M M2 F W
theorem BkHalf.keeps {w W W' : World} {b r : Nat} {M M2 : List PI} (h : BkHalf w b r M M2 W) (k : Keeps W W') : BkHalf w b r M M2 W' := by
  obtain ⟨F, h⟩ := h; exact ⟨F, h.keeps k⟩
theorem BkHalf.keep {w W : World} {b r : Nat} {M M2 : List PI} (h : BkHalf w b r M M2 W) : Keeps w W := by obtain ⟨F, h⟩ := h; exact h.keep
set_option maxRecDepth 100000 in
set_option maxHeartbeats 16000000 in
theorem bookspost_any (v : Value) (L : List PI) (a o : Int) (ha : I64 a) (ho : I64 o) (w : World) (h : PostsAt w v L) :
    Calls Try.prog 3 #[v, .int .i64 a, .int .i64 o] w fun e w' => e = .returned (.bool true) ∧ Keeps w w' := by
  have HP := Lib.hid h
  have HG := Lib.hid (great_any v L 60 w h)
  have HT := Lib.hid fun W => posted_any W
  have HN := Lib.hid fun W => pnew_any W
  obtain ⟨p, c, rfl, hmx, _, _⟩ := h
  obtain ⟨N, hN⟩ : ∃ N, L.length = N := ⟨_, rfl⟩
  have HLN := Lib.hid hN
  rw [hN] at hmx HG ⊢
  clear hN hmx
  obtain ⟨gr, hgr⟩ : ∃ gr, greatP L 60 = gr := ⟨_, rfl⟩
  have HGR := Lib.hid hgr
  rw [hgr] at HG
  clear hgr
  go_enter Try.func3, Try.ntmps3
  go_wp2_with fail
  refine HG.out.mono ?_
  rintro e w1 ⟨rfl, k1⟩
  have K1 := Lib.hid k1
  clear k1
  cases gr with
  | true =>
    go_wp2_with fail
    refine (HT.out _).mono ?_
    rintro e w2 ⟨rfl, k2⟩
    have K2 := Lib.hid (K1.out.trans k2)
    clear k2
    go_wp2
    go_ret
    exact ⟨rfl, K2.out⟩
  | false =>
    have HN60 : Hid (N ≤ 60) := Lib.hid (by have := not_great (n := 60) HGR.out; have := HLN.out; omega)
    go_wp2_with fail
    refine (HN.out _).mono ?_
    rintro e w2 ⟨b, F, rfl, hb, hf, k2⟩
    obtain ⟨r, hr⟩ : ∃ r, w2.heap.size = r := ⟨_, rfl⟩
    have HS : Hid (BkHalf w1 b r [] [] (w2.alloc (.cells #[.slice none 0 0] tRb))) := Lib.hid (hr ▸ ⟨F, LS.start (w := w1) k2 hb hf⟩)
    clear hb hf k2
    go_wp2_with fail
    clear hr
    go_loopw [9] (fun vi wr => ∃ (k : Nat) (M : List PI), k ≤ N ∧ vi = .int .i64 (k : Int) ∧ BkHalf w1 b r M M wr ∧ GoodL M ∧ OkL (pms M) ∧ M.length ≤ k) (fun vi _ => N - (intOf vi).toNat)
    case atStart => exact ⟨0, [], by omega, rfl, HS.out, (fun x hx => by cases hx), OkL.nil, by simp⟩
    case round =>
      obtain ⟨k, M, hk, rfl, hs, hg, hok, hml⟩ := hrel
      have HO := Lib.hid hs
      have HGD := Lib.hid hg
      have HOK := Lib.hid hok
      clear hs hg hok HS
      by_cases hlt : k < N
      · have HK1 := Lib.hid hlt
        obtain ⟨x, hx⟩ : ∃ x, L[k]? = some x := ⟨_, List.getElem?_eq_getElem (by have := HLN.out; omega)⟩
        obtain ⟨p', c', e', _, hcc, hc⟩ := HP.out
        simp only [Value.slice.injEq] at e'
        obtain ⟨rfl, _, rfl⟩ := e'
        obtain ⟨xg, ad, rfl, q⟩ := hc k x hx
        have HX := Lib.hid hx
        have XG := Lib.hid xg
        have hi1 : (k : Int) < (N : Int) := by omega
        have hi2 : (k : Int) ≤ (N : Int) := by omega
        have hi0 : (0 : Int) ≤ (k : Int) := by omega
        obtain ⟨M', hM'⟩ : ∃ M', (postI M x).2 = M' := ⟨_, rfl⟩
        obtain ⟨y, hy⟩ : ∃ y, (postI M x).1 = y := ⟨_, rfl⟩
        have hml2 : M.length ≤ 900 := by have := HN60.out; omega
        have C1 : Hid (∀ W, BkHalf w1 b r M M W → Calls Try.prog 11 #[.pointer (some ⟨b, 0, none⟩), x.val] W fun e w' => e = .returned (.int .i64 y) ∧ BkHalf w1 b r M' M w') := Lib.hid fun W ⟨F, h⟩ => by
          refine (h.doP x HGD.out XG.out HOK.out hml2).mono ?_
          rintro e w' ⟨rfl, F', h'⟩
          rw [hM'] at h'
          exact ⟨by rw [hy], F', h'⟩
        have C2 : Hid (∀ W, BkHalf w1 b r M' M W → Calls Try.prog 12 #[.pointer (some ⟨r, 0, none⟩), x.val] W fun e w' => e = .returned (.int .i64 y) ∧ BkHalf w1 b r M' M' w') := Lib.hid fun W ⟨F, h⟩ => by
          refine (h.doR x HGD.out XG.out HOK.out hml2).mono ?_
          rintro e w' ⟨rfl, h'⟩
          rw [hM'] at h'
          exact ⟨by rw [hy], F, h'⟩
        have Q0 := Lib.hid q
        have QQ : Hid (∀ W M2 M3, BkHalf w1 b r M2 M3 W → W.cell? (ad.add (k * 5)) = some (.string x.s) ∧ W.cell? ⟨(ad.add (k * 5)).block, (ad.add (k * 5)).off + 1, none⟩ = some (.int .i64 x.ord) ∧ W.cell? ⟨(ad.add (k * 5)).block, (ad.add (k * 5)).off + 2, none⟩ = some (.int .i64 x.deb) ∧ W.cell? ⟨(ad.add (k * 5)).block, (ad.add (k * 5)).off + 3, none⟩ = some (.int .i64 x.cre) ∧ W.cell? ⟨(ad.add (k * 5)).block, (ad.add (k * 5)).off + 4, none⟩ = some (.int .i64 x.amt)) := Lib.hid fun W M2 M3 h => (Q0.out.keeps (K1.out.trans h.keep))
        have GD' : Hid (GoodL M') := Lib.hid (hM' ▸ good_post HGD.out XG.out)
        have OK' : Hid (OkL (pms M')) := Lib.hid (by rw [← hM', pms_post]; exact ok_post HOK.out _)
        have ML' : Hid (M'.length ≤ k + 1) := Lib.hid (by
          rw [← hM']
          unfold postI
          dsimp only
          split
          · simp; omega
          · omega)
        clear hM' hy hc q hx xg hcc hml2
        have t5 : (y != y) = false := by simp
        unfold PI.val at C1 C2
        go_wp2
        go_region_held3 (fun W => W.cell? (ad.add (k * 5)) = some (.string x.s) ∧ W.cell? ⟨(ad.add (k * 5)).block, (ad.add (k * 5)).off + 1, none⟩ = some (.int .i64 x.ord) ∧ W.cell? ⟨(ad.add (k * 5)).block, (ad.add (k * 5)).off + 2, none⟩ = some (.int .i64 x.deb) ∧ W.cell? ⟨(ad.add (k * 5)).block, (ad.add (k * 5)).off + 3, none⟩ = some (.int .i64 x.cre) ∧ W.cell? ⟨(ad.add (k * 5)).block, (ad.add (k * 5)).off + 4, none⟩ = some (.int .i64 x.amt))
          (first | exact QQ.out _ _ _ (HO.out.keeps (bbel_drew _)) | exact QQ.out _ _ _ H3.out | exact QQ.out _ _ _ H4.out | go_keep) (first
          | (go_at_call 11; refine (C1.out _ (HO.out.keeps ?c0)).mono ?_; (case c0 => exact ⟨rfl, rfl, rfl, Nat.le_refl _, fun _ _ => rfl⟩); rintro e w3 ⟨rfl, h3⟩; have H3 := Lib.hid h3; clear h3)
          | (go_at_call 12; refine (C2.out _ H3.out).mono ?_; rintro e w4 ⟨rfl, h4⟩; have H4 := Lib.hid h4; clear h4))
        have CB : Hid (∀ W a o, I64 a → I64 o → BkHalf w1 b r M' M' W → Calls Try.prog 13 #[.pointer (some ⟨b, 0, none⟩), .int .i64 a, .int .i64 o] W fun e w' => e = .returned (.int .i64 (balM (pms M') a o)) ∧ BkHalf w1 b r M' M' w') := Lib.hid fun W a o ha ho ⟨F, h⟩ => by
          refine (h.doBp OK'.out a o ha ho).mono ?_
          rintro e w' ⟨rfl, kk⟩
          exact ⟨rfl, F, h.keeps kk⟩
        have CR : Hid (∀ W a o, BkHalf w1 b r M' M' W → Calls Try.prog 14 #[.pointer (some ⟨r, 0, none⟩), .int .i64 a, .int .i64 o] W fun e w' => e = .returned (.int .i64 (balM (pms M') a o)) ∧ BkHalf w1 b r M' M' w') := Lib.hid fun W a o ⟨F, h⟩ => by
          refine (h.doBr GD'.out OK'.out (by have := ML'.out; have := HN60.out; omega) a o).mono ?_
          rintro e w' ⟨rfl, kk⟩
          exact ⟨rfl, F, h.keeps kk⟩
        have X0 : Hid (I64 x.ord) := Lib.hid XG.out.ord
        go_wp2
        go_loopw [10] (fun vn W => ∃ n : Int, -1 ≤ n ∧ n ≤ 6 ∧ vn = .int .i64 n ∧ BkHalf w1 b r M' M' W) (fun vn _ => (6 - intOf vn).toNat)
        case atStart => exact ⟨-1, by omega, by omega, rfl, H4.out⟩
        case round =>
          obtain ⟨n, hn1, hn2, rfl, hs⟩ := hrel
          have HB := Lib.hid hs
          clear hs
          by_cases hn : n < 6
          · have I1 : Hid (I64 n) := Lib.hid (by unfold I64 top; omega)
            have I0 : Hid (I64 0) := Lib.hid (by unfold I64 top; decide)
            obtain ⟨g, hg⟩ : ∃ g : Int → Int → Int, balM (pms M') = g := ⟨_, rfl⟩
            have G1 : Hid (∀ W a o, I64 a → I64 o → BkHalf w1 b r M' M' W → Calls Try.prog 13 #[.pointer (some ⟨b, 0, none⟩), .int .i64 a, .int .i64 o] W fun e w' => e = .returned (.int .i64 (g a o)) ∧ BkHalf w1 b r M' M' w') := Lib.hid (hg ▸ CB.out)
            have G2 : Hid (∀ W a o, BkHalf w1 b r M' M' W → Calls Try.prog 14 #[.pointer (some ⟨r, 0, none⟩), .int .i64 a, .int .i64 o] W fun e w' => e = .returned (.int .i64 (g a o)) ∧ BkHalf w1 b r M' M' w') := Lib.hid (hg ▸ CR.out)
            clear hg
            have t6 : (g n x.ord != g n x.ord) = false := by simp
            have t7 : (g n 0 != g n 0) = false := by simp
            go_wp2
            go_region_held3 (fun W => W.cell? ⟨(ad.add (k * 5)).block, (ad.add (k * 5)).off + 1, none⟩ = some (.int .i64 x.ord))
              (first | exact (QQ.out _ _ _ HV.out).2.1 | exact (QQ.out _ _ _ (HB.out.keeps (bbel_drew _))).2.1 | assumption) (first
              | (go_at_call 13; refine (G1.out _ _ _ ?i1 ?i2 ?i3).mono ?_; (case i1 => exact I1.out); (case i2 => first | exact X0.out | exact I0.out); (case i3 => first | exact HV.out | exact HB.out.keeps ⟨rfl, rfl, rfl, Nat.le_refl _, fun _ _ => rfl⟩); rintro e wv ⟨rfl, hv⟩; have HV := Lib.hid hv; have zv := (QQ.out _ _ _ hv).2.1; clear hv)
              | (go_at_call 14; refine (G2.out _ _ _ HV.out).mono ?_; clear HV; rintro e wv ⟨rfl, hv⟩; have HV := Lib.hid hv; have zv := (QQ.out _ _ _ hv).2.1; clear hv))
            go_wp2
            exact ⟨⟨n + 1, by omega, by omega, by go_num, HV.out⟩, by simp [intOf]; omega⟩
          · obtain rfl : n = 6 := by omega
            obtain ⟨wb, hwb⟩ : ∃ wb, wb = wr := ⟨_, rfl⟩
            subst hwb
            have CL : Hid (∀ W, BkHalf w1 b r M' M' W → Calls Try.prog 15 #[.pointer (some ⟨b, 0, none⟩)] W fun e w' => ∃ pm cm, e = .returned (.slice pm M'.length cm) ∧ postK.Own W.heap.size w' (.slice pm M'.length cm) M' ∧ Keeps W w') := Lib.hid fun W ⟨F, h⟩ => plist_any F b M' W h.pb GD'.out (by have := ML'.out; have := HN60.out; omega)
            go_wp2_with fail
            refine (CL.out _ HB.out).mono ?_
            rintro e w5 ⟨pm, cm, rfl, hown, k5⟩
            have HB5 := Lib.hid (HB.out.keeps k5)
            have HOWN := Lib.hid hown
            have HLEN : Hid (M'.length ≤ 1000) := Lib.hid (by have := ML'.out; have := HN60.out; omega)
            obtain ⟨pr, cr, hrc, hrp⟩ : ∃ pr cr, w5.cell? ⟨r, 0, none⟩ = some (.slice pr M'.length cr) ∧ PostsAt w5 (.slice pr M'.length cr) M' := by
              obtain ⟨F, h⟩ := HB5.out
              exact h.rlist GD'.out HLEN.out
            have HRC := Lib.hid hrc
            obtain ⟨m0, hm0⟩ : ∃ m0, M'.length = m0 := ⟨_, rfl⟩
            have HMP : Hid (PostsAt w5 (.slice pm M'.length cm) M') := Lib.hid (own_posts hown GD'.out (by have := HLEN.out; omega))
            have HRP := Lib.hid hrp
            have CS : Hid (∀ W, Keeps w5 W → Calls Try.prog 16 #[.slice pm m0 cm, .slice pr m0 cr] W fun e w' => e = .returned (.bool true) ∧ Keeps w5 w') := Lib.hid fun W kk => by
              rw [← hm0]
              refine (same_any _ _ M' M' W (HMP.out.keeps kk) (HRP.out.keeps kk)).mono ?_
              rintro e w' ⟨rfl, k⟩
              exact ⟨by simp, kk.trans k⟩
            have CM : Hid (∀ W, Keeps w5 W → Calls Try.prog 17 #[.pointer (some ⟨b, 0, none⟩)] W fun e w' => e = .returned (.int .i64 (m0 : Int)) ∧ Keeps w5 w') := Lib.hid fun W kk => by
              obtain ⟨F, h⟩ := HB5.out
              rw [← hm0]
              refine (pmany_any F b M' W (h.pb.keeps kk)).mono ?_
              rintro e w' ⟨rfl, k⟩
              exact ⟨rfl, kk.trans k⟩
            have CZ : Hid (∀ W, Keeps w5 W → Calls Try.prog 18 #[.pointer (some ⟨b, 0, none⟩)] W fun e w' => e = .returned (.bool true) ∧ Keeps w5 w') := Lib.hid fun W kk => by
              obtain ⟨F, h⟩ := HB5.out
              refine (pzero_any F b M' W (h.pb.keeps kk) OK'.out).mono ?_
              rintro e w' ⟨rfl, k⟩
              exact ⟨rfl, kk.trans k⟩
            have HM0 := Lib.hid hm0
            rw [hm0] at hrc
            have HR0 := Lib.hid hrc
            have K5 := Lib.hid k5
            have zr : r ≠ r → False := fun h => h rfl
            clear hm0 hown hrp k5 hrc zr
            rw [HM0.out]
            go_wp2
            go_region_held3 (fun W => W.cell? ⟨r, 0, none⟩ = some (.slice pr m0 cr))
              (first | exact cell_keeps HV.out HR0.out | exact cell_keeps (bbel_drew _) HR0.out | assumption) (first
              | (go_at_call 16; refine (CS.out _ ?i3).mono ?_; (case i3 => exact ⟨rfl, rfl, rfl, Nat.le_refl _, fun _ _ => rfl⟩); rintro e wv ⟨rfl, hv⟩; have HV := Lib.hid hv; have zv := cell_keeps hv HR0.out; clear hv)
              | (go_at_call 17; refine (CM.out _ HV.out).mono ?_; clear HV; rintro e wv ⟨rfl, hv⟩; have HV := Lib.hid hv; have zv := cell_keeps hv HR0.out; clear hv)
              | (go_at_call 18; refine (CZ.out _ HV.out).mono ?_; clear HV; rintro e wv ⟨rfl, hv⟩; have HV := Lib.hid hv; have zv := cell_keeps hv HR0.out; clear hv))
            have HF : Hid (∀ W, Keeps w5 W → Emp wb pm m0 W) := Lib.hid fun W kk => by
              have ho := postK.own_keeps HOWN.out kk
              rw [HM0.out] at ho
              have hh : W.ownsRow wb.heap.size postK.t postK.sz (.slice pm m0 cm) M'.length (postK.row M') := ho
              rcases hh.2 with ⟨e, h0⟩ | ⟨g, cap, cur, e, hb, hg, r1, _, r3, _⟩
              · exact Or.inl (by rw [← HM0.out, h0])
              · simp only [Value.slice.injEq] at e
                have e5 : postK.sz = 5 := rfl
                rw [e5] at r3
                exact Or.inr ⟨g, cur, e.1, hb, hg, by have := Nat.mul_le_mul_right 5 r1; have := HM0.out; omega⟩
            have K5b := Lib.hid K5.out
            have W0 := Lib.hid (K5b.out.trans HV.out)
            have F0 := Lib.hid (HF.out _ HV.out)
            clear HR0
            go_upto_block 5 with (fail)
            as_aux_lemma =>
              clear HF HV HB5 HOWN HMP HRP HRC CS CM CZ CB CR
              go_wp2_with fail
              go_loopw [12] (fun vj W => ∃ j : Nat, j ≤ m0 ∧ vj = .int .i64 (j : Int) ∧ Keeps wb W ∧ Emp wb pm m0 W) (fun vj _ => m0 - (intOf vj).toNat)
              case atStart => exact ⟨0, by omega, rfl, W0.out, F0.out⟩
              case round =>
                obtain ⟨j, hj, rfl, hkb, hfz⟩ := hrel
                have HKB := Lib.hid hkb
                clear hkb
                by_cases hjl : j < m0
                · obtain ⟨g, cs, rfl, hgb, hgc, hgl⟩ := hfz.resolve_left (by omega)
                  obtain ⟨u0, u1, u2, u3, u4, z0, z1, z2, z3, z4⟩ := five_cells (j := j) hgc (by omega)
                  have y0 := Joins.unfrozen_of_block hgc (j * 5)
                  have y1 := Joins.unfrozen_of_block hgc (j * 5 + 1)
                  have y2 := Joins.unfrozen_of_block hgc (j * 5 + 2)
                  have y3 := Joins.unfrozen_of_block hgc (j * 5 + 3)
                  have y4 := Joins.unfrozen_of_block hgc (j * 5 + 4)
                  have HGB := Lib.hid hgb
                  have HGC := Lib.hid hgc
                  have HGL := Lib.hid hgl
                  have HJ := Lib.hid hjl
                  have hj1 : (j : Int) < (m0 : Int) := by omega
                  have hj0 : (0 : Int) ≤ (j : Int) := by omega
                  have HJ2 : Hid (j ≤ 100000) := Lib.hid (by have := HLEN.out; have := HM0.out; omega)
                  clear hfz hgb hgc hgl
                  go_wp2
                  exact ⟨⟨j + 1, HJ.out, num_next HJ2.out, emp_keeps HGB.out HKB.out _ _ _ _ _, emp_set HGB.out HGC.out HGL.out⟩, meas_lt HJ.out HJ2.out⟩
                · obtain rfl : j = m0 := by omega
                  have hz : ¬ ((j : Int) < (j : Int)) := by omega
                  have HE := Lib.hid (HB.out.keeps HKB.out)
                  have HK2 : Hid (k ≤ 100000) := Lib.hid (by have := HN60.out; have := HK1.out; omega)
                  clear hfz
                  go_wp2
                  exact ⟨⟨k + 1, M', HK1.out, num_next HK2.out, HE.out, GD'.out, OK'.out, ML'.out⟩, meas_lt HK1.out HK2.out⟩
      · obtain rfl : k = N := by omega
        have HLEN : Hid (M.length ≤ 1000) := Lib.hid (by have := HN60.out; omega)
        obtain ⟨pr, cr, hrc, hrp⟩ : ∃ pr cr, wr.cell? ⟨r, 0, none⟩ = some (.slice pr M.length cr) ∧ PostsAt wr (.slice pr M.length cr) M := by
          obtain ⟨F, h⟩ := HO.out
          exact h.rlist HGD.out HLEN.out
        have HRP := Lib.hid hrp
        obtain ⟨m0, hm0⟩ : ∃ m0, M.length = m0 := ⟨_, rfl⟩
        have HM0 := Lib.hid hm0
        rw [hm0] at hrc HRP
        have HR0 := Lib.hid hrc
        obtain ⟨y, hy⟩ : ∃ y, balM (pms M) a o = y := ⟨_, rfl⟩
        have D1 : Hid (∀ W, Keeps wr W → Calls Try.prog 13 #[.pointer (some ⟨b, 0, none⟩), .int .i64 a, .int .i64 o] W fun e w' => e = .returned (.int .i64 y) ∧ Keeps wr w') := Lib.hid fun W kk => by
          obtain ⟨F, h⟩ := HO.out
          rw [← hy]
          refine ((h.keeps kk).doBp HOK.out a o ha ho).mono ?_
          rintro e w' ⟨rfl, k⟩
          exact ⟨rfl, kk.trans k⟩
        have D2 : Hid (∀ W, Keeps wr W → Calls Try.prog 14 #[.pointer (some ⟨r, 0, none⟩), .int .i64 a, .int .i64 o] W fun e w' => e = .returned (.int .i64 y) ∧ Keeps wr w') := Lib.hid fun W kk => by
          obtain ⟨F, h⟩ := HO.out
          rw [← hy]
          refine ((h.keeps kk).doBr HGD.out HOK.out HLEN.out a o).mono ?_
          rintro e w' ⟨rfl, k⟩
          exact ⟨rfl, kk.trans k⟩
        have D3 : Hid (∀ W, Keeps wr W → Calls Try.prog 15 #[.pointer (some ⟨b, 0, none⟩)] W fun e w' => ∃ pm cm, e = .returned (.slice pm m0 cm) ∧ PostsAt w' (.slice pm m0 cm) M ∧ Keeps wr w') := Lib.hid fun W kk => by
          obtain ⟨F, h⟩ := HO.out
          refine (plist_any F b M W (h.pb.keeps kk) HGD.out HLEN.out).mono ?_
          rintro e w' ⟨pm, cm, rfl, hown, k⟩
          have hp := own_posts hown HGD.out (by have := HLEN.out; omega)
          rw [HM0.out] at hp ⊢
          exact ⟨pm, cm, rfl, hp, kk.trans k⟩
        have D4 : Hid (∀ W pm cm, PostsAt W (.slice pm m0 cm) M → Keeps wr W → Calls Try.prog 16 #[.slice pm m0 cm, .slice pr m0 cr] W fun e w' => e = .returned (.bool true) ∧ Keeps wr w') := Lib.hid fun W pm cm hp kk => by
          refine (same_any _ _ M M W hp (HRP.out.keeps kk)).mono ?_
          rintro e w' ⟨rfl, k⟩
          exact ⟨by simp, kk.trans k⟩
        have D5 : Hid (∀ W, Keeps wr W → Calls Try.prog 9 #[] W fun e w' => e = .returned (.bool true) ∧ Keeps wr w') := Lib.hid fun W kk => by
          refine (HT.out W).mono ?_
          rintro e w' ⟨rfl, k⟩
          exact ⟨rfl, kk.trans k⟩
        have HEND := Lib.hid (K1.out.trans (BkHalf.keep HO.out))
        have t7 : (y == y) = true := by simp
        clear hm0 hrp hy hk hlt hml
        go_wp2
        go_region_held3 (fun W => W.cell? ⟨r, 0, none⟩ = some (.slice pr m0 cr))
          (first | exact cell_keeps HV.out HR0.out | exact cell_keeps (bbel_drew _) HR0.out | assumption) (first
          | (go_at_call 13; refine (D1.out _ (bbel_drew _)).mono ?_; rintro e wv ⟨rfl, hv⟩; have HV := Lib.hid hv; have zv := cell_keeps hv HR0.out; clear hv)
          | (go_at_call 14; refine (D2.out _ HV.out).mono ?_; clear HV; rintro e wv ⟨rfl, hv⟩; have HV := Lib.hid hv; have zv := cell_keeps hv HR0.out; clear hv)
          | (go_at_call 15; refine (D3.out _ HV.out).mono ?_; clear HV; rintro e wv ⟨pm, cm, rfl, hpm, hv⟩; have HPM := Lib.hid hpm; have HV := Lib.hid hv; have zv := cell_keeps hv HR0.out; clear hv hpm)
          | (go_at_call 16; refine (D4.out _ _ _ HPM.out HV.out).mono ?_; clear HV; rintro e wv ⟨rfl, hv⟩; have HV := Lib.hid hv; have zv := cell_keeps hv HR0.out; clear hv)
          | (go_at_call 9; refine (D5.out _ HV.out).mono ?_; clear HV; rintro e wv ⟨rfl, hv⟩; have HV := Lib.hid hv; have zv := cell_keeps hv HR0.out; clear hv))
        go_wp2
        go_ret
        exact ⟨rfl, HEND.out.trans HV.out⟩
theorem booksPost_go (v : Value) (L : List PI) (a o : Int) (w : World) (h : PostsAt w v L) (ha : (Lit.int .i64 a).wf = true) (ho : (Lit.int .i64 o).wf = true) :
    Calls Try.prog 3 #[v, .int .i64 a, .int .i64 o] w fun e w' => e = .returned (.bool true) ∧ Keeps w w' := bookspost_any v L a o (i64_of ha) (i64_of ho) w h
end Go.Proofs.Ytffipjhpoaalhaa
