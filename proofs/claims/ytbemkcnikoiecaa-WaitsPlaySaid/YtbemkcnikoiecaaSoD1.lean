
/- sort.pdqsort_func, where 'less' makes memory of its own: it sorts. -/
import Derived.Test.YtbemkcnikoiecaaSoC4
import Derived.Test.YtbemkcnikoiecaaSoC9
import Derived.Deep.DeepCutAuto
namespace Go.Proofs.Ytbemkcnikoiecaa
open Go.Shelf Go.RowKit Go.Lib Go.Sort
namespace So
variable {α : Type} [Inhabited α] {enc : α → List Value} {k blk off n g sf : Nat} {lt : α → α → Bool} {lb sb : Array Value} {w0 : World}
/-- Sorted from there on, and all is. -/
def Goes (lt : α → α → Bool) (a b : Nat) (d : Array α) (a' b' : Nat) (dk : Array α) : Prop := ∀ R, PermIn a' b' dk R → SortedIn lt a' b' R → PermIn a b d R ∧ SortedIn lt a b R
set_option maxHeartbeats 16000000 in
set_option maxRecDepth 100000 in
theorem so_pdq (S : SE enc k lt g lb sf sb blk off n w0) (hO : SWO lt) : ∀ (N a b limit : Nat) (d : Array α) (W : World), b - a < N → SWK enc k w0 blk off d W → d.size = n → a ≤ b → b ≤ n → limit < 4611686018427387904 → Below lt a b d →
    Calls Try.prog 50 #[.agg #[.func (.func g) #[] lb, .func (.func sf) #[] sb], .int .i64 a, .int .i64 b, .int .i64 limit] W fun e w' => e = .returned (.tuple #[]) ∧ ∃ R, PermIn a b d R ∧ SortedIn lt a b R ∧ St enc k blk off w0 blk W R w' := by
  intro N
  induction N with
  | zero => intro a b limit d W h; exact absurd h (Nat.not_lt_zero _)
  | succ N ih =>
  intro a b limit d W hN h hs hab hbn hlim hBel
  have hn := S.hn
  have eg := S.eg
  have hbW := h.lt S.hb
  have B0 := fun {dj : Array α} {X : World} => S.box (c := blk) (cs := #[.func (.func g) #[] lb, .func (.func sf) #[] sb]) (t := 88) (v := .func (.func g) #[] lb) h 0 (by simp) hbW (dj := dj) (X := X)
  have B1 := fun {dj : Array α} {X : World} => S.box (c := blk) (cs := #[.func (.func g) #[] lb, .func (.func sf) #[] sb]) (t := 88) (v := .func (.func sf) #[] sb) h 1 (by simp) hbW (dj := dj) (X := X)
  have H1 := Lib.hid (St.start (c := blk) (h.alloc (.cells #[.func (.func g) #[] lb, .func (.func sf) #[] sb] 88)))
  have HBel := Lib.hid hBel
  have HIH := Lib.hid ih
  clear h hBel ih
  go_enter Try.func50, Try.ntmps50
  go_wp2
  go_loopw [1, 2, 3, 8, 9] (fun v1 v2 v3 v8 v9 wr => ∃ (a' b' lim : Nat) (wb wp : Bool) (dk : Array α), v1 = .int .i64 a' ∧ v2 = .int .i64 b' ∧ v3 = .int .i64 lim ∧ v8 = .bool wb ∧ v9 = .bool wp ∧ a' ≤ b' ∧ b' ≤ n ∧ b' - a' ≤ b - a ∧ lim ≤ limit ∧ dk.size = n ∧
      Below lt a' b' dk ∧ St enc k blk off w0 blk (W.alloc (.cells #[.func (.func g) #[] lb, .func (.func sf) #[] sb] 88)) dk wr ∧ Goes lt a b d a' b' dk) (fun v1 v2 _ _ _ _ => (intOf v2).toNat - (intOf v1).toNat)
  case atStart => exact ⟨a, b, limit, true, true, d, rfl, rfl, rfl, rfl, rfl, hab, hbn, Nat.le_refl _, Nat.le_refl _, hs, HBel.out, H1.out, fun R h1 h2 => ⟨h1, h2⟩⟩
  case round =>
    obtain ⟨a', b', lim, wb, wp, dk, rfl, rfl, rfl, rfl, rfl, hab', hbn', hlen, hlim', hsk, hB, hst, hG⟩ := hrel
    have HB := Lib.hid hB
    have HS := Lib.hid hst
    have HG := Lib.hid hG
    have x0 := B0 hst
    have x1 := B1 hst
    clear hB hst hG H1 HBel
    by_cases h12 : b' - a' ≤ 12
    · have h12z : (b' : Int) - (a' : Int) ≤ 12 := by omega
      have hc := so_insertion S a' b' dk wr HS.out.sw hsk hab' hbn'
      go_wp2_with (go_at_call 62; refine hc.mono ?_; rintro e w1 ⟨rfl, st1⟩)
      (try simp only [Exit.inBlock, Exit.then]); refine bodyPost_ret (results_none rfl _ _ _) rfl ?_
      obtain ⟨p1, p2⟩ := insertionSort_holds hO dk a' b' hab' (by omega)
      obtain ⟨q1, q2⟩ := HG.out _ p1 p2
      exact ⟨rfl, _, q1, q2, (HS.out.trans st1).under⟩
    · have h12z : ¬ (b' : Int) - (a' : Int) ≤ 12 := by omega
      by_cases hl0 : lim = 0
      · have hl0z : (lim : Int) = 0 := by omega
        have hc := so_heap S a' b' dk wr HS.out.sw hsk (by omega) hbn'
        go_wp2_with (go_at_call 63; refine hc.mono ?_; rintro e w1 ⟨rfl, st1⟩)
        (try simp only [Exit.inBlock, Exit.then]); refine bodyPost_ret (results_none rfl _ _ _) rfl ?_
        obtain ⟨p1, p2⟩ := heapSort_holds hO dk a' b' hab' (by omega)
        obtain ⟨q1, q2⟩ := HG.out _ p1 p2
        exact ⟨rfl, _, q1, q2, (HS.out.trans st1).under⟩
      · have hl0z : ¬ (lim : Int) = 0 := by omega
        go_upto_if 35 with fail
        go_cut [3] (fun s3 wx => ∃ (d1 : Array α) (l1 : Nat), s3 = .int .i64 l1 ∧ l1 ≤ lim ∧ PermIn a' b' dk d1 ∧ St enc k blk off w0 blk (W.alloc (.cells #[.func (.func g) #[] lb, .func (.func sf) #[] sb] 88)) d1 wx)
        case first =>
          cases wb with
          | true =>
            go_wp2_with fail
            go_meet
            case rel => exact ⟨dk, lim, rfl, Nat.le_refl _, permIn_refl _ _ _, HS.out⟩
          | false =>
            have hc := so_break S a' b' dk wr HS.out.sw hsk hab' hbn'
            obtain ⟨l1, hl1⟩ : ∃ l1, lim = l1 + 1 := ⟨lim - 1, by omega⟩
            have hl1z : (lim : Int) - 1 = (l1 : Int) := by omega
            have hle : l1 ≤ lim := by omega
            clear hl1
            go_wp2_with (go_at_call 64; refine hc.mono ?_; rintro e w1 ⟨rfl, st1⟩; have HS1 := Lib.hid (HS.out.trans st1); clear st1)
            go_meet
            exact ⟨_, l1, by first | rfl | simp [hl1z], hle, breakPatterns_holds dk a' b' hab' (by omega), HS1.out⟩
        case rest =>
        rename World => wa
        obtain ⟨d1, l1, rfl, hl1, hP1, hst⟩ := hcut
        have HP1 := Lib.hid hP1
        have HSa := Lib.hid hst
        have hs1 : d1.size = n := hP1.1.trans hsk
        have x0 := B0 hst
        have x1 := B1 hst
        clear hP1 hst
        have hcp := so_choose S a' b' d1 wa HSa.out.sw hs1 (by omega) hbn'
        obtain ⟨hpa, hpb⟩ := choosePivot_holds lt d1 a' b' (by omega)
        generalize (choosePivot lt d1 a' b').1 = p at hcp hpa hpb
        generalize (choosePivot lt d1 a' b').2 = hh at hcp
        go_upto_if 50 with (go_at_call 65; refine hcp.mono ?_; rintro e w2 ⟨rfl, st1⟩; have HSb := Lib.hid (HSa.out.trans st1); have y0 := B0 HSb.out; have y1 := B1 HSb.out; clear st1)
        clear hcp
        generalize hintCode hh = z
        clear hh
        go_cut [11, 12] (fun s11 s12 wx => ∃ (d2 : Array α) (q : Nat) (z2 : Int), s11 = .int .i64 q ∧ s12 = .int .i64 z2 ∧ a' ≤ q ∧ q < b' ∧ PermIn a' b' dk d2 ∧ St enc k blk off w0 blk (W.alloc (.cells #[.func (.func g) #[] lb, .func (.func sf) #[] sb] 88)) d2 wx)
        case first =>
          by_cases hz : z = 2
          · have hc := so_reverse S a' b' d1 w2 HSb.out.sw hs1 hab' hbn'
            obtain ⟨q, hq⟩ : ∃ q, b' - 1 - (p - a') = q := ⟨_, rfl⟩
            have hqz : (b' : Int) - 1 - ((p : Int) - (a' : Int)) = (q : Int) := by omega
            have hq1 : a' ≤ q := by omega
            have hq2 : q < b' := by omega
            clear hq
            go_wp2_with (go_at_call 66; refine hc.mono ?_; rintro e w3 ⟨rfl, st1⟩; have HSc := Lib.hid (HSb.out.trans st1); clear st1)
            go_meet
            exact ⟨_, q, _, by first | rfl | simp [hqz], rfl, hq1, hq2, permIn_trans _ _ _ a' b' HP1.out (reverseRange_holds d1 a' b' hab' (by omega)), HSc.out⟩
          · go_wp2_with fail
            go_meet
            exact ⟨d1, p, z, rfl, rfl, hpa, hpb, HP1.out, HSb.out⟩
        case rest =>
        rename World => wc
        clear x0 x1 y0 y1
        obtain ⟨d2, q, z2, rfl, rfl, hqa, hqb, hP2, hst⟩ := hcut
        have HP2 := Lib.hid hP2
        have HSc := Lib.hid hst
        have hs2 : d2.size = n := hP2.1.trans hsk
        have x0 := B0 hst
        have x1 := B1 hst
        clear hP2 hst
        go_upto_region 16 with fail
        go_cut [68] (fun s68 wx => ∃ c : Bool, s68 = .bool c ∧ wx = wc)
        case first =>
          cases wb <;> cases wp <;> by_cases hz : z2 = 1 <;> (go_wp2_with fail; go_meet; exact ⟨_, rfl, rfl⟩)
        case rest =>
        obtain ⟨c, rfl, rfl⟩ := hcut
        go_upto_if 68 with fail
        go_cut [] (fun wx => ∃ d3, PermIn a' b' dk d3 ∧ St enc k blk off w0 blk (W.alloc (.cells #[.func (.func g) #[] lb, .func (.func sf) #[] sb] 88)) d3 wx)
        case first =>
          cases c with
          | false =>
            go_wp2_with fail
            go_meet
            exact ⟨d2, HP2.out, HSc.out⟩
          | true =>
            have hc := so_partial S a' b' d2 _ HSc.out.sw hs2 (by omega) hbn'
            obtain ⟨hpp, hps⟩ := partialInsertionSort_holds hO d2 a' b' (by omega) (by omega) (HB.out.perm (by omega) HP2.out)
            cases hr : (Sort.partialInsertionSort lt d2 a' b').2 with
            | true =>
              rw [hr] at hc
              have hS := Lib.hid (hps hr)
              have hPP := Lib.hid hpp
              clear hps hr hpp
              go_wp2_with (go_at_call 67; refine hc.mono ?_; rintro e w4 ⟨rfl, st1, _⟩; have HSd := Lib.hid (HSc.out.trans st1); clear st1)
              (try simp only [Exit.inBlock, Exit.then]); refine bodyPost_ret (results_none rfl _ _ _) rfl ?_
              obtain ⟨q1, q2⟩ := HG.out _ (permIn_trans _ _ _ a' b' HP2.out hPP.out) hS.out
              exact ⟨rfl, _, q1, q2, HSd.out.under⟩
            | false =>
              rw [hr] at hc
              have hPP := Lib.hid hpp
              clear hps hr hpp
              go_wp2_with (go_at_call 67; refine hc.mono ?_; rintro e w4 ⟨rfl, st1, _⟩; have HSd := Lib.hid (HSc.out.trans st1); clear st1)
              go_meet
              exact ⟨_, permIn_trans _ _ _ a' b' HP2.out hPP.out, HSd.out⟩
        case rest =>
        rename World => wd
        clear x0 x1
        obtain ⟨d3, hP3, hst⟩ := hcut
        have HP3 := Lib.hid hP3
        have HSd := Lib.hid hst
        have hs3 : d3.size = n := hP3.1.trans hsk
        have x0 := B0 hst
        have x1 := B1 hst
        clear hP3 hst
        go_upto_region 18 with fail
        go_cut [83] (fun s83 wx => ∃ c : Bool, s83 = .bool c ∧ (c = true → 0 < a' ∧ lt d3[a' - 1]! d3[q]! = false) ∧ St enc k blk off w0 blk (W.alloc (.cells #[.func (.func g) #[] lb, .func (.func sf) #[] sb] 88)) d3 wx)
        case first =>
          by_cases ha0 : 0 < a'
          · have ha0z : (0 : Int) < (a' : Int) := by omega
            have hl := S.ls HSd.out.sw hs3 (a' - 1) q ((a' : Int) - 1) (q : Int) (by omega) rfl (by omega) (by omega)
            cases hlv : lt d3[a' - 1]! d3[q]! with
            | true =>
              rw [hlv] at hl
              clear hlv
              go_wp2_with (go_at_fn g; refine hl.mono ?_; rintro e w5 ⟨rfl, hg⟩; have HSe := Lib.hid (HSd.out.gr hg); clear hg)
              go_meet
              first
                | exact ⟨false, rfl, fun h => absurd h (by simp), HSe.out⟩
                | exact ⟨by simp, HSe.out⟩
                | exact HSe.out
            | false =>
              rw [hlv] at hl
              have HLV := Lib.hid hlv
              clear hlv
              go_wp2_with (go_at_fn g; refine hl.mono ?_; rintro e w5 ⟨rfl, hg⟩; have HSe := Lib.hid (HSd.out.gr hg); clear hg)
              go_meet
              first
                | exact ⟨true, rfl, fun _ => ⟨ha0, HLV.out⟩, HSe.out⟩
                | exact ⟨fun _ => ⟨ha0, HLV.out⟩, HSe.out⟩
                | exact ⟨⟨ha0, HLV.out⟩, HSe.out⟩
          · have ha0z : ¬ (0 : Int) < (a' : Int) := by omega
            go_wp2_with fail
            go_meet
            first
              | exact ⟨false, rfl, fun h => absurd h (by simp), HSd.out⟩
              | exact ⟨by simp, HSd.out⟩
              | exact HSd.out
        case rest =>
        rename World => we
        clear x0 x1
        obtain ⟨c, rfl, hc3, hst⟩ := hcut
        have HSe := Lib.hid hst
        have x0 := B0 hst
        have x1 := B1 hst
        clear hst
        have hl1n : l1 < 4611686018427387904 := by omega
        have hl1l : l1 ≤ limit := by omega
        have hB3 := HB.out.perm (by omega) HP3.out
        cases c with
        | true =>
          obtain ⟨ha0, hnl⟩ := hc3 rfl
          have hc := so_partEq S a' b' q d3 we HSe.out.sw hs3 hqa hqb hbn'
          rcases hx : partitionEqual lt d3 a' b' q with ⟨mid, d4⟩
          obtain ⟨r1, r2, r3, r4, r5⟩ := round_eq hO (partitionEqual_holds lt) ha0 hqa hqb (by omega) hB3 hnl hx
          rw [hx] at hc
          have R4 := Lib.hid r4
          have R5 := Lib.hid r5
          clear hnl hx r4 r5 hB3 hc3
          go_wp2_with (go_at_call 68; refine hc.mono ?_; rintro e w6 ⟨rfl, st1, hs4⟩; have HSf := Lib.hid (HSe.out.trans st1); clear st1)
          go_roundw
          case rel =>
            first
              | exact ⟨mid, b', l1, wb, wp, d4, rfl, rfl, rfl, rfl, rfl, r2, hbn', by omega, hl1l, hs4, R4.out, HSf.out, fun R p1 p2 => by obtain ⟨z1, z2⟩ := R5.out R p1 p2; exact HG.out R (permIn_trans _ _ _ a' b' HP3.out z1) z2⟩
              | ((repeat apply Exists.intro)
                 exact ⟨⟨mid, b', l1, wb, wp, d4, rfl, rfl, rfl, rfl, rfl, r2, hbn', by omega, hl1l, hs4, R4.out, HSf.out, fun R p1 p2 => by obtain ⟨z1, z2⟩ := R5.out R p1 p2; exact HG.out R (permIn_trans _ _ _ a' b' HP3.out z1) z2⟩, by simp <;> and_intros <;> rfl⟩)
          case measure => simp [intOf] <;> omega
        | false =>
          have hc := so_part S a' b' q d3 we HSe.out.sw hs3 hqa hqb hbn'
          rcases hx : partition lt d3 a' b' q with ⟨mid, ap, d4⟩
          obtain ⟨r1, r2, r3, r4, r5, r6, r7⟩ := round_part hO (partition_holds lt) hqa hqb (by omega) hB3 hx
          rw [hx] at hc
          have R4 := Lib.hid r4
          have R5 := Lib.hid r5
          have R6 := Lib.hid r6
          have R7 := Lib.hid r7
          clear hx r4 r5 r6 r7 hB3 hc3
          by_cases h4 : mid - a' < b' - mid
          · have h4z : (mid : Int) - (a' : Int) < (b' : Int) - (mid : Int) := by omega
            have hih := fun (X : World) (hX : SWK enc k w0 blk off d4 X) (h4s : d4.size = n) => HIH.out a' mid l1 d4 X (by omega) hX h4s r1 (by omega) hl1n R4.out
            go_wp2_with (first
              | (go_at_call 69; refine hc.mono ?_; rintro e w6 ⟨rfl, st1, hs4⟩; have HSf := Lib.hid (HSe.out.trans st1); have y0 := B0 HSf.out; have y1 := B1 HSf.out; clear st1)
              | (go_at_call 50; refine (hih _ HSf.out.sw hs4).mono ?_; rintro e w7 ⟨rfl, L, pL, sL, st1⟩; have HSg := Lib.hid (HSf.out.trans st1); have HPL := Lib.hid (And.intro pL sL); clear st1 pL sL))
            obtain ⟨hb5, hg5⟩ := R6.out _ HPL.out.1 HPL.out.2
            have HG5 := Lib.hid hg5
            have HB5 := Lib.hid hb5
            have hsL : L.size = n := HPL.out.1.1.trans hs4
            clear hb5 hg5
            go_roundw
            case rel =>
              first
                | exact ⟨mid + 1, b', l1, _, ap, L, by go_num, rfl, rfl, rfl, rfl, by omega, hbn', by omega, hl1l, hsL, HB5.out, HSg.out, fun R p1 p2 => by obtain ⟨z1, z2⟩ := HG5.out R p1 p2; exact HG.out R (permIn_trans _ _ _ a' b' HP3.out z1) z2⟩
                | ((repeat apply Exists.intro)
                   exact ⟨⟨mid + 1, b', l1, _, ap, L, by go_num, rfl, rfl, rfl, rfl, by omega, hbn', by omega, hl1l, hsL, HB5.out, HSg.out, fun R p1 p2 => by obtain ⟨z1, z2⟩ := HG5.out R p1 p2; exact HG.out R (permIn_trans _ _ _ a' b' HP3.out z1) z2⟩, by simp <;> and_intros <;> rfl⟩)
            case measure => simp [intOf] <;> omega
          · have h4z : ¬ ((mid : Int) - (a' : Int) < (b' : Int) - (mid : Int)) := by omega
            obtain ⟨m1, hm1⟩ : ∃ m1, mid + 1 = m1 := ⟨_, rfl⟩
            have hm1z : (mid : Int) + 1 = (m1 : Int) := by omega
            have hm1b : m1 ≤ b' := by omega
            have hm1N : b' - m1 < N := by omega
            rw [hm1] at R5 R7
            clear hm1
            have hih := fun (X : World) (hX : SWK enc k w0 blk off d4 X) (h4s : d4.size = n) => HIH.out m1 b' l1 d4 X hm1N hX h4s hm1b hbn' hl1n R5.out
            go_wp2_with (first
              | (go_at_call 69; refine hc.mono ?_; rintro e w6 ⟨rfl, st1, hs4⟩; have HSf := Lib.hid (HSe.out.trans st1); have y0 := B0 HSf.out; have y1 := B1 HSf.out; clear st1)
              | (go_at_call 50; refine (hih _ HSf.out.sw hs4).mono ?_; rintro e w7 ⟨rfl, L, pL, sL, st1⟩; have HSg := Lib.hid (HSf.out.trans st1); have HPL := Lib.hid (And.intro pL sL); clear st1 pL sL))
            obtain ⟨hb5, hg5⟩ := R7.out _ HPL.out.1 HPL.out.2
            have HG5 := Lib.hid hg5
            have HB5 := Lib.hid hb5
            have hsL : L.size = n := HPL.out.1.1.trans hs4
            clear hb5 hg5
            go_roundw
            case rel =>
              first
                | exact ⟨a', mid, l1, _, ap, L, rfl, rfl, rfl, rfl, rfl, r1, by omega, by omega, hl1l, hsL, HB5.out, HSg.out, fun R p1 p2 => by obtain ⟨z1, z2⟩ := HG5.out R p1 p2; exact HG.out R (permIn_trans _ _ _ a' b' HP3.out z1) z2⟩
                | ((repeat apply Exists.intro)
                   exact ⟨⟨a', mid, l1, _, ap, L, rfl, rfl, rfl, rfl, rfl, r1, by omega, by omega, hl1l, hsL, HB5.out, HSg.out, fun R p1 p2 => by obtain ⟨z1, z2⟩ := HG5.out R p1 p2; exact HG.out R (permIn_trans _ _ _ a' b' HP3.out z1) z2⟩, by simp <;> and_intros <;> rfl⟩)
            case measure => simp [intOf] <;> omega
end So
end Go.Proofs.Ytbemkcnikoiecaa
