/- BooksZero: all accounts come to 0. -/
import Derived.Test.YtffipjhpoaalhaaBkOne
import Derived.LoopN
import Derived.WalkKit
set_option linter.unusedVariables false
namespace Go.Proofs.Ytffipjhpoaalhaa
open Go.ChangeShapes Go.WideShapes Go.ChangeAt Go.RowKit Csv Bk Mon

theorem four_sums {l : List PM} (h : SmallM l) (hl : l.length ≤ 1000) (a : Int) : wrap64 (wrap64 (wrap64 (bal l a 1 + bal l a 2) + bal l a 3) + bal l a 4) = bal l a 0 := by
  have h0 := small_bal h hl a 0
  have h1 := bal_orders (fun p hp => ⟨(h p hp).2.2.1, (h p hp).2.2.2⟩) a
  unfold wrap64
  omega
theorem psum_five {l : List PM} (h : ∀ p ∈ l, May p) (o : Int) : psum (fun a => bal l a o) 5 = 0 := by
  have := bal_zero h o
  show 0 + bal l 0 o + bal l 1 o + bal l 2 o + bal l 3 o + bal l 4 o = 0
  omega
set_option maxRecDepth 100000 in
set_option maxHeartbeats 16000000 in
theorem bookszero_any (v : Value) (L : List PI) (w : World) (h : PostsAt w v L) :
    Calls Try.prog 5 #[v] w fun e w' => e = .returned (.bool true) ∧ Keeps w w' := by
  have HP := Lib.hid h
  have HG := Lib.hid (great_any v L 60 w h)
  have HT := Lib.hid fun W => posted_any W
  have HN := Lib.hid fun W => pnew_any W
  obtain ⟨p, c, rfl, hmx, _, _⟩ := h
  obtain ⟨N, hN⟩ : ∃ N, L.length = N := ⟨_, rfl⟩
  have HLN := Lib.hid hN
  rw [hN] at hmx HG ⊢
  clear hN hmx
  obtain ⟨gr, hgr⟩ : ∃ gr, greatP L 60 = gr := ⟨_, rfl⟩
  have HGR := Lib.hid hgr
  rw [hgr] at HG
  clear hgr
  go_enter Try.func5, Try.ntmps5
  go_wp2_with fail
  refine HG.out.mono ?_
  rintro e w1 ⟨rfl, k1⟩
  have K1 := Lib.hid k1
  clear k1
  cases gr with
  | true =>
    go_wp2_with fail
    refine (HT.out _).mono ?_
    rintro e w2 ⟨rfl, k2⟩
    have K2 := Lib.hid (K1.out.trans k2)
    clear k2
    go_wp2
    go_ret
    exact ⟨rfl, K2.out⟩
  | false =>
    have HN60 : Hid (N ≤ 60) := Lib.hid (by have := not_great (n := 60) HGR.out; have := HLN.out; omega)
    have HSH := Lib.hid (not_long HGR.out)
    go_wp2_with fail
    refine (HN.out _).mono ?_
    rintro e w2 ⟨b, F, rfl, hb, hf, k2⟩
    have HS := Lib.hid (BkOne.start K1.out hb hf k2)
    clear hb hf k2
    go_wp2
    go_loopw [4] (fun vi wr => ∃ (k : Nat) (M : List PI), k ≤ N ∧ vi = .int .i64 (k : Int) ∧ BkOne w b M wr ∧ Sm M k) (fun vi _ => N - (intOf vi).toNat)
    case atStart => exact ⟨0, [], by omega, rfl, HS.out, Sm.nil⟩
    case round =>
      obtain ⟨k, M, hk, rfl, hs, hsm⟩ := hrel
      have HO := Lib.hid hs
      have HSM := Lib.hid hsm
      have HK2 : Hid (k ≤ 100000) := Lib.hid (by have := HN60.out; omega)
      clear hs hsm HS
      by_cases hlt : k < N
      · have HK1 := Lib.hid hlt
        obtain ⟨x, hx⟩ : ∃ x, L[k]? = some x := ⟨_, List.getElem?_eq_getElem (by have := HLN.out; omega)⟩
        obtain ⟨p', c', e', _, hcc, hc⟩ := HP.out
        simp only [Value.slice.injEq] at e'
        obtain ⟨rfl, _, rfl⟩ := e'
        obtain ⟨xg, ad, rfl, q⟩ := hc k x hx
        obtain ⟨q0, q1, q2, q3, q4⟩ := q.keeps HO.out.keep
        have XS : Hid (x.s.size ≤ 100) := Lib.hid (HSH.out x (List.mem_of_getElem? hx))
        have CS : Hid (Calls Try.prog 20 #[.agg #[.string x.s, .int .i64 x.ord, .int .i64 x.deb, .int .i64 x.cre, .int .i64 x.amt]] wr fun e w' => e = .returned (smallI x).val ∧ Keeps wr w') := Lib.hid (small_any x wr)
        have CP : Hid (∀ W, BkOne w b M W → Calls Try.prog 11 #[.pointer (some ⟨b, 0, none⟩), (smallI x).val] W fun e w' => (e = .returned (.int .i64 0) ∨ e = .returned (.int .i64 91)) ∧ BkOne w b (postI M (smallI x)).2 w' ∧ Sm (postI M (smallI x)).2 (k + 1)) := Lib.hid fun W hW => by
          obtain ⟨s1, s2⟩ := HSM.out.postSmall (by have := HN60.out; omega) x XS.out
          refine (hW.post (smallI x) HSM.out.good (smallI_good x XS.out).1 HSM.out.ok (by have := HSM.out.len; have := HN60.out; omega)).mono ?_
          rintro e w' ⟨rfl, h⟩
          refine ⟨?_, h, s1⟩
          rcases s2 with s2 | s2 <;> rw [s2]
          · exact Or.inl rfl
          · exact Or.inr rfl
        have hi1 : (k : Int) < (N : Int) := by omega
        have hi2 : (k : Int) ≤ (N : Int) := by omega
        have hi0 : (0 : Int) ≤ (k : Int) := by omega
        clear hc q hx xg hcc
        go_wp2_with fail
        refine CS.out.mono ?_
        rintro e w3 ⟨rfl, k3⟩
        have HO3 := Lib.hid (HO.out.keeps k3)
        clear k3 q0 q1 q2 q3 q4
        go_wp2_with fail
        refine (CP.out _ HO3.out).mono ?_
        rintro e w4 ⟨rfl | rfl, h4, s4⟩
        · have H4 := Lib.hid h4
          have S4 := Lib.hid s4
          clear h4 s4
          go_wp2
          exact ⟨⟨k + 1, _, HK1.out, num_next HK2.out, H4.out, S4.out⟩, meas_lt HK1.out HK2.out⟩
        · have H4 := Lib.hid h4
          have S4 := Lib.hid s4
          clear h4 s4
          go_wp2
          exact ⟨⟨k + 1, _, HK1.out, num_next HK2.out, H4.out, S4.out⟩, meas_lt HK1.out HK2.out⟩
      · obtain rfl : k = N := by omega
        have HM1000 : Hid (M.length ≤ 1000) := Lib.hid (by have := HSM.out.len; have := HN60.out; omega)
        clear hlt hk
        obtain ⟨wz, hwz⟩ : ∃ wz, wz = wr := ⟨_, rfl⟩
        subst hwz
        obtain ⟨g, hg⟩ : ∃ g : Int → Int → Int, g = fun a o => bal (pms M) a o := ⟨_, rfl⟩
        have HB : Hid (∀ a o, I64 a → I64 o → Calls Try.prog 13 #[.pointer (some ⟨b, 0, none⟩), .int .i64 a, .int .i64 o] wz fun e w' => e = .returned (.int .i64 (g a o)) ∧ w' = wz) := Lib.hid fun a o ha ho => by
          rw [hg]; exact HO.out.bal a o ha ho
        have HZ : Hid (∀ o, psum (fun a => g a o) 5 = 0) := Lib.hid fun o => by rw [hg]; exact psum_five HSM.out.ok.may o
        have HF : Hid (∀ a, wrap64 (wrap64 (wrap64 (g a 1 + g a 2) + g a 3) + g a 4) = g a 0) := Lib.hid fun a => by rw [hg]; exact four_sums HSM.out.small (by rw [pms_len]; exact HM1000.out) a
        have I : Hid (∀ n : Nat, n ≤ 100 → I64 (n : Int)) := Lib.hid fun n hn => by unfold I64 top; omega
        clear hg
        go_wp2
        go_loopw [6] (fun v6 W => ∃ q : Nat, q ≤ 5 ∧ v6 = .int .i64 (q : Int) ∧ W = wz) (fun v6 _ => 5 - (intOf v6).toNat)
        case atStart => exact ⟨0, by omega, rfl, rfl⟩
        case round =>
          obtain ⟨q, hq, rfl, rfl⟩ := hrel
          obtain ⟨wy, hwy⟩ : ∃ wy, wy = wr := ⟨_, rfl⟩
          subst hwy
          by_cases hq4 : q ≤ 4
          · have hq5 : (q : Int) ≤ 4 := by omega
            have HQ : Hid (q < 5) := Lib.hid (by omega)
            obtain ⟨f, hf⟩ : ∃ f : Int → Int, f = fun a => g a q := ⟨_, rfl⟩
            have HZ5 : Hid (psum f 5 = 0) := Lib.hid (by rw [hf]; exact HZ.out q)
            have HB2 : Hid (∀ a, I64 a → Calls Try.prog 13 #[.pointer (some ⟨b, 0, none⟩), .int .i64 a, .int .i64 (q : Int)] wy fun e w' => e = .returned (.int .i64 (f a)) ∧ w' = wy) := Lib.hid fun a ha => by
              rw [hf]; exact HB.out a q ha (I.out q (by omega))
            clear hf
            go_wp2
            go_loopw [7, 8] (fun v7 v8 W2 => ∃ n : Nat, n ≤ 5 ∧ v8 = .int .i64 (n : Int) ∧ v7 = .int .i64 (wrap64 (psum f n)) ∧ W2 = wy) (fun _ v8 _ => 5 - (intOf v8).toNat)
            case atStart => exact ⟨0, by omega, rfl, by rw [show psum f 0 = 0 from rfl, wrap0], rfl⟩
            case round =>
              obtain ⟨n, hn, rfl, rfl, rfl⟩ := hrel
              by_cases hn4 : n < 5
              · have hn5 : (n : Int) < 5 := by omega
                have HN5 := Lib.hid hn4
                have hw := psum_step f n
                obtain ⟨s, hs⟩ : ∃ s, wrap64 (psum f n) = s := ⟨_, rfl⟩
                obtain ⟨y, hy⟩ : ∃ y, f (n : Int) = y := ⟨_, rfl⟩
                obtain ⟨s1, hs1⟩ : ∃ s, wrap64 (psum f (n + 1)) = s := ⟨_, rfl⟩
                have HB3 := Lib.hid (HB2.out n (I.out n (by omega)))
                rw [hy] at HB3
                rw [hs, hy, hs1] at hw
                rw [hs]
                have HS1 := Lib.hid hs1
                clear hs hs1 hy
                go_wp2_with fail
                refine HB3.out.mono ?_
                rintro e w'' ⟨rfl, rfl⟩
                go_wp2
                exact ⟨⟨n + 1, HN5.out, by go_num, by rw [hw, HS1.out]; exact ⟨rfl, trivial⟩⟩, by have := HN5.out; simp [intOf]; omega⟩
              · obtain rfl : n = 5 := by omega
                rw [HZ5.out, wrap0]
                go_wp2
                exact ⟨⟨q + 1, HQ.out, by go_num, trivial⟩, by have := HQ.out; simp [intOf]; omega⟩
          · obtain rfl : q = 5 := by omega
            rw [show ((5 : Nat) : Int) = (5 : Int) from rfl]
            go_wp2
            go_loopw [9] (fun v9 W => ∃ n : Nat, n ≤ 5 ∧ v9 = .int .i64 (n : Int) ∧ W = wy) (fun v9 _ => 5 - (intOf v9).toNat)
            case atStart => exact ⟨0, by omega, rfl, rfl⟩
            case round =>
              obtain ⟨n, hn, rfl, rfl⟩ := hrel
              by_cases hn4 : n < 5
              · have hn5 : (n : Int) < 5 := by omega
                have HN5 := Lib.hid hn4
                have hw := HF.out (n : Int)
                have IN := Lib.hid (I.out n (by omega))
                obtain ⟨f, hf⟩ : ∃ f, g (n : Int) = f := ⟨_, rfl⟩
                have HB2 : Hid (∀ o, I64 o → Calls Try.prog 13 #[.pointer (some ⟨b, 0, none⟩), .int .i64 (n : Int), .int .i64 o] wr fun e w' => e = .returned (.int .i64 (f o)) ∧ w' = wr) := Lib.hid fun o ho => by
                  rw [← hf]; exact HB.out n o IN.out ho
                rw [hf] at hw
                have t0 : (f 0 != f 0) = false := by simp
                clear hf
                go_wp2_with fail
                refine (HB2.out 1 (by unfold I64 top; decide)).mono ?_
                rintro e w'' ⟨rfl, rfl⟩
                go_wp2_with fail
                refine (HB2.out 2 (by unfold I64 top; decide)).mono ?_
                rintro e w'' ⟨rfl, rfl⟩
                go_wp2_with fail
                refine (HB2.out 3 (by unfold I64 top; decide)).mono ?_
                rintro e w'' ⟨rfl, rfl⟩
                go_wp2_with fail
                refine (HB2.out 4 (by unfold I64 top; decide)).mono ?_
                rintro e w'' ⟨rfl, rfl⟩
                go_wp2_with fail
                refine (HB2.out 0 (by unfold I64 top; decide)).mono ?_
                rintro e w'' ⟨rfl, rfl⟩
                go_wp2
                exact ⟨⟨n + 1, HN5.out, by go_num, trivial⟩, by have := HN5.out; simp [intOf]; omega⟩
              · obtain rfl : n = 5 := by omega
                have HZZ : Hid (Calls Try.prog 18 #[.pointer (some ⟨b, 0, none⟩)] wr fun e w' => e = .returned (.bool true) ∧ Keeps wr w') := Lib.hid (HO.out.zero HSM.out.ok)
                go_wp2_with fail
                refine HZZ.out.mono ?_
                rintro e w5 ⟨rfl, k5⟩
                have K5 := Lib.hid k5
                clear k5
                go_wp2_with fail
                refine (HT.out _).mono ?_
                rintro e w6 ⟨rfl, k6⟩
                have K6 := Lib.hid k6
                clear k6
                go_wp2
                go_ret
                exact ⟨rfl, HO.out.keep.trans (K5.out.trans K6.out)⟩
theorem booksZero_go (v : Value) (L : List PI) (w : World) (h : PostsAt w v L) :
    Calls Try.prog 5 #[v] w fun e w' => e = .returned (.bool true) ∧ Keeps w w' := bookszero_any v L w h
end Go.Proofs.Ytffipjhpoaalhaa
