
/- The document's books: sum, Balance. -/
import Derived.Test.YtffipjhpoaalhaaBkRefC
import Derived.LoopN
import Derived.WalkKit
set_option linter.unusedVariables false
namespace Go.Proofs.Ytffipjhpoaalhaa
open Go.ChangeShapes Go.WideShapes Go.ChangeAt Go.RowKit Csv Bk Mon

def pms (L : List PI) : List PM := L.map PI.pm
theorem pms_take (L : List PI) (k : Nat) : pms (L.take k) = (pms L).take k := by unfold pms; rw [List.map_take]
theorem pms_snoc {L : List PI} {k : Nat} {x : PI} (h : L[k]? = some x) : (pms L).take (k + 1) = (pms L).take k ++ [x.pm] := by
  rw [List.take_add_one]
  unfold pms
  rw [List.getElem?_map, h]; rfl
theorem sumB_in (n : Int) : sumB n = in64 n := by
  unfold sumB in64 inI64 top
  congr 1
  exact decide_eq_decide.2 ⟨fun h => by omega, fun h => by omega⟩
theorem sumV_in {n : Int} (h : in64 n = true) : sumV n = n := by
  rw [← sumB_in] at h
  unfold sumB at h
  unfold sumV
  rw [if_pos h]
theorem sumV_i64 (n : Int) : I64 (sumV n) := by
  unfold sumV
  split
  · rename_i h
    unfold inI64 at h
    simp only [Bool.and_eq_true, decide_eq_true_eq] at h
    exact h
  · unfold I64 top; omega
/-- How far a balance has come. -/
def SumAt (L : List PI) (a o : Int) (k : Nat) (n : Int) (b : Bool) : Prop := b = in64 (bal ((pms L).take k) a o) ∧ I64 n ∧ (b = true → n = bal ((pms L).take k) a o)
theorem SumAt.skip {L : List PI} {a o : Int} {k : Nat} {n : Int} {b : Bool} {x : PI} (h : SumAt L a o k n b) (hx : L[k]? = some x) (h0 : hit x.pm a o = 0) : SumAt L a o (k + 1) n b := by
  unfold SumAt at *
  rw [pms_snoc hx, bal_snoc, h0, Int.add_zero]
  exact h
theorem SumAt.step {L : List PI} {a o : Int} {k : Nat} {n : Int} {x : PI} (h : SumAt L a o k n true) (hx : L[k]? = some x) {m : Int} (h0 : hit x.pm a o = m - n) : SumAt L a o (k + 1) (sumV m) (sumB m) := by
  obtain ⟨_, _, h3⟩ := h
  have e : bal ((pms L).take (k + 1)) a o = m := by rw [pms_snoc hx, bal_snoc, h0, ← h3 rfl]; omega
  refine ⟨by rw [e, sumB_in], sumV_i64 m, fun hb => ?_⟩
  rw [e]
  exact sumV_in (by rw [← sumB_in]; exact hb)

def RSumOut (L : List PI) (a o : Int) (N : Nat) (w : World) (e : Ending) (w' : World) : Prop := ∃ n b, e = .returned (.tuple #[.int .i64 n, .bool b]) ∧ SumAt L a o N n b ∧ Keeps w w'
set_option maxRecDepth 100000 in
set_option maxHeartbeats 8000000 in
theorem rsum_any (v : Value) (L : List PI) (a o : Int) (w : World) (h : PostsAt w v L) (hl : L.length ≤ 1000) (hfit : ∀ k, k < L.length → in64 (bal ((pms L).take k) a o) = true) :
    Calls Try.prog 26 #[v, .int .i64 a, .int .i64 o] w (RSumOut L a o L.length w) := by
  have HP := Lib.hid h
  obtain ⟨p, c, rfl, _, _, _⟩ := h
  obtain ⟨N, hN⟩ : ∃ N, L.length = N := ⟨_, rfl⟩
  have HN := Lib.hid hN
  have HFIT := Lib.hid hfit
  rw [hN] at hl ⊢
  clear hN hfit
  go_enter Try.func26, Try.ntmps26
  go_wp2
  go_loopw [8, 9, 10] (fun vn vb vi wr => ∃ (k : Nat) (n : Int) (b : Bool), k ≤ N ∧ vi = .int .i64 (k : Int) ∧ vn = .int .i64 n ∧ vb = .bool b ∧ SumAt L a o k n b ∧ Keeps w wr) (fun _ _ vi _ => N - (intOf vi).toNat)
  case atStart => exact ⟨0, 0, true, by omega, rfl, rfl, rfl, ⟨by rw [List.take_zero, bal_nil]; decide, by unfold I64 top; omega, fun _ => rfl⟩, Keeps.refl _⟩
  case round =>
    obtain ⟨k, n, b, hk, rfl, rfl, rfl, hs, hkr⟩ := hrel
    have HKR := Lib.hid hkr
    by_cases hlt : k < N
    · have hb : b = true := by rw [hs.1]; exact HFIT.out k (by have := HN.out; omega)
      subst hb
      have HS := Lib.hid hs
      have HNI := Lib.hid hs.2.1
      obtain ⟨x, hx⟩ : ∃ x, L[k]? = some x := ⟨_, List.getElem?_eq_getElem (by have := HN.out; omega)⟩
      obtain ⟨p', c', e', _, _, hc⟩ := HP.out
      simp only [Value.slice.injEq] at e'
      obtain ⟨rfl, _, rfl⟩ := e'
      obtain ⟨hg, ad, rfl, q⟩ := hc k x hx
      obtain ⟨q0, q1, q2, q3, q4⟩ := q.keeps hkr
      have HX := Lib.hid hx
      have HGA := Lib.hid hg.amt
      have hi1 : (k : Int) < (N : Int) := by omega
      obtain ⟨s, xo, xd, xc, xm⟩ := x
      dsimp only at q0 q1 q2 q3 q4 HGA
      have hit_ : ∀ r, Hid (hit (PI.pm ⟨s, xo, xd, xc, xm⟩) a o = r ↔ (if o ≠ 0 ∧ xo ≠ o then 0 else if xd = a then xm else if xc = a then -xm else 0) = r) := fun r => Lib.hid Iff.rfl
      clear hc hs hg q hkr hx
      have HB2 : Hid (∀ W, Keeps wr W → Keeps w W) := Lib.hid fun W kW => Keeps.trans HKR.out kW
      by_cases c0 : o ≠ 0 ∧ xo ≠ o
      · have h0 : hit (PI.pm ⟨s, xo, xd, xc, xm⟩) a o = 0 := (hit_ 0).out.2 (if_pos c0)
        have HN2 := Lib.hid (HS.out.skip HX.out h0)
        have t1 : (o != 0) = true := by simpa using c0.1
        have t2 : (xo != o) = true := by simpa using c0.2
        clear c0 h0
        go_wp2
        go_roundw
        case rel => exact ⟨k + 1, n, true, by omega, by go_num, rfl, rfl, HN2.out, HB2.out _ (keeps_box _ _)⟩
        case measure => simp [intOf]; omega
      · by_cases c1 : xd = a
        · subst c1
          have h0 : hit (PI.pm ⟨s, xo, xd, xc, xm⟩) xd o = n + xm - n := (hit_ _).out.2 (by rw [if_neg c0, if_pos rfl]; omega)
          have HN2 := Lib.hid (HS.out.step HX.out h0)
          obtain ⟨V, hV⟩ : ∃ V, sumV (n + xm) = V := ⟨_, rfl⟩
          obtain ⟨B, hB⟩ : ∃ B, sumB (n + xm) = B := ⟨_, rfl⟩
          rw [hV, hB] at HN2
          have HC : Hid (∀ W, Calls Try.prog 33 #[.int .i64 n, .int .i64 xm] W fun e w' => e = .returned (.tuple #[.int .i64 V, .bool B]) ∧ W = w') := Lib.hid fun W => by
            have := radd_any n xm W HNI.out HGA.out
            rw [hV, hB] at this
            exact this
          clear hV hB h0
          by_cases c2 : o = 0
          · have t1 : (o != 0) = false := by simpa using c2
            clear c0 c2
            go_wp2_with (go_at_call 33; refine (HC.out _).mono ?_; rintro e w2 ⟨rfl, rfl⟩)
            go_roundw
            case rel => exact ⟨k + 1, V, B, by omega, by go_num, rfl, rfl, HN2.out, HB2.out _ (keeps_box _ _)⟩
            case measure => simp [intOf]; omega
          · have t1 : (o != 0) = true := by simpa using c2
            have t2 : (xo != o) = false := by
              have : xo = o := by
                rcases Classical.em (xo = o) with h | h
                · exact h
                · exact absurd ⟨c2, h⟩ c0
              simpa using this
            clear c0 c2
            go_wp2_with (go_at_call 33; refine (HC.out _).mono ?_; rintro e w2 ⟨rfl, rfl⟩)
            go_roundw
            case rel => exact ⟨k + 1, V, B, by omega, by go_num, rfl, rfl, HN2.out, HB2.out _ (keeps_box _ _)⟩
            case measure => simp [intOf]; omega
        · by_cases c3 : xc = a
          · have h0 : hit (PI.pm ⟨s, xo, xd, xc, xm⟩) a o = n - xm - n := (hit_ _).out.2 (by rw [if_neg c0, if_neg c1, if_pos c3]; omega)
            have HN2 := Lib.hid (HS.out.step HX.out h0)
            obtain ⟨V, hV⟩ : ∃ V, sumV (n - xm) = V := ⟨_, rfl⟩
            obtain ⟨B, hB⟩ : ∃ B, sumB (n - xm) = B := ⟨_, rfl⟩
            rw [hV, hB] at HN2
            have HC : Hid (∀ W, Calls Try.prog 34 #[.int .i64 n, .int .i64 xm] W fun e w' => e = .returned (.tuple #[.int .i64 V, .bool B]) ∧ W = w') := Lib.hid fun W => by
              have := rsub_any n xm W HNI.out HGA.out
              rw [hV, hB] at this
              exact this
            clear hV hB h0
            have t3 : (xd == a) = false := by simpa using c1
            have t4 : (xc == a) = true := by simpa using c3
            clear c1 c3
            by_cases c2 : o = 0
            · have t1 : (o != 0) = false := by simpa using c2
              clear c0 c2
              go_wp2_with (go_at_call 34; refine (HC.out _).mono ?_; rintro e w2 ⟨rfl, rfl⟩)
              go_roundw
              case rel => exact ⟨k + 1, V, B, by omega, by go_num, rfl, rfl, HN2.out, HB2.out _ (keeps_box _ _)⟩
              case measure => simp [intOf]; omega
            · have t1 : (o != 0) = true := by simpa using c2
              have t2 : (xo != o) = false := by
                have : xo = o := by
                  rcases Classical.em (xo = o) with h | h
                  · exact h
                  · exact absurd ⟨c2, h⟩ c0
                simpa using this
              clear c0 c2
              go_wp2_with (go_at_call 34; refine (HC.out _).mono ?_; rintro e w2 ⟨rfl, rfl⟩)
              go_roundw
              case rel => exact ⟨k + 1, V, B, by omega, by go_num, rfl, rfl, HN2.out, HB2.out _ (keeps_box _ _)⟩
              case measure => simp [intOf]; omega
          · have h0 : hit (PI.pm ⟨s, xo, xd, xc, xm⟩) a o = 0 := (hit_ 0).out.2 (by rw [if_neg c0, if_neg c1, if_neg c3])
            have HN2 := Lib.hid (HS.out.skip HX.out h0)
            have t3 : (xd == a) = false := by simpa using c1
            have t4 : (xc == a) = false := by simpa using c3
            clear h0 c1 c3
            by_cases c2 : o = 0
            · have t1 : (o != 0) = false := by simpa using c2
              clear c0 c2
              go_wp2
              go_roundw
              case rel => exact ⟨k + 1, n, true, by omega, by go_num, rfl, rfl, HN2.out, HB2.out _ (keeps_box _ _)⟩
              case measure => simp [intOf]; omega
            · have t1 : (o != 0) = true := by simpa using c2
              have t2 : (xo != o) = false := by
                have : xo = o := by
                  rcases Classical.em (xo = o) with h | h
                  · exact h
                  · exact absurd ⟨c2, h⟩ c0
                simpa using this
              clear c0 c2
              go_wp2
              go_roundw
              case rel => exact ⟨k + 1, n, true, by omega, by go_num, rfl, rfl, HN2.out, HB2.out _ (keeps_box _ _)⟩
              case measure => simp [intOf]; omega
    · obtain rfl : k = N := by omega
      have hz : ¬ ((k : Int) < (k : Int)) := by omega
      have HS := Lib.hid hs
      clear hs hkr
      go_wp2
      go_ret2
      exact ⟨n, b, rfl, HS.out, HKR.out⟩
end Go.Proofs.Ytffipjhpoaalhaa
