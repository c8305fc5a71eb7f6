/- The program's keys: Word, Deed. -/
import Derived.Test.YtkjjadacpbbnhaaDoorKyC2
import Derived.Maps.RangeWalk
set_option linter.unusedVariables false
namespace Go.Proofs.YtkjjadacpbbnhaaDoor
open Go.ChangeShapes Go.WideShapes Go.ChangeAt Go.RowKit Mon Ky
open Go.Maps (Keyed)

theorem zero_int (w : World) : (zeroValue 3).run Tryd.prog w = .ok (.int .i64 0) w := by kernel_rfl
theorem look_wd {w : World} {b n : Nat} {D : DataW Value} {s : ByteArray} (h : w.ownsMap Tryd.prog 9 asIs b n D) (hD : Wds D) (hs : s.size ≤ maxLen) :
    (Instr.lookup tWm (.map (some b)) (.string s) true).run Tryd.prog w = .ok (.tuple #[.int .i64 (deedV s.data.toList), .bool (deedB s.data.toList)]) w := by
  obtain ⟨u, ps, hr, hu⟩ := h.look_ok lawS Tryd.underlying40 (zero_int w) (show asIs (.int .i64 0) = some (.held (.int .i64 0), []) from rfl) (keyS hs)
  have e := asIs_inv hu
  obtain ⟨h1, h2⟩ := hD s.data.toList
  rw [h1] at hr
  cases hb : deedB s.data.toList with
  | true =>
    rw [h2 hb] at e
    cases e
    rw [hb] at hr
    exact hr
  | false =>
    rw [Maps.atKey_of_not_has (h1.trans hb)] at e
    cases e
    rw [hb] at hr
    have : deedV s.data.toList = 0 := (deed_none fun d h0 h1 e => by
      have := (deed_word h0 h1).1
      rw [e, hb] at this
      cases this).2
    rw [this]
    exact hr
theorem pk_deed (s : ByteArray) (w : World) (hs : s.size ≤ maxLen) : Calls Tryd.prog 21 #[.string s] w fun e w' => e = .returned (.tuple #[.int .i64 (deedV s.data.toList), .bool (deedB s.data.toList)]) ∧ Keeps w w' := by
  have HS := Lib.hid hs
  have HW := Lib.hid (pk_words w)
  obtain ⟨v, hv⟩ : ∃ v, deedV s.data.toList = v := ⟨_, rfl⟩
  obtain ⟨b, hb⟩ : ∃ b, deedB s.data.toList = b := ⟨_, rfl⟩
  have HL := Lib.hid fun (w : World) n D (h : w.ownsMap Tryd.prog 9 asIs n 6 D) (hD : Wds D) => look_wd h hD hs
  rw [hv, hb] at HL
  rw [hv, hb]
  clear hv hb hs
  go_enter Tryd.func21, Tryd.ntmps21
  go_wp2_with fail
  refine HW.out.mono ?_
  rintro e w2 ⟨D, rfl, o2, hD, k2⟩
  have K2 := Lib.hid k2
  have hl := HL.out w2 _ D o2 hD
  clear k2 o2 hD
  go_wp2
  go_ret2
  exact ⟨rfl, K2.out⟩
/-- No word that has come has the deed. -/
def NoneYet (d : Int) (left : Lit → Bool) : Prop := ∀ s : List UInt8, deedB s = true → deedV s = d → left (.string s) = true
theorem NoneYet.next {d : Int} {left : Lit → Bool} {x : List UInt8} (h : NoneYet d left) (hx : deedV x ≠ d) : NoneYet d fun z => left z && !z.sameKey (.string x) := fun s hs hv => by
  have : Lit.string s ≠ Lit.string x := fun e => by cases e; exact hx hv
  simp [h s hs hv, Maps.sameKey_ne this]
theorem NoneYet.done {d : Int} {left : Lit → Bool} (h : NoneYet d left) (hl : ∀ kl, left kl = false) : wordS d = ⟨#[]⟩ := by
  unfold wordS
  rw [word_none]
  rintro ⟨h0, h1⟩
  obtain ⟨g1, g2⟩ := deed_word h0 h1
  have := h _ g1 g2
  rw [hl] at this
  cases this
set_option maxHeartbeats 4000000 in
theorem pk_word (d : Int) (w : World) : Calls Tryd.prog 11 #[.int .i64 d] w fun e w' => e = .returned (.string (wordS d)) ∧ Keeps w w' := by
  have HW := Lib.hid (pk_words w)
  go_enter Tryd.func11, Tryd.ntmps11
  go_wp2_with fail
  refine HW.out.mono ?_
  rintro e w2 ⟨D, rfl, o2, hD, k2⟩
  have K2 := Lib.hid k2
  have HD := Lib.hid hD
  have O2 := Lib.hid o2
  have hlt := Lib.hid o2.lt
  clear k2 hD HW o2
  go_wp2_with (first
    | (at_range; refine wpList_range_own _ rfl _ tWm rfl 9 3 lawS Tryd.underlying40 asIs w.heap.size 6 _ rfl O2.out ?_; intro w0 hrg0 hg0 hs0)
    | go_in)
  have HG0 := Lib.hid hg0
  have HS0 := Lib.hid hs0
  have HRG0 := Lib.hid hrg0
  clear hg0 hs0 hrg0
  go_frame
  go_loopw [3, 4] (fun _ _ wr => ∃ (left : Lit → Bool) (cnt : Nat), wr.ranges Tryd.prog 9 asIs w.heap.size w2.heap.size 6 D left cnt ∧ NoneYet d left ∧ Keeps w wr)
    (fun _ _ wr => wr.rangeLeft w.heap.size w2.heap.size)
  case atStart =>
    exact ⟨_, _, HRG0.out, fun s hs hv => by rw [(HD.out s).1]; exact hs, K2.out.grown HG0.out (K2.out.size) (by simp)⟩
  case round =>
    obtain ⟨left, cnt, hrg, hN, hk⟩ := hrel
    have HN := Lib.hid hN
    have HK := Lib.hid hk
    have HR := Lib.hid hrg
    clear hN hk
    go_wp2_with (first
      | (at_next; refine wpList_next_ranges _ rfl _ rfl 9 lawS asIs Value.string id (fun key kl h => by obtain ⟨x, e, _⟩ := keyS_inv h; exact ⟨x, e⟩) (fun v _ _ => ⟨v, rfl⟩) w.heap.size w2.heap.size 6 _ _ _ rfl hrg ?_ ?_)
      | go_in)
    · intro hc0 hl0
      have E := Lib.hid (HN.out.done hl0)
      clear hc0 hl0 hrg
      go_wp2
      go_ret
      exact ⟨by rw [E.out]; rfl, HK.out⟩
    · intro x c kl yd yp w1 cnt1 hkey hlx hv hat hrg1 hlt1 hg1 hs1 hen
      obtain ⟨x', ex, rfl, hsz⟩ := keyS_inv hkey
      cases ex
      have hb : deedB x.data.toList = true := by
        rw [← (HD.out _).1]
        exact Maps.has_true_of_atKey hat
      have hc : c = .int .i64 (deedV x.data.toList) := by
        have h1 := (HD.out x.data.toList).2 hb (.held (.int .i64 0))
        have h2 := asIs_inv hv
        rw [hat, h2] at h1
        cases h1; rfl
      subst hc
      have HK1 : Hid (Keeps w w1) := Lib.hid (HK.out.grown hg1 HK.out.size (fun k e => by cases e; exact K2.out.size))
      obtain ⟨n, hn⟩ : ∃ n, deedV x.data.toList = n := ⟨_, rfl⟩
      have HB := Lib.hid (deed_of hb)
      have HL1 := Lib.hid hlt1
      have HRG1 := Lib.hid hrg1
      by_cases he : n = d
      · have e1 : (n == d) = true := by simpa using he
        have E : Hid (wordS d = x) := Lib.hid (bytes_inj (by rw [← he, ← hn]; unfold wordS; rw [HB.out.1]))
        try simp only [id] at hen ⊢
        rw [hn] at hen ⊢
        clear hn he hkey hlx hv hat hrg1 hlt1 hg1 hs1 hb hrg
        go_wp2
        go_ret
        exact ⟨by rw [E.out]; rfl, HK1.out⟩
      · have e1 : (n == d) = false := by simpa using he
        have N := Lib.hid (HN.out.next (x := x.data.toList) (by rw [hn]; exact he))
        try simp only [id] at hen ⊢
        rw [hn] at hen ⊢
        clear hn he hkey hlx hv hat hrg1 hlt1 hg1 hs1 hb hrg
        go_wp2
        go_roundw
        case rel => exact ⟨_, cnt1, HRG1.out, N.out, HK1.out⟩
        case measure => rw [HRG1.out.left_eq, HR.out.left_eq]; exact HL1.out
end Go.Proofs.YtkjjadacpbbnhaaDoor
