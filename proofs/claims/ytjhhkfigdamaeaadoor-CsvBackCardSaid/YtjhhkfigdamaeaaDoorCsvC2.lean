
/- The contracts of csv.printed, reject, readQuoted, read. -/
import Derived.Test.YtjhhkfigdamaeaaDoorCsvC
set_option linter.unusedVariables false
namespace Go.Proofs.YtjhhkfigdamaeaaDoor
open Go.ChangeShapes Go.WideShapes Go.ChangeAt Go.RowKit Go.Shelf Go.Proofs Csv

theorem countB_le (s sub : ByteArray) : Lib.countB s sub ≤ s.size + 1 := by
  have := Lib.count_le s.data.toList sub.data.toList
  rw [len_data] at this
  exact this

set_option maxHeartbeats 1000000 in
theorem printed_any (s : ByteArray) (w : World) (hs : s.size ≤ 65536) (hm : HasMax w) :
    Calls Tryd.prog 19 #[.string s] w fun e w' => e = .returned (.string ⟨(prt s.data.toList).toArray⟩) ∧ Keeps w w' := by
  have c := cany_any s w (by omega)
  have HM := Lib.hid hm
  clear hm
  cases hq : quotes s.data.toList
  · rw [hq] at c
    have H := Lib.hid (show prt s.data.toList = s.data.toList from by unfold prt; rw [hq]; rfl)
    clear hq
    go_enter Tryd.func19, Tryd.ntmps19
    go_wp2_with (go_at_call 26; refine c.mono ?_; rintro e w' ⟨rfl, hb⟩)
    go_ret
    exact ⟨ret_str (by rw [H.out, mk_data]), hb⟩
  · rw [hq] at c
    have H := Lib.hid (show (⟨#[34]⟩ : ByteArray) ++ ⟨(dbl s.data.toList).toArray⟩ ++ ⟨#[34]⟩ = ⟨(prt s.data.toList).toArray⟩ from by
      unfold prt; rw [hq]
      rw [ByteArray.mk_append_mk, ByteArray.mk_append_mk]; simp)
    have hl : (dbl s.data.toList).length ≤ 2 * s.size := by have := (dbl_length s.data.toList).2; rw [len_data] at this; exact this
    have hcnt := countB_le s ⟨#[34]⟩
    clear hq
    go_enter Tryd.func19, Tryd.ntmps19
    go_wp2_with (first
      | (go_at_call 26; refine c.mono ?_; rintro e w' ⟨rfl, hb⟩)
      | (go_at_call 27; obtain ⟨m, hm⟩ := HM.out.keeps hb; refine (sh_replaceAll s ⟨#[34]⟩ ⟨#[34, 34]⟩ m _ (by omega) hm (by decide) (by show s.size + Lib.countB s ⟨#[34]⟩ * 2 ≤ _; omega)).mono ?_; rintro e w'' ⟨rfl, hb2⟩; rw [show Lib.replaceAll s.data.toList (⟨#[34]⟩ : ByteArray).data.toList (⟨#[34, 34]⟩ : ByteArray).data.toList = dbl s.data.toList from replaceAll_dbl _]))
    go_ret
    exact ⟨ret_str (by rw [H.out]), Keeps.trans hb hb2⟩

set_option maxHeartbeats 1000000 in
theorem reject_any (s : ByteArray) (p : Nat) (code : Int) (w : World) (hs : s.size ≤ 65536) (hp : p ≤ s.size) :
    Calls Tryd.prog 23 #[.string s, .int .i64 p, .int .i64 code] w fun e w' => e = .returned (.agg #[.int .i64 (lineOf (s.data.toList.take p) : Nat), .int .i64 (colOf (s.data.toList.take p) : Nat), .int .i64 code]) ∧ Keeps w w' := by
  have hx : (s.extract 0 p).data.toList = s.data.toList.take p := by rw [ext_take]; simp
  have hxs : (s.extract 0 p).size = p := by rw [ByteArray.size_extract]; omega
  have c1 : ∀ w, Calls Tryd.prog 32 #[.string (s.extract 0 p), .string ⟨#[10]⟩] w fun e w' => e = .returned (.int .i64 ((s.data.toList.take p).count 10 : Nat)) ∧ w' = w := fun w => by
    have := Any.strings_Count_one lays138 (s.extract 0 p) 10 w
    unfold Lib.countByte at this
    rw [hx] at this; exact this
  obtain ⟨K, hK⟩ : ∃ K : Int, Lib.lastIndexByte (s.extract 0 p) 10 = K := ⟨_, rfl⟩
  have c2 : ∀ w, Calls Tryd.prog 33 #[.string (s.extract 0 p), .int .u8 10] w fun e w' => e = .returned (.int .i64 K) ∧ w' = w := fun w => by
    have := Any.strings_LastIndexByte lays149 (s.extract 0 p) 10 (by omega) w
    rw [hK] at this; exact this
  have hcol : ((colOf (s.data.toList.take p) : Nat) : Int) = p - K := by
    have := col_lastIdx (s.extract 0 p) (s.extract 0 p).size (Nat.le_refl _)
    have hK' : Lib.lastIdx (s.extract 0 p) 10 (s.extract 0 p).size = K := hK
    have ht : List.take (s.extract 0 p).size (s.extract 0 p).data.toList = s.data.toList.take p := by
      rw [hx, hxs, List.take_of_length_le (List.length_take_le _ _)]
    rw [hK', ht, hxs] at this
    exact this
  have hcl := col_le (s.data.toList.take p)
  have hcnt := List.count_le_length (a := (10 : UInt8)) (l := s.data.toList.take p)
  have hlen : (s.data.toList.take p).length ≤ p := List.length_take_le _ _
  obtain ⟨N, hN⟩ : ∃ N, (s.data.toList.take p).count 10 = N := ⟨_, rfl⟩
  rw [hN] at c1 hcnt
  have HL := Lib.hid (show 1 + (N : Int) = (lineOf (s.data.toList.take p) : Nat) from by unfold lineOf; rw [hN]; omega)
  have HC := Lib.hid hcol
  have hk1 : -1 ≤ K := by omega
  have hk2 : K ≤ p := by omega
  have hNp : N ≤ p := by omega
  clear hx hxs hK hN hcol hcl hlen hcnt
  go_enter Tryd.func23, Tryd.ntmps23
  go_wp2_with (first
    | (go_at_call 32; refine (c1 _).mono ?_; rintro e w' ⟨rfl, rfl⟩)
    | (go_at_call 33; refine (c2 _).mono ?_; rintro e w' ⟨rfl, rfl⟩))
  refine bodyPost_ret (v := .agg #[.int .i64 (1 + (N : Int)), .int .i64 (p - K), .int .i64 code]) (by simp [results, Tryd.results23, go_sem]) rfl ⟨?_, ?_⟩
  · rw [HL.out, HC.out]
  · exact (Below.refl _ _).alloc (Nat.le_refl _) _

/-- A field, where the byte behind it is, a code. -/
def FieldAt (s : ByteArray) (p : Nat) (w : World) (e : Ending) (w' : World) : Prop :=
  ∃ (f : Bs) (k code : Nat), e = .returned (.tuple #[.string ⟨f.toArray⟩, .int .i64 ((p + k : Nat) : Int), .int .i64 (code : Int)]) ∧ RD (s.data.toList.drop p) f k code ∧ Keeps w w'

theorem ret_field {f : ByteArray} {f' : Bs} {i c : Int} {p k code : Nat} (h1 : f = ⟨f'.toArray⟩) (h2 : i = ((p + k : Nat) : Int)) (h3 : c = (code : Int)) :
    Ending.returned (.tuple #[.string f, .int .i64 i, .int .i64 c]) = .returned (.tuple #[.string ⟨f'.toArray⟩, .int .i64 ((p + k : Nat) : Int), .int .i64 (code : Int)]) := by rw [h1, h2, h3]

set_option maxHeartbeats 2000000 in
theorem rquoted_any (s : ByteArray) (p : Nat) (w : World) (hs : s.size ≤ 65536) (hp : p < s.size) (h34 : s[p]'hp = 34) (hm : HasMax w) :
    Calls Tryd.prog 29 #[.string s, .int .i64 ((p : Int) + 1)] w (FieldAt s p w) := by
  have hcons := drop_cons hp
  rw [h34] at hcons
  have hbq := behind_any s (p + 1) w hs (by omega)
  obtain ⟨q, hq⟩ : ∃ q, p + 1 = q := ⟨_, rfl⟩
  have hqi : (p : Int) + 1 = (q : Int) := by omega
  rw [hq] at hcons hbq
  rw [hqi]
  have hq1 : q ≤ s.size := by omega
  have hq0 : 1 ≤ q := by omega
  have HQ := Lib.hid hq
  have HC := Lib.hid hcons
  have HM := Lib.hid hm
  clear hcons hm hq hqi h34
  go_enter Tryd.func29, Tryd.ntmps29
  go_wp2_with fail
  refine hbq.mono ?_
  rintro e w' ⟨r, rfl, hP, rfl⟩
  clear hbq
  rcases hP with ⟨rfl, m, hm⟩ | ⟨m, t, hm, ht, rfl⟩
  · have H := Lib.hid hm
    clear hm
    go_wp2
    go_ret3
    refine ⟨[], _, 2, ret_field rfl (k := s.size - p) (by omega) rfl, ?_, Keeps.refl _⟩
    have h := rd_open (m := m)
    rw [← H.out] at h
    rw [HC.out]
    have e : s.size - p = (34 :: s.data.toList.drop q).length := by simp only [List.length_cons, List.length_drop, Array.length_toList]; have e : s.data.size = s.size := rfl; have := HQ.out; omega
    rw [e]; exact h
  · have hjl := drop_len hm
    have hjn := drop_next hm
    obtain ⟨n, hn⟩ : ∃ n, (dbl m).length = n := ⟨_, rfl⟩
    obtain ⟨j, hj⟩ : ∃ j, q + n + 1 = j := ⟨_, rfl⟩
    rw [hn] at hjl hjn ⊢
    rw [hj] at hjn ⊢
    have H := Lib.hid hm
    have HT := Lib.hid ht
    have HN := Lib.hid hn
    have HJ := Lib.hid hj
    have HJN := Lib.hid hjn
    have hj1 : j ≤ s.size := by omega
    have hqj : q + 1 ≤ j := by omega
    clear hm ht hn hj hjn
    have hk : p + (n + 2) = j := by have := HQ.out; have := HJ.out; omega
    have HK := Lib.hid hk
    clear hk
    by_cases hje : j = s.size
    · have ht0 : t = [] := by rw [← HJN.out, hje]; simp
      have HT0 := Lib.hid ht0
      have ht : ((j : Int) == (s.size : Int)) = true := by rw [hje]; simp
      clear hje ht0
      go_wp2
      go_ret3
      refine ⟨[], n + 2, 1, ret_field rfl (by rw [HK.out]) rfl, ?_, Keeps.refl _⟩
      have h := rd_close (m := m)
      rw [HC.out, H.out, HT0.out, ← HN.out]; exact h
    · have hjs : j < s.size := by omega
      have hcons := drop_cons hjs
      obtain ⟨x, hx⟩ : ∃ x, s[j]'hjs = x := ⟨_, rfl⟩
      have hx2 : s[(j : Int).toNat]'(by simpa using hjs) = x := by simpa using hx
      rw [hx, HJN.out] at hcons
      have HX := Lib.hid hcons
      have ht : ((j : Int) == (s.size : Int)) = false := beq_eq_false_iff_ne.2 (by omega)
      clear hje hcons
      by_cases hend : x = 44 ∨ x = 10
      · have c := fun w => ends_yes x w hend
        have HE := Lib.hid hend
        obtain ⟨i, hi⟩ : ∃ i, j = i + 1 := ⟨j - 1, by omega⟩
        have HF := Lib.hid (show s.extract q i = ⟨(dbl m).toArray⟩ from by
          rw [show i = q + (dbl m).length from by have := HJ.out; have := HN.out; omega]
          exact ext_mid H.out)
        have hj2 : (j : Int) - 1 = (i : Int) := by omega
        have hqi : q ≤ i := by omega
        have his : i ≤ s.size := by omega
        clear hi
        clear hend
        have cr : ∀ w', Keeps w w' → Calls Tryd.prog 27 #[.string (s.extract q i), .string ⟨#[34, 34]⟩, .string ⟨#[34]⟩] w' fun e w'' => e = .returned (.string ⟨m.toArray⟩) ∧ Keeps w' w'' := fun w' hk => by
          obtain ⟨M, hM⟩ := HM.out.keeps hk
          have hz : (s.extract q i).size ≤ s.size := by rw [ByteArray.size_extract]; omega
          have hcnt := countB_le (s.extract q i) ⟨#[34, 34]⟩
          have := sh_replaceAll (s.extract q i) ⟨#[34, 34]⟩ ⟨#[34]⟩ M w' (by omega) hM (by decide) (by show _ + Lib.countB _ ⟨#[34, 34]⟩ * 1 ≤ _; omega)
          rw [show (s.extract q i).data.toList = dbl m from by rw [HF.out, data_mk], show Lib.replaceAll (dbl m) (⟨#[34, 34]⟩ : ByteArray).data.toList (⟨#[34]⟩ : ByteArray).data.toList = m from replaceAll_undbl m] at this
          exact this
        go_wp2_with (first
          | (go_at_call 31; refine (c _).mono ?_; rintro e w' ⟨rfl, rfl⟩)
          | (go_at_call 27; refine (cr _ (Keeps.refl _)).mono ?_; rintro e w'' ⟨rfl, hb2⟩))
        go_ret3
        refine ⟨m, n + 2, 0, ret_field rfl (by rw [HK.out]) rfl, ?_, hb2⟩
        have h := rd_quoted (m := m) (b := s.data.toList.drop (j + 1)) HE.out
        rw [HC.out, H.out, HX.out, ← HN.out]; exact h
      · obtain ⟨h1, h2⟩ := not_or.1 hend
        have c := fun w => ends_no x w h1 h2
        have H1 := Lib.hid h1
        have H2 := Lib.hid h2
        clear hend h1 h2
        go_wp2_with (go_at_call 31; refine (c _).mono ?_; rintro e w' ⟨rfl, rfl⟩)
        go_ret3
        refine ⟨[], n + 2, 2, ret_field rfl (by rw [HK.out]) rfl, ?_, Keeps.refl _⟩
        have h := rd_behind (m := m) (b := s.data.toList.drop (j + 1)) H1.out H2.out (fun e => HT.out (by rw [HX.out, e]; rfl))
        rw [HC.out, H.out, HX.out, ← HN.out]; exact h
end Go.Proofs.YtjhhkfigdamaeaaDoor
