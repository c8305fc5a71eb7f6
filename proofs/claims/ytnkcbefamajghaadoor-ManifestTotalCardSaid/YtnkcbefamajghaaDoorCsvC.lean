
/- The contracts of csv.endsField, behindQuotes, readQuoted, read, reject, printed. The contracts of csv.printed, reject, readQuoted, read. The contract of csv.read. -/
import Derived.Test.YtnkcbefamajghaaDoorCsvAnyC
import Derived.Test.YtnkcbefamajghaaDoorMaxLen
import Derived.Test.YtnkcbefamajghaaDoorCsvMath2
set_option linter.unusedVariables false
namespace Go.Proofs.YtnkcbefamajghaaDoor
open Go.ChangeShapes Go.WideShapes Go.ChangeAt Go.RowKit Go.Shelf Go.Proofs Csv

theorem ext_drop (s : ByteArray) (p : Nat) : (s.extract p s.size).data.toList = s.data.toList.drop p := by
  rw [extract_end, data_mk]
theorem ext_take (s : ByteArray) (p q : Nat) : (s.extract p q).data.toList = (s.data.toList.drop p).take (q - p) := by
  rw [← extract_list, ByteArray.toList_eq]
theorem ext_mid {s : ByteArray} {p : Nat} {a b : Bs} {c : UInt8} (h : s.data.toList.drop p = a ++ c :: b) : s.extract p (p + a.length) = ⟨a.toArray⟩ := by
  apply ByteArray.ext
  apply Array.ext'
  rw [ext_take, h]; simp
theorem drop_len {s : ByteArray} {p : Nat} {a b : Bs} {c : UInt8} (h : s.data.toList.drop p = a ++ c :: b) : p + a.length < s.size := by
  have := congrArg List.length h
  simp only [List.length_drop, Array.length_toList, List.length_append, List.length_cons] at this
  have e : s.data.size = s.size := rfl
  omega
theorem drop_at {s : ByteArray} {p : Nat} {a b : Bs} {c : UInt8} (h : s.data.toList.drop p = a ++ c :: b) : s[p + a.length]'(drop_len h) = c := by
  have e : (s.data.toList.drop p)[a.length]'(by rw [h]; simp) = c := by simp [h]
  rw [List.getElem_drop] at e
  exact e
theorem drop_next {s : ByteArray} {p : Nat} {a b : Bs} {c : UInt8} (h : s.data.toList.drop p = a ++ c :: b) : s.data.toList.drop (p + a.length + 1) = b := by
  rw [Nat.add_assoc, ← List.drop_drop, h, ← List.drop_drop]; simp
theorem drop_cons {s : ByteArray} {j : Nat} (h : j < s.size) : s.data.toList.drop j = s[j] :: s.data.toList.drop (j + 1) := by
  rw [List.drop_eq_getElem_cons (by simpa using h)]; rfl

theorem ends_yes (c : UInt8) (w : World) (h : c = 44 ∨ c = 10) : Calls Tryd.prog 58 #[.int .u8 (c.toNat : Int)] w fun e w' => e = .returned (.bool true) ∧ w' = w := by
  rcases h with rfl | rfl
  · go_enter Tryd.func58, Tryd.ntmps58
    go_wp2
    go_ret
    exact ⟨rfl, rfl⟩
  · go_enter Tryd.func58, Tryd.ntmps58
    go_wp2
    go_ret
    exact ⟨rfl, rfl⟩
theorem u8_ne {c : UInt8} {n : Nat} (hn : n < 256) (h : c ≠ UInt8.ofNat n) : ((c.toNat : Int) == (n : Int)) = false := by
  rw [beq_eq_false_iff_ne]
  intro e
  apply h
  have : c.toNat = n := by omega
  rw [← this]; simp
theorem ends_no (c : UInt8) (w : World) (h1 : c ≠ 44) (h2 : c ≠ 10) : Calls Tryd.prog 58 #[.int .u8 (c.toNat : Int)] w fun e w' => e = .returned (.bool false) ∧ w' = w := by
  have e1 : ((c.toNat : Int) == 44) = false := u8_ne (n := 44) (by decide) h1
  have e2 : ((c.toNat : Int) == 10) = false := u8_ne (n := 10) (by decide) h2
  clear h1 h2
  go_enter Tryd.func58, Tryd.ntmps58
  go_wp2
  go_ret
  exact ⟨rfl, rfl⟩

/-- An integer that is told. -/
def SomeI (P : Int → Prop) (w : World) (e : Ending) (w' : World) : Prop := ∃ r : Int, e = .returned (.int .i64 r) ∧ P r ∧ w = w'

set_option maxHeartbeats 1000000 in
theorem behind_any (s : ByteArray) (p : Nat) (w : World) (hs : s.size ≤ 65536) (hp : p ≤ s.size) :
    Calls Tryd.prog 76 #[.string s, .int .i64 p] w (SomeI (BQ (s.data.toList.drop p) p) w) := by
  go_enter Tryd.func76, Tryd.ntmps76
  go_wp2
  go_loop [5] (fun i => ∃ (k : Nat) (m : Bs), k ≤ s.size ∧ i = .int .i64 k ∧ s.data.toList.drop p = dbl m ++ s.data.toList.drop k ∧ k = p + (dbl m).length) (fun i => s.size - (intOf i).toNat)
  case atStart => exact ⟨p, [], hp, rfl, rfl, rfl⟩
  case round =>
    obtain ⟨k, m, hk, rfl, hd, hkm⟩ := hrel
    have HD := Lib.hid hd
    have HK := Lib.hid hkm
    clear hd hkm
    rcases indexByte_spec (s.data.toList.drop k) 34 with ⟨h1, h2⟩ | ⟨a, b, h1, h2, h3⟩
    · have c : Calls Tryd.prog 90 #[.string (s.extract k s.size), .int .u8 34] w fun e w' => e = .returned (.int .i64 (-1)) ∧ w' = w := by
        have := sh_indexByte (s.extract k s.size) 34 w
        rw [ext_drop, h1] at this; exact this
      have H2 := Lib.hid h2
      clear h1 h2
      go_wp2_with (go_at_call 90; refine c.mono ?_; rintro e w' ⟨rfl, rfl⟩)
      go_ret
      exact ⟨_, rfl, Or.inl ⟨rfl, m ++ s.data.toList.drop k, by rw [HD.out, dbl_append, dbl_free H2.out]⟩, rfl⟩
    · have c : Calls Tryd.prog 90 #[.string (s.extract k s.size), .int .u8 34] w fun e w' => e = .returned (.int .i64 (a.length : Int)) ∧ w' = w := by
        have := sh_indexByte (s.extract k s.size) 34 w
        rw [ext_drop, h3] at this; exact this
      have hjl := drop_len h1
      have hjd := drop_next h1
      obtain ⟨n, hn⟩ : ∃ n, a.length = n := ⟨_, rfl⟩
      obtain ⟨j, hj⟩ : ∃ j, k + n + 1 = j := ⟨_, rfl⟩
      rw [hn] at c hjl hjd
      rw [hj] at hjd
      have hJ : (k : Int) + ((n : Int) + 1) = (j : Int) := by omega
      have hj1 : j ≤ s.size := by omega
      have hkj : k < j := by omega
      have H1 := Lib.hid h1
      have H2 := Lib.hid h2
      have HN := Lib.hid hn
      have HJ := Lib.hid hj
      have HJD := Lib.hid hjd
      clear h1 h2 h3 hn hj hjd
      have hma : dbl (m ++ a) = dbl m ++ a := by rw [dbl_append, dbl_free H2.out]
      have HMA := Lib.hid hma
      clear hma
      have hall : s.data.toList.drop p = dbl (m ++ a) ++ 34 :: b := by rw [HD.out, H1.out, HMA.out]; simp
      have HALL := Lib.hid hall
      have hpos : p + (dbl (m ++ a)).length + 1 = j := by rw [HMA.out, List.length_append, HN.out, ← HJ.out, HK.out]; omega
      have HPOS := Lib.hid hpos
      clear hall hpos
      by_cases hje : j = s.size
      · have hb : b = [] := by rw [← HJD.out, hje]; simp
        have HB := Lib.hid hb
        have ht : ((j : Int) == (s.size : Int)) = true := by rw [hje]; simp
        clear hje hb
        go_wp2_with (go_at_call 90; refine c.mono ?_; rintro e w' ⟨rfl, rfl⟩)
        go_ret
        exact ⟨_, rfl, Or.inr ⟨m ++ a, b, HALL.out, by rw [HB.out]; simp, by rw [HPOS.out]⟩, rfl⟩
      · have hjs : j < s.size := by omega
        have hcons := drop_cons hjs
        obtain ⟨x, hx⟩ : ∃ x, s[j]'hjs = x := ⟨_, rfl⟩
        have hx2 : s[(j : Int).toNat]'(by simpa using hjs) = x := by simpa using hx
        rw [hx] at hcons
        have HC := Lib.hid hcons
        have ht : ((j : Int) == (s.size : Int)) = false := beq_eq_false_iff_ne.2 (by omega)
        clear hje hcons
        by_cases h34 : x = 34
        · have t1 : ((x.toNat : Int) != 34) = false := by rw [h34]; rfl
          have t2 : ((x.toNat : Int) == 34) = true := by rw [h34]; rfl
          have H34 := Lib.hid h34
          clear h34
          go_wp2_with (go_at_call 90; refine c.mono ?_; rintro e w' ⟨rfl, rfl⟩)
          go_round
          case rel =>
            refine ⟨j + 1, m ++ a ++ [34], by omega, by go_num, ?_, ?_⟩
            · rw [HALL.out, ← HJD.out, HC.out, H34.out, dbl_append (m ++ a) [34]]; simp [dbl]
            · rw [dbl_append (m ++ a) [34], List.length_append, ← HPOS.out]; simp [dbl]; omega
          case measure => simp [intOf]; omega
        · have t2 : ((x.toNat : Int) == 34) = false := u8_ne (n := 34) (by decide) h34
          have t1 : ((x.toNat : Int) != 34) = true := by simp [bne, t2]
          have H34 := Lib.hid h34
          clear h34
          go_wp2_with (go_at_call 90; refine c.mono ?_; rintro e w' ⟨rfl, rfl⟩)
          go_ret
          exact ⟨_, rfl, Or.inr ⟨m ++ a, b, HALL.out, by rw [← HJD.out, HC.out]; simp; exact H34.out, by rw [HPOS.out]⟩, rfl⟩
end Go.Proofs.YtnkcbefamajghaaDoor
namespace Go.Proofs.YtnkcbefamajghaaDoor
open Go.ChangeShapes Go.WideShapes Go.ChangeAt Go.RowKit Go.Shelf Go.Proofs Csv

theorem countB_le (s sub : ByteArray) : Lib.countB s sub ≤ s.size + 1 := by
  have := Lib.count_le s.data.toList sub.data.toList
  rw [len_data] at this
  exact this

set_option maxHeartbeats 1000000 in
theorem printed_any (s : ByteArray) (w : World) (hs : s.size ≤ 65536) (hm : HasMax w) :
    Calls Tryd.prog 42 #[.string s] w fun e w' => e = .returned (.string ⟨(prt s.data.toList).toArray⟩) ∧ Keeps w w' := by
  have c := cany_any s w (by omega)
  have HM := Lib.hid hm
  clear hm
  cases hq : quotes s.data.toList
  · rw [hq] at c
    have H := Lib.hid (show prt s.data.toList = s.data.toList from by unfold prt; rw [hq]; rfl)
    clear hq
    go_enter Tryd.func42, Tryd.ntmps42
    go_wp2_with (go_at_call 62; refine c.mono ?_; rintro e w' ⟨rfl, hb⟩)
    go_ret
    exact ⟨ret_str (by rw [H.out, mk_data]), hb⟩
  · rw [hq] at c
    have H := Lib.hid (show (⟨#[34]⟩ : ByteArray) ++ ⟨(dbl s.data.toList).toArray⟩ ++ ⟨#[34]⟩ = ⟨(prt s.data.toList).toArray⟩ from by
      unfold prt; rw [hq]
      rw [ByteArray.mk_append_mk, ByteArray.mk_append_mk]; simp)
    have hl : (dbl s.data.toList).length ≤ 2 * s.size := by have := (dbl_length s.data.toList).2; rw [len_data] at this; exact this
    have hcnt := countB_le s ⟨#[34]⟩
    clear hq
    go_enter Tryd.func42, Tryd.ntmps42
    go_wp2_with (first
      | (go_at_call 62; refine c.mono ?_; rintro e w' ⟨rfl, hb⟩)
      | (go_at_call 63; obtain ⟨m, hm⟩ := HM.out.keeps hb; refine (sh_replaceAll s ⟨#[34]⟩ ⟨#[34, 34]⟩ m _ (by omega) hm (by decide) (by show s.size + Lib.countB s ⟨#[34]⟩ * 2 ≤ _; omega)).mono ?_; rintro e w'' ⟨rfl, hb2⟩; rw [show Lib.replaceAll s.data.toList (⟨#[34]⟩ : ByteArray).data.toList (⟨#[34, 34]⟩ : ByteArray).data.toList = dbl s.data.toList from replaceAll_dbl _]))
    go_ret
    exact ⟨ret_str (by rw [H.out]), Keeps.trans hb hb2⟩

set_option maxHeartbeats 1000000 in
theorem reject_any (s : ByteArray) (p : Nat) (code : Int) (w : World) (hs : s.size ≤ 65536) (hp : p ≤ s.size) :
    Calls Tryd.prog 39 #[.string s, .int .i64 p, .int .i64 code] w fun e w' => e = .returned (.agg #[.int .i64 (lineOf (s.data.toList.take p) : Nat), .int .i64 (colOf (s.data.toList.take p) : Nat), .int .i64 code]) ∧ Keeps w w' := by
  have hx : (s.extract 0 p).data.toList = s.data.toList.take p := by rw [ext_take]; simp
  have hxs : (s.extract 0 p).size = p := by rw [ByteArray.size_extract]; omega
  have c1 : ∀ w, Calls Tryd.prog 59 #[.string (s.extract 0 p), .string ⟨#[10]⟩] w fun e w' => e = .returned (.int .i64 ((s.data.toList.take p).count 10 : Nat)) ∧ w' = w := fun w => by
    have := Any.strings_Count_one lays138 (s.extract 0 p) 10 w
    unfold Lib.countByte at this
    rw [hx] at this; exact this
  obtain ⟨K, hK⟩ : ∃ K : Int, Lib.lastIndexByte (s.extract 0 p) 10 = K := ⟨_, rfl⟩
  have c2 : ∀ w, Calls Tryd.prog 60 #[.string (s.extract 0 p), .int .u8 10] w fun e w' => e = .returned (.int .i64 K) ∧ w' = w := fun w => by
    have := Any.strings_LastIndexByte lays149 (s.extract 0 p) 10 (by omega) w
    rw [hK] at this; exact this
  have hcol : ((colOf (s.data.toList.take p) : Nat) : Int) = p - K := by
    have := col_lastIdx (s.extract 0 p) (s.extract 0 p).size (Nat.le_refl _)
    have hK' : Lib.lastIdx (s.extract 0 p) 10 (s.extract 0 p).size = K := hK
    have ht : List.take (s.extract 0 p).size (s.extract 0 p).data.toList = s.data.toList.take p := by
      rw [hx, hxs, List.take_of_length_le (List.length_take_le _ _)]
    rw [hK', ht, hxs] at this
    exact this
  have hcl := col_le (s.data.toList.take p)
  have hcnt := List.count_le_length (a := (10 : UInt8)) (l := s.data.toList.take p)
  have hlen : (s.data.toList.take p).length ≤ p := List.length_take_le _ _
  obtain ⟨N, hN⟩ : ∃ N, (s.data.toList.take p).count 10 = N := ⟨_, rfl⟩
  rw [hN] at c1 hcnt
  have HL := Lib.hid (show 1 + (N : Int) = (lineOf (s.data.toList.take p) : Nat) from by unfold lineOf; rw [hN]; omega)
  have HC := Lib.hid hcol
  have hk1 : -1 ≤ K := by omega
  have hk2 : K ≤ p := by omega
  have hNp : N ≤ p := by omega
  clear hx hxs hK hN hcol hcl hlen hcnt
  go_enter Tryd.func39, Tryd.ntmps39
  go_wp2_with (first
    | (go_at_call 59; refine (c1 _).mono ?_; rintro e w' ⟨rfl, rfl⟩)
    | (go_at_call 60; refine (c2 _).mono ?_; rintro e w' ⟨rfl, rfl⟩))
  refine bodyPost_ret (v := .agg #[.int .i64 (1 + (N : Int)), .int .i64 (p - K), .int .i64 code]) (by simp [results, Tryd.results39, go_sem]) rfl ⟨?_, ?_⟩
  · rw [HL.out, HC.out]
  · exact (Below.refl _ _).alloc (Nat.le_refl _) _

/-- A field, where the byte behind it is, a code. -/
def FieldAt (s : ByteArray) (p : Nat) (w : World) (e : Ending) (w' : World) : Prop :=
  ∃ (f : Bs) (k code : Nat), e = .returned (.tuple #[.string ⟨f.toArray⟩, .int .i64 ((p + k : Nat) : Int), .int .i64 (code : Int)]) ∧ RD (s.data.toList.drop p) f k code ∧ Keeps w w'

theorem ret_field {f : ByteArray} {f' : Bs} {i c : Int} {p k code : Nat} (h1 : f = ⟨f'.toArray⟩) (h2 : i = ((p + k : Nat) : Int)) (h3 : c = (code : Int)) :
    Ending.returned (.tuple #[.string f, .int .i64 i, .int .i64 c]) = .returned (.tuple #[.string ⟨f'.toArray⟩, .int .i64 ((p + k : Nat) : Int), .int .i64 (code : Int)]) := by rw [h1, h2, h3]

set_option maxHeartbeats 2000000 in
theorem rquoted_any (s : ByteArray) (p : Nat) (w : World) (hs : s.size ≤ 65536) (hp : p < s.size) (h34 : s[p]'hp = 34) (hm : HasMax w) :
    Calls Tryd.prog 56 #[.string s, .int .i64 ((p : Int) + 1)] w (FieldAt s p w) := by
  have hcons := drop_cons hp
  rw [h34] at hcons
  have hbq := behind_any s (p + 1) w hs (by omega)
  obtain ⟨q, hq⟩ : ∃ q, p + 1 = q := ⟨_, rfl⟩
  have hqi : (p : Int) + 1 = (q : Int) := by omega
  rw [hq] at hcons hbq
  rw [hqi]
  have hq1 : q ≤ s.size := by omega
  have hq0 : 1 ≤ q := by omega
  have HQ := Lib.hid hq
  have HC := Lib.hid hcons
  have HM := Lib.hid hm
  clear hcons hm hq hqi h34
  go_enter Tryd.func56, Tryd.ntmps56
  go_wp2_with fail
  refine hbq.mono ?_
  rintro e w' ⟨r, rfl, hP, rfl⟩
  clear hbq
  rcases hP with ⟨rfl, m, hm⟩ | ⟨m, t, hm, ht, rfl⟩
  · have H := Lib.hid hm
    clear hm
    go_wp2
    go_ret3
    refine ⟨[], _, 2, ret_field rfl (k := s.size - p) (by omega) rfl, ?_, Keeps.refl _⟩
    have h := rd_open (m := m)
    rw [← H.out] at h
    rw [HC.out]
    have e : s.size - p = (34 :: s.data.toList.drop q).length := by simp only [List.length_cons, List.length_drop, Array.length_toList]; have e : s.data.size = s.size := rfl; have := HQ.out; omega
    rw [e]; exact h
  · have hjl := drop_len hm
    have hjn := drop_next hm
    obtain ⟨n, hn⟩ : ∃ n, (dbl m).length = n := ⟨_, rfl⟩
    obtain ⟨j, hj⟩ : ∃ j, q + n + 1 = j := ⟨_, rfl⟩
    rw [hn] at hjl hjn ⊢
    rw [hj] at hjn ⊢
    have H := Lib.hid hm
    have HT := Lib.hid ht
    have HN := Lib.hid hn
    have HJ := Lib.hid hj
    have HJN := Lib.hid hjn
    have hj1 : j ≤ s.size := by omega
    have hqj : q + 1 ≤ j := by omega
    clear hm ht hn hj hjn
    have hk : p + (n + 2) = j := by have := HQ.out; have := HJ.out; omega
    have HK := Lib.hid hk
    clear hk
    by_cases hje : j = s.size
    · have ht0 : t = [] := by rw [← HJN.out, hje]; simp
      have HT0 := Lib.hid ht0
      have ht : ((j : Int) == (s.size : Int)) = true := by rw [hje]; simp
      clear hje ht0
      go_wp2
      go_ret3
      refine ⟨[], n + 2, 1, ret_field rfl (by rw [HK.out]) rfl, ?_, Keeps.refl _⟩
      have h := rd_close (m := m)
      rw [HC.out, H.out, HT0.out, ← HN.out]; exact h
    · have hjs : j < s.size := by omega
      have hcons := drop_cons hjs
      obtain ⟨x, hx⟩ : ∃ x, s[j]'hjs = x := ⟨_, rfl⟩
      have hx2 : s[(j : Int).toNat]'(by simpa using hjs) = x := by simpa using hx
      rw [hx, HJN.out] at hcons
      have HX := Lib.hid hcons
      have ht : ((j : Int) == (s.size : Int)) = false := beq_eq_false_iff_ne.2 (by omega)
      clear hje hcons
      by_cases hend : x = 44 ∨ x = 10
      · have c := fun w => ends_yes x w hend
        have HE := Lib.hid hend
        obtain ⟨i, hi⟩ : ∃ i, j = i + 1 := ⟨j - 1, by omega⟩
        have HF := Lib.hid (show s.extract q i = ⟨(dbl m).toArray⟩ from by
          rw [show i = q + (dbl m).length from by have := HJ.out; have := HN.out; omega]
          exact ext_mid H.out)
        have hj2 : (j : Int) - 1 = (i : Int) := by omega
        have hqi : q ≤ i := by omega
        have his : i ≤ s.size := by omega
        clear hi
        clear hend
        have cr : ∀ w', Keeps w w' → Calls Tryd.prog 63 #[.string (s.extract q i), .string ⟨#[34, 34]⟩, .string ⟨#[34]⟩] w' fun e w'' => e = .returned (.string ⟨m.toArray⟩) ∧ Keeps w' w'' := fun w' hk => by
          obtain ⟨M, hM⟩ := HM.out.keeps hk
          have hz : (s.extract q i).size ≤ s.size := by rw [ByteArray.size_extract]; omega
          have hcnt := countB_le (s.extract q i) ⟨#[34, 34]⟩
          have := sh_replaceAll (s.extract q i) ⟨#[34, 34]⟩ ⟨#[34]⟩ M w' (by omega) hM (by decide) (by show _ + Lib.countB _ ⟨#[34, 34]⟩ * 1 ≤ _; omega)
          rw [show (s.extract q i).data.toList = dbl m from by rw [HF.out, data_mk], show Lib.replaceAll (dbl m) (⟨#[34, 34]⟩ : ByteArray).data.toList (⟨#[34]⟩ : ByteArray).data.toList = m from replaceAll_undbl m] at this
          exact this
        go_wp2_with (first
          | (go_at_call 58; refine (c _).mono ?_; rintro e w' ⟨rfl, rfl⟩)
          | (go_at_call 63; refine (cr _ (Keeps.refl _)).mono ?_; rintro e w'' ⟨rfl, hb2⟩))
        go_ret3
        refine ⟨m, n + 2, 0, ret_field rfl (by rw [HK.out]) rfl, ?_, hb2⟩
        have h := rd_quoted (m := m) (b := s.data.toList.drop (j + 1)) HE.out
        rw [HC.out, H.out, HX.out, ← HN.out]; exact h
      · obtain ⟨h1, h2⟩ := not_or.1 hend
        have c := fun w => ends_no x w h1 h2
        have H1 := Lib.hid h1
        have H2 := Lib.hid h2
        clear hend h1 h2
        go_wp2_with (go_at_call 58; refine (c _).mono ?_; rintro e w' ⟨rfl, rfl⟩)
        go_ret3
        refine ⟨[], n + 2, 2, ret_field rfl (by rw [HK.out]) rfl, ?_, Keeps.refl _⟩
        have h := rd_behind (m := m) (b := s.data.toList.drop (j + 1)) H1.out H2.out (fun e => HT.out (by rw [HX.out, e]; rfl))
        rw [HC.out, H.out, HX.out, ← HN.out]; exact h
end Go.Proofs.YtnkcbefamajghaaDoor
namespace Go.Proofs.YtnkcbefamajghaaDoor
open Go.ChangeShapes Go.WideShapes Go.ChangeAt Go.RowKit Go.Shelf Go.Proofs Csv

set_option maxHeartbeats 2000000 in
theorem csRead_any (s : ByteArray) (p : Nat) (w : World) (hs : s.size ≤ 65536) (hp : p ≤ s.size) (hm : HasMax w) :
    Calls Tryd.prog 38 #[.string s, .int .i64 p] w (FieldAt s p w) := by
  by_cases h34 : ∃ h : p < s.size, s[p]'h = 34
  · obtain ⟨hlt, h34⟩ := h34
    have cq := rquoted_any s p w hs hlt h34 hm
    have cp : Calls Tryd.prog 55 #[.string (s.extract p s.size), .string ⟨#[34]⟩] w fun e w' => e = .returned (.bool true) ∧ w' = w := by
      have := sh_prefix (s.extract p s.size) ⟨#[34]⟩ w
      rw [ext_drop, drop_cons hlt, h34] at this; exact this
    have HM := Lib.hid hm
    clear hm h34
    go_enter Tryd.func38, Tryd.ntmps38
    go_wp2_with (first
      | (go_at_call 55; refine cp.mono ?_; rintro e w' ⟨rfl, hw⟩; subst hw)
      | (go_at_call 56; refine cq.mono ?_; rintro e w' ⟨f, k, code, rfl, hr, hk⟩))
    go_ret3
    exact ⟨f, k, code, rfl, hr, hk⟩
  · have cp : Calls Tryd.prog 55 #[.string (s.extract p s.size), .string ⟨#[34]⟩] w fun e w' => e = .returned (.bool false) ∧ w' = w := by
      have := sh_prefix (s.extract p s.size) ⟨#[34]⟩ w
      rw [ext_drop] at this
      have hz : Lib.hasPrefix (s.data.toList.drop p) (⟨#[34]⟩ : ByteArray).data.toList = false := by
        by_cases hlt : p < s.size
        · have hne : s[p]'hlt ≠ 34 := fun e => h34 ⟨hlt, e⟩
          rw [drop_cons hlt]
          have e : ((34 : UInt8) == s[p]'hlt) = false := by rw [beq_eq_false_iff_ne]; exact fun e => hne e.symm
          show ([34] : List UInt8).isPrefixOf _ = false
          simp [List.isPrefixOf, e]
        · have : s.data.toList.drop p = [] := by apply List.drop_eq_nil_of_le; rw [len_data]; omega
          rw [this]; rfl
      rw [hz] at this; exact this
    have ci := iany_any (s.extract p s.size) w (by rw [ByteArray.size_extract]; omega)
    rw [ext_drop] at ci
    rcases indexAny_spec (s.data.toList.drop p) with ⟨h1, h2⟩ | ⟨a, c, b, h1, h2, h3, h4⟩
    · rw [h1] at ci
      have H := Lib.hid (rd_end h2)
      have HL := Lib.hid (show p + (s.data.toList.drop p).length = s.size from by rw [List.length_drop, len_data]; omega)
      clear h1 h2 h34 hm
      go_enter Tryd.func38, Tryd.ntmps38
      go_wp2_with (first
        | (go_at_call 55; refine cp.mono ?_; rintro e w' ⟨rfl, hw⟩; subst hw)
        | (go_at_call 57; refine ci.mono ?_; rintro e w' ⟨rfl, hk⟩))
      go_ret3
      exact ⟨[], _, 1, ret_field rfl (by rw [HL.out]) rfl, H.out, hk⟩
    · rw [h4] at ci
      have hjl := drop_len h1
      have hja := drop_at h1
      have hjm := ext_mid h1
      obtain ⟨n, hn⟩ : ∃ n, a.length = n := ⟨_, rfl⟩
      obtain ⟨j, hj⟩ : ∃ j, p + n = j := ⟨_, rfl⟩
      have hjl' : j < s.size := by rw [← hj, ← hn]; exact hjl
      have hja' : s[j]'hjl' = c := by rw [← hja]; congr 1; omega
      have hjm' : s.extract p j = ⟨a.toArray⟩ := by rw [← hjm]; congr 1; omega
      have hx2 : s[(j : Int).toNat]'(by simpa using hjl') = c := by simpa using hja'
      rw [hn] at ci
      have hJ : (p : Int) + (n : Int) = (j : Int) := by omega
      have hpj : p ≤ j := by omega
      have hjs : j ≤ s.size := by omega
      have H1 := Lib.hid h1
      have H2 := Lib.hid h2
      have HN := Lib.hid hn
      have HJ := Lib.hid hj
      have HM := Lib.hid hjm'
      have H34 := Lib.hid h34
      clear h1 h2 h4 hn hj hjm hjm' hja hjl h34 hm
      by_cases hend : c = 44 ∨ c = 10
      · have ce := fun w => ends_yes c w hend
        have HE := Lib.hid hend
        clear hend h3
        go_enter Tryd.func38, Tryd.ntmps38
        go_wp2_with (first
          | (go_at_call 55; refine cp.mono ?_; rintro e w' ⟨rfl, hw⟩; subst hw)
          | (go_at_call 57; refine ci.mono ?_; rintro e w' ⟨rfl, hk⟩)
          | (go_at_call 58; refine (ce _).mono ?_; rintro e w' ⟨rfl, hw⟩; subst hw))
        go_ret3
        refine ⟨a, n, 0, ret_field HM.out (by rw [HJ.out]) rfl, ?_, hk⟩
        rw [H1.out, ← HN.out]; exact rd_plain H2.out HE.out
      · obtain ⟨e1, e2⟩ := not_or.1 hend
        have ce := fun w => ends_no c w e1 e2
        have H3 := Lib.hid (show c = 34 ∨ c = 13 from by
          simp only [isSp, Bool.or_eq_true, beq_iff_eq] at h3
          rcases h3 with ((h | h) | h) | h
          · exact absurd h e1
          · exact Or.inl h
          · exact absurd h e2
          · exact Or.inr h)
        clear hend h3 e1 e2
        go_enter Tryd.func38, Tryd.ntmps38
        go_wp2_with (first
          | (go_at_call 55; refine cp.mono ?_; rintro e w' ⟨rfl, hw⟩; subst hw)
          | (go_at_call 57; refine ci.mono ?_; rintro e w' ⟨rfl, hk⟩)
          | (go_at_call 58; refine (ce _).mono ?_; rintro e w' ⟨rfl, hw⟩; subst hw))
        go_ret3
        refine ⟨[], n, 2, ret_field rfl (by rw [HJ.out]) rfl, ?_, hk⟩
        rw [H1.out, ← HN.out]
        refine rd_odd H2.out H3.out fun e => ?_
        intro ha
        apply H34.out
        have hn0 : n = 0 := by rw [← HN.out, ha]; rfl
        have : p = j := by have := HJ.out; omega
        subst this
        exact ⟨hjl', by rw [hja', e]⟩
end Go.Proofs.YtnkcbefamajghaaDoor
