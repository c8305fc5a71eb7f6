
/- The contracts of csv.endsField, behindQuotes, readQuoted, read, reject, printed. -/
import Derived.Test.YtjhhkfigdamaeaaDoorCsvAnyC
import Derived.Test.YtjhhkfigdamaeaaDoorCsvMath2
set_option linter.unusedVariables false
namespace Go.Proofs.YtjhhkfigdamaeaaDoor
open Go.ChangeShapes Go.WideShapes Go.ChangeAt Go.RowKit Go.Shelf Go.Proofs Csv

/-- The library's one variable that a search reads holds a number. -/
def HasMax (w : World) : Prop := ∃ m : Int, w.cell? ⟨0, 0, none⟩ = some (.int .i64 m)
theorem HasMax.keeps {w w' : World} (h : HasMax w) (k : Keeps w w') : HasMax w' := by
  obtain ⟨m, hm⟩ := h
  exact ⟨m, by rw [k.cell (World.block_lt_of_cell? w _ hm)]; exact hm⟩

theorem ext_drop (s : ByteArray) (p : Nat) : (s.extract p s.size).data.toList = s.data.toList.drop p := by
  rw [extract_end, data_mk]
theorem ext_take (s : ByteArray) (p q : Nat) : (s.extract p q).data.toList = (s.data.toList.drop p).take (q - p) := by
  rw [← extract_list, ByteArray.toList_eq]
theorem ext_mid {s : ByteArray} {p : Nat} {a b : Bs} {c : UInt8} (h : s.data.toList.drop p = a ++ c :: b) : s.extract p (p + a.length) = ⟨a.toArray⟩ := by
  apply ByteArray.ext
  apply Array.ext'
  rw [ext_take, h]; simp
theorem drop_len {s : ByteArray} {p : Nat} {a b : Bs} {c : UInt8} (h : s.data.toList.drop p = a ++ c :: b) : p + a.length < s.size := by
  have := congrArg List.length h
  simp only [List.length_drop, Array.length_toList, List.length_append, List.length_cons] at this
  have e : s.data.size = s.size := rfl
  omega
theorem drop_at {s : ByteArray} {p : Nat} {a b : Bs} {c : UInt8} (h : s.data.toList.drop p = a ++ c :: b) : s[p + a.length]'(drop_len h) = c := by
  have e : (s.data.toList.drop p)[a.length]'(by rw [h]; simp) = c := by simp [h]
  rw [List.getElem_drop] at e
  exact e
theorem drop_next {s : ByteArray} {p : Nat} {a b : Bs} {c : UInt8} (h : s.data.toList.drop p = a ++ c :: b) : s.data.toList.drop (p + a.length + 1) = b := by
  rw [Nat.add_assoc, ← List.drop_drop, h, ← List.drop_drop]; simp
theorem drop_cons {s : ByteArray} {j : Nat} (h : j < s.size) : s.data.toList.drop j = s[j] :: s.data.toList.drop (j + 1) := by
  rw [List.drop_eq_getElem_cons (by simpa using h)]; rfl

theorem ends_yes (c : UInt8) (w : World) (h : c = 44 ∨ c = 10) : Calls Tryd.prog 31 #[.int .u8 (c.toNat : Int)] w fun e w' => e = .returned (.bool true) ∧ w' = w := by
  rcases h with rfl | rfl
  · go_enter Tryd.func31, Tryd.ntmps31
    go_wp2
    go_ret
    exact ⟨rfl, rfl⟩
  · go_enter Tryd.func31, Tryd.ntmps31
    go_wp2
    go_ret
    exact ⟨rfl, rfl⟩
theorem u8_ne {c : UInt8} {n : Nat} (hn : n < 256) (h : c ≠ UInt8.ofNat n) : ((c.toNat : Int) == (n : Int)) = false := by
  rw [beq_eq_false_iff_ne]
  intro e
  apply h
  have : c.toNat = n := by omega
  rw [← this]; simp
theorem ends_no (c : UInt8) (w : World) (h1 : c ≠ 44) (h2 : c ≠ 10) : Calls Tryd.prog 31 #[.int .u8 (c.toNat : Int)] w fun e w' => e = .returned (.bool false) ∧ w' = w := by
  have e1 : ((c.toNat : Int) == 44) = false := u8_ne (n := 44) (by decide) h1
  have e2 : ((c.toNat : Int) == 10) = false := u8_ne (n := 10) (by decide) h2
  clear h1 h2
  go_enter Tryd.func31, Tryd.ntmps31
  go_wp2
  go_ret
  exact ⟨rfl, rfl⟩

/-- An integer that is told. -/
def SomeI (P : Int → Prop) (w : World) (e : Ending) (w' : World) : Prop := ∃ r : Int, e = .returned (.int .i64 r) ∧ P r ∧ w = w'

set_option maxHeartbeats 1000000 in
theorem behind_any (s : ByteArray) (p : Nat) (w : World) (hs : s.size ≤ 65536) (hp : p ≤ s.size) :
    Calls Tryd.prog 37 #[.string s, .int .i64 p] w (SomeI (BQ (s.data.toList.drop p) p) w) := by
  go_enter Tryd.func37, Tryd.ntmps37
  go_wp2
  go_loop [5] (fun i => ∃ (k : Nat) (m : Bs), k ≤ s.size ∧ i = .int .i64 k ∧ s.data.toList.drop p = dbl m ++ s.data.toList.drop k ∧ k = p + (dbl m).length) (fun i => s.size - (intOf i).toNat)
  case atStart => exact ⟨p, [], hp, rfl, rfl, rfl⟩
  case round =>
    obtain ⟨k, m, hk, rfl, hd, hkm⟩ := hrel
    have HD := Lib.hid hd
    have HK := Lib.hid hkm
    clear hd hkm
    rcases indexByte_spec (s.data.toList.drop k) 34 with ⟨h1, h2⟩ | ⟨a, b, h1, h2, h3⟩
    · have c : Calls Tryd.prog 48 #[.string (s.extract k s.size), .int .u8 34] w fun e w' => e = .returned (.int .i64 (-1)) ∧ w' = w := by
        have := sh_indexByte (s.extract k s.size) 34 w
        rw [ext_drop, h1] at this; exact this
      have H2 := Lib.hid h2
      clear h1 h2
      go_wp2_with (go_at_call 48; refine c.mono ?_; rintro e w' ⟨rfl, rfl⟩)
      go_ret
      exact ⟨_, rfl, Or.inl ⟨rfl, m ++ s.data.toList.drop k, by rw [HD.out, dbl_append, dbl_free H2.out]⟩, rfl⟩
    · have c : Calls Tryd.prog 48 #[.string (s.extract k s.size), .int .u8 34] w fun e w' => e = .returned (.int .i64 (a.length : Int)) ∧ w' = w := by
        have := sh_indexByte (s.extract k s.size) 34 w
        rw [ext_drop, h3] at this; exact this
      have hjl := drop_len h1
      have hjd := drop_next h1
      obtain ⟨n, hn⟩ : ∃ n, a.length = n := ⟨_, rfl⟩
      obtain ⟨j, hj⟩ : ∃ j, k + n + 1 = j := ⟨_, rfl⟩
      rw [hn] at c hjl hjd
      rw [hj] at hjd
      have hJ : (k : Int) + ((n : Int) + 1) = (j : Int) := by omega
      have hj1 : j ≤ s.size := by omega
      have hkj : k < j := by omega
      have H1 := Lib.hid h1
      have H2 := Lib.hid h2
      have HN := Lib.hid hn
      have HJ := Lib.hid hj
      have HJD := Lib.hid hjd
      clear h1 h2 h3 hn hj hjd
      have hma : dbl (m ++ a) = dbl m ++ a := by rw [dbl_append, dbl_free H2.out]
      have HMA := Lib.hid hma
      clear hma
      have hall : s.data.toList.drop p = dbl (m ++ a) ++ 34 :: b := by rw [HD.out, H1.out, HMA.out]; simp
      have HALL := Lib.hid hall
      have hpos : p + (dbl (m ++ a)).length + 1 = j := by rw [HMA.out, List.length_append, HN.out, ← HJ.out, HK.out]; omega
      have HPOS := Lib.hid hpos
      clear hall hpos
      by_cases hje : j = s.size
      · have hb : b = [] := by rw [← HJD.out, hje]; simp
        have HB := Lib.hid hb
        have ht : ((j : Int) == (s.size : Int)) = true := by rw [hje]; simp
        clear hje hb
        go_wp2_with (go_at_call 48; refine c.mono ?_; rintro e w' ⟨rfl, rfl⟩)
        go_ret
        exact ⟨_, rfl, Or.inr ⟨m ++ a, b, HALL.out, by rw [HB.out]; simp, by rw [HPOS.out]⟩, rfl⟩
      · have hjs : j < s.size := by omega
        have hcons := drop_cons hjs
        obtain ⟨x, hx⟩ : ∃ x, s[j]'hjs = x := ⟨_, rfl⟩
        have hx2 : s[(j : Int).toNat]'(by simpa using hjs) = x := by simpa using hx
        rw [hx] at hcons
        have HC := Lib.hid hcons
        have ht : ((j : Int) == (s.size : Int)) = false := beq_eq_false_iff_ne.2 (by omega)
        clear hje hcons
        by_cases h34 : x = 34
        · have t1 : ((x.toNat : Int) != 34) = false := by rw [h34]; rfl
          have t2 : ((x.toNat : Int) == 34) = true := by rw [h34]; rfl
          have H34 := Lib.hid h34
          clear h34
          go_wp2_with (go_at_call 48; refine c.mono ?_; rintro e w' ⟨rfl, rfl⟩)
          go_round
          case rel =>
            refine ⟨j + 1, m ++ a ++ [34], by omega, by go_num, ?_, ?_⟩
            · rw [HALL.out, ← HJD.out, HC.out, H34.out, dbl_append (m ++ a) [34]]; simp [dbl]
            · rw [dbl_append (m ++ a) [34], List.length_append, ← HPOS.out]; simp [dbl]; omega
          case measure => simp [intOf]; omega
        · have t2 : ((x.toNat : Int) == 34) = false := u8_ne (n := 34) (by decide) h34
          have t1 : ((x.toNat : Int) != 34) = true := by simp [bne, t2]
          have H34 := Lib.hid h34
          clear h34
          go_wp2_with (go_at_call 48; refine c.mono ?_; rintro e w' ⟨rfl, rfl⟩)
          go_ret
          exact ⟨_, rfl, Or.inr ⟨m ++ a, b, HALL.out, by rw [← HJD.out, HC.out]; simp; exact H34.out, by rw [HPOS.out]⟩, rfl⟩
end Go.Proofs.YtjhhkfigdamaeaaDoor
