
/- The program's keys: Check, isDeed, Party, Undoes, Less. Maps whose elements are read as they lie, whatever their type; keys that are texts. The program's keys: the map of words, Word, Deed. The program's keys: Word, Deed. -/
import Derived.Test.YtomonhghioamfaaGreatDoorKyRefG
import Derived.Test.YtomonhghioamfaaGreatDoorKyMath
import Derived.WalkKit
import Derived.Test.YtomonhghioamfaaGreatDoorArith
import Derived.Maps.OwnSet
import Derived.Maps.Ext
import Derived.Lib.SlMapMerge
import Derived.DeepKeys4
import Derived.Maps.RangeWalk
set_option linter.unusedVariables false
namespace Go.Proofs.YtomonhghioamfaaGreatDoor
open Go.ChangeShapes Go.WideShapes Go.ChangeAt Go.RowKit Mon Ky

/-- What the program's one table holds: whose each deed is. -/
def HasP (w : World) : Prop := ∀ d : Nat, d < 6 → w.cell? ⟨0, d, none⟩ = some (.int .i64 (partyK d))
theorem HasP.keeps {w w' : World} (h : HasP w) (k : Keeps w w') : HasP w' := fun d hd => ky_cell k (h d hd)
theorem pk_isDeed (d : Int) (w : World) : Calls Tryz.prog 120 #[.int .i64 d] w fun e w' => e = .returned (.bool (decide (0 ≤ d) && decide (d < 6))) ∧ w = w' := by
  by_cases h1 : 0 ≤ d
  · by_cases h2 : d < 6
    · have E : Hid ((decide (0 ≤ d) && decide (d < 6)) = true) := Lib.hid (by simp; omega)
      go_enter Tryz.func120, Tryz.ntmps120
      go_wp2
      go_ret
      exact ⟨by rw [E.out]; rfl, rfl⟩
    · have E : Hid ((decide (0 ≤ d) && decide (d < 6)) = false) := Lib.hid (by simp; omega)
      go_enter Tryz.func120, Tryz.ntmps120
      go_wp2
      go_ret
      have E2 : decide (d < 6) = false := by simp; omega
      exact ⟨by rw [E2]; rfl, rfl⟩
  · have E : Hid ((decide (0 ≤ d) && decide (d < 6)) = false) := Lib.hid (by simp; omega)
    go_enter Tryz.func120, Tryz.ntmps120
    go_wp2
    go_ret
    exact ⟨by rw [E.out]; rfl, rfl⟩
theorem pk_isDeed_is (d : Int) (b : Bool) (w : World) (h : (decide (0 ≤ d) && decide (d < 6)) = b) : Calls Tryz.prog 120 #[.int .i64 d] w fun e w' => e = .returned (.bool b) ∧ w = w' := h ▸ pk_isDeed d w
theorem pk_check (o d : Int) (w : World) : Calls Tryz.prog 137 #[kyV o d] w fun e w' => e = .returned (.bool (checkK o d)) ∧ Keeps w w' := by
  have HB := Lib.hid (ky_box w (.cells #[.int .i64 o, .int .i64 d] tKy))
  unfold kyV
  have no : ¬ Chk o d → checkK o d = false := fun h => by
    cases hc : checkK o d with
    | false => rfl
    | true => exact absurd (check_iff.1 hc) h
  by_cases h1 : 1 ≤ o
  rotate_left
  · have H := Lib.hid (no fun h => by have := h.o0; omega)
    clear no
    go_enter Tryz.func137, Tryz.ntmps137
    go_wp2
    go_ret
    exact ⟨by rw [H.out]; rfl, HB.out⟩
  by_cases h2 : o ≤ 60
  rotate_left
  · have H := Lib.hid (no fun h => by have := h.o1; omega)
    clear no
    go_enter Tryz.func137, Tryz.ntmps137
    go_wp2
    go_ret
    exact ⟨by rw [H.out]; rfl, HB.out⟩
  by_cases h3 : 0 ≤ d ∧ d < 6
  · have H := Lib.hid (check_iff.2 (⟨by omega, by omega, h3.1, h3.2⟩ : Chk o d))
    have D := Lib.hid fun w => pk_isDeed_is d true w (by simp; omega)
    clear no h3
    go_enter Tryz.func137, Tryz.ntmps137
    go_wp2_with fail
    refine (D.out _).mono ?_
    rintro e w2 ⟨rfl, rfl⟩
    go_wp2
    go_ret
    exact ⟨by rw [H.out]; rfl, HB.out⟩
  · have H := Lib.hid (no fun h => h3 ⟨h.d0, h.d1⟩)
    have D := Lib.hid fun w => pk_isDeed_is d false w (by simp; omega)
    clear no h3
    go_enter Tryz.func137, Tryz.ntmps137
    go_wp2_with fail
    refine (D.out _).mono ?_
    rintro e w2 ⟨rfl, rfl⟩
    go_wp2
    go_ret
    exact ⟨by rw [H.out]; rfl, HB.out⟩
theorem pk_party (d : Int) (w : World) (hp : HasP w) : Calls Tryz.prog 92 #[.int .i64 d] w fun e w' => e = .returned (.int .i64 (partyK d)) ∧ w = w' := by
  by_cases h3 : 0 ≤ d ∧ d < 6
  · have D := Lib.hid fun w => pk_isDeed_is d true w (by simp; omega)
    obtain ⟨g0, g6⟩ := h3
    obtain ⟨n, rfl⟩ : ∃ n : Nat, d = n := ⟨d.toNat, by omega⟩
    have hc := hp n (by omega)
    obtain ⟨p, hpp⟩ : ∃ p, partyK n = p := ⟨_, rfl⟩
    rw [hpp] at hc ⊢
    clear hpp hp
    go_enter Tryz.func92, Tryz.ntmps92
    go_wp2_with fail
    refine (D.out _).mono ?_
    rintro e w2 ⟨rfl, rfl⟩
    go_wp2
    go_ret
    exact ⟨rfl, rfl⟩
  · have D := Lib.hid fun w => pk_isDeed_is d false w (by simp; omega)
    have E : Hid (partyK d = -1) := Lib.hid (by unfold partyK; rw [if_neg (by omega)])
    clear h3 hp
    go_enter Tryz.func92, Tryz.ntmps92
    go_wp2_with fail
    refine (D.out _).mono ?_
    rintro e w2 ⟨rfl, rfl⟩
    go_wp2
    go_ret
    exact ⟨by rw [E.out]; rfl, rfl⟩
theorem pk_less (o d o' d' : Int) (w : World) : Calls Tryz.prog 94 #[kyV o d, kyV o' d'] w fun e w' => e = .returned (.bool (lessK o d o' d')) ∧ Keeps w w' := by
  have HB := Lib.hid ((ky_box w (.cells #[.int .i64 o, .int .i64 d] tKy)).trans (ky_box _ (.cells #[.int .i64 o', .int .i64 d'] tKy)))
  unfold kyV
  by_cases h : o = o'
  · subst h
    have E : Hid (lessK o d o d' = decide (d < d')) := Lib.hid (by unfold lessK; simp)
    have e1 : (o != o) = false := by simp
    go_enter Tryz.func94, Tryz.ntmps94
    go_wp2
    go_ret
    exact ⟨by rw [E.out]; rfl, HB.out⟩
  · have E : Hid (lessK o d o' d' = decide (o < o')) := Lib.hid (by unfold lessK; simp [h])
    have e1 : (o != o') = true := by simpa using h
    clear h
    go_enter Tryz.func94, Tryz.ntmps94
    go_wp2
    go_ret
    exact ⟨by rw [E.out]; rfl, HB.out⟩
end Go.Proofs.YtomonhghioamfaaGreatDoor
namespace Go.Proofs.YtomonhghioamfaaGreatDoor
open Go.ChangeShapes Go.WideShapes Go.ChangeAt Go.RowKit
open Go.Maps (Keyed)

/-- An element, as it lies. -/
def asIs (v : Value) : Option (DataW Value × List MemPlace) := some (.held v, [])
theorem asIs_inv {v : Value} {d : DataW Value} {ps : List MemPlace} (h : asIs v = some (d, ps)) : d = .held v := by
  unfold asIs at h
  cases h; rfl
theorem lawS : Keyed Tryz.prog 9 := Maps.string_keyed Tryz.underlying9
theorem keyS {s : ByteArray} (hs : s.size ≤ maxLen) : keyOf Tryz.prog 9 (.string s) = some (.string s.data.toList) := WideMaps.keyOf_string_mk Tryz.underlying9 hs
theorem kS_key (s : List UInt8) : WideAt.IsKeyLit (.string s) := trivial
theorem keyS_inv {key : Value} {kl : Lit} (h : keyOf Tryz.prog 9 key = some kl) : ∃ s : ByteArray, key = .string s ∧ kl = .string s.data.toList ∧ s.size ≤ maxLen := WideMaps.string_of_keyOf Tryz.underlying9 h
end Go.Proofs.YtomonhghioamfaaGreatDoor
namespace Go.Proofs.YtomonhghioamfaaGreatDoor
open Go.ChangeShapes Go.WideShapes Go.ChangeAt Go.RowKit Mon Ky
open Go.Maps (Keyed)

abbrev tWm : TypeId := 116
/-- What the map of words says. -/
def Wds (D : DataW Value) : Prop := ∀ s : List UInt8, Maps.has D (.string s) = deedB s ∧ (deedB s = true → ∀ z, D.atKey (.string s) z = .held (.int .i64 (deedV s)))
def wdsD : DataW Value := ((((((DataW.map []).put (.string [114, 101, 115, 101, 114, 118, 101]) (.held (.int .i64 0))).put (.string [99, 104, 97, 114, 103, 101]) (.held (.int .i64 1))).put (.string [115, 104, 105, 112]) (.held (.int .i64 2))).put (.string [114, 101, 108, 101, 97, 115, 101]) (.held (.int .i64 3))).put (.string [114, 101, 102, 117, 110, 100]) (.held (.int .i64 4))).put (.string [118, 111, 105, 100]) (.held (.int .i64 5))
theorem put_look {D : DataW Value} (a s : List UInt8) {d : DataW Value} (hD : Maps.IsMap D) : Maps.has (D.put (.string a) d) (.string s) = (decide (s = a) || Maps.has D (.string s)) ∧ ∀ z, (D.put (.string a) d).atKey (.string s) z = if s = a then d else D.atKey (.string s) z := by
  by_cases h : s = a
  · subst h
    exact ⟨by rw [Maps.has_put_same hD (by exact trivial)]; simp, fun z => by rw [Maps.atKey_put_same hD (by exact trivial), if_pos rfl]⟩
  · have hk : Lit.string s ≠ Lit.string a := fun e => h (by cases e; rfl)
    exact ⟨by rw [Maps.has_put_other hk]; simp [h], fun z => by rw [Maps.atKey_put_other hk, if_neg h]⟩
theorem wds_is : Wds wdsD := by
  intro s
  have m0 : Maps.IsMap (DataW.map [] : DataW Value) := Maps.isMap_empty
  have h1 := fun s => put_look [114, 101, 115, 101, 114, 118, 101] s (d := .held (.int .i64 0)) m0
  have m1 := m0.put (.string [114, 101, 115, 101, 114, 118, 101]) (.held (.int .i64 0))
  have h2 := fun s => put_look [99, 104, 97, 114, 103, 101] s (d := .held (.int .i64 1)) m1
  have m2 := m1.put (.string [99, 104, 97, 114, 103, 101]) (.held (.int .i64 1))
  have h3 := fun s => put_look [115, 104, 105, 112] s (d := .held (.int .i64 2)) m2
  have m3 := m2.put (.string [115, 104, 105, 112]) (.held (.int .i64 2))
  have h4 := fun s => put_look [114, 101, 108, 101, 97, 115, 101] s (d := .held (.int .i64 3)) m3
  have m4 := m3.put (.string [114, 101, 108, 101, 97, 115, 101]) (.held (.int .i64 3))
  have h5 := fun s => put_look [114, 101, 102, 117, 110, 100] s (d := .held (.int .i64 4)) m4
  have m5 := m4.put (.string [114, 101, 102, 117, 110, 100]) (.held (.int .i64 4))
  have h6 := fun s => put_look [118, 111, 105, 100] s (d := .held (.int .i64 5)) m5
  constructor
  · unfold wdsD
    rw [(h6 s).1, (h5 s).1, (h4 s).1, (h3 s).1, (h2 s).1, (h1 s).1]
    have hn : Maps.has (DataW.map [] : DataW Value) (.string s) = false := rfl
    rw [hn]
    unfold deedB words
    rw [Bool.eq_iff_iff]
    simp only [List.any_cons, List.any_nil, Bool.or_false, Bool.or_eq_true, beq_iff_eq, decide_eq_true_eq]
    constructor
    · rintro (h | h | h | h | h | h) <;> subst h <;> simp
    · rintro (h | h | h | h | h | h) <;> subst h <;> simp
  · intro hb z
    obtain ⟨g1, g2, g3⟩ := deed_of hb
    unfold wdsD
    rw [(h6 s).2, (h5 s).2, (h4 s).2, (h3 s).2, (h2 s).2, (h1 s).2]
    unfold deedB words at hb
    simp only [List.any_cons, List.any_nil, Bool.or_false, Bool.or_eq_true, beq_iff_eq] at hb
    rcases hb with rfl | rfl | rfl | rfl | rfl | rfl <;> simp <;> rfl
theorem put_wd {w : World} {b n : Nat} {D : DataW Value} (s : ByteArray) (i : Int) (h : w.ownsMap Tryz.prog 9 asIs b n D) (hn : n < maxLen) (hs : s.size ≤ maxLen) :
    ∃ w', (Instr.mapUpdate tWm (.map (some b)) (.string s) (.int .i64 i)).run Tryz.prog w = .ok () w' ∧ w'.ownsMap Tryz.prog 9 asIs b (n + 1) (D.put (.string s.data.toList) (.held (.int .i64 i))) ∧ w.grownBy w' (some b) :=
  h.update lawS Tryz.underlying116 hn (keyS hs) (show asIs (.int .i64 i) = some (.held (.int .i64 i), []) from rfl)
/-- What a call leaves that has made the map of words. -/
def WordsOut (w : World) (e : Ending) (w' : World) : Prop := ∃ D, e = .returned (.map (some w.heap.size)) ∧ w'.ownsMap Tryz.prog 9 asIs w.heap.size 6 D ∧ Wds D ∧ Keeps w w'
set_option maxHeartbeats 2000000 in
theorem pk_words (w : World) : Calls Tryz.prog 81 #[] w (WordsOut w) := by
  have hmm := @run_makeMap Tryz.prog
  have o0 := World.ownsMap_made w Tryz.prog 9 asIs
  have k0 := Lib.hid (ky_box w (.map #[] 0))
  obtain ⟨w1, E1, o1, g1⟩ := put_wd ⟨#[114, 101, 115, 101, 114, 118, 101]⟩ 0 o0 (by decide) (by decide)
  obtain ⟨w2, E2, o2, g2⟩ := put_wd ⟨#[99, 104, 97, 114, 103, 101]⟩ 1 o1 (by decide) (by decide)
  obtain ⟨w3, E3, o3, g3⟩ := put_wd ⟨#[115, 104, 105, 112]⟩ 2 o2 (by decide) (by decide)
  obtain ⟨w4, E4, o4, g4⟩ := put_wd ⟨#[114, 101, 108, 101, 97, 115, 101]⟩ 3 o3 (by decide) (by decide)
  obtain ⟨w5, E5, o5, g5⟩ := put_wd ⟨#[114, 101, 102, 117, 110, 100]⟩ 4 o4 (by decide) (by decide)
  obtain ⟨w6, E6, o6, g6⟩ := put_wd ⟨#[118, 111, 105, 100]⟩ 5 o5 (by decide) (by decide)
  have z0 : w.heap.size ≤ (w.alloc (.map #[] 0)).heap.size := by simp
  have rr : ∀ k, some w.heap.size = some k → w.heap.size ≤ k := fun k e => by cases e; exact Nat.le_refl _
  have K : Hid (Keeps w w6) := Lib.hid (((((((k0.out.grown g1 z0 rr).grown g2 (Nat.le_trans z0 g1.size) rr).grown g3 (Nat.le_trans z0 (Nat.le_trans g1.size g2.size)) rr).grown g4 (Nat.le_trans z0 (Nat.le_trans g1.size (Nat.le_trans g2.size g3.size))) rr).grown g5 (Nat.le_trans z0 (Nat.le_trans g1.size (Nat.le_trans g2.size (Nat.le_trans g3.size g4.size)))) rr).grown g6 (Nat.le_trans z0 (Nat.le_trans g1.size (Nat.le_trans g2.size (Nat.le_trans g3.size (Nat.le_trans g4.size g5.size))))) rr))
  have O := Lib.hid o6
  clear o0 o1 o2 o3 o4 o5 o6 g1 g2 g3 g4 g5 g6 z0 rr
  go_enter Tryz.func81, Tryz.ntmps81
  go_wp2
  go_ret
  exact ⟨wdsD, rfl, O.out, wds_is, K.out⟩
end Go.Proofs.YtomonhghioamfaaGreatDoor
namespace Go.Proofs.YtomonhghioamfaaGreatDoor
open Go.ChangeShapes Go.WideShapes Go.ChangeAt Go.RowKit Mon Ky
open Go.Maps (Keyed)

theorem zero_int (w : World) : (zeroValue 3).run Tryz.prog w = .ok (.int .i64 0) w := by kernel_rfl
theorem look_wd {w : World} {b n : Nat} {D : DataW Value} {s : ByteArray} (h : w.ownsMap Tryz.prog 9 asIs b n D) (hD : Wds D) (hs : s.size ≤ maxLen) :
    (Instr.lookup tWm (.map (some b)) (.string s) true).run Tryz.prog w = .ok (.tuple #[.int .i64 (deedV s.data.toList), .bool (deedB s.data.toList)]) w := by
  obtain ⟨u, ps, hr, hu⟩ := h.look_ok lawS Tryz.underlying116 (zero_int w) (show asIs (.int .i64 0) = some (.held (.int .i64 0), []) from rfl) (keyS hs)
  have e := asIs_inv hu
  obtain ⟨h1, h2⟩ := hD s.data.toList
  rw [h1] at hr
  cases hb : deedB s.data.toList with
  | true =>
    rw [h2 hb] at e
    cases e
    rw [hb] at hr
    exact hr
  | false =>
    rw [Maps.atKey_of_not_has (h1.trans hb)] at e
    cases e
    rw [hb] at hr
    have : deedV s.data.toList = 0 := (deed_none fun d h0 h1 e => by
      have := (deed_word h0 h1).1
      rw [e, hb] at this
      cases this).2
    rw [this]
    exact hr
theorem pk_deed (s : ByteArray) (w : World) (hs : s.size ≤ maxLen) : Calls Tryz.prog 91 #[.string s] w fun e w' => e = .returned (.tuple #[.int .i64 (deedV s.data.toList), .bool (deedB s.data.toList)]) ∧ Keeps w w' := by
  have HS := Lib.hid hs
  have HW := Lib.hid (pk_words w)
  obtain ⟨v, hv⟩ : ∃ v, deedV s.data.toList = v := ⟨_, rfl⟩
  obtain ⟨b, hb⟩ : ∃ b, deedB s.data.toList = b := ⟨_, rfl⟩
  have HL := Lib.hid fun (w : World) n D (h : w.ownsMap Tryz.prog 9 asIs n 6 D) (hD : Wds D) => look_wd h hD hs
  rw [hv, hb] at HL
  rw [hv, hb]
  clear hv hb hs
  go_enter Tryz.func91, Tryz.ntmps91
  go_wp2_with fail
  refine HW.out.mono ?_
  rintro e w2 ⟨D, rfl, o2, hD, k2⟩
  have K2 := Lib.hid k2
  have hl := HL.out w2 _ D o2 hD
  clear k2 o2 hD
  go_wp2
  go_ret2
  exact ⟨rfl, K2.out⟩
/-- No word that has come has the deed. -/
def NoneYet (d : Int) (left : Lit → Bool) : Prop := ∀ s : List UInt8, deedB s = true → deedV s = d → left (.string s) = true
theorem NoneYet.next {d : Int} {left : Lit → Bool} {x : List UInt8} (h : NoneYet d left) (hx : deedV x ≠ d) : NoneYet d fun z => left z && !z.sameKey (.string x) := fun s hs hv => by
  have : Lit.string s ≠ Lit.string x := fun e => by cases e; exact hx hv
  simp [h s hs hv, Maps.sameKey_ne this]
theorem NoneYet.done {d : Int} {left : Lit → Bool} (h : NoneYet d left) (hl : ∀ kl, left kl = false) : wordS d = ⟨#[]⟩ := by
  unfold wordS
  rw [word_none]
  rintro ⟨h0, h1⟩
  obtain ⟨g1, g2⟩ := deed_word h0 h1
  have := h _ g1 g2
  rw [hl] at this
  cases this
set_option maxHeartbeats 4000000 in
theorem pk_word (d : Int) (w : World) : Calls Tryz.prog 45 #[.int .i64 d] w fun e w' => e = .returned (.string (wordS d)) ∧ Keeps w w' := by
  have HW := Lib.hid (pk_words w)
  go_enter Tryz.func45, Tryz.ntmps45
  go_wp2_with fail
  refine HW.out.mono ?_
  rintro e w2 ⟨D, rfl, o2, hD, k2⟩
  have K2 := Lib.hid k2
  have HD := Lib.hid hD
  have O2 := Lib.hid o2
  have hlt := Lib.hid o2.lt
  clear k2 hD HW o2
  go_wp2_with (first
    | (at_range; refine wpList_range_own _ rfl _ tWm rfl 9 3 lawS Tryz.underlying116 asIs w.heap.size 6 _ rfl O2.out ?_; intro w0 hrg0 hg0 hs0)
    | go_in)
  have HG0 := Lib.hid hg0
  have HS0 := Lib.hid hs0
  have HRG0 := Lib.hid hrg0
  clear hg0 hs0 hrg0
  go_frame
  go_loopw [3, 4] (fun _ _ wr => ∃ (left : Lit → Bool) (cnt : Nat), wr.ranges Tryz.prog 9 asIs w.heap.size w2.heap.size 6 D left cnt ∧ NoneYet d left ∧ Keeps w wr)
    (fun _ _ wr => wr.rangeLeft w.heap.size w2.heap.size)
  case atStart =>
    exact ⟨_, _, HRG0.out, fun s hs hv => by rw [(HD.out s).1]; exact hs, K2.out.grown HG0.out (K2.out.size) (by simp)⟩
  case round =>
    obtain ⟨left, cnt, hrg, hN, hk⟩ := hrel
    have HN := Lib.hid hN
    have HK := Lib.hid hk
    have HR := Lib.hid hrg
    clear hN hk
    go_wp2_with (first
      | (at_next; refine wpList_next_ranges _ rfl _ rfl 9 lawS asIs Value.string id (fun key kl h => by obtain ⟨x, e, _⟩ := keyS_inv h; exact ⟨x, e⟩) (fun v _ _ => ⟨v, rfl⟩) w.heap.size w2.heap.size 6 _ _ _ rfl hrg ?_ ?_)
      | go_in)
    · intro hc0 hl0
      have E := Lib.hid (HN.out.done hl0)
      clear hc0 hl0 hrg
      go_wp2
      go_ret
      exact ⟨by rw [E.out]; rfl, HK.out⟩
    · intro x c kl yd yp w1 cnt1 hkey hlx hv hat hrg1 hlt1 hg1 hs1 hen
      obtain ⟨x', ex, rfl, hsz⟩ := keyS_inv hkey
      cases ex
      have hb : deedB x.data.toList = true := by
        rw [← (HD.out _).1]
        exact Maps.has_true_of_atKey hat
      have hc : c = .int .i64 (deedV x.data.toList) := by
        have h1 := (HD.out x.data.toList).2 hb (.held (.int .i64 0))
        have h2 := asIs_inv hv
        rw [hat, h2] at h1
        cases h1; rfl
      subst hc
      have HK1 : Hid (Keeps w w1) := Lib.hid (HK.out.grown hg1 HK.out.size (fun k e => by cases e; exact K2.out.size))
      obtain ⟨n, hn⟩ : ∃ n, deedV x.data.toList = n := ⟨_, rfl⟩
      have HB := Lib.hid (deed_of hb)
      have HL1 := Lib.hid hlt1
      have HRG1 := Lib.hid hrg1
      by_cases he : n = d
      · have e1 : (n == d) = true := by simpa using he
        have E : Hid (wordS d = x) := Lib.hid (bytes_inj (by rw [← he, ← hn]; unfold wordS; rw [HB.out.1]))
        try simp only [id] at hen ⊢
        rw [hn] at hen ⊢
        clear hn he hkey hlx hv hat hrg1 hlt1 hg1 hs1 hb hrg
        go_wp2
        go_ret
        exact ⟨by rw [E.out]; rfl, HK1.out⟩
      · have e1 : (n == d) = false := by simpa using he
        have N := Lib.hid (HN.out.next (x := x.data.toList) (by rw [hn]; exact he))
        try simp only [id] at hen ⊢
        rw [hn] at hen ⊢
        clear hn he hkey hlx hv hat hrg1 hlt1 hg1 hs1 hb hrg
        go_wp2
        go_roundw
        case rel => exact ⟨_, cnt1, HRG1.out, N.out, HK1.out⟩
        case measure => rw [HRG1.out.left_eq, HR.out.left_eq]; exact HL1.out
end Go.Proofs.YtomonhghioamfaaGreatDoor
