
/- The contracts of strings.IndexAny, ContainsAny at what a field has in quotes alone: whatever the text. -/
import Derived.Test.YtnkcbefamajghaaDoorShelfC
import Derived.Test.YtnkcbefamajghaaDoorCsvMath
import Derived.Lib.TrimUEq
import Derived.Lib.MapLaws
import Derived.Laws.RangeAny
import Derived.Laws.Runes
import Derived.LoopN
import Derived.WalkMore
import Derived.Scope
import Derived.Deep.RegionWith
import Derived.Deep.QuietTactic
import Derived.BigQuiet
set_option linter.unusedVariables false
namespace Go.Proofs.YtnkcbefamajghaaDoor
open Go.ChangeShapes Go.WideShapes Go.ChangeAt Go.RowKit Go.Shelf Go.Proofs Csv

/-- Bytes of ASCII alone. -/
def Asc (s : ByteArray) : Prop := ∀ (i : Nat) (h : i < s.size), (s[i]'h).toNat < 128
theorem Asc.mem {s : ByteArray} (h : Asc s) : ∀ b ∈ s.data.toList, b.toNat < 128 := by
  intro b hb
  obtain ⟨i, hi, e⟩ := List.getElem_of_mem hb
  have hi' : i < s.size := by rw [Array.length_toList] at hi; exact hi
  have := h i hi'
  rw [← e]; exact this
theorem indexByte_asc (s : ByteArray) (a : Nat) (c : UInt8) (hs : Asc s) (hc : 128 ≤ c.toNat) : Lib.indexByte (s.data.toList.drop a) c = -1 := by
  have : ∀ l : List UInt8, (∀ b ∈ l, b.toNat < 128) → Lib.indexByte l c = -1 := by
    intro l
    induction l with
    | nil => intro _; rfl
    | cons b l ih =>
      intro h
      have hb := h b (by simp)
      have hne : (b == c) = false := by rw [beq_eq_false_iff_ne]; intro e; subst e; omega
      rw [Lib.indexByte, hne, ih (fun x hx => h x (by simp [hx]))]; simp
  exact this _ fun b hb => hs.mem b (List.mem_of_mem_drop hb)

set_option maxHeartbeats 2000000 in
set_option maxRecDepth 100000 in
theorem irune_odd (s : ByteArray) (w : World) (hs : Asc s) :
    Calls Tryd.prog 77 #[.string s, .int .i32 65533] w fun e w' => e = .returned (.int .i64 (-1)) ∧ Below w.heap.size w w' := by
  have HS := Lib.hid hs
  clear hs
  go_enter Tryd.func77, Tryd.ntmps77
  go_wp2
  go_loopg [5, 6] s.size (fun g _ _ wx => ∃ i : Nat, i + g = s.size ∧ wx = w.iter s i)
  case atStart => exact ⟨0, by omega, rfl⟩
  case round =>
    obtain ⟨i, hig, rfl⟩ := hrel
    cases gk with
    | zero =>
      obtain rfl : i = s.size := by omega
      have hnx := run_next_end (P := Tryd.prog) w s s.size
      go_wp2
      go_ret
      exact ⟨rfl, (Below.refl _ _).alloc (Nat.le_refl _) _⟩
    | succ g =>
      have hi : i < s.size := by omega
      obtain ⟨x, hx⟩ : ∃ x : UInt8, s[i]'hi = x := ⟨_, rfl⟩
      have hx128 : x.toNat < 128 := by rw [← hx]; exact HS.out i hi
      have hnx := fun ty => run_next_ascii (P := Tryd.prog) w s i ty hi (by rw [hx]; exact hx128)
      rw [hx] at hnx
      have hne : ((x.toNat : Int) == 65533) = false := beq_eq_false_iff_ne.2 (by omega)
      clear hx
      go_wp2
      go_roundg g
      case measure => omega
      case rel => exact ⟨i + 1, by omega, rfl⟩

set_option maxHeartbeats 2000000 in
set_option maxRecDepth 100000 in
theorem irune_high (s : ByteArray) (r : Int) (w : World) (hs : Asc s) (h4 : s.size = 4) (h128 : 128 ≤ r) (hr : r ≤ 1114111) (hne : r ≠ 65533) :
    Calls Tryd.prog 77 #[.string s, .int .i32 r] w fun e w' => e = .returned (.int .i64 (-1)) ∧ Below w.heap.size w w' := by
  have hr2 : decide (r < 128) = false := decide_eq_false (by omega)
  have hr3 : (r == 65533) = false := beq_eq_false_iff_ne.2 hne
  cases hv : Lib.validRune r
  · have cv : Calls Tryd.prog 91 #[.int .i32 r] w fun e w' => e = .returned (.bool false) ∧ w' = w := by
      have := Any.utf8_ValidRune (ρ := lays153_ren) { lays153 with } r w
      rw [hv] at this; exact this
    go_enter Tryd.func77, Tryd.ntmps77
    go_wp2_with (go_at_call 91; refine cv.mono ?_; rintro e w' ⟨rfl, rfl⟩)
    go_ret
    exact ⟨rfl, Below.refl _ _⟩
  · have cv : Calls Tryd.prog 91 #[.int .i32 r] w fun e w' => e = .returned (.bool true) ∧ w' = w := by
      have := Any.utf8_ValidRune (ρ := lays153_ren) { lays153 with } r w
      rw [hv] at this; exact this
    obtain ⟨f1, f2, f3⟩ := encode_facts r (by rw [validRune_eq]; exact hv) h128
    obtain ⟨E, hE'⟩ : ∃ E, Utf8.encode r = E := ⟨_, rfl⟩
    rw [hE'] at f1 f2 f3
    obtain ⟨k, hk1, hk3, hk⟩ : ∃ k, 1 ≤ k ∧ k ≤ 3 ∧ E.size = k + 1 := ⟨E.size - 1, by omega, by omega, by omega⟩
    have hke : E.size - 1 = k := by omega
    obtain ⟨c, hc, hc8⟩ : ∃ c : UInt8, (∀ h : k < E.size, E[k]'h = c) ∧ 128 ≤ c.toNat := by
      refine ⟨E[k]'(by omega), fun _ => rfl, ?_⟩
      have := f3 (by omega)
      simpa only [hke] using this
    have hcE : E[k]'(by omega) = c := hc _
    have hc' : E[(k : Int).toNat]'(by simp; omega) = c := by simpa using hcE
    clear hc
    have hsk : ∃ x : UInt8, s[k]'(by omega) = x ∧ x.toNat < 128 := ⟨_, rfl, hs k (by omega)⟩
    obtain ⟨x, hx, hx8⟩ := hsk
    have hx' : s[(k : Int).toNat]'(by simp; omega) = x := by simpa using hx
    have hib : ∀ a b w, Calls Tryd.prog 90 #[.string (s.extract a b), .int .u8 (c.toNat : Int)] w fun e w' => e = .returned (.int .i64 (-1)) ∧ w' = w := by
      intro a b w
      have hz : Lib.indexByte (s.extract a b).data.toList c = -1 := by
        rw [ByteArray.data_extract, Array.toList_extract]
        have : ∀ l : List UInt8, (∀ y ∈ l, y.toNat < 128) → Lib.indexByte l c = -1 := by
          intro l
          induction l with
          | nil => intro _; rfl
          | cons y l ih =>
            intro h
            have hb := h y (by simp)
            have hne : (y == c) = false := by rw [beq_eq_false_iff_ne]; intro e; subst e; omega
            rw [Lib.indexByte, hne, ih (fun x hx => h x (by simp [hx]))]; simp
        exact this _ fun y hy => hs.mem y (List.mem_of_mem_drop (List.mem_of_mem_take hy))
      have := sh_indexByte (s.extract a b) c w
      rw [hz] at this; exact this
    have HIB := Lib.hid hib
    clear hs
    have hxc : ((x.toNat : Int) == (c.toNat : Int)) = false := beq_eq_false_iff_ne.2 (by omega)
    clear f3 hv hne hib
    go_enter Tryd.func77, Tryd.ntmps77
    go_wp2_with (go_at_call 91; refine cv.mono ?_; rintro e w' ⟨rfl, rfl⟩)
    go_step3
    go_wp2
    go_loop [9, 10] (fun i f => i = .int .i64 k ∧ f = .int .i64 0) (fun _ _ => 0)
    case atStart => exact ⟨rfl, rfl⟩
    case round =>
      obtain ⟨rfl, rfl⟩ := hrel
      have hks : (k : Int) < 4 := by omega
      have hw1 : IntKind.i64.wrap ((k : Int) + 1) = (k : Int) + 1 := IntWalk.i64_in _ (by omega)
      have hb0 : 0 ≤ (k : Int) + 1 := by omega
      have hb1 : ((k : Int) + 1).toNat = k + 1 := by omega
      have hb2 : (k : Int) + 1 ≤ 4 := by omega
      have hxd : ((x.toNat : Int) != (c.toNat : Int)) = true := by simp [bne, hxc]
      have hib := HIB.out
      clear HIB
      go_wp2
      go_step3
      go_wp2
      go_region
      all_goals go_wp2
      all_goals go_region_with (go_at_call 90; refine (hib _ _ _).mono ?_; rintro e w' ⟨rfl, rfl⟩)
      all_goals go_wp2
      rw [Exit.noGoto_ret]
      change bodyPost Tryd.prog Tryd.f77 (fun e W => e = Ending.returned (Value.int IntKind.i64 (-1)) ∧ Below w'.heap.size w' W) Exit.ret _ _
      go_ret
      exact ⟨rfl, (Below.refl _ _).drew.drew⟩

theorem irune_any (s : ByteArray) (r : Int) (w : World) (hs : Asc s) (h4 : s.size = 4) (h128 : 128 ≤ r) (hr : r ≤ 1114111) :
    Calls Tryd.prog 77 #[.string s, .int .i32 r] w fun e w' => e = .returned (.int .i64 (-1)) ∧ Below w.heap.size w w' := by
  by_cases h : r = 65533
  · subst h; exact irune_odd s w hs
  · exact irune_high s r w hs h4 h128 hr h

/-- What a rune takes, where its first byte is none of ASCII: none of its bytes is. -/
theorem dec_high (s : ByteArray) (p : Nat) (h : p < s.size) (hb : 128 ≤ (s[p]'h).toNat) :
    128 ≤ (Utf8.decode s p).1 ∧ (Utf8.decode s p).1 ≤ 1114111 ∧ 1 ≤ (Utf8.decode s p).2 ∧ p + (Utf8.decode s p).2 ≤ s.size ∧ ∀ j, j < (Utf8.decode s p).2 → 128 ≤ (s.data.toList.getD (p + j) 0).toNat := by
  have h0 : s.data.toList.getD p 0 = s[p]'h := by
    have := Lib.data_getElem? s p h
    simp [List.getD, this]
  have hl : s.data.toList.length = s.size := len_data s
  have hd := Lib.decode_N s p
  have hs := Lib.decodeN_shape (s.data.toList.length - p) (s.data.toList.getD p 0).toNat (s.data.toList.getD (p + 1) 0).toNat (s.data.toList.getD (p + 2) 0).toNat (s.data.toList.getD (p + 3) 0).toNat
  have hhi := decode_high s p h hb
  rw [h0] at hs hd
  have hj : ∀ d, (∀ j, j < d → j = 0 ∨ 128 ≤ (s.data.toList.getD (p + j) 0).toNat) → ∀ j, j < d → 128 ≤ (s.data.toList.getD (p + j) 0).toNat := by
    intro d hd j hj
    rcases hd j hj with rfl | h
    · rw [Nat.add_zero, h0]; exact hb
    · exact h
  rcases hs with ⟨c, e⟩ | ⟨c1, c2, c3, cv, e⟩ | ⟨c1, c2, c3, c4, cv, cs, e⟩ | ⟨c1, c2, c3, c4, c5, cv, cw, e⟩ | e
  · omega
  · rw [hd, e] at hhi ⊢
    refine ⟨hhi.1, ?_, by simp, by simp only; omega, hj _ fun j hj => ?_⟩
    · simp only; omega
    · simp only at hj
      rcases (show j = 0 ∨ j = 1 from by omega) with rfl | rfl
      · exact Or.inl rfl
      · right; omega
  · rw [hd, e] at hhi ⊢
    refine ⟨hhi.1, ?_, by simp, by simp only; omega, hj _ fun j hj => ?_⟩
    · simp only; omega
    · simp only at hj
      rcases (show j = 0 ∨ j = 1 ∨ j = 2 from by omega) with rfl | rfl | rfl
      · exact Or.inl rfl
      · right; omega
      · right; omega
  · rw [hd, e] at hhi ⊢
    refine ⟨hhi.1, ?_, by simp, by simp only; omega, hj _ fun j hj => ?_⟩
    · simp only; omega
    · simp only at hj
      rcases (show j = 0 ∨ j = 1 ∨ j = 2 ∨ j = 3 from by omega) with rfl | rfl | rfl | rfl
      · exact Or.inl rfl
      · right; omega
      · right; omega
      · right; omega
  · rw [hd, e] at hhi ⊢
    refine ⟨hhi.1, ?_, by simp, by simp only; omega, hj _ fun j hj => ?_⟩
    · simp only; omega
    · simp only at hj
      exact Or.inl (by omega)

theorem isSp_high (c : UInt8) (h : 128 ≤ c.toNat) : isSp c = false := by
  simp only [isSp, Bool.or_eq_false_iff, beq_eq_false_iff_ne]
  refine ⟨⟨⟨?_, ?_⟩, ?_⟩, ?_⟩ <;> (intro e; subst e; simp at h)
theorem noAny_more {l : List UInt8} {i d : Nat} (h : Lib.NoAny l spec i) (hd : ∀ j, j < d → 128 ≤ (l.getD (i + j) 0).toNat) : Lib.NoAny l spec (i + d) := by
  intro j b hj hb
  by_cases hji : j < i
  · exact h j b hji hb
  · have := hd (j - i) (by omega)
    rw [show i + (j - i) = j from by omega] at this
    rw [spec_contains, isSp_high]
    simpa [List.getD, hb] using this

def spB : ByteArray := ⟨#[44, 34, 10, 13]⟩
theorem spB_asc : Asc spB := by
  intro i h
  have : i < 4 := h
  match i, this with
  | 0, _ => exact (by decide : (44 : UInt8).toNat < 128)
  | 1, _ => exact (by decide : (34 : UInt8).toNat < 128)
  | 2, _ => exact (by decide : (10 : UInt8).toNat < 128)
  | 3, _ => exact (by decide : (13 : UInt8).toNat < 128)
theorem spB_list : spB.data.toList = spec := rfl

set_option maxHeartbeats 2000000 in
set_option maxRecDepth 100000 in
theorem iany_short (s : ByteArray) (w : World) (h8 : s.size ≤ 8) :
    Calls Tryd.prog 57 #[.string s, .string ⟨#[44, 34, 10, 13]⟩] w fun e w' => e = .returned (.int .i64 (Lib.indexAny s.data.toList spec)) ∧ Below w.heap.size w w' := by
  have h8z : decide ((8 : Int) < (s.size : Int)) = false := decide_eq_false (by omega)
  go_enter Tryd.func57, Tryd.ntmps57
  go_wp2_with (go_at_call 78; refine (Any.strings_shouldUseASCIISet (ρ := lays153_ren) { lays153 with } _ _).mono ?_; rintro e w' ⟨rfl, hw⟩; rw [hw, h8z])
  go_loopg [9, 10] s.size (fun g _ _ wx => ∃ i : Nat, s.size ≤ i + g ∧ i ≤ s.size ∧ wx.heap[w.heap.size]? = some (.stringIter s i) ∧ Below w.heap.size w wx ∧ Lib.NoAny s.data.toList spec i)
  case atStart => exact ⟨0, by omega, by omega, World.iter_heap _ _ _, (Below.refl _ _).alloc (Nat.le_refl _) _, Lib.NoAny.zero _ _⟩
  case round =>
    obtain ⟨i, hig, his, hit, hbw, hno⟩ := hrel
    have HN := Lib.hid hno
    have HB := Lib.hid hbw
    have hlt0 : w.heap.size < wr.heap.size := (Array.getElem?_eq_some_iff.1 hit).1
    clear hno hbw
    by_cases hi : i < s.size
    · obtain ⟨g, rfl⟩ : ∃ g, gk = g + 1 := ⟨gk - 1, by omega⟩
      have hnx : ∀ ty, (Instr.next (.pointer (some ⟨w.heap.size, 0, none⟩)) true ty).run Tryd.prog wr = _ := fun ty => Lib.run_next_any_at wr w.heap.size s i ty hit hi
      have hit2 := Lib.iterAt_heap wr w.heap.size s i (i + (Utf8.decode s i).2) hit
      have hsz2 := Lib.iterAt_size wr w.heap.size s (i + (Utf8.decode s i).2)
      have HB2 := Lib.hid (Lib.below_iterAt HB.out (Nat.le_refl _) s (i + (Utf8.decode s i).2))
      obtain ⟨x, hx⟩ : ∃ x : UInt8, s[i]'hi = x := ⟨_, rfl⟩
      have hxl : s.data.toList[i]? = some x := by rw [← hx]; exact Lib.data_getElem? s i hi
      have Hx := Lib.hid hxl
      clear hxl hit
      by_cases h128 : 128 ≤ x.toNat
      · have hdh := dec_high s i hi (by rw [hx]; exact h128)
        obtain ⟨R, hR⟩ : ∃ R, (Utf8.decode s i).1 = R := ⟨_, rfl⟩
        obtain ⟨K, hK⟩ : ∃ K, (Utf8.decode s i).2 = K := ⟨_, rfl⟩
        rw [hR, hK] at hnx hdh
        rw [hK] at hit2 hsz2 HB2
        obtain ⟨W1, hW1⟩ : ∃ W1, wr.iterAt w.heap.size s (i + K) = W1 := ⟨_, rfl⟩
        rw [hW1] at hnx hit2 hsz2 HB2
        obtain ⟨d1, d2, d3, d4, d5⟩ := hdh
        have HD := Lib.hid d5
        have HI := Lib.hid hit2
        have HZ := Lib.hid hsz2
        clear d5 hit2 hsz2 hx hR hK hW1
        go_wp2_with (go_at_call 77; refine (irune_any spB (R : Int) _ spB_asc rfl (by omega) (by omega)).mono ?_; rintro e w' ⟨rfl, hb⟩)
        go_roundg g
        case measure => omega
        case rel =>
          refine ⟨i + K, by omega, by omega, ?_, HB2.out.trans (hb.mono HB2.out.size), noAny_more HN.out HD.out⟩
          rw [hb.block _ (by rw [HZ.out]; exact hlt0)]; exact HI.out
      · have hda := decode_ascii s i hi (by rw [hx]; omega)
        rw [hda] at hnx hit2 hsz2 HB2
        simp only at hnx hit2 hsz2 HB2
        rw [hx] at hnx
        obtain ⟨W1, hW1⟩ : ∃ W1, wr.iterAt w.heap.size s (i + 1) = W1 := ⟨_, rfl⟩
        rw [hW1] at hnx hit2 hsz2 HB2
        have HI := Lib.hid hit2
        clear hda hit2 hsz2 hx hW1
        have hcon := Lib.contains_iff_indexByte spec x
        cases hin : spec.contains x
        · rw [hin] at hcon
          have hlt : ¬ ((0 : Int) ≤ Lib.indexByte spec x) := of_decide_eq_false hcon.symm
          clear hcon
          have c : ∀ w, Calls Tryd.prog 77 #[.string ⟨#[44, 34, 10, 13]⟩, .int .i32 x.toNat] w fun e w' => e = .returned (.int .i64 (Lib.indexByte spec x)) ∧ w' = w := fun w => by
            have := Any.strings_IndexRune_ascii (ρ := lays153_ren) { lays153 with } spB x.toNat w (by omega) (by omega)
            rw [show ((x.toNat : Int)).toNat.toUInt8 = x from by simp] at this
            exact this
          go_wp2_with (go_at_call 77; refine (c _).mono ?_; rintro e w' ⟨rfl, rfl⟩)
          go_roundg g
          case measure => omega
          case rel => exact ⟨i + 1, by omega, by omega, HI.out, HB2.out, HN.out.succ Hx.out hin⟩
        · rw [hin] at hcon
          have hge : (0 : Int) ≤ Lib.indexByte spec x := of_decide_eq_true hcon.symm
          clear hcon
          have c : ∀ w, Calls Tryd.prog 77 #[.string ⟨#[44, 34, 10, 13]⟩, .int .i32 x.toNat] w fun e w' => e = .returned (.int .i64 (Lib.indexByte spec x)) ∧ w' = w := fun w => by
            have := Any.strings_IndexRune_ascii (ρ := lays153_ren) { lays153 with } spB x.toNat w (by omega) (by omega)
            rw [show ((x.toNat : Int)).toNat.toUInt8 = x from by simp] at this
            exact this
          go_wp2_with (go_at_call 77; refine (c _).mono ?_; rintro e w' ⟨rfl, rfl⟩)
          go_ret
          exact ⟨by rw [Lib.indexAny_hit HN.out Hx.out hin]; rfl, HB2.out⟩
    · obtain rfl : i = s.size := by omega
      have hnx : ∀ ty, (Instr.next (.pointer (some ⟨w.heap.size, 0, none⟩)) true ty).run Tryd.prog wr = _ := fun ty => Lib.run_next_end_at wr w.heap.size s s.size ty hit hi
      clear hit
      go_wp2
      go_ret
      exact ⟨by rw [Lib.indexAny_none (by rw [len_data]; exact HN.out)]; rfl, HB.out⟩

/-- strings.IndexAny: whatever the text. -/
theorem iany_any (s : ByteArray) (w : World) (hs : s.size < 4294967281) :
    Calls Tryd.prog 57 #[.string s, .string ⟨#[44, 34, 10, 13]⟩] w fun e w' => e = .returned (.int .i64 (Lib.indexAny s.data.toList spec)) ∧ Below w.heap.size w w' := by
  by_cases h8 : s.size ≤ 8
  · exact iany_short s w h8
  · have hz := zero_of_info (P := Tryd.prog) (t := 112) (v := .agg (Array.replicate 256 (.bool false))) (n := 256) (by kernel_rfl)
    refine (Any.strings_IndexAny_long lays153 hz.1 hz.2 s spB w (by decide) (by omega) hs (by decide) ?_).mono fun e w' h => ?_
    · intro j b hb
      exact Asc.mem spB_asc b (List.mem_of_getElem? hb)
    · obtain ⟨h1, h2⟩ := h
      exact ⟨h1, by rw [h2]; exact ((Below.refl _ _).alloc (Nat.le_refl _) _).alloc (by simp) _⟩
theorem cany_any (s : ByteArray) (w : World) (hs : s.size < 4294967281) :
    Calls Tryd.prog 62 #[.string s, .string ⟨#[44, 34, 10, 13]⟩] w fun e w' => e = .returned (.bool (quotes s.data.toList)) ∧ Below w.heap.size w w' := by
  have hq : quotes s.data.toList = decide (0 ≤ Lib.indexAny s.data.toList spec) := by
    unfold quotes
    induction s.data.toList with
    | nil => rfl
    | cons c l ih =>
      have hge := Lib.indexAny_ge spec l
      rw [List.any_cons, ih, Lib.indexAny, spec_contains]
      cases hc : isSp c
      · simp only [Bool.false_or, Bool.false_eq_true, if_false]
        by_cases h : Lib.indexAny l spec = -1
        · simp [h]
        · rw [if_neg (by simpa using h)]
          have e1 : (0 ≤ Lib.indexAny l spec) = True := by simp; omega
          have e2 : (0 ≤ Lib.indexAny l spec + 1) = True := by simp; omega
          simp [e1, e2]
      · simp
  have HQ := Lib.hid hq
  clear hq
  go_enter Tryd.func62, Tryd.ntmps62
  go_wp2_with (go_at_call 57; refine (iany_any _ _ hs).mono ?_; rintro e w' ⟨rfl, hw⟩)
  go_ret
  exact ⟨ret_bool HQ.out.symm, hw⟩
end Go.Proofs.YtnkcbefamajghaaDoor
