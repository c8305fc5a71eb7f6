
/- The contracts of the document's Sum, Seal, Open (layer 3). -/
import Derived.Test.YtlaepdpgegoopaaGreatSumsOpenC
set_option linter.unusedVariables false
namespace Go.Proofs.YtlaepdpgegoopaaGreat
open Go.ChangeShapes Go.WideShapes Go.ChangeAt Go.RowKit Bit Crc

theorem shr_succ (c j : Nat) : c / 2 ^ (j + 1) = c / 2 ^ j / 2 := by rw [Nat.pow_succ, Nat.div_div_eq_div_mul]
theorem rbit_odd {Z c j Y : Nat} (h : Z ^^^ (c / 2 ^ j) = steps j (Y ^^^ c)) (hp : (Z + c / 2 ^ j) % 2 = 1) : (Z / 2 ^^^ poly) ^^^ (c / 2 ^ (j + 1)) = steps (j + 1) (Y ^^^ c) := by
  rw [steps, ← h, stp_odd (by rw [odd_xor]; omega), half_xor, shr_succ, Nat.xor_assoc, Nat.xor_comm poly, ← Nat.xor_assoc]
theorem rbit_even {Z c j Y : Nat} (h : Z ^^^ (c / 2 ^ j) = steps j (Y ^^^ c)) (hp : (Z + c / 2 ^ j) % 2 = 0) : (Z / 2) ^^^ (c / 2 ^ (j + 1)) = steps (j + 1) (Y ^^^ c) := by
  rw [steps, ← h, stp_even (by rw [odd_xor]; omega), half_xor, shr_succ]
theorem rpar (z c j : Nat) : ((z : Int) + (c : Int) / 2 ^ j) % 2 = (((z + c / 2 ^ j) % 2 : Nat) : Int) := by simp
theorem half_w {z : Nat} (h : z < two32) : (z : Int) / 2 % 4294967296 = ((z / 2 : Nat) : Int) := by unfold two32 at h; omega
theorem xpoly2 {z : Nat} (h : z < two32) : bits .xor .u32 ((z : Int) / 2 % 4294967296) 2197175160 = ((z / 2 ^^^ poly : Nat) : Int) := by
  rw [half_w h, poly_int, x32 (by unfold two32 at *; omega) poly_lt]
theorem half_lt {z : Nat} (h : z < two32) : z / 2 < two32 := by unfold two32 at *; omega
theorem end_byte {c : Nat} (h : c < 256) : c / 2 ^ 8 = 0 := by omega

theorem rflip {x : Nat} (h : x < two32) : (4294967295 - (x : Int)) % 4294967296 = ((ones - x : Nat) : Int) := by unfold two32 at h; unfold ones; omega
def RBitRel (Y c : Nat) (x i : Value) : Prop := ∃ k X : Nat, k ≤ 8 ∧ i = .int .i64 k ∧ x = .int .u32 X ∧ X < two32 ∧ X ^^^ (c / 2 ^ k) = steps k (Y ^^^ c)

set_option maxRecDepth 100000 in
set_option maxHeartbeats 400000 in
theorem rsum_any (s : ByteArray) (w : World) (hs : s.size ≤ maxLen) :
    Calls Tryz.prog 87 #[.string s] w fun e w' => e = .returned (.int .u32 (sumN s.data.toList : Nat)) ∧ w = w' := by
  unfold maxLen at hs
  go_enter Tryz.func87, Tryz.ntmps87
  go_wp2
  go_loop [3, 4] (fun x i => SumRel s.data.toList s.size x i) (fun _ i => s.size - (intOf i).toNat)
  case atStart => exact ⟨0, ones, Nat.zero_le _, rfl, rfl, ones_lt, rfl⟩
  case round =>
    obtain ⟨k, X, hk, rfl, rfl, hX, hx⟩ := hrel
    have HX := Lib.hid hX
    have HT := Lib.hid hx
    clear hX hx
    by_cases hlt : k < s.size
    · have HM := Lib.hid (take_more s k hlt)
      have HL := Lib.hid (u8_lt s[k])
      go_wp2
      go_loop [3, 5] (fun x i => RBitRel X s[k].toNat x i) (fun _ i => 8 - (intOf i).toNat)
      case atStart => exact ⟨0, X, Nat.zero_le _, rfl, rfl, HX.out, by rw [Nat.pow_zero, Nat.div_one]; rfl⟩
      case round =>
        obtain ⟨j, Z, hj, rfl, rfl, hZ, hz⟩ := hrel
        have HZ := Lib.hid hZ
        have HR := Lib.hid hz
        clear hZ hz
        by_cases hl2 : j < 8
        · rcases (show (Z + s[k].toNat / 2 ^ j) % 2 = 1 ∨ (Z + s[k].toNat / 2 ^ j) % 2 = 0 from by omega) with hp | hp
          · have hp2 : (((Z : Int) + (s[k].toNat : Int) / 2 ^ j) % 2 == 1) = true := by rw [rpar, hp]; rfl
            have HP := Lib.hid hp
            clear hp
            go_wp2
            go_round
            case rel =>
              exact ⟨j + 1, _, by omega, by go_num, vint (xpoly2 HZ.out), x_lt (half_lt HZ.out) poly_lt, rbit_odd HR.out HP.out⟩
            case measure => simp [intOf]; omega
          · have hp2 : (((Z : Int) + (s[k].toNat : Int) / 2 ^ j) % 2 == 1) = false := by rw [rpar, hp]; rfl
            have HP := Lib.hid hp
            clear hp
            go_wp2
            go_round
            case rel =>
              exact ⟨j + 1, _, by omega, by go_num, vint (half_w HZ.out), half_lt HZ.out, rbit_even HR.out HP.out⟩
            case measure => simp [intOf]; omega
        · obtain rfl : j = 8 := by omega
          have HZ2 := Lib.hid (show Z = into X s[k].toNat from by have := HR.out; rw [end_byte HL.out, Nat.xor_zero] at this; exact this)
          go_wp2
          go_round
          case rel => exact ⟨k + 1, Z, by omega, by go_num, rfl, HZ.out, by rw [HZ2.out, HM.out, st_snoc, HT.out]⟩
          case measure => simp [intOf]; omega
    · have HE := Lib.hid (show s.data.toList.take k = s.data.toList from List.take_of_length_le (by rw [len_data]; omega))
      go_wp2
      go_ret
      refine ⟨ret_int ?_, rfl⟩
      rw [rflip HX.out, sumN, HT.out, HE.out]

theorem four_string {P : Program} (w : World) (src e : TypeId) (hs : P.underlying src = some (.slice e)) (he : P.underlying e = some (.int .u8)) (a b c d : Int) (n : Nat) (ha : a = (b8 n).toNat) (hb : b = (b8 (n / 256)).toNat) (hc : c = (b8 (n / 65536)).toNat) (hd : d = (b8 (n / 16777216)).toNat) :
    ∀ dst, P.underlying dst = some .string → (convert src dst (.slice (some ⟨w.heap.size, 0, none⟩) 4 4)).run P (w.alloc (.cells #[Value.int .u8 a, Value.int .u8 b, Value.int .u8 c, Value.int .u8 d] e)) = .ok (.string ⟨(le4 n).toArray⟩) (w.alloc (.cells #[Value.int .u8 a, Value.int .u8 b, Value.int .u8 c, Value.int .u8 d] e)) :=
  loaded_string (P := P) (w.alloc (.cells #[Value.int .u8 a, Value.int .u8 b, Value.int .u8 c, Value.int .u8 d] e)) src e hs he w.heap.size 4 4 (le4 n) rfl fun i hi => by
    rw [World.cell?_alloc_at _ _ _ _ rfl, ha, hb, hc, hd]
    rcases (show i = 0 ∨ i = 1 ∨ i = 2 ∨ i = 3 from by omega) with rfl | rfl | rfl | rfl <;> rfl

set_option maxRecDepth 100000 in
set_option maxHeartbeats 400000 in
theorem rseal_any (s : ByteArray) (w : World) (hs : s.size ≤ 4294967296) :
    Calls Tryz.prog 72 #[.string s] w fun e w' => e = .returned (.string ⟨(sealL s.data.toList).toArray⟩) ∧ Keeps w w' := by
  have S := Lib.hid (show s.size ≤ maxLen by unfold maxLen; omega)
  obtain ⟨n, hn⟩ : ∃ n, n = sumN s.data.toList := ⟨_, rfl⟩
  have HL := Lib.hid (show n < two32 by rw [hn]; exact sumN_lt _)
  have HN := Lib.hid hn.symm
  have hl : (⟨(le4 n).toArray⟩ : ByteArray).size ≤ 4 := by rw [size_mk]; exact Nat.le_refl 4
  clear hn
  have hcv := four_string (P := Tryz.prog) w 51 5 Tryz.underlying51 Tryz.underlying5 ((n : Int) % 256) ((n : Int) / 256 % 256) ((n : Int) / 65536 % 256) ((n : Int) / 16777216 % 256) n
    (by rw [b8_toNat]; omega) (by rw [b8_toNat]; omega) (by rw [b8_toNat]; omega) (by rw [b8_toNat]; omega) 9 Tryz.underlying9
  go_enter Tryz.func72, Tryz.ntmps72
  go_wp2_with (go_at_call 87; refine (rsum_any _ _ S.out).mono ?_; rw [HN.out]; rintro e w' ⟨rfl, rfl⟩)
  go_ret
  exact ⟨ret_str (by rw [app_mk, sealL, HN.out]), (Below.refl _ _).alloc (Nat.le_refl _) _⟩

end Go.Proofs.YtlaepdpgegoopaaGreat
