
/- A number's next seven bits, by a shift and an or. The contracts of bits.Var, Sign, Back, Text. The contracts of bits.Read, Cut. -/
import Derived.Test.YtomonhghioamfaaDoorBitsMath
import Derived.Test.YtomonhghioamfaaDoorBitsPutC
import Derived.Deep.RegionWith
import Derived.Deep.QuietTactic
import Derived.BigQuiet
import Derived.Deep.Cut
set_option linter.unusedVariables false
namespace Go.Proofs.YtomonhghioamfaaDoor
open Bit

theorem pow7 (k : Nat) : (2 : Nat) ^ (7 * k) = 128 ^ k := by rw [Nat.pow_mul]
theorem join_mod {x y p r : Nat} (hp : 0 < p) (hx : x < p) : x + y * p % (r * p) < r * p ∨ r = 0 := by
  by_cases hr : r = 0
  · exact Or.inr hr
  · left
    rw [Nat.mul_mod_mul_right]
    have h : y % r + 1 ≤ r := Nat.mod_lt _ (by omega)
    have := Nat.mul_le_mul_right p h
    rw [Nat.succ_mul] at this
    omega
theorem or_step (t : List UInt8) (c : Nat) (k : Nat) (hk : k ≤ 9) (ht : t.length ≤ k) (hc : c < 256) :
    bits .or .u64 ((lo t : Int) % (topN : Int)) (IntKind.u64.wrap (IntKind.u64.wrap (bits .andNot .u8 (c : Int) 128) * 2 ^ (7 * k))) = (((lo t + c % 128 * 128 ^ k) % topN : Nat) : Int) := by
  have hlo : lo t < 128 ^ k := Nat.lt_of_lt_of_le (lo_lt t) (Nat.pow_le_pow_right (by omega) ht)
  have h9 : (128 : Nat) ^ k ≤ 128 ^ 9 := Nat.pow_le_pow_right (by omega) hk
  have h9' : (128 : Nat) ^ 9 < topN := by decide
  have e1 : bits .andNot .u8 (c : Int) 128 = ((c % 128 : Nat) : Int) := by
    rw [u8_andNot _ _ (by omega) (by omega) (by omega) (by omega), Int.toNat_natCast, show 255 - (128 : Int).toNat = 127 from rfl, nat_mask7]
  have hT : (128 : Nat) ^ k * 2 ^ (64 - 7 * k) = topN := by
    rw [← pow7, ← Nat.pow_add, show 7 * k + (64 - 7 * k) = 64 from by omega]; rfl
  have hs : c % 128 < topN := by have : c % 128 < 128 := Nat.mod_lt _ (by decide); have : (128 : Nat) < topN := by decide
                                 omega
  have e2 : IntKind.u64.wrap (IntKind.u64.wrap (bits .andNot .u8 (c : Int) 128) * 2 ^ (7 * k)) = ((c % 128 * 128 ^ k % topN : Nat) : Int) := by
    rw [e1, u64w (n := ((c % 128 : Nat) : Int)) (by omega) (by omega), u64w_mod, ← pow7]
    simp [Int.natCast_emod, Int.natCast_mul, Int.natCast_pow]
  have e3 : (lo t : Int) % (topN : Int) = (lo t : Int) := by
    rw [← Int.natCast_emod, Nat.mod_eq_of_lt (by omega)]
  have hr := join_mod (x := lo t) (y := c % 128) (p := 128 ^ k) (r := 2 ^ (64 - 7 * k)) (Nat.pow_pos (by omega)) hlo
  rw [Nat.mul_comm (2 ^ (64 - 7 * k)), hT] at hr
  have hr' : lo t + c % 128 * 128 ^ k % topN < topN := by
    rcases hr with h | h
    · exact h
    · have : 0 < (2 : Nat) ^ (64 - 7 * k) := Nat.pow_pos (by omega)
      omega
  have hm : c % 128 * 128 ^ k % topN % 2 ^ (7 * k) = 0 := by
    rw [pow7, Nat.mod_mod_of_dvd _ ⟨_, hT.symm⟩]; exact Nat.mul_mod_left _ _
  have hy : c % 128 * 128 ^ k % topN < topN := Nat.mod_lt _ (by decide)
  have htop : topN = 18446744073709551616 := rfl
  rw [e2, e3, u64_or _ _ (by omega) (by omega) (by omega) (by omega), Int.toNat_natCast, Int.toNat_natCast, Nat.or_comm, nat_join (7 * k) _ _ hm (by rw [pow7]; exact hlo)]
  rw [Nat.add_mod, Nat.mod_eq_of_lt (show lo t < topN by omega), Nat.mod_eq_of_lt hr', Nat.add_comm]

end Go.Proofs.YtomonhghioamfaaDoor
namespace Go.Proofs.YtomonhghioamfaaDoor
open Go.ChangeShapes Go.WideShapes Go.ChangeAt Go.RowKit Bit

theorem bv_hi (n : Nat) : bv (hi n) = Value.int .u8 ((n : Int) % 128 + 128) := by rw [bv, hi_toNat]; rfl
theorem or128 (n : Nat) : bits .or .u8 ((n : Int) % 256) 128 = (n : Int) % 128 + 128 := by
  rw [u8_or _ _ (by omega) (by omega) (by omega) (by omega), show ((n : Int) % 256).toNat = n % 256 from by omega, show (128 : Int).toNat = 128 from rfl, Nat.or_comm]
  have e : (128 : Nat) ||| n % 256 = 128 + n % 128 := by
    have h2 : n % 128 = n % 256 % 128 := by omega
    rw [h2]
    exact (by decide +kernel : ∀ m : Fin 256, 128 ||| m.val = 128 + m.val % 128) ⟨n % 256, Nat.mod_lt _ (by decide)⟩
  rw [e]; omega

set_option maxHeartbeats 400000 in
theorem var_any (N : Nat) (w : World) (hN : N < topN) :
    Calls Tryd.prog 32 #[.int .u64 N] w fun e w' => e = .returned (.string ⟨(sev N).toArray⟩) ∧ Keeps w w' := by
  obtain ⟨L, hL⟩ : ∃ L, (sev N).length = L + 1 := ⟨(sev N).length - 1, by have := sev_pos N; omega⟩
  have h10 := sev_le hN
  have hL9 : L ≤ 9 := by omega
  have HL := Lib.hid hL
  have HN := Lib.hid hN
  have HV := Lib.hid (sev_last hN hL)
  have hl1 : ((sev N).length : Int) - 1 = L := by omega
  have hl2 : wrap64 (((sev N).length : Int) - 1) = L := by rw [i64w (by unfold top; omega) (by unfold top; omega)]; omega
  clear hL hN h10
  obtain ⟨i0, hi, hz0, hz1, hz2⟩ := info_parts info_u8
  go_enter Tryd.func32, Tryd.ntmps32
  go_wp2_with (first | (go_at_call 49; refine (sevens_any _ _ HN.out).mono ?_; rintro e w' ⟨rfl, rfl⟩) | (at_make; refine wpList_make_full _ rfl (.tmp 10) (.tmp 10) 50 rfl w.heap.size 5 i0 (.int .u8 0) 1 Tryd.underlying50 hi hz0 hz1 .i64 .i64 _ _ (L + 1) rfl rfl rfl rfl (by rw [hz2]; omega) (by unfold maxLen; omega) (Nat.le_refl _) ?_; intro w1 hown hgrow))
  have hnx : Below w.heap.size w w1 := (Below.refl _ _).grown hgrow (Nat.le_refl _) (by intro k h; cases h)
  have hown0 : w1.ownsRow w.heap.size 5 1 (.slice (some ⟨w.heap.size, 0, none⟩) (L + 1) (L + 1)) (L + 1) ((ups 0 N).map bv ++ List.replicate (L + 1) (Value.int .u8 0)) := by
    have e : (madeCells (Value.int .u8 0).cells ((L + 1) * 1)).toList = (ups 0 N).map bv ++ List.replicate (L + 1) (Value.int .u8 0) := by
      rw [Nat.mul_one, show (Value.int .u8 0).cells = #[Value.int .u8 0] from rfl, toList_madeCells_one]; simp [ups]
    rw [← e]; exact hown
  clear hown hgrow hl1 hl2
  go_loopw [0, 13] (fun n i wr => ∃ k M : Nat, k ≤ L ∧ i = .int .i64 k ∧ n = .int .u64 M ∧ M = N / 128 ^ k ∧ Below w.heap.size w wr ∧
      wr.ownsRow w.heap.size 5 1 (.slice (some ⟨w.heap.size, 0, none⟩) (L + 1) (L + 1)) (L + 1) ((ups k N).map bv ++ List.replicate (L + 1 - k) (Value.int .u8 0)))
    (fun _ i _ => L - (intOf i).toNat)
  case atStart => exact ⟨0, N, Nat.zero_le _, rfl, rfl, by simp, hnx, hown0⟩
  case round =>
    obtain ⟨k, M, hk, rfl, rfl, hM, hb, ho⟩ := hrel
    clear hown0 hnx
    have HM := Lib.hid hM
    clear hM
    have hc : wr.cell? ⟨w.heap.size, k, none⟩ = some (.int .u8 0) := by
      have h := ahead_at (Value.int .u8 0) ((ups k N).map bv) (L - k)
      rw [List.length_map, ups_length, show L - k + 1 = L + 1 - k from by omega] at h
      rw [ho.cellAt _ (by omega)]; exact h
    have hf := ho.frozenAt k
    have HO := Lib.hid ho
    have HB := Lib.hid hb
    have HOR := Lib.hid (or128 M)
    clear ho hb
    have st : ∀ v, ((ups k N).map bv ++ List.replicate (L + 1 - k) (Value.int .u8 0)).set k v = (ups k N).map bv ++ [v] ++ List.replicate (L - k) (Value.int .u8 0) := by
      intro v
      have h := ahead_step (Value.int .u8 0) v ((ups k N).map bv) (L - k)
      rw [List.length_map, ups_length, show L - k + 1 = L + 1 - k from by omega] at h
      exact h
    have ST := Lib.hid st
    clear st
    by_cases hlt : k < L
    · go_wp2
      go_roundw
      case rel =>
        have e := HOR.out
        have s := (HO.out.stored k (Value.int .u8 (bits .or .u8 ((M : Int) % 256) 128))).1
        rw [ST.out] at s
        refine ⟨k + 1, M / 128, by omega, by go_num, vint (by omega), ?_, HB.out.setCell (Nat.le_refl _) _, ?_⟩
        · rw [HM.out, Nat.pow_succ, Nat.div_div_eq_div_mul]
        · rw [ups, List.map_append, List.map_cons, List.map_nil, ← HM.out, bv_hi, ← e, show L + 1 - (k + 1) = L - k from by omega]
          exact s
      case measure => simp [intOf]; omega
    · obtain rfl : k = L := by omega
      have hcv := loaded_string (wr.setCell ⟨w.heap.size, k, none⟩ (Value.int .u8 ((M : Int) % 256))) 50 5 Tryd.underlying50 Tryd.underlying5 w.heap.size (k + 1) (k + 1) (ups k N ++ [b8 M]) (by simp [ups_length]) (fun i hi => by
        have s := (HO.out.stored k (Value.int .u8 ((M : Int) % 256))).1
        rw [ST.out, Nat.sub_self] at s
        rw [s.cellAt i (by omega)]; simp [bv_b8]) 9 Tryd.underlying9
      go_wp2
      go_ret
      exact ⟨ret_str (by rw [HV.out, ← HM.out]), HB.out.setCell (Nat.le_refl _) _⟩

theorem and1w (n : Nat) (h : n < topN) : bits .and .u64 (n : Int) 1 = ((n % 2 : Nat) : Int) := by
  have ht : topN = 18446744073709551616 := rfl
  rw [u64_and _ _ (by omega) (by omega) (by omega) (by omega), Int.toNat_natCast, show (1 : Int).toNat = 1 from rfl, nat_mask1]

end Go.Proofs.YtomonhghioamfaaDoor
namespace Go.Proofs.YtomonhghioamfaaDoor
open Go.ChangeShapes Go.WideShapes Go.ChangeAt Go.RowKit Bit

theorem keeps_drewN {w w' : World} (h : Keeps w w') (n : Nat) : Keeps w (w'.drewN n) := Below.trans h ⟨rfl, rfl, rfl, Nat.le_refl _, fun _ _ => rfl⟩
theorem ret3 {k : IntKind} {a b : Int} {s t : ByteArray} {c d : Bool} (h : a = b) (g : s = t) (f : c = d) : Ending.returned (.tuple #[.int k a, .string s, .bool c]) = .returned (.tuple #[.int k b, .string t, .bool d]) := by rw [h, g, f]
theorem ret3s {a b : ByteArray} {s t : ByteArray} {c d : Bool} (h : a = b) (g : s = t) (f : c = d) : Ending.returned (.tuple #[.string a, .string s, .bool c]) = .returned (.tuple #[.string b, .string t, .bool d]) := by rw [h, g, f]

set_option maxRecDepth 100000 in
set_option maxHeartbeats 4000000 in
theorem read_any (s : ByteArray) (w : World) (hs : s.size ≤ maxLen) :
    Calls Tryd.prog 36 #[.string s] w fun e w' => e = .returned (.tuple #[.int .u64 (rdV s.data.toList), .string ⟨(rdR s.data.toList).toArray⟩, .bool (rdB s.data.toList)]) ∧ Keeps w w' := by
  unfold maxLen at hs
  go_enter Tryd.func36, Tryd.ntmps36
  go_wp2
  all_goals
    go_loop [2, 9] (fun n i => ∃ k : Nat, k ≤ s.size ∧ k ≤ 10 ∧ i = .int .i64 k ∧ n = .int .u64 (lo (s.data.toList.take k) % topN : Nat) ∧ (∀ c, c ∈ s.data.toList.take k → isHi c = true)) (fun _ i => s.size - (intOf i).toNat)
    case atStart => exact ⟨0, Nat.zero_le _, Nat.zero_le _, rfl, rfl, by simp⟩
    case round =>
      obtain ⟨k, hk, hk10, rfl, rfl, hall⟩ := hrel
      have HA := Lib.hid hall
      clear hall
      by_cases hlt : k < s.size ∧ k < 10
      · obtain ⟨hl1, hl2⟩ := hlt
        have hts := Lib.hid (take_snoc s k hl1)
        have hsn := Lib.hid (lo_snoc (s.data.toList.take k) s[k])
        have hlen : (s.data.toList.take k).length = k := by rw [List.length_take, len_data]; omega
        have hor := or_step (s.data.toList.take k) s[k].toNat k (by omega) (by omega) (u8_lt _)
        obtain ⟨V, hV⟩ : ∃ V, V = (lo (s.data.toList.take k) + s[k].toNat % 128 * 128 ^ k) % topN := ⟨_, rfl⟩
        rw [← hV] at hor
        have HV := Lib.hid (show V = lo (s.data.toList.take (k + 1)) % topN from by rw [hV, hts.out, hsn.out, hlen])
        have HVT := Lib.hid (show V < topN from by rw [hV]; exact Nat.mod_lt _ (by decide))
        clear hV hlen
        by_cases hh : 128 ≤ (s[k].toNat : Int)
        · go_wp2
          go_round
          case rel =>
            refine ⟨k + 1, by omega, by omega, by go_num, vint (by rw [HV.out]), ?_⟩
            rw [hts.out]
            intro c hc
            rcases List.mem_append.1 hc with h | h
            · exact HA.out c h
            · rw [List.mem_singleton.1 h]; unfold isHi; exact decide_eq_true (by omega)
          case measure => simp [intOf]; omega
        · have HK := Lib.hid (rd_at HA.out (by rw [len_data]; exact hl1) (show isHi s[k] = false from by unfold isHi; exact decide_eq_false (by omega)))
          have hw1 : IntKind.i64.wrap ((k : Int) + 1) = (k : Int) + 1 := IntWalk.i64_in _ (by omega)
          have hb0 : 0 ≤ (k : Int) + 1 := by omega
          have hb1 : ((k : Int) + 1).toNat = k + 1 := by omega
          have he : (s.extract 0 (k + 1)).toList = s.data.toList.take (k + 1) := by rw [extract_list]; simp
          have HE := Lib.hid (extract_end s (k + 1))
          cases ht : (sev V == (s.extract 0 (k + 1)).toList)
          · have H := Lib.hid (rd_odd HK.out (by rw [he] at ht; have hv := HV.out; simpa [hv] using ht))
            clear he
            go_wp2_with (go_region_with (go_at_call 32; refine (var_any _ _ HVT.out).mono ?_; rintro e w' ⟨rfl, hk⟩))
            all_goals
              go_ret3
              refine ⟨ret3 (by rw [H.out.2.1]; rfl) (by rw [H.out.2.2]) H.out.1.symm, ?_⟩
              first | exact Keeps.trans ((Below.refl _ _).drew) hk | exact hk.drew
          · have H := Lib.hid (rd_yes HK.out (by rw [len_data]; exact hl1) (by omega) (by rw [he] at ht; have hv := HV.out; simpa [hv] using ht))
            clear he
            go_upto_region 7 with (go_region_with (go_at_call 32; refine (var_any _ _ HVT.out).mono ?_; rintro e w' ⟨rfl, hk⟩))
            all_goals (go_quiet (fail); go_wp2)
            all_goals
              go_ret3
              refine ⟨ret3 (a := (V : Int)) (s := s.extract (k + 1) s.size) (c := true) (by rw [H.out.2.1, HV.out]) (by rw [H.out.2.2, HE.out]) H.out.1.symm, ?_⟩
              exact keeps_drewN (Keeps.trans ((Below.refl _ _).drew) hk) _
      · first | have hge : s.size ≤ k := by omega | have hge : 10 ≤ k := by omega
        have H := Lib.hid (rd_none (k := k) HA.out (by simpa using hk) (by simp; omega))
        clear hlt
        go_wp2
        go_ret3
        exact ⟨ret3 (by rw [H.out.2.1]; rfl) (by rw [H.out.2.2]) H.out.1.symm, Keeps.refl _⟩
end Go.Proofs.YtomonhghioamfaaDoor
