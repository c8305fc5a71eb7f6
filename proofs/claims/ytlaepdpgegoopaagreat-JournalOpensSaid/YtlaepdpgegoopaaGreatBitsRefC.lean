
/- The contracts of the document's Put, Get, Var, Sign, Back, Text (layer 2). -/
import Derived.Test.YtlaepdpgegoopaaGreatBitsReadC
set_option linter.unusedVariables false
namespace Go.Proofs.YtlaepdpgegoopaaGreat
open Go.ChangeShapes Go.WideShapes Go.ChangeAt Go.RowKit Bit

theorem u64_div {n k : Nat} (h : n < topN) : IntKind.u64.wrap ((n : Int) / k) = ((n / k : Nat) : Int) := by
  have := Nat.div_le_self n k
  rw [← Int.natCast_ediv, u64w (Int.natCast_nonneg _) (by omega)]
theorem byte_sum (n c : Nat) (h : n * 256 < topN) (hc : c < 256) : IntKind.u64.wrap (IntKind.u64.wrap ((n : Int) * 256) + IntKind.u64.wrap (c : Int)) = ((n * 256 + c : Nat) : Int) := by
  have ht : topN = 18446744073709551616 := rfl
  rw [u64w (n := (n : Int) * 256) (by omega) (by omega), u64w (n := (c : Int)) (by omega) (by omega), u64w (by omega) (by omega)]; omega
theorem be_front1 (k N : Nat) : (⟨#[b8 (N / 256 ^ k)]⟩ : ByteArray) ++ ⟨(be k N).toArray⟩ = ⟨(be (k + 1) N).toArray⟩ := by
  rw [be_front]; exact ByteArray.mk_append_mk [_] _
theorem hi_front1 (n : Nat) (l : List UInt8) : (⟨#[hi n]⟩ : ByteArray) ++ ⟨l.toArray⟩ = ⟨(hi n :: l).toArray⟩ := ByteArray.mk_append_mk [_] _
theorem b8_val (n : Nat) : (n : Int) % 256 = (b8 n).toNat := by rw [b8_toNat]; rfl
theorem hi_val (n : Nat) : (n : Int) % 128 + 128 = (hi n).toNat := by rw [hi_toNat]; rfl
theorem bcell {W w1 : World} (hb : Below W.heap.size W w1) : (∀ b o, b < W.heap.size → w1.cell? ⟨b, o, none⟩ = W.cell? ⟨b, o, none⟩) ∧ (∀ b o, b < W.heap.size → w1.frozen? ⟨b, o, none⟩ = W.frozen? ⟨b, o, none⟩) :=
  ⟨fun b o h => hb.cell (p := ⟨b, o, none⟩) h, fun b o h => hb.frozen (p := ⟨b, o, none⟩) h⟩
/-- One byte of a row, as a text, wherever it lies. -/
theorem byte_any {P : Program} (src e : TypeId) (hs : P.underlying src = some (.slice e)) (he : P.underlying e = some (.int .u8)) (v : Int) (c : UInt8) (hv : v = c.toNat) (dst : TypeId) (hd : P.underlying dst = some .string) :
    ∀ (w : World) (b : Nat), w.cell? ⟨b, 0, none⟩ = some (Value.int .u8 v) → (convert src dst (.slice (some ⟨b, 0, none⟩) 1 1)).run P w = .ok (.string ⟨#[c]⟩) w := by
  intro w b hc
  exact loaded_string (P := P) w src e hs he b 1 1 [c] rfl (fun i hi => by
    obtain rfl : i = 0 := by omega
    rw [hc, hv]; rfl) dst hd

set_option maxHeartbeats 400000 in
theorem rput_any (N : Nat) (S : Int) (w : World) (hN : N < topN) :
    Calls Tryz.prog 73 #[.int .u64 N, .int .i64 S] w fun e w' => e = .returned (.string ⟨(putL N S).toArray⟩) ∧ Keeps w w' := by
  have HN := Lib.hid hN
  clear hN
  rcases (show S < 1 ∨ 8 < S ∨ (1 ≤ S ∧ S ≤ 8) from by omega) with h | h | h
  · have H := Lib.hid (put_no (n := N) (Or.inl h))
    go_enter Tryz.func73, Tryz.ntmps73
    go_wp2
    go_ret
    exact ⟨by rw [H.out]; rfl, Keeps.refl _⟩
  · have H := Lib.hid (put_no (n := N) (Or.inr h))
    go_enter Tryz.func73, Tryz.ntmps73
    go_wp2
    go_ret
    exact ⟨by rw [H.out]; rfl, Keeps.refl _⟩
  obtain ⟨h1, h8⟩ := h
  obtain ⟨W, rfl⟩ := Int.eq_ofNat_of_zero_le (show 0 ≤ S by omega)
  have H := Lib.hid (put_be (n := N) (k := W) (by omega) (by omega))
  go_enter Tryz.func73, Tryz.ntmps73
  go_wp2
  go_loopw [0, 5, 6] (fun n s i wr => ∃ k M : Nat, k ≤ W ∧ i = .int .i64 k ∧ n = .int .u64 M ∧ s = .string ⟨(be k N).toArray⟩ ∧ M = N / 256 ^ k ∧ Below w.heap.size w wr)
    (fun _ _ i _ => W - (intOf i).toNat)
  case atStart => exact ⟨0, N, Nat.zero_le _, rfl, rfl, rfl, by simp, Below.refl _ _⟩
  case round =>
    obtain ⟨k, M, hk, rfl, rfl, rfl, hM, hb⟩ := hrel
    have HM := Lib.hid hM
    have HB := Lib.hid hb
    have hl : (be k N).length ≤ 8 := by rw [be_length]; omega
    clear hM hb
    by_cases hlt : k < W
    · have hcv := byte_string (P := Tryz.prog) wr 51 5 Tryz.underlying51 Tryz.underlying5 _ _ (b8_val M) 9 Tryz.underlying9
      go_wp2
      go_roundw
      case rel =>
        refine ⟨k + 1, M / 256, by omega, by go_num, vint (u64_div (by rw [HM.out]; exact div_top _ HN.out)), vstr ?_, ?_, HB.out.alloc HB.out.size _⟩
        · rw [← be_front1, HM.out]
        · rw [HM.out, Nat.pow_succ, Nat.div_div_eq_div_mul]
      case measure => simp [intOf]; omega
    · obtain rfl : k = W := by omega
      go_wp2
      go_ret
      exact ⟨ret_str (by rw [H.out]), HB.out⟩

set_option maxHeartbeats 400000 in
theorem rget_any (s : ByteArray) (w : World) (hs : s.size ≤ maxLen) :
    Calls Tryz.prog 85 #[.string s] w fun e w' => e = .returned (.int .u64 (getN s.data.toList)) ∧ w = w' := by
  unfold maxLen at hs
  go_enter Tryz.func85, Tryz.ntmps85
  go_wp2
  go_loop [3, 4] (fun n i => ∃ k : Nat, k ≤ s.size ∧ k ≤ 8 ∧ i = .int .i64 k ∧ n = .int .u64 (beN (s.data.toList.take k) : Nat)) (fun _ i => s.size - (intOf i).toNat)
  case atStart => exact ⟨0, Nat.zero_le _, Nat.zero_le _, rfl, rfl⟩
  case round =>
    obtain ⟨k, hk, hk8, rfl, rfl⟩ := hrel
    by_cases hlt : k < s.size ∧ k < 8
    · obtain ⟨hl1, hl2⟩ := hlt
      have hsn := Lib.hid (beN_snoc (s.data.toList.take k) s[k])
      have hts := Lib.hid (take_snoc s k hl1)
      have HS := Lib.hid (beN_take_small s.data.toList hl2)
      go_wp2
      go_round
      case rel =>
        refine ⟨k + 1, by omega, by omega, by go_num, vint ?_⟩
        rw [hts.out, hsn.out]
        exact byte_sum _ _ HS.out (u8_lt _)
      case measure => simp [intOf]; omega
    · have e : s.data.toList.take k = s.data.toList.take 8 := by
        by_cases h : k = 8
        · rw [h]
        · rw [List.take_of_length_le (by rw [len_data]; omega), List.take_of_length_le (by rw [len_data]; omega)]
      have E := Lib.hid e
      clear e
      rcases (show s.size ≤ k ∨ (k < s.size ∧ 8 ≤ k) from by omega) with hge | ⟨hg1, hge⟩
      all_goals
        clear hlt
        go_wp2
        go_ret
        exact ⟨ret_int (by rw [E.out]; rfl), rfl⟩

end Go.Proofs.YtlaepdpgegoopaaGreat
