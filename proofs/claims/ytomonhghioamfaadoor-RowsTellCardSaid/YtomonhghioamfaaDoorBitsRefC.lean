
/- The contracts of the document's Put, Get, Var, Sign, Back, Text (layer 2). -/
import Derived.Test.YtomonhghioamfaaDoorBitsReadC
set_option linter.unusedVariables false
namespace Go.Proofs.YtomonhghioamfaaDoor
open Go.ChangeShapes Go.WideShapes Go.ChangeAt Go.RowKit Bit

theorem u64_div {n k : Nat} (h : n < topN) : IntKind.u64.wrap ((n : Int) / k) = ((n / k : Nat) : Int) := by
  have := Nat.div_le_self n k
  rw [← Int.natCast_ediv, u64w (Int.natCast_nonneg _) (by omega)]
theorem byte_sum (n c : Nat) (h : n * 256 < topN) (hc : c < 256) : IntKind.u64.wrap (IntKind.u64.wrap ((n : Int) * 256) + IntKind.u64.wrap (c : Int)) = ((n * 256 + c : Nat) : Int) := by
  have ht : topN = 18446744073709551616 := rfl
  rw [u64w (n := (n : Int) * 256) (by omega) (by omega), u64w (n := (c : Int)) (by omega) (by omega), u64w (by omega) (by omega)]; omega
theorem be_front1 (k N : Nat) : (⟨#[b8 (N / 256 ^ k)]⟩ : ByteArray) ++ ⟨(be k N).toArray⟩ = ⟨(be (k + 1) N).toArray⟩ := by
  rw [be_front]; exact ByteArray.mk_append_mk [_] _
theorem hi_front1 (n : Nat) (l : List UInt8) : (⟨#[hi n]⟩ : ByteArray) ++ ⟨l.toArray⟩ = ⟨(hi n :: l).toArray⟩ := ByteArray.mk_append_mk [_] _
theorem b8_val (n : Nat) : (n : Int) % 256 = (b8 n).toNat := by rw [b8_toNat]; rfl
theorem hi_val (n : Nat) : (n : Int) % 128 + 128 = (hi n).toNat := by rw [hi_toNat]; rfl
theorem bcell {W w1 : World} (hb : Below W.heap.size W w1) : (∀ b o, b < W.heap.size → w1.cell? ⟨b, o, none⟩ = W.cell? ⟨b, o, none⟩) ∧ (∀ b o, b < W.heap.size → w1.frozen? ⟨b, o, none⟩ = W.frozen? ⟨b, o, none⟩) :=
  ⟨fun b o h => hb.cell (p := ⟨b, o, none⟩) h, fun b o h => hb.frozen (p := ⟨b, o, none⟩) h⟩
/-- One byte of a row, as a text, wherever it lies. -/
theorem byte_any {P : Program} (src e : TypeId) (hs : P.underlying src = some (.slice e)) (he : P.underlying e = some (.int .u8)) (v : Int) (c : UInt8) (hv : v = c.toNat) (dst : TypeId) (hd : P.underlying dst = some .string) :
    ∀ (w : World) (b : Nat), w.cell? ⟨b, 0, none⟩ = some (Value.int .u8 v) → (convert src dst (.slice (some ⟨b, 0, none⟩) 1 1)).run P w = .ok (.string ⟨#[c]⟩) w := by
  intro w b hc
  exact loaded_string (P := P) w src e hs he b 1 1 [c] rfl (fun i hi => by
    obtain rfl : i = 0 := by omega
    rw [hc, hv]; rfl) dst hd

set_option maxRecDepth 100000 in
set_option maxHeartbeats 1000000 in
theorem rvar_any : ∀ (f N : Nat) (w : World), N < topN → (sev N).length ≤ f →
    Calls Tryd.prog 35 #[.int .u64 N] w fun e w' => e = .returned (.string ⟨(sev N).toArray⟩) ∧ Keeps w w'
  | 0, N, w, hN, hf => by have := sev_pos N; omega
  | f + 1, N, w, hN, hf => by
    by_cases h : N < 128
    · have H := Lib.hid (sev_small h)
      have hcv := byte_any (P := Tryd.prog) 50 5 Tryd.underlying50 Tryd.underlying5 _ _ (b8_val N) 9 Tryd.underlying9
      have hm : (N : Int) % 256 = N := by omega
      rw [hm] at hcv
      clear hm hf hN
      go_enter Tryd.func35, Tryd.ntmps35
      go_wp2
      go_ret
      exact ⟨ret_str (by rw [H.out]), (Below.refl _ _).alloc (Nat.le_refl _) _⟩
    · have hstep := sev_lenstep hN (by omega)
      have H := Lib.hid (sev_step hN (by omega))
      have hq : ((N / 128 : Nat) : Int) = (N : Int) / 128 := by omega
      have hw1 : ((N : Int)).tmod 128 = (N : Int) % 128 := Int.tmod_eq_emod_of_nonneg (by omega)
      have hw2 : IntKind.u8.wrap ((N : Int) % 128) = (N : Int) % 128 := wraps_u8 _ (by omega) (by omega)
      have hw3 : IntKind.u8.wrap ((N : Int) % 128 + 128) = (N : Int) % 128 + 128 := wraps_u8 _ (by omega) (by omega)
      have hw4 : IntKind.u64.wrap ((N : Int) / 128) = (N : Int) / 128 := (u64_div (k := 128) hN).trans hq
      have IH0 := fun w => rvar_any f (N / 128) w (div_top _ hN) (by omega)
      rw [hq] at IH0
      have IH := Lib.hid IH0
      clear IH0 hq
      have hle := sev_le (div_top 128 hN)
      have hcv := byte_any (P := Tryd.prog) 50 5 Tryd.underlying50 Tryd.underlying5 _ _ (hi_val N) 9 Tryd.underlying9
      have hsz : (⟨(sev (N / 128)).toArray⟩ : ByteArray).size ≤ 10 := by rw [size_mk]; exact hle
      have HN := Lib.hid hN
      clear hf hN hstep
      go_enter Tryd.func35, Tryd.ntmps35
      go_wp2_with (go_region_with (go_at_call 35; (with_reducible refine (IH.out _).mono ?_); rintro e w' ⟨rfl, hk⟩; obtain ⟨hc, hf⟩ := bcell hk))
      all_goals go_ret
      all_goals refine ⟨ret_str (by rw [H.out]; exact hi_front1 _ _), ?_⟩
      all_goals first
        | exact Keeps.trans (((Below.refl _ _).alloc (Nat.le_refl _) _).drew) hk
        | exact (Keeps.trans ((Below.refl _ _).drew) hk).alloc (Keeps.trans ((Below.refl _ _).drew) hk).size _

theorem rvar_any' (N : Nat) (w : World) (hN : N < topN) :
    Calls Tryd.prog 35 #[.int .u64 N] w fun e w' => e = .returned (.string ⟨(sev N).toArray⟩) ∧ Keeps w w' :=
  rvar_any _ N w hN (Nat.le_refl _)

end Go.Proofs.YtomonhghioamfaaDoor
