
/- The contract of the statements' bent. -/
import Derived.Test.YtblmhdciogfinaaSumsLaws2
import Derived.Test.YtblmhdciogfinaaLies
set_option linter.unusedVariables false
namespace Go.Proofs.Ytblmhdciogfinaa
open Go.ChangeShapes Go.WideShapes Go.ChangeAt Go.RowKit Bit Crc

theorem set_at {α : Type} (D : List α) (c v : α) (R : List α) : (D ++ c :: R).set D.length v = (D ++ [v]) ++ R := by
  rw [List.set_append_right _ _ (Nat.le_refl _), Nat.sub_self]; simp
theorem get_at {α : Type} (D : List α) (c : α) (R : List α) (h : D.length < (D ++ c :: R).length) : (D ++ c :: R)[D.length] = c := by
  rw [List.getElem_append_right (Nat.le_refl _)]; simp
theorem x8 (c d : UInt8) : bits .xor .u8 (c.toNat : Int) (d.toNat : Int) = ((c ^^^ d).toNat : Int) := by
  rw [u8_xor_nat _ _ (u8_lt c) (u8_lt d), UInt8.toNat_xor]

def BentRel (w : World) (g : Nat) (l T : List UInt8) (x i : Value) (wr : World) : Prop := ∃ (k n : Nat) (D R : List UInt8), i = .int .i64 k ∧ x = .int .u32 n ∧ n < two32 ∧ k ≤ 4611686018427387904 ∧
  (k < l.length → D.length = k) ∧ (l.length ≤ k → R = []) ∧ D.length + R.length = l.length ∧ D ++ bend R n = T ∧ Lies wr g (D ++ R) ∧ Keeps w wr

set_option maxRecDepth 100000 in
set_option maxHeartbeats 2000000 in
theorem bent_any (s : ByteArray) (A N : Nat) (w : World) (hs : s.size ≤ 140737488351232) (hA : A ≤ 1000000) (hN : N < two32) :
    Calls Try.prog 16 #[.string s, .int .i64 A, .int .u32 N] w fun e w' => e = .returned (.string ⟨(bentL s.data.toList A N).toArray⟩) ∧ Keeps w w' := by
  have HN := Lib.hid hN
  obtain ⟨cap, w1, hr, hcap, hk1, hl1, hlt1⟩ := bytes_lie w s
  have K1 := Lib.hid hk1
  have L1 := Lib.hid hl1
  clear hN hk1 hl1
  go_enter Try.func16, Try.ntmps16
  go_wp2
  clear hr
  go_loopw [2, 8] (fun x i wr => BentRel w w.heap.size s.data.toList (bentL s.data.toList A N) x i wr) (fun _ i _ => s.size - (intOf i).toNat)
  case atStart =>
    refine ⟨A, N, s.data.toList.take A, s.data.toList.drop A, rfl, rfl, HN.out, by omega, fun h => by rw [List.length_take]; omega, fun h => List.drop_eq_nil_of_le h, ?_, rfl, ?_, K1.out⟩
    · rw [← List.length_append, List.take_append_drop]
    · rw [List.take_append_drop]; exact L1.out
  case round =>
    obtain ⟨k, n, D, R, rfl, rfl, hn, hk, hD, hR, hlen, hT, hl, hkw⟩ := hrel
    rw [len_data] at hD hR hlen
    have KW := Lib.hid hkw
    have HL := Lib.hid hl
    have HT := Lib.hid hT
    have HN2 := Lib.hid hn
    clear hkw hl hT hn L1 K1
    by_cases h0 : n = 0
    · subst h0
      have hT2 := HT.out
      rw [bend_zero] at hT2
      have hcv := HL.out.text (P := Try.prog) 32 5 9 Try.underlying32 Try.underlying5 Try.underlying9 s.size cap (by rw [List.length_append]; exact hlen)
      have HT2 := Lib.hid hT2
      clear hT2 hD hR hlen
      go_wp2
      go_ret
      exact ⟨ret_str (by rw [HT2.out]), KW.out⟩
    · have h1 : ((n : Int) == 0) = false := beq_eq_false_iff_ne.2 (by omega)
      have h2 : ((n : Int) != 0) = true := by simp; omega
      by_cases hlt : k < s.size
      · have hDk := hD hlt
        obtain ⟨c, R', rfl⟩ : ∃ c R', R = c :: R' := by
          cases R with
          | nil => simp at hlen; omega
          | cons c R' => exact ⟨c, R', rfl⟩
        have hin : k < (D ++ c :: R').length := by rw [List.length_append]; omega
        have hg : (D ++ c :: R')[k] = c := by subst hDk; exact get_at D c R' hin
        have hc : wr.cell? ⟨w.heap.size, k, none⟩ = some (.int .u8 c.toNat) := by rw [HL.out.at k hin, hg]
        have hf : wr.frozen? ⟨w.heap.size, k, none⟩ = false := HL.out.loose k hin
        have hTT := HT.out
        rw [bend, if_neg h0] at hTT
        have HTT := Lib.hid hTT
        have HD := Lib.hid hDk
        have HI := Lib.hid hin
        have HLEN := Lib.hid hlen
        clear hD hR hlen hg hDk hin hTT
        go_wp2
        go_roundw
        case rel =>
          have hst := fun v hv => HL.out.set k HI.out v (c ^^^ b8 n) hv
          have hl0 := HD.out
          subst hl0
          rw [set_at] at hst
          have hlen := HLEN.out
          simp only [List.length_cons] at hlen
          refine ⟨D.length + 1, n / 256, D ++ [c ^^^ b8 n], R', by go_num, vint (by omega), ?_, by omega, fun _ => by simp, fun h => List.eq_nil_of_length_eq_zero (by rw [len_data] at h; omega), by rw [len_data, List.length_append]; simp; omega, by rw [← HTT.out]; simp, hst _ ?_, ?_⟩
          · have := HN2.out; unfold two32 at this ⊢; omega
          · rw [← x8, b8_toNat]; rfl
          · exact KW.out.setCell (Nat.le_refl _) _
        case measure => simp [intOf]; omega
      · have hR0 := hR (by omega)
        subst hR0
        have hcv := HL.out.text (P := Try.prog) 32 5 9 Try.underlying32 Try.underlying5 Try.underlying9 s.size cap (by rw [List.length_append]; exact hlen)
        clear hD hR hlen
        go_wp2
        go_ret
        exact ⟨ret_str (by rw [← HT.out]; simp [bend]), KW.out⟩
end Go.Proofs.Ytblmhdciogfinaa
