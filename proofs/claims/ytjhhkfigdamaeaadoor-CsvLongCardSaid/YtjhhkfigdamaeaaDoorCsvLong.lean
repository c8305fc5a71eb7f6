
/- The law CsvLong, walked. -/
import Derived.Test.YtjhhkfigdamaeaaDoorCsvLaws
import Derived.Test.YtjhhkfigdamaeaaDoorLies
set_option linter.unusedVariables false
namespace Go.Proofs.YtjhhkfigdamaeaaDoor
open Go.ChangeShapes Go.WideShapes Go.ChangeAt Go.RowKit Go.Shelf Go.Proofs Csv

theorem u8_of {n : Int} (h : (Lit.int .u8 n).wf = true) : ∃ c : UInt8, n = (c.toNat : Int) := by
  simp only [Lit.wf, IntKind.min, IntKind.max, IntKind.signed, IntKind.bits, Bool.and_eq_true] at h
  refine ⟨UInt8.ofNat n.toNat, ?_⟩
  simp at h ⊢
  omega
theorem fill_step (k n : Nat) (c : UInt8) (h : k < n) : (List.replicate k c ++ List.replicate (n - k) 0).set k c = List.replicate (k + 1) c ++ List.replicate (n - (k + 1)) 0 := by
  rw [List.set_append_right _ _ (by simp)]
  obtain ⟨d, hd⟩ : ∃ d, n - k = d + 1 := ⟨n - k - 1, by omega⟩
  rw [hd, show n - (k + 1) = d from by omega, List.replicate_succ, List.length_replicate, Nat.sub_self, List.set_cons_zero, List.replicate_succ', List.append_assoc]; rfl

set_option maxHeartbeats 2000000 in
theorem csvLong_go (a b : Int) (w : World) (ha : (Lit.int .u8 a).wf = true) (hb : (Lit.int .u8 b).wf = true) (hm : HasMax w) :
    Calls Tryd.prog 7 #[.int .u8 a, .int .u8 b] w fun e w' => e = .returned (.bool true) ∧ Keeps w w' := by
  obtain ⟨A, rfl⟩ := u8_of ha
  obtain ⟨c, rfl⟩ := u8_of hb
  have hA := A.toNat_lt
  obtain ⟨n, hn⟩ : ∃ n, 65537 + A.toNat = n := ⟨_, rfl⟩
  have hN : (65537 : Int) + (A.toNat : Int) = (n : Int) := by omega
  have hn1 : 65537 ≤ n := by omega
  have hn2 : n ≤ 65793 := by omega
  have hmk := make_zrow n (by omega)
  have HM := Lib.hid hm
  have HL := Lib.hid (lies_zrow w n)
  clear ha hb hn hm
  go_enter Tryd.func7, Tryd.ntmps7
  go_wp2
  clear hmk
  go_loopw [6] (fun i wx => ∃ k : Nat, k ≤ n ∧ i = .int .i64 k ∧ Lies wx w.heap.size (List.replicate k c ++ List.replicate (n - k) 0) ∧ Keeps w wx) (fun i _ => n - (intOf i).toNat)
  case atStart => exact ⟨0, by omega, rfl, by simpa using HL.out, keepsA (Keeps.refl _) _⟩
  case round =>
    obtain ⟨k, hk, rfl, hl, hkp⟩ := hrel
    have HLI := Lib.hid hl
    have HK := Lib.hid hkp
    clear hl hkp
    by_cases hlt : k < n
    · have hlen : (List.replicate k c ++ List.replicate (n - k) 0).length = n := by simp; omega
      obtain ⟨V, hc1⟩ : ∃ V : Int, wr.cell? ⟨w.heap.size, k, none⟩ = some (.int .u8 V) := ⟨_, HLI.out.at k (by omega)⟩
      have hc2 := HLI.out.loose k (by omega)
      have hlt2 : (k : Int) < (n : Int) := by omega
      have HLN := Lib.hid hlen
      clear hlen
      go_wp2
      go_roundw
      case rel =>
        refine ⟨k + 1, by omega, by go_num, ?_, HK.out.setCell (Nat.le_refl _) _⟩
        rw [← fill_step k n c hlt]
        exact HLI.out.set k (by rw [HLN.out]; exact hlt) _ c rfl
      case measure => simp [intOf]; omega
    · obtain rfl : k = n := by omega
      have htx := HLI.out.text (P := Tryd.prog) 35 5 9 Tryd.underlying35 Tryd.underlying5 Tryd.underlying9 k k (by simp)
      obtain ⟨S, hS⟩ : ∃ S : ByteArray, (⟨(List.replicate k c ++ List.replicate (k - k) 0).toArray⟩ : ByteArray) = S := ⟨_, rfl⟩
      rw [hS] at htx
      have hsz : S.size = k := by rw [← hS, size_mk]; simp
      have cb := bad_long S wr (by omega) (by unfold maxLen; omega)
      clear hS hsz
      go_wp2_with fail
      refine cb.mono ?_
      rintro e w2 ⟨rfl, hk2⟩
      have HK2 := Lib.hid (Keeps.trans HK.out hk2)
      have cr := rowed_yes w2 (HM.out.keeps HK2.out)
      clear hk2 cb
      go_wp2_with (go_at_call 9; refine cr.mono ?_; rintro e w4 ⟨rfl, hk4⟩)
      go_ret
      exact ⟨rfl, Keeps.trans HK2.out hk4⟩
end Go.Proofs.YtjhhkfigdamaeaaDoor
