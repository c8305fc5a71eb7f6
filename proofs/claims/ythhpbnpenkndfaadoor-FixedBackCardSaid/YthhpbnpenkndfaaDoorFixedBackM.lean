
/- The law FixedBack: its mathematics, and the contract of clean. -/
import Derived.Test.YthhpbnpenkndfaaDoorFixedLaws
import Derived.Test.YthhpbnpenkndfaaDoorOpenArgs
import Derived.Test.YthhpbnpenkndfaaDoorFixedRefC
set_option linter.unusedVariables false
namespace Go.Proofs.YthhpbnpenkndfaaDoor
open Go.ChangeShapes Go.WideShapes Go.ChangeAt Go.RowKit Csv Fix

/-! ### Clean fields, and widths that have room -/
def cleanB (c : UInt8) : UInt8 := UInt8.ofNat (33 + c.toNat % 94)
theorem cleanB_toNat (c : UInt8) : (cleanB c).toNat = 33 + c.toNat % 94 := by simp [cleanB]; omega
def cleanL (l : Bs) : Bs := l.map cleanB
theorem cleanL_len (l : Bs) : (cleanL l).length = l.length := by simp [cleanL]
theorem cleanB_ok (c : UInt8) : okB (cleanB c) = true := (okB_iff _).2 (by rw [cleanB_toNat]; omega)
theorem cleanL_ok (l : Bs) : (cleanL l).all okB = true := by
  rw [List.all_eq_true]
  intro x hx
  obtain ⟨c, _, rfl⟩ := List.mem_map.1 hx
  exact cleanB_ok c
theorem cleanL_end (l : Bs) : endB (cleanL l) = false := by
  unfold endB cleanL
  rw [List.getLast?_map]
  cases h : l.getLast? with
  | none => rfl
  | some c =>
    have : cleanB c ≠ 32 := by
      intro e
      have := congrArg UInt8.toNat e
      rw [cleanB_toNat] at this
      have e2 : (32 : UInt8).toNat = 32 := rfl
      omega
    simp [this]
def more (u : Option UInt8) : Nat := match u with | some c => c.toNat | none => 0
theorem more_lt (u : Option UInt8) : more u ≤ 255 := by
  cases u with
  | none => simp [more]
  | some c => have := c.toNat_lt; simp [more]; omega
def wB (f : Bs) (u : Option UInt8) : Int := (f.length + 1 + more u : Nat)
def wsB : List Bs → Bs → List Int
  | f :: F, U => wB f U[0]? :: wsB F U.tail
  | [], _ => []
theorem wsB_len : ∀ (F : List Bs) (U : Bs), (wsB F U).length = F.length
  | [], _ => rfl
  | f :: F, U => by simp [wsB, wsB_len F]
theorem wsB_at : ∀ {F : List Bs} {U : Bs} {k : Nat} {f : Bs}, F[k]? = some f → (wsB F U)[k]? = some (wB f U[k]?)
  | g :: F, U, 0, f, h => by simp at h; subst h; simp [wsB]
  | g :: F, U, k + 1, f, h => by
    simp at h
    have := wsB_at (U := U.tail) h
    simp only [wsB, List.getElem?_cons_succ, this]
    simp
  | [], U, k, f, h => by simp at h
theorem back_fits : ∀ (F : List Bs) (U : Bs), fitsTo (wsB F U) (F.map cleanL) = true
  | [], _ => rfl
  | f :: F, U => by
    have h : fitB (cleanL f) (wB f U[0]?) = true := by
      rw [fitB_all (by rw [cleanL_len]; unfold wB; omega) (cleanL_ok f), cleanL_end]; rfl
    simp [wsB, fitsTo, h, back_fits F U.tail]
theorem back_ok1 : ∀ (F : List Bs) (U : Bs), (∀ f ∈ F, f.length ≤ 100) → (wsB F U).all okW1 = true
  | [], _, _ => rfl
  | f :: F, U, h => by
    have h1 := h f (by simp)
    have h2 := more_lt U[0]?
    have ih := back_ok1 F U.tail (fun g hg => h g (by simp [hg]))
    have : okW1 (wB f U[0]?) = true := (okW1_iff _).2 (by unfold wB; omega)
    simp [wsB, this, ih]
theorem back_ok (F : List Bs) (U : Bs) (hl : F.length ≤ 40) (h : ∀ f ∈ F, f.length ≤ 100) : okW (wsB F U) = true := by
  unfold okW
  rw [back_ok1 F U h, wsB_len, decide_eq_true (by omega)]; rfl

/-! ### What is told of a line that is bent -/
theorem pa_more {W : List Int} {l : Bs} (c : UInt8) (h : okW W = true) (hl : l.length = sumW W) : pa W (l ++ [c]) = ([], sumW W + 1) := by
  rw [pa_long h (by simp; omega)]
  congr 1
  simp; omega
theorem pa_less {W : List Int} {l : Bs} (h : okW W = true) (hl : l.length + 1 = sumW W) : pa W l = ([], sumW W) := by
  rw [pa_long h (by omega)]
  congr 1
  omega
theorem pa_bent {W : List Int} {l : Bs} {k : Nat} (h : okW W = true) (hl : l.length = sumW W) (ho : l.all okB = true) (hk : k < l.length) : pa W (l.take k ++ ([31] ++ l.drop (k + 1))) = ([], k + 1) := by
  have hlk : (l.take k).length = k := by rw [List.length_take]; omega
  refine pa_odd h (by simp only [List.length_append, List.length_take, List.length_drop, List.length_cons, List.length_nil]; omega) (odd_some (c := 31) ?_ ?_ (by decide))
  · rw [List.take_left' hlk]
    exact all_sub ho fun x hx => List.mem_of_mem_take hx
  · rw [List.getElem?_append_right (by omega), hlk]; simp

/-! ### The contract of clean -/
theorem fill_front {A : Bs} {c : UInt8} {k n : Nat} (hA : A.length = k) (hk : k < n) : (A ++ List.replicate (n - k) 0).set k c = (A ++ [c]) ++ List.replicate (n - (k + 1)) 0 := by
  rw [List.set_append_right _ _ (by omega), hA, Nat.sub_self, show n - k = (n - (k + 1)) + 1 from by omega, List.replicate_succ, List.set_cons_zero]
  simp
theorem byte_rem (c : UInt8) : (33 + (c.toNat : Int) % 94) = ((cleanB c).toNat : Int) := by rw [cleanB_toNat]; omega

set_option maxHeartbeats 1000000 in
theorem clean_any (s : ByteArray) (w : World) (hs : s.size ≤ 1000) :
    Calls Tryd.prog 13 #[.string s] w fun e w' => e = .returned (.string ⟨(cleanL s.data.toList).toArray⟩) ∧ Keeps w w' := by
  have hmk := make_zrow s.size (by omega)
  have HL := Lib.hid (lies_zrow w s.size)
  go_enter Tryd.func13, Tryd.ntmps13
  go_wp2
  clear hmk
  go_loopw [4] (fun i wx => ∃ k : Nat, k ≤ s.size ∧ i = .int .i64 k ∧ Lies wx w.heap.size (cleanL (s.data.toList.take k) ++ List.replicate (s.size - k) 0) ∧ Keeps w wx) (fun i _ => s.size - (intOf i).toNat)
  case atStart => exact ⟨0, by omega, rfl, by simpa [cleanL] using HL.out, kept_alloc (Keeps.refl _) _⟩
  case round =>
    obtain ⟨k, hk, rfl, hl, hkp⟩ := hrel
    have HLI := Lib.hid hl
    have HK := Lib.hid hkp
    clear hl hkp
    by_cases hlt : k < s.size
    · have hA : (cleanL (s.data.toList.take k)).length = k := by rw [cleanL_len, List.length_take, len_data]; omega
      have hlen : (cleanL (s.data.toList.take k) ++ List.replicate (s.size - k) 0).length = s.size := by rw [List.length_append, hA, List.length_replicate]; omega
      obtain ⟨V, hc1⟩ : ∃ V : Int, wr.cell? ⟨w.heap.size, k, none⟩ = some (.int .u8 V) := ⟨_, HLI.out.at k (by omega)⟩
      have hc2 := HLI.out.loose k (by omega)
      have hlt2 : (k : Int) < (s.size : Int) := by omega
      obtain ⟨c, hc⟩ : ∃ c, s[k]'hlt = c := ⟨_, rfl⟩
      have hcg : s[(k : Int).toNat]'(by simpa using hlt) = c := by simpa using hc
      have hcl := c.toNat_lt
      have HS := Lib.hid (HLI.out.set k (by omega) (33 + (c.toNat : Int) % 94) (cleanB c) (byte_rem c))
      have HE := Lib.hid (show (cleanL (s.data.toList.take k) ++ List.replicate (s.size - k) 0).set k (cleanB c) = cleanL (s.data.toList.take (k + 1)) ++ List.replicate (s.size - (k + 1)) 0 from by
        rw [fill_front hA hlt]
        congr 1
        rw [List.take_add_one, Lib.data_getElem? s k hlt, hc]
        simp [cleanL])
      clear hA hlen
      go_wp2
      go_roundw
      case rel =>
        refine ⟨k + 1, by omega, by go_num, ?_, HK.out.setCell (Nat.le_refl _) _⟩
        rw [← HE.out]
        exact HS.out
      case measure => simp [intOf]; omega
    · obtain rfl : k = s.size := by omega
      have htx := HLI.out.text (P := Tryd.prog) 31 5 9 Tryd.underlying31 Tryd.underlying5 Tryd.underlying9 s.size s.size (by rw [List.length_append, cleanL_len, List.length_take, len_data, List.length_replicate]; omega)
      have hz : ¬ ((s.size : Int) < (s.size : Int)) := by omega
      have HE := Lib.hid (show cleanL (s.data.toList.take s.size) ++ List.replicate (s.size - s.size) 0 = cleanL s.data.toList from by
        rw [List.take_of_length_le (by rw [len_data]; exact Nat.le_refl _)]; simp)
      rw [HE.out] at htx
      go_wp2
      go_ret
      exact ⟨rfl, HK.out⟩
end Go.Proofs.YthhpbnpenkndfaaDoor
