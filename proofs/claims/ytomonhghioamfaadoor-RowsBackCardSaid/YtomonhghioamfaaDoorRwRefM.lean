
/- The document's rows: numbers. -/
import Derived.Test.YtomonhghioamfaaDoorRwRefC
import Derived.Test.YtomonhghioamfaaDoorBitsRef2C
import Derived.Test.YtomonhghioamfaaDoorBitsCutC
set_option linter.unusedVariables false
namespace Go.Proofs.YtomonhghioamfaaDoor
open Go.ChangeShapes Go.WideShapes Go.ChangeAt Go.RowKit Bit Ky Rw Csv

def numK : RowK Nat where
  t := 65
  ts := 72
  sz := 1
  bytes := 8
  zero := .int .u64 0
  cells := fun n => [.int .u64 n]
  under := Tryd.underlying72
  info := by kernel_rfl
  zsize := rfl
  pos := by omega
  small := by omega
  len := fun x => rfl
  one := fun x u hu => by
    simp only [List.mem_cons, List.not_mem_nil, or_false] at hu
    rcases hu with rfl; rfl
theorem nsrc_one {w : World} {b : Nat} {n : Nat} (h : w.heap[b]? = some (.cells #[.int .u64 n] numK.t (0, 0))) : numK.Src w (.slice (some ⟨b, 0, none⟩) 1 1) [n] := by
  refine ⟨_, 1, rfl, (fun e => by cases e), fun a ha j u hu => ?_⟩
  cases ha
  rw [addr_of, Joins.cell_of_block h j]
  have e : numK.row [n] = [.int .u64 n] := rfl
  rw [e] at hu
  rw [← hu]
  simp
def strLen : Value → Nat | .string s => s.size | _ => 0
def NumOut (l : List UInt8) (w : World) (e : Ending) (w' : World) : Prop := ∃ ns ok p c, e = .returned (.tuple #[.slice p ns.length c, .bool ok]) ∧ NumIs l ns ok ∧ numK.Own w.heap.size w' (.slice p ns.length c) ns ∧ Keeps w w'
theorem mono_grown {w W W' : World} {v : Value} (k : Keeps w W) (g : W.grownBy W' v.ownBlock) (h : ∀ j, v.ownBlock = some j → w.heap.size ≤ j) : Keeps w W' := Below.grown k g k.size h
theorem emp_ne {S : ByteArray} (h : 1 ≤ S.size) : S.toList.isEmpty = false ∧ ¬ S.toList = [] := by
  have : ¬ S.toList = [] := fun e => by
    have := congrArg List.length e
    rw [ByteArray.toList_eq, len_data, List.length_nil] at this
    omega
  exact ⟨by rw [List.isEmpty_eq_false_iff]; exact this, this⟩
theorem emp_is {S : ByteArray} (h : S.size = 0) : S = ByteArray.empty := by
  apply bytes_inj
  have : S.data.toList = [] := List.length_eq_zero_iff.1 (by rw [len_data]; exact h)
  rw [this]; rfl
theorem emp_list : ByteArray.empty.toList = [] := by rw [ByteArray.toList_eq]; rfl
theorem rd_less {l : List UInt8} (h : rdB l = true) : (rdR l).length + 1 ≤ l.length := by
  have e := congrArg List.length (rd_back h)
  rw [List.length_append] at e
  have := sev_pos (rdV l)
  omega
set_option maxHeartbeats 16000000 in
set_option maxRecDepth 100000 in
theorem rr_numbers (s : ByteArray) (w : World) (hs : s.size ≤ 50000) : Calls Tryd.prog 38 #[.string s] w (NumOut s.data.toList w) := by
  have HS := Lib.hid hs
  go_enter Tryd.func38, Tryd.ntmps38
  go_wp2_with fail
  go_loopw [0, 4] (fun v0 v4 W => ∃ (ns : List Nat) (S : ByteArray) (p : Option Addr) (c m : Nat), v0 = .string S ∧ v4 = .slice p m c ∧ ns.length = m ∧ ns.flatMap sev ++ S.data.toList = s.data.toList ∧ Low ns ∧ m + S.size ≤ 50000 ∧ numK.Own w.heap.size W (.slice p m c) ns ∧ Keeps w W) (fun v0 _ _ => strLen v0)
  case atStart => exact ⟨[], s, none, 0, 0, rfl, rfl, rfl, by simp, (fun n hn => by cases hn), by have := HS.out; omega, numK.own_nil _ _, Keeps.refl _⟩
  case round =>
    obtain ⟨ns, S, p, c, m, rfl, rfl, hm, hl, hlow, hb, ho, hk⟩ := hrel
    have HM := Lib.hid hm
    have HL := Lib.hid hl
    have HLO := Lib.hid hlow
    have HBD := Lib.hid hb
    have HO := Lib.hid ho
    have HK := Lib.hid hk
    clear hm hl hlow hb ho hk
    by_cases h0 : S.size = 0
    · obtain rfl := emp_is h0
      have z := emp_list
      have G : Hid (NumIs s.data.toList ns true) := Lib.hid (Or.inl ⟨rfl, HLO.out, by have := HL.out; simpa using this⟩)
      clear h0
      go_wp2
      go_ret2
      exact ⟨ns, true, p, c, by rw [HM.out]; rfl, G.out, by rw [HM.out]; exact HO.out, HK.out⟩
    obtain ⟨z1, z2⟩ := emp_ne (show 1 ≤ S.size by omega)
    have HNE : Hid (S.data.toList ≠ []) := Lib.hid fun e => h0 (by rw [← len_data, e]; rfl)
    obtain ⟨n, hn⟩ : ∃ n, rdV S.data.toList = n := ⟨_, rfl⟩
    obtain ⟨T, hT⟩ : ∃ T : ByteArray, ⟨(rdR S.data.toList).toArray⟩ = T := ⟨_, rfl⟩
    obtain ⟨b, hbb⟩ : ∃ b, rdB S.data.toList = b := ⟨_, rfl⟩
    have C1 := Lib.hid fun W => rread_any S W (by have := HBD.out; unfold maxLen; omega)
    rw [hn, hT, hbb] at C1
    have HNN := Lib.hid hn
    have HTT := Lib.hid hT
    have HBB := Lib.hid hbb
    clear hn hT hbb h0
    go_wp2_with fail
    refine (C1.out _).mono ?_
    rintro e w2 ⟨rfl, k2⟩
    have K2 := Lib.hid (HK.out.trans k2)
    clear C1
    cases b with
    | false =>
      have G : Hid (NumIs s.data.toList [] false) := Lib.hid (Or.inr ⟨rfl, rfl, num_bad HLO.out HL.out HNE.out (fun g => by have := HBB.out; rw [g.1] at this; cases this)⟩)
      clear k2
      go_wp2
      go_ret2
      exact ⟨[], false, none, 0, rfl, G.out, numK.own_nil _ _, K2.out⟩
    | true =>
      by_cases hn : n ≤ 1099511627776
      rotate_left
      · have G : Hid (NumIs s.data.toList [] false) := Lib.hid (Or.inr ⟨rfl, rfl, num_bad HLO.out HL.out HNE.out (fun g => hn (by rw [← HNN.out]; exact g.2))⟩)
        clear k2
        go_wp2
        go_ret2
        exact ⟨[], false, none, 0, rfl, G.out, numK.own_nil _ _, K2.out⟩
      have HN := Lib.hid hn
      obtain ⟨p', c', w3, R1, R2, R3⟩ := numK.app_row (w2.alloc (.cells #[.int .u64 n] 65)) w.heap.size (.slice p m c) ns (.slice (some ⟨w2.heap.size, 0, none⟩) 1 1) [n] (numK.own_keeps HO.out (k2.trans (ky_box _ _))) (nsrc_one (heap_alloc_new _ _)) (by simp; have := HM.out; have := HBD.out; omega) (by have := K2.out.size; have := (ky_box w2 (.cells #[.int .u64 n] 65)).size; omega)
      have K3 : Hid (Keeps w w3) := Lib.hid (mono_grown (K2.out.trans (ky_box _ _)) R3 fun j hj => (numK.own_lt (by rw [← HM.out] at HO; exact HO.out) j (by rw [HM.out]; exact hj)).1)
      have hrv : (Builtin.append_ #[72, 72] 72 #[.slice p m c, .slice (some ⟨w2.heap.size, 0, none⟩) 1 1]).run Tryd.prog (w2.alloc (.cells #[.int .u64 n] 65)) = .ok (.slice p' (m + 1) c') w3 := by
        rw [HM.out] at R1; exact R1
      have HR := Lib.hid hrv
      have HO2 : Hid (numK.Own w.heap.size w3 (.slice p' (m + 1) c') (ns ++ [n])) := Lib.hid (by rw [HM.out] at R2; exact R2)
      have NX : Hid ((ns ++ [n]).flatMap sev ++ T.data.toList = s.data.toList) := Lib.hid (by rw [← HTT.out, ← HNN.out]; exact num_next HL.out HBB.out)
      have TS : Hid (T.size + 1 ≤ S.size) := Lib.hid (by rw [← HTT.out, size_mk, ← len_data S]; exact rd_less HBB.out)
      have LW : Hid (Low (ns ++ [n])) := Lib.hid (fun x hx => by
        rcases List.mem_append.1 hx with hx | hx
        · exact HLO.out x hx
        · simp at hx; subst hx; exact HN.out)
      clear k2 hrv R1 R2 R3
      go_wp2_with (at_builtin; refine wpAppKnown rfl _ _ _ _ rfl _ _ _ _ rfl rfl HR.out ?_)
      exact ⟨⟨ns ++ [n], T, p', c', m + 1, rfl, rfl, by rw [List.length_append, HM.out]; rfl, NX.out, LW.out, by have := TS.out; have := HBD.out; omega, HO2.out, K3.out⟩, by have := TS.out; show T.size < S.size; omega⟩
end Go.Proofs.YtomonhghioamfaaDoor
