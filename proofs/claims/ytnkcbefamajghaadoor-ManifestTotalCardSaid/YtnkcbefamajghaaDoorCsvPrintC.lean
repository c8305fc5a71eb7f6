
/- The contract of csv.Print. -/
import Derived.Test.YtnkcbefamajghaaDoorCsvC
import Derived.Test.YtnkcbefamajghaaDoorCsvMem
set_option linter.unusedVariables false
namespace Go.Proofs.YtnkcbefamajghaaDoor
open Go.ChangeShapes Go.WideShapes Go.ChangeAt Go.RowKit Go.Shelf Go.Proofs Csv

theorem csAdd_nought (a : Addr) : a.add 0 = a := by simp [Addr.add]

/-- A text under way, in a builder of the call's own. -/
structure csText (w : World) (b : Nat) (acc : Bs) (W : World) : Prop where
  is : Lib.IsBuilderF csTB csTb w.heap.size b (Lib.byteCells acc) W
  keeps : Keeps w W

theorem csText.on {w W W' : World} {b : Nat} {acc : Bs} (h : csText w b acc W) (k : Keeps W W') : csText w b acc W' := by
  refine ⟨?_, Keeps.trans h.2 k⟩
  have at_ : ∀ {p : Value}, Lib.BuilderAtF csTB csTb w.heap.size b p (Lib.byteCells acc) W → Lib.BuilderAtF csTB csTb w.heap.size b p (Lib.byteCells acc) W' := by
    intro p hb
    have hlt := hb.lt
    obtain ⟨h1, v, h2, h3, h4⟩ := hb
    refine ⟨h1, v, by rw [k.block b hlt]; exact h2, h3.kept (grown_of_keeps k) ?_, h4⟩
    cases v.ownBlock <;> simp
  rcases h.1 with h1 | h1
  · exact Or.inl (at_ h1)
  · exact Or.inr (at_ h1)
theorem csText_new (w : World) : csText w w.heap.size [] (w.alloc (.cells #[.pointer none, .slice none 0 0] csTB)) :=
  ⟨Or.inl ⟨Nat.le_refl _, .slice none 0 0, heap_alloc_new w _, World.ownsRowF_nil _ _ _ _, by simp [Value.ownBlock]⟩, (Below.refl _ _).alloc (Nat.le_refl _) _⟩
theorem csText_byte (w W : World) (b : Nat) (acc : Bs) (c : UInt8) (v : Int) (hv : v = c.toNat) (h : csText w b acc W) (hl : acc.length ≤ 1000000) :
    Calls Tryd.prog 40 #[.pointer (some ⟨b, 0, none⟩), .int .u8 v] W fun e w' => e = .returned .nilIface ∧ csText w b (acc ++ [c]) w' := by
  refine (sh_writeByte w.heap.size b _ v W h.1 (by rw [Lib.byteCells_length]; omega) h.2.size).mono fun e w' ⟨h1, h2, h3, h4⟩ => ⟨h1, ?_, ?_⟩
  · right
    rw [Lib.byteCells_append, hv] at *
    exact h2
  · exact Below.trans h.2 h3
theorem csText_string (w W : World) (b : Nat) (acc l : Bs) (h : csText w b acc W) (hl : acc.length ≤ 1000000) (hl2 : l.length ≤ 1000000) :
    Calls Tryd.prog 41 #[.pointer (some ⟨b, 0, none⟩), .string ⟨l.toArray⟩] W fun e w' => (∃ n : Int, e = .returned (.tuple #[.int .i64 n, .nilIface])) ∧ csText w b (acc ++ l) w' := by
  refine (csSh_writeString w.heap.size b _ ⟨l.toArray⟩ W h.1 (by rw [Lib.byteCells_length, size_mk]; omega) h.2.size).mono fun e w' ⟨h1, h2, h3, h4⟩ => ⟨⟨_, h1⟩, ?_, ?_⟩
  · right
    rw [Lib.byteCells_append]
    rw [Lib.strCells_eq, data_mk] at h2
    exact h2
  · exact Below.trans h.2 h3
theorem csText_done (w W : World) (b : Nat) (acc : Bs) (h : csText w b acc W) :
    Calls Tryd.prog 43 #[.pointer (some ⟨b, 0, none⟩)] W fun e w' => e = .returned (.string ⟨acc.toArray⟩) ∧ Keeps w w' :=
  (csSh_string w.heap.size b acc W h.1 h.2.size).mono fun e w' ⟨h1, h2, h3, h4⟩ => ⟨h1, Below.trans h.2 h3⟩

theorem prRows_take (L : List (List Bs)) (k : Nat) (r : List Bs) (h : L[k]? = some r) : prRows (L.take (k + 1)) = prRows (L.take k) ++ (prJoin r ++ [10]) := by
  rw [List.take_add_one, h]; exact prRows_snoc _ _
theorem prJoin_take (r : List Bs) (m : Nat) (x : Bs) (h : r[m]? = some x) : prJoin (r.take (m + 1)) = (if m = 0 then prt x else prJoin (r.take m) ++ 44 :: prt x) := by
  rw [List.take_add_one, h]
  show prJoin (r.take m ++ [x]) = _
  rw [prJoin_snoc]
  have hl := (List.getElem?_eq_some_iff.1 h).1
  by_cases hm : m = 0
  · subst hm; simp
  · rw [if_neg hm, if_neg]
    intro e
    have := congrArg List.length e
    rw [List.length_take, List.length_nil] at this; omega
theorem prRows_part (L : List (List Bs)) (k : Nat) : (prRows (L.take k)).length ≤ (prRows L).length := by
  have : prRows L = prRows (L.take k) ++ prRows (L.drop k) := by
    unfold prRows; rw [← List.flatMap_append, List.take_append_drop]
  rw [this, List.length_append]; omega
theorem prJoin_part : ∀ (r : List Bs) (m : Nat), (prJoin (r.take m)).length ≤ (prJoin r).length
  | [], m => by simp
  | [f], m => by cases m <;> simp [prJoin]
  | f :: g :: r, m => by
    match m with
    | 0 => simp [prJoin]
    | 1 => simp [prJoin]
    | m + 2 =>
      have ih := prJoin_part (g :: r) (m + 1)
      simp only [List.take_succ_cons, prJoin, List.length_append, List.length_cons] at ih ⊢
      omega

/-- Small enough to be printed. -/
structure Fits (L : List (List Bs)) : Prop where
  field : ∀ r ∈ L, ∀ f ∈ r, f.length ≤ 65536
  all : (prRows L).length ≤ 900000

set_option maxHeartbeats 4000000 in
theorem csPrint_any (v : Value) (L : List (List Bs)) (w : World) (hL : RowsAt w v L) (hf : Fits L) (hm : HasMax w) :
    Calls Tryd.prog 21 #[v] w fun e w' => e = .returned (.string ⟨(prRows L).toArray⟩) ∧ Keeps w w' := by
  obtain ⟨pL, cL, rfl, lL, hL⟩ := hL
  have HL := Lib.hid hL
  have HM := Lib.hid hm
  have HF := Lib.hid hf
  clear hL hm hf
  unfold maxLen at lL
  go_enter Tryd.func21, Tryd.ntmps21
  go_wp2
  go_loopw [10] (fun i wx => ∃ k : Nat, k ≤ L.length ∧ i = .int .i64 k ∧ csText w w.heap.size (prRows (L.take k)) wx) (fun i _ => L.length - (intOf i).toNat)
  case atStart => exact ⟨0, by omega, rfl, csText_new w⟩
  case round =>
    obtain ⟨k, hk, rfl, htx⟩ := hrel
    have HT := Lib.hid htx
    clear htx
    by_cases hlt : k < L.length
    · obtain ⟨r, hr⟩ : ∃ r, L[k]? = some r := ⟨_, List.getElem?_eq_getElem hlt⟩
      obtain ⟨a, v', rfl, hca, hst⟩ := HL.out k r hr
      obtain ⟨pr, cr, rfl, lr, hst⟩ := hst
      have hca2 := cell_keeps HT.out.keeps hca
      have HR := Lib.hid hr
      have HS := Lib.hid hst
      have hmem : r ∈ L := List.mem_of_getElem? hr
      have hFr := HF.out.field r hmem
      have HFR := Lib.hid hFr
      have hsum : (prRows (L.take k)).length + (prJoin r).length + 1 ≤ 900000 := by
        have h1 := prRows_part L (k + 1)
        rw [prRows_take L k r hr] at h1
        have h2 := HF.out.all
        simp only [List.length_append, List.length_cons, List.length_nil] at h1
        omega
      have hi1 : (k : Int) < (L.length : Int) := by omega
      unfold maxLen at lr
      clear hr hst hmem hFr
      go_wp2
      go_loopw [16] (fun i wx => ∃ m : Nat, m ≤ r.length ∧ i = .int .i64 m ∧ csText w w.heap.size (prRows (L.take k) ++ prJoin (r.take m)) wx) (fun i _ => r.length - (intOf i).toNat)
      case atStart => exact ⟨0, by omega, rfl, by simpa [prJoin] using HT.out⟩
      case round =>
        obtain ⟨m, hm, rfl, htx⟩ := hrel
        have HT2 := Lib.hid htx
        have hpart := prJoin_part r m
        clear htx hca2
        by_cases hlm : m < r.length
        · obtain ⟨x, hx⟩ : ∃ x, r[m]? = some x := ⟨_, List.getElem?_eq_getElem hlm⟩
          obtain ⟨a2, rfl, hcx⟩ := HS.out m x hx
          have hcx2 := cell_keeps HT2.out.keeps hcx
          have hj1 : (m : Int) < (r.length : Int) := by omega
          have hxl : x.length ≤ 65536 := HFR.out x (List.mem_of_getElem? hx)
          have hstep := prJoin_take r m x hx
          have hpl := prt_length x
          have cpr : ∀ W, Keeps w W → Calls Tryd.prog 42 #[.string ⟨x.toArray⟩] W fun e w' => e = .returned (.string ⟨(prt x).toArray⟩) ∧ Keeps W w' := fun W kp => by
            have := printed_any ⟨x.toArray⟩ W (by rw [size_mk]; exact hxl) (HM.out.keeps kp)
            rw [data_mk] at this; exact this
          have CP := Lib.hid cpr
          have HST := Lib.hid hstep
          clear hx hcx hstep cpr
          by_cases hm0 : m = 0
          · subst hm0
            have hcx0 : wr.cell? a2 = some (sv x) := by rw [← csAdd_nought a2]; exact hcx2
            go_wp2_with fail
            refine (CP.out _ HT2.out.keeps).mono ?_
            rintro e w2 ⟨rfl, hk2⟩
            clear hcx0 hcx2
            have ct := csText_string w w2 w.heap.size (prRows (L.take k) ++ prJoin (r.take 0)) (prt x) (HT2.out.on hk2) (by rw [List.length_append]; omega) (by omega)
            clear hk2
            go_wp2_with fail
            refine ct.mono ?_
            rintro e w3 ⟨⟨n, rfl⟩, ht3⟩
            have HT3 := Lib.hid ht3
            clear ht3 ct
            go_wp2
            go_roundw
            case rel => exact ⟨1, by omega, rfl, by have h := HT3.out; rw [HST.out]; simpa [prJoin] using h⟩
            case measure => simp [intOf]; omega
          · have hm1 : (0 : Int) < (m : Int) := by omega
            have HM0 := Lib.hid hm0
            have cb := csText_byte w wr w.heap.size (prRows (L.take k) ++ prJoin (r.take m)) 44 44 rfl HT2.out (by rw [List.length_append]; omega)
            clear hm0
            go_wp2_with fail
            refine cb.mono ?_
            rintro e w1 ⟨rfl, ht1⟩
            have HT1 := Lib.hid ht1
            clear ht1 cb hcx2
            go_wp2_with fail
            refine (CP.out _ HT1.out.keeps).mono ?_
            rintro e w2 ⟨rfl, hk2⟩
            have ct := csText_string w w2 w.heap.size (prRows (L.take k) ++ prJoin (r.take m) ++ [44]) (prt x) (HT1.out.on hk2) (by simp only [List.length_append, List.length_cons, List.length_nil]; omega) (by omega)
            clear hk2
            go_wp2_with fail
            refine ct.mono ?_
            rintro e w3 ⟨⟨n, rfl⟩, ht3⟩
            have HT3 := Lib.hid ht3
            clear ht3 ct
            go_wp2
            go_roundw
            case rel => exact ⟨m + 1, by omega, by go_num, by have h := HT3.out; rw [HST.out, if_neg HM0.out]; simpa using h⟩
            case measure => simp [intOf]; omega
        · obtain rfl : m = r.length := by omega
          have hz : ¬ ((r.length : Int) < (r.length : Int)) := by omega
          have hfull : r.take r.length = r := List.take_of_length_le (Nat.le_refl _)
          have HFU := Lib.hid hfull
          have cb := csText_byte w wr w.heap.size (prRows (L.take k) ++ prJoin (r.take r.length)) 10 10 rfl HT2.out (by rw [List.length_append]; omega)
          clear hfull
          go_wp2_with fail
          refine cb.mono ?_
          rintro e w1 ⟨rfl, ht1⟩
          have HT1 := Lib.hid ht1
          clear ht1 cb
          go_wp2
          go_roundw
          case rel => exact ⟨k + 1, by omega, by go_num, by have h := HT1.out; rw [prRows_take L k r HR.out]; rw [HFU.out] at h; simpa using h⟩
          case measure => simp [intOf]; omega
    · obtain rfl : k = L.length := by omega
      have hz : ¬ ((L.length : Int) < (L.length : Int)) := by omega
      have cd := csText_done w wr w.heap.size (prRows (L.take L.length)) HT.out
      rw [List.take_of_length_le (Nat.le_refl _)] at cd
      go_wp2_with fail
      refine cd.mono ?_
      rintro e w1 ⟨rfl, hk1⟩
      go_wp2
      go_ret
      exact ⟨rfl, hk1⟩
end Go.Proofs.YtnkcbefamajghaaDoor
