
/- A text under way, in a strings.Builder of the call's own, where WriteString and String alone are called. The program's settle: a line of a file. The program's settle: Print. -/
import Derived.Test.YtomonhghioamfaaGreatDoorTextW
import Derived.Test.YtomonhghioamfaaGreatDoorSeC4
import Derived.Test.YtomonhghioamfaaGreatDoorStRefP
import Derived.Test.YtomonhghioamfaaGreatDoorFixedPrintC
import Derived.Test.YtomonhghioamfaaGreatDoorStructRow
import Derived.Test.YtomonhghioamfaaGreatDoorStLinesC
import Derived.Test.YtomonhghioamfaaGreatDoorRwCP
import Derived.Test.YtomonhghioamfaaGreatDoorKyCP
import Derived.Deep.RegionHeld3
import Derived.Deep.RegionWith
set_option linter.unusedVariables false
namespace Go.Proofs.YtomonhghioamfaaGreatDoor
open Go.ChangeShapes Go.WideShapes Go.ChangeAt Go.RowKit Ky Rw Csv Stl

/-- A row of texts that a literal lays, as a call's own. -/
theorem lit_own {w' : World} {cs : Array Value} {G : List (List UInt8)} {n : Nat} (hcs : cs = (svs G).toArray) (hn : n = G.length) (hm : n ≤ maxLen) (B : Nat) (hB : B ≤ w'.heap.size) : strK.Own B (w'.alloc (.cells cs tS)) (.slice (some ⟨w'.heap.size, 0, none⟩) n n) G := by
  subst hcs hn
  refine ⟨strK.row_len G, Or.inr ⟨w'.heap.size, G.length, (svs G).toArray, rfl, hB, heap_alloc_new w' _, Nat.le_refl _, hm, ?_, ?_⟩⟩
  · show (svs G).toArray.size = G.length * 1
    simp [svs]
  · rw [strK_row]
    show (svs G).toArray.toList.take (G.length * 1) = svs G
    rw [Nat.mul_one, List.take_of_length_le (by simp [svs])]
set_option maxHeartbeats 4000000 in
set_option maxRecDepth 100000 in
theorem se_line (k : UInt8) (W : List Int) (HW : ∀ w, Calls Tryz.prog 58 #[.string ⟨#[k]⟩] w (WidOut W w)) (v : Value) (G : List (List UInt8)) (n : Nat) (w : World) (hG : strK.Src w v G) (hn : G.length = n) (hgl : n ≤ 100) (hg : ∀ f ∈ [k] :: G, f.length ≤ 1100) (hX : (Fix.pr W ([k] :: G)).length ≤ 100000) :
    Calls Tryz.prog 43 #[.string ⟨#[k]⟩, v] w fun e w' => e = .returned (.string ⟨(Fix.pr W ([k] :: G) ++ [10]).toArray⟩) ∧ Keeps w w' := by
  obtain ⟨K, hK⟩ : ∃ K : ByteArray, ⟨#[k]⟩ = K := ⟨_, rfl⟩
  have HK : Hid (sv [k] = .string K) := Lib.hid (by unfold sv; rw [← hK])
  have CW := Lib.hid (hK ▸ HW w)
  have HG := Lib.hid hG
  have HS := Lib.hid hg
  have HN := Lib.hid hn
  have HGL := Lib.hid hgl
  obtain ⟨X, hXe⟩ : ∃ X : ByteArray, ⟨(Fix.pr W ([k] :: G)).toArray⟩ = X := ⟨_, rfl⟩
  have HX := Lib.hid hXe
  have XS : X.size ≤ 100000 := by rw [← hXe, size_mk]; exact hX
  obtain ⟨Y, hY⟩ : ∃ Y, X ++ ⟨#[10]⟩ = Y := ⟨_, rfl⟩
  have HY : Hid (Y = ⟨(Fix.pr W ([k] :: G) ++ [10]).toArray⟩) := Lib.hid (by
    apply bytes_inj
    rw [← hY, data_mk, ← hXe]
    simp)
  have n1 : ¬ (9223372036854775807 < X.size + 1) := by omega
  have HXS := Lib.hid XS
  rw [hK]
  clear hK HW hG hn hgl hg hX hXe XS
  obtain ⟨pv, cv, rfl⟩ : ∃ p c, v = .slice p n c := by
    obtain ⟨p, c, e, _⟩ := HG.out
    exact ⟨p, c, by rw [e, HN.out]⟩
  go_enter Tryz.func43, Tryz.ntmps43
  go_wp2_with fail
  refine CW.out.mono ?_
  rintro e w1 ⟨vw, rfl, hi, k1⟩
  have HI := Lib.hid hi
  have K1 := Lib.hid k1
  clear hi k1 CW
  obtain ⟨p5, c5, w5, R1, R2, R3⟩ := strK.app_row (w1.alloc (.cells #[.string K] tS)) w.heap.size (.slice (some ⟨w1.heap.size, 0, none⟩) 1 1) [[k]] (.slice pv n cv) G (lit_own (by rw [← HK.out]; rfl) rfl (by simp [maxLen]) w.heap.size K1.out.size) (RowK.Src.keeps strK HG.out (Keeps.trans K1.out (ky_box _ _))) (by have := HGL.out; rw [HN.out]; simp; omega) (Nat.le_trans K1.out.size (ky_box w1 _).size)
  have e5 : [[k]].length + G.length = n + 1 := by rw [HN.out]; simp; omega
  rw [e5] at R1 R2
  have HR : Hid ((Builtin.append_ #[strK.ts, strK.ts] strK.ts #[.slice (some ⟨w1.heap.size, 0, none⟩) 1 1, .slice pv n cv]).run Tryz.prog (w1.alloc (.cells #[.string K] tS)) = .ok (.slice p5 (n + 1) c5) w5) := Lib.hid R1
  have K5 : Hid (Keeps w1 w5) := Lib.hid (mono_grown' (ky_box w1 (.cells #[.string K] tS)) R3 (fun j hj => by cases hj; exact Nat.le_refl _))
  have CP := Lib.hid (print_any vw (.slice p5 (n + 1) c5) W ([k] :: G) w5 (HI.out.keeps K5.out) (strK_strs (show strK.Own w.heap.size w5 (.slice p5 (n + 1) c5) ([[k]] ++ G) from R2)) HS.out)
  clear R1 R2 R3 e5
  go_wp2_with (first
    | (at_builtin; refine wpAppKnown rfl _ _ _ _ rfl _ _ _ _ rfl rfl HR.out ?_)
    | (go_at_call 78; refine CP.out.mono ?_; rintro e w6 ⟨rfl, k6⟩; rw [HX.out]; have K6 := Lib.hid k6; clear k6))
  go_ret
  exact ⟨by rw [← HY.out]; rfl, Keeps.trans K1.out (Keeps.trans K5.out K6.out)⟩
end Go.Proofs.YtomonhghioamfaaGreatDoor
namespace Go.Proofs.YtomonhghioamfaaGreatDoor
open Go.ChangeShapes Go.WideShapes Go.ChangeAt Go.RowKit Ky Rw Csv Stl

theorem lit_src {w' : World} {cs : Array Value} {G : List (List UInt8)} {n : Nat} (hcs : cs = (svs G).toArray) (hn : n = G.length) (hm : n ≤ maxLen) : strK.Src (w'.alloc (.cells cs tS)) (.slice (some ⟨w'.heap.size, 0, none⟩) n n) G :=
  RowK.own_src strK (lit_own hcs hn hm w'.heap.size (Nat.le_refl _))
theorem twText_string2 (w W : World) (b : Nat) (acc l : List UInt8) (h : TwText w b acc W) (hl : acc.length ≤ 1000000) (hl2 : l.length ≤ 1000000) :
    Calls Tryz.prog 42 #[.pointer (some ⟨b, 0, none⟩), .string ⟨l.toArray⟩] W fun e w' => (∃ n : Int, e = .returned (.tuple #[.int .i64 n, .nilIface])) ∧ TwText w b (acc ++ l) w' ∧ Lib.OthersKept twb (some b) W w' := by
  refine (twSh_writeString w.heap.size b _ ⟨l.toArray⟩ W h.1 (by rw [Lib.byteCells_length, size_mk]; omega) h.2.size).mono fun e w' ⟨h1, h2, h3, h4⟩ => ⟨⟨_, h1⟩, ⟨?_, ?_⟩, h4⟩
  · right
    rw [Lib.byteCells_append]
    rw [Lib.strCells_eq, data_mk] at h2
    exact h2
  · exact Below.trans h.2 h3
theorem TwText.lt {w W : World} {b : Nat} {acc : List UInt8} (h : TwText w b acc W) : b < W.heap.size := by
  rcases h.is with h | h <;> exact h.lt
theorem pr_small {l : List UInt8} {k : Nat} (h : (l ++ [10]).length = k) (hk : k ≤ 100) : l.length ≤ 100000 := by
  rw [List.length_append] at h
  omega
set_option maxHeartbeats 16000000 in
set_option maxRecDepth 100000 in
theorem se_print (p s : Int) (v : Value) (L : List R) (w : World) (h : RowsIn w v L) (hhp : HasP w) :
    Calls Tryz.prog 16 #[stV p s v] w fun e w' => e = .returned (.tuple #[.string (prtS p s L), .int .i64 (prtC p s L)]) ∧ Keeps w w' := by
  have KB := Lib.hid (ky_box w (stBox p s v))
  have HR := Lib.hid (h.keeps KB.out)
  have HP := Lib.hid (hhp.keeps KB.out)
  have CX := Lib.hid (st_cells w p s v)
  obtain ⟨b, hb⟩ : ∃ b, validB p s L = b := ⟨_, rfl⟩
  have HB := Lib.hid hb
  have C1 := Lib.hid (hb ▸ pw_valid p s v L _ HP.out HR.out)
  obtain ⟨pp, cp, rfl, hmx, _, _⟩ := h
  obtain ⟨N, hN⟩ : ∃ N, L.length = N := ⟨_, rfl⟩
  have HN := Lib.hid hN
  rw [hN] at hmx KB HR C1 CX ⊢
  clear hN hb hhp HP
  unfold maxLen at hmx
  unfold stBox at KB HR C1 CX
  unfold stV at C1 ⊢
  obtain ⟨x0, x1, x2⟩ := CX.out _ (Keeps.refl _)
  by_cases hp : p = 0
  rotate_left
  · have E : Hid (prtS p s L = ⟨#[]⟩ ∧ prtC p s L = 2) := Lib.hid (by unfold prtS Stl.prt prtC; rw [if_neg (fun e => hp e.1), if_neg (fun e => hp e.1)]; exact ⟨rfl, rfl⟩)
    have t : (p == 0) = false := by rw [beq_eq_false_iff_ne]; exact hp
    have t2 : (p != 0) = true := by rw [bne, t]; rfl
    clear hp
    go_enter Tryz.func16, Tryz.ntmps16
    go_wp2
    go_ret2
    exact ⟨ret_si E.out.1.symm E.out.2.symm, KB.out⟩
  subst hp
  go_enter Tryz.func16, Tryz.ntmps16
  go_wp2_with fail
  refine C1.out.mono ?_
  rintro e w1 ⟨rfl, k1⟩
  have K1 := Lib.hid k1
  clear k1 C1 x0 x1 x2
  cases b with
  | false =>
    have E : Hid (prtS 0 s L = ⟨#[]⟩ ∧ prtC 0 s L = 2) := Lib.hid (by unfold prtS Stl.prt prtC; rw [HB.out, if_neg (by simp), if_neg (by simp)]; exact ⟨rfl, rfl⟩)
    go_wp2
    go_ret2
    exact ⟨ret_si E.out.1.symm E.out.2.symm, KB.out.trans K1.out⟩
  | true =>
    have VA := Lib.hid (valid_iff.1 HB.out)
    have EO : Hid (prtS 0 s L = ⟨(fileL s L).toArray⟩ ∧ prtC 0 s L = 0) := Lib.hid (by unfold prtS Stl.prt prtC; rw [HB.out, if_pos ⟨rfl, rfl⟩, if_pos ⟨rfl, rfl⟩]; exact ⟨rfl, rfl⟩)
    have N4 : N ≤ 400 := by have := VA.out.good.len; rw [HN.out] at this; exact this
    have HN4 := Lib.hid N4
    obtain ⟨x0, x1, x2⟩ := CX.out _ K1.out
    have hlt : w.heap.size < w1.heap.size := by have := K1.out.size; simp at this; omega
    have hne : w.heap.size ≠ w1.heap.size := Nat.ne_of_lt hlt
    obtain ⟨P1, hP1⟩ : ∃ P : ByteArray, ⟨(Mon.pad s 10).toArray⟩ = P := ⟨_, rfl⟩
    have HP1 := Lib.hid hP1
    have C1 : Hid (∀ W, Calls Tryz.prog 44 #[.int .i64 s, .int .i64 10] W fun e w' => e = .returned (.string P1) ∧ Keeps W w') := Lib.hid fun W => hP1 ▸ pad_any s 10 W (by have := VA.out.s0; have := VA.out.s1; unfold I64 top; omega)
    have T1 := Lib.hid (twText_new w1)
    have KT : Hid (Keeps w1 (w1.alloc (.cells #[.pointer none, .slice none 0 0] twB))) := Lib.hid T1.out.keeps
    obtain ⟨H0, hH0⟩ : ∃ H : ByteArray, ⟨(headF s).toArray⟩ = H := ⟨_, rfl⟩
    have HH0 := Lib.hid hH0
    clear hP1 hH0
    go_wp2_with fail
    refine (C1.out _).mono ?_
    rintro e w2 ⟨rfl, k2⟩
    have T2 := Lib.hid (T1.out.on k2)
    have K2 := Lib.hid (Keeps.trans KT.out k2)
    have CL : Hid (Calls Tryz.prog 43 #[.string ⟨#[72]⟩, .slice (some ⟨w2.heap.size, 0, none⟩) 2 2] (w2.alloc (.cells #[.string ⟨#[80, 65, 89, 77, 69, 78, 84]⟩, .string P1] tS)) fun e w' => e = .returned (.string H0) ∧ Keeps (w2.alloc (.cells #[.string ⟨#[80, 65, 89, 77, 69, 78, 84]⟩, .string P1] tS)) w') := Lib.hid (by
      have := se_line 72 wH se_widthsH (.slice (some ⟨w2.heap.size, 0, none⟩) 2 2) [sPay, Mon.pad s 10] 2 (w2.alloc (.cells #[.string ⟨#[80, 65, 89, 77, 69, 78, 84]⟩, .string P1] tS)) (lit_src (by rw [← HP1.out]; rfl) rfl (by simp [maxLen])) rfl (by omega) (short_head s) (pr_small (head_len VA.out.s0 VA.out.s1) (by omega))
      rw [← HH0.out]
      exact this)
    have KS := Lib.hid (ky_box w2 (.cells #[.string ⟨#[80, 65, 89, 77, 69, 78, 84]⟩, .string P1] tS))
    clear k2 C1 hlt hne x0 x1 x2 T1 KT
    go_wp2_with fail
    refine CL.out.mono ?_
    rintro e w3 ⟨rfl, k3⟩
    have T3 := Lib.hid (T2.out.on (Keeps.trans KS.out k3))
    have CWr : Hid (Calls Tryz.prog 42 #[.pointer (some ⟨w1.heap.size, 0, none⟩), .string H0] w3 fun e w' => (∃ n : Int, e = .returned (.tuple #[.int .i64 n, .nilIface])) ∧ TwText w1 w1.heap.size ([] ++ headF s) w') := Lib.hid (by
      rw [← HH0.out]
      exact twText_string w1 w3 w1.heap.size [] (headF s) T3.out (by simp) (by rw [head_len VA.out.s0 VA.out.s1]; omega))
    clear k3 CL T2 KS
    go_wp2_with fail
    refine CWr.out.mono ?_
    rintro e w4 ⟨⟨nn, rfl⟩, t4⟩
    rw [List.nil_append] at t4
    have T4 := Lib.hid t4
    obtain ⟨x0, x1, x2⟩ := CX.out _ (Keeps.trans K1.out t4.keeps)
    clear t4 CWr T3
    go_wp2_with fail
    go_loopw [5, 27] (fun v5 v27 W => ∃ (k : Nat) (t : Int), k ≤ N ∧ v5 = .int .i64 t ∧ v27 = .int .i64 (k : Int) ∧ t = totA (L.take k) ∧ TwText w1 w1.heap.size (headF s ++ (L.take k).flatMap rowF) W) (fun _ v27 _ => N - (intOf v27).toNat)
    case atStart => exact ⟨0, 0, by omega, rfl, rfl, rfl, by simpa using T4.out⟩
    case round =>
      obtain ⟨k, t, hk, rfl, rfl, ht, hT⟩ := hrel
      have HT := Lib.hid ht
      have HW := Lib.hid hT
      obtain ⟨b1, b2⟩ := tot_part VA.out.good.each VA.out.good.len k
      rw [← ht] at b1 b2
      have KW := Lib.hid (Keeps.trans K1.out hT.keeps)
      have SS : Hid ((headF s ++ (L.take k).flatMap rowF).length ≤ 11620) := Lib.hid (by
        rw [List.length_append, head_len VA.out.s0 VA.out.s1, rows_len fun x hx => VA.out.good.each x (List.mem_of_mem_take hx)]
        have := List.length_take_le' k L
        have := VA.out.good.len
        rw [List.length_take]
        omega)
      obtain ⟨x0, x1, x2⟩ := CX.out _ KW.out
      clear hT ht
      by_cases hlt : k < N
      · have HK := Lib.hid hlt
        obtain ⟨x, hx⟩ : ∃ x, L[k]? = some x := ⟨_, List.getElem?_eq_getElem (by have := HN.out; omega)⟩
        obtain ⟨p1, c1, e1, _, _, hc1⟩ := HR.out.keeps KW.out
        rw [HN.out] at e1
        simp only [Value.slice.injEq] at e1
        obtain ⟨rfl, _, rfl⟩ := e1
        obtain ⟨ad, rfl, q0, q1, q2, q3, q4⟩ := hc1 k x hx
        have RX := Lib.hid (VA.out.good.each x (List.mem_of_getElem? hx))
        have TK := Lib.hid (tot_take hx)
        have FK : Hid ((L.take (k + 1)).flatMap rowF = (L.take k).flatMap rowF ++ rowF x) := Lib.hid (by rw [List.take_add_one, hx, List.flatMap_append]; simp)
        have hi1 : (k : Int) < (N : Int) := by omega
        have hi0 : (0 : Int) ≤ (k : Int) := by omega
        clear hc1 hx
        obtain ⟨P2, hP2⟩ : ∃ P : ByteArray, ⟨(Mon.pad x.o 4).toArray⟩ = P := ⟨_, rfl⟩
        obtain ⟨P3, hP3⟩ : ∃ P : ByteArray, ⟨(Mon.pad x.a 14).toArray⟩ = P := ⟨_, rfl⟩
        obtain ⟨WD, hWD⟩ : ∃ P : ByteArray, wordS x.d = P := ⟨_, rfl⟩
        obtain ⟨LT, hLT⟩ : ∃ P : ByteArray, ⟨(letter x.c).toArray⟩ = P := ⟨_, rfl⟩
        have HP2 := Lib.hid hP2
        have HP3 := Lib.hid hP3
        have HWD : Hid (⟨(wordB x.d).toArray⟩ = WD) := Lib.hid hWD
        have HLT := Lib.hid hLT
        obtain ⟨HX, hHX⟩ : ∃ P : ByteArray, ⟨(rowF x).toArray⟩ = P := ⟨_, rfl⟩
        have HHX := Lib.hid hHX
        have CP2 : Hid (∀ W, Calls Tryz.prog 44 #[.int .i64 x.o, .int .i64 4] W fun e w' => e = .returned (.string P2) ∧ Keeps W w') := Lib.hid fun W => hP2 ▸ pad_any x.o 4 W (by have := RX.out.key.o0; have := RX.out.key.o1; unfold I64 top; omega)
        have CP3 : Hid (∀ W, Calls Tryz.prog 44 #[.int .i64 x.a, .int .i64 14] W fun e w' => e = .returned (.string P3) ∧ Keeps W w') := Lib.hid fun W => hP3 ▸ pad_any x.a 14 W (by have := RX.out.a0; have := RX.out.a1; unfold I64 top; omega)
        have CWd : Hid (∀ W, Calls Tryz.prog 45 #[.int .i64 x.d] W fun e w' => e = .returned (.string WD) ∧ Keeps W w') := Lib.hid fun W => hWD ▸ pk_word x.d W
        have CLt : Hid (∀ W, Calls Tryz.prog 46 #[.int .i64 x.c] W fun e w' => e = .returned (.string LT) ∧ W = w') := Lib.hid fun W => hLT ▸ se_letter x.c W (by have := RX.out.c1; have := RX.out.c2; omega)
        have CLn : Hid (∀ W : World, Calls Tryz.prog 43 #[.string ⟨#[68]⟩, .slice (some ⟨W.heap.size, 0, none⟩) 4 4] (W.alloc (.cells #[.string P2, .string WD, .string LT, .string P3] tS)) fun e w' => e = .returned (.string HX) ∧ Keeps W w') := Lib.hid fun W => by
          have := se_line 68 wD se_widthsD (.slice (some ⟨W.heap.size, 0, none⟩) 4 4) [Mon.pad x.o 4, wordB x.d, letter x.c, Mon.pad x.a 14] 4 (W.alloc (.cells #[.string P2, .string WD, .string LT, .string P3] tS)) (lit_src (by rw [← HP2.out, ← HP3.out, ← HWD.out, ← HLT.out]; rfl) rfl (by simp [maxLen])) rfl (by omega) (short_row x) (pr_small (row_len RX.out) (by omega))
          rw [← HHX.out]
          exact this.mono fun e w' h => ⟨h.1, Keeps.trans (ky_box W _) h.2⟩
        have CWr : Hid (∀ W, TwText w1 w1.heap.size (headF s ++ (L.take k).flatMap rowF) W → Calls Tryz.prog 42 #[.pointer (some ⟨w1.heap.size, 0, none⟩), .string HX] W fun e w' => (∃ n : Int, e = .returned (.tuple #[.int .i64 n, .nilIface])) ∧ TwText w1 w1.heap.size (headF s ++ (L.take (k + 1)).flatMap rowF) w' ∧ Lib.OthersKept twb (some w1.heap.size) W w') := Lib.hid fun W hW => by
          rw [← HHX.out, FK.out, ← List.append_assoc]
          exact twText_string2 w1 W w1.heap.size _ (rowF x) hW (by have := SS.out; omega) (by rw [row_len RX.out]; omega)
        have a0 := RX.out.a0
        have a1 := RX.out.a1
        clear hP2 hP3 hWD hLT hHX
        have CY := Lib.hid (rw_cells wr x)
        have AX := Lib.hid (ky_box wr (.cells #[.int .i64 x.o, .int .i64 x.d, .int .i64 x.c, .int .i64 x.a, .int .i64 x.q] tRw))
        have NB := heap_alloc_new wr (.cells #[.int .i64 x.o, .int .i64 x.d, .int .i64 x.c, .int .i64 x.a, .int .i64 x.q] tRw)
        have NLT : Hid (w1.heap.size < wr.heap.size) := Lib.hid HW.out.lt
        go_upto_region 9 with (fail)
        obtain ⟨wq, hwq⟩ : ∃ W, wr.alloc (.cells #[.int .i64 x.o, .int .i64 x.d, .int .i64 x.c, .int .i64 x.a, .int .i64 x.q] tRw) = W := ⟨_, rfl⟩
        rw [hwq] at CY AX NB ⊢
        have RBX : Hid (∀ W W', Keeps wq W → Lib.OthersKept twb (some w1.heap.size) W W' → W'.cell? ⟨wr.heap.size, 0, none⟩ = some (.int .i64 x.o) ∧ W'.cell? ⟨wr.heap.size, 1, none⟩ = some (.int .i64 x.d) ∧ W'.cell? ⟨wr.heap.size, 2, none⟩ = some (.int .i64 x.c) ∧ W'.cell? ⟨wr.heap.size, 3, none⟩ = some (.int .i64 x.a) ∧ W'.cell? ⟨wr.heap.size, 4, none⟩ = some (.int .i64 x.q)) := Lib.hid fun W W' k o => by
          have e := o _ _ ((k.block _ (Array.getElem?_eq_some_iff.1 NB).1).trans NB) (fun e => by have := NLT.out; have := Option.some.inj e; omega) (fun c fz e => by injection e with _ e2 _; revert e2; decide)
          exact ⟨Joins.cell_of_block e 0, Joins.cell_of_block e 1, Joins.cell_of_block e 2, Joins.cell_of_block e 3, Joins.cell_of_block e 4⟩
        clear NB
        clear hwq q0 q1 q2 q3 q4 x0 x1 x2 hi1 hi0
        have HV := Lib.hid (Keeps.refl wq)
        obtain ⟨y0, y1, y2, y3, y4⟩ := CY.out _ HV.out
        go_region_held3 (fun W => W.cell? ⟨wr.heap.size, 0, none⟩ = some (.int .i64 x.o) ∧ W.cell? ⟨wr.heap.size, 1, none⟩ = some (.int .i64 x.d) ∧ W.cell? ⟨wr.heap.size, 2, none⟩ = some (.int .i64 x.c) ∧ W.cell? ⟨wr.heap.size, 3, none⟩ = some (.int .i64 x.a) ∧ W.cell? ⟨wr.heap.size, 4, none⟩ = some (.int .i64 x.q))
          (first | exact CY.out _ HV.out | exact CY.out _ (HV.out.trans (ky_drew _)) | assumption) (first
          | (go_at_call 44; (with_reducible refine (CP2.out _).mono ?_); clear CP2; rintro e wv ⟨rfl, hv⟩; have HV := Lib.hid (Keeps.trans (ky_drew wq) hv); have zv := CY.out _ HV.out; clear hv)
          | (go_at_call 44; (with_reducible refine (CP3.out _).mono ?_); clear CP3; rintro e wv2 ⟨rfl, hv⟩; have HV := Lib.hid (Keeps.trans HV.out hv); have zv := CY.out _ HV.out; clear hv))
        clear y0 y1 y2 y3 y4
        go_upto_region 10 with (fail)
        obtain ⟨y0, y1, y2, y3, y4⟩ := CY.out _ HV.out
        go_region_held3 (fun W => W.cell? ⟨wr.heap.size, 0, none⟩ = some (.int .i64 x.o) ∧ W.cell? ⟨wr.heap.size, 1, none⟩ = some (.int .i64 x.d) ∧ W.cell? ⟨wr.heap.size, 2, none⟩ = some (.int .i64 x.c) ∧ W.cell? ⟨wr.heap.size, 3, none⟩ = some (.int .i64 x.a) ∧ W.cell? ⟨wr.heap.size, 4, none⟩ = some (.int .i64 x.q))
          (first | exact CY.out _ HV.out | exact CY.out _ (HV.out.trans (ky_drew _)) | exact CY.out _ (Keeps.trans HV.out (ky_box _ _)) | assumption) (first
          | (go_at_call 45; (with_reducible refine (CWd.out _).mono ?_); clear CWd; rintro e wv3 ⟨rfl, hv⟩; have HV := Lib.hid (Keeps.trans HV.out (Keeps.trans (ky_drew _) hv)); have zv := CY.out _ HV.out; clear hv)
          | (go_at_call 46; (with_reducible refine (CLt.out _).mono ?_); clear CLt; rintro e wv4 ⟨rfl, hv⟩; have HV : Hid (Keeps wq wv4) := Lib.hid (hv ▸ HV.out); have zv := CY.out _ HV.out; clear hv)
          | (go_at_call 43; (refine (CLn.out _).mono ?_); clear CLn; rintro e wv5 ⟨rfl, hv⟩; have HV := Lib.hid (Keeps.trans HV.out hv); have zv := CY.out _ HV.out; clear hv)
          | (go_at_call 42; (refine (CWr.out _ (HW.out.on (Keeps.trans AX.out HV.out))).mono ?_); clear CWr; rintro e wv6 ⟨⟨nn6, rfl⟩, t6, o6⟩; have T6 := Lib.hid t6; have zv := RBX.out _ _ HV.out o6; have ZV := Lib.hid zv; clear t6 o6))
        clear y0 y1 y2 y3 y4
        obtain ⟨y0, y1, y2, y3, y4⟩ := ZV.out
        have HT' : Hid (t + x.a = totA (L.take (k + 1))) := Lib.hid (by rw [TK.out, ← HT.out])
        go_wp2
        exact ⟨⟨k + 1, t + x.a, by have := HK.out; omega, rfl, by go_num, HT'.out, T6.out⟩, by have := HK.out; simp [intOf]; omega⟩
      · obtain rfl : k = N := by omega
        have EL : Hid (L.take k = L) := Lib.hid (List.take_of_length_le (by rw [HN.out]; exact Nat.le_refl _))
        have TT : Hid (totA L = t) := Lib.hid (by rw [HT.out, EL.out])
        have HW : Hid (TwText w1 w1.heap.size (headF s ++ L.flatMap rowF) wr) := Lib.hid (by have := HW.out; rwa [EL.out] at this)
        have SL : Hid ((headF s ++ L.flatMap rowF).length ≤ 11620) := Lib.hid (by have := SS.out; rwa [EL.out] at this)
        obtain ⟨P2, hP2⟩ : ∃ P : ByteArray, ⟨(Mon.pad (k : Int) 6).toArray⟩ = P := ⟨_, rfl⟩
        obtain ⟨P3, hP3⟩ : ∃ P : ByteArray, ⟨(Mon.pad t 16).toArray⟩ = P := ⟨_, rfl⟩
        have HP2 := Lib.hid hP2
        have HP3 := Lib.hid hP3
        obtain ⟨HX, hHX⟩ : ∃ P : ByteArray, ⟨(trailF L).toArray⟩ = P := ⟨_, rfl⟩
        have HHX := Lib.hid hHX
        have CP2 : Hid (∀ W, Calls Tryz.prog 44 #[.int .i64 (k : Int), .int .i64 6] W fun e w' => e = .returned (.string P2) ∧ Keeps W w') := Lib.hid fun W => hP2 ▸ pad_any (k : Int) 6 W (by unfold I64 top; omega)
        have CP3 : Hid (∀ W, Calls Tryz.prog 44 #[.int .i64 t, .int .i64 16] W fun e w' => e = .returned (.string P3) ∧ Keeps W w') := Lib.hid fun W => hP3 ▸ pad_any t 16 W (by unfold I64 top; omega)
        have CLn : Hid (∀ W : World, Calls Tryz.prog 43 #[.string ⟨#[84]⟩, .slice (some ⟨W.heap.size, 0, none⟩) 2 2] (W.alloc (.cells #[.string P2, .string P3] tS)) fun e w' => e = .returned (.string HX) ∧ Keeps W w') := Lib.hid fun W => by
          have := se_line 84 wT se_widthsT (.slice (some ⟨W.heap.size, 0, none⟩) 2 2) [Mon.pad (k : Int) 6, Mon.pad t 16] 2 (W.alloc (.cells #[.string P2, .string P3] tS)) (lit_src (by rw [← HP2.out, ← HP3.out]; rfl) rfl (by simp [maxLen])) rfl (by omega) (short_trail (k : Int) t) (pr_small (k := 24) (by have e := trail_len VA.out.good.each VA.out.good.len; unfold trailF at e; rw [HN.out, TT.out] at e; exact e) (by omega))
          rw [← HHX.out]
          unfold trailF
          rw [HN.out, TT.out]
          exact this.mono fun e w' h => ⟨h.1, Keeps.trans (ky_box W _) h.2⟩
        have CWr : Hid (∀ W, TwText w1 w1.heap.size (headF s ++ L.flatMap rowF) W → Calls Tryz.prog 42 #[.pointer (some ⟨w1.heap.size, 0, none⟩), .string HX] W fun e w' => (∃ n : Int, e = .returned (.tuple #[.int .i64 n, .nilIface])) ∧ TwText w1 w1.heap.size (fileL s L) w') := Lib.hid fun W hW => by
          rw [← HHX.out]
          exact twText_string w1 W w1.heap.size _ (trailF L) hW (by have := SL.out; omega) (by rw [trail_len VA.out.good.each VA.out.good.len]; omega)
        clear hP2 hP3 hHX hlt
        go_wp2_with fail
        refine (CP2.out _).mono ?_
        rintro e w5 ⟨rfl, k5⟩
        have T5 := Lib.hid (HW.out.on k5)
        clear k5 CP2
        go_wp2_with fail
        refine (CP3.out _).mono ?_
        rintro e w6 ⟨rfl, k6⟩
        have T6 := Lib.hid (T5.out.on k6)
        clear k6 CP3 T5 x0 x1 x2
        go_wp2_with fail
        refine (CLn.out _).mono ?_
        rintro e w7 ⟨rfl, k7⟩
        have CWr := Lib.hid (CWr.out _ (T6.out.on k7))
        clear k7 CLn T6
        go_wp2_with fail
        refine CWr.out.mono ?_
        rintro e w8 ⟨⟨n8, rfl⟩, t8⟩
        have CS := Lib.hid (twText_done w1 w8 w1.heap.size (fileL s L) t8)
        clear t8 CWr
        go_wp2_with fail
        refine CS.out.mono ?_
        rintro e w9 ⟨rfl, k9⟩
        have K9 := Lib.hid (Keeps.trans KB.out (Keeps.trans K1.out k9))
        clear k9 CS
        go_wp2
        go_ret2
        exact ⟨ret_si EO.out.1.symm EO.out.2.symm, K9.out⟩
end Go.Proofs.YtomonhghioamfaaGreatDoor
