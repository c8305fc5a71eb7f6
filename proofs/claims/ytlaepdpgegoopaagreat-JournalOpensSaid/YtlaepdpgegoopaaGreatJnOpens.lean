
/- The walk of JournalOpens. -/
import Derived.Test.YtlaepdpgegoopaaGreatJnBoth
import Derived.Deep.RegionHeld3
import Derived.Deep.RegionWith
import Derived.Deep.RegionLaw
import Derived.Deep.QuietTactic
import Derived.Deep.Cut
set_option linter.unusedVariables false
namespace Go.Proofs.YtlaepdpgegoopaaGreat
open Go.ChangeShapes Go.WideShapes Go.ChangeAt Go.RowKit Csv Dk Jn

theorem good_new : Good 0 (newD 200000) := ⟨rfl, rfl, rfl, rfl⟩
theorem half_new {w w1 w2 : World} {d r : Nat} {D R : DiskM} {G GR : List Nat} (h1 : IsDisk w1 d D G) (k1 : Keeps w w1) (n1 : ∀ x ∈ G, w.heap.size ≤ x) (h2 : IsRef w2 r R GR) (k2 : Keeps w1 w2) (n2 : ∀ x ∈ GR, w1.heap.size ≤ x) : Half w d r D R w2 := by
  have := k1.size
  refine ⟨G, GR, ⟨h1.keeps k2, h2, fun x hx hr => ?_⟩, fun x hx => ?_, k1.trans k2⟩
  · have := h1.lt x hx
    have := n2 x hr
    omega
  · rcases List.mem_append.1 hx with hx | hx
    · exact n1 x hx
    · have := n2 x hx; omega

set_option maxRecDepth 100000 in
set_option maxHeartbeats 4000000 in
theorem journalOpens_big (v : Value) (L : List FileIn) (P S : ByteArray) (w : World) (hv : FilesInAt w v L) (hb : 8 < L.length ∨ 3000 < P.size ∨ 3000 < S.size) :
    Calls Tryz.prog 3 #[v, .string P, .string S] w fun e w' => e = .returned (.bool true) ∧ Keeps w w' := by
  obtain ⟨p, c, rfl, lL, hL⟩ := hv
  obtain ⟨N, hN⟩ : ∃ N, L.length = N := ⟨_, rfl⟩
  rw [hN] at lL hb ⊢
  unfold maxLen at lL
  clear hL hN
  by_cases c1 : 8 < N
  · have t1 : decide ((8 : Int) < (N : Int)) = true := decide_eq_true (by omega)
    clear hb c1
    go_enter Tryz.func3, Tryz.ntmps3
    go_wp2_with fail
    refine (kept_any _).mono ?_
    rintro e w1 ⟨rfl, k1⟩
    go_wp2
    go_ret
    exact ⟨rfl, k1⟩
  have t1 : decide ((8 : Int) < (N : Int)) = false := decide_eq_false (by omega)
  by_cases c2 : 3000 < P.size
  · have t2 : decide ((3000 : Int) < (P.size : Int)) = true := decide_eq_true (by omega)
    clear hb c1 c2
    go_enter Tryz.func3, Tryz.ntmps3
    go_wp2_with fail
    refine (kept_any _).mono ?_
    rintro e w1 ⟨rfl, k1⟩
    go_wp2
    go_ret
    exact ⟨rfl, k1⟩
  have t2 : decide ((3000 : Int) < (P.size : Int)) = false := decide_eq_false (by omega)
  have t3 : decide ((3000 : Int) < (S.size : Int)) = true := decide_eq_true (by omega)
  clear hb c1 c2
  go_enter Tryz.func3, Tryz.ntmps3
  go_wp2_with fail
  refine (kept_any _).mono ?_
  rintro e w1 ⟨rfl, k1⟩
  go_wp2
  go_ret
  exact ⟨rfl, k1⟩

set_option maxRecDepth 100000 in
set_option maxHeartbeats 60000000 in
theorem journalOpens_go (v : Value) (L : List FileIn) (P S : ByteArray) (w : World) (hv : FilesInAt w v L) (h8 : L.length ≤ 8) (hP : P.size ≤ 3000) (hS : S.size ≤ 3000) :
    Calls Tryz.prog 3 #[v, .string P, .string S] w fun e w' => e = .returned (.bool true) ∧ Keeps w w' := by
  obtain ⟨p, c, rfl, lL, hL⟩ := hv
  obtain ⟨N, hN⟩ : ∃ N, L.length = N := ⟨_, rfl⟩
  have HL := Lib.hid hL
  have HN := Lib.hid hN
  rw [hN] at lL h8 ⊢
  clear hL hN lL
  have C1 : Hid (Calls Tryz.prog 5 #[.int .i64 200000] w fun e w' => ∃ d G, e = .returned (.tuple #[ptrV d, .int .i64 0]) ∧ IsDisk w' d (newD 200000) G ∧ Keeps w w' ∧ ∀ b ∈ G, w.heap.size ≤ b) := Lib.hid (newD_any 200000 w (by omega))
  have C2 : Hid (∀ W, Calls Tryz.prog 6 #[.int .i64 200000] W fun e w' => ∃ r G, e = .returned (.tuple #[ptrV r, .int .i64 0]) ∧ IsRef w' r (newD 200000) G ∧ Keeps W w' ∧ ∀ b ∈ G, W.heap.size ≤ b) := Lib.hid fun W => rnew_any 200000 W (by omega)
  have t1 : decide ((8 : Int) < (N : Int)) = false := decide_eq_false (by omega)
  have t2 : decide ((3000 : Int) < (P.size : Int)) = false := decide_eq_false (by omega)
  have t3 : decide ((3000 : Int) < (S.size : Int)) = false := decide_eq_false (by omega)
  unfold ptrV at *
  go_enter Tryz.func3, Tryz.ntmps3
  go_wp2_with fail
  refine C1.out.mono ?_
  rintro e w1 ⟨d, G, rfl, i1, k1, n1⟩
  go_wp2_with fail
  refine (C2.out _).mono ?_
  rintro e w2 ⟨r, GR, rfl, i2, k2, n2⟩
  have H0 := Lib.hid (half_new i1 k1 n1 i2 k2 n2)
  clear i1 k1 n1 i2 k2 n2 C1 C2
  go_wp2
  go_loopw [11] (fun vi wr => ∃ (k : Nat) (D : DiskM), k ≤ N ∧ vi = .int .i64 (k : Int) ∧ Good 0 D ∧ Half w d r D D wr) (fun vi _ => N - (intOf vi).toNat)
  case atStart => exact ⟨0, newD 200000, by omega, rfl, good_new, H0.out⟩
  case round =>
    obtain ⟨k, D, hk, rfl, hg, ho⟩ := hrel
    have HG := Lib.hid hg
    have HO := Lib.hid ho
    clear hg ho H0
    by_cases hlt : k < N
    · obtain ⟨⟨n, s⟩, hx⟩ : ∃ x, L[k]? = some x := ⟨_, List.getElem?_eq_getElem (by have := HN.out; omega)⟩
      obtain ⟨gd, a, rfl, q0, q1⟩ := HL.out k _ hx
      have hi1 : (k : Int) < (N : Int) := by omega
      obtain ⟨gn, gs⟩ := gd
      simp only at q0 q1 gn gs
      have q0' := cell_keeps HO.out.kept q0
      have q1' := cell_keeps HO.out.kept q1
      clear hx
      by_cases c4 : 3000 < s.size
      · have t4 : decide ((3000 : Int) < (s.size : Int)) = true := decide_eq_true (by omega)
        go_wp2_with fail
        refine (kept_any _).mono ?_
        rintro e w3 ⟨rfl, k3⟩
        go_wp2
        go_ret
        exact ⟨rfl, HO.out.kept.trans k3⟩
      · have t4 : decide ((3000 : Int) < (s.size : Int)) = false := decide_eq_false (by omega)
        obtain ⟨⟨x1, D1⟩, hx1⟩ : ∃ y, createD D n = y := ⟨_, rfl⟩
        obtain ⟨⟨x2, D2⟩, hx2⟩ : ∃ y, appendD D1 n s.data.toList = y := ⟨_, rfl⟩
        have g1 := good_create HG.out n
        rw [hx1] at g1
        have g2 := good_append g1 n s.data.toList
        simp only at g2
        rw [hx2] at g2
        have G2 := Lib.hid g2
        have GN := Lib.hid gn
        have K0 : Hid (∀ W, Keeps W W.drew) := Lib.hid fun W => ⟨rfl, rfl, rfl, Nat.le_refl _, fun _ _ => rfl⟩
        have QQ : Hid (∀ D R W, Half w d r D R W → W.cell? (a.add (k * 2)) = some (.int .i64 n) ∧ W.cell? ⟨(a.add (k * 2)).block, (a.add (k * 2)).off + 1, none⟩ = some (.string s)) := Lib.hid fun D R W h => ⟨cell_keeps h.kept q0, cell_keeps h.kept q1⟩
        have C1 : Hid (∀ W, Half w d r D D W → Calls Tryz.prog 7 #[.pointer (some ⟨d, 0, none⟩), .int .i64 n] W fun e w' => e = .returned (.int .i64 x1) ∧ Half w d r D1 D w') := Lib.hid fun W h => by
          have := create_half h GN.out
          rw [hx1] at this
          exact this
        have C2 : Hid (∀ W, Half w d r D1 D W → Calls Tryz.prog 8 #[.pointer (some ⟨r, 0, none⟩), .int .i64 n] W fun e w' => e = .returned (.int .i64 x1) ∧ Half w d r D1 D1 w') := Lib.hid fun W h => by
          have := rcreate_half h GN.out
          rw [hx1] at this
          exact this
        have C3 : Hid (∀ W, Half w d r D1 D1 W → Calls Tryz.prog 9 #[.pointer (some ⟨d, 0, none⟩), .int .i64 n, .string s] W fun e w' => e = .returned (.int .i64 x2) ∧ Half w d r D2 D1 w') := Lib.hid fun W h => by
          have := append_half h GN.out (s := s) (by unfold maxLen; omega)
          rw [hx2] at this
          exact this
        have C4 : Hid (∀ W, Half w d r D2 D1 W → Calls Tryz.prog 10 #[.pointer (some ⟨r, 0, none⟩), .int .i64 n, .string s] W fun e w' => e = .returned (.int .i64 x2) ∧ Half w d r D2 D2 w') := Lib.hid fun W h => by
          have := rappend_half h (s := s) (n := n) (by unfold maxLen; omega)
          rw [hx2] at this
          exact this
        clear hx1 hx2 g1 g2 gn c4
        have t5 : (x1 != x1) = false := by simp
        have t6 : (x2 != x2) = false := by simp
        go_wp2
        go_region_held3 (fun W => W.cell? (a.add (k * 2)) = some (.int .i64 n) ∧ W.cell? ⟨(a.add (k * 2)).block, (a.add (k * 2)).off + 1, none⟩ = some (.string s))
          (first | exact QQ.out _ _ _ (HO.out.keeps (K0.out _)) | exact QQ.out _ _ _ H3.out | exact QQ.out _ _ _ H4.out | exact QQ.out _ _ _ H5.out | exact QQ.out _ _ _ H6.out | go_keep) (first
          | (go_at_call 7; refine (C1.out _ (HO.out.keeps (K0.out _))).mono ?_; rintro e w3 ⟨rfl, h3⟩; have H3 := Lib.hid h3; clear h3)
          | (go_at_call 8; refine (C2.out _ H3.out).mono ?_; rintro e w4 ⟨rfl, h4⟩; have H4 := Lib.hid h4; clear h4)
          | (go_at_call 9; refine (C3.out _ H4.out).mono ?_; rintro e w5 ⟨rfl, h5⟩; have H5 := Lib.hid h5; clear h5)
          | (go_at_call 10; refine (C4.out _ H5.out).mono ?_; rintro e w6 ⟨rfl, h6⟩; have H6 := Lib.hid h6; clear h6))
        go_wp2
        go_roundw
        case rel => exact ⟨k + 1, D2, by omega, by go_num, G2.out, H6.out⟩
        case measure => simp [intOf]; omega
    · obtain rfl : k = N := by omega
      have hz : ¬ ((k : Int) < (k : Int)) := by omega
      have HK := Lib.hid (show Okay D by obtain ⟨G, GR, h1, _⟩ := HO.out; exact h1.disk.okay)
      have HC := Lib.hid (show D.cap ≤ 1000000 by rw [HG.out.2.2.1]; omega)
      have SNIL : Hid (∀ W, StrsAt W (.slice none 0 0) []) := Lib.hid fun W => ⟨none, 0, rfl, by simp [maxLen], fun j x hx => by simp at hx⟩
      go_wp2_with fail
      refine (jopen_half HO.out HG.out.2.1 HC.out).mono ?_
      rintro e w3 (⟨x, D', e1, e2, rfl, h3⟩ | ⟨D', J, s, l, b, v, e1, rfl, h3, tx⟩)
      · have GD := Lib.hid (good_open HG.out e1)
        have CO := Lib.hid (ropen_no h3 HG.out.2.1 HC.out e1)
        clear e1 h3
        unfold ptrV at *
        go_wp2_with fail
        refine CO.out.mono ?_
        rintro e w4 ⟨rfl, h4⟩
        have H4 := Lib.hid h4
        have CT : Hid (∀ W, Half w d r D' D' W → Calls Tryz.prog 13 #[.slice none 0 0, .slice none 0 0] W fun e w' => e = .returned (.bool true) ∧ Half w d r D' D' w') := Lib.hid fun W h => (texts_any _ _ [] [] W (SNIL.out W) (SNIL.out W)).mono fun e w' ⟨e1, k⟩ => ⟨by rw [e1]; simp, h.keeps k⟩
        have CS : Hid (∀ W, Half w d r D' D' W → Calls Tryz.prog 14 #[.pointer (some ⟨d, 0, none⟩), .pointer (some ⟨r, 0, none⟩)] W fun e w' => e = .returned (.bool true) ∧ Half w d r D' D' w') := Lib.hid fun W h => h.same GD.out.1
        have tx : (x != x) = false := by simp
        clear h4 CO
        go_wp2_with fail
        refine (CT.out _ H4.out).mono ?_
        rintro e w5 ⟨rfl, h5⟩
        have H5 := Lib.hid h5
        clear h5
        go_wp2_with fail
        refine (CS.out _ H5.out).mono ?_
        rintro e w6 ⟨rfl, h6⟩
        have H6 := Lib.hid h6
        clear h6
        go_wp2_with fail
        refine (kept_any _).mono ?_
        rintro e w7 ⟨rfl, k7⟩
        go_wp2
        go_ret
        exact ⟨rfl, H6.out.kept.trans k7⟩
      · have GD := Lib.hid (good_open HG.out e1)
        have HB := Lib.hid (open_nums HK.out HG.out e1)
        have CO := Lib.hid (ropen_yes h3 HG.out.2.1 HC.out e1 tx)
        obtain ⟨SB, hSB⟩ : ∃ SB, sv s = .string SB := ⟨_, rfl⟩
        rw [hSB] at CO
        rw [hSB]
        clear e1 h3 hSB tx
        unfold ptrV at *
        go_wp2_with fail
        refine CO.out.mono ?_
        rintro e w4 ⟨q, v2, rfl, h4, s4, s5⟩
        have H4 := Lib.hid h4
        have S4 := Lib.hid s4
        have S5 := Lib.hid s5
        obtain ⟨vp, vc, rfl, _⟩ := s4
        obtain ⟨up_, uc, rfl, _⟩ := s5
        have CT : Hid (Calls Tryz.prog 13 #[.slice vp l.length vc, .slice up_ l.length uc] w4 fun e w' => e = .returned (.bool true) ∧ Full w d r b q D' D' J J w') := Lib.hid ((texts_any _ _ l l _ S4.out S5.out).mono fun e w' ⟨e1, k⟩ => ⟨by rw [e1]; simp, H4.out.keeps k⟩)
        have CS : Hid (∀ W, Full w d r b q D' D' J J W → Calls Tryz.prog 14 #[.pointer (some ⟨d, 0, none⟩), .pointer (some ⟨r, 0, none⟩)] W fun e w' => e = .returned (.bool true) ∧ Full w d r b q D' D' J J w') := Lib.hid fun W h => h.same GD.out.1
        have t7 : decide (SB = SB) = true := decide_eq_true rfl
        clear h4 CO
        unfold ptrV at *
        go_wp2_with fail
        refine CT.out.mono ?_
        rintro e w5 ⟨rfl, h5⟩
        have H5 := Lib.hid h5
        clear h5
        go_wp2_with fail
        refine (CS.out _ H5.out).mono ?_
        rintro e w6 ⟨rfl, h6⟩
        have H6 := Lib.hid h6
        clear h6
        have HPm := Lib.hid (show P.size ≤ maxLen by unfold maxLen; omega)
        have HSm := Lib.hid (show S.size ≤ maxLen by unfold maxLen; omega)
        have hst : D'.starts = J.starts := by rw [GD.out.2.2.2, HB.out.2.2.2.2]
        have na := ne_app GD.out J P.data.toList
        have ga := good_app GD.out J P.data.toList
        have fa := app_file D' J P.data.toList
        obtain ⟨⟨⟨xa, Da⟩, Ja⟩, hxa⟩ : ∃ y, appJ D' J P.data.toList = y := ⟨_, rfl⟩
        have A1 : Hid (∀ W, Full w d r b q D' D' J J W → Calls Tryz.prog 15 #[.pointer (some ⟨b, 0, none⟩), .string P] W fun e w' => e = .returned (.int .i64 xa) ∧ Full w d r b q Da D' Ja J w') := Lib.hid fun W h => by
          have := full_j (f := 15) (av := #[ptrV b, .string P]) h na fun G hj => japp_any b d D' J G P W hj GD.out.2.1 hst HPm.out HB.out.2.2.1 HB.out.2.2.2.1 (by have := HB.out; unfold I64 top; omega)
          rw [hxa] at this
          exact this
        have A2 : Hid (∀ W, Full w d r b q Da D' Ja J W → Calls Tryz.prog 16 #[.pointer (some ⟨q, 0, none⟩), .string P] W fun e w' => e = .returned (.int .i64 xa) ∧ Full w d r b q Da Da Ja Ja w') := Lib.hid fun W h => by
          have := full_r (f := 16) (av := #[ptrV q, .string P]) h na fun G hj => rapp8_any q r D' J G P W hj GD.out.2.1 hst HPm.out HB.out.2.2.1 HB.out.2.2.2.1 (by have := HB.out; unfold I64 top; omega)
          rw [hxa] at this
          exact this
        rw [hxa] at na ga fa
        simp only at na ga fa
        have GA := Lib.hid ga
        have hst2 : Da.starts = Ja.starts := by rw [GA.out.2.2.2, fa.2, HB.out.2.2.2.2]
        have hf0 : 0 ≤ Ja.file := by rw [fa.1]; exact HB.out.1
        have hf1 : Ja.file ≤ 9223372036854775807 := by rw [fa.1]; exact HB.out.2.1
        have nc := ne_com GA.out Ja S.data.toList
        have gc := good_com GA.out Ja S.data.toList
        obtain ⟨⟨⟨xc, Dc⟩, Jc⟩, hxc⟩ : ∃ y, comJ Da Ja S.data.toList = y := ⟨_, rfl⟩
        have A3 : Hid (∀ W, Full w d r b q Da Da Ja Ja W → Calls Tryz.prog 17 #[.pointer (some ⟨b, 0, none⟩), .string S] W fun e w' => e = .returned (.int .i64 xc) ∧ Full w d r b q Dc Da Jc Ja w') := Lib.hid fun W h => by
          have := full_j (f := 17) (av := #[ptrV b, .string S]) h nc fun G hj => jcom_any b d Da Ja G S W hj GA.out.2.1 hst2 HSm.out hf0 hf1
          rw [hxc] at this
          exact this
        have A4 : Hid (∀ W, Full w d r b q Dc Da Jc Ja W → Calls Tryz.prog 18 #[.pointer (some ⟨q, 0, none⟩), .string S] W fun e w' => e = .returned (.int .i64 xc) ∧ Full w d r b q Dc Dc Jc Jc w') := Lib.hid fun W h => by
          have := full_r (f := 18) (av := #[ptrV q, .string S]) h nc fun G hj => rcom8_any q r Da Ja G S W hj GA.out.2.1 hst2 HSm.out hf0 hf1
          rw [hxc] at this
          exact this
        rw [hxc] at gc
        have GC := Lib.hid gc
        have A5 : Hid (∀ W, Full w d r b q Dc Dc Jc Jc W → Calls Tryz.prog 19 #[.pointer (some ⟨b, 0, none⟩)] W fun e w' => e = .returned (.int .i64 (Jc.bytes : Int)) ∧ W = w') := Lib.hid fun W ⟨_, _, h, _⟩ => jsize_any b d Jc W h.jn
        have A6 : Hid (∀ W, Full w d r b q Dc Dc Jc Jc W → Calls Tryz.prog 20 #[.pointer (some ⟨b, 0, none⟩)] W fun e w' => e = .returned (.int .i64 (Jc.many : Int)) ∧ W = w') := Lib.hid fun W ⟨_, _, h, _⟩ => jents_any b d Jc W h.jn
        have A7 : Hid (∀ W, Full w d r b q Dc Dc Jc Jc W → Calls Tryz.prog 14 #[.pointer (some ⟨d, 0, none⟩), .pointer (some ⟨r, 0, none⟩)] W fun e w' => e = .returned (.bool true) ∧ Full w d r b q Dc Dc Jc Jc w') := Lib.hid fun W h => h.same GC.out.1
        have QC : Hid (∀ W, Full w d r b q Dc Dc Jc Jc W → W.cell? ⟨q, 2, none⟩ = some (.int .i64 (Jc.bytes : Int)) ∧ W.cell? ⟨q, 3, none⟩ = some (.int .i64 (Jc.many : Int))) := Lib.hid fun W ⟨_, _, _, h, _⟩ => ⟨h.jn.cells.2.2.1, h.jn.cells.2.2.2.1⟩
        have u1 : (xa == xa) = true := by simp
        have u2 : (xc == xc) = true := by simp
        have u3 : ((Jc.bytes : Int) == (Jc.bytes : Int)) = true := by simp
        have u4 : ((Jc.many : Int) == (Jc.many : Int)) = true := by simp
        clear hxa hxc na ga fa nc gc hst hst2 hf0 hf1 CT CS H5 H4 HB
        go_wp2
        clear HPm HSm GA GC
        go_region_with (first
          | (go_at_call 15; refine (A1.out _ ?_).mono ?_; (first | exact H6.out | exact H6.out.keeps (kdrew0 _)); rintro e w7 ⟨rfl, h7⟩; have H7 := Lib.hid h7; clear h7)
          | (go_at_call 16; refine (A2.out _ ?_).mono ?_; (first | exact H7.out | exact H7.out.keeps (kdrew0 _)); rintro e w8 ⟨rfl, h8⟩; have H8 := Lib.hid h8; clear h8)
          | (go_at_call 17; refine (A3.out _ ?_).mono ?_; (first | exact H8.out | exact H8.out.keeps (kdrew0 _)); rintro e w9 ⟨rfl, h9⟩; have H9 := Lib.hid h9; clear h9)
          | (go_at_call 18; refine (A4.out _ ?_).mono ?_; (first | exact H9.out | exact H9.out.keeps (kdrew0 _)); rintro e w10 ⟨rfl, h10⟩; have H10 := Lib.hid h10; clear h10; have z2 := (QC.out _ H10.out).1; have z3 := (QC.out _ H10.out).2)
          | (go_at_call 19; refine (A5.out _ ?_).mono ?_; (first | exact H10.out | exact H10.out.keeps (kdrew0 _)); rintro e w11 ⟨rfl, rfl⟩)
          | (go_at_call 20; refine (A6.out _ ?_).mono ?_; (first | exact H10.out | exact H10.out.keeps (kdrew0 _)); rintro e w11 ⟨rfl, rfl⟩)
          | (go_at_call 14; refine (A7.out _ ?_).mono ?_; (first | exact H10.out | exact H10.out.keeps (kdrew0 _)); rintro e w12 ⟨rfl, h12⟩; have H12 := Lib.hid h12; clear h12)
          | (go_at_call 4; refine (kept_any _).mono ?_; rintro e w13 ⟨rfl, k13⟩))
        all_goals go_wp2
        all_goals (go_ret; exact ⟨rfl, H12.out.kept.trans k13⟩)
end Go.Proofs.YtlaepdpgegoopaaGreat
