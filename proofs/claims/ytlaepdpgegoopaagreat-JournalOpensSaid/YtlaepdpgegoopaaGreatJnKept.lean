
/- Texts of any two rows; opens; the chapter's journal. -/
import Derived.Test.YtlaepdpgegoopaaGreatJnOwn2
import Derived.Test.YtlaepdpgegoopaaGreatRecLaws
import Derived.Test.YtlaepdpgegoopaaGreatLies
set_option linter.unusedVariables false
namespace Go.Proofs.YtlaepdpgegoopaaGreat
open Go.ChangeShapes Go.WideShapes Go.ChangeAt Go.RowKit Csv Dk Jn

set_option maxHeartbeats 1000000 in
theorem texts_any (v1 v2 : Value) (A B : List Bs) (w : World) (h1 : StrsAt w v1 A) (h2 : StrsAt w v2 B) :
    Calls Tryz.prog 13 #[v1, v2] w fun e w' => e = .returned (.bool (decide (A = B))) ∧ Keeps w w' := by
  obtain ⟨p1, c1, rfl, lA, hA⟩ := h1
  obtain ⟨p2, c2, rfl, lB, hB⟩ := h2
  obtain ⟨N, hN⟩ : ∃ N, A.length = N := ⟨_, rfl⟩
  obtain ⟨N2, hN2⟩ : ∃ N, B.length = N := ⟨_, rfl⟩
  have HA := Lib.hid hA
  have HB := Lib.hid hB
  have HN := Lib.hid hN
  have HN2 := Lib.hid hN2
  rw [hN] at lA ⊢
  rw [hN2] at lB ⊢
  unfold maxLen at lA lB
  clear hA hB hN hN2
  by_cases hl : N = N2
  · subst hl
    go_enter Tryz.func13, Tryz.ntmps13
    go_wp2
    go_loopw [5] (fun i wr => ∃ k : Nat, k ≤ N ∧ i = .int .i64 (k : Int) ∧ A.take k = B.take k ∧ Keeps w wr) (fun i _ => N - (intOf i).toNat)
    case atStart => exact ⟨0, by omega, rfl, by simp, Keeps.refl _⟩
    case round =>
      obtain ⟨k, hk, rfl, htk, hkw⟩ := hrel
      have HK := Lib.hid hkw
      have HT := Lib.hid htk
      clear htk
      by_cases hlt : k < N
      · obtain ⟨x, hx⟩ : ∃ x, A[k]? = some x := ⟨_, List.getElem?_eq_getElem (by have := HN.out; omega)⟩
        obtain ⟨y, hy⟩ : ∃ x, B[k]? = some x := ⟨_, List.getElem?_eq_getElem (by have := HN2.out; omega)⟩
        obtain ⟨a1, rfl, q1⟩ := HA.out k x hx
        obtain ⟨a2, rfl, q2⟩ := HB.out k y hy
        have q1' := cell_keeps hkw q1
        have q2' := cell_keeps hkw q2
        obtain ⟨X, hX⟩ : ∃ X : ByteArray, (⟨x.toArray⟩ : ByteArray) = X := ⟨_, rfl⟩
        obtain ⟨Y, hY⟩ : ∃ X : ByteArray, (⟨y.toArray⟩ : ByteArray) = X := ⟨_, rfl⟩
        have HXx := Lib.hid (show X.toList = x by rw [← hX, ByteArray.toList_eq])
        have HYy := Lib.hid (show Y.toList = y by rw [← hY, ByteArray.toList_eq])
        unfold sv at q1' q2'
        rw [hX] at q1'
        rw [hY] at q2'
        have hi1 : (k : Int) < (N : Int) := by omega
        have HX := Lib.hid hx
        have HY := Lib.hid hy
        clear hx hy q1 q2 hkw hX hY
        by_cases hxy : x = y
        · have t1 : (X.toList == Y.toList) = true := by rw [HXx.out, HYy.out, hxy]; simp
          have t2 : (X.toList != Y.toList) = false := by rw [HXx.out, HYy.out, hxy]; simp
          have HT2 := Lib.hid (show A.take (k + 1) = B.take (k + 1) by rw [List.take_add_one, List.take_add_one, HT.out, HX.out, HY.out, hxy])
          clear hxy
          go_wp2
          go_quiet (fail)
          go_wp2
          go_roundw
          case rel => exact ⟨k + 1, by omega, by go_num, HT2.out, keeps_drewN HK.out _⟩
          case measure => simp [intOf]; omega
        · have t1 : (X.toList == Y.toList) = false := by rw [HXx.out, HYy.out]; simpa using hxy
          have t2 : (X.toList != Y.toList) = true := by rw [HXx.out, HYy.out]; simpa using hxy
          have HD := Lib.hid (show decide (A = B) = false from decide_eq_false fun e => by have a := HX.out; rw [e, HY.out] at a; exact hxy (Option.some.inj a).symm)
          clear hxy
          go_wp2
          go_quiet (fail)
          go_wp2
          go_ret
          rw [HD.out]
          exact ⟨rfl, keeps_drewN HK.out _⟩
      · obtain rfl : k = N := by omega
        have hz : ¬ ((k : Int) < (k : Int)) := by omega
        have HD := Lib.hid (show decide (A = B) = true from decide_eq_true (by
          have a := HT.out
          rw [List.take_of_length_le (by rw [HN.out]; exact Nat.le_refl _), List.take_of_length_le (by rw [HN2.out]; exact Nat.le_refl _)] at a
          exact a))
        clear hkw
        go_wp2
        go_ret
        rw [HD.out]
        exact ⟨rfl, HK.out⟩
  · have t1 : ((N : Int) == (N2 : Int)) = false := by simp; omega
    have t2 : ((N : Int) != (N2 : Int)) = true := by simp; omega
    have t3 : (N == N2) = false := by simpa using hl
    have t4 : (N != N2) = true := by simpa using hl
    have HD := Lib.hid (show decide (A = B) = false from decide_eq_false fun e => hl (by rw [← HN.out, ← HN2.out, e]))
    clear hl
    go_enter Tryz.func13, Tryz.ntmps13
    go_wp2
    go_ret
    rw [HD.out]
    exact ⟨rfl, Keeps.refl _⟩

set_option maxHeartbeats 1000000 in
theorem opens_any {w0 W : World} {C : Nat} {M : Int} {d : Nat} {R l : List Bs} {rows : Rows} (S : ByteArray) (vE : Value)
    (co : Calls Tryz.prog 11 #[ptrV d] W fun e w' => ∃ b v, e = .returned (.tuple #[ptrV b, .string S, v, .int .i64 0]) ∧ OwnJ w0 C M d b R ((v, l) :: rows) true w')
    (hE : ∀ w', (∃ b v, OwnJ w0 C M d b R ((v, l) :: rows) true w') → StrsAt w' vE l) :
    Calls Tryz.prog 21 #[ptrV d, .string S, vE] W fun e w' => ∃ b, e = .returned (.tuple #[ptrV b, .bool true]) ∧ OwnJ w0 C M d b R rows true w' := by
  have CO := Lib.hid co
  have HE := Lib.hid hE
  clear co hE
  unfold ptrV at *
  go_enter Tryz.func21, Tryz.ntmps21
  go_wp2_with fail
  refine CO.out.mono ?_
  rintro e w1 ⟨b, v, rfl, ho⟩
  have HO := Lib.hid ho
  have CT := Lib.hid (texts_any v vE l l w1 (ho.texts (p := (v, l)) (by simp)).1 (HE.out w1 ⟨b, v, ho⟩))
  rw [decide_eq_true (rfl : l = l)] at CT
  clear ho CO HE
  go_wp2_with fail
  refine CT.out.mono ?_
  rintro e w2 ⟨rfl, k2⟩
  have HO2 := Lib.hid ((HO.out.less (rows' := rows) fun p hp => by simp [hp]).keeps k2)
  clear k2
  go_wp2
  go_ret2
  exact ⟨b, rfl, HO2.out⟩

/-- Texts that a literal lays stay. -/
theorem lit_stays (W : World) {cs : Array Value} {r : List Bs} {n : Nat} (hcs : cs = (svs r).toArray) (hn : n = r.length) (hm : r.length ≤ maxLen) (G : List Nat) (hG : ∀ x ∈ G, x < W.heap.size) : Stays G (W.alloc (.cells cs tS)) (.slice (some ⟨W.heap.size, 0, none⟩) n n) r := by
  intro w' f
  refine ⟨?_, fun p a c e => by cases e; exact Nat.le_refl _⟩
  subst hcs hn
  refine ⟨_, _, rfl, hm, fun j x hx => ⟨_, rfl, ?_⟩⟩
  rw [addr_of]
  have hc : (W.alloc (.cells (svs r).toArray tS)).cell? ⟨W.heap.size, j, none⟩ = some (sv x) := by
    rw [World.cell?_alloc_at _ _ _ _ rfl]; simp [svs, hx]
  rw [World.cell?_of_block (w := W.alloc (.cells (svs r).toArray tS)) (f.block _ (by simp) fun hx => by have := hG _ hx; simp at this)]
  exact hc
/-- So many bytes, made and turned into a text. -/
theorem noughts (n : Nat) (hn : n ≤ 281474976710656) : ∃ X : ByteArray, X.size = n ∧ X.data.toList = List.replicate n 0 ∧ (∀ w : World, (Instr.makeSlice 51 (.int .i64 (n : Int)) (.int .i64 (n : Int))).run Tryz.prog w = .ok (.slice (some ⟨w.heap.size, 0, none⟩) n n) (w.alloc (zrow n))) ∧
    ∀ W : World, (convert 51 9 (.slice (some ⟨W.heap.size, 0, none⟩) n n)).run Tryz.prog (W.alloc (zrow n)) = .ok (.string X) (W.alloc (zrow n)) := by
  refine ⟨⟨(List.replicate n (0 : UInt8)).toArray⟩, by rw [size_mk]; simp, rfl, make_zrow n hn, fun W => ?_⟩
  exact (lies_zrow W n).text 51 5 9 Tryz.underlying51 Tryz.underlying5 Tryz.underlying9 n n (by simp)

set_option maxRecDepth 100000 in
set_option maxHeartbeats 4000000 in
theorem kept_any (w : World) : Calls Tryz.prog 4 #[] w fun e w' => e = .returned (.bool true) ∧ Keeps w w' := by
  obtain ⟨X, hXs, _, hm1, hc1⟩ := noughts 10000 (by omega)
  obtain ⟨Y, hYs, _, hm2, hc2⟩ := noughts 65537 (by omega)
  have S0 : ∀ s : ByteArray, s.size ≤ 70000 → s.size ≤ maxLen := fun s h => by unfold maxLen; omega
  have HS := Lib.hid S0
  have HX := Lib.hid hXs
  have HY := Lib.hid hYs
  have hm1' : ∀ W : World, (Instr.makeSlice 51 (.int .i64 10000) (.int .i64 10000)).run Tryz.prog W = .ok (.slice (some ⟨W.heap.size, 0, none⟩) 10000 10000) (W.alloc (zrow 10000)) := hm1
  have hm2' : ∀ W : World, (Instr.makeSlice 51 (.int .i64 65537) (.int .i64 65537)).run Tryz.prog W = .ok (.slice (some ⟨W.heap.size, 0, none⟩) 65537 65537) (W.alloc (zrow 65537)) := hm2
  clear hXs hYs S0 hm1 hm2
  go_enter Tryz.func4, Tryz.ntmps4
  go_wp2_with fail
  refine (new_own 80000 w w (Keeps.refl _) (by omega)).mono ?_
  rintro e w0 ⟨d, rfl, h0⟩
  have H0 := Lib.hid h0
  clear h0
  unfold ptrV
  go_wp2_with fail
  refine (opens_any (R := [[]]) (l := []) (rows := []) ⟨#[]⟩ (.slice none 0 0) ((jopen_new H0.out (by omega) (by omega)).mono fun e w' ⟨b, v, h1, h2, _⟩ => ⟨b, v, h1, h2⟩) fun w' _ => StrsAt.nil w').mono ?_
  rintro e w1 ⟨b1, rfl, h1⟩
  have H1 := Lib.hid h1
  clear h1 H0
  unfold ptrV
  go_wp2_with fail
  refine (japp_own H1.out (by omega) (by omega) ⟨#[97, 98]⟩ (HS.out _ (by decide))).mono ?_
  rintro e w2 ⟨ho, _⟩
  obtain ⟨rfl, h2⟩ := ho.ok (by decide) (by simp [Rc.rowL, Rc.recL_len]; decide)
  have H2 := Lib.hid h2
  clear h2 H1 ho
  go_wp2_with fail
  refine (japp_own H2.out (by omega) (by omega) ⟨#[99]⟩ (HS.out _ (by decide))).mono ?_
  rintro e w3 ⟨ho, _⟩
  obtain ⟨rfl, h3⟩ := ho.ok (by decide) (by simp [Rc.rowL, Rc.recL_len]; decide)
  have H3 := Lib.hid h3
  clear h3 H2 ho
  go_wp2_with fail
  refine (jsize_own H3.out).mono ?_
  rintro e w' ⟨rfl, rfl⟩
  have e27 : ((Rc.rowL ([[]] ++ [(⟨#[97, 98]⟩ : ByteArray).data.toList] ++ [(⟨#[99]⟩ : ByteArray).data.toList])).length : Int) = 27 := by simp [Rc.rowL, Rc.recL_len]
  rw [e27]
  go_wp2_with fail
  refine (ents_own H3.out (n := 2) (by simp)).mono ?_
  rintro e w' ⟨rfl, rfl⟩
  rw [show ((2 : Nat) : Int) = 2 from rfl]
  clear e27
  -- opened again
  have L2 := Lib.hid (H3.out.laid (p := (.slice (some ⟨w3.heap.size, 0, none⟩) 2 2, [[97, 98], [99]])) (keeps_lit w3 (.cells #[.string ⟨#[97, 98]⟩, .string ⟨#[99]⟩] tS)) fun G hG => lit_stays w3 (r := [[97, 98], [99]]) rfl rfl (by simp [maxLen]) G hG)
  clear H3
  go_wp2_with fail
  refine (opens_any (w0 := w) (C := 80000) (M := 0) (R := [[]] ++ [[97, 98]] ++ [[99]]) (l := [[97, 98], [99]]) (rows := [(.slice (some ⟨w3.heap.size, 0, none⟩) 2 2, [[97, 98], [99]])]) ⟨#[]⟩ (.slice (some ⟨w3.heap.size, 0, none⟩) 2 2) ((jopen_own L2.out.disk (by omega)).mono fun e w' h => by
    rcases h.1 with ⟨b, v, s, l, h1, h2, h3, _⟩ | ⟨_, h, _⟩
    · cases h1; exact ⟨b, v, h2, h3⟩
    · cases h) fun w' ⟨b, v, h⟩ => (h.texts (p := (.slice (some ⟨w3.heap.size, 0, none⟩) 2 2, [[97, 98], [99]])) (by simp)).1).mono ?_
  rintro e w4 ⟨b2, rfl, h4⟩
  have H4 := Lib.hid (h4.less (rows' := []) fun p hp => by cases hp)
  clear h4 L2
  unfold ptrV
  go_wp2_with fail
  refine (jcom_own H4.out (by omega) (by omega) ⟨#[83]⟩ (HS.out _ (by decide))).mono ?_
  rintro e w5 ⟨ho, _⟩
  obtain ⟨rfl, h5⟩ := ho.ok (by decide) (by simp [Rc.rowL, Rc.recL_len]; decide)
  have H5 := Lib.hid h5
  clear h5 H4 ho
  go_wp2_with fail
  refine (japp_own H5.out (by omega) (by omega) ⟨#[100]⟩ (HS.out _ (by decide))).mono ?_
  rintro e w6 ⟨ho, _⟩
  obtain ⟨rfl, h6⟩ := ho.ok (by decide) (by simp [Rc.rowL, Rc.recL_len]; decide)
  have H6 : Hid (OwnJ w 80000 1 d b2 [[83], [100]] [] true w6) := Lib.hid h6
  clear h6 H5 ho
  have L6 := Lib.hid (H6.out.laid (p := (.slice (some ⟨w6.heap.size, 0, none⟩) 1 1, [[100]])) (keeps_lit w6 (.cells #[.string ⟨#[100]⟩] tS)) fun G hG => lit_stays w6 (r := [[100]]) rfl rfl (by simp [maxLen]) G hG)
  clear H6
  go_wp2_with fail
  refine (opens_any (w0 := w) (C := 80000) (M := 1) (R := [[83], [100]]) (l := [[100]]) (rows := [(.slice (some ⟨w6.heap.size, 0, none⟩) 1 1, [[100]])]) ⟨#[83]⟩ (.slice (some ⟨w6.heap.size, 0, none⟩) 1 1) ((jopen_own L6.out.disk (by omega)).mono fun e w' h => by
    rcases h.1 with ⟨b, v, s, l, h1, h2, h3, _⟩ | ⟨_, h, _⟩
    · cases h1; exact ⟨b, v, h2, h3⟩
    · cases h) fun w' ⟨b, v, h⟩ => (h.texts (p := (.slice (some ⟨w6.heap.size, 0, none⟩) 1 1, [[100]])) (by simp)).1).mono ?_
  rintro e w7 ⟨b3, rfl, h7⟩
  have H7 := Lib.hid (h7.less (rows' := []) fun p hp => by cases hp)
  clear h7 L6
  unfold ptrV
  have H8 := Lib.hid (H7.out.keeps (keeps_lit w7 (zrow 10000)))
  clear H7
  go_wp2_with fail
  refine (japp_own H8.out (by omega) (by omega) X (HS.out _ (by rw [HX.out]; omega))).mono ?_
  rintro e w8 ⟨ho, _⟩
  obtain ⟨rfl, h9⟩ := ho.full (by rw [HX.out]; omega) (by rw [HX.out]; simp [Rc.rowL, Rc.recL_len])
  have H9 := Lib.hid (h9.keeps (keeps_lit w8 (zrow 65537)))
  clear h9 H8 ho
  go_wp2_with fail
  refine (japp_own H9.out (by omega) (by omega) Y (HS.out _ (by rw [HY.out]; omega))).mono ?_
  rintro e w9 ⟨ho, _⟩
  obtain ⟨rfl, h10⟩ := ho.long (by rw [HY.out]; omega)
  have H10 := Lib.hid h10
  clear h10 H9 ho
  go_wp2
  go_ret
  exact ⟨rfl, H10.out.kept⟩
end Go.Proofs.YtlaepdpgegoopaaGreat
