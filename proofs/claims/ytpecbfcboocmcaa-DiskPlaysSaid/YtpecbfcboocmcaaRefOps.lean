
/- The document's own disk: New, Start, Size, Read, fails; rows of files, appended. -/
import Derived.Test.YtpecbfcboocmcaaRefMem
import Derived.Deep.RegionHeld3
set_option linter.unusedVariables false
namespace Go.Proofs.Ytpecbfcboocmcaa
open Go.ChangeShapes Go.WideShapes Go.ChangeAt Go.RowKit Go.Maps Csv Dk

/-! ### The simple calls -/
theorem rnew_no (n : Int) (w : World) (h : n < 0 ∨ 1048576 < n) : Calls Try.prog 7 #[.int .i64 n] w fun e w' => e = .returned (.tuple #[.pointer none, .int .i64 2]) ∧ w = w' := by
  by_cases h1 : n < 0
  · have t1 : decide (n < 0) = true := decide_eq_true h1
    clear h
    go_enter Try.func7, Try.ntmps7
    go_wp2
    go_ret2
    exact ⟨rfl, rfl⟩
  · have t1 : decide (n < 0) = false := decide_eq_false h1
    have t2 : decide (1048576 < n) = true := decide_eq_true (by omega)
    clear h
    go_enter Try.func7, Try.ntmps7
    go_wp2
    go_ret2
    exact ⟨rfl, rfl⟩
theorem rnew_any (n : Nat) (w : World) (h : n ≤ 1048576) : Calls Try.prog 7 #[.int .i64 (n : Int)] w fun e w' => ∃ r G, e = .returned (.tuple #[ptrV r, .int .i64 0]) ∧ IsRef w' r (newD n) G ∧ Keeps w w' ∧ ∀ b ∈ G, w.heap.size ≤ b := by
  have t1 : decide ((n : Int) < 0) = false := decide_eq_false (by omega)
  have t2 : decide (1048576 < (n : Int)) = false := decide_eq_false (by omega)
  have key : IsRef (w.alloc (.cells #[.int .i64 (n : Int), .slice none 0 0, .bool false, .int .i64 0, .int .i64 0, .slice none 0 0] tRf)) w.heap.size (newD n) [w.heap.size] :=
    ⟨.slice none 0 0, .slice none 0 0, [], ⟨heap_alloc_new w _, World.ownsRow_nil _ _ _ _, World.ownsRow_nil _ _ _ _, Or.inl rfl, Okay.new h⟩, rfl⟩
  have KEY := Lib.hid key
  clear key
  go_enter Try.func7, Try.ntmps7
  go_wp2
  go_ret2
  exact ⟨_, _, rfl, KEY.out, keeps_lit _ _, fun b hb => by simp at hb; omega⟩
theorem rstart_any (r : Nat) (D : DiskM) (G : List Nat) (w : World) (h : IsRef w r D G) (hs : I64 D.starts) : Calls Try.prog 12 #[ptrV r] w fun e w' => e = .returned (.int .i64 (startD D).1) ∧ RGoes w w' G r (startD D).2 := by
  obtain ⟨vL, vK, ks, h, rfl⟩ := h
  obtain ⟨c0, c1, c2, c3, c4, c5, fz⟩ := h.cells
  have f2 := fz 2
  have f3 := fz 3
  have H := Lib.hid h
  cases hu : D.up with
  | true =>
    have e : startD D = (2, D) := by unfold startD; rw [if_pos hu]
    rw [e]
    have c2' : w.cell? ⟨r, 2, none⟩ = some (.bool false) := by rw [c2, hu]; rfl
    clear h hu e c0 c1 c2 c3 c4 c5 fz f2 f3
    unfold ptrV at *
    go_enter Try.func12, Try.ntmps12
    go_wp2
    go_ret
    exact ⟨rfl, RGoes.same ⟨vL, vK, ks, H.out, rfl⟩ (Keeps.refl _)⟩
  | false =>
    have e : startD D = (0, ⟨D.cap, D.files, true, wrap64 (D.starts + 1), D.fail⟩) := by unfold startD; rw [if_neg (by rw [hu]; decide)]
    rw [e]
    have c2' : w.cell? ⟨r, 2, none⟩ = some (.bool true) := by rw [c2, hu]; rfl
    have key : ∀ v w4, v = wrap64 (D.starts + 1) → (w4 = (w.setCell ⟨r, 2, none⟩ (.bool false)).setCell ⟨r, 3, none⟩ (.int .i64 v)) → RGoes w w4 (rfoot r vL vK) r ⟨D.cap, D.files, true, wrap64 (D.starts + 1), D.fail⟩ := by
      rintro v w4 rfl rfl
      have b1 := Joins.block_setCell (i := 2) h.ref (.bool false)
      have b2 := Joins.block_setCell (i := 3) b1 (.int .i64 (wrap64 (D.starts + 1)))
      have ho := h.okay
      have o : ∀ b, b ≠ r → ((w.setCell ⟨r, 2, none⟩ (.bool false)).setCell ⟨r, 3, none⟩ (.int .i64 (wrap64 (D.starts + 1)))).heap[b]? = w.heap[b]? := fun b hb => by
        rw [Below.heap_setCell _ _ _ _ hb, Below.heap_setCell _ _ _ _ hb]
      refine rgoes_mk (RefAt.turn (by rw [b2]; rfl) (own_local h.row fun g hg => o g fun e => h.r_ne.1 (e ▸ hg)) (own_local h.kept fun g hg => o g fun e => h.r_ne.2 (e ▸ hg)) h.fail ⟨ho.cap, ho.many, ho.rising, ho.nums, ho.sure, ho.room, ho.fail⟩) ?_ (fun b hb => Or.inl (mem_rfoot.2 (Or.inr (Or.inl hb)))) (fun b hb => Or.inl (mem_rfoot.2 (Or.inr (Or.inr hb))))
      exact ((Frame.refl _ _).frame_grown (grown_setCell _ _ _ _) (by simp [rfoot])).frame_grown (grown_setCell _ _ _ _) (by simp [rfoot])
    have KEY := Lib.hid key
    have hs' := hs.nat
    obtain ⟨S, hS⟩ : ∃ S, D.starts = S := ⟨_, rfl⟩
    rw [hS] at c3 hs'
    have HS := Lib.hid hS
    clear h hu e c0 c1 c2 c4 c5 fz key hS hs
    unfold ptrV at *
    by_cases hlt : S < 9223372036854775807
    · go_enter Try.func12, Try.ntmps12
      go_wp2
      go_ret
      exact ⟨rfl, KEY.out _ _ (by rw [HS.out]; exact (IntWalk.wrap64_in _ (by omega)).symm) rfl⟩
    · obtain rfl : S = 9223372036854775807 := by omega
      clear hs' hlt
      go_enter Try.func12, Try.ntmps12
      go_wp2
      go_ret
      exact ⟨rfl, KEY.out _ _ (by rw [HS.out]; rfl) rfl⟩
theorem rsize_any (r : Nat) (D : DiskM) (G : List Nat) (n : Int) (w : World) (h : IsRef w r D G) : Calls Try.prog 29 #[ptrV r, .int .i64 n] w fun e w' => e = .returned (.tuple #[.int .i64 (sizeD D n).1, .int .i64 (sizeD D n).2]) ∧ w = w' := by
  obtain ⟨vL, vK, ks, h, rfl⟩ := h
  have cf := rfind_any r vL vK ks D n w h
  obtain ⟨c0, c1, c2, c3, c4, c5, fz⟩ := h.cells
  cases hu : D.up with
  | false =>
    have e : sizeD D n = (0, 61) := by unfold sizeD; rw [if_pos hu]
    rw [e]
    have c2' : w.cell? ⟨r, 2, none⟩ = some (.bool true) := by rw [c2, hu]; rfl
    obtain ⟨q, hq⟩ : ∃ q, posI (posF D.files n) = q := ⟨_, rfl⟩
    rw [hq] at cf
    clear h hu e c0 c1 c2 c3 c4 c5 fz hq
    unfold ptrV at *
    go_enter Try.func29, Try.ntmps29
    go_wp2_with (go_at_call 44; refine cf.mono ?_; rintro e w' ⟨rfl, rfl⟩)
    go_ret2
    exact ⟨rfl, rfl⟩
  | true =>
    have c2' : w.cell? ⟨r, 2, none⟩ = some (.bool false) := by rw [c2, hu]; rfl
    cases hp : posF D.files n with
    | none =>
      have e : sizeD D n = (0, 4) := by unfold sizeD; rw [if_neg (by rw [hu]; decide), pos_none hp]
      rw [e]
      rw [hp] at cf
      have cf' : Calls Try.prog 44 #[ptrV r, .int .i64 n] w fun e w' => e = .returned (.int .i64 (-1)) ∧ w = w' := cf
      clear h hu e c0 c1 c2 c3 c4 c5 fz hp cf
      unfold ptrV at *
      go_enter Try.func29, Try.ntmps29
      go_wp2_with (go_at_call 44; refine cf'.mono ?_; rintro e w' ⟨rfl, rfl⟩)
      go_ret2
      exact ⟨rfl, rfl⟩
    | some i =>
      obtain ⟨f, hi, hn, hf⟩ := pos_some hp
      have e : sizeD D n = ((f.data.length : Int), 0) := by unfold sizeD; rw [if_neg (by rw [hu]; decide), hf]
      rw [e]
      rw [hp] at cf
      have cf' : Calls Try.prog 44 #[ptrV r, .int .i64 n] w fun e w' => e = .returned (.int .i64 (i : Int)) ∧ w = w' := cf
      have hmany := h.okay.many
      obtain ⟨p, c, rfl, _, _, hL⟩ := own_files h.row
      have hil : i < D.files.length := (List.getElem?_eq_some_iff.1 hi).1
      obtain ⟨a, rfl, _, q1, _⟩ := hL i f hi
      obtain ⟨N, hN⟩ : ∃ N, D.files.length = N := ⟨_, rfl⟩
      obtain ⟨T, hT⟩ : ∃ T : ByteArray, (⟨f.data.toArray⟩ : ByteArray) = T := ⟨_, rfl⟩
      have hTs : (f.data.length : Int) = (T.size : Int) := by rw [← hT, size_mk]
      rw [hTs]
      unfold sv at q1
      rw [hT] at q1
      rw [hN] at c1 hil hmany
      have hi1 : (i : Int) < (N : Int) := by omega
      clear h hu e c0 c2 c3 c4 c5 fz hp cf hL hi hN hT hTs hf hn
      unfold ptrV at *
      go_enter Try.func29, Try.ntmps29
      go_wp2_with (go_at_call 44; refine cf'.mono ?_; rintro e w' ⟨rfl, rfl⟩)
      go_ret2
      exact ⟨rfl, rfl⟩
set_option maxHeartbeats 1000000 in
theorem rread_any (r : Nat) (D : DiskM) (G : List Nat) (n at_ size : Int) (w : World) (h : IsRef w r D G) (ha : I64 at_) (hs : I64 size) :
    Calls Try.prog 24 #[ptrV r, .int .i64 n, .int .i64 at_, .int .i64 size] w fun e w' => e = .returned (.tuple #[sv (readD D n at_ size).1, .int .i64 (readD D n at_ size).2]) ∧ w = w' := by
  obtain ⟨vL, vK, ks, h, rfl⟩ := h
  have cf := rfind_any r vL vK ks D n w h
  obtain ⟨c0, c1, c2, c3, c4, c5, fz⟩ := h.cells
  have ha' := ha.nat
  have hs' := hs.nat
  clear ha hs
  cases hu : D.up with
  | false =>
    have e : readD D n at_ size = ([], 61) := by unfold readD; rw [if_pos hu]
    rw [e]
    have c2' : w.cell? ⟨r, 2, none⟩ = some (.bool true) := by rw [c2, hu]; rfl
    obtain ⟨q, hq⟩ : ∃ q, posI (posF D.files n) = q := ⟨_, rfl⟩
    rw [hq] at cf
    clear h hu e c0 c1 c2 c3 c4 c5 fz hq
    unfold ptrV at *
    go_enter Try.func24, Try.ntmps24
    go_wp2_with (go_at_call 44; refine cf.mono ?_; rintro e w' ⟨rfl, rfl⟩)
    go_ret2
    exact ⟨rfl, rfl⟩
  | true =>
    have c2' : w.cell? ⟨r, 2, none⟩ = some (.bool false) := by rw [c2, hu]; rfl
    cases hp : posF D.files n with
    | none =>
      have e : readD D n at_ size = ([], 4) := by unfold readD; rw [if_neg (by rw [hu]; decide), pos_none hp]
      rw [e]
      rw [hp] at cf
      have cf' : Calls Try.prog 44 #[ptrV r, .int .i64 n] w fun e w' => e = .returned (.int .i64 (-1)) ∧ w = w' := cf
      clear h hu e c0 c1 c2 c3 c4 c5 fz hp cf
      unfold ptrV at *
      go_enter Try.func24, Try.ntmps24
      go_wp2_with (go_at_call 44; refine cf'.mono ?_; rintro e w' ⟨rfl, rfl⟩)
      go_ret2
      exact ⟨rfl, rfl⟩
    | some i =>
      obtain ⟨f, hi, hn, hf⟩ := pos_some hp
      have e := read_few (at_ := at_) (size := size) hu hf
      rw [e]
      rw [hp] at cf
      have cf' : Calls Try.prog 44 #[ptrV r, .int .i64 n] w fun e w' => e = .returned (.int .i64 (i : Int)) ∧ w = w' := cf
      have hmany := h.okay.many
      have hfm := List.mem_of_getElem? hi
      have hflen : f.data.length ≤ 1048576 := by have := used_mem hfm; have := h.okay.room; have := h.okay.cap; omega
      obtain ⟨p, c, rfl, _, _, hL⟩ := own_files h.row
      have hil : i < D.files.length := (List.getElem?_eq_some_iff.1 hi).1
      obtain ⟨a, rfl, _, q1, _⟩ := hL i f hi
      obtain ⟨N, hN⟩ : ∃ N, D.files.length = N := ⟨_, rfl⟩
      obtain ⟨l, hl⟩ : ∃ l, f.data = l := ⟨_, rfl⟩
      obtain ⟨T, hT⟩ : ∃ T : ByteArray, (⟨l.toArray⟩ : ByteArray) = T := ⟨_, rfl⟩
      have hTs : l.length = T.size := by rw [← hT, size_mk]
      have hTd : T.data.toList = l := by rw [← hT]
      rw [hl] at hflen ⊢
      unfold sv at q1
      rw [hl, hT] at q1
      rw [hN] at c1 hil hmany
      rw [hTs] at hflen ⊢
      have hi1 : (i : Int) < (N : Int) := by omega
      clear h hu e c0 c2 c3 c4 c5 fz hp cf hL hi hN hT hTs hf hn hfm hl
      by_cases h1 : at_ < 0
      · rw [if_pos (Or.inl h1)]
        have t1 : decide (at_ < 0) = true := decide_eq_true h1
        unfold ptrV at *
        go_enter Try.func24, Try.ntmps24
        go_wp2_with (go_at_call 44; refine cf'.mono ?_; rintro e w' ⟨rfl, rfl⟩)
        go_ret2
        exact ⟨rfl, rfl⟩
      · have t1 : decide (at_ < 0) = false := decide_eq_false h1
        by_cases h2 : size < 0
        · rw [if_pos (Or.inr (Or.inl h2))]
          have t2 : decide (size < 0) = true := decide_eq_true h2
          unfold ptrV at *
          go_enter Try.func24, Try.ntmps24
          go_wp2_with (go_at_call 44; refine cf'.mono ?_; rintro e w' ⟨rfl, rfl⟩)
          go_ret2
          exact ⟨rfl, rfl⟩
        · have t2 : decide (size < 0) = false := decide_eq_false h2
          obtain ⟨A, rfl⟩ : ∃ A : Nat, at_ = A := ⟨at_.toNat, by omega⟩
          obtain ⟨S, rfl⟩ : ∃ S : Nat, size = S := ⟨size.toNat, by omega⟩
          by_cases h3 : T.size < A
          · rw [if_pos (Or.inr (Or.inr (by omega)))]
            have t3 : decide ((T.size : Int) < (A : Int)) = true := decide_eq_true (by omega)
            unfold ptrV at *
            go_enter Try.func24, Try.ntmps24
            go_wp2_with (go_at_call 44; refine cf'.mono ?_; rintro e w' ⟨rfl, rfl⟩)
            go_ret2
            exact ⟨rfl, rfl⟩
          · have t3 : decide ((T.size : Int) < (A : Int)) = false := decide_eq_false (by omega)
            by_cases h4 : T.size < A + S
            · rw [if_pos (Or.inr (Or.inr (by omega)))]
              have t4 : decide ((T.size : Int) - (A : Int) < (S : Int)) = true := decide_eq_true (by omega)
              unfold ptrV at *
              go_enter Try.func24, Try.ntmps24
              go_wp2_with (go_at_call 44; refine cf'.mono ?_; rintro e w' ⟨rfl, rfl⟩)
              go_ret2
              exact ⟨rfl, rfl⟩
            · rw [if_neg (by omega)]
              have t4 : decide ((T.size : Int) - (A : Int) < (S : Int)) = false := decide_eq_false (by omega)
              obtain ⟨B, hB⟩ : ∃ B, A + S = B := ⟨_, rfl⟩
              have hAB : (A : Int) + (S : Int) = (B : Int) := by omega
              have hAle : A ≤ B := by omega
              have hBT : B ≤ T.size := by omega
              obtain ⟨X, hX⟩ : ∃ X, T.extract A B = X := ⟨_, rfl⟩
              have HX := Lib.hid (show sv ((l.drop A).take S) = .string X by
                unfold sv
                congr 1
                apply ByteArray.ext
                apply Array.ext'
                rw [← hX, ← ByteArray.toList_eq, ← ByteArray.toList_eq, extract_list, hTd, ← hB, Nat.add_sub_cancel_left, ByteArray.toList_eq])
              simp only [Int.toNat_natCast]
              clear hB h1 h2 h3 h4
              unfold ptrV at *
              go_enter Try.func24, Try.ntmps24
              go_wp2_with (go_at_call 44; refine cf'.mono ?_; rintro e w' ⟨rfl, rfl⟩)
              go_ret2
              exact ⟨by rw [HX.out]; rfl, rfl⟩
end Go.Proofs.Ytpecbfcboocmcaa
