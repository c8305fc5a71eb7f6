
/- NetFull: the walk. -/
import Derived.Test.YtajphjlfefhajaaNtMail
set_option linter.unusedVariables false
set_option linter.unusedSimpArgs false
namespace Go.Proofs.Ytajphjlfefhajaa
open Go.ChangeShapes Go.WideShapes Go.ChangeAt Go.RowKit Csv Ky
namespace Nt
def fullM (i : Nat) : Mg := ⟨0, 0, 0, ⟨#[]⟩, (i : Int), 0, 0⟩
def fullL (n : Nat) : List Mg := (List.range n).map fullM
theorem full_len (n : Nat) : (fullL n).length = n := by unfold fullL; simp
theorem full_next {k : Nat} (h : k < 1000) : room (fullL k) = true ∧ Nt.send (fullL k) (fullM k) = fullL (k + 1) := by
  constructor
  · unfold room; rw [full_len]; exact decide_eq_true h
  · unfold Nt.send
    rw [full_len, if_pos h]
    unfold fullL
    rw [List.range_succ, List.map_append]; rfl
theorem full_at {k n : Nat} (h : k < n) : (fullL n)[k]? = some (fullM k) := by
  unfold fullL
  rw [List.getElem?_map, List.getElem?_range h]; rfl
theorem room_no {l : List Mg} (h : l.length = 1000) (m : Mg) : room l = false ∧ Nt.send l m = l := by
  constructor
  · unfold room; rw [h]; rfl
  · unfold Nt.send; rw [h]; rfl
theorem dbl_full {l : List Mg} (h : l.length = 1000) (i : Int) : dblB l i = false ∧ dbl l i = l := by
  constructor
  · unfold dblB; rw [(room_no h zeM).1, Bool.and_false]
  · unfold dbl
    split
    · exact (room_no h _).2
    · rfl
theorem dbl_room {l : List Mg} (h : l.length = 999) : dblB l 0 = true ∧ (dbl l 0).length = 1000 := by
  have hb : isB l 0 = true := is_iff.2 ⟨by omega, by omega⟩
  obtain ⟨m, h1, h2⟩ := gone_some hb
  constructor
  · unfold dblB room; rw [hb, h]; rfl
  · rw [dbl_yes h2]
    unfold Nt.send
    rw [h, if_pos (by decide), List.length_append, h]; rfl
theorem full_gone {k : Nat} (h : k < 1000) : isB (fullL 1000) (k : Int) = true ∧ gone (fullL 1000) (k : Int) = some (fullM k) ∧ (del (fullL 1000) (k : Int)).length = 999 := by
  have hb : isB (fullL 1000) (k : Int) = true := is_iff.2 ⟨by omega, by rw [full_len]; omega⟩
  refine ⟨hb, ?_, ?_⟩
  · unfold gone
    rw [if_pos hb, Int.toNat_natCast, full_at h]
  · rw [del_yes hb, Int.toNat_natCast, List.length_append, List.length_take, List.length_drop, full_len]; omega
theorem i64_small {k : Nat} (h : k < 1000) : I64 (k : Int) := by unfold I64 top; omega
set_option maxHeartbeats 8000000 in
set_option maxRecDepth 100000 in
theorem netFull_go (P : NtP) (C : Nat) (W : World) (hC : C < 65536) :
    Calls Try.prog 6 #[.int .u16 (C : Int)] W fun e w' => e = .returned (.bool true) ∧ Keeps W w' := by
  have AS : Hid (∀ X, Calls Try.prog 8 #[] X fun e w' => e = .returned (.bool true) ∧ Keeps X w') := Lib.hid fun X => la_mailed P X
  have CN := Lib.hid (mine_new (P := P) (E := E0) W W (Keeps.refl _) (fun i hi => hi.elim))
  obtain ⟨k0, hk0⟩ : ∃ k0, C % 1000 = k0 := ⟨_, rfl⟩
  have hkm : (C : Int) % 1000 = (k0 : Int) := by omega
  have hkt : Int.tmod (C : Int) 1000 = (k0 : Int) := by rw [Int.tmod_eq_emod_of_nonneg (by omega)]; exact hkm
  have hk1 : k0 < 1000 := by omega
  have HK := Lib.hid hk1
  clear hk0
  go_enter Try.func6, Try.ntmps6
  go_wp2_with fail
  refine CN.out.mono ?_
  rintro e w1 ⟨b, rfl, h, _⟩
  have M1 := Lib.hid h
  clear h CN
  go_wp2_with fail
  go_loopg [4] 1000 (fun g v4 X => ∃ k : Nat, k + g = 1000 ∧ v4 = .int .i64 (k : Int) ∧ Mine P W E0 X b (fullL k))
  case atStart => exact ⟨0, by omega, rfl, M1.out⟩
  case round =>
    obtain ⟨k, hk, rfl, hm⟩ := hrel
    have HI := Lib.hid hk
    have MR := Lib.hid hm
    clear hk hm M1
    cases gk with
    | succ g =>
      have hlt : k < 1000 := by have := HI.out; omega
      have FN := Lib.hid (full_next hlt)
      have hk2 : (k : Int) < 1000 := by omega
      have CS := Lib.hid (MR.out.send (by rw [full_len]; omega) (fullM k))
      rw [FN.out.1, FN.out.2] at CS
      unfold mgV fullM at CS
      go_wp2_with fail
      refine CS.out.mono ?_
      rintro e w2 ⟨rfl, h, _⟩
      have M2 := Lib.hid h
      clear h
      go_wp2_with fail
      go_roundg g
      case measure => omega
      case rel => exact ⟨k + 1, by have := HI.out; omega, by first | rfl | go_num, M2.out⟩
    | zero =>
      obtain rfl : k = 1000 := by have := HI.out; omega
      have F1 := full_len 1000
      have C1 := Lib.hid (MR.out.send (by rw [F1]; exact Nat.le_refl _) zeM)
      rw [(room_no F1 zeM).1, (room_no F1 zeM).2] at C1
      unfold mgV zeM at C1
      have C2 : Hid (∀ X, Mine P W E0 X b (fullL 1000) → Calls Try.prog 18 #[.pointer (some ⟨b, 0, none⟩), .int .i64 (k0 : Int)] X fun e w' => e = .returned (.bool false) ∧ Mine P W E0 w' b (fullL 1000)) := Lib.hid fun X h => by
        have c := h.double (by rw [full_len]; exact Nat.le_refl _) (k0 : Int) (i64_small HK.out)
        rw [(dbl_full (full_len 1000) (k0 : Int)).1, (dbl_full (full_len 1000) (k0 : Int)).2] at c
        exact c.mono fun e w' g => ⟨g.1, g.2.1⟩
      have C3 : Hid (∀ X, Mine P W E0 X b (fullL 1000) → Calls Try.prog 14 #[.pointer (some ⟨b, 0, none⟩)] X fun e w' => ∃ p c, e = .returned (.slice p 1000 c) ∧ Mine P W E0 w' b (fullL 1000)) := Lib.hid fun X h => by
        refine (h.mail (by rw [full_len]; exact Nat.le_refl _)).mono fun e w' ⟨v, g1, g2, g3, g4⟩ => ?_
        obtain ⟨p, c, rfl⟩ := mgK.own_shape g2
        rw [full_len] at g1
        exact ⟨p, c, g1, g3⟩
      obtain ⟨l2, hl2⟩ : ∃ l2, del (fullL 1000) (k0 : Int) = l2 := ⟨_, rfl⟩
      have L2 : Hid (l2.length = 999) := Lib.hid (hl2 ▸ (full_gone HK.out).2.2)
      have C4 : Hid (∀ X, Mine P W E0 X b (fullL 1000) → Calls Try.prog 15 #[.pointer (some ⟨b, 0, none⟩), .int .i64 (k0 : Int)] X fun e w' => e = .returned (.tuple #[.agg #[.int .i64 0, .int .i64 0, .int .i64 0, .string ⟨#[]⟩, .int .i64 (k0 : Int), .int .i64 0, .int .i64 0], .bool true]) ∧ Mine P W E0 w' b l2) := Lib.hid fun X h => by
        have c := h.deliver (by rw [full_len]; exact Nat.le_refl _) (k0 : Int) (i64_small HK.out)
        rw [(full_gone HK.out).1, (full_gone HK.out).2.1, hl2] at c
        exact c.mono fun e w' g => ⟨g.1, g.2.1⟩
      clear F1 hl2
      go_wp2_with fail
      refine C1.out.mono ?_
      rintro e w2 ⟨rfl, h, _⟩
      have M2 := Lib.hid h
      clear h C1
      go_wp2_with fail
      refine (C2.out _ M2.out).mono ?_
      rintro e w3 ⟨rfl, h⟩
      have M3 := Lib.hid h
      clear h C2
      go_wp2_with fail
      refine (C3.out _ M3.out).mono ?_
      rintro e w4 ⟨p4, c4, rfl, h⟩
      have M4 := Lib.hid h
      clear h C3
      go_wp2_with fail
      refine (C4.out _ M4.out).mono ?_
      rintro e w5 ⟨rfl, h⟩
      obtain ⟨n6, hn6⟩ : ∃ n6, w5.heap.size = n6 := ⟨_, rfl⟩
      obtain ⟨w6, hw6⟩ : ∃ w6, w5.alloc (mgBox (fullM k0)) = w6 := ⟨_, rfl⟩
      have M6 : Hid (Mine P W (fun i => i = n6) w6 b l2) := Lib.hid (hn6 ▸ hw6 ▸ (h.aside (mgBox (fullM k0))).sub (fun i q => Or.inr q))
      have B6 : Hid (w6.heap[n6]? = some (mgBox (fullM k0))) := Lib.hid (by rw [← hn6, ← hw6]; exact heap_alloc_new _ _)
      have EW6 := Lib.hid hw6
      have EN6 := Lib.hid hn6
      clear h hw6 hn6 C4
      unfold mgBox fullM at EW6
      go_upto_region 11 with (fail)
      rw [EW6.out, EN6.out]
      clear EW6 EN6
      obtain ⟨l3, hl3⟩ : ∃ l3, dbl l2 0 = l3 := ⟨_, rfl⟩
      have L3 : Hid (l3.length = 1000) := Lib.hid (hl3 ▸ (dbl_room L2.out).2)
      have D1 : Hid (∀ X, Mine P W (fun i => i = n6) X b l2 → X.heap[n6]? = some (mgBox (fullM k0)) → Calls Try.prog 18 #[.pointer (some ⟨b, 0, none⟩), .int .i64 0] X fun e w' => e = .returned (.bool true) ∧ Mine P W (fun i => i = n6) w' b l3 ∧ w'.heap[n6]? = some (mgBox (fullM k0))) := Lib.hid fun X h hb => by
        have c := h.double (by rw [L2.out]; decide) 0 i0
        rw [(dbl_room L2.out).1, hl3] at c
        exact c.mono fun e w' g => ⟨g.1, g.2.1, (g.2.2 _ rfl).trans hb⟩
      have D2 : Hid (∀ X, Mine P W (fun i => i = n6) X b l3 → Calls Try.prog 16 #[.pointer (some ⟨b, 0, none⟩), .agg #[.int .i64 0, .int .i64 0, .int .i64 0, .string ⟨#[]⟩, .int .i64 (k0 : Int), .int .i64 0, .int .i64 0]] X fun e w' => e = .returned (.bool false) ∧ Mine P W (fun i => i = n6) w' b l3) := Lib.hid fun X h => by
        have c := h.send (by rw [L3.out]; exact Nat.le_refl _) (fullM k0)
        rw [(room_no L3.out (fullM k0)).1, (room_no L3.out (fullM k0)).2] at c
        exact c.mono fun e w' g => ⟨g.1, g.2.1⟩
      have D3 : Hid (∀ X, Mine P W (fun i => i = n6) X b l3 → Calls Try.prog 14 #[.pointer (some ⟨b, 0, none⟩)] X fun e w' => ∃ p c, e = .returned (.slice p 1000 c) ∧ Keeps W w') := Lib.hid fun X h => by
        refine (h.mail (by rw [L3.out]; exact Nat.le_refl _)).mono fun e w' ⟨v, g1, g2, g3, g4⟩ => ?_
        obtain ⟨p, c, rfl⟩ := mgK.own_shape g2
        rw [L3.out] at g1
        exact ⟨p, c, g1, g3.k⟩
      clear hl3
      have hkk : ((k0 : Int) == (k0 : Int)) = true := by simp
      obtain ⟨⟨x0, x1, x2, x3, x4, x5, x6⟩, _⟩ := mg_box_cells B6.out
      unfold fullM at x0 x1 x2 x3 x4 x5 x6
      dsimp only at x0 x1 x2 x3 x4 x5 x6
      go_wp2_with fail
      refine (D1.out _ M6.out B6.out).mono ?_
      rintro e w7 ⟨rfl, h, hb⟩
      have M7 := Lib.hid h
      obtain ⟨⟨y0, y1, y2, y3, y4, y5, y6⟩, _⟩ := mg_box_cells hb
      unfold fullM at y0 y1 y2 y3 y4 y5 y6
      dsimp only at y0 y1 y2 y3 y4 y5 y6
      clear h hb x0 x1 x2 x3 x4 x5 x6 D1
      go_wp2_with fail
      refine (D2.out _ M7.out).mono ?_
      rintro e w8 ⟨rfl, h⟩
      have M8 := Lib.hid h
      clear h y0 y1 y2 y3 y4 y5 y6 D2
      go_wp2_with fail
      refine (D3.out _ M8.out).mono ?_
      rintro e w9 ⟨p9, c9, rfl, h⟩
      have K9 := Lib.hid h
      clear h D3
      go_wp2_with fail
      refine (AS.out _).mono ?_
      rintro e wa ⟨rfl, h⟩
      have KA := Lib.hid (K9.out.trans h)
      clear h
      go_wp2
      go_ret
      exact ⟨rfl, KA.out⟩
end Nt
end Go.Proofs.Ytajphjlfefhajaa
