
/- The program's waits: Again. -/
import Derived.Test.YtbemkcnikoiecaaWmC3
set_option linter.unusedVariables false
set_option linter.unusedSimpArgs false
namespace Go.Proofs.Ytbemkcnikoiecaa
open Go.ChangeShapes Go.WideShapes Go.ChangeAt Go.RowKit Csv Ky Km Ob
namespace Wt
theorem zero_wt (w : World) : (zeroValue tPw).run Try.prog w = .ok (.agg #[.int .i64 0, .int .i64 0, .int .i64 0, .int .i64 0, .bool false]) w := by kernel_rfl
theorem pw_look {W : World} {b m : Nat} {l : List W5} (h : PwAt W b m l) {o d : Int} (io : I64 o) (id : I64 d) : ∃ a0 a1 a2 a3 a4, ∀ X, Keeps W X →
    (Instr.lookup tMw (.map (some m)) (kyV o d) true).run Try.prog X = .ok (.tuple #[.agg #[.int .i64 a0, .int .i64 a1, .int .i64 a2, .int .i64 a3, .bool a4], .bool (hasB l o d)]) X := by
  cases hf : fdW l o d with
  | none =>
    refine ⟨0, 0, 0, 0, false, fun X k => ?_⟩
    obtain ⟨D, ho, hA⟩ := (h.keeps k).map
    have := look_ok ho lawKy Try.underlying48 (zero_wt X) (kK_is io id) (hA o d io id)
    rw [this, ← fd_has, hf]
    rfl
  | some x =>
    refine ⟨x.o, x.d, x.t, x.n, x.p, fun X k => ?_⟩
    obtain ⟨D, ho, hA⟩ := (h.keeps k).map
    have := look_ok ho lawKy Try.underlying48 (zero_wt X) (kK_is io id) (hA o d io id)
    rw [this, ← fd_has, hf]
    rfl
set_option maxHeartbeats 4000000 in
set_option maxRecDepth 100000 in
theorem pw_again {W : World} {b m : Nat} {l : List W5} (h : PwAt W b m l) (o d now : Int) (io : I64 o) (id : I64 d) :
    Calls Try.prog 15 #[.pointer (some ⟨b, 0, none⟩), kyV o d, .int .i64 now] W fun e w' => e = .returned (.bool (hasB l o d)) ∧ PwAt w' b m (againL l o d now) ∧ Only (fun i => i = m) W w' := by
  obtain ⟨w1, hw1⟩ : ∃ w1, W.alloc (.cells #[.int .i64 o, .int .i64 d] tKy) = w1 := ⟨_, rfl⟩
  have K1 : Hid (Keeps W w1) := Lib.hid (hw1 ▸ ky_box W _)
  have H1 := Lib.hid (h.keeps K1.out)
  have CN := Lib.hid (pw_none H1.out)
  have BX : Hid (w1.heap[W.heap.size]? = some (keBox o d)) := Lib.hid (hw1 ▸ heap_alloc_new W _)
  have CC := Lib.hid fun X (k : Keeps w1 X) => And.intro (H1.out.keeps k).cell (ke_box_cells (wbox_keep BX.out k))
  obtain ⟨a0, a1, a2, a3, a4, hlk⟩ := pw_look H1.out io id
  have LK := Lib.hid hlk
  have CS := Lib.hid fun X (k : Keeps w1 X) => pw_start (H1.out.keeps k) o d now
  have EB : Hid (againL l o d now = if hasB l o d = true then startL l o d now else l) := Lib.hid rfl
  have EW1 := Lib.hid hw1
  obtain ⟨B, hB⟩ : ∃ B, hasB l o d = B := ⟨_, rfl⟩
  rw [hB] at LK EB ⊢
  rw [EB.out]
  generalize startL l o d now = L at CS ⊢
  clear h hlk hB hw1 EB
  have D1 := Lib.hid (ky_drew w1)
  obtain ⟨c0, c1, c2⟩ := CC.out _ (Keeps.refl w1)
  unfold kyV at *
  go_enter Try.func15, Try.ntmps15
  go_upto_region 3 with (go_at_call 31; rw [EW1.out]; refine CN.out.mono ?_; rintro e w2 ⟨rfl, rfl⟩)
  go_cut [8] (fun s8 wx => s8 = .bool B ∧ Keeps w2 wx)
  case first =>
    have lk0 := LK.out _ (Keeps.refl w2)
    have lk1 := LK.out _ (ky_drew w2)
    have lk2 := fun ob => LK.out _ (ky_box w2 ob)
    have lk3 := fun ob => LK.out _ ((ky_drew w2).trans (ky_box w2.drew ob))
    have lk4 := fun ob => LK.out _ ((ky_box w2 ob).trans (ky_drew _))
    have z1 : W.heap.size < w2.heap.size := (Array.getElem?_eq_some_iff.1 BX.out).1
    have z2 : W.heap.size ≠ w2.heap.size := Nat.ne_of_lt z1
    have z3 : b < w2.heap.size := H1.out.lt.1
    have z4 : b ≠ w2.heap.size := Nat.ne_of_lt z3
    obtain ⟨d0, d1, d2⟩ := CC.out _ (ky_drew w2)
    go_region
    all_goals clear lk0 lk1 lk2 lk3 lk4 d0 d1 d2
    all_goals go_wp2_with fail
    all_goals go_meet
    all_goals first
      | exact ⟨rfl, (ky_box _ _).trans (ky_drew _)⟩
      | exact ⟨rfl, (ky_drew _).trans (ky_box _ _)⟩
      | exact ⟨rfl, ky_box _ _⟩
  case rest =>
    rename World => w3
    obtain ⟨rfl, k3⟩ := hcut
    have K3 := Lib.hid k3
    obtain ⟨e0, e1, e2⟩ := CC.out _ k3
    clear k3 c0 c1 c2
    cases B with
    | true =>
      go_wp2_with fail
      refine (CS.out _ K3.out).mono ?_
      rintro e w4 ⟨rfl, h4, o4⟩
      have H4 := Lib.hid h4
      have O4 := Lib.hid o4
      clear h4 o4 e0 e1 e2
      go_wp2
      go_ret
      exact ⟨rfl, H4.out, (Only.of_keeps (K1.out.trans K3.out)).trans O4.out⟩
    | false =>
      go_wp2
      go_ret
      exact ⟨rfl, H1.out.keeps K3.out, Only.of_keeps (K1.out.trans K3.out)⟩
end Wt
end Go.Proofs.Ytbemkcnikoiecaa
