
/- A disk of the call's own, that has a journal's files: Open, Crash, Fail, Start, Up; a journal's Size, Entries, its disk's Free. -/
import Derived.Test.YtlaepdpgegoopaaGreatJnOwn
set_option linter.unusedVariables false
namespace Go.Proofs.YtlaepdpgegoopaaGreat
open Go.ChangeShapes Go.WideShapes Go.ChangeAt Go.RowKit Go.Maps Csv Dk Jn

theorem i64_wrap (n : Int) : I64 (wrap64 n) := by unfold I64 top wrap64; omega
theorem goes_own {w0 W W' : World} {G : List Nat} {d : Nat} {D : DiskM} (g : Goes W W' G d D) (k : Keeps w0 W) (hG : ∀ x ∈ G, w0.heap.size ≤ x) : ∃ G', IsDisk W' d D G' ∧ Keeps w0 W' ∧ (∀ x ∈ G', w0.heap.size ≤ x) ∧ Frame G W W' ∧ ∀ x ∈ G', x ∈ G ∨ W.heap.size ≤ x := by
  obtain ⟨G', g1, g2, g3⟩ := g
  refine ⟨G', g1, frame_below g2 k hG, fun x hx => ?_, g2, g3⟩
  rcases g3 x hx with h | h
  · exact hG x h
  · have := k.size; omega
section
variable {w0 W W' : World} {C : Nat} {M : Int} {d b : Nat} {R : List Bs} {rows : Rows} {nf up : Bool}
/-- What an Open comes to. -/
def ReopenOut (w0 : World) (C : Nat) (M : Int) (d : Nat) (R : List Bs) (rows : Rows) (nf : Bool) (e : Ending) (w' : World) : Prop :=
  (∃ b v s l, R = s :: l ∧ e = .returned (.tuple #[ptrV b, sv s, v, .int .i64 0]) ∧ OwnJ w0 C M d b R ((v, l) :: rows) nf w' ∧ TxtB w' v l) ∨
  (e = .returned (.tuple #[.pointer none, .string ⟨#[]⟩, .slice none 0 0, .int .i64 61]) ∧ nf = false ∧ OwnD w0 C M d false R rows true w')
theorem live_fail {C : Nat} {D D' : DiskM} {J : JM} {R : List Bs} (h : Holds C M D R) (hu : D.up = true) (ho : openD D = ((0, D'), some (J, R))) (hf : D.fail = none) : D'.fail = none := by
  -- where no failure is set none is behind it
  obtain ⟨f, hb, hw⟩ := h.best
  obtain ⟨k, hk, hkf⟩ := lastW_best hb
  have e : keepD D k f = (0, D') := by
    unfold openD at ho
    rw [hk] at ho; simp only at ho
    rw [hkf] at ho; simp only at ho
    exact (Prod.mk.inj ho).1
  have next_nf : ∀ (x : Int × DiskM) (g : DiskM → Int × DiskM), x.2.fail = none → (∀ D, D.fail = none → (g D).2.fail = none) → (next x g).2.fail = none := fun x g hx hg => by
    unfold next; split
    · exact hg _ hx
    · exact hx
  have then_nf : ∀ (D : DiskM) g, D.fail = none → (D.then g).2.fail = none := fun D g hD => by
    obtain ⟨cap, files, up, st, fl⟩ := D
    simp only at hD; subst hD; rfl
  have with_nf : ∀ (D : DiskM) n k, D.fail = none → (∀ f, (k f).2.fail = none) → (withF D n k).2.fail = none := fun D n k hD hk => by
    unfold withF
    split
    · exact hD
    · split
      · exact hD
      · exact hk _
  have del_nf : ∀ (D : DiskM) n, D.fail = none → (deleteD D n).2.fail = none := fun D n hD => with_nf D n _ hD fun f => then_nf D _ hD
  have dels_nf : ∀ ns (x : Int × DiskM), x.2.fail = none → (delsD x ns).2.fail = none := fun ns => by
    induction ns with
    | nil => intro x hx; exact hx
    | cons n ns ih => intro x hx; rw [delsD]; exact ih _ (next_nf _ _ hx fun D hD => del_nf D n hD)
  have hk2 : (keepD D k f).2.fail = none := by
    unfold keepD
    refine dels_nf _ _ (next_nf _ _ ?_ fun D hD => with_nf D _ _ hD fun f => then_nf D _ hD)
    split
    · refine with_nf D _ _ hf fun f => ?_
      split
      · exact hf
      · exact then_nf D _ hf
    · exact hf
  rw [e] at hk2
  exact hk2
theorem jopen_own (h : OwnD w0 C M d true R rows nf W) (hC : C ≤ 1000000) : Calls Tryz.prog 11 #[ptrV d] W (fun e w' => ReopenOut w0 C M d R rows nf e w' ∧ Quiet W w') := by
  obtain ⟨D, G, h1, h2, h3, h4, h5, h6, h7, h8⟩ := h
  refine (jopen_any d D G W h1 h2 (by rw [h3.cap]; exact hC)).mono ?_
  intro e w' ho
  rcases open_holds h3 h2 with ⟨J, D', e1, hl, hs⟩ | ⟨D', e1, hd⟩
  · rcases ho with ⟨x, D2, e2, _⟩ | ⟨D2, J2, s, l, b, v, G', e2, rfl, a1, a2, a3, a4, a5⟩
    · rw [e1] at e2; simp at e2
    · rw [e1] at e2
      simp only [Prod.mk.injEq, Option.some.injEq, true_and] at e2
      obtain ⟨rfl, rfl, rfl⟩ := e2
      have hG' : ∀ x ∈ G', w0.heap.size ≤ x := fun x hx => by
        rcases a5 x hx with h | h
        · exact h7 x h
        · have := h6.size; omega
      refine ⟨Or.inl ⟨b, v, s, l, rfl, rfl, ⟨D', J, G', a1, hl, fun e => live_fail h3 h2 e1 (h4 e), by rw [hs]; exact h5, frame_below a4 h6 h7, ?_, hG', fun p hp => ?_⟩, a2.2⟩, quiet_disk h1 a4⟩
      · have := h6.size; omega
      · rcases List.mem_cons.1 hp with rfl | hp
        · exact a2.1
        · refine (h8 p hp).go a4 fun x hx => ?_
          rcases List.mem_cons.1 hx with rfl | hx
          · exact Or.inr a3
          · exact a5 x hx
  · rcases ho with ⟨x, D2, e2, hx, rfl, hg⟩ | ⟨D2, J2, s, l, b, v, G', e2, _⟩
    · rw [e1] at e2
      simp only [Prod.mk.injEq, and_true] at e2
      obtain ⟨rfl, rfl⟩ := e2
      obtain ⟨d1, d2, d3, d4, d5⟩ := hd
      obtain ⟨G', g1, g2, g3, g4, g5⟩ := goes_own hg h6 h7
      refine ⟨Or.inr ⟨rfl, ?_, D', G', g1, d1, d2, (fun _ => d3), by rw [d5]; exact h5, g2, g3, fun p hp => (h8 p hp).go g4 g5⟩, quiet_disk h1 g4⟩
      cases nf with
      | false => rfl
      | true => exact absurd (h4 rfl) d4
    · rw [e1] at e2; simp at e2
/-- The first Open. -/
theorem jopen_new (h : Own w0 d (newD C) W) (h8 : 8 ≤ C) (hC : C ≤ 1000000) : Calls Tryz.prog 11 #[ptrV d] W fun e w' => ∃ b v, e = .returned (.tuple #[ptrV b, .string ⟨#[]⟩, v, .int .i64 0]) ∧ OwnJ w0 C 0 d b [[]] [(v, [])] true w' ∧ TxtB w' v [] := by
  obtain ⟨G, h1, h6, h7⟩ := h
  refine (jopen_any d (newD C) G W h1 rfl hC).mono ?_
  intro e w' ho
  obtain ⟨J, D', e1, hl, hf, hs⟩ := open_new h8 (show C ≤ 1048576 by omega)
  rcases ho with ⟨x, D2, e2, _⟩ | ⟨D2, J2, s, l, b, v, G', e2, rfl, a1, a2, a3, a4, a5⟩
  · rw [e1] at e2; simp at e2
  · rw [e1] at e2
    simp only [Prod.mk.injEq, Option.some.injEq, true_and, List.cons.injEq] at e2
    obtain ⟨rfl, rfl, rfl, rfl⟩ := e2
    refine ⟨b, v, rfl, ⟨D', J, G', a1, hl, (fun _ => hf), by rw [hs]; unfold I64 top; omega, frame_below a4 h6 h7, ?_, fun x hx => ?_, fun p hp => ?_⟩, a2.2⟩
    · have := h6.size; omega
    · rcases a5 x hx with h | h
      · exact h7 x h
      · have := h6.size; omega
    · simp at hp; subst hp; exact a2.1
theorem fail_up (D : DiskM) (hu : D.up = true) {n : Int} (hn : 0 ≤ n) (ks : List Int) : failD D n ks = (0, ⟨D.cap, D.files, true, D.starts, some (n.toNat, ks)⟩) := by unfold failD; rw [if_neg (by rw [hu]; decide), if_neg (by omega), hu]
theorem up_ownD (h : OwnD w0 C M d up R rows nf W) : Calls Tryz.prog 44 #[ptrV d] W fun e w' => e = .returned (.bool up) ∧ W = w' := by
  obtain ⟨D, G, h1, h2, _⟩ := h
  refine (up_any d D G W h1).mono ?_
  rintro e w' ⟨rfl, rfl⟩
  exact ⟨by rw [h2], rfl⟩
theorem up_ownJ (h : OwnJ w0 C M d b R rows nf W) : Calls Tryz.prog 44 #[ptrV d] W fun e w' => e = .returned (.bool true) ∧ W = w' := up_ownD h.disk
theorem ents_own (h : OwnJ w0 C M d b R rows nf W) {n : Nat} (hn : R.length = n + 1) : Calls Tryz.prog 20 #[ptrV b] W fun e w' => e = .returned (.int .i64 (n : Int)) ∧ W = w' := by
  obtain ⟨D, J, G, h1, h2, _⟩ := h
  refine (jents_any b d J W h1.jn).mono ?_
  rintro e w' ⟨rfl, rfl⟩
  exact ⟨by have := h2.many; rw [show J.many = n by omega], rfl⟩
theorem jsize_own (h : OwnJ w0 C M d b R rows nf W) : Calls Tryz.prog 19 #[ptrV b] W fun e w' => e = .returned (.int .i64 ((Rc.rowL R).length : Int)) ∧ W = w' := by
  obtain ⟨D, J, G, h1, h2, _⟩ := h
  refine (jsize_any b d J W h1.jn).mono ?_
  rintro e w' ⟨rfl, rfl⟩
  exact ⟨by rw [h2.bytes], rfl⟩
theorem free_ownJ (h : OwnJ w0 C M d b R rows nf W) : Calls Tryz.prog 28 #[ptrV d] W fun e w' => e = .returned (.int .i64 ((C : Int) - ((Rc.rowL R).length : Int))) ∧ OwnJ w0 C M d b R rows nf w' := by
  have h0 := h
  obtain ⟨D, J, G, h1, h2, _⟩ := h
  obtain ⟨m, L, k, hd, _⟩ := h1.disk
  refine (free_any d m L k D W hd).mono ?_
  rintro e w' ⟨rfl, g⟩
  exact ⟨by rw [free_one h2.files, h2.cap], h0.keeps g⟩
end
end Go.Proofs.YtlaepdpgegoopaaGreat
