
/- The contracts of a journal that is none, and of Open of a disk that is none, or down. -/
import Derived.Test.YtlaepdpgegoopaaJnOwn2
import Derived.Test.YtlaepdpgegoopaaDiskNone
set_option linter.unusedVariables false
namespace Go.Proofs.Ytlaepdpgegoopaa
open Go.ChangeShapes Go.WideShapes Go.ChangeAt Go.RowKit Go.Maps Csv Dk Jn

/-- The cells of a journal that Open did not make. -/
def jnZero : Array Value := #[.pointer none, .int .i64 0, .int .i64 0, .int .i64 0, .int .i64 0]
def NoJn (w : World) (p : Option Addr) : Prop := p = none ∨ ∃ b, p = some ⟨b, 0, none⟩ ∧ w.heap[b]? = some (.cells jnZero tJn (0, 0))
theorem NoJn.keeps {w w' : World} {p : Option Addr} (h : NoJn w p) (k : Keeps w w') : NoJn w' p := by
  rcases h with rfl | ⟨b, rfl, h⟩
  · exact Or.inl rfl
  · exact Or.inr ⟨b, rfl, (k.block b (block_lt h)).trans h⟩
theorem NoJn.ready {p : Option Addr} {w : World} (h : NoJn w p) : Calls Try.prog 22 #[.pointer p] w fun e w' => e = .returned (.int .i64 1) ∧ w = w' := by
  rcases h with rfl | ⟨b, rfl, h⟩
  · go_enter Try.func22, Try.ntmps22
    go_wp2
    go_ret
    exact ⟨rfl, rfl⟩
  · have c0 : w.cell? ⟨b, 0, none⟩ = some (.pointer none) := Joins.cell_of_block h 0
    clear h
    go_enter Try.func22, Try.ntmps22
    go_wp2
    go_ret
    exact ⟨rfl, rfl⟩
theorem japp_none (p : Option Addr) (s : ByteArray) (w : World) (h : NoJn w p) : Calls Try.prog 7 #[.pointer p, .string s] w fun e w' => e = .returned (.int .i64 1) ∧ Keeps w w' := by
  have c := h.ready
  clear h
  go_enter Try.func7, Try.ntmps7
  go_wp2_with (go_at_call 22; refine c.mono ?_; rintro e w' ⟨rfl, rfl⟩)
  go_ret
  exact ⟨rfl, Keeps.refl _⟩
theorem jcom_none (p : Option Addr) (s : ByteArray) (w : World) (h : NoJn w p) : Calls Try.prog 8 #[.pointer p, .string s] w fun e w' => e = .returned (.int .i64 1) ∧ Keeps w w' := by
  have c := h.ready
  clear h
  go_enter Try.func8, Try.ntmps8
  go_wp2_with (go_at_call 22; refine c.mono ?_; rintro e w' ⟨rfl, rfl⟩)
  go_ret
  exact ⟨rfl, Keeps.refl _⟩
theorem jsize_none (p : Option Addr) (w : World) (h : NoJn w p) : Calls Try.prog 9 #[.pointer p] w fun e w' => e = .returned (.int .i64 0) ∧ Keeps w w' := by
  rcases h with rfl | ⟨b, rfl, h⟩
  · go_enter Try.func9, Try.ntmps9
    go_wp2
    go_ret
    exact ⟨rfl, Keeps.refl _⟩
  · have c0 : w.cell? ⟨b, 3, none⟩ = some (.int .i64 0) := Joins.cell_of_block h 3
    clear h
    go_enter Try.func9, Try.ntmps9
    go_wp2
    go_ret
    exact ⟨rfl, Keeps.refl _⟩
theorem jents_none (p : Option Addr) (w : World) (h : NoJn w p) : Calls Try.prog 10 #[.pointer p] w fun e w' => e = .returned (.int .i64 0) ∧ Keeps w w' := by
  rcases h with rfl | ⟨b, rfl, h⟩
  · go_enter Try.func10, Try.ntmps10
    go_wp2
    go_ret
    exact ⟨rfl, Keeps.refl _⟩
  · have c0 : w.cell? ⟨b, 4, none⟩ = some (.int .i64 0) := Joins.cell_of_block h 4
    clear h
    go_enter Try.func10, Try.ntmps10
    go_wp2
    go_ret
    exact ⟨rfl, Keeps.refl _⟩
theorem jopen_none (p : Option Addr) (w : World) (h : NoDisk w p) : Calls Try.prog 12 #[.pointer p] w fun e w' => e = .returned (.tuple #[.pointer none, .string ⟨#[]⟩, .slice none 0 0, .int .i64 1]) ∧ Keeps w w' := by
  have c := size_none p (-1) w h
  clear h
  go_enter Try.func12, Try.ntmps12
  go_wp2_with (go_at_call 29; refine c.mono ?_; rintro e w' ⟨rfl, rfl⟩)
  refine bodyPost_ret (jn_results4 rfl _ _ _) rfl ?_
  exact ⟨rfl, Keeps.refl _⟩
theorem jopen_down (d : Nat) (D : DiskM) (G : List Nat) (w : World) (h : IsDisk w d D G) (hu : D.up = false) : Calls Try.prog 12 #[ptrV d] w fun e w' => e = .returned (.tuple #[.pointer none, .string ⟨#[]⟩, .slice none 0 0, .int .i64 61]) ∧ Keeps w w' := by
  have c := sizeD_any d D G (-1) w h (by unfold I64 top; omega)
  rw [show sizeD D (-1) = (0, 61) from by unfold sizeD; rw [if_pos hu]] at c
  clear h
  unfold ptrV at *
  go_enter Try.func12, Try.ntmps12
  go_wp2_with (go_at_call 29; refine c.mono ?_; rintro e w' ⟨rfl, rfl⟩)
  refine bodyPost_ret (jn_results4 rfl _ _ _) rfl ?_
  exact ⟨rfl, Keeps.refl _⟩
end Go.Proofs.Ytlaepdpgegoopaa
