
/- Two disks that differ by how far off a failure is, and no call of few sees it: the mathematics. -/
import Derived.Test.YtpecbfcboocmcaaRefFail
set_option linter.unusedVariables false
namespace Go.Proofs.Ytpecbfcboocmcaa
open Go.ChangeShapes Go.WideShapes Go.ChangeAt Go.RowKit Go.Maps Csv Dk

/-- Failures that k changes do not tell apart. -/
def FarR (k : Nat) (f f' : Option (Nat × List Int)) : Prop :=
  (f = none ∧ f' = none) ∨ ∃ a b ks, f = some (a, ks) ∧ f' = some (b, ks) ∧ (a = b ∨ (k ≤ a ∧ k ≤ b))
def Sim (k : Nat) (D R : DiskM) : Prop := ∃ f', R = ⟨D.cap, D.files, D.up, D.starts, f'⟩ ∧ FarR k D.fail f'
theorem FarR.less {k k' : Nat} {f f' : Option (Nat × List Int)} (h : FarR k f f') (hk : k' ≤ k) : FarR k' f f' := by
  rcases h with h | ⟨a, b, ks, h1, h2, h3⟩
  · exact Or.inl h
  · exact Or.inr ⟨a, b, ks, h1, h2, by omega⟩
theorem Sim.less {k k' : Nat} {D R : DiskM} (h : Sim k D R) (hk : k' ≤ k) : Sim k' D R := by
  obtain ⟨f', h1, h2⟩ := h
  exact ⟨f', h1, h2.less hk⟩
theorem Sim.refl (k : Nat) (D : DiskM) (h : D.fail = none) : Sim k D D := ⟨D.fail, rfl, Or.inl ⟨h, h⟩⟩
theorem count_sim {k : Nat} {D R : DiskM} (h : Sim (k + 1) D R) : D.count.1 = R.count.1 ∧ Sim k D.count.2 R.count.2 := by
  obtain ⟨f', rfl, h2⟩ := h
  obtain ⟨cap, files, up, st, f⟩ := D
  rcases h2 with ⟨h1, h2⟩ | ⟨a, b, ks, h1, h2, h3⟩
  · simp only at h1
    subst h1 h2
    exact ⟨rfl, none, rfl, Or.inl ⟨rfl, rfl⟩⟩
  · simp only at h1
    subst h1 h2
    cases a with
    | zero =>
      obtain rfl : b = 0 := by omega
      exact ⟨rfl, none, rfl, Or.inl ⟨rfl, rfl⟩⟩
    | succ a =>
      cases b with
      | zero => omega
      | succ b => exact ⟨rfl, some (b, ks), rfl, Or.inr ⟨a, b, ks, rfl, rfl, by omega⟩⟩
theorem put_sim {k : Nat} {D R : DiskM} (h : Sim k D R) (l : List FileM) : Sim k (D.put l) (R.put l) := by
  obtain ⟨f', rfl, h2⟩ := h
  exact ⟨f', rfl, h2⟩
theorem files_sim {k : Nat} {D R : DiskM} (h : Sim k D R) : R.files = D.files ∧ R.up = D.up ∧ R.cap = D.cap ∧ R.starts = D.starts := by
  obtain ⟨f', rfl, h2⟩ := h
  exact ⟨rfl, rfl, rfl, rfl⟩
theorem then_sim {k : Nat} {D R : DiskM} (h : Sim (k + 1) D R) (g : List FileM → List FileM) : (D.then g).1 = (R.then g).1 ∧ Sim k (D.then g).2 (R.then g).2 := by
  obtain ⟨h1, h2⟩ := count_sim h
  unfold DiskM.then
  rw [← h1]
  split
  · exact ⟨rfl, by rw [(files_sim h2).1]; exact put_sim h2 _⟩
  · exact ⟨h1, h2⟩
theorem withF_sim {k : Nat} {D R : DiskM} (h : Sim (k + 1) D R) (n : Int) (p q : FileM → Int × DiskM) (hpq : ∀ f, (p f).1 = (q f).1 ∧ Sim k (p f).2 (q f).2) : (withF D n p).1 = (withF R n q).1 ∧ Sim k (withF D n p).2 (withF R n q).2 := by
  unfold withF
  rw [(files_sim h).2.1, (files_sim h).1]
  split
  · exact ⟨rfl, h.less (by omega)⟩
  · split
    · exact ⟨rfl, h.less (by omega)⟩
    · exact hpq _
theorem create_sim {k : Nat} {D R : DiskM} (h : Sim (k + 1) D R) (n : Int) : (createD D n).1 = (createD R n).1 ∧ Sim k (createD D n).2 (createD R n).2 := by
  have h0 := h.less (show k ≤ k + 1 by omega)
  unfold createD
  rw [(files_sim h).2.1, (files_sim h).1]
  split
  · exact ⟨rfl, h0⟩
  · split
    · exact ⟨rfl, h0⟩
    · split
      · exact ⟨rfl, h0⟩
      · split
        · exact ⟨rfl, h0⟩
        · exact then_sim h _
theorem append_sim {k : Nat} {D R : DiskM} (h : Sim (k + 1) D R) (n : Int) (s : Bs) : (appendD D n s).1 = (appendD R n s).1 ∧ Sim k (appendD D n s).2 (appendD R n s).2 := by
  refine withF_sim h n _ _ fun f => ?_
  have hf : R.free = D.free := by unfold DiskM.free; rw [(files_sim h).1, (files_sim h).2.2.1]
  rw [hf, (files_sim h).1]
  split
  · exact ⟨rfl, h.less (by omega)⟩
  · exact count_sim (put_sim h _)
theorem sync_sim {k : Nat} {D R : DiskM} (h : Sim (k + 1) D R) (n : Int) : (syncD D n).1 = (syncD R n).1 ∧ Sim k (syncD D n).2 (syncD R n).2 := withF_sim h n _ _ fun f => then_sim h _
theorem trunc_sim {k : Nat} {D R : DiskM} (h : Sim (k + 1) D R) (n size : Int) : (truncD D n size).1 = (truncD R n size).1 ∧ Sim k (truncD D n size).2 (truncD R n size).2 := by
  refine withF_sim h n _ _ fun f => ?_
  split
  · exact ⟨rfl, h.less (by omega)⟩
  · exact then_sim h _
theorem delete_sim {k : Nat} {D R : DiskM} (h : Sim (k + 1) D R) (n : Int) : (deleteD D n).1 = (deleteD R n).1 ∧ Sim k (deleteD D n).2 (deleteD R n).2 := withF_sim h n _ _ fun f => then_sim h _
theorem read_sim {k : Nat} {D R : DiskM} (h : Sim k D R) (n a s : Int) : readD D n a s = readD R n a s := by
  unfold readD
  rw [(files_sim h).2.1, (files_sim h).1]
theorem size_sim {k : Nat} {D R : DiskM} (h : Sim k D R) (n : Int) : sizeD D n = sizeD R n := by
  unfold sizeD
  rw [(files_sim h).2.1, (files_sim h).1]
theorem down_sim {k : Nat} {D R : DiskM} (h : Sim k D R) (ks : List Int) : Sim k (D.down ks) (R.down ks) := by
  obtain ⟨f', rfl, h2⟩ := h
  exact ⟨none, rfl, Or.inl ⟨rfl, rfl⟩⟩
theorem crash_sim {k : Nat} {D R : DiskM} (h : Sim k D R) (ks : List Int) : (crashD D ks).1 = (crashD R ks).1 ∧ Sim k (crashD D ks).2 (crashD R ks).2 := by
  unfold crashD
  rw [(files_sim h).2.1]
  split
  · exact ⟨rfl, h⟩
  · exact ⟨rfl, down_sim h ks⟩
theorem start_sim {k : Nat} {D R : DiskM} (h : Sim k D R) : (startD D).1 = (startD R).1 ∧ Sim k (startD D).2 (startD R).2 := by
  unfold startD
  rw [(files_sim h).2.1, (files_sim h).2.2.2, (files_sim h).1, (files_sim h).2.2.1]
  split
  · exact ⟨rfl, h⟩
  · obtain ⟨f', rfl, h2⟩ := h
    exact ⟨rfl, f', rfl, h2⟩
theorem fail_sim {k : Nat} {D R : DiskM} (h : Sim k D R) (hk : k ≤ 1000) (n : Int) (ks : List Int) : (failD D n ks).1 = (failD R n ks).1 ∧ Sim k (failD D n ks).2 (rfailD R n ks) := by
  unfold failD rfailD
  rw [(files_sim h).2.1, (files_sim h).2.2.2, (files_sim h).1, (files_sim h).2.2.1]
  split
  · exact ⟨rfl, h⟩
  · split
    · exact ⟨rfl, h⟩
    · exact ⟨rfl, some (min n.toNat 1099511627776, ks), rfl, Or.inr ⟨n.toNat, min n.toNat 1099511627776, ks, rfl, rfl, by omega⟩⟩

/-- The document's own Crash, whatever the disk. -/
theorem rcrashd_any (r : Nat) (D : DiskM) (G : List Nat) (vA : Value) (ws : List Int) (w : World) (h : IsRef w r D G) (hA : IntsAt w vA ws) :
    Calls Try.prog 30 #[ptrV r, vA] w fun e w' => e = .returned (.int .i64 (crashD D ws).1) ∧ RGoes w w' G r (crashD D ws).2 := by
  obtain ⟨vL, vK, ks, h, rfl⟩ := h
  cases hu : D.up with
  | true =>
    have e : crashD D ws = (0, D.down ws) := by unfold crashD; rw [if_neg (by rw [hu]; decide)]
    rw [e]
    refine (rcrash_any r vL vK ks D vA ws w h hu hA).mono ?_
    rintro e w' ⟨rfl, vL', m1, m2, m3⟩
    exact ⟨rfl, rgoes_mk (vL' := vL') (vK' := .slice none 0 0) (ks' := []) m1 (m2.mono fun x hx => by simp at hx; subst hx; simp [rfoot]) (fun b hb => Or.inr (m3 b hb)) (fun b hb => by cases hb)⟩
  | false =>
    have e : crashD D ws = (61, D) := by unfold crashD; rw [if_pos hu]
    rw [e]
    have H := Lib.hid h
    obtain ⟨_, _, c2, _⟩ := h.cells
    have c2' : w.cell? ⟨r, 2, none⟩ = some (.bool true) := by rw [c2, hu]; rfl
    obtain ⟨pv, cv, rfl, _, _⟩ := hA
    clear h hu e c2
    unfold ptrV at *
    go_enter Try.func30, Try.ntmps30
    go_wp2
    go_ret
    exact ⟨rfl, RGoes.same ⟨vL, vK, ks, H.out, rfl⟩ (Keeps.refl _)⟩

/-! ### Both disks in memory -/
structure Pair (w : World) (d r : Nat) (D R : DiskM) (G GR : List Nat) : Prop where
  disk : IsDisk w d D G
  ref : IsRef w r R GR
  apart : ∀ b ∈ G, b ∉ GR
def PGoes (w w' : World) (G GR : List Nat) (d r : Nat) (D R : DiskM) : Prop :=
  ∃ G' GR', Pair w' d r D R G' GR' ∧ Frame (G ++ GR) w w' ∧ ∀ b ∈ G' ++ GR', b ∈ G ++ GR ∨ w.heap.size ≤ b
end Go.Proofs.Ytpecbfcboocmcaa
