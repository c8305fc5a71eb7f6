
/- An act with both disks, whatever it is. -/
import Derived.Test.YtpecbfcboocmcaaRefDo2
set_option linter.unusedVariables false
namespace Go.Proofs.Ytpecbfcboocmcaa
open Go.ChangeShapes Go.WideShapes Go.ChangeAt Go.RowKit Go.Maps Csv Dk

theorem count_starts (D : DiskM) : D.count.2.starts = D.starts := by
  unfold DiskM.count
  split <;> rfl
theorem then_starts (D : DiskM) (g : List FileM → List FileM) : (D.then g).2.starts = D.starts := by
  unfold DiskM.then
  split
  · exact count_starts D
  · exact count_starts D
theorem withF_starts (D : DiskM) (n : Int) (p : FileM → Int × DiskM) (hp : ∀ f, (p f).2.starts = D.starts) : (withF D n p).2.starts = D.starts := by
  unfold withF
  split
  · rfl
  · split
    · rfl
    · exact hp _
theorem create_starts (D : DiskM) (n : Int) : (createD D n).2.starts = D.starts := by
  unfold createD
  split
  · rfl
  · split
    · rfl
    · split
      · rfl
      · split
        · rfl
        · exact then_starts D _
theorem append_starts (D : DiskM) (n : Int) (s : Bs) : (appendD D n s).2.starts = D.starts := by
  refine withF_starts D n _ fun f => ?_
  split
  · rfl
  · exact count_starts _
theorem trunc_starts (D : DiskM) (n size : Int) : (truncD D n size).2.starts = D.starts := by
  refine withF_starts D n _ fun f => ?_
  split
  · rfl
  · exact then_starts D _
theorem crash_starts (D : DiskM) (ks : List Int) : (crashD D ks).2.starts = D.starts := by
  unfold crashD
  split <;> rfl
theorem fail_starts (D : DiskM) (n : Int) (ks : List Int) : (failD D n ks).2.starts = D.starts := by
  unfold failD
  split
  · rfl
  · split <;> rfl
theorem start_i64 (D : DiskM) (h : I64 D.starts) : I64 (startD D).2.starts := by
  unfold startD
  split
  · exact h
  · exact i64_of (wrap64_wf _)

theorem do_any (kind : Nat) (n at_ size : Int) (s : ByteArray) (kv : Value) (ks : List Int) (d r : Nat) (D R : DiskM) (G GR : List Nat) (w : World) (k : Nat) (h : Pair w d r D R G GR) (hS : Sim (k + 1) D R) (hk : k < 1000) (hD : I64 D.starts) (hn : I64 n) (ha : I64 at_) (hz : I64 size) (hsz : s.size ≤ maxLen) (hst : Stable (G ++ GR) w kv ks) (hkv : ∀ p m c, kv = .slice p m c → m ≤ c) (hkn : ∀ m c, kv = .slice none m c → c = 0) (hkl : ks.length ≤ 100) :
    Calls Try.prog 8 #[.agg #[.int .u8 (kind : Int), .int .i64 n, .int .i64 at_, .int .i64 size, .string s, kv], ptrV d, ptrV r] w fun e w' => e = .returned (.bool true) ∧ ∃ D' R', Sim k D' R' ∧ I64 D'.starts ∧ PGoes w w' G GR d r D' R' := by
  have hq : (kind : Int) % 14 = 0 ∨ (kind : Int) % 14 = 1 ∨ (kind : Int) % 14 = 2 ∨ (kind : Int) % 14 = 3 ∨ (kind : Int) % 14 = 4 ∨ (kind : Int) % 14 = 5 ∨ (kind : Int) % 14 = 6 ∨ (kind : Int) % 14 = 7 ∨ (kind : Int) % 14 = 8 ∨ (kind : Int) % 14 = 9 ∨ (kind : Int) % 14 = 10 ∨ (kind : Int) % 14 = 11 ∨ (kind : Int) % 14 = 12 ∨ (kind : Int) % 14 = 13 := by omega
  have hS0 := hS.less (show k ≤ k + 1 by omega)
  have hR : I64 R.starts := by rw [(files_sim hS).2.2.2]; exact hD
  rcases hq with hq | hq | hq | hq | hq | hq | hq | hq | hq | hq | hq | hq | hq | hq
  · obtain ⟨e1, e2⟩ := create_sim hS n
    exact (do_k0 kind n at_ size s kv ks d r D R G GR w h hq hn ha hz hsz hst hkv hkn hkl e1).mono fun e w' ⟨g1, g2⟩ => ⟨g1, _, _, e2, by rw [create_starts]; exact hD, g2⟩
  · obtain ⟨e1, e2⟩ := append_sim hS n s.data.toList
    exact (do_k1 kind n at_ size s kv ks d r D R G GR w h hq hn ha hz hsz hst hkv hkn hkl e1).mono fun e w' ⟨g1, g2⟩ => ⟨g1, _, _, e2, by rw [append_starts]; exact hD, g2⟩
  · obtain ⟨e1, e2⟩ := append_sim hS n s.data.toList
    exact (do_k2 kind n at_ size s kv ks d r D R G GR w h hq hn ha hz hsz hst hkv hkn hkl e1).mono fun e w' ⟨g1, g2⟩ => ⟨g1, _, _, e2, by rw [append_starts]; exact hD, g2⟩
  · obtain ⟨e1, e2⟩ := append_sim hS n s.data.toList
    exact (do_k3 kind n at_ size s kv ks d r D R G GR w h hq hn ha hz hsz hst hkv hkn hkl e1).mono fun e w' ⟨g1, g2⟩ => ⟨g1, _, _, e2, by rw [append_starts]; exact hD, g2⟩
  · exact (do_k4 kind n at_ size s kv d r D R G GR w h hq hn ha hz (read_sim hS n at_ size)).mono fun e w' ⟨g1, g2⟩ => ⟨g1, _, _, hS0, hD, g2⟩
  · obtain ⟨e1, e2⟩ := sync_sim hS n
    exact (do_k5 kind n at_ size s kv ks d r D R G GR w h hq hn ha hz hsz hst hkv hkn hkl e1).mono fun e w' ⟨g1, g2⟩ => ⟨g1, _, _, e2, by rw [show (syncD D n).2.starts = D.starts from withF_starts D n _ fun f => then_starts D _]; exact hD, g2⟩
  · obtain ⟨e1, e2⟩ := sync_sim hS n
    exact (do_k6 kind n at_ size s kv ks d r D R G GR w h hq hn ha hz hsz hst hkv hkn hkl e1).mono fun e w' ⟨g1, g2⟩ => ⟨g1, _, _, e2, by rw [show (syncD D n).2.starts = D.starts from withF_starts D n _ fun f => then_starts D _]; exact hD, g2⟩
  · obtain ⟨e1, e2⟩ := trunc_sim hS n size
    exact (do_k7 kind n at_ size s kv ks d r D R G GR w h hq hn ha hz hsz hst hkv hkn hkl e1).mono fun e w' ⟨g1, g2⟩ => ⟨g1, _, _, e2, by rw [trunc_starts]; exact hD, g2⟩
  · obtain ⟨e1, e2⟩ := delete_sim hS n
    exact (do_k8 kind n at_ size s kv ks d r D R G GR w h hq hn ha hz hsz hst hkv hkn hkl e1).mono fun e w' ⟨g1, g2⟩ => ⟨g1, _, _, e2, by rw [show (deleteD D n).2.starts = D.starts from withF_starts D n _ fun f => then_starts D _]; exact hD, g2⟩
  · exact (do_k9 kind n at_ size s kv d r D R G GR w h hq hn ha hz (size_sim hS n)).mono fun e w' ⟨g1, g2⟩ => ⟨g1, _, _, hS0, hD, g2⟩
  · obtain ⟨e1, e2⟩ := crash_sim hS0 ks
    exact (do_k10 kind n at_ size s kv ks d r D R G GR w h hq hn ha hz hsz hst hkv hkn hkl e1).mono fun e w' ⟨g1, g2⟩ => ⟨g1, _, _, e2, by rw [crash_starts]; exact hD, g2⟩
  · obtain ⟨e1, e2⟩ := start_sim hS0
    exact (do_k11 kind n at_ size s kv d r D R G GR w h hq hD hR e1).mono fun e w' ⟨g1, g2⟩ => ⟨g1, _, _, e2, start_i64 D hD, g2⟩
  · obtain ⟨e1, e2⟩ := start_sim hS0
    exact (do_k12 kind n at_ size s kv d r D R G GR w h hq hD hR e1).mono fun e w' ⟨g1, g2⟩ => ⟨g1, _, _, e2, start_i64 D hD, g2⟩
  · obtain ⟨e1, e2⟩ := fail_sim hS0 (by omega) at_ ks
    exact (do_k13 kind n at_ size s kv ks d r D R G GR w h hq hn ha hz hsz hst hkv hkn hkl e1).mono fun e w' ⟨g1, g2⟩ => ⟨g1, _, _, e2, by rw [fail_starts]; exact hD, g2⟩
end Go.Proofs.Ytpecbfcboocmcaa
