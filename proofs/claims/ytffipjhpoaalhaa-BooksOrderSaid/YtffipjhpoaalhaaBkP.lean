/- The program's books: what may be posted, none, clones of maps and of texts, one map laid into another. -/
import Derived.Test.YtffipjhpoaalhaaBkMap
import Derived.WalkKit
import Derived.Maps.RangeWalk
import Derived.Shelf.SlMaps.Clone
import Derived.Laws.IdiomRangeMap
set_option linter.unusedVariables false
namespace Go.Proofs.Ytffipjhpoaalhaa
open Go.ChangeShapes Go.WideShapes Go.ChangeAt Go.RowKit Csv Bk Mon
open Go.Maps (Keyed)

/-- Is it an account? -/
theorem pacc_any (n : Int) (w : World) : Calls Try.prog 30 #[.int .i64 n] w fun e w' => e = .returned (.bool (decide (0 ≤ n) && decide (n ≤ 4))) ∧ w' = w := by
  by_cases h1 : 0 ≤ n
  · by_cases h2 : n ≤ 4
    · go_enter Try.func30, Try.ntmps30
      go_wp2
      go_ret
      exact ⟨by simp [h1, h2], rfl⟩
    · have E : Hid ((decide (0 ≤ n) && decide (n ≤ 4)) = false) := Lib.hid (by simp; omega)
      go_enter Try.func30, Try.ntmps30
      go_wp2
      go_ret
      exact ⟨by simp <;> omega, rfl⟩
  · have E : Hid ((decide (0 ≤ n) && decide (n ≤ 4)) = false) := Lib.hid (by simp; omega)
    go_enter Try.func30, Try.ntmps30
    go_wp2
    go_ret
    exact ⟨by rw [E.out]; rfl, rfl⟩
set_option maxHeartbeats 4000000 in
theorem pbmay_any (p : PI) (w : World) : Calls Try.prog 22 #[p.val] w fun e w' => e = .returned (.bool (mayM p.pm)) ∧ Keeps w w' := by
  obtain ⟨s, o, d, c, m⟩ := p
  unfold PI.val PI.pm
  dsimp only
  by_cases h1 : s.data.toList = []
  · have E1 : s.toList.isEmpty = true := by rw [empty_is]; exact decide_eq_true h1
    have H := Lib.hid (show mayM ⟨s.data.toList, o, d, c, m⟩ = false by unfold mayM; simp [h1])
    clear h1
    go_enter Try.func22, Try.ntmps22
    go_wp2
    go_ret
    exact ⟨by rw [H.out]; rfl, keeps_box _ _⟩
  have E1 : s.toList.isEmpty = false := by rw [empty_is]; exact decide_eq_false h1
  have HS := Lib.hid h1
  clear h1
  by_cases h2 : 0 < o
  rotate_left
  · have H := Lib.hid (show mayM ⟨s.data.toList, o, d, c, m⟩ = false by
      cases hm : mayM ⟨s.data.toList, o, d, c, m⟩ with
      | false => rfl
      | true =>
        obtain ⟨_, g2, g3, g4, g5, g6, g7, g8⟩ := may_iff.1 hm
        simp only at g2 g3 g4 g5 g6 g7 g8
        omega)
    go_enter Try.func22, Try.ntmps22
    go_wp2
    go_ret
    exact ⟨by rw [H.out]; rfl, keeps_box _ _⟩
  by_cases h3 : 0 ≤ d
  rotate_left
  · have H := Lib.hid (show mayM ⟨s.data.toList, o, d, c, m⟩ = false by
      cases hm : mayM ⟨s.data.toList, o, d, c, m⟩ with
      | false => rfl
      | true =>
        obtain ⟨_, g2, g3, g4, g5, g6, g7, g8⟩ := may_iff.1 hm
        simp only at g2 g3 g4 g5 g6 g7 g8
        omega)
    go_enter Try.func22, Try.ntmps22
    go_wp2
    go_ret
    exact ⟨by rw [H.out]; rfl, keeps_box _ _⟩
  by_cases h4 : d ≤ 4
  rotate_left
  · have H := Lib.hid (show mayM ⟨s.data.toList, o, d, c, m⟩ = false by
      cases hm : mayM ⟨s.data.toList, o, d, c, m⟩ with
      | false => rfl
      | true =>
        obtain ⟨_, g2, g3, g4, g5, g6, g7, g8⟩ := may_iff.1 hm
        simp only at g2 g3 g4 g5 g6 g7 g8
        omega)
    go_enter Try.func22, Try.ntmps22
    go_wp2
    go_ret
    exact ⟨by rw [H.out]; rfl, keeps_box _ _⟩
  by_cases h5 : 0 ≤ c
  rotate_left
  · have H := Lib.hid (show mayM ⟨s.data.toList, o, d, c, m⟩ = false by
      cases hm : mayM ⟨s.data.toList, o, d, c, m⟩ with
      | false => rfl
      | true =>
        obtain ⟨_, g2, g3, g4, g5, g6, g7, g8⟩ := may_iff.1 hm
        simp only at g2 g3 g4 g5 g6 g7 g8
        omega)
    go_enter Try.func22, Try.ntmps22
    go_wp2
    go_ret
    exact ⟨by rw [H.out]; rfl, keeps_box _ _⟩
  by_cases h6 : c ≤ 4
  rotate_left
  · have H := Lib.hid (show mayM ⟨s.data.toList, o, d, c, m⟩ = false by
      cases hm : mayM ⟨s.data.toList, o, d, c, m⟩ with
      | false => rfl
      | true =>
        obtain ⟨_, g2, g3, g4, g5, g6, g7, g8⟩ := may_iff.1 hm
        simp only at g2 g3 g4 g5 g6 g7 g8
        omega)
    go_enter Try.func22, Try.ntmps22
    go_wp2
    go_ret
    exact ⟨by rw [H.out]; rfl, keeps_box _ _⟩
  by_cases h7 : d ≠ c
  rotate_left
  · have H := Lib.hid (show mayM ⟨s.data.toList, o, d, c, m⟩ = false by
      cases hm : mayM ⟨s.data.toList, o, d, c, m⟩ with
      | false => rfl
      | true =>
        obtain ⟨_, g2, g3, g4, g5, g6, g7, g8⟩ := may_iff.1 hm
        simp only at g2 g3 g4 g5 g6 g7 g8
        omega)
    have e7 : (d != c) = false := by simpa using h7
    have e8 : d = c := by omega
    clear h7 e7
    subst e8
    go_enter Try.func22, Try.ntmps22
    go_wp2
    go_ret
    exact ⟨by rw [H.out]; rfl, keeps_box _ _⟩
  have e7 : (d != c) = true := by simpa using h7
  by_cases h8 : 0 ≤ m
  rotate_left
  · have H := Lib.hid (show mayM ⟨s.data.toList, o, d, c, m⟩ = false by
      cases hm : mayM ⟨s.data.toList, o, d, c, m⟩ with
      | false => rfl
      | true =>
        obtain ⟨_, g2, g3, g4, g5, g6, g7, g8⟩ := may_iff.1 hm
        simp only at g2 g3 g4 g5 g6 g7 g8
        omega)
    go_enter Try.func22, Try.ntmps22
    go_wp2
    go_ret
    exact ⟨by rw [H.out]; rfl, keeps_box _ _⟩
  have H := Lib.hid (show mayM ⟨s.data.toList, o, d, c, m⟩ = true from may_iff.2 ⟨HS.out, h2, h3, h4, h5, h6, h7, h8⟩)
  clear h7
  go_enter Try.func22, Try.ntmps22
  go_wp2
  go_ret
  exact ⟨by rw [H.out]; rfl, keeps_box _ _⟩

set_option maxHeartbeats 4000000 in
/-- maps.Clone, of the postings. -/
theorem pclone_po (b : Nat) (es : Array MapEntry) (clock : Nat) (w : World) (hb : w.heap[b]? = some (.map es clock)) :
    Calls Try.prog 28 #[.map (some b)] w fun e w' => e = .returned (.map (some w.heap.size)) ∧ w' = w.alloc (.map es clock) := by
  have hq := fun w => run_eql_map_nil_sl (P := Try.prog) w tMp _ _ (some b) Try.underlying40
  go_enter Try.func28, Try.ntmps28
  go_wp2
  rw [run_callFunc_extern Try.func35 (by kernel_rfl) (by kernel_rfl) (by kernel_rfl) (e := Extern.MapsClone.clone) (by kernel_rfl), run_maps_clone_sl w tMp hb]
  simp only [Result.andThen]
  rw [Oper.upon_value]
  go_wp2
  rw [run_typeAssert_map_sl _ tMp 20 _ _ _ Try.underlying40]
  simp only [Result.andThen]
  rw [Oper.upon_value]
  go_wp2
  go_ret
  exact ⟨rfl, rfl⟩

set_option maxHeartbeats 4000000 in
/-- maps.Clone, of the balances. -/
theorem pclone_ho (b : Nat) (es : Array MapEntry) (clock : Nat) (w : World) (hb : w.heap[b]? = some (.map es clock)) :
    Calls Try.prog 29 #[.map (some b)] w fun e w' => e = .returned (.map (some w.heap.size)) ∧ w' = w.alloc (.map es clock) := by
  have hq := fun w => run_eql_map_nil_sl (P := Try.prog) w tMb _ _ (some b) Try.underlying41
  go_enter Try.func29, Try.ntmps29
  go_wp2
  rw [run_callFunc_extern Try.func35 (by kernel_rfl) (by kernel_rfl) (by kernel_rfl) (e := Extern.MapsClone.clone) (by kernel_rfl), run_maps_clone_sl w tMb hb]
  simp only [Result.andThen]
  rw [Oper.upon_value]
  go_wp2
  rw [run_typeAssert_map_sl _ tMb 20 _ _ _ Try.underlying41]
  simp only [Result.andThen]
  rw [Oper.upon_value]
  go_wp2
  go_ret
  exact ⟨rfl, rfl⟩

set_option maxHeartbeats 8000000 in
set_option maxRecDepth 100000 in
/-- maps.Copy, of balances into balances. -/
theorem pcopy_ho (bd bs nd ns : Nat) (Dd Ds : DataW Value) (w : World) (hd : w.ownsMap Try.prog tHo asIs bd nd Dd) (hs : w.ownsMap Try.prog tHo asIs bs ns Ds) (hne : bd ≠ bs) (hroom : nd + Maps.size Ds < maxLen) :
    Calls Try.prog 24 #[.map (some bd), .map (some bs)] w fun e w' => e = .returned (.tuple #[]) ∧
      (∃ D', w'.ownsMap Try.prog tHo asIs bd (nd + Maps.size Ds) D' ∧ ∀ k z, D'.atKey k z = if Maps.has Ds k = true then Ds.atKey k z else Dd.atKey k z) ∧ w.grownBy w' (some bd) := by
  have hbd := hd.lt
  have hbs := hs.lt
  go_enter Try.func24, Try.ntmps24
  go_wp2_with (first
    | (at_range; refine wpList_range_own _ rfl _ tMb rfl tHo 2 lawH Try.underlying41 asIs bs ns _ rfl hs ?_; intro w0 hrg0 hg0 hs0)
    | go_in)
  go_frame
  go_loopw [8] (fun _ wr => ∃ (left : Lit → Bool) (cnt : Nat) (Dout : DataW Value), wr.ranges Try.prog tHo asIs bs w.heap.size ns Ds left cnt ∧ cnt ≤ Maps.size Ds ∧
      wr.ownsMap Try.prog tHo asIs bd (nd + (Maps.size Ds - cnt)) Dout ∧ Maps.Merged Dout Dd Ds left ∧ w.grownBy wr (some bd))
    (fun _ wr => wr.rangeLeft bs w.heap.size)
  case atStart =>
    exact ⟨_, _, Dd, hrg0, Nat.le_refl _, (hd.kept hg0 (by simp)).mono (by omega), Maps.merged_start Dd Ds, hg0.but _⟩
  case round =>
    obtain ⟨left, cnt, Dout, hrg, hcs, hout, hM, hgw⟩ := hrel
    go_wp2_with (first
      | (at_next; refine wpList_next_ranges _ rfl _ rfl tHo lawH asIs (fun x : Int × Int => hoV x.1 x.2) id (fun key kl h => by obtain ⟨x, e, _⟩ := ho_inv h; exact ⟨x, e⟩) (fun v _ _ => ⟨v, rfl⟩) bs w.heap.size ns _ _ _ rfl hrg ?_ ?_)
      | go_in)
    · -- nothing is left
      intro hc0 hl0
      go_wp2
      go_end0
      subst hc0
      exact ⟨rfl, ⟨Dout, by simpa using hout, fun k z => by rw [hM.2 k z, hl0 k]; simp⟩, hgw⟩
    · -- an entry has come: laid into the first
      intro xa xo c kl yd yp w1 cnt1 hkey hlx hv hat hrg1 hlt hg1 hs1 hen
      have hout1 := hout.kept hg1 (fun e => by have := Option.some.inj e; omega)
      obtain rfl := asIs_inv hv
      unfold hoV at hen hkey
      go_wp2_with (first
        | (at_mapUpdate; refine wpList_mapUpdate_own _ rfl _ _ _ tMb rfl tHo 2 lawH Try.underlying41 asIs bd _ _ rfl (hout1.alloc _) (by omega) _ _ kl rfl rfl hkey (.held c) [] rfl ?_; intro w2 hout2 hg2; go_frame)
        | go_in)
      have hrg1b := hrg1.alloc (.cells #[.int .i64 xa, .int .i64 xo] tHo)
      have hg1b := hg1.trans (World.grownBy_alloc w1 (.cells #[.int .i64 xa, .int .i64 xo] tHo) (some w.heap.size))
      have hrg2 := hrg1b.kept hg2 (fun e => hne (Option.some.inj e).symm) (fun e => by have := Option.some.inj e; omega)
      go_roundw
      case rel =>
        exact ⟨_, cnt1, _, hrg2, by omega, hout2.mono (by omega), Maps.merged_step hM hout.isMap (lawH.key hkey) hat, (hgw.andThen hg1b (fun j hj => .inl (by cases hj; exact Nat.le_refl _))).andThen hg2 (fun j hj => .inr hj)⟩
      case measure => rw [hrg2.left_eq, hrg.left_eq]; exact hlt
end Go.Proofs.Ytffipjhpoaalhaa
