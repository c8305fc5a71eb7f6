
/- sort.partitionEqual_func, where 'less' makes memory of its own. sort.partition_func, where 'less' makes memory of its own. sort.order2_func, median_func, medianAdjacent_func, choosePivot_func, where 'less' makes memory of its own. sort.median_func, medianAdjacent_func, choosePivot_func, where 'less' makes memory of its own. sort.Slice's family of Go's library: laid over this program's numbers. sort.breakPatterns_func, reverseRange_func (the kit's contracts), choosePivot_func. -/
import Derived.Test.YtbemkcnikoiecaaSoC4
import Derived.Sort.LotD4
import Derived.Lib.SmallJoins
import Derived.Shelf.GgSortFunc.Slice
import Derived.Shelf.SlSortFuncK.ComposeK
import Derived.Shelf.SlSortFuncK.BreakPatternsK
import Derived.Test.YtbemkcnikoiecaaChecked
set_option linter.unusedVariables false
namespace Go.Proofs.Ytbemkcnikoiecaa
open Go.Shelf Go.RowKit Go.Lib Go.Sort
namespace So
variable {α : Type} [Inhabited α] {enc : α → List Value} {k blk off n g sf : Nat} {lt : α → α → Bool} {lb sb : Array Value} {w0 : World}
theorem up_on {p : α → Bool} {d : Array α} {i j : Nat} (h : i ≤ j) (hp : p d[i]! = true) : scanUp p d j i = scanUp p d j (i + 1) := by
  rw [scanUp, if_pos (by simp [h, hp])]
theorem up_stop {p : α → Bool} {d : Array α} {i j : Nat} (h : ¬ i ≤ j ∨ p d[i]! = false) : scanUp p d j i = i := by
  rw [scanUp, if_neg]
  rcases h with h | h
  · simp [h]
  · simp [h]
theorem down_on {p : α → Bool} {d : Array α} {i j : Nat} (h : i ≤ j + 1) (hp : p d[j + 1]! = true) : scanDown p d i (j + 1) = scanDown p d i j := by
  rw [scanDown, if_pos (by simp [h, hp])]
theorem down_stop {p : α → Bool} {d : Array α} {i j : Nat} (h : ¬ i ≤ j ∨ p d[j]! = false) : scanDown p d i j = j := by
  cases j with
  | zero => rfl
  | succ j =>
    rw [scanDown, if_neg]
    rcases h with h | h
    · simp [h]
    · simp [h]
theorem pe_break {a i j i2 j2 : Nat} {d : Array α} (h1 : scanUp (fun x => !lt d[a]! x) d j i = i2) (h2 : scanDown (fun x => lt d[a]! x) d i2 j = j2) (h : i2 > j2) : partEqLoop lt a i j d = (i2, d) := by
  rw [partEqLoop_eq, h1, h2, if_pos h]
theorem pe_go {a i j i2 j2 : Nat} {d : Array α} (h1 : scanUp (fun x => !lt d[a]! x) d j i = i2) (h2 : scanDown (fun x => lt d[a]! x) d i2 j = j2) (h : ¬ i2 > j2) : partEqLoop lt a i j d = partEqLoop lt a (i2 + 1) (j2 - 1) (swp d i2 j2) := by
  rw [partEqLoop_eq, h1, h2, if_neg h]
theorem pl_break {a i j i2 j2 : Nat} {d : Array α} (h1 : scanUp (fun x => lt x d[a]!) d j i = i2) (h2 : scanDown (fun x => !lt x d[a]!) d i2 j = j2) (h : i2 > j2) : partLoop lt a i j d = (j2, d) := by
  rw [partLoop_eq, h1, h2, if_pos h]
theorem pl_go {a i j i2 j2 : Nat} {d : Array α} (h1 : scanUp (fun x => lt x d[a]!) d j i = i2) (h2 : scanDown (fun x => !lt x d[a]!) d i2 j = j2) (h : ¬ i2 > j2) : partLoop lt a i j d = partLoop lt a (i2 + 1) (j2 - 1) (swp d i2 j2) := by
  rw [partLoop_eq, h1, h2, if_neg h]
set_option maxHeartbeats 8000000 in
set_option maxRecDepth 100000 in
theorem so_partEq (S : SE enc k lt g lb sf sb blk off n w0) (a b pivot : Nat) (d : Array α) (W : World) (h : SWK enc k w0 blk off d W) (hs : d.size = n) (hap : a ≤ pivot) (hpb : pivot < b) (hbn : b ≤ n) :
    Calls Try.prog 68 #[.agg #[.func (.func g) #[] lb, .func (.func sf) #[] sb], .int .i64 a, .int .i64 b, .int .i64 pivot] W fun e w' => e = .returned (.int .i64 ((partitionEqual lt d a b pivot).1 : Int)) ∧ St enc k blk off w0 blk W (partitionEqual lt d a b pivot).2 w' ∧ (partitionEqual lt d a b pivot).2.size = n := by
  have hn := S.hn
  have eg := S.eg
  have hbW := h.lt S.hb
  have B0 := fun {dj : Array α} {X : World} => S.box (c := blk) (cs := #[.func (.func g) #[] lb, .func (.func sf) #[] sb]) (t := 88) (v := .func (.func g) #[] lb) h 0 (by simp) hbW (dj := dj) (X := X)
  have B1 := fun {dj : Array α} {X : World} => S.box (c := blk) (cs := #[.func (.func g) #[] lb, .func (.func sf) #[] sb]) (t := 88) (v := .func (.func sf) #[] sb) h 1 (by simp) hbW (dj := dj) (X := X)
  have H1 := Lib.hid (St.start (c := blk) (h.alloc (.cells #[.func (.func g) #[] lb, .func (.func sf) #[] sb] 88)))
  have E : Hid (partitionEqual lt d a b pivot = partEqLoop lt a (a + 1) (b - 1) (swp d a pivot)) := Lib.hid rfl
  generalize partitionEqual lt d a b pivot = R at E ⊢
  have cW := B1 H1.out
  go_enter Try.func68, Try.ntmps68
  go_wp2
  obtain ⟨W1, hsw, hst, hsz⟩ := S.sp H1.out hs a pivot (a : Int) (pivot : Int) rfl rfl (by omega) (by omega)
  have HS1 := Lib.hid hst
  have Hs1 := Lib.hid hsz
  rw [hsw, Oper.upon_value]
  clear hsw hst hsz
  clear cW H1
  go_wp2
  go_loopw [9, 10] (fun v9 v10 wr => ∃ (i j : Nat) (dk : Array α), v9 = .int .i64 i ∧ v10 = .int .i64 j ∧ a < i ∧ i ≤ j + 1 ∧ j < b ∧ dk.size = n ∧ St enc k blk off w0 blk (W.alloc (.cells #[.func (.func g) #[] lb, .func (.func sf) #[] sb] 88)) dk wr ∧ R = partEqLoop lt a i j dk) (fun v9 v10 _ => (intOf v10).toNat + 1 - (intOf v9).toNat)
  case atStart => exact ⟨a + 1, b - 1, swp d a pivot, by go_num, by congr 1; omega, by omega, by omega, by omega, Hs1.out, HS1.out, E.out⟩
  case round =>
    obtain ⟨i, j, dk, rfl, rfl, hai, hij, hjb, hsk, hst, hO⟩ := hrel
    have HO := Lib.hid hO
    have HS := Lib.hid hst
    clear hO hst HS1 Hs1 E
    go_wp2
    go_loopw [9] (fun vie wre2 => ∃ (i2 : Nat), vie = .int .i64 i2 ∧ i ≤ i2 ∧ i2 ≤ j + 1 ∧ St enc k blk off w0 blk (W.alloc (.cells #[.func (.func g) #[] lb, .func (.func sf) #[] sb] 88)) dk wre2 ∧ scanUp (fun x => !lt dk[a]! x) dk j i2 = scanUp (fun x => !lt dk[a]! x) dk j i) (fun vie _ => j + 1 - (intOf vie).toNat)
    case atStart => exact ⟨i, rfl, Nat.le_refl _, hij, HS.out, rfl⟩
    case round =>
      obtain ⟨i2, rfl, hii, hi2j, hst, hI⟩ := hrel
      have HUe := Lib.hid hI
      have HSe4 := Lib.hid hst
      have ce4 := B0 hst
      clear hI hst
      by_cases hij2 : i2 ≤ j
      · have hijz : (i2 : Int) ≤ (j : Int) := by omega
        have hl4 := S.ls HSe4.out.sw hsk a i2 (a : Int) (i2 : Int) rfl rfl (by omega) (by omega)
        cases hlv : lt dk[a]! dk[i2]! with
        | false =>
          rw [hlv] at hl4
          have HON : Hid (scanUp (fun x => !lt dk[a]! x) dk j i2 = scanUp (fun x => !lt dk[a]! x) dk j (i2 + 1)) := Lib.hid (up_on hij2 (by simp [hlv]))
          clear hlv
          go_wp2_with (go_at_fn g; refine hl4.mono ?_; rintro e we4 ⟨rfl, hg⟩; have HSe7 := Lib.hid (HSe4.out.gr hg); clear hg)
          go_roundw
          case rel =>
            first
              | exact ⟨i2 + 1, by go_num, by omega, by omega, HSe7.out, by rw [← HUe.out]; exact HON.out.symm⟩
              | ((repeat apply Exists.intro)
                 exact ⟨⟨i2 + 1, by go_num, by omega, by omega, HSe7.out, by rw [← HUe.out]; exact HON.out.symm⟩, by simp <;> and_intros <;> rfl⟩)
          case measure => simp [intOf] <;> omega
        | true =>
          rw [hlv] at hl4
          have HUP : Hid (scanUp (fun x => !lt dk[a]! x) dk j i = i2) := Lib.hid (by rw [← HUe.out]; exact up_stop (Or.inr (by simp [hlv])))
          have HUW : Hid (lt dk[a]! dk[i2]! = true) := Lib.hid hlv
          clear hlv
          go_wp2_with (go_at_fn g; refine hl4.mono ?_; rintro e we4 ⟨rfl, hg⟩; have HX := Lib.hid (HSe4.out.gr hg); clear hg)
          go_loopw [10] (fun vqe wre3 => ∃ (q : Nat), vqe = .int .i64 q ∧ q ≤ j ∧ i2 ≤ q + 1 ∧ St enc k blk off w0 blk (W.alloc (.cells #[.func (.func g) #[] lb, .func (.func sf) #[] sb] 88)) dk wre3 ∧ scanDown (fun x => lt dk[a]! x) dk i2 q = scanDown (fun x => lt dk[a]! x) dk i2 j) (fun vqe _ => (intOf vqe).toNat)
          case atStart => exact ⟨j, rfl, Nat.le_refl _, hi2j, HX.out, rfl⟩
          case round =>
            obtain ⟨q, rfl, hqj, hiq, hst, hI⟩ := hrel
            have HDe := Lib.hid hI
            have HSe5 := Lib.hid hst
            have ce5 := B0 hst
            clear hI hst
            by_cases hq : i2 ≤ q
            · have hqz : (i2 : Int) ≤ (q : Int) := by omega
              have hl5 := S.ls HSe5.out.sw hsk a q (a : Int) (q : Int) rfl rfl (by omega) (by omega)
              cases hlv : lt dk[a]! dk[q]! with
              | true =>
                rw [hlv] at hl5
                obtain ⟨y, hy⟩ : ∃ y : Nat, q = y + 1 := ⟨q - 1, by omega⟩
                have HON : Hid (scanDown (fun x => lt dk[a]! x) dk i2 q = scanDown (fun x => lt dk[a]! x) dk i2 y) := Lib.hid (by subst hy; exact down_on hq (by simp [hlv]))
                have hyz : (q : Int) - 1 = (y : Int) := by omega
                have hy1 : y ≤ j := by omega
                have hy2 : i2 ≤ y + 1 := by omega
                have hy3 : y < q := by omega
                clear hlv hy
                go_wp2_with (go_at_fn g; refine hl5.mono ?_; rintro e we6 ⟨rfl, hg⟩; have HSe6 := Lib.hid (HSe5.out.gr hg); clear hg)
                go_roundw
                case rel =>
                  first
                    | exact ⟨y, rfl, hy1, hy2, HSe6.out, by rw [← HDe.out]; exact HON.out.symm⟩
                    | ((repeat apply Exists.intro)
                       exact ⟨⟨y, rfl, hy1, hy2, HSe6.out, by rw [← HDe.out]; exact HON.out.symm⟩, by simp [hyz] <;> and_intros <;> rfl⟩)
                case measure => simp [intOf] <;> omega
              | false =>
                rw [hlv] at hl5
                have HDN : Hid (scanDown (fun x => lt dk[a]! x) dk i2 j = q) := Lib.hid (by rw [← HDe.out]; exact down_stop (Or.inr (by simp [hlv])))
                have hlt : i2 < q := by
                  rcases Nat.lt_or_ge i2 q with h0 | h0
                  · exact h0
                  · obtain rfl : i2 = q := by omega
                    exact absurd (hlv.symm.trans HUW.out) (by simp)
                clear hlv
                have hgz : ¬ (q : Int) < (i2 : Int) := by omega
                go_wp2_with (go_at_fn g; refine hl5.mono ?_; rintro e we6 ⟨rfl, hg⟩; have HSe6 := Lib.hid (HSe5.out.gr hg); have ce6 := B1 HSe6.out; clear hg)
                obtain ⟨We8, hsw, hst, hsz⟩ := S.sp HSe6.out hsk i2 q (i2 : Int) (q : Int) rfl rfl (by omega) (by omega)
                have HSe8 := Lib.hid hst
                have Hse8 := Lib.hid hsz
                rw [hsw, Oper.upon_value]
                clear hsw hst hsz
                go_wp2
                go_roundw
                case rel =>
                  first
                    | exact ⟨i2 + 1, q - 1, swp dk i2 q, by go_num, by congr 1; omega, by omega, by omega, by omega, Hse8.out, HSe8.out, by rw [HO.out]; exact pe_go HUP.out HDN.out (by omega)⟩
                    | ((repeat apply Exists.intro)
                       exact ⟨⟨i2 + 1, q - 1, swp dk i2 q, by go_num, by congr 1; omega, by omega, by omega, by omega, Hse8.out, HSe8.out, by rw [HO.out]; exact pe_go HUP.out HDN.out (by omega)⟩, by simp [show ((q - 1 : Nat) : Int) = (q : Int) - 1 by omega] <;> and_intros <;> rfl⟩)
                case measure => simp [intOf] <;> omega
            · have hqz : ¬ (i2 : Int) ≤ (q : Int) := by omega
              have HDN : Hid (scanDown (fun x => lt dk[a]! x) dk i2 j = q) := Lib.hid (by rw [← HDe.out]; exact down_stop (Or.inl hq))
              have hgz : (q : Int) < (i2 : Int) := by omega
              have ce6 := B1 HSe5.out
              go_wp2
              (try simp only [Exit.inBlock, Exit.then, Exit.noGoto_ret]); refine bodyPost_ret (v := .int .i64 (i2 : Int)) (by simp [results, Try.results68, go_sem]) rfl ?_
              rw [HO.out, pe_break HUP.out HDN.out (by omega)]
              exact ⟨rfl, HSe5.out.under, hsk⟩
      · have hijz : ¬ (i2 : Int) ≤ (j : Int) := by omega
        have HUP : Hid (scanUp (fun x => !lt dk[a]! x) dk j i = i2) := Lib.hid (by rw [← HUe.out]; exact up_stop (Or.inl hij2))
        have HX := HSe4
        go_wp2
        go_loopw [10] (fun vqe wre3 => ∃ (q : Nat), vqe = .int .i64 q ∧ q ≤ j ∧ i2 ≤ q + 1 ∧ St enc k blk off w0 blk (W.alloc (.cells #[.func (.func g) #[] lb, .func (.func sf) #[] sb] 88)) dk wre3 ∧ scanDown (fun x => lt dk[a]! x) dk i2 q = scanDown (fun x => lt dk[a]! x) dk i2 j) (fun vqe _ => (intOf vqe).toNat)
        case atStart => exact ⟨j, rfl, Nat.le_refl _, hi2j, HX.out, rfl⟩
        case round =>
          obtain ⟨q, rfl, hqj, hiq, hst, hI⟩ := hrel
          have HDe := Lib.hid hI
          have HSe5 := Lib.hid hst
          have ce5 := B0 hst
          clear hI hst
          by_cases hq : i2 ≤ q
          · exact absurd (Nat.le_trans hq hqj) hij2
          · have hqz : ¬ (i2 : Int) ≤ (q : Int) := by omega
            have HDN : Hid (scanDown (fun x => lt dk[a]! x) dk i2 j = q) := Lib.hid (by rw [← HDe.out]; exact down_stop (Or.inl hq))
            have hgz : (q : Int) < (i2 : Int) := by omega
            have ce6 := B1 HSe5.out
            go_wp2
            (try simp only [Exit.inBlock, Exit.then, Exit.noGoto_ret]); refine bodyPost_ret (v := .int .i64 (i2 : Int)) (by simp [results, Try.results68, go_sem]) rfl ?_
            rw [HO.out, pe_break HUP.out HDN.out (by omega)]
            exact ⟨rfl, HSe5.out.under, hsk⟩
end So
end Go.Proofs.Ytbemkcnikoiecaa
namespace Go.Proofs.Ytbemkcnikoiecaa
open Go.Shelf Go.RowKit Go.Lib Go.Sort
namespace So
variable {α : Type} [Inhabited α] {enc : α → List Value} {k blk off n g sf : Nat} {lt : α → α → Bool} {lb sb : Array Value} {w0 : World}
/-- What 'partition' makes of the row behind its first swap. -/
def partB (lt : α → α → Bool) (a i j : Nat) (d : Array α) : Nat × Bool × Array α :=
  if scanUp (fun x => lt x d[a]!) d j i > scanDown (fun x => !lt x d[a]!) d (scanUp (fun x => lt x d[a]!) d j i) j then
    (scanDown (fun x => !lt x d[a]!) d (scanUp (fun x => lt x d[a]!) d j i) j, true, swp d (scanDown (fun x => !lt x d[a]!) d (scanUp (fun x => lt x d[a]!) d j i) j) a)
  else
    ((partLoop lt a (scanUp (fun x => lt x d[a]!) d j i + 1) (scanDown (fun x => !lt x d[a]!) d (scanUp (fun x => lt x d[a]!) d j i) j - 1) (swp d (scanUp (fun x => lt x d[a]!) d j i) (scanDown (fun x => !lt x d[a]!) d (scanUp (fun x => lt x d[a]!) d j i) j))).1, false,
      swp (partLoop lt a (scanUp (fun x => lt x d[a]!) d j i + 1) (scanDown (fun x => !lt x d[a]!) d (scanUp (fun x => lt x d[a]!) d j i) j - 1) (swp d (scanUp (fun x => lt x d[a]!) d j i) (scanDown (fun x => !lt x d[a]!) d (scanUp (fun x => lt x d[a]!) d j i) j))).2
        (partLoop lt a (scanUp (fun x => lt x d[a]!) d j i + 1) (scanDown (fun x => !lt x d[a]!) d (scanUp (fun x => lt x d[a]!) d j i) j - 1) (swp d (scanUp (fun x => lt x d[a]!) d j i) (scanDown (fun x => !lt x d[a]!) d (scanUp (fun x => lt x d[a]!) d j i) j))).1 a)
theorem part_is (d : Array α) (a b pivot : Nat) : partition lt d a b pivot = partB lt a (a + 1) (b - 1) (swp d a pivot) := rfl
theorem part_break {a i j i2 j2 : Nat} {d : Array α} (h1 : scanUp (fun x => lt x d[a]!) d j i = i2) (h2 : scanDown (fun x => !lt x d[a]!) d i2 j = j2) (h : i2 > j2) : partB lt a i j d = (j2, true, swp d j2 a) := by
  unfold partB
  rw [h1, h2, if_pos h]
theorem part_go {a i j i2 j2 : Nat} {d : Array α} (h1 : scanUp (fun x => lt x d[a]!) d j i = i2) (h2 : scanDown (fun x => !lt x d[a]!) d i2 j = j2) (h : ¬ i2 > j2) :
    partB lt a i j d = ((partLoop lt a (i2 + 1) (j2 - 1) (swp d i2 j2)).1, false, swp (partLoop lt a (i2 + 1) (j2 - 1) (swp d i2 j2)).2 (partLoop lt a (i2 + 1) (j2 - 1) (swp d i2 j2)).1 a) := by
  unfold partB
  rw [h1, h2, if_neg h]
set_option maxHeartbeats 16000000 in
set_option maxRecDepth 100000 in
theorem so_part (S : SE enc k lt g lb sf sb blk off n w0) (a b pivot : Nat) (d : Array α) (W : World) (h : SWK enc k w0 blk off d W) (hs : d.size = n) (hap : a ≤ pivot) (hpb : pivot < b) (hbn : b ≤ n) :
    Calls Try.prog 69 #[.agg #[.func (.func g) #[] lb, .func (.func sf) #[] sb], .int .i64 a, .int .i64 b, .int .i64 pivot] W fun e w' => e = .returned (.tuple #[.int .i64 ((partition lt d a b pivot).1 : Int), .bool (partition lt d a b pivot).2.1]) ∧ St enc k blk off w0 blk W (partition lt d a b pivot).2.2 w' ∧ (partition lt d a b pivot).2.2.size = n := by
  have hn := S.hn
  have eg := S.eg
  have hbW := h.lt S.hb
  have B0 := fun {dj : Array α} {X : World} => S.box (c := blk) (cs := #[.func (.func g) #[] lb, .func (.func sf) #[] sb]) (t := 88) (v := .func (.func g) #[] lb) h 0 (by simp) hbW (dj := dj) (X := X)
  have B1 := fun {dj : Array α} {X : World} => S.box (c := blk) (cs := #[.func (.func g) #[] lb, .func (.func sf) #[] sb]) (t := 88) (v := .func (.func sf) #[] sb) h 1 (by simp) hbW (dj := dj) (X := X)
  have H1 := Lib.hid (St.start (c := blk) (h.alloc (.cells #[.func (.func g) #[] lb, .func (.func sf) #[] sb] 88)))
  have E0 : Hid (partition lt d a b pivot = partB lt a (a + 1) (b - 1) (swp d a pivot)) := Lib.hid (part_is d a b pivot)
  generalize partition lt d a b pivot = R at E0 ⊢
  have cW := B1 H1.out
  obtain ⟨i, hi⟩ : ∃ i : Nat, a + 1 = i := ⟨_, rfl⟩
  obtain ⟨j, hj⟩ : ∃ j : Nat, b - 1 = j := ⟨_, rfl⟩
  have hiz : (a : Int) + 1 = (i : Int) := by omega
  have hjz : (b : Int) - 1 = (j : Int) := by omega
  have hai : a < i := by omega
  have hij : i ≤ j + 1 := by omega
  have hjb : j < b := by omega
  rw [hi, hj] at E0
  clear hi hj
  go_enter Try.func69, Try.ntmps69
  go_wp2
  obtain ⟨W1, hsw, hst, hsz⟩ := S.sp H1.out hs a pivot (a : Int) (pivot : Int) rfl rfl (by omega) (by omega)
  have HS1 := Lib.hid hst
  have Hs1 := Lib.hid hsz
  rw [hsw, Oper.upon_value]
  clear hsw hst hsz
  obtain ⟨dk, hdk⟩ : ∃ dk, swp d a pivot = dk := ⟨_, rfl⟩
  rw [hdk] at E0 HS1 Hs1
  have E := E0
  have HS := HS1
  have hsk := Hs1.out
  clear hdk cW H1 E0 HS1 Hs1
  go_wp2
  clear hiz hjz
  go_loopw [10] (fun vif wrf2 => ∃ (i2 : Nat), vif = .int .i64 i2 ∧ i ≤ i2 ∧ i2 ≤ j + 1 ∧ St enc k blk off w0 blk (W.alloc (.cells #[.func (.func g) #[] lb, .func (.func sf) #[] sb] 88)) dk wrf2 ∧ scanUp (fun x => lt x dk[a]!) dk j i2 = scanUp (fun x => lt x dk[a]!) dk j i) (fun vif _ => j + 1 - (intOf vif).toNat)
  case atStart => exact ⟨i, rfl, Nat.le_refl _, hij, HS.out, rfl⟩
  case round =>
    obtain ⟨i2, rfl, hii, hi2j, hst, hI⟩ := hrel
    have HUf := Lib.hid hI
    have HSf4 := Lib.hid hst
    have cf4 := B0 hst
    clear hI hst
    by_cases hij2 : i2 ≤ j
    · have hijz : (i2 : Int) ≤ (j : Int) := by omega
      have hl4 := S.ls HSf4.out.sw hsk i2 a (i2 : Int) (a : Int) rfl rfl (by omega) (by omega)
      cases hlv : lt dk[i2]! dk[a]! with
      | true =>
        rw [hlv] at hl4
        have HON : Hid (scanUp (fun x => lt x dk[a]!) dk j i2 = scanUp (fun x => lt x dk[a]!) dk j (i2 + 1)) := Lib.hid (up_on hij2 (by simp [hlv]))
        clear hlv
        go_wp2_with (go_at_fn g; refine hl4.mono ?_; rintro e wf4 ⟨rfl, hg⟩; have HSf7 := Lib.hid (HSf4.out.gr hg); clear hg)
        go_roundw
        case rel =>
          first
            | exact ⟨i2 + 1, by go_num, by omega, by omega, HSf7.out, by rw [← HUf.out]; exact HON.out.symm⟩
            | ((repeat apply Exists.intro)
               exact ⟨⟨i2 + 1, by go_num, by omega, by omega, HSf7.out, by rw [← HUf.out]; exact HON.out.symm⟩, by simp <;> and_intros <;> rfl⟩)
        case measure => simp [intOf] <;> omega
      | false =>
        rw [hlv] at hl4
        have HUP : Hid (scanUp (fun x => lt x dk[a]!) dk j i = i2) := Lib.hid (by rw [← HUf.out]; exact up_stop (Or.inr (by simp [hlv])))
        have HUW : Hid (lt dk[i2]! dk[a]! = false) := Lib.hid hlv
        clear hlv
        go_wp2_with (go_at_fn g; refine hl4.mono ?_; rintro e wf4 ⟨rfl, hg⟩; have HX := Lib.hid (HSf4.out.gr hg); clear hg)
        go_loopw [11] (fun vqf wrf3 => ∃ (q : Nat), vqf = .int .i64 q ∧ q ≤ j ∧ i2 ≤ q + 1 ∧ St enc k blk off w0 blk (W.alloc (.cells #[.func (.func g) #[] lb, .func (.func sf) #[] sb] 88)) dk wrf3 ∧ scanDown (fun x => !lt x dk[a]!) dk i2 q = scanDown (fun x => !lt x dk[a]!) dk i2 j) (fun vqf _ => (intOf vqf).toNat)
        case atStart => exact ⟨j, rfl, Nat.le_refl _, hi2j, HX.out, rfl⟩
        case round =>
          obtain ⟨q, rfl, hqj, hiq, hst, hI⟩ := hrel
          have HDf := Lib.hid hI
          have HSf5 := Lib.hid hst
          have cf5 := B0 hst
          clear hI hst
          by_cases hq : i2 ≤ q
          · have hqz : (i2 : Int) ≤ (q : Int) := by omega
            have hl5 := S.ls HSf5.out.sw hsk q a (q : Int) (a : Int) rfl rfl (by omega) (by omega)
            cases hlv : lt dk[q]! dk[a]! with
            | false =>
              rw [hlv] at hl5
              obtain ⟨y, hy⟩ : ∃ y : Nat, q = y + 1 := ⟨q - 1, by omega⟩
              have HON : Hid (scanDown (fun x => !lt x dk[a]!) dk i2 q = scanDown (fun x => !lt x dk[a]!) dk i2 y) := Lib.hid (by subst hy; exact down_on hq (by simp [hlv]))
              have hyz : (q : Int) - 1 = (y : Int) := by omega
              have hy1 : y ≤ j := by omega
              have hy2 : i2 ≤ y + 1 := by omega
              have hy3 : y < q := by omega
              clear hlv hy
              go_wp2_with (go_at_fn g; refine hl5.mono ?_; rintro e wf6 ⟨rfl, hg⟩; have HSf6 := Lib.hid (HSf5.out.gr hg); clear hg)
              go_roundw
              case rel =>
                first
                  | exact ⟨y, rfl, hy1, hy2, HSf6.out, by rw [← HDf.out]; exact HON.out.symm⟩
                  | ((repeat apply Exists.intro)
                     exact ⟨⟨y, rfl, hy1, hy2, HSf6.out, by rw [← HDf.out]; exact HON.out.symm⟩, by simp [hyz] <;> and_intros <;> rfl⟩)
              case measure => simp [intOf] <;> omega
            | true =>
              rw [hlv] at hl5
              have HDN : Hid (scanDown (fun x => !lt x dk[a]!) dk i2 j = q) := Lib.hid (by rw [← HDf.out]; exact down_stop (Or.inr (by simp [hlv])))
              have hlt : i2 < q := by
                rcases Nat.lt_or_ge i2 q with h0 | h0
                · exact h0
                · obtain rfl : i2 = q := by omega
                  exact absurd (hlv.symm.trans HUW.out) (by simp)
              clear hlv
              have hgz : ¬ (q : Int) < (i2 : Int) := by omega
              go_wp2_with (go_at_fn g; refine hl5.mono ?_; rintro e wf6 ⟨rfl, hg⟩; have HSf6 := Lib.hid (HSf5.out.gr hg); have cf6 := B1 HSf6.out; clear hg)
              obtain ⟨Wf8, hsw, hst, hsz⟩ := S.sp HSf6.out hsk i2 q (i2 : Int) (q : Int) rfl rfl (by omega) (by omega)
              have HSf8 := Lib.hid hst
              have Hsf8 := Lib.hid hsz
              rw [hsw, Oper.upon_value]
              clear hsw hst hsz
              have HPL : Hid (R = ((partLoop lt a (i2 + 1) (q - 1) (swp dk i2 q)).1, false, swp (partLoop lt a (i2 + 1) (q - 1) (swp dk i2 q)).2 (partLoop lt a (i2 + 1) (q - 1) (swp dk i2 q)).1 a)) := Lib.hid (by rw [E.out]; exact part_go HUP.out HDN.out (by omega))
              obtain ⟨i3, hi3⟩ : ∃ i3 : Nat, i2 + 1 = i3 := ⟨_, rfl⟩
              obtain ⟨j3, hj3⟩ : ∃ j3 : Nat, q - 1 = j3 := ⟨_, rfl⟩
              obtain ⟨d3, hd3⟩ : ∃ d3, swp dk i2 q = d3 := ⟨_, rfl⟩
              rw [hi3, hj3, hd3] at HPL
              rw [hd3] at HSf8 Hsf8
              have hi3z : (i2 : Int) + 1 = (i3 : Int) := by omega
              have hj3z : (q : Int) - 1 = (j3 : Int) := by omega
              have hai3 : a < i3 := by omega
              have hij3 : i3 ≤ j3 + 1 := by omega
              have hjb3 : j3 < b := by omega
              have hs3 := Hsf8.out
              clear hi3 hj3 hd3 HUP HDN HUf HDf E hii hi2j hqj hiq hq hlt hgz hij hai hjb hsk hl5 HX HS
              go_wp2
              clear hi3z hj3z
              go_loopw [10, 11] (fun v10 v11 wr => ∃ (i j : Nat) (dk : Array α), v10 = .int .i64 i ∧ v11 = .int .i64 j ∧ a < i ∧ i ≤ j + 1 ∧ j < b ∧ dk.size = n ∧ St enc k blk off w0 blk (W.alloc (.cells #[.func (.func g) #[] lb, .func (.func sf) #[] sb] 88)) dk wr ∧ R = ((partLoop lt a i j dk).1, false, swp (partLoop lt a i j dk).2 (partLoop lt a i j dk).1 a)) (fun v10 v11 _ => (intOf v11).toNat + 1 - (intOf v10).toNat)
              case atStart => exact ⟨i3, j3, d3, rfl, rfl, hai3, hij3, hjb3, hs3, HSf8.out, HPL.out⟩
              case round =>
                obtain ⟨i, j, dk, rfl, rfl, hai, hij, hjb, hsk, hst, hO⟩ := hrel
                have HO := Lib.hid hO
                have HS := Lib.hid hst
                clear hO hst HSf8 Hsf8 HPL
                go_wp2
                go_loopw [10] (fun vig wrg2 => ∃ (i2 : Nat), vig = .int .i64 i2 ∧ i ≤ i2 ∧ i2 ≤ j + 1 ∧ St enc k blk off w0 blk (W.alloc (.cells #[.func (.func g) #[] lb, .func (.func sf) #[] sb] 88)) dk wrg2 ∧ scanUp (fun x => lt x dk[a]!) dk j i2 = scanUp (fun x => lt x dk[a]!) dk j i) (fun vig _ => j + 1 - (intOf vig).toNat)
                case atStart => exact ⟨i, rfl, Nat.le_refl _, hij, HS.out, rfl⟩
                case round =>
                  obtain ⟨i2, rfl, hii, hi2j, hst, hI⟩ := hrel
                  have HUg := Lib.hid hI
                  have HSg4 := Lib.hid hst
                  have cg4 := B0 hst
                  clear hI hst
                  by_cases hij2 : i2 ≤ j
                  · have hijz : (i2 : Int) ≤ (j : Int) := by omega
                    have hl4 := S.ls HSg4.out.sw hsk i2 a (i2 : Int) (a : Int) rfl rfl (by omega) (by omega)
                    cases hlv : lt dk[i2]! dk[a]! with
                    | true =>
                      rw [hlv] at hl4
                      have HON : Hid (scanUp (fun x => lt x dk[a]!) dk j i2 = scanUp (fun x => lt x dk[a]!) dk j (i2 + 1)) := Lib.hid (up_on hij2 (by simp [hlv]))
                      clear hlv
                      go_wp2_with (go_at_fn g; refine hl4.mono ?_; rintro e wg4 ⟨rfl, hg⟩; have HSg7 := Lib.hid (HSg4.out.gr hg); clear hg)
                      go_roundw
                      case rel =>
                        first
                          | exact ⟨i2 + 1, by go_num, by omega, by omega, HSg7.out, by rw [← HUg.out]; exact HON.out.symm⟩
                          | ((repeat apply Exists.intro)
                             exact ⟨⟨i2 + 1, by go_num, by omega, by omega, HSg7.out, by rw [← HUg.out]; exact HON.out.symm⟩, by simp <;> and_intros <;> rfl⟩)
                      case measure => simp [intOf] <;> omega
                    | false =>
                      rw [hlv] at hl4
                      have HUP : Hid (scanUp (fun x => lt x dk[a]!) dk j i = i2) := Lib.hid (by rw [← HUg.out]; exact up_stop (Or.inr (by simp [hlv])))
                      have HUW : Hid (lt dk[i2]! dk[a]! = false) := Lib.hid hlv
                      clear hlv
                      go_wp2_with (go_at_fn g; refine hl4.mono ?_; rintro e wg4 ⟨rfl, hg⟩; have HX := Lib.hid (HSg4.out.gr hg); clear hg)
                      go_loopw [11] (fun vqg wrg3 => ∃ (q : Nat), vqg = .int .i64 q ∧ q ≤ j ∧ i2 ≤ q + 1 ∧ St enc k blk off w0 blk (W.alloc (.cells #[.func (.func g) #[] lb, .func (.func sf) #[] sb] 88)) dk wrg3 ∧ scanDown (fun x => !lt x dk[a]!) dk i2 q = scanDown (fun x => !lt x dk[a]!) dk i2 j) (fun vqg _ => (intOf vqg).toNat)
                      case atStart => exact ⟨j, rfl, Nat.le_refl _, hi2j, HX.out, rfl⟩
                      case round =>
                        obtain ⟨q, rfl, hqj, hiq, hst, hI⟩ := hrel
                        have HDg := Lib.hid hI
                        have HSg5 := Lib.hid hst
                        have cg5 := B0 hst
                        clear hI hst
                        by_cases hq : i2 ≤ q
                        · have hqz : (i2 : Int) ≤ (q : Int) := by omega
                          have hl5 := S.ls HSg5.out.sw hsk q a (q : Int) (a : Int) rfl rfl (by omega) (by omega)
                          cases hlv : lt dk[q]! dk[a]! with
                          | false =>
                            rw [hlv] at hl5
                            obtain ⟨y, hy⟩ : ∃ y : Nat, q = y + 1 := ⟨q - 1, by omega⟩
                            have HON : Hid (scanDown (fun x => !lt x dk[a]!) dk i2 q = scanDown (fun x => !lt x dk[a]!) dk i2 y) := Lib.hid (by subst hy; exact down_on hq (by simp [hlv]))
                            have hyz : (q : Int) - 1 = (y : Int) := by omega
                            have hy1 : y ≤ j := by omega
                            have hy2 : i2 ≤ y + 1 := by omega
                            have hy3 : y < q := by omega
                            clear hlv hy
                            go_wp2_with (go_at_fn g; refine hl5.mono ?_; rintro e wg6 ⟨rfl, hg⟩; have HSg6 := Lib.hid (HSg5.out.gr hg); clear hg)
                            go_roundw
                            case rel =>
                              first
                                | exact ⟨y, rfl, hy1, hy2, HSg6.out, by rw [← HDg.out]; exact HON.out.symm⟩
                                | ((repeat apply Exists.intro)
                                   exact ⟨⟨y, rfl, hy1, hy2, HSg6.out, by rw [← HDg.out]; exact HON.out.symm⟩, by simp [hyz] <;> and_intros <;> rfl⟩)
                            case measure => simp [intOf] <;> omega
                          | true =>
                            rw [hlv] at hl5
                            have HDN : Hid (scanDown (fun x => !lt x dk[a]!) dk i2 j = q) := Lib.hid (by rw [← HDg.out]; exact down_stop (Or.inr (by simp [hlv])))
                            have hlt : i2 < q := by
                              rcases Nat.lt_or_ge i2 q with h0 | h0
                              · exact h0
                              · obtain rfl : i2 = q := by omega
                                exact absurd (hlv.symm.trans HUW.out) (by simp)
                            clear hlv
                            have hgz : ¬ (q : Int) < (i2 : Int) := by omega
                            go_wp2_with (go_at_fn g; refine hl5.mono ?_; rintro e wg6 ⟨rfl, hg⟩; have HSg6 := Lib.hid (HSg5.out.gr hg); have cg6 := B1 HSg6.out; clear hg)
                            obtain ⟨Wg8, hsw, hst, hsz⟩ := S.sp HSg6.out hsk i2 q (i2 : Int) (q : Int) rfl rfl (by omega) (by omega)
                            have HSg8 := Lib.hid hst
                            have Hsg8 := Lib.hid hsz
                            rw [hsw, Oper.upon_value]
                            clear hsw hst hsz
                            go_wp2
                            go_roundw
                            case rel =>
                              first
                                | exact ⟨i2 + 1, q - 1, swp dk i2 q, by go_num, by congr 1; omega, by omega, by omega, by omega, Hsg8.out, HSg8.out, by rw [HO.out]; rw [pl_go HUP.out HDN.out (by omega)]⟩
                                | ((repeat apply Exists.intro)
                                   exact ⟨⟨i2 + 1, q - 1, swp dk i2 q, by go_num, by congr 1; omega, by omega, by omega, by omega, Hsg8.out, HSg8.out, by rw [HO.out]; rw [pl_go HUP.out HDN.out (by omega)]⟩, by simp [show ((q - 1 : Nat) : Int) = (q : Int) - 1 by omega] <;> and_intros <;> rfl⟩)
                            case measure => simp [intOf] <;> omega
                        · have hqz : ¬ (i2 : Int) ≤ (q : Int) := by omega
                          have HDN : Hid (scanDown (fun x => !lt x dk[a]!) dk i2 j = q) := Lib.hid (by rw [← HDg.out]; exact down_stop (Or.inl hq))
                          have hgz : (q : Int) < (i2 : Int) := by omega
                          have cg6 := B1 HSg5.out
                          go_wp2
                          obtain ⟨Wg8, hsw, hst, hsz⟩ := S.sp HSg5.out hsk q a (q : Int) (a : Int) rfl rfl (by omega) (by omega)
                          have HSg8 := Lib.hid hst
                          have Hsg8 := Lib.hid hsz
                          rw [hsw, Oper.upon_value]
                          clear hsw hst hsz
                          go_wp2
                          (try simp only [Exit.inBlock, Exit.then, Exit.noGoto_ret]); refine bodyPost_ret (v := .tuple #[.int .i64 (q : Int), .bool false]) (by simp [results, Try.results69, go_sem]) rfl ?_
                          have e0 := HO.out
                          rw [pl_break HUP.out HDN.out (by omega)] at e0
                          rw [e0]
                          exact ⟨rfl, HSg8.out.under, Hsg8.out⟩
                  · have hijz : ¬ (i2 : Int) ≤ (j : Int) := by omega
                    have HUP : Hid (scanUp (fun x => lt x dk[a]!) dk j i = i2) := Lib.hid (by rw [← HUg.out]; exact up_stop (Or.inl hij2))
                    have HX := HSg4
                    go_wp2
                    go_loopw [11] (fun vqg wrg3 => ∃ (q : Nat), vqg = .int .i64 q ∧ q ≤ j ∧ i2 ≤ q + 1 ∧ St enc k blk off w0 blk (W.alloc (.cells #[.func (.func g) #[] lb, .func (.func sf) #[] sb] 88)) dk wrg3 ∧ scanDown (fun x => !lt x dk[a]!) dk i2 q = scanDown (fun x => !lt x dk[a]!) dk i2 j) (fun vqg _ => (intOf vqg).toNat)
                    case atStart => exact ⟨j, rfl, Nat.le_refl _, hi2j, HX.out, rfl⟩
                    case round =>
                      obtain ⟨q, rfl, hqj, hiq, hst, hI⟩ := hrel
                      have HDg := Lib.hid hI
                      have HSg5 := Lib.hid hst
                      have cg5 := B0 hst
                      clear hI hst
                      by_cases hq : i2 ≤ q
                      · exact absurd (Nat.le_trans hq hqj) hij2
                      · have hqz : ¬ (i2 : Int) ≤ (q : Int) := by omega
                        have HDN : Hid (scanDown (fun x => !lt x dk[a]!) dk i2 j = q) := Lib.hid (by rw [← HDg.out]; exact down_stop (Or.inl hq))
                        have hgz : (q : Int) < (i2 : Int) := by omega
                        have cg6 := B1 HSg5.out
                        go_wp2
                        obtain ⟨Wg8, hsw, hst, hsz⟩ := S.sp HSg5.out hsk q a (q : Int) (a : Int) rfl rfl (by omega) (by omega)
                        have HSg8 := Lib.hid hst
                        have Hsg8 := Lib.hid hsz
                        rw [hsw, Oper.upon_value]
                        clear hsw hst hsz
                        go_wp2
                        (try simp only [Exit.inBlock, Exit.then, Exit.noGoto_ret]); refine bodyPost_ret (v := .tuple #[.int .i64 (q : Int), .bool false]) (by simp [results, Try.results69, go_sem]) rfl ?_
                        have e0 := HO.out
                        rw [pl_break HUP.out HDN.out (by omega)] at e0
                        rw [e0]
                        exact ⟨rfl, HSg8.out.under, Hsg8.out⟩
          · have hqz : ¬ (i2 : Int) ≤ (q : Int) := by omega
            have HDN : Hid (scanDown (fun x => !lt x dk[a]!) dk i2 j = q) := Lib.hid (by rw [← HDf.out]; exact down_stop (Or.inl hq))
            have hgz : (q : Int) < (i2 : Int) := by omega
            have cf6 := B1 HSf5.out
            go_wp2
            obtain ⟨Wf8, hsw, hst, hsz⟩ := S.sp HSf5.out hsk q a (q : Int) (a : Int) rfl rfl (by omega) (by omega)
            have HSf8 := Lib.hid hst
            have Hsf8 := Lib.hid hsz
            rw [hsw, Oper.upon_value]
            clear hsw hst hsz
            go_wp2
            (try simp only [Exit.inBlock, Exit.then, Exit.noGoto_ret]); refine bodyPost_ret (v := .tuple #[.int .i64 (q : Int), .bool true]) (by simp [results, Try.results69, go_sem]) rfl ?_
            rw [E.out, part_break HUP.out HDN.out (by omega)]
            exact ⟨rfl, HSf8.out.under, Hsf8.out⟩
    · have hijz : ¬ (i2 : Int) ≤ (j : Int) := by omega
      have HUP : Hid (scanUp (fun x => lt x dk[a]!) dk j i = i2) := Lib.hid (by rw [← HUf.out]; exact up_stop (Or.inl hij2))
      have HX := HSf4
      go_wp2
      go_loopw [11] (fun vqf wrf3 => ∃ (q : Nat), vqf = .int .i64 q ∧ q ≤ j ∧ i2 ≤ q + 1 ∧ St enc k blk off w0 blk (W.alloc (.cells #[.func (.func g) #[] lb, .func (.func sf) #[] sb] 88)) dk wrf3 ∧ scanDown (fun x => !lt x dk[a]!) dk i2 q = scanDown (fun x => !lt x dk[a]!) dk i2 j) (fun vqf _ => (intOf vqf).toNat)
      case atStart => exact ⟨j, rfl, Nat.le_refl _, hi2j, HX.out, rfl⟩
      case round =>
        obtain ⟨q, rfl, hqj, hiq, hst, hI⟩ := hrel
        have HDf := Lib.hid hI
        have HSf5 := Lib.hid hst
        have cf5 := B0 hst
        clear hI hst
        by_cases hq : i2 ≤ q
        · exact absurd (Nat.le_trans hq hqj) hij2
        · have hqz : ¬ (i2 : Int) ≤ (q : Int) := by omega
          have HDN : Hid (scanDown (fun x => !lt x dk[a]!) dk i2 j = q) := Lib.hid (by rw [← HDf.out]; exact down_stop (Or.inl hq))
          have hgz : (q : Int) < (i2 : Int) := by omega
          have cf6 := B1 HSf5.out
          go_wp2
          obtain ⟨Wf8, hsw, hst, hsz⟩ := S.sp HSf5.out hsk q a (q : Int) (a : Int) rfl rfl (by omega) (by omega)
          have HSf8 := Lib.hid hst
          have Hsf8 := Lib.hid hsz
          rw [hsw, Oper.upon_value]
          clear hsw hst hsz
          go_wp2
          (try simp only [Exit.inBlock, Exit.then, Exit.noGoto_ret]); refine bodyPost_ret (v := .tuple #[.int .i64 (q : Int), .bool true]) (by simp [results, Try.results69, go_sem]) rfl ?_
          rw [E.out, part_break HUP.out HDN.out (by omega)]
          exact ⟨rfl, HSf8.out.under, Hsf8.out⟩
end So
end Go.Proofs.Ytbemkcnikoiecaa
namespace Go.Proofs.Ytbemkcnikoiecaa
open Go.Shelf Go.RowKit Go.Lib Go.Sort
namespace So
variable {α : Type} [Inhabited α] {enc : α → List Value} {k blk off n g sf : Nat} {lt : α → α → Bool} {lb sb : Array Value} {w0 : World}

/-- The counter of swaps, in a block of its own. -/
structure Cnt (w0 : World) (blk cb s : Nat) (W : World) : Prop where
  at_ : W.heap[cb]? = some (.cells #[.int .i64 (s : Int)] 3)
  new_ : w0.heap.size ≤ cb
  ne : cb ≠ blk
theorem Cnt.low {blk cb s : Nat} {W : World} (h : Cnt w0 blk cb s W) : cb < W.heap.size := by
  have := h.at_
  rcases Nat.lt_or_ge cb W.heap.size with h0 | h0
  · exact h0
  · rw [Array.getElem?_eq_none h0] at this; cases this
theorem Cnt.cell {blk cb s : Nat} {W : World} (h : Cnt w0 blk cb s W) : W.cell? ⟨cb, 0, none⟩ = some (.int .i64 (s : Int)) := by
  have := h.at_
  simp [World.cell?, this]
theorem Cnt.free {blk cb s : Nat} {W : World} (h : Cnt w0 blk cb s W) : W.frozen? ⟨cb, 0, none⟩ = false := by
  have := h.at_
  simp [World.frozen?, this]
theorem Cnt.kx {blk cb s : Nat} {W W' : World} (h : Cnt w0 blk cb s W) (g : Kx blk blk W W') : Cnt w0 blk cb s W' := ⟨(g.2 cb h.low h.ne h.ne).trans h.at_, h.new_, h.ne⟩
theorem Cnt.gr {blk cb s : Nat} {W W' : World} (h : Cnt w0 blk cb s W) (g : Gr W W') : Cnt w0 blk cb s W' := h.kx (Kx.gr g)
theorem Cnt.set {blk cb s : Nat} {W : World} (h : Cnt w0 blk cb s W) (z : Int) (hz : z = ((s + 1 : Nat) : Int)) : Cnt w0 blk cb (s + 1) (W.setCell ⟨cb, 0, none⟩ (.int .i64 z)) := by
  subst hz
  refine ⟨?_, h.new_, h.ne⟩
  have := Joins.block_setCell (i := 0) h.at_ (.int .i64 ((s + 1 : Nat) : Int))
  simpa using this
theorem St.set {blk cb s : Nat} {enc : α → List Value} {k off : Nat} {W W1 : World} {dk : Array α} (h : St enc k blk off w0 cb W1 dk W) (c : Cnt w0 blk cb s W) (v : Value) : St enc k blk off w0 cb W1 dk (W.setCell ⟨cb, 0, none⟩ v) :=
  ⟨h.sw.setCell_new cb 0 v c.new_, h.kx.trans (Kx.setOther W 0 v)⟩

set_option maxHeartbeats 4000000 in
set_option maxRecDepth 100000 in
theorem so_order2 (S : SE enc k lt g lb sf sb blk off n w0) (a b cb s : Nat) (d : Array α) (W : World) (h : SWK enc k w0 blk off d W) (hs : d.size = n) (ha : a < n) (hb : b < n) (hc : Cnt w0 blk cb s W) (hs1 : s < 1000000) :
    Calls Try.prog 75 #[.agg #[.func (.func g) #[] lb, .func (.func sf) #[] sb], .int .i64 a, .int .i64 b, .pointer (some ⟨cb, 0, none⟩)] W fun e w' => e = .returned (.tuple #[.int .i64 ((order2 lt d a b s).1 : Int), .int .i64 ((order2 lt d a b s).2.1 : Int)]) ∧
      St enc k blk off w0 cb W d w' ∧ Cnt w0 blk cb (order2 lt d a b s).2.2 w' := by
  have hn := S.hn
  have eg := S.eg
  have hbW := h.lt S.hb
  have B0 := fun {dj : Array α} {X : World} => S.box (c := blk) (cs := #[.func (.func g) #[] lb, .func (.func sf) #[] sb]) (t := 88) (v := .func (.func g) #[] lb) h 0 (by simp) hbW (dj := dj) (X := X)
  have H1 := Lib.hid (St.start (c := blk) (h.alloc (.cells #[.func (.func g) #[] lb, .func (.func sf) #[] sb] 88)))
  have HC1 := Lib.hid (hc.kx (Kx.alloc W (.cells #[.func (.func g) #[] lb, .func (.func sf) #[] sb] 88)))
  have hl := S.ls H1.out.sw hs b a (b : Int) (a : Int) rfl rfl hb ha
  have cW := B0 H1.out
  clear hc
  go_enter Try.func75, Try.ntmps75
  cases hlv : lt d[b]! d[a]! with
  | true =>
    rw [hlv] at hl
    have E : Hid (order2 lt d a b s = (b, a, s + 1)) := Lib.hid (by simp [order2, hlv])
    clear hlv
    generalize order2 lt d a b s = R at E ⊢
    go_wp2_with (go_at_fn g; refine hl.mono ?_; rintro e w1 ⟨rfl, hg⟩; have HS1 := Lib.hid (H1.out.gr hg); have HC2 := Lib.hid (HC1.out.gr hg); have hcb := HC2.out.cell; have hfr := HC2.out.free; clear hg)
    refine bodyPost_ret (v := .tuple #[.int .i64 (b : Int), .int .i64 (a : Int)]) (by simp [results, Try.results75, go_sem]) rfl ?_
    rw [E.out]
    exact ⟨rfl, (St.set HS1.out.more.under HC2.out _), HC2.out.set _ (by omega)⟩
  | false =>
    rw [hlv] at hl
    have E : Hid (order2 lt d a b s = (a, b, s)) := Lib.hid (by simp [order2, hlv])
    clear hlv
    generalize order2 lt d a b s = R at E ⊢
    go_wp2_with (go_at_fn g; refine hl.mono ?_; rintro e w1 ⟨rfl, hg⟩; have HS1 := Lib.hid (H1.out.gr hg); have HC2 := Lib.hid (HC1.out.gr hg); clear hg)
    refine bodyPost_ret (v := .tuple #[.int .i64 (a : Int), .int .i64 (b : Int)]) (by simp [results, Try.results75, go_sem]) rfl ?_
    rw [E.out]
    exact ⟨rfl, HS1.out.more.under, HC2.out⟩
end So
end Go.Proofs.Ytbemkcnikoiecaa
namespace Go.Proofs.Ytbemkcnikoiecaa
open Go.Shelf Go.RowKit Go.Lib Go.Sort
namespace So
variable {α : Type} [Inhabited α] {enc : α → List Value} {k blk off n g sf : Nat} {lt : α → α → Bool} {lb sb : Array Value} {w0 : World}
theorem St.box {enc : α → List Value} {k off : Nat} {W X : World} {d : Array α} {cs : Array Value} {t : Go.TypeId} {cb o : Nat} {v : Value} (hX : St enc k blk off w0 cb (W.alloc (.cells cs t)) d X) (hb : blk < W.heap.size) (hc : cb < W.heap.size)
    (hv : (W.alloc (.cells cs t)).cell? ⟨W.heap.size, o, none⟩ = some v) : X.cell? ⟨W.heap.size, o, none⟩ = some v :=
  (hX.kx.cell (by simp) (by omega) (by omega)).trans hv
theorem Cnt.alloc {cb s : Nat} {W : World} (h : Cnt w0 blk cb s W) (o : Obj) : Cnt w0 blk cb s (W.alloc o) := h.kx (Kx.alloc W o)
set_option maxHeartbeats 4000000 in
set_option maxRecDepth 100000 in
theorem so_median (S : SE enc k lt g lb sf sb blk off n w0) (a b c cb s : Nat) (d : Array α) (W : World) (h : SWK enc k w0 blk off d W) (hs : d.size = n) (ha : a < n) (hb : b < n) (hc : c < n) (hn : Cnt w0 blk cb s W) (hs1 : s < 100000) :
    Calls Try.prog 74 #[.agg #[.func (.func g) #[] lb, .func (.func sf) #[] sb], .int .i64 a, .int .i64 b, .int .i64 c, .pointer (some ⟨cb, 0, none⟩)] W fun e w' => e = .returned (.int .i64 ((median lt d a b c s).1 : Int)) ∧
      St enc k blk off w0 cb W d w' ∧ Cnt w0 blk cb (median lt d a b c s).2 w' := by
  have hbW := h.lt S.hb
  have hcW := hn.low
  rcases h1 : order2 lt d a b s with ⟨a1, b1, s1⟩
  have m1 := order2_mem lt d a b s
  have n1 := order2_count lt d a b s
  rw [h1] at m1 n1
  rcases h2 : order2 lt d b1 c s1 with ⟨b2, c2, s2⟩
  have m2 := order2_mem lt d b1 c s1
  have n2 := order2_count lt d b1 c s1
  rw [h2] at m2 n2
  rcases h3 : order2 lt d a1 b2 s2 with ⟨a3, b3, s3⟩
  have E : Hid (median lt d a b c s = (b3, s3)) := Lib.hid (by simp [median, h1, h2, h3])
  simp only at m1 n1 m2 n2
  have HA := Lib.hid hn
  clear hn
  generalize median lt d a b c s = R at E ⊢
  have b0 := fun (X : World) (hX : St enc k blk off w0 cb (W.alloc (.cells #[.func (.func g) #[] lb, .func (.func sf) #[] sb] 88)) d X) => St.box (o := 0) (v := .func (.func g) #[] lb) hX hbW hcW (by simp)
  have b1' := fun (X : World) (hX : St enc k blk off w0 cb (W.alloc (.cells #[.func (.func g) #[] lb, .func (.func sf) #[] sb] 88)) d X) => St.box (o := 1) (v := .func (.func sf) #[] sb) hX hbW hcW (by simp)
  have H1 := Lib.hid (St.start (c := cb) (h.alloc (.cells #[.func (.func g) #[] lb, .func (.func sf) #[] sb] 88)))
  have HC1 := Lib.hid (HA.out.alloc (.cells #[.func (.func g) #[] lb, .func (.func sf) #[] sb] 88))
  go_enter Try.func74, Try.ntmps74
  go_wp2_with fail
  refine (so_order2 S a b cb s d _ H1.out.sw hs ha hb HC1.out (by omega)).mono ?_
  rw [h1]
  rintro e w1 ⟨rfl, st1, cn1⟩
  have H2 := Lib.hid (H1.out.trans st1)
  have HC2 := Lib.hid cn1
  have x0 := b0 _ H2.out
  have x1 := b1' _ H2.out
  clear st1 cn1
  go_wp2_with fail
  refine (so_order2 S b1 c cb s1 d _ H2.out.sw hs (by omega) hc HC2.out (by omega)).mono ?_
  rw [h2]
  rintro e w2 ⟨rfl, st2, cn2⟩
  have H3 := Lib.hid (H2.out.trans st2)
  have HC3 := Lib.hid cn2
  have x2 := b0 _ H3.out
  have x3 := b1' _ H3.out
  clear st2 cn2 x0 x1
  go_wp2_with fail
  refine (so_order2 S a1 b2 cb s2 d _ H3.out.sw hs (by omega) (by omega) HC3.out (by omega)).mono ?_
  rw [h3]
  rintro e w3 ⟨rfl, st3, cn3⟩
  have H4 := Lib.hid (H3.out.trans st3)
  have HC4 := Lib.hid cn3
  clear st3 cn3 x2 x3
  go_wp2
  go_ret
  rw [E.out]
  exact ⟨rfl, H4.out.under, HC4.out⟩
set_option maxHeartbeats 4000000 in
set_option maxRecDepth 100000 in
theorem so_medianAdj (S : SE enc k lt g lb sf sb blk off n w0) (a cb s : Nat) (d : Array α) (W : World) (h : SWK enc k w0 blk off d W) (hs : d.size = n) (ha : 1 ≤ a) (hb : a + 1 < n) (hn : Cnt w0 blk cb s W) (hs1 : s < 100000) :
    Calls Try.prog 73 #[.agg #[.func (.func g) #[] lb, .func (.func sf) #[] sb], .int .i64 a, .pointer (some ⟨cb, 0, none⟩)] W fun e w' => e = .returned (.int .i64 ((medianAdjacent lt d a s).1 : Int)) ∧
      St enc k blk off w0 cb W d w' ∧ Cnt w0 blk cb (medianAdjacent lt d a s).2 w' := by
  have hN := S.hn
  have hbW := h.lt S.hb
  have hcW := hn.low
  have E : Hid (medianAdjacent lt d a s = median lt d (a - 1) a (a + 1) s) := Lib.hid rfl
  have HA := Lib.hid hn
  clear hn
  generalize medianAdjacent lt d a s = R at E ⊢
  have H1 := Lib.hid (St.start (c := cb) (h.alloc (.cells #[.func (.func g) #[] lb, .func (.func sf) #[] sb] 88)))
  have HC1 := Lib.hid (HA.out.alloc (.cells #[.func (.func g) #[] lb, .func (.func sf) #[] sb] 88))
  obtain ⟨x, hx⟩ : ∃ x : Nat, a - 1 = x := ⟨_, rfl⟩
  obtain ⟨y, hy⟩ : ∃ y : Nat, a + 1 = y := ⟨_, rfl⟩
  have hxz : (a : Int) - 1 = (x : Int) := by omega
  have hyz : (a : Int) + 1 = (y : Int) := by omega
  rw [hx, hy] at E
  have hx1 : x < n := by omega
  have hy1 : y < n := by omega
  clear hx hy
  go_enter Try.func73, Try.ntmps73
  go_wp2_with fail
  refine (so_median S x a y cb s d _ H1.out.sw hs hx1 (by omega) hy1 HC1.out hs1).mono ?_
  rintro e w1 ⟨rfl, st1, cn1⟩
  have H2 := Lib.hid (H1.out.trans st1)
  have HC2 := Lib.hid cn1
  clear st1 cn1
  go_wp2
  go_ret
  rw [E.out]
  exact ⟨rfl, H2.out.under, HC2.out⟩
end So
end Go.Proofs.Ytbemkcnikoiecaa
namespace Go.Proofs.Ytbemkcnikoiecaa
open Go.Shelf Go.Proofs Go.RowKit
def laysGg6_ren : Go.Shelf.Ren := ⟨fun | 6 => 37 | 10 => 46 | 11 => 47 | 12 => 48 | 13 => 49 | 14 => 50 | 24 => 60 | 25 => 61 | 26 => 62 | 27 => 63 | 28 => 64 | 29 => 65 | 30 => 66 | 31 => 67 | 32 => 68 | 33 => 69 | 34 => 70 | 35 => 71 | 36 => 72 | 37 => 73 | 38 => 74 | 39 => 75 | n => n, fun | 20 => 20 | 26 => 72 | 35 => 79 | 0 => 0 | 37 => 81 | 3 => 3 | 41 => 85 | 44 => 88 | 49 => 93 | 51 => 95 | 4 => 4 | 54 => 98 | 53 => 97 | 58 => 102 | 5 => 5 | 9 => 9 | 60 => 104 | 64 => 108 | 66 => 110 | 67 => 111 | 17 => 17 | 32 => 76 | 33 => 77 | 82 => 126 | 12 => 12 | 75 => 119 | 76 => 120 | 77 => 121 | 78 => 122 | 79 => 123 | 80 => 124 | n => n, fun | n => n⟩
theorem laysGg6 : Go.Proofs.LaysGg.n6 Try.prog laysGg6_ren := {
  mixed := by kernel_rfl
  f6 := Try.func37.trans (congrArg some (by kernel_rfl))
  f10 := Try.func46.trans (congrArg some (by kernel_rfl))
  f11 := Try.func47.trans (congrArg some (by kernel_rfl))
  f12 := Try.func48.trans (congrArg some (by kernel_rfl))
  f13 := Try.func49.trans (congrArg some (by kernel_rfl))
  f14 := Try.func50.trans (congrArg some (by kernel_rfl))
  f24 := Try.func60.trans (congrArg some (by kernel_rfl))
  f25 := Try.func61.trans (congrArg some (by kernel_rfl))
  f26 := Try.func62.trans (congrArg some (by kernel_rfl))
  f27 := Try.func63.trans (congrArg some (by kernel_rfl))
  f28 := Try.func64.trans (congrArg some (by kernel_rfl))
  f29 := Try.func65.trans (congrArg some (by kernel_rfl))
  f30 := Try.func66.trans (congrArg some (by kernel_rfl))
  f31 := Try.func67.trans (congrArg some (by kernel_rfl))
  f32 := Try.func68.trans (congrArg some (by kernel_rfl))
  f33 := Try.func69.trans (congrArg some (by kernel_rfl))
  f34 := Try.func70.trans (congrArg some (by kernel_rfl))
  f35 := Try.func71.trans (congrArg some (by kernel_rfl))
  f36 := Try.func72.trans (congrArg some (by kernel_rfl))
  f37 := Try.func73.trans (congrArg some (by kernel_rfl))
  f38 := Try.func74.trans (congrArg some (by kernel_rfl))
  f39 := Try.func75.trans (congrArg some (by kernel_rfl))
  t0 := Try.underlying0
  a0 := Try.isAgg0
  z0 := Try.sizeOf0
  v0 := Try.zeroValue0
  i0 := by kernel_rfl
  t3 := Try.underlying3
  a3 := Try.isAgg3
  z3 := Try.sizeOf3
  v3 := Try.zeroValue3
  i3 := by kernel_rfl
  t4 := Try.underlying4
  a4 := Try.isAgg4
  z4 := Try.sizeOf4
  v4 := Try.zeroValue4
  i4 := by kernel_rfl
  t5 := Try.underlying5
  a5 := Try.isAgg5
  z5 := Try.sizeOf5
  v5 := Try.zeroValue5
  i5 := by kernel_rfl
  t9 := Try.underlying9
  a9 := Try.isAgg9
  z9 := Try.sizeOf9
  v9 := Try.zeroValue9
  i9 := by kernel_rfl
  t12 := Try.underlying12
  a12 := Try.isAgg12
  z12 := Try.sizeOf12
  v12 := Try.zeroValue12
  i12 := by kernel_rfl
  t17 := Try.underlying17
  a17 := Try.isAgg17
  z17 := Try.sizeOf17
  v17 := Try.zeroValue17
  i17 := by kernel_rfl
  t20 := Try.underlying20
  a20 := Try.isAgg20
  z20 := Try.sizeOf20
  v20 := Try.zeroValue20
  i20 := by kernel_rfl
  t26 := Try.underlying72
  a26 := Try.isAgg72
  z26 := Try.sizeOf72
  v26 := Try.zeroValue72
  i26 := by kernel_rfl
  t32 := Try.underlying76
  a32 := Try.isAgg76
  z32 := Try.sizeOf76
  v32 := Try.zeroValue76
  i32 := by kernel_rfl
  t33 := Try.underlying77
  a33 := Try.isAgg77
  z33 := Try.sizeOf77
  v33 := Try.zeroValue77
  i33 := by kernel_rfl
  t35 := Try.underlying79
  a35 := Try.isAgg79
  z35 := Try.sizeOf79
  v35 := Try.zeroValue79
  i35 := by kernel_rfl
  t37 := Try.underlying81
  a37 := Try.isAgg81
  z37 := Try.sizeOf81
  v37 := Try.zeroValue81
  i37 := by kernel_rfl
  t41 := Try.underlying85
  a41 := Try.isAgg85
  z41 := Try.sizeOf85
  v41 := Try.zeroValue85
  i41 := by kernel_rfl
  t44 := Try.underlying88
  a44 := Try.isAgg88
  z44 := Try.sizeOf88
  v44 := Try.zeroValue88
  i44 := by kernel_rfl
  t49 := Try.underlying93
  a49 := Try.isAgg93
  z49 := Try.sizeOf93
  v49 := Try.zeroValue93
  i49 := by kernel_rfl
  t51 := Try.underlying95
  a51 := Try.isAgg95
  z51 := Try.sizeOf95
  v51 := Try.zeroValue95
  i51 := by kernel_rfl
  t53 := Try.underlying97
  a53 := Try.isAgg97
  z53 := Try.sizeOf97
  v53 := Try.zeroValue97
  i53 := by kernel_rfl
  t54 := Try.underlying98
  a54 := Try.isAgg98
  z54 := Try.sizeOf98
  v54 := Try.zeroValue98
  i54 := by kernel_rfl
  t58 := Try.underlying102
  a58 := Try.isAgg102
  z58 := Try.sizeOf102
  v58 := Try.zeroValue102
  i58 := by kernel_rfl
  t60 := Try.underlying104
  a60 := Try.isAgg104
  z60 := Try.sizeOf104
  v60 := Try.zeroValue104
  i60 := by kernel_rfl
  t64 := Try.underlying108
  a64 := Try.isAgg108
  z64 := Try.sizeOf108
  v64 := Try.zeroValue108
  i64 := by kernel_rfl
  t66 := Try.underlying110
  a66 := Try.isAgg110
  z66 := Try.sizeOf110
  v66 := Try.zeroValue110
  i66 := by kernel_rfl
  t67 := Try.underlying111
  a67 := Try.isAgg111
  z67 := Try.sizeOf111
  v67 := Try.zeroValue111
  i67 := by kernel_rfl
  t75 := Try.underlying119
  a75 := Try.isAgg119
  z75 := Try.sizeOf119
  v75 := Try.zeroValue119
  i75 := by kernel_rfl
  t76 := Try.underlying120
  a76 := Try.isAgg120
  z76 := Try.sizeOf120
  v76 := Try.zeroValue120
  i76 := by kernel_rfl
  t77 := Try.underlying121
  a77 := Try.isAgg121
  z77 := Try.sizeOf121
  v77 := Try.zeroValue121
  i77 := by kernel_rfl
  t78 := Try.underlying122
  a78 := Try.isAgg122
  z78 := Try.sizeOf122
  v78 := Try.zeroValue122
  i78 := by kernel_rfl
  t79 := Try.underlying123
  a79 := Try.isAgg123
  z79 := Try.sizeOf123
  v79 := Try.zeroValue123
  i79 := by kernel_rfl
  t80 := Try.underlying124
  a80 := Try.isAgg124
  z80 := Try.sizeOf124
  v80 := Try.zeroValue124
  i80 := by kernel_rfl
  t82 := Try.underlying126
  a82 := Try.isAgg126
  z82 := Try.sizeOf126
  v82 := Try.zeroValue126
  i82 := by kernel_rfl }
def laysGg28_ren : Go.Shelf.Ren := ⟨fun | 28 => 64 | 35 => 71 | 36 => 72 | 13 => 49 | 24 => 60 | 25 => 61 | n => n, fun | 44 => 88 | 3 => 3 | 0 => 0 | 4 => 4 | 60 => 104 | 41 => 85 | 51 => 95 | 37 => 81 | 66 => 110 | 49 => 93 | 5 => 5 | 9 => 9 | 26 => 72 | n => n, fun | n => n⟩
theorem laysGg28 : Go.Proofs.LaysGg.n28 Try.prog laysGg28_ren := {
  mixed := by kernel_rfl
  f13 := Try.func49.trans (congrArg some (by kernel_rfl))
  f24 := Try.func60.trans (congrArg some (by kernel_rfl))
  f25 := Try.func61.trans (congrArg some (by kernel_rfl))
  f28 := Try.func64.trans (congrArg some (by kernel_rfl))
  f35 := Try.func71.trans (congrArg some (by kernel_rfl))
  f36 := Try.func72.trans (congrArg some (by kernel_rfl))
  t0 := Try.underlying0
  a0 := Try.isAgg0
  z0 := Try.sizeOf0
  v0 := Try.zeroValue0
  i0 := by kernel_rfl
  t3 := Try.underlying3
  a3 := Try.isAgg3
  z3 := Try.sizeOf3
  v3 := Try.zeroValue3
  i3 := by kernel_rfl
  t4 := Try.underlying4
  a4 := Try.isAgg4
  z4 := Try.sizeOf4
  v4 := Try.zeroValue4
  i4 := by kernel_rfl
  t5 := Try.underlying5
  a5 := Try.isAgg5
  z5 := Try.sizeOf5
  v5 := Try.zeroValue5
  i5 := by kernel_rfl
  t9 := Try.underlying9
  a9 := Try.isAgg9
  z9 := Try.sizeOf9
  v9 := Try.zeroValue9
  i9 := by kernel_rfl
  t26 := Try.underlying72
  a26 := Try.isAgg72
  z26 := Try.sizeOf72
  v26 := Try.zeroValue72
  i26 := by kernel_rfl
  t37 := Try.underlying81
  a37 := Try.isAgg81
  z37 := Try.sizeOf81
  v37 := Try.zeroValue81
  i37 := by kernel_rfl
  t41 := Try.underlying85
  a41 := Try.isAgg85
  z41 := Try.sizeOf85
  v41 := Try.zeroValue85
  i41 := by kernel_rfl
  t44 := Try.underlying88
  a44 := Try.isAgg88
  z44 := Try.sizeOf88
  v44 := Try.zeroValue88
  i44 := by kernel_rfl
  t49 := Try.underlying93
  a49 := Try.isAgg93
  z49 := Try.sizeOf93
  v49 := Try.zeroValue93
  i49 := by kernel_rfl
  t51 := Try.underlying95
  a51 := Try.isAgg95
  z51 := Try.sizeOf95
  v51 := Try.zeroValue95
  i51 := by kernel_rfl
  t60 := Try.underlying104
  a60 := Try.isAgg104
  z60 := Try.sizeOf104
  v60 := Try.zeroValue104
  i60 := by kernel_rfl
  t66 := Try.underlying110
  a66 := Try.isAgg110
  z66 := Try.sizeOf110
  v66 := Try.zeroValue110
  i66 := by kernel_rfl }
def laysGg30_ren : Go.Shelf.Ren := ⟨fun | 30 => 66 | n => n, fun | 44 => 88 | 3 => 3 | 0 => 0 | 4 => 4 | 37 => 81 | 26 => 72 | n => n, fun | n => n⟩
theorem laysGg30 : Go.Proofs.LaysGg.n30 Try.prog laysGg30_ren := {
  mixed := by kernel_rfl
  f30 := Try.func66.trans (congrArg some (by kernel_rfl))
  t0 := Try.underlying0
  a0 := Try.isAgg0
  z0 := Try.sizeOf0
  v0 := Try.zeroValue0
  i0 := by kernel_rfl
  t3 := Try.underlying3
  a3 := Try.isAgg3
  z3 := Try.sizeOf3
  v3 := Try.zeroValue3
  i3 := by kernel_rfl
  t4 := Try.underlying4
  a4 := Try.isAgg4
  z4 := Try.sizeOf4
  v4 := Try.zeroValue4
  i4 := by kernel_rfl
  t26 := Try.underlying72
  a26 := Try.isAgg72
  z26 := Try.sizeOf72
  v26 := Try.zeroValue72
  i26 := by kernel_rfl
  t37 := Try.underlying81
  a37 := Try.isAgg81
  z37 := Try.sizeOf81
  v37 := Try.zeroValue81
  i37 := by kernel_rfl
  t44 := Try.underlying88
  a44 := Try.isAgg88
  z44 := Try.sizeOf88
  v44 := Try.zeroValue88
  i44 := by kernel_rfl }
end Go.Proofs.Ytbemkcnikoiecaa
namespace Go.Proofs.Ytbemkcnikoiecaa
open Go.Shelf Go.RowKit Go.Lib Go.Sort
namespace So
variable {α : Type} [Inhabited α] {enc : α → List Value} {k blk off n g sf : Nat} {lt : α → α → Bool} {lb sb : Array Value} {w0 : World}
theorem Kx.under {c : Nat} {W X Y : World} (h : Kx blk c X Y) (g : Kx blk blk W X) (hc : W.heap.size ≤ c) : Kx blk blk W Y :=
  ⟨Nat.le_trans g.1 h.1, fun b hb h1 _ => (h.2 b (Nat.lt_of_lt_of_le hb g.1) h1 (by omega)).trans (g.2 b hb h1 h1)⟩
theorem Kx.sorted {c : Nat} (W : World) (m : Nat) (d : Array α) (os : Array Obj) : Kx blk c W (sortWorldK enc k W blk off m d os) := by
  unfold sortWorldK
  refine Kx.trans (Y := putRowK enc k (Sort.ahead W m) blk off d) ⟨by rw [size_putRowK]; exact Nat.le_refl _, fun b hb h1 _ => ?_⟩ (Kx.gr ⟨0, os, rfl⟩)
  simp [putRowK, putRow, mapBlock, Array.getElem?_modify, Ne.symm h1]
theorem so_break (S : SE enc k lt g lb sf sb blk off n w0) (a b : Nat) (d : Array α) (W : World) (h : SWK enc k w0 blk off d W) (hs : d.size = n) (hab : a ≤ b) (hbn : b ≤ n) :
    Calls Try.prog 64 #[.agg #[.func (.func g) #[] lb, .func (.func sf) #[] sb], .int .i64 a, .int .i64 b] W fun e w' => e = .returned (.tuple #[]) ∧ St enc k blk off w0 blk W (breakPatterns d a b) w' := by
  have hn := S.hn
  refine (Any.breakPatterns_func_cells_w laysGg28 enc k S.hk (.func g) #[] lb sf sb blk off a b d W (by rw [hs]; exact S.swap) (S.holds h hs) (h.lt S.hb) hab (by omega) (by omega)).mono ?_
  rintro e w' ⟨rfl, m, os, rfl⟩
  exact ⟨rfl, h.on S.hb m _ os (breakPatterns_holds d a b hab (by omega)).1, Kx.sorted W m _ os⟩
theorem so_reverse (S : SE enc k lt g lb sf sb blk off n w0) (a b : Nat) (d : Array α) (W : World) (h : SWK enc k w0 blk off d W) (hs : d.size = n) (hab : a ≤ b) (hbn : b ≤ n) :
    Calls Try.prog 66 #[.agg #[.func (.func g) #[] lb, .func (.func sf) #[] sb], .int .i64 a, .int .i64 b] W fun e w' => e = .returned (.tuple #[]) ∧ St enc k blk off w0 blk W (reverseRange d a b) w' := by
  have hn := S.hn
  refine (Any.reverseRange_func_cells_w laysGg30 enc k S.hk (.func g) #[] lb sf sb blk off a b d W (by rw [hs]; exact S.swap) (S.holds h hs) (h.lt S.hb) hab (by omega) (by omega)).mono ?_
  rintro e w' ⟨rfl, m, os, rfl⟩
  exact ⟨rfl, h.on S.hb m _ os (reverseRange_holds d a b hab (by omega)).1, Kx.sorted W m _ os⟩
theorem two_alloc (W : World) (A B : Obj) : ((W.alloc A).alloc B).heap[W.heap.size + 1]? = some B := by
  show ((W.heap.push A).push B)[W.heap.size + 1]? = some B
  rw [show W.heap.size + 1 = (W.heap.push A).size from (Array.size_push A).symm]
  exact Array.getElem?_push_size
set_option maxHeartbeats 4000000 in
set_option maxRecDepth 100000 in
theorem so_choose (S : SE enc k lt g lb sf sb blk off n w0) (a b : Nat) (d : Array α) (W : World) (h : SWK enc k w0 blk off d W) (hs : d.size = n) (h12 : 12 < b - a) (hbn : b ≤ n) :
    Calls Try.prog 65 #[.agg #[.func (.func g) #[] lb, .func (.func sf) #[] sb], .int .i64 a, .int .i64 b] W fun e w' => e = .returned (.tuple #[.int .i64 ((choosePivot lt d a b).1 : Int), .int .i64 (hintCode (choosePivot lt d a b).2)]) ∧ St enc k blk off w0 blk W d w' := by
  have hn := S.hn
  have hbW := h.lt S.hb
  have hw0 : w0.heap.size ≤ W.heap.size := h.le
  obtain ⟨L, hL⟩ : ∃ L, b - a = L := ⟨_, rfl⟩
  obtain ⟨Q, hQ⟩ : ∃ Q, L / 4 = Q := ⟨_, rfl⟩
  obtain ⟨i, hi⟩ : ∃ i, a + Q * 1 = i := ⟨_, rfl⟩
  obtain ⟨j, hj⟩ : ∃ j, a + Q * 2 = j := ⟨_, rfl⟩
  obtain ⟨q, hq⟩ : ∃ q, a + Q * 3 = q := ⟨_, rfl⟩
  have Lz : (b : Int) - (a : Int) = (L : Int) := by omega
  have Qz : (L : Int).tdiv 4 = (Q : Int) := by rw [Int.tdiv_eq_ediv_of_nonneg (by omega), ← hQ]; rfl
  have iz : (a : Int) + (Q : Int) = (i : Int) := by omega
  have jz : (a : Int) + (Q : Int) * 2 = (j : Int) := by omega
  have qz : (a : Int) + (Q : Int) * 3 = (q : Int) := by omega
  have hi1 : 1 ≤ i := by omega
  have hij : i ≤ j := by omega
  have hjq : j ≤ q := by omega
  have hqn : q + 1 < n := by omega
  have ER : Hid (choosePivot lt d a b = ((rawPivot lt d a b).1, hintOf (rawPivot lt d a b).2)) := Lib.hid (choosePivot_eq lt d a b)
  generalize choosePivot lt d a b = R at ER ⊢
  have E8 : Hid (rawPivot lt d a b = if L ≥ 50 then
      median lt d (medianAdjacent lt d i 0).1 (medianAdjacent lt d j (medianAdjacent lt d i 0).2).1 (medianAdjacent lt d q (medianAdjacent lt d j (medianAdjacent lt d i 0).2).2).1 (medianAdjacent lt d q (medianAdjacent lt d j (medianAdjacent lt d i 0).2).2).2
      else median lt d i j q 0) := Lib.hid (by
    unfold rawPivot
    rw [if_pos (by omega), hL, hQ, hi, hj, hq])
  have hL8 : (8 : Int) ≤ (L : Int) := by omega
  clear hL hQ hi hj hq h12
  have HA := Lib.hid h
  have H1 := Lib.hid (St.start (c := W.heap.size + 1) ((h.alloc (.cells #[.func (.func g) #[] lb, .func (.func sf) #[] sb] 88)).alloc (.cells #[.int .i64 0] 3)))
  have HC1 : Hid (Cnt w0 blk (W.heap.size + 1) 0 ((W.alloc (.cells #[.func (.func g) #[] lb, .func (.func sf) #[] sb] 88)).alloc (.cells #[.int .i64 0] 3))) := Lib.hid ⟨two_alloc W _ _, by omega, by omega⟩
  have HU : Hid (∀ {X : World}, Kx blk (W.heap.size + 1) ((W.alloc (.cells #[.func (.func g) #[] lb, .func (.func sf) #[] sb] 88)).alloc (.cells #[.int .i64 0] 3)) X → Kx blk blk W X) := Lib.hid fun hX => hX.under ((Kx.alloc W _).trans (Kx.alloc _ _)) (by omega)
  have bx : ∀ (X : World), St enc k blk off w0 (W.heap.size + 1) ((W.alloc (.cells #[.func (.func g) #[] lb, .func (.func sf) #[] sb] 88)).alloc (.cells #[.int .i64 0] 3)) d X → X.cell? ⟨W.heap.size, 0, none⟩ = some (.func (.func g) #[] lb) ∧ X.cell? ⟨W.heap.size, 1, none⟩ = some (.func (.func sf) #[] sb) := fun X hX =>
    ⟨(hX.kx.cell (by simp; omega) (by omega) (by omega)).trans (((Kx.alloc (blk := blk) (c := blk) (W.alloc (.cells #[.func (.func g) #[] lb, .func (.func sf) #[] sb] 88)) _).cell (by simp) (by omega) (by omega)).trans (by simp)), (hX.kx.cell (by simp; omega) (by omega) (by omega)).trans (((Kx.alloc (blk := blk) (c := blk) (W.alloc (.cells #[.func (.func g) #[] lb, .func (.func sf) #[] sb] 88)) _).cell (by simp) (by omega) (by omega)).trans (by simp))⟩
  clear h
  by_cases h50 : L ≥ 50
  · have h50z : (50 : Int) ≤ (L : Int) := by omega
    rw [if_pos h50] at E8
    rcases e1 : medianAdjacent lt d i 0 with ⟨i1, s1⟩
    rcases e2 : medianAdjacent lt d j s1 with ⟨j1, s2⟩
    rcases e3 : medianAdjacent lt d q s2 with ⟨q1, s3⟩
    rcases e4 : median lt d i1 j1 q1 s3 with ⟨p, s⟩
    have m1 := medianAdjacent_mem lt d i 0
    have m2 := medianAdjacent_mem lt d j s1
    have m3 := medianAdjacent_mem lt d q s2
    have n1 := medianAdjacent_count (lt := lt) d i 0
    have n2 := medianAdjacent_count (lt := lt) d j s1
    have n3 := medianAdjacent_count (lt := lt) d q s2
    have n4 := median_count (lt := lt) d i1 j1 q1 s3
    rw [e1] at m1 n1
    rw [e2] at m2 n2
    rw [e3] at m3 n3
    rw [e4] at n4
    simp only at m1 m2 m3 n1 n2 n3 n4
    have hi1n : i1 < n := by omega
    have hj1n : j1 < n := by omega
    have hq1n : q1 < n := by omega
    have EM : Hid (((median lt d (medianAdjacent lt d i 0).1 (medianAdjacent lt d j (medianAdjacent lt d i 0).2).1 (medianAdjacent lt d q (medianAdjacent lt d j (medianAdjacent lt d i 0).2).2).1 (medianAdjacent lt d q (medianAdjacent lt d j (medianAdjacent lt d i 0).2).2).2).1,
      hintOf (median lt d (medianAdjacent lt d i 0).1 (medianAdjacent lt d j (medianAdjacent lt d i 0).2).1 (medianAdjacent lt d q (medianAdjacent lt d j (medianAdjacent lt d i 0).2).2).1 (medianAdjacent lt d q (medianAdjacent lt d j (medianAdjacent lt d i 0).2).2).2).2) = (p, hintOf s)) := Lib.hid (by rw [e1, e2, e3, e4])
    have k1 := fun (X : World) (hX : SWK enc k w0 blk off d X) (hc : Cnt w0 blk (W.heap.size + 1) 0 X) => so_medianAdj S i (W.heap.size + 1) 0 d X hX hs hi1 (by omega) hc (by omega)
    have k2 := fun (X : World) (hX : SWK enc k w0 blk off d X) (hc : Cnt w0 blk (W.heap.size + 1) s1 X) => so_medianAdj S j (W.heap.size + 1) s1 d X hX hs (by omega) (by omega) hc (by omega)
    have k3 := fun (X : World) (hX : SWK enc k w0 blk off d X) (hc : Cnt w0 blk (W.heap.size + 1) s2 X) => so_medianAdj S q (W.heap.size + 1) s2 d X hX hs (by omega) (by omega) hc (by omega)
    have k4 := fun (X : World) (hX : SWK enc k w0 blk off d X) (hc : Cnt w0 blk (W.heap.size + 1) s3 X) => so_median S i1 j1 q1 (W.heap.size + 1) s3 d X hX hs hi1n hj1n hq1n hc (by omega)
    rw [e1] at k1
    rw [e2] at k2
    rw [e3] at k3
    rw [e4] at k4
    simp only at k1 k2 k3 k4
    clear e1 e2 e3 e4 m1 m2 m3
    obtain ⟨x0, y0⟩ := bx _ H1.out
    go_enter Try.func65, Try.ntmps65
    go_wp2_with fail
    refine (k1 _ H1.out.sw HC1.out).mono ?_
    rintro e w2 ⟨rfl, st1, cn1⟩
    have H2 := Lib.hid (H1.out.trans st1)
    have HC2 := Lib.hid cn1
    obtain ⟨x2, y2⟩ := bx _ H2.out
    clear st1 cn1
    go_wp2_with fail
    refine (k2 _ H2.out.sw HC2.out).mono ?_
    rintro e w3 ⟨rfl, st1, cn1⟩
    have H3 := Lib.hid (H2.out.trans st1)
    have HC3 := Lib.hid cn1
    obtain ⟨x3, y3⟩ := bx _ H3.out
    clear st1 cn1
    go_wp2_with fail
    refine (k3 _ H3.out.sw HC3.out).mono ?_
    rintro e w4 ⟨rfl, st1, cn1⟩
    have H4 := Lib.hid (H3.out.trans st1)
    have HC4 := Lib.hid cn1
    obtain ⟨x4, y4⟩ := bx _ H4.out
    clear st1 cn1
    go_wp2_with fail
    refine (k4 _ H4.out.sw HC4.out).mono ?_
    rintro e w5 ⟨rfl, st1, cn1⟩
    have H5 := Lib.hid (H4.out.trans st1)
    have HC5 := Lib.hid cn1
    obtain ⟨x5, y5⟩ := bx _ H5.out
    clear st1 cn1
    have z5 := HC5.out.cell
    have HR : Hid (R = (p, hintOf s)) := Lib.hid (by rw [ER.out, E8.out]; exact EM.out)
    clear ER E8 EM
    by_cases s0 : s = 0
    · have s0z : (s : Int) = 0 := by omega
      rw [s0z] at z5
      go_wp2
      refine bodyPost_ret (v := .tuple #[.int .i64 (p : Int), .int .i64 1]) (by simp [results, Try.results65, go_sem]) rfl ?_
      rw [HR.out]
      exact ⟨by simp [hintOf, s0, hintCode], ⟨H5.out.sw, HU.out H5.out.kx⟩⟩
    · have s0z : ¬ (s : Int) = 0 := by omega
      by_cases s12 : s = 12
      · have s12z : (s : Int) = 12 := by omega
        rw [s12z] at z5
        go_wp2
        refine bodyPost_ret (v := .tuple #[.int .i64 (p : Int), .int .i64 2]) (by simp [results, Try.results65, go_sem]) rfl ?_
        rw [HR.out]
        exact ⟨by simp [hintOf, s12, hintCode], ⟨H5.out.sw, HU.out H5.out.kx⟩⟩
      · have s12z : ¬ (s : Int) = 12 := by omega
        go_wp2
        refine bodyPost_ret (v := .tuple #[.int .i64 (p : Int), .int .i64 0]) (by simp [results, Try.results65, go_sem]) rfl ?_
        rw [HR.out]
        exact ⟨by simp [hintOf, s0, s12, hintCode], ⟨H5.out.sw, HU.out H5.out.kx⟩⟩
  · have h50z : ¬ (50 : Int) ≤ (L : Int) := by omega
    rw [if_neg h50] at E8
    rcases e4 : median lt d i j q 0 with ⟨p, s⟩
    have n4 := median_count (lt := lt) d i j q 0
    rw [e4] at n4
    simp only at n4
    have EM : Hid (((median lt d i j q 0).1, hintOf (median lt d i j q 0).2) = (p, hintOf s)) := Lib.hid (by rw [e4])
    have k4 := fun (X : World) (hX : SWK enc k w0 blk off d X) (hc : Cnt w0 blk (W.heap.size + 1) 0 X) => so_median S i j q (W.heap.size + 1) 0 d X hX hs (by omega) (by omega) (by omega) hc (by omega)
    rw [e4] at k4
    simp only at k4
    clear e4
    obtain ⟨x0, y0⟩ := bx _ H1.out
    go_enter Try.func65, Try.ntmps65
    go_wp2_with fail
    refine (k4 _ H1.out.sw HC1.out).mono ?_
    rintro e w5 ⟨rfl, st1, cn1⟩
    have H5 := Lib.hid (H1.out.trans st1)
    have HC5 := Lib.hid cn1
    obtain ⟨x5, y5⟩ := bx _ H5.out
    clear st1 cn1
    have z5 := HC5.out.cell
    have HR : Hid (R = (p, hintOf s)) := Lib.hid (by rw [ER.out, E8.out]; exact EM.out)
    clear ER E8 EM
    by_cases s0 : s = 0
    · have s0z : (s : Int) = 0 := by omega
      rw [s0z] at z5
      go_wp2
      refine bodyPost_ret (v := .tuple #[.int .i64 (p : Int), .int .i64 1]) (by simp [results, Try.results65, go_sem]) rfl ?_
      rw [HR.out]
      exact ⟨by simp [hintOf, s0, hintCode], ⟨H5.out.sw, HU.out H5.out.kx⟩⟩
    · have s0z : ¬ (s : Int) = 0 := by omega
      by_cases s12 : s = 12
      · have s12z : (s : Int) = 12 := by omega
        rw [s12z] at z5
        go_wp2
        refine bodyPost_ret (v := .tuple #[.int .i64 (p : Int), .int .i64 2]) (by simp [results, Try.results65, go_sem]) rfl ?_
        rw [HR.out]
        exact ⟨by simp [hintOf, s12, hintCode], ⟨H5.out.sw, HU.out H5.out.kx⟩⟩
      · have s12z : ¬ (s : Int) = 12 := by omega
        go_wp2
        refine bodyPost_ret (v := .tuple #[.int .i64 (p : Int), .int .i64 0]) (by simp [results, Try.results65, go_sem]) rfl ?_
        rw [HR.out]
        exact ⟨by simp [hintOf, s0, s12, hintCode], ⟨H5.out.sw, HU.out H5.out.kx⟩⟩
end So
end Go.Proofs.Ytbemkcnikoiecaa
