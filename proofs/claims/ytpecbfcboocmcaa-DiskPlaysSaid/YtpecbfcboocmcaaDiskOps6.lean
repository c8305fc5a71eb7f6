
/- The contracts of disk's calls: Create, Fail, New. -/
import Derived.Test.YtpecbfcboocmcaaDiskOps5
import Derived.Lib.SliceRun
set_option linter.unusedVariables false
namespace Go.Proofs.Ytpecbfcboocmcaa
open Go.ChangeShapes Go.WideShapes Go.ChangeAt Go.RowKit Go.Maps Csv Dk

set_option maxHeartbeats 2000000 in
theorem createD_any (d : Nat) (D : DiskM) (G : List Nat) (n : Int) (w : World) (h : IsDisk w d D G) (hn : I64 n) :
    Calls Try.prog 13 #[ptrV d, .int .i64 n] w fun e w' => e = .returned (.int .i64 (createD D n).1) ∧ Goes w w' G d (createD D n).2 := by
  obtain ⟨m, L, k, h, rfl⟩ := h
  have H := Lib.hid h
  have hn' := hn.nat
  obtain ⟨c0, c1, c2, c3, c4, fz⟩ := h.cells
  clear c0 c2 c3 c4 fz
  cases hu : D.up with
  | false =>
    have c := ready_down h hu
    have e : createD D n = (61, D) := by unfold createD; rw [if_pos hu]
    rw [e]
    clear h hu e hn' hn c1
    unfold ptrV at *
    go_enter Try.func13, Try.ntmps13
    go_wp2_with (go_at_call 38; refine c.mono ?_; rintro e w' ⟨rfl, rfl⟩)
    go_ret
    exact ⟨rfl, Goes.same ⟨m, L, k, H.out, rfl⟩ (Keeps.refl _)⟩
  | true =>
    have c := ready_up h hu
    have hnu : ¬ D.up = false := by rw [hu]; decide
    by_cases h0 : n < 0
    · have e : createD D n = (2, D) := by unfold createD; rw [if_neg hnu, if_pos h0]
      rw [e]
      have t0 : decide (n < 0) = true := decide_eq_true h0
      clear h hu e hn' hn c1 h0 hnu
      unfold ptrV at *
      go_enter Try.func13, Try.ntmps13
      go_wp2_with (go_at_call 38; refine c.mono ?_; rintro e w' ⟨rfl, rfl⟩)
      go_ret
      exact ⟨rfl, Goes.same ⟨m, L, k, H.out, rfl⟩ (Keeps.refl _)⟩
    · have t0 : decide (n < 0) = false := decide_eq_false h0
      cases hf : findF D.files n with
      | some f =>
        obtain ⟨i, x, hi, rfl, hxn, hx⟩ := find_at h hf
        have hl := (look_at h hn).2 x hx
        have e : createD D n = (62, D) := by unfold createD; rw [if_neg hnu, if_neg h0, if_pos (by rw [hf]; rfl)]
        rw [e]
        clear h hu e hn' hn h0 hnu hf hi hxn hx
        unfold ptrV at *
        go_enter Try.func13, Try.ntmps13
        go_wp2_with (go_at_call 38; refine c.mono ?_; rintro e w' ⟨rfl, rfl⟩)
        go_ret
        exact ⟨rfl, Goes.same ⟨m, L, k, H.out, rfl⟩ (Keeps.refl _)⟩
      | none =>
        have hl := (look_at h hn).1 hf
        have hlen : ∀ ty, (Builtin.len_ #[tMp] ty #[.map (some m)]).run Try.prog w = .ok (.int .i64 (D.files.length : Int)) w := fun ty => by
          have := World.ownsMap.len (t := tMp) (e := tPf) h.map Try.underlying52 ty
          rw [size_mapD] at this
          rw [this, h.lst, List.length_map]
        have hnf : ¬ (findF D.files n).isSome = true := by rw [hf]; decide
        by_cases hfull : 100 ≤ D.files.length
        · have e : createD D n = (60, D) := by unfold createD; rw [if_neg hnu, if_neg h0, if_neg hnf, if_pos hfull]
          rw [e]
          obtain ⟨N, hN⟩ : ∃ N, D.files.length = N := ⟨_, rfl⟩
          rw [hN] at hlen hfull
          have hmany := h.okay.many
          rw [hN] at hmany
          have t1 : decide ((100 : Int) ≤ (N : Int)) = true := decide_eq_true (by omega)
          clear h hu e hn' hn h0 hnu hf hnf hN hfull
          unfold ptrV at *
          go_enter Try.func13, Try.ntmps13
          go_wp2_with (go_at_call 38; refine c.mono ?_; rintro e w' ⟨rfl, rfl⟩)
          go_ret
          exact ⟨rfl, Goes.same ⟨m, L, k, H.out, rfl⟩ (Keeps.refl _)⟩
        · have e : createD D n = D.then fun l => insF l n := by unfold createD; rw [if_neg hnu, if_neg h0, if_neg hnf, if_neg hfull]
          rw [e]
          obtain ⟨N, hN⟩ : ∃ N, D.files.length = N := ⟨_, rfl⟩
          have HFL := Lib.hid (show D.files.length < 100 by omega)
          rw [hN] at hlen hfull
          have t1 : decide ((100 : Int) ≤ (N : Int)) = false := decide_eq_false (by omega)
          have HF := Lib.hid hf
          rcases count_code D with ⟨hc, cf, cc, cu⟩ | hc
          · rw [then_ok hc]
            have cn := count_ok h hc
            have HKW := Lib.hid (key_wf hn)
            have HCF := Lib.hid cf
            have HN0 := Lib.hid (show 0 ≤ n by omega)
            clear h hu e hn h0 hnu hf hnf hN hfull hc cf cc cu
            unfold ptrV at *
            go_enter Try.func13, Try.ntmps13
            go_wp2_with (first
              | (go_at_call 38; refine c.mono ?_; rintro e w' ⟨rfl, rfl⟩)
              | fail)
            refine cn.mono ?_
            rintro e w2 ⟨rfl, k', h2, hk2, hf2⟩
            obtain ⟨_, m1, _⟩ := h2.cells
            have hf2' : findF D.count.2.files n = none := by rw [HCF.out]; exact HF.out
            have key : ∀ w3, (w2.alloc (.cells #[.slice none 0 0, .int .i64 0] tFl)).mapTurned w3 m → w3.ownsMap Try.prog tI ptrR m (L.length + 1) ((mapD L).put (.int .i64 n) (.held w2.heap.size)) → Goes w w3 (foot d m L k) d (D.count.2.put (insF D.count.2.files n)) := by
              intro w3 ht hm
              have hA : Keeps w2 (w2.alloc (.cells #[.slice none 0 0, .int .i64 0] tFl)) := (Below.refl _ _).alloc (Nat.le_refl _) _
              refine goes_mk (h2.ins (h2.okay.ins HN0.out (by omega) hf2' (by rw [HCF.out]; exact HFL.out)) hf2' (Nat.le_refl _) hA (heap_alloc_new w2 _) ht hm) ((hf2.trans (Frame.of_keeps hA (foot d m L k)) fun x hx => Or.inl hx).frame_grown ht.grown (by simp [foot])) (fun b hb => ?_) hk2
              obtain ⟨z, hz, hzb⟩ := mem_footF.1 hb
              rcases (insL_mem _ _ _ _).1 hz with rfl | hz
              · rcases hzb with rfl | hzb
                · exact Or.inr hf2.size
                · cases hzb
              · exact Or.inl (mem_fF (mem_footF.2 ⟨z, hz, hzb⟩))
            have KEY := Lib.hid key
            have HOWN := Lib.hid h2.map
            have HLL := Lib.hid (show L.length < maxLen by have := h2.okay.many; rw [h2.lst, List.length_map] at this; unfold maxLen; omega)
            clear key h2 hk2 hf2 c cn hf2' hl hlen c1
            go_wp2_with (at_mapUpdate; refine wpList_mapUpdate_in _ rfl _ _ _ tMp rfl tI tPf keyI Try.underlying52 ptrR m L.length (mapD L) rfl (HOWN.out.alloc _) HLL.out _ _ (.int .i64 n) rfl rfl HKW.out (.held w2.heap.size) [] (ptrR_ptrV _) ?_; intro w3 hm3 ht3)
            go_ret
            exact ⟨rfl, KEY.out _ ht3 hm3⟩
          · rw [then_no hc]
            have cn := count_no h hc
            clear h hu e hn' hn h0 hnu hf hnf hN hfull hc
            unfold ptrV at *
            go_enter Try.func13, Try.ntmps13
            go_wp2_with (first
              | (go_at_call 38; refine c.mono ?_; rintro e w' ⟨rfl, rfl⟩)
              | (go_at_call 39; refine cn.mono ?_; rintro e w' ⟨rfl, hg⟩))
            go_ret
            exact ⟨rfl, hg⟩

/-! ### slices.Clone -/
set_option maxHeartbeats 1000000 in
theorem clone_any (v : Value) (ks : List Int) (w : World) (h : IntsAt w v ks) (hl : ks.length ≤ 1000000) :
    Calls Try.prog 43 #[v] w fun e w' => ∃ v', e = .returned v' ∧ w'.ownsRow w.heap.size tI 1 v' ks.length (ivs ks) ∧ Keeps w w' := by
  obtain ⟨p, c, rfl, hm, hc⟩ := h
  have qI : ∀ (w : World) (a : Option Addr) (n c n' c' : Nat), (binOp .eql 32 (.slice a n c) (.slice none n' c')).run Try.prog w = .ok (.bool a.isNone) w := fun w a n c n' c' => Lib.run_eql_slice_nil w _ _ a n c n' c' Try.underlying32
  cases p with
  | none =>
    have h0 : ks = [] := by
      cases ks with
      | nil => rfl
      | cons x r => obtain ⟨a, ha, _⟩ := hc 0 x rfl; cases ha
    subst h0
    clear hc hm
    go_enter Try.func43, Try.ntmps43
    go_wp2
    go_ret
    exact ⟨_, rfl, World.ownsRow_nil _ _ _ _, Keeps.refl _⟩
  | some a =>
    obtain ⟨iI, hII, hI0, hI1, hI2⟩ := info_parts info_int
    obtain ⟨N, hN⟩ : ∃ N, ks.length = N := ⟨_, rfl⟩
    have HC := Lib.hid hc
    have HN := Lib.hid hN
    have HII := Lib.hid hII
    have HZ := Lib.hid (show iI.zero = some (.int .i64 0) ∧ iI.size = 1 ∧ iI.bytes = 8 from ⟨hI0, hI1, hI2⟩)
    rw [hN] at hl ⊢
    clear hc hm hN hII hI0 hI1 hI2
    go_enter Try.func43, Try.ntmps43
    go_wp2_with (at_builtin; refine wpList_append_own _ rfl _ _ 32 rfl w.heap.size tI iI (.int .i64 0) 1 8 Try.underlying32 HII.out HZ.out.1 HZ.out.2.1 HZ.out.2.2 rfl (by decide) _ _ _ rfl (World.ownsRow_made w #[] 0 (Nat.le_refl _) (Nat.zero_le _) rfl) a N c (ivs ks) rfl ?qc1 ?qc2 ?qc3 ?qc4 ?qc5 ?qc6 ?_)
    case qc1 => rw [ivs_len, HN.out]; omega
    case qc2 =>
      intro j u hj
      unfold ivs at hj
      rw [List.getElem?_map] at hj
      obtain ⟨x, hx, rfl⟩ := Option.map_eq_some_iff.1 hj
      obtain ⟨a', e, hcell⟩ := HC.out j x hx
      cases e
      exact Lib.cell?_alloc_some _ hcell
    case qc3 => intro u hu; obtain ⟨x, _, rfl⟩ := List.mem_map.1 hu; rfl
    case qc4 => unfold maxLen; omega
    case qc5 => omega
    case qc6 => simp
    intro v' w1 hown hgrow hnil
    go_wp2
    go_ret
    refine ⟨v', rfl, by simpa using hown, ?_⟩
    exact ((Below.refl _ w).alloc (Nat.le_refl _) _).grown hgrow (by simp) (by intro k hk; simp [Value.ownBlock] at hk; omega)

theorem ints_take {w : World} {p : Option Addr} {ks : List Int} {n c k : Nat} (h : IntsAt w (.slice p n c) ks) (hk : k ≤ n) : IntsAt w (.slice p k c) (ks.take k) := by
  obtain ⟨p', c', e, hm, hc⟩ := h
  cases e
  refine ⟨p, c, by rw [List.length_take, Nat.min_eq_left hk], by rw [List.length_take]; omega, fun j x hx => ?_⟩
  rw [List.getElem?_take] at hx
  split at hx
  · exact hc j x hx
  · cases hx
set_option maxHeartbeats 1000000 in
theorem failD_any (d : Nat) (D : DiskM) (G : List Nat) (n : Int) (v : Value) (ks : List Int) (w : World) (h : IsDisk w d D G) (hn : I64 n) (hK : IntsAt w v ks) (hcap : ∀ p m c, v = .slice p m c → m ≤ c) :
    Calls Try.prog 21 #[ptrV d, .int .i64 n, v] w fun e w' => e = .returned (.int .i64 (failD D n (ks.take 100)).1) ∧ Goes w w' G d (failD D n (ks.take 100)).2 := by
  obtain ⟨m, L, k, h, rfl⟩ := h
  have H := Lib.hid h
  have hn' := hn.nat
  obtain ⟨pk, ck, rfl, hkm, hkc⟩ := hK
  have hcp := hcap _ _ _ rfl
  cases hu : D.up with
  | false =>
    have c := ready_down h hu
    have e : failD D n (ks.take 100) = (61, D) := by unfold failD; rw [if_pos hu]
    rw [e]
    clear h hu e hn' hn hkm hkc hcap hcp
    unfold ptrV at *
    go_enter Try.func21, Try.ntmps21
    go_wp2_with (go_at_call 38; refine c.mono ?_; rintro e w' ⟨rfl, rfl⟩)
    go_ret
    exact ⟨rfl, Goes.same ⟨m, L, k, H.out, rfl⟩ (Keeps.refl _)⟩
  | true =>
    have c := ready_up h hu
    have hnu : ¬ D.up = false := by rw [hu]; decide
    by_cases h0 : n < 0
    · have e : failD D n (ks.take 100) = (2, D) := by unfold failD; rw [if_neg hnu, if_pos h0]
      rw [e]
      have t0 : decide (n < 0) = true := decide_eq_true h0
      clear h hu e hn' hn h0 hnu hkm hkc hcap hcp
      unfold ptrV at *
      go_enter Try.func21, Try.ntmps21
      go_wp2_with (go_at_call 38; refine c.mono ?_; rintro e w' ⟨rfl, rfl⟩)
      go_ret
      exact ⟨rfl, Goes.same ⟨m, L, k, H.out, rfl⟩ (Keeps.refl _)⟩
    · have t0 : decide (n < 0) = false := decide_eq_false h0
      have e : failD D n (ks.take 100) = (0, ⟨D.cap, D.files, D.up, D.starts, some (n.toNat, ks.take 100)⟩) := by unfold failD; rw [if_neg hnu, if_neg h0]
      rw [e]
      obtain ⟨a, rfl⟩ : ∃ a : Nat, n = a := ⟨n.toNat, by omega⟩
      simp only [Int.toNat_natCast]
      obtain ⟨M, hM⟩ : ∃ M, min ks.length 100 = M := ⟨_, rfl⟩
      have hml : (ks.take 100).length = M := by rw [List.length_take, ← hM, Nat.min_comm]
      have hk2 : IntsAt w (.slice pk M ck) (ks.take 100) := by
        have := ints_take (k := M) ⟨pk, ck, rfl, hkm, hkc⟩ (by omega)
        have e2 : ks.take M = ks.take 100 := by
          rw [← hM]
          by_cases hle : ks.length ≤ 100
          · rw [Nat.min_eq_left hle, List.take_of_length_le (Nat.le_refl _), List.take_of_length_le hle]
          · rw [Nat.min_eq_right (by omega)]
        rw [e2] at this; exact this
      have cc := clone_any _ _ w hk2 (by omega)
      have key : ∀ w2 v', w2.ownsRow w.heap.size tI 1 v' (ks.take 100).length (ivs (ks.take 100)) → Keeps w w2 → Goes w ((w2.setCell ⟨d, 4, none⟩ (ptrV w2.heap.size)).alloc (.cells #[.int .i64 (a : Int), v'] tFa)) (foot d m L k) d ⟨D.cap, D.files, D.up, D.starts, some (a, ks.take 100)⟩ := by
        intro w2 v' hrow hkw
        have h2 := h.keeps hkw
        have hdlt : d < w.heap.size := block_lt h.disk
        have hsz := hkw.size
        have b1 := Joins.block_setCell (i := 4) h2.disk (ptrV w2.heap.size)
        have hs1 : (w2.setCell ⟨d, 4, none⟩ (ptrV w2.heap.size)).heap.size = w2.heap.size := by simp
        have hA : Keeps (w2.setCell ⟨d, 4, none⟩ (ptrV w2.heap.size)) ((w2.setCell ⟨d, 4, none⟩ (ptrV w2.heap.size)).alloc (.cells #[.int .i64 (a : Int), v'] tFa)) := (Below.refl _ _).alloc (Nat.le_refl _) _
        have hnew : ((w2.setCell ⟨d, 4, none⟩ (ptrV w2.heap.size)).alloc (.cells #[.int .i64 (a : Int), v'] tFa)).heap[w2.heap.size]? = some (.cells #[.int .i64 (a : Int), v'] tFa (0, 0)) := by
          have := heap_alloc_new (w2.setCell ⟨d, 4, none⟩ (ptrV w2.heap.size)) (.cells #[.int .i64 (a : Int), v'] tFa)
          rwa [hs1] at this
        have hold : ∀ b, b < w2.heap.size → b ≠ d → ((w2.setCell ⟨d, 4, none⟩ (ptrV w2.heap.size)).alloc (.cells #[.int .i64 (a : Int), v'] tFa)).heap[b]? = w2.heap[b]? := fun b hb hne => (hA.block b (by rw [hs1]; exact hb)).trans (Below.heap_setCell _ _ _ _ hne)
        have ho := h.okay
        refine goes_mk (h2.turn (k' := some (w2.heap.size, v'.ownBlock)) hold ?_ rfl ?_ ⟨ho.cap, ho.many, ho.rising, ho.nums, ho.sure, ho.room, fun a' ks' e' => by simp at e'; omega⟩) ((((Frame.of_keeps hkw (foot d m L k)).frame_grown (grown_setCell _ _ _ _) (by simp [foot])).trans (Frame.of_keeps hA (foot d m L k))) fun x hx => Or.inl hx) (fun b hb => Or.inl (mem_fF hb)) (fun b hb => ?_)
        · rw [hA.block d (by rw [hs1]; omega), b1]; rfl
        · refine ⟨v', hnew, own_zero (own_local hrow fun g hg => ?_), rfl⟩
          have hg2 := hrow.lt g hg
          exact hold g hg2.2 (by omega)
        · simp only [footK, List.mem_cons, Option.mem_toList] at hb
          rcases hb with rfl | hb
          · exact Or.inr hsz
          · exact Or.inr (hrow.lt b hb).1
      have KEY := Lib.hid key
      obtain ⟨_, _, _, _, c4, fz⟩ := h.cells
      have f4 := fz 4
      have hdlt : d < w.heap.size := block_lt h.disk
      obtain ⟨N, hN⟩ : ∃ N, ks.length = N := ⟨_, rfl⟩
      rw [hN] at hM hcp ⊢
      have hmn : min (N : Int) 100 = (M : Int) := by omega
      have hMc : M ≤ ck := by omega
      rw [hml] at cc KEY
      have hkmN : N ≤ 9223372036854775807 := by unfold maxLen at hkm; omega
      clear h hu e hn' hn h0 hnu hkm hkc hcap hcp hml hM key hk2 hN fz
      unfold ptrV at *
      go_enter Try.func21, Try.ntmps21
      go_wp2_with (first
        | (go_at_call 38; refine c.mono ?_; rintro e w' ⟨rfl, rfl⟩)
        | fail)
      refine cc.mono ?_
      rintro e w2 ⟨v', rfl, hrow, hkw⟩
      obtain ⟨p', c', rfl⟩ := own_shape hrow
      have HR := Lib.hid hrow
      have HK := Lib.hid hkw
      have hc4 : w2.cell? ⟨d, 4, none⟩ = some (.pointer (k.map fun x => ⟨x.1, 0, none⟩)) := cell_keeps hkw c4
      have hf4 : w2.frozen? ⟨d, 4, none⟩ = false := (hkw.frozen (p := ⟨d, 4, none⟩) hdlt).trans f4
      have hdlt2 : d < w2.heap.size := Nat.lt_of_lt_of_le hdlt hkw.size
      clear hrow hkw cc c c4 f4
      go_wp2
      go_ret
      exact ⟨rfl, KEY.out _ _ HR.out HK.out⟩

/-! ### New -/
theorem newD_no (n : Int) (w : World) (h : n < 0 ∨ 1048576 < n) : Calls Try.prog 6 #[.int .i64 n] w fun e w' => e = .returned (.tuple #[.pointer none, .int .i64 2]) ∧ w = w' := by
  by_cases h1 : n < 0
  · have t1 : decide (n < 0) = true := decide_eq_true h1
    clear h
    go_enter Try.func6, Try.ntmps6
    go_wp2
    go_ret2
    exact ⟨rfl, rfl⟩
  · have t1 : decide (n < 0) = false := decide_eq_false h1
    have t2 : decide (1048576 < n) = true := decide_eq_true (by omega)
    clear h
    go_enter Try.func6, Try.ntmps6
    go_wp2
    go_ret2
    exact ⟨rfl, rfl⟩
theorem newD_any (n : Nat) (w : World) (h : n ≤ 1048576) : Calls Try.prog 6 #[.int .i64 (n : Int)] w fun e w' => ∃ d G, e = .returned (.tuple #[ptrV d, .int .i64 0]) ∧ IsDisk w' d (newD n) G ∧ Keeps w w' ∧ ∀ b ∈ G, w.heap.size ≤ b := by
  have t1 : decide ((n : Int) < 0) = false := decide_eq_false (by omega)
  have t2 : decide (1048576 < (n : Int)) = false := decide_eq_false (by omega)
  have key : IsDisk ((w.alloc (.map #[] 0)).alloc (.cells (diskCells w.heap.size none (newD n)) tDk)) (w.heap.size + 1) (newD n) (foot (w.heap.size + 1) w.heap.size [] none) := by
    refine ⟨w.heap.size, [], none, ⟨rfl, ?_, (World.ownsMap_made w _ _ _).alloc _, (fun x hx => by cases hx), List.Pairwise.nil, trivial, Okay.new h⟩, rfl⟩
    have := heap_alloc_new (w.alloc (.map #[] 0)) (.cells (diskCells w.heap.size none (newD n)) tDk)
    simpa using this
  have KEY := Lib.hid key
  have hmm := @run_makeMap Try.prog
  clear key
  go_enter Try.func6, Try.ntmps6
  go_wp2
  go_ret2
  refine ⟨_, _, rfl, KEY.out, ((Below.refl _ _).alloc (Nat.le_refl _) _).alloc (by simp) _, fun b hb => ?_⟩
  rcases mem_foot.1 hb with rfl | rfl | hb | hb
  · omega
  · exact Nat.le_refl _
  · cases hb
  · cases hb
end Go.Proofs.Ytpecbfcboocmcaa
