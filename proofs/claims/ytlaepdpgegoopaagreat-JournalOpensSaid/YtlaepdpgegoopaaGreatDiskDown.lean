
/- The contract of disk's goDown. -/
import Derived.Test.YtlaepdpgegoopaaGreatDiskC3
import Derived.Outline
set_option linter.unusedVariables false
namespace Go.Proofs.YtlaepdpgegoopaaGreat
open Go.ChangeShapes Go.WideShapes Go.ChangeAt Go.RowKit Go.Maps Csv Dk

theorem addr_block (a : Addr) (q : Nat) : (a.add q).block = a.block := by unfold Addr.add; split <;> rfl
theorem Frame.frame_grown {G : List Nat} {a b c : World} {g : Nat} (h : Frame G a b) (k : b.grownBy c (some g)) (hg : g ∈ G) : Frame G a c :=
  h.trans (grown_frame k hg) fun x hx => Or.inl hx
theorem left_file {w3 : World} {x : Ent} {K : Nat} {o : Option Int} (h : FileAt w3 (x.1.cut K, x.2)) (hK : x.1.sure + stays o x.1.loose = K) (hle : K ≤ x.1.data.length) {b : Nat} (hb : x.2.blk = b) :
    ∃ p c, w3.cell? ⟨b, 0, none⟩ = some (.slice p (K : Nat) c) ∧ w3.cell? ⟨b, 1, none⟩ = some (.int .i64 ((x.1.cut K).sure : Int)) ∧ w3.frozen? ⟨b, 1, none⟩ = false ∧
      FileAt (w3.setCell ⟨b, 1, none⟩ (.int .i64 (K : Int))) (x.1.left o, x.2) ∧ w3.grownBy (w3.setCell ⟨b, 1, none⟩ (.int .i64 (K : Int))) (some b) := by
  subst hb
  obtain ⟨p, c, g0, g1, gf, gc, gh, go, gb, _⟩ := h.cells
  have hl : (x.1.cut K).data.length = K := by simp [FileM.cut]; omega
  have e : x.1.left o = ⟨(x.1.cut K).n, (x.1.cut K).data, (x.1.cut K).data.length⟩ := by
    unfold FileM.left FileM.cut
    rw [hK]
  obtain ⟨s1, s2⟩ := sure_file h gh go gb rfl
  rw [← e] at s1
  simp only [hl] at g0 s1 s2
  exact ⟨p, c, g0, g1, gf 1, s1, s2⟩
set_option maxRecDepth 100000 in
set_option maxHeartbeats 2000000 in
theorem goDown_any (d m : Nat) (L : List Ent) (k : Option (Nat × Option Nat)) (D : DiskM) (ks : List Int) (vK : Value) (w : World) (h : DiskAt w d m L k D) (hK : Stable (d :: blks L) w vK ks) :
    Calls Tryz.prog 58 #[ptrV d, vK] w fun e w' => e = .returned (.tuple #[]) ∧ ∃ L', DiskAt w' d m L' none (D.down ks) ∧ L'.map (·.2) = L.map (·.2) ∧ Frame (d :: blks L) w w' := by
  have cf := files_any d m L k D w h
  have H := Lib.hid h
  have HKS := Lib.hid hK
  have hmany := h.okay.many
  obtain ⟨pk, ck, rfl, hkl, hkc⟩ := hK w (Frame.refl _ _)
  have HKC := Lib.hid hkc
  obtain ⟨N, hN⟩ : ∃ N, D.files.length = N := ⟨_, rfl⟩
  obtain ⟨M, hM⟩ : ∃ M, ks.length = M := ⟨_, rfl⟩
  have HN := Lib.hid hN
  have HM := Lib.hid hM
  rw [hN] at cf hmany
  rw [hM] at hkl ⊢
  have hlN : L.length = N := by rw [← hN, h.lst, List.length_map]
  have HLL := Lib.hid hlN
  unfold maxLen at hkl
  clear h hN hM hK hkc hlN
  unfold ptrV at cf ⊢
  go_enter Tryz.func58, Tryz.ntmps58
  go_wp2_with fail
  refine cf.mono ?_
  rintro e w1 ⟨v, rfl, hrow, hk1⟩
  have hlNum : (numsF D.files).length = N := by simp [numsF, HN.out]
  have hrow0 := hrow
  rw [← hlNum] at hrow0
  have hI : IntsAt w1 v (numsF D.files) := own_ints hrow0
  obtain ⟨p, cp, rfl, hlen, hc⟩ := hI
  have hB : ∀ a, p = some a → a.block < w1.heap.size ∧ w.heap.size ≤ a.block := fun a ha => by
    subst ha
    have := hrow.lt a.block rfl
    omega
  rw [hlNum] at ⊢
  have HC := Lib.hid hc
  have HB := Lib.hid hB
  have HK1 := Lib.hid hk1
  have HD1 := Lib.hid (H.out.keeps hk1)
  clear hlen hc hk1 hrow hrow0 cf hlNum hB
  go_wp2
  go_loopw [11] (fun vi wr => ∃ (q : Nat) (Lq : List Ent), q ≤ N ∧ vi = .int .i64 (q : Int) ∧ DiskAt wr d m Lq k (D.put (downQ D ks q)) ∧ Lq.map (·.2) = L.map (·.2) ∧ Frame (d :: blks L) w1 wr) (fun vi _ => N - (intOf vi).toNat)
  case atStart => exact ⟨0, L, by omega, rfl, by rw [downQ_zero]; exact HD1.out, rfl, Frame.refl _ _⟩
  case round =>
    obtain ⟨q, Lq, hq, rfl, hd, hsnd, hfr⟩ := hrel
    have HFW : Hid (Frame (d :: blks L) w wr) := Lib.hid ((Frame.of_keeps HK1.out _).trans hfr fun x hx => Or.inl hx)
    have HFR := Lib.hid hfr
    have HD := Lib.hid hd
    have HSN := Lib.hid hsnd
    have hlq : Lq.length = N := by have := congrArg List.length hsnd; simpa [HLL.out] using this
    have HLQ := Lib.hid hlq
    clear hd hsnd hfr hlq
    by_cases hlt : q < N
    · obtain ⟨x, hx⟩ : ∃ x, Lq[q]? = some x := ⟨_, List.getElem?_eq_getElem (by have := HLQ.out; omega)⟩
      have hfq : D.files[q]? = some x.1 := by
        have h1 := congrArg (fun l => l[q]?) HD.out.lst
        simp only [List.getElem?_map, hx] at h1
        change (downQ D ks q)[q]? = _ at h1
        rw [downQ_at (by have := HN.out; omega), if_neg (by omega)] at h1
        simpa using h1
      have hxn : (numsF D.files)[q]? = some x.1.n := by unfold numsF; rw [List.getElem?_map, hfq]; rfl
      have hxf : x.1 ∈ D.files := List.mem_of_getElem? hfq
      obtain ⟨n0, n1⟩ := H.out.okay.nums _ hxf
      have hs := H.out.okay.sure _ hxf
      have hlen : x.1.data.length ≤ 1048576 := by have := used_mem hxf; have := H.out.okay.room; have := H.out.okay.cap; omega
      obtain ⟨a, rfl, hca⟩ := HC.out q x.1.n hxn
      have hblk : ∀ b ∈ d :: blks L, b < w.heap.size := by
        intro b hb
        refine H.out.lt b ?_
        rcases List.mem_cons.1 hb with rfl | hb
        · simp [foot]
        · obtain ⟨y, hy, rfl⟩ := List.mem_map.1 hb
          exact mem_foot.2 (Or.inr (Or.inr (Or.inl (mem_footF.2 ⟨y, hy, Or.inl rfl⟩))))
      have hca' : wr.cell? (a.add q) = some (.int .i64 x.1.n) := by
        have hb := HB.out a rfl
        have e : wr.cell? (a.add q) = w1.cell? (a.add q) := World.cell?_of_block (by
          rw [addr_block]
          exact HFR.out.block _ hb.1 fun hm => by
            have h1 := hblk _ hm
            omega)
        rw [e]; exact hca
      have hl := (look_at HD.out (n := x.1.n) (by unfold I64 top; omega)).2 x (find_idx (by
        have h1 := HD.out.okay.rising
        rw [HD.out.lst] at h1; exact h1) hx)
      have hxm := List.mem_of_getElem? hx
      have hfile := HD.out.files x hxm
      obtain ⟨_, m1, _⟩ := HD.out.cells
      obtain ⟨fp, fcap, fc0, fc1, _⟩ := hfile.cells
      obtain ⟨st, hst⟩ : ∃ st : Nat, (max ((ks[q]?).getD 0) 0).toNat = st := ⟨_, rfl⟩
      obtain ⟨r, hr⟩ : ∃ r, stays ks[q]? x.1.loose = r := ⟨_, rfl⟩
      have hr2 : r = min st x.1.loose := by rw [← hr, ← hst]; rfl
      have hKle : x.1.sure + r ≤ x.1.data.length := by
        have h9 : r ≤ x.1.loose := by omega
        unfold FileM.loose at h9; omega
      have cl := loose_in x wr hfile hs hlen
      have cc := cut_in x (x.1.sure + r) wr hfile hs hlen hKle
      have hrm : min (st : Int) (x.1.loose : Int) = (r : Int) := by omega
      have HX := Lib.hid hx
      have HXF := Lib.hid hfq
      have HXM := Lib.hid hxm
      have HR := Lib.hid hr
      have HLE := Lib.hid hKle
      have HFI := Lib.hid hfile
      obtain ⟨K, hK⟩ : ∃ K, x.1.sure + r = K := ⟨_, rfl⟩
      rw [hK] at cc
      have hKi : (x.1.sure : Int) + (r : Int) = (K : Int) := by omega
      have hKb : K ≤ 1048576 := by omega
      have hKw : IntKind.i64.wrap (K : Int) = (K : Int) := IntWalk.i64_in _ (by omega)
      have HKK := Lib.hid hK
      obtain ⟨S, hS⟩ : ∃ S, x.1.sure = S := ⟨_, rfl⟩
      obtain ⟨lo, hlo⟩ : ∃ lo, x.1.loose = lo := ⟨_, rfl⟩
      obtain ⟨n, hn⟩ : ∃ n, x.1.n = n := ⟨_, rfl⟩
      obtain ⟨b, hb⟩ : ∃ b, x.2.blk = b := ⟨_, rfl⟩
      rw [hS] at hKi fc1
      rw [hlo] at hrm cl
      rw [hn] at hca' hl
      rw [hb] at hl fc1 cl cc
      have HBB := Lib.hid hb
      have hi1 : (q : Int) < (N : Int) := by omega
      have hr0 : r ≤ 1048576 := by omega
      have hS0 : S ≤ 1048576 := by omega
      clear hx hfq hxm hr hKle hfile hca hxn hxf hs hlen fc0 hK hS hlo hn hb n0 n1 hblk hr2
      unfold ptrV at hl cl cc
      have key : ∀ w4, FileAt w4 (x.1.left ks[q]?, x.2) → wr.grownBy w4 (some b) → ∃ Lq', DiskAt w4 d m Lq' k (D.put (downQ D ks (q + 1))) ∧ Lq'.map (·.2) = L.map (·.2) ∧ Frame (d :: blks L) w1 w4 := by
        intro w4 hf4 hg4
        have hx := HX.out
        have hmb : b ∈ d :: blks L := by
          have h1 : x.2 ∈ Lq.map (·.2) := List.mem_map.2 ⟨x, HXM.out, rfl⟩
          rw [HSN.out] at h1
          obtain ⟨y, hy, e⟩ := List.mem_map.1 h1
          exact List.mem_cons_of_mem _ (List.mem_map.2 ⟨y, hy, by rw [e]; exact HBB.out⟩)
        refine ⟨Lq.set q (x.1.left ks[q]?, x.2), HD.out.file hx (fun z hz h1 h2 => hg4.block z hz fun e => h1 (by cases e; exact HBB.out.symm)) hf4 rfl rfl (Or.inl rfl) ?_ rfl rfl rfl rfl (downQ_okay H.out.okay ks _ (by have := HN.out; omega)), ?_, HFR.out.frame_grown hg4 hmb⟩
        · show downQ D ks (q + 1) = _
          rw [downQ_step HXF.out]
          have h1 : downQ D ks q = Lq.map (·.1) := HD.out.lst
          rw [h1, List.map_set]
        · rw [List.map_set, HSN.out]
          apply List.ext_getElem?
          intro j
          rw [List.getElem?_set]
          split
          · rename_i e
            subst e
            have h1 := congrArg (fun l => l[q]?) HSN.out
            simp only [List.getElem?_map, hx, Option.map_some] at h1
            split
            · rw [List.getElem?_map]; exact h1
            · rename_i hnl
              exact absurd (by have := HLL.out; simp; omega) hnl
          · rfl
      have KEY := Lib.hid key
      clear key
      have hways : (∃ kv ak, wr.cell? ((ak : Addr).add q) = some (iv kv) ∧ pk = some ak ∧ max kv 0 = (st : Int) ∧ decide (q < M) = true ∧ (q : Int) < (M : Int)) ∨ (st = 0 ∧ decide (q < M) = false) := by
        by_cases hqm : q < M
        · obtain ⟨kv, hkv⟩ : ∃ kv, ks[q]? = some kv := ⟨_, List.getElem?_eq_getElem (by have := HM.out; omega)⟩
          obtain ⟨p', c', e, _, hcell⟩ := HKS.out wr HFW.out
          cases e
          obtain ⟨ak, hak, hcell⟩ := hcell q kv hkv
          exact Or.inl ⟨kv, ak, hcell, hak, by rw [hkv] at hst; simp only [Option.getD_some] at hst; omega, decide_eq_true hqm, by omega⟩
        · have : ks[q]? = none := List.getElem?_eq_none (by have := HM.out; omega)
          rw [this] at hst
          exact Or.inr ⟨by simpa using hst.symm, decide_eq_false hqm⟩
      have HST := Lib.hid hst
      clear hst
      rcases hways with ⟨kv, ak, hcell, rfl, hmx, t, hi2⟩ | ⟨rfl, t⟩
      all_goals
        try simp only [Int.ofNat_zero] at hrm
        go_wp2
        go_region_with (first
          | (go_at_call 66; refine (cl _ ?_).mono ?_; exact rfl; rintro e w2 ⟨rfl, n2, rfl⟩)
          | (go_at_call 77; refine (cc _ ?_ ?_ ?_ ?_).mono ?_; exact rfl; exact rfl; exact rfl; exact rfl; rintro e w3 ⟨rfl, hf3, hg3⟩))
        all_goals
          have hdone := left_file (o := ks[q]?) hf3 (by rw [HR.out]; exact HKK.out) (by rw [← HKK.out]; exact HLE.out) HBB.out
          obtain ⟨p3, c3, g0, g1, gf, s1, s2⟩ := hdone
          have HF4 := Lib.hid s1
          have HG4 := Lib.hid (hg3.andThen s2 fun j hj => Or.inr hj)
          clear s1 s2 hf3 hg3 cl cc hl hca' fc1 m1
          go_wp2
          obtain ⟨Lq', r1, r2, r3⟩ := KEY.out _ HF4.out HG4.out
          go_roundw
          case rel => exact ⟨q + 1, Lq', by omega, by go_num, r1, r2, r3⟩
          case measure => simp [intOf]; omega
    · obtain rfl : q = N := by omega
      have hz : ¬ ((q : Int) < (q : Int)) := by omega
      obtain ⟨_, _, m2, _, m4, fz⟩ := HD.out.cells
      have f2 := fz 2
      have f4 := fz 4
      have hall : downQ D ks q = downL D.files ks := by rw [← HN.out]; exact downQ_all D ks
      have key : ∀ w4, w4 = (wr.setCell ⟨d, 2, none⟩ (.bool false)).setCell ⟨d, 4, none⟩ (.pointer none) → DiskAt w4 d m Lq none (D.down ks) ∧ Frame (d :: blks L) w w4 := by
        rintro w4 rfl
        have b1 := Joins.block_setCell (i := 2) HD.out.disk (.bool false)
        have b2 := Joins.block_setCell (i := 4) b1 (.pointer none)
        refine ⟨HD.out.turn (fun b _ hb => ?_) ?_ ?_ trivial (H.out.okay.down ks), ?_⟩
        · rw [Below.heap_setCell _ _ _ _ hb, Below.heap_setCell _ _ _ _ hb]
        · rw [b2]; rfl
        · show downL D.files ks = downQ D ks q
          exact hall.symm
        · exact (HFW.out.frame_grown (grown_setCell _ _ _ _) (by simp)).frame_grown (grown_setCell _ _ _ _) (by simp)
      have KEY := Lib.hid key
      clear key fz hall
      go_wp2
      go_end0
      obtain ⟨r1, r2⟩ := KEY.out _ rfl
      exact ⟨rfl, Lq, r1, HSN.out, r2⟩
end Go.Proofs.YtlaepdpgegoopaaGreat
