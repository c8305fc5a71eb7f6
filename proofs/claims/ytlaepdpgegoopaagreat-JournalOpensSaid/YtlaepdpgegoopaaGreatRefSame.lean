
/- Same: both disks, compared. Same: both disks, compared, while they are down. Same, whatever both disks are. -/
import Derived.Test.YtlaepdpgegoopaaGreatRefDo
import Derived.Deep.QuietTactic
import Derived.BigQuiet
set_option linter.unusedVariables false
namespace Go.Proofs.YtlaepdpgegoopaaGreat
open Go.ChangeShapes Go.WideShapes Go.ChangeAt Go.RowKit Go.Maps Csv Dk

theorem kdrew {w W : World} (k : Keeps w W) : Keeps w W.drew := ⟨k.os, k.tape, k.output, k.size, k.block⟩
theorem kdrew0 (w : World) : Keeps w w.drew := ⟨rfl, rfl, rfl, Nat.le_refl _, fun _ _ => rfl⟩

set_option maxRecDepth 100000 in
set_option maxHeartbeats 4000000 in
theorem same_up (d r : Nat) (D R : DiskM) (G GR : List Nat) (w : World) (h : Pair w d r D R G GR) (hS : Sim 0 D R) (hu : D.up = true) :
    Calls Tryz.prog 14 #[ptrV d, ptrV r] w fun e w' => e = .returned (.bool true) ∧ Keeps w w' := by
  obtain ⟨eF, eU, eC, eS⟩ := files_sim hS
  obtain ⟨m, L, kk, hd, rfl⟩ := h.disk
  obtain ⟨vL, vK, ks, hr, rfl⟩ := h.ref
  have hfree : R.free = D.free := by unfold DiskM.free; rw [eF, eC]
  have hmany := hd.okay.many
  obtain ⟨N, hN⟩ : ∃ N, D.files.length = N := ⟨_, rfl⟩
  obtain ⟨q, hq⟩ : ∃ q, D.free = q := ⟨_, rfl⟩
  have CFI := Lib.hid fun (W : World) (k : Keeps w W) => files_any d m L kk D W (hd.keeps k)
  have CLO := Lib.hid fun (W : World) (k : Keeps w W) => looseD_any d m L kk D W (hd.keeps k)
  have CFR := Lib.hid fun (W : World) (k : Keeps w W) => free_any d m L kk D W (hd.keeps k)
  have CRF := Lib.hid fun (W : World) (k : Keeps w W) => rfree_any r vL vK ks R W (hr.keeps k)
  have CUP := Lib.hid fun (W : World) (k : Keeps w W) => up_any d D _ W (h.disk.keeps k)
  have CST := Lib.hid fun (W : World) (k : Keeps w W) => starts_any d D _ W (h.disk.keeps k)
  obtain ⟨_, c1, c2, c3, _, _, _⟩ := hr.cells
  obtain ⟨pL, cL, rfl, _, _, hcell⟩ := own_files hr.row
  rw [eF] at hcell c1
  rw [eU] at c2
  rw [eS] at c3
  obtain ⟨st, hst⟩ : ∃ st, D.starts = st := ⟨_, rfl⟩
  rw [hN] at CFI CLO c1 hmany
  rw [hq] at CFR
  rw [hfree, hq] at CRF
  rw [hst] at CST c3
  have HD := Lib.hid h
  have HCL := Lib.hid hcell
  have HN := Lib.hid hN
  rw [hu] at CUP c2
  have c2 : w.cell? ⟨r, 2, none⟩ = some (.bool false) := c2
  have CC1 := Lib.hid c1
  have CC2 := Lib.hid c2
  have CC3 := Lib.hid c3
  have HU := Lib.hid hu
  clear h hS hd hr eF eU eC eS hfree hq hst hcell hN hu
  unfold ptrV at *
  go_enter Tryz.func14, Tryz.ntmps14
  go_wp2_with fail
  refine (CFI.out w (Keeps.refl _)).mono ?_
  rintro e w1 ⟨v1, rfl, q1, k1⟩
  have hl1 : (numsF D.files).length = N := by have := HN.out; unfold numsF; simpa using this
  rw [← hl1] at q1
  have b1 := own_ints (own_zero q1)
  have K1 := Lib.hid k1
  clear q1 k1
  go_wp2_with fail
  refine (CLO.out w1 K1.out).mono ?_
  rintro e w2 ⟨v2, rfl, q2, k2⟩
  have hl2 : (looseL D).length = N := by have := HN.out; unfold looseL; simpa using this
  rw [← hl2] at q2
  have b2 := own_ints (own_zero q2)
  have B1 := Lib.hid (b1.keeps k2)
  have B2 := Lib.hid b2
  have K2 := Lib.hid (K1.out.trans k2)
  clear q2 k2 b1 b2
  have d1 := cell_keeps K2.out CC1.out
  have d2 := cell_keeps K2.out CC2.out
  have d3 := cell_keeps K2.out CC3.out
  obtain ⟨p1, e1, rfl, l1, g1⟩ := B1.out
  obtain ⟨p2, e2, rfl, l2, g2⟩ := B2.out
  rw [hl1] at l1 ⊢
  rw [hl2] at l2 ⊢
  have G1 := Lib.hid g1
  have G2 := Lib.hid g2
  clear g1 g2 hl1 hl2 l1 l2 c1 c2 c3
  go_wp2
  go_region_held3 (fun W => W.cell? ⟨r, 1, none⟩ = some (.slice pL N cL) ∧ W.cell? ⟨r, 2, none⟩ = some (.bool false) ∧ W.cell? ⟨r, 3, none⟩ = some (.int .i64 st)) (first | go_keep | exact ⟨cell_keeps K3.out CC1.out, cell_keeps K3.out CC2.out, cell_keeps K3.out CC3.out⟩) (first
    | (go_at_call 28; refine (CFR.out _ (kdrew K2.out)).mono ?_; rintro e w3 ⟨rfl, k3⟩; have K3 := Lib.hid ((kdrew K2.out).trans k3); have K23 := Lib.hid ((kdrew0 w2).trans k3); clear k3)
    | (go_at_call 29; refine (CRF.out _ K3.out).mono ?_; rintro e w' ⟨rfl, rfl⟩)
    | (go_at_call 44; refine (CUP.out _ K3.out).mono ?_; rintro e w' ⟨rfl, rfl⟩)
    | (go_at_call 37; refine (CST.out _ K3.out).mono ?_; rintro e w' ⟨rfl, rfl⟩))
  have B13 := Lib.hid (B1.out.keeps K23.out)
  have B23 := Lib.hid (B2.out.keeps K23.out)
  clear G1 G2 B1 B2 d1 d2 d3 K2 K23 K1
  try clear c1 c2 c3
  go_wp2
  go_loopw [7] (fun vi wr => ∃ k : Nat, k ≤ N ∧ vi = .int .i64 (k : Int) ∧ Keeps w3 wr) (fun vi _ => N - (intOf vi).toNat)
  case atStart => exact ⟨0, by omega, rfl, Keeps.refl _⟩
  case round =>
    obtain ⟨k, hk, rfl, kk3⟩ := hrel
    have KR := Lib.hid (K3.out.trans kk3)
    have KQ := Lib.hid kk3
    clear kk3
    by_cases hlt : k < N
    · have hi1 : (k : Int) < (N : Int) := by omega
      obtain ⟨f, hf⟩ : ∃ f, D.files[k]? = some f := ⟨_, List.getElem?_eq_getElem (by have := HN.out; omega)⟩
      have hx := HD.out.keeps KR.out
      have b1 := B13.out.keeps KQ.out
      have b2 := B23.out.keeps KQ.out
      obtain ⟨a, rfl, o0, o1, o2⟩ := HCL.out k f hf
      have o0 := cell_keeps KR.out o0
      have o1 := cell_keeps KR.out o1
      have o2 := cell_keeps KR.out o2
      have x1 := cell_keeps KR.out CC1.out
      have x2 := cell_keeps KR.out CC2.out
      have hrl : r < wr.heap.size := World.block_lt_of_cell? wr _ x2
      obtain ⟨pp, cc, e, _, g1⟩ := b1
      cases e
      obtain ⟨a1, rfl, n1⟩ := g1 k f.n (by unfold numsF; rw [List.getElem?_map, hf]; rfl)
      obtain ⟨pp, cc, e, _, g2⟩ := b2
      cases e
      obtain ⟨a2, rfl, n2⟩ := g2 k (f.loose : Int) (by unfold looseL; rw [List.getElem?_map, hf]; rfl)
      have hok := hx.disk.okay
      have hxf : f ∈ D.files := List.mem_of_getElem? hf
      have hlen : f.data.length ≤ 1048576 := by have := used_mem hxf; have := hok.room; have := hok.cap; omega
      have hsu := hok.sure f hxf
      have hnn := hok.nums f hxf
      have hff := findF_at hok.rising hf
      have hI : I64 f.n := by unfold I64 top; omega
      obtain ⟨T, hT⟩ : ∃ T : ByteArray, (⟨f.data.toArray⟩ : ByteArray) = T := ⟨_, rfl⟩
      have hTs : f.data.length = T.size := by rw [← hT, size_mk]
      have hloose : (f.loose : Int) = (T.size : Int) - (f.sure : Int) := by unfold FileM.loose; omega
      rw [hloose] at n2
      have sz : sizeD D f.n = ((T.size : Int), 0) := by unfold sizeD; rw [if_neg (by rw [HU.out]; decide), hff]; simp [hTs]
      have rd : (⟨(readD D f.n 0 (T.size : Int)).1.toArray⟩ : ByteArray) = T ∧ (readD D f.n 0 (T.size : Int)).2 = 0 := by
        unfold readD
        rw [if_neg (by rw [HU.out]; decide), hff]
        simp only
        rw [if_neg (by omega)]
        refine ⟨?_, rfl⟩
        rw [← hTs, ← hT]
        simp
      have CSZ := Lib.hid fun (W : World) (k : Keeps wr W) => by have := sizeD_any d D _ f.n W (hx.disk.keeps k) hI; rw [sz] at this; exact this
      have CRD := Lib.hid fun (W : World) (k : Keeps wr W) => by have := dkRead_any d D _ f.n 0 (T.size : Int) W (hx.disk.keeps k) hI (by unfold I64 top; omega) (by unfold I64 top; omega); unfold sv at this; rw [rd.1, rd.2] at this; exact this
      unfold sv at o1
      rw [hT] at o1
      rw [hTs] at hlen hsu
      obtain ⟨S, hS⟩ : ∃ S, f.sure = S := ⟨_, rfl⟩
      rw [hS] at o2 n2 hsu
      obtain ⟨M, hM⟩ : ∃ M, f.n = M := ⟨_, rfl⟩
      rw [hM] at o0 n1 CSZ CRD
      have hw1 : IntKind.i64.wrap ((T.size : Int) - (S : Int)) = (T.size : Int) - (S : Int) := IntWalk.i64_in _ (by omega)
      clear g1 g2 hok hxf hnn hff hI hTs hloose sz rd hx hf hT hS hM
      unfold iv at n1 n2
      have N1 := Lib.hid n1
      have N2 := Lib.hid n2
      have FC : Hid (∀ (t : TypeId) (j : Nat), ((wr.alloc (.cells #[.int .i64 M, .string T, .int .i64 (S : Int)] t)).drew).cell? ⟨wr.heap.size, j, none⟩ = #[.int .i64 M, .string T, .int .i64 (S : Int)][j]?) := Lib.hid fun t j => Joins.cell_of_block (heap_alloc_new wr _) j
      unfold ptrV at *
      go_wp2
      go_region_held3 (fun W => W.cell? (a1.add k) = some (.int .i64 M) ∧ W.cell? (a2.add k) = some (.int .i64 ((T.size : Int) - (S : Int))) ∧ W.cell? ⟨wr.heap.size, 0, none⟩ = some (.int .i64 M) ∧ W.cell? ⟨wr.heap.size, 1, none⟩ = some (.string T) ∧ W.cell? ⟨wr.heap.size, 2, none⟩ = some (.int .i64 (S : Int)))
        (first | exact ⟨cell_keeps (kdrew (keeps_lit _ _)) N1.out, cell_keeps (kdrew (keeps_lit _ _)) N2.out, FC.out _ 0, FC.out _ 1, FC.out _ 2⟩ | go_keep) (fail)
      go_wp2_with (first
        | (go_at_call 31; refine (CSZ.out _ ?_).mono ?_; exact kdrew (keeps_lit _ _); rintro e w' ⟨rfl, rfl⟩)
        | (go_at_call 45; refine (CRD.out _ ?_).mono ?_; exact kdrew (keeps_lit _ _); rintro e w' ⟨rfl, rfl⟩))
      go_roundw
      case rel => exact ⟨k + 1, by omega, by go_num, KQ.out.trans (kdrew (keeps_lit _ _))⟩
      case measure => simp [intOf]; omega
    · obtain rfl : k = N := by omega
      have hz : ¬ ((k : Int) < (k : Int)) := by omega
      go_wp2
      go_ret
      exact ⟨rfl, KR.out⟩
end Go.Proofs.YtlaepdpgegoopaaGreat
namespace Go.Proofs.YtlaepdpgegoopaaGreat
open Go.ChangeShapes Go.WideShapes Go.ChangeAt Go.RowKit Go.Maps Csv Dk

theorem kdown {w W : World} (k : Keeps w W) : Keeps w W.drew := ⟨k.os, k.tape, k.output, k.size, k.block⟩
theorem kdown0 (w : World) : Keeps w w.drew := ⟨rfl, rfl, rfl, Nat.le_refl _, fun _ _ => rfl⟩

set_option maxRecDepth 100000 in
set_option maxHeartbeats 4000000 in
theorem same_down (d r : Nat) (D R : DiskM) (G GR : List Nat) (w : World) (h : Pair w d r D R G GR) (hS : Sim 0 D R) (hu : D.up = false) :
    Calls Tryz.prog 14 #[ptrV d, ptrV r] w fun e w' => e = .returned (.bool true) ∧ Keeps w w' := by
  obtain ⟨eF, eU, eC, eS⟩ := files_sim hS
  obtain ⟨m, L, kk, hd, rfl⟩ := h.disk
  obtain ⟨vL, vK, ks, hr, rfl⟩ := h.ref
  have hfree : R.free = D.free := by unfold DiskM.free; rw [eF, eC]
  have hmany := hd.okay.many
  obtain ⟨N, hN⟩ : ∃ N, D.files.length = N := ⟨_, rfl⟩
  obtain ⟨q, hq⟩ : ∃ q, D.free = q := ⟨_, rfl⟩
  have CFI := Lib.hid fun (W : World) (k : Keeps w W) => files_any d m L kk D W (hd.keeps k)
  have CLO := Lib.hid fun (W : World) (k : Keeps w W) => looseD_any d m L kk D W (hd.keeps k)
  have CFR := Lib.hid fun (W : World) (k : Keeps w W) => free_any d m L kk D W (hd.keeps k)
  have CRF := Lib.hid fun (W : World) (k : Keeps w W) => rfree_any r vL vK ks R W (hr.keeps k)
  have CUP := Lib.hid fun (W : World) (k : Keeps w W) => up_any d D _ W (h.disk.keeps k)
  have CST := Lib.hid fun (W : World) (k : Keeps w W) => starts_any d D _ W (h.disk.keeps k)
  obtain ⟨_, c1, c2, c3, _, _, _⟩ := hr.cells
  obtain ⟨pL, cL, rfl, _, _, hcell⟩ := own_files hr.row
  rw [eF] at hcell c1
  rw [eU] at c2
  rw [eS] at c3
  obtain ⟨st, hst⟩ : ∃ st, D.starts = st := ⟨_, rfl⟩
  rw [hN] at CFI CLO c1 hmany
  rw [hq] at CFR
  rw [hfree, hq] at CRF
  rw [hst] at CST c3
  have HD := Lib.hid h
  have HCL := Lib.hid hcell
  have HN := Lib.hid hN
  rw [hu] at CUP c2
  have c2 : w.cell? ⟨r, 2, none⟩ = some (.bool true) := c2
  have CC1 := Lib.hid c1
  have CC2 := Lib.hid c2
  have CC3 := Lib.hid c3
  have HU := Lib.hid hu
  clear h hS hd hr eF eU eC eS hfree hq hst hcell hN hu
  unfold ptrV at *
  go_enter Tryz.func14, Tryz.ntmps14
  go_wp2_with fail
  refine (CFI.out w (Keeps.refl _)).mono ?_
  rintro e w1 ⟨v1, rfl, q1, k1⟩
  have hl1 : (numsF D.files).length = N := by have := HN.out; unfold numsF; simpa using this
  rw [← hl1] at q1
  have b1 := own_ints (own_zero q1)
  have K1 := Lib.hid k1
  clear q1 k1
  go_wp2_with fail
  refine (CLO.out w1 K1.out).mono ?_
  rintro e w2 ⟨v2, rfl, q2, k2⟩
  have hl2 : (looseL D).length = N := by have := HN.out; unfold looseL; simpa using this
  rw [← hl2] at q2
  have b2 := own_ints (own_zero q2)
  have B1 := Lib.hid (b1.keeps k2)
  have B2 := Lib.hid b2
  have K2 := Lib.hid (K1.out.trans k2)
  clear q2 k2 b1 b2
  have d1 := cell_keeps K2.out CC1.out
  have d2 := cell_keeps K2.out CC2.out
  have d3 := cell_keeps K2.out CC3.out
  obtain ⟨p1, e1, rfl, l1, g1⟩ := B1.out
  obtain ⟨p2, e2, rfl, l2, g2⟩ := B2.out
  rw [hl1] at l1 ⊢
  rw [hl2] at l2 ⊢
  have G1 := Lib.hid g1
  have G2 := Lib.hid g2
  clear g1 g2 hl1 hl2 l1 l2 c1 c2 c3
  go_wp2
  go_region_held3 (fun W => W.cell? ⟨r, 1, none⟩ = some (.slice pL N cL) ∧ W.cell? ⟨r, 2, none⟩ = some (.bool true) ∧ W.cell? ⟨r, 3, none⟩ = some (.int .i64 st)) (first | go_keep | exact ⟨cell_keeps K3.out CC1.out, cell_keeps K3.out CC2.out, cell_keeps K3.out CC3.out⟩) (first
    | (go_at_call 28; refine (CFR.out _ (kdown K2.out)).mono ?_; rintro e w3 ⟨rfl, k3⟩; have K3 := Lib.hid ((kdown K2.out).trans k3); have K23 := Lib.hid ((kdown0 w2).trans k3); clear k3)
    | (go_at_call 29; refine (CRF.out _ K3.out).mono ?_; rintro e w' ⟨rfl, rfl⟩)
    | (go_at_call 44; refine (CUP.out _ K3.out).mono ?_; rintro e w' ⟨rfl, rfl⟩)
    | (go_at_call 37; refine (CST.out _ K3.out).mono ?_; rintro e w' ⟨rfl, rfl⟩))
  have B13 := Lib.hid (B1.out.keeps K23.out)
  have B23 := Lib.hid (B2.out.keeps K23.out)
  clear G1 G2 B1 B2 d1 d2 d3 K2 K23 K1
  try clear c1 c2 c3
  go_wp2
  go_loopw [7] (fun vi wr => ∃ k : Nat, k ≤ N ∧ vi = .int .i64 (k : Int) ∧ Keeps w3 wr) (fun vi _ => N - (intOf vi).toNat)
  case atStart => exact ⟨0, by omega, rfl, Keeps.refl _⟩
  case round =>
    obtain ⟨k, hk, rfl, kk3⟩ := hrel
    have KR := Lib.hid (K3.out.trans kk3)
    have KQ := Lib.hid kk3
    clear kk3
    by_cases hlt : k < N
    · have hi1 : (k : Int) < (N : Int) := by omega
      obtain ⟨f, hf⟩ : ∃ f, D.files[k]? = some f := ⟨_, List.getElem?_eq_getElem (by have := HN.out; omega)⟩
      have hx := HD.out.keeps KR.out
      have b1 := B13.out.keeps KQ.out
      have b2 := B23.out.keeps KQ.out
      obtain ⟨a, rfl, o0, o1, o2⟩ := HCL.out k f hf
      have o0 := cell_keeps KR.out o0
      have o1 := cell_keeps KR.out o1
      have o2 := cell_keeps KR.out o2
      have x1 := cell_keeps KR.out CC1.out
      have x2 := cell_keeps KR.out CC2.out
      have hrl : r < wr.heap.size := World.block_lt_of_cell? wr _ x2
      obtain ⟨pp, cc, e, _, g1⟩ := b1
      cases e
      obtain ⟨a1, rfl, n1⟩ := g1 k f.n (by unfold numsF; rw [List.getElem?_map, hf]; rfl)
      obtain ⟨pp, cc, e, _, g2⟩ := b2
      cases e
      obtain ⟨a2, rfl, n2⟩ := g2 k (f.loose : Int) (by unfold looseL; rw [List.getElem?_map, hf]; rfl)
      have hok := hx.disk.okay
      have hxf : f ∈ D.files := List.mem_of_getElem? hf
      have hlen : f.data.length ≤ 1048576 := by have := used_mem hxf; have := hok.room; have := hok.cap; omega
      have hsu := hok.sure f hxf
      have hnn := hok.nums f hxf
      have hff := findF_at hok.rising hf
      have hI : I64 f.n := by unfold I64 top; omega
      obtain ⟨T, hT⟩ : ∃ T : ByteArray, (⟨f.data.toArray⟩ : ByteArray) = T := ⟨_, rfl⟩
      have hTs : f.data.length = T.size := by rw [← hT, size_mk]
      have hloose : (f.loose : Int) = (T.size : Int) - (f.sure : Int) := by unfold FileM.loose; omega
      rw [hloose] at n2
      unfold sv at o1
      rw [hT] at o1
      rw [hTs] at hlen hsu
      obtain ⟨S, hS⟩ : ∃ S, f.sure = S := ⟨_, rfl⟩
      rw [hS] at o2 n2 hsu
      obtain ⟨M, hM⟩ : ∃ M, f.n = M := ⟨_, rfl⟩
      rw [hM] at o0 n1
      have hw1 : IntKind.i64.wrap ((T.size : Int) - (S : Int)) = (T.size : Int) - (S : Int) := IntWalk.i64_in _ (by omega)
      clear g1 g2 hok hxf hnn hff hI hTs hloose hx hf hT hS hM
      unfold iv at n1 n2
      have N1 := Lib.hid n1
      have N2 := Lib.hid n2
      have FC : Hid (∀ (t : TypeId) (j : Nat), ((wr.alloc (.cells #[.int .i64 M, .string T, .int .i64 (S : Int)] t)).drew).cell? ⟨wr.heap.size, j, none⟩ = #[.int .i64 M, .string T, .int .i64 (S : Int)][j]?) := Lib.hid fun t j => Joins.cell_of_block (heap_alloc_new wr _) j
      unfold ptrV at *
      go_wp2
      go_region_held3 (fun W => W.cell? (a1.add k) = some (.int .i64 M) ∧ W.cell? (a2.add k) = some (.int .i64 ((T.size : Int) - (S : Int))) ∧ W.cell? ⟨wr.heap.size, 0, none⟩ = some (.int .i64 M) ∧ W.cell? ⟨wr.heap.size, 1, none⟩ = some (.string T) ∧ W.cell? ⟨wr.heap.size, 2, none⟩ = some (.int .i64 (S : Int)))
        (first | exact ⟨cell_keeps (kdown (keeps_lit _ _)) N1.out, cell_keeps (kdown (keeps_lit _ _)) N2.out, FC.out _ 0, FC.out _ 1, FC.out _ 2⟩ | go_keep) (fail)
      go_wp2
      go_roundw
      case rel => exact ⟨k + 1, by omega, by go_num, KQ.out.trans (kdown (keeps_lit _ _))⟩
      case measure => simp [intOf]; omega
    · obtain rfl : k = N := by omega
      have hz : ¬ ((k : Int) < (k : Int)) := by omega
      go_wp2
      go_ret
      exact ⟨rfl, KR.out⟩
end Go.Proofs.YtlaepdpgegoopaaGreat
namespace Go.Proofs.YtlaepdpgegoopaaGreat
open Go.ChangeShapes Go.WideShapes Go.ChangeAt Go.RowKit Go.Maps Csv Dk

theorem same_any (d r : Nat) (D R : DiskM) (G GR : List Nat) (w : World) (h : Pair w d r D R G GR) (hS : Sim 0 D R) :
    Calls Tryz.prog 14 #[ptrV d, ptrV r] w fun e w' => e = .returned (.bool true) ∧ Keeps w w' := by
  cases hu : D.up with
  | true => exact same_up d r D R G GR w h hS hu
  | false => exact same_down d r D R G GR w h hS hu
end Go.Proofs.YtlaepdpgegoopaaGreat
