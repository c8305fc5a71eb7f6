
/- The contracts of disk's calls: Delete, Create, Fail, New. -/
import Derived.Test.YtpecbfcboocmcaaDiskOps4
set_option linter.unusedVariables false
namespace Go.Proofs.Ytpecbfcboocmcaa
open Go.ChangeShapes Go.WideShapes Go.ChangeAt Go.RowKit Go.Maps Csv Dk

theorem key_wf {n : Int} (hn : I64 n) : keyOf Try.prog tI (.int .i64 n) = some (.int .i64 n) :=
  keyOf_int_mk Try.underlying3 (by unfold I64 top at hn; simp [Lit.wf, IntKind.min, IntKind.max, IntKind.signed, IntKind.bits]; omega)
theorem keyI : Keyed Try.prog tI := int_keyed Try.underlying3
theorem map_del (L : List Ent) (n : Int) : (mapD L).del (.int .i64 n) = mapD (L.filter fun x => x.1.n != n) := by
  unfold mapD DataW.del
  simp only
  rw [List.filter_map]
  congr 2
  apply List.filter_congr
  intro x _
  simp only [Function.comp, ent, Lit.sameKey]
  by_cases h : x.1.n = n <;> simp [h]
theorem files_del (L : List Ent) (n : Int) : delF (L.map (·.1)) n = (L.filter fun x => x.1.n != n).map (·.1) := by
  unfold delF
  rw [List.filter_map]
  rfl
theorem map_tight {P : Program} {H : Type} {w : World} {k : TypeId} {R : Value → Option (DataW H × List MemPlace)} {b n : Nat} {D : DataW H} (h : w.ownsMap P k R b n D) : w.ownsMap P k R b (Maps.size D) D := by
  obtain ⟨es, clock, hb, F, hs, rfl⟩ := h
  exact ⟨es, clock, hb, F, by simp [Maps.size, length_sorted], rfl⟩
theorem size_mapD (L : List Ent) : Maps.size (mapD L) = L.length := by unfold mapD; rw [Maps.size_eq, List.length_map]

/-- A file is gone. -/
theorem DiskAt.del {w w' : World} {d m : Nat} {L : List Ent} {k : Option (Nat × Option Nat)} {D : DiskM} (h : DiskAt w d m L k D) (n : Int) (ht : w.mapTurned w' m) (hm : w'.ownsMap Try.prog tI ptrR m L.length ((mapD L).del (.int .i64 n))) :
    DiskAt w' d m (L.filter fun x => x.1.n != n) k (D.put (delF D.files n)) := by
  obtain ⟨n1, n2, n3⟩ := h.m_ne
  have hg := ht.grown
  have o : ∀ b, b ∈ foot d m L k → b ≠ m → w'.heap[b]? = w.heap[b]? := fun b hb hne => hg.block b (h.lt b hb) fun e => hne (by cases e; rfl)
  rw [map_del] at hm
  have hm' := map_tight hm
  rw [size_mapD] at hm'
  refine ⟨by show delF D.files n = _; rw [h.lst, files_del], (o d (by simp [foot]) n1).trans h.disk, hm', fun x hx => ?_, h.apart.filter _, h.fail.local fun b hb => o b (mem_fK hb) (n3 b hb), h.okay.del n⟩
  have hxL := (List.mem_filter.1 hx).1
  have hb : ∀ b, b ∈ footF L → w'.heap[b]? = w.heap[b]? := fun b hb => o b (mem_fF hb) (n2 b hb)
  exact (h.files x hxL).local (hb _ (mem_footF.2 ⟨x, hxL, Or.inl rfl⟩)) fun r hr => hb r (mem_footF.2 ⟨x, hxL, Or.inr hr⟩)

set_option maxHeartbeats 1000000 in
theorem deleteD_any (d : Nat) (D : DiskM) (G : List Nat) (n : Int) (w : World) (h : IsDisk w d D G) (hn : I64 n) :
    Calls Try.prog 27 #[ptrV d, .int .i64 n] w fun e w' => e = .returned (.int .i64 (deleteD D n).1) ∧ Goes w w' G d (deleteD D n).2 := by
  obtain ⟨m, L, k, h, rfl⟩ := h
  have H := Lib.hid h
  cases hu : D.up with
  | false =>
    have c := find_down d m L k D n w h hu
    have e : deleteD D n = (61, D) := withF_down hu
    rw [e]
    clear h hu e
    unfold ptrV at *
    go_enter Try.func27, Try.ntmps27
    go_wp2_with (go_at_call 40; refine c.mono ?_; rintro e w' ⟨rfl, rfl⟩)
    go_ret
    exact ⟨rfl, Goes.same ⟨m, L, k, H.out, rfl⟩ (Keeps.refl _)⟩
  | true =>
    cases hf : findF D.files n with
    | none =>
      have c := find_nofile d m L k D n w h hn hu hf
      have e : deleteD D n = (4, D) := withF_none hu hf
      rw [e]
      clear h hu e hf hn
      unfold ptrV at *
      go_enter Try.func27, Try.ntmps27
      go_wp2_with (go_at_call 40; refine c.mono ?_; rintro e w' ⟨rfl, rfl⟩)
      go_ret
      exact ⟨rfl, Goes.same ⟨m, L, k, H.out, rfl⟩ (Keeps.refl _)⟩
    | some f =>
      obtain ⟨i, x, hi, rfl, hxn, hx⟩ := find_at h hf
      have c := find_file d m L k D n x w h hn hu hx
      have e : deleteD D n = D.then fun l => delF l n := withF_some hu hf
      rw [e]
      rcases count_code D with ⟨hc, cf, cc, cu⟩ | hc
      · rw [then_ok hc]
        have cn := count_ok h hc
        have HKW := Lib.hid (key_wf hn)
        clear h hu e hf hn hi hx hxn hc cf cc cu
        unfold ptrV at *
        go_enter Try.func27, Try.ntmps27
        go_wp2_with (first
          | (go_at_call 40; refine c.mono ?_; rintro e w' ⟨rfl, rfl⟩)
          | fail)
        refine cn.mono ?_
        rintro e w2 ⟨rfl, k', h2, hk2, hf2⟩
        obtain ⟨_, m1, _⟩ := h2.cells
        have key : ∀ w3, w2.mapTurned w3 m → w3.ownsMap Try.prog tI ptrR m L.length ((mapD L).del (.int .i64 n)) → Goes w w3 (foot d m L k) d (D.count.2.put (delF D.count.2.files n)) := by
          intro w3 ht hm
          refine goes_mk (h2.del n ht hm) (hf2.frame_grown ht.grown (by simp [foot])) (fun b hb => ?_) hk2
          obtain ⟨z, hz, hzb⟩ := mem_footF.1 hb
          exact Or.inl (mem_fF (mem_footF.2 ⟨z, (List.mem_filter.1 hz).1, hzb⟩))
        have KEY := Lib.hid key
        have HOWN := Lib.hid h2.map
        clear key h2 hk2 hf2 c cn
        go_wp2_with (at_delete; refine wpList_delete_own _ rfl _ _ tMp tI rfl tPf keyI Try.underlying52 ptrR m L.length (mapD L) rfl HOWN.out _ (.int .i64 n) rfl HKW.out ?_; intro w3 hm3 ht3)
        go_ret
        exact ⟨rfl, KEY.out _ ht3 hm3⟩
      · rw [then_no hc]
        have cn := count_no h hc
        clear h hu e hf hn hi hx hxn hc
        unfold ptrV at *
        go_enter Try.func27, Try.ntmps27
        go_wp2_with (first
          | (go_at_call 40; refine c.mono ?_; rintro e w' ⟨rfl, rfl⟩)
          | (go_at_call 39; refine cn.mono ?_; rintro e w' ⟨rfl, hg⟩))
        go_ret
        exact ⟨rfl, hg⟩

/-! ### Create -/
def insL (L : List Ent) (n : Int) (b : FB) : List Ent :=
  match L with
  | [] => [(⟨n, [], 0⟩, b)]
  | x :: r => if x.1.n < n then x :: insL r n b else (⟨n, [], 0⟩, b) :: x :: r
theorem insL_files (L : List Ent) (n : Int) (b : FB) : (insL L n b).map (·.1) = insF (L.map (·.1)) n := by
  induction L with
  | nil => rfl
  | cons x r ih =>
    unfold insL
    rw [List.map_cons]
    unfold insF
    by_cases h : x.1.n < n
    · rw [if_pos h, if_pos h, List.map_cons, ih]
    · rw [if_neg h, if_neg h, List.map_cons, List.map_cons]
theorem insL_mem (L : List Ent) (n : Int) (b : FB) (x : Ent) : x ∈ insL L n b ↔ x = (⟨n, [], 0⟩, b) ∨ x ∈ L := by
  induction L with
  | nil => simp [insL]
  | cons g r ih =>
    unfold insL
    split
    · rw [List.mem_cons, ih, List.mem_cons]; constructor <;> (rintro (h | h | h) <;> simp [h])
    · simp
theorem insL_pair (L : List Ent) (n : Int) (b : FB) (h : L.Pairwise Apart) (hb : ∀ x ∈ L, Apart (⟨n, [], 0⟩, b) x) : (insL L n b).Pairwise Apart := by
  induction L with
  | nil => exact List.pairwise_singleton _ _
  | cons x r ih =>
    obtain ⟨h1, h2⟩ := List.pairwise_cons.1 h
    unfold insL
    split
    · refine List.pairwise_cons.2 ⟨fun y hy => ?_, ih h2 fun y hy => hb y (by simp [hy])⟩
      rcases (insL_mem r n b y).1 hy with rfl | hy
      · exact (hb x (by simp)).symm
      · exact h1 y hy
    · exact List.pairwise_cons.2 ⟨hb, h⟩
theorem map_put (L : List Ent) (n : Int) (b : Nat) (h : ∀ x ∈ L, x.1.n ≠ n) : (mapD L).put (.int .i64 n) (.held b) = mapD (insL L n ⟨b, none⟩) := by
  unfold mapD DataW.put
  simp only
  have e : (L.map ent).filter (fun p => !p.1.sameKey (.int .i64 n)) = L.map ent := by
    refine List.filter_eq_self.2 fun p hp => ?_
    obtain ⟨x, hx, rfl⟩ := List.mem_map.1 hp
    simp [ent, Lit.sameKey, h x hx]
  rw [e]
  clear e
  congr 1
  induction L with
  | nil => rfl
  | cons x r ih =>
    rw [List.map_cons]
    unfold DataW.insert insL
    have hx := h x (by simp)
    by_cases hlt : x.1.n < n
    · rw [if_pos hlt, if_neg (by simp [ent, Lit.before]; omega), List.map_cons, ih fun y hy => h y (by simp [hy])]
    · rw [if_neg hlt, if_pos (by simp [ent, Lit.before]; omega), List.map_cons]; rfl
/-- A file is new. -/
theorem DiskAt.ins {w wA w' : World} {d m b : Nat} {L : List Ent} {k : Option (Nat × Option Nat)} {D : DiskM} {n : Int} (h : DiskAt w d m L k D) (hok : Okay (D.put (insF D.files n))) (hf : findF D.files n = none) (hb : w.heap.size ≤ b) (hA : Keeps w wA) (hbA : wA.heap[b]? = some (.cells #[.slice none 0 0, .int .i64 0] tFl (0, 0)))
    (ht : wA.mapTurned w' m) (hm : w'.ownsMap Try.prog tI ptrR m (L.length + 1) ((mapD L).put (.int .i64 n) (.held b))) : DiskAt w' d m (insL L n ⟨b, none⟩) k (D.put (insF D.files n)) := by
  obtain ⟨n1, n2, n3⟩ := h.m_ne
  have hlt := h.lt
  have hg := ht.grown
  have o : ∀ x, x ∈ foot d m L k → x ≠ m → w'.heap[x]? = w.heap[x]? := fun x hx hne => (hg.block x (Nat.lt_of_lt_of_le (hlt x hx) hA.size) fun e => hne (by cases e; rfl)).trans (hA.block x (hlt x hx))
  have hno : ∀ x ∈ L, x.1.n ≠ n := fun x hx => findF_none hf x.1 (by rw [h.lst]; exact List.mem_map.2 ⟨x, hx, rfl⟩)
  rw [map_put L n b hno] at hm
  have hm' := map_tight hm
  rw [size_mapD] at hm'
  have hbm : b ≠ m := by have := hlt m (by simp [foot]); omega
  refine ⟨by show insF D.files n = _; rw [insL_files, h.lst], (o d (by simp [foot]) n1).trans h.disk, hm', fun x hx => ?_, insL_pair L n _ h.apart fun x hx => ⟨?_, fun r hr => by cases hr⟩, h.fail.local fun x hx => o x (mem_fK hx) (n3 x hx), hok⟩
  · rcases (insL_mem L n _ x).1 hx with rfl | hx
    · exact ⟨.slice none 0 0, (hg.block b (block_lt hbA) fun e => hbm (by cases e; rfl)).trans hbA, World.ownsRow_nil _ _ _ _, rfl⟩
    · have hb : ∀ b, b ∈ footF L → w'.heap[b]? = w.heap[b]? := fun b hb => o b (mem_fF hb) (n2 b hb)
      exact (h.files x hx).local (hb _ (mem_footF.2 ⟨x, hx, Or.inl rfl⟩)) fun r hr => hb r (mem_footF.2 ⟨x, hx, Or.inr hr⟩)
  · have := hlt _ (mem_fF (mem_footF.2 ⟨x, hx, Or.inl rfl⟩))
    show b ≠ x.2.blk
    omega
end Go.Proofs.Ytpecbfcboocmcaa
