
/- The document's own disk (a list of files, rising) in memory; its Find, Free, fails. -/
import Derived.Test.YtpecbfcboocmcaaDiskNone
set_option linter.unusedVariables false
namespace Go.Proofs.Ytpecbfcboocmcaa
open Go.ChangeShapes Go.WideShapes Go.ChangeAt Go.RowKit Go.Maps Csv Dk

abbrev tRf : TypeId := 39
abbrev tFr : TypeId := 58
abbrev tFs : TypeId := 37

def fcells (f : FileM) : List Value := [.int .i64 f.n, sv f.data, .int .i64 (f.sure : Int)]
def rcells (l : List FileM) : List Value := l.flatMap fcells
theorem rcells_len (l : List FileM) : (rcells l).length = l.length * 3 := by
  induction l with
  | nil => rfl
  | cons f r ih => unfold rcells at *; rw [List.flatMap_cons, List.length_append, ih, List.length_cons]; simp [fcells]; omega
theorem rcells_app (a b : List FileM) : rcells (a ++ b) = rcells a ++ rcells b := by unfold rcells; rw [List.flatMap_append]
theorem rcells_at {l : List FileM} {i : Nat} {f : FileM} (h : l[i]? = some f) (j : Nat) (hj : j < 3) : (rcells l)[i * 3 + j]? = (fcells f)[j]? := by
  induction l generalizing i with
  | nil => simp at h
  | cons g r ih =>
    have e : rcells (g :: r) = fcells g ++ rcells r := by unfold rcells; rw [List.flatMap_cons]
    rw [e]
    cases i with
    | zero =>
      simp at h; subst h
      rw [List.getElem?_append_left (by simp [fcells]; omega)]
      congr 1; omega
    | succ i =>
      have h' : r[i]? = some f := by simpa using h
      rw [List.getElem?_append_right (by simp [fcells]; omega), ← ih h']
      congr 1
      simp [fcells]; omega
/-- What is read of a row of files. -/
def FilesAt (w : World) (v : Value) (L : List FileM) : Prop :=
  ∃ p c, v = .slice p L.length c ∧ L.length ≤ c ∧ L.length ≤ maxLen ∧ ∀ j f, L[j]? = some f → ∃ a : Addr, p = some a ∧ w.cell? (a.add (j * 3)) = some (.int .i64 f.n) ∧ w.cell? ⟨(a.add (j * 3)).block, (a.add (j * 3)).off + 1, none⟩ = some (sv f.data) ∧
    w.cell? ⟨(a.add (j * 3)).block, (a.add (j * 3)).off + 2, none⟩ = some (.int .i64 (f.sure : Int))
theorem own_files {w : World} {B : Nat} {v : Value} {L : List FileM} (h : w.ownsRow B tFr 3 v L.length (rcells L)) : FilesAt w v L := by
  have hh := h
  rcases h.2 with ⟨rfl, h0⟩ | ⟨g, cap, cur, rfl, hb, hg, r1, r2, r3, r4⟩
  · have : L = [] := List.length_eq_zero_iff.1 h0
    subst this
    exact ⟨none, 0, rfl, by simp, by simp [maxLen], fun j f h => by simp at h⟩
  · refine ⟨_, cap, rfl, r1, Nat.le_trans r1 r2, fun j f hf => ⟨_, rfl, ?_⟩⟩
    have hj : j < L.length := (List.getElem?_eq_some_iff.1 hf).1
    rw [addr_of]
    have c : ∀ q, q < 3 → w.cell? ⟨g, j * 3 + q, none⟩ = (fcells f)[q]? := fun q hq => by
      rw [hh.cellAt (j * 3 + q) (by omega), rcells_at hf q hq]
    exact ⟨c 0 (by omega), c 1 (by omega), c 2 (by omega)⟩
theorem FilesAt.keeps {w w' : World} {v : Value} {L : List FileM} (h : FilesAt w v L) (k : Keeps w w') : FilesAt w' v L := by
  obtain ⟨p, c, h1, h2, h3, h4⟩ := h
  refine ⟨p, c, h1, h2, h3, fun j f hf => ?_⟩
  obtain ⟨a, ha, q0, q1, q2⟩ := h4 j f hf
  exact ⟨a, ha, cell_keeps k q0, cell_keeps k q1, cell_keeps k q2⟩

/-! ### The disk -/
def failsN (f : Option (Nat × List Int)) : Nat := match f with | none => 0 | some (a, _) => a + 1
def refCells (vL vK : Value) (D : DiskM) : Array Value := #[.int .i64 (D.cap : Int), vL, .bool (!D.up), .int .i64 D.starts, .int .i64 (failsN D.fail : Int), vK]
structure RefAt (w : World) (r : Nat) (vL vK : Value) (ks : List Int) (D : DiskM) : Prop where
  ref : w.heap[r]? = some (.cells (refCells vL vK D) tRf (0, 0))
  row : w.ownsRow 0 tFr 3 vL D.files.length (rcells D.files)
  kept : w.ownsRow 0 tI 1 vK ks.length (ivs ks)
  fail : D.fail = none ∨ ∃ a, D.fail = some (a, ks) ∧ a ≤ 1099511627776
  okay : Okay D
def rfoot (r : Nat) (vL vK : Value) : List Nat := r :: (vL.ownBlock.toList ++ vK.ownBlock.toList)
def IsRef (w : World) (r : Nat) (D : DiskM) (G : List Nat) : Prop := ∃ vL vK ks, RefAt w r vL vK ks D ∧ G = rfoot r vL vK
def RGoes (w w' : World) (G : List Nat) (r : Nat) (D : DiskM) : Prop := ∃ G', IsRef w' r D G' ∧ Frame G w w' ∧ ∀ b ∈ G', b ∈ G ∨ w.heap.size ≤ b

section
variable {w w' : World} {r : Nat} {vL vK : Value} {ks : List Int} {D : DiskM}
theorem mem_rfoot {b : Nat} : b ∈ rfoot r vL vK ↔ b = r ∨ vL.ownBlock = some b ∨ vK.ownBlock = some b := by unfold rfoot; simp
theorem own_tag3 {w : World} {B : Nat} {e : TypeId} {s : Nat} {v : Value} {n : Nat} {xs : List Value} (h : w.ownsRow B e s v n xs) {g : Nat} (hg : v.ownBlock = some g) : ∃ c, w.heap[g]? = some (.cells c e (0, 0)) := own_tag h hg
theorem RefAt.local (h : RefAt w r vL vK ks D) (hk : ∀ b ∈ rfoot r vL vK, w'.heap[b]? = w.heap[b]?) : RefAt w' r vL vK ks D :=
  ⟨(hk r (by simp [rfoot])).trans h.ref, own_local h.row fun g hg => hk g (mem_rfoot.2 (Or.inr (Or.inl hg))), own_local h.kept fun g hg => hk g (mem_rfoot.2 (Or.inr (Or.inr hg))), h.fail, h.okay⟩
theorem RefAt.lt (h : RefAt w r vL vK ks D) : ∀ b ∈ rfoot r vL vK, b < w.heap.size := by
  intro b hb
  rcases mem_rfoot.1 hb with rfl | hb | hb
  · exact block_lt h.ref
  · obtain ⟨c, hc⟩ := own_tag h.row hb; exact block_lt hc
  · obtain ⟨c, hc⟩ := own_tag h.kept hb; exact block_lt hc
theorem RefAt.keeps (h : RefAt w r vL vK ks D) (k : Keeps w w') : RefAt w' r vL vK ks D := h.local fun b hb => k.block b (h.lt b hb)
theorem RefAt.r_ne (h : RefAt w r vL vK ks D) : vL.ownBlock ≠ some r ∧ vK.ownBlock ≠ some r := by
  refine ⟨fun e => ?_, fun e => ?_⟩
  · obtain ⟨c, hc⟩ := own_tag h.row e; exact tag_ne hc h.ref (by decide) rfl
  · obtain ⟨c, hc⟩ := own_tag h.kept e; exact tag_ne hc h.ref (by decide) rfl
theorem RefAt.cells (h : RefAt w r vL vK ks D) : w.cell? ⟨r, 0, none⟩ = some (.int .i64 (D.cap : Int)) ∧ w.cell? ⟨r, 1, none⟩ = some vL ∧ w.cell? ⟨r, 2, none⟩ = some (.bool (!D.up)) ∧ w.cell? ⟨r, 3, none⟩ = some (.int .i64 D.starts) ∧
    w.cell? ⟨r, 4, none⟩ = some (.int .i64 (failsN D.fail : Int)) ∧ w.cell? ⟨r, 5, none⟩ = some vK ∧ ∀ i, w.frozen? ⟨r, i, none⟩ = false := by
  have c := fun i => Joins.cell_of_block h.ref i
  exact ⟨c 0, c 1, c 2, c 3, c 4, c 5, fun i => Joins.unfrozen_of_block h.ref i⟩
/-- The struct has turned, and perhaps the rows, which are new then. -/
theorem RefAt.turn {vL' vK' : Value} {ks' : List Int} {D' : DiskM} (hr : w'.heap[r]? = some (.cells (refCells vL' vK' D') tRf (0, 0))) (hL : w'.ownsRow 0 tFr 3 vL' D'.files.length (rcells D'.files)) (hK : w'.ownsRow 0 tI 1 vK' ks'.length (ivs ks'))
    (hf : D'.fail = none ∨ ∃ a, D'.fail = some (a, ks') ∧ a ≤ 1099511627776) (ho : Okay D') : RefAt w' r vL' vK' ks' D' := ⟨hr, hL, hK, hf, ho⟩
theorem IsRef.keeps {G : List Nat} (h : IsRef w r D G) (k : Keeps w w') : IsRef w' r D G := by
  obtain ⟨vL, vK, ks, h1, h2⟩ := h
  exact ⟨vL, vK, ks, h1.keeps k, h2⟩
theorem IsRef.local {G : List Nat} (h : IsRef w r D G) (k : ∀ b ∈ G, w'.heap[b]? = w.heap[b]?) : IsRef w' r D G := by
  obtain ⟨vL, vK, ks, h1, rfl⟩ := h
  exact ⟨vL, vK, ks, h1.local k, rfl⟩
theorem IsRef.lt {G : List Nat} (h : IsRef w r D G) : ∀ b ∈ G, b < w.heap.size := by
  obtain ⟨vL, vK, ks, h1, rfl⟩ := h
  exact h1.lt
theorem RGoes.same {G : List Nat} (h : IsRef w r D G) (k : Keeps w w') : RGoes w w' G r D := ⟨G, h.keeps k, Frame.of_keeps k G, fun b hb => Or.inl hb⟩
theorem rgoes_mk {vL' vK' : Value} {ks' : List Int} {D' : DiskM} (h : RefAt w' r vL' vK' ks' D') (hf : Frame (rfoot r vL vK) w w') (hL : ∀ b, vL'.ownBlock = some b → b ∈ rfoot r vL vK ∨ w.heap.size ≤ b) (hK : ∀ b, vK'.ownBlock = some b → b ∈ rfoot r vL vK ∨ w.heap.size ≤ b) : RGoes w w' (rfoot r vL vK) r D' := by
  refine ⟨_, ⟨vL', vK', ks', h, rfl⟩, hf, fun b hb => ?_⟩
  rcases mem_rfoot.1 hb with rfl | hb | hb
  · exact Or.inl (by simp [rfoot])
  · exact hL b hb
  · exact hK b hb
end

/-! ### Find, Free -/
def posF (l : List FileM) (n : Int) : Option Nat := l.findIdx? fun f => f.n == n
theorem pos_some {l : List FileM} {n : Int} {i : Nat} (h : posF l n = some i) : ∃ f, l[i]? = some f ∧ f.n = n ∧ findF l n = some f := by
  unfold posF at h
  obtain ⟨hi, hp, hq⟩ := List.findIdx?_eq_some_iff_getElem.1 h
  refine ⟨l[i], List.getElem?_eq_getElem hi, by simpa using hp, ?_⟩
  unfold findF
  rw [List.find?_eq_some_iff_getElem]
  exact ⟨hp, i, hi, rfl, fun j hj => by simpa using hq j hj⟩
theorem pos_none {l : List FileM} {n : Int} (h : posF l n = none) : findF l n = none := by
  unfold posF at h
  rw [List.findIdx?_eq_none_iff] at h
  exact List.find?_eq_none.2 fun f hf => by simpa using h f hf
theorem pos_at {l : List FileM} {n : Int} {i : Nat} {f : FileM} (hi : l[i]? = some f) (hn : f.n = n) (hall : ∀ j g, j < i → l[j]? = some g → g.n ≠ n) : posF l n = some i := by
  unfold posF
  obtain ⟨hl, rfl⟩ := List.getElem?_eq_some_iff.1 hi
  rw [List.findIdx?_eq_some_iff_getElem]
  exact ⟨hl, by simpa using hn, fun j hj => by simpa using hall j _ hj (List.getElem?_eq_getElem (by omega))⟩
def posI (o : Option Nat) : Int := match o with | some i => (i : Int) | none => -1
set_option maxHeartbeats 1000000 in
theorem rfind_any (r : Nat) (vL vK : Value) (ks : List Int) (D : DiskM) (n : Int) (w : World) (h : RefAt w r vL vK ks D) :
    Calls Try.prog 44 #[ptrV r, .int .i64 n] w fun e w' => e = .returned (.int .i64 (posI (posF D.files n))) ∧ w = w' := by
  obtain ⟨c0, c1, c2, c3, c4, c5, fz⟩ := h.cells
  have hmany := h.okay.many
  obtain ⟨p, c, rfl, _, lL, hL⟩ := own_files h.row
  obtain ⟨N, hN⟩ : ∃ N, D.files.length = N := ⟨_, rfl⟩
  have HL := Lib.hid hL
  have HN := Lib.hid hN
  rw [hN] at c1 hmany
  clear h c0 c2 c3 c4 c5 fz hL hN lL
  unfold ptrV
  go_enter Try.func44, Try.ntmps44
  go_wp2
  go_loop [5] (fun i => ∃ k : Nat, k ≤ N ∧ i = .int .i64 (k : Int) ∧ ∀ j g, j < k → D.files[j]? = some g → g.n ≠ n) (fun i => N - (intOf i).toNat)
  case atStart => exact ⟨0, by omega, rfl, fun j g hj => by omega⟩
  case round =>
    obtain ⟨k, hk, rfl, hall⟩ := hrel
    have HA := Lib.hid hall
    clear hall
    by_cases hlt : k < N
    · obtain ⟨f, hf⟩ : ∃ f, D.files[k]? = some f := ⟨_, List.getElem?_eq_getElem (by have := HN.out; omega)⟩
      obtain ⟨a, rfl, q0, _, _⟩ := HL.out k f hf
      have hi1 : (k : Int) < (N : Int) := by omega
      have HF := Lib.hid hf
      obtain ⟨m, hm⟩ : ∃ m, f.n = m := ⟨_, rfl⟩
      rw [hm] at q0
      have HM := Lib.hid hm
      clear hf hm
      by_cases hmn : m = n
      · subst hmn
        have H := Lib.hid (show posF D.files m = some k from pos_at HF.out HM.out HA.out)
        go_wp2
        go_ret
        exact ⟨ret_int (by rw [H.out]; rfl), rfl⟩
      · have t : (m == n) = false := by simpa using hmn
        have H := Lib.hid (show ∀ j g, j < k + 1 → D.files[j]? = some g → g.n ≠ n from fun j g hj hg => by
          by_cases e : j = k
          · subst e
            rw [HF.out] at hg
            cases hg
            rw [HM.out]; exact hmn
          · exact HA.out j g (by omega) hg)
        clear hmn
        go_wp2
        go_round
        case rel => exact ⟨k + 1, by omega, by go_num, H.out⟩
        case measure => simp [intOf]; omega
    · obtain rfl : k = N := by omega
      have hz : ¬ ((k : Int) < (k : Int)) := by omega
      have H := Lib.hid (show posF D.files n = none by
        unfold posF
        rw [List.findIdx?_eq_none_iff]
        intro f hf
        obtain ⟨j, hj⟩ := List.mem_iff_getElem?.1 hf
        have := HA.out j f (by have := (List.getElem?_eq_some_iff.1 hj).1; have := HN.out; omega) hj
        simpa using this)
      go_wp2
      go_ret
      exact ⟨ret_int (by rw [H.out]; rfl), rfl⟩
set_option maxHeartbeats 1000000 in
theorem rfree_any (r : Nat) (vL vK : Value) (ks : List Int) (D : DiskM) (w : World) (h : RefAt w r vL vK ks D) :
    Calls Try.prog 35 #[ptrV r] w fun e w' => e = .returned (.int .i64 D.free) ∧ w = w' := by
  obtain ⟨c0, c1, c2, c3, c4, c5, fz⟩ := h.cells
  have hmany := h.okay.many
  have hcap := h.okay.cap
  have hroom := h.okay.room
  obtain ⟨p, c, rfl, _, lL, hL⟩ := own_files h.row
  obtain ⟨N, hN⟩ : ∃ N, D.files.length = N := ⟨_, rfl⟩
  obtain ⟨C, hC⟩ : ∃ C, D.cap = C := ⟨_, rfl⟩
  obtain ⟨U, hU⟩ : ∃ U, used D.files = U := ⟨_, rfl⟩
  have HL := Lib.hid hL
  have HN := Lib.hid hN
  have HU := Lib.hid hU
  have HE := Lib.hid (show D.free = (C : Int) - (U : Int) by unfold DiskM.free; rw [hC, hU])
  rw [hN] at c1 hmany
  rw [hC] at c0 hcap hroom
  rw [hU] at hroom
  clear h c2 c3 c4 c5 fz hL hN lL hC hU
  unfold ptrV
  go_enter Try.func35, Try.ntmps35
  go_wp2
  go_loop [3, 4] (fun v i => ∃ k S : Nat, k ≤ N ∧ i = .int .i64 (k : Int) ∧ v = .int .i64 ((C : Int) - (S : Int)) ∧ S ≤ U ∧ S = used (D.files.take k)) (fun _ i => N - (intOf i).toNat)
  case atStart => exact ⟨0, 0, by omega, rfl, by simp, by omega, rfl⟩
  case round =>
    obtain ⟨k, S, hk, rfl, rfl, hS, hsum⟩ := hrel
    have HS := Lib.hid hsum
    clear hsum
    by_cases hlt : k < N
    · obtain ⟨f, hf⟩ : ∃ f, D.files[k]? = some f := ⟨_, List.getElem?_eq_getElem (by have := HN.out; omega)⟩
      obtain ⟨a, rfl, _, q1, _⟩ := HL.out k f hf
      have hi1 : (k : Int) < (N : Int) := by omega
      have hap : ∀ a b : List FileM, used (a ++ b) = used a + used b := fun a b => by simp [used]
      have hst : used (D.files.take (k + 1)) = S + f.data.length := by
        rw [List.take_add_one, hf, hap, HS.out]; simp [used]
      have hle : S + f.data.length ≤ U := by
        rw [← hst, ← HU.out]
        have h1 : used (D.files.take (k + 1)) + used (D.files.drop (k + 1)) = used D.files := by rw [← hap, List.take_append_drop]
        omega
      obtain ⟨T, hT⟩ : ∃ T : ByteArray, (⟨f.data.toArray⟩ : ByteArray) = T := ⟨_, rfl⟩
      have hTs : T.size = f.data.length := by rw [← hT, size_mk]
      have HST := Lib.hid (show S + T.size = used (D.files.take (k + 1)) by rw [hst, hTs])
      have hle2 : S + T.size ≤ U := by rw [hTs]; exact hle
      unfold sv at q1
      rw [hT] at q1
      clear hf hst hle hTs hT hap
      go_wp2
      go_round
      case rel => exact ⟨k + 1, S + T.size, by omega, by go_num, by go_num, hle2, HST.out⟩
      case measure => simp [intOf]; omega
    · obtain rfl : k = N := by omega
      have hz : ¬ ((k : Int) < (k : Int)) := by omega
      have H := Lib.hid (show S = U by rw [HS.out, List.take_of_length_le (by rw [HN.out]; exact Nat.le_refl _), HU.out])
      go_wp2
      go_ret
      exact ⟨ret_int (by rw [HE.out, H.out]), rfl⟩
end Go.Proofs.Ytpecbfcboocmcaa
