
/- The document's own disk (a list of files, rising) in memory; its Find, Free, fails. The document's own disk: New, Start, Size, Read, fails; rows of files, appended. The document's own disk: rows of files appended, fails, with. The document's own disk: Crash, sunk. -/
import Derived.Test.YtlaepdpgegoopaaGreatDiskNone
import Derived.Deep.RegionHeld3
import Derived.Deep.AppendLies
import Derived.Test.YtlaepdpgegoopaaGreatDiskOps3
import Derived.Outline
import Derived.RegionTactic
import Derived.ChangeAlike
set_option linter.unusedVariables false
namespace Go.Proofs.YtlaepdpgegoopaaGreat
open Go.ChangeShapes Go.WideShapes Go.ChangeAt Go.RowKit Go.Maps Csv Dk

abbrev tRf : TypeId := 59
abbrev tFr : TypeId := 66
abbrev tFs : TypeId := 56

def fcells (f : FileM) : List Value := [.int .i64 f.n, sv f.data, .int .i64 (f.sure : Int)]
def rcells (l : List FileM) : List Value := l.flatMap fcells
theorem rcells_len (l : List FileM) : (rcells l).length = l.length * 3 := by
  induction l with
  | nil => rfl
  | cons f r ih => unfold rcells at *; rw [List.flatMap_cons, List.length_append, ih, List.length_cons]; simp [fcells]; omega
theorem rcells_app (a b : List FileM) : rcells (a ++ b) = rcells a ++ rcells b := by unfold rcells; rw [List.flatMap_append]
theorem rcells_at {l : List FileM} {i : Nat} {f : FileM} (h : l[i]? = some f) (j : Nat) (hj : j < 3) : (rcells l)[i * 3 + j]? = (fcells f)[j]? := by
  induction l generalizing i with
  | nil => simp at h
  | cons g r ih =>
    have e : rcells (g :: r) = fcells g ++ rcells r := by unfold rcells; rw [List.flatMap_cons]
    rw [e]
    cases i with
    | zero =>
      simp at h; subst h
      rw [List.getElem?_append_left (by simp [fcells]; omega)]
      congr 1; omega
    | succ i =>
      have h' : r[i]? = some f := by simpa using h
      rw [List.getElem?_append_right (by simp [fcells]; omega), ← ih h']
      congr 1
      simp [fcells]; omega
/-- What is read of a row of files. -/
def FilesAt (w : World) (v : Value) (L : List FileM) : Prop :=
  ∃ p c, v = .slice p L.length c ∧ L.length ≤ c ∧ L.length ≤ maxLen ∧ ∀ j f, L[j]? = some f → ∃ a : Addr, p = some a ∧ w.cell? (a.add (j * 3)) = some (.int .i64 f.n) ∧ w.cell? ⟨(a.add (j * 3)).block, (a.add (j * 3)).off + 1, none⟩ = some (sv f.data) ∧
    w.cell? ⟨(a.add (j * 3)).block, (a.add (j * 3)).off + 2, none⟩ = some (.int .i64 (f.sure : Int))
theorem own_files {w : World} {B : Nat} {v : Value} {L : List FileM} (h : w.ownsRow B tFr 3 v L.length (rcells L)) : FilesAt w v L := by
  have hh := h
  rcases h.2 with ⟨rfl, h0⟩ | ⟨g, cap, cur, rfl, hb, hg, r1, r2, r3, r4⟩
  · have : L = [] := List.length_eq_zero_iff.1 h0
    subst this
    exact ⟨none, 0, rfl, by simp, by simp [maxLen], fun j f h => by simp at h⟩
  · refine ⟨_, cap, rfl, r1, Nat.le_trans r1 r2, fun j f hf => ⟨_, rfl, ?_⟩⟩
    have hj : j < L.length := (List.getElem?_eq_some_iff.1 hf).1
    rw [addr_of]
    have c : ∀ q, q < 3 → w.cell? ⟨g, j * 3 + q, none⟩ = (fcells f)[q]? := fun q hq => by
      rw [hh.cellAt (j * 3 + q) (by omega), rcells_at hf q hq]
    exact ⟨c 0 (by omega), c 1 (by omega), c 2 (by omega)⟩
theorem FilesAt.keeps {w w' : World} {v : Value} {L : List FileM} (h : FilesAt w v L) (k : Keeps w w') : FilesAt w' v L := by
  obtain ⟨p, c, h1, h2, h3, h4⟩ := h
  refine ⟨p, c, h1, h2, h3, fun j f hf => ?_⟩
  obtain ⟨a, ha, q0, q1, q2⟩ := h4 j f hf
  exact ⟨a, ha, cell_keeps k q0, cell_keeps k q1, cell_keeps k q2⟩

/-! ### The disk -/
def failsN (f : Option (Nat × List Int)) : Nat := match f with | none => 0 | some (a, _) => a + 1
def refCells (vL vK : Value) (D : DiskM) : Array Value := #[.int .i64 (D.cap : Int), vL, .bool (!D.up), .int .i64 D.starts, .int .i64 (failsN D.fail : Int), vK]
structure RefAt (w : World) (r : Nat) (vL vK : Value) (ks : List Int) (D : DiskM) : Prop where
  ref : w.heap[r]? = some (.cells (refCells vL vK D) tRf (0, 0))
  row : w.ownsRow 0 tFr 3 vL D.files.length (rcells D.files)
  kept : w.ownsRow 0 tI 1 vK ks.length (ivs ks)
  fail : D.fail = none ∨ ∃ a, D.fail = some (a, ks) ∧ a ≤ 1099511627776
  okay : Okay D
def rfoot (r : Nat) (vL vK : Value) : List Nat := r :: (vL.ownBlock.toList ++ vK.ownBlock.toList)
def IsRef (w : World) (r : Nat) (D : DiskM) (G : List Nat) : Prop := ∃ vL vK ks, RefAt w r vL vK ks D ∧ G = rfoot r vL vK
def RGoes (w w' : World) (G : List Nat) (r : Nat) (D : DiskM) : Prop := ∃ G', IsRef w' r D G' ∧ Frame [r] w w' ∧ ∀ b ∈ G', b ∈ G ∨ w.heap.size ≤ b

section
variable {w w' : World} {r : Nat} {vL vK : Value} {ks : List Int} {D : DiskM}
theorem mem_rfoot {b : Nat} : b ∈ rfoot r vL vK ↔ b = r ∨ vL.ownBlock = some b ∨ vK.ownBlock = some b := by unfold rfoot; simp
theorem own_tag3 {w : World} {B : Nat} {e : TypeId} {s : Nat} {v : Value} {n : Nat} {xs : List Value} (h : w.ownsRow B e s v n xs) {g : Nat} (hg : v.ownBlock = some g) : ∃ c, w.heap[g]? = some (.cells c e (0, 0)) := own_tag h hg
theorem RefAt.local (h : RefAt w r vL vK ks D) (hk : ∀ b ∈ rfoot r vL vK, w'.heap[b]? = w.heap[b]?) : RefAt w' r vL vK ks D :=
  ⟨(hk r (by simp [rfoot])).trans h.ref, own_local h.row fun g hg => hk g (mem_rfoot.2 (Or.inr (Or.inl hg))), own_local h.kept fun g hg => hk g (mem_rfoot.2 (Or.inr (Or.inr hg))), h.fail, h.okay⟩
theorem RefAt.lt (h : RefAt w r vL vK ks D) : ∀ b ∈ rfoot r vL vK, b < w.heap.size := by
  intro b hb
  rcases mem_rfoot.1 hb with rfl | hb | hb
  · exact block_lt h.ref
  · obtain ⟨c, hc⟩ := own_tag h.row hb; exact block_lt hc
  · obtain ⟨c, hc⟩ := own_tag h.kept hb; exact block_lt hc
theorem RefAt.keeps (h : RefAt w r vL vK ks D) (k : Keeps w w') : RefAt w' r vL vK ks D := h.local fun b hb => k.block b (h.lt b hb)
theorem RefAt.r_ne (h : RefAt w r vL vK ks D) : vL.ownBlock ≠ some r ∧ vK.ownBlock ≠ some r := by
  refine ⟨fun e => ?_, fun e => ?_⟩
  · obtain ⟨c, hc⟩ := own_tag h.row e; exact tag_ne hc h.ref (by decide) rfl
  · obtain ⟨c, hc⟩ := own_tag h.kept e; exact tag_ne hc h.ref (by decide) rfl
theorem RefAt.cells (h : RefAt w r vL vK ks D) : w.cell? ⟨r, 0, none⟩ = some (.int .i64 (D.cap : Int)) ∧ w.cell? ⟨r, 1, none⟩ = some vL ∧ w.cell? ⟨r, 2, none⟩ = some (.bool (!D.up)) ∧ w.cell? ⟨r, 3, none⟩ = some (.int .i64 D.starts) ∧
    w.cell? ⟨r, 4, none⟩ = some (.int .i64 (failsN D.fail : Int)) ∧ w.cell? ⟨r, 5, none⟩ = some vK ∧ ∀ i, w.frozen? ⟨r, i, none⟩ = false := by
  have c := fun i => Joins.cell_of_block h.ref i
  exact ⟨c 0, c 1, c 2, c 3, c 4, c 5, fun i => Joins.unfrozen_of_block h.ref i⟩
/-- The struct has turned, and perhaps the rows, which are new then. -/
theorem RefAt.turn {vL' vK' : Value} {ks' : List Int} {D' : DiskM} (hr : w'.heap[r]? = some (.cells (refCells vL' vK' D') tRf (0, 0))) (hL : w'.ownsRow 0 tFr 3 vL' D'.files.length (rcells D'.files)) (hK : w'.ownsRow 0 tI 1 vK' ks'.length (ivs ks'))
    (hf : D'.fail = none ∨ ∃ a, D'.fail = some (a, ks') ∧ a ≤ 1099511627776) (ho : Okay D') : RefAt w' r vL' vK' ks' D' := ⟨hr, hL, hK, hf, ho⟩
theorem IsRef.keeps {G : List Nat} (h : IsRef w r D G) (k : Keeps w w') : IsRef w' r D G := by
  obtain ⟨vL, vK, ks, h1, h2⟩ := h
  exact ⟨vL, vK, ks, h1.keeps k, h2⟩
theorem IsRef.local {G : List Nat} (h : IsRef w r D G) (k : ∀ b ∈ G, w'.heap[b]? = w.heap[b]?) : IsRef w' r D G := by
  obtain ⟨vL, vK, ks, h1, rfl⟩ := h
  exact ⟨vL, vK, ks, h1.local k, rfl⟩
theorem IsRef.lt {G : List Nat} (h : IsRef w r D G) : ∀ b ∈ G, b < w.heap.size := by
  obtain ⟨vL, vK, ks, h1, rfl⟩ := h
  exact h1.lt
theorem IsRef.mem {G : List Nat} (h : IsRef w r D G) : r ∈ G := by
  obtain ⟨vL, vK, ks, h1, rfl⟩ := h
  simp [rfoot]
theorem RGoes.out {G : List Nat} {D' : DiskM} (g : RGoes w w' G r D') (h : IsRef w r D G) : ∃ G', IsRef w' r D' G' ∧ Frame G w w' ∧ ∀ b ∈ G', b ∈ G ∨ w.heap.size ≤ b := by
  obtain ⟨G', g1, g2, g3⟩ := g
  exact ⟨G', g1, g2.mono fun x hx => by simp at hx; subst hx; exact h.mem, g3⟩
theorem RGoes.same {G : List Nat} (h : IsRef w r D G) (k : Keeps w w') : RGoes w w' G r D := ⟨G, h.keeps k, Frame.of_keeps k [r], fun b hb => Or.inl hb⟩
theorem rgoes_mk {vL' vK' : Value} {ks' : List Int} {D' : DiskM} (h : RefAt w' r vL' vK' ks' D') (hf : Frame [r] w w') (hL : ∀ b, vL'.ownBlock = some b → b ∈ rfoot r vL vK ∨ w.heap.size ≤ b) (hK : ∀ b, vK'.ownBlock = some b → b ∈ rfoot r vL vK ∨ w.heap.size ≤ b) : RGoes w w' (rfoot r vL vK) r D' := by
  refine ⟨_, ⟨vL', vK', ks', h, rfl⟩, hf, fun b hb => ?_⟩
  rcases mem_rfoot.1 hb with rfl | hb | hb
  · exact Or.inl (by simp [rfoot])
  · exact hL b hb
  · exact hK b hb
end

/-! ### Find, Free -/
def posF (l : List FileM) (n : Int) : Option Nat := l.findIdx? fun f => f.n == n
theorem pos_some {l : List FileM} {n : Int} {i : Nat} (h : posF l n = some i) : ∃ f, l[i]? = some f ∧ f.n = n ∧ findF l n = some f := by
  unfold posF at h
  obtain ⟨hi, hp, hq⟩ := List.findIdx?_eq_some_iff_getElem.1 h
  refine ⟨l[i], List.getElem?_eq_getElem hi, by simpa using hp, ?_⟩
  unfold findF
  rw [List.find?_eq_some_iff_getElem]
  exact ⟨hp, i, hi, rfl, fun j hj => by simpa using hq j hj⟩
theorem pos_none {l : List FileM} {n : Int} (h : posF l n = none) : findF l n = none := by
  unfold posF at h
  rw [List.findIdx?_eq_none_iff] at h
  exact List.find?_eq_none.2 fun f hf => by simpa using h f hf
theorem pos_at {l : List FileM} {n : Int} {i : Nat} {f : FileM} (hi : l[i]? = some f) (hn : f.n = n) (hall : ∀ j g, j < i → l[j]? = some g → g.n ≠ n) : posF l n = some i := by
  unfold posF
  obtain ⟨hl, rfl⟩ := List.getElem?_eq_some_iff.1 hi
  rw [List.findIdx?_eq_some_iff_getElem]
  exact ⟨hl, by simpa using hn, fun j hj => by simpa using hall j _ hj (List.getElem?_eq_getElem (by omega))⟩
def posI (o : Option Nat) : Int := match o with | some i => (i : Int) | none => -1
set_option maxHeartbeats 1000000 in
theorem rfind_any (r : Nat) (vL vK : Value) (ks : List Int) (D : DiskM) (n : Int) (w : World) (h : RefAt w r vL vK ks D) :
    Calls Tryz.prog 24 #[ptrV r, .int .i64 n] w fun e w' => e = .returned (.int .i64 (posI (posF D.files n))) ∧ w = w' := by
  obtain ⟨c0, c1, c2, c3, c4, c5, fz⟩ := h.cells
  have hmany := h.okay.many
  obtain ⟨p, c, rfl, _, lL, hL⟩ := own_files h.row
  obtain ⟨N, hN⟩ : ∃ N, D.files.length = N := ⟨_, rfl⟩
  have HL := Lib.hid hL
  have HN := Lib.hid hN
  rw [hN] at c1 hmany
  clear h c0 c2 c3 c4 c5 fz hL hN lL
  unfold ptrV
  go_enter Tryz.func24, Tryz.ntmps24
  go_wp2
  go_loop [5] (fun i => ∃ k : Nat, k ≤ N ∧ i = .int .i64 (k : Int) ∧ ∀ j g, j < k → D.files[j]? = some g → g.n ≠ n) (fun i => N - (intOf i).toNat)
  case atStart => exact ⟨0, by omega, rfl, fun j g hj => by omega⟩
  case round =>
    obtain ⟨k, hk, rfl, hall⟩ := hrel
    have HA := Lib.hid hall
    clear hall
    by_cases hlt : k < N
    · obtain ⟨f, hf⟩ : ∃ f, D.files[k]? = some f := ⟨_, List.getElem?_eq_getElem (by have := HN.out; omega)⟩
      obtain ⟨a, rfl, q0, _, _⟩ := HL.out k f hf
      have hi1 : (k : Int) < (N : Int) := by omega
      have HF := Lib.hid hf
      obtain ⟨m, hm⟩ : ∃ m, f.n = m := ⟨_, rfl⟩
      rw [hm] at q0
      have HM := Lib.hid hm
      clear hf hm
      by_cases hmn : m = n
      · subst hmn
        have H := Lib.hid (show posF D.files m = some k from pos_at HF.out HM.out HA.out)
        go_wp2
        go_ret
        exact ⟨ret_int (by rw [H.out]; rfl), rfl⟩
      · have t : (m == n) = false := by simpa using hmn
        have H := Lib.hid (show ∀ j g, j < k + 1 → D.files[j]? = some g → g.n ≠ n from fun j g hj hg => by
          by_cases e : j = k
          · subst e
            rw [HF.out] at hg
            cases hg
            rw [HM.out]; exact hmn
          · exact HA.out j g (by omega) hg)
        clear hmn
        go_wp2
        go_round
        case rel => exact ⟨k + 1, by omega, by go_num, H.out⟩
        case measure => simp [intOf]; omega
    · obtain rfl : k = N := by omega
      have hz : ¬ ((k : Int) < (k : Int)) := by omega
      have H := Lib.hid (show posF D.files n = none by
        unfold posF
        rw [List.findIdx?_eq_none_iff]
        intro f hf
        obtain ⟨j, hj⟩ := List.mem_iff_getElem?.1 hf
        have := HA.out j f (by have := (List.getElem?_eq_some_iff.1 hj).1; have := HN.out; omega) hj
        simpa using this)
      go_wp2
      go_ret
      exact ⟨ret_int (by rw [H.out]; rfl), rfl⟩
set_option maxHeartbeats 1000000 in
theorem rfree_any (r : Nat) (vL vK : Value) (ks : List Int) (D : DiskM) (w : World) (h : RefAt w r vL vK ks D) :
    Calls Tryz.prog 29 #[ptrV r] w fun e w' => e = .returned (.int .i64 D.free) ∧ w = w' := by
  obtain ⟨c0, c1, c2, c3, c4, c5, fz⟩ := h.cells
  have hmany := h.okay.many
  have hcap := h.okay.cap
  have hroom := h.okay.room
  obtain ⟨p, c, rfl, _, lL, hL⟩ := own_files h.row
  obtain ⟨N, hN⟩ : ∃ N, D.files.length = N := ⟨_, rfl⟩
  obtain ⟨C, hC⟩ : ∃ C, D.cap = C := ⟨_, rfl⟩
  obtain ⟨U, hU⟩ : ∃ U, used D.files = U := ⟨_, rfl⟩
  have HL := Lib.hid hL
  have HN := Lib.hid hN
  have HU := Lib.hid hU
  have HE := Lib.hid (show D.free = (C : Int) - (U : Int) by unfold DiskM.free; rw [hC, hU])
  rw [hN] at c1 hmany
  rw [hC] at c0 hcap hroom
  rw [hU] at hroom
  clear h c2 c3 c4 c5 fz hL hN lL hC hU
  unfold ptrV
  go_enter Tryz.func29, Tryz.ntmps29
  go_wp2
  go_loop [3, 4] (fun v i => ∃ k S : Nat, k ≤ N ∧ i = .int .i64 (k : Int) ∧ v = .int .i64 ((C : Int) - (S : Int)) ∧ S ≤ U ∧ S = used (D.files.take k)) (fun _ i => N - (intOf i).toNat)
  case atStart => exact ⟨0, 0, by omega, rfl, by simp, by omega, rfl⟩
  case round =>
    obtain ⟨k, S, hk, rfl, rfl, hS, hsum⟩ := hrel
    have HS := Lib.hid hsum
    clear hsum
    by_cases hlt : k < N
    · obtain ⟨f, hf⟩ : ∃ f, D.files[k]? = some f := ⟨_, List.getElem?_eq_getElem (by have := HN.out; omega)⟩
      obtain ⟨a, rfl, _, q1, _⟩ := HL.out k f hf
      have hi1 : (k : Int) < (N : Int) := by omega
      have hap : ∀ a b : List FileM, used (a ++ b) = used a + used b := fun a b => by simp [used]
      have hst : used (D.files.take (k + 1)) = S + f.data.length := by
        rw [List.take_add_one, hf, hap, HS.out]; simp [used]
      have hle : S + f.data.length ≤ U := by
        rw [← hst, ← HU.out]
        have h1 : used (D.files.take (k + 1)) + used (D.files.drop (k + 1)) = used D.files := by rw [← hap, List.take_append_drop]
        omega
      obtain ⟨T, hT⟩ : ∃ T : ByteArray, (⟨f.data.toArray⟩ : ByteArray) = T := ⟨_, rfl⟩
      have hTs : T.size = f.data.length := by rw [← hT, size_mk]
      have HST := Lib.hid (show S + T.size = used (D.files.take (k + 1)) by rw [hst, hTs])
      have hle2 : S + T.size ≤ U := by rw [hTs]; exact hle
      unfold sv at q1
      rw [hT] at q1
      clear hf hst hle hTs hT hap
      go_wp2
      go_round
      case rel => exact ⟨k + 1, S + T.size, by omega, by go_num, by go_num, hle2, HST.out⟩
      case measure => simp [intOf]; omega
    · obtain rfl : k = N := by omega
      have hz : ¬ ((k : Int) < (k : Int)) := by omega
      have H := Lib.hid (show S = U by rw [HS.out, List.take_of_length_le (by rw [HN.out]; exact Nat.le_refl _), HU.out])
      go_wp2
      go_ret
      exact ⟨ret_int (by rw [HE.out, H.out]), rfl⟩
end Go.Proofs.YtlaepdpgegoopaaGreat
namespace Go.Proofs.YtlaepdpgegoopaaGreat
open Go.ChangeShapes Go.WideShapes Go.ChangeAt Go.RowKit Go.Maps Csv Dk

/-! ### The simple calls -/
theorem rnew_no (n : Int) (w : World) (h : n < 0 ∨ 1048576 < n) : Calls Tryz.prog 6 #[.int .i64 n] w fun e w' => e = .returned (.tuple #[.pointer none, .int .i64 2]) ∧ w = w' := by
  by_cases h1 : n < 0
  · have t1 : decide (n < 0) = true := decide_eq_true h1
    clear h
    go_enter Tryz.func6, Tryz.ntmps6
    go_wp2
    go_ret2
    exact ⟨rfl, rfl⟩
  · have t1 : decide (n < 0) = false := decide_eq_false h1
    have t2 : decide (1048576 < n) = true := decide_eq_true (by omega)
    clear h
    go_enter Tryz.func6, Tryz.ntmps6
    go_wp2
    go_ret2
    exact ⟨rfl, rfl⟩
theorem rnew_any (n : Nat) (w : World) (h : n ≤ 1048576) : Calls Tryz.prog 6 #[.int .i64 (n : Int)] w fun e w' => ∃ r G, e = .returned (.tuple #[ptrV r, .int .i64 0]) ∧ IsRef w' r (newD n) G ∧ Keeps w w' ∧ ∀ b ∈ G, w.heap.size ≤ b := by
  have t1 : decide ((n : Int) < 0) = false := decide_eq_false (by omega)
  have t2 : decide (1048576 < (n : Int)) = false := decide_eq_false (by omega)
  have key : IsRef (w.alloc (.cells #[.int .i64 (n : Int), .slice none 0 0, .bool false, .int .i64 0, .int .i64 0, .slice none 0 0] tRf)) w.heap.size (newD n) [w.heap.size] :=
    ⟨.slice none 0 0, .slice none 0 0, [], ⟨heap_alloc_new w _, World.ownsRow_nil _ _ _ _, World.ownsRow_nil _ _ _ _, Or.inl rfl, Okay.new h⟩, rfl⟩
  have KEY := Lib.hid key
  clear key
  go_enter Tryz.func6, Tryz.ntmps6
  go_wp2
  go_ret2
  exact ⟨_, _, rfl, KEY.out, keeps_lit _ _, fun b hb => by simp at hb; omega⟩
end Go.Proofs.YtlaepdpgegoopaaGreat
namespace Go.Proofs.YtlaepdpgegoopaaGreat
open Go.ChangeShapes Go.WideShapes Go.ChangeAt Go.RowKit Go.Maps Csv Dk

/-- 'append' in a region that draws its order, whose run is known. -/
theorem step_append_known {P : Program} {w : World} {ops : Array Oper} {o : Oper} {a : Act} {K : Act → World → Prop} {Q : Exit → Act → World → Prop} {E : Prop} (hgd : o.guard = none) (sl x : Operand) (t u : TypeId)
    (ho : o.op = .call { callee := .builtin .append, args := #[sl, x], argTypes := #[t, u] }) (v y v' : Value) (w' : World) (hs : a.eval sl = v) (hx : a.eval x = y)
    (hr : (Builtin.append_ #[t, u] o.type #[v, y]).run P w = .ok v' w') (h : K (a.put o.dst v') w') : if Region.wanted o (yielded ops a.tmps) = true then Oper.wp P o a w K Q else E := by
  have hw : Region.wanted o (yielded ops a.tmps) = true := by simp [Region.wanted, hgd]
  rw [if_pos hw]
  unfold Oper.wp execOp
  simp only [ho, resolve, invoke, builtin, Sem.run_bind, Sem.run_pure, Result.andThen_ok, List.map_toArray, List.map_cons, List.map_nil, hs, hx, hr]
  exact h

theorem info_fr : (Tryz.prog.info? tFr).map (fun i => (i.zero, i.size, i.bytes)) = some (some (.agg #[.int .i64 0, .string ⟨#[]⟩, .int .i64 0]), 3, 32) := by kernel_rfl
theorem fcells_one (l : List FileM) : ∀ u ∈ rcells l, u.oneCell' = true := by
  intro u hu
  obtain ⟨f, _, hu⟩ := List.mem_flatMap.1 hu
  simp only [fcells, List.mem_cons, List.not_mem_nil, or_false] at hu
  rcases hu with rfl | rfl | rfl <;> rfl
/-- Files that are read from a place on. -/
def Src (w : World) (v : Value) (L : List FileM) : Prop := ∃ p c, v = .slice p L.length c ∧ (p = none → L = [] ∧ c = 0) ∧ ∀ a, p = some a → ∀ j u, (rcells L)[j]? = some u → w.cell? (a.add j) = some u
theorem Src.keeps {w w' : World} {v : Value} {L : List FileM} (h : Src w v L) (k : Keeps w w') : Src w' v L := by
  obtain ⟨p, c, h1, h2, h3⟩ := h
  exact ⟨p, c, h1, h2, fun a ha j u hu => cell_keeps k (h3 a ha j u hu)⟩
theorem own_src {w : World} {B : Nat} {v : Value} {L : List FileM} (h : w.ownsRow B tFr 3 v L.length (rcells L)) : Src w v L := by
  have hh := h
  rcases h.2 with ⟨rfl, h0⟩ | ⟨g, cap, cur, rfl, hb, hg, r1, r2, r3, r4⟩
  · exact ⟨none, 0, by rw [h0], fun _ => ⟨List.length_eq_zero_iff.1 h0, rfl⟩, fun a ha => by cases ha⟩
  · exact ⟨_, cap, rfl, (fun e => by cases e), fun a ha j u hu => by cases ha; exact hh.cells rfl j u hu⟩
theorem app_row (w : World) (B : Nat) (v : Value) (L : List FileM) (src : Value) (M : List FileM) (hown : w.ownsRow B tFr 3 v L.length (rcells L)) (hs : Src w src M) (hn : L.length + M.length ≤ 1000) (hB : B ≤ w.heap.size) :
    ∃ p' c' w', (Builtin.append_ #[tFs, tFs] tFs #[v, src]).run Tryz.prog w = .ok (.slice p' (L.length + M.length) c') w' ∧ w'.ownsRow B tFr 3 (.slice p' (L.length + M.length) c') (L ++ M).length (rcells (L ++ M)) ∧ w.grownBy w' v.ownBlock := by
  obtain ⟨i, hi, hz, hsz, hb⟩ := info_parts info_fr
  obtain ⟨p, c, rfl, h1, h2⟩ := hs
  cases p with
  | none =>
    obtain ⟨rfl, rfl⟩ := h1 rfl
    have hr := run_append_owned_none (P := Tryz.prog) w B tFs tFs tFr i 3 Tryz.underlying56 hi v L.length (rcells L) hown
    obtain ⟨p', c', rfl⟩ : ∃ p c, v = .slice p L.length c := by
      rcases hown.2 with ⟨rfl, h0⟩ | ⟨g, cap, cur, rfl, _⟩
      · exact ⟨none, 0, by rw [h0]⟩
      · exact ⟨_, _, rfl⟩
    exact ⟨p', c', w, hr, by simpa using hown, ⟨rfl, rfl, rfl, Nat.le_refl _, fun _ _ _ => rfl⟩⟩
  | some a =>
    obtain ⟨v', w', q1, q2, q3, _⟩ := run_append_own (P := Tryz.prog) w B tFs tFs tFr i _ 3 32 Tryz.underlying56 hi hz hsz hb rfl (by omega) v L.length (rcells L) hown a M.length c (rcells M) (rcells_len M) (h2 a rfl) (fcells_one M) (by unfold maxLen; omega) (by omega) hB
    obtain ⟨p', c', rfl⟩ : ∃ p c, v' = .slice p (L.length + M.length) c := by
      rcases q2.2 with ⟨rfl, h0⟩ | ⟨g, cap, cur, rfl, _⟩
      · exact ⟨none, 0, by rw [h0]⟩
      · exact ⟨_, _, rfl⟩
    exact ⟨p', c', w', q1, by rw [rcells_app, List.length_append]; exact q2, q3⟩
theorem shape3 {w : World} {B : Nat} {e : TypeId} {sz : Nat} {v : Value} {n : Nat} {xs : List Value} (h : w.ownsRow B e sz v n xs) : ∃ p c, v = .slice p n c := by
  rcases h.2 with ⟨rfl, rfl⟩ | ⟨g, cap, cur, rfl, _⟩
  · exact ⟨_, _, rfl⟩
  · exact ⟨_, _, rfl⟩
/-- A copy of a row. -/
theorem copy_row (w : World) (src : Value) (M : List FileM) (hs : Src w src M) (hn : M.length ≤ 1000) :
    ∃ p' c' w', (Builtin.append_ #[tFs, tFs] tFs #[.slice none 0 0, src]).run Tryz.prog w = .ok (.slice p' M.length c') w' ∧ w'.ownsRow w.heap.size tFr 3 (.slice p' M.length c') M.length (rcells M) ∧ Keeps w w' := by
  obtain ⟨p', c', w', q1, q2, q3⟩ := app_row w w.heap.size (.slice none 0 0) [] src M (World.ownsRow_nil _ _ _ _) hs (by simpa using hn) (Nat.le_refl _)
  simp only [List.length_nil, Nat.zero_add, List.nil_append] at q1 q2
  exact ⟨p', c', w', q1, q2, ⟨q3.os, q3.tape, q3.output, q3.size, fun i hi => q3.block i hi (by simp [Value.ownBlock])⟩⟩

/-! ### fails -/
section
variable {w w' : World} {r : Nat} {vL vK : Value} {ks : List Int} {D : DiskM}
theorem rfails_no (h : RefAt w r vL vK ks D) (hc : D.count.1 = 0) : Calls Tryz.prog 25 #[ptrV r] w fun e w' => e = .returned (.bool false) ∧ RefAt w' r vL vK ks D.count.2 ∧ w.grownBy w' (some r) := by
  obtain ⟨c0, c1, c2, c3, c4, c5, fz⟩ := h.cells
  have f4 := fz 4
  rcases h.fail with hf | ⟨a, hf, ha⟩
  · have e : D.count = (0, D) := by unfold DiskM.count; rw [hf]
    rw [e]
    have c4' : w.cell? ⟨r, 4, none⟩ = some (.int .i64 0) := by rw [c4, hf]; rfl
    have H := Lib.hid h
    clear h hc e hf c0 c1 c2 c3 c4 c5 fz f4
    unfold ptrV
    go_enter Tryz.func25, Tryz.ntmps25
    go_wp2
    go_ret
    exact ⟨rfl, H.out, rfl, rfl, rfl, Nat.le_refl _, fun _ _ _ => rfl⟩
  · cases a with
    | zero => exfalso; unfold DiskM.count at hc; rw [hf] at hc; simp at hc
    | succ a =>
      have e : D.count = (0, ⟨D.cap, D.files, D.up, D.starts, some (a, ks)⟩) := by unfold DiskM.count; rw [hf]
      have c4' : w.cell? ⟨r, 4, none⟩ = some (.int .i64 ((a + 2 : Nat) : Int)) := by rw [c4, hf]; rfl
      have key : ∀ w4, w4 = w.setCell ⟨r, 4, none⟩ (.int .i64 ((a + 1 : Nat) : Int)) → RefAt w4 r vL vK ks D.count.2 ∧ w.grownBy w4 (some r) := by
        rintro w4 rfl
        have b1 := Joins.block_setCell (i := 4) h.ref (.int .i64 ((a + 1 : Nat) : Int))
        have o : ∀ b, b ≠ r → (w.setCell ⟨r, 4, none⟩ (.int .i64 ((a + 1 : Nat) : Int))).heap[b]? = w.heap[b]? := fun b hb => Below.heap_setCell _ _ _ _ hb
        have hok := h.okay.count
        rw [e] at hok ⊢
        exact ⟨RefAt.turn (by rw [b1]; rfl) (own_local h.row fun g hg => o g fun e => h.r_ne.1 (e ▸ hg)) (own_local h.kept fun g hg => o g fun e => h.r_ne.2 (e ▸ hg)) (Or.inr ⟨a, rfl, by omega⟩) hok, grown_setCell _ _ _ _⟩
      obtain ⟨x1, hx1⟩ : ∃ x1, a + 1 = x1 := ⟨_, rfl⟩
      obtain ⟨x2, hx2⟩ : ∃ x2, a + 2 = x2 := ⟨_, rfl⟩
      rw [hx1] at key
      rw [hx2] at c4'
      have KEY := Lib.hid key
      have t0 : ((x2 : Int) == 0) = false := by rw [beq_eq_false_iff_ne]; omega
      have t1 : (x2 : Int) - 1 = (x1 : Int) := by omega
      have t2 : ((x1 : Int) == 0) = false := by rw [beq_eq_false_iff_ne]; omega
      have ha2 : x2 ≤ 1099511627777 := by omega
      have ha3 : 1 ≤ x2 := by omega
      clear h hc e hf c0 c1 c2 c3 c4 c5 fz key ha hx1 hx2
      unfold ptrV
      go_enter Tryz.func25, Tryz.ntmps25
      go_wp2
      go_ret
      exact ⟨rfl, KEY.out _ rfl⟩
theorem rfails_yes (h : RefAt w r vL vK ks D) (hc : D.count.1 = 61) : D.count.2 = D.down ks ∧ Calls Tryz.prog 25 #[ptrV r] w fun e w' => e = .returned (.bool true) ∧ RefAt w' r vL vK ks ⟨D.cap, D.files, D.up, D.starts, none⟩ ∧ w.grownBy w' (some r) := by
  obtain ⟨c0, c1, c2, c3, c4, c5, fz⟩ := h.cells
  have f4 := fz 4
  rcases h.fail with hf | ⟨a, hf, ha⟩
  · exfalso; unfold DiskM.count at hc; rw [hf] at hc; simp at hc
  · cases a with
    | succ a => exfalso; unfold DiskM.count at hc; rw [hf] at hc; simp at hc
    | zero =>
      refine ⟨by unfold DiskM.count; rw [hf], ?_⟩
      have c4' : w.cell? ⟨r, 4, none⟩ = some (.int .i64 1) := by rw [c4, hf]; rfl
      have key : ∀ w4, w4 = w.setCell ⟨r, 4, none⟩ (.int .i64 0) → RefAt w4 r vL vK ks ⟨D.cap, D.files, D.up, D.starts, none⟩ ∧ w.grownBy w4 (some r) := by
        rintro w4 rfl
        have b1 := Joins.block_setCell (i := 4) h.ref (.int .i64 0)
        have o : ∀ b, b ≠ r → (w.setCell ⟨r, 4, none⟩ (.int .i64 0)).heap[b]? = w.heap[b]? := fun b hb => Below.heap_setCell _ _ _ _ hb
        have ho := h.okay
        exact ⟨RefAt.turn (by rw [b1]; rfl) (own_local h.row fun g hg => o g fun e => h.r_ne.1 (e ▸ hg)) (own_local h.kept fun g hg => o g fun e => h.r_ne.2 (e ▸ hg)) (Or.inl rfl) ⟨ho.cap, ho.many, ho.rising, ho.nums, ho.sure, ho.room, (fun a ks h => by cases h)⟩, grown_setCell _ _ _ _⟩
      have KEY := Lib.hid key
      clear h hc hf c0 c1 c2 c3 c4 c5 fz key ha
      unfold ptrV
      go_enter Tryz.func25, Tryz.ntmps25
      go_wp2
      go_ret
      exact ⟨rfl, KEY.out _ rfl⟩
end

/-! ### with -/
theorem rcells_set {L : List FileM} {i : Nat} (f : FileM) (hi : i < L.length) : rcells (L.set i f) = (((rcells L).set (i * 3) (.int .i64 f.n)).set (i * 3 + 1) (sv f.data)).set (i * 3 + 2) (.int .i64 (f.sure : Int)) := by
  apply List.ext_getElem?
  intro k
  have hlen : (rcells L).length = L.length * 3 := rcells_len L
  have hlen2 : (rcells (L.set i f)).length = L.length * 3 := by rw [rcells_len, List.length_set]
  by_cases hk : k < L.length * 3
  · obtain ⟨j, q, hj, hq, rfl⟩ : ∃ j q, j < L.length ∧ q < 3 ∧ k = j * 3 + q := ⟨k / 3, k % 3, by omega, by omega, by omega⟩
    by_cases hij : j = i
    · subst hij
      rw [rcells_at (f := f) (by simp [hi]) q hq]
      have h0 : j * 3 < (rcells L).length := by omega
      have hq' : q = 0 ∨ q = 1 ∨ q = 2 := by omega
      rcases hq' with rfl | rfl | rfl
      · simp [fcells, h0]
      · simp [List.getElem?_set, fcells]; omega
      · simp [List.getElem?_set, fcells]; omega
    · obtain ⟨g, hg⟩ : ∃ g, L[j]? = some g := ⟨_, List.getElem?_eq_getElem hj⟩
      rw [rcells_at (f := g) (by rw [List.getElem?_set_ne (by omega)]; exact hg) q hq, ← rcells_at hg q hq]
      rw [List.getElem?_set_ne (by omega), List.getElem?_set_ne (by omega), List.getElem?_set_ne (by omega)]
  · rw [List.getElem?_eq_none (by omega), List.getElem?_eq_none (by simp; omega)]

theorem row_three {W W' : World} {B g c i : Nat} {L : List FileM} {f : FileM} (h : W.ownsRow B tFr 3 (.slice (some ⟨g, 0, none⟩) L.length c) L.length (rcells L)) (hi : i < L.length)
    (hW : W'.heap[g]? = (((W.setCell ⟨g, i * 3, none⟩ (.int .i64 f.n)).setCell ⟨g, i * 3 + 1, none⟩ (sv f.data)).setCell ⟨g, i * 3 + 2, none⟩ (.int .i64 (f.sure : Int))).heap[g]?) :
    W'.ownsRow B tFr 3 (.slice (some ⟨g, 0, none⟩) L.length c) (L.set i f).length (rcells (L.set i f)) := by
  rcases h.2 with ⟨e, _⟩ | ⟨g', cap, cur, e, hb, hg, r1, r2, r3, r4⟩
  · cases e
  · cases e
    have b1 := Joins.block_setCell (i := i * 3) hg (.int .i64 f.n)
    have b2 := Joins.block_setCell (i := i * 3 + 1) b1 (sv f.data)
    have b3 := Joins.block_setCell (i := i * 3 + 2) b2 (.int .i64 (f.sure : Int))
    rw [b3] at hW
    refine ⟨by rw [rcells_len], Or.inr ⟨g, c, _, by rw [List.length_set], hb, hW, by rw [List.length_set]; exact r1, r2, by simpa using r3, ?_⟩⟩
    rw [rcells_set f hi, ← r4, List.length_set]
    simp only [Array.toList_setIfInBounds, List.take_set]
set_option maxRecDepth 100000 in
set_option maxHeartbeats 2000000 in
theorem rwith_any (r : Nat) (vL vK : Value) (ks : List Int) (D : DiskM) (i : Nat) (f : FileM) (w : World) (h : RefAt w r vL vK ks D) (hi : i < D.files.length) (ho : Okay (D.put (D.files.set i f))) :
    Calls Tryz.prog 30 #[ptrV r, .int .i64 (i : Int), .agg #[.int .i64 f.n, sv f.data, .int .i64 (f.sure : Int)]] w fun e w' => e = .returned (.tuple #[]) ∧ ∃ vL', RefAt w' r vL' vK ks (D.put (D.files.set i f)) ∧ Frame [r] w w' ∧ ∀ b, vL'.ownBlock = some b → w.heap.size ≤ b := by
  have hmany := h.okay.many
  have hrlt := block_lt h.ref
  obtain ⟨pL, cL, rfl⟩ := shape3 h.row
  obtain ⟨W0, hW0⟩ : ∃ W0, w.alloc (.cells #[.int .i64 f.n, sv f.data, .int .i64 (f.sure : Int)] tFr) = W0 := ⟨_, rfl⟩
  have hk0 : Keeps w W0 := by rw [← hW0]; exact keeps_lit _ _
  have h0 := h.keeps hk0
  obtain ⟨_, cw1, _⟩ := h.cells
  obtain ⟨p', c', W1, q1, q2, q3⟩ := copy_row W0 _ D.files (own_src h0.row) (by omega)
  obtain ⟨g, hp⟩ : ∃ g, p' = some ⟨g, 0, none⟩ := by
    rcases q2.2 with ⟨e, e0⟩ | ⟨g, cap, cur, e, _⟩
    · omega
    · cases e; exact ⟨g, rfl⟩
  subst hp
  have hgB : W0.heap.size ≤ g := (q2.lt g rfl).1
  have hglt : g < W1.heap.size := (q2.lt g rfl).2
  have hB0 : W0.heap.size = w.heap.size + 1 := by rw [← hW0]; simp
  have h1 := h0.keeps q3
  obtain ⟨_, c1, _, _, _, _, fz⟩ := h0.cells
  obtain ⟨_, d1, _, _, _, _, fz1⟩ := h1.cells
  have f1 := fz1 1
  have b0 : W1.cell? ⟨w.heap.size, 0, none⟩ = some (.int .i64 f.n) ∧ W1.cell? ⟨w.heap.size, 1, none⟩ = some (sv f.data) ∧ W1.cell? ⟨w.heap.size, 2, none⟩ = some (.int .i64 (f.sure : Int)) := by
    have hb : W1.heap[w.heap.size]? = some (.cells #[.int .i64 f.n, sv f.data, .int .i64 (f.sure : Int)] tFr (0, 0)) := (q3.block _ (by omega)).trans (by rw [← hW0]; exact heap_alloc_new w _)
    exact ⟨Joins.cell_of_block hb 0, Joins.cell_of_block hb 1, Joins.cell_of_block hb 2⟩
  obtain ⟨N, hN⟩ : ∃ N, D.files.length = N := ⟨_, rfl⟩
  obtain ⟨y, hy⟩ : ∃ y, D.files[i]? = some y := ⟨_, List.getElem?_eq_getElem hi⟩
  have hold : ∀ q, q < 3 → W1.cell? ⟨g, i * 3 + q, none⟩ = (fcells y)[q]? ∧ W1.frozen? ⟨g, i * 3 + q, none⟩ = false := fun q hq => ⟨by rw [q2.cellAt (i * 3 + q) (by omega), rcells_at hy q hq], q2.frozenAt _⟩
  have o0 := hold 0 (by omega)
  have o1 := hold 1 (by omega)
  have o2 := hold 2 (by omega)
  rw [← hW0] at q1
  have Q1 := Lib.hid q1
  have Q2 := Lib.hid q2
  have HH := Lib.hid h1
  have HO := Lib.hid ho
  have K3 := Lib.hid q3
  have K0 := Lib.hid hk0
  have hgr : g ≠ r := by omega
  have hgw : g ≠ w.heap.size := by omega
  rw [hN] at Q1 hi cw1 d1
  have hi1 : (i : Int) < (N : Int) := by omega
  simp only [fcells, List.getElem?_cons_zero, List.getElem?_cons_succ, Nat.add_zero] at o0 o1 o2
  obtain ⟨o0, o0f⟩ := o0
  obtain ⟨o1, o1f⟩ := o1
  obtain ⟨o2, o2f⟩ := o2
  obtain ⟨b00, b01, b02⟩ := b0
  have HN := Lib.hid hN
  clear q1 q2 q3 hk0 h h0 h1 ho hold hmany fz fz1 hy hN hW0 c1
  unfold ptrV
  go_enter Tryz.func30, Tryz.ntmps30
  go_wp2_with (at_builtin; refine wpList_append_known rfl _ _ _ _ rfl _ _ _ _ rfl rfl Q1.out ?_)
  obtain ⟨W2, hW2⟩ : ∃ W2, W1.setCell ⟨r, 1, none⟩ (.slice (some ⟨g, 0, none⟩) N c') = W2 := ⟨_, rfl⟩
  rw [hW2]
  have far : ∀ b j, b ≠ r → W2.cell? ⟨b, j, none⟩ = W1.cell? ⟨b, j, none⟩ := fun b j hb => by rw [← hW2]; exact World.cell?_of_block (Below.heap_setCell _ _ _ _ hb)
  have farf : ∀ b j, b ≠ r → W2.frozen? ⟨b, j, none⟩ = W1.frozen? ⟨b, j, none⟩ := fun b j hb => by rw [← hW2]; exact World.frozen?_of_block (Below.heap_setCell _ _ _ _ hb)
  rw [← far _ _ hgr] at o0 o1 o2
  rw [← farf _ _ hgr] at o0f o1f o2f
  have hwr : w.heap.size ≠ r := by omega
  rw [← far _ _ hwr] at b00 b01 b02
  have e1 : W2.cell? ⟨r, 1, none⟩ = some (.slice (some ⟨g, 0, none⟩) N c') := by
    rw [← hW2]; exact World.cell?_setCell_same W1 _ _ d1
  have HW2 := Lib.hid hW2
  clear hW2 far farf d1 f1
  go_region
  go_end0
  refine ⟨rfl, .slice (some ⟨g, 0, none⟩) N c', ?_, ?_, fun b hb => by cases hb; show w.heap.size ≤ g; omega⟩
  · have hNN := HN.out
    have q2 := Q2.out
    have blk2 : ∀ b, b ≠ r → W2.heap[b]? = W1.heap[b]? := fun b hb => by rw [← HW2.out]; exact Below.heap_setCell _ _ _ _ hb
    have row2 : W2.ownsRow W0.heap.size tFr 3 (.slice (some ⟨g, 0, none⟩) D.files.length c') D.files.length (rcells D.files) := own_local q2 fun b hb => by cases hb; exact blk2 g hgr
    have row3 := row_three (f := f) row2 (by rw [hNN]; exact hi) (W' := (((W2.setCell ⟨g, i * 3, none⟩ (.int .i64 f.n)).setCell ⟨g, i * 3 + 1, none⟩ (sv f.data)).setCell ⟨g, i * 3 + 2, none⟩ (.int .i64 (f.sure : Int))).drew) rfl
    rw [hNN] at row3
    have o : ∀ b, b ≠ g → (((W2.setCell ⟨g, i * 3, none⟩ (.int .i64 f.n)).setCell ⟨g, i * 3 + 1, none⟩ (sv f.data)).setCell ⟨g, i * 3 + 2, none⟩ (.int .i64 (f.sure : Int))).drew.heap[b]? = W2.heap[b]? := fun b hb => by
      show (((W2.setCell ⟨g, i * 3, none⟩ (.int .i64 f.n)).setCell ⟨g, i * 3 + 1, none⟩ (sv f.data)).setCell ⟨g, i * 3 + 2, none⟩ (.int .i64 (f.sure : Int))).heap[b]? = _
      rw [Below.heap_setCell _ _ _ _ hb, Below.heap_setCell _ _ _ _ hb, Below.heap_setCell _ _ _ _ hb]
    have h1 := HH.out
    have b1 := Joins.block_setCell (i := 1) h1.ref (.slice (some ⟨g, 0, none⟩) N c')
    rw [HW2.out] at b1
    refine RefAt.turn (by rw [o r hgr.symm, b1]; rfl) (own_zero row3) (own_local h1.kept fun b hb => ?_) h1.fail HO.out
    have hbr : b ≠ r := fun e => h1.r_ne.2 (e ▸ hb)
    have hbg : b ≠ g := by
      obtain ⟨cc, hcc⟩ := own_tag h1.kept hb
      obtain ⟨cd, hcd⟩ := own_tag q2 (g := g) rfl
      exact tag_ne hcc hcd (by decide)
    rw [o b hbg, blk2 b hbr]
  · have k0 := K0.out
    have k3 := K3.out
    have e1 : w.heap.size ≤ W1.heap.size := Nat.le_trans k0.size k3.size
    refine ⟨?_, ?_, ?_, ?_, fun b hb hn => ?_⟩
    · show W2.os = w.os
      rw [← HW2.out]; exact k3.os.trans k0.os
    · show W2.tape = w.tape
      rw [← HW2.out]; exact k3.tape.trans k0.tape
    · show W2.output = w.output
      rw [← HW2.out]; exact k3.output.trans k0.output
    · have : W2.heap.size = W1.heap.size := by rw [← HW2.out]; simp
      simp [World.drew]
      omega
    · have hbg : b ≠ g := by omega
      have hbr : b ≠ r := by simpa using hn
      show (((W2.setCell ⟨g, i * 3, none⟩ (.int .i64 f.n)).setCell ⟨g, i * 3 + 1, none⟩ (sv f.data)).setCell ⟨g, i * 3 + 2, none⟩ (.int .i64 (f.sure : Int))).heap[b]? = _
      rw [Below.heap_setCell _ _ _ _ hbg, Below.heap_setCell _ _ _ _ hbg, Below.heap_setCell _ _ _ _ hbg, ← HW2.out, Below.heap_setCell _ _ _ _ hbr]
      exact (k3.block b (by omega)).trans (k0.block b hb)
end Go.Proofs.YtlaepdpgegoopaaGreat
namespace Go.Proofs.YtlaepdpgegoopaaGreat
open Go.ChangeShapes Go.WideShapes Go.ChangeAt Go.RowKit Go.Maps Csv Dk

theorem list_set_same {α : Type} {l : List α} {k : Nat} {x : α} (h : l[k]? = some x) : l.set k x = l := by
  apply List.ext_getElem?
  intro j
  rw [List.getElem?_set]
  split
  · rename_i e
    subst e
    have := (List.getElem?_eq_some_iff.1 h).1
    rw [h]
    first | rfl | rw [if_pos this]
  · rfl
theorem row_two {W W' : World} {B g c i : Nat} {L : List FileM} {f y : FileM} (h : W.ownsRow B tFr 3 (.slice (some ⟨g, 0, none⟩) L.length c) L.length (rcells L)) (hy : L[i]? = some y) (hn : f.n = y.n)
    (hW : W'.heap[g]? = ((W.setCell ⟨g, i * 3 + 1, none⟩ (sv f.data)).setCell ⟨g, i * 3 + 2, none⟩ (.int .i64 (f.sure : Int))).heap[g]?) :
    W'.ownsRow B tFr 3 (.slice (some ⟨g, 0, none⟩) L.length c) (L.set i f).length (rcells (L.set i f)) := by
  have hi : i < L.length := (List.getElem?_eq_some_iff.1 hy).1
  rcases h.2 with ⟨e, _⟩ | ⟨g', cap, cur, e, hb, hg, r1, r2, r3, r4⟩
  · cases e
  · cases e
    have b2 := Joins.block_setCell (i := i * 3 + 1) hg (sv f.data)
    have b3 := Joins.block_setCell (i := i * 3 + 2) b2 (.int .i64 (f.sure : Int))
    rw [b3] at hW
    refine ⟨by rw [rcells_len], Or.inr ⟨g, c, _, by rw [List.length_set], hb, hW, by rw [List.length_set]; exact r1, r2, by simpa using r3, ?_⟩⟩
    have hx : (rcells L)[i * 3]? = some (.int .i64 f.n) := by rw [hn]; exact rcells_at hy 0 (by omega)
    rw [rcells_set f hi, list_set_same hx, ← r4, List.length_set]
    simp only [Array.toList_setIfInBounds, List.take_set]

set_option maxRecDepth 100000 in
set_option maxHeartbeats 4000000 in
theorem rcrash_any (r : Nat) (vL vK : Value) (ks : List Int) (D : DiskM) (vA : Value) (ws : List Int) (w : World) (h : RefAt w r vL vK ks D) (hu : D.up = true) (hA : IntsAt w vA ws) :
    Calls Tryz.prog 59 #[ptrV r, vA] w fun e w' => e = .returned (.int .i64 0) ∧ ∃ vL', RefAt w' r vL' (.slice none 0 0) [] (D.down ws) ∧ Frame [r] w w' ∧ ∀ b, vL'.ownBlock = some b → w.heap.size ≤ b := by
  have hmany := h.okay.many
  have hrlt := block_lt h.ref
  obtain ⟨pL, cL, rfl⟩ := shape3 h.row
  obtain ⟨_, cw1, cw2, _, _, _, _⟩ := h.cells
  rw [hu] at cw2
  obtain ⟨p', c', W1, q1, q2, q3⟩ := copy_row w _ D.files (own_src h.row) (by omega)
  obtain ⟨pA, cA, rfl, lA, hAc⟩ := hA
  obtain ⟨N, hN⟩ : ∃ N, D.files.length = N := ⟨_, rfl⟩
  obtain ⟨M, hM⟩ : ∃ M, ws.length = M := ⟨_, rfl⟩
  have HN := Lib.hid hN
  have HM := Lib.hid hM
  have H := Lib.hid h
  have HAC := Lib.hid hAc
  have Q1 := Lib.hid q1
  have K3 := Lib.hid q3
  have Q2 : Hid (W1.ownsRow w.heap.size tFr 3 (.slice p' N c') N (rcells (downQ D ws 0))) := Lib.hid (by rw [downQ_zero, ← hN]; exact q2)
  rw [hN] at Q1 cw1 hmany
  rw [hM] at lA ⊢
  unfold maxLen at lA
  simp only [Bool.not_true] at cw2
  clear h q1 q2 q3 hAc hN hM hu
  unfold ptrV
  go_enter Tryz.func59, Tryz.ntmps59
  go_wp2_with (at_builtin; refine wpList_append_known rfl _ _ _ _ rfl _ _ _ _ rfl rfl Q1.out ?_)
  go_loopw [6] (fun vi wr => ∃ q : Nat, q ≤ N ∧ vi = .int .i64 (q : Int) ∧ wr.ownsRow w.heap.size tFr 3 (.slice p' N c') N (rcells (downQ D ws q)) ∧ Keeps w wr) (fun vi _ => N - (intOf vi).toNat)
  case atStart => exact ⟨0, by omega, rfl, Q2.out, K3.out⟩
  case round =>
    obtain ⟨q, hq, rfl, hrow, hkr⟩ := hrel
    have HROW := Lib.hid hrow
    have HKR := Lib.hid hkr
    by_cases hlt : q < N
    · obtain ⟨f, hf⟩ : ∃ f, D.files[q]? = some f := ⟨_, List.getElem?_eq_getElem (by have := HN.out; omega)⟩
      have hfq : (downQ D ws q)[q]? = some f := by rw [downQ_at (by have := HN.out; omega), if_neg (by omega)]; exact hf
      have hlenq : (downQ D ws q).length = N := by
        have := congrArg List.length (downQ_nums (D := D) (ks := ws) (q := q))
        simpa [numsF, HN.out] using this
      have hxf : f ∈ D.files := List.mem_of_getElem? hf
      have hs := H.out.okay.sure _ hxf
      have hlen : f.data.length ≤ 1048576 := by have := used_mem hxf; have := H.out.okay.room; have := H.out.okay.cap; omega
      obtain ⟨g, hp⟩ : ∃ g, p' = some ⟨g, 0, none⟩ := by
        rcases hrow.2 with ⟨e, e0⟩ | ⟨g, cap, cur, e, _⟩
        · omega
        · cases e; exact ⟨g, rfl⟩
      subst hp
      have hcell : ∀ j, j < 3 → wr.cell? ⟨g, q * 3 + j, none⟩ = (fcells f)[j]? ∧ wr.frozen? ⟨g, q * 3 + j, none⟩ = false := fun j hj => ⟨by rw [hrow.cellAt (q * 3 + j) (by omega), rcells_at hfq j hj], hrow.frozenAt _⟩
      obtain ⟨o0, _⟩ := hcell 0 (by omega)
      obtain ⟨o1, o1f⟩ := hcell 1 (by omega)
      obtain ⟨o2, o2f⟩ := hcell 2 (by omega)
      simp only [fcells, List.getElem?_cons_zero, List.getElem?_cons_succ, Nat.add_zero] at o0 o1 o2
      obtain ⟨T, hT⟩ : ∃ T : ByteArray, (⟨f.data.toArray⟩ : ByteArray) = T := ⟨_, rfl⟩
      have hTd : T.data.toList = f.data := by rw [← hT]
      have hTs : T.size = f.data.length := by rw [← hT, size_mk]
      unfold sv at o1
      rw [hT] at o1
      obtain ⟨S, hS⟩ : ∃ S, f.sure = S := ⟨_, rfl⟩
      rw [hS] at o2 hs
      obtain ⟨R, hR⟩ : ∃ R, stays ws[q]? f.loose = R := ⟨_, rfl⟩
      have hloose : f.loose = T.size - S := by unfold FileM.loose; rw [hS, hTs]
      obtain ⟨K, hK⟩ : ∃ K, S + R = K := ⟨_, rfl⟩
      have hRle : R ≤ T.size - S := by rw [← hR, ← hloose]; unfold stays; omega
      have hKT : K ≤ T.size := by omega
      obtain ⟨X, hX⟩ : ∃ X, T.extract 0 K = X := ⟨_, rfl⟩
      have hXd : X.data.toList = f.data.take K := by rw [← hX, ← ByteArray.toList_eq, extract_list, hTd]; simp
      have hXs : X.size = K := by rw [← len_data, hXd, List.length_take]; omega
      have hleft : f.left ws[q]? = ⟨f.n, X.data.toList, X.size⟩ := by
        unfold FileM.left
        rw [hS, hR, hK, hXd, List.length_take, hXs]
        congr 1
        omega
      have hT20 : T.size ≤ 1048576 := by omega
      have key : ∀ w4 : World, w4.heap[g]? = ((wr.setCell ⟨g, q * 3 + 1, none⟩ (.string X)).setCell ⟨g, q * 3 + 2, none⟩ (.int .i64 (X.size : Int))).heap[g]? → w4.ownsRow w.heap.size tFr 3 (.slice (some ⟨g, 0, none⟩) N c') N (rcells (downQ D ws (q + 1))) := by
        intro w4 hw4
        have hrow' : wr.ownsRow w.heap.size tFr 3 (.slice (some ⟨g, 0, none⟩) (downQ D ws q).length c') (downQ D ws q).length (rcells (downQ D ws q)) := by rw [hlenq]; exact hrow
        have := row_two (f := f.left ws[q]?) hrow' hfq rfl (W' := w4) (by rw [hleft]; unfold sv; rw [mk_data]; exact hw4)
        rw [← downQ_step hf] at this
        have hl2 : (downQ D ws (q + 1)).length = N := by
          have := congrArg List.length (downQ_nums (D := D) (ks := ws) (q := q + 1))
          simpa [numsF, HN.out] using this
        rw [hl2, hlenq] at this
        exact this
      have KEY := Lib.hid key
      have hge : w.heap.size ≤ g := (hrow.lt g rfl).1
      have keep : ∀ w4 : World, w4.heap = ((wr.setCell ⟨g, q * 3 + 1, none⟩ (.string X)).setCell ⟨g, q * 3 + 2, none⟩ (.int .i64 (X.size : Int))).heap → w4.os = wr.os → w4.tape = wr.tape → w4.output = wr.output → Keeps w w4 := by
        intro w4 e1 e2 e3 e4
        refine ⟨e2.trans hkr.os, e3.trans hkr.tape, e4.trans hkr.output, by rw [e1]; simpa using hkr.size, fun b hb => ?_⟩
        have hbg : b ≠ g := by omega
        rw [e1, Below.heap_setCell _ _ _ _ hbg, Below.heap_setCell _ _ _ _ hbg]
        exact hkr.block b hb
      have KEEP := Lib.hid keep
      clear keep
      have hways : (∃ kv ak, wr.cell? ((ak : Addr).add q) = some (iv kv) ∧ pA = some ak ∧ 0 < kv ∧ min kv ((T.size : Int) - (S : Int)) = (R : Int) ∧ decide (q < M) = true ∧ (q : Int) < (M : Int)) ∨ (∃ kv ak, wr.cell? ((ak : Addr).add q) = some (iv kv) ∧ pA = some ak ∧ decide (0 < kv) = false ∧ R = 0 ∧ decide (q < M) = true ∧ (q : Int) < (M : Int)) ∨ (R = 0 ∧ decide (q < M) = false) := by
        by_cases hqm : q < M
        · obtain ⟨kv, hkv⟩ : ∃ kv, ws[q]? = some kv := ⟨_, List.getElem?_eq_getElem (by have := HM.out; omega)⟩
          obtain ⟨ak, hak, hc⟩ := HAC.out q kv hkv
          have hst := hR
          rw [hkv] at hst
          unfold stays at hst
          simp only [Option.getD_some] at hst
          by_cases h0 : 0 < kv
          · exact Or.inl ⟨kv, ak, cell_keeps hkr hc, hak, h0, by omega, decide_eq_true hqm, by omega⟩
          · exact Or.inr (Or.inl ⟨kv, ak, cell_keeps hkr hc, hak, decide_eq_false h0, by omega, decide_eq_true hqm, by omega⟩)
        · have hno : ws[q]? = none := List.getElem?_eq_none (by have := HM.out; omega)
          rw [hno] at hR
          exact Or.inr (Or.inr ⟨by rw [← hR]; simp [stays], decide_eq_false hqm⟩)
      have hKi : (S : Int) + (R : Int) = (K : Int) := by omega
      have hKw : IntKind.i64.wrap (K : Int) = (K : Int) := IntWalk.i64_in _ (by omega)
      have hi1 : (q : Int) < (N : Int) := by omega
      have hgw : g < wr.heap.size := (hrow.lt g rfl).2
      clear hf hfq hlenq hxf hlen hcell hT hTd hTs hS hR hloose hK hXd hXs hleft key hrow hkr hRle
      rcases hways with ⟨kv, ak, hc, rfl, h0, hmn, t, hi2⟩ | ⟨kv, ak, hc, rfl, t0, rfl, t, hi2⟩ | ⟨rfl, t⟩
      · go_wp2
        go_quiet (fail)
        go_wp2
        go_region
        go_wp2
        go_roundw
        case rel => exact ⟨q + 1, by omega, by go_num, KEY.out _ rfl, KEEP.out _ rfl rfl rfl rfl⟩
        case measure => simp [intOf]; omega
      · have hKi0 : (S : Int) + 0 = (K : Int) := by omega
        go_wp2
        go_region
        go_wp2
        go_roundw
        case rel => exact ⟨q + 1, by omega, by go_num, KEY.out _ rfl, KEEP.out _ rfl rfl rfl rfl⟩
        case measure => simp [intOf]; omega
      · have hKi0 : (S : Int) + 0 = (K : Int) := by omega
        go_wp2
        go_region
        go_wp2
        go_roundw
        case rel => exact ⟨q + 1, by omega, by go_num, KEY.out _ rfl, KEEP.out _ rfl rfl rfl rfl⟩
        case measure => simp [intOf]; omega
    · obtain rfl : q = N := by omega
      have hz : ¬ ((q : Int) < (q : Int)) := by omega
      have hall : downQ D ws q = downL D.files ws := by rw [← HN.out]; exact downQ_all D ws
      have hr := H.out.keeps hkr
      obtain ⟨_, d1, d2, _, d4, d5, fz⟩ := hr.cells
      have f1 := fz 1
      have f2 := fz 2
      have f4 := fz 4
      have f5 := fz 5
      have key : ∀ w4 : World, w4 = (((wr.setCell ⟨r, 1, none⟩ (.slice p' q c')).setCell ⟨r, 2, none⟩ (.bool true)).setCell ⟨r, 4, none⟩ (.int .i64 0)).setCell ⟨r, 5, none⟩ (.slice none 0 0) → RefAt w4 r (.slice p' q c') (.slice none 0 0) [] (D.down ws) ∧ Frame [r] w w4 ∧ ∀ b, (Value.slice p' q c').ownBlock = some b → w.heap.size ≤ b := by
        rintro w4 rfl
        have b1 := Joins.block_setCell (i := 1) hr.ref (.slice p' q c')
        have b2 := Joins.block_setCell (i := 2) b1 (.bool true)
        have b3 := Joins.block_setCell (i := 4) b2 (.int .i64 0)
        have b4 := Joins.block_setCell (i := 5) b3 (.slice none 0 0)
        have o : ∀ b, b ≠ r → ((((wr.setCell ⟨r, 1, none⟩ (.slice p' q c')).setCell ⟨r, 2, none⟩ (.bool true)).setCell ⟨r, 4, none⟩ (.int .i64 0)).setCell ⟨r, 5, none⟩ (.slice none 0 0)).heap[b]? = wr.heap[b]? := fun b hb => by
          rw [Below.heap_setCell _ _ _ _ hb, Below.heap_setCell _ _ _ _ hb, Below.heap_setCell _ _ _ _ hb, Below.heap_setCell _ _ _ _ hb]
        have hl2 : (downL D.files ws).length = q := by rw [len_down, HN.out]
        rw [hall] at hrow
        refine ⟨RefAt.turn (by rw [b4]; rfl) (own_zero (own_local (by show wr.ownsRow w.heap.size tFr 3 _ (downL D.files ws).length _; rw [hl2]; exact hrow) fun b hb => o b ?_)) (World.ownsRow_nil _ _ _ _) (Or.inl rfl) (H.out.okay.down ws), ?_, fun b hb => (hrow.lt b hb).1⟩
        · have := (hrow.lt b hb).1
          omega
        · exact ((((Frame.of_keeps hkr [r]).frame_grown (grown_setCell _ _ _ _) (by simp)).frame_grown (grown_setCell _ _ _ _) (by simp)).frame_grown (grown_setCell _ _ _ _) (by simp)).frame_grown (grown_setCell _ _ _ _) (by simp)
      have KEY := Lib.hid key
      clear key hrow hkr hr fz hall
      go_wp2
      go_ret
      obtain ⟨r1, r2, r3⟩ := KEY.out _ rfl
      exact ⟨rfl, _, r1, r2, r3⟩
end Go.Proofs.YtlaepdpgegoopaaGreat
