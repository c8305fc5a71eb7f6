
/- The contracts of disk: Loose, goDown, count. -/
import Derived.Test.YtlaepdpgegoopaaDiskC2
import Derived.Deep.RegionWith
import Derived.Deep.Cut
set_option linter.unusedVariables false
namespace Go.Proofs.Ytlaepdpgegoopaa
open Go.ChangeShapes Go.WideShapes Go.ChangeAt Go.RowKit Go.Maps Csv Dk

theorem dkKeeps_drewN (w : World) (n : Nat) : Keeps w (w.drewN n) := ⟨rfl, rfl, rfl, Nat.le_refl _, fun _ _ => rfl⟩
theorem DiskAt.keeps {w w' : World} {d m : Nat} {L : List Ent} {k : Option (Nat × Option Nat)} {D : DiskM} (h : DiskAt w d m L k D) (hk : Keeps w w') : DiskAt w' d m L k D := h.local fun b hb => hk.block b (h.lt b hb)
theorem find_idx {L : List Ent} (hr : Rising (L.map (·.1))) {i : Nat} {x : Ent} (h : L[i]? = some x) : L.find? (fun y => y.1.n == x.1.n) = some x := by
  induction L generalizing i with
  | nil => simp at h
  | cons y r ih =>
    obtain ⟨h1, h2⟩ := List.pairwise_cons.1 hr
    rw [List.find?_cons]
    cases i with
    | zero => simp at h; subst h; simp
    | succ i =>
      have h' : r[i]? = some x := by simpa using h
      have h3 : y.1.n < x.1.n := h1 x.1 (List.mem_map.2 ⟨x, List.mem_of_getElem? h', rfl⟩)
      have e : (y.1.n == x.1.n) = false := by simp; omega
      rw [e]
      exact ih h2 h'
theorem info_int : (Try.prog.info? 3).map (fun i => (i.zero, i.size, i.bytes)) = some (some (.int .i64 0), 1, 8) := by kernel_rfl
theorem take_snocI {l : List Int} {k : Nat} {x : Int} (h : l[k]? = some x) : l.take (k + 1) = l.take k ++ [x] := by
  rw [List.take_add_one, h]; rfl

def looseL (D : DiskM) : List Int := D.files.map fun f => (f.loose : Int)
/-! ### goDown -/
/-- A list that is read, whatever the blocks G hold. -/
def Stable (G : List Nat) (w : World) (v : Value) (ks : List Int) : Prop := ∀ w', Frame G w w' → IntsAt w' v ks
theorem Stable.on {G : List Nat} {w w' : World} {v : Value} {ks : List Int} (h : Stable G w v ks) (hf : Frame G w w') : Stable G w' v ks := fun w2 h2 => h w2 (hf.trans h2 fun x hx => Or.inl hx)
def blks (L : List Ent) : List Nat := L.map (·.2.blk)
theorem FileAt.same {w w' : World} {x : Ent} (h : FileAt w x) (e : w'.heap = w.heap) : FileAt w' x := h.local (by rw [e]) fun r _ => by rw [e]
theorem cut_in (x : Ent) (k : Nat) (w : World) (h : FileAt w x) (h1 : x.1.sure ≤ x.1.data.length) (h2 : x.1.data.length ≤ 1048576) (hk : k ≤ x.1.data.length) (W : World) (e1 : W.heap = w.heap) (e2 : W.os = w.os) (e3 : W.tape = w.tape) (e4 : W.output = w.output) :
    Calls Try.prog 57 #[ptrV x.2.blk, .int .i64 (k : Int)] W fun e w' => e = .returned (.tuple #[]) ∧ FileAt w' (x.1.cut k, x.2) ∧ w.grownBy w' (some x.2.blk) :=
  (dkCut_any x k W (h.same e1) h1 h2 hk).mono fun e w' ⟨a, b, g⟩ => ⟨a, b, g.os.trans e2, g.tape.trans e3, g.output.trans e4, by rw [← e1]; exact g.size, fun i hi hn => (g.block i (by rw [e1]; exact hi) hn).trans (by rw [e1])⟩
theorem loose_in (x : Ent) (w : World) (h : FileAt w x) (h1 : x.1.sure ≤ x.1.data.length) (h2 : x.1.data.length ≤ 1048576) (W : World) (e : W.heap = w.heap) :
    Calls Try.prog 58 #[ptrV x.2.blk] W fun e w' => e = .returned (.int .i64 (x.1.loose : Int)) ∧ ∃ n, w' = W.drewN n := loose_any x W (h.same e) h1 h2
/-- 'f.sure = len(f.bytes)'. -/
theorem sure_file {w w' : World} {x : Ent} {p : Option Addr} {cap : Nat} (h : FileAt w x) (hc : w.heap[x.2.blk]? = some (.cells #[.slice p x.1.data.length cap, .int .i64 (x.1.sure : Int)] tFl (0, 0)))
    (ho : w.ownsRow 0 tU8 1 (.slice p x.1.data.length cap) x.1.data.length (x.1.data.map bv)) (hb : (Value.slice p x.1.data.length cap).ownBlock = x.2.row)
    (hw : w' = w.setCell ⟨x.2.blk, 1, none⟩ (.int .i64 (x.1.data.length : Int))) : FileAt w' (⟨x.1.n, x.1.data, x.1.data.length⟩, x.2) ∧ w.grownBy w' (some x.2.blk) := by
  subst hw
  obtain ⟨c, hcc⟩ := h.tag
  refine ⟨⟨.slice p x.1.data.length cap, ?_, own_local ho fun g hg => ?_, hb⟩, grown_setCell _ _ _ _⟩
  · rw [Joins.block_setCell (i := 1) hc]; rfl
  · obtain ⟨c2, hc2⟩ := h.rowtag (hb ▸ hg)
    exact Below.heap_setCell _ _ _ _ (tag_ne hc2 hcc (by decide))
theorem grown_frame {w w' : World} {b : Nat} {G : List Nat} (h : w.grownBy w' (some b)) (hb : b ∈ G) : Frame G w w' := Frame.of_grown h fun g hg => by cases hg; exact hb

/-- The files behind q rounds. -/
def downQ (D : DiskM) (ks : List Int) (q : Nat) : List FileM := (downL D.files ks).take q ++ D.files.drop q
theorem downQ_zero (D : DiskM) (ks : List Int) : downQ D ks 0 = D.files := by simp [downQ]
theorem downQ_all (D : DiskM) (ks : List Int) : downQ D ks D.files.length = downL D.files ks := by
  unfold downQ
  rw [List.take_of_length_le (by rw [len_down]; exact Nat.le_refl _), List.drop_of_length_le (Nat.le_refl _), List.append_nil]
theorem downQ_at {D : DiskM} {ks : List Int} {q i : Nat} (hq : q ≤ D.files.length) : (downQ D ks q)[i]? = if i < q then (downL D.files ks)[i]? else D.files[i]? := by
  unfold downQ
  have hl : ((downL D.files ks).take q).length = q := by rw [List.length_take, len_down]; omega
  split
  · rename_i h
    rw [List.getElem?_append_left (by omega), List.getElem?_take_of_lt h]
  · rename_i h
    rw [List.getElem?_append_right (by omega), hl, List.getElem?_drop]
    congr 1; omega
theorem downQ_step {D : DiskM} {ks : List Int} {q : Nat} {f : FileM} (hf : D.files[q]? = some f) : downQ D ks (q + 1) = (downQ D ks q).set q (f.left ks[q]?) := by
  have hq : q < D.files.length := (List.getElem?_eq_some_iff.1 hf).1
  apply List.ext_getElem?
  intro i
  rw [downQ_at (by omega), List.getElem?_set, downQ_at (by omega)]
  by_cases h1 : q = i
  · subst h1
    have hl : q < (downQ D ks q).length := by
      have := downQ_at (D := D) (ks := ks) (q := q) (i := q) (by omega)
      rw [if_neg (by omega), hf] at this
      exact (List.getElem?_eq_some_iff.1 this).1
    rw [if_pos (by omega), if_pos rfl, if_pos hl, get_down, hf]; rfl
  · rw [if_neg h1]
    by_cases h2 : i < q
    · rw [if_pos (by omega), if_pos h2]
    · rw [if_neg (by omega), if_neg h2]
theorem downQ_okay {D : DiskM} (h : Okay D) (ks : List Int) (q : Nat) (hq : q ≤ D.files.length) : Okay (D.put (downQ D ks q)) := by
  have hnum : numsF (downQ D ks q) = numsF D.files := by
    unfold downQ numsF
    rw [List.map_append, List.map_take, List.map_drop]
    have := nums_down D.files ks
    unfold numsF at this
    rw [this, List.take_append_drop]
  have hmem : ∀ f ∈ downQ D ks q, f ∈ downL D.files ks ∨ f ∈ D.files := fun f hf => by
    unfold downQ at hf
    rcases List.mem_append.1 hf with h | h
    · exact Or.inl (List.mem_of_mem_take h)
    · exact Or.inr (List.mem_of_mem_drop h)
  have hd := h.down ks
  refine h.put _ ?_ ?_ ?_ ?_ ?_
  · have : (downQ D ks q).length = (numsF D.files).length := by rw [← hnum]; simp [numsF]
    rw [this]; simp [numsF]; exact h.many
  · rw [rising_nums, hnum, ← rising_nums]; exact h.rising
  · intro f hf; rcases hmem f hf with h1 | h1
    · exact hd.nums f h1
    · exact h.nums f h1
  · intro f hf; rcases hmem f hf with h1 | h1
    · exact hd.sure f h1
    · exact h.sure f h1
  · have hap : ∀ a b : List FileM, used (a ++ b) = used a + used b := fun a b => by simp [used]
    have h1 := used_down (D.files.take q) ks
    have h2 : (downL D.files ks).take q = downL (D.files.take q) ks := by
      apply List.ext_getElem?
      intro i
      rw [List.getElem?_take, get_down, get_down, List.getElem?_take]
      split <;> rfl
    unfold downQ
    rw [hap, h2]
    have h3 : used (D.files.take q) + used (D.files.drop q) = used D.files := by rw [← hap, List.take_append_drop]
    have := h.room
    omega
theorem downQ_nums {D : DiskM} {ks : List Int} {q : Nat} : numsF (downQ D ks q) = numsF D.files := by
  unfold downQ numsF
  rw [List.map_append, List.map_take, List.map_drop]
  have := nums_down D.files ks
  unfold numsF at this
  rw [this, List.take_append_drop]
end Go.Proofs.Ytlaepdpgegoopaa
