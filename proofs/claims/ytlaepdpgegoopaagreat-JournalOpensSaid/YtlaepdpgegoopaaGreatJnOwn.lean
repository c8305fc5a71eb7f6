
/- A journal of the call's own: its calls, one behind the other, wherever its disk fails. -/
import Derived.Test.YtlaepdpgegoopaaGreatJnC
set_option linter.unusedVariables false
namespace Go.Proofs.YtlaepdpgegoopaaGreat
open Go.ChangeShapes Go.WideShapes Go.ChangeAt Go.RowKit Go.Maps Csv Dk Jn

theorem Stays.go {X Y : List Nat} {w w' : World} {v : Value} {l : List Bs} (h : Stays X w v l) (f : Frame X w w') (hY : ∀ x ∈ Y, x ∈ X ∨ w.heap.size ≤ x) : Stays Y w' v l := fun w'' g => h w'' (f.trans g hY)
theorem Stays.keeps {X : List Nat} {w w' : World} {v : Value} {l : List Bs} (h : Stays X w v l) (k : Keeps w w') : Stays X w' v l := h.go (Frame.of_keeps k X) fun x hx => Or.inl hx
theorem Stays.less {X Y : List Nat} {w : World} {v : Value} {l : List Bs} (h : Stays X w v l) (hY : ∀ x ∈ Y, x ∈ X) : Stays Y w v l := fun w' f => h w' (f.mono hY)
theorem Stays.nil (X : List Nat) (w : World) : Stays X w (.slice none 0 0) [] := fun w' _ => ⟨StrsAt.nil w', fun p n c e => by cases e; exact Nat.le_refl _⟩
theorem foreign_off {w : World} {d x : Nat} {D : DiskM} {G : List Nat} {c : Array Value} {t : TypeId} (h : IsDisk w d D G) (hx : w.heap[x]? = some (.cells c t (0, 0))) (ht : Foreign t) : x ∉ G := by
  obtain ⟨m, L, k, h, rfl⟩ := h
  obtain ⟨t1, t2, t3, t4, t5, _⟩ := ht
  intro hm
  rcases mem_foot.1 hm with rfl | rfl | hm | hm
  · exact tag_ne hx h.disk t1 rfl
  · exact map_tag h.map hx rfl
  · obtain ⟨y, hy, rfl | hr⟩ := mem_footF.1 hm
    · obtain ⟨cc, hc⟩ := (h.files y hy).tag; exact tag_ne hx hc t2 rfl
    · obtain ⟨cc, hc⟩ := (h.files y hy).rowtag hr; exact tag_ne hx hc t4 rfl
  · obtain ⟨cc, hc | hc⟩ := h.fail.tags x hm
    · exact tag_ne hx hc t3 rfl
    · exact tag_ne hx hc t5 rfl
theorem foreign_ne {w : World} {b d x : Nat} {J : JM} {c : Array Value} {t : TypeId} (h : JnAt w b d J) (hx : w.heap[x]? = some (.cells c t (0, 0))) (ht : Foreign t) : x ≠ b := tag_ne hx h ht.2.2.2.2.2
/-- Blocks of other kinds stay. -/
def Quiet (W W' : World) : Prop := ∀ (x : Nat) (c : Array Value) (t : TypeId), W.heap[x]? = some (.cells c t (0, 0)) → Foreign t → W'.heap[x]? = some (.cells c t (0, 0))
theorem Quiet.trans {a b c : World} (h : Quiet a b) (g : Quiet b c) : Quiet a c := fun x cs t hx ht => g x cs t (h x cs t hx ht) ht
theorem Quiet.keeps {a b : World} (k : Keeps a b) : Quiet a b := fun x cs t hx _ => (k.block x (block_lt hx)).trans hx
theorem quiet_disk {W W' : World} {d : Nat} {D : DiskM} {G : List Nat} (h : IsDisk W d D G) (f : Frame G W W') : Quiet W W' := fun x c t hx ht => (f.block x (block_lt hx) (foreign_off h hx ht)).trans hx
theorem quiet_jn {W W' : World} {b d : Nat} {D : DiskM} {J : JM} {G : List Nat} (h : IsDisk W d D G) (hj : JnAt W b d J) (f : Frame (b :: G) W W') : Quiet W W' := fun x c t hx ht => (f.block x (block_lt hx) fun hm => by
  rcases List.mem_cons.1 hm with rfl | hm
  · exact foreign_ne hj hx ht rfl
  · exact foreign_off h hx ht hm).trans hx
theorem TxtB.quiet {W W' : World} {v : Value} {l : List Bs} (h : TxtB W v l) (q : Quiet W W') : TxtB W' v l := by
  obtain ⟨⟨p, c, e, hm, hc⟩, h2, h3⟩ := h
  rcases h3 with rfl | ⟨g, o, n, c', cs, rfl, hg⟩
  · exact ⟨⟨p, c, e, hm, fun j x hx => by simp at hx⟩, h2, Or.inl rfl⟩
  · have hg' := q g cs tS hg (by unfold Foreign; decide)
    cases e
    refine ⟨⟨_, _, rfl, hm, fun j x hx => ?_⟩, h2, Or.inr ⟨g, o, _, _, cs, rfl, hg'⟩⟩
    obtain ⟨a, ea, hcell⟩ := hc j x hx
    cases ea
    have hb : ((⟨g, o, none⟩ : Addr).add j).block = g := by unfold Addr.add; split <;> rfl
    refine ⟨_, rfl, ?_⟩
    rw [World.cell?_of_block (w := W) (by rw [hb]; exact hg'.trans hg.symm)]
    exact hcell
abbrev Rows := List (Value × List Bs)
def AllStay (X : List Nat) (w : World) (rows : Rows) : Prop := ∀ p ∈ rows, Stays X w p.1 p.2

/-- A journal and its disk, made since the world w0, with rows of texts that stay; nf: no failure is set. -/
def OwnJ (w0 : World) (C : Nat) (M : Int) (d b : Nat) (R : List Bs) (rows : Rows) (nf : Bool) (W : World) : Prop :=
  ∃ D J G, JJ W b d D J G ∧ Live C M D J R ∧ (nf = true → D.fail = none) ∧ I64 D.starts ∧ Keeps w0 W ∧ w0.heap.size ≤ b ∧ (∀ x ∈ G, w0.heap.size ≤ x) ∧ AllStay (b :: G) W rows
/-- A disk, made since, that has what leads to R; up: is it up? -/
def OwnD (w0 : World) (C : Nat) (M : Int) (d : Nat) (up : Bool) (R : List Bs) (rows : Rows) (nf : Bool) (W : World) : Prop :=
  ∃ D G, IsDisk W d D G ∧ D.up = up ∧ Holds C M D R ∧ (nf = true → D.fail = none) ∧ I64 D.starts ∧ Keeps w0 W ∧ (∀ x ∈ G, w0.heap.size ≤ x) ∧ AllStay G W rows

/-- What an Append, or a Compact, comes to. -/
def AddOut (w0 : World) (C : Nat) (M M' : Int) (d b : Nat) (R R2 : List Bs) (rows : Rows) (nf : Bool) (long full : Prop) (e : Ending) (w' : World) : Prop :=
  (e = .returned (.int .i64 0) ∧ ¬ long ∧ ¬ full ∧ OwnJ w0 C M' d b R2 rows nf w') ∨ (e = .returned (.int .i64 3) ∧ long ∧ OwnJ w0 C M d b R rows nf w') ∨ (e = .returned (.int .i64 60) ∧ (¬ long ∧ full) ∧ OwnJ w0 C M d b R rows nf w') ∨
  (e = .returned (.int .i64 61) ∧ nf = false ∧ ∃ R', (R' = R ∨ R' = R2) ∧ OwnD w0 C M' d false R' rows true w')
section
variable {w0 W W' : World} {C : Nat} {M : Int} {d b : Nat} {R : List Bs} {rows : Rows} {nf up : Bool}
theorem OwnJ.keeps (h : OwnJ w0 C M d b R rows nf W) (k : Keeps W W') : OwnJ w0 C M d b R rows nf W' := by
  obtain ⟨D, J, G, h1, h2, h3, hs, h4, h5, h6, h7⟩ := h
  exact ⟨D, J, G, ⟨h1.disk.keeps k, h1.jn.local (k.block b h1.jn.lt), h1.off⟩, h2, h3, hs, h4.trans k, h5, h6, fun p hp => (h7 p hp).keeps k⟩
theorem OwnD.keeps (h : OwnD w0 C M d up R rows nf W) (k : Keeps W W') : OwnD w0 C M d up R rows nf W' := by
  obtain ⟨D, G, h1, h2, h3, h4, h5, h6, h7, h8⟩ := h
  exact ⟨D, G, h1.keeps k, h2, h3, h4, h5, h6.trans k, h7, fun p hp => (h8 p hp).keeps k⟩
theorem OwnJ.kept (h : OwnJ w0 C M d b R rows nf W) : Keeps w0 W := by obtain ⟨D, J, G, h1, h2, h3, hs, h4, h5⟩ := h; exact h4
theorem OwnD.kept (h : OwnD w0 C M d up R rows nf W) : Keeps w0 W := by obtain ⟨D, G, h1, h2, h3, h4, h5, h6, h7⟩ := h; exact h6
theorem OwnJ.more {M' : Int} (h : OwnJ w0 C M d b R rows nf W) (hm : M ≤ M') : OwnJ w0 C M' d b R rows nf W := by
  obtain ⟨D, J, G, h1, h2, h3⟩ := h
  exact ⟨D, J, G, h1, h2.more hm, h3⟩
theorem OwnD.more {M' : Int} (h : OwnD w0 C M d up R rows nf W) (hm : M ≤ M') : OwnD w0 C M' d up R rows nf W := by
  obtain ⟨D, G, h1, h2, h3, h4⟩ := h
  exact ⟨D, G, h1, h2, h3.more hm, h4⟩
theorem OwnJ.texts (h : OwnJ w0 C M d b R rows nf W) {p : Value × List Bs} (hp : p ∈ rows) : StrsAt W p.1 p.2 ∧ ∀ a n c, p.1 = .slice a n c → n ≤ c := by
  obtain ⟨D, J, G, h1, h2, h3, hs, h4, h5, h6, h7⟩ := h
  exact h7 p hp W (Frame.refl _ _)
theorem OwnJ.lens (h : OwnJ w0 C M d b R rows nf W) : (∀ p ∈ R, p.length ≤ 65536) ∧ R ≠ [] := by
  obtain ⟨D, J, G, h1, h2, h3⟩ := h
  exact ⟨h2.lens, by intro e; have := h2.many; rw [e] at this; simp at this⟩
/-- Fewer rows. -/
theorem OwnJ.less {rows' : Rows} (h : OwnJ w0 C M d b R rows nf W) (hr : ∀ p ∈ rows', p ∈ rows) : OwnJ w0 C M d b R rows' nf W := by
  obtain ⟨D, J, G, h1, h2, h3, hs, h4, h5, h6, h7⟩ := h
  exact ⟨D, J, G, h1, h2, h3, hs, h4, h5, h6, fun p hp => h7 p (hr p hp)⟩
theorem OwnJ.any (h : OwnJ w0 C M d b R rows nf W) : OwnJ w0 C M d b R rows false W := by
  obtain ⟨D, J, G, h1, h2, h3, h4⟩ := h
  exact ⟨D, J, G, h1, h2, (fun e => by cases e), h4⟩
/-- One row more. -/
theorem OwnJ.row (h : OwnJ w0 C M d b R rows nf W) {p : Value × List Bs} (hr : ∀ G, (∀ x ∈ G, x < W.heap.size) → Stays G W p.1 p.2) : OwnJ w0 C M d b R (p :: rows) nf W := by
  obtain ⟨D, J, G, h1, h2, h3, hs, h4, h5, h6, h7⟩ := h
  refine ⟨D, J, G, h1, h2, h3, hs, h4, h5, h6, fun q hq => ?_⟩
  rcases List.mem_cons.1 hq with rfl | hq
  · refine hr _ fun x hx => ?_
    rcases List.mem_cons.1 hx with rfl | hx
    · exact h1.jn.lt
    · exact h1.disk.lt x hx
  · exact h7 q hq
/-- One row more, laid since. -/
theorem OwnJ.laid (h : OwnJ w0 C M d b R rows nf W) (k : Keeps W W') {p : Value × List Bs} (hr : ∀ G, (∀ x ∈ G, x < W.heap.size) → Stays G W' p.1 p.2) : OwnJ w0 C M d b R (p :: rows) nf W' := by
  obtain ⟨D, J, G, h1, h2, h3, hs, h4, h5, h6, h7⟩ := h
  refine ⟨D, J, G, ⟨h1.disk.keeps k, h1.jn.local (k.block b h1.jn.lt), h1.off⟩, h2, h3, hs, h4.trans k, h5, h6, fun q hq => ?_⟩
  rcases List.mem_cons.1 hq with rfl | hq
  · refine hr _ fun x hx => ?_
    rcases List.mem_cons.1 hx with rfl | hx
    · exact h1.jn.lt
    · exact h1.disk.lt x hx
  · exact (h7 q hq).keeps k
theorem AddOut.ok {M' : Int} {R2 : List Bs} {long full : Prop} {e : Ending} {w' : World} (h : AddOut w0 C M M' d b R R2 rows true long full e w') (hl : ¬ long) (hf : ¬ full) : e = .returned (.int .i64 0) ∧ OwnJ w0 C M' d b R2 rows true w' := by
  rcases h with ⟨h1, _, _, h2⟩ | ⟨_, h1, _⟩ | ⟨_, h1, _⟩ | ⟨_, h1, _⟩
  · exact ⟨h1, h2⟩
  · exact absurd h1 hl
  · exact absurd h1.2 hf
  · cases h1
theorem AddOut.full {M' : Int} {R2 : List Bs} {long full : Prop} {e : Ending} {w' : World} (h : AddOut w0 C M M' d b R R2 rows true long full e w') (hl : ¬ long) (hf : full) : e = .returned (.int .i64 60) ∧ OwnJ w0 C M d b R rows true w' := by
  rcases h with ⟨_, _, h1, _⟩ | ⟨_, h1, _⟩ | ⟨h1, _, h2⟩ | ⟨_, h1, _⟩
  · exact absurd hf h1
  · exact absurd h1 hl
  · exact ⟨h1, h2⟩
  · cases h1
theorem AddOut.long {M' : Int} {R2 : List Bs} {long full : Prop} {e : Ending} {w' : World} (h : AddOut w0 C M M' d b R R2 rows true long full e w') (hl : long) : e = .returned (.int .i64 3) ∧ OwnJ w0 C M d b R rows true w' := by
  rcases h with ⟨_, h1, _, _⟩ | ⟨h1, _, h2⟩ | ⟨_, h1, _⟩ | ⟨_, h1, _⟩
  · exact absurd hl h1
  · exact ⟨h1, h2⟩
  · exact absurd hl h1.1
  · cases h1
theorem OwnJ.disk (h : OwnJ w0 C M d b R rows nf W) : OwnD w0 C M d true R rows nf W := by
  obtain ⟨D, J, G, h1, h2, h3, hs, h4, h5, h6, h7⟩ := h
  exact ⟨D, G, h1.disk, h2.up, h2.holds, h3, hs, h4, h6, fun p hp => (h7 p hp).less fun x hx => by simp [hx]⟩
/-- Memory that was there ahead. -/
theorem frame_below {G : List Nat} (f : Frame G W W') (k : Keeps w0 W) (hG : ∀ x ∈ G, w0.heap.size ≤ x) : Keeps w0 W' := Below.trans k (f.below k.size hG)
theorem ints_stable {v : Value} {ks : List Int} {G : List Nat} (h : IntsAt w0 v ks) (k : Keeps w0 W) (hG : ∀ x ∈ G, w0.heap.size ≤ x) : Stable G W v ks := fun w' f => IntsAt.keeps h (frame_below f k hG)
/-- What a call of the journal leaves, told. -/
theorem OwnJ.done {x : (Int × DiskM) × JM} {D : DiskM} {J : JM} {G : List Nat} {e : Ending} (h1 : JJ W b d D J G) (h4 : Keeps w0 W) (h5 : w0.heap.size ≤ b) (h6 : ∀ x ∈ G, w0.heap.size ≤ x) (h7 : AllStay (b :: G) W rows) (ho : JDoneOut x b d G W e W') :
    e = .returned (.int .i64 x.1.1) ∧ ∃ G', IsDisk W' d x.1.2 G' ∧ b ∉ G' ∧ Keeps w0 W' ∧ (∀ y ∈ G', w0.heap.size ≤ y) ∧ AllStay (b :: G') W' rows ∧ (x.1.1 ≠ 61 → JnAt W' b d x.2) ∧ Quiet W W' := by
  obtain ⟨e1, G', a1, a2, a3, a4, a5⟩ := ho
  have hb : ∀ y ∈ b :: G, w0.heap.size ≤ y := fun y hy => by
    rcases List.mem_cons.1 hy with rfl | hy
    · exact h5
    · exact h6 y hy
  refine ⟨e1, G', a1, a2, frame_below a3 h4 hb, fun y hy => ?_, fun p hp => (h7 p hp).go a3 fun y hy => ?_, a5, quiet_jn h1.disk h1.jn a3⟩
  · rcases a4 y hy with h | h
    · exact h6 y h
    · have := h4.size; omega
  · rcases List.mem_cons.1 hy with rfl | hy
    · exact Or.inl (by simp)
    · rcases a4 y hy with h | h
      · exact Or.inl (by simp [h])
      · exact Or.inr h
theorem rowL_ge (R : List Bs) : R.length ≤ (Rc.rowL R).length := by
  induction R with
  | nil => simp
  | cons p R ih => rw [Rc.rowL, List.length_append, Rc.recL_len, List.length_cons]; omega
theorem live_small {D : DiskM} {J : JM} (h : Live C M D J R) (hC : C ≤ 1000000) (hM : M ≤ 1000000000) : J.bytes ≤ 2000000 ∧ J.many ≤ 2000000 ∧ I64 J.file ∧ 0 ≤ J.file ∧ J.file ≤ 1000000000 ∧ D.free = (C : Int) - ((Rc.rowL R).length : Int) := by
  have hm : (⟨J.file, Rc.rowL R, (Rc.rowL R).length⟩ : FileM) ∈ D.files := by rw [h.files]; simp
  have h1 := used_mem hm
  have h2 := h.okay.room
  have h3 := h.cap
  have h4 := (h.okay.nums _ hm).1
  have h5 := h.num
  have h6 := h.bytes
  have h7 := h.many
  have hl := rowL_ge R
  simp only at h1 h4
  refine ⟨by omega, by omega, by unfold I64 top; omega, h4, by omega, ?_⟩
  rw [free_one h.files, h.cap]

theorem japp_own (h : OwnJ w0 C M d b R rows nf W) (hC : C ≤ 1000000) (hM : M ≤ 1000000000) (s : ByteArray) (hsz : s.size ≤ maxLen) :
    Calls Tryz.prog 15 #[ptrV b, .string s] W (fun e w' => AddOut w0 C M M d b R (R ++ [s.data.toList]) rows nf (65536 < s.size) ((C : Int) - ((Rc.rowL R).length : Int) - ((s.size + 8 : Nat) : Int) < 70000) e w' ∧ Quiet W w') := by
  obtain ⟨D, J, G, h1, h2, h3, hs, h4, h5, h6, h7⟩ := h
  obtain ⟨s1, s2, s3, s4, s5, s6⟩ := live_small h2 hC hM
  refine (japp_any b d D J G s W h1 h2.up h2.starts.symm hsz s1 s2 s3).mono ?_
  intro e w' ho
  obtain ⟨rfl, G', a1, a2, a3, a4, a5, a6, aq⟩ := OwnJ.done h1 h4 h5 h6 h7 ho
  refine ⟨?_, aq⟩
  have hst : ∀ D' : DiskM, D'.starts = D.starts → I64 D'.starts := fun D' e => by rw [e]; exact hs
  rcases app_live h2 s.data.toList with ⟨⟨e1, hl⟩ | ⟨e1, hl⟩, e2⟩ | ⟨D', J', e1, hlv, hf⟩ | ⟨D', R', e1, hd, hR⟩
  · rw [e1, e2] at a6
    rw [e1] at a1 ⊢
    exact Or.inr (Or.inl ⟨rfl, by rw [len_data] at hl; exact hl, D, J, G', ⟨a1, a6 (by simp), a2⟩, h2, h3, hs, a3, h5, a4, a5⟩)
  · rw [e1, e2] at a6
    rw [e1] at a1 ⊢
    exact Or.inr (Or.inr (Or.inl ⟨rfl, ⟨fun hlong => by
      rw [← len_data] at hlong
      have e1' := e1
      unfold appJ at e1'
      rw [if_pos hlong] at e1'
      simp at e1', by rw [len_data, s6] at hl; exact hl⟩, D, J, G', ⟨a1, a6 (by simp), a2⟩, h2, h3, hs, a3, h5, a4, a5⟩))
  · rw [e1] at a6 a1 ⊢
    have hJ : J'.starts = J.starts := by
      have e := congrArg (fun x : (Int × DiskM) × JM => x.2.starts) e1
      unfold appJ at e
      simp only at e
      split at e
      · exact e.symm
      · split at e
        · exact e.symm
        · split at e <;> exact e.symm
    have hlf : ¬ 65536 < s.size ∧ ¬ (C : Int) - ((Rc.rowL R).length : Int) - ((s.size + 8 : Nat) : Int) < 70000 := by
      rw [← len_data, ← s6]
      unfold appJ at e1
      refine ⟨fun hl => ?_, fun hl => ?_⟩
      · rw [if_pos hl] at e1; simp at e1
      · split at e1
        · simp at e1
        · first
            | (simp at e1; done)
            | (rw [if_pos hl] at e1; simp at e1)
    exact Or.inl ⟨rfl, hlf.1, hlf.2, D', J', G', ⟨a1, a6 (by simp), a2⟩, hlv, fun e => hf (h3 e), hst D' (by rw [← hlv.starts, ← h2.starts, hJ]), a3, h5, a4, a5⟩
  · rw [e1] at a1 ⊢
    obtain ⟨d1, d2, d3, d4, d5⟩ := hd
    refine Or.inr (Or.inr (Or.inr ⟨rfl, ?_, R', hR, D', G', a1, d1, d2, (fun _ => d3), hst D' d5, a3, a4, fun p hp => (a5 p hp).less fun x hx => by simp [hx]⟩))
    cases nf with
    | false => rfl
    | true => exact absurd (h3 rfl) d4
theorem jcom_own (h : OwnJ w0 C M d b R rows nf W) (hC : C ≤ 1000000) (hM : M ≤ 1000000000) (s : ByteArray) (hsz : s.size ≤ maxLen) :
    Calls Tryz.prog 17 #[ptrV b, .string s] W (fun e w' => AddOut w0 C M (M + 1) d b R [s.data.toList] rows nf (65536 < s.size) ((C : Int) - ((Rc.rowL R).length : Int) < ((s.size + 8 : Nat) : Int)) e w' ∧ Quiet W w') := by
  obtain ⟨D, J, G, h1, h2, h3, hs, h4, h5, h6, h7⟩ := h
  obtain ⟨s1, s2, s3, s4, s5, s6⟩ := live_small h2 hC hM
  refine (jcom_any b d D J G s W h1 h2.up h2.starts.symm hsz s4 (by omega)).mono ?_
  intro e w' ho
  obtain ⟨rfl, G', a1, a2, a3, a4, a5, a6, aq⟩ := OwnJ.done h1 h4 h5 h6 h7 ho
  refine ⟨?_, aq⟩
  have hst : ∀ D' : DiskM, D'.starts = D.starts → I64 D'.starts := fun D' e => by rw [e]; exact hs
  rcases com_live h2 hM s.data.toList with ⟨⟨e1, hl⟩ | ⟨e1, hl⟩, e2⟩ | ⟨D', J', e1, hlv, hf⟩ | ⟨D', R', e1, hd, hR⟩
  · rw [e1, e2] at a6
    rw [e1] at a1 ⊢
    exact Or.inr (Or.inl ⟨rfl, by rw [len_data] at hl; exact hl, D, J, G', ⟨a1, a6 (by simp), a2⟩, h2, h3, hs, a3, h5, a4, a5⟩)
  · rw [e1, e2] at a6
    rw [e1] at a1 ⊢
    exact Or.inr (Or.inr (Or.inl ⟨rfl, ⟨fun hlong => by
      rw [← len_data] at hlong
      have e1' := e1
      unfold comJ at e1'
      rw [if_pos hlong] at e1'
      simp at e1', by rw [len_data, s6] at hl; exact hl⟩, D, J, G', ⟨a1, a6 (by simp), a2⟩, h2, h3, hs, a3, h5, a4, a5⟩))
  · rw [e1] at a6 a1 ⊢
    have hJ : J'.starts = J.starts := by
      have e := congrArg (fun x : (Int × DiskM) × JM => x.2.starts) e1
      unfold comJ at e
      simp only at e
      split at e
      · exact e.symm
      · split at e
        · exact e.symm
        · split at e <;> exact e.symm
    have hlf : ¬ 65536 < s.size ∧ ¬ (C : Int) - ((Rc.rowL R).length : Int) < ((s.size + 8 : Nat) : Int) := by
      rw [← len_data, ← s6]
      unfold comJ at e1
      refine ⟨fun hl => ?_, fun hl => ?_⟩
      · rw [if_pos hl] at e1; simp at e1
      · split at e1
        · simp at e1
        · first
            | (simp at e1; done)
            | (rw [if_pos hl] at e1; simp at e1)
    exact Or.inl ⟨rfl, hlf.1, hlf.2, D', J', G', ⟨a1, a6 (by simp), a2⟩, hlv, fun e => hf (h3 e), hst D' (by rw [← hlv.starts, ← h2.starts, hJ]), a3, h5, a4, a5⟩
  · rw [e1] at a1 ⊢
    obtain ⟨d1, d2, d3, d4, d5⟩ := hd
    refine Or.inr (Or.inr (Or.inr ⟨rfl, ?_, R', hR, D', G', a1, d1, d2, (fun _ => d3), hst D' d5, a3, a4, fun p hp => (a5 p hp).less fun x hx => by simp [hx]⟩))
    cases nf with
    | false => rfl
    | true => exact absurd (h3 rfl) d4
end
end Go.Proofs.YtlaepdpgegoopaaGreat
