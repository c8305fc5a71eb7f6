/- Books that a law made itself, one or two side by side; small postings. -/
import Derived.Test.YtffipjhpoaalhaaBkPosted
set_option linter.unusedVariables false
namespace Go.Proofs.Ytffipjhpoaalhaa
open Go.ChangeShapes Go.WideShapes Go.ChangeAt Go.RowKit Csv Bk Mon

theorem not_great {L : List PI} {n : Nat} (h : greatP L (n : Int) = false) : L.length ≤ n := by
  unfold greatP at h
  rw [Bool.or_eq_false_iff] at h
  have := h.2
  simp at this
  omega
theorem not_long {L : List PI} {n : Int} (h : greatP L n = false) : ∀ x ∈ L, x.s.size ≤ 100 := by
  unfold greatP at h
  rw [Bool.or_eq_false_iff, List.any_eq_false] at h
  intro x hx
  have := h.1 x hx
  simp at this
  omega
/-- Books of the law's own. -/
def BkOne (w : World) (b : Nat) (M : List PI) (W : World) : Prop := ∃ F, PBk W F b M ∧ (∀ i, F i → w.heap.size ≤ i) ∧ Keeps w W
theorem BkOne.keep {w W : World} {b : Nat} {M : List PI} (h : BkOne w b M W) : Keeps w W := by obtain ⟨F, _, _, h⟩ := h; exact h
theorem BkOne.keeps {w W W' : World} {b : Nat} {M : List PI} (h : BkOne w b M W) (k : Keeps W W') : BkOne w b M W' := by
  obtain ⟨F, h1, h2, h3⟩ := h
  exact ⟨F, h1.keeps k, h2, h3.trans k⟩
theorem off_keep {F F' : Nat → Prop} {w W W' : World} (hf : ∀ i, F i → w.heap.size ≤ i) (k : Keeps w W) (o : OffF F F' W W') : Keeps w W' :=
  ⟨o.os.trans k.os, o.tape.trans k.tape, o.output.trans k.output, Nat.le_trans k.size o.size, fun i hi => (o.block i (Nat.lt_of_lt_of_le hi k.size) (fun hn => by have := hf i hn; omega)).trans (k.block i hi)⟩
theorem off_low {F F' : Nat → Prop} {w W W' : World} (hf : ∀ i, F i → w.heap.size ≤ i) (k : Keeps w W) (o : OffF F F' W W') : ∀ i, F' i → w.heap.size ≤ i := fun i hi => by
  rcases o.own i hi with h | h
  · exact hf i h
  · exact Nat.le_trans k.size h
theorem BkOne.post {w W : World} {b : Nat} {M : List PI} (h : BkOne w b M W) (p : PI) (hg : GoodL M) (hp : p.Good) (hok : OkL (pms M)) (hl : M.length ≤ 900) :
    Calls Try.prog 11 #[.pointer (some ⟨b, 0, none⟩), p.val] W fun e w' => e = .returned (.int .i64 (postI M p).1) ∧ BkOne w b (postI M p).2 w' := by
  obtain ⟨F, h1, h2, h3⟩ := h
  refine (ppost_any F b M p W h1 hg hp hok hl).mono ?_
  rintro e w' ⟨rfl, F', hb, o⟩
  exact ⟨rfl, F', hb, off_low h2 h3 o, off_keep h2 h3 o⟩
theorem pbal_same {F : Nat → Prop} {W : World} {b : Nat} {M : List PI} (h : PBk W F b M) (a o : Int) (ha : I64 a) (ho : I64 o) :
    Calls Try.prog 13 #[.pointer (some ⟨b, 0, none⟩), .int .i64 a, .int .i64 o] W fun e w' => e = .returned (.int .i64 (bal (pms M) a o)) ∧ w' = W := by
  obtain ⟨v, mp, mb, h1, _⟩ := h
  exact pbalance_at a o h1 ha ho
theorem BkOne.bal {w W : World} {b : Nat} {M : List PI} (h : BkOne w b M W) (a o : Int) (ha : I64 a) (ho : I64 o) :
    Calls Try.prog 13 #[.pointer (some ⟨b, 0, none⟩), .int .i64 a, .int .i64 o] W fun e w' => e = .returned (.int .i64 (bal (pms M) a o)) ∧ w' = W := by
  obtain ⟨F, h1, h2, h3⟩ := h
  exact pbal_same h1 a o ha ho
theorem BkOne.zero {w W : World} {b : Nat} {M : List PI} (h : BkOne w b M W) (hok : OkL (pms M)) :
    Calls Try.prog 18 #[.pointer (some ⟨b, 0, none⟩)] W fun e w' => e = .returned (.bool true) ∧ Keeps W w' := by
  obtain ⟨F, h1, h2, h3⟩ := h
  exact pzero_any F b M W h1 hok
theorem BkOne.many {w W : World} {b : Nat} {M : List PI} (h : BkOne w b M W) :
    Calls Try.prog 17 #[.pointer (some ⟨b, 0, none⟩)] W fun e w' => e = .returned (.int .i64 (M.length : Int)) ∧ Keeps W w' := by
  obtain ⟨F, h1, h2, h3⟩ := h
  exact pmany_any F b M W h1
theorem BkOne.list {w W : World} {b : Nat} {M : List PI} (h : BkOne w b M W) (hg : GoodL M) (hl : M.length ≤ 1000) :
    Calls Try.prog 15 #[.pointer (some ⟨b, 0, none⟩)] W fun e w' => ∃ p c, e = .returned (.slice p M.length c) ∧ PostsAt w' (.slice p M.length c) M ∧ Keeps W w' := by
  obtain ⟨F, h1, h2, h3⟩ := h
  refine (plist_any F b M W h1 hg hl).mono ?_
  rintro e w' ⟨p, c, rfl, hown, k⟩
  exact ⟨p, c, rfl, own_posts hown hg (by omega), k⟩
/-- Two books of the law's own. -/
def BkTwo (w : World) (b c : Nat) (M N : List PI) (W : World) : Prop := ∃ F G, PBk W F b M ∧ PBk W G c N ∧ (∀ i, F i → ¬ G i) ∧ (∀ i, F i → w.heap.size ≤ i) ∧ (∀ i, G i → w.heap.size ≤ i) ∧ Keeps w W
theorem BkTwo.keep {w W : World} {b c : Nat} {M N : List PI} (h : BkTwo w b c M N W) : Keeps w W := by obtain ⟨F, G, _, _, _, _, _, h⟩ := h; exact h
theorem BkTwo.keeps {w W W' : World} {b c : Nat} {M N : List PI} (h : BkTwo w b c M N W) (k : Keeps W W') : BkTwo w b c M N W' := by
  obtain ⟨F, G, h1, h2, h3, h4, h5, h6⟩ := h
  exact ⟨F, G, h1.keeps k, h2.keeps k, h3, h4, h5, h6.trans k⟩
theorem BkTwo.turn {w W : World} {b c : Nat} {M N : List PI} (h : BkTwo w b c M N W) : BkTwo w c b N M W := by
  obtain ⟨F, G, h1, h2, h3, h4, h5, h6⟩ := h
  exact ⟨G, F, h2, h1, fun i hg hf => h3 i hf hg, h5, h4, h6⟩
theorem BkTwo.one {w W : World} {b c : Nat} {M N : List PI} (h : BkTwo w b c M N W) : BkOne w b M W := by
  obtain ⟨F, G, h1, h2, h3, h4, h5, h6⟩ := h
  exact ⟨F, h1, h4, h6⟩
theorem BkTwo.post {w W : World} {b c : Nat} {M N : List PI} (h : BkTwo w b c M N W) (p : PI) (hg : GoodL M) (hp : p.Good) (hok : OkL (pms M)) (hl : M.length ≤ 900) :
    Calls Try.prog 11 #[.pointer (some ⟨b, 0, none⟩), p.val] W fun e w' => e = .returned (.int .i64 (postI M p).1) ∧ BkTwo w b c (postI M p).2 N w' := by
  obtain ⟨F, G, h1, h2, h3, h4, h5, h6⟩ := h
  refine (ppost_any F b M p W h1 hg hp hok hl).mono ?_
  rintro e w' ⟨rfl, F', hb, o⟩
  refine ⟨rfl, F', G, hb, h2.near fun i hi => o.block i (h2.lt i hi) (fun hf => h3 i hf hi), fun i hf hg => ?_, off_low h4 h6 o, h5, off_keep h4 h6 o⟩
  rcases o.own i hf with h | h
  · exact h3 i h hg
  · have := h2.lt i hg; omega
/-- Books without postings, beside others. -/
theorem BkOne.start {w W W' : World} {b : Nat} {F : Nat → Prop} (k : Keeps w W) (hb : PBk W' F b []) (hf : ∀ i, F i → W.heap.size ≤ i) (k' : Keeps W W') : BkOne w b [] W' :=
  ⟨F, hb, fun i hi => Nat.le_trans k.size (hf i hi), k.trans k'⟩
theorem BkOne.beside {w W W' : World} {b c : Nat} {M N : List PI} {G : Nat → Prop} (h : BkOne w b M W) (hc : PBk W' G c N) (hg : ∀ i, G i → W.heap.size ≤ i) (k : Keeps W W') : BkTwo w b c M N W' := by
  obtain ⟨F, h1, h2, h3⟩ := h
  exact ⟨F, G, h1.keeps k, hc, fun i hf hgi => by have := h1.lt i hf; have := hg i hgi; omega, h2, fun i hi => Nat.le_trans h3.size (hg i hi), h3.trans k⟩
/-! ### Small postings -/
def SmallM (l : List PM) : Prop := ∀ p ∈ l, 0 ≤ p.amt ∧ p.amt ≤ 1099511627775 ∧ 0 < p.ord ∧ p.ord ≤ 4
theorem small_bal {l : List PM} (h : SmallM l) (hl : l.length ≤ 1000) (a o : Int) : -1099511627775000 ≤ bal l a o ∧ bal l a o ≤ 1099511627775000 := by
  obtain ⟨h1, h2⟩ := bal_small (M := 1099511627775) (fun p hp => ⟨(h p hp).1, (h p hp).2.1⟩) a o
  have h3 : (1099511627775 : Int) * (l.length : Int) ≤ 1099511627775 * 1000 := Int.mul_le_mul_of_nonneg_left (by omega) (by omega)
  omega
theorem small_fits {l : List PM} (h : SmallM l) (hl : l.length ≤ 900) {p : PM} (h0 : 0 ≤ p.amt) (h1 : p.amt ≤ 1099511627775) (h2 : 0 < p.ord) (h3 : p.ord ≤ 4) : fitsP l p = true := by
  have hs : SmallM (l ++ [p]) := by
    intro q hq
    rcases List.mem_append.1 hq with hq | hq
    · exact h q hq
    · rw [List.mem_singleton] at hq; subst hq; exact ⟨h0, h1, h2, h3⟩
  have b : ∀ a o, in64 (bal (l ++ [p]) a o) = true := fun a o => by
    have := small_bal hs (by simp; omega) a o
    rw [in64_iff]; omega
  unfold fitsP
  rw [b, b, b, b]; rfl
/-- What is posted of small ones. -/
structure Sm (M : List PI) (k : Nat) : Prop where
  good : GoodL M
  ok : OkL (pms M)
  len : M.length ≤ k
  small : SmallM (pms M)
theorem Sm.nil : Sm [] 0 := ⟨(fun x hx => by cases hx), OkL.nil, Nat.le_refl _, (fun p hp => by cases hp)⟩
theorem Sm.post {M : List PI} {k : Nat} (h : Sm M k) (hk : k ≤ 900) {p : PI} (hg : p.Good) (hm : mayM p.pm = true) (ho : p.pm.ord ≤ 4) (ha : p.pm.amt ≤ 1099511627775) :
    Sm (postI M p).2 (k + 1) ∧ ((postI M p).1 = 0 ∨ (postI M p).1 = 91) := by
  have hmay := may_iff.1 hm
  refine ⟨⟨good_post h.good hg, ?_, ?_, ?_⟩, ?_⟩
  · rw [pms_post]; exact ok_post h.ok _
  · unfold postI
    dsimp only
    have := h.len
    split
    · simp; omega
    · omega
  · unfold postI
    dsimp only
    split
    · have e : pms (M ++ [p]) = pms M ++ [p.pm] := by unfold pms; rw [List.map_append]; rfl
      rw [e]
      intro q hq
      rcases List.mem_append.1 hq with hq | hq
      · exact h.small q hq
      · rw [List.mem_singleton] at hq; subst hq; exact ⟨hmay.amt, ha, hmay.ord, ho⟩
    · exact h.small
  · cases hi : idOf (pms M) p.pm.id with
    | some q =>
      rw [post_there hm hi]
      dsimp only
      split
      · exact Or.inl rfl
      · exact Or.inr rfl
    | none =>
      rw [post_new hm hi, small_fits h.small (by rw [pms_len]; have := h.len; omega) hmay.amt ha hmay.ord ho]
      exact Or.inl rfl
theorem Sm.postSmall {M : List PI} {k : Nat} (h : Sm M k) (hk : k ≤ 900) (x : PI) (hx : x.s.size ≤ 100) : Sm (postI M (smallI x)).2 (k + 1) ∧ ((postI M (smallI x)).1 = 0 ∨ (postI M (smallI x)).1 = 91) := by
  obtain ⟨h1, h2, h3⟩ := small_may x
  exact h.post hk (smallI_good x hx).1 h1 h2 h3
theorem wrap_next {k : Nat} (h : k ≤ 100000) : wrap64 ((k : Int) + 1) = ((k + 1 : Nat) : Int) := by unfold wrap64; omega
theorem num_next {k : Nat} (h : k ≤ 100000) : Value.int .i64 (wrap64 ((k : Int) + 1)) = .int .i64 ((k + 1 : Nat) : Int) := by rw [wrap_next h]
theorem meas_lt {N k : Nat} (h : k < N) (hk : k ≤ 100000) : N - (intOf (.int .i64 (wrap64 ((k : Int) + 1)))).toNat < N - (intOf (.int .i64 (k : Int))).toNat := by
  rw [wrap_next hk]
  simp [intOf]; omega
end Go.Proofs.Ytffipjhpoaalhaa
