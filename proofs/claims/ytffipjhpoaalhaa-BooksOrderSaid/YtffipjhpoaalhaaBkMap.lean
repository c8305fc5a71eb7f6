/- The program's books' two maps: keys that are structs, elements of whatever type, read as they lie. -/
import Derived.Test.YtffipjhpoaalhaaBkSmall
import Derived.Maps.OwnSet
import Derived.Maps.Ext
import Derived.Lib.SlMapMerge
import Derived.DeepKeys4
set_option linter.unusedVariables false
namespace Go.Proofs.Ytffipjhpoaalhaa
open Go.ChangeShapes Go.WideShapes Go.ChangeAt Go.RowKit Csv Bk Mon
open Go.Maps (Keyed)

abbrev tHo : TypeId := 56
abbrev tMb : TypeId := 41
abbrev tMp : TypeId := 40
/-- An element, as it lies. -/
def asIs (v : Value) : Option (DataW Value × List MemPlace) := some (.held v, [])
theorem asIs_inv {v : Value} {d : DataW Value} {ps : List MemPlace} (h : asIs v = some (d, ps)) : d = .held v := by
  unfold asIs at h
  cases h; rfl
theorem lawS : Keyed Try.prog 9 := Maps.string_keyed Try.underlying9
theorem lawH : Keyed Try.prog tHo := Keyed.of_law (deep_law_laid (by kernel_rfl) (m := 2) (by omega) (of_decide_eq_true (by kernel_rfl)) (by kernel_rfl) (by kernel_rfl))
theorem zero_i64 (w : World) : (zeroValue 2).run Try.prog w = .ok (.int .i64 0) w := by kernel_rfl
def poZ : Value := .agg #[.string ⟨#[]⟩, .int .i64 0, .int .i64 0, .int .i64 0, .int .i64 0]
theorem zero_post (w : World) : (zeroValue tPo).run Try.prog w = .ok poZ w := by kernel_rfl
/-- A holder. -/
def hoV (a o : Int) : Value := .agg #[.int .i64 a, .int .i64 o]
def kB (a o : Int) : Lit := .string (keyBytes [.int .i64 a, .int .i64 o])
theorem wf_of {n : Int} (h : I64 n) : (Lit.int .i64 n).wf = true := by
  unfold I64 top at h
  exact WalkArith.wf_i64 (by omega)
theorem cells_ho : Try.prog.cellsOf tHo = 2 := by kernel_rfl
theorem isKey_ho : Try.prog.keyType tHo = true := by kernel_rfl
theorem sized_types : ∃ n, Try.prog.types.size = n + 1 := ⟨Try.prog.types.size - 1, by have : 0 < Try.prog.types.size := of_decide_eq_true (by kernel_rfl); omega⟩
theorem keyLits_int {d : Nat} {n : Int} (h : I64 n) : Try.prog.keyLits (d + 1) 3 [.int .i64 n] = some [.int .i64 n] := by
  simp [Program.keyLits, Try.underlying3, wf_of h]
theorem keyLits_ho {a o : Int} (ha : I64 a) (ho : I64 o) : Try.prog.keyLits (Try.prog.types.size + 1) tHo [.int .i64 a, .int .i64 o] = some [.int .i64 a, .int .i64 o] := by
  obtain ⟨n, hn⟩ := sized_types
  rw [hn]
  have hu := Try.underlying56
  unfold Program.keyLits
  rw [hu]
  simp [cells_ho, cells_int, keyLits_int ha, keyLits_int ho]
theorem kB_is {a o : Int} (ha : I64 a) (ho : I64 o) : keyOf Try.prog tHo (hoV a o) = some (kB a o) := by
  have hl := keyLits_ho ha ho
  have hf : (Value.agg #[.int .i64 a, .int .i64 o]).formed Try.prog tHo = true := by
    simp [Value.formed, Try.underlying56, cells_ho]
  unfold keyOf hoV
  rw [Try.underlying56]
  simp only [isKey_ho, hf, Bool.and_self, if_true]
  rw [show (Value.agg #[.int .i64 a, .int .i64 o]).cells.toList = [.int .i64 a, .int .i64 o] from rfl, hl]
  rfl
theorem kB_inj {a o a' o' : Int} (ha : I64 a) (ho : I64 o) (ha' : I64 a') (ho' : I64 o') (h : kB a o = kB a' o') : a = a' ∧ o = o' := by
  have := lawH.inj (kB_is ha ho) (h ▸ kB_is ha' ho')
  unfold hoV at this
  simpa using this
theorem keyLits_ho_parts {d : Nat} {c0 c1 : Value} {ls : List Lit} (h : Try.prog.keyLits (d + 1) tHo [c0, c1] = some ls) : ∃ l0 l1, Try.prog.keyLits d 3 [c0] = some l0 ∧ Try.prog.keyLits d 3 [c1] = some l1 := by
  unfold Program.keyLits at h
  rw [Try.underlying56] at h
  simp [cells_ho, cells_int, Option.bind_eq_some_iff] at h
  obtain ⟨l0, h0, _, ⟨l1, h1, _⟩, _⟩ := h
  exact ⟨_, _, h0, h1⟩
theorem keyLits_int_inv {d : Nat} {c : Value} {ls : List Lit} (h : Try.prog.keyLits (d + 1) 3 [c] = some ls) : ∃ n : Int, c = .int .i64 n ∧ I64 n := by
  cases c <;> simp [Program.keyLits, Try.underlying3] at h
  obtain ⟨⟨rfl, hw⟩, _⟩ := h
  exact ⟨_, rfl, i64_of hw⟩
/-- What reads as a holder is one. -/
theorem ho_inv {key : Value} {kl : Lit} (h : keyOf Try.prog tHo key = some kl) : ∃ x : Int × Int, key = hoV x.1 x.2 ∧ I64 x.1 ∧ I64 x.2 := by
  unfold keyOf at h
  rw [Try.underlying56] at h
  simp only at h
  split at h
  · rename_i hc
    simp only [Bool.and_eq_true] at hc
    cases key with
    | agg cs =>
      have hsz : cs.size = 2 := by
        have := hc.2
        simpa [Value.formed, Try.underlying56, cells_ho] using this
      obtain ⟨l⟩ := cs
      match l, hsz with
      | [c0, c1], _ =>
        obtain ⟨n, hn⟩ := sized_types
        rw [hn] at h
        simp only [Value.cells, Option.map_eq_some_iff] at h
        obtain ⟨ls, hls, _⟩ := h
        obtain ⟨l00, l01, h0, h1⟩ := keyLits_ho_parts (c0 := c0) (c1 := c1) hls
        obtain ⟨x, rfl, hx⟩ := keyLits_int_inv h0
        obtain ⟨y, rfl, hy⟩ := keyLits_int_inv h1
        exact ⟨(x, y), rfl, hx, hy⟩
    | _ =>
      have := hc.2
      simp [Value.formed, Try.underlying56] at this
  · cases h
/-! ### Looked up, and what is laid in -/
section
variable {w : World} {b n : Nat} {D : DataW Value}
theorem look_ho {a o : Int} {v : Value} (h : w.ownsMap Try.prog tHo asIs b n D) (ha : I64 a) (ho : I64 o) (hv : D.atKey (kB a o) (.held (.int .i64 0)) = .held v) :
    (Instr.lookup tMb (.map (some b)) (hoV a o) false).run Try.prog w = .ok v w := by
  obtain ⟨u, ps, hr, hu⟩ := h.lookup lawH Try.underlying41 (zero_i64 w) (show asIs (.int .i64 0) = some (.held (.int .i64 0), []) from rfl) (kB_is ha ho)
  have := asIs_inv hu
  rw [hv] at this
  cases this
  exact hr
theorem keyS {s : ByteArray} (hs : s.size ≤ maxLen) : keyOf Try.prog 9 (.string s) = some (.string s.data.toList) := WideMaps.keyOf_string_mk Try.underlying9 hs
theorem look_po {s : ByteArray} {v : Value} (c : Bool) (h : w.ownsMap Try.prog 9 asIs b n D) (hs : s.size ≤ maxLen) (hv : D.atKey (.string s.data.toList) (.held poZ) = .held v) :
    (Instr.lookup tMp (.map (some b)) (.string s) c).run Try.prog w = .ok (if c then .tuple #[v, .bool (Maps.has D (.string s.data.toList))] else v) w := by
  cases c with
  | false =>
    obtain ⟨u, ps, hr, hu⟩ := h.lookup lawS Try.underlying40 (zero_post w) (show asIs poZ = some (.held poZ, []) from rfl) (keyS hs)
    have := asIs_inv hu
    rw [hv] at this
    cases this
    exact hr
  | true =>
    obtain ⟨u, ps, hr, hu⟩ := h.look_ok lawS Try.underlying40 (zero_post w) (show asIs poZ = some (.held poZ, []) from rfl) (keyS hs)
    have := asIs_inv hu
    rw [hv] at this
    cases this
    exact hr
theorem put_ho {a o : Int} (v : Value) (h : w.ownsMap Try.prog tHo asIs b n D) (hn : n < maxLen) (ha : I64 a) (ho : I64 o) :
    ∃ w', (Instr.mapUpdate tMb (.map (some b)) (hoV a o) v).run Try.prog w = .ok () w' ∧ w'.ownsMap Try.prog tHo asIs b (n + 1) (D.put (kB a o) (.held v)) ∧ w.grownBy w' (some b) :=
  h.update lawH Try.underlying41 hn (kB_is ha ho) (show asIs v = some (.held v, []) from rfl)
theorem put_po {s : ByteArray} (v : Value) (h : w.ownsMap Try.prog 9 asIs b n D) (hn : n < maxLen) (hs : s.size ≤ maxLen) :
    ∃ w', (Instr.mapUpdate tMp (.map (some b)) (.string s) v).run Try.prog w = .ok () w' ∧ w'.ownsMap Try.prog 9 asIs b (n + 1) (D.put (.string s.data.toList) (.held v)) ∧ w.grownBy w' (some b) :=
  h.update lawS Try.underlying40 hn (keyS hs) (show asIs v = some (.held v, []) from rfl)
end
theorem kB_key (a o : Int) : WideAt.IsKeyLit (kB a o) := trivial
theorem kS_key (s : List UInt8) : WideAt.IsKeyLit (.string s) := trivial
/-- What the map of balances says: of each holder what f says. -/
def Bals (D : DataW Value) (f : Int → Int → Int) : Prop := ∀ a o, I64 a → I64 o → D.atKey (kB a o) (.held (.int .i64 0)) = .held (.int .i64 (f a o))
/-- A map of what has changed: just the accounts d and c, of the orders that are told. -/
def Moved (D : DataW Value) (d c : Int) (os : List Int) (f : Int → Int → Int) : Prop :=
  ∀ a o, I64 a → I64 o → (Maps.has D (kB a o) = decide ((a = d ∨ a = c) ∧ o ∈ os)) ∧ ∀ z, (a = d ∨ a = c) ∧ o ∈ os → D.atKey (kB a o) z = .held (.int .i64 (f a o))
theorem Moved.nil (d c : Int) (f : Int → Int → Int) : Moved (.map []) d c [] f := fun a o _ _ => ⟨by simp [Maps.has], fun z h => by simp at h⟩
theorem Moved.step {D : DataW Value} {d c q : Int} {os : List Int} {f : Int → Int → Int} (h : Moved D d c os f) (hm : Maps.IsMap D) (hd : I64 d) (hc : I64 c) (hq : I64 q) (hn : d ≠ c) {x y : Int} (hx : x = f d q) (hy : y = f c q) :
    Moved ((D.put (kB d q) (.held (.int .i64 x))).put (kB c q) (.held (.int .i64 y))) d c (os ++ [q]) f := by
  subst hx hy
  intro a o ha ho
  obtain ⟨h1, h2⟩ := h a o ha ho
  by_cases e1 : kB a o = kB c q
  · obtain ⟨rfl, rfl⟩ := kB_inj ha ho hc hq e1
    refine ⟨?_, fun z _ => ?_⟩
    · rw [Maps.has_put_same (hm.put _ _) (kB_key _ _)]; simp
    · rw [Maps.atKey_put_same (hm.put _ _) (kB_key _ _)]
  · have n1 : ¬ (a = c ∧ o = q) := fun ⟨e, e'⟩ => e1 (by rw [e, e'])
    rw [Maps.has_put_other e1]
    by_cases e2 : kB a o = kB d q
    · obtain ⟨rfl, rfl⟩ := kB_inj ha ho hd hq e2
      refine ⟨?_, fun z _ => ?_⟩
      · rw [Maps.has_put_same hm (kB_key _ _)]; simp
      · rw [Maps.atKey_put_other e1, Maps.atKey_put_same hm (kB_key _ _)]
    · have n2 : ¬ (a = d ∧ o = q) := fun ⟨e, e'⟩ => e2 (by rw [e, e'])
      rw [Maps.has_put_other e2, h1]
      have e3 : ((a = d ∨ a = c) ∧ o ∈ os ++ [q]) ↔ ((a = d ∨ a = c) ∧ o ∈ os) := by
        rw [List.mem_append, List.mem_singleton]
        constructor
        · rintro ⟨h3, h4⟩
          rcases h4 with h4 | h4
          · exact ⟨h3, h4⟩
          · rcases h3 with h3 | h3
            · exact absurd ⟨h3, h4⟩ n2
            · exact absurd ⟨h3, h4⟩ n1
        · rintro ⟨h3, h4⟩; exact ⟨h3, Or.inl h4⟩
      refine ⟨decide_eq_decide.2 e3.symm, fun z hz => ?_⟩
      rw [Maps.atKey_put_other e1, Maps.atKey_put_other e2]
      exact h2 z (e3.1 hz)
/-- What a map of balances says when what has changed is laid in. -/
theorem Bals.laid {D Dm D' : DataW Value} {d c : Int} {os : List Int} {f g : Int → Int → Int} (h : Bals D f) (hm : Moved Dm d c os g) (hD : ∀ k z, D'.atKey k z = if Maps.has Dm k = true then Dm.atKey k z else D.atKey k z)
    (hg : ∀ a o, ¬ ((a = d ∨ a = c) ∧ o ∈ os) → f a o = g a o) : Bals D' g := by
  intro a o ha ho
  obtain ⟨h1, h2⟩ := hm a o ha ho
  rw [hD, h1]
  by_cases hc : (a = d ∨ a = c) ∧ o ∈ os
  · rw [if_pos (decide_eq_true hc), h2 _ hc]
  · rw [if_neg (by simpa using hc), h a o ha ho, hg a o hc]
/-- What the map of postings says. -/
def Posts (D : DataW Value) (L : List PI) : Prop :=
  (∀ s : ByteArray, s.size ≤ maxLen → Maps.has D (.string s.data.toList) = (idOf (pms L) s.data.toList).isSome) ∧ ∀ (j : Nat) (x : PI), L[j]? = some x → D.atKey (.string x.s.data.toList) (.held poZ) = .held x.val
theorem Posts.nil : Posts (.map []) [] := ⟨fun s _ => rfl, fun j x h => by simp at h⟩
theorem Posts.put {D : DataW Value} {L : List PI} {p : PI} (h : Posts D L) (hm : Maps.IsMap D) (hi : idOf (pms L) p.s.data.toList = none) : Posts (D.put (.string p.s.data.toList) (.held p.val)) (L ++ [p]) := by
  have e : pms (L ++ [p]) = pms L ++ [p.pm] := by unfold pms; rw [List.map_append]; rfl
  refine ⟨fun s hs => ?_, fun j x hx => ?_⟩
  · by_cases e1 : s.data.toList = p.s.data.toList
    · rw [e1, Maps.has_put_same hm (kS_key _), e]
      unfold idOf at hi ⊢
      rw [List.find?_append, hi]
      simp [PI.pm]
    · rw [Maps.has_put_other (fun h => e1 (by injection h)), h.1 s hs, e]
      unfold idOf
      rw [List.find?_append]
      have : (p.pm.id == s.data.toList) = false := by simp only [PI.pm, beq_eq_false_iff_ne, ne_eq]; exact fun h => e1 h.symm
      simp [this]
  · by_cases hj : j < L.length
    · rw [List.getElem?_append_left hj] at hx
      have hne : x.s.data.toList ≠ p.s.data.toList := by
        have := id_none hi x.pm (List.mem_map.2 ⟨x, List.mem_of_getElem? hx, rfl⟩)
        exact this
      rw [Maps.atKey_put_other (fun h => hne (by injection h))]
      exact h.2 j x hx
    · rw [List.getElem?_append_right (by omega)] at hx
      have : j - L.length = 0 := by
        have := (List.getElem?_eq_some_iff.1 hx).1
        simp at this; exact this
      rw [this] at hx
      simp at hx; subst hx
      rw [Maps.atKey_put_same hm (kS_key _)]
end Go.Proofs.Ytffipjhpoaalhaa
