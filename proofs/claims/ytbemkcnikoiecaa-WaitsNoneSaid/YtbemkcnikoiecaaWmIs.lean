
/- The program's waits, as a map by their keys: what it says of a list of waits. -/
import Derived.Test.YtbemkcnikoiecaaKmMap
import Derived.Test.YtbemkcnikoiecaaWtRefK
import Derived.Sort.KeysCollected
set_option linter.unusedVariables false
namespace Go.Proofs.Ytbemkcnikoiecaa
open Go.ChangeShapes Go.WideShapes Go.ChangeAt Go.RowKit Ky Km
namespace Wt
/-! ### Found by a key -/
def fdW (l : List W5) (o d : Int) : Option W5 := l.find? fun x => sameK x o d
def keyW (x : W5) : Int × Int := (x.o, x.d)
def Dist (l : List W5) : Prop := (l.map keyW).Nodup
theorem Inv.dist {l : List W5} (h : Inv l) : Dist l := by
  unfold Dist
  rw [List.Nodup, List.pairwise_map]
  refine h.rise.imp fun {a b} hab e => ?_
  unfold Before at hab
  rw [less_iff] at hab
  unfold keyW at e
  simp only [Prod.mk.injEq] at e
  omega
theorem fd_mem : ∀ {l : List W5} {x : W5}, Dist l → x ∈ l → fdW l x.o x.d = some x
  | y :: l, x, hd, hx => by
    have hd' : keyW y ∉ l.map keyW ∧ Dist l := List.nodup_cons.1 hd
    unfold fdW
    rcases List.mem_cons.1 hx with rfl | h
    · exact List.find?_cons_of_pos (p := fun z => sameK z x.o x.d) (same_iff.2 ⟨rfl, rfl⟩)
    · rw [List.find?_cons_of_neg (p := fun z => sameK z x.o x.d)]
      · exact fd_mem hd'.2 h
      · intro e
        obtain ⟨e1, e2⟩ := same_iff.1 e
        refine hd'.1 (List.mem_map.2 ⟨x, h, ?_⟩)
        unfold keyW
        rw [e1, e2]
theorem fd_some {l : List W5} {o d : Int} {x : W5} (h : fdW l o d = some x) : x ∈ l ∧ x.o = o ∧ x.d = d :=
  ⟨List.mem_of_find?_eq_some h, same_iff.1 (List.find?_some (p := fun z => sameK z o d) h)⟩
theorem fd_is {l : List W5} (hd : Dist l) {o d : Int} {x : W5} : fdW l o d = some x ↔ x ∈ l ∧ x.o = o ∧ x.d = d :=
  ⟨fd_some, fun ⟨h, e1, e2⟩ => by rw [← e1, ← e2]; exact fd_mem hd h⟩
theorem fd_has {l : List W5} {o d : Int} : (fdW l o d).isSome = hasB l o d := by
  unfold fdW hasB
  rw [Bool.eq_iff_iff, List.find?_isSome, List.any_eq_true]
/-! ### Maps -/
abbrev tMw : TypeId := 48
def ApW (D : DataW Value) (l : List W5) : Prop := ∀ o d, I64 o → I64 d → At D (kK o d) ((fdW l o d).map wtV)
def KeysOk (l : List W5) : Prop := ∀ x ∈ l, I64 x.o ∧ I64 x.d
theorem i64_key {o d : Int} (h : Chk o d) : I64 o ∧ I64 d := by
  obtain ⟨h1, h2, h3, h4⟩ := h
  unfold I64 top
  omega
theorem Inv.keysOk {l : List W5} (h : Inv l) : KeysOk l := fun x hx => i64_key (h.ok x hx).key
theorem apW_nil : ApW (.map []) [] := fun o d _ _ => at_nil _
/-- Laid in: a wait in the place of the one with its key. -/
theorem ApW.put {D : DataW Value} {l l' : List W5} {y : W5} (h : ApW D l) (hm : Maps.IsMap D) (hd : Dist l) (hd' : Dist l') (iy : I64 y.o ∧ I64 y.d) (hl : ∀ x, x ∈ l' ↔ x = y ∨ (x ∈ l ∧ ¬ (x.o = y.o ∧ x.d = y.d))) : ApW (D.put (kK y.o y.d) (.held (wtV y))) l' := by
  intro o d ho hdd
  by_cases e : o = y.o ∧ d = y.d
  · obtain ⟨rfl, rfl⟩ := e
    rw [(fd_is hd').2 ⟨(hl y).2 (Or.inl rfl), rfl, rfl⟩]
    exact At.put_same hm (key_kK _ _)
  · have ef : fdW l' o d = fdW l o d := by
      apply Option.ext
      intro x
      rw [fd_is hd', fd_is hd, hl]
      constructor
      · rintro ⟨rfl | ⟨hx, _⟩, e1, e2⟩
        · exact absurd ⟨e1.symm, e2.symm⟩ e
        · exact ⟨hx, e1, e2⟩
      · rintro ⟨hx, rfl, rfl⟩
        exact ⟨Or.inr ⟨hx, e⟩, rfl, rfl⟩
    rw [ef]
    exact (h o d ho hdd).put_other fun hk => e (kK_inj ho hdd iy.1 iy.2 hk)
/-- Taken out. -/
theorem ApW.del {D : DataW Value} {l : List W5} {p q : Int} (h : ApW D l) (hd : Dist l) (ip : I64 p) (iq : I64 q) : ApW (D.del (kK p q)) (stopL l p q) := by
  intro o d ho hdd
  have hd' : Dist (stopL l p q) := List.Nodup.sublist ((List.filter_sublist).map keyW) hd
  by_cases e : o = p ∧ d = q
  · obtain ⟨rfl, rfl⟩ := e
    have : fdW (stopL l o d) o d = none := by
      cases hf : fdW (stopL l o d) o d with
      | none => rfl
      | some x =>
        obtain ⟨h1, h2⟩ := fd_some hf
        exact absurd h2 (stop_none x h1)
    rw [this]
    exact At.del_same trivial
  · have ef : fdW (stopL l p q) o d = fdW l o d := by
      apply Option.ext
      intro x
      rw [fd_is hd', fd_is hd]
      constructor
      · rintro ⟨hx, e1, e2⟩
        exact ⟨(List.mem_filter.1 hx).1, e1, e2⟩
      · rintro ⟨hx, rfl, rfl⟩
        refine ⟨List.mem_filter.2 ⟨hx, ?_⟩, rfl, rfl⟩
        cases hs : sameK x p q with
        | false => rfl
        | true => exact absurd (same_iff.1 hs) e
    rw [ef]
    exact (h o d ho hdd).del_other fun hk => e (kK_inj ho hdd ip iq hk)
set_option maxRecDepth 100000 in
/-- As many entries as waits. -/
theorem ApW.size {w : World} {b n : Nat} {D : DataW Value} {l : List W5} (h : ApW D l) (hown : w.ownsMap Try.prog tKy asIs b n D) (hd : Dist l) (hk : KeysOk l) : Maps.size D = l.length := by
  obtain ⟨es, rfl, hpw, _⟩ := hown.entries lawKy
  obtain ⟨es', he', hko⟩ := hown.keysOf
  cases he'
  have n1 : (es.map (·.1)).Nodup := by
    rw [List.Nodup, List.pairwise_map]
    exact hpw
  have n2 : (l.map fun x => kK x.o x.d).Nodup := by
    rw [List.Nodup, List.pairwise_map]
    have hd2 := hd
    unfold Dist at hd2
    rw [List.Nodup, List.pairwise_map] at hd2
    refine hd2.imp_of_mem fun {a b} ha hb hab e => hab ?_
    obtain ⟨a1, a2⟩ := hk a ha
    obtain ⟨b1, b2⟩ := hk b hb
    obtain ⟨e1, e2⟩ := kK_inj a1 a2 b1 b2 e
    unfold keyW
    rw [e1, e2]
  have hp : (es.map (·.1)).Perm (l.map fun x => kK x.o x.d) := by
    refine (List.perm_ext_iff_of_nodup n1 n2).2 fun k => ?_
    constructor
    · intro hk1
      obtain ⟨p, hp, rfl⟩ := List.mem_map.1 hk1
      obtain ⟨v, hv⟩ := hko p hp
      obtain ⟨x, rfl, i1, i2⟩ := ky_inv hv
      have ek : p.1 = kK x.1 x.2 := by
        have := kK_is i1 i2
        rw [hv] at this
        exact Option.some.inj this
      have hA := h x.1 x.2 i1 i2
      have hh : Maps.has (.map es) (kK x.1 x.2) = true := List.any_eq_true.2 ⟨p, hp, by rw [ek]; unfold kK; simp [Lit.sameKey]⟩
      cases hf : fdW l x.1 x.2 with
      | none =>
        rw [hf] at hA
        have := hA.1
        rw [hh] at this
        cases this
      | some y =>
        obtain ⟨h1, h2, h3⟩ := fd_some hf
        exact List.mem_map.2 ⟨y, h1, by rw [h2, h3, ek]⟩
    · intro hk1
      obtain ⟨y, hy, rfl⟩ := List.mem_map.1 hk1
      obtain ⟨i1, i2⟩ := hk y hy
      have hA := h y.o y.d i1 i2
      rw [fd_mem hd hy] at hA
      obtain ⟨p, hp, e⟩ := List.any_eq_true.1 hA.1
      have e2 : p.1 = kK y.o y.d := WideAt.sameKey_eq e
      exact List.mem_map.2 ⟨p, hp, e2⟩
  have := hp.length_eq
  simpa [Maps.size_eq] using this
/-! ### The lists that the calls come to -/
theorem mem_put {l : List W5} {y x : W5} (hc : checkK y.o y.d = true) : x ∈ putL l y ↔ x = y ∨ (x ∈ l ∧ ¬ (x.o = y.o ∧ x.d = y.d)) := by
  unfold putL
  rw [if_pos hc, ins_mem]
  unfold stopL
  rw [List.mem_filter]
  have : (!sameK x y.o y.d) = true ↔ ¬ (x.o = y.o ∧ x.d = y.d) := by
    rw [← same_iff]
    cases sameK x y.o y.d <;> simp
  rw [this]
theorem dist_keys {l l' : List W5} (h : Dist l) (e : l'.map keyW = l.map keyW) : Dist l' := by
  unfold Dist
  rw [e]
  exact h
theorem keys_tick (m : Int) (l : List W5) : (l.map (tick1 m)).map keyW = l.map keyW := by
  rw [List.map_map]
  refine List.map_congr_left fun x _ => ?_
  obtain ⟨h1, h2⟩ := tick1_key m x
  show ((tick1 m x).o, (tick1 m x).d) = (x.o, x.d)
  rw [h1, h2]
/-- On the way through a tick. -/
theorem tick_mid {m : Int} {pre rest : List W5} {x : W5} (hd : Dist (pre ++ x :: rest)) :
    Dist (pre.map (tick1 m) ++ x :: rest) ∧ Dist ((pre ++ [x]).map (tick1 m) ++ rest) ∧
    ∀ y, y ∈ (pre ++ [x]).map (tick1 m) ++ rest ↔ y = tick1 m x ∨ (y ∈ pre.map (tick1 m) ++ x :: rest ∧ ¬ (y.o = (tick1 m x).o ∧ y.d = (tick1 m x).d)) := by
  have d1 : Dist (pre.map (tick1 m) ++ x :: rest) := dist_keys hd (by rw [List.map_append, keys_tick, List.map_append])
  have d2 : Dist ((pre ++ [x]).map (tick1 m) ++ rest) := dist_keys hd (by rw [List.map_append, keys_tick]; simp)
  refine ⟨d1, d2, fun y => ?_⟩
  obtain ⟨k1, k2⟩ := tick1_key m x
  have e : (pre ++ [x]).map (tick1 m) ++ rest = pre.map (tick1 m) ++ tick1 m x :: rest := by simp
  rw [e] at d2 ⊢
  constructor
  · intro hy
    by_cases ey : y = tick1 m x
    · exact Or.inl ey
    · have hy2 : y ∈ pre.map (tick1 m) ++ x :: rest := by
        rcases List.mem_append.1 hy with h | h
        · exact List.mem_append.2 (Or.inl h)
        · rcases List.mem_cons.1 h with h | h
          · exact absurd h ey
          · exact List.mem_append.2 (Or.inr (List.mem_cons_of_mem _ h))
      refine Or.inr ⟨hy2, fun ⟨e1, e2⟩ => ey ?_⟩
      have f1 := fd_mem d2 hy
      rw [e1, e2] at f1
      have f2 := fd_mem d2 (x := tick1 m x) (by simp)
      rw [f2] at f1
      exact (Option.some.inj f1).symm
  · rintro (rfl | ⟨hy, hn⟩)
    · simp
    · rcases List.mem_append.1 hy with h | h
      · exact List.mem_append.2 (Or.inl h)
      · rcases List.mem_cons.1 h with h | h
        · subst h
          exact absurd ⟨k1.symm, k2.symm⟩ hn
        · exact List.mem_append.2 (Or.inr (List.mem_cons_of_mem _ h))
end Wt
end Go.Proofs.Ytbemkcnikoiecaa
