
/- The contract of csv.Parse. -/
import Derived.Test.YtnkcbefamajghaaDoorCsvC
import Derived.Test.YtnkcbefamajghaaDoorCsvMem
import Derived.Deep.LoopGhost
import Derived.WalkMore
import Derived.Scope
set_option linter.unusedVariables false
namespace Go.Proofs.YtnkcbefamajghaaDoor
open Go.ChangeShapes Go.WideShapes Go.ChangeAt Go.RowKit Go.Shelf Go.Proofs Csv

/-- Rows that a call made: as its own. -/
def OwnTable (B : Nat) (w : World) (v : Value) (L : List (List Bs)) : Prop := ∃ (B' : Nat) (vr : Value) (row : List Bs), B ≤ B' ∧ Built w B' v vr L row
theorem OwnTable.rows {B : Nat} {w : World} {v : Value} {L : List (List Bs)} (h : OwnTable B w v L) : RowsAt w v L := by
  obtain ⟨_, _, _, _, h⟩ := h
  exact h.rows
theorem OwnTable.keeps {B : Nat} {w w' : World} {v : Value} {L : List (List Bs)} (h : OwnTable B w v L) (k : Keeps w w') : OwnTable B w' v L := by
  obtain ⟨b, x, y, hb, h⟩ := h
  exact ⟨b, x, y, hb, h.keeps k⟩
/-- What is told of a text. -/
def ParseOut (l : Bs) (w : World) (e : Ending) (w' : World) : Prop :=
  Keeps w w' ∧ ∃ (v : Value) (line col code : Int), e = .returned (.tuple #[v, .agg #[.int .i64 line, .int .i64 col, .int .i64 code]]) ∧
    ((∃ L, run st0 0 l = .rows L ∧ OwnTable w.heap.size w' v L ∧ line = 0 ∧ col = 0 ∧ code = 0) ∨
     (∃ p c : Nat, run st0 0 l = .bad p c ∧ v = .slice none 0 0 ∧ line = (lineOf (l.take p) : Nat) ∧ col = (colOf (l.take p) : Nat) ∧ code = (c : Nat)))

/-- The block of the second result, at rest. -/
def Rest (w : World) (b : Nat) : Prop := w.heap[b]? = some (.cells #[.int .i64 0, .int .i64 0, .int .i64 0] 32 (0, 0))
theorem Rest.keeps {w w' : World} {b : Nat} (h : Rest w b) (k : Keeps w w') : Rest w' b := by
  unfold Rest at *
  rw [k.block b (Array.getElem?_eq_some_iff.1 h).1]; exact h
theorem Rest.lt {w : World} {b : Nat} (h : Rest w b) : b < w.heap.size := (Array.getElem?_eq_some_iff.1 h).1
theorem Rest.other {w w' : World} {b : Nat} {row : Option Nat} (h : Rest w b) (g : w.grownBy w' row) (hne : ∀ k, row = some k → b + 1 ≤ k) : Rest w' b := by
  unfold Rest at *
  rw [g.block b (Array.getElem?_eq_some_iff.1 h).1 (fun e => by have := hne b e.symm; omega)]; exact h

theorem Rest.cells {w : World} {b : Nat} (h : Rest w b) : (w.cell? ⟨b, 0, none⟩ = some (.int .i64 0) ∧ w.cell? ⟨b, 1, none⟩ = some (.int .i64 0) ∧ w.cell? ⟨b, 2, none⟩ = some (.int .i64 0)) ∧ (w.frozen? ⟨b, 0, none⟩ = false ∧ w.frozen? ⟨b, 1, none⟩ = false ∧ w.frozen? ⟨b, 2, none⟩ = false) := by
  unfold Rest at h
  simp [World.cell?, World.frozen?, h]

/-- The three cells of a block, set. -/
abbrev set3 (w : World) (b : Nat) (x y z : Value) : World := ((w.setCell ⟨b, 0, none⟩ x).setCell ⟨b, 1, none⟩ y).setCell ⟨b, 2, none⟩ z
theorem Rest.set {w : World} {b : Nat} (h : Rest w b) (x y z : Value) : (set3 w b x y z).cell? ⟨b, 0, none⟩ = some x ∧ (set3 w b x y z).cell? ⟨b, 1, none⟩ = some y ∧ (set3 w b x y z).cell? ⟨b, 2, none⟩ = some z := by
  unfold Rest at h
  simp [World.cell?, World.setCell, h, Array.getElem?_modify]
theorem set3_grown (w : World) (b : Nat) (x y z : Value) : w.grownBy (set3 w b x y z) (some b) :=
  ⟨rfl, rfl, rfl, by simp [World.setCell], fun k _ hk => by
    have hk' : k ≠ b := fun e => hk (by rw [e])
    rw [Below.heap_setCell _ _ _ _ hk', Below.heap_setCell _ _ _ _ hk', Below.heap_setCell _ _ _ _ hk']⟩
theorem set3_below {B : Nat} {a w : World} (h : Below B a w) {b : Nat} (hb : B ≤ b) (x y z : Value) : Below B a (set3 w b x y z) :=
  ((h.setCell (p := ⟨b, 0, none⟩) hb x).setCell (p := ⟨b, 1, none⟩) hb y).setCell (p := ⟨b, 2, none⟩) hb z
theorem Built.other {w w' : World} {b : Nat} {vR vr : Value} {L : List (List Bs)} {row : List Bs} (h : Built w (b + 1) vR vr L row) (hg : w.grownBy w' (some b)) : Built w' (b + 1) vR vr L row := by
  obtain ⟨vals, h1, h2, h3⟩ := h
  have hn : ∀ {e : TypeId} {v : Value} {n : Nat} {xs : List Value}, w.ownsRow (b + 1) e 1 v n xs → v.ownBlock = none ∨ v.ownBlock ≠ some b := fun {e v n xs} ho => by
    cases hv : v.ownBlock with
    | none => exact Or.inl rfl
    | some g => right; have := (ho.lt g hv).1; simp; omega
  refine ⟨vals, h1.kept hg (hn h1), h2.kept hg (hn h2), fun j r hr => ?_⟩
  obtain ⟨v', e1, e2, e3⟩ := h3 j r hr
  exact ⟨v', e1, e2.kept hg (hn e2), e3⟩

set_option maxHeartbeats 4000000 in
set_option maxRecDepth 100000 in
theorem parse_any (s : ByteArray) (w : World) (hs : s.size ≤ 65536) (hm : HasMax w) :
    Calls Tryd.prog 19 #[.string s] w (ParseOut s.data.toList w) := by
  have hinfoS : (Tryd.prog.info? tS).map (fun i => (i.zero, i.size, i.bytes)) = some (some (.string ByteArray.empty), 1, 16) := by kernel_rfl
  have hinfoR : (Tryd.prog.info? tR).map (fun i => (i.zero, i.size, i.bytes)) = some (some (.slice none 0 0), 1, 24) := by kernel_rfl
  obtain ⟨iS, hiS, hS⟩ := Option.map_eq_some_iff.1 hinfoS
  obtain ⟨iR, hiR, hR⟩ := Option.map_eq_some_iff.1 hinfoR
  simp only [Prod.mk.injEq] at hS hR
  obtain ⟨hzS1, hzS2, hzS3⟩ := hS
  obtain ⟨hzR1, hzR2, hzR3⟩ := hR
  have HIS := Lib.hid hiS
  have HIR := Lib.hid hiR
  have HZ := Lib.hid (And.intro hzS1 (And.intro hzS2 (And.intro hzS3 (And.intro hzR1 (And.intro hzR2 hzR3)))))
  clear hinfoS hinfoR hiS hiR hzS1 hzS2 hzS3 hzR1 hzR2 hzR3
  have HM := Lib.hid hm
  have hlong : decide ((65536 : Int) < (s.size : Int)) = false := decide_eq_false (by omega)
  clear hm
  go_enter Tryd.func19, Tryd.ntmps19
  go_wp2
  go_step3
  go_wp2
  go_step3
  go_wp2
  clear hlong
  go_loopg [2, 4] s.size (fun g vR a wx => ∃ (p : Nat) (L : List (List Bs)), p ≤ s.size ∧ s.size ≤ p + g ∧ a = .int .i64 p ∧ L.length ≤ p ∧ run st0 0 s.data.toList = run ⟨0, [], [], L⟩ p (s.data.toList.drop p) ∧
    Built wx (w.heap.size + 1) vR (.slice none 0 0) L [] ∧ Rest wx w.heap.size ∧ Below w.heap.size w wx)
  case atStart => exact ⟨0, [], by omega, by omega, rfl, by simp, rfl, Built.nil _ _, heap_alloc_new w _, (Below.refl _ _).alloc (Nat.le_refl _) _⟩
  case round =>
    obtain ⟨p, L, hp, hpg, rfl, hLp, hrun, hbu, hre, hbe⟩ := hrel
    have HR := Lib.hid hrun
    have HU := Lib.hid hbu
    have HE := Lib.hid hre
    have HB := Lib.hid hbe
    clear hrun hbu hre hbe
    by_cases hlt : p < s.size
    · obtain ⟨g, rfl⟩ : ∃ g, gk = g + 1 := ⟨gk - 1, by omega⟩
      go_wp2
      go_loopg [2, 4, 5] s.size (fun g2 vR a vr wx => ∃ (q : Nat) (row : List Bs), q ≤ s.size ∧ p ≤ q ∧ (q < s.size ∨ row ≠ []) ∧ s.size ≤ q + g2 ∧ a = .int .i64 q ∧ row.length ≤ q ∧
        run st0 0 s.data.toList = run ⟨0, [], row, L⟩ q (s.data.toList.drop q) ∧ Built wx (w.heap.size + 1) vR vr L row ∧ Rest wx w.heap.size ∧ Below w.heap.size w wx)
      case atStart => exact ⟨p, [], by omega, by omega, Or.inl hlt, by omega, rfl, by simp, HR.out, HU.out, HE.out, HB.out⟩
      case round =>
        obtain ⟨q, row, hq, hpq, hne, hqg, rfl, hrq, hrun, hbu, hre, hbe⟩ := hrel
        clear HR HU HE HB
        have HR := Lib.hid hrun
        have HU := Lib.hid hbu
        have HE := Lib.hid hre
        have HB := Lib.hid hbe
        have HNE := Lib.hid hne
        clear hrun hbu hre hbe hne
        go_wp2_with fail
        refine (csRead_any s q _ hs hq (HM.out.keeps HB.out)).mono ?_
        rintro e w2 ⟨f, k, code, rfl, hrd, hk⟩
        have HRD := Lib.hid hrd
        have HK := Lib.hid hk
        have HE2 := Lib.hid (HE.out.keeps hk)
        have hkl := hrd.le
        rw [List.length_drop, len_data] at hkl
        clear hrd hk
        by_cases hcode : code = 0
        · subst hcode
          obtain ⟨c, hkc, hc, hc44, hc10⟩ := rd_step HRD.out
          have HU2 := Lib.hid (HU.out.keeps HK.out)
          obtain ⟨j, hj⟩ : ∃ j, q + k = j := ⟨_, rfl⟩
          have hJ : (q : Int) + (k : Int) = (j : Int) := by omega
          have hjs : j < s.size := by
            have := (List.getElem?_eq_some_iff.1 hkc).1
            rw [List.length_drop, len_data] at this; omega
          have hx : s[j]'hjs = c := by
            rw [List.getElem?_drop, hj] at hkc
            have := Lib.data_getElem? s j hjs
            rw [this] at hkc
            exact Option.some.inj hkc
          have hx2 : s[(j : Int).toNat]'(by simpa using hjs) = c := by simpa using hx
          have hjs2 : (j : Int) < (s.size : Int) := by omega
          have HJ := Lib.hid hj
          have H44 := Lib.hid hc44
          have H10 := Lib.hid hc10
          have hown := HU2.out.len
          have hqj : q ≤ j := by omega
          clear hkc hc44 hc10 hj
          rcases hc with rfl | rfl
          · go_wp2_with (at_builtin; refine wpList_append_own_at _ rfl _ _ tR rfl (w.heap.size + 1) tS iS (.string ByteArray.empty) 1 16 Tryd.underlying43 HIS.out HZ.out.1 HZ.out.2.1 HZ.out.2.2.1 rfl (by decide) _ _ _ rfl (hown.alloc _) ⟨w2.heap.size, 0, none⟩ 1 1 [sv f] rfl rfl ?c1 ?c2 ?c3 ?c4 ?c5 ?_)
            case c1 => exact cell_one_new _ _ _
            case c2 => intro u hu; simp at hu; subst hu; rfl
            case c3 => unfold maxLen; omega
            case c4 => omega
            case c5 => have := HE2.out.lt; simp; omega
            intro vr' w4 hown4 hgrow hnil hat
            obtain ⟨gr, cr, hvr⟩ : ∃ gr cr, vr' = .slice (some ⟨gr, 0, none⟩) (row.length + 1) cr := by
              rcases hown4.2 with ⟨_, h0⟩ | ⟨g, cap, cur, h0, _⟩
              · omega
              · exact ⟨g, cap, h0⟩
            have HU4 := Lib.hid ((HU2.out.keeps ((Below.refl _ w2).alloc (Nat.le_refl _) _)).field hown4 hgrow (by rcases hat with h | h; exact Or.inl h; exact Or.inr (by rw [h]; simp)))
            have HE4 := Lib.hid ((HE2.out.keeps ((Below.refl _ w2).alloc (Nat.le_refl _) _)).other hgrow HU2.out.below')
            have hb2 := HB.out.trans (HK.out.mono HB.out.size)
            have HB4 := Lib.hid (Below.grown (hb2.alloc hb2.size _) hgrow (by have := hb2.size; simp; omega) (fun k hk => by have := HU2.out.below' k hk; omega))
            have HD := Lib.hid (show (s.data.toList.drop q).drop (k + 1) = s.data.toList.drop (j + 1) from by rw [List.drop_drop]; congr 1; have := HJ.out; omega)
            have HQ := Lib.hid (show q + k + 1 = j + 1 from by have := HJ.out; omega)
            clear hown4 hgrow hnil hat hb2 hown
            subst hvr
            go_wp2
            go_roundg (gk - 1)
            case measure => omega
            case rel =>
              refine ⟨j + 1, row ++ [f], by omega, by omega, Or.inr (by simp), by omega, by go_num, by simp; omega, ?_, HU4.out, HE4.out, HB4.out⟩
              rw [HR.out, H44.out (by trivial) q row L, HD.out, HQ.out]
          · go_wp2_with (at_builtin; refine wpList_append_own_at _ rfl _ _ tR rfl (w.heap.size + 1) tS iS (.string ByteArray.empty) 1 16 Tryd.underlying43 HIS.out HZ.out.1 HZ.out.2.1 HZ.out.2.2.1 rfl (by decide) _ _ _ rfl (hown.alloc _) ⟨w2.heap.size, 0, none⟩ 1 1 [sv f] rfl rfl ?c1 ?c2 ?c3 ?c4 ?c5 ?_)
            case c1 => exact cell_one_new _ _ _
            case c2 => intro u hu; simp at hu; subst hu; rfl
            case c3 => unfold maxLen; omega
            case c4 => omega
            case c5 => have := HE2.out.lt; simp; omega
            intro vr' w4 hown4 hgrow hnil hat
            obtain ⟨gr, cr, hvr⟩ : ∃ gr cr, vr' = .slice (some ⟨gr, 0, none⟩) (row.length + 1) cr := by
              rcases hown4.2 with ⟨_, h0⟩ | ⟨g, cap, cur, h0, _⟩
              · omega
              · exact ⟨g, cap, h0⟩
            have HU4 := Lib.hid ((HU2.out.keeps ((Below.refl _ w2).alloc (Nat.le_refl _) _)).field hown4 hgrow (by rcases hat with h | h; exact Or.inl h; exact Or.inr (by rw [h]; simp)))
            have HE4 := Lib.hid ((HE2.out.keeps ((Below.refl _ w2).alloc (Nat.le_refl _) _)).other hgrow HU2.out.below')
            have hb2 := HB.out.trans (HK.out.mono HB.out.size)
            have HB4 := Lib.hid (Below.grown (hb2.alloc hb2.size _) hgrow (by have := hb2.size; simp; omega) (fun k hk => by have := HU2.out.below' k hk; omega))
            have HD := Lib.hid (show (s.data.toList.drop q).drop (k + 1) = s.data.toList.drop (j + 1) from by rw [List.drop_drop]; congr 1; have := HJ.out; omega)
            have HQ := Lib.hid (show q + k + 1 = j + 1 from by have := HJ.out; omega)
            clear hown4 hgrow hnil hat hb2 hown
            subst hvr
            obtain ⟨vals, g1, g2, g3⟩ := HU4.out.keeps ((Below.refl _ w4).alloc (Nat.le_refl _) (.cells #[.slice (some ⟨gr, 0, none⟩) (row.length + 1) cr] tR))
            have G2 := Lib.hid g2
            have G3 := Lib.hid g3
            clear g2 g3
            go_wp2_with (at_builtin; refine wpList_append_own_at _ rfl _ _ 38 rfl (w.heap.size + 1) tR iR (.slice none 0 0) 1 24 Tryd.underlying38 HIR.out HZ.out.2.2.2.1 HZ.out.2.2.2.2.1 HZ.out.2.2.2.2.2 rfl (by decide) _ _ vals rfl g1 ⟨w4.heap.size, 0, none⟩ 1 1 [.slice (some ⟨gr, 0, none⟩) (row.length + 1) cr] rfl rfl ?d1 ?d2 ?d3 ?d4 ?d5 ?_)
            case d1 => exact cell_one_new _ _ _
            case d2 => intro u hu; simp at hu; subst hu; rfl
            case d3 => unfold maxLen; omega
            case d4 => omega
            case d5 => have := HE4.out.lt; simp; omega
            intro vR' w5 hown5 hgrow hnil hat
            have HU5 : Hid (Built w5 (w.heap.size + 1) vR' (.slice none 0 0) (L ++ [row ++ [f]]) []) := built_row g1 (by simpa using G2.out) G3.out hown5 hgrow
            have HE5 := Lib.hid ((HE4.out.keeps ((Below.refl _ w4).alloc (Nat.le_refl _) (.cells #[.slice (some ⟨gr, 0, none⟩) (row.length + 1) cr] tR))).other hgrow HU4.out.below)
            have hb4 := HB4.out
            have HB5 := Lib.hid (Below.grown (hb4.alloc hb4.size (.cells #[.slice (some ⟨gr, 0, none⟩) (row.length + 1) cr] tR)) hgrow (by have := hb4.size; simp; omega) (fun k hk => by have := HU4.out.below k hk; omega))
            clear hown5 hgrow hnil hat g1 hb4
            go_wp2
            go_roundg g
            case measure => omega
            case rel =>
              refine ⟨j + 1, L ++ [row ++ [f]], by omega, by omega, by go_num, by simp; omega, ?_, HU5, HE5.out, HB5.out⟩
              rw [HR.out, H10.out (by trivial) q row L, HD.out, HQ.out]
        · have hc1 : ((code : Int) != 0) = true := by simp [bne]; omega
          have hc2 : ((code : Int) == 0) = false := by simp; omega
          have HC := Lib.hid hcode
          clear hcode
          obtain ⟨⟨c0, c1, c2⟩, f0, f1, f2⟩ := HE2.out.cells
          have hbl := HE2.out.lt
          go_wp2_with fail
          refine (reject_any s (q + k) code _ hs (by omega)).mono ?_
          rintro e w3 ⟨rfl, hk3⟩
          have HE3 := Lib.hid (HE2.out.keeps hk3)
          have HK3 := Lib.hid hk3
          clear hk3 c0 c1 c2 f0 f1 f2 hbl
          obtain ⟨⟨c0, c1, c2⟩, f0, f1, f2⟩ := HE3.out.cells
          have hbl := HE3.out.lt
          go_wp2
          obtain ⟨e0, e1, e2⟩ := HE3.out.set (.int .i64 (lineOf (s.data.toList.take (q + k)) : Nat)) (.int .i64 (colOf (s.data.toList.take (q + k)) : Nat)) (.int .i64 code)
          rw [Exit.noGoto_ret]
          refine bodyPost_ret (v := .tuple #[.slice none 0 0, .agg #[.int .i64 (lineOf (s.data.toList.take (q + k)) : Nat), .int .i64 (colOf (s.data.toList.take (q + k)) : Nat), .int .i64 code]]) (by simp [results, Tryd.results19, go_sem, e0, e1, e2]) rfl
            ⟨set3_below (HB.out.trans ((Keeps.trans HK.out HK3.out).mono HB.out.size)) (Nat.le_refl _) _ _ _, _, _, _, _, rfl, Or.inr ⟨q + k, code, ?_, rfl, rfl, rfl, rfl⟩⟩
          rw [HR.out]
          refine (HRD.out.bad HC.out).2 q row L ?_
          rcases HNE.out with h | h
          · left; rw [drop_cons h]; simp
          · right; exact h
    · obtain rfl : p = s.size := by omega
      have hz : ¬ ((s.size : Int) < (s.size : Int)) := by omega
      obtain ⟨⟨c0, c1, c2⟩, f0, f1, f2⟩ := HE.out.cells
      have hbl := HE.out.lt
      go_wp2
      have hset := HE.out.set (.int .i64 0) (.int .i64 0) (.int .i64 0)
      obtain ⟨e0, e1, e2⟩ := hset
      refine bodyPost_ret (v := .tuple #[u2, .agg #[.int .i64 0, .int .i64 0, .int .i64 0]]) (by simp [results, Tryd.results19, go_sem, e0, e1, e2]) rfl ⟨set3_below HB.out (Nat.le_refl _) _ _ _, _, _, _, _, rfl, Or.inl ⟨L, ?_, ⟨_, _, _, Nat.le_succ _, HU.out.other (set3_grown _ _ _ _ _)⟩, rfl, rfl, rfl⟩⟩
      rw [HR.out, List.drop_eq_nil_of_le (by rw [len_data]; omega)]; simp [run, fin]
end Go.Proofs.YtnkcbefamajghaaDoor
