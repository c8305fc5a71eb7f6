
/- The contracts of the document's where, Parse (layer 4). -/
import Derived.Test.YtnkcbefamajghaaDoorCsvParseC
set_option linter.unusedVariables false
namespace Go.Proofs.YtnkcbefamajghaaDoor
open Go.ChangeShapes Go.WideShapes Go.ChangeAt Go.RowKit Go.Shelf Go.Proofs Csv

theorem take_next (s : ByteArray) (k : Nat) (h : k < s.size) : s.data.toList.take (k + 1) = s.data.toList.take k ++ [s[k]] := by
  rw [List.take_succ_eq_append_getElem (by simpa using h)]; rfl

/-- A line and a column, of what stands ahead. -/
def whereW (w : World) (l : Bs) (code : Int) : World :=
  (w.alloc (.cells #[.int .i64 0, .int .i64 0, .int .i64 0] 32)).alloc (.cells #[.int .i64 (lineOf l : Nat), .int .i64 (colOf l : Nat), .int .i64 code] 32)

set_option maxHeartbeats 1000000 in
theorem rwhere_any (s : ByteArray) (p : Nat) (code : Int) (w : World) (hs : s.size ≤ 65536) (hp : p ≤ s.size) :
    Calls Tryd.prog 34 #[.string s, .int .i64 p, .int .i64 code] w fun e w' => e = .returned (.agg #[.int .i64 (lineOf (s.data.toList.take p) : Nat), .int .i64 (colOf (s.data.toList.take p) : Nat), .int .i64 code]) ∧ Keeps w w' := by
  go_enter Tryd.func34, Tryd.ntmps34
  go_wp2
  go_loopw [8] (fun i wx => ∃ (k a b : Nat), k ≤ p ∧ i = .int .i64 k ∧ a = lineOf (s.data.toList.take k) ∧ b = colOf (s.data.toList.take k) ∧
    wx = (w.alloc (.cells #[.int .i64 0, .int .i64 0, .int .i64 0] 32)).alloc (.cells #[.int .i64 a, .int .i64 b, .int .i64 code] 32)) (fun i _ => p - (intOf i).toNat)
  case atStart => exact ⟨0, 1, 1, by omega, rfl, rfl, rfl, rfl⟩
  case round =>
    obtain ⟨k, a, b, hk, rfl, ha, hb, rfl⟩ := hrel
    have hcl := col_le (s.data.toList.take k)
    have hcnt := List.count_le_length (a := (10 : UInt8)) (l := s.data.toList.take k)
    have hlen : (s.data.toList.take k).length ≤ k := List.length_take_le _ _
    have ha1 : a ≤ k + 1 := by rw [ha]; unfold lineOf; omega
    have hb1 : b ≤ k + 1 := by rw [hb]; omega
    have HA := Lib.hid ha
    have HB := Lib.hid hb
    clear ha hb hcl hcnt hlen
    by_cases hlt : k < p
    · have hks : k < s.size := by omega
      have hts := Lib.hid (take_next s k hks)
      obtain ⟨x, hx⟩ : ∃ x, s[k]'hks = x := ⟨_, rfl⟩
      have hx2 : s[(k : Int).toNat]'(by simpa using hks) = x := by simpa using hx
      rw [hx] at hts
      have hlt2 : (k : Int) < (p : Int) := by omega
      have hls := line_snoc (s.data.toList.take k) x
      have hcs := col_snoc (s.data.toList.take k) x
      rw [← hts.out, ← HA.out] at hls
      rw [← hts.out, ← HB.out] at hcs
      have HLS := Lib.hid hls
      have HCS := Lib.hid hcs
      clear hls hcs
      by_cases h10 : x = 10
      · have t : ((x.toNat : Int) == 10) = true := by rw [h10]; rfl
        have H := Lib.hid h10
        clear h10
        go_wp2
        go_roundw
        case rel => exact ⟨k + 1, a + 1, 1, by omega, by go_num, by rw [HLS.out, if_pos H.out], by rw [HCS.out, if_pos H.out], by simp⟩
        case measure => simp [intOf]; omega
      · have t : ((x.toNat : Int) == 10) = false := u8_ne (n := 10) (by decide) h10
        have H := Lib.hid h10
        clear h10
        go_wp2
        go_roundw
        case rel => exact ⟨k + 1, a, b + 1, by omega, by go_num, by rw [HLS.out, if_neg H.out]; rfl, by rw [HCS.out, if_neg H.out], by simp⟩
        case measure => simp [intOf]; omega
    · obtain rfl : k = p := by omega
      go_wp2
      refine bodyPost_ret (v := .agg #[.int .i64 a, .int .i64 b, .int .i64 code]) (by simp [results, Tryd.results34, go_sem]) rfl ⟨by rw [HA.out, HB.out], ?_⟩
      exact ((Below.refl _ _).alloc (Nat.le_refl _) _).alloc (by simp) _

/-- What a row under way says of the byte ahead. -/
def Edge (l : Bs) (k m : Nat) (row : List Bs) : Prop := (m = 0 → (row = [] ↔ (k = 0 ∨ l[k - 1]? = some 10))) ∧ (m ≠ 0 → 0 < k)
theorem Edge.start (l : Bs) : Edge l 0 0 [] := ⟨fun _ => by simp, fun h => absurd rfl h⟩
theorem Edge.within (l : Bs) (k m : Nat) (row : List Bs) (h : m ≠ 0) : Edge l (k + 1) m row := ⟨fun e => absurd e h, fun _ => by omega⟩
theorem Edge.comma {l : Bs} {k : Nat} (row : List Bs) (f : Bs) (h : l[k]? = some 44) : Edge l (k + 1) 0 (row ++ [f]) := ⟨fun _ => by simp [h], fun e => absurd rfl e⟩
theorem Edge.behind {l : Bs} {k : Nat} (h : l[k]? = some 10) : Edge l (k + 1) 0 [] := ⟨fun _ => by simp [h], fun e => absurd rfl e⟩
theorem ext_one {s : ByteArray} {k : Nat} (h : k < s.size) : s.extract k (k + 1) = ⟨#[s[k]'h]⟩ := by
  have h1 := ext_mid (s := s) (p := k) (a := [s[k]'h]) (b := (s.data.toList.drop (k + 2))) (c := 0)
  apply ByteArray.ext
  apply Array.ext'
  rw [ext_take, drop_cons h]
  simp
theorem mk_one (f : Bs) (c : UInt8) : (⟨f.toArray⟩ : ByteArray) ++ ⟨#[c]⟩ = ⟨(f ++ [c]).toArray⟩ := ByteArray.mk_append_mk _ _

set_option maxRecDepth 100000 in
set_option maxHeartbeats 8000000 in
theorem rparse_any (s : ByteArray) (w : World) (hs : s.size ≤ 65536) :
    Calls Tryd.prog 15 #[.string s] w (ParseOut s.data.toList w) := by
  have hinfoS : (Tryd.prog.info? tS).map (fun i => (i.zero, i.size, i.bytes)) = some (some (.string ByteArray.empty), 1, 16) := by kernel_rfl
  have hinfoR : (Tryd.prog.info? tR).map (fun i => (i.zero, i.size, i.bytes)) = some (some (.slice none 0 0), 1, 24) := by kernel_rfl
  obtain ⟨iS, hiS, hS⟩ := Option.map_eq_some_iff.1 hinfoS
  obtain ⟨iR, hiR, hR⟩ := Option.map_eq_some_iff.1 hinfoR
  simp only [Prod.mk.injEq] at hS hR
  obtain ⟨hzS1, hzS2, hzS3⟩ := hS
  obtain ⟨hzR1, hzR2, hzR3⟩ := hR
  have HIS := Lib.hid hiS
  have HIR := Lib.hid hiR
  have HZ := Lib.hid (And.intro hzS1 (And.intro hzS2 (And.intro hzS3 (And.intro hzR1 (And.intro hzR2 hzR3)))))
  clear hinfoS hinfoR hiS hiR hzS1 hzS2 hzS3 hzR1 hzR2 hzR3
  have hlong : decide ((65536 : Int) < (s.size : Int)) = false := decide_eq_false (by omega)
  go_enter Tryd.func15, Tryd.ntmps15
  go_wp2
  clear hlong
  go_loopg [4, 5, 6, 7, 8] s.size (fun gg vR vr vf vm vi wx => ∃ (k m : Nat) (f : Bs) (row : List Bs) (L : List (List Bs)), k + gg = s.size ∧ m ≤ 3 ∧ vi = .int .i64 k ∧ vm = .int .i64 m ∧ vf = .string ⟨f.toArray⟩ ∧
    f.length ≤ k ∧ row.length ≤ k ∧ L.length ≤ k ∧ run st0 0 s.data.toList = run ⟨m, f, row, L⟩ k (s.data.toList.drop k) ∧ Edge s.data.toList k m row ∧
    Built wx (w.heap.size + 1) vR vr L row ∧ Rest wx w.heap.size ∧ Below w.heap.size w wx)
  case atStart => exact ⟨0, 0, [], [], [], by omega, by omega, rfl, rfl, rfl, by simp, by simp, by simp, rfl, Edge.start _, Built.nil _ _, heap_alloc_new w _, (Below.refl _ _).alloc (Nat.le_refl _) _⟩
  case round =>
    obtain ⟨k, m, f, row, L, hkg, hm3, rfl, rfl, rfl, hfk, hrk, hLk, hrun, hed, hbu, hre, hbe⟩ := hrel
    have HR := Lib.hid hrun
    have HD := Lib.hid hed
    have HU := Lib.hid hbu
    have HE := Lib.hid hre
    have HB := Lib.hid hbe
    clear hrun hed hbu hre hbe
    cases gk with
    | succ g =>
      have hks : k < s.size := by omega
      have hks2 : (k : Int) < (s.size : Int) := by omega
      have hks3 : (k : Int) + 1 ≤ (s.size : Int) := by omega
      have hks4 : k + 1 ≤ s.size := by omega
      obtain ⟨c, hc⟩ : ∃ c, s[k]'hks = c := ⟨_, rfl⟩
      have hc2 : s[(k : Int).toNat]'(by simpa using hks) = c := by simpa using hc
      have HC := Lib.hid (show s.data.toList[k]? = some c from by rw [Lib.data_getElem? s k hks, hc])
      have HN := Lib.hid (show run st0 0 s.data.toList = (match Csv.step ⟨m, f, row, L⟩ c with | none => .bad k 2 | some s' => run s' (k + 1) (s.data.toList.drop (k + 1))) from by
        rw [HR.out, drop_cons hks, hc]; rfl)
      have hone := ext_one hks
      rw [hc] at hone
      have hcat := mk_one f c
      by_cases hm2 : m = 2
      · have t2 : ((m : Int) == 2) = true := by rw [hm2]; rfl
        have HM := Lib.hid hm2
        clear hm2
        by_cases h34 : c = 34
        · have t : ((c.toNat : Int) == 34) = true := by rw [h34]; rfl
          have H := Lib.hid h34
          clear h34 hone hcat
          go_wp2
          go_roundg g
          case measure => omega
          case rel =>
            refine ⟨k + 1, 3, f, row, L, by omega, by omega, by go_num, rfl, rfl, by omega, by omega, by omega, ?_, Edge.within _ _ _ _ (by omega), HU.out, HE.out, HB.out⟩
            have hN := HN.out
            simpa only [Csv.step, HM.out, H.out, if_true] using hN
        · have t : ((c.toNat : Int) == 34) = false := u8_ne (n := 34) (by decide) h34
          have H := Lib.hid h34
          clear h34
          obtain ⟨k1, hk1⟩ : ∃ k1, k1 = k + 1 := ⟨_, rfl⟩
          have hK1 : (k : Int) + 1 = (k1 : Int) := by omega
          have hk2 : k ≤ k1 := by omega
          have hk3 : k1 ≤ s.size := by omega
          rw [← hk1] at hone
          have HK1 := Lib.hid hk1
          clear hk1
          go_wp2
          go_roundg g
          case measure => omega
          case rel =>
            obtain rfl := HK1.out
            refine ⟨k + 1, 2, f ++ [c], row, L, by omega, by omega, by go_num, by rw [HM.out], rfl, by simp; omega, by omega, by omega, ?_, Edge.within _ _ _ _ (by omega), HU.out, HE.out, HB.out⟩
            have hN := HN.out
            simpa only [Csv.step, HM.out, H.out, if_true, if_false] using hN
      · have t2 : ((m : Int) == 2) = false := beq_eq_false_iff_ne.2 (by omega)
        have HM := Lib.hid hm2
        clear hm2
        by_cases h44 : c = 44
        · subst h44
          have hown := HU.out.len
          clear hone hcat
          go_wp2_with (at_builtin; refine wpList_append_own_at _ rfl _ _ tR rfl (w.heap.size + 1) tS iS (.string ByteArray.empty) 1 16 Tryd.underlying43 HIS.out HZ.out.1 HZ.out.2.1 HZ.out.2.2.1 rfl (by decide) _ _ _ rfl (hown.alloc _) ⟨wr.heap.size, 0, none⟩ 1 1 [sv f] rfl rfl ?c1 ?c2 ?c3 ?c4 ?c5 ?_)
          case c1 => exact cell_one_new _ _ _
          case c2 => intro u hu; simp at hu; subst hu; rfl
          case c3 => unfold maxLen; omega
          case c4 => omega
          case c5 => have := HE.out.lt; simp; omega
          intro vr' w4 hown4 hgrow hnil hat
          obtain ⟨gr, cr, hvr⟩ : ∃ gr cr, vr' = .slice (some ⟨gr, 0, none⟩) (row.length + 1) cr := by
            rcases hown4.2 with ⟨_, h0⟩ | ⟨g, cap, cur, h0, _⟩
            · omega
            · exact ⟨g, cap, h0⟩
          have HU4 := Lib.hid ((HU.out.keeps ((Below.refl _ wr).alloc (Nat.le_refl _) _)).field hown4 hgrow (by rcases hat with h | h; exact Or.inl h; exact Or.inr (by rw [h]; simp)))
          have HE4 := Lib.hid ((HE.out.keeps ((Below.refl _ wr).alloc (Nat.le_refl _) _)).other hgrow HU.out.below')
          have hb2 := HB.out
          have HB4 := Lib.hid (Below.grown (hb2.alloc hb2.size _) hgrow (by have := hb2.size; simp; omega) (fun k hk => by have := HU.out.below' k hk; omega))
          clear hown4 hgrow hnil hat hb2 hown
          subst hvr
          go_wp2
          go_roundg g
          case measure => omega
          case rel =>
            refine ⟨k + 1, 0, [], row ++ [f], L, by omega, by omega, by go_num, rfl, rfl, by simp, by simp; omega, by omega, ?_, Edge.comma _ _ HC.out, HU4.out, HE4.out, HB4.out⟩
            have hN := HN.out
            rw [Csv.step_comma ⟨m, f, row, L⟩ HM.out] at hN
            exact hN
        by_cases h10 : c = 10
        · subst h10
          have hown := HU.out.len
          clear hone hcat h44
          go_wp2_with (at_builtin; refine wpList_append_own_at _ rfl _ _ tR rfl (w.heap.size + 1) tS iS (.string ByteArray.empty) 1 16 Tryd.underlying43 HIS.out HZ.out.1 HZ.out.2.1 HZ.out.2.2.1 rfl (by decide) _ _ _ rfl (hown.alloc _) ⟨wr.heap.size, 0, none⟩ 1 1 [sv f] rfl rfl ?c1 ?c2 ?c3 ?c4 ?c5 ?_)
          case c1 => exact cell_one_new _ _ _
          case c2 => intro u hu; simp at hu; subst hu; rfl
          case c3 => unfold maxLen; omega
          case c4 => omega
          case c5 => have := HE.out.lt; simp; omega
          intro vr' w4 hown4 hgrow hnil hat
          obtain ⟨gr, cr, hvr⟩ : ∃ gr cr, vr' = .slice (some ⟨gr, 0, none⟩) (row.length + 1) cr := by
            rcases hown4.2 with ⟨_, h0⟩ | ⟨g, cap, cur, h0, _⟩
            · omega
            · exact ⟨g, cap, h0⟩
          have HU4 := Lib.hid ((HU.out.keeps ((Below.refl _ wr).alloc (Nat.le_refl _) _)).field hown4 hgrow (by rcases hat with h | h; exact Or.inl h; exact Or.inr (by rw [h]; simp)))
          have HE4 := Lib.hid ((HE.out.keeps ((Below.refl _ wr).alloc (Nat.le_refl _) _)).other hgrow HU.out.below')
          have hb2 := HB.out
          have HB4 := Lib.hid (Below.grown (hb2.alloc hb2.size _) hgrow (by have := hb2.size; simp; omega) (fun k hk => by have := HU.out.below' k hk; omega))
          clear hown4 hgrow hnil hat hb2 hown
          subst hvr
          obtain ⟨vals, g1, g2, g3⟩ := HU4.out.keeps ((Below.refl _ w4).alloc (Nat.le_refl _) (.cells #[.slice (some ⟨gr, 0, none⟩) (row.length + 1) cr] tR))
          have G2 := Lib.hid g2
          have G3 := Lib.hid g3
          clear g2 g3
          go_wp2_with (at_builtin; refine wpList_append_own_at _ rfl _ _ 38 rfl (w.heap.size + 1) tR iR (.slice none 0 0) 1 24 Tryd.underlying38 HIR.out HZ.out.2.2.2.1 HZ.out.2.2.2.2.1 HZ.out.2.2.2.2.2 rfl (by decide) _ _ vals rfl g1 ⟨w4.heap.size, 0, none⟩ 1 1 [.slice (some ⟨gr, 0, none⟩) (row.length + 1) cr] rfl rfl ?d1 ?d2 ?d3 ?d4 ?d5 ?_)
          case d1 => exact cell_one_new _ _ _
          case d2 => intro u hu; simp at hu; subst hu; rfl
          case d3 => unfold maxLen; omega
          case d4 => omega
          case d5 => have := HE4.out.lt; simp; omega
          intro vR' w5 hown5 hgrow hnil hat
          have HU5 : Hid (Built w5 (w.heap.size + 1) vR' (.slice none 0 0) (L ++ [row ++ [f]]) []) := built_row g1 (by simpa using G2.out) G3.out hown5 hgrow
          have HE5 := Lib.hid ((HE4.out.keeps ((Below.refl _ w4).alloc (Nat.le_refl _) (.cells #[.slice (some ⟨gr, 0, none⟩) (row.length + 1) cr] tR))).other hgrow HU4.out.below)
          have hb4 := HB4.out
          have HB5 := Lib.hid (Below.grown (hb4.alloc hb4.size (.cells #[.slice (some ⟨gr, 0, none⟩) (row.length + 1) cr] tR)) hgrow (by have := hb4.size; simp; omega) (fun k hk => by have := HU4.out.below k hk; omega))
          clear hown5 hgrow hnil hat g1 hb4
          go_wp2
          go_roundg g
          case measure => omega
          case rel =>
            refine ⟨k + 1, 0, [], [], L ++ [row ++ [f]], by omega, by omega, by go_num, rfl, rfl, by simp, by simp, by simp; omega, ?_, Edge.behind HC.out, HU5, HE5.out, HB5.out⟩
            have hN := HN.out
            rw [Csv.step_end ⟨m, f, row, L⟩ HM.out] at hN
            exact hN
        have e44 : ((c.toNat : Int) == 44) = false := u8_ne (n := 44) (by decide) h44
        have e10 : ((c.toNat : Int) == 10) = false := u8_ne (n := 10) (by decide) h10
        by_cases hbad : Csv.step ⟨m, f, row, L⟩ c = none
        · have HS := Lib.hid hbad
          have hcs : (c = 34 ∧ m = 1) ∨ (c = 13 ∧ c ≠ 34) ∨ (m = 3 ∧ c ≠ 34 ∧ c ≠ 13) := by
            have h2 := HM.out
            by_cases h34 : c = 34
            · left; refine ⟨h34, ?_⟩
              subst h34
              rcases (show m = 0 ∨ m = 1 ∨ m = 3 from by omega) with rfl | rfl | rfl
              · simp [Csv.step] at hbad
              · rfl
              · simp [Csv.step] at hbad
            · by_cases h13 : c = 13
              · exact Or.inr (Or.inl ⟨h13, h34⟩)
              · refine Or.inr (Or.inr ⟨?_, h34, h13⟩)
                simp [Csv.step, h2, h44, h10, h34, h13] at hbad
                exact hbad
          clear hbad hone hcat h44 h10
          rcases hcs with ⟨h1, h2⟩ | ⟨h1, h2⟩ | ⟨h1, h2, h3⟩
          · have e34 : ((c.toNat : Int) == 34) = true := by rw [h1]; rfl
            have em0 : ((m : Int) == 0) = false := beq_eq_false_iff_ne.2 (by omega)
            have em3 : ((m : Int) == 3) = false := beq_eq_false_iff_ne.2 (by omega)
            clear h1 h2
            go_wp2_with fail
            refine (rwhere_any s k 2 _ hs (by omega)).mono ?_
            rintro e w3 ⟨rfl, hk3⟩
            have HE3 := Lib.hid (HE.out.keeps hk3)
            have HK3 := Lib.hid hk3
            clear hk3
            obtain ⟨⟨c0, c1, c2⟩, f0, f1, f2⟩ := HE3.out.cells
            have hbl := HE3.out.lt
            go_wp2
            obtain ⟨e0, e1, e2⟩ := HE3.out.set (.int .i64 (lineOf (s.data.toList.take k) : Nat)) (.int .i64 (colOf (s.data.toList.take k) : Nat)) (.int .i64 2)
            refine bodyPost_ret (v := .tuple #[.slice none 0 0, .agg #[.int .i64 (lineOf (s.data.toList.take k) : Nat), .int .i64 (colOf (s.data.toList.take k) : Nat), .int .i64 2]]) (by simp [results, Tryd.results15, go_sem, e0, e1, e2]) rfl
              ⟨set3_below (HB.out.trans (HK3.out.mono HB.out.size)) (Nat.le_refl _) _ _ _, _, _, _, _, rfl, Or.inr ⟨k, 2, ?_, rfl, rfl, rfl, rfl⟩⟩
            rw [HN.out, HS.out]
          · have e34 : ((c.toNat : Int) == 34) = false := u8_ne (n := 34) (by decide) h2
            have e13 : ((c.toNat : Int) == 13) = true := by rw [h1]; rfl
            clear h1 h2
            go_wp2_with fail
            refine (rwhere_any s k 2 _ hs (by omega)).mono ?_
            rintro e w3 ⟨rfl, hk3⟩
            have HE3 := Lib.hid (HE.out.keeps hk3)
            have HK3 := Lib.hid hk3
            clear hk3
            obtain ⟨⟨c0, c1, c2⟩, f0, f1, f2⟩ := HE3.out.cells
            have hbl := HE3.out.lt
            go_wp2
            obtain ⟨e0, e1, e2⟩ := HE3.out.set (.int .i64 (lineOf (s.data.toList.take k) : Nat)) (.int .i64 (colOf (s.data.toList.take k) : Nat)) (.int .i64 2)
            refine bodyPost_ret (v := .tuple #[.slice none 0 0, .agg #[.int .i64 (lineOf (s.data.toList.take k) : Nat), .int .i64 (colOf (s.data.toList.take k) : Nat), .int .i64 2]]) (by simp [results, Tryd.results15, go_sem, e0, e1, e2]) rfl
              ⟨set3_below (HB.out.trans (HK3.out.mono HB.out.size)) (Nat.le_refl _) _ _ _, _, _, _, _, rfl, Or.inr ⟨k, 2, ?_, rfl, rfl, rfl, rfl⟩⟩
            rw [HN.out, HS.out]
          · have e34 : ((c.toNat : Int) == 34) = false := u8_ne (n := 34) (by decide) h2
            have e13 : ((c.toNat : Int) == 13) = false := u8_ne (n := 13) (by decide) h3
            have em3 : ((m : Int) == 3) = true := by rw [h1]; rfl
            clear h1 h2 h3
            go_wp2_with fail
            refine (rwhere_any s k 2 _ hs (by omega)).mono ?_
            rintro e w3 ⟨rfl, hk3⟩
            have HE3 := Lib.hid (HE.out.keeps hk3)
            have HK3 := Lib.hid hk3
            clear hk3
            obtain ⟨⟨c0, c1, c2⟩, f0, f1, f2⟩ := HE3.out.cells
            have hbl := HE3.out.lt
            go_wp2
            obtain ⟨e0, e1, e2⟩ := HE3.out.set (.int .i64 (lineOf (s.data.toList.take k) : Nat)) (.int .i64 (colOf (s.data.toList.take k) : Nat)) (.int .i64 2)
            refine bodyPost_ret (v := .tuple #[.slice none 0 0, .agg #[.int .i64 (lineOf (s.data.toList.take k) : Nat), .int .i64 (colOf (s.data.toList.take k) : Nat), .int .i64 2]]) (by simp [results, Tryd.results15, go_sem, e0, e1, e2]) rfl
              ⟨set3_below (HB.out.trans (HK3.out.mono HB.out.size)) (Nat.le_refl _) _ _ _, _, _, _, _, rfl, Or.inr ⟨k, 2, ?_, rfl, rfl, rfl, rfl⟩⟩
            rw [HN.out, HS.out]
        · have hcs : (c = 34 ∧ m = 0) ∨ (c = 34 ∧ m = 3) ∨ (c ≠ 34 ∧ c ≠ 13 ∧ m ≠ 3) := by
            have h2 := HM.out
            by_cases h34 : c = 34
            · subst h34
              rcases (show m = 0 ∨ m = 1 ∨ m = 3 from by omega) with rfl | rfl | rfl
              · exact Or.inl ⟨rfl, rfl⟩
              · simp [Csv.step] at hbad
              · exact Or.inr (Or.inl ⟨rfl, rfl⟩)
            · right; right
              refine ⟨h34, fun h13 => ?_, fun h3 => ?_⟩
              · simp [Csv.step, h2, h13] at hbad
              · simp [Csv.step, h44, h10, h34, h3] at hbad
          have H44 := Lib.hid h44
          have H10 := Lib.hid h10
          clear hbad h44 h10
          rcases hcs with ⟨h1, h2⟩ | ⟨h1, h2⟩ | ⟨h1, h2, h3⟩
          · have e34 : ((c.toNat : Int) == 34) = true := by rw [h1]; rfl
            have em0 : ((m : Int) == 0) = true := by rw [h2]; rfl
            have H1 := Lib.hid h1
            have H2 := Lib.hid h2
            clear h1 h2 hone hcat
            go_wp2
            go_roundg g
            case measure => omega
            case rel =>
              refine ⟨k + 1, 2, f, row, L, by omega, by omega, by go_num, rfl, rfl, by omega, by omega, by omega, ?_, Edge.within _ _ _ _ (by omega), HU.out, HE.out, HB.out⟩
              have hN := HN.out
              simpa [Csv.step, H1.out, H2.out] using hN
          · have e34 : ((c.toNat : Int) == 34) = true := by rw [h1]; rfl
            have em0 : ((m : Int) == 0) = false := by rw [h2]; rfl
            have em3 : ((m : Int) == 3) = true := by rw [h2]; rfl
            have H1 := Lib.hid h1
            have H2 := Lib.hid h2
            have hq : (⟨f.toArray⟩ : ByteArray) ++ ⟨#[34]⟩ = ⟨(f ++ [34]).toArray⟩ := mk_one f 34
            clear h1 h2 hone hcat
            go_wp2
            go_roundg g
            case measure => omega
            case rel =>
              refine ⟨k + 1, 2, f ++ [34], row, L, by omega, by omega, by go_num, rfl, rfl, by simp; omega, by omega, by omega, ?_, Edge.within _ _ _ _ (by omega), HU.out, HE.out, HB.out⟩
              have hN := HN.out
              simpa [Csv.step, H1.out, H2.out] using hN
          · have e34 : ((c.toNat : Int) == 34) = false := u8_ne (n := 34) (by decide) h1
            have e13 : ((c.toNat : Int) == 13) = false := u8_ne (n := 13) (by decide) h2
            have em3 : ((m : Int) == 3) = false := beq_eq_false_iff_ne.2 (by omega)
            have H1 := Lib.hid h1
            have H2 := Lib.hid h2
            have H3 := Lib.hid h3
            clear h1 h2 h3
            obtain ⟨k1, hk1⟩ : ∃ k1, k1 = k + 1 := ⟨_, rfl⟩
            have hK1 : (k : Int) + 1 = (k1 : Int) := by omega
            have hk2 : k ≤ k1 := by omega
            have hk3 : k1 ≤ s.size := by omega
            rw [← hk1] at hone
            have HK1 := Lib.hid hk1
            clear hk1
            go_wp2
            go_roundg g
            case measure => omega
            case rel =>
              obtain rfl := HK1.out
              refine ⟨k + 1, 1, f ++ [c], row, L, by omega, by omega, by go_num, rfl, rfl, by simp; omega, by omega, by omega, ?_, Edge.within _ _ _ _ (by omega), HU.out, HE.out, HB.out⟩
              have hN := HN.out
              have h2 := HM.out
              simpa [Csv.step, h2, H44.out, H10.out, H1.out, H2.out, H3.out] using hN
    | zero =>
      obtain rfl : k = s.size := by omega
      have hz : ¬ ((s.size : Int) < (s.size : Int)) := by omega
      have HF := Lib.hid (show run st0 0 s.data.toList = fin ⟨m, f, row, L⟩ s.size from by
        rw [HR.out, List.drop_eq_nil_of_le (by rw [len_data]; omega)]; rfl)
      clear HR
      by_cases hm2 : m = 2
      · have t2 : ((m : Int) == 2) = true := by rw [hm2]; rfl
        have HM := Lib.hid hm2
        clear hm2
        · go_wp2_with fail
          refine (rwhere_any s s.size 2 _ hs (by omega)).mono ?_
          rintro e w3 ⟨rfl, hk3⟩
          have HE3 := Lib.hid (HE.out.keeps hk3)
          have HK3 := Lib.hid hk3
          clear hk3
          obtain ⟨⟨c0, c1, c2⟩, f0, f1, f2⟩ := HE3.out.cells
          have hbl := HE3.out.lt
          go_wp2
          obtain ⟨e0, e1, e2⟩ := HE3.out.set (.int .i64 (lineOf (s.data.toList.take s.size) : Nat)) (.int .i64 (colOf (s.data.toList.take s.size) : Nat)) (.int .i64 2)
          refine bodyPost_ret (v := .tuple #[.slice none 0 0, .agg #[.int .i64 (lineOf (s.data.toList.take s.size) : Nat), .int .i64 (colOf (s.data.toList.take s.size) : Nat), .int .i64 2]]) (by simp [results, Tryd.results15, go_sem, e0, e1, e2]) rfl
            ⟨set3_below (HB.out.trans (HK3.out.mono HB.out.size)) (Nat.le_refl _) _ _ _, _, _, _, _, rfl, Or.inr ⟨s.size, 2, ?_, rfl, rfl, rfl, rfl⟩⟩
          rw [HF.out]
          simp [fin, HM.out]
      · have t2 : ((m : Int) == 2) = false := beq_eq_false_iff_ne.2 (by omega)
        by_cases hm0 : m = 0
        · have t0 : ((m : Int) != 0) = false := by rw [hm0]; rfl
          have t0' : ((m : Int) == 0) = true := by rw [hm0]; rfl
          have hE := HD.out.1 hm0
          by_cases hsz : s.size = 0
          · have hrow : row = [] := hE.2 (Or.inl hsz)
            have HROW := Lib.hid hrow
            have HM := Lib.hid hm0
            have hz0 : ¬ ((0 : Int) < (s.size : Int)) := by omega
            clear hE hrow hsz hm0 hm2
            obtain ⟨⟨c0, c1, c2⟩, f0, f1, f2⟩ := HE.out.cells
            have hbl := HE.out.lt
            go_wp2
            obtain ⟨e0, e1, e2⟩ := HE.out.set (.int .i64 0) (.int .i64 0) (.int .i64 0)
            refine bodyPost_ret (v := .tuple #[_, .agg #[.int .i64 0, .int .i64 0, .int .i64 0]]) (by simp [results, Tryd.results15, go_sem, e0, e1, e2]) rfl
              ⟨set3_below HB.out (Nat.le_refl _) _ _ _, _, _, _, _, rfl, Or.inl ⟨L, ?_, ⟨_, _, _, Nat.le_succ _, HU.out.other (set3_grown _ _ _ _ _)⟩, rfl, rfl, rfl⟩⟩
            rw [HF.out]; simp [fin, HM.out, HROW.out]
          · obtain ⟨n, hn⟩ : ∃ n, s.size = n + 1 := ⟨s.size - 1, by omega⟩
            have hns : n < s.size := by omega
            obtain ⟨c, hc⟩ : ∃ c, s[n]'hns = c := ⟨_, rfl⟩
            have hc2 : s[(n : Int).toNat]'(by simpa using hns) = c := by simpa using hc
            have hN1 : (s.size : Int) - 1 = (n : Int) := by omega
            have hz0 : (0 : Int) < (s.size : Int) := by omega
            have hns2 : (n : Int) < (s.size : Int) := by omega
            have hl : s.data.toList[s.size - 1]? = some c := by
              rw [hn, Nat.add_sub_cancel, Lib.data_getElem? s n hns, hc]
            have HL := Lib.hid hl
            have HM := Lib.hid hm0
            have HED := Lib.hid hE
            have HSZ := Lib.hid hsz
            clear hE hl hsz hn hm0 hm2
            by_cases h10 : c = 10
            · have t10 : ((c.toNat : Int) != 10) = false := by rw [h10]; rfl
              have HROW := Lib.hid (HED.out.2 (Or.inr (by rw [HL.out, h10])))
              clear h10
              obtain ⟨⟨c0, c1, c2⟩, f0, f1, f2⟩ := HE.out.cells
              have hbl := HE.out.lt
              go_wp2
              obtain ⟨e0, e1, e2⟩ := HE.out.set (.int .i64 0) (.int .i64 0) (.int .i64 0)
              refine bodyPost_ret (v := .tuple #[_, .agg #[.int .i64 0, .int .i64 0, .int .i64 0]]) (by simp [results, Tryd.results15, go_sem, e0, e1, e2]) rfl
                ⟨set3_below HB.out (Nat.le_refl _) _ _ _, _, _, _, _, rfl, Or.inl ⟨L, ?_, ⟨_, _, _, Nat.le_succ _, HU.out.other (set3_grown _ _ _ _ _)⟩, rfl, rfl, rfl⟩⟩
              rw [HF.out]; simp [fin, HM.out, HROW.out]
            · have t10' : ((c.toNat : Int) == 10) = false := u8_ne (n := 10) (by decide) h10
              have t10 : ((c.toNat : Int) != 10) = true := by simp [bne, t10']
              have HROW := Lib.hid (show row ≠ [] from fun e => by
                rcases HED.out.1 e with h | h
                · exact HSZ.out h
                · rw [HL.out] at h; exact h10 (Option.some.inj h))
              clear h10
              · go_wp2_with fail
                refine (rwhere_any s s.size 1 _ hs (by omega)).mono ?_
                rintro e w3 ⟨rfl, hk3⟩
                have HE3 := Lib.hid (HE.out.keeps hk3)
                have HK3 := Lib.hid hk3
                clear hk3
                obtain ⟨⟨c0, c1, c2⟩, f0, f1, f2⟩ := HE3.out.cells
                have hbl := HE3.out.lt
                go_wp2
                obtain ⟨e0, e1, e2⟩ := HE3.out.set (.int .i64 (lineOf (s.data.toList.take s.size) : Nat)) (.int .i64 (colOf (s.data.toList.take s.size) : Nat)) (.int .i64 1)
                refine bodyPost_ret (v := .tuple #[.slice none 0 0, .agg #[.int .i64 (lineOf (s.data.toList.take s.size) : Nat), .int .i64 (colOf (s.data.toList.take s.size) : Nat), .int .i64 1]]) (by simp [results, Tryd.results15, go_sem, e0, e1, e2]) rfl
                  ⟨set3_below (HB.out.trans (HK3.out.mono HB.out.size)) (Nat.le_refl _) _ _ _, _, _, _, _, rfl, Or.inr ⟨s.size, 1, ?_, rfl, rfl, rfl, rfl⟩⟩
                rw [HF.out]
                simp [fin, HM.out, HROW.out]
        · have t0' : ((m : Int) == 0) = false := beq_eq_false_iff_ne.2 (by omega)
          have t0 : ((m : Int) != 0) = true := by simp [bne, t0']
          have hz0 : (0 : Int) < (s.size : Int) := by have := HD.out.2 hm0; omega
          have HM := Lib.hid hm0
          have HM2 := Lib.hid hm2
          clear hm0 hm2
          · go_wp2_with fail
            refine (rwhere_any s s.size 1 _ hs (by omega)).mono ?_
            rintro e w3 ⟨rfl, hk3⟩
            have HE3 := Lib.hid (HE.out.keeps hk3)
            have HK3 := Lib.hid hk3
            clear hk3
            obtain ⟨⟨c0, c1, c2⟩, f0, f1, f2⟩ := HE3.out.cells
            have hbl := HE3.out.lt
            go_wp2
            obtain ⟨e0, e1, e2⟩ := HE3.out.set (.int .i64 (lineOf (s.data.toList.take s.size) : Nat)) (.int .i64 (colOf (s.data.toList.take s.size) : Nat)) (.int .i64 1)
            refine bodyPost_ret (v := .tuple #[.slice none 0 0, .agg #[.int .i64 (lineOf (s.data.toList.take s.size) : Nat), .int .i64 (colOf (s.data.toList.take s.size) : Nat), .int .i64 1]]) (by simp [results, Tryd.results15, go_sem, e0, e1, e2]) rfl
              ⟨set3_below (HB.out.trans (HK3.out.mono HB.out.size)) (Nat.le_refl _) _ _ _, _, _, _, _, rfl, Or.inr ⟨s.size, 1, ?_, rfl, rfl, rfl, rfl⟩⟩
            rw [HF.out]
            simp [fin, HM.out, HM2.out]
end Go.Proofs.YtnkcbefamajghaaDoor
