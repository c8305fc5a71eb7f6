
/- NetOnce: the walk. -/
import Derived.Test.YtajphjlfefhajaaNtOnceN
import Derived.Test.YtajphjlfefhajaaNtPlays
import Derived.Test.YtajphjlfefhajaaNtFull
set_option linter.unusedVariables false
set_option linter.unusedSimpArgs false
namespace Go.Proofs.Ytajphjlfefhajaa
open Go.ChangeShapes Go.WideShapes Go.ChangeAt Go.RowKit Csv Ky
namespace Nt
/-- A place, out of any number. -/
theorem place {I : Int} {n : Nat} (hI : I64 I) (hn : 0 < n) (hm : n ≤ 1000) : ∃ (r1 : Int) (r2 kk : Nat), Int.tmod I (n : Int) = r1 ∧ wrap64 (r1 + (n : Int)) = (r2 : Int) ∧ Int.tmod (r2 : Int) (n : Int) = (kk : Int) ∧ kk < n := by
  have hh : -(n : Int) < Int.tmod I (n : Int) ∧ Int.tmod I (n : Int) < (n : Int) := by
    rcases Int.le_total 0 I with h0 | h0
    · rw [Int.tmod_eq_emod_of_nonneg h0]
      have := Int.emod_nonneg I (show (n : Int) ≠ 0 by omega)
      have := Int.emod_lt_of_pos I (show (0 : Int) < (n : Int) by omega)
      omega
    · have e : Int.tmod I (n : Int) = -(Int.tmod (-I) (n : Int)) := by rw [Int.neg_tmod]; omega
      rw [e, Int.tmod_eq_emod_of_nonneg (show (0 : Int) ≤ -I by omega)]
      have := Int.emod_nonneg (-I) (show (n : Int) ≠ 0 by omega)
      have := Int.emod_lt_of_pos (-I) (show (0 : Int) < (n : Int) by omega)
      omega
  obtain ⟨h1, h2⟩ := hh
  obtain ⟨r1, hr1⟩ : ∃ r1, Int.tmod I (n : Int) = r1 := ⟨_, rfl⟩
  rw [hr1] at h1 h2
  obtain ⟨r2, hr2⟩ : ∃ r2 : Nat, r1 + (n : Int) = (r2 : Int) := ⟨(r1 + n).toNat, by omega⟩
  refine ⟨r1, r2, r2 % n, hr1, ?_, ?_, Nat.mod_lt _ hn⟩
  · rw [hr2]; exact i64w (by unfold top; omega) (by unfold top; omega)
  · rw [Int.tmod_eq_emod_of_nonneg (by omega)]; exact (Int.natCast_emod _ _).symm
/-- The net, and the rows of numbers beside it. -/
structure OnAt (P : NtP) (wb : World) (b gW gG N k : Nat) (X : World) (l : List Mg) (want got : List Int) : Prop where
  mine : Mine P wb (fun i => i = gW ∨ i = gG) X b l
  on : On N k l want got
  w : X.heap[gW]? = some (numObj want)
  g : X.heap[gG]? = some (numObj got)
  lw : wb.heap.size ≤ gW
  lg : wb.heap.size ≤ gG
  ne : gW ≠ gG
theorem add_block (a : Addr) (n : Nat) : (a.add n).block = a.block := by unfold Addr.add; split <;> rfl
theorem MgAt.loc {X Y : World} {a : Addr} {m : Mg} (h : MgAt X a m) (e : Y.heap[a.block]? = X.heap[a.block]?) : MgAt Y a m := by
  have c : ∀ i, Y.cell? ⟨a.block, i, none⟩ = X.cell? ⟨a.block, i, none⟩ := fun i => by simp only [World.cell?, e]
  have c0 : Y.cell? a = X.cell? a := by simp only [World.cell?, e]
  unfold MgAt at h ⊢
  rw [c0, c, c, c, c, c, c]
  exact h
/-- What is told is new memory: it is set aside. -/
theorem Mine.mail2 {P : NtP} {W X : World} {b : Nat} {l : List Mg} {E : Nat → Prop} (h : Mine P W E X b l) (hl : l.length ≤ 1000) : Calls Try.prog 14 #[.pointer (some ⟨b, 0, none⟩)] X fun e w' => ∃ v, e = .returned v ∧ mgK.Own X.heap.size w' v l ∧ Mine P W (fun i => E i ∨ (X.heap.size ≤ i ∧ i < w'.heap.size)) w' b l ∧ Keeps X w' := by
  obtain ⟨⟨F, h1, h2⟩, h3, h4⟩ := h
  exact (P.mail h1 hl).mono fun e w' ⟨v, g1, g2, g3⟩ => ⟨v, g1, g2, ⟨⟨F, P.keeps h1 g3, fun i hi => ⟨(h2 i hi).1, fun q => by
    rcases q with q | q
    · exact (h2 i hi).2 q
    · have := P.lt h1 hi; omega⟩⟩, h3.trans g3, fun i hi => by
    rcases hi with hi | hi
    · exact Nat.lt_of_lt_of_le (h4 i hi) g3.size
    · exact hi.2⟩, g3⟩
section
variable {P : NtP} {wb X Y : World} {b gW gG N k : Nat} {l l' : List Mg} {want got want' got' : List Int}
theorem OnAt.keeps (h : OnAt P wb b gW gG N k X l want got) (kk : Keeps X Y) : OnAt P wb b gW gG N k Y l want got :=
  ⟨h.mine.keeps kk, h.on, box_keep h.w kk, box_keep h.g kk, h.lw, h.lg, h.ne⟩
theorem OnAt.still (h : OnAt P wb b gW gG N k X l want got) (m : Mine P wb (fun i => i = gW ∨ i = gG) Y b l') (s : Still (fun i => i = gW ∨ i = gG) X Y) : Mine P wb (fun i => i = gW ∨ i = gG) Y b l' ∧ Y.heap[gW]? = some (numObj want) ∧ Y.heap[gG]? = some (numObj got) :=
  ⟨m, (s gW (Or.inl rfl)).trans h.w, (s gG (Or.inr rfl)).trans h.g⟩
/-- A number of what is wanted, written. -/
theorem OnAt.setW (h : OnAt P wb b gW gG N k X l want got) (hm : Mine P wb (fun i => i = gW ∨ i = gG) Y b l' ∧ Y.heap[gW]? = some (numObj want) ∧ Y.heap[gG]? = some (numObj got)) (q : Nat) (v : Int) (o : On N (k + 1) l' (want.set q v) got) : OnAt P wb b gW gG N (k + 1) (Y.setCell ⟨gW, q, none⟩ (.int .i64 v)) l' (want.set q v) got :=
  ⟨hm.1.only ((Only.cell (X := Y) (j := gW) (o := q) (.int .i64 v)).mono fun i hi => Or.inl hi) (fun i hi => by rcases hi with rfl | rfl; exact h.lw; exact h.lg), o, num_set hm.2.1 v, num_off hm.2.2 _ (fun e => h.ne e.symm), h.lw, h.lg, h.ne⟩
theorem OnAt.setG (h : OnAt P wb b gW gG N k X l want got) (hm : Mine P wb (fun i => i = gW ∨ i = gG) Y b l' ∧ Y.heap[gW]? = some (numObj want) ∧ Y.heap[gG]? = some (numObj got)) (q : Nat) (v : Int) (o : On N (k + 1) l' want (got.set q v)) : OnAt P wb b gW gG N (k + 1) (Y.setCell ⟨gG, q, none⟩ (.int .i64 v)) l' want (got.set q v) :=
  ⟨hm.1.only ((Only.cell (X := Y) (j := gG) (o := q) (.int .i64 v)).mono fun i hi => Or.inr hi) (fun i hi => by rcases hi with rfl | rfl; exact h.lw; exact h.lg), o, num_off hm.2.1 _ h.ne, num_set hm.2.2 v, h.lw, h.lg, h.ne⟩
theorem OnAt.other (h : OnAt P wb b gW gG N k X l want got) (hm : Mine P wb (fun i => i = gW ∨ i = gG) Y b l' ∧ Y.heap[gW]? = some (numObj want) ∧ Y.heap[gG]? = some (numObj got)) {K : Nat} (o : On N K l' want got) : OnAt P wb b gW gG N K Y l' want got :=
  ⟨hm.1, o, hm.2.1, hm.2.2, h.lw, h.lg, h.ne⟩
end
set_option maxHeartbeats 16000000 in
set_option maxRecDepth 100000 in
theorem netOnce_go (P : NtP) (v : Value) (L : List Ac) (wb : World) (hv : AcsAt wb v L) :
    Calls Try.prog 5 #[v] wb fun e w' => e = .returned (.bool true) ∧ Keeps wb w' := by
  have HV : Hid (∀ X, Keeps wb X → AcsAt X v L) := Lib.hid fun X k => hv.keeps k
  have AS : Hid (∀ X, Calls Try.prog 8 #[] X fun e w' => e = .returned (.bool true) ∧ Keeps X w') := Lib.hid fun X => la_mailed P X
  obtain ⟨pl, cl, rfl, hmx, -⟩ := hv
  obtain ⟨N, hN⟩ : ∃ N, L.length = N := ⟨_, rfl⟩
  rw [hN] at HV hmx ⊢
  have HN := Lib.hid hN
  clear hN
  by_cases hbig : 100 < N
  · have hb2 : (100 : Int) < (N : Int) := by omega
    clear hmx
    go_enter Try.func5, Try.ntmps5
    go_wp2_with fail
    refine (AS.out _).mono ?_
    rintro e w2 ⟨rfl, k2⟩
    have K2 := Lib.hid k2
    clear k2
    go_wp2
    go_ret
    exact ⟨rfl, K2.out⟩
  · have hb2 : ¬ ((100 : Int) < (N : Int)) := by omega
    have hN100 : N ≤ 100 := by omega
    have MK := make_nums N (by omega)
    clear hmx hbig
    have CN := Lib.hid (mine_new (P := P) (E := E0) wb wb (Keeps.refl _) (fun i hi => hi.elim))
    go_enter Try.func5, Try.ntmps5
    go_wp2_with fail
    refine CN.out.mono ?_
    rintro e w1 ⟨b, rfl, h, _⟩
    obtain ⟨gW, hgW⟩ : ∃ g, w1.heap.size = g := ⟨_, rfl⟩
    obtain ⟨w2, hw2⟩ : ∃ w2, w1.alloc (numObj (List.replicate N 0)) = w2 := ⟨_, rfl⟩
    obtain ⟨gG, hgG⟩ : ∃ g, w2.heap.size = g := ⟨_, rfl⟩
    obtain ⟨w3, hw3⟩ : ∃ w3, w2.alloc (numObj (List.replicate N 0)) = w3 := ⟨_, rfl⟩
    have W3 : Hid (OnAt P wb b gW gG N 0 w3 [] (List.replicate N 0) (List.replicate N 0)) := Lib.hid (by
      have m2 := h.aside (numObj (List.replicate N 0))
      rw [hw2, hgW] at m2
      have m3 := m2.aside (numObj (List.replicate N 0))
      rw [hw3, hgG] at m3
      have b2 : w2.heap[gW]? = some (numObj (List.replicate N 0)) := by rw [← hw2, ← hgW]; exact heap_alloc_new _ _
      have b3 : w3.heap[gG]? = some (numObj (List.replicate N 0)) := by rw [← hw3, ← hgG]; exact heap_alloc_new _ _
      have l1 := box_lt b2
      refine ⟨m3.sub (fun i hi => hi.imp Or.inr id), on_start N, by rw [← hw3]; exact box_keep b2 (nbox _ _), b3, by rw [← hgW]; exact h.k.size, by rw [← hgG]; exact m2.k.size, by omega⟩)
    have EW2 := Lib.hid hw2
    have EW3 := Lib.hid hw3
    have EGW := Lib.hid hgW
    have EGG : Hid (w1.heap.size + 1 = gG) := Lib.hid (by rw [← hgG, ← hw2]; simp)
    clear h hgW hw2 hgG hw3 CN
    go_upto_region 6 with (fail)
    rw [EW2.out, EW3.out, EGG.out, EGW.out]
    clear EW2 EW3 EGW EGG MK
    go_wp2_with fail
    go_loopg [6] N (fun g v6 X => ∃ (k : Nat) (l : List Mg) (want got : List Int), k + g = N ∧ v6 = .int .i64 (k : Int) ∧ OnAt P wb b gW gG N k X l want got)
    case atStart => exact ⟨0, [], _, _, by omega, rfl, W3.out⟩
    case round =>
      clear W3
      obtain ⟨k, l, want, got, hk, rfl, ho⟩ := hrel
      have HI := Lib.hid hk
      have ON := Lib.hid ho
      clear hk ho
      cases gk with
      | zero =>
        obtain rfl : k = N := by have := HI.out; omega
        have hz : ¬ ((k : Int) < (k : Int)) := by omega
        have FEW : Hid (l.length ≤ k) := Lib.hid ON.out.on.few
        go_wp2_with fail
        clear hz
        go_loopg [12] l.length (fun g v12 X => ∃ (l2 : List Mg) (got2 : List Int) (K : Nat), l2.length = g ∧ K + g ≤ 200 ∧ OnAt P wb b gW gG k K X l2 want got2)
        case atStart => exact ⟨l, got, k, rfl, by have := FEW.out; omega, ON.out⟩
        case round =>
          clear ON
          rename World => wi
          obtain ⟨l2, got2, K, hlen, hK, ho⟩ := hrel
          have O2 := Lib.hid ho
          have LEN := Lib.hid hlen
          have KK := Lib.hid hK
          clear ho hlen hK
          cases gk with
          | succ g =>
            obtain ⟨m, hm⟩ : ∃ m, l2[0]? = some m := ⟨_, List.getElem?_eq_getElem (by have := LEN.out; omega)⟩
            have L2 : Hid (l2.length ≤ 1000) := Lib.hid (by have := LEN.out; have := KK.out; omega)
            have IB : Hid (isB l2 0 = true) := Lib.hid (is_iff.2 ⟨by omega, by have := LEN.out; omega⟩)
            have IG : Hid (gone l2 0 = some m) := Lib.hid (by unfold gone; rw [if_pos IB.out]; exact hm)
            have ID : Hid (del l2 0 = l2.take 0 ++ l2.drop (0 + 1)) := Lib.hid (by rw [del_yes IB.out]; rfl)
            obtain ⟨qn, hqn⟩ : ∃ qn : Nat, m.q = (qn : Int) := ⟨m.q.toNat, by have := O2.out.on.each m (List.mem_of_getElem? hm); omega⟩
            have hq1 : (qn : Int) < (k : Int) := by have := O2.out.on.each m (List.mem_of_getElem? hm); omega
            have QN : Hid (qn < k) := Lib.hid (by omega)
            have hq0 : (0 : Int) ≤ (qn : Int) := by omega
            have hg1 : ¬ ((qn : Int) < 0) := by omega
            have hg2 : ¬ ((k : Int) ≤ (qn : Int)) := by omega
            have NX0 := O2.out.on.got1 hm hqn QN.out
            obtain ⟨v0, hv0⟩ : ∃ v0, got2.getD qn 0 = v0 := ⟨_, rfl⟩
            have bnd := O2.out.on.gb qn QN.out
            rw [hv0] at NX0 bnd
            obtain ⟨v1, hv1⟩ : ∃ v1, v0 + 1 = v1 := ⟨_, rfl⟩
            rw [hv1] at NX0
            have NX := Lib.hid NX0
            have HV0 := Lib.hid hv0
            have wv : wrap64 (v0 + 1) = v1 := by rw [← hv1]; exact i64w (by have := KK.out; unfold top; omega) (by have := KK.out; unfold top; omega)
            have NL : Hid ((l2.take 0 ++ l2.drop (0 + 1)).length = g) := Lib.hid (by rw [List.length_append, List.length_take, List.length_drop]; have := LEN.out; omega)
            have CD := Lib.hid (O2.out.mine.deliver L2.out 0 i0)
            rw [IB.out, IG.out, ID.out] at CD
            unfold delV mgV at CD
            simp only at CD
            rw [hqn] at CD
            have HQ := Lib.hid hqn
            clear hm hv0 hv1 NX0 bnd hqn
            go_wp2_with fail
            refine CD.out.mono ?_
            rintro e w5 ⟨rfl, h5, s5⟩
            obtain ⟨n9, hn9⟩ : ∃ n9, w5.heap.size = n9 := ⟨_, rfl⟩
            obtain ⟨w6, hw6⟩ : ∃ w6, w5.alloc (mgBox m) = w6 := ⟨_, rfl⟩
            have T6 := Lib.hid (show Mine P wb (fun i => i = gW ∨ i = gG) w6 b (l2.take 0 ++ l2.drop (0 + 1)) ∧ w6.heap[gW]? = some (numObj want) ∧ w6.heap[gG]? = some (numObj got2) from by
              obtain ⟨a1, a2, a3⟩ := O2.out.still h5 s5
              rw [← hw6]
              exact ⟨a1.keeps (nbox _ _), box_keep a2 (nbox _ _), box_keep a3 (nbox _ _)⟩)
            have B6 : Hid (w6.heap[n9]? = some (mgBox m)) := Lib.hid (by rw [← hn9, ← hw6]; exact heap_alloc_new _ _)
            have EW6 := Lib.hid hw6
            have EN9 := Lib.hid hn9
            clear h5 s5 hw6 hn9 CD
            unfold mgBox at EW6
            rw [HQ.out] at EW6
            go_upto_region 39 with (fail)
            rw [EW6.out, EN9.out]
            clear EW6 EN9
            obtain ⟨⟨z0, z1, z2, z3, z4, z5, z6⟩, _⟩ := mg_box_cells B6.out
            rw [HQ.out] at z4
            obtain ⟨c1, c2⟩ := num_cell T6.out.2.2 (i := qn) (by rw [O2.out.on.gl]; exact QN.out)
            rw [HV0.out] at c1
            clear z0 z1 z2 z3 z5 z6
            go_wp2_with fail
            go_roundg g
            case measure => omega
            case rel => exact ⟨_, _, K + 1, NL.out, by have := KK.out; omega, O2.out.setG T6.out qn v1 NX.out⟩
          | zero =>
            obtain rfl : l2 = [] := List.length_eq_zero_iff.1 LEN.out
            have CD := Lib.hid (O2.out.mine.deliver (by simp) 0 i0)
            rw [show isB [] 0 = false from rfl, show gone [] 0 = none from rfl, show del [] 0 = ([] : List Mg) from rfl] at CD
            unfold delV at CD
            simp only at CD
            go_wp2_with fail
            refine CD.out.mono ?_
            rintro e w5 ⟨rfl, h5, s5⟩
            obtain ⟨w6, hw6⟩ : ∃ w6, w5.alloc zeBox = w6 := ⟨_, rfl⟩
            have O6 : Hid (OnAt P wb b gW gG k K w6 [] want got2) := Lib.hid (by
              have t := O2.out.still h5 s5
              exact hw6 ▸ ((O2.out.other t O2.out.on).keeps (nbox _ _)))
            have EW6 := Lib.hid hw6
            clear h5 s5 hw6 CD
            unfold zeBox at EW6
            go_upto_region 39 with (fail)
            rw [EW6.out]
            clear EW6
            go_wp2_with fail
            go_loopg [13] k (fun g v13 X => ∃ j : Nat, j + g = k ∧ v13 = .int .i64 (j : Int) ∧ Keeps w6 X)
            case atStart => exact ⟨0, by omega, rfl, Keeps.refl _⟩
            case round =>
              rename World => wj
              obtain ⟨j, hj, rfl, hkj⟩ := hrel
              have HJ := Lib.hid hj
              have KJ := Lib.hid hkj
              clear hj hkj
              cases gk with
              | succ g =>
                have hlt : j < k := by have := HJ.out; omega
                obtain ⟨a1, _⟩ := num_cell (box_keep O6.out.g KJ.out) (i := j) (by rw [O6.out.on.gl]; exact hlt)
                obtain ⟨a2, _⟩ := num_cell (box_keep O6.out.w KJ.out) (i := j) (by rw [O6.out.on.wl]; exact hlt)
                rw [O6.out.on.ends hlt] at a1
                obtain ⟨vj, hvj⟩ : ∃ vj, want.getD j 0 = vj := ⟨_, rfl⟩
                rw [hvj] at a1 a2
                have hne : (vj != vj) = false := by simp
                have hj1 : (j : Int) < (k : Int) := by omega
                have hj0 : (0 : Int) ≤ (j : Int) := by omega
                clear hvj hlt
                go_upto_region 46 with (fail)
                go_quiet (fail)
                have KQ : Hid (Keeps w6 (wj.drewN nq)) := Lib.hid (ndrewN KJ.out nq)
                go_wp2_with fail
                go_roundg g
                case measure => omega
                case rel => exact ⟨j + 1, step_num HJ.out, by first | rfl | go_num, KQ.out⟩
              | zero =>
                obtain rfl : j = k := by have := HJ.out; omega
                have hz : ¬ ((j : Int) < (j : Int)) := by omega
                go_wp2_with fail
                refine ((O6.out.mine.keeps KJ.out).mail (by simp)).mono ?_
                rintro e w7 ⟨v7, rfl, g7, h7, _⟩
                obtain ⟨p7, c7, rfl⟩ := mgK.own_shape g7
                have K7 := Lib.hid h7.k
                clear g7 h7
                go_wp2_with fail
                refine (AS.out _).mono ?_
                rintro e w8 ⟨rfl, k8⟩
                have K8 := Lib.hid (K7.out.trans k8)
                clear k8
                go_wp2
                go_ret
                exact ⟨rfl, K8.out⟩
      | succ g =>
        have hlt : k < N := by have := HI.out; omega
        obtain ⟨x, hx⟩ : ∃ x, L[k]? = some x := ⟨_, List.getElem?_eq_getElem (by have := HN.out; omega)⟩
        obtain ⟨xok, ad, rfl, gx⟩ := acs_here HV.out HN.out hx
        have GX := Lib.hid gx
        have XOK := Lib.hid xok
        have LL : Hid (l.length ≤ 1000) := Lib.hid (by have := ON.out.on.few; omega)
        have hi1 : (k : Int) < (N : Int) := by omega
        have hi0 : (0 : Int) ≤ (k : Int) := by omega
        clear hx gx xok
        go_wp2_with fail
        refine (ON.out.mine.mail2 LL.out).mono ?_
        rintro e w4 ⟨v4, rfl, gv, m4, kk⟩
        have M4 := Lib.hid m4
        clear m4
        obtain ⟨pm, cm, rfl⟩ := mgK.own_shape gv
        have MI := Lib.hid (own_mgs gv (by have := LL.out; omega))
        have O4 := Lib.hid (ON.out.keeps kk)
        obtain ⟨n, hn⟩ : ∃ n, l.length = n := ⟨_, rfl⟩
        rw [hn] at MI LL gv ⊢
        have GV := Lib.hid gv
        have HNN := Lib.hid hn
        have U8 := fit_u8 XOK.out.u8
        obtain ⟨m8, hm8⟩ : ∃ m, x.kind % 8 = m := ⟨_, rfl⟩
        rw [hm8] at U8
        have hm : m8 < 8 := by omega
        obtain ⟨q0, q1, q2, q3, q4, q5, q6, q7, q8, q9⟩ := GX.out _ O4.out.mine.k
        clear gv kk hn ON hm8 q1 q2 q3 q4 q5 q6 q7 q9
        by_cases hn0 : n = 0
        · subst hn0
          have FK : Hid (l.length ≤ k ∧ k < 100) := Lib.hid ⟨O4.out.on.few, by omega⟩
          have IB : Hid (isB l 0 = false) := Lib.hid (by unfold isB; rw [HNN.out]; rfl)
          have ST : Hid (∀ Y l', Mine P wb (fun i => (i = gW ∨ i = gG) ∨ (wr.heap.size ≤ i ∧ i < w4.heap.size)) Y b l' → Still (fun i => (i = gW ∨ i = gG) ∨ (wr.heap.size ≤ i ∧ i < w4.heap.size)) w4 Y → Mine P wb (fun i => i = gW ∨ i = gG) Y b l' ∧ Y.heap[gW]? = some (numObj want) ∧ Y.heap[gG]? = some (numObj got)) := Lib.hid fun Y l' h s => O4.out.still (h.sub fun i => Or.inl) fun i hi => s i (Or.inl hi)
          go_upto_region 15 with (fail)
          clear q8
          by_cases h4 : m8 = 4
          · subst h4
            have CD := Lib.hid (M4.out.deliver (by rw [HNN.out]; exact LL.out) 0 i0)
            rw [IB.out, gone_none IB.out, del_no IB.out] at CD
            unfold delV at CD
            simp only at CD
            go_wp2_with fail
            refine CD.out.mono ?_
            rintro e w5 ⟨rfl, h5, s5⟩
            obtain ⟨w6, hw6⟩ : ∃ w6, w5.alloc zeBox = w6 := ⟨_, rfl⟩
            have T6 := Lib.hid (show Mine P wb (fun i => i = gW ∨ i = gG) w6 b l ∧ w6.heap[gW]? = some (numObj want) ∧ w6.heap[gG]? = some (numObj got) from by
              obtain ⟨a1, a2, a3⟩ := ST.out _ _ h5 s5
              rw [← hw6]
              exact ⟨a1.keeps (nbox _ _), box_keep a2 (nbox _ _), box_keep a3 (nbox _ _)⟩)
            have EW6 := Lib.hid hw6
            clear h5 s5 hw6 CD
            unfold zeBox at EW6
            go_upto_region 21 with (fail)
            rw [EW6.out]
            clear EW6
            go_quiet (fail)
            have KQ : Hid (Keeps w6 (w6.drewN nq)) := Lib.hid (ndrewN (Keeps.refl w6) nq)
            have T7 := Lib.hid (show Mine P wb (fun i => i = gW ∨ i = gG) (w6.drewN nq) b l ∧ (w6.drewN nq).heap[gW]? = some (numObj want) ∧ (w6.drewN nq).heap[gG]? = some (numObj got) from ⟨T6.out.1.keeps KQ.out, box_keep T6.out.2.1 KQ.out, box_keep T6.out.2.2 KQ.out⟩)
            go_wp2_with fail
            go_roundg g
            case measure => omega
            case rel => exact ⟨k + 1, _, _, _, step_num HI.out, by first | rfl | go_num, O4.out.other T7.out O4.out.on.more⟩
          · by_cases h5 : m8 = 5
            · subst h5
              have CD := Lib.hid (M4.out.drop (by rw [HNN.out]; exact LL.out) 0 i0)
              rw [IB.out, del_no IB.out] at CD
              go_wp2_with fail
              refine CD.out.mono ?_
              rintro e w5 ⟨rfl, h5', s5⟩
              have T5 := Lib.hid (ST.out _ _ h5' s5)
              clear h5' s5 CD
              go_wp2_with fail
              go_roundg g
              case measure => omega
              case rel => exact ⟨k + 1, _, _, _, step_num HI.out, by first | rfl | go_num, O4.out.other T5.out O4.out.on.more⟩
            · by_cases h6 : m8 = 6
              · subst h6
                have CD := Lib.hid (M4.out.double (by rw [HNN.out]; exact LL.out) 0 i0)
                rw [show dblB l 0 = false from by unfold dblB; rw [IB.out]; rfl, dbl_no IB.out] at CD
                go_wp2_with fail
                refine CD.out.mono ?_
                rintro e w5 ⟨rfl, h5', s5⟩
                have T5 := Lib.hid (ST.out _ _ h5' s5)
                clear h5' s5 CD
                go_wp2_with fail
                go_roundg g
                case measure => omega
                case rel => exact ⟨k + 1, _, _, _, step_num HI.out, by first | rfl | go_num, O4.out.other T5.out O4.out.on.more⟩
              · by_cases h7 : m8 = 7
                · subst h7
                  go_wp2_with fail
                  go_roundg g
                  case measure => omega
                  case rel => exact ⟨k + 1, _, _, _, step_num HI.out, by first | rfl | go_num, O4.out.other ⟨O4.out.mine, O4.out.w, O4.out.g⟩ O4.out.on.more⟩
                · have hb4 : ((m8 : Int) == 4) = false := by simp; omega
                  have hb5 : ((m8 : Int) == 5) = false := by simp; omega
                  have hb6 : ((m8 : Int) == 6) = false := by simp; omega
                  have hb7 : ((m8 : Int) == 7) = false := by simp; omega
                  have CS := Lib.hid (M4.out.send (by rw [HNN.out]; exact LL.out) (fullM k))
                  rw [show room l = true from by unfold room; exact decide_eq_true (by have := FK.out; omega), show Nt.send l (fullM k) = l ++ [fullM k] from by unfold Nt.send; rw [if_pos (by have := FK.out; omega)]] at CS
                  unfold mgV fullM at CS
                  go_wp2_with fail
                  refine CS.out.mono ?_
                  rintro e w5 ⟨rfl, h5', s5⟩
                  have T5 := Lib.hid (ST.out _ _ h5' s5)
                  have NX0 := O4.out.on.put (m := fullM k) (q := k) rfl (by omega)
                  obtain ⟨c1, c2⟩ := num_cell T5.out.2.1 (i := k) (by rw [O4.out.on.wl]; omega)
                  have bnd := O4.out.on.wb k (by omega)
                  obtain ⟨v0, hv0⟩ : ∃ v0, want.getD k 0 = v0 := ⟨_, rfl⟩
                  rw [hv0] at NX0 c1 bnd
                  obtain ⟨v1, hv1⟩ : ∃ v1, v0 + 1 = v1 := ⟨_, rfl⟩
                  rw [hv1] at NX0
                  have NX := Lib.hid NX0
                  have wv : wrap64 (v0 + 1) = v1 := by rw [← hv1]; exact i64w (by have := FK.out; unfold top; omega) (by have := FK.out; unfold top; omega)
                  clear h5' s5 hv0 hv1 NX0 bnd
                  go_wp2_with fail
                  go_roundg g
                  case measure => omega
                  case rel => exact ⟨k + 1, _, _, _, step_num HI.out, by first | rfl | go_num, O4.out.setW T5.out k v1 NX.out⟩
        · have hnp : (0 : Int) < (n : Int) := by omega
          obtain ⟨r1, r2, kk, t1, t2, t3, hkk⟩ := place XOK.out.i (show 0 < n by omega) LL.out
          obtain ⟨m, hm⟩ : ∃ m, l[kk]? = some m := ⟨_, List.getElem?_eq_getElem (by rw [HNN.out]; exact hkk)⟩
          have HM := Lib.hid hm
          obtain ⟨qn, hqn⟩ : ∃ qn : Nat, m.q = (qn : Int) := ⟨m.q.toNat, by have := O4.out.on.each m (List.mem_of_getElem? hm); omega⟩
          have hq1 : (qn : Int) < (N : Int) := by have := O4.out.on.each m (List.mem_of_getElem? hm); omega
          have HQ := Lib.hid hqn
          obtain ⟨p', c', e', _, _, hc⟩ := MI.out
          rw [HNN.out] at e'
          simp only [Value.slice.injEq] at e'
          obtain ⟨rfl, -, rfl⟩ := e'
          obtain ⟨am, rfl, gm⟩ := hc kk m hm
          have GM : Hid (∀ X, Keeps w4 X → MgAt X (am.add (kk * 7)) m) := Lib.hid fun X kX => gm.keeps kX
          have GA : Hid (∀ Y, Still (fun i => (i = gW ∨ i = gG) ∨ (wr.heap.size ≤ i ∧ i < w4.heap.size)) w4 Y → MgAt Y (am.add (kk * 7)) m) := Lib.hid fun Y s => gm.loc (s _ (Or.inr (by rw [add_block]; exact mgK.own_lt GV.out am.block rfl)))
          have ST : Hid (∀ Y l', Mine P wb (fun i => (i = gW ∨ i = gG) ∨ (wr.heap.size ≤ i ∧ i < w4.heap.size)) Y b l' → Still (fun i => (i = gW ∨ i = gG) ∨ (wr.heap.size ≤ i ∧ i < w4.heap.size)) w4 Y → Mine P wb (fun i => i = gW ∨ i = gG) Y b l' ∧ Y.heap[gW]? = some (numObj want) ∧ Y.heap[gG]? = some (numObj got)) := Lib.hid fun Y l' h s => O4.out.still (h.sub fun i => Or.inl) fun i hi => s i (Or.inl hi)
          have hk1 : (kk : Int) < (n : Int) := by omega
          have hk0 : (0 : Int) ≤ (kk : Int) := by omega
          have hq0 : (0 : Int) ≤ (qn : Int) := by omega
          obtain ⟨y0, y1, y2, y3, y4, y5, y6⟩ := gm
          rw [hqn] at y4
          have hg1 : ¬ ((qn : Int) < 0) := by omega
          have hg2 : ¬ ((N : Int) ≤ (qn : Int)) := by omega
          clear hc hm hqn
          have KI : Hid (I64 (kk : Int)) := Lib.hid (by unfold I64 top; have := LL.out; omega)
          have IB : Hid (isB l (kk : Int) = true) := Lib.hid (is_iff.2 ⟨by omega, by rw [HNN.out]; omega⟩)
          have IG : Hid (gone l (kk : Int) = some m) := Lib.hid (by unfold gone; rw [if_pos IB.out, Int.toNat_natCast]; exact HM.out)
          have ID : Hid (del l (kk : Int) = l.take kk ++ l.drop (kk + 1)) := Lib.hid (by rw [del_yes IB.out, Int.toNat_natCast])
          have QN : Hid (qn < N) := Lib.hid (by omega)
          have FK : Hid (l.length ≤ k ∧ k < 100) := Lib.hid ⟨O4.out.on.few, by omega⟩
          go_upto_region 15 with (fail)
          clear y0 y1 y2 y3 y5 y6 q8 t1 t2 t3
          by_cases h4 : m8 = 4
          · subst h4
            have CD := Lib.hid (M4.out.deliver (by rw [HNN.out]; exact LL.out) (kk : Int) KI.out)
            rw [IB.out, IG.out, ID.out] at CD
            unfold delV mgV at CD
            simp only at CD
            clear y4
            go_wp2_with fail
            refine CD.out.mono ?_
            rintro e w5 ⟨rfl, h5, s5⟩
            obtain ⟨n9, hn9⟩ : ∃ n9, w5.heap.size = n9 := ⟨_, rfl⟩
            obtain ⟨w6, hw6⟩ : ∃ w6, w5.alloc (mgBox m) = w6 := ⟨_, rfl⟩
            have T6 := Lib.hid (show Mine P wb (fun i => i = gW ∨ i = gG) w6 b (l.take kk ++ l.drop (kk + 1)) ∧ w6.heap[gW]? = some (numObj want) ∧ w6.heap[gG]? = some (numObj got) from by
              obtain ⟨a1, a2, a3⟩ := ST.out _ _ h5 s5
              rw [← hw6]
              exact ⟨a1.keeps (nbox _ _), box_keep a2 (nbox _ _), box_keep a3 (nbox _ _)⟩)
            have B6 : Hid (w6.heap[n9]? = some (mgBox m)) := Lib.hid (by rw [← hn9, ← hw6]; exact heap_alloc_new _ _)
            have K6 : Hid (Keeps w5 w6) := Lib.hid (hw6 ▸ nbox _ _)
            have EW6 := Lib.hid hw6
            have EN9 := Lib.hid hn9
            have GS := Lib.hid ((GA.out w5 s5).keeps K6.out)
            have NX0 := O4.out.on.got1 HM.out HQ.out QN.out
            obtain ⟨v0, hv0⟩ : ∃ v0, got.getD qn 0 = v0 := ⟨_, rfl⟩
            have bnd := O4.out.on.gb qn QN.out
            rw [hv0] at NX0 bnd
            obtain ⟨v1, hv1⟩ : ∃ v1, v0 + 1 = v1 := ⟨_, rfl⟩
            rw [hv1] at NX0
            have NX := Lib.hid NX0
            have HV0 := Lib.hid hv0
            have wv : wrap64 (v0 + 1) = v1 := by rw [← hv1]; exact i64w (by have := FK.out; unfold top; omega) (by have := FK.out; unfold top; omega)
            clear h5 s5 hw6 hn9 hv0 hv1 NX0 bnd CD
            unfold mgBox at EW6
            go_upto_region 21 with (fail)
            rw [EW6.out, EN9.out]
            clear EW6 EN9
            obtain ⟨⟨z0, z1, z2, z3, z4, z5, z6⟩, _⟩ := mg_box_cells B6.out
            obtain ⟨y0, y1, y2, y3, y4, y5, y6⟩ := GS.out
            have ss := str_self m.s
            have ssb := str_self2 m.s
            go_quiet (fail)
            have KQ : Hid (Keeps w6 (w6.drewN nq)) := Lib.hid (ndrewN (Keeps.refl w6) nq)
            have T7 := Lib.hid (show Mine P wb (fun i => i = gW ∨ i = gG) (w6.drewN nq) b (l.take kk ++ l.drop (kk + 1)) ∧ (w6.drewN nq).heap[gW]? = some (numObj want) ∧ (w6.drewN nq).heap[gG]? = some (numObj got) from ⟨T6.out.1.keeps KQ.out, box_keep T6.out.2.1 KQ.out, box_keep T6.out.2.2 KQ.out⟩)
            obtain ⟨c1, c2⟩ := num_cell T6.out.2.2 (i := qn) (by rw [O4.out.on.gl]; exact QN.out)
            rw [HV0.out] at c1
            rw [HQ.out] at z4 y4
            clear y0 y1 y2 y3 y5 y6 z0 z1 z2 z3 z5 z6 y4
            go_wp2_with fail
            go_roundg g
            case measure => omega
            case rel => exact ⟨k + 1, _, _, _, step_num HI.out, by first | rfl | go_num, O4.out.setG T7.out qn v1 NX.out⟩
          · by_cases h5 : m8 = 5
            · subst h5
              have CD := Lib.hid (M4.out.drop (by rw [HNN.out]; exact LL.out) (kk : Int) KI.out)
              rw [IB.out, ID.out] at CD
              have NX0 := O4.out.on.drop1 HM.out HQ.out QN.out
              obtain ⟨v0, hv0⟩ : ∃ v0, want.getD qn 0 = v0 := ⟨_, rfl⟩
              have bnd := O4.out.on.wb qn QN.out
              rw [hv0] at NX0 bnd
              obtain ⟨v1, hv1⟩ : ∃ v1, v0 - 1 = v1 := ⟨_, rfl⟩
              rw [hv1] at NX0
              have NX := Lib.hid NX0
              have HV0 := Lib.hid hv0
              have wv : wrap64 (v0 - 1) = v1 := by rw [← hv1]; exact i64w (by have := FK.out; unfold top; omega) (by have := FK.out; unfold top; omega)
              clear hv0 hv1 NX0 bnd y4
              go_wp2_with fail
              refine CD.out.mono ?_
              rintro e w5 ⟨rfl, h5', s5⟩
              have T5 := Lib.hid (ST.out _ _ h5' s5)
              obtain ⟨c1, c2⟩ := num_cell T5.out.2.1 (i := qn) (by rw [O4.out.on.wl]; exact QN.out)
              rw [HV0.out] at c1
              obtain ⟨y0, y1, y2, y3, y4, y5, y6⟩ := GA.out w5 s5
              clear y0 y1 y2 y3 y5 y6
              rw [HQ.out] at y4
              clear h5' CD
              go_wp2_with fail
              go_roundg g
              case measure => omega
              case rel => exact ⟨k + 1, _, _, _, step_num HI.out, by first | rfl | go_num, O4.out.setW T5.out qn v1 NX.out⟩
            · by_cases h6 : m8 = 6
              · subst h6
                have CD := Lib.hid (M4.out.double (by rw [HNN.out]; exact LL.out) (kk : Int) KI.out)
                rw [show dblB l (kk : Int) = true from by unfold dblB room; rw [IB.out, decide_eq_true (show l.length < 1000 by have := FK.out; omega)]; rfl, dbl_yes IG.out, show Nt.send l m = l ++ [m] from by unfold Nt.send; rw [if_pos (by have := FK.out; omega)]] at CD
                have NX0 := O4.out.on.put HQ.out QN.out
                obtain ⟨v0, hv0⟩ : ∃ v0, want.getD qn 0 = v0 := ⟨_, rfl⟩
                have bnd := O4.out.on.wb qn QN.out
                rw [hv0] at NX0 bnd
                obtain ⟨v1, hv1⟩ : ∃ v1, v0 + 1 = v1 := ⟨_, rfl⟩
                rw [hv1] at NX0
                have NX := Lib.hid NX0
                have HV0 := Lib.hid hv0
                have wv : wrap64 (v0 + 1) = v1 := by rw [← hv1]; exact i64w (by have := FK.out; unfold top; omega) (by have := FK.out; unfold top; omega)
                clear hv0 hv1 NX0 bnd y4
                go_wp2_with fail
                refine CD.out.mono ?_
                rintro e w5 ⟨rfl, h5', s5⟩
                have T5 := Lib.hid (ST.out _ _ h5' s5)
                obtain ⟨c1, c2⟩ := num_cell T5.out.2.1 (i := qn) (by rw [O4.out.on.wl]; exact QN.out)
                rw [HV0.out] at c1
                obtain ⟨y0, y1, y2, y3, y4, y5, y6⟩ := GA.out w5 s5
                clear y0 y1 y2 y3 y5 y6
                rw [HQ.out] at y4
                clear h5' CD
                go_wp2_with fail
                go_roundg g
                case measure => omega
                case rel => exact ⟨k + 1, _, _, _, step_num HI.out, by first | rfl | go_num, O4.out.setW T5.out qn v1 NX.out⟩
              · by_cases h7 : m8 = 7
                · subst h7
                  obtain ⟨j, hj⟩ : ∃ j, n - 1 - kk = j := ⟨_, rfl⟩
                  obtain ⟨n1, hn1⟩ : ∃ n1, n - 1 = n1 := ⟨_, rfl⟩
                  have e1 : wrap64 ((n : Int) - 1) = (n1 : Int) := by rw [show (n : Int) - 1 = (n1 : Int) from by omega]; exact i64w (by unfold top; omega) (by have := LL.out; unfold top; omega)
                  have e2 : wrap64 ((n1 : Int) - (kk : Int)) = (j : Int) := by rw [show (n1 : Int) - (kk : Int) = (j : Int) from by omega]; exact i64w (by unfold top; omega) (by have := LL.out; unfold top; omega)
                  have hjn : j < n := by omega
                  obtain ⟨m2, hm2⟩ : ∃ m2, l[j]? = some m2 := ⟨_, List.getElem?_eq_getElem (by rw [HNN.out]; exact hjn)⟩
                  have TB : turnB l (kk : Int) (j : Int) = true := by
                    unfold turnB
                    rw [IB.out, is_iff.2 ⟨by omega, by rw [HNN.out]; omega⟩]; rfl
                  have CT := Lib.hid (M4.out.turn (by rw [HNN.out]; exact LL.out) (kk : Int) (j : Int) KI.out (by unfold I64 top; have := LL.out; omega))
                  rw [TB, turn_yes TB (by rw [Int.toNat_natCast]; exact HM.out) (by rw [Int.toNat_natCast]; exact hm2), Int.toNat_natCast, Int.toNat_natCast] at CT
                  have NX := Lib.hid (O4.out.on.turn1 HM.out hm2)
                  clear y4 hj hn1 TB hm2
                  go_wp2_with fail
                  refine CT.out.mono ?_
                  rintro e w5 ⟨rfl, h5', s5⟩
                  have T5 := Lib.hid (ST.out _ _ h5' s5)
                  clear h5' s5 CT
                  go_wp2_with fail
                  go_roundg g
                  case measure => omega
                  case rel => exact ⟨k + 1, _, _, _, step_num HI.out, by first | rfl | go_num, O4.out.other T5.out NX.out⟩
                · have hb4 : ((m8 : Int) == 4) = false := by simp; omega
                  have hb5 : ((m8 : Int) == 5) = false := by simp; omega
                  have hb6 : ((m8 : Int) == 6) = false := by simp; omega
                  have hb7 : ((m8 : Int) == 7) = false := by simp; omega
                  have CS := Lib.hid (M4.out.send (by rw [HNN.out]; exact LL.out) (fullM k))
                  rw [show room l = true from by unfold room; exact decide_eq_true (by have := FK.out; omega), show Nt.send l (fullM k) = l ++ [fullM k] from by unfold Nt.send; rw [if_pos (by have := FK.out; omega)]] at CS
                  unfold mgV fullM at CS
                  clear y4
                  go_wp2_with fail
                  refine CS.out.mono ?_
                  rintro e w5 ⟨rfl, h5', s5⟩
                  have T5 := Lib.hid (ST.out _ _ h5' s5)
                  have NX0 := O4.out.on.put (m := fullM k) (q := k) rfl (by omega)
                  obtain ⟨c1, c2⟩ := num_cell T5.out.2.1 (i := k) (by rw [O4.out.on.wl]; omega)
                  have bnd := O4.out.on.wb k (by omega)
                  obtain ⟨v0, hv0⟩ : ∃ v0, want.getD k 0 = v0 := ⟨_, rfl⟩
                  rw [hv0] at NX0 c1 bnd
                  obtain ⟨v1, hv1⟩ : ∃ v1, v0 + 1 = v1 := ⟨_, rfl⟩
                  rw [hv1] at NX0
                  have NX := Lib.hid NX0
                  have wv : wrap64 (v0 + 1) = v1 := by rw [← hv1]; exact i64w (by have := FK.out; unfold top; omega) (by have := FK.out; unfold top; omega)
                  clear h5' s5 hv0 hv1 NX0 bnd
                  go_wp2_with fail
                  go_roundg g
                  case measure => omega
                  case rel => exact ⟨k + 1, _, _, _, step_num HI.out, by first | rfl | go_num, O4.out.setW T5.out k v1 NX.out⟩
end Nt
end Go.Proofs.Ytajphjlfefhajaa
