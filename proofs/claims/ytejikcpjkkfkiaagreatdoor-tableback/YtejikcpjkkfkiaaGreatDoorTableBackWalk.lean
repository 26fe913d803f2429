/-
  THE LAW TableBack: the walk.
-/
import Derived.Test.YtejikcpjkkfkiaaGreatDoorTabM4
import Derived.Test.YtejikcpjkkfkiaaGreatDoorTabM3
namespace Go.Proofs.YtejikcpjkkfkiaaGreatDoor.tableBack
open Go.RowKit

set_option maxRecDepth 100000 in
set_option maxHeartbeats 4000000 in
theorem walk (ao : Option Addr) (l : List Cx) (cap : Nat) (w : World) (hs : XSees w ao l) (_hn : ao = none → l.length = 0) (hl : l.length ≤ 140737488355328) (hc : ∀ c ∈ l, c.In ∧ wtX c ≤ 562949953421312) (ht : Tab w) (ue : TypeId) (pv : Value) (he : Err w ue pv) :
    Calls Tryz.prog 5 #[.slice ao l.length cap] w fun e w' => e = .returned (.bool true) ∧ Below w.heap.size w w' := by
  obtain ⟨i1, hi1, hy0, hy1, hy2⟩ := infoX infoCx
  have hgT : 0 < w.heap.size := World.block_lt_of_cell? _ _ (ht 0 (by decide))
  have HT : Hid (∀ u, Below w.heap.size w u → Tab u) := fun u hu => ht.belowB hu hgT
  have HE : Hid (∀ u, Below w.heap.size w u → Err u ue pv) := fun u hu => he.below hu (Nat.le_refl _)
  have LV : Hid (∀ u, Below w.heap.size w u → Calls Tryz.prog 10 #[] u fun x w' => x = .returned (.bool true) ∧ Below u.heap.size u w') := fun u hu => lives9_any u (HT.out u hu) ue pv (HE.out u hu)
  have W1 : Hid (Calls Tryz.prog 9 #[.slice ao l.length cap, .int .i64 300] w fun e w' => (∃ z : Nat, e = .returned (.int .i64 z) ∧ z ≤ 1000000000000000 ∧ (z ≤ 300 → l.length ≤ 300 ∧ wtXs l ≤ 20 * 300)) ∧ Below w.heap.size w w') :=
    weigh9_any ao l cap 300 w hs (by omega) hl (fun c h => (hc c h).2)
  have HS : Hid (∀ w', Below w.heap.size w w' → XSees w' ao l) := fun w' h => hs.below h (Nat.le_refl _)
  have hlz : (l.length : Int) ≤ 140737488355328 := by omega
  have HNU : Hid (∀ c ∈ l, c.Nums) := fun c h => ⟨(hc c h).1.1, (hc c h).1.2⟩
  clear hc hs hl ht he
  go_enter Tryz.func5, Tryz.ntmps5
  go_wp2_with fail
  refine W1.out.mono ?_
  rintro e w1 ⟨⟨z, rfl, hz, hzm⟩, hb1⟩
  by_cases hbig : 300 < z
  · have hbz : (300 : Int) < (z : Int) := by omega
    clear hzm
    go_wp2_with fail
    refine (LV.out _ hb1).mono ?_
    rintro e w2 ⟨rfl, hb2⟩
    go_wp2_with fail
    go_ret
    exact ⟨rfl, hb1.trans (hb2.mono hb1.size)⟩
  · have hbz : ¬ (300 : Int) < (z : Int) := by omega
    obtain ⟨hl4, hw4⟩ := hzm (by omega)
    have GD : Hid (∀ c ∈ l, ∀ w : World, Calls Tryz.prog 17 #[c.val] w fun x w' => x = .returned (.bool (goodC c)) ∧ Below w.heap.size w w') := fun c hc w => by
      have hm4 : (20 * 300 : Nat) ≤ maxLen := by decide
      obtain ⟨a1, a2, a3, a4⟩ := wt_mem9 hc hw4
      exact goodX_any c w (by omega) (by omega) (by omega) (by omega)
    have HW4 : Hid (wtXs l ≤ 20 * 300) := hw4
    clear hzm hbig hw4
    go_wp2_with fail
    go_loopw [3, 23] (fun s5 s23 wr => ∃ (i : Nat) (v : Value), i ≤ l.length ∧ v = s5 ∧ s23 = .int .i64 i ∧ wr.ownsRow w.heap.size 45 10 v (goods (l.take i)).length ((goods (l.take i)).flatMap xs10) ∧ Below w.heap.size w wr) (fun _ s23 _ => l.length - (intOf s23).toNat)
    case atStart => exact ⟨0, _, by omega, rfl, rfl, World.ownsRow_nil _ _ _ _, hb1⟩
    case round =>
      obtain ⟨i, v, hi, rfl, rfl, ho, hbr⟩ := hrel
      rcases Nat.lt_or_ge i l.length with hlt | hge
      · have hc0 : l[i]? = some l[i] := List.getElem?_eq_getElem hlt
        obtain ⟨b1, o1, rfl, x1⟩ := (HS.out wr hbr) i _ hc0
        have hgs : goods (l.take (i + 1)) = if goodC l[i] then goods (l.take i) ++ [l[i]] else goods (l.take i) := by rw [takeX_succ hc0, goods_snoc]
        have hgl : (goods (l.take i)).length ≤ 300 := by
          have h1 : (goods (l.take i)).length ≤ (l.take i).length := List.length_filter_le _ _
          rw [List.length_take] at h1; omega
        have G1 := fun w' => GD.out l[i] (List.getElem_mem hlt) w'
        generalize l[i] = c at *
        obtain ⟨⟨ct, cp, cr, cc⟩, ⟨cti, cd, cl, ck, cn, cstr⟩⟩ := c
        simp only [Cx.val, Cx.a] at G1
        obtain ⟨k0, k1, k2, k3, k4, k5, k6, k7, k8, k9⟩ := x1
        simp only at k0 k1 k2 k3 k4 k5 k6 k7 k8 k9
        have hlt' : (i : Int) < (l.length : Int) := by omega
        have hbx : Below wr.heap.size wr (wr.alloc (.cells #[.string ct, .string cp, .int .i64 cr, .string cc, .int .i64 cti, .bool cd, .int .i64 cl, .int .i64 ck, .int .i64 cn, .string cstr] 45)) := (Below.refl _ _).alloc (Nat.le_refl _) _
        have bxx := Blk.new wr [.string ct, .string cp, .int .i64 cr, .string cc, .int .i64 cti, .bool cd, .int .i64 cl, .int .i64 ck, .int .i64 cn, .string cstr] 45
        have G2 := toHidE (G1 (wr.alloc (.cells #[.string ct, .string cp, .int .i64 cr, .string cc, .int .i64 cti, .bool cd, .int .i64 cl, .int .i64 ck, .int .i64 cn, .string cstr] 45)))
        have HN : Hid (∀ w', Below (wr.alloc (.cells #[.string ct, .string cp, .int .i64 cr, .string cc, .int .i64 cti, .bool cd, .int .i64 cl, .int .i64 ck, .int .i64 cn, .string cstr] 45)).heap.size (wr.alloc (.cells #[.string ct, .string cp, .int .i64 cr, .string cc, .int .i64 cti, .bool cd, .int .i64 cl, .int .i64 ck, .int .i64 cn, .string cstr] 45)) w' → Blk w' wr.heap.size [.string ct, .string cp, .int .i64 cr, .string cc, .int .i64 cti, .bool cd, .int .i64 cl, .int .i64 ck, .int .i64 cn, .string cstr] 45 ∧ Below w.heap.size w w' ∧ w'.ownsRow w.heap.size 45 10 v (goods (l.take i)).length ((goods (l.take i)).flatMap xs10)) := fun w' hb => ⟨bxx.carry (hb.block _ (by rw [World.size_alloc]; omega)), hbr.trans ((hbx.trans (hb.mono hbx.size)).mono hbr.size), owns_carryX ho fun g hg => by
          have h2 := (ho.lt g hg).2
          exact (hb.block g (by rw [World.size_alloc]; omega)).trans (hbx.block g h2)⟩
        generalize hgc : goodC ⟨⟨ct, cp, cr, cc⟩, ⟨cti, cd, cl, ck, cn, cstr⟩⟩ = g at *
        have HG := toHidE hgs
        clear hgs hgc G1 hbx bxx ho hc0 hbr
        go_wp2_with fail
        refine G2.out.mono ?_
        rintro e w2 ⟨rfl, hb2⟩
        obtain ⟨b2, hB2, ho2⟩ := HN.out w2 hb2
        have m0 := b2.cell 0 rfl
        have m1 := b2.cell 1 rfl
        have m2 := b2.cell 2 rfl
        have m3 := b2.cell 3 rfl
        have m4 := b2.cell 4 rfl
        have m5 := b2.cell 5 rfl
        have m6 := b2.cell 6 rfl
        have m7 := b2.cell 7 rfl
        have m8 := b2.cell 8 rfl
        have m9 := b2.cell 9 rfl
        clear k0 k1 k2 k3 k4 k5 k6 k7 k8 k9 G2 HN b2 hb2
        cases g
        · simp only [Bool.false_eq_true, if_false] at HG
          clear m0 m1 m2 m3 m4 m5 m6 m7 m8 m9
          go_wp2_with fail
          go_roundw
          case rel => exact ⟨i + 1, _, by omega, rfl, by go_num, by rw [HG.out]; exact ho2, hB2⟩
          case measure => (simp [intOf]; try omega)
        · simp only [if_true] at HG
          have hsz := hB2.size
          have HNW : Hid (∀ (v3 : Value) (w3 : World), w3.ownsRow w.heap.size 45 10 v3 ((goods (l.take i)).length + 1) ((goods (l.take i)).flatMap xs10 ++ ([(⟨⟨ct, cp, cr, cc⟩, ⟨cti, cd, cl, ck, cn, cstr⟩⟩ : Cx)] : List Cx).flatMap xs10) → Grew (w2.alloc (.cells #[.string ct, .string cp, .int .i64 cr, .string cc, .int .i64 cti, .bool cd, .int .i64 cl, .int .i64 ck, .int .i64 cn, .string cstr] 45)) w3 v v3 → w3.ownsRow w.heap.size 45 10 v3 (goods (l.take (i + 1))).length ((goods (l.take (i + 1))).flatMap xs10) ∧ Below w.heap.size w w3) := fun v3 w3 h1 h2 => by
            rw [HG.out, List.length_append, List.flatMap_append]
            exact ⟨h1, (hB2.alloc hB2.size _).trans (h2.below (by rw [World.size_alloc]; omega) fun g hg => (ho2.lt g hg).1)⟩
          go_wp2_with (at_builtin; go_must (refine wpList_append_grew _ rfl _ _ 22 22 rfl w.heap.size 45 i1 _ 10 112 Tryz.underlying22 hi1 hy0 hy1 hy2 rfl _ (goods (l.take i)).length _ rfl (ho2.alloc _) _ 1 (([(⟨⟨ct, cp, cr, cc⟩, ⟨cti, cd, cl, ck, cn, cstr⟩⟩ : Cx)] : List Cx).flatMap xs10) rfl (src_cellX w2 ⟨⟨ct, cp, cr, cc⟩, ⟨cti, cd, cl, ck, cn, cstr⟩⟩) (by unfold maxLen; omega) (by omega) (by rw [World.size_alloc]; omega) ?_; intro v3 w3 ho3 hg3; have hM := toHidE (HNW.out v3 w3 ho3 hg3); clear ho3 hg3))
          go_roundw
          case rel => exact ⟨i + 1, _, by omega, rfl, by go_num, hM.out.1, hM.out.2⟩
          case measure => (simp [intOf]; try omega)
      · obtain rfl : i = l.length := by omega
        rw [List.take_length] at ho
        have hgl : (goods l).length ≤ l.length := List.length_filter_le _ _
        have hgez : ¬ (l.length : Int) < (l.length : Int) := by omega
        have hWrt := norm_wrt HNU.out (by omega : l.length ≤ 400)
        have hOk := norm_ok HNU.out (by omega : l.length ≤ 400)
        have hBad := norm_bad (l := l)
        have hNle := nrm_le (goods l)
        obtain ⟨ag, cg, rfl, xg, hag⟩ := owns_xsees ho
        have hng : ag = none → (goods l).length = 0 := fun e => by
          rcases ho.2 with ⟨h1, h2⟩ | ⟨g, cap', cur, h, _⟩
          · exact h2
          · injection h with e1 e2 e3; rw [e] at e1; cases e1
        have NG : Hid (Calls Tryz.prog 18 #[.slice ag (goods l).length cg] wr fun e w' => ∃ v, e = .returned v ∧ w'.ownsRow wr.heap.size 45 10 v (nrm (goods l)).length ((nrm (goods l)).flatMap xs10) ∧ Below wr.heap.size wr w') := norm_any ag (goods l) cg wr xg hng (by omega)
        clear xg hag ho
        by_cases hG : (goods l).length = 0
        · have hbd := hBad hG
          have hn0 : (nrm (goods l)).length = 0 := by omega
          rw [hG] at NG
          go_wp2_with fail
          go_fit NG.out
          rintro e w2 ⟨v2, rfl, ho2, hb2⟩
          have hb02 : Below w.heap.size w w2 := hbr.trans (hb2.mono hbr.size)
          have WB0 := write_rowB ho2 hWrt hbd
          obtain ⟨a2, c2, rfl, x2, -⟩ := owns_xsees ho2
          rw [hn0] at WB0 ⊢
          have WB : Hid (Calls Tryz.prog 11 #[.slice a2 0 c2] w2 fun e w' => e = .returned (.tuple #[.slice none 0 0, .int .i64 2]) ∧ Below w2.heap.size w2 w') := WB0
          clear NG ho2 hOk hBad WB0 x2
          go_wp2_with fail
          go_fit WB.out
          rintro e w3 ⟨rfl, hb3⟩
          have hb03 : Below w.heap.size w w3 := hb02.trans (hb3.mono hb02.size)
          clear WB
          go_wp2_with fail
          refine (LV.out _ hb03).mono ?_
          rintro e w4 ⟨rfl, hb4⟩
          go_wp2_with fail
          go_ret
          exact ⟨rfl, hb03.trans (hb4.mono hb03.size)⟩
        · have hok := hOk (by omega)
          have hwt : wtXs (nrm (goods l)) ≤ 6000 := Nat.le_trans (wtXs_nrm _) (Nat.le_trans (wtXs_goods l) (by have := HW4.out; omega))
          have hel := encTb_lenW hWrt
          have hB6 : (encTb (nrm (goods l))).length ≤ 60000 := by
            have h1 : nBk (nrm (goods l)).length ≤ 38 := by unfold nBk; omega
            have h2 : nOf (nrm (goods l)).length 10 ≤ 400 := by unfold nOf; omega
            omega
          have hN3 : (nrm (goods l)).length ≤ 300 := by omega
          have hNp : 0 < (nrm (goods l)).length := by have h := hok; unfold wrtB at h; simp only [Bool.and_eq_true, decide_eq_true_eq] at h; exact h.1
          have hRis := nrm_rising (goods l)
          go_wp2_with fail
          go_fit NG.out
          rintro e w2 ⟨v2, rfl, ho2, hb2⟩
          clear NG hOk hBad hel hwt hG hNle
          have hb02 : Below w.heap.size w w2 := hbr.trans (hb2.mono hbr.size)
          generalize nrm (goods l) = N at *
          have HFND : Hid (∀ c ∈ N, fnd c.k N = (c.v, true)) := fun c hc => fnd_mem hRis hc
          have HMAY : Hid (∀ c ∈ N, mayK (filB N.length N) (sumB (encK c.k.ky) 0#64) 7 = true) := fun c hc => filB_may (by unfold nOf; omega) hc
          have HBIG : Hid (∀ c ∈ N, c.k.Big) := fun c hc => hWrt.big hc
          have WR : Hid (∀ (u : World) (base : Nat) (v : Value), u.ownsRow base 45 10 v N.length (N.flatMap xs10) → Tab u → Calls Tryz.prog 11 #[v] u fun e w' => ∃ g cap, e = .returned (.tuple #[.slice (some ⟨g, 0, none⟩) (encTb N).length cap, .int .i64 0]) ∧ Row9 w' g (encTb N) cap ∧ u.heap.size ≤ g ∧ Below u.heap.size u w') := fun u base v h1 h2 => write_row h1 hWrt h2 hok
          have OP : Hid (∀ (u : World) (g cap : Nat), Row9 u g (encTb N) cap → Below w.heap.size w u → Calls Tryz.prog 19 #[.slice (some ⟨g, 0, none⟩) (encTb N).length cap] u fun e w' => e = .returned (.tuple #[.pointer (some ⟨u.heap.size, 0, none⟩), .int .i64 0]) ∧ TAt w' u.heap.size N ∧ Below u.heap.size u w') := fun u g cap h1 h2 => open_row h1 hWrt hok hB6 (HT.out u h2) ue pv (HE.out u h2)
          have W1 := toHidE (WR.out w2 _ v2 ho2 (HT.out _ hb02))
          obtain ⟨a2, c2, rfl, x2, -⟩ := owns_xsees ho2
          have HX : Hid (∀ u, Below w2.heap.size w2 u → XSees u a2 N) := fun u hu => x2.below hu (Nat.le_refl _)
          clear ho2 hWrt hok hB6 hRis x2
          generalize encTb N = B at *
          go_wp2_with fail
          refine (Hid.out W1).mono ?_
          rintro e w3 ⟨g, kc, rfl, hR3, hg3, hb3⟩
          have hb03 : Below w.heap.size w w3 := hb02.trans (hb3.mono hb02.size)
          have O1 := toHidE (OP.out w3 g kc hR3 hb03)
          clear W1 OP
          have hn0 : ((N.length : Int) == 0) = false := by rw [beq_eq_false_iff_ne]; omega
          have HR3 : Hid (Row9 w3 g B kc) := hR3
          clear hR3
          go_wp2_with fail
          refine (Hid.out O1).mono ?_
          rintro e w4 ⟨rfl, hT4, hb4⟩
          clear O1
          have hb04 : Below w.heap.size w w4 := hb03.trans (hb4.mono hb03.size)
          have hb24 : Below w2.heap.size w2 w4 := hb3.trans (hb4.mono hb3.size)
          have HR4 : Hid (∀ u, Below w4.heap.size w4 u → Row9 u g B kc) := fun u hu => (HR3.out.carry (hb4.block _ HR3.out.lt)).carry (hu.block _ (Nat.lt_of_lt_of_le HR3.out.lt hb4.size))
          obtain ⟨T, hT⟩ : ∃ T, T = w3.heap.size := ⟨_, rfl⟩
          rw [← hT] at hT4 ⊢
          have HTA : Hid (∀ u, Below w4.heap.size w4 u → TAt u T N) := fun u hu => hT4.below hu
          have AL : Hid (∀ u, Below w4.heap.size w4 u → Calls Tryz.prog 21 #[.pointer (some ⟨T, 0, none⟩)] u fun e w' => ∃ v, e = .returned v ∧ w'.ownsRow u.heap.size 45 10 v N.length (N.flatMap xs10) ∧ Below u.heap.size u w') := fun u hu => allT_any (HTA.out u hu)
          clear HR3 hT4 hT
          go_wp2_with fail
          refine (AL.out w4 (Below.refl _ _)).mono ?_
          rintro e w5 ⟨v5, rfl, ho5, hb5⟩
          obtain ⟨a5, c5, rfl, x5, -⟩ := owns_xsees ho5
          have LK := toHidE (likeX_same a5 a2 N c5 c2 w5 x5 (HX.out _ (hb24.trans (hb5.mono hb24.size))) (by omega))
          clear ho5 x5
          go_wp2_with fail
          refine (Hid.out LK).mono ?_
          rintro e w6 ⟨rfl, hb6⟩
          have hb46 : Below w4.heap.size w4 w6 := hb5.trans (hb6.mono hb5.size)
          clear LK hb5 hb6
          go_wp2_with fail
          go_loopw [74] (fun s wr => ∃ i : Nat, i ≤ N.length ∧ s = .int .i64 i ∧ Below w4.heap.size w4 wr) (fun s _ => N.length - (intOf s).toNat)
          case atStart => exact ⟨0, by omega, rfl, hb46⟩
          case round =>
            obtain ⟨i, hi, rfl, hbr6⟩ := hrel
            rcases Nat.lt_or_ge i N.length with hlt | hge
            · have hc0 : N[i]? = some N[i] := List.getElem?_eq_getElem hlt
              have hin := List.getElem_mem hlt
              obtain ⟨b1, o1, rfl, x1⟩ := (HX.out wr (hb24.trans (hbr6.mono hb24.size))) i _ hc0
              obtain ⟨wa, hwa⟩ : ∃ wa, wa = wr.alloc (.cells N[i].a 45) := ⟨_, rfl⟩
              have hba : Below wr.heap.size wr wa := by rw [hwa]; exact (Below.refl _ _).alloc (Nat.le_refl _) _
              have hb4a : Below w4.heap.size w4 wa := hbr6.trans (hba.mono hbr6.size)
              have GT : Hid (Calls Tryz.prog 22 #[.pointer (some ⟨T, 0, none⟩), N[i].k.v] wa fun e w' => e = .returned (.tuple #[N[i].v.v, .bool true]) ∧ Below wa.heap.size wa w') := by
                have := getT_any (HTA.out wa hb4a) N[i].k
                rw [HFND.out _ hin] at this
                exact this
              have MY : Hid (∀ u, Below wa.heap.size wa u → Calls Tryz.prog 23 #[.pointer (some ⟨T, 0, none⟩), N[i].k.v] u fun e w' => e = .returned (.bool true) ∧ Below u.heap.size u w') := fun u hu => by
                have := mayT_any (HTA.out u (hb4a.trans (hu.mono hb4a.size))) N[i].k (HBIG.out _ hin)
                rw [HMAY.out _ hin] at this
                exact this
              generalize N[i] = c at *
              obtain ⟨⟨ct, cp, cr, cc⟩, ⟨cti, cd, cl, ck, cn, cstr⟩⟩ := c
              obtain ⟨k0, k1, k2, k3, k4, k5, k6, k7, k8, k9⟩ := x1
              simp only [Cx.a, Kb.v, Vr.v] at k0 k1 k2 k3 k4 k5 k6 k7 k8 k9 GT MY hwa
              have bxx : Blk wa wr.heap.size [.string ct, .string cp, .int .i64 cr, .string cc, .int .i64 cti, .bool cd, .int .i64 cl, .int .i64 ck, .int .i64 cn, .string cstr] 45 := by rw [hwa]; exact Blk.new wr _ _
              have p0 := bxx.cell 0 rfl
              have p1 := bxx.cell 1 rfl
              have p2 := bxx.cell 2 rfl
              have p3 := bxx.cell 3 rfl
              have HB8 : Hid (∀ u, Below wa.heap.size wa u → Blk (u.alloc (.cells #[.int .i64 cti, .bool cd, .int .i64 cl, .int .i64 ck, .int .i64 cn, .string cstr] 43)) wr.heap.size [.string ct, .string cp, .int .i64 cr, .string cc, .int .i64 cti, .bool cd, .int .i64 cl, .int .i64 ck, .int .i64 cn, .string cstr] 45 ∧ Blk (u.alloc (.cells #[.int .i64 cti, .bool cd, .int .i64 cl, .int .i64 ck, .int .i64 cn, .string cstr] 43)) u.heap.size [.int .i64 cti, .bool cd, .int .i64 cl, .int .i64 ck, .int .i64 cn, .string cstr] 43 ∧ Below wa.heap.size wa (u.alloc (.cells #[.int .i64 cti, .bool cd, .int .i64 cl, .int .i64 ck, .int .i64 cn, .string cstr] 43))) := fun u hu => by
                have h1 : Below wa.heap.size wa (u.alloc (.cells #[.int .i64 cti, .bool cd, .int .i64 cl, .int .i64 ck, .int .i64 cn, .string cstr] 43)) := hu.alloc hu.size _
                exact ⟨bxx.carry (h1.block _ bxx.lt), Blk.new u _ _, h1⟩
              have HB4 : Hid (∀ u, Below wa.heap.size wa u → Below w4.heap.size w4 u) := fun u hu => hb4a.trans (hu.mono hb4a.size)
              have hltz : (i : Int) < (N.length : Int) := by omega
              clear bxx hba hb4a hc0 hin hbr6
              go_wp2_with fail
              rw [← hwa]
              clear hwa k0 k1 k2 k3 k4 k5 k6 k7 k8 k9
              go_wp2_with fail
              refine GT.out.mono ?_
              rintro e w7 ⟨rfl, hb7⟩
              obtain ⟨b8, d8, hb8⟩ := HB8.out w7 hb7
              have m0 := b8.cell 0 rfl
              have m1 := b8.cell 1 rfl
              have m2 := b8.cell 2 rfl
              have m3 := b8.cell 3 rfl
              have m4 := b8.cell 4 rfl
              have m5 := b8.cell 5 rfl
              have m6 := b8.cell 6 rfl
              have m7 := b8.cell 7 rfl
              have m8 := b8.cell 8 rfl
              have m9 := b8.cell 9 rfl
              have n0 := d8.cell 0 rfl
              have n1 := d8.cell 1 rfl
              have n2 := d8.cell 2 rfl
              have n3 := d8.cell 3 rfl
              have n4 := d8.cell 4 rfl
              have n5 := d8.cell 5 rfl
              have M8 := toHidE (MY.out _ hb8)
              have H8 := toHidE hb8
              clear GT MY p0 p1 p2 p3 b8 d8 HB8 hb8 hb7
              go_wp2_with fail
              refine (Hid.out M8).mono ?_
              rintro e w9 ⟨rfl, hb9⟩
              have hb49 : Below w4.heap.size w4 w9 := HB4.out _ ((Hid.out H8).trans (hb9.mono (Hid.out H8).size))
              clear m0 m1 m2 m3 m4 m5 m6 m7 m8 m9 n0 n1 n2 n3 n4 n5 M8 H8 hb9
              go_wp2_with fail
              go_roundw
              case rel => exact ⟨i + 1, by omega, by go_num, hb49⟩
              case measure => (simp [intOf]; try omega)
            · obtain rfl : i = N.length := by omega
              have hgez : ¬ (N.length : Int) < (N.length : Int) := by omega
              have hb06 : Below w.heap.size w wr := hb04.trans (hbr6.mono hb04.size)
              go_wp2_with fail
              refine (AL.out wr hbr6).mono ?_
              rintro e w7 ⟨v7, rfl, ho7, hb7⟩
              have hb47 : Below w4.heap.size w4 w7 := hbr6.trans (hb7.mono hbr6.size)
              have hb07 : Below w.heap.size w w7 := hb04.trans (hb47.mono hb04.size)
              have W7 := toHidE (WR.out w7 _ v7 ho7 (HT.out _ hb07))
              clear ho7 WR
              go_wp2_with fail
              refine (Hid.out W7).mono ?_
              rintro e w8 ⟨g8, k8, rfl, hR8, hg8, hb8⟩
              have hb48 : Below w4.heap.size w4 w8 := hb47.trans (hb8.mono hb47.size)
              have hb08 : Below w.heap.size w w8 := hb04.trans (hb48.mono hb04.size)
              have SM : Hid (Calls Tryz.prog 13 #[.slice (some ⟨g8, 0, none⟩) B.length k8, .slice (some ⟨g, 0, none⟩) B.length kc] w8 fun e w' => e = .returned (.bool true) ∧ w' = w8) := by
                have := same_any (some ⟨g8, 0, none⟩) (some ⟨g, 0, none⟩) B B k8 kc w8 hR8.sees (HR4.out w8 hb48).sees (by simp) (by simp)
                rw [show (B == B) = true by simp] at this
                exact this
              clear W7 hR8 HR4
              go_wp2_with fail
              refine SM.out.mono ?_
              rintro e w9 ⟨rfl, he9⟩
              have he0 : w8 = w9 := he9.symm
              subst he0
              clear he9 SM
              go_wp2_with fail
              refine (LV.out _ hb08).mono ?_
              rintro e w10 ⟨rfl, hb10⟩
              go_wp2_with fail
              go_ret
              exact ⟨rfl, hb08.trans (hb10.mono hb08.size)⟩
end Go.Proofs.YtejikcpjkkfkiaaGreatDoor.tableBack
