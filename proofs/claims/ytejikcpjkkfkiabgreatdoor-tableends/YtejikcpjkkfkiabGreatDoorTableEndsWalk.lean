/-
  THE LAW TableEnds: the walk.
-/
import Derived.Test.YtejikcpjkkfkiabGreatDoorTabM4
import Derived.Test.YtejikcpjkkfkiabGreatDoorTabM3
namespace Go.Proofs.YtejikcpjkkfkiabGreatDoor.tableEnds
open Go.RowKit

set_option maxRecDepth 100000 in
set_option maxHeartbeats 4000000 in
theorem walk (ao : Option Addr) (l : List Cx) (cap : Nat) (k : Kb) (w0 : World) (hs0 : XSees w0 ao l) (_hn : ao = none → l.length = 0) (hl : l.length ≤ 140737488355328) (hc : ∀ c ∈ l, c.In ∧ wtX c ≤ 562949953421312) (_hk : InI k.r) (ht0 : Tab w0) (ue : TypeId) (pv : Value) (he0 : Err w0 ue pv) :
    Calls Tryz.prog 3 #[.slice ao l.length cap, k.v] w0 fun e w' => e = .returned (.bool true) ∧ Below w0.heap.size w0 w' := by
  obtain ⟨w, hw0⟩ : ∃ w, w = w0.alloc (.cells #[.string k.t, .string k.p, .int .i64 k.r, .string k.c] 24) := ⟨_, rfl⟩
  have hbw : Below w0.heap.size w0 w := by rw [hw0]; exact (Below.refl _ _).alloc (Nat.le_refl _) _
  have hKb : Blk w w0.heap.size [.string k.t, .string k.p, .int .i64 k.r, .string k.c] 24 := by rw [hw0]; exact Blk.new w0 _ _
  have hs : XSees w ao l := hs0.below hbw (Nat.le_refl _)
  have hgT0 : 0 < w0.heap.size := World.block_lt_of_cell? _ _ (ht0 0 (by decide))
  have ht : Tab w := ht0.belowB hbw hgT0
  have he : Err w ue pv := he0.below hbw (Nat.le_refl _)
  have HFIN : Hid (∀ u, Below w.heap.size w u → Below w0.heap.size w0 u) := fun u hu => hbw.trans (hu.mono hbw.size)
  have HKB : Hid (∀ u, Below w.heap.size w u → Blk u w0.heap.size [.string k.t, .string k.p, .int .i64 k.r, .string k.c] 24) := fun u hu => hKb.carry (hu.block _ hKb.lt)
  clear hs0 ht0 he0 hKb hbw hgT0
  obtain ⟨kt, kp, kr, kcc⟩ := k
  simp only [Kb.v] at hw0 HKB ⊢
  obtain ⟨i1, hi1, hy0, hy1, hy2⟩ := infoX infoCx
  have hgT : 0 < w.heap.size := World.block_lt_of_cell? _ _ (ht 0 (by decide))
  have HT : Hid (∀ u, Below w.heap.size w u → Tab u) := fun u hu => ht.belowB hu hgT
  have HE : Hid (∀ u, Below w.heap.size w u → Err u ue pv) := fun u hu => he.below hu (Nat.le_refl _)
  have LV : Hid (∀ u, Below w.heap.size w u → Calls Tryz.prog 5 #[] u fun x w' => x = .returned (.bool true) ∧ Below u.heap.size u w') := fun u hu => lives9_any u (HT.out u hu) ue pv (HE.out u hu)
  have W1 : Hid (Calls Tryz.prog 4 #[.slice ao l.length cap, .int .i64 200] w fun e w' => (∃ z : Nat, e = .returned (.int .i64 z) ∧ z ≤ 1000000000000000 ∧ (z ≤ 200 → l.length ≤ 200 ∧ wtXs l ≤ 20 * 200)) ∧ Below w.heap.size w w') :=
    weigh9_any ao l cap 200 w hs (by omega) hl (fun c h => (hc c h).2)
  have HS : Hid (∀ w', Below w.heap.size w w' → XSees w' ao l) := fun w' h => hs.below h (Nat.le_refl _)
  have hlz : (l.length : Int) ≤ 140737488355328 := by omega
  have HNU : Hid (∀ c ∈ l, c.Nums) := fun c h => ⟨(hc c h).1.1, (hc c h).1.2⟩
  clear hc hs hl ht he
  go_enter Tryz.func3, Tryz.ntmps3
  go_wp2_with fail
  rw [← hw0]
  clear hw0
  refine W1.out.mono ?_
  rintro e w1 ⟨⟨z, rfl, hz, hzm⟩, hb1⟩
  by_cases hbig : 200 < z
  · have hbz : (200 : Int) < (z : Int) := by omega
    clear hzm
    go_wp2_with fail
    refine (LV.out _ hb1).mono ?_
    rintro e w2 ⟨rfl, hb2⟩
    go_wp2_with fail
    go_ret
    exact ⟨rfl, HFIN.out _ (hb1.trans (hb2.mono hb1.size))⟩
  · have hbz : ¬ (200 : Int) < (z : Int) := by omega
    obtain ⟨hl4, hw4⟩ := hzm (by omega)
    have GD : Hid (∀ c ∈ l, ∀ w : World, Calls Tryz.prog 6 #[c.val] w fun x w' => x = .returned (.bool (goodC c)) ∧ Below w.heap.size w w') := fun c hc w => by
      have hm4 : (20 * 200 : Nat) ≤ maxLen := by decide
      obtain ⟨a1, a2, a3, a4⟩ := wt_mem9 hc hw4
      exact goodX_any c w (by omega) (by omega) (by omega) (by omega)
    have HW4 : Hid (wtXs l ≤ 20 * 200) := hw4
    clear hzm hbig hw4
    go_wp2_with fail
    go_loopw [5, 25] (fun s5 s23 wr => ∃ (i : Nat) (v : Value), i ≤ l.length ∧ v = s5 ∧ s23 = .int .i64 i ∧ wr.ownsRow w.heap.size 32 10 v (goods (l.take i)).length ((goods (l.take i)).flatMap xs10) ∧ Below w.heap.size w wr) (fun _ s23 _ => l.length - (intOf s23).toNat)
    case atStart => exact ⟨0, _, by omega, rfl, rfl, World.ownsRow_nil _ _ _ _, hb1⟩
    case round =>
      obtain ⟨i, v, hi, rfl, rfl, ho, hbr⟩ := hrel
      rcases Nat.lt_or_ge i l.length with hlt | hge
      · have hc0 : l[i]? = some l[i] := List.getElem?_eq_getElem hlt
        obtain ⟨b1, o1, rfl, x1⟩ := (HS.out wr hbr) i _ hc0
        have hgs : goods (l.take (i + 1)) = if goodC l[i] then goods (l.take i) ++ [l[i]] else goods (l.take i) := by rw [takeX_succ hc0, goods_snoc]
        have hgl : (goods (l.take i)).length ≤ 200 := by
          have h1 : (goods (l.take i)).length ≤ (l.take i).length := List.length_filter_le _ _
          rw [List.length_take] at h1; omega
        have G1 := fun w' => GD.out l[i] (List.getElem_mem hlt) w'
        generalize l[i] = c at *
        obtain ⟨⟨ct, cp, cr, cc⟩, ⟨cti, cd, cl, ck, cn, cstr⟩⟩ := c
        simp only [Cx.val, Cx.a] at G1
        obtain ⟨k0, k1, k2, k3, k4, k5, k6, k7, k8, k9⟩ := x1
        simp only at k0 k1 k2 k3 k4 k5 k6 k7 k8 k9
        have hlt' : (i : Int) < (l.length : Int) := by omega
        have hbx : Below wr.heap.size wr (wr.alloc (.cells #[.string ct, .string cp, .int .i64 cr, .string cc, .int .i64 cti, .bool cd, .int .i64 cl, .int .i64 ck, .int .i64 cn, .string cstr] 32)) := (Below.refl _ _).alloc (Nat.le_refl _) _
        have bxx := Blk.new wr [.string ct, .string cp, .int .i64 cr, .string cc, .int .i64 cti, .bool cd, .int .i64 cl, .int .i64 ck, .int .i64 cn, .string cstr] 32
        have G2 := toHidE (G1 (wr.alloc (.cells #[.string ct, .string cp, .int .i64 cr, .string cc, .int .i64 cti, .bool cd, .int .i64 cl, .int .i64 ck, .int .i64 cn, .string cstr] 32)))
        have HN : Hid (∀ w', Below (wr.alloc (.cells #[.string ct, .string cp, .int .i64 cr, .string cc, .int .i64 cti, .bool cd, .int .i64 cl, .int .i64 ck, .int .i64 cn, .string cstr] 32)).heap.size (wr.alloc (.cells #[.string ct, .string cp, .int .i64 cr, .string cc, .int .i64 cti, .bool cd, .int .i64 cl, .int .i64 ck, .int .i64 cn, .string cstr] 32)) w' → Blk w' wr.heap.size [.string ct, .string cp, .int .i64 cr, .string cc, .int .i64 cti, .bool cd, .int .i64 cl, .int .i64 ck, .int .i64 cn, .string cstr] 32 ∧ Below w.heap.size w w' ∧ w'.ownsRow w.heap.size 32 10 v (goods (l.take i)).length ((goods (l.take i)).flatMap xs10)) := fun w' hb => ⟨bxx.carry (hb.block _ (by rw [World.size_alloc]; omega)), hbr.trans ((hbx.trans (hb.mono hbx.size)).mono hbr.size), owns_carryX ho fun g hg => by
          have h2 := (ho.lt g hg).2
          exact (hb.block g (by rw [World.size_alloc]; omega)).trans (hbx.block g h2)⟩
        generalize hgc : goodC ⟨⟨ct, cp, cr, cc⟩, ⟨cti, cd, cl, ck, cn, cstr⟩⟩ = g at *
        have HG := toHidE hgs
        clear hgs hgc G1 hbx bxx ho hc0 hbr
        go_wp2_with fail
        refine G2.out.mono ?_
        rintro e w2 ⟨rfl, hb2⟩
        obtain ⟨b2, hB2, ho2⟩ := HN.out w2 hb2
        have m0 := b2.cell 0 rfl
        have m1 := b2.cell 1 rfl
        have m2 := b2.cell 2 rfl
        have m3 := b2.cell 3 rfl
        have m4 := b2.cell 4 rfl
        have m5 := b2.cell 5 rfl
        have m6 := b2.cell 6 rfl
        have m7 := b2.cell 7 rfl
        have m8 := b2.cell 8 rfl
        have m9 := b2.cell 9 rfl
        clear k0 k1 k2 k3 k4 k5 k6 k7 k8 k9 G2 HN b2 hb2
        cases g
        · simp only [Bool.false_eq_true, if_false] at HG
          clear m0 m1 m2 m3 m4 m5 m6 m7 m8 m9
          go_wp2_with fail
          go_roundw
          case rel => exact ⟨i + 1, _, by omega, rfl, by go_num, by rw [HG.out]; exact ho2, hB2⟩
          case measure => (simp [intOf]; try omega)
        · simp only [if_true] at HG
          have hsz := hB2.size
          have HNW : Hid (∀ (v3 : Value) (w3 : World), w3.ownsRow w.heap.size 32 10 v3 ((goods (l.take i)).length + 1) ((goods (l.take i)).flatMap xs10 ++ ([(⟨⟨ct, cp, cr, cc⟩, ⟨cti, cd, cl, ck, cn, cstr⟩⟩ : Cx)] : List Cx).flatMap xs10) → Grew (w2.alloc (.cells #[.string ct, .string cp, .int .i64 cr, .string cc, .int .i64 cti, .bool cd, .int .i64 cl, .int .i64 ck, .int .i64 cn, .string cstr] 32)) w3 v v3 → w3.ownsRow w.heap.size 32 10 v3 (goods (l.take (i + 1))).length ((goods (l.take (i + 1))).flatMap xs10) ∧ Below w.heap.size w w3) := fun v3 w3 h1 h2 => by
            rw [HG.out, List.length_append, List.flatMap_append]
            exact ⟨h1, (hB2.alloc hB2.size _).trans (h2.below (by rw [World.size_alloc]; omega) fun g hg => (ho2.lt g hg).1)⟩
          go_wp2_with (at_builtin; go_must (refine wpList_append_grew _ rfl _ _ 22 22 rfl w.heap.size 32 i1 _ 10 112 Tryz.underlying22 hi1 hy0 hy1 hy2 rfl _ (goods (l.take i)).length _ rfl (ho2.alloc _) _ 1 (([(⟨⟨ct, cp, cr, cc⟩, ⟨cti, cd, cl, ck, cn, cstr⟩⟩ : Cx)] : List Cx).flatMap xs10) rfl (src_cellX w2 ⟨⟨ct, cp, cr, cc⟩, ⟨cti, cd, cl, ck, cn, cstr⟩⟩) (by unfold maxLen; omega) (by omega) (by rw [World.size_alloc]; omega) ?_; intro v3 w3 ho3 hg3; have hM := toHidE (HNW.out v3 w3 ho3 hg3); clear ho3 hg3))
          go_roundw
          case rel => exact ⟨i + 1, _, by omega, rfl, by go_num, hM.out.1, hM.out.2⟩
          case measure => (simp [intOf]; try omega)
      · obtain rfl : i = l.length := by omega
        rw [List.take_length] at ho
        have hgl : (goods l).length ≤ l.length := List.length_filter_le _ _
        have hgez : ¬ (l.length : Int) < (l.length : Int) := by omega
        have hWrt := norm_wrt HNU.out (by omega : l.length ≤ 400)
        have hOk := norm_ok HNU.out (by omega : l.length ≤ 400)
        have hBad := norm_bad (l := l)
        have hNle := nrm_le (goods l)
        obtain ⟨ag, cg, rfl, xg, hag⟩ := owns_xsees ho
        have hng : ag = none → (goods l).length = 0 := fun e => by
          rcases ho.2 with ⟨h1, h2⟩ | ⟨g, cap', cur, h, _⟩
          · exact h2
          · injection h with e1 e2 e3; rw [e] at e1; cases e1
        have NG : Hid (Calls Tryz.prog 8 #[.slice ag (goods l).length cg] wr fun e w' => ∃ v, e = .returned v ∧ w'.ownsRow wr.heap.size 32 10 v (nrm (goods l)).length ((nrm (goods l)).flatMap xs10) ∧ Below wr.heap.size wr w') := norm_any ag (goods l) cg wr xg hng (by omega)
        have HXG : Hid (∀ u, Below wr.heap.size wr u → XSees u ag (goods l)) := fun u hu => xg.below hu (Nat.le_refl _)
        clear xg hag ho
        by_cases hG : (goods l).length = 0
        · have hbd := hBad hG
          rw [hG] at NG
          go_wp2_with fail
          go_fit NG.out
          rintro e w2 ⟨v2, rfl, ho2, hb2⟩
          have hb02 : Below w.heap.size w w2 := hbr.trans (hb2.mono hbr.size)
          have WB : Hid (Calls Tryz.prog 7 #[v2] w2 fun e w' => e = .returned (.tuple #[.slice none 0 0, .int .i64 2]) ∧ Below w2.heap.size w2 w') := write_rowB ho2 hWrt hbd
          clear NG ho2 hOk hBad
          go_wp2_with fail
          go_fit WB.out
          rintro e w3 ⟨rfl, hb3⟩
          have hb03 : Below w.heap.size w w3 := hb02.trans (hb3.mono hb02.size)
          clear WB
          go_wp2_with fail
          refine (LV.out _ hb03).mono ?_
          rintro e w4 ⟨rfl, hb4⟩
          go_wp2_with fail
          go_ret
          exact ⟨rfl, HFIN.out _ (hb03.trans (hb4.mono hb03.size))⟩
        · have hok := hOk (by omega)
          have hel := encTb_len hWrt
          have hB6 : (encTb (nrm (goods l))).length ≤ 60000 := by
            have h1 : nBk (nrm (goods l)).length ≤ 25 := by unfold nBk; omega
            have h2 : nOf (nrm (goods l)).length 10 ≤ 251 := by unfold nOf; omega
            omega
          have hN3 : (nrm (goods l)).length ≤ 200 := by omega
          have hNp : 0 < (nrm (goods l)).length := by have h := hok; unfold wrtB at h; simp only [Bool.and_eq_true, decide_eq_true_eq] at h; exact h.1
          have hRis := nrm_rising (goods l)
          have HIN : Hid (∀ c ∈ goods l, ∃ y ∈ nrm (goods l), y.k = c.k) := fun c hc => nrm_has hc
          go_wp2_with fail
          go_fit NG.out
          rintro e w2 ⟨v2, rfl, ho2, hb2⟩
          clear NG hOk hBad hel hG hNle
          have hb02 : Below w.heap.size w w2 := hbr.trans (hb2.mono hbr.size)
          generalize nrm (goods l) = N at *
          obtain ⟨c0, hc0⟩ : ∃ c, N[0]? = some c := ⟨_, List.getElem?_eq_getElem hNp⟩
          obtain ⟨d0, hd0⟩ : ∃ d, N[N.length - 1]? = some d := ⟨_, List.getElem?_eq_getElem (by omega)⟩
          have HLOW : Hid (∀ y ∈ N, 0 ≤ kc y.k.ky c0.k.ky) := fun y hy => ends_low hRis hc0 hy
          have HHIGH : Hid (∀ y ∈ N, kc y.k.ky d0.k.ky ≤ 0) := fun y hy => ends_high hRis hd0 hy
          have OP : Hid (∀ (u : World) (g cap : Nat), Row9 u g (encTb N) cap → Below w.heap.size w u → Calls Tryz.prog 9 #[.slice (some ⟨g, 0, none⟩) (encTb N).length cap] u fun e w' => e = .returned (.tuple #[.pointer (some ⟨u.heap.size, 0, none⟩), .int .i64 0]) ∧ TAt w' u.heap.size N ∧ Below u.heap.size u w') := fun u g cap h1 h2 => open_row h1 hWrt hok hB6 (HT.out u h2) ue pv (HE.out u h2)
          have W1 := toHidE (write_row ho2 hWrt (HT.out _ hb02) hok)
          have EN : Hid (∀ (u : World) (T : Nat), TAt u T N → Calls Tryz.prog 10 #[.pointer (some ⟨T, 0, none⟩)] u fun e w' => e = .returned (.tuple #[c0.k.v, d0.k.v, .bool true]) ∧ Below u.heap.size u w') := fun u T h => endsT_any h hc0 hd0
          clear ho2 hWrt hok hB6 hRis hc0 hd0
          generalize encTb N = B at *
          go_wp2_with fail
          refine (Hid.out W1).mono ?_
          rintro e w3 ⟨g, kc', rfl, hR3, hg3, hb3⟩
          have hb03 : Below w.heap.size w w3 := hb02.trans (hb3.mono hb02.size)
          have O1 := toHidE (OP.out w3 g kc' hR3 hb03)
          clear W1 OP hR3
          go_wp2_with fail
          refine (Hid.out O1).mono ?_
          rintro e w4 ⟨rfl, hT4, hb4⟩
          clear O1
          have hb04 : Below w.heap.size w w4 := hb03.trans (hb4.mono hb03.size)
          have hbr4 : Below wr.heap.size wr w4 := hb2.trans ((hb3.trans (hb4.mono hb3.size)).mono hb2.size)
          obtain ⟨T, hT⟩ : ∃ T, T = w3.heap.size := ⟨_, rfl⟩
          rw [← hT] at hT4 ⊢
          have HTA : Hid (∀ u, Below w4.heap.size w4 u → TAt u T N) := fun u hu => hT4.below hu
          have E1 := toHidE (EN.out w4 T hT4)
          clear EN hT4 hT
          obtain ⟨⟨lt, lp, lr, lc⟩, lv⟩ := c0
          obtain ⟨⟨ht, hp, hr, hc⟩, hv⟩ := d0
          simp only [Kb.v] at E1
          go_wp2_with fail
          refine (Hid.out E1).mono ?_
          rintro e w5 ⟨rfl, hb5⟩
          clear E1
          have hb05 : Below w.heap.size w w5 := hb04.trans (hb5.mono hb04.size)
          obtain ⟨wl, hwl⟩ : ∃ wl, wl = (w5.alloc (.cells #[.string lt, .string lp, .int .i64 lr, .string lc] 24)).alloc (.cells #[.string ht, .string hp, .int .i64 hr, .string hc] 24) := ⟨_, rfl⟩
          have hbl : Below w5.heap.size w5 wl := by rw [hwl]; exact ((Below.refl _ _).alloc (Nat.le_refl _) _).alloc (by simp) _
          have BL : Blk wl w5.heap.size [.string lt, .string lp, .int .i64 lr, .string lc] 24 := by rw [hwl]; exact (Blk.new w5 _ _).alloc _
          have BH : Blk wl (w5.heap.size + 1) [.string ht, .string hp, .int .i64 hr, .string hc] 24 := by
            have := Blk.new (w5.alloc (.cells #[.string lt, .string lp, .int .i64 lr, .string lc] 24)) [.string ht, .string hp, .int .i64 hr, .string hc] 24
            rw [World.size_alloc] at this
            rw [hwl]; exact this
          have hb4l : Below w4.heap.size w4 wl := hb5.trans (hbl.mono hb5.size)
          have HBX : Hid (∀ u, Below wl.heap.size wl u → Blk u w5.heap.size [.string lt, .string lp, .int .i64 lr, .string lc] 24 ∧ Blk u (w5.heap.size + 1) [.string ht, .string hp, .int .i64 hr, .string hc] 24 ∧ Below w4.heap.size w4 u ∧ Below w.heap.size w u ∧ XSees u ag (goods l)) := fun u hu => by
            have h1 : Below w4.heap.size w4 u := hb4l.trans (hu.mono hb4l.size)
            exact ⟨BL.carry (hu.block _ BL.lt), BH.carry (hu.block _ BH.lt), h1, hb04.trans (h1.mono hb04.size), HXG.out u (hbr4.trans (h1.mono hbr4.size))⟩
          clear BL BH hbl hb4l HXG hb5
          go_wp2_with fail
          rw [← hwl]
          clear hwl
          go_loopw [69] (fun s wr => ∃ i : Nat, i ≤ (goods l).length ∧ s = .int .i64 i ∧ Below wl.heap.size wl wr) (fun s _ => (goods l).length - (intOf s).toNat)
          case atStart => exact ⟨0, by omega, rfl, Below.refl _ _⟩
          case round =>
            obtain ⟨i, hi, rfl, hbr6⟩ := hrel
            obtain ⟨hL6, hH6, hb46, hb06, hx6⟩ := HBX.out wr hbr6
            rcases Nat.lt_or_ge i (goods l).length with hlt | hge
            · have hc1 : (goods l)[i]? = some (goods l)[i] := List.getElem?_eq_getElem hlt
              obtain ⟨y, hyN, hyk⟩ := HIN.out _ (List.getElem_mem hlt)
              have hlow := HLOW.out y hyN
              have hhigh := HHIGH.out y hyN
              rw [hyk] at hlow hhigh
              obtain ⟨b1, o1, rfl, x1⟩ := hx6 i _ hc1
              obtain ⟨wa, hwa⟩ : ∃ wa, wa = wr.alloc (.cells (goods l)[i].a 32) := ⟨_, rfl⟩
              have hba : Below wr.heap.size wr wa := by rw [hwa]; exact (Below.refl _ _).alloc (Nat.le_refl _) _
              have C1 : Hid (∀ u : World, Calls Tryz.prog 11 #[(goods l)[i].k.v, (⟨lt, lp, lr, lc⟩ : Kb).v] u fun e w' => e = .returned (.int .i64 (kc (goods l)[i].k.ky (⟨lt, lp, lr, lc⟩ : Kb).ky)) ∧ Below u.heap.size u w') := fun u => refCmp_any _ _ u
              have C2 : Hid (∀ u : World, Calls Tryz.prog 11 #[(goods l)[i].k.v, (⟨ht, hp, hr, hc⟩ : Kb).v] u fun e w' => e = .returned (.int .i64 (kc (goods l)[i].k.ky (⟨ht, hp, hr, hc⟩ : Kb).ky)) ∧ Below u.heap.size u w') := fun u => refCmp_any _ _ u
              have bxx : Blk wa wr.heap.size (goods l)[i].a.toList 32 := by rw [hwa]; exact Blk.new wr _ _
              clear hyk hyN hc1
              generalize (goods l)[i] = c at *
              obtain ⟨⟨ct, cp, cr, cc⟩, ⟨cti, cd, cl, ck, cn, cstr⟩⟩ := c
              obtain ⟨k0, k1, k2, k3, k4, k5, k6, k7, k8, k9⟩ := x1
              simp only [Cx.a, Kb.v] at k0 k1 k2 k3 k4 k5 k6 k7 k8 k9 C1 C2 hwa bxx
              generalize kc (Kb.ky ⟨ct, cp, cr, cc⟩) (Kb.ky ⟨lt, lp, lr, lc⟩) = K1 at *
              generalize kc (Kb.ky ⟨ct, cp, cr, cc⟩) (Kb.ky ⟨ht, hp, hr, hc⟩) = K2 at *
              have HB8 : Hid (∀ u, Below wa.heap.size wa u → Blk u wr.heap.size [.string ct, .string cp, .int .i64 cr, .string cc, .int .i64 cti, .bool cd, .int .i64 cl, .int .i64 ck, .int .i64 cn, .string cstr] 32 ∧ Blk u w5.heap.size [.string lt, .string lp, .int .i64 lr, .string lc] 24 ∧ Blk u (w5.heap.size + 1) [.string ht, .string hp, .int .i64 hr, .string hc] 24 ∧ Below wl.heap.size wl u) := fun u hu => by
                have h1 : Below wr.heap.size wr u := hba.trans (hu.mono hba.size)
                exact ⟨bxx.carry (hu.block _ bxx.lt), hL6.carry (h1.block _ hL6.lt), hH6.carry (h1.block _ hH6.lt), hbr6.trans (h1.mono hbr6.size)⟩
              have n1 : ¬ K1 < 0 := by omega
              have n2 : ¬ 0 < K2 := by omega
              have hltz : (i : Int) < ((goods l).length : Int) := by omega
              obtain ⟨-, f8, -, -⟩ := HB8.out wa (Below.refl _ _)
              have p0 := f8.cell 0 rfl
              have p1 := f8.cell 1 rfl
              have p2 := f8.cell 2 rfl
              have p3 := f8.cell 3 rfl
              rw [hwa] at p0 p1 p2 p3
              have HWA := toHidE hwa
              clear bxx hba hbr6 hL6 hH6 hb46 hb06 hx6 f8 hwa
              go_wp2_with fail
              refine (C1.out _).mono ?_
              rintro e w7 ⟨rfl, hb7'⟩
              have hb7 : Below wa.heap.size wa w7 := by rw [Hid.out HWA]; exact hb7'
              clear k0 k1 k2 k3 k4 k5 k6 k7 k8 k9 hb7' HWA
              clear p0 p1 p2 p3
              obtain ⟨e8, f8, g8, -⟩ := HB8.out w7 hb7
              have m0 := e8.cell 0 rfl
              have m1 := e8.cell 1 rfl
              have m2 := e8.cell 2 rfl
              have m3 := e8.cell 3 rfl
              have p0 := g8.cell 0 rfl
              have p1 := g8.cell 1 rfl
              have p2 := g8.cell 2 rfl
              have p3 := g8.cell 3 rfl
              clear e8 f8 g8
              go_wp2_with fail
              refine (C2.out _).mono ?_
              rintro e w8 ⟨rfl, hb8⟩
              clear m0 m1 m2 m3 p0 p1 p2 p3
              obtain ⟨-, -, -, hbl8⟩ := HB8.out w8 (hb7.trans (hb8.mono hb7.size))
              go_wp2_with fail
              go_roundw
              case rel => exact ⟨i + 1, by omega, by go_num, hbl8⟩
              case measure => (simp [intOf]; try omega)
            · obtain rfl : i = (goods l).length := by omega
              have hgez : ¬ ((goods l).length : Int) < ((goods l).length : Int) := by omega
              have HFK : Hid ((fnd ⟨kt, kp, kr, kcc⟩ N).2 = true → 0 ≤ kc (Kb.ky ⟨kt, kp, kr, kcc⟩) (Kb.ky ⟨lt, lp, lr, lc⟩) ∧ kc (Kb.ky ⟨kt, kp, kr, kcc⟩) (Kb.ky ⟨ht, hp, hr, hc⟩) ≤ 0) := fun hf => by
                obtain ⟨y, hyN, hyk⟩ := fnd_mem_of hf
                have hlow := HLOW.out y hyN
                have hhigh := HHIGH.out y hyN
                rw [hyk] at hlow hhigh
                exact ⟨hlow, hhigh⟩
              have GT : Hid (Calls Tryz.prog 12 #[.pointer (some ⟨T, 0, none⟩), (⟨kt, kp, kr, kcc⟩ : Kb).v] wr fun e w' => e = .returned (.tuple #[(fnd ⟨kt, kp, kr, kcc⟩ N).1.v, .bool (fnd ⟨kt, kp, kr, kcc⟩ N).2]) ∧ Below wr.heap.size wr w') := getT_any (HTA.out wr hb46) _
              have C1 : Hid (∀ u : World, Calls Tryz.prog 11 #[(⟨kt, kp, kr, kcc⟩ : Kb).v, (⟨lt, lp, lr, lc⟩ : Kb).v] u fun e w' => e = .returned (.int .i64 (kc (Kb.ky ⟨kt, kp, kr, kcc⟩) (Kb.ky ⟨lt, lp, lr, lc⟩))) ∧ Below u.heap.size u w') := fun u => refCmp_any _ _ u
              have C2 : Hid (∀ u : World, Calls Tryz.prog 11 #[(⟨kt, kp, kr, kcc⟩ : Kb).v, (⟨ht, hp, hr, hc⟩ : Kb).v] u fun e w' => e = .returned (.int .i64 (kc (Kb.ky ⟨kt, kp, kr, kcc⟩) (Kb.ky ⟨ht, hp, hr, hc⟩))) ∧ Below u.heap.size u w') := fun u => refCmp_any _ _ u
              simp only [Kb.v] at GT C1 C2
              generalize kc (Kb.ky ⟨kt, kp, kr, kcc⟩) (Kb.ky ⟨lt, lp, lr, lc⟩) = K1 at *
              generalize kc (Kb.ky ⟨kt, kp, kr, kcc⟩) (Kb.ky ⟨ht, hp, hr, hc⟩) = K2 at *
              generalize fnd ⟨kt, kp, kr, kcc⟩ N = fr at *
              obtain ⟨⟨gti, gd, gl, gk, gn, gs⟩, fb⟩ := fr
              simp only [Vr.v] at GT HFK
              have hK6 := HKB.out wr hb06
              have z0 := hK6.cell 0 rfl
              have z1 := hK6.cell 1 rfl
              have z2 := hK6.cell 2 rfl
              have z3 := hK6.cell 3 rfl
              have BK : Hid (∀ u, Below w4.heap.size w4 u → Calls Tryz.prog 13 #[.pointer (some ⟨T, 0, none⟩)] u fun e w' => e = .returned (.int .i64 (nBk N.length : Int)) ∧ w' = u) := fun u hu => blocks_at (HTA.out u hu)
              have LE : Hid (∀ u, Below w4.heap.size w4 u → Calls Tryz.prog 14 #[.pointer (some ⟨T, 0, none⟩)] u fun e w' => e = .returned (.int .i64 (N.length : Int)) ∧ w' = u) := fun u hu => len_at (HTA.out u hu)
              obtain ⟨nb, hnb⟩ : ∃ nb, nb = nBk N.length := ⟨_, rfl⟩
              obtain ⟨n, hn⟩ : ∃ n, n = N.length := ⟨_, rfl⟩
              rw [← hnb] at BK
              rw [← hn] at LE hnb hN3
              have hnz : (n : Int) ≤ 200 := by omega
              have hq3 : ((n : Int) + 7) / 8 = (nb : Int) := by rw [hnb]; unfold nBk; omega
              clear hnb hn hN3 hNp
              have HB8 : Hid (∀ u, Below wr.heap.size wr u → Blk (u.alloc (.cells #[.int .i64 gti, .bool gd, .int .i64 gl, .int .i64 gk, .int .i64 gn, .string gs] 30)) w0.heap.size [.string kt, .string kp, .int .i64 kr, .string kcc] 24 ∧ Blk (u.alloc (.cells #[.int .i64 gti, .bool gd, .int .i64 gl, .int .i64 gk, .int .i64 gn, .string gs] 30)) w5.heap.size [.string lt, .string lp, .int .i64 lr, .string lc] 24 ∧ Blk (u.alloc (.cells #[.int .i64 gti, .bool gd, .int .i64 gl, .int .i64 gk, .int .i64 gn, .string gs] 30)) (w5.heap.size + 1) [.string ht, .string hp, .int .i64 hr, .string hc] 24 ∧ Below wr.heap.size wr (u.alloc (.cells #[.int .i64 gti, .bool gd, .int .i64 gl, .int .i64 gk, .int .i64 gn, .string gs] 30))) := fun u hu => by
                have h1 : Below wr.heap.size wr (u.alloc (.cells #[.int .i64 gti, .bool gd, .int .i64 gl, .int .i64 gk, .int .i64 gn, .string gs] 30)) := hu.alloc hu.size _
                exact ⟨hK6.carry (h1.block _ hK6.lt), hL6.carry (h1.block _ hL6.lt), hH6.carry (h1.block _ hH6.lt), h1⟩
              have HB9 : Hid (∀ u, Below wr.heap.size wr u → Below w4.heap.size w4 u ∧ Below w.heap.size w u ∧ Blk u w0.heap.size [.string kt, .string kp, .int .i64 kr, .string kcc] 24 ∧ Blk u (w5.heap.size + 1) [.string ht, .string hp, .int .i64 hr, .string hc] 24) := fun u hu => ⟨hb46.trans (hu.mono hb46.size), hb06.trans (hu.mono hb06.size), hK6.carry (hu.block _ hK6.lt), hH6.carry (hu.block _ hH6.lt)⟩
              clear hK6 hL6 hH6 hb46 hb06 hx6 HTA HKB HLOW HHIGH HIN
              go_wp2_with fail
              refine GT.out.mono ?_
              rintro e w7 ⟨rfl, hb7⟩
              clear GT z0 z1 z2 z3
              obtain ⟨e8, f8, g8, hb8⟩ := HB8.out w7 hb7
              have HB8x := toHidE hb8
              cases fb
              · obtain ⟨q4, q0, -, -⟩ := HB9.out _ hb8
                have BK8 := toHidE (BK.out _ q4)
                have LE8 := toHidE (LE.out _ q4)
                have LV8 := toHidE (LV.out _ q0)
                have Q0 := toHidE q0
                clear e8 f8 g8 hb8 HB8 HB9 q4 q0 BK LE
                go_wp2_with fail
                generalize w7.alloc (.cells #[.int .i64 gti, .bool gd, .int .i64 gl, .int .i64 gk, .int .i64 gn, .string gs] 30) = w9 at *
                go_fit (Hid.out BK8)
                rintro e u1 ⟨rfl, h1⟩
                have h1' : w9 = u1 := h1.symm
                subst h1'
                clear h1 BK8
                go_wp2_with fail
                go_fit (Hid.out LE8)
                rintro e u2 ⟨rfl, h2⟩
                have h2' : w9 = u2 := h2.symm
                subst h2'
                clear h2 LE8
                go_wp2_with fail
                go_fit (Hid.out LV8)
                rintro e w10 ⟨rfl, hb10⟩
                go_wp2_with fail
                go_ret
                exact ⟨rfl, HFIN.out _ ((Hid.out Q0).trans (hb10.mono (Hid.out Q0).size))⟩
              · obtain ⟨hk1, hk2⟩ := HFK.out rfl
                have n1 : ¬ K1 < 0 := by omega
                have n2 : ¬ 0 < K2 := by omega
                have m0 := e8.cell 0 rfl
                have m1 := e8.cell 1 rfl
                have m2 := e8.cell 2 rfl
                have m3 := e8.cell 3 rfl
                have p0 := f8.cell 0 rfl
                have p1 := f8.cell 1 rfl
                have p2 := f8.cell 2 rfl
                have p3 := f8.cell 3 rfl
                clear e8 f8 g8 hb8 HB8
                go_wp2_with fail
                refine (C1.out _).mono ?_
                rintro e w8 ⟨rfl, hb8⟩
                clear m0 m1 m2 m3 p0 p1 p2 p3
                have hr8 : Below wr.heap.size wr w8 := (Hid.out HB8x).trans (hb8.mono (Hid.out HB8x).size)
                obtain ⟨-, -, e8, g8⟩ := HB9.out w8 hr8
                have m0 := e8.cell 0 rfl
                have m1 := e8.cell 1 rfl
                have m2 := e8.cell 2 rfl
                have m3 := e8.cell 3 rfl
                have p0 := g8.cell 0 rfl
                have p1 := g8.cell 1 rfl
                have p2 := g8.cell 2 rfl
                have p3 := g8.cell 3 rfl
                clear e8 g8
                go_wp2_with fail
                refine (C2.out _).mono ?_
                rintro e w9 ⟨rfl, hb9⟩
                clear m0 m1 m2 m3 p0 p1 p2 p3
                obtain ⟨q4, q0, -, -⟩ := HB9.out w9 (hr8.trans (hb9.mono hr8.size))
                have BK8 := toHidE (BK.out _ q4)
                have LE8 := toHidE (LE.out _ q4)
                have LV8 := toHidE (LV.out _ q0)
                clear HB9 BK LE
                go_wp2_with fail
                go_fit (Hid.out BK8)
                rintro e u1 ⟨rfl, h1⟩
                have h1' : w9 = u1 := h1.symm
                subst h1'
                clear h1 BK8
                go_wp2_with fail
                go_fit (Hid.out LE8)
                rintro e u2 ⟨rfl, h2⟩
                have h2' : w9 = u2 := h2.symm
                subst h2'
                clear h2 LE8
                go_wp2_with fail
                go_fit (Hid.out LV8)
                rintro e w10 ⟨rfl, hb10⟩
                go_wp2_with fail
                go_ret
                exact ⟨rfl, HFIN.out _ (q0.trans (hb10.mono q0.size))⟩
end Go.Proofs.YtejikcpjkkfkiabGreatDoor.tableEnds
