/-
  THE LAW TableScans: the walk.
-/
import Derived.Test.YtmkaehnfgdlhdaaGreatDoorTabM4
import Derived.Test.YtmkaehnfgdlhdaaGreatDoorTabM3
import Derived.Test.YtmkaehnfgdlhdaaGreatDoorTabM1
namespace Go.Proofs.YtmkaehnfgdlhdaaGreatDoor.tableScans
open Go.RowKit

attribute [local go_sem] Oper.pureAt Oper.pureUpon
set_option maxRecDepth 100000 in
set_option maxHeartbeats 4000000 in
theorem walk (ao : Option Addr) (l : List Cx) (cap : Nat) (k f u : Kb) (w0 : World) (hs0 : XSees w0 ao l) (_hn : ao = none → l.length = 0) (hl : l.length ≤ 140737488355328) (hc : ∀ c ∈ l, c.In ∧ wtX c ≤ 562949953421312) (_hk : InI k.r ∧ InI f.r ∧ InI u.r) (ht0 : Tab w0) (ue : TypeId) (pv : Value) (he0 : Err w0 ue pv) :
    Calls Tryz.prog 3 #[.slice ao l.length cap, askV k f u] w0 fun e w' => e = .returned (.bool true) ∧ Below w0.heap.size w0 w' := by
  obtain ⟨kt, kp, kr, kc'⟩ := k
  obtain ⟨ft, fp, fr, fc⟩ := f
  obtain ⟨ut, up, ur, uc⟩ := u
  simp only [askV]
  obtain ⟨w, hw0⟩ : ∃ w, w = w0.alloc (.cells #[.string kt, .string kp, .int .i64 kr, .string kc', .string ft, .string fp, .int .i64 fr, .string fc, .string ut, .string up, .int .i64 ur, .string uc] 26) := ⟨_, rfl⟩
  have hbw : Below w0.heap.size w0 w := by rw [hw0]; exact (Below.refl _ _).alloc (Nat.le_refl _) _
  have hKb : Blk w w0.heap.size [.string kt, .string kp, .int .i64 kr, .string kc', .string ft, .string fp, .int .i64 fr, .string fc, .string ut, .string up, .int .i64 ur, .string uc] 26 := by rw [hw0]; exact Blk.new w0 _ _
  have hs : XSees w ao l := hs0.below hbw (Nat.le_refl _)
  have hgT0 : 0 < w0.heap.size := World.block_lt_of_cell? _ _ (ht0 0 (by decide))
  have ht : Tab w := ht0.belowB hbw hgT0
  have he : Err w ue pv := he0.below hbw (Nat.le_refl _)
  have HFIN : Hid (∀ u, Below w.heap.size w u → Below w0.heap.size w0 u) := fun u hu => hbw.trans (hu.mono hbw.size)
  have HKB : Hid (∀ u, Below w.heap.size w u → Blk u w0.heap.size [.string kt, .string kp, .int .i64 kr, .string kc', .string ft, .string fp, .int .i64 fr, .string fc, .string ut, .string up, .int .i64 ur, .string uc] 26) := fun u hu => hKb.carry (hu.block _ hKb.lt)
  clear hs0 ht0 he0 hKb hbw hgT0
  obtain ⟨i1, hi1, hy0, hy1, hy2⟩ := infoX infoCx
  have hgT : 0 < w.heap.size := World.block_lt_of_cell? _ _ (ht 0 (by decide))
  have HT : Hid (∀ u, Below w.heap.size w u → Tab u) := fun u hu => ht.belowB hu hgT
  have HE : Hid (∀ u, Below w.heap.size w u → Err u ue pv) := fun u hu => he.below hu (Nat.le_refl _)
  have LV : Hid (∀ u, Below w.heap.size w u → Calls Tryz.prog 5 #[] u fun x w' => x = .returned (.bool true) ∧ Below u.heap.size u w') := fun u hu => lives9_any u (HT.out u hu) ue pv (HE.out u hu)
  have W1 : Hid (Calls Tryz.prog 4 #[.slice ao l.length cap, .int .i64 200] w fun e w' => (∃ z : Nat, e = .returned (.int .i64 z) ∧ z ≤ 1000000000000000 ∧ (z ≤ 200 → l.length ≤ 200 ∧ wtXs l ≤ 20 * 200)) ∧ Below w.heap.size w w') :=
    weigh9_any ao l cap 200 w hs (by omega) hl (fun c h => (hc c h).2)
  have HS : Hid (∀ w', Below w.heap.size w w' → XSees w' ao l) := fun w' h => hs.below h (Nat.le_refl _)
  have hlz : (l.length : Int) ≤ 140737488355328 := by omega
  have HNU : Hid (∀ c ∈ l, c.Nums) := fun c h => ⟨(hc c h).1.1, (hc c h).1.2⟩
  clear hc hs hl ht he
  go_enter Tryz.func3, Tryz.ntmps3
  go_wp2_with fail
  rw [← hw0]
  clear hw0
  refine W1.out.mono ?_
  rintro e w1 ⟨⟨z, rfl, hz, hzm⟩, hb1⟩
  by_cases hbig : 200 < z
  · have hbz : (200 : Int) < (z : Int) := by omega
    clear hzm
    go_wp2_with fail
    refine (LV.out _ hb1).mono ?_
    rintro e w2 ⟨rfl, hb2⟩
    go_wp2_with fail
    go_ret
    exact ⟨rfl, HFIN.out _ (hb1.trans (hb2.mono hb1.size))⟩
  · have hbz : ¬ (200 : Int) < (z : Int) := by omega
    obtain ⟨hl4, hw4⟩ := hzm (by omega)
    have GD : Hid (∀ c ∈ l, ∀ w : World, Calls Tryz.prog 6 #[c.val] w fun x w' => x = .returned (.bool (goodC c)) ∧ Below w.heap.size w w') := fun c hc w => by
      have hm4 : (20 * 200 : Nat) ≤ maxLen := by decide
      obtain ⟨a1, a2, a3, a4⟩ := wt_mem9 hc hw4
      exact goodX_any c w (by omega) (by omega) (by omega) (by omega)
    have HW4 : Hid (wtXs l ≤ 20 * 200) := hw4
    clear hzm hbig hw4
    go_wp2_with fail
    go_loopw [5, 20] (fun s5 s23 wr => ∃ (i : Nat) (v : Value), i ≤ l.length ∧ v = s5 ∧ s23 = .int .i64 i ∧ wr.ownsRow w.heap.size 34 10 v (goods (l.take i)).length ((goods (l.take i)).flatMap xs10) ∧ Below w.heap.size w wr) (fun _ s23 _ => l.length - (intOf s23).toNat)
    case atStart => exact ⟨0, _, by omega, rfl, rfl, World.ownsRow_nil _ _ _ _, hb1⟩
    case round =>
      obtain ⟨i, v, hi, rfl, rfl, ho, hbr⟩ := hrel
      rcases Nat.lt_or_ge i l.length with hlt | hge
      · have hc0 : l[i]? = some l[i] := List.getElem?_eq_getElem hlt
        obtain ⟨b1, o1, rfl, x1⟩ := (HS.out wr hbr) i _ hc0
        have hgs : goods (l.take (i + 1)) = if goodC l[i] then goods (l.take i) ++ [l[i]] else goods (l.take i) := by rw [takeX_succ hc0, goods_snoc]
        have hgl : (goods (l.take i)).length ≤ 200 := by
          have h1 : (goods (l.take i)).length ≤ (l.take i).length := List.length_filter_le _ _
          rw [List.length_take] at h1; omega
        have G1 := fun w' => GD.out l[i] (List.getElem_mem hlt) w'
        generalize l[i] = c at *
        obtain ⟨⟨ct, cp, cr, cc⟩, ⟨cti, cd, cl, ck, cn, cstr⟩⟩ := c
        simp only [Cx.val, Cx.a] at G1
        obtain ⟨k0, k1, k2, k3, k4, k5, k6, k7, k8, k9⟩ := x1
        simp only at k0 k1 k2 k3 k4 k5 k6 k7 k8 k9
        have hlt' : (i : Int) < (l.length : Int) := by omega
        have hbx : Below wr.heap.size wr (wr.alloc (.cells #[.string ct, .string cp, .int .i64 cr, .string cc, .int .i64 cti, .bool cd, .int .i64 cl, .int .i64 ck, .int .i64 cn, .string cstr] 34)) := (Below.refl _ _).alloc (Nat.le_refl _) _
        have bxx := Blk.new wr [.string ct, .string cp, .int .i64 cr, .string cc, .int .i64 cti, .bool cd, .int .i64 cl, .int .i64 ck, .int .i64 cn, .string cstr] 34
        have G2 := toHidE (G1 (wr.alloc (.cells #[.string ct, .string cp, .int .i64 cr, .string cc, .int .i64 cti, .bool cd, .int .i64 cl, .int .i64 ck, .int .i64 cn, .string cstr] 34)))
        have HN : Hid (∀ w', Below (wr.alloc (.cells #[.string ct, .string cp, .int .i64 cr, .string cc, .int .i64 cti, .bool cd, .int .i64 cl, .int .i64 ck, .int .i64 cn, .string cstr] 34)).heap.size (wr.alloc (.cells #[.string ct, .string cp, .int .i64 cr, .string cc, .int .i64 cti, .bool cd, .int .i64 cl, .int .i64 ck, .int .i64 cn, .string cstr] 34)) w' → Blk w' wr.heap.size [.string ct, .string cp, .int .i64 cr, .string cc, .int .i64 cti, .bool cd, .int .i64 cl, .int .i64 ck, .int .i64 cn, .string cstr] 34 ∧ Below w.heap.size w w' ∧ w'.ownsRow w.heap.size 34 10 v (goods (l.take i)).length ((goods (l.take i)).flatMap xs10)) := fun w' hb => ⟨bxx.carry (hb.block _ (by rw [World.size_alloc]; omega)), hbr.trans ((hbx.trans (hb.mono hbx.size)).mono hbr.size), owns_carryX ho fun g hg => by
          have h2 := (ho.lt g hg).2
          exact (hb.block g (by rw [World.size_alloc]; omega)).trans (hbx.block g h2)⟩
        generalize hgc : goodC ⟨⟨ct, cp, cr, cc⟩, ⟨cti, cd, cl, ck, cn, cstr⟩⟩ = g at *
        have HG := toHidE hgs
        clear hgs hgc G1 hbx bxx ho hc0 hbr
        go_wp2_with fail
        refine G2.out.mono ?_
        rintro e w2 ⟨rfl, hb2⟩
        obtain ⟨b2, hB2, ho2⟩ := HN.out w2 hb2
        have m0 := b2.cell 0 rfl
        have m1 := b2.cell 1 rfl
        have m2 := b2.cell 2 rfl
        have m3 := b2.cell 3 rfl
        have m4 := b2.cell 4 rfl
        have m5 := b2.cell 5 rfl
        have m6 := b2.cell 6 rfl
        have m7 := b2.cell 7 rfl
        have m8 := b2.cell 8 rfl
        have m9 := b2.cell 9 rfl
        clear k0 k1 k2 k3 k4 k5 k6 k7 k8 k9 G2 HN b2 hb2
        cases g
        · simp only [Bool.false_eq_true, if_false] at HG
          clear m0 m1 m2 m3 m4 m5 m6 m7 m8 m9
          go_wp2_with fail
          go_roundw
          case rel => exact ⟨i + 1, _, by omega, rfl, by go_num, by rw [HG.out]; exact ho2, hB2⟩
          case measure => (simp [intOf]; try omega)
        · simp only [if_true] at HG
          have hsz := hB2.size
          have HNW : Hid (∀ (v3 : Value) (w3 : World), w3.ownsRow w.heap.size 34 10 v3 ((goods (l.take i)).length + 1) ((goods (l.take i)).flatMap xs10 ++ ([(⟨⟨ct, cp, cr, cc⟩, ⟨cti, cd, cl, ck, cn, cstr⟩⟩ : Cx)] : List Cx).flatMap xs10) → Grew (w2.alloc (.cells #[.string ct, .string cp, .int .i64 cr, .string cc, .int .i64 cti, .bool cd, .int .i64 cl, .int .i64 ck, .int .i64 cn, .string cstr] 34)) w3 v v3 → w3.ownsRow w.heap.size 34 10 v3 (goods (l.take (i + 1))).length ((goods (l.take (i + 1))).flatMap xs10) ∧ Below w.heap.size w w3) := fun v3 w3 h1 h2 => by
            rw [HG.out, List.length_append, List.flatMap_append]
            exact ⟨h1, (hB2.alloc hB2.size _).trans (h2.below (by rw [World.size_alloc]; omega) fun g hg => (ho2.lt g hg).1)⟩
          go_wp2_with (at_builtin; go_must (refine wpList_append_grew _ rfl _ _ 22 22 rfl w.heap.size 34 i1 _ 10 112 Tryz.underlying22 hi1 hy0 hy1 hy2 rfl _ (goods (l.take i)).length _ rfl (ho2.alloc _) _ 1 (([(⟨⟨ct, cp, cr, cc⟩, ⟨cti, cd, cl, ck, cn, cstr⟩⟩ : Cx)] : List Cx).flatMap xs10) rfl (src_cellX w2 ⟨⟨ct, cp, cr, cc⟩, ⟨cti, cd, cl, ck, cn, cstr⟩⟩) (by unfold maxLen; omega) (by omega) (by rw [World.size_alloc]; omega) ?_; intro v3 w3 ho3 hg3; have hM := toHidE (HNW.out v3 w3 ho3 hg3); clear ho3 hg3))
          go_roundw
          case rel => exact ⟨i + 1, _, by omega, rfl, by go_num, hM.out.1, hM.out.2⟩
          case measure => (simp [intOf]; try omega)
      · obtain rfl : i = l.length := by omega
        rw [List.take_length] at ho
        have hgl : (goods l).length ≤ l.length := List.length_filter_le _ _
        have hgez : ¬ (l.length : Int) < (l.length : Int) := by omega
        have hWrt := norm_wrt HNU.out (by omega : l.length ≤ 400)
        have hOk := norm_ok HNU.out (by omega : l.length ≤ 400)
        have hBad := norm_bad (l := l)
        have hNle := nrm_le (goods l)
        obtain ⟨ag, cg, rfl, xg, hag⟩ := owns_xsees ho
        have hng : ag = none → (goods l).length = 0 := fun e => by
          rcases ho.2 with ⟨h1, h2⟩ | ⟨g, cap', cur, h, _⟩
          · exact h2
          · injection h with e1 e2 e3; rw [e] at e1; cases e1
        have NG : Hid (Calls Tryz.prog 8 #[.slice ag (goods l).length cg] wr fun e w' => ∃ v, e = .returned v ∧ w'.ownsRow wr.heap.size 34 10 v (nrm (goods l)).length ((nrm (goods l)).flatMap xs10) ∧ Below wr.heap.size wr w') := norm_any ag (goods l) cg wr xg hng (by omega)
        have HXG : Hid (∀ u, Below wr.heap.size wr u → XSees u ag (goods l)) := fun u hu => xg.below hu (Nat.le_refl _)
        clear xg hag ho
        by_cases hG : (goods l).length = 0
        · have hbd := hBad hG
          rw [hG] at NG
          go_wp2_with fail
          go_fit NG.out
          rintro e w2 ⟨v2, rfl, ho2, hb2⟩
          have hb02 : Below w.heap.size w w2 := hbr.trans (hb2.mono hbr.size)
          have WB : Hid (Calls Tryz.prog 7 #[v2] w2 fun e w' => e = .returned (.tuple #[.slice none 0 0, .int .i64 2]) ∧ Below w2.heap.size w2 w') := write_rowB ho2 hWrt hbd
          clear NG ho2 hOk hBad
          go_wp2_with fail
          go_fit WB.out
          rintro e w3 ⟨rfl, hb3⟩
          have hb03 : Below w.heap.size w w3 := hb02.trans (hb3.mono hb02.size)
          clear WB
          go_wp2_with fail
          refine (LV.out _ hb03).mono ?_
          rintro e w4 ⟨rfl, hb4⟩
          go_wp2_with fail
          go_ret
          exact ⟨rfl, HFIN.out _ (hb03.trans (hb4.mono hb03.size))⟩
        · have hok := hOk (by omega)
          have hel := encTb_len hWrt
          have hB6 : (encTb (nrm (goods l))).length ≤ 60000 := by
            have h1 : nBk (nrm (goods l)).length ≤ 25 := by unfold nBk; omega
            have h2 : nOf (nrm (goods l)).length 10 ≤ 251 := by unfold nOf; omega
            omega
          have hN3 : (nrm (goods l)).length ≤ 200 := by omega
          go_wp2_with fail
          go_fit NG.out
          rintro e w2 ⟨v2, rfl, ho2, hb2⟩
          clear NG hOk hBad hel hG hNle
          have hb02 : Below w.heap.size w w2 := hbr.trans (hb2.mono hbr.size)
          generalize nrm (goods l) = N at *
          have OP : Hid (∀ (u : World) (g cap : Nat), Row9 u g (encTb N) cap → Below w.heap.size w u → Calls Tryz.prog 9 #[.slice (some ⟨g, 0, none⟩) (encTb N).length cap] u fun e w' => e = .returned (.tuple #[.pointer (some ⟨u.heap.size, 0, none⟩), .int .i64 0]) ∧ TAt w' u.heap.size N ∧ Below u.heap.size u w') := fun u g cap h1 h2 => open_row h1 hWrt hok hB6 (HT.out u h2) ue pv (HE.out u h2)
          have W1 := toHidE (write_row ho2 hWrt (HT.out _ hb02) hok)
          have CA : Hid (∀ a b, CutAt N zeroK a → CutAt N topK b → b - a = N.length) := fun a b h1 h2 => cut_all hWrt h1 h2
          clear ho2 hWrt hok hB6
          generalize encTb N = B at *
          go_wp2_with fail
          refine (Hid.out W1).mono ?_
          rintro e w3 ⟨g, gcp, rfl, hR3, hg3, hb3⟩
          have hb03 : Below w.heap.size w w3 := hb02.trans (hb3.mono hb02.size)
          have O1 := toHidE (OP.out w3 g gcp hR3 hb03)
          clear W1 OP hR3
          go_wp2_with fail
          refine (Hid.out O1).mono ?_
          rintro e w4 ⟨rfl, hT4, hb4⟩
          clear O1
          have hb04 : Below w.heap.size w w4 := hb03.trans (hb4.mono hb03.size)
          obtain ⟨T, hT⟩ : ∃ T, T = w3.heap.size := ⟨_, rfl⟩
          rw [← hT] at hT4 ⊢
          have SC : Hid (∀ (k1 k2 : Kb) (x : World), Below w4.heap.size w4 x → Calls Tryz.prog 11 #[.pointer (some ⟨T, 0, none⟩), k1.v, k2.v] x fun e w' => ∃ a1 a2 ao cap, e = .returned (.slice ao (betw N a1 a2).length cap) ∧ CutAt N k1 a1 ∧ CutAt N k2 a2 ∧ XSees w' ao (betw N a1 a2) ∧ Below x.heap.size x w') := fun k1 k2 x hx => by
            refine (scanT_any (hT4.below hx) k1 k2).mono fun e w' ⟨a1, a2, v, h1, h2, h3, h4, h5⟩ => ?_
            have hlen : (betw N a1 a2).length = a2 - a1 := by unfold betw; rw [List.length_take, List.length_drop]; have := h3.le; omega
            have h4' : w'.ownsRow x.heap.size 34 10 v (betw N a1 a2).length ((betw N a1 a2).flatMap xs10) := by rw [hlen]; exact h4
            obtain ⟨a, c, e2, hx2, _⟩ := owns_xsees h4'
            subst e2
            exact ⟨a1, a2, a, c, h1, h2, h3, hx2, h5⟩
          have LE : Hid (∀ u, Below w4.heap.size w4 u → Calls Tryz.prog 13 #[.pointer (some ⟨T, 0, none⟩)] u fun e w' => e = .returned (.int .i64 (N.length : Int)) ∧ w' = u) := fun u hu => len_at (hT4.below hu)
          have BW : Hid (∀ a b, (betw N a b).length ≤ 1000) := fun a b => by unfold betw; rw [List.length_take, List.length_drop]; omega
          clear hT4 hT
          have C1 : Hid (∀ u : World, Calls Tryz.prog 10 #[.agg #[.string ft, .string fp, .int .i64 fr, .string fc], .agg #[.string kt, .string kp, .int .i64 kr, .string kc']] u fun e w' => e = .returned (.int .i64 (kc (Kb.ky ⟨ft, fp, fr, fc⟩) (Kb.ky ⟨kt, kp, kr, kc'⟩))) ∧ Below u.heap.size u w') := fun u => refCmp_any ⟨ft, fp, fr, fc⟩ ⟨kt, kp, kr, kc'⟩ u
          have C2 : Hid (∀ u : World, Calls Tryz.prog 10 #[.agg #[.string kt, .string kp, .int .i64 kr, .string kc'], .agg #[.string ut, .string up, .int .i64 ur, .string uc]] u fun e w' => e = .returned (.int .i64 (kc (Kb.ky ⟨kt, kp, kr, kc'⟩) (Kb.ky ⟨ut, up, ur, uc⟩))) ∧ Below u.heap.size u w') := fun u => refCmp_any ⟨kt, kp, kr, kc'⟩ ⟨ut, up, ur, uc⟩ u
          have PT0 : Hid (∀ a1 b1 a3 b3 wf wu, kc (Kb.ky ⟨ft, fp, fr, fc⟩) (Kb.ky ⟨kt, kp, kr, kc'⟩) ≤ 0 → kc (Kb.ky ⟨kt, kp, kr, kc'⟩) (Kb.ky ⟨ut, up, ur, uc⟩) ≤ 0 → CutAt N ⟨ft, fp, fr, fc⟩ wf → CutAt N ⟨ut, up, ur, uc⟩ wu → CutAt N ⟨ft, fp, fr, fc⟩ a1 → CutAt N ⟨kt, kp, kr, kc'⟩ b1 → CutAt N ⟨kt, kp, kr, kc'⟩ a3 → CutAt N ⟨ut, up, ur, uc⟩ b3 → [] ++ betw N a1 b1 ++ betw N a3 b3 = betw N wf wu) := fun a1 b1 a3 b3 wf wu q1 q2 h1 h2 h3 h4 h5 h6 => by
            obtain rfl := h3.one h1
            obtain rfl := h5.one h4
            obtain rfl := h6.one h2
            rw [List.nil_append]
            exact betw_meet N (h3.mono h4 q1) (h4.mono h6 q2)
          have SW : Hid (∀ (x : World), Below w4.heap.size w4 x → Calls Tryz.prog 11 #[.pointer (some ⟨T, 0, none⟩), .agg #[.string ft, .string fp, .int .i64 fr, .string fc], .agg #[.string ut, .string up, .int .i64 ur, .string uc]] x fun e w' => ∃ a1 a2 ao cap, e = .returned (.slice ao (betw N a1 a2).length cap) ∧ CutAt N ⟨ft, fp, fr, fc⟩ a1 ∧ CutAt N ⟨ut, up, ur, uc⟩ a2 ∧ XSees w' ao (betw N a1 a2) ∧ Below x.heap.size x w') := fun x hx => SC.out ⟨ft, fp, fr, fc⟩ ⟨ut, up, ur, uc⟩ x hx
          have SCa : Hid (∀ (x : World), Below w4.heap.size w4 x → Calls Tryz.prog 11 #[.pointer (some ⟨T, 0, none⟩), .agg #[.string ft, .string fp, .int .i64 fr, .string fc], .agg #[.string kt, .string kp, .int .i64 kr, .string kc']] x fun e w' => ∃ a1 a2 ao cap, e = .returned (.slice ao (betw N a1 a2).length cap) ∧ CutAt N ⟨ft, fp, fr, fc⟩ a1 ∧ CutAt N ⟨kt, kp, kr, kc'⟩ a2 ∧ XSees w' ao (betw N a1 a2) ∧ Below x.heap.size x w') := fun x hx => SC.out ⟨ft, fp, fr, fc⟩ ⟨kt, kp, kr, kc'⟩ x hx
          have SCb : Hid (∀ (x : World), Below w4.heap.size w4 x → Calls Tryz.prog 11 #[.pointer (some ⟨T, 0, none⟩), .agg #[.string kt, .string kp, .int .i64 kr, .string kc'], .agg #[.string ut, .string up, .int .i64 ur, .string uc]] x fun e w' => ∃ a1 a2 ao cap, e = .returned (.slice ao (betw N a1 a2).length cap) ∧ CutAt N ⟨kt, kp, kr, kc'⟩ a1 ∧ CutAt N ⟨ut, up, ur, uc⟩ a2 ∧ XSees w' ao (betw N a1 a2) ∧ Below x.heap.size x w') := fun x hx => SC.out ⟨kt, kp, kr, kc'⟩ ⟨ut, up, ur, uc⟩ x hx
          have SZ : Hid (∀ (x : World), Below w4.heap.size w4 x → Calls Tryz.prog 11 #[.pointer (some ⟨T, 0, none⟩), .agg #[.string ⟨#[]⟩, .string ⟨#[]⟩, .int .i64 0, .string ⟨#[]⟩], .agg #[.string ⟨#[122, 122, 122, 122, 122, 122, 122, 122, 122, 122, 122, 122, 122, 122, 122, 122, 122, 122]⟩, .string ⟨#[]⟩, .int .i64 0, .string ⟨#[]⟩]] x fun e w' => (∃ ao cap, e = .returned (.slice ao N.length cap)) ∧ Below x.heap.size x w') := fun x hx => by
            refine (SC.out zeroK topK x hx).mono fun e w' ⟨a1, a2, ao, cap, h1, h2, h3, _, h5⟩ => ?_
            have hlen : (betw N a1 a2).length = N.length := by unfold betw; rw [List.length_take, List.length_drop]; have := h3.le; have := CA.out a1 a2 h2 h3; omega
            rw [hlen] at h1
            exact ⟨⟨ao, cap, h1⟩, h5⟩
          clear CA SC
          generalize kc (Kb.ky ⟨ft, fp, fr, fc⟩) (Kb.ky ⟨kt, kp, kr, kc'⟩) = K1 at *
          generalize kc (Kb.ky ⟨kt, kp, kr, kc'⟩) (Kb.ky ⟨ut, up, ur, uc⟩) = K2 at *
          have b9 := HKB.out w4 hb04
          have m0 := b9.cell 0 rfl
          have m1 := b9.cell 1 rfl
          have m2 := b9.cell 2 rfl
          have m3 := b9.cell 3 rfl
          have m4 := b9.cell 4 rfl
          have m5 := b9.cell 5 rfl
          have m6 := b9.cell 6 rfl
          have m7 := b9.cell 7 rfl
          have m8 := b9.cell 8 rfl
          have m9 := b9.cell 9 rfl
          have m10 := b9.cell 10 rfl
          have m11 := b9.cell 11 rfl
          go_wp2_with fail
          refine (C1.out _).mono ?_
          rintro e w5 ⟨rfl, hb5⟩
          clear m0 m1 m2 m3 m4 m5 m6 m7 m8 m9 m10 m11
          have hb05 := hb04.trans (hb5.mono hb04.size)
          have b9 := HKB.out w5 hb05
          by_cases hK1 : 0 < K1
          · go_wp2_with fail
            refine (LV.out _ hb05).mono ?_
            rintro e wz ⟨rfl, hbz⟩
            go_wp2_with fail
            go_ret
            exact ⟨rfl, HFIN.out _ (hb05.trans (hbz.mono hb05.size))⟩
          have hK1' : ¬ 0 < K1 := hK1
          have m0 := b9.cell 0 rfl
          have m1 := b9.cell 1 rfl
          have m2 := b9.cell 2 rfl
          have m3 := b9.cell 3 rfl
          have m4 := b9.cell 4 rfl
          have m5 := b9.cell 5 rfl
          have m6 := b9.cell 6 rfl
          have m7 := b9.cell 7 rfl
          have m8 := b9.cell 8 rfl
          have m9 := b9.cell 9 rfl
          have m10 := b9.cell 10 rfl
          have m11 := b9.cell 11 rfl
          go_wp2_with fail
          refine (C2.out _).mono ?_
          rintro e w5b ⟨rfl, hb5b⟩
          clear m0 m1 m2 m3 m4 m5 m6 m7 m8 m9 m10 m11
          have hb45 : Below w4.heap.size w4 w5b := hb5.trans (hb5b.mono hb5.size)
          have hb05b := hb04.trans (hb45.mono hb04.size)
          by_cases hK2 : 0 < K2
          · go_wp2_with fail
            refine (LV.out _ hb05b).mono ?_
            rintro e wz ⟨rfl, hbz⟩
            go_wp2_with fail
            go_ret
            exact ⟨rfl, HFIN.out _ (hb05b.trans (hbz.mono hb05b.size))⟩
          have b9 := HKB.out w5b hb05b
          have m0 := b9.cell 0 rfl
          have m1 := b9.cell 1 rfl
          have m2 := b9.cell 2 rfl
          have m3 := b9.cell 3 rfl
          have m4 := b9.cell 4 rfl
          have m5 := b9.cell 5 rfl
          have m6 := b9.cell 6 rfl
          have m7 := b9.cell 7 rfl
          have m8 := b9.cell 8 rfl
          have m9 := b9.cell 9 rfl
          have m10 := b9.cell 10 rfl
          have m11 := b9.cell 11 rfl
          go_wp2_with fail
          refine (SW.out _ hb45).mono ?_
          rintro e w6 ⟨wf, wu, so, sc, rfl, hwf, hwu, hsw, hb6⟩
          clear m0 m1 m2 m3 m4 m5 m6 m7 m8 m9 m10 m11
          have hb46 : Below w4.heap.size w4 w6 := hb45.trans (hb6.mono hb45.size)
          have hb06 := hb04.trans (hb46.mono hb04.size)
          have PT : Hid (∀ a1 b1 a3 b3, CutAt N ⟨ft, fp, fr, fc⟩ a1 → CutAt N ⟨kt, kp, kr, kc'⟩ b1 → CutAt N ⟨kt, kp, kr, kc'⟩ a3 → CutAt N ⟨ut, up, ur, uc⟩ b3 → [] ++ betw N a1 b1 ++ betw N a3 b3 = betw N wf wu) := fun a1 b1 a3 b3 h1 h2 h3 h4 => PT0.out a1 b1 a3 b3 wf wu (by omega) (by omega) hwf hwu h1 h2 h3 h4
          have SC1 : Hid (∀ (x : World), Below w6.heap.size w6 x → Calls Tryz.prog 11 #[.pointer (some ⟨T, 0, none⟩), .agg #[.string ft, .string fp, .int .i64 fr, .string fc], .agg #[.string kt, .string kp, .int .i64 kr, .string kc']] x fun e w' => ∃ a1 a2 ao cap, e = .returned (.slice ao (betw N a1 a2).length cap) ∧ CutAt N ⟨ft, fp, fr, fc⟩ a1 ∧ CutAt N ⟨kt, kp, kr, kc'⟩ a2 ∧ XSees w' ao (betw N a1 a2) ∧ Below x.heap.size x w') := fun x hx => SCa.out x (hb46.trans (hx.mono hb46.size))
          have SC2 : Hid (∀ (x : World), Below w6.heap.size w6 x → Calls Tryz.prog 11 #[.pointer (some ⟨T, 0, none⟩), .agg #[.string kt, .string kp, .int .i64 kr, .string kc'], .agg #[.string ut, .string up, .int .i64 ur, .string uc]] x fun e w' => ∃ a1 a2 ao cap, e = .returned (.slice ao (betw N a1 a2).length cap) ∧ CutAt N ⟨kt, kp, kr, kc'⟩ a1 ∧ CutAt N ⟨ut, up, ur, uc⟩ a2 ∧ XSees w' ao (betw N a1 a2) ∧ Below x.heap.size x w') := fun x hx => SCb.out x (hb46.trans (hx.mono hb46.size))
          have AP : Hid (∀ (x : World) (v : Value) (R : List Cx) (xo : Option Addr) (M : List Cx) (xc : Nat), Below w6.heap.size w6 x → x.ownsRow w6.heap.size 34 10 v R.length (R.flatMap xs10) → XSees x xo M → R.length ≤ 1000 → M.length ≤ 1000 → ∃ v' w', (Builtin.append_ #[22, 22] 22 #[v, .slice xo M.length xc]).run Tryz.prog x = .ok v' w' ∧ w'.ownsRow w6.heap.size 34 10 v' (R ++ M).length ((R ++ M).flatMap xs10) ∧ Below w6.heap.size w6 w') := fun x v R xo M xc hx ho hM hr hm => by
            obtain ⟨v', w', h1, h2, h3⟩ := run_append_grew (P := Tryz.prog) x w6.heap.size 22 22 22 34 i1 _ 10 112 Tryz.underlying22 hi1 hy0 hy1 hy2 rfl v R.length _ ho (.slice xo M.length xc) M.length (M.flatMap xs10) (src_cells hM (fun e => by
              cases M with
              | nil => rfl
              | cons c r => obtain ⟨b, o, e2, _⟩ := hM 0 c rfl; rw [e] at e2; cases e2) xc) (by unfold maxLen; omega) (by omega) hx.size
            refine ⟨v', w', h1, ?_, hx.trans (h3.below hx.size fun g hg => (ho.lt g hg).1)⟩
            rw [List.length_append, List.flatMap_append]
            exact h2
          have HCW : Hid (∀ x, Below w6.heap.size w6 x → ∃ p : Cl w6.heap.size w6, x = p.u) := fun x hx => ⟨⟨x, hx⟩, rfl⟩
          haveI := Cl.inh w6.heap.size w6
          have b6 := HKB.out w6 hb06
          have q0 : ∀ z : Cl w6.heap.size w6, z.u.cell? ⟨w0.heap.size, 0, none⟩ = some (.string kt) := fun z => (z.h.cell b6.lt).trans (b6.cell 0 rfl)
          have q1 : ∀ z : Cl w6.heap.size w6, z.u.cell? ⟨w0.heap.size, 1, none⟩ = some (.string kp) := fun z => (z.h.cell b6.lt).trans (b6.cell 1 rfl)
          have q2 : ∀ z : Cl w6.heap.size w6, z.u.cell? ⟨w0.heap.size, 2, none⟩ = some (.int .i64 kr) := fun z => (z.h.cell b6.lt).trans (b6.cell 2 rfl)
          have q3 : ∀ z : Cl w6.heap.size w6, z.u.cell? ⟨w0.heap.size, 3, none⟩ = some (.string kc') := fun z => (z.h.cell b6.lt).trans (b6.cell 3 rfl)
          have q4 : ∀ z : Cl w6.heap.size w6, z.u.cell? ⟨w0.heap.size, 4, none⟩ = some (.string ft) := fun z => (z.h.cell b6.lt).trans (b6.cell 4 rfl)
          have q5 : ∀ z : Cl w6.heap.size w6, z.u.cell? ⟨w0.heap.size, 5, none⟩ = some (.string fp) := fun z => (z.h.cell b6.lt).trans (b6.cell 5 rfl)
          have q6 : ∀ z : Cl w6.heap.size w6, z.u.cell? ⟨w0.heap.size, 6, none⟩ = some (.int .i64 fr) := fun z => (z.h.cell b6.lt).trans (b6.cell 6 rfl)
          have q7 : ∀ z : Cl w6.heap.size w6, z.u.cell? ⟨w0.heap.size, 7, none⟩ = some (.string fc) := fun z => (z.h.cell b6.lt).trans (b6.cell 7 rfl)
          have q8 : ∀ z : Cl w6.heap.size w6, z.u.cell? ⟨w0.heap.size, 8, none⟩ = some (.string ut) := fun z => (z.h.cell b6.lt).trans (b6.cell 8 rfl)
          have q9 : ∀ z : Cl w6.heap.size w6, z.u.cell? ⟨w0.heap.size, 9, none⟩ = some (.string up) := fun z => (z.h.cell b6.lt).trans (b6.cell 9 rfl)
          have q10 : ∀ z : Cl w6.heap.size w6, z.u.cell? ⟨w0.heap.size, 10, none⟩ = some (.int .i64 ur) := fun z => (z.h.cell b6.lt).trans (b6.cell 10 rfl)
          have q11 : ∀ z : Cl w6.heap.size w6, z.u.cell? ⟨w0.heap.size, 11, none⟩ = some (.string uc) := fun z => (z.h.cell b6.lt).trans (b6.cell 11 rfl)
          have HSW : Hid (∀ x, Below w6.heap.size w6 x → XSees x so (betw N wf wu) ∧ Below w4.heap.size w4 x ∧ Below w.heap.size w x) := fun x hx => ⟨hsw.below hx (Nat.le_refl _), hb46.trans (hx.mono hb46.size), hb06.trans (hx.mono hb06.size)⟩
          clear b9 b6 hwf hwu hsw hb6 hb46 hb06 hb5 hb05 hb5b hb45 hb05b SW SCa SCb PT0 C1 C2
          go_wp2_with fail
          refine wp_region_C (fun x => ∃ p : Cl w6.heap.size w6, x = p.u) 16 _ (by kernel_rfl) ?reg (fun _ _ h => h)
          refine anyC_pure 1 rfl (by kernel_rfl) (by kernel_rfl) (by kernel_rfl) (HCW.out _ (Below.refl w6.heap.size w6).drew) (fun K hK => ?_)
          go_simp
          refine hK _ ?_
          clear hK K
          refine anyC_pure 2 rfl (by kernel_rfl) (by kernel_rfl) (by kernel_rfl) (HCW.out _ (Below.refl w6.heap.size w6).drew) (fun K hK => ?_)
          go_simp
          refine hK _ ?_
          clear hK K
          refine anyC_pure 3 rfl (by kernel_rfl) (by kernel_rfl) (by kernel_rfl) (HCW.out _ (Below.refl w6.heap.size w6).drew) (fun K hK => ?_)
          go_simp
          refine hK _ ?_
          clear hK K
          refine anyC_pure 4 rfl (by kernel_rfl) (by kernel_rfl) (by kernel_rfl) (HCW.out _ (Below.refl w6.heap.size w6).drew) (fun K hK => ?_)
          go_simp
          refine hK _ ?_
          clear hK K
          refine anyC_pure 5 rfl (by kernel_rfl) (by kernel_rfl) (by kernel_rfl) (HCW.out _ (Below.refl w6.heap.size w6).drew) (fun K hK => ?_)
          go_simp
          refine hK _ ?_
          clear hK K
          refine anyC_pure 8 rfl (by kernel_rfl) (by kernel_rfl) (by kernel_rfl) (HCW.out _ (Below.refl w6.heap.size w6).drew) (fun K hK => ?_)
          go_simp
          refine hK _ ?_
          clear hK K
          refine anyC_pure 9 rfl (by kernel_rfl) (by kernel_rfl) (by kernel_rfl) (HCW.out _ (Below.refl w6.heap.size w6).drew) (fun K hK => ?_)
          go_simp
          refine hK _ ?_
          clear hK K
          refine anyC_pure 10 rfl (by kernel_rfl) (by kernel_rfl) (by kernel_rfl) (HCW.out _ (Below.refl w6.heap.size w6).drew) (fun K hK => ?_)
          go_simp
          refine hK _ ?_
          clear hK K
          refine anyC_pure 11 rfl (by kernel_rfl) (by kernel_rfl) (by kernel_rfl) (HCW.out _ (Below.refl w6.heap.size w6).drew) (fun K hK => ?_)
          go_simp
          refine hK _ ?_
          clear hK K
          refine anyC_pure 12 rfl (by kernel_rfl) (by kernel_rfl) (by kernel_rfl) (HCW.out _ (Below.refl w6.heap.size w6).drew) (fun K hK => ?_)
          go_simp
          refine hK _ ?_
          clear hK K
          refine anyC_loud2 0 6 (by kernel_rfl) ?_ ?_
          · refine lou_of rfl (fun K hK => ?_)
            go_simp
            have bA : Below w6.heap.size w6 (w6.drew.alloc (.cells #[] 34)) := (Below.refl w6.heap.size w6).drew.alloc (Nat.le_refl _) _
            have oA : (w6.drew.alloc (.cells #[] 34)).ownsRow w6.heap.size 34 10 (.slice (some ⟨w6.heap.size, 0, none⟩) 0 0) 0 [] := World.ownsRow_lit w6.drew #[] (e := 34) (size := 10) 0 (Nat.le_refl _) (by unfold maxLen; omega) rfl
            refine hK _ _ ⟨fun _ => HCW.out _ bA, ?_⟩
            clear hK K
            refine anyC_loud 6 (by kernel_rfl) ?_
            refine lou_of rfl (fun K hK => ?_)
            go_simp
            refine (SC1.out _ bA).mono ?_
            rintro e x1 ⟨a1, b1, s1, c1, rfl, hf1, hk1, hs1, hx1⟩
            have b1' : Below w6.heap.size w6 x1 := bA.trans (hx1.mono bA.size)
            have o1 : x1.ownsRow w6.heap.size 34 10 (.slice (some ⟨w6.heap.size, 0, none⟩) 0 0) ([] : List Cx).length (([] : List Cx).flatMap xs10) := ow_below oA hx1
            refine hK _ _ ⟨fun _ => HCW.out _ b1', ?_⟩
            clear hK K
            obtain ⟨v2, x2, r2, o2, b2'⟩ := AP.out x1 _ [] s1 (betw N a1 b1) c1 b1' o1 hs1 (by simp) (BW.out a1 b1)
            refine anyC_loud 7 (by kernel_rfl) ?_
            refine lou_append rfl rfl _ _ _ _ rfl _ _ rfl rfl (by exact r2) ?_
            refine ⟨fun _ => HCW.out _ b2', ?_⟩
            refine anyC_loud 13 (by kernel_rfl) ?_
            refine lou_of rfl (fun K hK => ?_)
            obtain ⟨va2, vc2, hv2⟩ : ∃ va vc, v2 = .slice va ([] ++ betw N a1 b1).length vc := by
              obtain ⟨a, c, h, _⟩ := owns_xsees o2
              exact ⟨a, c, h⟩
            rw [hv2] at o2 ⊢
            go_simp
            refine (SC2.out _ b2').mono ?_
            rintro e x3 ⟨a3, b3, s3, c3, rfl, hk3, hu3, hs3, hx3⟩
            have b3' : Below w6.heap.size w6 x3 := b2'.trans (hx3.mono b2'.size)
            refine hK _ _ ⟨fun _ => HCW.out _ b3', ?_⟩
            clear hK K
            obtain ⟨v4, x4, r4, o4, b4'⟩ := AP.out x3 _ ([] ++ betw N a1 b1) s3 (betw N a3 b3) c3 b3' (ow_below o2 hx3) hs3 (BW.out a1 b1) (BW.out a3 b3)
            refine anyC_loud 14 (by kernel_rfl) ?_
            refine lou_append rfl rfl _ _ _ _ rfl _ _ rfl rfl (by exact r4) ?_
            refine ⟨fun _ => HCW.out _ b4', ?_⟩
            obtain ⟨va4, vc4, hv4⟩ : ∃ va vc, v4 = .slice va ([] ++ betw N a1 b1 ++ betw N a3 b3).length vc := by
              obtain ⟨a, c, h, _⟩ := owns_xsees o4
              exact ⟨a, c, h⟩
            have x4s : XSees x4 va4 (betw N wf wu) := by
              obtain ⟨a, c, h, hx, _⟩ := owns_xsees o4
              rw [hv4] at h
              cases h
              rw [PT.out a1 b1 a3 b3 hf1 hk1 hk3 hu3] at hx
              exact hx
            rw [PT.out a1 b1 a3 b3 hf1 hk1 hk3 hu3] at hv4
            rw [hv4]
            clear r2 r4 o1 o2 o4 hs1 hs3 hv2 hv4
            refine anyC_pure 15 rfl (by kernel_rfl) (by kernel_rfl) (by kernel_rfl) (HCW.out _ b4') (fun K hK => ?_)
            go_simp
            refine hK _ ?_
            clear hK K
            refine anyC_done (by kernel_rfl) ?_
            obtain ⟨hsv, hb47, hb07⟩ := HSW.out x4 b4'
            have LK : Hid (Calls Tryz.prog 12 #[.slice so (betw N wf wu).length sc, .slice va4 (betw N wf wu).length vc4] x4 fun e w' => e = .returned (.bool true) ∧ Below x4.heap.size x4 w') := likeX_same so va4 (betw N wf wu) sc vc4 x4 hsv x4s (Nat.le_trans (BW.out wf wu) (by decide))
            clear hsv x4s
            go_wp2_with fail
            refine LK.out.mono ?_
            rintro e x8 ⟨rfl, hb8⟩
            have hb48 : Below w4.heap.size w4 x8 := hb47.trans (hb8.mono hb47.size)
            go_wp2_with fail
            refine (SZ.out _ hb48).mono ?_
            rintro e x9 ⟨⟨z1, z2, rfl⟩, hb9⟩
            have hb49 : Below w4.heap.size w4 x9 := hb48.trans (hb9.mono hb48.size)
            go_wp2_with fail
            refine (LE.out _ hb49).mono ?_
            rintro e xx ⟨rfl, rfl⟩
            have hb09 := hb04.trans (hb49.mono hb04.size)
            go_wp2_with fail
            refine (LV.out _ hb09).mono ?_
            rintro e wz ⟨rfl, hbz⟩
            go_wp2_with fail
            go_ret
            exact ⟨rfl, HFIN.out _ (hb09.trans (hbz.mono hb09.size))⟩
          · refine lou_of rfl (fun K hK => ?_)
            go_simp
            have bA : Below w6.heap.size w6 w6.drew := (Below.refl w6.heap.size w6).drew
            refine (SC1.out _ bA).mono ?_
            rintro e x0 ⟨a1, b1, s1, c1, rfl, hf1, hk1, hs0, hx0⟩
            have b0' : Below w6.heap.size w6 x0 := bA.trans (hx0.mono bA.size)
            refine hK _ _ ⟨fun _ => HCW.out _ b0', ?_⟩
            clear hK K
            refine anyC_loud 0 (by kernel_rfl) ?_
            refine lou_of rfl (fun K hK => ?_)
            go_simp
            obtain ⟨x1, hx1⟩ : ∃ x1, x1 = x0.alloc (.cells #[] 34) := ⟨_, rfl⟩
            have b1' : Below w6.heap.size w6 x1 := by rw [hx1]; exact b0'.alloc b0'.size _
            have hs1 : XSees x1 s1 (betw N a1 b1) := by rw [hx1]; exact hs0.below ((Below.refl _ _).alloc (Nat.le_refl _) _) (Nat.le_refl _)
            have o1 : x1.ownsRow w6.heap.size 34 10 (.slice (some ⟨x0.heap.size, 0, none⟩) 0 0) ([] : List Cx).length (([] : List Cx).flatMap xs10) := by
              rw [hx1]
              exact World.ownsRow_lit x0 #[] (e := 34) (size := 10) 0 b0'.size (by unfold maxLen; omega) rfl
            rw [← hx1]
            refine hK _ _ ⟨fun _ => HCW.out _ b1', ?_⟩
            clear hK K hx1
            obtain ⟨v2, x2, r2, o2, b2'⟩ := AP.out x1 _ [] s1 (betw N a1 b1) c1 b1' o1 hs1 (by simp) (BW.out a1 b1)
            refine anyC_loud 7 (by kernel_rfl) ?_
            refine lou_append rfl rfl _ _ _ _ rfl _ _ rfl rfl (by exact r2) ?_
            refine ⟨fun _ => HCW.out _ b2', ?_⟩
            refine anyC_loud 13 (by kernel_rfl) ?_
            refine lou_of rfl (fun K hK => ?_)
            obtain ⟨va2, vc2, hv2⟩ : ∃ va vc, v2 = .slice va ([] ++ betw N a1 b1).length vc := by
              obtain ⟨a, c, h, _⟩ := owns_xsees o2
              exact ⟨a, c, h⟩
            rw [hv2] at o2 ⊢
            go_simp
            refine (SC2.out _ b2').mono ?_
            rintro e x3 ⟨a3, b3, s3, c3, rfl, hk3, hu3, hs3, hx3⟩
            have b3' : Below w6.heap.size w6 x3 := b2'.trans (hx3.mono b2'.size)
            refine hK _ _ ⟨fun _ => HCW.out _ b3', ?_⟩
            clear hK K
            obtain ⟨v4, x4, r4, o4, b4'⟩ := AP.out x3 _ ([] ++ betw N a1 b1) s3 (betw N a3 b3) c3 b3' (ow_below o2 hx3) hs3 (BW.out a1 b1) (BW.out a3 b3)
            refine anyC_loud 14 (by kernel_rfl) ?_
            refine lou_append rfl rfl _ _ _ _ rfl _ _ rfl rfl (by exact r4) ?_
            refine ⟨fun _ => HCW.out _ b4', ?_⟩
            obtain ⟨va4, vc4, hv4⟩ : ∃ va vc, v4 = .slice va ([] ++ betw N a1 b1 ++ betw N a3 b3).length vc := by
              obtain ⟨a, c, h, _⟩ := owns_xsees o4
              exact ⟨a, c, h⟩
            have x4s : XSees x4 va4 (betw N wf wu) := by
              obtain ⟨a, c, h, hx, _⟩ := owns_xsees o4
              rw [hv4] at h
              cases h
              rw [PT.out a1 b1 a3 b3 hf1 hk1 hk3 hu3] at hx
              exact hx
            rw [PT.out a1 b1 a3 b3 hf1 hk1 hk3 hu3] at hv4
            rw [hv4]
            clear r2 r4 o1 o2 o4 hs1 hs3 hv2 hv4
            refine anyC_pure 15 rfl (by kernel_rfl) (by kernel_rfl) (by kernel_rfl) (HCW.out _ b4') (fun K hK => ?_)
            go_simp
            refine hK _ ?_
            clear hK K
            refine anyC_done (by kernel_rfl) ?_
            obtain ⟨hsv, hb47, hb07⟩ := HSW.out x4 b4'
            have LK : Hid (Calls Tryz.prog 12 #[.slice so (betw N wf wu).length sc, .slice va4 (betw N wf wu).length vc4] x4 fun e w' => e = .returned (.bool true) ∧ Below x4.heap.size x4 w') := likeX_same so va4 (betw N wf wu) sc vc4 x4 hsv x4s (Nat.le_trans (BW.out wf wu) (by decide))
            clear hsv x4s
            go_wp2_with fail
            refine LK.out.mono ?_
            rintro e x8 ⟨rfl, hb8⟩
            have hb48 : Below w4.heap.size w4 x8 := hb47.trans (hb8.mono hb47.size)
            go_wp2_with fail
            refine (SZ.out _ hb48).mono ?_
            rintro e x9 ⟨⟨z1, z2, rfl⟩, hb9⟩
            have hb49 : Below w4.heap.size w4 x9 := hb48.trans (hb9.mono hb48.size)
            go_wp2_with fail
            refine (LE.out _ hb49).mono ?_
            rintro e xx ⟨rfl, rfl⟩
            have hb09 := hb04.trans (hb49.mono hb04.size)
            go_wp2_with fail
            refine (LV.out _ hb09).mono ?_
            rintro e wz ⟨rfl, hbz⟩
            go_wp2_with fail
            go_ret
            exact ⟨rfl, HFIN.out _ (hb09.trans (hbz.mono hb09.size))⟩
end Go.Proofs.YtmkaehnfgdlhdaaGreatDoor.tableScans
