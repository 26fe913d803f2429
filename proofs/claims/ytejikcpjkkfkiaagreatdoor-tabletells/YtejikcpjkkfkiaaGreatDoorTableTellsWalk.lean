/-
  THE LAW TableTells: the walk.
-/
import Derived.Test.YtejikcpjkkfkiaaGreatDoorTabM3
namespace Go.Proofs.YtejikcpjkkfkiaaGreatDoor.tableTells
open Go.RowKit

set_option maxRecDepth 100000 in
set_option maxHeartbeats 4000000 in
theorem walk (ao : Option Addr) (l : List Cx) (cap : Nat) (cut bit : Nat) (w : World) (hs : XSees w ao l) (_hn : ao = none → l.length = 0) (hl : l.length ≤ 140737488355328) (hc : ∀ c ∈ l, c.In ∧ wtX c ≤ 562949953421312) (hcut : cut < 18446744073709551616) (hbit : bit < 18446744073709551616) (ht : Tab w) (ue : TypeId) (pv : Value) (he : Err w ue pv) :
    Calls Tryz.prog 6 #[.slice ao l.length cap, .int .u64 cut, .int .u64 bit] w fun e w' => e = .returned (.bool true) ∧ Below w.heap.size w w' := by
  obtain ⟨i1, hi1, hy0, hy1, hy2⟩ := infoX infoCx
  have hgT : 0 < w.heap.size := World.block_lt_of_cell? _ _ (ht 0 (by decide))
  have HT : Hid (∀ u, Below w.heap.size w u → Tab u) := fun u hu => ht.belowB hu hgT
  have HE : Hid (∀ u, Below w.heap.size w u → Err u ue pv) := fun u hu => he.below hu (Nat.le_refl _)
  have LV : Hid (∀ u, Below w.heap.size w u → Calls Tryz.prog 10 #[] u fun x w' => x = .returned (.bool true) ∧ Below u.heap.size u w') := fun u hu => lives9_any u (HT.out u hu) ue pv (HE.out u hu)
  have W1 : Hid (Calls Tryz.prog 9 #[.slice ao l.length cap, .int .i64 200] w fun e w' => (∃ z : Nat, e = .returned (.int .i64 z) ∧ z ≤ 1000000000000000 ∧ (z ≤ 200 → l.length ≤ 200 ∧ wtXs l ≤ 20 * 200)) ∧ Below w.heap.size w w') :=
    weigh9_any ao l cap 200 w hs (by omega) hl (fun c h => (hc c h).2)
  have HS : Hid (∀ w', Below w.heap.size w w' → XSees w' ao l) := fun w' h => hs.below h (Nat.le_refl _)
  have hlz : (l.length : Int) ≤ 140737488355328 := by omega
  have HNU : Hid (∀ c ∈ l, c.Nums) := fun c h => ⟨(hc c h).1.1, (hc c h).1.2⟩
  clear hc hs hl ht he
  go_enter Tryz.func6, Tryz.ntmps6
  go_wp2_with fail
  refine W1.out.mono ?_
  rintro e w1 ⟨⟨z, rfl, hz, hzm⟩, hb1⟩
  by_cases hbig : 200 < z
  · have hbz : (200 : Int) < (z : Int) := by omega
    clear hzm
    go_wp2_with fail
    refine (LV.out _ hb1).mono ?_
    rintro e w2 ⟨rfl, hb2⟩
    go_wp2_with fail
    go_ret
    exact ⟨rfl, hb1.trans (hb2.mono hb1.size)⟩
  · have hbz : ¬ (200 : Int) < (z : Int) := by omega
    obtain ⟨hl4, hw4⟩ := hzm (by omega)
    have GD : Hid (∀ c ∈ l, ∀ w : World, Calls Tryz.prog 17 #[c.val] w fun x w' => x = .returned (.bool (goodC c)) ∧ Below w.heap.size w w') := fun c hc w => by
      have hm4 : (20 * 200 : Nat) ≤ maxLen := by decide
      obtain ⟨a1, a2, a3, a4⟩ := wt_mem9 hc hw4
      exact goodX_any c w (by omega) (by omega) (by omega) (by omega)
    have HW4 : Hid (wtXs l ≤ 20 * 200) := hw4
    clear hzm hbig hw4
    go_wp2_with fail
    go_loopw [7, 24] (fun s5 s23 wr => ∃ (i : Nat) (v : Value), i ≤ l.length ∧ v = s5 ∧ s23 = .int .i64 i ∧ wr.ownsRow w.heap.size 45 10 v (goods (l.take i)).length ((goods (l.take i)).flatMap xs10) ∧ Below w.heap.size w wr) (fun _ s23 _ => l.length - (intOf s23).toNat)
    case atStart => exact ⟨0, _, by omega, rfl, rfl, World.ownsRow_nil _ _ _ _, hb1⟩
    case round =>
      obtain ⟨i, v, hi, rfl, rfl, ho, hbr⟩ := hrel
      rcases Nat.lt_or_ge i l.length with hlt | hge
      · have hc0 : l[i]? = some l[i] := List.getElem?_eq_getElem hlt
        obtain ⟨b1, o1, rfl, x1⟩ := (HS.out wr hbr) i _ hc0
        have hgs : goods (l.take (i + 1)) = if goodC l[i] then goods (l.take i) ++ [l[i]] else goods (l.take i) := by rw [takeX_succ hc0, goods_snoc]
        have hgl : (goods (l.take i)).length ≤ 200 := by
          have h1 : (goods (l.take i)).length ≤ (l.take i).length := List.length_filter_le _ _
          rw [List.length_take] at h1; omega
        have G1 := fun w' => GD.out l[i] (List.getElem_mem hlt) w'
        generalize l[i] = c at *
        obtain ⟨⟨ct, cp, cr, cc⟩, ⟨cti, cd, cl, ck, cn, cstr⟩⟩ := c
        simp only [Cx.val, Cx.a] at G1
        obtain ⟨k0, k1, k2, k3, k4, k5, k6, k7, k8, k9⟩ := x1
        simp only at k0 k1 k2 k3 k4 k5 k6 k7 k8 k9
        have hlt' : (i : Int) < (l.length : Int) := by omega
        have hbx : Below wr.heap.size wr (wr.alloc (.cells #[.string ct, .string cp, .int .i64 cr, .string cc, .int .i64 cti, .bool cd, .int .i64 cl, .int .i64 ck, .int .i64 cn, .string cstr] 45)) := (Below.refl _ _).alloc (Nat.le_refl _) _
        have bxx := Blk.new wr [.string ct, .string cp, .int .i64 cr, .string cc, .int .i64 cti, .bool cd, .int .i64 cl, .int .i64 ck, .int .i64 cn, .string cstr] 45
        have G2 := toHidE (G1 (wr.alloc (.cells #[.string ct, .string cp, .int .i64 cr, .string cc, .int .i64 cti, .bool cd, .int .i64 cl, .int .i64 ck, .int .i64 cn, .string cstr] 45)))
        have HN : Hid (∀ w', Below (wr.alloc (.cells #[.string ct, .string cp, .int .i64 cr, .string cc, .int .i64 cti, .bool cd, .int .i64 cl, .int .i64 ck, .int .i64 cn, .string cstr] 45)).heap.size (wr.alloc (.cells #[.string ct, .string cp, .int .i64 cr, .string cc, .int .i64 cti, .bool cd, .int .i64 cl, .int .i64 ck, .int .i64 cn, .string cstr] 45)) w' → Blk w' wr.heap.size [.string ct, .string cp, .int .i64 cr, .string cc, .int .i64 cti, .bool cd, .int .i64 cl, .int .i64 ck, .int .i64 cn, .string cstr] 45 ∧ Below w.heap.size w w' ∧ w'.ownsRow w.heap.size 45 10 v (goods (l.take i)).length ((goods (l.take i)).flatMap xs10)) := fun w' hb => ⟨bxx.carry (hb.block _ (by rw [World.size_alloc]; omega)), hbr.trans ((hbx.trans (hb.mono hbx.size)).mono hbr.size), owns_carryX ho fun g hg => by
          have h2 := (ho.lt g hg).2
          exact (hb.block g (by rw [World.size_alloc]; omega)).trans (hbx.block g h2)⟩
        generalize hgc : goodC ⟨⟨ct, cp, cr, cc⟩, ⟨cti, cd, cl, ck, cn, cstr⟩⟩ = g at *
        have HG := toHidE hgs
        clear hgs hgc G1 hbx bxx ho hc0 hbr
        go_wp2_with fail
        refine G2.out.mono ?_
        rintro e w2 ⟨rfl, hb2⟩
        obtain ⟨b2, hB2, ho2⟩ := HN.out w2 hb2
        have m0 := b2.cell 0 rfl
        have m1 := b2.cell 1 rfl
        have m2 := b2.cell 2 rfl
        have m3 := b2.cell 3 rfl
        have m4 := b2.cell 4 rfl
        have m5 := b2.cell 5 rfl
        have m6 := b2.cell 6 rfl
        have m7 := b2.cell 7 rfl
        have m8 := b2.cell 8 rfl
        have m9 := b2.cell 9 rfl
        clear k0 k1 k2 k3 k4 k5 k6 k7 k8 k9 G2 HN b2 hb2
        cases g
        · simp only [Bool.false_eq_true, if_false] at HG
          clear m0 m1 m2 m3 m4 m5 m6 m7 m8 m9
          go_wp2_with fail
          go_roundw
          case rel => exact ⟨i + 1, _, by omega, rfl, by go_num, by rw [HG.out]; exact ho2, hB2⟩
          case measure => (simp [intOf]; try omega)
        · simp only [if_true] at HG
          have hsz := hB2.size
          have HNW : Hid (∀ (v3 : Value) (w3 : World), w3.ownsRow w.heap.size 45 10 v3 ((goods (l.take i)).length + 1) ((goods (l.take i)).flatMap xs10 ++ ([(⟨⟨ct, cp, cr, cc⟩, ⟨cti, cd, cl, ck, cn, cstr⟩⟩ : Cx)] : List Cx).flatMap xs10) → Grew (w2.alloc (.cells #[.string ct, .string cp, .int .i64 cr, .string cc, .int .i64 cti, .bool cd, .int .i64 cl, .int .i64 ck, .int .i64 cn, .string cstr] 45)) w3 v v3 → w3.ownsRow w.heap.size 45 10 v3 (goods (l.take (i + 1))).length ((goods (l.take (i + 1))).flatMap xs10) ∧ Below w.heap.size w w3) := fun v3 w3 h1 h2 => by
            rw [HG.out, List.length_append, List.flatMap_append]
            exact ⟨h1, (hB2.alloc hB2.size _).trans (h2.below (by rw [World.size_alloc]; omega) fun g hg => (ho2.lt g hg).1)⟩
          go_wp2_with (at_builtin; go_must (refine wpList_append_grew _ rfl _ _ 22 22 rfl w.heap.size 45 i1 _ 10 112 Tryz.underlying22 hi1 hy0 hy1 hy2 rfl _ (goods (l.take i)).length _ rfl (ho2.alloc _) _ 1 (([(⟨⟨ct, cp, cr, cc⟩, ⟨cti, cd, cl, ck, cn, cstr⟩⟩ : Cx)] : List Cx).flatMap xs10) rfl (src_cellX w2 ⟨⟨ct, cp, cr, cc⟩, ⟨cti, cd, cl, ck, cn, cstr⟩⟩) (by unfold maxLen; omega) (by omega) (by rw [World.size_alloc]; omega) ?_; intro v3 w3 ho3 hg3; have hM := toHidE (HNW.out v3 w3 ho3 hg3); clear ho3 hg3))
          go_roundw
          case rel => exact ⟨i + 1, _, by omega, rfl, by go_num, hM.out.1, hM.out.2⟩
          case measure => (simp [intOf]; try omega)
      · obtain rfl : i = l.length := by omega
        rw [List.take_length] at ho
        have hgl : (goods l).length ≤ l.length := List.length_filter_le _ _
        have hgez : ¬ (l.length : Int) < (l.length : Int) := by omega
        have hWrt := norm_wrt HNU.out (by omega : l.length ≤ 400)
        have hOk := norm_ok HNU.out (by omega : l.length ≤ 400)
        have hBad := norm_bad (l := l)
        have hNle := nrm_le (goods l)
        obtain ⟨ag, cg, rfl, xg, hag⟩ := owns_xsees ho
        have hng : ag = none → (goods l).length = 0 := fun e => by
          rcases ho.2 with ⟨h1, h2⟩ | ⟨g, cap', cur, h, _⟩
          · exact h2
          · injection h with e1 e2 e3; rw [e] at e1; cases e1
        have NG : Hid (Calls Tryz.prog 18 #[.slice ag (goods l).length cg] wr fun e w' => ∃ v, e = .returned v ∧ w'.ownsRow wr.heap.size 45 10 v (nrm (goods l)).length ((nrm (goods l)).flatMap xs10) ∧ Below wr.heap.size wr w') := norm_any ag (goods l) cg wr xg hng (by omega)
        have hcuti : (cut : Int) ≤ 18446744073709551615 := by omega
        have hbiti : (bit : Int) ≤ 18446744073709551615 := by omega
        clear hcut hbit xg hag ho
        by_cases hG : (goods l).length = 0
        · have hbd := hBad hG
          rw [hG] at NG
          go_wp2_with fail
          go_fit NG.out
          rintro e w2 ⟨v2, rfl, ho2, hb2⟩
          have hb02 : Below w.heap.size w w2 := hbr.trans (hb2.mono hbr.size)
          have WB : Hid (Calls Tryz.prog 11 #[v2] w2 fun e w' => e = .returned (.tuple #[.slice none 0 0, .int .i64 2]) ∧ Below w2.heap.size w2 w') := write_rowB ho2 hWrt hbd
          clear NG ho2 hOk hBad
          go_wp2_with fail
          go_fit WB.out
          rintro e w3 ⟨rfl, hb3⟩
          have hb03 : Below w.heap.size w w3 := hb02.trans (hb3.mono hb02.size)
          clear WB
          go_wp2_with fail
          refine (LV.out _ hb03).mono ?_
          rintro e w4 ⟨rfl, hb4⟩
          go_wp2_with fail
          go_ret
          exact ⟨rfl, hb03.trans (hb4.mono hb03.size)⟩
        · have hok := hOk (by omega)
          have hel := encTb_len hWrt
          have hep := encTb_pos (nrm (goods l))
          have hB6 : (encTb (nrm (goods l))).length ≤ 60000 := by
            have h1 : nBk (nrm (goods l)).length ≤ 25 := by unfold nBk; omega
            have h2 : nOf (nrm (goods l)).length 10 ≤ 251 := by unfold nOf; omega
            omega
          have HCUT : Hid (∀ c, c < (encTb (nrm (goods l))).length → NoTab ((encTb (nrm (goods l))).take c)) := fun c hc => cut_none hWrt hok hc
          have HTURN : Hid (∀ i, i < (headB (nrm (goods l))).length → ∀ y : UInt8, y ≠ (encTb (nrm (goods l))).getD i 0 → NoTab ((encTb (nrm (goods l))).set i y)) := fun i hi y hy => turned_none hWrt hi hy
          have hlast : ((encTb (nrm (goods l))).getD ((encTb (nrm (goods l))).length - 1) 0).toNat + (headB (nrm (goods l))).length + 1 = (encTb (nrm (goods l))).length ∧ 1 ≤ (headB (nrm (goods l))).length := tab_last hWrt
          go_wp2_with fail
          go_fit NG.out
          rintro e w2 ⟨v2, rfl, ho2, hb2⟩
          have hb02 : Below w.heap.size w w2 := hbr.trans (hb2.mono hbr.size)
          have WO := toHidE (write_row ho2 hWrt (HT.out _ hb02) hok)
          clear NG ho2 hOk hBad hWrt hok hel
          generalize encTb (nrm (goods l)) = B at *
          generalize (headB (nrm (goods l))).length = nH at *
          go_wp2_with fail
          refine (Hid.out WO).mono ?_
          rintro e w3 ⟨g, kc, rfl, hR3, hg3, hb3⟩
          have hb03 : Below w.heap.size w w3 := hb02.trans (hb3.mono hb02.size)
          clear WO
          obtain ⟨n, hn⟩ : ∃ n, n = B.length := ⟨_, rfl⟩
          rw [← hn] at hep hB6 hlast HCUT ⊢
          obtain ⟨c, hc⟩ : ∃ c : Nat, (cut : Int) % (n : Int) = (c : Int) := Int.eq_ofNat_of_zero_le (Int.emod_nonneg _ (by omega))
          have hcn : c < n := by have := Int.emod_lt_of_pos (cut : Int) (show 0 < (n : Int) by omega); omega
          have hcm : (kc : Int) ≤ 9223372036854775807 ∧ n ≤ kc := by obtain ⟨cur, -, q1, q2, -⟩ := hR3; unfold maxLen at q2; omega
          have wru : IntKind.u64.wrap (n : Int) = (n : Int) := by rw [IntKind.wrap_u64]; omega
          have hs3 := hR3.sees
          have O1 : Hid (Calls Tryz.prog 19 #[.slice (some ⟨g, 0, none⟩) c kc] w3 fun e w' => e = .returned (.tuple #[.pointer none, .int .i64 8]) ∧ Below w3.heap.size w3 w') := by
            have hno := HCUT.out c hcn
            by_cases h0 : c = 0
            · rw [h0]; exact open_nil _ _ _
            · have hl2 : (B.take c).length = c := by rw [List.length_take]; omega
              have := open_any g 0 kc (B.take c) w3 (hs3.takeS c) (by omega) (by omega) (by omega) (by omega) hR3.lt (HT.out _ hb03) ue pv (HE.out _ hb03)
              rw [hl2] at this
              refine this.mono ?_
              rintro e w' ⟨h1, (⟨-, rfl⟩ | ⟨l', -, h2, h3⟩)⟩
              · exact ⟨rfl, h1⟩
              · exact absurd h3 (hno l' h2.wrt h2.ok)
          have hx := (B.getD (n - 1) 0).toNat_lt
          obtain ⟨s, hsx⟩ : ∃ s, s = (B.getD (n - 1) 0).toNat := ⟨_, rfl⟩
          have cL : Hid (∀ u, Row9 u g B kc → u.cell? ⟨g, n - 1, none⟩ = some (.int .u8 (s : Int))) := fun u hu => by
            obtain ⟨a, e, q⟩ := hu.sees (n - 1) (by omega)
            cases e
            rw [Addr.add_lit, Nat.zero_add, ← hsx] at q
            exact q
          rw [← hsx] at hlast hx
          have hnH : n = s + nH + 1 := hlast.1.symm
          have hnH1 := hlast.2
          have HNB : Hid (n = B.length) := hn
          have HNN : Hid (n = s + nH + 1) := hnH
          clear HCUT hlast hn hnH hsx
          have hn0 : ((n : Int) == 0) = false := by simp; omega
          go_wp2_with fail
          go_fit O1.out
          rintro e w4 ⟨rfl, hb4⟩
          have hR4 : Row9 w4 g B kc := hR3.carry (hb4.block _ hR3.lt)
          have hb04 : Below w.heap.size w w4 := hb03.trans (hb4.mono hb03.size)
          obtain ⟨n1, hn1⟩ : ∃ n1, n = n1 + 1 := ⟨n - 1, by omega⟩
          have z0 : w4.cell? ⟨g, n1, none⟩ = some (.int .u8 (s : Int)) := by
            have := cL.out w4 hR4
            rw [hn1, Nat.add_sub_cancel] at this
            exact this
          have d1 : (n : Int) - 1 = (n1 : Int) := by omega
          have d2 : (n1 : Int) - (s : Int) = (nH : Int) := by have := HNN.out; omega
          have hn1lt : n1 < n := by omega
          have hnHz : ¬ ((nH : Int) < 1) := by omega
          obtain ⟨k, hk⟩ : ∃ k : Nat, (bit : Int) % (8 * (nH : Int)) = (k : Int) := Int.eq_ofNat_of_zero_le (Int.emod_nonneg _ (by omega))
          have hkl : k < 8 * nH := by have := Int.emod_lt_of_pos (bit : Int) (show 0 < 8 * (nH : Int) by omega); omega
          have hnHn : nH + 1 ≤ n := by have := HNN.out; omega
          have wr8 : IntKind.u64.wrap (8 * (nH : Int)) = 8 * (nH : Int) := by rw [IntKind.wrap_u64]; omega
          have hkn : k / 8 < n := by omega
          have hc6 : w4.cell? ⟨g, k / 8, none⟩ = some (.int .u8 ((B.getD (k / 8) 0).toNat : Int)) := by
            obtain ⟨a, e, q⟩ := hR4.sees (k / 8) (by rw [← HNB.out]; exact hkn)
            cases e
            rw [Addr.add_lit, Nat.zero_add] at q
            exact q
          have hf6 := hR4.frozen (k / 8)
          have hx6 := (B.getD (k / 8) 0).toNat_lt
          obtain ⟨x, hx0⟩ : ∃ x, B.getD (k / 8) 0 = x := ⟨_, rfl⟩
          rw [hx0] at hc6 hx6
          obtain ⟨y, hy, hyx⟩ := flip_text x (k % 8) (by omega)
          have hno := HTURN.out (k / 8) (by omega) y (by rw [hx0]; exact hyx)
          have hR5 : Row9 (w4.setCell ⟨g, k / 8, none⟩ (.int .u8 (bits BinOp.xor IntKind.u8 (x.toNat : Int) (2 ^ (k % 8) % 256)))) g (B.set (k / 8) y) kc := by rw [← hy]; exact hR4.set (k / 8) y
          have hb05 : Below w.heap.size w (w4.setCell ⟨g, k / 8, none⟩ (.int .u8 (bits BinOp.xor IntKind.u8 (x.toNat : Int) (2 ^ (k % 8) % 256)))) := hb04.setCell (by show w.heap.size ≤ g; have := hb02.size; omega) _
          have O2 : Hid (Calls Tryz.prog 19 #[.slice (some ⟨g, 0, none⟩) n kc] (w4.setCell ⟨g, k / 8, none⟩ (.int .u8 (bits BinOp.xor IntKind.u8 (x.toNat : Int) (2 ^ (k % 8) % 256)))) fun e w' => e = .returned (.tuple #[.pointer none, .int .i64 8]) ∧ Below (w4.setCell ⟨g, k / 8, none⟩ (.int .u8 (bits BinOp.xor IntKind.u8 (x.toNat : Int) (2 ^ (k % 8) % 256)))).heap.size (w4.setCell ⟨g, k / 8, none⟩ (.int .u8 (bits BinOp.xor IntKind.u8 (x.toNat : Int) (2 ^ (k % 8) % 256)))) w') := by
            have hl2 : (B.set (k / 8) y).length = n := by rw [List.length_set]; exact HNB.out.symm
            have := open_any g 0 kc (B.set (k / 8) y) _ hR5.sees (by omega) (by omega) (by omega) (by omega) hR5.lt (HT.out _ hb05) ue pv (HE.out _ hb05)
            rw [hl2] at this
            refine this.mono ?_
            rintro e w' ⟨h1, (⟨-, rfl⟩ | ⟨l', -, h2, h3⟩)⟩
            · exact ⟨rfl, h1⟩
            · exact absurd h3 (hno l' h2.wrt h2.ok)
          have HB05 : Hid (Below w.heap.size w (w4.setCell ⟨g, k / 8, none⟩ (.int .u8 (bits BinOp.xor IntKind.u8 (x.toNat : Int) (2 ^ (k % 8) % 256))))) := hb05
          clear hR3 hR4 hR5 hs3 O1 cL hno HTURN hy hyx hx0 hn1 hb05 hb4 hb3 hb03 hb04 HNN hc
          go_wp2_with fail
          go_fit O2.out
          rintro e w6 ⟨rfl, hb6⟩
          have hb06 : Below w.heap.size w w6 := HB05.out.trans (hb6.mono HB05.out.size)
          clear O2 HB05 hb6
          go_wp2_with fail
          refine (LV.out _ hb06).mono ?_
          rintro e w7 ⟨rfl, hb7⟩
          go_wp2_with fail
          go_ret
          exact ⟨rfl, hb06.trans (hb7.mono hb06.size)⟩
end Go.Proofs.YtejikcpjkkfkiaaGreatDoor.tableTells
