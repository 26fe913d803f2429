/-
  THE WALK of the law MergeMends: who gets what he lacks has what both have; who lacks nothing of each other has versions that are alike.
-/
import Derived.Test.YtdpglmgnbhpneaaMrgLike
import Derived.Test.YtdpglmgnbhpneaaMrgLives
namespace Go.Proofs.Ytdpglmgnbhpneaa.mergeMends
open Go.RowKit

set_option maxRecDepth 100000 in
set_option maxHeartbeats 2000000 in
theorem walk (ao : Option Addr) (la : List Cx) (ac : Nat) (bo : Option Addr) (lb : List Cx) (bc : Nat) (w : World)
    (sa : XSees w ao la) (ha : la.length ≤ 100000 ∧ ∀ c ∈ la, wtX c ≤ 562949953421312) (sb : XSees w bo lb) (hb : lb.length ≤ 100000 ∧ ∀ c ∈ lb, wtX c ≤ 562949953421312) :
    Calls Try.prog 6 #[.slice ao la.length ac, .slice bo lb.length bc] w fun e w' => e = .returned (.bool true) ∧ Below w.heap.size w w' := by
  have LV : Hid (∀ w : World, Calls Try.prog 10 #[] w fun e w' => e = .returned (.bool true) ∧ Below w.heap.size w w') := lives10_any
  obtain ⟨i1, hi1, hy0, hy1, hy2⟩ := infoX infoCx
  have hB2 : Below w.heap.size w (w.alloc (.cells #[.slice ao la.length ac, .slice bo lb.length bc] 25)) := (Below.refl _ _).alloc (Nat.le_refl _) _
  have FW : Hid (Calls Try.prog 9 #[.slice (some ⟨w.heap.size, 0, none⟩) 2 2] (w.alloc (.cells #[.slice ao la.length ac, .slice bo lb.length bc] 25)) fun e w' => (∃ b, e = .returned (.bool b)) ∧ Below (w.alloc (.cells #[.slice ao la.length ac, .slice bo lb.length bc] 25)).heap.size (w.alloc (.cells #[.slice ao la.length ac, .slice bo lb.length bc] 25)) w') :=
    (few_any (some ⟨w.heap.size, 0, none⟩) [⟨ao, ac, la⟩, ⟨bo, bc, lb⟩] 2 _ (lsees2 w ⟨ao, ac, la⟩ ⟨bo, bc, lb⟩) (fun v hv => by
      simp only [List.mem_cons, List.not_mem_nil, or_false] at hv
      rcases hv with rfl | rfl
      · exact sa.below hB2 (Nat.le_refl _)
      · exact sb.below hB2 (Nat.le_refl _)) (by simp) (fun v hv => by
      simp only [List.mem_cons, List.not_mem_nil, or_false] at hv
      rcases hv with rfl | rfl
      · exact ⟨by show la.length ≤ _; omega, ha.2⟩
      · exact ⟨by show lb.length ≤ _; omega, hb.2⟩)).mono fun e w' ⟨⟨b, h1, _⟩, h2⟩ => ⟨⟨b, h1⟩, h2⟩
  have hB2' : Hid (Below w.heap.size w (w.alloc (.cells #[.slice ao la.length ac, .slice bo lb.length bc] 25))) := hB2
  have hlaz : (la.length : Int) ≤ 100000 := by omega
  have hlbz : (lb.length : Int) ≤ 100000 := by omega
  obtain ⟨hla, hwa⟩ := ha
  obtain ⟨hlb, hwb⟩ := hb
  clear hB2
  go_enter Try.func6, Try.ntmps6
  go_wp2_with fail
  refine FW.out.mono ?_
  clear FW
  rintro e w3 ⟨⟨b, rfl⟩, hb3⟩
  have hb3' : Below w.heap.size w w3 := hB2'.out.trans (hb3.mono hB2'.out.size)
  clear hb3 hB2'
  cases b with
  | false =>
    clear sa sb hwa hwb
    go_wp2_with fail
    refine (LV.out _).mono ?_
    rintro e w4 ⟨rfl, hb4⟩
    go_wp2_with fail
    go_ret
    exact ⟨rfl, hb3'.trans (hb4.mono hb3'.size)⟩
  | true =>
    have sa3 := sa.below hb3' (Nat.le_refl _)
    have sb3 := sb.below hb3' (Nat.le_refl _)
    have HG : Hid (Gv w3 w3 (.slice none 0 0) []) := ⟨World.ownsRow_nil _ _ _ _, Below.refl _ _⟩
    clear sa sb
    go_wp2_with fail
    go_loopw [5, 20] (fun sO sI wr => ∃ i : Nat, i ≤ la.length ∧ sI = .int .i64 i ∧ Gv w3 wr sO (goods (la.take i))) (fun _ sI _ => la.length - (intOf sI).toNat)
    case atStart => exact ⟨0, by omega, by go_num, HG.out⟩
    case round =>
        clear HG
        obtain ⟨i, hi, rfl, hG⟩ := hrel
        rcases Nat.lt_or_ge i la.length with hlt | hge
        · obtain ⟨c, hc⟩ : ∃ c, la[i]? = some c := ⟨_, List.getElem?_eq_getElem hlt⟩
          obtain ⟨b, off, rfl, h1⟩ := (sa3.below hG.bel (Nat.le_refl _)) i c hc
          have hiz : (i : Int) < (la.length : Int) := by omega
          have htk := takeX_succ hc
          have hpl : (goods (la.take i)).length ≤ i := by have := List.length_filter_le goodC (la.take i); unfold goods; simp at this; omega
          have hstp := goods_snoc (la.take i) c
          rw [← htk] at hstp
          have hcw := hwa c (List.mem_of_getElem? hc)
          have GD : Hid (∀ u, Calls Try.prog 21 #[c.val] u fun e w' => e = .returned (.bool (goodC c)) ∧ Below u.heap.size u w') := fun u => by
            unfold wtX at hcw
            exact goodX_any c u (by unfold maxLen; omega) (by unfold maxLen; omega) (by unfold maxLen; omega) (by unfold maxLen; omega)
          generalize hgc : goodC c = gb at *
          obtain ⟨⟨ca, cp, cr, cc⟩, ⟨ct, cd, cl, ck, cn, cs⟩⟩ := c
          have k0 := h1.c0
          have k1 := h1.c1
          have k2 := h1.c2
          have k3 := h1.c3
          have k4 := h1.c4
          have k5 := h1.c5
          have k6 := h1.c6
          have k7 := h1.c7
          have k8 := h1.c8
          have k9 := h1.c9
          simp only at k0 k1 k2 k3 k4 k5 k6 k7 k8 k9
          obtain ⟨va, vc, hv⟩ := ownsM_shape hG.row
          subst hv
          have bc0 := Blk.new wr (xs10 ⟨⟨ca, cp, cr, cc⟩, ⟨ct, cd, cl, ck, cn, cs⟩⟩) 39
          have HGc : Hid (Gv w3 (wr.alloc (.cells #[.string ca, .string cp, .int .i64 cr, .string cc, .int .i64 ct, .bool cd, .int .i64 cl, .int .i64 ck, .int .i64 cn, .string cs] 39)) (.slice va (goods (la.take i)).length vc) (goods (la.take i))) := hG.more ((Below.refl _ _).alloc (Nat.le_refl _) _)
          simp only [Cx.val, Cx.a] at GD
          clear h1 hc hG htk hgc hcw
          go_wp2_with fail
          refine (GD.out _).mono ?_
          clear GD k0 k1 k2 k3 k4 k5 k6 k7 k8 k9
          rintro e u1 ⟨rfl, hu1⟩
          have HG1 : Hid (Gv w3 u1 (.slice va (goods (la.take i)).length vc) (goods (la.take i))) := HGc.out.more hu1
          have bc1 : Blk u1 wr.heap.size [.string ca, .string cp, .int .i64 cr, .string cc, .int .i64 ct, .bool cd, .int .i64 cl, .int .i64 ck, .int .i64 cn, .string cs] 39 := bc0.carry (hu1.block _ bc0.lt)
          clear bc0 HGc hu1
          cases gb with
          | true =>
              have HST : Hid (goods (la.take (i + 1)) = goods (la.take i) ++ [⟨⟨ca, cp, cr, cc⟩, ⟨ct, cd, cl, ck, cn, cs⟩⟩]) := hstp
              have hsr := src_one_cx u1 ⟨⟨ca, cp, cr, cc⟩, ⟨ct, cd, cl, ck, cn, cs⟩⟩
              simp only [Cx.a] at hsr
              have k0 := bc1.cell 0 rfl
              have k1 := bc1.cell 1 rfl
              have k2 := bc1.cell 2 rfl
              have k3 := bc1.cell 3 rfl
              have k4 := bc1.cell 4 rfl
              have k5 := bc1.cell 5 rfl
              have k6 := bc1.cell 6 rfl
              have k7 := bc1.cell 7 rfl
              have k8 := bc1.cell 8 rfl
              have k9 := bc1.cell 9 rfl
              clear hstp bc1
              go_wp2_with (at_builtin; go_must (refine wpList_append_grew _ rfl _ _ 25 25 rfl w3.heap.size 39 i1 _ 10 112 Try.underlying25 hi1 hy0 hy1 hy2 rfl _ (goods (la.take i)).length _ rfl (World.ownsRow.alloc HG1.out.row _) _ 1 (([⟨⟨ca, cp, cr, cc⟩, ⟨ct, cd, cl, ck, cn, cs⟩⟩] : List Cx).flatMap xs10) rfl hsr (by unfold maxLen; omega) (by omega) (by have := HG1.out.bel.size; simp at *; omega) ?_; intro v5 w5 ho5 hg5))
              have hG5 := HG1.out.add ho5 hg5
              rw [← HST.out] at hG5
              have HB5 : Hid (Gv w3 w5 v5 (goods (la.take (i + 1)))) := hG5
              clear ho5 hg5 hG5
              go_wp2_with fail
              go_roundw
              case rel => exact ⟨i + 1, by omega, by go_num, HB5.out⟩
              case measure => simp [intOf]; omega
          | false =>
              have HST : Hid (goods (la.take (i + 1)) = goods (la.take i)) := by show _ = _; rw [hstp]; simp
              clear hstp bc1
              go_wp2_with fail
              go_roundw
              case rel => exact ⟨i + 1, by omega, by go_num, by rw [HST.out]; exact HG1.out⟩
              case measure => simp [intOf]; omega
        · obtain rfl : i = la.length := by omega
          rw [List.take_of_length_le (Nat.le_refl _)] at hG
          have hge' : ¬ (la.length : Int) < (la.length : Int) := by omega
          obtain ⟨xa', xc', hv⟩ := ownsM_shape hG.row
          subst hv
          have sx4 := (owns_see hG.row).1
          have sb4 := sb3.below hG.bel (Nat.le_refl _)
          have B4 := hb3'.trans (hG.bel.mono hb3'.size)
          have HG2 : Hid (Gv wr wr (.slice none 0 0) []) := ⟨World.ownsRow_nil _ _ _ _, Below.refl _ _⟩
          clear hG sa3 sb3 hwa hb3'
          generalize wr = w4 at *
          go_wp2_with fail
          go_loopw [6, 33] (fun sO sI wr => ∃ i : Nat, i ≤ lb.length ∧ sI = .int .i64 i ∧ Gv w4 wr sO (goods (lb.take i))) (fun _ sI _ => lb.length - (intOf sI).toNat)
          case atStart => exact ⟨0, by omega, by go_num, HG2.out⟩
          case round =>
              clear HG2
              obtain ⟨i, hi, rfl, hG⟩ := hrel
              rcases Nat.lt_or_ge i lb.length with hlt | hge
              · obtain ⟨c, hc⟩ : ∃ c, lb[i]? = some c := ⟨_, List.getElem?_eq_getElem hlt⟩
                obtain ⟨b, off, rfl, h1⟩ := (sb4.below hG.bel (Nat.le_refl _)) i c hc
                have hiz : (i : Int) < (lb.length : Int) := by omega
                have htk := takeX_succ hc
                have hpl : (goods (lb.take i)).length ≤ i := by have := List.length_filter_le goodC (lb.take i); unfold goods; simp at this; omega
                have hstp := goods_snoc (lb.take i) c
                rw [← htk] at hstp
                have hcw := hwb c (List.mem_of_getElem? hc)
                have GD : Hid (∀ u, Calls Try.prog 21 #[c.val] u fun e w' => e = .returned (.bool (goodC c)) ∧ Below u.heap.size u w') := fun u => by
                  unfold wtX at hcw
                  exact goodX_any c u (by unfold maxLen; omega) (by unfold maxLen; omega) (by unfold maxLen; omega) (by unfold maxLen; omega)
                generalize hgc : goodC c = gb at *
                obtain ⟨⟨ca, cp, cr, cc⟩, ⟨ct, cd, cl, ck, cn, cs⟩⟩ := c
                have k0 := h1.c0
                have k1 := h1.c1
                have k2 := h1.c2
                have k3 := h1.c3
                have k4 := h1.c4
                have k5 := h1.c5
                have k6 := h1.c6
                have k7 := h1.c7
                have k8 := h1.c8
                have k9 := h1.c9
                simp only at k0 k1 k2 k3 k4 k5 k6 k7 k8 k9
                obtain ⟨va, vc, hv⟩ := ownsM_shape hG.row
                subst hv
                have bc0 := Blk.new wr (xs10 ⟨⟨ca, cp, cr, cc⟩, ⟨ct, cd, cl, ck, cn, cs⟩⟩) 39
                have HGc : Hid (Gv w4 (wr.alloc (.cells #[.string ca, .string cp, .int .i64 cr, .string cc, .int .i64 ct, .bool cd, .int .i64 cl, .int .i64 ck, .int .i64 cn, .string cs] 39)) (.slice va (goods (lb.take i)).length vc) (goods (lb.take i))) := hG.more ((Below.refl _ _).alloc (Nat.le_refl _) _)
                simp only [Cx.val, Cx.a] at GD
                clear h1 hc hG htk hgc hcw
                go_wp2_with fail
                refine (GD.out _).mono ?_
                clear GD k0 k1 k2 k3 k4 k5 k6 k7 k8 k9
                rintro e u1 ⟨rfl, hu1⟩
                have HG1 : Hid (Gv w4 u1 (.slice va (goods (lb.take i)).length vc) (goods (lb.take i))) := HGc.out.more hu1
                have bc1 : Blk u1 wr.heap.size [.string ca, .string cp, .int .i64 cr, .string cc, .int .i64 ct, .bool cd, .int .i64 cl, .int .i64 ck, .int .i64 cn, .string cs] 39 := bc0.carry (hu1.block _ bc0.lt)
                clear bc0 HGc hu1
                cases gb with
                | true =>
                    have HST : Hid (goods (lb.take (i + 1)) = goods (lb.take i) ++ [⟨⟨ca, cp, cr, cc⟩, ⟨ct, cd, cl, ck, cn, cs⟩⟩]) := hstp
                    have hsr := src_one_cx u1 ⟨⟨ca, cp, cr, cc⟩, ⟨ct, cd, cl, ck, cn, cs⟩⟩
                    simp only [Cx.a] at hsr
                    have k0 := bc1.cell 0 rfl
                    have k1 := bc1.cell 1 rfl
                    have k2 := bc1.cell 2 rfl
                    have k3 := bc1.cell 3 rfl
                    have k4 := bc1.cell 4 rfl
                    have k5 := bc1.cell 5 rfl
                    have k6 := bc1.cell 6 rfl
                    have k7 := bc1.cell 7 rfl
                    have k8 := bc1.cell 8 rfl
                    have k9 := bc1.cell 9 rfl
                    clear hstp bc1
                    go_wp2_with (at_builtin; go_must (refine wpList_append_grew _ rfl _ _ 25 25 rfl w4.heap.size 39 i1 _ 10 112 Try.underlying25 hi1 hy0 hy1 hy2 rfl _ (goods (lb.take i)).length _ rfl (World.ownsRow.alloc HG1.out.row _) _ 1 (([⟨⟨ca, cp, cr, cc⟩, ⟨ct, cd, cl, ck, cn, cs⟩⟩] : List Cx).flatMap xs10) rfl hsr (by unfold maxLen; omega) (by omega) (by have := HG1.out.bel.size; simp at *; omega) ?_; intro v5 w5 ho5 hg5))
                    have hG5 := HG1.out.add ho5 hg5
                    rw [← HST.out] at hG5
                    have HB5 : Hid (Gv w4 w5 v5 (goods (lb.take (i + 1)))) := hG5
                    clear ho5 hg5 hG5
                    go_wp2_with fail
                    go_roundw
                    case rel => exact ⟨i + 1, by omega, by go_num, HB5.out⟩
                    case measure => simp [intOf]; omega
                | false =>
                    have HST : Hid (goods (lb.take (i + 1)) = goods (lb.take i)) := by show _ = _; rw [hstp]; simp
                    clear hstp bc1
                    go_wp2_with fail
                    go_roundw
                    case rel => exact ⟨i + 1, by omega, by go_num, by rw [HST.out]; exact HG1.out⟩
                    case measure => simp [intOf]; omega
              · obtain rfl : i = lb.length := by omega
                rw [List.take_of_length_le (Nat.le_refl _)] at hG
                have hge' : ¬ (lb.length : Int) < (lb.length : Int) := by omega
                obtain ⟨ya', yc', hv⟩ := ownsM_shape hG.row
                subst hv
                have sy5 := (owns_see hG.row).1
                have sx5 := sx4.below hG.bel (Nat.le_refl _)
                have B5 := B4.trans (hG.bel.mono B4.size)
                clear hG sx4 sb4 hwb B4
                generalize wr = w5 at *
                have gX := goods_all la
                have gY := goods_all lb
                have lX : (goods la).length ≤ 100000 := Nat.le_trans (List.length_filter_le _ _) hla
                have lY : (goods lb).length ≤ 100000 := Nat.le_trans (List.length_filter_le _ _) hlb
                generalize goods la = X at *
                generalize goods lb = Y at *
                have nX := nrm_len X
                have nY := nrm_len Y
                have rX := nrm_rising X
                have rY := nrm_rising Y
                have PB : Hid (nrm (nrm Y ++ lck (nrm Y) (nrm X)) = nrm (nrm X ++ nrm Y)) := lck_mends rX rY (nrm_goods gX) (nrm_goods gY)
                have PS : Hid (nrm (lck (nrm Y) (nrm X)) = lck (nrm Y) (nrm X)) := nrm_of_rising (lck_rising rX)
                have P2 : Hid (lck (nrm (nrm (nrm X ++ nrm Y))) (nrm X) = []) := by show _ = _; rw [nrm_nrm]; exact lck_whole fun c hc => by simp [hc]
                have P3 : Hid (lck (nrm (nrm (nrm X ++ nrm Y))) (nrm Y) = []) := by show _ = _; rw [nrm_nrm]; exact lck_whole fun c hc => by simp [hc]
                have P4 : Hid ((lck (nrm Y) (nrm X) = [] ∧ lck (nrm X) (nrm Y) = []) ↔ nrm X = nrm Y) := lck_both rX rY (nrm_goods gX) (nrm_goods gY)
                have lS := lck_len (nrm Y) (nrm X)
                have lBO := nrm_len (nrm X ++ nrm Y)
                rw [List.length_append] at lBO
                clear gX gY rX rY hla hlb hlaz hlbz
                have A2 : Hid (∀ (u : World) (p q : Option Addr) (pc qc : Nat) (P Q : List Cx), XSees u p P → XSees u q Q → P.length ≤ 100000 → Q.length ≤ 100000 → Calls Try.prog 15 #[.slice (some ⟨u.heap.size, 0, none⟩) 2 2] (u.alloc (.cells #[.slice p P.length pc, .slice q Q.length qc] 25)) fun e w' => ∃ v, e = .returned v ∧ w'.ownsRow u.heap.size 39 10 v (nrm (nrm P ++ nrm Q)).length ((nrm (nrm P ++ nrm Q)).flatMap xs10) ∧ Below u.heap.size u w') := fun u p q pc qc P Q hp hq lp lq => by
                  have hst : Below u.heap.size u (u.alloc (.cells #[.slice p P.length pc, .slice q Q.length qc] 25)) := (Below.refl _ _).alloc (Nat.le_refl _) _
                  have n1 := nrm_len P
                  have n2 := nrm_len Q
                  have h := all_anyM (some ⟨u.heap.size, 0, none⟩) [⟨p, pc, P⟩, ⟨q, qc, Q⟩] 2 (u.alloc (.cells #[.slice p P.length pc, .slice q Q.length qc] 25)) (lsees2 u ⟨p, pc, P⟩ ⟨q, qc, Q⟩) (fun v hv => by
                    simp only [List.mem_cons, List.not_mem_nil, or_false] at hv
                    rcases hv with rfl | rfl
                    · exact hp.below hst (Nat.le_refl _)
                    · exact hq.below hst (Nat.le_refl _)) (by simp) (fun v hv => by
                    simp only [List.mem_cons, List.not_mem_nil, or_false] at hv
                    rcases hv with rfl | rfl
                    · show P.length ≤ 1000000; omega
                    · show Q.length ≤ 1000000; omega) (by simp; omega)
                  simp only [List.map_cons, List.map_nil, List.flatten_cons, List.flatten_nil, List.append_nil] at h
                  exact h.mono fun e w' ⟨v, h1, h2, h3⟩ => ⟨v, h1, ownsM_mono h2 hst.size, hst.trans (h3.mono hst.size)⟩
                have hBOs : ∀ (P Q : List Cx), True := fun _ _ => trivial
                clear hBOs
                go_wp2_with fail
                refine (A2.out w5 xa' ya' xc' yc' X Y sx5 sy5 lX lY).mono ?_
                rintro e w6 ⟨v6, rfl, ho6, b6⟩
                obtain ⟨a6, c6, rfl⟩ := ownsM_shape ho6
                have sb6 := (owns_see ho6).1
                have sx6 := sx5.below b6 (Nat.le_refl _)
                have sy6 := sy5.below b6 (Nat.le_refl _)
                have B6 := B5.trans (b6.mono B5.size)
                clear ho6 b6 sx5 sy5 B5
                generalize hBO : nrm (nrm X ++ nrm Y) = BO at *
                generalize hSS : lck (nrm Y) (nrm X) = S at *
                have hx1 : X.length ≤ 1000000 := by omega
                have hy1' : Y.length ≤ 1000000 := by omega
                have hb1 : BO.length ≤ 1000000 := by omega
                go_wp2_with fail
                have P1 := sub_any xa' ya' X Y xc' yc' w6 sx6 sy6 hx1 hy1'
                rw [hSS] at P1
                refine P1.mono ?_
                clear P1
                rintro e w7 ⟨v7, rfl, ho7, b7⟩
                obtain ⟨a7, c7, rfl⟩ := ownsM_shape ho7
                have ss7 := (owns_see ho7).1
                have sx7 := sx6.below b7 (Nat.le_refl _)
                have sy7 := sy6.below b7 (Nat.le_refl _)
                have sb7 := sb6.below b7 (Nat.le_refl _)
                have B7 := B6.trans (b7.mono B6.size)
                clear ho7 b7 sx6 sy6 sb6 B6
                have AL2 := A2.out w7 ya' a7 yc' c7 Y S sy7 ss7 lY (by omega)
                rw [PS.out, PB.out] at AL2
                have AL2' : Hid _ := AL2
                clear AL2 A2 PS PB
                go_wp2_with fail
                refine (show Calls _ _ _ _ _ from AL2'.out).mono ?_
                clear AL2'
                rintro e w8 ⟨v8, rfl, ho8, b8⟩
                obtain ⟨a8, c8, rfl⟩ := ownsM_shape ho8
                have sc8 := (owns_see ho8).1
                have sx8 := sx7.below b8 (Nat.le_refl _)
                have sy8 := sy7.below b8 (Nat.le_refl _)
                have sb8 := sb7.below b8 (Nat.le_refl _)
                have B8 := B7.trans (b8.mono B7.size)
                clear ho8 b8 sx7 sy7 sb7 B7 ss7
                go_wp2_with fail
                refine (likeX_same a8 a6 BO c8 c6 w8 sc8 sb8 hb1).mono ?_
                rintro e w9 ⟨rfl, b9⟩
                have sx9 := sx8.below b9 (Nat.le_refl _)
                have sy9 := sy8.below b9 (Nat.le_refl _)
                have sb9 := sb8.below b9 (Nat.le_refl _)
                have B9 := B8.trans (b9.mono B8.size)
                clear b9 sx8 sy8 sb8 B8 sc8
                go_wp2_with fail
                have O1 := over_any xa' a6 X BO xc' c6 w9 sx9 sb9 hx1 hb1
                rw [P2.out] at O1
                refine O1.mono ?_
                clear O1
                rintro e w10 ⟨rfl, b10⟩
                have sx10 := sx9.below b10 (Nat.le_refl _)
                have sy10 := sy9.below b10 (Nat.le_refl _)
                have sb10 := sb9.below b10 (Nat.le_refl _)
                have B10 := B9.trans (b10.mono B9.size)
                clear b10 sx9 sy9 sb9 B9
                go_wp2_with fail
                have O2 := over_any ya' a6 Y BO yc' c6 w10 sy10 sb10 hy1' hb1
                rw [P3.out] at O2
                refine O2.mono ?_
                clear O2
                rintro e w11 ⟨rfl, b11⟩
                have sx11 := sx10.below b11 (Nat.le_refl _)
                have sy11 := sy10.below b11 (Nat.le_refl _)
                have B11 := B10.trans (b11.mono B10.size)
                clear b11 sx10 sy10 sb10 B10 P2 P3
                go_wp2_with fail
                have O3 := over_any xa' ya' X Y xc' yc' w11 sx11 sy11 hx1 hy1'
                rw [hSS] at O3
                refine O3.mono ?_
                clear O3
                rintro e w12 ⟨rfl, b12⟩
                have sx12 := sx11.below b12 (Nat.le_refl _)
                have sy12 := sy11.below b12 (Nat.le_refl _)
                have B12 := B11.trans (b12.mono B11.size)
                clear b12 sx11 sy11 B11
                have hSe : S.isEmpty = true ↔ S = [] := List.isEmpty_iff
                generalize hS1 : S.isEmpty = e1 at *
                cases e1 with
                | false =>
                  have HPV : Hid (false = true ↔ nrm X = nrm Y) := by
                    show _ ↔ _
                    rw [← P4.out]
                    constructor
                    · intro h; cases h
                    · rintro ⟨h, _⟩; exact hSe.2 h
                  clear P4 hSe hS1 hSS hBO
                  go_wp2_with fail
                  refine (refNorm_any xa' X xc' w12 sx12 hx1).mono ?_
                  rintro e w14 ⟨v14, rfl, ho14, b14⟩
                  obtain ⟨a14, c14, rfl⟩ := ownsM_shape ho14
                  have sn14 := (owns_see ho14).1
                  have sy14 := sy12.below b14 (Nat.le_refl _)
                  have B14 := B12.trans (b14.mono B12.size)
                  clear ho14 b14
                  go_wp2_with fail
                  refine (refNorm_any ya' Y yc' w14 sy14 hy1').mono ?_
                  rintro e w15 ⟨v15, rfl, ho15, b15⟩
                  obtain ⟨a15, c15, rfl⟩ := ownsM_shape ho15
                  have sm15 := (owns_see ho15).1
                  have sn15 := sn14.below b15 (Nat.le_refl _)
                  have B15 := B14.trans (b15.mono B14.size)
                  clear ho15 b15 sy14 B14 sn14
                  go_wp2_with fail
                  refine (likeX_any a14 a15 (nrm X) (nrm Y) c14 c15 w15 sn15 sm15 (by omega)).mono ?_
                  rintro e w16 ⟨⟨b, rfl, hbb⟩, b16⟩
                  have B16 := B15.trans (b16.mono B15.size)
                  have hbv : b = false := by
                    rw [Bool.eq_iff_iff, hbb]
                    exact HPV.out.symm
                  subst hbv
                  clear sn15 sm15 b16 B15 HPV hbb
                  go_wp2_with fail
                  refine (LV.out _).mono ?_
                  rintro e w17 ⟨rfl, b17⟩
                  go_wp2_with fail
                  go_ret
                  exact ⟨rfl, B16.trans (b17.mono B16.size)⟩
                | true =>
                  have hS0 := hSe.1 rfl
                  go_wp2_with fail
                  refine (over_any ya' xa' Y X yc' xc' w12 sy12 sx12 hy1' hx1).mono ?_
                  rintro e w13 ⟨rfl, b13⟩
                  have sx13 := sx12.below b13 (Nat.le_refl _)
                  have sy13 := sy12.below b13 (Nat.le_refl _)
                  have B13 := B12.trans (b13.mono B12.size)
                  have hTe : (lck (nrm X) (nrm Y)).isEmpty = true ↔ lck (nrm X) (nrm Y) = [] := List.isEmpty_iff
                  generalize (lck (nrm X) (nrm Y)).isEmpty = e2 at *
                  have HPV : Hid (e2 = true ↔ nrm X = nrm Y) := by
                    show _ ↔ _
                    rw [← P4.out, hTe]
                    exact ⟨fun h => ⟨hS0, h⟩, fun h => h.2⟩
                  clear P4 hSe hS1 hSS hBO b13 sx12 sy12 B12 hTe hS0
                  go_wp2_with fail
                  refine (refNorm_any xa' X xc' w13 sx13 hx1).mono ?_
                  rintro e w14 ⟨v14, rfl, ho14, b14⟩
                  obtain ⟨a14, c14, rfl⟩ := ownsM_shape ho14
                  have sn14 := (owns_see ho14).1
                  have sy14 := sy13.below b14 (Nat.le_refl _)
                  have B14 := B13.trans (b14.mono B13.size)
                  clear ho14 b14
                  go_wp2_with fail
                  refine (refNorm_any ya' Y yc' w14 sy14 hy1').mono ?_
                  rintro e w15 ⟨v15, rfl, ho15, b15⟩
                  obtain ⟨a15, c15, rfl⟩ := ownsM_shape ho15
                  have sm15 := (owns_see ho15).1
                  have sn15 := sn14.below b15 (Nat.le_refl _)
                  have B15 := B14.trans (b15.mono B14.size)
                  clear ho15 b15 sy14 B14 sn14
                  go_wp2_with fail
                  refine (likeX_any a14 a15 (nrm X) (nrm Y) c14 c15 w15 sn15 sm15 (by omega)).mono ?_
                  rintro e w16 ⟨⟨b, rfl, hbb⟩, b16⟩
                  have B16 := B15.trans (b16.mono B15.size)
                  have hbv : b = e2 := by
                    rw [Bool.eq_iff_iff, hbb]
                    exact HPV.out.symm
                  subst hbv
                  clear sn15 sm15 b16 B15 HPV hbb
                  go_wp2_with fail
                  refine (LV.out _).mono ?_
                  rintro e w17 ⟨rfl, b17⟩
                  go_wp2_with fail
                  go_ret
                  exact ⟨rfl, B16.trans (b17.mono B16.size)⟩
end Go.Proofs.Ytdpglmgnbhpneaa.mergeMends
