/-
  THE WALK of the law MergeWhole: all lists together are the Norm of all their cells, one behind the other.
-/
import Derived.Test.YtdpglmgnbhpneaaMrgPile
import Derived.Test.YtdpglmgnbhpneaaMrgLives
namespace Go.Proofs.Ytdpglmgnbhpneaa.mergeWhole
open Go.RowKit

set_option maxRecDepth 100000 in
set_option maxHeartbeats 2000000 in
theorem walk (lo : Option Addr) (vs : List Lv) (lcap : Nat) (w : World) (hs : LSees w lo vs) (hin : ∀ v ∈ vs, XSees w v.ao v.l) (hsm : SmallLs vs) :
    Calls Try.prog 5 #[.slice lo vs.length lcap] w fun e w' => e = .returned (.bool true) ∧ Below w.heap.size w w' := by
  have LV : Hid (∀ w : World, Calls Try.prog 10 #[] w fun e w' => e = .returned (.bool true) ∧ Below w.heap.size w w') := lives10_any
  obtain ⟨i1, hi1, hy0, hy1, hy2⟩ := infoX infoCx
  obtain ⟨i2, hi2, hz0, hz1, hz2⟩ := infoX infoSl
  have FW : Hid (Calls Try.prog 9 #[.slice lo vs.length lcap] w fun e w' => (∃ b, e = .returned (.bool b) ∧ (b = true → vs.length ≤ 400)) ∧ Below w.heap.size w w') :=
    few_any lo vs lcap w hs hin hsm.n (fun v hv => ⟨by have := (hsm.each v hv).1; omega, (hsm.each v hv).2⟩)
  have HSM : Hid (SmallLs vs) := hsm
  clear hsm
  go_enter Try.func5, Try.ntmps5
  go_wp2_with fail
  refine FW.out.mono ?_
  clear FW
  rintro e w3 ⟨⟨b, rfl, h400⟩, hb3⟩
  cases b with
  | false =>
    clear hs hin h400
    go_wp2_with fail
    refine (LV.out _).mono ?_
    rintro e w4 ⟨rfl, hb4⟩
    go_wp2_with fail
    go_ret
    exact ⟨rfl, hb3.trans (hb4.mono hb3.size)⟩
  | true =>
    have h4 : vs.length ≤ 400 := h400 rfl
    have h4z : (vs.length : Int) ≤ 400 := by omega
    have HS3 : Hid (LSees w3 lo vs) := hs.below hb3 (Nat.le_refl _)
    have HI3 : Hid (∀ v ∈ vs, XSees w3 v.ao v.l) := fun v hv => (hin v hv).below hb3 (Nat.le_refl _)
    have HG : Hid (Gv w3 w3 (.slice none 0 0) (gl (vs.take 0))) := ⟨World.ownsRow_nil _ _ _ _, Below.refl _ _⟩
    clear hs hin h400
    go_wp2_with fail
    go_loopw [3, 20] (fun s3 s20 wr => ∃ j : Nat, j ≤ vs.length ∧ s20 = .int .i64 j ∧ Gv w3 wr s3 (gl (vs.take j))) (fun _ s20 _ => vs.length - (intOf s20).toNat)
    case atStart => exact ⟨0, by omega, by go_num, HG.out⟩
    case round =>
      clear HG
      obtain ⟨j, hj, rfl, hJ⟩ := hrel
      rcases Nat.lt_or_ge j vs.length with hjl | hjg
      · obtain ⟨x, hx⟩ : ∃ x, vs[j]? = some x := ⟨_, List.getElem?_eq_getElem hjl⟩
        obtain ⟨lb, lof, rfl, hxc⟩ := (HS3.out.below hJ.bel (Nat.le_refl _)) j x hx
        have hxm := List.mem_of_getElem? hx
        have hjz : (j : Int) < (vs.length : Int) := by omega
        have sx := HI3.out x hxm
        obtain ⟨hx1, hwx⟩ := HSM.out.each x hxm
        have HTK : Hid (gl (vs.take (j + 1)) = gl (vs.take j) ++ goods x.l) := gl_succ hx
        have hpre : (gl (vs.take j)).length ≤ 110000 := by have := gl_take vs j; have := gl_len vs; have := HSM.out.tot; omega
        obtain ⟨xa, xc, xl⟩ := x
        have HTK2 : Hid (∀ pre, pre = gl (vs.take j) → gl (vs.take (j + 1)) = pre ++ goods xl) := fun pre e => by rw [e]; exact HTK.out
        obtain ⟨pre, hpe⟩ : ∃ pre, pre = gl (vs.take j) := ⟨_, rfl⟩
        have HT : Hid (gl (vs.take (j + 1)) = pre ++ goods xl) := HTK2.out pre hpe
        rw [← hpe] at hpre hJ
        clear HTK HTK2 hpe hx hxm
        simp only at hx1 hwx sx
        obtain ⟨pa, pc, hv⟩ := ownsM_shape hJ.row
        subst hv
        have HG : Hid (Gv w3 wr (.slice pa pre.length pc) (pre ++ goods (xl.take 0))) := by
          have e : pre ++ goods (xl.take 0) = pre := by simp [goods]
          rw [e]; exact hJ
        have hx1z : (xl.length : Int) ≤ 100000 := by omega
        simp only [Lv.s] at hxc
        clear hJ
        generalize wr = wo at *
        go_wp2_with fail
        clear hxc
        go_loopw [3, 26] (fun sO sI wr => ∃ i : Nat, i ≤ xl.length ∧ sI = .int .i64 i ∧ Gv w3 wr sO (pre ++ goods (xl.take i))) (fun _ sI _ => xl.length - (intOf sI).toNat)
        case atStart => exact ⟨0, by omega, by go_num, HG.out⟩
        case round =>
            clear HG
            obtain ⟨i, hi, rfl, hG⟩ := hrel
            rcases Nat.lt_or_ge i xl.length with hlt | hge
            · obtain ⟨c, hc⟩ : ∃ c, xl[i]? = some c := ⟨_, List.getElem?_eq_getElem hlt⟩
              obtain ⟨b, off, rfl, h1⟩ := (sx.below hG.bel (Nat.le_refl _)) i c hc
              have hiz : (i : Int) < (xl.length : Int) := by omega
              have htk := takeX_succ hc
              have hpl : (pre ++ goods (xl.take i)).length ≤ 210000 := by have := List.length_filter_le goodC (xl.take i); simp only [goods, List.length_append, List.length_take] at *; omega
              have hstp := goods_snoc (xl.take i) c
              rw [← htk] at hstp
              have hcw := hwx c (List.mem_of_getElem? hc)
              have GD : Hid (∀ u, Calls Try.prog 21 #[c.val] u fun e w' => e = .returned (.bool (goodC c)) ∧ Below u.heap.size u w') := fun u => by
                unfold wtX at hcw
                exact goodX_any c u (by unfold maxLen; omega) (by unfold maxLen; omega) (by unfold maxLen; omega) (by unfold maxLen; omega)
              generalize hgc : goodC c = gb at *
              obtain ⟨⟨ca, cp, cr, cc⟩, ⟨ct, cd, cl, ck, cn, cs⟩⟩ := c
              have k0 := h1.c0
              have k1 := h1.c1
              have k2 := h1.c2
              have k3 := h1.c3
              have k4 := h1.c4
              have k5 := h1.c5
              have k6 := h1.c6
              have k7 := h1.c7
              have k8 := h1.c8
              have k9 := h1.c9
              simp only at k0 k1 k2 k3 k4 k5 k6 k7 k8 k9
              obtain ⟨va, vc, hv⟩ := ownsM_shape hG.row
              subst hv
              have bc0 := Blk.new wr (xs10 ⟨⟨ca, cp, cr, cc⟩, ⟨ct, cd, cl, ck, cn, cs⟩⟩) 39
              have HGc : Hid (Gv w3 (wr.alloc (.cells #[.string ca, .string cp, .int .i64 cr, .string cc, .int .i64 ct, .bool cd, .int .i64 cl, .int .i64 ck, .int .i64 cn, .string cs] 39)) (.slice va (pre ++ goods (xl.take i)).length vc) (pre ++ goods (xl.take i))) := hG.more ((Below.refl _ _).alloc (Nat.le_refl _) _)
              simp only [Cx.val, Cx.a] at GD
              clear h1 hc hG htk hgc hcw
              have HSP : Hid _ := hstp
              clear hstp
              obtain ⟨Gi, hGi⟩ : ∃ Gi, Gi = (pre ++ goods (xl.take i)) := ⟨_, rfl⟩
              rw [← hGi] at HGc hpl
              have HGi : Hid (Gi = (pre ++ goods (xl.take i))) := hGi
              rw [← hGi]
              clear hGi
              go_wp2_with fail
              refine (GD.out _).mono ?_
              clear GD k0 k1 k2 k3 k4 k5 k6 k7 k8 k9
              rintro e u1 ⟨rfl, hu1⟩
              have HG1 : Hid (Gv w3 u1 (.slice va Gi.length vc) Gi) := HGc.out.more hu1
              have bc1 : Blk u1 wr.heap.size [.string ca, .string cp, .int .i64 cr, .string cc, .int .i64 ct, .bool cd, .int .i64 cl, .int .i64 ck, .int .i64 cn, .string cs] 39 := bc0.carry (hu1.block _ bc0.lt)
              clear bc0 HGc hu1
              cases gb with
              | true =>
                  have HST : Hid ((pre ++ goods (xl.take (i + 1))) = Gi ++ [⟨⟨ca, cp, cr, cc⟩, ⟨ct, cd, cl, ck, cn, cs⟩⟩]) := by
                    have e : goods (xl.take (i + 1)) = goods (xl.take i) ++ [⟨⟨ca, cp, cr, cc⟩, ⟨ct, cd, cl, ck, cn, cs⟩⟩] := HSP.out
                    show _ = _
                    rw [e, HGi.out]; simp
                  have hsr := src_one_cx u1 ⟨⟨ca, cp, cr, cc⟩, ⟨ct, cd, cl, ck, cn, cs⟩⟩
                  simp only [Cx.a] at hsr
                  have k0 := bc1.cell 0 rfl
                  have k1 := bc1.cell 1 rfl
                  have k2 := bc1.cell 2 rfl
                  have k3 := bc1.cell 3 rfl
                  have k4 := bc1.cell 4 rfl
                  have k5 := bc1.cell 5 rfl
                  have k6 := bc1.cell 6 rfl
                  have k7 := bc1.cell 7 rfl
                  have k8 := bc1.cell 8 rfl
                  have k9 := bc1.cell 9 rfl
                  clear bc1 HSP HGi
                  go_wp2_with (at_builtin; go_must (refine wpList_append_grew _ rfl _ _ 25 25 rfl w3.heap.size 39 i1 _ 10 112 Try.underlying25 hi1 hy0 hy1 hy2 rfl _ Gi.length _ rfl (World.ownsRow.alloc HG1.out.row _) _ 1 (([⟨⟨ca, cp, cr, cc⟩, ⟨ct, cd, cl, ck, cn, cs⟩⟩] : List Cx).flatMap xs10) rfl hsr (by unfold maxLen; omega) (by omega) (by have := HG1.out.bel.size; simp at *; omega) ?_; intro v5 w5 ho5 hg5))
                  have hG5 := HG1.out.add ho5 hg5
                  rw [← HST.out] at hG5
                  have HB5 : Hid (Gv w3 w5 v5 (pre ++ goods (xl.take (i + 1)))) := hG5
                  clear ho5 hg5 hG5 HST HG1
                  go_wp2_with fail
                  go_roundw
                  case rel => exact ⟨i + 1, by omega, by go_num, HB5.out⟩
                  case measure => simp [intOf]; omega
              | false =>
                  have HST : Hid (Gv w3 u1 (.slice va Gi.length vc) (pre ++ goods (xl.take (i + 1)))) := by
                    have e : goods (xl.take (i + 1)) = goods (xl.take i) := by have := HSP.out; rw [this]; simp
                    have := HG1.out
                    rw [e, ← HGi.out]
                    exact this
                  clear bc1 HSP HGi HG1
                  go_wp2_with fail
                  go_roundw
                  case rel => exact ⟨i + 1, by omega, by go_num, HST.out⟩
                  case measure => simp [intOf]; omega
            · obtain rfl : i = xl.length := by omega
              rw [List.take_of_length_le (Nat.le_refl _)] at hG
              have hge' : ¬ (xl.length : Int) < (xl.length : Int) := by omega
              rw [← HT.out] at hG
              have HJ : Hid _ := hG
              clear hG HT
              go_wp2_with fail
              go_roundw
              case rel => exact ⟨j + 1, by omega, by go_num, HJ.out⟩
              case measure => simp [intOf]; omega
      · obtain rfl : j = vs.length := by omega
        rw [List.take_of_length_le (Nat.le_refl _)] at hJ
        have hjg' : ¬ (vs.length : Int) < (vs.length : Int) := by omega
        obtain ⟨la, lc, hv⟩ := ownsM_shape hJ.row
        subst hv
        have sl4 := (owns_see hJ.row).1
        have hgn : (gl vs).length ≤ 110000 := by have := gl_len vs; have := HSM.out.tot; omega
        have HS4 : Hid (LSees wr lo vs) := HS3.out.below hJ.bel (Nat.le_refl _)
        have HI4 : Hid (∀ v ∈ vs, XSees wr v.ao v.l) := fun v hv => (HI3.out v hv).below hJ.bel (Nat.le_refl _)
        have B4 := hb3.trans (hJ.bel.mono hb3.size)
        clear hJ hb3 HS3 HI3
        generalize wr = w4 at *
        have HP : Hid (Pl w4 w4 none []) := Pl.start w4
        go_wp2_with fail
        go_loopw [8, 40] (fun s8 s40 wr => ∃ (j : Nat) (ss : List Lv) (ao : Option Addr) (cap : Nat), j ≤ vs.length ∧ s40 = .int .i64 j ∧ s8 = .slice ao ss.length cap ∧ ss.map Lv.l = (gls (vs.take j)).reverse ∧ Pl w4 wr ao ss) (fun _ s40 _ => vs.length - (intOf s40).toNat)
        case atStart => exact ⟨0, [], none, 0, by omega, by go_num, rfl, rfl, HP.out⟩
        case round =>
          clear HP
          obtain ⟨j, ss, ao, cap, hj, rfl, rfl, hm, hP⟩ := hrel
          rcases Nat.lt_or_ge j vs.length with hjl | hjg
          · obtain ⟨x, hx⟩ : ∃ x, vs[j]? = some x := ⟨_, List.getElem?_eq_getElem hjl⟩
            obtain ⟨lb, lof, rfl, hxc⟩ := (HS4.out.below hP.bel (Nat.le_refl _)) j x hx
            have hxm := List.mem_of_getElem? hx
            have hjz : (j : Int) < (vs.length : Int) := by omega
            have sx := (HI4.out x hxm).below hP.bel (Nat.le_refl _)
            obtain ⟨hx1, hwx⟩ := HSM.out.each x hxm
            have HMP : Hid ((goods x.l :: ss.map Lv.l) = (gls (vs.take (j + 1))).reverse) := by
              have e := gls_succ hx
              show _ = _
              rw [e, List.reverse_append, ← hm]; rfl
            have hsl : ss.length ≤ 400 := by
              have := congrArg List.length hm
              simp [gls] at this
              omega
            obtain ⟨xa, xc, xl⟩ := x
            have HPP : Hid (Pl w4 wr ao ss) := hP
            simp only at hx1 hwx sx
            have HG : Hid (Gv wr wr (.slice none 0 0) (goods (xl.take 0))) := ⟨World.ownsRow_nil _ _ _ _, Below.refl _ _⟩
            have hx1z : (xl.length : Int) ≤ 100000 := by omega
            simp only [Lv.s] at hxc
            clear hP hm hx hxm
            generalize wr = wo at *
            go_wp2_with fail
            clear hxc
            go_loopw [11, 46] (fun sO sI wr => ∃ i : Nat, i ≤ xl.length ∧ sI = .int .i64 i ∧ Gv wo wr sO (goods (xl.take i))) (fun _ sI _ => xl.length - (intOf sI).toNat)
            case atStart => exact ⟨0, by omega, by go_num, HG.out⟩
            case round =>
                clear HG
                obtain ⟨i, hi, rfl, hG⟩ := hrel
                rcases Nat.lt_or_ge i xl.length with hlt | hge
                · obtain ⟨c, hc⟩ : ∃ c, xl[i]? = some c := ⟨_, List.getElem?_eq_getElem hlt⟩
                  obtain ⟨b, off, rfl, h1⟩ := (sx.below hG.bel (Nat.le_refl _)) i c hc
                  have hiz : (i : Int) < (xl.length : Int) := by omega
                  have htk := takeX_succ hc
                  have hpl : (goods (xl.take i)).length ≤ 210000 := by have := List.length_filter_le goodC (xl.take i); simp only [goods, List.length_take] at *; omega
                  have hstp := goods_snoc (xl.take i) c
                  rw [← htk] at hstp
                  have hcw := hwx c (List.mem_of_getElem? hc)
                  have GD : Hid (∀ u, Calls Try.prog 21 #[c.val] u fun e w' => e = .returned (.bool (goodC c)) ∧ Below u.heap.size u w') := fun u => by
                    unfold wtX at hcw
                    exact goodX_any c u (by unfold maxLen; omega) (by unfold maxLen; omega) (by unfold maxLen; omega) (by unfold maxLen; omega)
                  generalize hgc : goodC c = gb at *
                  obtain ⟨⟨ca, cp, cr, cc⟩, ⟨ct, cd, cl, ck, cn, cs⟩⟩ := c
                  have k0 := h1.c0
                  have k1 := h1.c1
                  have k2 := h1.c2
                  have k3 := h1.c3
                  have k4 := h1.c4
                  have k5 := h1.c5
                  have k6 := h1.c6
                  have k7 := h1.c7
                  have k8 := h1.c8
                  have k9 := h1.c9
                  simp only at k0 k1 k2 k3 k4 k5 k6 k7 k8 k9
                  obtain ⟨va, vc, hv⟩ := ownsM_shape hG.row
                  subst hv
                  have bc0 := Blk.new wr (xs10 ⟨⟨ca, cp, cr, cc⟩, ⟨ct, cd, cl, ck, cn, cs⟩⟩) 39
                  have HGc : Hid (Gv wo (wr.alloc (.cells #[.string ca, .string cp, .int .i64 cr, .string cc, .int .i64 ct, .bool cd, .int .i64 cl, .int .i64 ck, .int .i64 cn, .string cs] 39)) (.slice va (goods (xl.take i)).length vc) (goods (xl.take i))) := hG.more ((Below.refl _ _).alloc (Nat.le_refl _) _)
                  simp only [Cx.val, Cx.a] at GD
                  clear h1 hc hG htk hgc hcw
                  have HSP : Hid _ := hstp
                  clear hstp
                  obtain ⟨Gi, hGi⟩ : ∃ Gi, Gi = (goods (xl.take i)) := ⟨_, rfl⟩
                  rw [← hGi] at HGc hpl
                  have HGi : Hid (Gi = (goods (xl.take i))) := hGi
                  rw [← hGi]
                  clear hGi
                  go_wp2_with fail
                  refine (GD.out _).mono ?_
                  clear GD k0 k1 k2 k3 k4 k5 k6 k7 k8 k9
                  rintro e u1 ⟨rfl, hu1⟩
                  have HG1 : Hid (Gv wo u1 (.slice va Gi.length vc) Gi) := HGc.out.more hu1
                  have bc1 : Blk u1 wr.heap.size [.string ca, .string cp, .int .i64 cr, .string cc, .int .i64 ct, .bool cd, .int .i64 cl, .int .i64 ck, .int .i64 cn, .string cs] 39 := bc0.carry (hu1.block _ bc0.lt)
                  clear bc0 HGc hu1
                  cases gb with
                  | true =>
                      have HST : Hid ((goods (xl.take (i + 1))) = Gi ++ [⟨⟨ca, cp, cr, cc⟩, ⟨ct, cd, cl, ck, cn, cs⟩⟩]) := by
                        have e : goods (xl.take (i + 1)) = goods (xl.take i) ++ [⟨⟨ca, cp, cr, cc⟩, ⟨ct, cd, cl, ck, cn, cs⟩⟩] := HSP.out
                        show _ = _
                        rw [e, HGi.out]
                      have hsr := src_one_cx u1 ⟨⟨ca, cp, cr, cc⟩, ⟨ct, cd, cl, ck, cn, cs⟩⟩
                      simp only [Cx.a] at hsr
                      have k0 := bc1.cell 0 rfl
                      have k1 := bc1.cell 1 rfl
                      have k2 := bc1.cell 2 rfl
                      have k3 := bc1.cell 3 rfl
                      have k4 := bc1.cell 4 rfl
                      have k5 := bc1.cell 5 rfl
                      have k6 := bc1.cell 6 rfl
                      have k7 := bc1.cell 7 rfl
                      have k8 := bc1.cell 8 rfl
                      have k9 := bc1.cell 9 rfl
                      clear bc1 HSP HGi
                      go_wp2_with (at_builtin; go_must (refine wpList_append_grew _ rfl _ _ 25 25 rfl wo.heap.size 39 i1 _ 10 112 Try.underlying25 hi1 hy0 hy1 hy2 rfl _ Gi.length _ rfl (World.ownsRow.alloc HG1.out.row _) _ 1 (([⟨⟨ca, cp, cr, cc⟩, ⟨ct, cd, cl, ck, cn, cs⟩⟩] : List Cx).flatMap xs10) rfl hsr (by unfold maxLen; omega) (by omega) (by have := HG1.out.bel.size; simp at *; omega) ?_; intro v5 w5 ho5 hg5))
                      have hG5 := HG1.out.add ho5 hg5
                      rw [← HST.out] at hG5
                      have HB5 : Hid (Gv wo w5 v5 (goods (xl.take (i + 1)))) := hG5
                      clear ho5 hg5 hG5 HST HG1
                      go_wp2_with fail
                      go_roundw
                      case rel => exact ⟨i + 1, by omega, by go_num, HB5.out⟩
                      case measure => simp [intOf]; omega
                  | false =>
                      have HST : Hid (Gv wo u1 (.slice va Gi.length vc) (goods (xl.take (i + 1)))) := by
                        have e : goods (xl.take (i + 1)) = goods (xl.take i) := by have := HSP.out; rw [this]; simp
                        have := HG1.out
                        rw [e, ← HGi.out]
                        exact this
                      clear bc1 HSP HGi HG1
                      go_wp2_with fail
                      go_roundw
                      case rel => exact ⟨i + 1, by omega, by go_num, HST.out⟩
                      case measure => simp [intOf]; omega
                · obtain rfl : i = xl.length := by omega
                  rw [List.take_of_length_le (Nat.le_refl _)] at hG
                  have hge' : ¬ (xl.length : Int) < (xl.length : Int) := by omega
                  obtain ⟨y, rfl, hyl, hyA⟩ := at_of_owns hG.row
                  have hP1 := HPP.out.more hG.bel
                  obtain ⟨ya, yc, yl⟩ := y
                  simp only at hyl
                  subst hyl
                  have HP1 : Hid (Pl w4 wr ao ss) := hP1
                  have OW : Hid ((wr.alloc (.cells #[.slice ya (goods xl).length yc] 25)).ownsRow wr.heap.size 25 1 (.slice (some ⟨wr.heap.size, 0, none⟩) 1 1) 1 [.slice ya (goods xl).length yc]) := World.ownsRow_lit wr #[.slice ya (goods xl).length yc] 1 (Nat.le_refl _) (by unfold maxLen; omega) rfl
                  have SR : Hid (Src Try.prog 1 22 (.slice ao ss.length cap) ss.length (ss.map Lv.s) (wr.alloc (.cells #[.slice ya (goods xl).length yc] 25))) := lsees_src (hP1.more ((Below.refl _ _).alloc (Nat.le_refl _) _)).see cap
                  have HYS : Hid (XSees wr ya (goods xl)) := hyA.1
                  clear hG hyA hP1
                  simp only [Lv.s]
                  go_wp2_with (at_builtin; go_must (refine wpList_append_grew _ rfl _ _ 22 22 rfl wr.heap.size 25 i2 _ 1 24 Try.underlying22 hi2 hz0 hz1 hz2 rfl _ 1 _ rfl OW.out _ ss.length (ss.map Lv.s) rfl SR.out (by unfold maxLen; omega) (by omega) (by simp) ?_; intro v5 w5 ho5 hg5))
                  obtain ⟨ao5, cap5, rfl, hP5⟩ := HP1.out.put (y := ⟨ya, yc, goods xl⟩) HYS.out ho5 hg5
                  have HP5 : Hid (Pl w4 w5 ao5 (⟨ya, yc, goods xl⟩ :: ss)) := hP5
                  clear ho5 hg5 hP5 OW SR HYS HP1
                  go_wp2_with fail
                  go_roundw
                  case rel => exact ⟨j + 1, ⟨ya, yc, goods xl⟩ :: ss, ao5, cap5, by omega, by go_num, rfl, HMP.out, HP5.out⟩
                  case measure => simp [intOf]; omega
          · obtain rfl : j = vs.length := by omega
            rw [List.take_of_length_le (Nat.le_refl _)] at hm
            have hjg2 : ¬ (vs.length : Int) < (vs.length : Int) := by omega
            have AL := pile_all (cap := cap) hP hm h4 HSM.out
            have sl5 := sl4.below hP.bel (Nat.le_refl _)
            have B5 := B4.trans (hP.bel.mono B4.size)
            have hnn := nrm_len (gl vs)
            have ALh : Hid _ := AL
            clear AL hP hm sl4 B4 HS4 HI4
            obtain ⟨N, hN⟩ : ∃ N, N = nrm (gl vs) := ⟨_, rfl⟩
            rw [← hN] at ALh hnn
            have HN : Hid (N = nrm (gl vs)) := hN
            clear hN
            go_wp2_with fail
            refine (show Calls _ _ _ _ _ from ALh.out).mono ?_
            clear ALh
            rintro e u1 ⟨v1, rfl, ho1, hu1⟩
            obtain ⟨a1, c1, rfl⟩ := ownsM_shape ho1
            have sN1 := (owns_see ho1).1
            have sl6 := sl5.below hu1 (Nat.le_refl _)
            have B6 := B5.trans (hu1.mono B5.size)
            have NM := norm_any la (gl vs) lc u1 sl6 (xsees_nil sl6) (by omega)
            rw [← HN.out] at NM
            have NMh : Hid _ := NM
            clear NM ho1 hu1 sl5 sl6 B5 HN
            go_wp2_with fail
            refine (show Calls _ _ _ _ _ from NMh.out).mono ?_
            clear NMh
            rintro e u2 ⟨v2, rfl, ho2, hu2⟩
            obtain ⟨a2, c2, rfl⟩ := ownsM_shape ho2
            have sN2 := (owns_see ho2).1
            have LK := likeX_same a1 a2 N c1 c2 u2 (sN1.below hu2 (Nat.le_refl _)) sN2 (by omega)
            have B7 := B6.trans (hu2.mono B6.size)
            have LKh : Hid _ := LK
            clear LK ho2 hu2 sN1 sN2 B6
            go_wp2_with fail
            refine (show Calls _ _ _ _ _ from LKh.out).mono ?_
            clear LKh
            rintro e u3 ⟨rfl, hu3⟩
            have B8 := B7.trans (hu3.mono B7.size)
            clear hu3 B7
            go_wp2_with fail
            refine (LV.out _).mono ?_
            rintro e u4 ⟨rfl, hu4⟩
            go_wp2_with fail
            go_ret
            exact ⟨rfl, B8.trans (hu4.mono B8.size)⟩
end Go.Proofs.Ytdpglmgnbhpneaa.mergeWhole
