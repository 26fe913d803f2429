/-
  CONTRACT: neighbours of one key are joined (joinRuns).
-/
import Derived.Test.YtkdeaogmifhnhaaCxJoin
import Derived.Test.YtkdeaogmifhnhaaSrtIns
import Derived.Deep.RegionLaw
namespace Go.Proofs.Ytkdeaogmifhnhaa
open Go.RowKit

theorem ow_below {w w' : World} {B : Nat} {e : TypeId} {k n : Nat} {v : Value} {xs : List Value} (h : w.ownsRow B e k v n xs) (hb : Below w.heap.size w w') : w'.ownsRow B e k v n xs :=
  h.kept (row := none) ⟨hb.os, hb.tape, hb.output, hb.size, fun k hk _ => hb.block k hk⟩ (by cases hv : v.ownBlock <;> simp)
theorem set_last (O : List Cx) (y z : Cx) : (O ++ [y]).set O.length z = O ++ [z] := by
  rw [List.set_append_right _ _ (Nat.le_refl _), Nat.sub_self]; rfl
attribute [local irreducible] wpQuiet
set_option maxRecDepth 100000 in
set_option maxHeartbeats 4000000 in
theorem joinRuns_any (ao : Option Addr) (l : List Cx) (cap : Nat) (w : World) (hs : XSees w ao l) (hl : l.length ≤ 1000000) :
    Calls Try.prog 35 #[.slice ao l.length cap, .func (.func 34) #[] #[], .func (.func 36) #[] #[]] w fun e w' => ∃ v, e = .returned v ∧ w'.ownsRow w.heap.size 35 10 v (jr l).length ((jr l).flatMap xs10) ∧ Below w.heap.size w w' := by
  obtain ⟨i1, hi1, hy0, hy1, hy2⟩ := infoX infoCx
  have hlz : (l.length : Int) ≤ 1000000 := by omega
  go_enter Try.func35, Try.ntmps35
  go_wp2_with fail
  go_loopw [7, 13] (fun s7 s13 wr => ∃ (i : Nat) (O : List Cx), i ≤ l.length ∧ s13 = .int .i64 i ∧ jr (l.take i) = O ∧ wr.ownsRow w.heap.size 35 10 s7 O.length (O.flatMap xs10) ∧ Below w.heap.size w wr) (fun _ s13 _ => l.length - (intOf s13).toNat)
  case atStart => exact ⟨0, [], by omega, rfl, rfl, World.ownsRow_nil _ _ _ _, Below.refl _ _⟩
  case round =>
    obtain ⟨i, O, hi, rfl, hO, ho, hbr⟩ := hrel
    have hOl : O.length ≤ i := by rw [← hO]; exact jr_len l i
    obtain ⟨ao', cap', hv, hx, hT⟩ := owns_xsees ho
    rcases Nat.lt_or_ge i l.length with hlt | hge
    · have hc : l[i]? = some l[i] := List.getElem?_eq_getElem hlt
      have hnx : jr (l.take (i + 1)) = jrS O l[i] := by rw [takeX_succ hc, jr_snoc, hO]
      obtain ⟨b, off, rfl, t⟩ := (hs.below hbr (Nat.le_refl _)) i _ hc
      generalize l[i] = x at *
      obtain ⟨wv, hwv⟩ : ∃ wv, wv = wr.alloc (.cells x.a 35) := ⟨_, rfl⟩
      have hBr : Below wr.heap.size wr wv := by rw [hwv]; exact (Below.refl _ _).alloc (Nat.le_refl _) _
      have hBv : Below w.heap.size w wv := hbr.trans (hBr.mono hbr.size)
      have tv : TenX wv wr.heap.size 0 x := by rw [hwv]; exact TenX.new wr x _
      have hov : wv.ownsRow w.heap.size 35 10 u7 O.length (O.flatMap xs10) := ow_below ho hBr
      have HBv : Hid (Below w.heap.size w wv) := hBv
      have HOw : Hid (∀ u, Below wv.heap.size wv u → u.ownsRow w.heap.size 35 10 u7 O.length (O.flatMap xs10)) := fun u h => ow_below hov h
      have hltz : (i : Int) < (l.length : Int) := by omega
      have hOz : (O.length : Int) ≤ 1000000 := by omega
      haveI := Cl.inh wv.heap.size wv
      rcases List.eq_nil_or_concat O with rfl | ⟨P, y, hP⟩
      · have hApp : jr (l.take (i + 1)) = [] ++ [x] := by rw [hnx]; rfl
        subst hv
        clear hs hO hnx hx hT ho hov hBr hBv hbr hc
        obtain ⟨⟨xa, xp, xr, xc⟩, ⟨xt, xd, xl, xk, xn, xs⟩⟩ := x
        have HAp : Hid (jr (l.take (i + 1)) = [] ++ [(⟨⟨xa, xp, xr, xc⟩, ⟨xt, xd, xl, xk, xn, xs⟩⟩ : Cx)]) := hApp
        clear hApp
        obtain ⟨x0, x1, x2, x3, x4, x5, x6, x7, x8, x9⟩ := t
        simp only at x0 x1 x2 x3 x4 x5 x6 x7 x8 x9
        simp only [Cx.a] at hwv
        have hw1 : IntKind.i64.wrap (-1) = -1 := by decide
        go_wp2_with fail
        rw [← hwv]
        clear hwv x0 x1 x2 x3 x4 x5 x6 x7 x8 x9
        refine wp_region_cl wv.heap.size (by kernel_rfl) (by kernel_rfl) ?_
        quiet_step (fail)
        quiet_step (fail)
        quiet_step (fail)
        quiet_step (fail)
        quiet_step (fail)
        quiet_step (fail)
        quiet_step (fail)
        quiet_step (fail)
        quiet_step (fail)
        quiet_step (fail)
        quiet_step (fail)
        quiet_step (fail)
        refine wpQuiet_nil ?_
        rintro w0 ⟨z, rfl⟩
        have tz : TenX z.u wr.heap.size 0 ⟨⟨xa, xp, xr, xc⟩, ⟨xt, xd, xl, xk, xn, xs⟩⟩ := tv.below z.h tv.lt
        have oz := HOw.out z.u z.h
        have hBz : Below w.heap.size w z.u := HBv.out.trans (z.h.mono HBv.out.size)
        obtain ⟨x0, x1, x2, x3, x4, x5, x6, x7, x8, x9⟩ := tz
        simp only [Nat.zero_add] at x0 x1 x2 x3 x4 x5 x6 x7 x8 x9
        have HBz : Hid (Below w.heap.size w z.u) := hBz
        have oz2 : ∀ ob : Obj, (z.u.alloc ob).ownsRow w.heap.size 35 10 (.slice ao' 0 cap') 0 (([] : List Cx).flatMap xs10) := fun ob => oz.alloc ob
        have hsr : XSees (z.u.alloc (.cells (Cx.a ⟨⟨xa, xp, xr, xc⟩, ⟨xt, xd, xl, xk, xn, xs⟩⟩) 35)) (some ⟨z.u.heap.size, 0, none⟩) [⟨⟨xa, xp, xr, xc⟩, ⟨xt, xd, xl, xk, xn, xs⟩⟩] := fun i c hc => by
          have hi : i = 0 := by have := (List.getElem?_eq_some_iff.1 hc).1; simp at this; exact this
          subst hi
          obtain rfl := Option.some.inj hc
          exact ⟨z.u.heap.size, 0, rfl, TenX.new z.u _ _⟩
        have hbz : w.heap.size ≤ (z.u.alloc (.cells (Cx.a ⟨⟨xa, xp, xr, xc⟩, ⟨xt, xd, xl, xk, xn, xs⟩⟩) 35)).heap.size := by rw [World.size_alloc]; have := hBz.size; omega
        clear hBz oz
        simp only [Cx.a] at hsr oz2 hbz
        skip
        go_wp2_with (at_builtin; go_must (refine wpList_append_grew _ rfl _ _ 22 22 rfl w.heap.size 35 i1 _ 10 112 Try.underlying22 hi1 hy0 hy1 hy2 rfl (.slice ao' 0 cap') 0 (([] : List Cx).flatMap xs10) rfl (oz2 _) _ 1 (([⟨⟨xa, xp, xr, xc⟩, ⟨xt, xd, xl, xk, xn, xs⟩⟩] : List Cx).flatMap xs10) rfl (src_cells hsr (fun h => by cases h) 1) (by unfold maxLen; omega) (by omega) hbz ?_; intro v2 w2 ho2 hg2))
        have HG : Hid (w2.ownsRow w.heap.size 35 10 v2 (([] : List Cx) ++ [(⟨⟨xa, xp, xr, xc⟩, ⟨xt, xd, xl, xk, xn, xs⟩⟩ : Cx)]).length ((([] : List Cx) ++ [(⟨⟨xa, xp, xr, xc⟩, ⟨xt, xd, xl, xk, xn, xs⟩⟩ : Cx)]).flatMap xs10) ∧ Below w.heap.size w w2) := by
          refine ⟨by rw [List.flatMap_append]; have el : (([] : List Cx) ++ [(⟨⟨xa, xp, xr, xc⟩, ⟨xt, xd, xl, xk, xn, xs⟩⟩ : Cx)]).length = 0 + 1 := rfl; rw [el]; exact ho2, ?_⟩
          have hb3 : Below w.heap.size w (z.u.alloc (.cells (Cx.a ⟨⟨xa, xp, xr, xc⟩, ⟨xt, xd, xl, xk, xn, xs⟩⟩) 35)) := HBz.out.alloc HBz.out.size _
          exact hb3.trans (hg2.below hb3.size (fun g hg => ((oz2 (.cells (Cx.a ⟨⟨xa, xp, xr, xc⟩, ⟨xt, xd, xl, xk, xn, xs⟩⟩) 35)).lt g hg).1))
        clear ho2 hg2
        go_wp2_with fail
        go_roundw
        case rel => exact ⟨i + 1, ([] : List Cx) ++ [(⟨⟨xa, xp, xr, xc⟩, ⟨xt, xd, xl, xk, xn, xs⟩⟩ : Cx)], by omega, by go_num, HAp.out, HG.out.1, HG.out.2⟩
        case measure => (simp [intOf]; try omega)
      · rw [List.concat_eq_append] at hP
        subst hP
        obtain ⟨n, hn⟩ : ∃ n, n = P.length := ⟨_, rfl⟩
        have hat : (P ++ [y])[n]? = some y := by rw [hn]; exact at_mid P y []
        obtain ⟨g, rfl, hgb, -⟩ := hT n y hat
        subst hv
        have hRx : ∀ u, Below wv.heap.size wv u → Rx u w.heap.size g cap' (P ++ [y]) := fun u h => HOw.out u h
        have ty : TenX wv g (n * 10) y := (hRx wv (Below.refl _ _)).ten hat
        have elen : ((P ++ [y]).length : Int) = (n : Int) + 1 := by rw [List.length_append, hn]; simp
        have elenN : (P ++ [y]).length = n + 1 := by rw [List.length_append, hn]; simp
        have HOw2 : Hid (∀ u, Below wv.heap.size wv u → u.ownsRow w.heap.size 35 10 (.slice (some ⟨g, 0, none⟩) (n + 1) cap') (n + 1) ((P ++ [y]).flatMap xs10)) := fun u h => by have h2 := HOw.out u h; rw [elenN] at h2; exact h2
        clear HOw
        have C : Hid (∀ w : World, Calls Try.prog 34 #[y.val, x.val] w fun e w' => e = .returned (.int .i64 (kx y x)) ∧ Below w.heap.size w w') := fun w => cmpKeys_any y x w
        have J : Hid (∀ w : World, Calls Try.prog 36 #[y.val, x.val] w fun e w' => e = .returned (jnC y x).val ∧ Below w.heap.size w w') := fun w => joinCells_any y x w
        have hyes : Hid (kx y x = 0 → jr (l.take (i + 1)) = P ++ [jnC y x]) := fun h => by rw [hnx, jrS_same h]
        have hno : Hid (¬ kx y x = 0 → jr (l.take (i + 1)) = (P ++ [y]) ++ [x]) := fun h => by rw [hnx, jrS_other h]
        have HRx : Hid (∀ u, Below wv.heap.size wv u → Rx u w.heap.size g cap' (P ++ [y])) := hRx
        have HN : Hid (n = P.length ∧ (P ++ [y])[n]? = some y ∧ w.heap.size ≤ g) := ⟨hn, hat, hgb⟩
        obtain ⟨jc, hjc⟩ : ∃ jc, jc = jnC y x := ⟨_, rfl⟩
        rw [← hjc] at J hyes
        generalize kx y x = K at *
        have hnz : (n : Int) + 1 ≤ 1000000 := by omega
        have hwp : IntKind.i64.wrap (n : Int) = (n : Int) := by rw [IntKind.wrap_i64]; omega
        have hnn : n + 1 ≤ 1000000 := by omega
        have hn1 : (n : Int) < (n : Int) + 1 := by omega
        rw [elenN] at *
        clear hs hO hnx hx hT ho hov hBr hBv hbr hc hRx hn hat hgb hjc elen elenN hOz hOl
        obtain ⟨⟨xa, xp, xr, xc⟩, ⟨xt, xd, xl, xk, xn, xs⟩⟩ := x
        obtain ⟨⟨ya, yp, yr, yc⟩, ⟨yt, yd, yl, yk, yn, ys⟩⟩ := y
        simp only [Cx.val, Cx.a] at C J hwv
        obtain ⟨x0, x1, x2, x3, x4, x5, x6, x7, x8, x9⟩ := t
        simp only at x0 x1 x2 x3 x4 x5 x6 x7 x8 x9
        have qx0 : ∀ z : Cl wv.heap.size wv, z.u.cell? ⟨wr.heap.size, 0, none⟩ = some (.string xa) := fun z => (tv.below z.h tv.lt).c0
        have qx1 : ∀ z : Cl wv.heap.size wv, z.u.cell? ⟨wr.heap.size, 1, none⟩ = some (.string xp) := fun z => (tv.below z.h tv.lt).c1
        have qx2 : ∀ z : Cl wv.heap.size wv, z.u.cell? ⟨wr.heap.size, 2, none⟩ = some (.int .i64 xr) := fun z => (tv.below z.h tv.lt).c2
        have qx3 : ∀ z : Cl wv.heap.size wv, z.u.cell? ⟨wr.heap.size, 3, none⟩ = some (.string xc) := fun z => (tv.below z.h tv.lt).c3
        have qx4 : ∀ z : Cl wv.heap.size wv, z.u.cell? ⟨wr.heap.size, 4, none⟩ = some (.int .i64 xt) := fun z => (tv.below z.h tv.lt).c4
        have qx5 : ∀ z : Cl wv.heap.size wv, z.u.cell? ⟨wr.heap.size, 5, none⟩ = some (.bool xd) := fun z => (tv.below z.h tv.lt).c5
        have qx6 : ∀ z : Cl wv.heap.size wv, z.u.cell? ⟨wr.heap.size, 6, none⟩ = some (.int .i64 xl) := fun z => (tv.below z.h tv.lt).c6
        have qx7 : ∀ z : Cl wv.heap.size wv, z.u.cell? ⟨wr.heap.size, 7, none⟩ = some (.int .i64 xk) := fun z => (tv.below z.h tv.lt).c7
        have qx8 : ∀ z : Cl wv.heap.size wv, z.u.cell? ⟨wr.heap.size, 8, none⟩ = some (.int .i64 xn) := fun z => (tv.below z.h tv.lt).c8
        have qx9 : ∀ z : Cl wv.heap.size wv, z.u.cell? ⟨wr.heap.size, 9, none⟩ = some (.string xs) := fun z => (tv.below z.h tv.lt).c9
        have qy0 : ∀ z : Cl wv.heap.size wv, z.u.cell? ⟨g, n * 10, none⟩ = some (.string ya) := fun z => (ty.below z.h ty.lt).c0
        have qy1 : ∀ z : Cl wv.heap.size wv, z.u.cell? ⟨g, n * 10 + 1, none⟩ = some (.string yp) := fun z => (ty.below z.h ty.lt).c1
        have qy2 : ∀ z : Cl wv.heap.size wv, z.u.cell? ⟨g, n * 10 + 2, none⟩ = some (.int .i64 yr) := fun z => (ty.below z.h ty.lt).c2
        have qy3 : ∀ z : Cl wv.heap.size wv, z.u.cell? ⟨g, n * 10 + 3, none⟩ = some (.string yc) := fun z => (ty.below z.h ty.lt).c3
        have qy4 : ∀ z : Cl wv.heap.size wv, z.u.cell? ⟨g, n * 10 + 4, none⟩ = some (.int .i64 yt) := fun z => (ty.below z.h ty.lt).c4
        have qy5 : ∀ z : Cl wv.heap.size wv, z.u.cell? ⟨g, n * 10 + 5, none⟩ = some (.bool yd) := fun z => (ty.below z.h ty.lt).c5
        have qy6 : ∀ z : Cl wv.heap.size wv, z.u.cell? ⟨g, n * 10 + 6, none⟩ = some (.int .i64 yl) := fun z => (ty.below z.h ty.lt).c6
        have qy7 : ∀ z : Cl wv.heap.size wv, z.u.cell? ⟨g, n * 10 + 7, none⟩ = some (.int .i64 yk) := fun z => (ty.below z.h ty.lt).c7
        have qy8 : ∀ z : Cl wv.heap.size wv, z.u.cell? ⟨g, n * 10 + 8, none⟩ = some (.int .i64 yn) := fun z => (ty.below z.h ty.lt).c8
        have qy9 : ∀ z : Cl wv.heap.size wv, z.u.cell? ⟨g, n * 10 + 9, none⟩ = some (.string ys) := fun z => (ty.below z.h ty.lt).c9
        by_cases hK : K = 0
        · subst hK
          have hY := hyes.out rfl
          have HYes : Hid (jr (l.take (i + 1)) = P ++ [jc]) := hY
          clear hyes hno hY
          go_wp2_with fail
          rw [← hwv]
          clear hwv x0 x1 x2 x3 x4 x5 x6 x7 x8 x9
          refine wp_region_cl wv.heap.size (by kernel_rfl) (by kernel_rfl) ?_
          quiet_step (fail)
          quiet_step (fail)
          quiet_step (fail)
          quiet_step (fail)
          quiet_step (fail)
          quiet_step (fail)
          quiet_step (fail)
          quiet_step (fail)
          quiet_step (fail)
          quiet_step ((go_at_call 34; exact Cl.calls (Nat.le_refl _) (C.out _)))
          quiet_step (fail)
          quiet_step (fail)
          refine wpQuiet_nil ?_
          rintro w0 ⟨z, rfl⟩
          have zy : TenX z.u g (n * 10) ⟨⟨ya, yp, yr, yc⟩, ⟨yt, yd, yl, yk, yn, ys⟩⟩ := ty.below z.h ty.lt
          have zx : TenX z.u wr.heap.size 0 ⟨⟨xa, xp, xr, xc⟩, ⟨xt, xd, xl, xk, xn, xs⟩⟩ := tv.below z.h tv.lt
          have zy2 : TenX z.u.drew g (n * 10) ⟨⟨ya, yp, yr, yc⟩, ⟨yt, yd, yl, yk, yn, ys⟩⟩ := zy.below (Below.refl z.u.heap.size z.u).drew zy.lt
          have zx2 : TenX z.u.drew wr.heap.size 0 ⟨⟨xa, xp, xr, xc⟩, ⟨xt, xd, xl, xk, xn, xs⟩⟩ := zx.below (Below.refl z.u.heap.size z.u).drew zx.lt
          obtain ⟨⟨ja, jp, jr, jc⟩, ⟨jt, jd, jl, jk, jn, js⟩⟩ := jc
          simp only at J
          have HE : Hid (∀ w1, Below z.u.heap.size z.u w1 → Rx w1 w.heap.size g cap' (P ++ [(⟨⟨ya, yp, yr, yc⟩, ⟨yt, yd, yl, yk, yn, ys⟩⟩ : Cx)]) ∧ Below w.heap.size w w1) := fun w1 h => ⟨(HRx.out _ z.h).below h, HBv.out.trans ((z.h.trans (h.mono z.h.size)).mono HBv.out.size)⟩
          have HFin : Hid (∀ w1, Rx w1 w.heap.size g cap' (P ++ [(⟨⟨ya, yp, yr, yc⟩, ⟨yt, yd, yl, yk, yn, ys⟩⟩ : Cx)]) → Below w.heap.size w w1 → (set10 w1 g (n * 10) ⟨⟨ja, jp, jr, jc⟩, ⟨jt, jd, jl, jk, jn, js⟩⟩).ownsRow w.heap.size 35 10 (.slice (some ⟨g, 0, none⟩) (n + 1) cap') (P ++ [(⟨⟨ja, jp, jr, jc⟩, ⟨jt, jd, jl, jk, jn, js⟩⟩ : Cx)]).length ((P ++ [(⟨⟨ja, jp, jr, jc⟩, ⟨jt, jd, jl, jk, jn, js⟩⟩ : Cx)]).flatMap xs10) ∧ Below w.heap.size w (set10 w1 g (n * 10) ⟨⟨ja, jp, jr, jc⟩, ⟨jt, jd, jl, jk, jn, js⟩⟩)) := fun w1 hR hB => by
            obtain ⟨h1, h2, h3⟩ := HN.out
            have p1 := hR.put h2 ⟨⟨ja, jp, jr, jc⟩, ⟨jt, jd, jl, jk, jn, js⟩⟩
            have e1 : (P ++ [(⟨⟨ya, yp, yr, yc⟩, ⟨yt, yd, yl, yk, yn, ys⟩⟩ : Cx)]).set n ⟨⟨ja, jp, jr, jc⟩, ⟨jt, jd, jl, jk, jn, js⟩⟩ = P ++ [⟨⟨ja, jp, jr, jc⟩, ⟨jt, jd, jl, jk, jn, js⟩⟩] := by rw [h1]; exact set_last P _ _
            have p2 := p1.1
            rw [e1] at p2
            have e2 : (P ++ [(⟨⟨ja, jp, jr, jc⟩, ⟨jt, jd, jl, jk, jn, js⟩⟩ : Cx)]).length = n + 1 := by rw [List.length_append, h1]; rfl
            refine ⟨?_, ?_⟩
            · have p3 : (set10 w1 g (n * 10) ⟨⟨ja, jp, jr, jc⟩, ⟨jt, jd, jl, jk, jn, js⟩⟩).ownsRow w.heap.size 35 10 (.slice (some ⟨g, 0, none⟩) (P ++ [(⟨⟨ja, jp, jr, jc⟩, ⟨jt, jd, jl, jk, jn, js⟩⟩ : Cx)]).length cap') (P ++ [(⟨⟨ja, jp, jr, jc⟩, ⟨jt, jd, jl, jk, jn, js⟩⟩ : Cx)]).length ((P ++ [(⟨⟨ja, jp, jr, jc⟩, ⟨jt, jd, jl, jk, jn, js⟩⟩ : Cx)]).flatMap xs10) := p2
              rw [e2] at p3 ⊢
              exact p3
            · exact hB.trans ⟨p1.2.os, p1.2.tape, p1.2.output, p1.2.size, fun k hk => p1.2.block k (Nat.lt_of_lt_of_le hk hB.size) (fun e => by have := Option.some.inj e; omega)⟩
          obtain ⟨a0, a1, a2, a3, a4, a5, a6, a7, a8, a9⟩ := zy
          obtain ⟨b0, b1, b2, b3, b4, b5, b6, b7, b8, b9⟩ := zx
          obtain ⟨c0, c1, c2, c3, c4, c5, c6, c7, c8, c9⟩ := zy2
          obtain ⟨d0, d1, d2, d3, d4, d5, d6, d7, d8, d9⟩ := zx2
          simp only [Nat.zero_add] at a0 a1 a2 a3 a4 a5 a6 a7 a8 a9 b0 b1 b2 b3 b4 b5 b6 b7 b8 b9 c0 c1 c2 c3 c4 c5 c6 c7 c8 c9 d0 d1 d2 d3 d4 d5 d6 d7 d8 d9
          clear qx0 qx1 qx2 qx3 qx4 qx5 qx6 qx7 qx8 qx9 qy0 qy1 qy2 qy3 qy4 qy5 qy6 qy7 qy8 qy9 tv ty
          go_wp2_with fail
          go_region_law (first
            | (go_simp; go_at_call 36; refine (J.out _).mono ?_; rintro e w1 ⟨rfl, hb1⟩; obtain ⟨hR1, hB1⟩ := HE.out w1 ((Below.refl z.u.heap.size z.u).drew.trans hb1); have h0 : w1.ownsRow w.heap.size 35 10 (.slice (some ⟨g, 0, none⟩) (P ++ [(⟨⟨ya, yp, yr, yc⟩, ⟨yt, yd, yl, yk, yn, ys⟩⟩ : Cx)]).length cap') (P ++ [(⟨⟨ya, yp, yr, yc⟩, ⟨yt, yd, yl, yk, yn, ys⟩⟩ : Cx)]).length ((P ++ [(⟨⟨ya, yp, yr, yc⟩, ⟨yt, yd, yl, yk, yn, ys⟩⟩ : Cx)]).flatMap xs10) := hR1; have fz : ∀ j, w1.frozen? ⟨g, j, none⟩ = false := fun j => h0.frozenAt j; have tz := hR1.ten HN.out.2.1; obtain ⟨e0, e1, e2, e3, e4, e5, e6, e7, e8, e9⟩ := tz; simp only at e0 e1 e2 e3 e4 e5 e6 e7 e8 e9; have HW := HFin.out w1 hR1 hB1; have HW1 : Hid ((set10 w1 g (n * 10) ⟨⟨ja, jp, jr, jc⟩, ⟨jt, jd, jl, jk, jn, js⟩⟩).ownsRow w.heap.size 35 10 (.slice (some ⟨g, 0, none⟩) (n + 1) cap') (P ++ [(⟨⟨ja, jp, jr, jc⟩, ⟨jt, jd, jl, jk, jn, js⟩⟩ : Cx)]).length ((P ++ [(⟨⟨ja, jp, jr, jc⟩, ⟨jt, jd, jl, jk, jn, js⟩⟩ : Cx)]).flatMap xs10) ∧ Below w.heap.size w (set10 w1 g (n * 10) ⟨⟨ja, jp, jr, jc⟩, ⟨jt, jd, jl, jk, jn, js⟩⟩)) := HW; clear HW hR1 hB1 h0 hb1))
          all_goals
            go_wp2_with fail
            go_roundw
            case rel => exact ⟨i + 1, P ++ [(⟨⟨ja, jp, jr, jc⟩, ⟨jt, jd, jl, jk, jn, js⟩⟩ : Cx)], by omega, by go_num, HYes.out, HW1.out.1, HW1.out.2⟩
            case measure => (simp [intOf]; try omega)
        · have hKd : decide (K = 0) = false := decide_eq_false hK
          have hKb : (K == 0) = false := beq_false_of_ne hK
          have hY := hno.out hK
          have HAp : Hid (jr (l.take (i + 1)) = (P ++ [(⟨⟨ya, yp, yr, yc⟩, ⟨yt, yd, yl, yk, yn, ys⟩⟩ : Cx)]) ++ [(⟨⟨xa, xp, xr, xc⟩, ⟨xt, xd, xl, xk, xn, xs⟩⟩ : Cx)]) := hY
          clear hyes hno hY J
          go_wp2_with fail
          rw [← hwv]
          clear hwv x0 x1 x2 x3 x4 x5 x6 x7 x8 x9
          refine wp_region_cl wv.heap.size (by kernel_rfl) (by kernel_rfl) ?_
          quiet_step (fail)
          quiet_step (fail)
          quiet_step (fail)
          quiet_step (fail)
          quiet_step (fail)
          quiet_step (fail)
          quiet_step (fail)
          quiet_step (fail)
          quiet_step (fail)
          quiet_step ((go_at_call 34; exact Cl.calls (Nat.le_refl _) (C.out _)))
          quiet_step (fail)
          quiet_step (fail)
          refine wpQuiet_nil ?_
          rintro w0 ⟨z, rfl⟩
          have tz : TenX z.u wr.heap.size 0 ⟨⟨xa, xp, xr, xc⟩, ⟨xt, xd, xl, xk, xn, xs⟩⟩ := tv.below z.h tv.lt
          have oz := HOw2.out z.u z.h
          have hBz : Below w.heap.size w z.u := HBv.out.trans (z.h.mono HBv.out.size)
          obtain ⟨x0, x1, x2, x3, x4, x5, x6, x7, x8, x9⟩ := tz
          simp only [Nat.zero_add] at x0 x1 x2 x3 x4 x5 x6 x7 x8 x9
          have HBz : Hid (Below w.heap.size w z.u) := hBz
          have oz2 : ∀ ob : Obj, (z.u.alloc ob).ownsRow w.heap.size 35 10 (.slice (some ⟨g, 0, none⟩) (n + 1) cap') (n + 1) ((P ++ [(⟨⟨ya, yp, yr, yc⟩, ⟨yt, yd, yl, yk, yn, ys⟩⟩ : Cx)]).flatMap xs10) := fun ob => oz.alloc ob
          have hsr : XSees (z.u.alloc (.cells (Cx.a ⟨⟨xa, xp, xr, xc⟩, ⟨xt, xd, xl, xk, xn, xs⟩⟩) 35)) (some ⟨z.u.heap.size, 0, none⟩) [⟨⟨xa, xp, xr, xc⟩, ⟨xt, xd, xl, xk, xn, xs⟩⟩] := fun i c hc => by
            have hi : i = 0 := by have := (List.getElem?_eq_some_iff.1 hc).1; simp at this; exact this
            subst hi
            obtain rfl := Option.some.inj hc
            exact ⟨z.u.heap.size, 0, rfl, TenX.new z.u _ _⟩
          have hbz : w.heap.size ≤ (z.u.alloc (.cells (Cx.a ⟨⟨xa, xp, xr, xc⟩, ⟨xt, xd, xl, xk, xn, xs⟩⟩) 35)).heap.size := by rw [World.size_alloc]; have := hBz.size; omega
          clear hBz oz
          simp only [Cx.a] at hsr oz2 hbz
          clear qx0 qx1 qx2 qx3 qx4 qx5 qx6 qx7 qx8 qx9 qy0 qy1 qy2 qy3 qy4 qy5 qy6 qy7 qy8 qy9
          go_wp2_with (at_builtin; go_must (refine wpList_append_grew _ rfl _ _ 22 22 rfl w.heap.size 35 i1 _ 10 112 Try.underlying22 hi1 hy0 hy1 hy2 rfl (.slice (some ⟨g, 0, none⟩) (n + 1) cap') (n + 1) ((P ++ [(⟨⟨ya, yp, yr, yc⟩, ⟨yt, yd, yl, yk, yn, ys⟩⟩ : Cx)]).flatMap xs10) rfl (oz2 _) _ 1 (([⟨⟨xa, xp, xr, xc⟩, ⟨xt, xd, xl, xk, xn, xs⟩⟩] : List Cx).flatMap xs10) rfl (src_cells hsr (fun h => by cases h) 1) (by unfold maxLen; omega) (by omega) hbz ?_; intro v2 w2 ho2 hg2))
          have HG : Hid (w2.ownsRow w.heap.size 35 10 v2 ((P ++ [(⟨⟨ya, yp, yr, yc⟩, ⟨yt, yd, yl, yk, yn, ys⟩⟩ : Cx)]) ++ [(⟨⟨xa, xp, xr, xc⟩, ⟨xt, xd, xl, xk, xn, xs⟩⟩ : Cx)]).length (((P ++ [(⟨⟨ya, yp, yr, yc⟩, ⟨yt, yd, yl, yk, yn, ys⟩⟩ : Cx)]) ++ [(⟨⟨xa, xp, xr, xc⟩, ⟨xt, xd, xl, xk, xn, xs⟩⟩ : Cx)]).flatMap xs10) ∧ Below w.heap.size w w2) := by
            refine ⟨by rw [List.flatMap_append]; have el : ((P ++ [(⟨⟨ya, yp, yr, yc⟩, ⟨yt, yd, yl, yk, yn, ys⟩⟩ : Cx)]) ++ [(⟨⟨xa, xp, xr, xc⟩, ⟨xt, xd, xl, xk, xn, xs⟩⟩ : Cx)]).length = (n + 1) + 1 := (by rw [List.length_append, List.length_append, HN.out.1]; rfl); rw [el]; exact ho2, ?_⟩
            have hb3 : Below w.heap.size w (z.u.alloc (.cells (Cx.a ⟨⟨xa, xp, xr, xc⟩, ⟨xt, xd, xl, xk, xn, xs⟩⟩) 35)) := HBz.out.alloc HBz.out.size _
            exact hb3.trans (hg2.below hb3.size (fun g hg => ((oz2 (.cells (Cx.a ⟨⟨xa, xp, xr, xc⟩, ⟨xt, xd, xl, xk, xn, xs⟩⟩) 35)).lt g hg).1))
          clear ho2 hg2
          go_wp2_with fail
          go_roundw
          case rel => exact ⟨i + 1, (P ++ [(⟨⟨ya, yp, yr, yc⟩, ⟨yt, yd, yl, yk, yn, ys⟩⟩ : Cx)]) ++ [(⟨⟨xa, xp, xr, xc⟩, ⟨xt, xd, xl, xk, xn, xs⟩⟩ : Cx)], by omega, by go_num, HAp.out, HG.out.1, HG.out.2⟩
          case measure => (simp [intOf]; try omega)
    · obtain rfl : i = l.length := by omega
      have hgez : ¬ ((l.length : Nat) : Int) < (l.length : Int) := by omega
      have HO : Hid (jr l = O) := by rw [← hO, List.take_of_length_le (Nat.le_refl _)]; exact rfl
      clear hO hs hx hT hv
      go_wp2_with fail
      go_ret
      exact ⟨_, rfl, by rw [HO.out]; exact ho, hbr⟩
end Go.Proofs.Ytkdeaogmifhnhaa
