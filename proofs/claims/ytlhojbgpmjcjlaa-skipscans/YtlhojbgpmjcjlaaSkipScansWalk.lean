/-
  THE LAW SkipScans: the walk.
-/
import Derived.Test.YtlhojbgpmjcjlaaSkGather
import Derived.Test.YtlhojbgpmjcjlaaSkLaw
import Derived.Test.YtlhojbgpmjcjlaaSkEnds
import Derived.Test.YtlhojbgpmjcjlaaLoud
import Derived.ControlIn
namespace Go.Proofs.Ytlhojbgpmjcjlaa.skipScans
open Go.RowKit Go.Shelf

attribute [local go_sem] Oper.semAt_some
attribute [local go_sem] Oper.pureAt Oper.pureUpon
theorem toHid {p : Prop} (h : p) : Hid p := h
/-- Put into a list of the call's own, the cell being boxed. -/
theorem putS_any {B : Nat} {w w' : World} {S : SkId} {hs : List Nat} {T : List Tw} {l : List Cx} (h : SkB B w w' S hs T) (hl : l.length ≤ 200) (hw : wtXs l ≤ 4000) (i : Nat) (c : Cx) (hc : l[i]? = some c) (hT : cs T = nrm (goods (l.take i))) :
    Calls Try.prog 10 #[.pointer (some ⟨S.l, 0, none⟩), c.val] (w'.alloc (.cells c.a 40)) fun e w'' => ∃ T' r, e = .returned (.int .i64 r) ∧ SkB B w w'' S hs T' ∧ cs T' = nrm (goods (l.take (i + 1))) := by
  obtain ⟨a1, a2, a3, a4⟩ := wt_mem (List.mem_of_getElem? hc) hw
  have hlen := cs_len hT
  rw [List.length_take] at hlen
  have hm : (4000 : Nat) ≤ maxLen := by decide
  have hA := h.below ((Below.refl w'.heap.size w').alloc (Nat.le_refl _) (.cells c.a 40))
  exact (put_any S hs T c _ hA.sk (by omega) (by omega) (by omega) (by omega) (by omega)).mono fun e w'' ⟨T', he, hS, hp, hM⟩ => ⟨T', _, he, hA.put hS hM, by rw [takeX_succ hc]; exact put_cs hp hT⟩
theorem newI3 (u : World) : ISees (u.alloc (.cells #[.int .i64 3, .int .i64 1, .int .i64 2] 3)) (some ⟨u.heap.size, 0, none⟩) [3, 1, 2] := fun i x hx => by
  have hb := Blk.new u [.int .i64 3, .int .i64 1, .int .i64 2] 3
  match i, hx with
  | 0, hx => obtain rfl := Option.some.inj hx; exact ⟨u.heap.size, 0, rfl, hb.cell 0 rfl⟩
  | 1, hx => obtain rfl := Option.some.inj hx; exact ⟨u.heap.size, 0, rfl, hb.cell 1 rfl⟩
  | 2, hx => obtain rfl := Option.some.inj hx; exact ⟨u.heap.size, 0, rfl, hb.cell 2 rfl⟩
  | i + 3, hx => simp at hx
theorem xs_none {w : World} {ao : Option Addr} {L : List Cx} (h : XSees w ao L) : ao = none → L.length = 0 := fun e => by
  cases L with
  | nil => rfl
  | cons c L =>
    obtain ⟨b, off, e2, -⟩ := h 0 c rfl
    rw [e] at e2; cases e2
/-- How many were told. -/
def CnI (ob n₀ : Nat) (wb : World) (pre : List Cx) (W : World) : Prop := Boxed W ob 3 (.int .i64 (pre.length : Nat)) ∧ Below wb.heap.size wb W ∧ n₀ ≤ W.heap.size
theorem cnI_own (ob n₀ : Nat) (wb : World) {B : Nat} (hB : wb.heap.size ≤ B) : OwnFrom B (CnI ob n₀ wb) :=
  OwnFrom.and (fun s A A' row h hg hr => h.kept hg (fun e => by
    obtain ⟨-, o, ho, hc⟩ := hr ob e.symm
    rw [show A.heap[ob]? = _ from h] at ho
    cases ho; cases hc)) (OwnFrom.and (ownFrom_below (Nat.le_refl _) hB) fun _ _ _ _ h hg _ => Nat.le_trans h hg.size)
set_option maxRecDepth 100000 in
set_option maxHeartbeats 8000000 in
theorem walk (ao : Option Addr) (l : List Cx) (cap : Nat) (xf xu : Kb) (st : Int) (mid : Kb) (w : World) (hs : XSees w ao l) (_hn : ao = none → l.length = 0) (hl : l.length ≤ 140737488355328) (hc : ∀ c ∈ l, c.In ∧ wtX c ≤ 562949953421312) (_ : InI st) (_ : InI mid.r) :
    Calls Try.prog 4 #[.slice ao l.length cap, endsV xf xu st, mid.v] w fun e w' => e = .returned (.bool true) ∧ Below w.heap.size w w' := by
  have LV : Hid (∀ w : World, Calls Try.prog 8 #[] w fun x w' => x = .returned (.bool true) ∧ Below w.heap.size w w') := lives6_any
  obtain ⟨wb, hwb⟩ : ∃ wb, wb = (w.alloc (.cells #[.string xf.t, .string xf.p, .int .i64 xf.r, .string xf.c, .string xu.t, .string xu.p, .int .i64 xu.r, .string xu.c, .int .i64 st] 27)).alloc (.cells #[.string mid.t, .string mid.p, .int .i64 mid.r, .string mid.c] 25) := ⟨_, rfl⟩
  have hbb : Below w.heap.size w wb := by rw [hwb]; exact ((Below.refl _ _).alloc (Nat.le_refl _) _).alloc (by simp) _
  have b1 : Blk wb w.heap.size [.string xf.t, .string xf.p, .int .i64 xf.r, .string xf.c, .string xu.t, .string xu.p, .int .i64 xu.r, .string xu.c, .int .i64 st] 27 := by rw [hwb]; exact (Blk.new w _ _).alloc _
  have b2 : Blk wb (w.heap.size + 1) [.string mid.t, .string mid.p, .int .i64 mid.r, .string mid.c] 25 := by
    have := Blk.new (w.alloc (.cells #[.string xf.t, .string xf.p, .int .i64 xf.r, .string xf.c, .string xu.t, .string xu.p, .int .i64 xu.r, .string xu.c, .int .i64 st] 27)) [.string mid.t, .string mid.p, .int .i64 mid.r, .string mid.c] 25
    rw [World.size_alloc] at this
    rw [hwb]; exact this
  have HE : Hid (∀ w', Below wb.heap.size wb w' → Below w.heap.size w w') := fun w' h => hbb.trans (h.mono hbb.size)
  have HS : Hid (∀ w', Below wb.heap.size wb w' → XSees w' ao l) := fun w' h => hs.below (HE.out w' h) (Nat.le_refl _)
  have HB : Hid (∀ w', Below wb.heap.size wb w' → Blk w' w.heap.size [.string xf.t, .string xf.p, .int .i64 xf.r, .string xf.c, .string xu.t, .string xu.p, .int .i64 xu.r, .string xu.c, .int .i64 st] 27 ∧ Blk w' (w.heap.size + 1) [.string mid.t, .string mid.p, .int .i64 mid.r, .string mid.c] 25) := fun w' h => ⟨b1.below h b1.lt, b2.below h b2.lt⟩
  have W1 : Hid (Calls Try.prog 7 #[.slice ao l.length cap, .int .i64 200] wb fun e w' => (∃ z : Nat, e = .returned (.int .i64 z) ∧ z ≤ 1000000000000000 ∧ (z ≤ 200 → l.length ≤ 200 ∧ wtXs l ≤ 20 * 200)) ∧ Below wb.heap.size wb w') :=
    weigh6_any ao l cap 200 wb (HS.out wb (Below.refl _ _)) (by omega) hl (fun c h => (hc c h).2)
  have NA : Hid (∀ w', Below wb.heap.size wb w' → Calls Try.prog 9 #[.slice (some ⟨w'.heap.size, 0, none⟩) 3 3] (w'.alloc (.cells #[.int .i64 3, .int .i64 1, .int .i64 2] 3)) fun e w'' => ∃ S : SkId, e = .returned (.pointer (some ⟨S.l, 0, none⟩)) ∧ SkB wb.heap.size wb w'' S (lvls [3, 1, 2]) []) := fun w' h0 => by
    have h := h0.alloc h0.size (.cells #[.int .i64 3, .int .i64 1, .int .i64 2] 3)
    exact (new_any (some ⟨w'.heap.size, 0, none⟩) [3, 1, 2] 3 _ (newI3 w') (fun h => by cases h) (by simp)).mono fun e w'' ⟨S, he, hS, hb, hlo⟩ => ⟨S, he, ⟨hS, h.trans (hb.mono h.size), fun b hb' => Nat.le_trans h.size (hlo b hb'), Nat.le_trans h.size hb.size⟩⟩
  have RC : Hid (∀ (a b : Kb) (w : World), Calls Try.prog 21 #[a.v, b.v] w fun e w' => e = .returned (.int .i64 (kc a.ky b.ky)) ∧ Below w.heap.size w w') := fun a b w => (refCmp_any a b w).mono fun _ _ h => h
  have hlz : (l.length : Int) ≤ 140737488355328 := by omega
  clear hc hs hl b1 b2 hbb
  obtain ⟨i1, hi1, hy0, hy1, hy2⟩ := infoX infoCx
  refine (callsIn_wide (n := 4)).1 ?_
  have hro : Fence.wide.round = none := rfl
  have MEET := toHid fun (h1 : kc xf.ky mid.ky ≤ 0) (h2 : kc mid.ky xu.ky ≤ 0) (L : List Cx) (h : Rising L) => scan_meet h1 h2 h
  have C1 := toHid (RC.out xf mid)
  have C2 := toHid (RC.out mid xu)
  obtain ⟨at', ap, ar, ac⟩ := xf
  obtain ⟨bt, bp, br, bc⟩ := xu
  obtain ⟨mt, mp, mr, mc⟩ := mid
  simp only [endsV, Kb.v] at hwb C1 C2 ⊢
  refine callsIn_of_wp_marks Try.func4 rfl trivial ?_ hro
  simp only [Try.ntmps4, List.size_toArray, List.length_cons, List.length_nil, Nat.reduceAdd, Nat.reduceSub, Array.replicate_succ, Array.replicate_zero, List.push_toArray, List.append_toArray, List.nil_append, List.cons_append]
  refine wpIn_wide.2 ?_
  go_wp2_with fail
  rw [← hwb]
  clear hwb
  refine W1.out.mono ?_
  rintro e w1 ⟨⟨z, rfl, hz, hzm⟩, hb1⟩
  by_cases hbig : 200 < z
  · have hbz : (200 : Int) < (z : Int) := by omega
    clear hzm
    go_wp2_with fail
    refine (LV.out _).mono ?_
    rintro e w2 ⟨rfl, hb2⟩
    go_wp2_with fail
    exact ⟨_, results_tmp rfl _ _ _, rfl, HE.out _ (hb1.trans (hb2.mono hb1.size))⟩
  have hbz : ¬ (200 : Int) < (z : Int) := by omega
  obtain ⟨hl4, hw4⟩ := hzm (by omega)
  clear hzm hbig
  have N1h := toHid (NA.out w1 hb1)
  clear NA
  go_wp2_with fail
  refine N1h.out.mono ?_
  rintro e w2 ⟨S, rfl, hA⟩
  have HA := toHid hA
  have PS := toHid fun (T : List Tw) (w' : World) (h : SkB wb.heap.size wb w' S (lvls [3, 1, 2]) T) (i : Nat) (c : Cx) (hc : l[i]? = some c) (hT : cs T = nrm (goods (l.take i))) => putS_any h hl4 hw4 i c hc hT
  clear N1h hA hw4 hb1
  go_wp2_with fail
  go_loopw [25] (fun s25 wr => ∃ (i : Nat) (T : List Tw), i ≤ l.length ∧ s25 = .int .i64 i ∧ SkB wb.heap.size wb wr S (lvls [3, 1, 2]) T ∧ cs T = nrm (goods (l.take i))) (fun s25 _ => l.length - (intOf s25).toNat)
  case atStart => exact ⟨0, [], by omega, rfl, HA.out, rfl⟩
  case round =>
    obtain ⟨i, T, hi, rfl, hG, hcs⟩ := hrel
    rcases Nat.lt_or_ge i l.length with hlt | hge
    · have hc0 : l[i]? = some l[i] := List.getElem?_eq_getElem hlt
      obtain ⟨b1, o1, rfl, x1⟩ := (HS.out wr hG.bel) i _ hc0
      have P1 := PS.out T wr hG i l[i] hc0 hcs
      generalize l[i] = c at *
      obtain ⟨⟨ct, cp, cr, cc⟩, ⟨cti, cd, cl, ck, cn, cstr⟩⟩ := c
      simp only [Cx.val, Cx.a] at P1
      have P1h := toHid P1
      obtain ⟨k0, k1, k2, k3, k4, k5, k6, k7, k8, k9⟩ := x1
      simp only at k0 k1 k2 k3 k4 k5 k6 k7 k8 k9
      have hltz : (i : Int) < (l.length : Int) := by omega
      clear P1 hc0 hcs hG
      go_wp2_with fail
      refine P1h.out.mono ?_
      rintro e w5 ⟨T', r', rfl, hG', hcs'⟩
      clear P1h k0 k1 k2 k3 k4 k5 k6 k7 k8 k9
      go_wp2_with fail
      go_roundw
      case rel => exact ⟨i + 1, T', by omega, by go_num, hG', hcs'⟩
      case measure => (simp [intOf]; try omega)
    · obtain rfl : i = l.length := by omega
      have hgez : ¬ (l.length : Int) < (l.length : Int) := by omega
      obtain ⟨e1, e2⟩ := HB.out wr hG.bel
      have k0 := e1.cell 0 rfl
      have k1 := e1.cell 1 rfl
      have k2 := e1.cell 2 rfl
      have k3 := e1.cell 3 rfl
      have m0 := e2.cell 0 rfl
      have m1 := e2.cell 1 rfl
      have m2 := e2.cell 2 rfl
      have m3 := e2.cell 3 rfl
      have HG := toHid hG
      clear e1 e2 hG PS HA
      go_wp2_with fail
      refine (C1.out _).mono ?_
      rintro e w3 ⟨rfl, hb3⟩
      clear k0 k1 k2 k3 m0 m1 m2 m3
      generalize hD1 : kc (Kb.ky ⟨at', ap, ar, ac⟩) (Kb.ky ⟨mt, mp, mr, mc⟩) = D1 at *
      by_cases hd1 : 0 < D1
      · have hG3 := HG.out.below hb3
        go_wp2_with fail
        refine (LV.out _).mono ?_
        rintro e w4 ⟨rfl, hb4⟩
        go_wp2_with fail
        exact ⟨_, results_tmp rfl _ _ _, rfl, HE.out _ ((hG3.below hb4).bel)⟩
      have hG3 := toHid (HG.out.below hb3)
      clear HG hb3
      obtain ⟨e1, e2⟩ := HB.out w3 hG3.out.bel
      have k4 := e1.cell 4 rfl
      have k5 := e1.cell 5 rfl
      have k6 := e1.cell 6 rfl
      have k7 := e1.cell 7 rfl
      have m0 := e2.cell 0 rfl
      have m1 := e2.cell 1 rfl
      have m2 := e2.cell 2 rfl
      have m3 := e2.cell 3 rfl
      clear e1 e2
      go_wp2_with fail
      refine (C2.out _).mono ?_
      rintro e w4 ⟨rfl, hb4⟩
      clear k4 k5 k6 k7 m0 m1 m2 m3
      generalize hD2 : kc (Kb.ky ⟨mt, mp, mr, mc⟩) (Kb.ky ⟨bt, bp, br, bc⟩) = D2 at *
      have hG4 := toHid (hG3.out.below hb4)
      clear hG3 hb4
      by_cases hd2 : 0 < D2
      · go_wp2_with fail
        refine (LV.out _).mono ?_
        rintro e w5 ⟨rfl, hb5⟩
        go_wp2_with fail
        exact ⟨_, results_tmp rfl _ _ _, rfl, HE.out _ ((hG4.out.below hb5).bel)⟩
      have hM := toHid fun L h => MEET.out (by omega) (by omega) L h
      clear MEET C1 C2 RC hD1 hD2
      go_wp2_with fail
      have hB4 := hG4.out.bel
      have HZ : ∀ u, Below w4.heap.size w4 u → Below wb.heap.size wb u := fun u h => hB4.trans (h.mono hB4.size)
      have q0 : ∀ z : Cl w4.heap.size w4, z.u.cell? ⟨w.heap.size, 0, none⟩ = some (.string at') := fun z => (HB.out z.u (HZ _ z.h)).1.cell 0 rfl
      have q1 : ∀ z : Cl w4.heap.size w4, z.u.cell? ⟨w.heap.size, 1, none⟩ = some (.string ap) := fun z => (HB.out z.u (HZ _ z.h)).1.cell 1 rfl
      have q2 : ∀ z : Cl w4.heap.size w4, z.u.cell? ⟨w.heap.size, 2, none⟩ = some (.int .i64 ar) := fun z => (HB.out z.u (HZ _ z.h)).1.cell 2 rfl
      have q3 : ∀ z : Cl w4.heap.size w4, z.u.cell? ⟨w.heap.size, 3, none⟩ = some (.string ac) := fun z => (HB.out z.u (HZ _ z.h)).1.cell 3 rfl
      have q4 : ∀ z : Cl w4.heap.size w4, z.u.cell? ⟨w.heap.size, 4, none⟩ = some (.string bt) := fun z => (HB.out z.u (HZ _ z.h)).1.cell 4 rfl
      have q5 : ∀ z : Cl w4.heap.size w4, z.u.cell? ⟨w.heap.size, 5, none⟩ = some (.string bp) := fun z => (HB.out z.u (HZ _ z.h)).1.cell 5 rfl
      have q6 : ∀ z : Cl w4.heap.size w4, z.u.cell? ⟨w.heap.size, 6, none⟩ = some (.int .i64 br) := fun z => (HB.out z.u (HZ _ z.h)).1.cell 6 rfl
      have q7 : ∀ z : Cl w4.heap.size w4, z.u.cell? ⟨w.heap.size, 7, none⟩ = some (.string bc) := fun z => (HB.out z.u (HZ _ z.h)).1.cell 7 rfl
      have r0 : ∀ z : Cl w4.heap.size w4, z.u.cell? ⟨w.heap.size + 1, 0, none⟩ = some (.string mt) := fun z => (HB.out z.u (HZ _ z.h)).2.cell 0 rfl
      have r1 : ∀ z : Cl w4.heap.size w4, z.u.cell? ⟨w.heap.size + 1, 1, none⟩ = some (.string mp) := fun z => (HB.out z.u (HZ _ z.h)).2.cell 1 rfl
      have r2 : ∀ z : Cl w4.heap.size w4, z.u.cell? ⟨w.heap.size + 1, 2, none⟩ = some (.int .i64 mr) := fun z => (HB.out z.u (HZ _ z.h)).2.cell 2 rfl
      have r3 : ∀ z : Cl w4.heap.size w4, z.u.cell? ⟨w.heap.size + 1, 3, none⟩ = some (.string mc) := fun z => (HB.out z.u (HZ _ z.h)).2.cell 3 rfl
      have hNr : Rising (T.map Tw.c) := hG4.out.sk.up
      have hTl : (T.map Tw.c).length ≤ 200 := by have := cs_len hcs; rw [List.length_map]; simp at this; omega
      have GA := fun (a u : Kb) (x : World) (h : Below w4.heap.size w4 x) => (gather_any S (lvls [3, 1, 2]) T a u (-1) x (hG4.out.sk.below h (Nat.le_refl _))).mono (R' := fun e u' => ∃ ax cx, e = .returned (.slice ax (scanC a u (T.map Tw.c)).length cx) ∧ XSees u' ax (scanC a u (T.map Tw.c)) ∧ Below w4.heap.size w4 u' ∧ Below x.heap.size x u') fun e u' ⟨v, he, ho, hb⟩ => by
        have e2 : upto (-1) (scanC a u (T.map Tw.c)) = scanC a u (T.map Tw.c) := rfl
        rw [e2] at ho
        obtain ⟨ax, cx, rfl, xx, -⟩ := owns_xsees ho
        exact ⟨ax, cx, he, xx, h.trans (hb.mono h.size), hb⟩
      have G1 : Hid (∀ x, Below w4.heap.size w4 x → Calls Try.prog 16 #[.pointer (some ⟨S.l, 0, none⟩), .agg #[.string at', .string ap, .int .i64 ar, .string ac], .agg #[.string mt, .string mp, .int .i64 mr, .string mc], .int .i64 (-1)] x fun e u' => ∃ ax cx, e = .returned (.slice ax (scanC ⟨at', ap, ar, ac⟩ ⟨mt, mp, mr, mc⟩ (T.map Tw.c)).length cx) ∧ XSees u' ax (scanC ⟨at', ap, ar, ac⟩ ⟨mt, mp, mr, mc⟩ (T.map Tw.c)) ∧ Below w4.heap.size w4 u' ∧ Below x.heap.size x u') := fun x h => GA _ _ x h
      have G2 : Hid (∀ x, Below w4.heap.size w4 x → Calls Try.prog 16 #[.pointer (some ⟨S.l, 0, none⟩), .agg #[.string mt, .string mp, .int .i64 mr, .string mc], .agg #[.string bt, .string bp, .int .i64 br, .string bc], .int .i64 (-1)] x fun e u' => ∃ ax cx, e = .returned (.slice ax (scanC ⟨mt, mp, mr, mc⟩ ⟨bt, bp, br, bc⟩ (T.map Tw.c)).length cx) ∧ XSees u' ax (scanC ⟨mt, mp, mr, mc⟩ ⟨bt, bp, br, bc⟩ (T.map Tw.c)) ∧ Below w4.heap.size w4 u' ∧ Below x.heap.size x u') := fun x h => GA _ _ x h
      have G3 : Hid (∀ x, Below w4.heap.size w4 x → Calls Try.prog 16 #[.pointer (some ⟨S.l, 0, none⟩), .agg #[.string at', .string ap, .int .i64 ar, .string ac], .agg #[.string bt, .string bp, .int .i64 br, .string bc], .int .i64 (-1)] x fun e u' => ∃ ax cx, e = .returned (.slice ax (scanC ⟨at', ap, ar, ac⟩ ⟨bt, bp, br, bc⟩ (T.map Tw.c)).length cx) ∧ XSees u' ax (scanC ⟨at', ap, ar, ac⟩ ⟨bt, bp, br, bc⟩ (T.map Tw.c)) ∧ Below w4.heap.size w4 u' ∧ Below x.heap.size x u') := fun x h => GA _ _ x h
      have hMM := hM.out _ hNr
      have hLa := scan_len ⟨at', ap, ar, ac⟩ ⟨mt, mp, mr, mc⟩ (T.map Tw.c)
      have hLb := scan_len ⟨mt, mp, mr, mc⟩ ⟨bt, bp, br, bc⟩ (T.map Tw.c)
      have hLc := scan_len ⟨at', ap, ar, ac⟩ ⟨bt, bp, br, bc⟩ (T.map Tw.c)
      have SC : Hid (∀ x, Below w4.heap.size w4 x → Calls Try.prog 22 #[.pointer (some ⟨S.l, 0, none⟩), .agg #[.string at', .string ap, .int .i64 ar, .string ac], .agg #[.string bt, .string bp, .int .i64 br, .string bc]] x fun e W' => ∃ b v, e = .returned (.func (.func 49) #[] #[.pointer (some ⟨b, 0, none⟩)]) ∧ W'.cell? ⟨b, 0, none⟩ = some v ∧ x.heap.size ≤ b ∧ W'.ownsRow x.heap.size 40 10 v (scanC ⟨at', ap, ar, ac⟩ ⟨bt, bp, br, bc⟩ (T.map Tw.c)).length ((scanC ⟨at', ap, ar, ac⟩ ⟨bt, bp, br, bc⟩ (T.map Tw.c)).flatMap xs10) ∧ Below x.heap.size x W') := fun x h => scan_any S (lvls [3, 1, 2]) T ⟨at', ap, ar, ac⟩ ⟨bt, bp, br, bc⟩ x (hG4.out.sk.below h (Nat.le_refl _))
      generalize scanC ⟨at', ap, ar, ac⟩ ⟨mt, mp, mr, mc⟩ (T.map Tw.c) = La at *
      generalize scanC ⟨mt, mp, mr, mc⟩ ⟨bt, bp, br, bc⟩ (T.map Tw.c) = Lb at *
      generalize scanC ⟨at', ap, ar, ac⟩ ⟨bt, bp, br, bc⟩ (T.map Tw.c) = Lc at *
      have hla : La.length ≤ 200 := by omega
      have hlb : Lb.length ≤ 200 := by omega
      have hlc : Lc.length ≤ 200 := by omega
      have HM := toHid hMM
      have HZh := toHid HZ
      haveI := Cl.inh w4.heap.size w4
      clear hM hMM GA hNr hTl hB4 HZ hLa hLb hLc
      refine wp_region_sched (fun w' => ∃ p : Cl w4.heap.size w4, w' = p.u) [(0, true), (1, true), (2, true), (3, true), (5, true), (6, true), (7, true), (8, true), (10, true), (11, true), (12, true), (13, true), (14, true), (4, false), (9, false), (15, false), (16, true), (17, true), (18, true)] rfl (by kernel_rfl) (by kernel_rfl) (by kernel_rfl) ⟨⟨_, (Below.refl _ _).drew⟩, rfl⟩ ?_
      refine sched_pure rfl (fun K hK => ?_)
      go_simp
      refine hK _ ?_
      clear hK K
      refine sched_pure rfl (fun K hK => ?_)
      go_simp
      refine hK _ ?_
      clear hK K
      refine sched_pure rfl (fun K hK => ?_)
      go_simp
      refine hK _ ?_
      clear hK K
      refine sched_pure rfl (fun K hK => ?_)
      go_simp
      refine hK _ ?_
      clear hK K
      refine sched_pure rfl (fun K hK => ?_)
      go_simp
      refine hK _ ?_
      clear hK K
      refine sched_pure rfl (fun K hK => ?_)
      go_simp
      refine hK _ ?_
      clear hK K
      refine sched_pure rfl (fun K hK => ?_)
      go_simp
      refine hK _ ?_
      clear hK K
      refine sched_pure rfl (fun K hK => ?_)
      go_simp
      refine hK _ ?_
      clear hK K
      refine sched_pure rfl (fun K hK => ?_)
      go_simp
      refine hK _ ?_
      clear hK K
      refine sched_pure rfl (fun K hK => ?_)
      go_simp
      refine hK _ ?_
      clear hK K
      refine sched_pure rfl (fun K hK => ?_)
      go_simp
      refine hK _ ?_
      clear hK K
      refine sched_pure rfl (fun K hK => ?_)
      go_simp
      refine hK _ ?_
      clear hK K
      refine sched_pure rfl (fun K hK => ?_)
      go_simp
      refine hK _ ?_
      clear hK K
      refine sched_loud rfl (fun K hK => ?_)
      go_simp
      refine (G1.out _ (Below.refl _ _).drew).mono ?_
      rintro e u1 ⟨a1, c1, rfl, x1, y1, g1⟩
      refine hK _ _ ⟨⟨u1, y1⟩, rfl⟩ ?_
      clear hK K
      refine sched_loud rfl (fun K hK => ?_)
      go_simp
      refine (G2.out _ y1).mono ?_
      rintro e u2 ⟨a2, c2, rfl, x2, y2, g2⟩
      refine hK _ _ ⟨⟨u2, y2⟩, rfl⟩ ?_
      clear hK K
      refine sched_loud rfl (fun K hK => ?_)
      go_simp
      refine (G3.out _ y2).mono ?_
      rintro e u3 ⟨a3, c3, rfl, x3, y3, g3⟩
      refine hK _ _ ⟨⟨u3, y3⟩, rfl⟩ ?_
      clear hK K
      refine sched_pure rfl (fun K hK => ?_)
      go_simp
      refine hK _ ?_
      clear hK K
      refine sched_pure rfl (fun K hK => ?_)
      go_simp
      refine hK _ ?_
      clear hK K
      refine sched_pure rfl (fun K hK => ?_)
      go_simp
      refine hK _ ?_
      clear hK K
      refine sched_nil ?_
      clear q0 q1 q2 q3 q4 q5 q6 q7 r0 r1 r2 r3 G1 G2 G3
      have z1 : XSees u3 a1 La := (x1.below g2 (Nat.le_refl _)).below g3 (Nat.le_refl _)
      have z2 : XSees u3 a2 Lb := x2.below g3 (Nat.le_refl _)
      have Z3 := toHid x3
      clear x1 x2 x3 y1 y2 g1 g2 g3
      have O0 := owns_none u3 u3.heap.size (Nat.le_refl _)
      have S0 := src_cells (z1.below ((Below.refl u3.heap.size u3).alloc (Nat.le_refl _) (.cells #[] 40)) (Nat.le_refl _)) (xs_none z1) c1
      have Z2 := toHid z2
      clear z1 z2
      go_wp2_with (first
        | (at_builtin; have S1 := S1z; go_must (refine wpList_append_grew _ rfl _ _ 23 23 rfl u3.heap.size 40 i1 _ 10 112 Try.underlying23 hi1 hy0 hy1 hy2 rfl _ (0 + La.length) ([] ++ La.flatMap xs10) rfl ho1 _ Lb.length (Lb.flatMap xs10) rfl S1 (by unfold maxLen; omega) (by omega) (by omega) ?_; intro v2 w6 ho2 hg2; have hB6 : Below u3.heap.size u3 w6 := hB5.trans (hg2.below hs5 (fun g hg => (ho1.lt g hg).1)); clear S1 S1z O0 S0 hg1 hg2 Z2 ho1))
        | (at_builtin; go_must (refine wpList_append_grew _ rfl _ _ 23 23 rfl u3.heap.size 40 i1 _ 10 112 Try.underlying23 hi1 hy0 hy1 hy2 rfl _ 0 [] rfl O0 _ La.length (La.flatMap xs10) rfl S0 (by unfold maxLen; omega) (by omega) (by rw [World.size_alloc]; omega) ?_; intro v1 w5 ho1 hg1; have hB5 : Below u3.heap.size u3 w5 := hg1.alloc.below (Nat.le_refl _) (fun g hg => by cases hg; exact Nat.le_refl _); have hs5 : u3.heap.size ≤ w5.heap.size := hB5.size; have S1z := src_cells (Z2.out.below hB5 (Nat.le_refl _)) (xs_none Z2.out) c2)))
      have ho3 : w6.ownsRow u3.heap.size 40 10 v2 Lc.length (Lc.flatMap xs10) := by
        rw [← HM.out, List.length_append, List.flatMap_append]
        rw [Nat.zero_add, List.nil_append] at ho2
        exact ho2
      obtain ⟨ax, cx, rfl, xx, -⟩ := owns_xsees ho3
      have LK := toHid (likeX_same ax a3 Lc cx c3 w6 xx (Z3.out.below hB6 (Nat.le_refl _)) (by omega))
      clear ho2 ho3 xx
      refine LK.out.mono ?_
      rintro e w7 ⟨rfl, hb7⟩
      have hB7 : Below w4.heap.size w4 w7 := y3.trans ((hB6.trans (hb7.mono hB6.size)).mono y3.size)
      obtain ⟨e1, -⟩ := HB.out w7 (HZh.out w7 hB7)
      have k0 := e1.cell 0 rfl
      have k1 := e1.cell 1 rfl
      have k2 := e1.cell 2 rfl
      have k3 := e1.cell 3 rfl
      have k4 := e1.cell 4 rfl
      have k5 := e1.cell 5 rfl
      have k6 := e1.cell 6 rfl
      have k7 := e1.cell 7 rfl
      have SC1 := toHid (SC.out w7 hB7)
      have HB7 := toHid hB7
      clear e1 LK hb7 hB6 hB7 SC y3
      go_wp2_with fail
      refine SC1.out.mono ?_
      rintro e w8 ⟨bx, vx, rfl, hcx, hbx, hrx, hb8⟩
      clear k0 k1 k2 k3 k4 k5 k6 k7 SC1
      have hnil : ∀ w : World, (binOp BinOp.eql 57 (.func (.func 49) #[] #[.pointer (some ⟨bx, 0, none⟩)]) .nilFunc).run Try.prog w = .ok (.bool false) w := fun w => by kernel_rfl
      have AT : Hid (Calls Try.prog 23 #[.string ⟨#[122, 122]⟩, .int .i64 1099511627776] w8 fun x w' => x = .returned (.agg #[.string ⟨#[116]⟩, .string ⟨#[120]⟩, .int .i64 0, .string ⟨#[122, 122]⟩, .int .i64 1099511627776, .bool false, .int .i64 0, .int .i64 1, .int .i64 1099511627776, .string ⟨#[]⟩]) ∧ Below w8.heap.size w8 w') := at_any ⟨#[122, 122]⟩ 1099511627776 w8
      have HB8 : Hid (Below w4.heap.size w4 w8) := HB7.out.trans (hb8.mono HB7.out.size)
      have HRX := toHid hrx
      have HCX := toHid hcx
      clear hrx hcx
      go_wp2_with fail
      refine AT.out.mono ?_
      rintro e w9 ⟨rfl, hb9⟩
      have hB9 : Below w4.heap.size w4 w9 := HB8.out.trans (hb9.mono HB8.out.size)
      have hTl : T.length ≤ 200 := by have := cs_len hcs; simp at this; omega
      have P9 : Hid (Calls Try.prog 10 #[.pointer (some ⟨S.l, 0, none⟩), .agg #[.string ⟨#[116]⟩, .string ⟨#[120]⟩, .int .i64 0, .string ⟨#[122, 122]⟩, .int .i64 1099511627776, .bool false, .int .i64 0, .int .i64 1, .int .i64 1099511627776, .string ⟨#[]⟩]] w9 fun e w' => ∃ T' r, e = .returned (.int .i64 r) ∧ SkAt w' S (lvls [3, 1, 2]) T' ∧ Moved w9 w' (S.ft T) (S.ft T')) :=
        (put_any S (lvls [3, 1, 2]) T ⟨⟨⟨#[116]⟩, ⟨#[120]⟩, 0, ⟨#[122, 122]⟩⟩, ⟨1099511627776, false, 0, 1, 1099511627776, ⟨#[]⟩⟩⟩ w9 (hG4.out.sk.below hB9 (Nat.le_refl _)) (by omega) (by decide) (by decide) (by decide) (by decide)).mono fun e w' ⟨T', he, hS, _, hM⟩ => ⟨T', _, he, hS, hM⟩
      have hft : ∀ b ∈ S.ft T, b < w4.heap.size := hG4.out.sk.ftlt
      have hsz7 : w4.heap.size ≤ w7.heap.size := HB7.out.size
      have HC9 : Hid (w9.cell? ⟨bx, 0, none⟩ = some vx ∧ w9.ownsRow w7.heap.size 40 10 vx Lc.length (Lc.flatMap xs10) ∧ bx < w9.heap.size) := by
        have hl := World.block_lt_of_cell? _ _ HCX.out
        exact ⟨by rw [hb9.cell hl]; exact HCX.out, owBelow HRX.out hb9, Nat.lt_of_lt_of_le hl hb9.size⟩
      have HLOW : Hid (∀ b ∈ S.ft T, wb.heap.size ≤ b) := fun b hb => hG4.out.low b (by simp [hb])
      have HB9 := toHid hB9
      clear AT hb9 hb8 hB9 HB8 HB7 HRX HCX hG4
      go_wp2_with fail
      refine P9.out.mono ?_
      rintro e w10 ⟨T', r', rfl, hS10, hM10⟩
      have hc10 : w10.cell? ⟨bx, 0, none⟩ = some vx := by
        rw [World.cell?_of_block (hM10.kept bx HC9.out.2.2 fun hm => by have := hft bx hm; omega)]
        exact HC9.out.1
      have hr10 : w10.ownsRow w7.heap.size 40 10 vx Lc.length (Lc.flatMap xs10) := owKeep HC9.out.2.1 fun g hg => hM10.kept g (HC9.out.2.1.lt g hg).2 fun hm => by
        have h1 := hft g hm
        have h2 := (HC9.out.2.1.lt g hg).1
        omega
      have hb10 : Below wb.heap.size wb w10 := by
        have h9 := HZh.out w9 HB9.out
        exact h9.trans (hM10.below h9.size fun i hi => HLOW.out i hi)
      clear P9 hM10 hS10 HC9 HLOW HB9 HZh hft
      obtain ⟨aL, cL, rfl, xL, -⟩ := owns_xsees hr10
      obtain ⟨w11, hw11⟩ : ∃ w11, w11 = w10.alloc (.cells #[.int .i64 0] 3) := ⟨_, rfl⟩
      have bN : Boxed w11 w10.heap.size 3 (.int .i64 0) := by rw [hw11]; exact Boxed.new _ _ _
      have b1011 : Below w10.heap.size w10 w11 := by rw [hw11]; exact (Below.refl _ _).alloc (Nat.le_refl _) _
      have s11 : w11.heap.size = w10.heap.size + 1 := by rw [hw11]; exact World.size_alloc _ _
      have hb11 : Below wb.heap.size wb w11 := hb10.trans (b1011.mono hb10.size)
      have hbxl : bx < w10.heap.size := World.block_lt_of_cell? _ _ hc10
      have hc11 : w11.cell? ⟨bx, 0, none⟩ = some (.slice aL Lc.length cL) := by rw [b1011.cell hbxl]; exact hc10
      have hXS : ∀ W', But w10.heap.size w11.heap.size w11 W' → XSees W' aL Lc := fun W' hW' i c hc => by
        obtain ⟨g, off, hao, t⟩ := xL i c hc
        have hgl := t.lt
        exact ⟨g, off, hao, tenCarry t ((hW'.block g (by omega) (by omega)).trans (b1011.block g hgl))⟩
      clear hr10 hc10 xL
      go_wp2_with fail
      rw [← hw11]
      clear hw11
      refine (wpIn_wide (n := 4)).1 ?_
      refine wpIn_rangeFunc_ownG hro (by omega) (gf := 49) (lb := #[.pointer (some ⟨bx, 0, none⟩)]) rfl trivial (enters_of Try.func49 (by kernel_rfl) rfl)
        (vals_stops Fence.wide (4 - 1) trivial hro (by omega) bx w10.heap.size w11.heap.size aL Lc cL (by omega) w11 (by omega) (Nat.le_refl _) hc11 hXS) But.trans (butK_b (Nat.le_refl _)) (Below.refl _ _) (fun _ => rfl)
        (CnI w10.heap.size w11.heap.size wb) (fun _ _ _ => False) (cnI_own _ _ _ hb11.size) (fun _ _ _ _ _ hs _ _ => hs)
        ⟨bN, hb11, Nat.le_refl _⟩ ?a1 ?assign ?body ?done ?stop
      case assign =>
        intro l x W K hK
        gi_wp2
        exact hK
      case body =>
        rintro l pre x W ⟨hv, hB, hsW⟩ hlt
        have hc := hv.cell
        have hf := hv.frozen
        have hpl : pre.length < Lc.length := hlt
        have hplz : (pre.length : Int) < 200 := by omega
        have HEnd : Hid (KeepsOthers W (W.setCell ⟨w10.heap.size, 0, none⟩ (.int .i64 ((pre.length : Int) + 1))) ∧ But w10.heap.size w11.heap.size W (W.setCell ⟨w10.heap.size, 0, none⟩ (.int .i64 ((pre.length : Int) + 1))) ∧ CnI w10.heap.size w11.heap.size wb (pre ++ [x]) (W.setCell ⟨w10.heap.size, 0, none⟩ (.int .i64 ((pre.length : Int) + 1)))) := by
          refine ⟨KeepsOthers.setCell _ _ _, ⟨rfl, rfl, rfl, by simp, fun k _ hne => Below.heap_setCell _ _ _ _ hne⟩, ?_, hB.setCell (p := ⟨w10.heap.size, 0, none⟩) hb10.size _, by simpa using hsW⟩
          have := hv.set (.int .i64 ((pre.length : Int) + 1))
          rw [List.length_append]
          exact this
        clear hv hB hlt
        simp only [Cx.val]
        gi_wp2
        exact ⟨HEnd.out.1.from _, HEnd.out.2⟩
      case done =>
        rintro D ys W hD rfl ⟨hv, hB, hsW⟩ hK
        have hc := hv.cell
        have hDl : D < W.heap.size := (Array.getElem?_eq_some_iff.1 hK).1
        have hyl : (ys.length : Int) ≤ 200 := by omega
        go_wp2_with fail
        refine (LV.out _).mono ?_
        rintro e w12 ⟨rfl, hb12⟩
        have hK2 : w12.heap[D]? = some (.deferred (some [])) := (hb12.block D hDl).trans hK
        have h12 := hB.trans (hb12.mono hB.size)
        have hE : Hid (∀ o, Below w.heap.size w (w12.putObj D o)) := fun o => HE.out _ (h12.trans (belowK_b (w := w11) hb11.size w12 D _ o hD hK2 rfl rfl))
        go_wp2_with fail
        refine ⟨by simp, .inl ⟨_, _, rfl, run_takeDeferred hK2, ?_⟩⟩
        exact ⟨_, results_tmp rfl _ _ _, rfl, hE.out _⟩
      case stop =>
        rintro D c pre W _ _ h _
        exact h.elim
end Go.Proofs.Ytlhojbgpmjcjlaa.skipScans
