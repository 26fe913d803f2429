/-
  THE LAW PurgeCells, walked.
-/
import Derived.Test.YtkdeaogmifhnhaaPurgeAll
import Derived.Test.YtkdeaogmifhnhaaMrgPile
import Derived.Test.YtkdeaogmifhnhaaRegCl
namespace Go.Proofs.Ytkdeaogmifhnhaa.purgeCells
open Go.RowKit Go.Proofs.Ytkdeaogmifhnhaa

attribute [local go_sem] Oper.pureAt Oper.pureUpon
set_option maxRecDepth 100000 in
set_option maxHeartbeats 2000000 in
theorem walk (ao : Option Addr) (l : List Cx) (cap : Nat) (lo : Option Addr) (vs : List Lv) (lcap : Nat) (n g : Int) (w : World) (hs : XSees w ao l) (hl : l.length ≤ 100000 ∧ ∀ c ∈ l, wtX c ≤ 562949953421312) (hin : ∀ c ∈ l, c.In)
    (hls : LSees w lo vs) (hxs : ∀ v ∈ vs, XSees w v.ao v.l) (hsm : SmallLs vs) (hn : InI n) (hg : InI g) :
    Calls Try.prog 3 #[.slice ao l.length cap, .slice lo vs.length lcap, .agg #[.int .i64 n, .int .i64 g]] w fun e w' => e = .returned (.bool true) ∧ Below w.heap.size w w' := by
  obtain ⟨i2, hi2, hz0, hz1, hz2⟩ := infoX infoSl
  have LV : Hid (∀ w : World, Calls Try.prog 7 #[] w fun x w' => x = .returned (.bool true) ∧ Below w.heap.size w w') := fun w => lives11_any w
  obtain ⟨wa, hwa⟩ : ∃ wa, wa = w.alloc (.cells #[.int .i64 n, .int .i64 g] 25) := ⟨_, rfl⟩
  have hB : Below w.heap.size w wa := by rw [hwa]; exact (Below.refl _ _).alloc (Nat.le_refl _) _
  have hsz : wa.heap.size = w.heap.size + 1 := by rw [hwa]; simp
  have h1 : wa.heap[w.heap.size]? = some (.cells #[.int .i64 n, .int .i64 g] 25) := by rw [hwa]; exact heap_alloc_new w _
  have hlt1 := (Array.getElem?_eq_some_iff.1 h1).1
  have W0 : wa.cell? ⟨w.heap.size, 0, none⟩ = some (.int .i64 n) := by simp only [World.cell?, h1]; rfl
  have W1 : wa.cell? ⟨w.heap.size, 1, none⟩ = some (.int .i64 g) := by simp only [World.cell?, h1]; rfl
  have HQ : Hid (∀ u, Below wa.heap.size wa u → u.cell? ⟨w.heap.size, 0, none⟩ = some (.int .i64 n) ∧ u.cell? ⟨w.heap.size, 1, none⟩ = some (.int .i64 g)) := fun u hu => ⟨(hu.cell hlt1).trans W0, (hu.cell hlt1).trans W1⟩
  have HX : Hid (∀ u, Below wa.heap.size wa u → XSees u ao l ∧ LSees u lo vs ∧ ∀ v ∈ vs, XSees u v.ao v.l) := fun u hu => by
    have hb := hB.trans (hu.mono hB.size)
    exact ⟨hs.below hb (Nat.le_refl _), hls.below hb (Nat.le_refl _), fun v hv => (hxs v hv).below hb (Nat.le_refl _)⟩
  have HE : Hid (∀ u, Below wa.heap.size wa u → Below w.heap.size w u) := fun u h => hB.trans (h.mono hB.size)
  have hll : l.length ≤ 1000000 := by omega
  have hvl : vs.length ≤ 1048576 := hsm.n
  have hvi : ∀ v ∈ vs, v.l.length ≤ 1000000 := fun v hv => Nat.le_trans (hsm.each v hv).1 (by decide)
  have FW : Hid (∀ (u : World) (a : Option Addr) (c : Nat), Pl wa u a (⟨ao, cap, l⟩ :: vs) → Calls Try.prog 6 #[.slice a (vs.length + 1) c] u fun e w' => (∃ b, e = .returned (.bool b)) ∧ Below u.heap.size u w') := fun u a c hP => by
    have h := few11_any a (⟨ao, cap, l⟩ :: vs) c u hP.see hP.ins (by simp; omega) (fun v hv => by
      rcases List.mem_cons.1 hv with rfl | hv
      · exact ⟨by show l.length ≤ _; omega, hl.2⟩
      · exact ⟨Nat.le_trans (hsm.each v hv).1 (by decide), (hsm.each v hv).2⟩)
    exact h.mono fun e w' ⟨⟨b, h1, _⟩, h3⟩ => ⟨⟨b, h1⟩, h3⟩
  have C1 : Hid (∀ u, Below wa.heap.size wa u → Calls Try.prog 11 #[.slice ao l.length cap, .slice lo vs.length lcap, .int .i64 n, .int .i64 g] u fun e w' => ∃ ao' cap', e = .returned (.slice ao' (kpt (goesX (keysL vs) n g) (nrm l)).length cap') ∧ XSees w' ao' (kpt (goesX (keysL vs) n g) (nrm l)) ∧ Below u.heap.size u w') := fun u hu =>
    cellsP_any ao l cap lo vs lcap n g u (HX.out u hu).1 (HX.out u hu).2.1 (HX.out u hu).2.2 hll hvl (fun v hv => Nat.le_trans (hvi v hv) (by decide)) (fun c hc => (hin c hc).2.2.1) hn hg
  have C2 : Hid (∀ u, Below wa.heap.size wa u → Calls Try.prog 12 #[.slice ao l.length cap, .slice lo vs.length lcap, .int .i64 n, .int .i64 g] u fun e w' => ∃ ao' cap', e = .returned (.slice ao' (kpt (goesX (keysL vs) n g) (nrm l)).length cap') ∧ XSees w' ao' (kpt (goesX (keysL vs) n g) (nrm l)) ∧ Below u.heap.size u w') := fun u hu => by
    have h := rcells_any ao l cap lo vs lcap n g u (HX.out u hu).1 (HX.out u hu).2.1 (HX.out u hu).2.2 hll hvl hvi (fun c hc => (hin c hc).2.2.1) hn hg
    refine h.mono fun e w' ⟨v, h1, h2, h3⟩ => ?_
    obtain ⟨a, c, rfl⟩ := ownsM_shape h2
    exact ⟨a, c, h1, (owns_see h2).1, h3⟩
  have hkl : (kpt (goesX (keysL vs) n g) (nrm l)).length ≤ 1000000 := Nat.le_trans (kpt_len _ _) (Nat.le_trans (nrm_len l) hll)
  generalize kpt (goesX (keysL vs) n g) (nrm l) = ks at *
  have LK : Hid (∀ (u : World) (a b : Option Addr) (ca cb : Nat), XSees u a ks → XSees u b ks → Calls Try.prog 10 #[.slice a ks.length ca, .slice b ks.length cb] u fun e w' => e = .returned (.bool true) ∧ Below u.heap.size u w') := fun u a b ca cb ha hb => likeX_same a b ks ca cb u ha hb hkl
  have OL : Hid (∀ c ∈ l, (∀ u, Calls Try.prog 8 #[c.v.v, .int .i64 n, .int .i64 g] u fun x w' => x = .returned (.bool (oldV c.v n g)) ∧ Below u.heap.size u w') ∧ (∀ u, Calls Try.prog 9 #[c.v.v, .int .i64 n, .int .i64 g] u fun x w' => x = .returned (.bool (oldV c.v n g)) ∧ Below u.heap.size u w')) := fun c hc =>
    ⟨fun u => old_any c.v n g u (hin c hc).2.2.1 hn hg, fun u => refOld_any c.v n g u (hin c hc).2.2.1 hn hg⟩
  have HP0 : Hid (Pl wa wa lo vs) := ⟨(HX.out wa (Below.refl _ _)).2.1, (HX.out wa (Below.refl _ _)).2.2, Below.refl _ _⟩
  have HXA : Hid (XSees wa ao l) := (HX.out wa (Below.refl _ _)).1
  have OW : Hid (((w.alloc (.cells #[.int .i64 n, .int .i64 g] 25)).alloc (.cells #[.slice ao l.length cap] 22)).ownsRow (w.heap.size + 1) 22 1 (.slice (some ⟨w.heap.size + 1, 0, none⟩) 1 1) 1 [.slice ao l.length cap]) := by
    have h := World.ownsRow_lit (w.alloc (.cells #[.int .i64 n, .int .i64 g] 25)) #[.slice ao l.length cap] (e := 22) (size := 1) 1 (Nat.le_refl _) (by unfold maxLen; omega) rfl
    rw [World.size_alloc] at h
    exact h
  have SR : Hid (Src Try.prog 1 23 (.slice lo vs.length lcap) vs.length (vs.map Lv.s) ((w.alloc (.cells #[.int .i64 n, .int .i64 g] 25)).alloc (.cells #[.slice ao l.length cap] 22))) := by
    rw [← hwa]
    exact lsees_src (HX.out _ ((Below.refl _ _).alloc (Nat.le_refl _) _)).2.1 lcap
  have hlz : (l.length : Int) ≤ 1000000 := by omega
  clear hs hl hin hls hxs hsm hn hg W0 W1 h1 hlt1 hB hvi hll
  go_enter Try.func3, Try.ntmps3
  go_wp2_with (at_builtin; go_must (refine wpList_append_grew _ rfl _ _ 23 23 rfl (w.heap.size + 1) 22 i2 _ 1 24 Try.underlying23 hi2 hz0 hz1 hz2 rfl _ 1 _ rfl OW.out _ vs.length (vs.map Lv.s) rfl SR.out (by unfold maxLen; omega) (by omega) (by simp) ?_; intro v5 w5 ho5 hg5))
  rw [← hwa, ← hsz] at hg5
  rw [← hsz] at ho5
  obtain ⟨ao5, cap5, rfl, hP5⟩ := HP0.out.put (y := ⟨ao, cap, l⟩) HXA.out ho5 hg5
  have FW2 := FW.out w5 ao5 cap5 hP5
  have FW3 : Hid (Calls Try.prog 6 #[.slice ao5 (vs.length + 1) cap5] w5 fun e w' => (∃ b, e = .returned (.bool b)) ∧ Below w5.heap.size w5 w') := FW2
  have HB5 : Hid (Below wa.heap.size wa w5) := hP5.bel
  simp only [List.length_cons]
  clear ho5 hg5 hP5 OW SR HP0 HXA FW FW2 hwa hsz
  go_wp2_with fail
  refine FW3.out.mono ?_
  rintro e u ⟨⟨b, rfl⟩, hu5⟩
  have hu : Below wa.heap.size wa u := HB5.out.trans (hu5.mono HB5.out.size)
  clear FW3 hu5 HB5
  cases b
  · go_wp2_with fail
    refine (LV.out _).mono ?_
    rintro e u2 ⟨rfl, hu2⟩
    go_wp2_with fail
    go_ret
    exact ⟨rfl, HE.out u2 (hu.trans (hu2.mono hu.size))⟩
  go_wp2_with fail
  go_loopw [18] (fun s18 wr => ∃ i : Nat, i ≤ l.length ∧ s18 = .int .i64 i ∧ Below wa.heap.size wa wr) (fun s18 _ => l.length - (intOf s18).toNat)
  case atStart => exact ⟨0, by omega, rfl, hu⟩
  case round =>
    obtain ⟨i, hi, rfl, hbr⟩ := hrel
    clear hu
    rcases Nat.lt_or_ge i l.length with hlt | hge
    · obtain ⟨c, hc⟩ : ∃ c, l[i]? = some c := ⟨_, List.getElem?_eq_getElem hlt⟩
      obtain ⟨hO1, hO2⟩ := OL.out c (List.mem_of_getElem? hc)
      obtain ⟨b, off, rfl, t⟩ := (HX.out wr hbr).1 i c hc
      obtain ⟨wv, hwv⟩ : ∃ wv, wv = wr.alloc (.cells c.a 35) := ⟨_, rfl⟩
      have hBv : Below wr.heap.size wr wv := by rw [hwv]; exact (Below.refl _ _).alloc (Nat.le_refl _) _
      have tv : TenX wv wr.heap.size 0 c := by rw [hwv]; exact TenX.new wr c _
      have hbv : Below wa.heap.size wa wv := hbr.trans (hBv.mono hbr.size)
      have q10 : ∀ z : Cl wv.heap.size wv, z.u.cell? ⟨w.heap.size, 0, none⟩ = some (.int .i64 n) := fun z => (HQ.out z.u (hbv.trans (z.h.mono hbv.size))).1
      have q11 : ∀ z : Cl wv.heap.size wv, z.u.cell? ⟨w.heap.size, 1, none⟩ = some (.int .i64 g) := fun z => (HQ.out z.u (hbv.trans (z.h.mono hbv.size))).2
      have HBv : Hid (∀ x, Below wv.heap.size wv x → Below wa.heap.size wa x) := fun x hx => hbv.trans (hx.mono hbv.size)
      have O1 : Hid (∀ u, Calls Try.prog 8 #[c.v.v, .int .i64 n, .int .i64 g] u fun x w' => x = .returned (.bool (oldV c.v n g)) ∧ Below u.heap.size u w') := hO1
      have O2 : Hid (∀ u, Calls Try.prog 9 #[c.v.v, .int .i64 n, .int .i64 g] u fun x w' => x = .returned (.bool (oldV c.v n g)) ∧ Below u.heap.size u w') := hO2
      have hltz : (i : Int) < (l.length : Int) := by omega
      generalize oldV c.v n g = od at *
      clear hc hO1 hO2 hBv hbv hbr
      obtain ⟨⟨ca, cp, cr, cc⟩, ⟨ct, cd, cl, ck, cn, cs⟩⟩ := c
      have q0 : ∀ z : Cl wv.heap.size wv, z.u.cell? ⟨wr.heap.size, 0, none⟩ = some (.string ca) := fun z => by have h := (tv.below z.h tv.lt).c0; simpa using h
      have q1 : ∀ z : Cl wv.heap.size wv, z.u.cell? ⟨wr.heap.size, 1, none⟩ = some (.string cp) := fun z => by have h := (tv.below z.h tv.lt).c1; simpa using h
      have q2 : ∀ z : Cl wv.heap.size wv, z.u.cell? ⟨wr.heap.size, 2, none⟩ = some (.int .i64 cr) := fun z => by have h := (tv.below z.h tv.lt).c2; simpa using h
      have q3 : ∀ z : Cl wv.heap.size wv, z.u.cell? ⟨wr.heap.size, 3, none⟩ = some (.string cc) := fun z => by have h := (tv.below z.h tv.lt).c3; simpa using h
      have q4 : ∀ z : Cl wv.heap.size wv, z.u.cell? ⟨wr.heap.size, 4, none⟩ = some (.int .i64 ct) := fun z => by have h := (tv.below z.h tv.lt).c4; simpa using h
      have q5 : ∀ z : Cl wv.heap.size wv, z.u.cell? ⟨wr.heap.size, 5, none⟩ = some (.bool cd) := fun z => by have h := (tv.below z.h tv.lt).c5; simpa using h
      have q6 : ∀ z : Cl wv.heap.size wv, z.u.cell? ⟨wr.heap.size, 6, none⟩ = some (.int .i64 cl) := fun z => by have h := (tv.below z.h tv.lt).c6; simpa using h
      have q7 : ∀ z : Cl wv.heap.size wv, z.u.cell? ⟨wr.heap.size, 7, none⟩ = some (.int .i64 ck) := fun z => by have h := (tv.below z.h tv.lt).c7; simpa using h
      have q8 : ∀ z : Cl wv.heap.size wv, z.u.cell? ⟨wr.heap.size, 8, none⟩ = some (.int .i64 cn) := fun z => by have h := (tv.below z.h tv.lt).c8; simpa using h
      have q9 : ∀ z : Cl wv.heap.size wv, z.u.cell? ⟨wr.heap.size, 9, none⟩ = some (.string cs) := fun z => by have h := (tv.below z.h tv.lt).c9; simpa using h
      obtain ⟨k0, k1, k2, k3, k4, k5, k6, k7, k8, k9⟩ := t
      simp only [Cx.a, Vr.v] at k0 k1 k2 k3 k4 k5 k6 k7 k8 k9 O1 O2 hwv
      haveI := Cl.inh wv.heap.size wv
      go_wp2_with fail
      rw [← hwv]
      clear hwv k0 k1 k2 k3 k4 k5 k6 k7 k8 k9 tv
      refine wp_region_cl wv.heap.size (by kernel_rfl) (by kernel_rfl) ?_
      repeat (quiet_step (first | (go_at_call 8; exact Cl.calls (Nat.le_refl _) (O1.out _)) | (go_at_call 9; exact Cl.calls (Nat.le_refl _) (O2.out _))))
      refine wpQuiet_nil ?_
      rintro w0 ⟨z, rfl⟩
      have HZ : Hid (Below wa.heap.size wa z.u) := HBv.out z.u z.h
      have hne : (od != od) = false := by cases od <;> rfl
      clear q0 q1 q2 q3 q4 q5 q6 q7 q8 q9 q10 q11
      go_wp2_with fail
      go_roundw
      case rel => exact ⟨i + 1, by omega, by go_num, HZ.out⟩
      case measure => simp [intOf]; omega
    · obtain rfl : i = l.length := by omega
      have hgez : ¬ (l.length : Int) < (l.length : Int) := by omega
      have p0 : ∀ z : Cl wr.heap.size wr, z.u.cell? ⟨w.heap.size, 0, none⟩ = some (.int .i64 n) := fun z => (HQ.out z.u (hbr.trans (z.h.mono hbr.size))).1
      have p1 : ∀ z : Cl wr.heap.size wr, z.u.cell? ⟨w.heap.size, 1, none⟩ = some (.int .i64 g) := fun z => (HQ.out z.u (hbr.trans (z.h.mono hbr.size))).2
      haveI := Cl.inh wr.heap.size wr
      clear OL
      go_wp2_with fail
      refine wp_region_sched (fun w' => ∃ p : Cl wr.heap.size wr, w' = p.u) [(0, true), (1, true), (2, true), (3, true), (4, true), (5, true), (7, true), (8, true), (9, true), (10, true), (11, true), (12, true), (6, false), (13, false), (14, false), (15, true), (16, false), (17, true), (18, true)] rfl (by kernel_rfl) (by kernel_rfl) (by kernel_rfl) ⟨⟨_, (Below.refl _ _).drew⟩, rfl⟩ ?_
      iterate 12 (refine sched_pure rfl (fun K hK => ?_); go_simp; refine hK _ ?_; clear hK K)
      refine sched_loud rfl (fun K hK => ?_)
      go_simp
      have hud : Below wa.heap.size wa wr.drew := hbr.drew
      refine (C1.out _ hud).mono ?_
      rintro e u1 ⟨a1, c1, rfl, x1, b1⟩
      have b1' : Below wr.heap.size wr u1 := (Below.refl _ _).drew.trans b1
      refine hK _ _ ⟨⟨u1, b1'⟩, rfl⟩ ?_
      clear hK K
      refine sched_loud rfl (fun K hK => ?_)
      go_simp
      refine (C2.out _ (hbr.trans (b1'.mono hbr.size))).mono ?_
      rintro e u2 ⟨a2, c2, rfl, x2, b2⟩
      have b2' : Below wr.heap.size wr u2 := b1'.trans (b2.mono b1'.size)
      refine hK _ _ ⟨⟨u2, b2'⟩, rfl⟩ ?_
      clear hK K
      refine sched_loud rfl (fun K hK => ?_)
      go_simp
      refine (LK.out u2 a1 a2 c1 c2 (x1.below b2 (Nat.le_refl _)) x2).mono ?_
      rintro e u3 ⟨rfl, b3⟩
      have b3' : Below wr.heap.size wr u3 := b2'.trans (b3.mono b2'.size)
      refine hK _ _ ⟨⟨u3, b3'⟩, rfl⟩ ?_
      clear hK K
      refine sched_pure rfl (fun K hK => ?_)
      go_simp
      refine hK _ ?_
      clear hK K
      refine sched_loud rfl (fun K hK => ?_)
      go_simp
      refine (LV.out _).mono ?_
      rintro e u4 ⟨rfl, b4⟩
      have b4' : Below wr.heap.size wr u4 := b3'.trans (b4.mono b3'.size)
      refine hK _ _ ⟨⟨u4, b4'⟩, rfl⟩ ?_
      clear hK K
      iterate 2 (refine sched_pure rfl (fun K hK => ?_); go_simp; refine hK _ ?_; clear hK K)
      refine sched_nil ?_
      go_wp2_with fail
      go_ret
      exact ⟨rfl, HE.out u4 (hbr.trans (b4'.mono hbr.size))⟩
end Go.Proofs.Ytkdeaogmifhnhaa.purgeCells
