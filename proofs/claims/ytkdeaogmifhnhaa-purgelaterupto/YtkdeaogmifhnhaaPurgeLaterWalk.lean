/-
  THE LAW PurgeLater, walked.
-/
import Derived.Test.YtkdeaogmifhnhaaPrgLives
import Derived.Test.YtkdeaogmifhnhaaPrgFew
import Derived.Test.YtkdeaogmifhnhaaNormGood
import Derived.Test.YtkdeaogmifhnhaaCxFound
import Derived.Test.YtkdeaogmifhnhaaLaidAll
import Derived.Test.YtkdeaogmifhnhaaLoud
import Derived.Test.YtkdeaogmifhnhaaRegCl
namespace Go.Proofs.Ytkdeaogmifhnhaa.purgeLater
open Go.RowKit Go.Proofs.Ytkdeaogmifhnhaa

attribute [local go_sem] Oper.pureAt Oper.pureUpon

theorem kpt_sub (p : Cx → Bool) (l : List Cx) : (kpt p l).Sublist l := List.filter_sublist
theorem kpt_rising {p : Cx → Bool} {l : List Cx} (h : Rising l) : Rising (kpt p l) := h.sublist (kpt_sub p l)
theorem later_goes {S : List Kb} {n1 g1 n2 g2 : Int} (hn : n1 ≤ n2) (hg : g2 ≤ g1) {c : Cx} (h : goesX S n1 g1 c = true) : goesX S n2 g2 c = true := by
  unfold goesX oldV at *
  simp only [Bool.and_eq_true, decide_eq_true_eq] at *
  exact ⟨⟨h.1.1, by omega, by omega⟩, h.2⟩
theorem kpt_later {S : List Kb} {n1 g1 n2 g2 : Int} (hn : n1 ≤ n2) (hg : g2 ≤ g1) (l : List Cx) : (kpt (goesX S n2 g2) l).Sublist (kpt (goesX S n1 g1) l) := by
  have e : kpt (goesX S n2 g2) l = kpt (goesX S n2 g2) (kpt (goesX S n1 g1) l) := by
    unfold kpt
    rw [List.filter_filter]
    refine List.filter_congr fun c _ => ?_
    cases h1 : goesX S n1 g1 c
    · simp
    · rw [later_goes hn hg h1]; rfl
  rw [e]
  exact List.filter_sublist
set_option maxRecDepth 100000 in
set_option maxHeartbeats 2000000 in
theorem walk (ao : Option Addr) (l : List Cx) (cap : Nat) (n1 g1 n2 g2 : Int) (w : World) (hs : XSees w ao l) (hl : l.length ≤ 100000 ∧ ∀ c ∈ l, wtX c ≤ 562949953421312) (hin : ∀ c ∈ l, c.In) (hn1 : InI n1) (hg1 : InI g1) (hn2 : InI n2) (hg2 : InI g2) :
    Calls Try.prog 4 #[.slice ao l.length cap, .agg #[.int .i64 n1, .int .i64 g1], .agg #[.int .i64 n2, .int .i64 g2]] w fun e w' => e = .returned (.bool true) ∧ Below w.heap.size w w' := by
  have LV : Hid (∀ w : World, Calls Try.prog 7 #[] w fun x w' => x = .returned (.bool true) ∧ Below w.heap.size w w') := fun w => lives11_any w
  obtain ⟨wa, hwa⟩ : ∃ wa, wa = (w.alloc (.cells #[.int .i64 n1, .int .i64 g1] 25)).alloc (.cells #[.int .i64 n2, .int .i64 g2] 25) := ⟨_, rfl⟩
  have hB : Below w.heap.size w wa := by rw [hwa]; exact ((Below.refl _ _).alloc (Nat.le_refl _) _).alloc (by simp) _
  have h1 : wa.heap[w.heap.size]? = some (.cells #[.int .i64 n1, .int .i64 g1] 25) := by
    rw [hwa]
    exact (Below.heap_alloc _ _ _ (by simp)).trans (heap_alloc_new w _)
  have h2 : wa.heap[w.heap.size + 1]? = some (.cells #[.int .i64 n2, .int .i64 g2] 25) := by
    rw [hwa]
    have := heap_alloc_new (w.alloc (.cells #[.int .i64 n1, .int .i64 g1] 25)) (.cells #[.int .i64 n2, .int .i64 g2] 25)
    rw [World.size_alloc] at this
    exact this
  have hlt1 := (Array.getElem?_eq_some_iff.1 h1).1
  have hlt2 := (Array.getElem?_eq_some_iff.1 h2).1
  have W0 : wa.cell? ⟨w.heap.size, 0, none⟩ = some (.int .i64 n1) := by simp only [World.cell?, h1]; rfl
  have W1 : wa.cell? ⟨w.heap.size, 1, none⟩ = some (.int .i64 g1) := by simp only [World.cell?, h1]; rfl
  have W2 : wa.cell? ⟨w.heap.size + 1, 0, none⟩ = some (.int .i64 n2) := by simp only [World.cell?, h2]; rfl
  have W3 : wa.cell? ⟨w.heap.size + 1, 1, none⟩ = some (.int .i64 g2) := by simp only [World.cell?, h2]; rfl
  have HQ : Hid (∀ u, Below wa.heap.size wa u → u.cell? ⟨w.heap.size, 0, none⟩ = some (.int .i64 n1) ∧ u.cell? ⟨w.heap.size, 1, none⟩ = some (.int .i64 g1) ∧ u.cell? ⟨w.heap.size + 1, 0, none⟩ = some (.int .i64 n2) ∧ u.cell? ⟨w.heap.size + 1, 1, none⟩ = some (.int .i64 g2)) := fun u hu =>
    ⟨(hu.cell hlt1).trans W0, (hu.cell hlt1).trans W1, (hu.cell hlt2).trans W2, (hu.cell hlt2).trans W3⟩
  have HX : Hid (∀ u, Below wa.heap.size wa u → XSees u ao l) := fun u hu => hs.below (hB.trans (hu.mono hB.size)) (Nat.le_refl _)
  have HE : Hid (∀ u, Below wa.heap.size wa u → Below w.heap.size w u) := fun u h => hB.trans (h.mono hB.size)
  have hll : l.length ≤ 1000000 := by omega
  have hsz : wa.heap.size = w.heap.size + 1 + 1 := by rw [hwa]; simp
  have FW : Hid (Calls Try.prog 6 #[.slice (some ⟨w.heap.size + 1 + 1, 0, none⟩) 1 1] (wa.alloc (.cells #[.slice ao l.length cap] 22)) fun e w' => (∃ b, e = .returned (.bool b)) ∧ Below wa.heap.size wa w') := by
    have hb : Below wa.heap.size wa (wa.alloc (.cells #[.slice ao l.length cap] 22)) := (Below.refl _ _).alloc (Nat.le_refl _) _
    have h := few11_any (some ⟨wa.heap.size, 0, none⟩) [⟨ao, cap, l⟩] 1 (wa.alloc (.cells #[.slice ao l.length cap] 22)) (lsees_one wa ⟨ao, cap, l⟩ _) (fun v hv => by rw [List.mem_singleton] at hv; subst hv; exact HX.out _ hb) (by simp) (fun v hv => by rw [List.mem_singleton] at hv; subst hv; exact ⟨by show l.length ≤ _; omega, hl.2⟩)
    have h' : Calls Try.prog 6 #[.slice (some ⟨wa.heap.size, 0, none⟩) 1 1] (wa.alloc (.cells #[.slice ao l.length cap] 22)) fun e w' => (∃ b, e = .returned (.bool b)) ∧ Below wa.heap.size wa w' := h.mono fun e w' ⟨⟨b, h1, _⟩, h3⟩ => ⟨⟨b, h1⟩, hb.trans (h3.mono hb.size)⟩
    rw [← hsz]
    exact h'
  have C1 : Hid (∀ u, Below wa.heap.size wa u → Calls Try.prog 11 #[.slice ao l.length cap, .slice none 0 0, .int .i64 n1, .int .i64 g1] u fun e w' => ∃ ao' cap', e = .returned (.slice ao' (kpt (goesX (keysL []) n1 g1) (nrm l)).length cap') ∧ XSees w' ao' (kpt (goesX (keysL []) n1 g1) (nrm l)) ∧ Below u.heap.size u w') := fun u hu =>
    cellsP_any ao l cap none [] 0 n1 g1 u (HX.out u hu) (fun i v hv => by simp at hv) (fun v hv => by cases hv) hll (by simp) (fun v hv => by cases hv) (fun c hc => (hin c hc).2.2.1) hn1 hg1
  have C2 : Hid (∀ u, Below wa.heap.size wa u → Calls Try.prog 11 #[.slice ao l.length cap, .slice none 0 0, .int .i64 n2, .int .i64 g2] u fun e w' => ∃ ao' cap', e = .returned (.slice ao' (kpt (goesX (keysL []) n2 g2) (nrm l)).length cap') ∧ XSees w' ao' (kpt (goesX (keysL []) n2 g2) (nrm l)) ∧ Below u.heap.size u w') := fun u hu =>
    cellsP_any ao l cap none [] 0 n2 g2 u (HX.out u hu) (fun i v hv => by simp at hv) (fun v hv => by cases hv) hll (by simp) (fun v hv => by cases hv) (fun c hc => (hin c hc).2.2.1) hn2 hg2
  have PL : Hid (n1 ≤ n2 → g2 ≤ g1 → (kpt (goesX (keysL []) n2 g2) (nrm l)).length ≤ (kpt (goesX (keysL []) n1 g1) (nrm l)).length ∧ ∀ c ∈ kpt (goesX (keysL []) n2 g2) (nrm l), fnd c.k (kpt (goesX (keysL []) n1 g1) (nrm l)) = (c.v, true)) := fun hn hg =>
    ⟨(kpt_later hn hg (nrm l)).length_le, fun c hc => fnd_mem (kpt_rising (nrm_rising l)) ((kpt_later hn hg (nrm l)).subset hc)⟩
  have EL : Hid ((kpt (goesX (keysL []) n1 g1) (nrm l)).length ≤ 1000000 ∧ (kpt (goesX (keysL []) n2 g2) (nrm l)).length ≤ 1000000) := ⟨Nat.le_trans (kpt_sub _ _).length_le (Nat.le_trans (nrm_len l) hll), Nat.le_trans (kpt_sub _ _).length_le (Nat.le_trans (nrm_len l) hll)⟩
  generalize kpt (goesX (keysL []) n1 g1) (nrm l) = ea at *
  generalize kpt (goesX (keysL []) n2 g2) (nrm l) = la at *
  have hBz : Below wa.heap.size wa wa := Below.refl _ _
  clear hs hl hin hn1 hg1 hn2 hg2 W0 W1 W2 W3 h1 h2 hlt1 hlt2 hB hll hsz
  go_enter Try.func4, Try.ntmps4
  go_wp2_with fail
  rw [← hwa]
  clear hwa
  refine FW.out.mono ?_
  rintro e u ⟨⟨b, rfl⟩, hu⟩
  obtain ⟨f0, f1, f2, f3⟩ := HQ.out u hu
  clear FW
  cases b
  · go_wp2_with fail
    refine (LV.out _).mono ?_
    rintro e u2 ⟨rfl, hu2⟩
    go_wp2_with fail
    go_ret
    exact ⟨rfl, HE.out u2 (hu.trans (hu2.mono hu.size))⟩
  by_cases hn : n2 < n1
  · go_wp2_with fail
    refine (LV.out _).mono ?_
    rintro e u2 ⟨rfl, hu2⟩
    go_wp2_with fail
    go_ret
    exact ⟨rfl, HE.out u2 (hu.trans (hu2.mono hu.size))⟩
  by_cases hg : g1 < g2
  · go_wp2_with fail
    refine (LV.out _).mono ?_
    rintro e u2 ⟨rfl, hu2⟩
    go_wp2_with fail
    go_ret
    exact ⟨rfl, HE.out u2 (hu.trans (hu2.mono hu.size))⟩
  have PL2 : Hid (la.length ≤ ea.length ∧ ∀ c ∈ la, fnd c.k ea = (c.v, true)) := PL.out (by omega) (by omega)
  clear PL
  have p0 : ∀ q : Cl u.heap.size u, q.u.cell? ⟨w.heap.size, 0, none⟩ = some (.int .i64 n1) := fun q => (HQ.out q.u (hu.trans (q.h.mono hu.size))).1
  have p1 : ∀ q : Cl u.heap.size u, q.u.cell? ⟨w.heap.size, 1, none⟩ = some (.int .i64 g1) := fun q => (HQ.out q.u (hu.trans (q.h.mono hu.size))).2.1
  have p2 : ∀ q : Cl u.heap.size u, q.u.cell? ⟨w.heap.size + 1, 0, none⟩ = some (.int .i64 n2) := fun q => (HQ.out q.u (hu.trans (q.h.mono hu.size))).2.2.1
  have p3 : ∀ q : Cl u.heap.size u, q.u.cell? ⟨w.heap.size + 1, 1, none⟩ = some (.int .i64 g2) := fun q => (HQ.out q.u (hu.trans (q.h.mono hu.size))).2.2.2
  haveI := Cl.inh u.heap.size u
  go_wp2_with fail
  clear f0 f1 f2 f3
  refine wp_region_sched (fun w' => ∃ p : Cl u.heap.size u, w' = p.u) [(0, true), (1, true), (2, true), (3, true), (4, true), (6, true), (7, true), (8, true), (9, true), (10, true), (5, false), (11, false), (12, true), (13, true)] rfl (by kernel_rfl) (by kernel_rfl) (by kernel_rfl) ⟨⟨_, (Below.refl _ _).drew⟩, rfl⟩ ?_
  iterate 10 (refine sched_pure rfl (fun K hK => ?_); go_simp; refine hK _ ?_; clear hK K)
  refine sched_loud rfl (fun K hK => ?_)
  go_simp
  have hud : Below wa.heap.size wa u.drew := hu.drew
  refine (C1.out _ hud).mono ?_
  rintro e u1 ⟨a1, c1, rfl, x1, b1⟩
  have b1' : Below u.heap.size u u1 := (Below.refl _ _).drew.trans b1
  refine hK _ _ ⟨⟨u1, b1'⟩, rfl⟩ ?_
  clear hK K
  refine sched_loud rfl (fun K hK => ?_)
  go_simp
  refine (C2.out _ (hu.trans (b1'.mono hu.size))).mono ?_
  rintro e u2 ⟨a2, c2, rfl, x2, b2⟩
  have b2' : Below u.heap.size u u2 := b1'.trans (b2.mono b1'.size)
  refine hK _ _ ⟨⟨u2, b2'⟩, rfl⟩ ?_
  clear hK K
  iterate 2 (refine sched_pure rfl (fun K hK => ?_); go_simp; refine hK _ ?_; clear hK K)
  refine sched_nil ?_
  have HX1 : Hid (∀ v, Below u2.heap.size u2 v → XSees v a1 ea ∧ XSees v a2 la ∧ Below w.heap.size w v) := fun v hv =>
    ⟨(x1.below b2 (Nat.le_refl _)).below hv (Nat.le_refl _), x2.below hv (Nat.le_refl _), HE.out v (hu.trans ((b2'.trans (hv.mono b2'.size)).mono hu.size))⟩
  have hel := EL.out.1
  have hla := EL.out.2
  have hlz : (la.length : Int) ≤ 1000000 := by omega
  clear p0 p1 p2 p3 C1 C2 HQ HX HE x1 x2 b1 b1' b2 b2' hu hud hn hg EL hBz
  go_wp2_with fail
  go_loopw [45] (fun s45 wr => ∃ i : Nat, i ≤ la.length ∧ s45 = .int .i64 i ∧ Below u2.heap.size u2 wr) (fun s45 _ => la.length - (intOf s45).toNat)
  case atStart => exact ⟨0, by omega, rfl, Below.refl _ _⟩
  case round =>
    obtain ⟨i, hi, rfl, hbr⟩ := hrel
    rcases Nat.lt_or_ge i la.length with hlt | hge
    · obtain ⟨c, hc⟩ : ∃ c, la[i]? = some c := ⟨_, List.getElem?_eq_getElem hlt⟩
      have hfd := PL2.out.2 c (List.mem_of_getElem? hc)
      obtain ⟨xe, xl, -⟩ := HX1.out wr hbr
      obtain ⟨b, off, rfl, t⟩ := xl i c hc
      obtain ⟨wv, hwv⟩ : ∃ wv, wv = wr.alloc (.cells c.a 35) := ⟨_, rfl⟩
      have hBv : Below wr.heap.size wr wv := by rw [hwv]; exact (Below.refl _ _).alloc (Nat.le_refl _) _
      have tv : TenX wv wr.heap.size 0 c := by rw [hwv]; exact TenX.new wr c _
      have F : Hid (Calls Try.prog 13 #[.slice a1 ea.length c1, c.k.v] wv fun e w' => e = .returned (.tuple #[c.v.v, .bool true]) ∧ Below wv.heap.size wv w') := by
        have h := find_any a1 ea c1 c.k wv (xe.below hBv (Nat.le_refl _)) hel
        rw [hfd] at h
        exact h
      have HBv : Hid (∀ x, Below wv.heap.size wv x → Below u2.heap.size u2 x ∧ TenX x wr.heap.size 0 c) := fun x hx => ⟨hbr.trans ((hBv.trans (hx.mono hBv.size)).mono hbr.size), tv.below hx tv.lt⟩
      have hltz : (i : Int) < (la.length : Int) := by omega
      clear hc hfd xe xl hBv
      obtain ⟨⟨ct, cp, cr, cc⟩, ⟨cti, cd, cl, ck, cn, cstr⟩⟩ := c
      obtain ⟨k0, k1, k2, k3, k4, k5, k6, k7, k8, k9⟩ := t
      obtain ⟨x0, x1, x2, x3, x4, x5, x6, x7, x8, x9⟩ := tv
      simp only [Cx.a, Kb.v, Vr.v, Nat.zero_add] at k0 k1 k2 k3 k4 k5 k6 k7 k8 k9 x0 x1 x2 x3 x4 x5 x6 x7 x8 x9 F hwv
      go_wp2_with fail
      rw [← hwv]
      clear hwv k0 k1 k2 k3 k4 k5 k6 k7 k8 k9
      refine F.out.mono ?_
      rintro e v ⟨rfl, hv⟩
      obtain ⟨hbv, tz⟩ := HBv.out v hv
      have hb3 : Below v.heap.size v (v.alloc (.cells #[.int .i64 cti, .bool cd, .int .i64 cl, .int .i64 ck, .int .i64 cn, .string cstr] 33)) := (Below.refl _ _).alloc (Nat.le_refl _) _
      have tz2 := tz.below hb3 tz.lt
      have HN : Hid (Below u2.heap.size u2 (v.alloc (.cells #[.int .i64 cti, .bool cd, .int .i64 cl, .int .i64 ck, .int .i64 cn, .string cstr] 33))) := hbv.alloc hbv.size _
      clear x0 x1 x2 x3 x4 x5 x6 x7 x8 x9 hb3
      obtain ⟨x0, x1, x2, x3, x4, x5, x6, x7, x8, x9⟩ := tz2
      simp only [Nat.zero_add] at x0 x1 x2 x3 x4 x5 x6 x7 x8 x9
      go_wp2_with fail
      go_roundw
      case rel => exact ⟨i + 1, by omega, by go_num, HN.out⟩
      case measure => simp [intOf]; omega
    · obtain rfl : i = la.length := by omega
      have hle : (la.length : Int) ≤ (ea.length : Int) := by have := PL2.out.1; omega
      have HB : Hid (Below w.heap.size w wr) := (HX1.out wr hbr).2.2
      go_wp2_with fail
      refine (LV.out _).mono ?_
      rintro e u3 ⟨rfl, hu3⟩
      go_wp2_with fail
      go_ret
      exact ⟨rfl, HB.out.trans (hu3.mono HB.out.size)⟩
end Go.Proofs.Ytkdeaogmifhnhaa.purgeLater
