/-
  THE LAW CellOrder: the walk.
-/
import Derived.Test.YtlbakepijncfgaaVerLives
import Derived.Deep.DeepCutAuto
namespace Go.Proofs.Ytlbakepijncfgaa.cellOrder
open Go.RowKit

attribute [local irreducible] wpQuiet
set_option maxRecDepth 100000 in
set_option maxHeartbeats 4000000 in
theorem walk (a b c : Vr) (w : World) (_ : InI a.time ∧ InI a.loc ∧ InI a.kind ∧ InI a.num) (ha : a.s.size ≤ 140737488355328) (_ : InI b.time ∧ InI b.loc ∧ InI b.kind ∧ InI b.num) (hb : b.s.size ≤ 140737488355328) (_ : InI c.time ∧ InI c.loc ∧ InI c.kind ∧ InI c.num) (_ : c.s.size ≤ 140737488355328) :
    Calls Try.prog 4 #[a.v, b.v, c.v] w fun e w' => e = .returned (.bool true) ∧ Below w.heap.size w w' := by
  have C12 : Hid (∀ w : World, Calls Try.prog 13 #[a.v, b.v] w fun x w' => x = .returned (.int .i64 (cv a b)) ∧ Below w.heap.size w w') := fun w => vcmp_any a b w
  have C21 : Hid (∀ w : World, Calls Try.prog 13 #[b.v, a.v] w fun x w' => x = .returned (.int .i64 (cv b a)) ∧ Below w.heap.size w w') := fun w => vcmp_any b a w
  have C11 : Hid (∀ w : World, Calls Try.prog 13 #[a.v, a.v] w fun x w' => x = .returned (.int .i64 (cv a a)) ∧ Below w.heap.size w w') := fun w => vcmp_any a a w
  have C23 : Hid (∀ w : World, Calls Try.prog 13 #[b.v, c.v] w fun x w' => x = .returned (.int .i64 (cv b c)) ∧ Below w.heap.size w w') := fun w => vcmp_any b c w
  have C13 : Hid (∀ w : World, Calls Try.prog 13 #[a.v, c.v] w fun x w' => x = .returned (.int .i64 (cv a c)) ∧ Below w.heap.size w w') := fun w => vcmp_any a c w
  have G1 : Hid (∀ w : World, Calls Try.prog 11 #[Cx.val ⟨⟨⟨#[116]⟩, ⟨#[120]⟩, 1, ⟨#[97]⟩⟩, a⟩] w fun x w' => x = .returned (.bool (goodC ⟨⟨⟨#[116]⟩, ⟨#[120]⟩, 1, ⟨#[97]⟩⟩, a⟩)) ∧ Below w.heap.size w w') := fun w => goodX_any _ w (by show (1 : Nat) ≤ _; decide) (by show (1 : Nat) ≤ _; decide) (by show (1 : Nat) ≤ _; decide) (by unfold maxLen; show a.s.size ≤ _; omega)
  have G2 : Hid (∀ w : World, Calls Try.prog 11 #[Cx.val ⟨⟨⟨#[116]⟩, ⟨#[120]⟩, 1, ⟨#[97]⟩⟩, b⟩] w fun x w' => x = .returned (.bool (goodC ⟨⟨⟨#[116]⟩, ⟨#[120]⟩, 1, ⟨#[97]⟩⟩, b⟩)) ∧ Below w.heap.size w w') := fun w => goodX_any _ w (by show (1 : Nat) ≤ _; decide) (by show (1 : Nat) ≤ _; decide) (by show (1 : Nat) ≤ _; decide) (by unfold maxLen; show b.s.size ≤ _; omega)
  have K1 : Hid (∀ w : World, Calls Try.prog 18 #[.string ⟨#[97]⟩] w fun x w' => x = .returned (Kb.v ⟨⟨#[116]⟩, ⟨#[120]⟩, 1, ⟨#[97]⟩⟩) ∧ Below w.heap.size w w') := fun w => lawKey_any _ w
  have LV : Hid (∀ w : World, Calls Try.prog 10 #[] w fun x w' => x = .returned (.bool true) ∧ Below w.heap.size w w') := lives_any
  have r12 := cv_r a b
  have n12 := cv_n a b
  have z11 : cv a a = 0 := cv_self a
  have T3 : Hid (cv a b ≤ 0 → cv b c ≤ 0 → cv a c ≤ 0) := cv_t a b c
  have GI : Hid (a ≠ b → goodC ⟨⟨⟨#[116]⟩, ⟨#[120]⟩, 1, ⟨#[97]⟩⟩, a⟩ = true → goodC ⟨⟨⟨#[116]⟩, ⟨#[120]⟩, 1, ⟨#[97]⟩⟩, b⟩ = true → cv a b ≠ 0) := fun h g1 g2 e => by
    unfold goodC at g1 g2
    rw [Bool.and_eq_true] at g1 g2
    exact h (good_inj g1.2 g2.2 e)
  generalize goodC ⟨⟨⟨#[116]⟩, ⟨#[120]⟩, 1, ⟨#[97]⟩⟩, a⟩ = g1 at *
  generalize goodC ⟨⟨⟨#[116]⟩, ⟨#[120]⟩, 1, ⟨#[97]⟩⟩, b⟩ = g2 at *
  have hwr : IntKind.i64.wrap (cv a b) = cv a b := by rw [IntKind.wrap_i64]; omega
  have hng : - cv b a = cv a b := by omega
  rw [z11] at C11
  have hz : Hid (a = b → cv a b = 0) := fun h => by rw [← h]; exact z11
  clear z11 n12
  generalize cv a b = R12 at *
  generalize cv b a = R21 at *
  generalize cv b c = R23 at *
  generalize cv a c = R13 at *
  obtain ⟨wa, hwa, va, vb, vc, _, hB⟩ := boxes3 w a b c
  have HE : Hid (∀ w' : World, Below wa.heap.size wa w' → Below w.heap.size w w') := fun w' h => hB.trans (h.mono hB.size)
  have VA : Hid (VAt wa w.heap.size 0 a) := va
  have VB : Hid (VAt wa (w.heap.size + 1) 0 b) := vb
  clear hB
  obtain ⟨t1, d1, l1, k1, n1, s1⟩ := a
  obtain ⟨t2, d2, l2, k2, n2, s2⟩ := b
  obtain ⟨t3, d3, l3, k3, n3, s3⟩ := c
  have hS1 : (s1.size : Int) ≤ 140737488355328 := by simp only at ha; omega
  have hS2 : (s2.size : Int) ≤ 140737488355328 := by simp only at hb; omega
  clear ha hb
  simp only [Vr.v, Vr.a, Cx.val, Cx.a, Kb.v] at C12 C21 C11 C23 C13 G1 G2 K1 hwa ⊢
  have p1 : ∀ q : Cl wa.heap.size wa, q.u.cell? ⟨w.heap.size, 0, none⟩ = some (.int .i64 t1) := fun q => (va.cl q).time
  have p2 : ∀ q : Cl wa.heap.size wa, q.u.cell? ⟨w.heap.size, 1, none⟩ = some (.bool d1) := fun q => (va.cl q).dead
  have p3 : ∀ q : Cl wa.heap.size wa, q.u.cell? ⟨w.heap.size, 2, none⟩ = some (.int .i64 l1) := fun q => (va.cl q).loc
  have p4 : ∀ q : Cl wa.heap.size wa, q.u.cell? ⟨w.heap.size, 3, none⟩ = some (.int .i64 k1) := fun q => (va.cl q).kind
  have p5 : ∀ q : Cl wa.heap.size wa, q.u.cell? ⟨w.heap.size, 4, none⟩ = some (.int .i64 n1) := fun q => (va.cl q).num
  have p6 : ∀ q : Cl wa.heap.size wa, q.u.cell? ⟨w.heap.size, 5, none⟩ = some (.string s1) := fun q => (va.cl q).s
  have r1 : ∀ q : Cl wa.heap.size wa, q.u.cell? ⟨w.heap.size + 1, 0, none⟩ = some (.int .i64 t2) := fun q => (vb.cl q).time
  have r2 : ∀ q : Cl wa.heap.size wa, q.u.cell? ⟨w.heap.size + 1, 1, none⟩ = some (.bool d2) := fun q => (vb.cl q).dead
  have r3 : ∀ q : Cl wa.heap.size wa, q.u.cell? ⟨w.heap.size + 1, 2, none⟩ = some (.int .i64 l2) := fun q => (vb.cl q).loc
  have r4 : ∀ q : Cl wa.heap.size wa, q.u.cell? ⟨w.heap.size + 1, 3, none⟩ = some (.int .i64 k2) := fun q => (vb.cl q).kind
  have r5 : ∀ q : Cl wa.heap.size wa, q.u.cell? ⟨w.heap.size + 1, 4, none⟩ = some (.int .i64 n2) := fun q => (vb.cl q).num
  have r6 : ∀ q : Cl wa.heap.size wa, q.u.cell? ⟨w.heap.size + 1, 5, none⟩ = some (.string s2) := fun q => (vb.cl q).s
  have z1 : ∀ q : Cl wa.heap.size wa, q.u.cell? ⟨w.heap.size + 1 + 1, 0, none⟩ = some (.int .i64 t3) := fun q => (vc.cl q).time
  have z2 : ∀ q : Cl wa.heap.size wa, q.u.cell? ⟨w.heap.size + 1 + 1, 1, none⟩ = some (.bool d3) := fun q => (vc.cl q).dead
  have z3 : ∀ q : Cl wa.heap.size wa, q.u.cell? ⟨w.heap.size + 1 + 1, 2, none⟩ = some (.int .i64 l3) := fun q => (vc.cl q).loc
  have z4 : ∀ q : Cl wa.heap.size wa, q.u.cell? ⟨w.heap.size + 1 + 1, 3, none⟩ = some (.int .i64 k3) := fun q => (vc.cl q).kind
  have z5 : ∀ q : Cl wa.heap.size wa, q.u.cell? ⟨w.heap.size + 1 + 1, 4, none⟩ = some (.int .i64 n3) := fun q => (vc.cl q).num
  have z6 : ∀ q : Cl wa.heap.size wa, q.u.cell? ⟨w.heap.size + 1 + 1, 5, none⟩ = some (.string s3) := fun q => (vc.cl q).s
  clear va vb vc
  haveI := Cl.inh wa.heap.size wa
  go_enter Try.func4, Try.ntmps4
  go_wp2_with fail
  rw [← hwa]
  clear hwa
  go_cut [39] from 8 to 40 (fun s39 wx => s39 = .bool false ∧ Below wa.heap.size wa wx)
  case first =>
    by_cases h12 : R12 ≤ 0
    · have d12 : decide (R12 ≤ 0) = true := decide_eq_true h12
      by_cases h23 : R23 ≤ 0
      · have d23 : decide (R23 ≤ 0) = true := decide_eq_true h23
        have h13 := T3.out h12 h23
        have d13 : decide (0 < R13) = false := decide_eq_false (by omega)
        clear T3 h12 h23 h13 r12 G1 G2 K1 LV GI hz
        refine wp_region_cl wa.heap.size (by kernel_rfl) (by kernel_rfl) ?_
        quiet_step (fail)
        quiet_step (fail)
        quiet_step ((go_at_call 13; exact Cl.calls (Nat.le_refl _) (C12.out _)))
        quiet_step (fail)
        quiet_step (fail)
        quiet_step ((go_at_call 13; exact Cl.calls (Nat.le_refl _) (C21.out _)))
        quiet_step (fail)
        quiet_step (fail)
        quiet_step (fail)
        quiet_step (fail)
        quiet_step (fail)
        quiet_step ((go_at_call 13; exact Cl.calls (Nat.le_refl _) (C11.out _)))
        quiet_step (fail)
        quiet_step (fail)
        quiet_step (fail)
        quiet_step (fail)
        quiet_step (fail)
        quiet_step ((go_at_call 13; exact Cl.calls (Nat.le_refl _) (C12.out _)))
        quiet_step (fail)
        quiet_step (fail)
        quiet_step (fail)
        quiet_step (fail)
        quiet_step ((go_at_call 13; exact Cl.calls (Nat.le_refl _) (C23.out _)))
        quiet_step (fail)
        quiet_step (fail)
        quiet_step (fail)
        quiet_step (fail)
        quiet_step (fail)
        quiet_step ((go_at_call 13; exact Cl.calls (Nat.le_refl _) (C13.out _)))
        quiet_step (fail)
        quiet_step (fail)
        quiet_step (fail)
        refine wpQuiet_nil ?_
        rintro w0 ⟨q, rfl⟩
        go_wp2_with fail
        go_meet
        case rel => exact ⟨rfl, q.h⟩
      · have d23 : decide (R23 ≤ 0) = false := decide_eq_false h23
        clear T3 h12 h23 r12 G1 G2 K1 LV GI hz
        refine wp_region_cl wa.heap.size (by kernel_rfl) (by kernel_rfl) ?_
        quiet_step (fail)
        quiet_step (fail)
        quiet_step ((go_at_call 13; exact Cl.calls (Nat.le_refl _) (C12.out _)))
        quiet_step (fail)
        quiet_step (fail)
        quiet_step ((go_at_call 13; exact Cl.calls (Nat.le_refl _) (C21.out _)))
        quiet_step (fail)
        quiet_step (fail)
        quiet_step (fail)
        quiet_step (fail)
        quiet_step (fail)
        quiet_step ((go_at_call 13; exact Cl.calls (Nat.le_refl _) (C11.out _)))
        quiet_step (fail)
        quiet_step (fail)
        quiet_step (fail)
        quiet_step (fail)
        quiet_step (fail)
        quiet_step ((go_at_call 13; exact Cl.calls (Nat.le_refl _) (C12.out _)))
        quiet_step (fail)
        quiet_step (fail)
        quiet_step (fail)
        quiet_step (fail)
        quiet_step ((go_at_call 13; exact Cl.calls (Nat.le_refl _) (C23.out _)))
        quiet_step (fail)
        quiet_step (fail)
        quiet_step (fail)
        quiet_step (fail)
        quiet_step (fail)
        quiet_step (fail)
        quiet_step (fail)
        quiet_step (fail)
        quiet_step (fail)
        refine wpQuiet_nil ?_
        rintro w0 ⟨q, rfl⟩
        go_wp2_with fail
        go_meet
        case rel => exact ⟨rfl, q.h⟩
    · have d12 : decide (R12 ≤ 0) = false := decide_eq_false h12
      clear T3 h12 r12 G1 G2 K1 LV GI hz
      refine wp_region_cl wa.heap.size (by kernel_rfl) (by kernel_rfl) ?_
      quiet_step (fail)
      quiet_step (fail)
      quiet_step ((go_at_call 13; exact Cl.calls (Nat.le_refl _) (C12.out _)))
      quiet_step (fail)
      quiet_step (fail)
      quiet_step ((go_at_call 13; exact Cl.calls (Nat.le_refl _) (C21.out _)))
      quiet_step (fail)
      quiet_step (fail)
      quiet_step (fail)
      quiet_step (fail)
      quiet_step (fail)
      quiet_step ((go_at_call 13; exact Cl.calls (Nat.le_refl _) (C11.out _)))
      quiet_step (fail)
      quiet_step (fail)
      quiet_step (fail)
      quiet_step (fail)
      quiet_step (fail)
      quiet_step ((go_at_call 13; exact Cl.calls (Nat.le_refl _) (C12.out _)))
      quiet_step (fail)
      quiet_step (fail)
      quiet_step (fail)
      quiet_step (fail)
      quiet_step (fail)
      quiet_step (fail)
      quiet_step (fail)
      quiet_step (fail)
      quiet_step (fail)
      quiet_step (fail)
      quiet_step (fail)
      quiet_step (fail)
      quiet_step (fail)
      quiet_step (fail)
      refine wpQuiet_nil ?_
      rintro w0 ⟨q, rfl⟩
      go_wp2_with fail
      go_meet
      case rel => exact ⟨rfl, q.h⟩
  case rest =>
    obtain ⟨rfl, hb0⟩ := hcut
    clear p1 p2 p3 p4 p5 p6 r1 r2 r3 r4 r5 r6 z1 z2 z3 z4 z5 z6 this hng hwr T3 r12
    generalize wc = w0 at *
    have va0 := VA.out.below hb0 VA.out.lt
    have vb0 := VB.out.below hb0 VB.out.lt
    have x6 := va0.s
    have y6 := vb0.s
    simp only [Nat.zero_add] at x6 y6
    by_cases hs : 5000 < (s1.size : Int) + (s2.size : Int)
    · have d : decide (5000 < (s1.size : Int) + (s2.size : Int)) = true := decide_eq_true hs
      go_wp2_with fail
      refine (LV.out _).mono ?_
      rintro x w9 ⟨rfl, hb9⟩
      go_wp2_with fail
      go_ret
      exact ⟨rfl, HE.out _ (hb0.trans (hb9.mono hb0.size))⟩
    have d : decide (5000 < (s1.size : Int) + (s2.size : Int)) = false := decide_eq_false hs
    go_wp2_with fail
    refine (K1.out _).mono ?_
    rintro x w1 ⟨rfl, hb1⟩
    go_wp2_with fail
    clear x6 y6 d hs hS1 hS2
    obtain ⟨wb, hwb⟩ : ∃ wb, wb = w1.alloc (.cells #[.string ⟨#[116]⟩, .string ⟨#[120]⟩, .int .i64 1, .string ⟨#[97]⟩] 23) := ⟨_, rfl⟩
    have hb2 : Below w0.heap.size w0 wb := by rw [hwb]; exact hb1.alloc hb1.size _
    have hkb : wb.heap[w1.heap.size]? = some (.cells #[.string ⟨#[116]⟩, .string ⟨#[120]⟩, .int .i64 1, .string ⟨#[97]⟩] 23) := by rw [hwb]; exact heap_alloc_new w1 _
    rw [← hwb]
    clear hwb
    have hlk : w1.heap.size < wb.heap.size := by
      rcases Nat.lt_or_ge w1.heap.size wb.heap.size with h | h
      · exact h
      · rw [Array.getElem?_eq_none h] at hkb; cases hkb
    generalize w1.heap.size = gk at *
    have va2 := va0.below hb2 va0.lt
    have vb2 := vb0.below hb2 vb0.lt
    have HE2 : Hid (∀ w' : World, Below wb.heap.size wb w' → Below w.heap.size w w') := fun w' h => HE.out _ (hb0.trans ((hb2.trans (h.mono hb2.size)).mono hb0.size))
    have e1 : ∀ q : Cl wb.heap.size wb, q.u.cell? ⟨gk, 0, none⟩ = some (.string ⟨#[116]⟩) := fun q => by rw [q.h.cell hlk]; simp [World.cell?, hkb]
    have e2 : ∀ q : Cl wb.heap.size wb, q.u.cell? ⟨gk, 1, none⟩ = some (.string ⟨#[120]⟩) := fun q => by rw [q.h.cell hlk]; simp [World.cell?, hkb]
    have e3 : ∀ q : Cl wb.heap.size wb, q.u.cell? ⟨gk, 2, none⟩ = some (.int .i64 1) := fun q => by rw [q.h.cell hlk]; simp [World.cell?, hkb]
    have e4 : ∀ q : Cl wb.heap.size wb, q.u.cell? ⟨gk, 3, none⟩ = some (.string ⟨#[97]⟩) := fun q => by rw [q.h.cell hlk]; simp [World.cell?, hkb]
    have p1 : ∀ q : Cl wb.heap.size wb, q.u.cell? ⟨w.heap.size, 0, none⟩ = some (.int .i64 t1) := fun q => (va2.cl q).time
    have p2 : ∀ q : Cl wb.heap.size wb, q.u.cell? ⟨w.heap.size, 1, none⟩ = some (.bool d1) := fun q => (va2.cl q).dead
    have p3 : ∀ q : Cl wb.heap.size wb, q.u.cell? ⟨w.heap.size, 2, none⟩ = some (.int .i64 l1) := fun q => (va2.cl q).loc
    have p4 : ∀ q : Cl wb.heap.size wb, q.u.cell? ⟨w.heap.size, 3, none⟩ = some (.int .i64 k1) := fun q => (va2.cl q).kind
    have p5 : ∀ q : Cl wb.heap.size wb, q.u.cell? ⟨w.heap.size, 4, none⟩ = some (.int .i64 n1) := fun q => (va2.cl q).num
    have p6 : ∀ q : Cl wb.heap.size wb, q.u.cell? ⟨w.heap.size, 5, none⟩ = some (.string s1) := fun q => (va2.cl q).s
    have r1 : ∀ q : Cl wb.heap.size wb, q.u.cell? ⟨w.heap.size + 1, 0, none⟩ = some (.int .i64 t2) := fun q => (vb2.cl q).time
    have r2 : ∀ q : Cl wb.heap.size wb, q.u.cell? ⟨w.heap.size + 1, 1, none⟩ = some (.bool d2) := fun q => (vb2.cl q).dead
    have r3 : ∀ q : Cl wb.heap.size wb, q.u.cell? ⟨w.heap.size + 1, 2, none⟩ = some (.int .i64 l2) := fun q => (vb2.cl q).loc
    have r4 : ∀ q : Cl wb.heap.size wb, q.u.cell? ⟨w.heap.size + 1, 3, none⟩ = some (.int .i64 k2) := fun q => (vb2.cl q).kind
    have r5 : ∀ q : Cl wb.heap.size wb, q.u.cell? ⟨w.heap.size + 1, 4, none⟩ = some (.int .i64 n2) := fun q => (vb2.cl q).num
    have r6 : ∀ q : Cl wb.heap.size wb, q.u.cell? ⟨w.heap.size + 1, 5, none⟩ = some (.string s2) := fun q => (vb2.cl q).s
    clear va0 vb0 va2 vb2 hkb hlk hb0 hb1 hb2 VA VB HE
    haveI := Cl.inh wb.heap.size wb
    go_cut [71] from 52 to 72 (fun s71 wx => s71 = .bool false ∧ Below wb.heap.size wb wx)
    case rest =>
      obtain ⟨rfl, hbq⟩ := hcut
      have hq := HE2.out _ hbq
      go_wp2_with fail
      refine (LV.out _).mono ?_
      rintro x w9 ⟨rfl, hb9⟩
      go_wp2_with fail
      go_ret
      exact ⟨rfl, hq.trans (hb9.mono hq.size)⟩
    case first =>
      cases g1
      · refine wp_region_cl wb.heap.size (by kernel_rfl) (by kernel_rfl) ?_
        quiet_step (fail)
        quiet_step (fail)
        quiet_step (fail)
        quiet_step ((go_at_call 11; exact Cl.calls (Nat.le_refl _) (G1.out _)))
        quiet_step (fail)
        quiet_step (fail)
        quiet_step (fail)
        quiet_step (fail)
        quiet_step (fail)
        quiet_step (fail)
        quiet_step (fail)
        quiet_step (fail)
        quiet_step (fail)
        quiet_step (fail)
        quiet_step (fail)
        quiet_step (fail)
        quiet_step (fail)
        quiet_step (fail)
        quiet_step (fail)
        quiet_step (fail)
        refine wpQuiet_nil ?_
        rintro w4 ⟨q, rfl⟩
        go_wp2_with fail
        go_meet
        case rel => exact ⟨rfl, q.h⟩
      cases g2
      · refine wp_region_cl wb.heap.size (by kernel_rfl) (by kernel_rfl) ?_
        quiet_step (fail)
        quiet_step (fail)
        quiet_step (fail)
        quiet_step ((go_at_call 11; exact Cl.calls (Nat.le_refl _) (G1.out _)))
        quiet_step (fail)
        quiet_step (fail)
        quiet_step (fail)
        quiet_step (fail)
        quiet_step ((go_at_call 11; exact Cl.calls (Nat.le_refl _) (G2.out _)))
        quiet_step (fail)
        quiet_step (fail)
        quiet_step (fail)
        quiet_step (fail)
        quiet_step (fail)
        quiet_step (fail)
        quiet_step (fail)
        quiet_step (fail)
        quiet_step (fail)
        quiet_step (fail)
        quiet_step (fail)
        refine wpQuiet_nil ?_
        rintro w4 ⟨q, rfl⟩
        go_wp2_with fail
        go_meet
        case rel => exact ⟨rfl, q.h⟩
      by_cases hab : (⟨t1, d1, l1, k1, n1, s1⟩ : Vr) = ⟨t2, d2, l2, k2, n2, s2⟩
      · have h0 := hz.out hab
        simp only [Vr.mk.injEq] at hab
        obtain ⟨rfl, rfl, rfl, rfl, rfl, rfl⟩ := hab
        subst h0
        refine wp_region_cl wb.heap.size (by kernel_rfl) (by kernel_rfl) ?_
        quiet_step (fail)
        quiet_step (fail)
        quiet_step (fail)
        quiet_step ((go_at_call 11; exact Cl.calls (Nat.le_refl _) (G1.out _)))
        quiet_step (fail)
        quiet_step (fail)
        quiet_step (fail)
        quiet_step (fail)
        quiet_step ((go_at_call 11; exact Cl.calls (Nat.le_refl _) (G2.out _)))
        quiet_step (fail)
        quiet_step (fail)
        quiet_step (fail)
        quiet_step (fail)
        quiet_step ((go_at_call 13; exact Cl.calls (Nat.le_refl _) (C12.out _)))
        quiet_step (fail)
        quiet_step (fail)
        quiet_step (fail)
        quiet_step (fail)
        quiet_step (fail)
        quiet_step (fail)
        refine wpQuiet_nil ?_
        rintro w4 ⟨q, rfl⟩
        go_wp2_with fail
        go_meet
        case rel => exact ⟨rfl, q.h⟩
      have hR := GI.out hab rfl rfl
      have hR0 : (R12 == 0) = false := beq_false_of_ne hR
      have hq0 : eqV ⟨t1, d1, l1, k1, n1, s1⟩ ⟨t2, d2, l2, k2, n2, s2⟩ = false := by
        cases he : eqV ⟨t1, d1, l1, k1, n1, s1⟩ ⟨t2, d2, l2, k2, n2, s2⟩ with
        | false => rfl
        | true => exact absurd ((eqV_iff _ _).1 he) hab
      clear GI hz hab
      refine wp_region_cl wb.heap.size (by kernel_rfl) (by kernel_rfl) ?_
      quiet_step (fail)
      quiet_step (fail)
      quiet_step (fail)
      quiet_step ((go_at_call 11; exact Cl.calls (Nat.le_refl _) (G1.out _)))
      quiet_step (fail)
      quiet_step (fail)
      quiet_step (fail)
      quiet_step (fail)
      quiet_step ((go_at_call 11; exact Cl.calls (Nat.le_refl _) (G2.out _)))
      quiet_step (fail)
      quiet_step (fail)
      quiet_step (fail)
      quiet_step (fail)
      quiet_step ((go_at_call 13; exact Cl.calls (Nat.le_refl _) (C12.out _)))
      quiet_step (fail)
      quiet_step (fail)
      quiet_step (fail)
      refine wpQuiet_step (fun K hK => ?_)
      go_simp
      refine ⟨.bool (eqV ⟨t1, d1, l1, k1, n1, s1⟩ ⟨t2, d2, l2, k2, n2, s2⟩), fun q => ?_, hK _ ?_⟩
      · rw [chain_next]; exact ⟨rfl, rfl⟩
      clear hK K
      rw [hq0]
      quiet_step (fail)
      quiet_step (fail)
      refine wpQuiet_nil ?_
      rintro w4 ⟨q, rfl⟩
      go_wp2_with fail
      go_meet
      case rel => exact ⟨rfl, q.h⟩
end Go.Proofs.Ytlbakepijncfgaa.cellOrder
