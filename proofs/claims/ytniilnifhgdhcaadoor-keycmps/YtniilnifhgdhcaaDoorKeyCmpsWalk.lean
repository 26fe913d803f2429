/-
  THE LAW KeyCmps: the walk.
-/
import Derived.Test.YtniilnifhgdhcaaDoorKeyAt
namespace Go.Proofs.YtniilnifhgdhcaaDoor.keyCmps
open Go.RowKit

set_option maxRecDepth 100000 in
set_option maxHeartbeats 2000000 in
theorem walk (a b c : Kb) (w : World) (_ : a.Fits) (_ : b.Fits) (_ : c.Fits) (he : Env w) :
    Calls Tryd.prog 4 #[a.v, b.v, c.v] w fun e w' => e = .returned (.bool true) ∧ Below w.heap.size w w' := by
  obtain ⟨wa, hwa⟩ : ∃ wa, wa = ((w.alloc (.cells #[.string a.t, .string a.p, .int .i64 a.r, .string a.c] 23)).alloc (.cells #[.string b.t, .string b.p, .int .i64 b.r, .string b.c] 23)).alloc (.cells #[.string c.t, .string c.p, .int .i64 c.r, .string c.c] 23) := ⟨_, rfl⟩
  have ka : KAt wa w.heap.size a := by rw [hwa]; exact ((KAt.new w a _).alloc _).alloc _
  have kb : KAt wa (w.heap.size + 1) b := by rw [hwa]; have := KAt.new (w.alloc (.cells #[.string a.t, .string a.p, .int .i64 a.r, .string a.c] 23)) b 23; rw [World.size_alloc] at this; exact this.alloc _
  have kcc : KAt wa (w.heap.size + 1 + 1) c := by rw [hwa]; have := KAt.new ((w.alloc (.cells #[.string a.t, .string a.p, .int .i64 a.r, .string a.c] 23)).alloc (.cells #[.string b.t, .string b.p, .int .i64 b.r, .string b.c] 23)) c 23; rw [World.size_alloc, World.size_alloc] at this; exact this
  have hB : Below w.heap.size w wa := by rw [hwa]; exact (((Below.refl _ _).alloc (Nat.le_refl _) _).alloc (by simp) _).alloc (by rw [World.size_alloc, World.size_alloc]; omega) _
  have C1 : Hid (∀ (t1 p1 : ByteArray) (r1 : Int) (c1 t2 p2 : ByteArray) (r2 : Int) (c2 : ByteArray) (w : World), Calls Tryd.prog 19 #[.agg #[.string t1, .string p1, .int .i64 r1, .string c1], .agg #[.string t2, .string p2, .int .i64 r2, .string c2]] w fun e w' => e = .returned (.int .i64 (kcB t1 p1 r1 c1 t2 p2 r2 c2)) ∧ Below w.heap.size w w') := cmpB_any
  have C2 : Hid (∀ (t1 p1 : ByteArray) (r1 : Int) (c1 t2 p2 : ByteArray) (r2 : Int) (c2 : ByteArray) (w : World), Calls Tryd.prog 20 #[.agg #[.string t1, .string p1, .int .i64 r1, .string c1], .agg #[.string t2, .string p2, .int .i64 r2, .string c2]] w fun e w' => e = .returned (.int .i64 (kcB t1 p1 r1 c1 t2 p2 r2 c2)) ∧ Below w.heap.size w w') := refCmpB_any
  have L : Hid (∀ w' : World, Below wa.heap.size wa w' → Calls Tryd.prog 10 #[] w' fun e w'' => e = .returned (.bool true) ∧ Below w'.heap.size w' w'') := fun w' h => lives_any w' (he.below (hB.trans (h.mono hB.size)))
  have HE : Hid (∀ w' : World, Below wa.heap.size wa w' → Below w.heap.size w w') := fun w' h => hB.trans (h.mono hB.size)
  have hE := eqK_kc a b
  have hxy := kc_cmpr.n b.ky a.ky
  have hr := kc_cmpr.r a.ky b.ky
  have hr2 := kc_cmpr.r b.ky a.ky
  have hT : Hid (kc a.ky b.ky ≤ 0 → kc b.ky c.ky ≤ 0 → kc a.ky c.ky ≤ 0) := kc_cmpr.t _ _ _
  clear he hB
  obtain ⟨t1, p1, r1, c1⟩ := a
  obtain ⟨t2, p2, r2, c2⟩ := b
  obtain ⟨t3, p3, r3, c3⟩ := c
  simp only [Kb.v, eqK] at *
  change (kcB t1 p1 r1 c1 t2 p2 r2 c2 == 0) = _ at hE
  change kcB t2 p2 r2 c2 t1 p1 r1 c1 = - kcB t1 p1 r1 c1 t2 p2 r2 c2 at hxy
  change kcB t1 p1 r1 c1 t2 p2 r2 c2 = -1 ∨ kcB t1 p1 r1 c1 t2 p2 r2 c2 = 0 ∨ kcB t1 p1 r1 c1 t2 p2 r2 c2 = 1 at hr
  change kcB t2 p2 r2 c2 t1 p1 r1 c1 = -1 ∨ kcB t2 p2 r2 c2 t1 p1 r1 c1 = 0 ∨ kcB t2 p2 r2 c2 t1 p1 r1 c1 = 1 at hr2
  change Hid (kcB t1 p1 r1 c1 t2 p2 r2 c2 ≤ 0 → kcB t2 p2 r2 c2 t3 p3 r3 c3 ≤ 0 → kcB t1 p1 r1 c1 t3 p3 r3 c3 ≤ 0) at hT
  have hw : IntKind.i64.wrap (kcB t1 p1 r1 c1 t2 p2 r2 c2) = kcB t1 p1 r1 c1 t2 p2 r2 c2 := by rw [IntKind.wrap_i64]; omega
  have hn : - kcB t2 p2 r2 c2 t1 p1 r1 c1 = kcB t1 p1 r1 c1 t2 p2 r2 c2 := by omega
  clear hxy hr hr2
  have KA : Hid (KAt wa w.heap.size ⟨t1, p1, r1, c1⟩) := ka
  have KB : Hid (KAt wa (w.heap.size + 1) ⟨t2, p2, r2, c2⟩) := kb
  have KC : Hid (KAt wa (w.heap.size + 1 + 1) ⟨t3, p3, r3, c3⟩) := kcc
  have q1 : ∀ q : Cl wa.heap.size wa, q.u.cell? ⟨w.heap.size, 0, none⟩ = some (.string t1) := fun q => (ka.below q.h ka.lt).t
  have q2 : ∀ q : Cl wa.heap.size wa, q.u.cell? ⟨w.heap.size, 1, none⟩ = some (.string p1) := fun q => (ka.below q.h ka.lt).p
  have q3 : ∀ q : Cl wa.heap.size wa, q.u.cell? ⟨w.heap.size, 2, none⟩ = some (.int .i64 r1) := fun q => (ka.below q.h ka.lt).r
  have q4 : ∀ q : Cl wa.heap.size wa, q.u.cell? ⟨w.heap.size, 3, none⟩ = some (.string c1) := fun q => (ka.below q.h ka.lt).c
  have q5 : ∀ q : Cl wa.heap.size wa, q.u.cell? ⟨w.heap.size + 1, 0, none⟩ = some (.string t2) := fun q => (kb.below q.h kb.lt).t
  have q6 : ∀ q : Cl wa.heap.size wa, q.u.cell? ⟨w.heap.size + 1, 1, none⟩ = some (.string p2) := fun q => (kb.below q.h kb.lt).p
  have q7 : ∀ q : Cl wa.heap.size wa, q.u.cell? ⟨w.heap.size + 1, 2, none⟩ = some (.int .i64 r2) := fun q => (kb.below q.h kb.lt).r
  have q8 : ∀ q : Cl wa.heap.size wa, q.u.cell? ⟨w.heap.size + 1, 3, none⟩ = some (.string c2) := fun q => (kb.below q.h kb.lt).c
  clear ka kb kcc
  haveI := Cl.inh wa.heap.size wa
  go_enter Tryd.func4, Tryd.ntmps4
  go_wp2_with fail
  rw [← hwa]
  clear hwa
  refine wp_region_cl wa.heap.size (by kernel_rfl) (by kernel_rfl) ?_
  repeat (quiet_step (first | (go_at_call 20; exact Cl.calls (Nat.le_refl _) (C2.out _ _ _ _ _ _ _ _ _)) | (go_at_call 19; exact Cl.calls (Nat.le_refl _) (C1.out _ _ _ _ _ _ _ _ _))))
  refine wpQuiet_step (fun K hK => ?_)
  go_simp
  refine ⟨.bool (kcB t1 p1 r1 c1 t2 p2 r2 c2 == 0), fun q => ?_, hK _ ?_⟩
  · rw [hE]
    by_cases e1 : t1.toList = t2.toList <;> by_cases e2 : p1.toList = p2.toList <;> by_cases e3 : r1 = r2 <;> by_cases e4 : c1.toList = c2.toList <;> simp [e1, e2, e3, e4]
  clear hK K
  repeat (quiet_step (fail))
  refine wpQuiet_nil ?_
  rintro w0 ⟨q, hq⟩
  have hb0 : Below wa.heap.size wa w0 := by rw [hq]; exact q.h
  clear hq q
  clear q1 q2 q3 q4 q5 q6 q7 q8 hn hw hE this
  have HQ : Hid (∀ w' : World, Below wa.heap.size wa w' → (w'.cell? ⟨w.heap.size, 0, none⟩ = some (.string t1) ∧ w'.cell? ⟨w.heap.size, 1, none⟩ = some (.string p1) ∧ w'.cell? ⟨w.heap.size, 2, none⟩ = some (.int .i64 r1) ∧ w'.cell? ⟨w.heap.size, 3, none⟩ = some (.string c1)) ∧ (w'.cell? ⟨w.heap.size + 1, 0, none⟩ = some (.string t2) ∧ w'.cell? ⟨w.heap.size + 1, 1, none⟩ = some (.string p2) ∧ w'.cell? ⟨w.heap.size + 1, 2, none⟩ = some (.int .i64 r2) ∧ w'.cell? ⟨w.heap.size + 1, 3, none⟩ = some (.string c2)) ∧ (w'.cell? ⟨w.heap.size + 1 + 1, 0, none⟩ = some (.string t3) ∧ w'.cell? ⟨w.heap.size + 1 + 1, 1, none⟩ = some (.string p3) ∧ w'.cell? ⟨w.heap.size + 1 + 1, 2, none⟩ = some (.int .i64 r3) ∧ w'.cell? ⟨w.heap.size + 1 + 1, 3, none⟩ = some (.string c3))) := fun w' h => by
    have k1 := KA.out.below h KA.out.lt
    have k2 := KB.out.below h KB.out.lt
    have k3 := KC.out.below h KC.out.lt
    exact ⟨⟨k1.t, k1.p, k1.r, k1.c⟩, ⟨k2.t, k2.p, k2.r, k2.c⟩, ⟨k3.t, k3.p, k3.r, k3.c⟩⟩
  clear KA KB KC C2
  have Q0 := HQ.out w0 hb0
  obtain ⟨⟨x1, x2, x3, x4⟩, ⟨y1, y2, y3, y4⟩, -⟩ := Q0
  by_cases h1 : kcB t1 p1 r1 c1 t2 p2 r2 c2 ≤ 0
  · have d1 : decide (kcB t1 p1 r1 c1 t2 p2 r2 c2 ≤ 0) = true := decide_eq_true h1
    by_cases h2 : kcB t2 p2 r2 c2 t3 p3 r3 c3 ≤ 0
    · have d2 : decide (kcB t2 p2 r2 c2 t3 p3 r3 c3 ≤ 0) = true := decide_eq_true h2
      have h3 := hT.out h1 h2
      have d3 : decide (0 < kcB t1 p1 r1 c1 t3 p3 r3 c3) = false := decide_eq_false (by omega)
      clear hT h1 h2 h3
      go_wp2_with fail
      refine (C1.out _ _ _ _ _ _ _ _ _).mono ?_
      rintro e w1 ⟨rfl, hb1⟩
      have hb1' : Below wa.heap.size wa w1 := hb0.trans (hb1.mono hb0.size)
      have Q1 := HQ.out w1 hb1'
      obtain ⟨-, ⟨y11, y12, y13, y14⟩, ⟨z11, z12, z13, z14⟩⟩ := Q1
      clear x1 x2 x3 x4 y1 y2 y3 y4 hb0 hb1
      go_wp2_with fail
      refine (C1.out _ _ _ _ _ _ _ _ _).mono ?_
      rintro e w2 ⟨rfl, hb2⟩
      have hb2' : Below wa.heap.size wa w2 := hb1'.trans (hb2.mono hb1'.size)
      have Q2 := HQ.out w2 hb2'
      obtain ⟨⟨x21, x22, x23, x24⟩, -, ⟨z21, z22, z23, z24⟩⟩ := Q2
      clear y11 y12 y13 y14 z11 z12 z13 z14 hb1' hb2
      go_wp2_with fail
      refine (C1.out _ _ _ _ _ _ _ _ _).mono ?_
      rintro e w3 ⟨rfl, hb3⟩
      have hb3' : Below wa.heap.size wa w3 := hb2'.trans (hb3.mono hb2'.size)
      clear x21 x22 x23 x24 z21 z22 z23 z24 hb2' hb3
      go_wp2_with fail
      refine (L.out w3 hb3').mono ?_
      rintro e w4 ⟨rfl, hb4⟩
      go_wp2_with fail
      go_ret
      exact ⟨rfl, HE.out _ (hb3'.trans (hb4.mono hb3'.size))⟩
    · have d2 : decide (kcB t2 p2 r2 c2 t3 p3 r3 c3 ≤ 0) = false := decide_eq_false h2
      clear hT h1 h2
      go_wp2_with fail
      refine (C1.out _ _ _ _ _ _ _ _ _).mono ?_
      rintro e w1 ⟨rfl, hb1⟩
      have hb1' : Below wa.heap.size wa w1 := hb0.trans (hb1.mono hb0.size)
      have Q1 := HQ.out w1 hb1'
      obtain ⟨-, ⟨y11, y12, y13, y14⟩, ⟨z11, z12, z13, z14⟩⟩ := Q1
      clear x1 x2 x3 x4 y1 y2 y3 y4 hb0 hb1
      go_wp2_with fail
      refine (C1.out _ _ _ _ _ _ _ _ _).mono ?_
      rintro e w2 ⟨rfl, hb2⟩
      have hb2' : Below wa.heap.size wa w2 := hb1'.trans (hb2.mono hb1'.size)
      clear y11 y12 y13 y14 z11 z12 z13 z14 hb1' hb2
      go_wp2_with fail
      refine (L.out w2 hb2').mono ?_
      rintro e w4 ⟨rfl, hb4⟩
      go_wp2_with fail
      go_ret
      exact ⟨rfl, HE.out _ (hb2'.trans (hb4.mono hb2'.size))⟩
  · have d1 : decide (kcB t1 p1 r1 c1 t2 p2 r2 c2 ≤ 0) = false := decide_eq_false h1
    clear hT h1
    go_wp2_with fail
    refine (C1.out _ _ _ _ _ _ _ _ _).mono ?_
    rintro e w1 ⟨rfl, hb1⟩
    have hb1' : Below wa.heap.size wa w1 := hb0.trans (hb1.mono hb0.size)
    clear x1 x2 x3 x4 y1 y2 y3 y4 hb0 hb1
    go_wp2_with fail
    refine (L.out w1 hb1').mono ?_
    rintro e w4 ⟨rfl, hb4⟩
    go_wp2_with fail
    go_ret
    exact ⟨rfl, HE.out _ (hb1'.trans (hb4.mono hb1'.size))⟩
end Go.Proofs.YtniilnifhgdhcaaDoor.keyCmps
