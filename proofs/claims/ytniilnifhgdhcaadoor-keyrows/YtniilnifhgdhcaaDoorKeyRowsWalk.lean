/-
  THE LAW KeyRows: the walk.
-/
import Derived.Test.YtniilnifhgdhcaaDoorKeyAt
namespace Go.Proofs.YtniilnifhgdhcaaDoor.keyRows
open Go.RowKit

set_option maxRecDepth 100000 in
set_option maxHeartbeats 2000000 in
theorem walk (a b : Kb) (w : World) (_ : a.Fits) (_ : b.Fits) (he : Env w) :
    Calls Tryd.prog 8 #[a.v, b.v] w fun e w' => e = .returned (.bool true) ∧ Below w.heap.size w w' := by
  obtain ⟨t1, p1, r1, c1⟩ := a
  obtain ⟨t2, p2, r2, c2⟩ := b
  obtain ⟨wa, hwa⟩ : ∃ wa, wa = (w.alloc (.cells #[.string t1, .string p1, .int .i64 r1, .string c1] 23)).alloc (.cells #[.string t2, .string p2, .int .i64 r2, .string c2] 23) := ⟨_, rfl⟩
  have ka : KAt wa w.heap.size ⟨t1, p1, r1, c1⟩ := by rw [hwa]; exact (KAt.new w ⟨t1, p1, r1, c1⟩ _).alloc _
  have hbh : wa.heap[w.heap.size + 1]? = some (.cells #[.string t2, .string p2, .int .i64 r2, .string c2] 23) := by
    rw [hwa]; have := heap_alloc_new (w.alloc (.cells #[.string t1, .string p1, .int .i64 r1, .string c1] 23)) (.cells #[.string t2, .string p2, .int .i64 r2, .string c2] 23); rwa [World.size_alloc] at this
  have hB : Below w.heap.size w wa := by rw [hwa]; exact ((Below.refl _ _).alloc (Nat.le_refl _) _).alloc (by simp) _
  have hsz : wa.heap.size = w.heap.size + 1 + 1 := by rw [hwa, World.size_alloc, World.size_alloc]
  have R1 : Hid (∀ (t p : ByteArray) (r : Int) (c : ByteArray) (w : World), Calls Tryd.prog 15 #[.agg #[.string t, .string p, .int .i64 r, .string c]] w fun e w' => e = .returned (.agg #[.string t, .string p, .int .i64 r, .string ⟨#[]⟩]) ∧ Below w.heap.size w w') := fun t p r c w => row_any ⟨t, p, r, c⟩ w
  have C1 : Hid (∀ (t1 p1 : ByteArray) (r1 : Int) (c1 t2 p2 : ByteArray) (r2 : Int) (c2 : ByteArray) (w : World), Calls Tryd.prog 19 #[.agg #[.string t1, .string p1, .int .i64 r1, .string c1], .agg #[.string t2, .string p2, .int .i64 r2, .string c2]] w fun e w' => e = .returned (.int .i64 (kcB t1 p1 r1 c1 t2 p2 r2 c2)) ∧ Below w.heap.size w w') := cmpB_any
  have L : Hid (∀ w' : World, Below w.heap.size w w' → Calls Tryd.prog 10 #[] w' fun e w'' => e = .returned (.bool true) ∧ Below w'.heap.size w' w'') := fun w' h => lives_any w' (he.below h)
  have hle := mark_le (Kb.ky ⟨t1, p1, r1, c1⟩)
  change kcB t1 p1 r1 ⟨#[]⟩ t1 p1 r1 c1 ≤ 0 at hle
  have hd : decide (0 < kcB t1 p1 r1 ⟨#[]⟩ t1 p1 r1 c1) = false := decide_eq_false (by omega)
  have hE : (kcB t1 p1 r1 ⟨#[]⟩ t1 p1 r1 c1 == 0) = c1.toList.isEmpty := by
    have hz := mark_zero (Kb.ky ⟨t1, p1, r1, c1⟩)
    change kcB t1 p1 r1 ⟨#[]⟩ t1 p1 r1 c1 = 0 ↔ nb c1 = [] at hz
    rw [ba_isEmpty, Bool.eq_iff_iff, beq_iff_eq, decide_eq_true_eq, hz, nb_empty]
  have hlt1 : Hid (r2 < r1 → kcB t1 p1 r2 c2 t1 p1 r1 ⟨#[]⟩ = -1) := fun h => row_lt (a := Kb.ky ⟨t1, p1, r2, c2⟩) (b := Kb.ky ⟨t1, p1, r1, ⟨#[]⟩⟩) rfl rfl h
  have hlt2 : Hid (r1 < r2 → kcB t1 p1 r1 ⟨#[]⟩ t1 p1 r2 c2 = -1) := fun h => row_lt (a := Kb.ky ⟨t1, p1, r1, ⟨#[]⟩⟩) (b := Kb.ky ⟨t1, p1, r2, c2⟩) rfl rfl h
  have KA : Hid (KAt wa w.heap.size ⟨t1, p1, r1, c1⟩) := ka
  have HB : Hid (wa.heap[w.heap.size + 1]? = some (.cells #[.string t2, .string p2, .int .i64 r2, .string c2] 23)) := hbh
  have HW : Hid (Below w.heap.size w wa) := hB
  have HZ : Hid (wa.heap.size = w.heap.size + 1 + 1) := hsz
  have k0 := ka.t
  have k1 := ka.p
  have k2 := ka.r
  have k3 := ka.c
  clear ka hbh hB hsz hle he
  simp only [Kb.v]
  go_enter Tryd.func8, Tryd.ntmps8
  go_wp2_with fail
  rw [← hwa]
  clear hwa
  refine (R1.out _ _ _ _ _).mono ?_
  rintro e w1 ⟨rfl, hb1⟩
  clear k0 k1 k2 k3
  go_wp2_with fail
  obtain ⟨wm, hwm⟩ : ∃ wm, wm = w1.alloc (.cells #[.string t1, .string p1, .int .i64 r1, .string ⟨#[]⟩] 23) := ⟨_, rfl⟩
  rw [← hwm]
  have hbm : Below wa.heap.size wa wm := by rw [hwm]; exact hb1.alloc hb1.size _
  have km : KAt wm w1.heap.size ⟨t1, p1, r1, ⟨#[]⟩⟩ := by rw [hwm]; exact KAt.new w1 ⟨t1, p1, r1, ⟨#[]⟩⟩ _
  have ka := KA.out.below hbm KA.out.lt
  have hbh : wm.heap[w.heap.size + 1]? = some (.cells #[.string t2, .string p2, .int .i64 r2, .string c2] 23) := by rw [hbm.block _ (by rw [HZ.out]; omega), HB.out]
  have hne : w.heap.size + 1 < w1.heap.size := by have := hb1.size; rw [HZ.out] at this; omega
  have HM : Hid (Below w.heap.size w wm) := HW.out.trans (hbm.mono HW.out.size)
  have hlw : w.heap.size + 1 < wm.heap.size := by rw [hwm, World.size_alloc]; omega
  have q1 : ∀ q : Cl wm.heap.size wm, q.u.cell? ⟨w.heap.size, 0, none⟩ = some (.string t1) := fun q => (ka.below q.h ka.lt).t
  have q2 : ∀ q : Cl wm.heap.size wm, q.u.cell? ⟨w.heap.size, 1, none⟩ = some (.string p1) := fun q => (ka.below q.h ka.lt).p
  have q3 : ∀ q : Cl wm.heap.size wm, q.u.cell? ⟨w.heap.size, 2, none⟩ = some (.int .i64 r1) := fun q => (ka.below q.h ka.lt).r
  have q4 : ∀ q : Cl wm.heap.size wm, q.u.cell? ⟨w.heap.size, 3, none⟩ = some (.string c1) := fun q => (ka.below q.h ka.lt).c
  have q5 : ∀ q : Cl wm.heap.size wm, q.u.cell? ⟨w1.heap.size, 0, none⟩ = some (.string t1) := fun q => (km.below q.h km.lt).t
  have q6 : ∀ q : Cl wm.heap.size wm, q.u.cell? ⟨w1.heap.size, 1, none⟩ = some (.string p1) := fun q => (km.below q.h km.lt).p
  have q7 : ∀ q : Cl wm.heap.size wm, q.u.cell? ⟨w1.heap.size, 2, none⟩ = some (.int .i64 r1) := fun q => (km.below q.h km.lt).r
  have q8 : ∀ q : Cl wm.heap.size wm, q.u.cell? ⟨w1.heap.size, 3, none⟩ = some (.string ⟨#[]⟩) := fun q => (km.below q.h km.lt).c
  have KA2 : Hid (KAt wm w.heap.size ⟨t1, p1, r1, c1⟩) := ka
  have KM2 : Hid (KAt wm w1.heap.size ⟨t1, p1, r1, ⟨#[]⟩⟩) := km
  have HB2 : Hid (wm.heap[w.heap.size + 1]? = some (.cells #[.string t2, .string p2, .int .i64 r2, .string c2] 23)) := hbh
  have HN : Hid (w.heap.size + 1 < w1.heap.size) := hne
  have HL : Hid (w.heap.size + 1 < wm.heap.size) := hlw
  clear hwm hbm km ka hbh hne hb1 hlw KA HB HW HZ
  haveI := Cl.inh wm.heap.size wm
  refine wp_region_cl wm.heap.size (by kernel_rfl) (by kernel_rfl) ?_
  repeat (quiet_step (first | (go_at_call 15; exact Cl.calls (Nat.le_refl _) (R1.out _ _ _ _ _)) | (go_at_call 19; exact Cl.calls (Nat.le_refl _) (C1.out _ _ _ _ _ _ _ _ _))))
  refine wpQuiet_nil ?_
  rintro w2 ⟨q, hq⟩
  have hb2 : Below wm.heap.size wm w2 := by rw [hq]; exact q.h
  clear hq q q1 q2 q3 q4 q5 q6 q7 q8 this hd hE R1
  have ka := KA2.out.below hb2 KA2.out.lt
  have km := KM2.out.below hb2 KM2.out.lt
  have hbh : w2.heap[w.heap.size + 1]? = some (.cells #[.string t2, .string p2, .int .i64 r2, .string c2] 23) := by rw [hb2.block _ HL.out, HB2.out]
  have hw2 : Below w.heap.size w w2 := HM.out.trans (hb2.mono HM.out.size)
  have f0 : w2.frozen? ⟨w.heap.size + 1, 0, none⟩ = false := frozen_of hbh 0
  have f1 : w2.frozen? ⟨w.heap.size + 1, 1, none⟩ = false := frozen_of hbh 1
  have kb : KAt w2 (w.heap.size + 1) ⟨t2, p2, r2, c2⟩ := KAt.of hbh
  have b0 := kb.t
  have b1 := kb.p
  have a0 := ka.t
  have a1 := ka.p
  have HF : Hid (∀ w3 : World, (w3 = (w2.setCell ⟨w.heap.size + 1, 0, none⟩ (.string t1)).setCell ⟨w.heap.size + 1, 1, none⟩ (.string p1) ∨ w3 = (w2.setCell ⟨w.heap.size + 1, 1, none⟩ (.string p1)).setCell ⟨w.heap.size + 1, 0, none⟩ (.string t1)) → KAt w3 w.heap.size ⟨t1, p1, r1, c1⟩ ∧ KAt w3 (w.heap.size + 1) ⟨t1, p1, r2, c2⟩ ∧ KAt w3 w1.heap.size ⟨t1, p1, r1, ⟨#[]⟩⟩ ∧ Below w.heap.size w w3) := by
    have h1 := HN.out
    rintro w3 (rfl | rfl)
    · exact ⟨(ka.setOther _ (by simp)).setOther _ (by simp), set_two hbh t1 p1, (km.setOther _ (by simp only; omega)).setOther _ (by simp only; omega), (hw2.setCell (by simp) _).setCell (by simp) _⟩
    · exact ⟨(ka.setOther _ (by simp)).setOther _ (by simp), set_two' hbh t1 p1, (km.setOther _ (by simp only; omega)).setOther _ (by simp only; omega), (hw2.setCell (by simp) _).setCell (by simp) _⟩
  clear ka km hbh hw2 kb hb2 KA2 KM2 HB2 HM HN HL
  go_wp2_with fail
  go_region
  all_goals
    obtain ⟨ka, kb, km, hb3⟩ := HF.out _ (by first | exact Or.inl rfl | exact Or.inr rfl)
    have hb3 := hb3.drew
    have ka : KAt _ w.heap.size ⟨t1, p1, r1, c1⟩ := ka.below ((Below.refl _ _).drew) ka.lt
    have kb : KAt _ (w.heap.size + 1) ⟨t1, p1, r2, c2⟩ := kb.below ((Below.refl _ _).drew) kb.lt
    have km : KAt _ w1.heap.size ⟨t1, p1, r1, ⟨#[]⟩⟩ := km.below ((Below.refl _ _).drew) km.lt
    clear HF f0 f1 b0 b1 a0 a1
    revert ka kb km hb3
    generalize World.drew _ = w3
    intro hb3 ka kb km
    have a2 := ka.r
    have b0 := kb.t
    have b1 := kb.p
    have b2 := kb.r
    have b3 := kb.c
    have m0 := km.t
    have m1 := km.p
    have m2 := km.r
    have m3 := km.c
    have KA : Hid (KAt w3 w.heap.size ⟨t1, p1, r1, c1⟩) := ka
    have KB : Hid (KAt w3 (w.heap.size + 1) ⟨t1, p1, r2, c2⟩) := kb
    clear ka kb km
    rcases Int.lt_trichotomy r2 r1 with h | h | h
    · have d1 : decide (r1 ≤ r2) = false := decide_eq_false (by omega)
      have e1 := hlt1.out h
      have d2 : decide (r2 ≤ r1) = true := decide_eq_true (by omega)
      clear h hlt1 hlt2
      go_wp2_with fail
      refine (C1.out _ _ _ _ _ _ _ _ _).mono ?_
      rintro e w4 ⟨rfl, hb4⟩
      rw [e1]
      have ka4 := (KA.out.below hb4 KA.out.lt).r
      have kb4 := (KB.out.below hb4 KB.out.lt).r
      have hb4' : Below w.heap.size w w4 := hb3.trans (hb4.mono hb3.size)
      clear a2 b0 b1 b2 b3 m0 m1 m2 m3 hb3 hb4
      go_wp2_with fail
      refine (L.out w4 hb4').mono ?_
      rintro e w5 ⟨rfl, hb5⟩
      go_wp2_with fail
      go_ret
      exact ⟨rfl, hb4'.trans (hb5.mono hb4'.size)⟩
    · subst h
      clear hlt1 hlt2
      go_wp2_with fail
      refine (L.out w3 hb3).mono ?_
      rintro e w5 ⟨rfl, hb5⟩
      go_wp2_with fail
      go_ret
      exact ⟨rfl, hb3.trans (hb5.mono hb3.size)⟩
    · have d1 : decide (r1 ≤ r2) = true := decide_eq_true (by omega)
      have e1 := hlt2.out h
      have d2 : decide (r2 ≤ r1) = false := decide_eq_false (by omega)
      clear h hlt1 hlt2
      go_wp2_with fail
      refine (C1.out _ _ _ _ _ _ _ _ _).mono ?_
      rintro e w4 ⟨rfl, hb4⟩
      rw [e1]
      have hb4' : Below w.heap.size w w4 := hb3.trans (hb4.mono hb3.size)
      clear a2 b0 b1 b2 b3 m0 m1 m2 m3 hb3 hb4
      go_wp2_with fail
      refine (L.out w4 hb4').mono ?_
      rintro e w5 ⟨rfl, hb5⟩
      go_wp2_with fail
      go_ret
      exact ⟨rfl, hb4'.trans (hb5.mono hb4'.size)⟩
end Go.Proofs.YtniilnifhgdhcaaDoor.keyRows
