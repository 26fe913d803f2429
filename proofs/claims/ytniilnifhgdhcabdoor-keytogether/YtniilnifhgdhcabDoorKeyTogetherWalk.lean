/-
  THE LAW KeyTogether: the walk.
-/
import Derived.Test.YtniilnifhgdhcabDoorKeyAt
namespace Go.Proofs.YtniilnifhgdhcabDoor.keyTogether
open Go.RowKit

set_option maxRecDepth 100000 in
set_option maxHeartbeats 2000000 in
theorem walk (a b c : Kb) (w : World) (_ : a.Fits) (_ : b.Fits) (_ : c.Fits) (he : Env w) :
    Calls Tryd.prog 3 #[a.v, b.v, c.v] w fun e w' => e = .returned (.bool true) ∧ Below w.heap.size w w' := by
  obtain ⟨t1, p1, r1, c1⟩ := a
  obtain ⟨t2, p2, r2, c2⟩ := b
  obtain ⟨t3, p3, r3, c3⟩ := c
  obtain ⟨wa, hwa⟩ : ∃ wa, wa = ((w.alloc (.cells #[.string t1, .string p1, .int .i64 r1, .string c1] 23)).alloc (.cells #[.string t2, .string p2, .int .i64 r2, .string c2] 23)).alloc (.cells #[.string t3, .string p3, .int .i64 r3, .string c3] 23) := ⟨_, rfl⟩
  have ka : KAt wa w.heap.size ⟨t1, p1, r1, c1⟩ := by rw [hwa]; exact ((KAt.new w ⟨t1, p1, r1, c1⟩ _).alloc _).alloc _
  have hbh : wa.heap[w.heap.size + 1]? = some (.cells #[.string t2, .string p2, .int .i64 r2, .string c2] 23) := by
    rw [hwa, Below.heap_alloc _ _ _ (by rw [World.size_alloc, World.size_alloc]; omega)]; have := heap_alloc_new (w.alloc (.cells #[.string t1, .string p1, .int .i64 r1, .string c1] 23)) (.cells #[.string t2, .string p2, .int .i64 r2, .string c2] 23); rwa [World.size_alloc] at this
  have kcc : KAt wa (w.heap.size + 1 + 1) ⟨t3, p3, r3, c3⟩ := by rw [hwa]; have := KAt.new ((w.alloc (.cells #[.string t1, .string p1, .int .i64 r1, .string c1] 23)).alloc (.cells #[.string t2, .string p2, .int .i64 r2, .string c2] 23)) ⟨t3, p3, r3, c3⟩ 23; rw [World.size_alloc, World.size_alloc] at this; exact this
  have hB : Below w.heap.size w wa := by rw [hwa]; exact (((Below.refl _ _).alloc (Nat.le_refl _) _).alloc (by simp) _).alloc (by rw [World.size_alloc, World.size_alloc]; omega) _
  have C1 : Hid (∀ (t1 p1 : ByteArray) (r1 : Int) (c1 t2 p2 : ByteArray) (r2 : Int) (c2 : ByteArray) (w : World), Calls Tryd.prog 4 #[.agg #[.string t1, .string p1, .int .i64 r1, .string c1], .agg #[.string t2, .string p2, .int .i64 r2, .string c2]] w fun e w' => e = .returned (.int .i64 (kcB t1 p1 r1 c1 t2 p2 r2 c2)) ∧ Below w.heap.size w w') := cmpB_any
  have L : Hid (∀ w' : World, Below w.heap.size w w' → Calls Tryd.prog 5 #[] w' fun e w'' => e = .returned (.bool true) ∧ Below w'.heap.size w' w'') := fun w' h => lives_any w' (he.below h)
  have HT : Hid (kcB t1 p1 r1 c1 t3 p3 r3 c3 ≤ 0 → kcB t3 p3 r3 c3 t1 p1 r2 c2 ≤ 0 → t3 = t1 ∧ p3 = p1 ∧ (r1 = r2 → r3 = r1)) := fun h g => by
    obtain ⟨x1, x2, x3⟩ := between (a := Kb.ky ⟨t1, p1, r1, c1⟩) (b := Kb.ky ⟨t1, p1, r2, c2⟩) (c := Kb.ky ⟨t3, p3, r3, c3⟩) rfl rfl h g
    exact ⟨nb_inj.1 x1, nb_inj.1 x2, x3⟩
  have f0 : wa.frozen? ⟨w.heap.size + 1, 0, none⟩ = false := frozen_of hbh 0
  have f1 : wa.frozen? ⟨w.heap.size + 1, 1, none⟩ = false := frozen_of hbh 1
  have kb : KAt wa (w.heap.size + 1) ⟨t2, p2, r2, c2⟩ := KAt.of hbh
  have b0 := kb.t
  have b1 := kb.p
  have a0 := ka.t
  have a1 := ka.p
  have HF : Hid (∀ w3 : World, (w3 = (wa.setCell ⟨w.heap.size + 1, 0, none⟩ (.string t1)).setCell ⟨w.heap.size + 1, 1, none⟩ (.string p1) ∨ w3 = (wa.setCell ⟨w.heap.size + 1, 1, none⟩ (.string p1)).setCell ⟨w.heap.size + 1, 0, none⟩ (.string t1)) → KAt w3 w.heap.size ⟨t1, p1, r1, c1⟩ ∧ KAt w3 (w.heap.size + 1) ⟨t1, p1, r2, c2⟩ ∧ KAt w3 (w.heap.size + 1 + 1) ⟨t3, p3, r3, c3⟩ ∧ Below w.heap.size w w3) := by
    rintro w3 (rfl | rfl)
    · exact ⟨(ka.setOther _ (by simp)).setOther _ (by simp), set_two hbh t1 p1, (kcc.setOther _ (by simp)).setOther _ (by simp), (hB.setCell (by simp) _).setCell (by simp) _⟩
    · exact ⟨(ka.setOther _ (by simp)).setOther _ (by simp), set_two' hbh t1 p1, (kcc.setOther _ (by simp)).setOther _ (by simp), (hB.setCell (by simp) _).setCell (by simp) _⟩
  clear ka kb kcc hbh hB he
  simp only [Kb.v]
  go_enter Tryd.func3, Tryd.ntmps3
  go_wp2_with fail
  rw [← hwa]
  clear hwa
  go_region
  all_goals
    obtain ⟨ka, kb, kz, hb3⟩ := HF.out _ (by first | exact Or.inl rfl | exact Or.inr rfl)
    have hb3 := hb3.drew
    have ka : KAt _ w.heap.size ⟨t1, p1, r1, c1⟩ := ka.below ((Below.refl _ _).drew) ka.lt
    have kb : KAt _ (w.heap.size + 1) ⟨t1, p1, r2, c2⟩ := kb.below ((Below.refl _ _).drew) kb.lt
    have kz : KAt _ (w.heap.size + 1 + 1) ⟨t3, p3, r3, c3⟩ := kz.below ((Below.refl _ _).drew) kz.lt
    clear HF f0 f1 b0 b1 a0 a1
    revert ka kb kz hb3
    generalize World.drew _ = w3
    intro hb3 ka kb kz
    have a0 := ka.t
    have a1 := ka.p
    have a2 := ka.r
    have a3 := ka.c
    have z0 := kz.t
    have z1 := kz.p
    have z2 := kz.r
    have z3 := kz.c
    have KA : Hid (KAt w3 w.heap.size ⟨t1, p1, r1, c1⟩) := ka
    have KB : Hid (KAt w3 (w.heap.size + 1) ⟨t1, p1, r2, c2⟩) := kb
    have KZ : Hid (KAt w3 (w.heap.size + 1 + 1) ⟨t3, p3, r3, c3⟩) := kz
    clear ka kb kz
    by_cases h1 : kcB t1 p1 r1 c1 t3 p3 r3 c3 ≤ 0
    · have d1 : decide (0 < kcB t1 p1 r1 c1 t3 p3 r3 c3) = false := decide_eq_false (by omega)
      go_wp2_with fail
      refine (C1.out _ _ _ _ _ _ _ _ _).mono ?_
      rintro e w4 ⟨rfl, hb4⟩
      have kb4 := KB.out.below hb4 KB.out.lt
      have kz4 := KZ.out.below hb4 KZ.out.lt
      have ka4 := KA.out.below hb4 KA.out.lt
      have KA4 : Hid (KAt w4 w.heap.size ⟨t1, p1, r1, c1⟩) := ka4
      have KB4 : Hid (KAt w4 (w.heap.size + 1) ⟨t1, p1, r2, c2⟩) := kb4
      have KZ4 : Hid (KAt w4 (w.heap.size + 1 + 1) ⟨t3, p3, r3, c3⟩) := kz4
      have hb4' : Below w.heap.size w w4 := hb3.trans (hb4.mono hb3.size)
      have b0 := kb4.t
      have b1 := kb4.p
      have b2 := kb4.r
      have b3 := kb4.c
      have y0 := kz4.t
      have y1 := kz4.p
      have y2 := kz4.r
      have y3 := kz4.c
      clear a0 a1 a2 a3 z0 z1 z2 z3 hb3 hb4 ka4 kb4 kz4 KA KB KZ
      by_cases h2 : kcB t3 p3 r3 c3 t1 p1 r2 c2 ≤ 0
      · have d2 : decide (0 < kcB t3 p3 r3 c3 t1 p1 r2 c2) = false := decide_eq_false (by omega)
        obtain ⟨g1, g2, g3⟩ := HT.out h1 h2
        subst g1
        subst g2
        clear h1 h2 HT
        go_wp2_with fail
        refine (C1.out _ _ _ _ _ _ _ _ _).mono ?_
        rintro e w5 ⟨rfl, hb5⟩
        have ka5 := KA4.out.below hb5 KA4.out.lt
        have kb5 := KB4.out.below hb5 KB4.out.lt
        have kz5 := KZ4.out.below hb5 KZ4.out.lt
        have hb5' : Below w.heap.size w w5 := hb4'.trans (hb5.mono hb4'.size)
        have u0 := ka5.t
        have u1 := ka5.p
        have u2 := ka5.r
        have v2 := kb5.r
        have x0 := kz5.t
        have x1 := kz5.p
        have x2 := kz5.r
        clear b0 b1 b2 b3 y0 y1 y2 y3 hb4' hb5 ka5 kb5 kz5 KA4 KB4 KZ4
        by_cases hr : r1 = r2
        · have g4 := g3 hr
          subst hr
          subst g4
          clear g3
          go_wp2_with fail
          refine (L.out w5 hb5').mono ?_
          rintro e w6 ⟨rfl, hb6⟩
          go_wp2_with fail
          go_ret
          exact ⟨rfl, hb5'.trans (hb6.mono hb5'.size)⟩
        · have e1 : (r1 == r2) = false := by rw [beq_eq_false_iff_ne]; exact hr
          have e2 : (r1 != r2) = true := by rw [bne_iff_ne]; exact hr
          clear g3
          go_wp2_with fail
          refine (L.out w5 hb5').mono ?_
          rintro e w6 ⟨rfl, hb6⟩
          go_wp2_with fail
          go_ret
          exact ⟨rfl, hb5'.trans (hb6.mono hb5'.size)⟩
      · have d2 : decide (0 < kcB t3 p3 r3 c3 t1 p1 r2 c2) = true := decide_eq_true (by omega)
        clear h1 h2 HT KA4 KB4 KZ4
        go_wp2_with fail
        refine (C1.out _ _ _ _ _ _ _ _ _).mono ?_
        rintro e w5 ⟨rfl, hb5⟩
        have hb5' : Below w.heap.size w w5 := hb4'.trans (hb5.mono hb4'.size)
        clear b0 b1 b2 b3 y0 y1 y2 y3 hb4' hb5
        go_wp2_with fail
        refine (L.out w5 hb5').mono ?_
        rintro e w6 ⟨rfl, hb6⟩
        go_wp2_with fail
        go_ret
        exact ⟨rfl, hb5'.trans (hb6.mono hb5'.size)⟩
    · have d1 : decide (0 < kcB t1 p1 r1 c1 t3 p3 r3 c3) = true := decide_eq_true (by omega)
      clear HT h1 KA KB KZ
      go_wp2_with fail
      refine (C1.out _ _ _ _ _ _ _ _ _).mono ?_
      rintro e w4 ⟨rfl, hb4⟩
      have hb4' : Below w.heap.size w w4 := hb3.trans (hb4.mono hb3.size)
      clear a0 a1 a2 a3 z0 z1 z2 z3 hb3 hb4
      go_wp2_with fail
      refine (L.out w4 hb4').mono ?_
      rintro e w5 ⟨rfl, hb5⟩
      go_wp2_with fail
      go_ret
      exact ⟨rfl, hb4'.trans (hb5.mono hb4'.size)⟩
end Go.Proofs.YtniilnifhgdhcabDoor.keyTogether
