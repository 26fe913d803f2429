/-
  THE LAW KeyPrints: the walk.
-/
import Derived.Test.YtniilnifhgdhcaaDoorKeyAt
namespace Go.Proofs.YtniilnifhgdhcaaDoor.keyPrints
open Go.RowKit

set_option maxRecDepth 100000 in
set_option maxHeartbeats 2000000 in
theorem walk (a b : Kb) (w : World) (fa : a.Fits) (fb : b.Fits) (he : Env w) :
    Calls Tryd.prog 7 #[a.v, b.v] w fun e w' => e = .returned (.bool true) ∧ Below w.heap.size w w' := by
  obtain ⟨t1, p1, r1, c1⟩ := a
  obtain ⟨t2, p2, r2, c2⟩ := b
  obtain ⟨wa, hwa⟩ : ∃ wa, wa = (w.alloc (.cells #[.string t1, .string p1, .int .i64 r1, .string c1] 23)).alloc (.cells #[.string t2, .string p2, .int .i64 r2, .string c2] 23) := ⟨_, rfl⟩
  have ka : KAt wa w.heap.size ⟨t1, p1, r1, c1⟩ := by rw [hwa]; exact (KAt.new w ⟨t1, p1, r1, c1⟩ _).alloc _
  have kb : KAt wa (w.heap.size + 1) ⟨t2, p2, r2, c2⟩ := by rw [hwa]; have := KAt.new (w.alloc (.cells #[.string t1, .string p1, .int .i64 r1, .string c1] 23)) ⟨t2, p2, r2, c2⟩ 23; rw [World.size_alloc] at this; exact this
  have hB : Below w.heap.size w wa := by rw [hwa]; exact ((Below.refl _ _).alloc (Nat.le_refl _) _).alloc (by simp) _
  have L : Hid (∀ w' : World, Below w.heap.size w w' → Calls Tryd.prog 10 #[] w' fun e w'' => e = .returned (.bool true) ∧ Below w'.heap.size w' w'') := fun w' h => lives_any w' (he.below h)
  have g1 := fun w => great_any ⟨t1, p1, r1, c1⟩ w (by have := fa.t; omega) (by have := fa.p; omega) (by have := fa.c; omega)
  have g2 := fun w => great_any ⟨t2, p2, r2, c2⟩ w (by have := fb.t; omega) (by have := fb.p; omega) (by have := fb.c; omega)
  have ra := fa.r
  have rb := fb.r
  simp only [Kb.v] at g1 g2 ra rb ⊢
  have k0 := ka.t
  have k1 := ka.p
  have k2 := ka.r
  have k3 := ka.c
  have KB : Hid (KAt wa (w.heap.size + 1) ⟨t2, p2, r2, c2⟩) := kb
  have KA : Hid (KAt wa w.heap.size ⟨t1, p1, r1, c1⟩) := ka
  have HW : Hid (Below w.heap.size w wa) := hB
  have HEnv : Hid (Env w) := he
  clear ka kb hB fa fb he
  by_cases h1 : 5000 < t1.size + p1.size + c1.size
  · have G1 : Hid (∀ w : World, Calls Tryd.prog 9 #[.agg #[.string t1, .string p1, .int .i64 r1, .string c1]] w fun e w' => e = .returned (.bool true) ∧ Below w.heap.size w w') := fun w => (decide_eq_true h1) ▸ g1 w
    clear g1 g2 h1
    go_enter Tryd.func7, Tryd.ntmps7
    go_wp2_with fail
    rw [← hwa]
    clear hwa
    refine (G1.out _).mono ?_
    rintro e w1 ⟨rfl, hb1⟩
    have hb1' : Below w.heap.size w w1 := HW.out.trans (hb1.mono HW.out.size)
    clear k0 k1 k2 k3 hb1
    go_wp2_with fail
    refine (L.out w1 hb1').mono ?_
    rintro e w2 ⟨rfl, hb2⟩
    go_wp2_with fail
    go_ret
    exact ⟨rfl, hb1'.trans (hb2.mono hb1'.size)⟩
  have G1 : Hid (∀ w : World, Calls Tryd.prog 9 #[.agg #[.string t1, .string p1, .int .i64 r1, .string c1]] w fun e w' => e = .returned (.bool false) ∧ Below w.heap.size w w') := fun w => (decide_eq_false h1) ▸ g1 w
  by_cases h2 : 5000 < t2.size + p2.size + c2.size
  · have G2 : Hid (∀ w : World, Calls Tryd.prog 9 #[.agg #[.string t2, .string p2, .int .i64 r2, .string c2]] w fun e w' => e = .returned (.bool true) ∧ Below w.heap.size w w') := fun w => (decide_eq_true h2) ▸ g2 w
    clear g1 g2 h1 h2
    go_enter Tryd.func7, Tryd.ntmps7
    go_wp2_with fail
    rw [← hwa]
    clear hwa
    refine (G1.out _).mono ?_
    rintro e w1 ⟨rfl, hb1⟩
    have hb1' : Below w.heap.size w w1 := HW.out.trans (hb1.mono HW.out.size)
    have kb := KB.out.below hb1 KB.out.lt
    have y0 := kb.t
    have y1 := kb.p
    have y2 := kb.r
    have y3 := kb.c
    clear k0 k1 k2 k3 hb1 kb
    go_wp2_with fail
    refine (G2.out _).mono ?_
    rintro e w2 ⟨rfl, hb2⟩
    have hb2' : Below w.heap.size w w2 := hb1'.trans (hb2.mono hb1'.size)
    clear y0 y1 y2 y3 hb2 hb1'
    go_wp2_with fail
    refine (L.out w2 hb2').mono ?_
    rintro e w3 ⟨rfl, hb3⟩
    go_wp2_with fail
    go_ret
    exact ⟨rfl, hb2'.trans (hb3.mono hb2'.size)⟩
  have G2 : Hid (∀ w : World, Calls Tryd.prog 9 #[.agg #[.string t2, .string p2, .int .i64 r2, .string c2]] w fun e w' => e = .returned (.bool false) ∧ Below w.heap.size w w') := fun w => (decide_eq_false h2) ▸ g2 w
  obtain ⟨s1, hs1⟩ : ∃ s, s = strB (prK (Kb.ky ⟨t1, p1, r1, c1⟩)) := ⟨_, rfl⟩
  obtain ⟨s2, hs2⟩ : ∃ s, s = strB (prK (Kb.ky ⟨t2, p2, r2, c2⟩)) := ⟨_, rfl⟩
  have P1 : Hid (∀ w' : World, Below w.heap.size w w' → Calls Tryd.prog 17 #[.agg #[.string t1, .string p1, .int .i64 r1, .string c1]] w' fun e w'' => e = .returned (.string s1) ∧ Below w'.heap.size w' w'') := fun w' h => hs1 ▸ print_any ⟨t1, p1, r1, c1⟩ w' ⟨by show t1.size ≤ 5000; omega, by show p1.size ≤ 5000; omega, by show c1.size ≤ 5000; omega, ra⟩ (HEnv.out.below h)
  have P2 : Hid (∀ w' : World, Below w.heap.size w w' → Calls Tryd.prog 17 #[.agg #[.string t2, .string p2, .int .i64 r2, .string c2]] w' fun e w'' => e = .returned (.string s2) ∧ Below w'.heap.size w' w'') := fun w' h => hs2 ▸ print_any ⟨t2, p2, r2, c2⟩ w' ⟨by show t2.size ≤ 5000; omega, by show p2.size ≤ 5000; omega, by show c2.size ≤ 5000; omega, rb⟩ (HEnv.out.below h)
  have hee : (s1.toList == s2.toList) = eqK ⟨t1, p1, r1, c1⟩ ⟨t2, p2, r2, c2⟩ := by
    rw [ba_list, ba_list, hs1, hs2, nb_strB, nb_strB, Bool.eq_iff_iff, eqK_iff, beq_iff_eq, prK_inj, Kb.ky_inj]
  have hE : eqK ⟨t1, p1, r1, c1⟩ ⟨t2, p2, r2, c2⟩ = (t1.toList == t2.toList && (p1.toList == p2.toList && (r1 == r2 && c1.toList == c2.toList))) := rfl
  generalize eqK ⟨t1, p1, r1, c1⟩ ⟨t2, p2, r2, c2⟩ = E at hee hE
  have HE : Hid (E = (t1.toList == t2.toList && (p1.toList == p2.toList && (r1 == r2 && c1.toList == c2.toList)))) := hE
  clear g1 g2 h1 h2 hs1 hs2 hE ra rb
  go_enter Tryd.func7, Tryd.ntmps7
  go_wp2_with fail
  rw [← hwa]
  clear hwa
  refine (G1.out _).mono ?_
  rintro e w1 ⟨rfl, hb1⟩
  have kb := KB.out.below hb1 KB.out.lt
  have y0 := kb.t
  have y1 := kb.p
  have y2 := kb.r
  have y3 := kb.c
  clear k0 k1 k2 k3
  go_wp2_with fail
  refine (G2.out _).mono ?_
  rintro e w2 ⟨rfl, hb2⟩
  have ka2 := (KA.out.below hb1 KA.out.lt).below hb2 (Nat.lt_of_lt_of_le KA.out.lt hb1.size)
  have kb2 := kb.below hb2 kb.lt
  have hw2 : Below w.heap.size w w2 := (HW.out.trans (hb1.mono HW.out.size)).trans (hb2.mono (HW.out.trans (hb1.mono HW.out.size)).size)
  clear y0 y1 y2 y3 kb
  go_wp2_with fail
  have q1 : ∀ q : Cl w2.heap.size w2, q.u.cell? ⟨w.heap.size, 0, none⟩ = some (.string t1) := fun q => (ka2.below q.h ka2.lt).t
  have q2 : ∀ q : Cl w2.heap.size w2, q.u.cell? ⟨w.heap.size, 1, none⟩ = some (.string p1) := fun q => (ka2.below q.h ka2.lt).p
  have q3 : ∀ q : Cl w2.heap.size w2, q.u.cell? ⟨w.heap.size, 2, none⟩ = some (.int .i64 r1) := fun q => (ka2.below q.h ka2.lt).r
  have q4 : ∀ q : Cl w2.heap.size w2, q.u.cell? ⟨w.heap.size, 3, none⟩ = some (.string c1) := fun q => (ka2.below q.h ka2.lt).c
  have q5 : ∀ q : Cl w2.heap.size w2, q.u.cell? ⟨w.heap.size + 1, 0, none⟩ = some (.string t2) := fun q => (kb2.below q.h kb2.lt).t
  have q6 : ∀ q : Cl w2.heap.size w2, q.u.cell? ⟨w.heap.size + 1, 1, none⟩ = some (.string p2) := fun q => (kb2.below q.h kb2.lt).p
  have q7 : ∀ q : Cl w2.heap.size w2, q.u.cell? ⟨w.heap.size + 1, 2, none⟩ = some (.int .i64 r2) := fun q => (kb2.below q.h kb2.lt).r
  have q8 : ∀ q : Cl w2.heap.size w2, q.u.cell? ⟨w.heap.size + 1, 3, none⟩ = some (.string c2) := fun q => (kb2.below q.h kb2.lt).c
  have HC : Hid (∀ q : Cl w2.heap.size w2, Below w.heap.size w q.u) := fun q => hw2.trans (q.h.mono hw2.size)
  clear ka2 kb2 hb1 hb2 hw2 KA KB HW G1 G2
  haveI := Cl.inh w2.heap.size w2
  refine wp_region_cl w2.heap.size (by kernel_rfl) (by kernel_rfl) ?_
  repeat (quiet_step (first | (go_at_call_of 17 (Value.agg #[.string t1, .string p1, .int .i64 r1, .string c1]); exact Cl.calls (Nat.le_refl _) (P1.out _ (HC.out _))) | (go_at_call_of 17 (Value.agg #[.string t2, .string p2, .int .i64 r2, .string c2]); exact Cl.calls (Nat.le_refl _) (P2.out _ (HC.out _)))))
  refine wpQuiet_step (fun K hK => ?_)
  go_simp
  refine ⟨.bool E, fun q => ?_, hK _ ?_⟩
  · rw [HE.out]
    by_cases e1 : t1.toList = t2.toList <;> by_cases e2 : p1.toList = p2.toList <;> by_cases e3 : r1 = r2 <;> by_cases e4 : c1.toList = c2.toList <;> simp [e1, e2, e3, e4]
  clear hK K
  repeat (quiet_step ((go_at_call 10; exact Cl.calls (Nat.le_refl _) (L.out _ (HC.out _)))))
  refine wpQuiet_nil ?_
  rintro w3 ⟨q, hq⟩
  subst hq
  go_wp2_with fail
  go_ret
  exact ⟨rfl, HC.out q⟩
end Go.Proofs.YtniilnifhgdhcaaDoor.keyPrints
