/-
  THE LAW KeyTells: the walk.
-/
import Derived.Test.YtniilnifhgdhcaaDoorKeyRefGood
namespace Go.Proofs.YtniilnifhgdhcaaDoor.keyTells
open Go.RowKit

set_option maxRecDepth 100000 in
set_option maxHeartbeats 2000000 in
theorem walk (k : Kb) (s : ByteArray) (w : World) (fk : k.Fits) (hs : s.size ≤ 140737488351232) (he : Env w) :
    Calls Tryd.prog 3 #[k.v, .string s] w fun e w' => e = .returned (.bool true) ∧ Below w.heap.size w w' := by
  obtain ⟨t1, p1, r1, c1⟩ := k
  obtain ⟨wa, hwa⟩ : ∃ wa, wa = w.alloc (.cells #[.string t1, .string p1, .int .i64 r1, .string c1] 23) := ⟨_, rfl⟩
  have ka : KAt wa w.heap.size ⟨t1, p1, r1, c1⟩ := by rw [hwa]; exact KAt.new w ⟨t1, p1, r1, c1⟩ _
  have hB : Below w.heap.size w wa := by rw [hwa]; exact (Below.refl _ _).alloc (Nat.le_refl _) _
  have L : Hid (∀ w' : World, Below w.heap.size w w' → Calls Tryd.prog 10 #[] w' fun e w'' => e = .returned (.bool true) ∧ Below w'.heap.size w' w'') := fun w' h => lives_any w' (he.below h)
  have g1 := fun w => great_any ⟨t1, p1, r1, c1⟩ w (by have := fk.t; omega) (by have := fk.p; omega) (by have := fk.c; omega)
  have m1 : t1.size ≤ maxLen := by have := fk.t; unfold maxLen; simp only at this; omega
  have m2 : p1.size ≤ maxLen := by have := fk.p; unfold maxLen; simp only at this; omega
  have m3 : c1.size ≤ maxLen := by have := fk.c; unfold maxLen; simp only at this; omega
  have m4 : s.size ≤ maxLen := by unfold maxLen; omega
  have hsz : (s.size : Int) ≤ 140737488351232 := by omega
  have ra := fk.r
  obtain ⟨bg, hbg⟩ : ∃ b, b = goodK (Kb.ky ⟨t1, p1, r1, c1⟩) := ⟨_, rfl⟩
  obtain ⟨bn, hbn⟩ : ∃ b, b = nameB (nb s) := ⟨_, rfl⟩
  have C1 : Hid (∀ w : World, Calls Tryd.prog 11 #[.agg #[.string t1, .string p1, .int .i64 r1, .string c1]] w fun e w' => e = .returned (.bool bg) ∧ Below w.heap.size w w') := fun w => hbg ▸ good_any ⟨t1, p1, r1, c1⟩ w m1 m2 m3
  have C2 : Hid (∀ w : World, Calls Tryd.prog 12 #[.agg #[.string t1, .string p1, .int .i64 r1, .string c1]] w fun e w' => e = .returned (.bool bg) ∧ Below w.heap.size w w') := fun w => hbg ▸ refGood_any ⟨t1, p1, r1, c1⟩ w m1 m2 m3
  have C3 : Hid (∀ w : World, Calls Tryd.prog 13 #[.string s] w fun e w' => e = .returned (.bool bn) ∧ Below w.heap.size w w') := fun w => hbn ▸ (name_any s w m4).mono fun _ _ ⟨h1, h2⟩ => ⟨h1, by rw [h2]; exact Below.refl _ _⟩
  have C4 : Hid (∀ w : World, Calls Tryd.prog 14 #[.string s] w fun e w' => e = .returned (.bool bn) ∧ Below w.heap.size w w') := fun w => hbn ▸ (refName_any s w m4).mono fun _ _ ⟨h1, h2⟩ => ⟨h1, by rw [h2]; exact Below.refl _ _⟩
  have C5 : Hid (∀ w : World, Calls Tryd.prog 15 #[.agg #[.string t1, .string p1, .int .i64 r1, .string c1]] w fun e w' => e = .returned (.agg #[.string t1, .string p1, .int .i64 r1, .string ⟨#[]⟩]) ∧ Below w.heap.size w w') := fun w => row_any ⟨t1, p1, r1, c1⟩ w
  have C6 : Hid (∀ w : World, Calls Tryd.prog 16 #[.agg #[.string t1, .string p1, .int .i64 r1, .string c1]] w fun e w' => e = .returned (.agg #[.string t1, .string p1, .int .i64 r1, .string ⟨#[]⟩]) ∧ Below w.heap.size w w') := fun w => refRow_any ⟨t1, p1, r1, c1⟩ w
  simp only [Kb.v] at g1 ra ⊢
  have k0 := ka.t
  have k1 := ka.p
  have k2 := ka.r
  have k3 := ka.c
  have KA : Hid (KAt wa w.heap.size ⟨t1, p1, r1, c1⟩) := ka
  have HW : Hid (Below w.heap.size w wa) := hB
  have HEnv : Hid (Env w) := he
  clear ka hB fk he hbg hbn m1 m2 m3 m4
  by_cases h1 : 5000 < t1.size + p1.size + c1.size
  · have G1 : Hid (∀ w : World, Calls Tryd.prog 9 #[.agg #[.string t1, .string p1, .int .i64 r1, .string c1]] w fun e w' => e = .returned (.bool true) ∧ Below w.heap.size w w') := fun w => (decide_eq_true h1) ▸ g1 w
    clear g1 h1 hs
    go_enter Tryd.func3, Tryd.ntmps3
    go_wp2_with fail
    rw [← hwa]
    clear hwa
    refine (G1.out _).mono ?_
    rintro e w1 ⟨rfl, hb1⟩
    have hb1' : Below w.heap.size w w1 := HW.out.trans (hb1.mono HW.out.size)
    clear k0 k1 k2 k3 hb1
    go_wp2_with fail
    refine (L.out w1 hb1').mono ?_
    rintro e w2 ⟨rfl, hb2⟩
    go_wp2_with fail
    go_ret
    exact ⟨rfl, hb1'.trans (hb2.mono hb1'.size)⟩
  have G1 : Hid (∀ w : World, Calls Tryd.prog 9 #[.agg #[.string t1, .string p1, .int .i64 r1, .string c1]] w fun e w' => e = .returned (.bool false) ∧ Below w.heap.size w w') := fun w => (decide_eq_false h1) ▸ g1 w
  by_cases h2 : 5000 < s.size
  · have d2 : decide (5000 < (s.size : Int)) = true := decide_eq_true (by omega)
    clear g1 h1 h2 hs
    go_enter Tryd.func3, Tryd.ntmps3
    go_wp2_with fail
    rw [← hwa]
    clear hwa
    refine (G1.out _).mono ?_
    rintro e w1 ⟨rfl, hb1⟩
    have hb1' : Below w.heap.size w w1 := HW.out.trans (hb1.mono HW.out.size)
    clear k0 k1 k2 k3 hb1
    go_wp2_with fail
    refine (L.out w1 hb1').mono ?_
    rintro e w2 ⟨rfl, hb2⟩
    go_wp2_with fail
    go_ret
    exact ⟨rfl, hb1'.trans (hb2.mono hb1'.size)⟩
  have d2 : decide (5000 < (s.size : Int)) = false := decide_eq_false (by omega)
  obtain ⟨s1, hs1⟩ : ∃ s, s = strB (prK (Kb.ky ⟨t1, p1, r1, c1⟩)) := ⟨_, rfl⟩
  have hok : Kb.Ok ⟨t1, p1, r1, c1⟩ := ⟨by show t1.size ≤ 5000; omega, by show p1.size ≤ 5000; omega, by show c1.size ≤ 5000; omega, ra⟩
  have P1 : Hid (∀ w' : World, Below w.heap.size w w' → Calls Tryd.prog 17 #[.agg #[.string t1, .string p1, .int .i64 r1, .string c1]] w' fun e w'' => e = .returned (.string s1) ∧ Below w'.heap.size w' w'') := fun w' h => hs1 ▸ print_any ⟨t1, p1, r1, c1⟩ w' hok (HEnv.out.below h)
  have P2 : Hid (∀ w' : World, Calls Tryd.prog 18 #[.agg #[.string t1, .string p1, .int .i64 r1, .string c1]] w' fun e w'' => e = .returned (.string s1) ∧ Below w'.heap.size w' w'') := fun w' => hs1 ▸ refPrint_any ⟨t1, p1, r1, c1⟩ w' hok
  clear g1 h1 h2 hs1 ra hok hs
  go_enter Tryd.func3, Tryd.ntmps3
  go_wp2_with fail
  rw [← hwa]
  clear hwa
  refine (G1.out _).mono ?_
  rintro e w2 ⟨rfl, hb2⟩
  have ka2 := KA.out.below hb2 KA.out.lt
  have hw2 : Below w.heap.size w w2 := HW.out.trans (hb2.mono HW.out.size)
  clear k0 k1 k2 k3
  go_wp2_with fail
  have q1 : ∀ q : Cl w2.heap.size w2, q.u.cell? ⟨w.heap.size, 0, none⟩ = some (.string t1) := fun q => (ka2.below q.h ka2.lt).t
  have q2 : ∀ q : Cl w2.heap.size w2, q.u.cell? ⟨w.heap.size, 1, none⟩ = some (.string p1) := fun q => (ka2.below q.h ka2.lt).p
  have q3 : ∀ q : Cl w2.heap.size w2, q.u.cell? ⟨w.heap.size, 2, none⟩ = some (.int .i64 r1) := fun q => (ka2.below q.h ka2.lt).r
  have q4 : ∀ q : Cl w2.heap.size w2, q.u.cell? ⟨w.heap.size, 3, none⟩ = some (.string c1) := fun q => (ka2.below q.h ka2.lt).c
  have HC : Hid (∀ q : Cl w2.heap.size w2, Below w.heap.size w q.u) := fun q => hw2.trans (q.h.mono hw2.size)
  clear ka2 hb2 hw2 KA HW G1 d2
  haveI := Cl.inh w2.heap.size w2
  refine wp_region_cl w2.heap.size (by kernel_rfl) (by kernel_rfl) ?_
  repeat (quiet_step (first
    | (go_at_call 11; exact Cl.calls (Nat.le_refl _) (C1.out _))
    | (go_at_call 12; exact Cl.calls (Nat.le_refl _) (C2.out _))
    | (go_at_call 13; exact Cl.calls (Nat.le_refl _) (C3.out _))
    | (go_at_call 14; exact Cl.calls (Nat.le_refl _) (C4.out _))
    | (go_at_call 15; exact Cl.calls (Nat.le_refl _) (C5.out _))
    | (go_at_call 16; exact Cl.calls (Nat.le_refl _) (C6.out _))
    | (go_at_call 17; exact Cl.calls (Nat.le_refl _) (P1.out _ (HC.out _)))
    | (go_at_call 18; exact Cl.calls (Nat.le_refl _) (P2.out _))
    | (go_at_call 10; exact Cl.calls (Nat.le_refl _) (L.out _ (HC.out _)))))
  refine wpQuiet_nil ?_
  rintro w3 ⟨q, hq⟩
  subst hq
  go_wp2_with fail
  go_ret
  exact ⟨rfl, HC.out q⟩
end Go.Proofs.YtniilnifhgdhcaaDoor.keyTells
