/-
  THE LAW LevelMeets, with 2 copies.
-/
import Derived.Test.YtljbaoaglpheoaaDoorLvlBits
import Derived.Test.YtljbaoaglpheoaaDoorBlk
import Derived.Test.YtljbaoaglpheoaaDoorRegCl
namespace Go.Proofs.YtljbaoaglpheoaaDoor.levelMeets2
open Go.RowKit

set_option maxRecDepth 100000 in
set_option maxHeartbeats 2000000 in
theorem at11 (x y z u v : Int) (w : World) (hy : 0 ≤ y ∧ y ≤ 18446744073709551615) (hz : 0 ≤ z ∧ z ≤ 18446744073709551615) (hn : Nms w)
    (hc : x.tmod 8 = 1) (ha : u.tmod 3 = 0) (hb : v.tmod 3 = 0) :
    Calls Tryd.prog 5 #[.int .u64 u, .int .u64 v, .agg #[.int .u64 x, .int .u64 y, .int .u64 z]] w fun e w' => e = .returned (.bool true) ∧ Below w.heap.size w w' := by
  obtain ⟨wa, hwa⟩ : ∃ wa, wa = w.alloc (.cells #[.int .u64 x, .int .u64 y, .int .u64 z] 33) := ⟨_, rfl⟩
  have hB : Hid (Below w.heap.size w wa) := by show Below _ _ _; rw [hwa]; exact (Below.refl _ _).alloc (Nat.le_refl _) _
  have bk : Blk wa w.heap.size [.int .u64 x, .int .u64 y, .int .u64 z] 33 := by rw [hwa]; exact Blk.new _ _ _
  have c0 := bk.cell 0 rfl
  have hlt : w.heap.size < wa.heap.size := bk.lt
  have c1 : ∀ q : Cl wa.heap.size wa, q.u.cell? ⟨w.heap.size, 1, none⟩ = some (.int .u64 y) := fun q => q.cell hlt (bk.cell 1 rfl)
  have c2 : ∀ q : Cl wa.heap.size wa, q.u.cell? ⟨w.heap.size, 2, none⟩ = some (.int .u64 z) := fun q => q.cell hlt (bk.cell 2 rfl)
  haveI := Cl.inh wa.heap.size wa
  have hna : Nms wa := hn.below hB.out
  clear bk hn hlt
  obtain ⟨p, hp, hp2⟩ : ∃ p : Nat, y.tmod 4 = (p : Int) ∧ p < 4 := by
    have e := Int.tmod_eq_emod_of_nonneg (b := 4) hy.1
    exact ⟨(y.tmod 4).toNat, by omega, by omega⟩
  obtain ⟨q, hq, hq2⟩ : ∃ q : Nat, z.tmod 4 = (q : Int) ∧ q < 4 := by
    have e := Int.tmod_eq_emod_of_nonneg (b := 4) hz.1
    exact ⟨(z.tmod 4).toNat, by omega, by omega⟩
  have B1 : Hid (∀ wq, Calls Tryd.prog 19 #[.int .u64 (p : Int)] wq fun e w' => e = .returned (.int .i64 (pcB p : Int)) ∧ w' = wq) := fun wq => bits16_any p (by omega) wq
  have B2 : Hid (∀ wq, Calls Tryd.prog 19 #[.int .u64 (q : Int)] wq fun e w' => e = .returned (.int .i64 (pcB q : Int)) ∧ w' = wq) := fun wq => bits16_any q (by omega) wq
  have N1 : Hid (∀ wq, Calls Tryd.prog 9 #[.int .i64 1, .int .i64 2] wq fun e w' => e = .returned (.int .i64 1) ∧ w' = wq) := fun wq => need_any 1 2 wq (by omega)
  have N2 : Hid (∀ wq, Calls Tryd.prog 9 #[.int .i64 1, .int .i64 2] wq fun e w' => e = .returned (.int .i64 1) ∧ w' = wq) := fun wq => need_any 1 2 wq (by omega)
  have M1 : Hid (∀ wq, Calls Tryd.prog 13 #[.int .i64 1, .int .i64 1, .int .i64 2] wq fun e w' => e = .returned (.bool false) ∧ w' = wq) := fun wq => meet_any 1 1 2 wq (by omega)
  have M2 : Hid (∀ wq, Calls Tryd.prog 13 #[.int .i64 2, .int .i64 2, .int .i64 2] wq fun e w' => e = .returned (.bool true) ∧ w' = wq) := fun wq => meet_any 2 2 2 wq (by omega)
  have M3 : Hid (∀ wq, Calls Tryd.prog 13 #[.int .i64 3, .int .i64 1, .int .i64 2] wq fun e w' => e = .returned (.bool true) ∧ w' = wq) := fun wq => meet_any 3 1 2 wq (by omega)
  have HL : Hid (∀ q : Cl wa.heap.size wa, Calls Tryd.prog 15 #[] q.u fun e w' => e = .returned (.bool true) ∧ w' = q.u) := fun q => lives16_any q.u (hna.below q.h)
  have HB : Hid (∀ q : Cl wa.heap.size wa, Below w.heap.size w q.u) := fun q => hB.out.trans (q.h.mono hB.out.size)
  have A := u64_and_nat p q (by omega) (by omega)
  have hap : p &&& q = 0 → pcB p + pcB q ≤ 2 := fun h => pcB_apart (by omega) h hp2 hq2
  have al : bits BinOp.and IntKind.u64 1 2 = 0 := by decide
  have W1 : IntKind.u64.wrap 2 = 2 := by decide
  have W2 : IntKind.u64.wrap 4 = 4 := by decide
  generalize p &&& q = r at *
  generalize pcB p = k1 at *
  generalize pcB q = k2 at *
  clear hna hy hz
  by_cases h1 : 1 ≤ k1
  · by_cases h2 : 1 ≤ k2
    all_goals
      clear hap
      have i1 : (1 : Int) ≤ (k1 : Int) := by omega
      first | (have i2 : (1 : Int) ≤ (k2 : Int) := by omega) | (have i2 : ¬ (1 : Int) ≤ (k2 : Int) := by omega)
      clear h1 h2
      (go_enter Tryd.func5, Tryd.ntmps5; go_wp2_with fail; rw [← hwa]; clear hwa; go_wp2_with fail; refine wp_region_cl wa.heap.size (by kernel_rfl) (by kernel_rfl) ?_; quiet_step (fail); quiet_step (fail); quiet_step (fail); quiet_step (fail); quiet_step (fail); quiet_step (fail); quiet_step (fail); quiet_step (fail); quiet_step (fail); quiet_step (fail); quiet_step (fail); quiet_step (fail); quiet_step (fail); quiet_step (fail); refine wpQuiet_nil ?_; rintro _ ⟨qq, rfl⟩; clear W1 W2; have L := HL.out qq; have HQ := HB.out qq; clear HL HB c1 c2; generalize qq.u = wq at *; go_wp2_with (first | (go_at_call 19; with_reducible (refine (B1.out _).mono ?_); rintro e _ ⟨rfl, hw⟩; obtain rfl := hw.symm; clear hw) | (go_at_call 19; with_reducible (refine (B2.out _).mono ?_); rintro e _ ⟨rfl, hw⟩; obtain rfl := hw.symm; clear hw) | (go_at_call 9; with_reducible (refine (N1.out _).mono ?_); rintro e _ ⟨rfl, hw⟩; obtain rfl := hw.symm; clear hw) | (go_at_call 9; with_reducible (refine (N2.out _).mono ?_); rintro e _ ⟨rfl, hw⟩; obtain rfl := hw.symm; clear hw) | (go_at_call 13; with_reducible (refine (M1.out _).mono ?_); rintro e _ ⟨rfl, hw⟩; obtain rfl := hw.symm; clear hw) | (go_at_call 13; with_reducible (refine (M2.out _).mono ?_); rintro e _ ⟨rfl, hw⟩; obtain rfl := hw.symm; clear hw) | (go_at_call 13; with_reducible (refine (M3.out _).mono ?_); rintro e _ ⟨rfl, hw⟩; obtain rfl := hw.symm; clear hw) | (go_at_call 15; with_reducible (refine L.mono ?_); rintro e _ ⟨rfl, hw⟩; obtain rfl := hw.symm; clear hw)); go_ret; exact ⟨rfl, HQ⟩)
  · have i1 : ¬ (1 : Int) ≤ (k1 : Int) := by omega
    clear hap h1
    (go_enter Tryd.func5, Tryd.ntmps5; go_wp2_with fail; rw [← hwa]; clear hwa; go_wp2_with fail; refine wp_region_cl wa.heap.size (by kernel_rfl) (by kernel_rfl) ?_; quiet_step (fail); quiet_step (fail); quiet_step (fail); quiet_step (fail); quiet_step (fail); quiet_step (fail); quiet_step (fail); quiet_step (fail); quiet_step (fail); quiet_step (fail); quiet_step (fail); quiet_step (fail); quiet_step (fail); quiet_step (fail); refine wpQuiet_nil ?_; rintro _ ⟨qq, rfl⟩; clear W1 W2; have L := HL.out qq; have HQ := HB.out qq; clear HL HB c1 c2; generalize qq.u = wq at *; go_wp2_with (first | (go_at_call 19; with_reducible (refine (B1.out _).mono ?_); rintro e _ ⟨rfl, hw⟩; obtain rfl := hw.symm; clear hw) | (go_at_call 19; with_reducible (refine (B2.out _).mono ?_); rintro e _ ⟨rfl, hw⟩; obtain rfl := hw.symm; clear hw) | (go_at_call 9; with_reducible (refine (N1.out _).mono ?_); rintro e _ ⟨rfl, hw⟩; obtain rfl := hw.symm; clear hw) | (go_at_call 9; with_reducible (refine (N2.out _).mono ?_); rintro e _ ⟨rfl, hw⟩; obtain rfl := hw.symm; clear hw) | (go_at_call 13; with_reducible (refine (M1.out _).mono ?_); rintro e _ ⟨rfl, hw⟩; obtain rfl := hw.symm; clear hw) | (go_at_call 13; with_reducible (refine (M2.out _).mono ?_); rintro e _ ⟨rfl, hw⟩; obtain rfl := hw.symm; clear hw) | (go_at_call 13; with_reducible (refine (M3.out _).mono ?_); rintro e _ ⟨rfl, hw⟩; obtain rfl := hw.symm; clear hw) | (go_at_call 15; with_reducible (refine L.mono ?_); rintro e _ ⟨rfl, hw⟩; obtain rfl := hw.symm; clear hw)); go_ret; exact ⟨rfl, HQ⟩)
set_option maxRecDepth 100000 in
set_option maxHeartbeats 2000000 in
theorem at12 (x y z u v : Int) (w : World) (hy : 0 ≤ y ∧ y ≤ 18446744073709551615) (hz : 0 ≤ z ∧ z ≤ 18446744073709551615) (hn : Nms w)
    (hc : x.tmod 8 = 1) (ha : u.tmod 3 = 0) (hb : v.tmod 3 = 1) :
    Calls Tryd.prog 5 #[.int .u64 u, .int .u64 v, .agg #[.int .u64 x, .int .u64 y, .int .u64 z]] w fun e w' => e = .returned (.bool true) ∧ Below w.heap.size w w' := by
  obtain ⟨wa, hwa⟩ : ∃ wa, wa = w.alloc (.cells #[.int .u64 x, .int .u64 y, .int .u64 z] 33) := ⟨_, rfl⟩
  have hB : Hid (Below w.heap.size w wa) := by show Below _ _ _; rw [hwa]; exact (Below.refl _ _).alloc (Nat.le_refl _) _
  have bk : Blk wa w.heap.size [.int .u64 x, .int .u64 y, .int .u64 z] 33 := by rw [hwa]; exact Blk.new _ _ _
  have c0 := bk.cell 0 rfl
  have hlt : w.heap.size < wa.heap.size := bk.lt
  have c1 : ∀ q : Cl wa.heap.size wa, q.u.cell? ⟨w.heap.size, 1, none⟩ = some (.int .u64 y) := fun q => q.cell hlt (bk.cell 1 rfl)
  have c2 : ∀ q : Cl wa.heap.size wa, q.u.cell? ⟨w.heap.size, 2, none⟩ = some (.int .u64 z) := fun q => q.cell hlt (bk.cell 2 rfl)
  haveI := Cl.inh wa.heap.size wa
  have hna : Nms wa := hn.below hB.out
  clear bk hn hlt
  obtain ⟨p, hp, hp2⟩ : ∃ p : Nat, y.tmod 4 = (p : Int) ∧ p < 4 := by
    have e := Int.tmod_eq_emod_of_nonneg (b := 4) hy.1
    exact ⟨(y.tmod 4).toNat, by omega, by omega⟩
  obtain ⟨q, hq, hq2⟩ : ∃ q : Nat, z.tmod 4 = (q : Int) ∧ q < 4 := by
    have e := Int.tmod_eq_emod_of_nonneg (b := 4) hz.1
    exact ⟨(z.tmod 4).toNat, by omega, by omega⟩
  have B1 : Hid (∀ wq, Calls Tryd.prog 19 #[.int .u64 (p : Int)] wq fun e w' => e = .returned (.int .i64 (pcB p : Int)) ∧ w' = wq) := fun wq => bits16_any p (by omega) wq
  have B2 : Hid (∀ wq, Calls Tryd.prog 19 #[.int .u64 (q : Int)] wq fun e w' => e = .returned (.int .i64 (pcB q : Int)) ∧ w' = wq) := fun wq => bits16_any q (by omega) wq
  have N1 : Hid (∀ wq, Calls Tryd.prog 9 #[.int .i64 1, .int .i64 2] wq fun e w' => e = .returned (.int .i64 1) ∧ w' = wq) := fun wq => need_any 1 2 wq (by omega)
  have N2 : Hid (∀ wq, Calls Tryd.prog 9 #[.int .i64 2, .int .i64 2] wq fun e w' => e = .returned (.int .i64 2) ∧ w' = wq) := fun wq => need_any 2 2 wq (by omega)
  have M1 : Hid (∀ wq, Calls Tryd.prog 13 #[.int .i64 1, .int .i64 2, .int .i64 2] wq fun e w' => e = .returned (.bool true) ∧ w' = wq) := fun wq => meet_any 1 2 2 wq (by omega)
  have M2 : Hid (∀ wq, Calls Tryd.prog 13 #[.int .i64 2, .int .i64 2, .int .i64 2] wq fun e w' => e = .returned (.bool true) ∧ w' = wq) := fun wq => meet_any 2 2 2 wq (by omega)
  have M3 : Hid (∀ wq, Calls Tryd.prog 13 #[.int .i64 3, .int .i64 1, .int .i64 2] wq fun e w' => e = .returned (.bool true) ∧ w' = wq) := fun wq => meet_any 3 1 2 wq (by omega)
  have HL : Hid (∀ q : Cl wa.heap.size wa, Calls Tryd.prog 15 #[] q.u fun e w' => e = .returned (.bool true) ∧ w' = q.u) := fun q => lives16_any q.u (hna.below q.h)
  have HB : Hid (∀ q : Cl wa.heap.size wa, Below w.heap.size w q.u) := fun q => hB.out.trans (q.h.mono hB.out.size)
  have A := u64_and_nat p q (by omega) (by omega)
  have hap : p &&& q = 0 → pcB p + pcB q ≤ 2 := fun h => pcB_apart (by omega) h hp2 hq2
  have al : bits BinOp.and IntKind.u64 1 3 = 1 := by decide
  have W1 : IntKind.u64.wrap 2 = 2 := by decide
  have W2 : IntKind.u64.wrap 4 = 4 := by decide
  generalize p &&& q = r at *
  generalize pcB p = k1 at *
  generalize pcB q = k2 at *
  clear hna hy hz
  by_cases h1 : 1 ≤ k1
  · by_cases h2 : 2 ≤ k2
    · have hr : ¬ r = 0 := fun e => by have := hap e; omega
      have hr2 : ((r : Int) == 0) = false := by simp [hr]
      have i1 : (1 : Int) ≤ (k1 : Int) := by omega
      have i2 : (2 : Int) ≤ (k2 : Int) := by omega
      clear hap h1 h2
      (go_enter Tryd.func5, Tryd.ntmps5; go_wp2_with fail; rw [← hwa]; clear hwa; go_wp2_with fail; refine wp_region_cl wa.heap.size (by kernel_rfl) (by kernel_rfl) ?_; quiet_step (fail); quiet_step (fail); quiet_step (fail); quiet_step (fail); quiet_step (fail); quiet_step (fail); quiet_step (fail); quiet_step (fail); quiet_step (fail); quiet_step (fail); quiet_step (fail); quiet_step (fail); quiet_step (fail); quiet_step (fail); refine wpQuiet_nil ?_; rintro _ ⟨qq, rfl⟩; clear W1 W2; have L := HL.out qq; have HQ := HB.out qq; clear HL HB c1 c2; generalize qq.u = wq at *; go_wp2_with (first | (go_at_call 19; with_reducible (refine (B1.out _).mono ?_); rintro e _ ⟨rfl, hw⟩; obtain rfl := hw.symm; clear hw) | (go_at_call 19; with_reducible (refine (B2.out _).mono ?_); rintro e _ ⟨rfl, hw⟩; obtain rfl := hw.symm; clear hw) | (go_at_call 9; with_reducible (refine (N1.out _).mono ?_); rintro e _ ⟨rfl, hw⟩; obtain rfl := hw.symm; clear hw) | (go_at_call 9; with_reducible (refine (N2.out _).mono ?_); rintro e _ ⟨rfl, hw⟩; obtain rfl := hw.symm; clear hw) | (go_at_call 13; with_reducible (refine (M1.out _).mono ?_); rintro e _ ⟨rfl, hw⟩; obtain rfl := hw.symm; clear hw) | (go_at_call 13; with_reducible (refine (M2.out _).mono ?_); rintro e _ ⟨rfl, hw⟩; obtain rfl := hw.symm; clear hw) | (go_at_call 13; with_reducible (refine (M3.out _).mono ?_); rintro e _ ⟨rfl, hw⟩; obtain rfl := hw.symm; clear hw) | (go_at_call 15; with_reducible (refine L.mono ?_); rintro e _ ⟨rfl, hw⟩; obtain rfl := hw.symm; clear hw)); go_ret; exact ⟨rfl, HQ⟩)
    · have i1 : (1 : Int) ≤ (k1 : Int) := by omega
      have i2 : ¬ (2 : Int) ≤ (k2 : Int) := by omega
      clear hap h1 h2
      (go_enter Tryd.func5, Tryd.ntmps5; go_wp2_with fail; rw [← hwa]; clear hwa; go_wp2_with fail; refine wp_region_cl wa.heap.size (by kernel_rfl) (by kernel_rfl) ?_; quiet_step (fail); quiet_step (fail); quiet_step (fail); quiet_step (fail); quiet_step (fail); quiet_step (fail); quiet_step (fail); quiet_step (fail); quiet_step (fail); quiet_step (fail); quiet_step (fail); quiet_step (fail); quiet_step (fail); quiet_step (fail); refine wpQuiet_nil ?_; rintro _ ⟨qq, rfl⟩; clear W1 W2; have L := HL.out qq; have HQ := HB.out qq; clear HL HB c1 c2; generalize qq.u = wq at *; go_wp2_with (first | (go_at_call 19; with_reducible (refine (B1.out _).mono ?_); rintro e _ ⟨rfl, hw⟩; obtain rfl := hw.symm; clear hw) | (go_at_call 19; with_reducible (refine (B2.out _).mono ?_); rintro e _ ⟨rfl, hw⟩; obtain rfl := hw.symm; clear hw) | (go_at_call 9; with_reducible (refine (N1.out _).mono ?_); rintro e _ ⟨rfl, hw⟩; obtain rfl := hw.symm; clear hw) | (go_at_call 9; with_reducible (refine (N2.out _).mono ?_); rintro e _ ⟨rfl, hw⟩; obtain rfl := hw.symm; clear hw) | (go_at_call 13; with_reducible (refine (M1.out _).mono ?_); rintro e _ ⟨rfl, hw⟩; obtain rfl := hw.symm; clear hw) | (go_at_call 13; with_reducible (refine (M2.out _).mono ?_); rintro e _ ⟨rfl, hw⟩; obtain rfl := hw.symm; clear hw) | (go_at_call 13; with_reducible (refine (M3.out _).mono ?_); rintro e _ ⟨rfl, hw⟩; obtain rfl := hw.symm; clear hw) | (go_at_call 15; with_reducible (refine L.mono ?_); rintro e _ ⟨rfl, hw⟩; obtain rfl := hw.symm; clear hw)); go_ret; exact ⟨rfl, HQ⟩)
  · have i1 : ¬ (1 : Int) ≤ (k1 : Int) := by omega
    clear hap h1
    (go_enter Tryd.func5, Tryd.ntmps5; go_wp2_with fail; rw [← hwa]; clear hwa; go_wp2_with fail; refine wp_region_cl wa.heap.size (by kernel_rfl) (by kernel_rfl) ?_; quiet_step (fail); quiet_step (fail); quiet_step (fail); quiet_step (fail); quiet_step (fail); quiet_step (fail); quiet_step (fail); quiet_step (fail); quiet_step (fail); quiet_step (fail); quiet_step (fail); quiet_step (fail); quiet_step (fail); quiet_step (fail); refine wpQuiet_nil ?_; rintro _ ⟨qq, rfl⟩; clear W1 W2; have L := HL.out qq; have HQ := HB.out qq; clear HL HB c1 c2; generalize qq.u = wq at *; go_wp2_with (first | (go_at_call 19; with_reducible (refine (B1.out _).mono ?_); rintro e _ ⟨rfl, hw⟩; obtain rfl := hw.symm; clear hw) | (go_at_call 19; with_reducible (refine (B2.out _).mono ?_); rintro e _ ⟨rfl, hw⟩; obtain rfl := hw.symm; clear hw) | (go_at_call 9; with_reducible (refine (N1.out _).mono ?_); rintro e _ ⟨rfl, hw⟩; obtain rfl := hw.symm; clear hw) | (go_at_call 9; with_reducible (refine (N2.out _).mono ?_); rintro e _ ⟨rfl, hw⟩; obtain rfl := hw.symm; clear hw) | (go_at_call 13; with_reducible (refine (M1.out _).mono ?_); rintro e _ ⟨rfl, hw⟩; obtain rfl := hw.symm; clear hw) | (go_at_call 13; with_reducible (refine (M2.out _).mono ?_); rintro e _ ⟨rfl, hw⟩; obtain rfl := hw.symm; clear hw) | (go_at_call 13; with_reducible (refine (M3.out _).mono ?_); rintro e _ ⟨rfl, hw⟩; obtain rfl := hw.symm; clear hw) | (go_at_call 15; with_reducible (refine L.mono ?_); rintro e _ ⟨rfl, hw⟩; obtain rfl := hw.symm; clear hw)); go_ret; exact ⟨rfl, HQ⟩)
set_option maxRecDepth 100000 in
set_option maxHeartbeats 2000000 in
theorem at13 (x y z u v : Int) (w : World) (hy : 0 ≤ y ∧ y ≤ 18446744073709551615) (hz : 0 ≤ z ∧ z ≤ 18446744073709551615) (hn : Nms w)
    (hc : x.tmod 8 = 1) (ha : u.tmod 3 = 0) (hb : v.tmod 3 = 2) :
    Calls Tryd.prog 5 #[.int .u64 u, .int .u64 v, .agg #[.int .u64 x, .int .u64 y, .int .u64 z]] w fun e w' => e = .returned (.bool true) ∧ Below w.heap.size w w' := by
  obtain ⟨wa, hwa⟩ : ∃ wa, wa = w.alloc (.cells #[.int .u64 x, .int .u64 y, .int .u64 z] 33) := ⟨_, rfl⟩
  have hB : Hid (Below w.heap.size w wa) := by show Below _ _ _; rw [hwa]; exact (Below.refl _ _).alloc (Nat.le_refl _) _
  have bk : Blk wa w.heap.size [.int .u64 x, .int .u64 y, .int .u64 z] 33 := by rw [hwa]; exact Blk.new _ _ _
  have c0 := bk.cell 0 rfl
  have hlt : w.heap.size < wa.heap.size := bk.lt
  have c1 : ∀ q : Cl wa.heap.size wa, q.u.cell? ⟨w.heap.size, 1, none⟩ = some (.int .u64 y) := fun q => q.cell hlt (bk.cell 1 rfl)
  have c2 : ∀ q : Cl wa.heap.size wa, q.u.cell? ⟨w.heap.size, 2, none⟩ = some (.int .u64 z) := fun q => q.cell hlt (bk.cell 2 rfl)
  haveI := Cl.inh wa.heap.size wa
  have hna : Nms wa := hn.below hB.out
  clear bk hn hlt
  obtain ⟨p, hp, hp2⟩ : ∃ p : Nat, y.tmod 4 = (p : Int) ∧ p < 4 := by
    have e := Int.tmod_eq_emod_of_nonneg (b := 4) hy.1
    exact ⟨(y.tmod 4).toNat, by omega, by omega⟩
  obtain ⟨q, hq, hq2⟩ : ∃ q : Nat, z.tmod 4 = (q : Int) ∧ q < 4 := by
    have e := Int.tmod_eq_emod_of_nonneg (b := 4) hz.1
    exact ⟨(z.tmod 4).toNat, by omega, by omega⟩
  have B1 : Hid (∀ wq, Calls Tryd.prog 19 #[.int .u64 (p : Int)] wq fun e w' => e = .returned (.int .i64 (pcB p : Int)) ∧ w' = wq) := fun wq => bits16_any p (by omega) wq
  have B2 : Hid (∀ wq, Calls Tryd.prog 19 #[.int .u64 (q : Int)] wq fun e w' => e = .returned (.int .i64 (pcB q : Int)) ∧ w' = wq) := fun wq => bits16_any q (by omega) wq
  have N1 : Hid (∀ wq, Calls Tryd.prog 9 #[.int .i64 1, .int .i64 2] wq fun e w' => e = .returned (.int .i64 1) ∧ w' = wq) := fun wq => need_any 1 2 wq (by omega)
  have N2 : Hid (∀ wq, Calls Tryd.prog 9 #[.int .i64 3, .int .i64 2] wq fun e w' => e = .returned (.int .i64 2) ∧ w' = wq) := fun wq => need_any 3 2 wq (by omega)
  have M1 : Hid (∀ wq, Calls Tryd.prog 13 #[.int .i64 1, .int .i64 3, .int .i64 2] wq fun e w' => e = .returned (.bool true) ∧ w' = wq) := fun wq => meet_any 1 3 2 wq (by omega)
  have M2 : Hid (∀ wq, Calls Tryd.prog 13 #[.int .i64 2, .int .i64 2, .int .i64 2] wq fun e w' => e = .returned (.bool true) ∧ w' = wq) := fun wq => meet_any 2 2 2 wq (by omega)
  have M3 : Hid (∀ wq, Calls Tryd.prog 13 #[.int .i64 3, .int .i64 1, .int .i64 2] wq fun e w' => e = .returned (.bool true) ∧ w' = wq) := fun wq => meet_any 3 1 2 wq (by omega)
  have HL : Hid (∀ q : Cl wa.heap.size wa, Calls Tryd.prog 15 #[] q.u fun e w' => e = .returned (.bool true) ∧ w' = q.u) := fun q => lives16_any q.u (hna.below q.h)
  have HB : Hid (∀ q : Cl wa.heap.size wa, Below w.heap.size w q.u) := fun q => hB.out.trans (q.h.mono hB.out.size)
  have A := u64_and_nat p q (by omega) (by omega)
  have hap : p &&& q = 0 → pcB p + pcB q ≤ 2 := fun h => pcB_apart (by omega) h hp2 hq2
  have al : bits BinOp.and IntKind.u64 1 3 = 1 := by decide
  have W1 : IntKind.u64.wrap 2 = 2 := by decide
  have W2 : IntKind.u64.wrap 4 = 4 := by decide
  generalize p &&& q = r at *
  generalize pcB p = k1 at *
  generalize pcB q = k2 at *
  clear hna hy hz
  by_cases h1 : 1 ≤ k1
  · by_cases h2 : 2 ≤ k2
    · have hr : ¬ r = 0 := fun e => by have := hap e; omega
      have hr2 : ((r : Int) == 0) = false := by simp [hr]
      have i1 : (1 : Int) ≤ (k1 : Int) := by omega
      have i2 : (2 : Int) ≤ (k2 : Int) := by omega
      clear hap h1 h2
      (go_enter Tryd.func5, Tryd.ntmps5; go_wp2_with fail; rw [← hwa]; clear hwa; go_wp2_with fail; refine wp_region_cl wa.heap.size (by kernel_rfl) (by kernel_rfl) ?_; quiet_step (fail); quiet_step (fail); quiet_step (fail); quiet_step (fail); quiet_step (fail); quiet_step (fail); quiet_step (fail); quiet_step (fail); quiet_step (fail); quiet_step (fail); quiet_step (fail); quiet_step (fail); quiet_step (fail); quiet_step (fail); refine wpQuiet_nil ?_; rintro _ ⟨qq, rfl⟩; clear W1 W2; have L := HL.out qq; have HQ := HB.out qq; clear HL HB c1 c2; generalize qq.u = wq at *; go_wp2_with (first | (go_at_call 19; with_reducible (refine (B1.out _).mono ?_); rintro e _ ⟨rfl, hw⟩; obtain rfl := hw.symm; clear hw) | (go_at_call 19; with_reducible (refine (B2.out _).mono ?_); rintro e _ ⟨rfl, hw⟩; obtain rfl := hw.symm; clear hw) | (go_at_call 9; with_reducible (refine (N1.out _).mono ?_); rintro e _ ⟨rfl, hw⟩; obtain rfl := hw.symm; clear hw) | (go_at_call 9; with_reducible (refine (N2.out _).mono ?_); rintro e _ ⟨rfl, hw⟩; obtain rfl := hw.symm; clear hw) | (go_at_call 13; with_reducible (refine (M1.out _).mono ?_); rintro e _ ⟨rfl, hw⟩; obtain rfl := hw.symm; clear hw) | (go_at_call 13; with_reducible (refine (M2.out _).mono ?_); rintro e _ ⟨rfl, hw⟩; obtain rfl := hw.symm; clear hw) | (go_at_call 13; with_reducible (refine (M3.out _).mono ?_); rintro e _ ⟨rfl, hw⟩; obtain rfl := hw.symm; clear hw) | (go_at_call 15; with_reducible (refine L.mono ?_); rintro e _ ⟨rfl, hw⟩; obtain rfl := hw.symm; clear hw)); go_ret; exact ⟨rfl, HQ⟩)
    · have i1 : (1 : Int) ≤ (k1 : Int) := by omega
      have i2 : ¬ (2 : Int) ≤ (k2 : Int) := by omega
      clear hap h1 h2
      (go_enter Tryd.func5, Tryd.ntmps5; go_wp2_with fail; rw [← hwa]; clear hwa; go_wp2_with fail; refine wp_region_cl wa.heap.size (by kernel_rfl) (by kernel_rfl) ?_; quiet_step (fail); quiet_step (fail); quiet_step (fail); quiet_step (fail); quiet_step (fail); quiet_step (fail); quiet_step (fail); quiet_step (fail); quiet_step (fail); quiet_step (fail); quiet_step (fail); quiet_step (fail); quiet_step (fail); quiet_step (fail); refine wpQuiet_nil ?_; rintro _ ⟨qq, rfl⟩; clear W1 W2; have L := HL.out qq; have HQ := HB.out qq; clear HL HB c1 c2; generalize qq.u = wq at *; go_wp2_with (first | (go_at_call 19; with_reducible (refine (B1.out _).mono ?_); rintro e _ ⟨rfl, hw⟩; obtain rfl := hw.symm; clear hw) | (go_at_call 19; with_reducible (refine (B2.out _).mono ?_); rintro e _ ⟨rfl, hw⟩; obtain rfl := hw.symm; clear hw) | (go_at_call 9; with_reducible (refine (N1.out _).mono ?_); rintro e _ ⟨rfl, hw⟩; obtain rfl := hw.symm; clear hw) | (go_at_call 9; with_reducible (refine (N2.out _).mono ?_); rintro e _ ⟨rfl, hw⟩; obtain rfl := hw.symm; clear hw) | (go_at_call 13; with_reducible (refine (M1.out _).mono ?_); rintro e _ ⟨rfl, hw⟩; obtain rfl := hw.symm; clear hw) | (go_at_call 13; with_reducible (refine (M2.out _).mono ?_); rintro e _ ⟨rfl, hw⟩; obtain rfl := hw.symm; clear hw) | (go_at_call 13; with_reducible (refine (M3.out _).mono ?_); rintro e _ ⟨rfl, hw⟩; obtain rfl := hw.symm; clear hw) | (go_at_call 15; with_reducible (refine L.mono ?_); rintro e _ ⟨rfl, hw⟩; obtain rfl := hw.symm; clear hw)); go_ret; exact ⟨rfl, HQ⟩)
  · have i1 : ¬ (1 : Int) ≤ (k1 : Int) := by omega
    clear hap h1
    (go_enter Tryd.func5, Tryd.ntmps5; go_wp2_with fail; rw [← hwa]; clear hwa; go_wp2_with fail; refine wp_region_cl wa.heap.size (by kernel_rfl) (by kernel_rfl) ?_; quiet_step (fail); quiet_step (fail); quiet_step (fail); quiet_step (fail); quiet_step (fail); quiet_step (fail); quiet_step (fail); quiet_step (fail); quiet_step (fail); quiet_step (fail); quiet_step (fail); quiet_step (fail); quiet_step (fail); quiet_step (fail); refine wpQuiet_nil ?_; rintro _ ⟨qq, rfl⟩; clear W1 W2; have L := HL.out qq; have HQ := HB.out qq; clear HL HB c1 c2; generalize qq.u = wq at *; go_wp2_with (first | (go_at_call 19; with_reducible (refine (B1.out _).mono ?_); rintro e _ ⟨rfl, hw⟩; obtain rfl := hw.symm; clear hw) | (go_at_call 19; with_reducible (refine (B2.out _).mono ?_); rintro e _ ⟨rfl, hw⟩; obtain rfl := hw.symm; clear hw) | (go_at_call 9; with_reducible (refine (N1.out _).mono ?_); rintro e _ ⟨rfl, hw⟩; obtain rfl := hw.symm; clear hw) | (go_at_call 9; with_reducible (refine (N2.out _).mono ?_); rintro e _ ⟨rfl, hw⟩; obtain rfl := hw.symm; clear hw) | (go_at_call 13; with_reducible (refine (M1.out _).mono ?_); rintro e _ ⟨rfl, hw⟩; obtain rfl := hw.symm; clear hw) | (go_at_call 13; with_reducible (refine (M2.out _).mono ?_); rintro e _ ⟨rfl, hw⟩; obtain rfl := hw.symm; clear hw) | (go_at_call 13; with_reducible (refine (M3.out _).mono ?_); rintro e _ ⟨rfl, hw⟩; obtain rfl := hw.symm; clear hw) | (go_at_call 15; with_reducible (refine L.mono ?_); rintro e _ ⟨rfl, hw⟩; obtain rfl := hw.symm; clear hw)); go_ret; exact ⟨rfl, HQ⟩)
set_option maxRecDepth 100000 in
set_option maxHeartbeats 2000000 in
theorem at21 (x y z u v : Int) (w : World) (hy : 0 ≤ y ∧ y ≤ 18446744073709551615) (hz : 0 ≤ z ∧ z ≤ 18446744073709551615) (hn : Nms w)
    (hc : x.tmod 8 = 1) (ha : u.tmod 3 = 1) (hb : v.tmod 3 = 0) :
    Calls Tryd.prog 5 #[.int .u64 u, .int .u64 v, .agg #[.int .u64 x, .int .u64 y, .int .u64 z]] w fun e w' => e = .returned (.bool true) ∧ Below w.heap.size w w' := by
  obtain ⟨wa, hwa⟩ : ∃ wa, wa = w.alloc (.cells #[.int .u64 x, .int .u64 y, .int .u64 z] 33) := ⟨_, rfl⟩
  have hB : Hid (Below w.heap.size w wa) := by show Below _ _ _; rw [hwa]; exact (Below.refl _ _).alloc (Nat.le_refl _) _
  have bk : Blk wa w.heap.size [.int .u64 x, .int .u64 y, .int .u64 z] 33 := by rw [hwa]; exact Blk.new _ _ _
  have c0 := bk.cell 0 rfl
  have hlt : w.heap.size < wa.heap.size := bk.lt
  have c1 : ∀ q : Cl wa.heap.size wa, q.u.cell? ⟨w.heap.size, 1, none⟩ = some (.int .u64 y) := fun q => q.cell hlt (bk.cell 1 rfl)
  have c2 : ∀ q : Cl wa.heap.size wa, q.u.cell? ⟨w.heap.size, 2, none⟩ = some (.int .u64 z) := fun q => q.cell hlt (bk.cell 2 rfl)
  haveI := Cl.inh wa.heap.size wa
  have hna : Nms wa := hn.below hB.out
  clear bk hn hlt
  obtain ⟨p, hp, hp2⟩ : ∃ p : Nat, y.tmod 4 = (p : Int) ∧ p < 4 := by
    have e := Int.tmod_eq_emod_of_nonneg (b := 4) hy.1
    exact ⟨(y.tmod 4).toNat, by omega, by omega⟩
  obtain ⟨q, hq, hq2⟩ : ∃ q : Nat, z.tmod 4 = (q : Int) ∧ q < 4 := by
    have e := Int.tmod_eq_emod_of_nonneg (b := 4) hz.1
    exact ⟨(z.tmod 4).toNat, by omega, by omega⟩
  have B1 : Hid (∀ wq, Calls Tryd.prog 19 #[.int .u64 (p : Int)] wq fun e w' => e = .returned (.int .i64 (pcB p : Int)) ∧ w' = wq) := fun wq => bits16_any p (by omega) wq
  have B2 : Hid (∀ wq, Calls Tryd.prog 19 #[.int .u64 (q : Int)] wq fun e w' => e = .returned (.int .i64 (pcB q : Int)) ∧ w' = wq) := fun wq => bits16_any q (by omega) wq
  have N1 : Hid (∀ wq, Calls Tryd.prog 9 #[.int .i64 2, .int .i64 2] wq fun e w' => e = .returned (.int .i64 2) ∧ w' = wq) := fun wq => need_any 2 2 wq (by omega)
  have N2 : Hid (∀ wq, Calls Tryd.prog 9 #[.int .i64 1, .int .i64 2] wq fun e w' => e = .returned (.int .i64 1) ∧ w' = wq) := fun wq => need_any 1 2 wq (by omega)
  have M1 : Hid (∀ wq, Calls Tryd.prog 13 #[.int .i64 2, .int .i64 1, .int .i64 2] wq fun e w' => e = .returned (.bool true) ∧ w' = wq) := fun wq => meet_any 2 1 2 wq (by omega)
  have M2 : Hid (∀ wq, Calls Tryd.prog 13 #[.int .i64 2, .int .i64 2, .int .i64 2] wq fun e w' => e = .returned (.bool true) ∧ w' = wq) := fun wq => meet_any 2 2 2 wq (by omega)
  have M3 : Hid (∀ wq, Calls Tryd.prog 13 #[.int .i64 3, .int .i64 1, .int .i64 2] wq fun e w' => e = .returned (.bool true) ∧ w' = wq) := fun wq => meet_any 3 1 2 wq (by omega)
  have HL : Hid (∀ q : Cl wa.heap.size wa, Calls Tryd.prog 15 #[] q.u fun e w' => e = .returned (.bool true) ∧ w' = q.u) := fun q => lives16_any q.u (hna.below q.h)
  have HB : Hid (∀ q : Cl wa.heap.size wa, Below w.heap.size w q.u) := fun q => hB.out.trans (q.h.mono hB.out.size)
  have A := u64_and_nat p q (by omega) (by omega)
  have hap : p &&& q = 0 → pcB p + pcB q ≤ 2 := fun h => pcB_apart (by omega) h hp2 hq2
  have al : bits BinOp.and IntKind.u64 3 2 = 2 := by decide
  have W1 : IntKind.u64.wrap 2 = 2 := by decide
  have W2 : IntKind.u64.wrap 4 = 4 := by decide
  generalize p &&& q = r at *
  generalize pcB p = k1 at *
  generalize pcB q = k2 at *
  clear hna hy hz
  by_cases h1 : 2 ≤ k1
  · by_cases h2 : 1 ≤ k2
    · have hr : ¬ r = 0 := fun e => by have := hap e; omega
      have hr2 : ((r : Int) == 0) = false := by simp [hr]
      have i1 : (2 : Int) ≤ (k1 : Int) := by omega
      have i2 : (1 : Int) ≤ (k2 : Int) := by omega
      clear hap h1 h2
      (go_enter Tryd.func5, Tryd.ntmps5; go_wp2_with fail; rw [← hwa]; clear hwa; go_wp2_with fail; refine wp_region_cl wa.heap.size (by kernel_rfl) (by kernel_rfl) ?_; quiet_step (fail); quiet_step (fail); quiet_step (fail); quiet_step (fail); quiet_step (fail); quiet_step (fail); quiet_step (fail); quiet_step (fail); quiet_step (fail); quiet_step (fail); quiet_step (fail); quiet_step (fail); quiet_step (fail); quiet_step (fail); refine wpQuiet_nil ?_; rintro _ ⟨qq, rfl⟩; clear W1 W2; have L := HL.out qq; have HQ := HB.out qq; clear HL HB c1 c2; generalize qq.u = wq at *; go_wp2_with (first | (go_at_call 19; with_reducible (refine (B1.out _).mono ?_); rintro e _ ⟨rfl, hw⟩; obtain rfl := hw.symm; clear hw) | (go_at_call 19; with_reducible (refine (B2.out _).mono ?_); rintro e _ ⟨rfl, hw⟩; obtain rfl := hw.symm; clear hw) | (go_at_call 9; with_reducible (refine (N1.out _).mono ?_); rintro e _ ⟨rfl, hw⟩; obtain rfl := hw.symm; clear hw) | (go_at_call 9; with_reducible (refine (N2.out _).mono ?_); rintro e _ ⟨rfl, hw⟩; obtain rfl := hw.symm; clear hw) | (go_at_call 13; with_reducible (refine (M1.out _).mono ?_); rintro e _ ⟨rfl, hw⟩; obtain rfl := hw.symm; clear hw) | (go_at_call 13; with_reducible (refine (M2.out _).mono ?_); rintro e _ ⟨rfl, hw⟩; obtain rfl := hw.symm; clear hw) | (go_at_call 13; with_reducible (refine (M3.out _).mono ?_); rintro e _ ⟨rfl, hw⟩; obtain rfl := hw.symm; clear hw) | (go_at_call 15; with_reducible (refine L.mono ?_); rintro e _ ⟨rfl, hw⟩; obtain rfl := hw.symm; clear hw)); go_ret; exact ⟨rfl, HQ⟩)
    · have i1 : (2 : Int) ≤ (k1 : Int) := by omega
      have i2 : ¬ (1 : Int) ≤ (k2 : Int) := by omega
      clear hap h1 h2
      (go_enter Tryd.func5, Tryd.ntmps5; go_wp2_with fail; rw [← hwa]; clear hwa; go_wp2_with fail; refine wp_region_cl wa.heap.size (by kernel_rfl) (by kernel_rfl) ?_; quiet_step (fail); quiet_step (fail); quiet_step (fail); quiet_step (fail); quiet_step (fail); quiet_step (fail); quiet_step (fail); quiet_step (fail); quiet_step (fail); quiet_step (fail); quiet_step (fail); quiet_step (fail); quiet_step (fail); quiet_step (fail); refine wpQuiet_nil ?_; rintro _ ⟨qq, rfl⟩; clear W1 W2; have L := HL.out qq; have HQ := HB.out qq; clear HL HB c1 c2; generalize qq.u = wq at *; go_wp2_with (first | (go_at_call 19; with_reducible (refine (B1.out _).mono ?_); rintro e _ ⟨rfl, hw⟩; obtain rfl := hw.symm; clear hw) | (go_at_call 19; with_reducible (refine (B2.out _).mono ?_); rintro e _ ⟨rfl, hw⟩; obtain rfl := hw.symm; clear hw) | (go_at_call 9; with_reducible (refine (N1.out _).mono ?_); rintro e _ ⟨rfl, hw⟩; obtain rfl := hw.symm; clear hw) | (go_at_call 9; with_reducible (refine (N2.out _).mono ?_); rintro e _ ⟨rfl, hw⟩; obtain rfl := hw.symm; clear hw) | (go_at_call 13; with_reducible (refine (M1.out _).mono ?_); rintro e _ ⟨rfl, hw⟩; obtain rfl := hw.symm; clear hw) | (go_at_call 13; with_reducible (refine (M2.out _).mono ?_); rintro e _ ⟨rfl, hw⟩; obtain rfl := hw.symm; clear hw) | (go_at_call 13; with_reducible (refine (M3.out _).mono ?_); rintro e _ ⟨rfl, hw⟩; obtain rfl := hw.symm; clear hw) | (go_at_call 15; with_reducible (refine L.mono ?_); rintro e _ ⟨rfl, hw⟩; obtain rfl := hw.symm; clear hw)); go_ret; exact ⟨rfl, HQ⟩)
  · have i1 : ¬ (2 : Int) ≤ (k1 : Int) := by omega
    clear hap h1
    (go_enter Tryd.func5, Tryd.ntmps5; go_wp2_with fail; rw [← hwa]; clear hwa; go_wp2_with fail; refine wp_region_cl wa.heap.size (by kernel_rfl) (by kernel_rfl) ?_; quiet_step (fail); quiet_step (fail); quiet_step (fail); quiet_step (fail); quiet_step (fail); quiet_step (fail); quiet_step (fail); quiet_step (fail); quiet_step (fail); quiet_step (fail); quiet_step (fail); quiet_step (fail); quiet_step (fail); quiet_step (fail); refine wpQuiet_nil ?_; rintro _ ⟨qq, rfl⟩; clear W1 W2; have L := HL.out qq; have HQ := HB.out qq; clear HL HB c1 c2; generalize qq.u = wq at *; go_wp2_with (first | (go_at_call 19; with_reducible (refine (B1.out _).mono ?_); rintro e _ ⟨rfl, hw⟩; obtain rfl := hw.symm; clear hw) | (go_at_call 19; with_reducible (refine (B2.out _).mono ?_); rintro e _ ⟨rfl, hw⟩; obtain rfl := hw.symm; clear hw) | (go_at_call 9; with_reducible (refine (N1.out _).mono ?_); rintro e _ ⟨rfl, hw⟩; obtain rfl := hw.symm; clear hw) | (go_at_call 9; with_reducible (refine (N2.out _).mono ?_); rintro e _ ⟨rfl, hw⟩; obtain rfl := hw.symm; clear hw) | (go_at_call 13; with_reducible (refine (M1.out _).mono ?_); rintro e _ ⟨rfl, hw⟩; obtain rfl := hw.symm; clear hw) | (go_at_call 13; with_reducible (refine (M2.out _).mono ?_); rintro e _ ⟨rfl, hw⟩; obtain rfl := hw.symm; clear hw) | (go_at_call 13; with_reducible (refine (M3.out _).mono ?_); rintro e _ ⟨rfl, hw⟩; obtain rfl := hw.symm; clear hw) | (go_at_call 15; with_reducible (refine L.mono ?_); rintro e _ ⟨rfl, hw⟩; obtain rfl := hw.symm; clear hw)); go_ret; exact ⟨rfl, HQ⟩)
set_option maxRecDepth 100000 in
set_option maxHeartbeats 2000000 in
theorem at22 (x y z u v : Int) (w : World) (hy : 0 ≤ y ∧ y ≤ 18446744073709551615) (hz : 0 ≤ z ∧ z ≤ 18446744073709551615) (hn : Nms w)
    (hc : x.tmod 8 = 1) (ha : u.tmod 3 = 1) (hb : v.tmod 3 = 1) :
    Calls Tryd.prog 5 #[.int .u64 u, .int .u64 v, .agg #[.int .u64 x, .int .u64 y, .int .u64 z]] w fun e w' => e = .returned (.bool true) ∧ Below w.heap.size w w' := by
  obtain ⟨wa, hwa⟩ : ∃ wa, wa = w.alloc (.cells #[.int .u64 x, .int .u64 y, .int .u64 z] 33) := ⟨_, rfl⟩
  have hB : Hid (Below w.heap.size w wa) := by show Below _ _ _; rw [hwa]; exact (Below.refl _ _).alloc (Nat.le_refl _) _
  have bk : Blk wa w.heap.size [.int .u64 x, .int .u64 y, .int .u64 z] 33 := by rw [hwa]; exact Blk.new _ _ _
  have c0 := bk.cell 0 rfl
  have hlt : w.heap.size < wa.heap.size := bk.lt
  have c1 : ∀ q : Cl wa.heap.size wa, q.u.cell? ⟨w.heap.size, 1, none⟩ = some (.int .u64 y) := fun q => q.cell hlt (bk.cell 1 rfl)
  have c2 : ∀ q : Cl wa.heap.size wa, q.u.cell? ⟨w.heap.size, 2, none⟩ = some (.int .u64 z) := fun q => q.cell hlt (bk.cell 2 rfl)
  haveI := Cl.inh wa.heap.size wa
  have hna : Nms wa := hn.below hB.out
  clear bk hn hlt
  obtain ⟨p, hp, hp2⟩ : ∃ p : Nat, y.tmod 4 = (p : Int) ∧ p < 4 := by
    have e := Int.tmod_eq_emod_of_nonneg (b := 4) hy.1
    exact ⟨(y.tmod 4).toNat, by omega, by omega⟩
  obtain ⟨q, hq, hq2⟩ : ∃ q : Nat, z.tmod 4 = (q : Int) ∧ q < 4 := by
    have e := Int.tmod_eq_emod_of_nonneg (b := 4) hz.1
    exact ⟨(z.tmod 4).toNat, by omega, by omega⟩
  have B1 : Hid (∀ wq, Calls Tryd.prog 19 #[.int .u64 (p : Int)] wq fun e w' => e = .returned (.int .i64 (pcB p : Int)) ∧ w' = wq) := fun wq => bits16_any p (by omega) wq
  have B2 : Hid (∀ wq, Calls Tryd.prog 19 #[.int .u64 (q : Int)] wq fun e w' => e = .returned (.int .i64 (pcB q : Int)) ∧ w' = wq) := fun wq => bits16_any q (by omega) wq
  have N1 : Hid (∀ wq, Calls Tryd.prog 9 #[.int .i64 2, .int .i64 2] wq fun e w' => e = .returned (.int .i64 2) ∧ w' = wq) := fun wq => need_any 2 2 wq (by omega)
  have N2 : Hid (∀ wq, Calls Tryd.prog 9 #[.int .i64 2, .int .i64 2] wq fun e w' => e = .returned (.int .i64 2) ∧ w' = wq) := fun wq => need_any 2 2 wq (by omega)
  have M1 : Hid (∀ wq, Calls Tryd.prog 13 #[.int .i64 2, .int .i64 2, .int .i64 2] wq fun e w' => e = .returned (.bool true) ∧ w' = wq) := fun wq => meet_any 2 2 2 wq (by omega)
  have M2 : Hid (∀ wq, Calls Tryd.prog 13 #[.int .i64 2, .int .i64 2, .int .i64 2] wq fun e w' => e = .returned (.bool true) ∧ w' = wq) := fun wq => meet_any 2 2 2 wq (by omega)
  have M3 : Hid (∀ wq, Calls Tryd.prog 13 #[.int .i64 3, .int .i64 1, .int .i64 2] wq fun e w' => e = .returned (.bool true) ∧ w' = wq) := fun wq => meet_any 3 1 2 wq (by omega)
  have HL : Hid (∀ q : Cl wa.heap.size wa, Calls Tryd.prog 15 #[] q.u fun e w' => e = .returned (.bool true) ∧ w' = q.u) := fun q => lives16_any q.u (hna.below q.h)
  have HB : Hid (∀ q : Cl wa.heap.size wa, Below w.heap.size w q.u) := fun q => hB.out.trans (q.h.mono hB.out.size)
  have A := u64_and_nat p q (by omega) (by omega)
  have hap : p &&& q = 0 → pcB p + pcB q ≤ 2 := fun h => pcB_apart (by omega) h hp2 hq2
  have al : bits BinOp.and IntKind.u64 3 3 = 3 := by decide
  have W1 : IntKind.u64.wrap 2 = 2 := by decide
  have W2 : IntKind.u64.wrap 4 = 4 := by decide
  generalize p &&& q = r at *
  generalize pcB p = k1 at *
  generalize pcB q = k2 at *
  clear hna hy hz
  by_cases h1 : 2 ≤ k1
  · by_cases h2 : 2 ≤ k2
    · have hr : ¬ r = 0 := fun e => by have := hap e; omega
      have hr2 : ((r : Int) == 0) = false := by simp [hr]
      have i1 : (2 : Int) ≤ (k1 : Int) := by omega
      have i2 : (2 : Int) ≤ (k2 : Int) := by omega
      clear hap h1 h2
      (go_enter Tryd.func5, Tryd.ntmps5; go_wp2_with fail; rw [← hwa]; clear hwa; go_wp2_with fail; refine wp_region_cl wa.heap.size (by kernel_rfl) (by kernel_rfl) ?_; quiet_step (fail); quiet_step (fail); quiet_step (fail); quiet_step (fail); quiet_step (fail); quiet_step (fail); quiet_step (fail); quiet_step (fail); quiet_step (fail); quiet_step (fail); quiet_step (fail); quiet_step (fail); quiet_step (fail); quiet_step (fail); refine wpQuiet_nil ?_; rintro _ ⟨qq, rfl⟩; clear W1 W2; have L := HL.out qq; have HQ := HB.out qq; clear HL HB c1 c2; generalize qq.u = wq at *; go_wp2_with (first | (go_at_call 19; with_reducible (refine (B1.out _).mono ?_); rintro e _ ⟨rfl, hw⟩; obtain rfl := hw.symm; clear hw) | (go_at_call 19; with_reducible (refine (B2.out _).mono ?_); rintro e _ ⟨rfl, hw⟩; obtain rfl := hw.symm; clear hw) | (go_at_call 9; with_reducible (refine (N1.out _).mono ?_); rintro e _ ⟨rfl, hw⟩; obtain rfl := hw.symm; clear hw) | (go_at_call 9; with_reducible (refine (N2.out _).mono ?_); rintro e _ ⟨rfl, hw⟩; obtain rfl := hw.symm; clear hw) | (go_at_call 13; with_reducible (refine (M1.out _).mono ?_); rintro e _ ⟨rfl, hw⟩; obtain rfl := hw.symm; clear hw) | (go_at_call 13; with_reducible (refine (M2.out _).mono ?_); rintro e _ ⟨rfl, hw⟩; obtain rfl := hw.symm; clear hw) | (go_at_call 13; with_reducible (refine (M3.out _).mono ?_); rintro e _ ⟨rfl, hw⟩; obtain rfl := hw.symm; clear hw) | (go_at_call 15; with_reducible (refine L.mono ?_); rintro e _ ⟨rfl, hw⟩; obtain rfl := hw.symm; clear hw)); go_ret; exact ⟨rfl, HQ⟩)
    · have i1 : (2 : Int) ≤ (k1 : Int) := by omega
      have i2 : ¬ (2 : Int) ≤ (k2 : Int) := by omega
      clear hap h1 h2
      (go_enter Tryd.func5, Tryd.ntmps5; go_wp2_with fail; rw [← hwa]; clear hwa; go_wp2_with fail; refine wp_region_cl wa.heap.size (by kernel_rfl) (by kernel_rfl) ?_; quiet_step (fail); quiet_step (fail); quiet_step (fail); quiet_step (fail); quiet_step (fail); quiet_step (fail); quiet_step (fail); quiet_step (fail); quiet_step (fail); quiet_step (fail); quiet_step (fail); quiet_step (fail); quiet_step (fail); quiet_step (fail); refine wpQuiet_nil ?_; rintro _ ⟨qq, rfl⟩; clear W1 W2; have L := HL.out qq; have HQ := HB.out qq; clear HL HB c1 c2; generalize qq.u = wq at *; go_wp2_with (first | (go_at_call 19; with_reducible (refine (B1.out _).mono ?_); rintro e _ ⟨rfl, hw⟩; obtain rfl := hw.symm; clear hw) | (go_at_call 19; with_reducible (refine (B2.out _).mono ?_); rintro e _ ⟨rfl, hw⟩; obtain rfl := hw.symm; clear hw) | (go_at_call 9; with_reducible (refine (N1.out _).mono ?_); rintro e _ ⟨rfl, hw⟩; obtain rfl := hw.symm; clear hw) | (go_at_call 9; with_reducible (refine (N2.out _).mono ?_); rintro e _ ⟨rfl, hw⟩; obtain rfl := hw.symm; clear hw) | (go_at_call 13; with_reducible (refine (M1.out _).mono ?_); rintro e _ ⟨rfl, hw⟩; obtain rfl := hw.symm; clear hw) | (go_at_call 13; with_reducible (refine (M2.out _).mono ?_); rintro e _ ⟨rfl, hw⟩; obtain rfl := hw.symm; clear hw) | (go_at_call 13; with_reducible (refine (M3.out _).mono ?_); rintro e _ ⟨rfl, hw⟩; obtain rfl := hw.symm; clear hw) | (go_at_call 15; with_reducible (refine L.mono ?_); rintro e _ ⟨rfl, hw⟩; obtain rfl := hw.symm; clear hw)); go_ret; exact ⟨rfl, HQ⟩)
  · have i1 : ¬ (2 : Int) ≤ (k1 : Int) := by omega
    clear hap h1
    (go_enter Tryd.func5, Tryd.ntmps5; go_wp2_with fail; rw [← hwa]; clear hwa; go_wp2_with fail; refine wp_region_cl wa.heap.size (by kernel_rfl) (by kernel_rfl) ?_; quiet_step (fail); quiet_step (fail); quiet_step (fail); quiet_step (fail); quiet_step (fail); quiet_step (fail); quiet_step (fail); quiet_step (fail); quiet_step (fail); quiet_step (fail); quiet_step (fail); quiet_step (fail); quiet_step (fail); quiet_step (fail); refine wpQuiet_nil ?_; rintro _ ⟨qq, rfl⟩; clear W1 W2; have L := HL.out qq; have HQ := HB.out qq; clear HL HB c1 c2; generalize qq.u = wq at *; go_wp2_with (first | (go_at_call 19; with_reducible (refine (B1.out _).mono ?_); rintro e _ ⟨rfl, hw⟩; obtain rfl := hw.symm; clear hw) | (go_at_call 19; with_reducible (refine (B2.out _).mono ?_); rintro e _ ⟨rfl, hw⟩; obtain rfl := hw.symm; clear hw) | (go_at_call 9; with_reducible (refine (N1.out _).mono ?_); rintro e _ ⟨rfl, hw⟩; obtain rfl := hw.symm; clear hw) | (go_at_call 9; with_reducible (refine (N2.out _).mono ?_); rintro e _ ⟨rfl, hw⟩; obtain rfl := hw.symm; clear hw) | (go_at_call 13; with_reducible (refine (M1.out _).mono ?_); rintro e _ ⟨rfl, hw⟩; obtain rfl := hw.symm; clear hw) | (go_at_call 13; with_reducible (refine (M2.out _).mono ?_); rintro e _ ⟨rfl, hw⟩; obtain rfl := hw.symm; clear hw) | (go_at_call 13; with_reducible (refine (M3.out _).mono ?_); rintro e _ ⟨rfl, hw⟩; obtain rfl := hw.symm; clear hw) | (go_at_call 15; with_reducible (refine L.mono ?_); rintro e _ ⟨rfl, hw⟩; obtain rfl := hw.symm; clear hw)); go_ret; exact ⟨rfl, HQ⟩)
set_option maxRecDepth 100000 in
set_option maxHeartbeats 2000000 in
theorem at23 (x y z u v : Int) (w : World) (hy : 0 ≤ y ∧ y ≤ 18446744073709551615) (hz : 0 ≤ z ∧ z ≤ 18446744073709551615) (hn : Nms w)
    (hc : x.tmod 8 = 1) (ha : u.tmod 3 = 1) (hb : v.tmod 3 = 2) :
    Calls Tryd.prog 5 #[.int .u64 u, .int .u64 v, .agg #[.int .u64 x, .int .u64 y, .int .u64 z]] w fun e w' => e = .returned (.bool true) ∧ Below w.heap.size w w' := by
  obtain ⟨wa, hwa⟩ : ∃ wa, wa = w.alloc (.cells #[.int .u64 x, .int .u64 y, .int .u64 z] 33) := ⟨_, rfl⟩
  have hB : Hid (Below w.heap.size w wa) := by show Below _ _ _; rw [hwa]; exact (Below.refl _ _).alloc (Nat.le_refl _) _
  have bk : Blk wa w.heap.size [.int .u64 x, .int .u64 y, .int .u64 z] 33 := by rw [hwa]; exact Blk.new _ _ _
  have c0 := bk.cell 0 rfl
  have hlt : w.heap.size < wa.heap.size := bk.lt
  have c1 : ∀ q : Cl wa.heap.size wa, q.u.cell? ⟨w.heap.size, 1, none⟩ = some (.int .u64 y) := fun q => q.cell hlt (bk.cell 1 rfl)
  have c2 : ∀ q : Cl wa.heap.size wa, q.u.cell? ⟨w.heap.size, 2, none⟩ = some (.int .u64 z) := fun q => q.cell hlt (bk.cell 2 rfl)
  haveI := Cl.inh wa.heap.size wa
  have hna : Nms wa := hn.below hB.out
  clear bk hn hlt
  obtain ⟨p, hp, hp2⟩ : ∃ p : Nat, y.tmod 4 = (p : Int) ∧ p < 4 := by
    have e := Int.tmod_eq_emod_of_nonneg (b := 4) hy.1
    exact ⟨(y.tmod 4).toNat, by omega, by omega⟩
  obtain ⟨q, hq, hq2⟩ : ∃ q : Nat, z.tmod 4 = (q : Int) ∧ q < 4 := by
    have e := Int.tmod_eq_emod_of_nonneg (b := 4) hz.1
    exact ⟨(z.tmod 4).toNat, by omega, by omega⟩
  have B1 : Hid (∀ wq, Calls Tryd.prog 19 #[.int .u64 (p : Int)] wq fun e w' => e = .returned (.int .i64 (pcB p : Int)) ∧ w' = wq) := fun wq => bits16_any p (by omega) wq
  have B2 : Hid (∀ wq, Calls Tryd.prog 19 #[.int .u64 (q : Int)] wq fun e w' => e = .returned (.int .i64 (pcB q : Int)) ∧ w' = wq) := fun wq => bits16_any q (by omega) wq
  have N1 : Hid (∀ wq, Calls Tryd.prog 9 #[.int .i64 2, .int .i64 2] wq fun e w' => e = .returned (.int .i64 2) ∧ w' = wq) := fun wq => need_any 2 2 wq (by omega)
  have N2 : Hid (∀ wq, Calls Tryd.prog 9 #[.int .i64 3, .int .i64 2] wq fun e w' => e = .returned (.int .i64 2) ∧ w' = wq) := fun wq => need_any 3 2 wq (by omega)
  have M1 : Hid (∀ wq, Calls Tryd.prog 13 #[.int .i64 2, .int .i64 3, .int .i64 2] wq fun e w' => e = .returned (.bool true) ∧ w' = wq) := fun wq => meet_any 2 3 2 wq (by omega)
  have M2 : Hid (∀ wq, Calls Tryd.prog 13 #[.int .i64 2, .int .i64 2, .int .i64 2] wq fun e w' => e = .returned (.bool true) ∧ w' = wq) := fun wq => meet_any 2 2 2 wq (by omega)
  have M3 : Hid (∀ wq, Calls Tryd.prog 13 #[.int .i64 3, .int .i64 1, .int .i64 2] wq fun e w' => e = .returned (.bool true) ∧ w' = wq) := fun wq => meet_any 3 1 2 wq (by omega)
  have HL : Hid (∀ q : Cl wa.heap.size wa, Calls Tryd.prog 15 #[] q.u fun e w' => e = .returned (.bool true) ∧ w' = q.u) := fun q => lives16_any q.u (hna.below q.h)
  have HB : Hid (∀ q : Cl wa.heap.size wa, Below w.heap.size w q.u) := fun q => hB.out.trans (q.h.mono hB.out.size)
  have A := u64_and_nat p q (by omega) (by omega)
  have hap : p &&& q = 0 → pcB p + pcB q ≤ 2 := fun h => pcB_apart (by omega) h hp2 hq2
  have al : bits BinOp.and IntKind.u64 3 3 = 3 := by decide
  have W1 : IntKind.u64.wrap 2 = 2 := by decide
  have W2 : IntKind.u64.wrap 4 = 4 := by decide
  generalize p &&& q = r at *
  generalize pcB p = k1 at *
  generalize pcB q = k2 at *
  clear hna hy hz
  by_cases h1 : 2 ≤ k1
  · by_cases h2 : 2 ≤ k2
    · have hr : ¬ r = 0 := fun e => by have := hap e; omega
      have hr2 : ((r : Int) == 0) = false := by simp [hr]
      have i1 : (2 : Int) ≤ (k1 : Int) := by omega
      have i2 : (2 : Int) ≤ (k2 : Int) := by omega
      clear hap h1 h2
      (go_enter Tryd.func5, Tryd.ntmps5; go_wp2_with fail; rw [← hwa]; clear hwa; go_wp2_with fail; refine wp_region_cl wa.heap.size (by kernel_rfl) (by kernel_rfl) ?_; quiet_step (fail); quiet_step (fail); quiet_step (fail); quiet_step (fail); quiet_step (fail); quiet_step (fail); quiet_step (fail); quiet_step (fail); quiet_step (fail); quiet_step (fail); quiet_step (fail); quiet_step (fail); quiet_step (fail); quiet_step (fail); refine wpQuiet_nil ?_; rintro _ ⟨qq, rfl⟩; clear W1 W2; have L := HL.out qq; have HQ := HB.out qq; clear HL HB c1 c2; generalize qq.u = wq at *; go_wp2_with (first | (go_at_call 19; with_reducible (refine (B1.out _).mono ?_); rintro e _ ⟨rfl, hw⟩; obtain rfl := hw.symm; clear hw) | (go_at_call 19; with_reducible (refine (B2.out _).mono ?_); rintro e _ ⟨rfl, hw⟩; obtain rfl := hw.symm; clear hw) | (go_at_call 9; with_reducible (refine (N1.out _).mono ?_); rintro e _ ⟨rfl, hw⟩; obtain rfl := hw.symm; clear hw) | (go_at_call 9; with_reducible (refine (N2.out _).mono ?_); rintro e _ ⟨rfl, hw⟩; obtain rfl := hw.symm; clear hw) | (go_at_call 13; with_reducible (refine (M1.out _).mono ?_); rintro e _ ⟨rfl, hw⟩; obtain rfl := hw.symm; clear hw) | (go_at_call 13; with_reducible (refine (M2.out _).mono ?_); rintro e _ ⟨rfl, hw⟩; obtain rfl := hw.symm; clear hw) | (go_at_call 13; with_reducible (refine (M3.out _).mono ?_); rintro e _ ⟨rfl, hw⟩; obtain rfl := hw.symm; clear hw) | (go_at_call 15; with_reducible (refine L.mono ?_); rintro e _ ⟨rfl, hw⟩; obtain rfl := hw.symm; clear hw)); go_ret; exact ⟨rfl, HQ⟩)
    · have i1 : (2 : Int) ≤ (k1 : Int) := by omega
      have i2 : ¬ (2 : Int) ≤ (k2 : Int) := by omega
      clear hap h1 h2
      (go_enter Tryd.func5, Tryd.ntmps5; go_wp2_with fail; rw [← hwa]; clear hwa; go_wp2_with fail; refine wp_region_cl wa.heap.size (by kernel_rfl) (by kernel_rfl) ?_; quiet_step (fail); quiet_step (fail); quiet_step (fail); quiet_step (fail); quiet_step (fail); quiet_step (fail); quiet_step (fail); quiet_step (fail); quiet_step (fail); quiet_step (fail); quiet_step (fail); quiet_step (fail); quiet_step (fail); quiet_step (fail); refine wpQuiet_nil ?_; rintro _ ⟨qq, rfl⟩; clear W1 W2; have L := HL.out qq; have HQ := HB.out qq; clear HL HB c1 c2; generalize qq.u = wq at *; go_wp2_with (first | (go_at_call 19; with_reducible (refine (B1.out _).mono ?_); rintro e _ ⟨rfl, hw⟩; obtain rfl := hw.symm; clear hw) | (go_at_call 19; with_reducible (refine (B2.out _).mono ?_); rintro e _ ⟨rfl, hw⟩; obtain rfl := hw.symm; clear hw) | (go_at_call 9; with_reducible (refine (N1.out _).mono ?_); rintro e _ ⟨rfl, hw⟩; obtain rfl := hw.symm; clear hw) | (go_at_call 9; with_reducible (refine (N2.out _).mono ?_); rintro e _ ⟨rfl, hw⟩; obtain rfl := hw.symm; clear hw) | (go_at_call 13; with_reducible (refine (M1.out _).mono ?_); rintro e _ ⟨rfl, hw⟩; obtain rfl := hw.symm; clear hw) | (go_at_call 13; with_reducible (refine (M2.out _).mono ?_); rintro e _ ⟨rfl, hw⟩; obtain rfl := hw.symm; clear hw) | (go_at_call 13; with_reducible (refine (M3.out _).mono ?_); rintro e _ ⟨rfl, hw⟩; obtain rfl := hw.symm; clear hw) | (go_at_call 15; with_reducible (refine L.mono ?_); rintro e _ ⟨rfl, hw⟩; obtain rfl := hw.symm; clear hw)); go_ret; exact ⟨rfl, HQ⟩)
  · have i1 : ¬ (2 : Int) ≤ (k1 : Int) := by omega
    clear hap h1
    (go_enter Tryd.func5, Tryd.ntmps5; go_wp2_with fail; rw [← hwa]; clear hwa; go_wp2_with fail; refine wp_region_cl wa.heap.size (by kernel_rfl) (by kernel_rfl) ?_; quiet_step (fail); quiet_step (fail); quiet_step (fail); quiet_step (fail); quiet_step (fail); quiet_step (fail); quiet_step (fail); quiet_step (fail); quiet_step (fail); quiet_step (fail); quiet_step (fail); quiet_step (fail); quiet_step (fail); quiet_step (fail); refine wpQuiet_nil ?_; rintro _ ⟨qq, rfl⟩; clear W1 W2; have L := HL.out qq; have HQ := HB.out qq; clear HL HB c1 c2; generalize qq.u = wq at *; go_wp2_with (first | (go_at_call 19; with_reducible (refine (B1.out _).mono ?_); rintro e _ ⟨rfl, hw⟩; obtain rfl := hw.symm; clear hw) | (go_at_call 19; with_reducible (refine (B2.out _).mono ?_); rintro e _ ⟨rfl, hw⟩; obtain rfl := hw.symm; clear hw) | (go_at_call 9; with_reducible (refine (N1.out _).mono ?_); rintro e _ ⟨rfl, hw⟩; obtain rfl := hw.symm; clear hw) | (go_at_call 9; with_reducible (refine (N2.out _).mono ?_); rintro e _ ⟨rfl, hw⟩; obtain rfl := hw.symm; clear hw) | (go_at_call 13; with_reducible (refine (M1.out _).mono ?_); rintro e _ ⟨rfl, hw⟩; obtain rfl := hw.symm; clear hw) | (go_at_call 13; with_reducible (refine (M2.out _).mono ?_); rintro e _ ⟨rfl, hw⟩; obtain rfl := hw.symm; clear hw) | (go_at_call 13; with_reducible (refine (M3.out _).mono ?_); rintro e _ ⟨rfl, hw⟩; obtain rfl := hw.symm; clear hw) | (go_at_call 15; with_reducible (refine L.mono ?_); rintro e _ ⟨rfl, hw⟩; obtain rfl := hw.symm; clear hw)); go_ret; exact ⟨rfl, HQ⟩)
set_option maxRecDepth 100000 in
set_option maxHeartbeats 2000000 in
theorem at31 (x y z u v : Int) (w : World) (hy : 0 ≤ y ∧ y ≤ 18446744073709551615) (hz : 0 ≤ z ∧ z ≤ 18446744073709551615) (hn : Nms w)
    (hc : x.tmod 8 = 1) (ha : u.tmod 3 = 2) (hb : v.tmod 3 = 0) :
    Calls Tryd.prog 5 #[.int .u64 u, .int .u64 v, .agg #[.int .u64 x, .int .u64 y, .int .u64 z]] w fun e w' => e = .returned (.bool true) ∧ Below w.heap.size w w' := by
  obtain ⟨wa, hwa⟩ : ∃ wa, wa = w.alloc (.cells #[.int .u64 x, .int .u64 y, .int .u64 z] 33) := ⟨_, rfl⟩
  have hB : Hid (Below w.heap.size w wa) := by show Below _ _ _; rw [hwa]; exact (Below.refl _ _).alloc (Nat.le_refl _) _
  have bk : Blk wa w.heap.size [.int .u64 x, .int .u64 y, .int .u64 z] 33 := by rw [hwa]; exact Blk.new _ _ _
  have c0 := bk.cell 0 rfl
  have hlt : w.heap.size < wa.heap.size := bk.lt
  have c1 : ∀ q : Cl wa.heap.size wa, q.u.cell? ⟨w.heap.size, 1, none⟩ = some (.int .u64 y) := fun q => q.cell hlt (bk.cell 1 rfl)
  have c2 : ∀ q : Cl wa.heap.size wa, q.u.cell? ⟨w.heap.size, 2, none⟩ = some (.int .u64 z) := fun q => q.cell hlt (bk.cell 2 rfl)
  haveI := Cl.inh wa.heap.size wa
  have hna : Nms wa := hn.below hB.out
  clear bk hn hlt
  obtain ⟨p, hp, hp2⟩ : ∃ p : Nat, y.tmod 4 = (p : Int) ∧ p < 4 := by
    have e := Int.tmod_eq_emod_of_nonneg (b := 4) hy.1
    exact ⟨(y.tmod 4).toNat, by omega, by omega⟩
  obtain ⟨q, hq, hq2⟩ : ∃ q : Nat, z.tmod 4 = (q : Int) ∧ q < 4 := by
    have e := Int.tmod_eq_emod_of_nonneg (b := 4) hz.1
    exact ⟨(z.tmod 4).toNat, by omega, by omega⟩
  have B1 : Hid (∀ wq, Calls Tryd.prog 19 #[.int .u64 (p : Int)] wq fun e w' => e = .returned (.int .i64 (pcB p : Int)) ∧ w' = wq) := fun wq => bits16_any p (by omega) wq
  have B2 : Hid (∀ wq, Calls Tryd.prog 19 #[.int .u64 (q : Int)] wq fun e w' => e = .returned (.int .i64 (pcB q : Int)) ∧ w' = wq) := fun wq => bits16_any q (by omega) wq
  have N1 : Hid (∀ wq, Calls Tryd.prog 9 #[.int .i64 3, .int .i64 2] wq fun e w' => e = .returned (.int .i64 2) ∧ w' = wq) := fun wq => need_any 3 2 wq (by omega)
  have N2 : Hid (∀ wq, Calls Tryd.prog 9 #[.int .i64 1, .int .i64 2] wq fun e w' => e = .returned (.int .i64 1) ∧ w' = wq) := fun wq => need_any 1 2 wq (by omega)
  have M1 : Hid (∀ wq, Calls Tryd.prog 13 #[.int .i64 3, .int .i64 1, .int .i64 2] wq fun e w' => e = .returned (.bool true) ∧ w' = wq) := fun wq => meet_any 3 1 2 wq (by omega)
  have M2 : Hid (∀ wq, Calls Tryd.prog 13 #[.int .i64 2, .int .i64 2, .int .i64 2] wq fun e w' => e = .returned (.bool true) ∧ w' = wq) := fun wq => meet_any 2 2 2 wq (by omega)
  have M3 : Hid (∀ wq, Calls Tryd.prog 13 #[.int .i64 3, .int .i64 1, .int .i64 2] wq fun e w' => e = .returned (.bool true) ∧ w' = wq) := fun wq => meet_any 3 1 2 wq (by omega)
  have HL : Hid (∀ q : Cl wa.heap.size wa, Calls Tryd.prog 15 #[] q.u fun e w' => e = .returned (.bool true) ∧ w' = q.u) := fun q => lives16_any q.u (hna.below q.h)
  have HB : Hid (∀ q : Cl wa.heap.size wa, Below w.heap.size w q.u) := fun q => hB.out.trans (q.h.mono hB.out.size)
  have A := u64_and_nat p q (by omega) (by omega)
  have hap : p &&& q = 0 → pcB p + pcB q ≤ 2 := fun h => pcB_apart (by omega) h hp2 hq2
  have al : bits BinOp.and IntKind.u64 3 2 = 2 := by decide
  have W1 : IntKind.u64.wrap 2 = 2 := by decide
  have W2 : IntKind.u64.wrap 4 = 4 := by decide
  generalize p &&& q = r at *
  generalize pcB p = k1 at *
  generalize pcB q = k2 at *
  clear hna hy hz
  by_cases h1 : 2 ≤ k1
  · by_cases h2 : 1 ≤ k2
    · have hr : ¬ r = 0 := fun e => by have := hap e; omega
      have hr2 : ((r : Int) == 0) = false := by simp [hr]
      have i1 : (2 : Int) ≤ (k1 : Int) := by omega
      have i2 : (1 : Int) ≤ (k2 : Int) := by omega
      clear hap h1 h2
      (go_enter Tryd.func5, Tryd.ntmps5; go_wp2_with fail; rw [← hwa]; clear hwa; go_wp2_with fail; refine wp_region_cl wa.heap.size (by kernel_rfl) (by kernel_rfl) ?_; quiet_step (fail); quiet_step (fail); quiet_step (fail); quiet_step (fail); quiet_step (fail); quiet_step (fail); quiet_step (fail); quiet_step (fail); quiet_step (fail); quiet_step (fail); quiet_step (fail); quiet_step (fail); quiet_step (fail); quiet_step (fail); refine wpQuiet_nil ?_; rintro _ ⟨qq, rfl⟩; clear W1 W2; have L := HL.out qq; have HQ := HB.out qq; clear HL HB c1 c2; generalize qq.u = wq at *; go_wp2_with (first | (go_at_call 19; with_reducible (refine (B1.out _).mono ?_); rintro e _ ⟨rfl, hw⟩; obtain rfl := hw.symm; clear hw) | (go_at_call 19; with_reducible (refine (B2.out _).mono ?_); rintro e _ ⟨rfl, hw⟩; obtain rfl := hw.symm; clear hw) | (go_at_call 9; with_reducible (refine (N1.out _).mono ?_); rintro e _ ⟨rfl, hw⟩; obtain rfl := hw.symm; clear hw) | (go_at_call 9; with_reducible (refine (N2.out _).mono ?_); rintro e _ ⟨rfl, hw⟩; obtain rfl := hw.symm; clear hw) | (go_at_call 13; with_reducible (refine (M1.out _).mono ?_); rintro e _ ⟨rfl, hw⟩; obtain rfl := hw.symm; clear hw) | (go_at_call 13; with_reducible (refine (M2.out _).mono ?_); rintro e _ ⟨rfl, hw⟩; obtain rfl := hw.symm; clear hw) | (go_at_call 13; with_reducible (refine (M3.out _).mono ?_); rintro e _ ⟨rfl, hw⟩; obtain rfl := hw.symm; clear hw) | (go_at_call 15; with_reducible (refine L.mono ?_); rintro e _ ⟨rfl, hw⟩; obtain rfl := hw.symm; clear hw)); go_ret; exact ⟨rfl, HQ⟩)
    · have i1 : (2 : Int) ≤ (k1 : Int) := by omega
      have i2 : ¬ (1 : Int) ≤ (k2 : Int) := by omega
      clear hap h1 h2
      (go_enter Tryd.func5, Tryd.ntmps5; go_wp2_with fail; rw [← hwa]; clear hwa; go_wp2_with fail; refine wp_region_cl wa.heap.size (by kernel_rfl) (by kernel_rfl) ?_; quiet_step (fail); quiet_step (fail); quiet_step (fail); quiet_step (fail); quiet_step (fail); quiet_step (fail); quiet_step (fail); quiet_step (fail); quiet_step (fail); quiet_step (fail); quiet_step (fail); quiet_step (fail); quiet_step (fail); quiet_step (fail); refine wpQuiet_nil ?_; rintro _ ⟨qq, rfl⟩; clear W1 W2; have L := HL.out qq; have HQ := HB.out qq; clear HL HB c1 c2; generalize qq.u = wq at *; go_wp2_with (first | (go_at_call 19; with_reducible (refine (B1.out _).mono ?_); rintro e _ ⟨rfl, hw⟩; obtain rfl := hw.symm; clear hw) | (go_at_call 19; with_reducible (refine (B2.out _).mono ?_); rintro e _ ⟨rfl, hw⟩; obtain rfl := hw.symm; clear hw) | (go_at_call 9; with_reducible (refine (N1.out _).mono ?_); rintro e _ ⟨rfl, hw⟩; obtain rfl := hw.symm; clear hw) | (go_at_call 9; with_reducible (refine (N2.out _).mono ?_); rintro e _ ⟨rfl, hw⟩; obtain rfl := hw.symm; clear hw) | (go_at_call 13; with_reducible (refine (M1.out _).mono ?_); rintro e _ ⟨rfl, hw⟩; obtain rfl := hw.symm; clear hw) | (go_at_call 13; with_reducible (refine (M2.out _).mono ?_); rintro e _ ⟨rfl, hw⟩; obtain rfl := hw.symm; clear hw) | (go_at_call 13; with_reducible (refine (M3.out _).mono ?_); rintro e _ ⟨rfl, hw⟩; obtain rfl := hw.symm; clear hw) | (go_at_call 15; with_reducible (refine L.mono ?_); rintro e _ ⟨rfl, hw⟩; obtain rfl := hw.symm; clear hw)); go_ret; exact ⟨rfl, HQ⟩)
  · have i1 : ¬ (2 : Int) ≤ (k1 : Int) := by omega
    clear hap h1
    (go_enter Tryd.func5, Tryd.ntmps5; go_wp2_with fail; rw [← hwa]; clear hwa; go_wp2_with fail; refine wp_region_cl wa.heap.size (by kernel_rfl) (by kernel_rfl) ?_; quiet_step (fail); quiet_step (fail); quiet_step (fail); quiet_step (fail); quiet_step (fail); quiet_step (fail); quiet_step (fail); quiet_step (fail); quiet_step (fail); quiet_step (fail); quiet_step (fail); quiet_step (fail); quiet_step (fail); quiet_step (fail); refine wpQuiet_nil ?_; rintro _ ⟨qq, rfl⟩; clear W1 W2; have L := HL.out qq; have HQ := HB.out qq; clear HL HB c1 c2; generalize qq.u = wq at *; go_wp2_with (first | (go_at_call 19; with_reducible (refine (B1.out _).mono ?_); rintro e _ ⟨rfl, hw⟩; obtain rfl := hw.symm; clear hw) | (go_at_call 19; with_reducible (refine (B2.out _).mono ?_); rintro e _ ⟨rfl, hw⟩; obtain rfl := hw.symm; clear hw) | (go_at_call 9; with_reducible (refine (N1.out _).mono ?_); rintro e _ ⟨rfl, hw⟩; obtain rfl := hw.symm; clear hw) | (go_at_call 9; with_reducible (refine (N2.out _).mono ?_); rintro e _ ⟨rfl, hw⟩; obtain rfl := hw.symm; clear hw) | (go_at_call 13; with_reducible (refine (M1.out _).mono ?_); rintro e _ ⟨rfl, hw⟩; obtain rfl := hw.symm; clear hw) | (go_at_call 13; with_reducible (refine (M2.out _).mono ?_); rintro e _ ⟨rfl, hw⟩; obtain rfl := hw.symm; clear hw) | (go_at_call 13; with_reducible (refine (M3.out _).mono ?_); rintro e _ ⟨rfl, hw⟩; obtain rfl := hw.symm; clear hw) | (go_at_call 15; with_reducible (refine L.mono ?_); rintro e _ ⟨rfl, hw⟩; obtain rfl := hw.symm; clear hw)); go_ret; exact ⟨rfl, HQ⟩)
set_option maxRecDepth 100000 in
set_option maxHeartbeats 2000000 in
theorem at32 (x y z u v : Int) (w : World) (hy : 0 ≤ y ∧ y ≤ 18446744073709551615) (hz : 0 ≤ z ∧ z ≤ 18446744073709551615) (hn : Nms w)
    (hc : x.tmod 8 = 1) (ha : u.tmod 3 = 2) (hb : v.tmod 3 = 1) :
    Calls Tryd.prog 5 #[.int .u64 u, .int .u64 v, .agg #[.int .u64 x, .int .u64 y, .int .u64 z]] w fun e w' => e = .returned (.bool true) ∧ Below w.heap.size w w' := by
  obtain ⟨wa, hwa⟩ : ∃ wa, wa = w.alloc (.cells #[.int .u64 x, .int .u64 y, .int .u64 z] 33) := ⟨_, rfl⟩
  have hB : Hid (Below w.heap.size w wa) := by show Below _ _ _; rw [hwa]; exact (Below.refl _ _).alloc (Nat.le_refl _) _
  have bk : Blk wa w.heap.size [.int .u64 x, .int .u64 y, .int .u64 z] 33 := by rw [hwa]; exact Blk.new _ _ _
  have c0 := bk.cell 0 rfl
  have hlt : w.heap.size < wa.heap.size := bk.lt
  have c1 : ∀ q : Cl wa.heap.size wa, q.u.cell? ⟨w.heap.size, 1, none⟩ = some (.int .u64 y) := fun q => q.cell hlt (bk.cell 1 rfl)
  have c2 : ∀ q : Cl wa.heap.size wa, q.u.cell? ⟨w.heap.size, 2, none⟩ = some (.int .u64 z) := fun q => q.cell hlt (bk.cell 2 rfl)
  haveI := Cl.inh wa.heap.size wa
  have hna : Nms wa := hn.below hB.out
  clear bk hn hlt
  obtain ⟨p, hp, hp2⟩ : ∃ p : Nat, y.tmod 4 = (p : Int) ∧ p < 4 := by
    have e := Int.tmod_eq_emod_of_nonneg (b := 4) hy.1
    exact ⟨(y.tmod 4).toNat, by omega, by omega⟩
  obtain ⟨q, hq, hq2⟩ : ∃ q : Nat, z.tmod 4 = (q : Int) ∧ q < 4 := by
    have e := Int.tmod_eq_emod_of_nonneg (b := 4) hz.1
    exact ⟨(z.tmod 4).toNat, by omega, by omega⟩
  have B1 : Hid (∀ wq, Calls Tryd.prog 19 #[.int .u64 (p : Int)] wq fun e w' => e = .returned (.int .i64 (pcB p : Int)) ∧ w' = wq) := fun wq => bits16_any p (by omega) wq
  have B2 : Hid (∀ wq, Calls Tryd.prog 19 #[.int .u64 (q : Int)] wq fun e w' => e = .returned (.int .i64 (pcB q : Int)) ∧ w' = wq) := fun wq => bits16_any q (by omega) wq
  have N1 : Hid (∀ wq, Calls Tryd.prog 9 #[.int .i64 3, .int .i64 2] wq fun e w' => e = .returned (.int .i64 2) ∧ w' = wq) := fun wq => need_any 3 2 wq (by omega)
  have N2 : Hid (∀ wq, Calls Tryd.prog 9 #[.int .i64 2, .int .i64 2] wq fun e w' => e = .returned (.int .i64 2) ∧ w' = wq) := fun wq => need_any 2 2 wq (by omega)
  have M1 : Hid (∀ wq, Calls Tryd.prog 13 #[.int .i64 3, .int .i64 2, .int .i64 2] wq fun e w' => e = .returned (.bool true) ∧ w' = wq) := fun wq => meet_any 3 2 2 wq (by omega)
  have M2 : Hid (∀ wq, Calls Tryd.prog 13 #[.int .i64 2, .int .i64 2, .int .i64 2] wq fun e w' => e = .returned (.bool true) ∧ w' = wq) := fun wq => meet_any 2 2 2 wq (by omega)
  have M3 : Hid (∀ wq, Calls Tryd.prog 13 #[.int .i64 3, .int .i64 1, .int .i64 2] wq fun e w' => e = .returned (.bool true) ∧ w' = wq) := fun wq => meet_any 3 1 2 wq (by omega)
  have HL : Hid (∀ q : Cl wa.heap.size wa, Calls Tryd.prog 15 #[] q.u fun e w' => e = .returned (.bool true) ∧ w' = q.u) := fun q => lives16_any q.u (hna.below q.h)
  have HB : Hid (∀ q : Cl wa.heap.size wa, Below w.heap.size w q.u) := fun q => hB.out.trans (q.h.mono hB.out.size)
  have A := u64_and_nat p q (by omega) (by omega)
  have hap : p &&& q = 0 → pcB p + pcB q ≤ 2 := fun h => pcB_apart (by omega) h hp2 hq2
  have al : bits BinOp.and IntKind.u64 3 3 = 3 := by decide
  have W1 : IntKind.u64.wrap 2 = 2 := by decide
  have W2 : IntKind.u64.wrap 4 = 4 := by decide
  generalize p &&& q = r at *
  generalize pcB p = k1 at *
  generalize pcB q = k2 at *
  clear hna hy hz
  by_cases h1 : 2 ≤ k1
  · by_cases h2 : 2 ≤ k2
    · have hr : ¬ r = 0 := fun e => by have := hap e; omega
      have hr2 : ((r : Int) == 0) = false := by simp [hr]
      have i1 : (2 : Int) ≤ (k1 : Int) := by omega
      have i2 : (2 : Int) ≤ (k2 : Int) := by omega
      clear hap h1 h2
      (go_enter Tryd.func5, Tryd.ntmps5; go_wp2_with fail; rw [← hwa]; clear hwa; go_wp2_with fail; refine wp_region_cl wa.heap.size (by kernel_rfl) (by kernel_rfl) ?_; quiet_step (fail); quiet_step (fail); quiet_step (fail); quiet_step (fail); quiet_step (fail); quiet_step (fail); quiet_step (fail); quiet_step (fail); quiet_step (fail); quiet_step (fail); quiet_step (fail); quiet_step (fail); quiet_step (fail); quiet_step (fail); refine wpQuiet_nil ?_; rintro _ ⟨qq, rfl⟩; clear W1 W2; have L := HL.out qq; have HQ := HB.out qq; clear HL HB c1 c2; generalize qq.u = wq at *; go_wp2_with (first | (go_at_call 19; with_reducible (refine (B1.out _).mono ?_); rintro e _ ⟨rfl, hw⟩; obtain rfl := hw.symm; clear hw) | (go_at_call 19; with_reducible (refine (B2.out _).mono ?_); rintro e _ ⟨rfl, hw⟩; obtain rfl := hw.symm; clear hw) | (go_at_call 9; with_reducible (refine (N1.out _).mono ?_); rintro e _ ⟨rfl, hw⟩; obtain rfl := hw.symm; clear hw) | (go_at_call 9; with_reducible (refine (N2.out _).mono ?_); rintro e _ ⟨rfl, hw⟩; obtain rfl := hw.symm; clear hw) | (go_at_call 13; with_reducible (refine (M1.out _).mono ?_); rintro e _ ⟨rfl, hw⟩; obtain rfl := hw.symm; clear hw) | (go_at_call 13; with_reducible (refine (M2.out _).mono ?_); rintro e _ ⟨rfl, hw⟩; obtain rfl := hw.symm; clear hw) | (go_at_call 13; with_reducible (refine (M3.out _).mono ?_); rintro e _ ⟨rfl, hw⟩; obtain rfl := hw.symm; clear hw) | (go_at_call 15; with_reducible (refine L.mono ?_); rintro e _ ⟨rfl, hw⟩; obtain rfl := hw.symm; clear hw)); go_ret; exact ⟨rfl, HQ⟩)
    · have i1 : (2 : Int) ≤ (k1 : Int) := by omega
      have i2 : ¬ (2 : Int) ≤ (k2 : Int) := by omega
      clear hap h1 h2
      (go_enter Tryd.func5, Tryd.ntmps5; go_wp2_with fail; rw [← hwa]; clear hwa; go_wp2_with fail; refine wp_region_cl wa.heap.size (by kernel_rfl) (by kernel_rfl) ?_; quiet_step (fail); quiet_step (fail); quiet_step (fail); quiet_step (fail); quiet_step (fail); quiet_step (fail); quiet_step (fail); quiet_step (fail); quiet_step (fail); quiet_step (fail); quiet_step (fail); quiet_step (fail); quiet_step (fail); quiet_step (fail); refine wpQuiet_nil ?_; rintro _ ⟨qq, rfl⟩; clear W1 W2; have L := HL.out qq; have HQ := HB.out qq; clear HL HB c1 c2; generalize qq.u = wq at *; go_wp2_with (first | (go_at_call 19; with_reducible (refine (B1.out _).mono ?_); rintro e _ ⟨rfl, hw⟩; obtain rfl := hw.symm; clear hw) | (go_at_call 19; with_reducible (refine (B2.out _).mono ?_); rintro e _ ⟨rfl, hw⟩; obtain rfl := hw.symm; clear hw) | (go_at_call 9; with_reducible (refine (N1.out _).mono ?_); rintro e _ ⟨rfl, hw⟩; obtain rfl := hw.symm; clear hw) | (go_at_call 9; with_reducible (refine (N2.out _).mono ?_); rintro e _ ⟨rfl, hw⟩; obtain rfl := hw.symm; clear hw) | (go_at_call 13; with_reducible (refine (M1.out _).mono ?_); rintro e _ ⟨rfl, hw⟩; obtain rfl := hw.symm; clear hw) | (go_at_call 13; with_reducible (refine (M2.out _).mono ?_); rintro e _ ⟨rfl, hw⟩; obtain rfl := hw.symm; clear hw) | (go_at_call 13; with_reducible (refine (M3.out _).mono ?_); rintro e _ ⟨rfl, hw⟩; obtain rfl := hw.symm; clear hw) | (go_at_call 15; with_reducible (refine L.mono ?_); rintro e _ ⟨rfl, hw⟩; obtain rfl := hw.symm; clear hw)); go_ret; exact ⟨rfl, HQ⟩)
  · have i1 : ¬ (2 : Int) ≤ (k1 : Int) := by omega
    clear hap h1
    (go_enter Tryd.func5, Tryd.ntmps5; go_wp2_with fail; rw [← hwa]; clear hwa; go_wp2_with fail; refine wp_region_cl wa.heap.size (by kernel_rfl) (by kernel_rfl) ?_; quiet_step (fail); quiet_step (fail); quiet_step (fail); quiet_step (fail); quiet_step (fail); quiet_step (fail); quiet_step (fail); quiet_step (fail); quiet_step (fail); quiet_step (fail); quiet_step (fail); quiet_step (fail); quiet_step (fail); quiet_step (fail); refine wpQuiet_nil ?_; rintro _ ⟨qq, rfl⟩; clear W1 W2; have L := HL.out qq; have HQ := HB.out qq; clear HL HB c1 c2; generalize qq.u = wq at *; go_wp2_with (first | (go_at_call 19; with_reducible (refine (B1.out _).mono ?_); rintro e _ ⟨rfl, hw⟩; obtain rfl := hw.symm; clear hw) | (go_at_call 19; with_reducible (refine (B2.out _).mono ?_); rintro e _ ⟨rfl, hw⟩; obtain rfl := hw.symm; clear hw) | (go_at_call 9; with_reducible (refine (N1.out _).mono ?_); rintro e _ ⟨rfl, hw⟩; obtain rfl := hw.symm; clear hw) | (go_at_call 9; with_reducible (refine (N2.out _).mono ?_); rintro e _ ⟨rfl, hw⟩; obtain rfl := hw.symm; clear hw) | (go_at_call 13; with_reducible (refine (M1.out _).mono ?_); rintro e _ ⟨rfl, hw⟩; obtain rfl := hw.symm; clear hw) | (go_at_call 13; with_reducible (refine (M2.out _).mono ?_); rintro e _ ⟨rfl, hw⟩; obtain rfl := hw.symm; clear hw) | (go_at_call 13; with_reducible (refine (M3.out _).mono ?_); rintro e _ ⟨rfl, hw⟩; obtain rfl := hw.symm; clear hw) | (go_at_call 15; with_reducible (refine L.mono ?_); rintro e _ ⟨rfl, hw⟩; obtain rfl := hw.symm; clear hw)); go_ret; exact ⟨rfl, HQ⟩)
set_option maxRecDepth 100000 in
set_option maxHeartbeats 2000000 in
theorem at33 (x y z u v : Int) (w : World) (hy : 0 ≤ y ∧ y ≤ 18446744073709551615) (hz : 0 ≤ z ∧ z ≤ 18446744073709551615) (hn : Nms w)
    (hc : x.tmod 8 = 1) (ha : u.tmod 3 = 2) (hb : v.tmod 3 = 2) :
    Calls Tryd.prog 5 #[.int .u64 u, .int .u64 v, .agg #[.int .u64 x, .int .u64 y, .int .u64 z]] w fun e w' => e = .returned (.bool true) ∧ Below w.heap.size w w' := by
  obtain ⟨wa, hwa⟩ : ∃ wa, wa = w.alloc (.cells #[.int .u64 x, .int .u64 y, .int .u64 z] 33) := ⟨_, rfl⟩
  have hB : Hid (Below w.heap.size w wa) := by show Below _ _ _; rw [hwa]; exact (Below.refl _ _).alloc (Nat.le_refl _) _
  have bk : Blk wa w.heap.size [.int .u64 x, .int .u64 y, .int .u64 z] 33 := by rw [hwa]; exact Blk.new _ _ _
  have c0 := bk.cell 0 rfl
  have hlt : w.heap.size < wa.heap.size := bk.lt
  have c1 : ∀ q : Cl wa.heap.size wa, q.u.cell? ⟨w.heap.size, 1, none⟩ = some (.int .u64 y) := fun q => q.cell hlt (bk.cell 1 rfl)
  have c2 : ∀ q : Cl wa.heap.size wa, q.u.cell? ⟨w.heap.size, 2, none⟩ = some (.int .u64 z) := fun q => q.cell hlt (bk.cell 2 rfl)
  haveI := Cl.inh wa.heap.size wa
  have hna : Nms wa := hn.below hB.out
  clear bk hn hlt
  obtain ⟨p, hp, hp2⟩ : ∃ p : Nat, y.tmod 4 = (p : Int) ∧ p < 4 := by
    have e := Int.tmod_eq_emod_of_nonneg (b := 4) hy.1
    exact ⟨(y.tmod 4).toNat, by omega, by omega⟩
  obtain ⟨q, hq, hq2⟩ : ∃ q : Nat, z.tmod 4 = (q : Int) ∧ q < 4 := by
    have e := Int.tmod_eq_emod_of_nonneg (b := 4) hz.1
    exact ⟨(z.tmod 4).toNat, by omega, by omega⟩
  have B1 : Hid (∀ wq, Calls Tryd.prog 19 #[.int .u64 (p : Int)] wq fun e w' => e = .returned (.int .i64 (pcB p : Int)) ∧ w' = wq) := fun wq => bits16_any p (by omega) wq
  have B2 : Hid (∀ wq, Calls Tryd.prog 19 #[.int .u64 (q : Int)] wq fun e w' => e = .returned (.int .i64 (pcB q : Int)) ∧ w' = wq) := fun wq => bits16_any q (by omega) wq
  have N1 : Hid (∀ wq, Calls Tryd.prog 9 #[.int .i64 3, .int .i64 2] wq fun e w' => e = .returned (.int .i64 2) ∧ w' = wq) := fun wq => need_any 3 2 wq (by omega)
  have N2 : Hid (∀ wq, Calls Tryd.prog 9 #[.int .i64 3, .int .i64 2] wq fun e w' => e = .returned (.int .i64 2) ∧ w' = wq) := fun wq => need_any 3 2 wq (by omega)
  have M1 : Hid (∀ wq, Calls Tryd.prog 13 #[.int .i64 3, .int .i64 3, .int .i64 2] wq fun e w' => e = .returned (.bool true) ∧ w' = wq) := fun wq => meet_any 3 3 2 wq (by omega)
  have M2 : Hid (∀ wq, Calls Tryd.prog 13 #[.int .i64 2, .int .i64 2, .int .i64 2] wq fun e w' => e = .returned (.bool true) ∧ w' = wq) := fun wq => meet_any 2 2 2 wq (by omega)
  have M3 : Hid (∀ wq, Calls Tryd.prog 13 #[.int .i64 3, .int .i64 1, .int .i64 2] wq fun e w' => e = .returned (.bool true) ∧ w' = wq) := fun wq => meet_any 3 1 2 wq (by omega)
  have HL : Hid (∀ q : Cl wa.heap.size wa, Calls Tryd.prog 15 #[] q.u fun e w' => e = .returned (.bool true) ∧ w' = q.u) := fun q => lives16_any q.u (hna.below q.h)
  have HB : Hid (∀ q : Cl wa.heap.size wa, Below w.heap.size w q.u) := fun q => hB.out.trans (q.h.mono hB.out.size)
  have A := u64_and_nat p q (by omega) (by omega)
  have hap : p &&& q = 0 → pcB p + pcB q ≤ 2 := fun h => pcB_apart (by omega) h hp2 hq2
  have al : bits BinOp.and IntKind.u64 3 3 = 3 := by decide
  have W1 : IntKind.u64.wrap 2 = 2 := by decide
  have W2 : IntKind.u64.wrap 4 = 4 := by decide
  generalize p &&& q = r at *
  generalize pcB p = k1 at *
  generalize pcB q = k2 at *
  clear hna hy hz
  by_cases h1 : 2 ≤ k1
  · by_cases h2 : 2 ≤ k2
    · have hr : ¬ r = 0 := fun e => by have := hap e; omega
      have hr2 : ((r : Int) == 0) = false := by simp [hr]
      have i1 : (2 : Int) ≤ (k1 : Int) := by omega
      have i2 : (2 : Int) ≤ (k2 : Int) := by omega
      clear hap h1 h2
      (go_enter Tryd.func5, Tryd.ntmps5; go_wp2_with fail; rw [← hwa]; clear hwa; go_wp2_with fail; refine wp_region_cl wa.heap.size (by kernel_rfl) (by kernel_rfl) ?_; quiet_step (fail); quiet_step (fail); quiet_step (fail); quiet_step (fail); quiet_step (fail); quiet_step (fail); quiet_step (fail); quiet_step (fail); quiet_step (fail); quiet_step (fail); quiet_step (fail); quiet_step (fail); quiet_step (fail); quiet_step (fail); refine wpQuiet_nil ?_; rintro _ ⟨qq, rfl⟩; clear W1 W2; have L := HL.out qq; have HQ := HB.out qq; clear HL HB c1 c2; generalize qq.u = wq at *; go_wp2_with (first | (go_at_call 19; with_reducible (refine (B1.out _).mono ?_); rintro e _ ⟨rfl, hw⟩; obtain rfl := hw.symm; clear hw) | (go_at_call 19; with_reducible (refine (B2.out _).mono ?_); rintro e _ ⟨rfl, hw⟩; obtain rfl := hw.symm; clear hw) | (go_at_call 9; with_reducible (refine (N1.out _).mono ?_); rintro e _ ⟨rfl, hw⟩; obtain rfl := hw.symm; clear hw) | (go_at_call 9; with_reducible (refine (N2.out _).mono ?_); rintro e _ ⟨rfl, hw⟩; obtain rfl := hw.symm; clear hw) | (go_at_call 13; with_reducible (refine (M1.out _).mono ?_); rintro e _ ⟨rfl, hw⟩; obtain rfl := hw.symm; clear hw) | (go_at_call 13; with_reducible (refine (M2.out _).mono ?_); rintro e _ ⟨rfl, hw⟩; obtain rfl := hw.symm; clear hw) | (go_at_call 13; with_reducible (refine (M3.out _).mono ?_); rintro e _ ⟨rfl, hw⟩; obtain rfl := hw.symm; clear hw) | (go_at_call 15; with_reducible (refine L.mono ?_); rintro e _ ⟨rfl, hw⟩; obtain rfl := hw.symm; clear hw)); go_ret; exact ⟨rfl, HQ⟩)
    · have i1 : (2 : Int) ≤ (k1 : Int) := by omega
      have i2 : ¬ (2 : Int) ≤ (k2 : Int) := by omega
      clear hap h1 h2
      (go_enter Tryd.func5, Tryd.ntmps5; go_wp2_with fail; rw [← hwa]; clear hwa; go_wp2_with fail; refine wp_region_cl wa.heap.size (by kernel_rfl) (by kernel_rfl) ?_; quiet_step (fail); quiet_step (fail); quiet_step (fail); quiet_step (fail); quiet_step (fail); quiet_step (fail); quiet_step (fail); quiet_step (fail); quiet_step (fail); quiet_step (fail); quiet_step (fail); quiet_step (fail); quiet_step (fail); quiet_step (fail); refine wpQuiet_nil ?_; rintro _ ⟨qq, rfl⟩; clear W1 W2; have L := HL.out qq; have HQ := HB.out qq; clear HL HB c1 c2; generalize qq.u = wq at *; go_wp2_with (first | (go_at_call 19; with_reducible (refine (B1.out _).mono ?_); rintro e _ ⟨rfl, hw⟩; obtain rfl := hw.symm; clear hw) | (go_at_call 19; with_reducible (refine (B2.out _).mono ?_); rintro e _ ⟨rfl, hw⟩; obtain rfl := hw.symm; clear hw) | (go_at_call 9; with_reducible (refine (N1.out _).mono ?_); rintro e _ ⟨rfl, hw⟩; obtain rfl := hw.symm; clear hw) | (go_at_call 9; with_reducible (refine (N2.out _).mono ?_); rintro e _ ⟨rfl, hw⟩; obtain rfl := hw.symm; clear hw) | (go_at_call 13; with_reducible (refine (M1.out _).mono ?_); rintro e _ ⟨rfl, hw⟩; obtain rfl := hw.symm; clear hw) | (go_at_call 13; with_reducible (refine (M2.out _).mono ?_); rintro e _ ⟨rfl, hw⟩; obtain rfl := hw.symm; clear hw) | (go_at_call 13; with_reducible (refine (M3.out _).mono ?_); rintro e _ ⟨rfl, hw⟩; obtain rfl := hw.symm; clear hw) | (go_at_call 15; with_reducible (refine L.mono ?_); rintro e _ ⟨rfl, hw⟩; obtain rfl := hw.symm; clear hw)); go_ret; exact ⟨rfl, HQ⟩)
  · have i1 : ¬ (2 : Int) ≤ (k1 : Int) := by omega
    clear hap h1
    (go_enter Tryd.func5, Tryd.ntmps5; go_wp2_with fail; rw [← hwa]; clear hwa; go_wp2_with fail; refine wp_region_cl wa.heap.size (by kernel_rfl) (by kernel_rfl) ?_; quiet_step (fail); quiet_step (fail); quiet_step (fail); quiet_step (fail); quiet_step (fail); quiet_step (fail); quiet_step (fail); quiet_step (fail); quiet_step (fail); quiet_step (fail); quiet_step (fail); quiet_step (fail); quiet_step (fail); quiet_step (fail); refine wpQuiet_nil ?_; rintro _ ⟨qq, rfl⟩; clear W1 W2; have L := HL.out qq; have HQ := HB.out qq; clear HL HB c1 c2; generalize qq.u = wq at *; go_wp2_with (first | (go_at_call 19; with_reducible (refine (B1.out _).mono ?_); rintro e _ ⟨rfl, hw⟩; obtain rfl := hw.symm; clear hw) | (go_at_call 19; with_reducible (refine (B2.out _).mono ?_); rintro e _ ⟨rfl, hw⟩; obtain rfl := hw.symm; clear hw) | (go_at_call 9; with_reducible (refine (N1.out _).mono ?_); rintro e _ ⟨rfl, hw⟩; obtain rfl := hw.symm; clear hw) | (go_at_call 9; with_reducible (refine (N2.out _).mono ?_); rintro e _ ⟨rfl, hw⟩; obtain rfl := hw.symm; clear hw) | (go_at_call 13; with_reducible (refine (M1.out _).mono ?_); rintro e _ ⟨rfl, hw⟩; obtain rfl := hw.symm; clear hw) | (go_at_call 13; with_reducible (refine (M2.out _).mono ?_); rintro e _ ⟨rfl, hw⟩; obtain rfl := hw.symm; clear hw) | (go_at_call 13; with_reducible (refine (M3.out _).mono ?_); rintro e _ ⟨rfl, hw⟩; obtain rfl := hw.symm; clear hw) | (go_at_call 15; with_reducible (refine L.mono ?_); rintro e _ ⟨rfl, hw⟩; obtain rfl := hw.symm; clear hw)); go_ret; exact ⟨rfl, HQ⟩)
end Go.Proofs.YtljbaoaglpheoaaDoor.levelMeets2
