/-
  THE LAW LevelGrows: the walk.
-/
import Derived.Test.YtljbaoaglpheoaaDoorLvlLow
namespace Go.Proofs.YtljbaoaglpheoaaDoor.levelGrows
open Go.RowKit

set_option maxRecDepth 100000 in
set_option maxHeartbeats 2000000 in
theorem walk (u : Nat) (w : World) (_hu : u ≤ 18446744073709551615) (hn : Nms w) :
    Calls Tryd.prog 6 #[.int .u64 (u : Int)] w fun e w' => e = .returned (.bool true) ∧ Below w.heap.size w w' := by
  obtain ⟨r, hr⟩ : ∃ r : Int, (u : Int).tmod 1000 = r := ⟨_, rfl⟩
  have hr' : (u : Int) % 1000 = r := by rw [← hr]; exact (Int.tmod_eq_emod_of_nonneg (by omega)).symm
  have r0 : 0 ≤ r := by omega
  have r1 : r < 1000 := by omega
  obtain ⟨n, hnr⟩ : ∃ n : Int, 1 + r = n := ⟨_, rfl⟩
  have n0 : 1 ≤ n := by omega
  have n1 : n ≤ 1000 := by omega
  have hl : ¬ n < 1 := by omega
  obtain ⟨q, hq⟩ : ∃ q : Int, n / 2 + 1 = q := ⟨_, rfl⟩
  obtain ⟨q', hq'⟩ : ∃ q : Int, (n + 1) / 2 + 1 = q := ⟨_, rfl⟩
  have A : Hid (Calls Tryd.prog 9 #[.int .i64 1, .int .i64 n] w fun e w' => e = .returned (.int .i64 1) ∧ w' = w) := by
    have := need_any 1 n w (by omega); rw [nd_one hl] at this; exact this
  have B : Hid (Calls Tryd.prog 9 #[.int .i64 2, .int .i64 n] w fun e w' => e = .returned (.int .i64 q) ∧ w' = w) := by
    have := need_any 2 n w (by omega); rw [nd_two hl, hq] at this; exact this
  have C : Hid (Calls Tryd.prog 9 #[.int .i64 3, .int .i64 n] w fun e w' => e = .returned (.int .i64 n) ∧ w' = w) := by
    have := need_any 3 n w (by omega); rw [nd_all hl] at this; exact this
  have D : Hid (Calls Tryd.prog 9 #[.int .i64 2, .int .i64 (n + 1)] w fun e w' => e = .returned (.int .i64 q') ∧ w' = w) := by
    have := need_any 2 (n + 1) w (by omega); rw [nd_two (by omega), hq'] at this; exact this
  have E : Hid (Calls Tryd.prog 9 #[.int .i64 0, .int .i64 n] w fun e w' => e = .returned (.int .i64 0) ∧ w' = w) := by
    have := need_any 0 n w (by omega); rw [nd_no (by omega) (by omega) (by omega)] at this; exact this
  have F : Hid (Calls Tryd.prog 9 #[.int .i64 4, .int .i64 n] w fun e w' => e = .returned (.int .i64 0) ∧ w' = w) := by
    have := need_any 4 n w (by omega); rw [nd_no (by omega) (by omega) (by omega)] at this; exact this
  have L : Hid (Calls Tryd.prog 15 #[] w fun e w' => e = .returned (.bool true) ∧ w' = w) := lives16_any w hn
  have q0 : 1 ≤ q := by omega
  have q1 : q ≤ n := by omega
  have q2 : ¬ 2 * q ≤ n := by omega
  have q3 : ¬ n < 2 * (q - 1) := by omega
  have q4 : q ≤ q' := by omega
  clear hq hq' hn hl
  go_enter Tryd.func6, Tryd.ntmps6
  go_wp2_with (first | (go_at_call 9; refine A.out.mono ?_; rintro e _ ⟨rfl, hw⟩; obtain rfl := hw.symm; clear hw A) | (go_at_call 9; refine B.out.mono ?_; rintro e _ ⟨rfl, hw⟩; obtain rfl := hw.symm; clear hw B) | (go_at_call 9; refine C.out.mono ?_; rintro e _ ⟨rfl, hw⟩; obtain rfl := hw.symm; clear hw C) | (go_at_call 9; refine D.out.mono ?_; rintro e _ ⟨rfl, hw⟩; obtain rfl := hw.symm; clear hw D) | (go_at_call 9; refine E.out.mono ?_; rintro e _ ⟨rfl, hw⟩; obtain rfl := hw.symm; clear hw E) | (go_at_call 9; refine F.out.mono ?_; rintro e _ ⟨rfl, hw⟩; obtain rfl := hw.symm; clear hw F) | (go_at_call 15; refine L.out.mono ?_; rintro e _ ⟨rfl, hw⟩; obtain rfl := hw.symm; clear hw L))
  go_ret
  exact ⟨rfl, Below.refl _ _⟩
end Go.Proofs.YtljbaoaglpheoaaDoor.levelGrows
