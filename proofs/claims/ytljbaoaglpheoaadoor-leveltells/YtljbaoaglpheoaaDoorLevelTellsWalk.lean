/-
  THE LAW LevelTells: the walk.
-/
import Derived.Test.YtljbaoaglpheoaaDoorLvlLow
namespace Go.Proofs.YtljbaoaglpheoaaDoor.levelTells
open Go.RowKit

set_option maxRecDepth 100000 in
set_option maxHeartbeats 2000000 in
theorem walk (a b c : Int) (w : World) (_ha : -9223372036854775808 ≤ a ∧ a ≤ 9223372036854775807) (_hb : -9223372036854775808 ≤ b ∧ b ≤ 9223372036854775807) (hc : -9223372036854775808 ≤ c ∧ c ≤ 9223372036854775807) (hn : Nms w) :
    Calls Tryd.prog 3 #[.int .i64 a, .int .i64 b, .int .i64 c] w fun e w' => e = .returned (.bool true) ∧ Below w.heap.size w w' := by
  have A := good16_any a w
  have A' := refGood16_any a w
  have B := need_any a c w hc.2
  have B' := refNeed_any a c w hc.2
  have C := name_any a w hn
  have C' := refName_any a w
  have D := meet_any a b c w hc
  have D' := refMeet_any a b c w hc
  have L := lives16_any w hn
  clear hn hc
  generalize (decide (1 ≤ a) && decide (a ≤ 3)) = x at *
  generalize nd a c = y at *
  generalize nm a = z at *
  generalize mt a b c = u at *
  have hx : (x == x) = true := by simp
  have hy : (y == y) = true := by simp
  have hu : (u == u) = true := by simp
  go_enter Tryd.func3, Tryd.ntmps3
  go_wp2_with (first | (go_at_call 7; refine A.mono ?_; rintro e _ ⟨rfl, hw⟩; obtain rfl := hw.symm; clear hw A) | (go_at_call 8; refine A'.mono ?_; rintro e _ ⟨rfl, hw⟩; obtain rfl := hw.symm; clear hw A') | (go_at_call 9; refine B.mono ?_; rintro e _ ⟨rfl, hw⟩; obtain rfl := hw.symm; clear hw B) | (go_at_call 10; refine B'.mono ?_; rintro e _ ⟨rfl, hw⟩; obtain rfl := hw.symm; clear hw B') | (go_at_call 11; refine C.mono ?_; rintro e _ ⟨rfl, hw⟩; obtain rfl := hw.symm; clear hw C) | (go_at_call 12; refine C'.mono ?_; rintro e _ ⟨rfl, hw⟩; obtain rfl := hw.symm; clear hw C') | (go_at_call 13; refine D.mono ?_; rintro e _ ⟨rfl, hw⟩; obtain rfl := hw.symm; clear hw D) | (go_at_call 14; refine D'.mono ?_; rintro e _ ⟨rfl, hw⟩; obtain rfl := hw.symm; clear hw D') | (go_at_call 15; refine L.mono ?_; rintro e _ ⟨rfl, hw⟩; obtain rfl := hw.symm; clear hw L))
  go_ret
  exact ⟨rfl, Below.refl _ _⟩
end Go.Proofs.YtljbaoaglpheoaaDoor.levelTells
