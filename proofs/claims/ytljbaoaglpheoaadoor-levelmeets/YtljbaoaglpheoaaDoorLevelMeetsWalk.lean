/-
  THE LAW LevelMeets: the walk.
-/
import Derived.Test.YtljbaoaglpheoaaDoorLevelMeets1
import Derived.Test.YtljbaoaglpheoaaDoorLevelMeets2
import Derived.Test.YtljbaoaglpheoaaDoorLevelMeets3
import Derived.Test.YtljbaoaglpheoaaDoorLevelMeets4
import Derived.Test.YtljbaoaglpheoaaDoorLevelMeets5
import Derived.Test.YtljbaoaglpheoaaDoorLevelMeets6
import Derived.Test.YtljbaoaglpheoaaDoorLevelMeets7
import Derived.Test.YtljbaoaglpheoaaDoorLevelMeets8
namespace Go.Proofs.YtljbaoaglpheoaaDoor.levelMeets
open Go.RowKit

theorem walk (u v : Nat) (x y z : Int) (w : World) (_hu : u ≤ 18446744073709551615) (_hv : v ≤ 18446744073709551615) (hx : 0 ≤ x ∧ x ≤ 18446744073709551615) (hy : 0 ≤ y ∧ y ≤ 18446744073709551615) (hz : 0 ≤ z ∧ z ≤ 18446744073709551615) (hn : Nms w) :
    Calls Tryd.prog 5 #[.int .u64 (u : Int), .int .u64 (v : Int), .agg #[.int .u64 x, .int .u64 y, .int .u64 z]] w fun e w' => e = .returned (.bool true) ∧ Below w.heap.size w w' := by
  have e1 : (u : Int).tmod 3 = (u : Int) % 3 := Int.tmod_eq_emod_of_nonneg (by omega)
  have e2 : (v : Int).tmod 3 = (v : Int) % 3 := Int.tmod_eq_emod_of_nonneg (by omega)
  have e3 : x.tmod 8 = x % 8 := Int.tmod_eq_emod_of_nonneg hx.1
  have ha : (u : Int).tmod 3 = 0 ∨ (u : Int).tmod 3 = 1 ∨ (u : Int).tmod 3 = 2 := by omega
  have hb : (v : Int).tmod 3 = 0 ∨ (v : Int).tmod 3 = 1 ∨ (v : Int).tmod 3 = 2 := by omega
  have hc : x.tmod 8 = 0 ∨ x.tmod 8 = 1 ∨ x.tmod 8 = 2 ∨ x.tmod 8 = 3 ∨ x.tmod 8 = 4 ∨ x.tmod 8 = 5 ∨ x.tmod 8 = 6 ∨ x.tmod 8 = 7 := by omega
  clear e1 e2 e3
  rcases hc with hc | hc | hc | hc | hc | hc | hc | hc
  · rcases ha with ha | ha | ha
    · rcases hb with hb | hb | hb
      · exact levelMeets1.at11 x y z u v w hy hz hn hc ha hb
      · exact levelMeets1.at12 x y z u v w hy hz hn hc ha hb
      · exact levelMeets1.at13 x y z u v w hy hz hn hc ha hb
    · rcases hb with hb | hb | hb
      · exact levelMeets1.at21 x y z u v w hy hz hn hc ha hb
      · exact levelMeets1.at22 x y z u v w hy hz hn hc ha hb
      · exact levelMeets1.at23 x y z u v w hy hz hn hc ha hb
    · rcases hb with hb | hb | hb
      · exact levelMeets1.at31 x y z u v w hy hz hn hc ha hb
      · exact levelMeets1.at32 x y z u v w hy hz hn hc ha hb
      · exact levelMeets1.at33 x y z u v w hy hz hn hc ha hb
  · rcases ha with ha | ha | ha
    · rcases hb with hb | hb | hb
      · exact levelMeets2.at11 x y z u v w hy hz hn hc ha hb
      · exact levelMeets2.at12 x y z u v w hy hz hn hc ha hb
      · exact levelMeets2.at13 x y z u v w hy hz hn hc ha hb
    · rcases hb with hb | hb | hb
      · exact levelMeets2.at21 x y z u v w hy hz hn hc ha hb
      · exact levelMeets2.at22 x y z u v w hy hz hn hc ha hb
      · exact levelMeets2.at23 x y z u v w hy hz hn hc ha hb
    · rcases hb with hb | hb | hb
      · exact levelMeets2.at31 x y z u v w hy hz hn hc ha hb
      · exact levelMeets2.at32 x y z u v w hy hz hn hc ha hb
      · exact levelMeets2.at33 x y z u v w hy hz hn hc ha hb
  · rcases ha with ha | ha | ha
    · rcases hb with hb | hb | hb
      · exact levelMeets3.at11 x y z u v w hy hz hn hc ha hb
      · exact levelMeets3.at12 x y z u v w hy hz hn hc ha hb
      · exact levelMeets3.at13 x y z u v w hy hz hn hc ha hb
    · rcases hb with hb | hb | hb
      · exact levelMeets3.at21 x y z u v w hy hz hn hc ha hb
      · exact levelMeets3.at22 x y z u v w hy hz hn hc ha hb
      · exact levelMeets3.at23 x y z u v w hy hz hn hc ha hb
    · rcases hb with hb | hb | hb
      · exact levelMeets3.at31 x y z u v w hy hz hn hc ha hb
      · exact levelMeets3.at32 x y z u v w hy hz hn hc ha hb
      · exact levelMeets3.at33 x y z u v w hy hz hn hc ha hb
  · rcases ha with ha | ha | ha
    · rcases hb with hb | hb | hb
      · exact levelMeets4.at11 x y z u v w hy hz hn hc ha hb
      · exact levelMeets4.at12 x y z u v w hy hz hn hc ha hb
      · exact levelMeets4.at13 x y z u v w hy hz hn hc ha hb
    · rcases hb with hb | hb | hb
      · exact levelMeets4.at21 x y z u v w hy hz hn hc ha hb
      · exact levelMeets4.at22 x y z u v w hy hz hn hc ha hb
      · exact levelMeets4.at23 x y z u v w hy hz hn hc ha hb
    · rcases hb with hb | hb | hb
      · exact levelMeets4.at31 x y z u v w hy hz hn hc ha hb
      · exact levelMeets4.at32 x y z u v w hy hz hn hc ha hb
      · exact levelMeets4.at33 x y z u v w hy hz hn hc ha hb
  · rcases ha with ha | ha | ha
    · rcases hb with hb | hb | hb
      · exact levelMeets5.at11 x y z u v w hy hz hn hc ha hb
      · exact levelMeets5.at12 x y z u v w hy hz hn hc ha hb
      · exact levelMeets5.at13 x y z u v w hy hz hn hc ha hb
    · rcases hb with hb | hb | hb
      · exact levelMeets5.at21 x y z u v w hy hz hn hc ha hb
      · exact levelMeets5.at22 x y z u v w hy hz hn hc ha hb
      · exact levelMeets5.at23 x y z u v w hy hz hn hc ha hb
    · rcases hb with hb | hb | hb
      · exact levelMeets5.at31 x y z u v w hy hz hn hc ha hb
      · exact levelMeets5.at32 x y z u v w hy hz hn hc ha hb
      · exact levelMeets5.at33 x y z u v w hy hz hn hc ha hb
  · rcases ha with ha | ha | ha
    · rcases hb with hb | hb | hb
      · exact levelMeets6.at11 x y z u v w hy hz hn hc ha hb
      · exact levelMeets6.at12 x y z u v w hy hz hn hc ha hb
      · exact levelMeets6.at13 x y z u v w hy hz hn hc ha hb
    · rcases hb with hb | hb | hb
      · exact levelMeets6.at21 x y z u v w hy hz hn hc ha hb
      · exact levelMeets6.at22 x y z u v w hy hz hn hc ha hb
      · exact levelMeets6.at23 x y z u v w hy hz hn hc ha hb
    · rcases hb with hb | hb | hb
      · exact levelMeets6.at31 x y z u v w hy hz hn hc ha hb
      · exact levelMeets6.at32 x y z u v w hy hz hn hc ha hb
      · exact levelMeets6.at33 x y z u v w hy hz hn hc ha hb
  · rcases ha with ha | ha | ha
    · rcases hb with hb | hb | hb
      · exact levelMeets7.at11 x y z u v w hy hz hn hc ha hb
      · exact levelMeets7.at12 x y z u v w hy hz hn hc ha hb
      · exact levelMeets7.at13 x y z u v w hy hz hn hc ha hb
    · rcases hb with hb | hb | hb
      · exact levelMeets7.at21 x y z u v w hy hz hn hc ha hb
      · exact levelMeets7.at22 x y z u v w hy hz hn hc ha hb
      · exact levelMeets7.at23 x y z u v w hy hz hn hc ha hb
    · rcases hb with hb | hb | hb
      · exact levelMeets7.at31 x y z u v w hy hz hn hc ha hb
      · exact levelMeets7.at32 x y z u v w hy hz hn hc ha hb
      · exact levelMeets7.at33 x y z u v w hy hz hn hc ha hb
  · rcases ha with ha | ha | ha
    · rcases hb with hb | hb | hb
      · exact levelMeets8.at11 x y z u v w hy hz hn hc ha hb
      · exact levelMeets8.at12 x y z u v w hy hz hn hc ha hb
      · exact levelMeets8.at13 x y z u v w hy hz hn hc ha hb
    · rcases hb with hb | hb | hb
      · exact levelMeets8.at21 x y z u v w hy hz hn hc ha hb
      · exact levelMeets8.at22 x y z u v w hy hz hn hc ha hb
      · exact levelMeets8.at23 x y z u v w hy hz hn hc ha hb
    · rcases hb with hb | hb | hb
      · exact levelMeets8.at31 x y z u v w hy hz hn hc ha hb
      · exact levelMeets8.at32 x y z u v w hy hz hn hc ha hb
      · exact levelMeets8.at33 x y z u v w hy hz hn hc ha hb
end Go.Proofs.YtljbaoaglpheoaaDoor.levelMeets
