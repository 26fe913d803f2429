/-
  CONTRACTS: the document's answers: how two versions compare, their join, a good cell.
-/
import Derived.Test.YtglaocghcgcghaaGreatDoorMany19
import Derived.Test.YtglaocghcgcghaaGreatDoorKeyRefGood
namespace Go.Proofs.YtglaocghcgcghaaGreatDoor
open Go.RowKit

theorem fu3_a {x y z : Int} (h : x ≠ 0) : fu [x, y, z] = x := th_of h _
theorem fu3_b {y z : Int} (h : y ≠ 0) : fu [0, y, z] = y := by show th 0 (th y _) = _; rw [th_zero, th_of h]
theorem fu3_c {z : Int} : fu [0, 0, z] = z := by show th 0 (th 0 (th z 0)) = _; rw [th_zero, th_zero]; unfold th; split <;> omega
end Go.Proofs.YtglaocghcgcghaaGreatDoor
