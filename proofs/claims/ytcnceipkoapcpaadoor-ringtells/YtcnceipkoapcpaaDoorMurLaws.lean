/-
  THE LAWS' WALKS: lives, and MurmurMixes, MurmurSums, MurmurNothing.
-/
import Derived.Test.YtcnceipkoapcpaaDoorMurRef
namespace Go.Proofs.YtcnceipkoapcpaaDoor
open Go.RowKit

theorem sum_nil : sumB [] 0#64 = (0#64, 0#64) := by decide
theorem mix_zero : mixB 0#64 = 0#64 := by decide
theorem mix_one : ((mixB 1#64).toNat : Int) = 12994781566227106604 := by decide

end Go.Proofs.YtcnceipkoapcpaaDoor
