/-
  CONTRACTS: the codec's reader reads a number, in every state.
-/
import Derived.Test.YtoeoioigelknnaaGreatMany12
import Derived.Test.YtoeoioigelknnaaGreatMany10
namespace Go.Proofs.YtoeoioigelknnaaGreat
open Go.RowKit

theorem grownBy_trans {w w1 w2 : World} {r : Option Nat} (h : w.grownBy w1 r) (k : w1.grownBy w2 r) : w.grownBy w2 r :=
  ⟨k.os.trans h.os, k.tape.trans h.tape, k.output.trans h.output, Nat.le_trans h.size k.size, fun i hi hne => (k.block i (Nat.lt_of_lt_of_le hi h.size) hne).trans (h.block i hi hne)⟩

end Go.Proofs.YtoeoioigelknnaaGreat
