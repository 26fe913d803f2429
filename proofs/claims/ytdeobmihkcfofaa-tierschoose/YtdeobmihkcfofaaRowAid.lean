/-
  WHAT COMES IN: bytes as a row's reading gives them; over any program.
-/
import Derived.Test.YtdeobmihkcfofaaOwn
import Derived.Test.YtdeobmihkcfofaaRows
import Derived.ProofKit
import Derived.OpenShut
import Derived.ShutString
import Derived.ChangeOld
import Derived.SizedLaws
namespace Go.Proofs.Ytdeobmihkcfofaa
open Go.ChangeShapes Go.WideShapes Go.ChangeAt Go.RowKit

theorem own : ownKnob Try.prog.godebug = none := by kernel_rfl
theorem laidOut : laidOutB Try.prog = true := by kernel_rfl
theorem byte_valR (n : Nat) (h : n < 256) : ((UInt8.ofNat n).toNat : Int) = n := by
  simp; omega
theorem bytes8 : Try.prog.bytesOf 5 = 1 := by kernel_rfl
end Go.Proofs.Ytdeobmihkcfofaa
