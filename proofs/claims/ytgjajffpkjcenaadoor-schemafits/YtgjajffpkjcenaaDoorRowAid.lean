/-
  WHAT COMES IN: bytes as a row's reading gives them; over any program.
-/
import Derived.Test.YtgjajffpkjcenaaDoorOwn
import Derived.Test.YtgjajffpkjcenaaDoorRows
import Derived.ProofKit
import Derived.OpenShut
import Derived.ShutString
import Derived.ChangeOld
import Derived.SizedLaws
namespace Go.Proofs.YtgjajffpkjcenaaDoor
open Go.ChangeShapes Go.WideShapes Go.ChangeAt Go.RowKit

theorem own : ownKnob Tryd.prog.godebug = none := by kernel_rfl
theorem laidOut : laidOutB Tryd.prog = true := by kernel_rfl
theorem byte_valR (n : Nat) (h : n < 256) : ((UInt8.ofNat n).toNat : Int) = n := by
  simp; omega
theorem bytes8 : Tryd.prog.bytesOf 5 = 1 := by kernel_rfl
end Go.Proofs.YtgjajffpkjcenaaDoor
