/-
  WHAT THE ROWS' LIST GIVES: the readers' error.
-/
import Derived.Test.YtblblngcmgdnnaaDoorBlmLaid
import Derived.Test.YtblblngcmgdnnaaDoorCodGot
import Derived.Test.YtblblngcmgdnnaaDoorCards
import Derived.Test.YtblblngcmgdnnaaDoorTie
import Derived.ProofKit
import Derived.OpenShut
import Derived.ShutString
import Derived.ChangeOld
import Derived.Deep.DeepHandedRow
import Derived.Deep.DeepWitnessRowRef
import Derived.Lib.LaidTab
import Derived.LaidMore
import Derived.LaidHandle
import Derived.Stop.LaidErr
import Derived.SizedLaws
namespace Go.Proofs.YtblblngcmgdnnaaDoor
open Go.ChangeShapes Go.WideShapes Go.ChangeAt Go.RowKit

/-- The list that each row has. -/
def laidE : List (String × DataW Unit) := [("skerry/codec.errNone", Rows.laid_skerry_codec_errNone)]
theorem gErr : Tryd.prog.globalNamed "skerry/codec.errNone" = some 0 := by kernel_rfl
theorem gErrType : (Tryd.prog.globals[0]?).map (·.type) = some 72 := by kernel_rfl
theorem cellsErr : Tryd.prog.cellsOf 95 = 1 := by kernel_rfl
theorem cellsStr : Tryd.prog.cellsOf 9 = 1 := by kernel_rfl
theorem star : "*" ++ "errors.errorString" = "*errors.errorString" := by decide
theorem rowErr (u : TypeId) (h : Tryd.prog.typeName? 3 u = some "*errors.errorString") : u = 78 :=
  typeName_ptr_named (nm := "errors.errorString") (by rw [star]; kernel_rfl) (by kernel_rfl) (by decide) u (by rw [star]; exact h)
theorem err_of {W : World} (h : laidMetH Tryd.prog laidE W) : ∃ u pv, Err W u pv := by
  have h2 : laidMet Tryd.prog laidE W := h
  obtain ⟨a0, s0, hv0, _, _, _⟩ := laid_sentinel h2 gErr gErrType Tryd.underlying72 rowErr Tryd.underlying78 Tryd.underlying95 rfl rfl Tryd.underlying9 cellsErr cellsStr
  exact ⟨78, .pointer (some a0), World.var?_cell gErr hv0 0⟩
theorem door_metE (os : Os) (args : Array Value) : laidMet Tryd.prog laidE ((World.doorLaid Tryd.prog 60 os).forCall (fun _ _ => 0) ⟨#[], args, []⟩).memory :=
  laidMet_of_run' 8 (by kernel_rfl) (by kernel_rfl)
end Go.Proofs.YtblblngcmgdnnaaDoor
