/-
  WHAT THE ROWS' LIST GIVES, for laws of tables: the sum's table, the readers' error.
-/
import Derived.Test.YtdookhmaiapclaaGreatDoorTabM3
import Derived.Test.YtdookhmaiapclaaGreatDoorCodGot
import Derived.Test.YtdookhmaiapclaaGreatDoorCards
import Derived.Test.YtdookhmaiapclaaGreatDoorTie
import Derived.ProofKit
import Derived.OpenShut
import Derived.ShutString
import Derived.ChangeOld
import Derived.Deep.DeepHandedRow
import Derived.Deep.DeepWitnessRowRef
import Derived.Lib.LaidTab
import Derived.LaidMore
import Derived.LaidHandle
import Derived.Stop.LaidErr
import Derived.SizedLaws
namespace Go.Proofs.YtdookhmaiapclaaGreatDoor
open Go.ChangeShapes Go.WideShapes Go.ChangeAt Go.RowKit

def laidTwo : List (String × DataW Unit) := [("skerry/codec.fourSteps", Rows.laid_skerry_codec_fourSteps), ("skerry/codec.errNone", Rows.laid_skerry_codec_errNone)]
theorem gTab : Tryz.prog.globalNamed "skerry/codec.fourSteps" = some 0 := by kernel_rfl
theorem gTabType : (Tryz.prog.globals[0]?).map (·.type) = some 166 := by kernel_rfl
theorem cellsTab : Tryz.prog.cellsOf 166 = 16 := by kernel_rfl
theorem cells32 : Tryz.prog.cellsOf 78 = 1 := by kernel_rfl
theorem gErr : Tryz.prog.globalNamed "skerry/codec.errNone" = some 1 := by kernel_rfl
theorem gErrType : (Tryz.prog.globals[1]?).map (·.type) = some 176 := by kernel_rfl
theorem cellsErr : Tryz.prog.cellsOf 203 = 1 := by kernel_rfl
theorem cellsStr : Tryz.prog.cellsOf 9 = 1 := by kernel_rfl
theorem star : "*" ++ "errors.errorString" = "*errors.errorString" := by decide
theorem rowErr (u : TypeId) (h : Tryz.prog.typeName? 3 u = some "*errors.errorString") : u = 188 :=
  typeName_ptr_named (nm := "errors.errorString") (by rw [star]; kernel_rfl) (by kernel_rfl) (by decide) u (by rw [star]; exact h)

theorem table2 {W : World} (h : laidMetH Tryz.prog laidTwo W) : Tab W := by
  have hT : Lib.TabIs Tryz.prog W "skerry/codec.fourSteps" .u32 tabZ := Lib.tabIs_of_head (rest := [("skerry/codec.errNone", Rows.laid_skerry_codec_errNone)]) gTab gTabType Tryz.underlying166 Tryz.underlying78 cells32 cellsTab h
  exact fun j hj => hT.cell gTab j hj
theorem err_of {W : World} (h : laidMetH Tryz.prog laidTwo W) : ∃ u pv, Err W u pv := by
  have h2 : laidMet Tryz.prog laidTwo W := h
  obtain ⟨a0, s0, hv0, _, _, _⟩ := laid_sentinel (laidMet.tail h2) gErr gErrType Tryz.underlying176 rowErr Tryz.underlying188 Tryz.underlying203 rfl rfl Tryz.underlying9 cellsErr cellsStr
  exact ⟨188, .pointer (some a0), World.var?_cell gErr hv0 0⟩
theorem door_met2 (os : Os) (args : Array Value) : laidMet Tryz.prog laidTwo ((World.doorLaid Tryz.prog 60 os).forCall (fun _ _ => 0) ⟨#[], args, []⟩).memory :=
  laidMet_of_run' 8 (by kernel_rfl) (by kernel_rfl)

end Go.Proofs.YtdookhmaiapclaaGreatDoor
