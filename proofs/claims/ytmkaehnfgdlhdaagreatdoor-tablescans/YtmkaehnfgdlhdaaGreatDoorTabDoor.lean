/-
  WHAT THE ROWS' LIST GIVES, for laws of tables: the sum's table, the readers' error.
-/
import Derived.Test.YtmkaehnfgdlhdaaGreatDoorTabM3
import Derived.Test.YtmkaehnfgdlhdaaGreatDoorCodGot
import Derived.Test.YtmkaehnfgdlhdaaGreatDoorCards
import Derived.Test.YtmkaehnfgdlhdaaGreatDoorTie
import Derived.ProofKit
import Derived.OpenShut
import Derived.ShutString
import Derived.ChangeOld
import Derived.Deep.DeepHandedRow
import Derived.Deep.DeepWitnessRowRef
import Derived.Lib.LaidTab
import Derived.LaidMore
import Derived.LaidHandle
import Derived.Stop.LaidErr
import Derived.SizedLaws
namespace Go.Proofs.YtmkaehnfgdlhdaaGreatDoor
open Go.ChangeShapes Go.WideShapes Go.ChangeAt Go.RowKit

def laidTwo : List (String × DataW Unit) := [("skerry/codec.fourSteps", Rows.laid_skerry_codec_fourSteps), ("skerry/codec.errNone", Rows.laid_skerry_codec_errNone)]
theorem gTab : Tryz.prog.globalNamed "skerry/codec.fourSteps" = some 0 := by kernel_rfl
theorem gTabType : (Tryz.prog.globals[0]?).map (·.type) = some 137 := by kernel_rfl
theorem cellsTab : Tryz.prog.cellsOf 137 = 16 := by kernel_rfl
theorem cells32 : Tryz.prog.cellsOf 86 = 1 := by kernel_rfl
theorem gErr : Tryz.prog.globalNamed "skerry/codec.errNone" = some 1 := by kernel_rfl
theorem gErrType : (Tryz.prog.globals[1]?).map (·.type) = some 143 := by kernel_rfl
theorem cellsErr : Tryz.prog.cellsOf 174 = 1 := by kernel_rfl
theorem cellsStr : Tryz.prog.cellsOf 9 = 1 := by kernel_rfl
theorem star : "*" ++ "errors.errorString" = "*errors.errorString" := by decide
theorem rowErr (u : TypeId) (h : Tryz.prog.typeName? 3 u = some "*errors.errorString") : u = 159 :=
  typeName_ptr_named (nm := "errors.errorString") (by rw [star]; kernel_rfl) (by kernel_rfl) (by decide) u (by rw [star]; exact h)

theorem table2 {W : World} (h : laidMetH Tryz.prog laidTwo W) : Tab W := by
  have hT : Lib.TabIs Tryz.prog W "skerry/codec.fourSteps" .u32 tabZ := Lib.tabIs_of_head (rest := [("skerry/codec.errNone", Rows.laid_skerry_codec_errNone)]) gTab gTabType Tryz.underlying137 Tryz.underlying86 cells32 cellsTab h
  exact fun j hj => hT.cell gTab j hj
theorem err_of {W : World} (h : laidMetH Tryz.prog laidTwo W) : ∃ u pv, Err W u pv := by
  have h2 : laidMet Tryz.prog laidTwo W := h
  obtain ⟨a0, s0, hv0, _, _, _⟩ := laid_sentinel (laidMet.tail h2) gErr gErrType Tryz.underlying143 rowErr Tryz.underlying159 Tryz.underlying174 rfl rfl Tryz.underlying9 cellsErr cellsStr
  exact ⟨159, .pointer (some a0), World.var?_cell gErr hv0 0⟩
theorem door_met2 (os : Os) (args : Array Value) : laidMet Tryz.prog laidTwo ((World.doorLaid Tryz.prog 60 os).forCall (fun _ _ => 0) ⟨#[], args, []⟩).memory :=
  laidMet_of_run' 8 (by kernel_rfl) (by kernel_rfl)

end Go.Proofs.YtmkaehnfgdlhdaaGreatDoor
