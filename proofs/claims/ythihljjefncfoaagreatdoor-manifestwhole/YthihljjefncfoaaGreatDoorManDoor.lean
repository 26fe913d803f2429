/-
  WHAT THE ROWS' LIST GIVES, for laws of the manifest: the sum's table, the powers of ten, the readers' error.
-/
import Derived.Test.YthihljjefncfoaaGreatDoorManLives
import Derived.Test.YthihljjefncfoaaGreatDoorManLaid
import Derived.Test.YthihljjefncfoaaGreatDoorCards
import Derived.Test.YthihljjefncfoaaGreatDoorTie
import Derived.ProofKit
import Derived.OpenShut
import Derived.ShutString
import Derived.ChangeOld
import Derived.Deep.DeepHandedRow
import Derived.Deep.DeepWitnessRowRef
import Derived.Lib.LaidTab
import Derived.LaidHandle
import Derived.Stop.LaidErr
import Derived.SizedLaws
import Derived.Lay
namespace Go.Proofs.YthihljjefncfoaaGreatDoor
open Go.ChangeShapes Go.WideShapes Go.ChangeAt Go.RowKit

theorem ownM : ownKnob Tryz.prog.godebug = none := by kernel_rfl
theorem laidOutM : laidOutB Tryz.prog = true := by kernel_rfl
/-- The list that each row has. -/
def laidFive : List (String × DataW Unit) := [("math/bits.deBruijn32tab", Rows.laid_math_bits_deBruijn32tab), ("math/bits.deBruijn64tab", Rows.laid_math_bits_deBruijn64tab), ("internal/strconv.uint64pow10", Rows.laid_internal_strconv_uint64pow10), ("skerry/codec.fourSteps", Rows.laid_skerry_codec_fourSteps), ("skerry/codec.errNone", Rows.laid_skerry_codec_errNone)]
theorem gPowTypeM : (Tryz.prog.globals[2]?).map (·.type) = some 181 := by kernel_rfl
theorem cellsPowM : Tryz.prog.cellsOf 181 = 20 := by kernel_rfl
theorem cells64M : Tryz.prog.cellsOf 95 = 1 := by kernel_rfl
theorem gTabM : Tryz.prog.globalNamed "skerry/codec.fourSteps" = some 0 := by kernel_rfl
theorem gTabTypeM : (Tryz.prog.globals[0]?).map (·.type) = some 164 := by kernel_rfl
theorem cellsTabM : Tryz.prog.cellsOf 164 = 16 := by kernel_rfl
theorem cells32M : Tryz.prog.cellsOf 129 = 1 := by kernel_rfl
theorem gErrM : Tryz.prog.globalNamed "skerry/codec.errNone" = some 1 := by kernel_rfl
theorem gErrTypeM : (Tryz.prog.globals[1]?).map (·.type) = some 172 := by kernel_rfl
theorem cellsErrM : Tryz.prog.cellsOf 205 = 1 := by kernel_rfl
theorem cellsStrM : Tryz.prog.cellsOf 9 = 1 := by kernel_rfl
theorem starM : "*" ++ "errors.errorString" = "*errors.errorString" := by decide
theorem rowErrM (u : TypeId) (h : Tryz.prog.typeName? 3 u = some "*errors.errorString") : u = 189 :=
  typeName_ptr_named (nm := "errors.errorString") (by rw [starM]; kernel_rfl) (by kernel_rfl) (by decide) u (by rw [starM]; exact h)

theorem met_ofM {W : World} (h : laidMetH Tryz.prog laidFive W) : laidMet Tryz.prog laidFive W := by rw [MakeChecks.laidMetH_plain _ _ _ (by kernel_rfl)] at h; exact h
theorem tab5 {W : World} (h : laidMetH Tryz.prog laidFive W) : Tab W := by
  have h4 := laidMet.tail (laidMet.tail (laidMet.tail (met_ofM h)))
  have hT : Lib.TabIs Tryz.prog W "skerry/codec.fourSteps" .u32 tabZ := Lib.tabIs_of_head gTabM gTabTypeM Tryz.underlying164 Tryz.underlying129 cells32M cellsTabM h4
  exact fun j hj => hT.cell gTabM j hj
theorem env5 {W : World} (h : laidMetH Tryz.prog laidFive W) : EnvM W := by
  have h3 := laidMet.tail (laidMet.tail (met_ofM h))
  exact Lib.tabIs_of_head (zs := Lib.pow10Tab) gPowM gPowTypeM Tryz.underlying181 Tryz.underlying95 cells64M cellsPowM h3
theorem err5 {W : World} (h : laidMetH Tryz.prog laidFive W) : ∃ u pv, Err W u pv := by
  have h5 := laidMet.tail (laidMet.tail (laidMet.tail (laidMet.tail (met_ofM h))))
  obtain ⟨a0, s0, hv0, _, _, _⟩ := laid_sentinel h5 gErrM gErrTypeM Tryz.underlying172 rowErrM Tryz.underlying189 Tryz.underlying205 rfl rfl Tryz.underlying9 cellsErrM cellsStrM
  exact ⟨189, .pointer (some a0), World.var?_cell gErrM hv0 0⟩
theorem door_met5 (os : Os) (args : Array Value) : laidMetH Tryz.prog laidFive ((World.laidAll Tryz.prog os laidFive).forCall (fun _ _ => 0) ⟨#[], args, []⟩).memory := by
  rw [MakeChecks.laidMetH_plain _ _ _ (by kernel_rfl)]; exact laidMet_laidAll _ (by kernel_rfl) (by kernel_rfl)
end Go.Proofs.YthihljjefncfoaaGreatDoor
