/-
  WHAT THE ROWS' LIST GIVES, for laws of the manifest: the sum's table, the powers of ten, the readers' error.
-/
import Derived.Test.YthihljjefncfoaaDoorManLives
import Derived.Test.YthihljjefncfoaaDoorManLaid
import Derived.Test.YthihljjefncfoaaDoorCards
import Derived.Test.YthihljjefncfoaaDoorTie
import Derived.ProofKit
import Derived.OpenShut
import Derived.ShutString
import Derived.ChangeOld
import Derived.Deep.DeepHandedRow
import Derived.Deep.DeepWitnessRowRef
import Derived.Lib.LaidTab
import Derived.LaidHandle
import Derived.Stop.LaidErr
import Derived.SizedLaws
import Derived.Lay
namespace Go.Proofs.YthihljjefncfoaaDoor
open Go.ChangeShapes Go.WideShapes Go.ChangeAt Go.RowKit

theorem ownM : ownKnob Tryd.prog.godebug = none := by kernel_rfl
theorem laidOutM : laidOutB Tryd.prog = true := by kernel_rfl
/-- The list that each row has. -/
def laidFive : List (String × DataW Unit) := [("math/bits.deBruijn32tab", Rows.laid_math_bits_deBruijn32tab), ("math/bits.deBruijn64tab", Rows.laid_math_bits_deBruijn64tab), ("internal/strconv.uint64pow10", Rows.laid_internal_strconv_uint64pow10), ("skerry/codec.fourSteps", Rows.laid_skerry_codec_fourSteps), ("skerry/codec.errNone", Rows.laid_skerry_codec_errNone)]
theorem gPowTypeM : (Tryd.prog.globals[2]?).map (·.type) = some 108 := by kernel_rfl
theorem cellsPowM : Tryd.prog.cellsOf 108 = 20 := by kernel_rfl
theorem cells64M : Tryd.prog.cellsOf 55 = 1 := by kernel_rfl
theorem gTabM : Tryd.prog.globalNamed "skerry/codec.fourSteps" = some 0 := by kernel_rfl
theorem gTabTypeM : (Tryd.prog.globals[0]?).map (·.type) = some 95 := by kernel_rfl
theorem cellsTabM : Tryd.prog.cellsOf 95 = 16 := by kernel_rfl
theorem cells32M : Tryd.prog.cellsOf 76 = 1 := by kernel_rfl
theorem gErrM : Tryd.prog.globalNamed "skerry/codec.errNone" = some 1 := by kernel_rfl
theorem gErrTypeM : (Tryd.prog.globals[1]?).map (·.type) = some 99 := by kernel_rfl
theorem cellsErrM : Tryd.prog.cellsOf 131 = 1 := by kernel_rfl
theorem cellsStrM : Tryd.prog.cellsOf 9 = 1 := by kernel_rfl
theorem starM : "*" ++ "errors.errorString" = "*errors.errorString" := by decide
theorem rowErrM (u : TypeId) (h : Tryd.prog.typeName? 3 u = some "*errors.errorString") : u = 114 :=
  typeName_ptr_named (nm := "errors.errorString") (by rw [starM]; kernel_rfl) (by kernel_rfl) (by decide) u (by rw [starM]; exact h)

theorem met_ofM {W : World} (h : laidMetH Tryd.prog laidFive W) : laidMet Tryd.prog laidFive W := by rw [MakeChecks.laidMetH_plain _ _ _ (by kernel_rfl)] at h; exact h
theorem tab5 {W : World} (h : laidMetH Tryd.prog laidFive W) : Tab W := by
  have h4 := laidMet.tail (laidMet.tail (laidMet.tail (met_ofM h)))
  have hT : Lib.TabIs Tryd.prog W "skerry/codec.fourSteps" .u32 tabZ := Lib.tabIs_of_head gTabM gTabTypeM Tryd.underlying95 Tryd.underlying76 cells32M cellsTabM h4
  exact fun j hj => hT.cell gTabM j hj
theorem env5 {W : World} (h : laidMetH Tryd.prog laidFive W) : EnvM W := by
  have h3 := laidMet.tail (laidMet.tail (met_ofM h))
  exact Lib.tabIs_of_head (zs := Lib.pow10Tab) gPowM gPowTypeM Tryd.underlying108 Tryd.underlying55 cells64M cellsPowM h3
theorem err5 {W : World} (h : laidMetH Tryd.prog laidFive W) : ∃ u pv, Err W u pv := by
  have h5 := laidMet.tail (laidMet.tail (laidMet.tail (laidMet.tail (met_ofM h))))
  obtain ⟨a0, s0, hv0, _, _, _⟩ := laid_sentinel h5 gErrM gErrTypeM Tryd.underlying99 rowErrM Tryd.underlying114 Tryd.underlying131 rfl rfl Tryd.underlying9 cellsErrM cellsStrM
  exact ⟨114, .pointer (some a0), World.var?_cell gErrM hv0 0⟩
theorem door_met5 (os : Os) (args : Array Value) : laidMetH Tryd.prog laidFive ((World.laidAll Tryd.prog os laidFive).forCall (fun _ _ => 0) ⟨#[], args, []⟩).memory := by
  rw [MakeChecks.laidMetH_plain _ _ _ (by kernel_rfl)]; exact laidMet_laidAll _ (by kernel_rfl) (by kernel_rfl)
end Go.Proofs.YthihljjefncfoaaDoor
