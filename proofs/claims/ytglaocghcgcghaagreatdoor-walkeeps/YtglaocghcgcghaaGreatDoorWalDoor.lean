/-
  WHAT THE ROWS' LIST GIVES, for laws of the log: the sum's table, the powers of ten, strconv's errors.
-/
import Derived.Test.YtglaocghcgcghaaGreatDoorWalLives
import Derived.Test.YtglaocghcgcghaaGreatDoorMany22
import Derived.Test.YtglaocghcgcghaaGreatDoorCards
import Derived.Test.YtglaocghcgcghaaGreatDoorTie
import Derived.ProofKit
import Derived.OpenShut
import Derived.ShutString
import Derived.ChangeOld
import Derived.Deep.DeepHandedRow
import Derived.Deep.DeepWitnessRowRef
import Derived.Lib.LaidTab
import Derived.LaidHandle
import Derived.Stop.LaidErr
import Derived.SizedLaws
import Derived.Lay
namespace Go.Proofs.YtglaocghcgcghaaGreatDoor
open Go.ChangeShapes Go.WideShapes Go.ChangeAt Go.RowKit

theorem ownW : ownKnob Tryz.prog.godebug = none := by kernel_rfl
theorem laidOutW : laidOutB Tryz.prog = true := by kernel_rfl
/-- The list that each row has. -/
def laidSeven : List (String × DataW Unit) := [("math/bits.deBruijn32tab", Rows.laid_math_bits_deBruijn32tab), ("math/bits.deBruijn64tab", Rows.laid_math_bits_deBruijn64tab), ("internal/strconv.uint64pow10", Rows.laid_internal_strconv_uint64pow10), ("skerry/codec.fourSteps", Rows.laid_skerry_codec_fourSteps), ("skerry/codec.errNone", Rows.laid_skerry_codec_errNone), ("strconv.ErrRange", Rows.laid_strconv_ErrRange), ("strconv.ErrSyntax", Rows.laid_strconv_ErrSyntax)]
theorem gPowTypeW : (Tryz.prog.globals[3]?).map (·.type) = some 193 := by kernel_rfl
theorem cellsPowW : Tryz.prog.cellsOf 193 = 20 := by kernel_rfl
theorem cells64W : Tryz.prog.cellsOf 104 = 1 := by kernel_rfl
theorem gTabW : Tryz.prog.globalNamed "skerry/codec.fourSteps" = some 0 := by kernel_rfl
theorem gTabTypeW : (Tryz.prog.globals[0]?).map (·.type) = some 160 := by kernel_rfl
theorem cellsTabW : Tryz.prog.cellsOf 160 = 16 := by kernel_rfl
theorem cells32W : Tryz.prog.cellsOf 120 = 1 := by kernel_rfl
theorem gRng : Tryz.prog.globalNamed "strconv.ErrRange" = some 2 := by kernel_rfl
theorem gRngType : (Tryz.prog.globals[2]?).map (·.type) = some 128 := by kernel_rfl
theorem gSyn : Tryz.prog.globalNamed "strconv.ErrSyntax" = some 1 := by kernel_rfl
theorem gSynType : (Tryz.prog.globals[1]?).map (·.type) = some 128 := by kernel_rfl
theorem cellsErrW : Tryz.prog.cellsOf 207 = 1 := by kernel_rfl
theorem cellsStrW : Tryz.prog.cellsOf 9 = 1 := by kernel_rfl
theorem starW : "*" ++ "errors.errorString" = "*errors.errorString" := by decide
theorem rowErrW (u : TypeId) (h : Tryz.prog.typeName? 3 u = some "*errors.errorString") : u = 205 :=
  typeName_ptr_named (nm := "errors.errorString") (by rw [starW]; kernel_rfl) (by kernel_rfl) (by decide) u (by rw [starW]; exact h)

theorem met_of {W : World} (h : laidMetH Tryz.prog laidSeven W) : laidMet Tryz.prog laidSeven W := by rw [MakeChecks.laidMetH_plain _ _ _ (by kernel_rfl)] at h; exact h
theorem tab7 {W : World} (h : laidMetH Tryz.prog laidSeven W) : Tab W := by
  have h4 := laidMet.tail (laidMet.tail (laidMet.tail (met_of h)))
  have hT : Lib.TabIs Tryz.prog W "skerry/codec.fourSteps" .u32 tabZ := Lib.tabIs_of_head gTabW gTabTypeW Tryz.underlying160 Tryz.underlying120 cells32W cellsTabW h4
  exact fun j hj => hT.cell gTabW j hj
theorem env7 {W : World} (h : laidMetH Tryz.prog laidSeven W) : EnvW W := by
  have h3 := laidMet.tail (laidMet.tail (met_of h))
  have h6 := laidMet.tail (laidMet.tail (laidMet.tail h3))
  have h7 := laidMet.tail h6
  refine ⟨Lib.tabIs_of_head (zs := Lib.pow10Tab) gPowW gPowTypeW Tryz.underlying193 Tryz.underlying104 cells64W cellsPowW h3, ?_, ?_⟩
  · obtain ⟨a0, s0, hv0, _, _, _⟩ := laid_sentinel h7 gSyn gSynType Tryz.underlying128 rowErrW Tryz.underlying205 Tryz.underlying207 rfl rfl Tryz.underlying9 cellsErrW cellsStrW
    exact ⟨205, .pointer (some a0), World.var?_cell gSyn hv0 0⟩
  · obtain ⟨a0, s0, hv0, _, _, _⟩ := laid_sentinel h6 gRng gRngType Tryz.underlying128 rowErrW Tryz.underlying205 Tryz.underlying207 rfl rfl Tryz.underlying9 cellsErrW cellsStrW
    exact ⟨205, .pointer (some a0), World.var?_cell gRng hv0 0⟩
theorem gErrW : Tryz.prog.globalNamed "skerry/codec.errNone" = some 4 := by kernel_rfl
theorem gErrTypeW : (Tryz.prog.globals[4]?).map (·.type) = some 128 := by kernel_rfl
theorem err7 {W : World} (h : laidMetH Tryz.prog laidSeven W) : ∃ u pv, Err W u pv := by
  have h5 := laidMet.tail (laidMet.tail (laidMet.tail (laidMet.tail (met_of h))))
  obtain ⟨a0, s0, hv0, _, _, _⟩ := laid_sentinel h5 gErrW gErrTypeW Tryz.underlying128 rowErrW Tryz.underlying205 Tryz.underlying207 rfl rfl Tryz.underlying9 cellsErrW cellsStrW
  exact ⟨205, .pointer (some a0), World.var?_cell gErrW hv0 0⟩
theorem door_met7 (os : Os) (args : Array Value) : laidMetH Tryz.prog laidSeven ((World.laidAll Tryz.prog os laidSeven).forCall (fun _ _ => 0) ⟨#[], args, []⟩).memory := by
  rw [MakeChecks.laidMetH_plain _ _ _ (by kernel_rfl)]; exact laidMet_laidAll _ (by kernel_rfl) (by kernel_rfl)
end Go.Proofs.YtglaocghcgcghaaGreatDoor
