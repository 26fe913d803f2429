/-
  WHAT THE ROWS' LIST GIVES, for laws of the schema: the library's table of blanks.
-/
import Derived.Test.YtgjajffpkjcenaaDoorSchWord
import Derived.Test.YtgjajffpkjcenaaDoorCards
import Derived.Test.YtgjajffpkjcenaaDoorTie
import Derived.ProofKit
import Derived.OpenShut
import Derived.ShutString
import Derived.ChangeOld
import Derived.Deep.DeepHandedRow
import Derived.Deep.DeepWitnessRowRef
import Derived.Lib.LaidTab
import Derived.LaidHandle
import Derived.Stop.LaidErr
import Derived.SizedLaws
import Derived.Lay
namespace Go.Proofs.YtgjajffpkjcenaaDoor
open Go.ChangeShapes Go.WideShapes Go.ChangeAt Go.RowKit

theorem ownR : ownKnob Tryd.prog.godebug = none := by kernel_rfl
theorem laidOutR : laidOutB Tryd.prog = true := by kernel_rfl
/-- The list that each row has. -/
def laidFour : List (String × DataW Unit) := [("unicode/utf8.acceptRanges", Rows.laid_unicode_utf8_acceptRanges), ("unicode.White_Space", Rows.laid_unicode_White_Space), ("strings.asciiSpace", Rows.laid_strings_asciiSpace), ("unicode/utf8.first", Rows.laid_unicode_utf8_first)]
theorem gSp : Tryd.prog.globalNamed "strings.asciiSpace" = some 0 := by kernel_rfl
theorem gSpType : (Tryd.prog.globals[0]?).map (·.type) = some 75 := by kernel_rfl
theorem cellsSp : Tryd.prog.cellsOf 75 = 256 := by kernel_rfl
theorem cells8S : Tryd.prog.cellsOf 5 = 1 := by kernel_rfl
def spTab : List Int := (List.range 9).map (fun _ => (0 : Int)) ++ (List.range 5).map (fun _ => (1 : Int)) ++ (List.range 18).map (fun _ => (0 : Int)) ++ [1] ++ (List.range 223).map (fun _ => (0 : Int))
set_option maxRecDepth 100000 in
theorem spTab_is : (Rows.laid_strings_asciiSpace : DataW Unit) = Lib.tabData .u8 spTab := by kernel_rfl
theorem spTab_low : ∀ c, c < 123 → 97 ≤ c → spTab.getD c 0 = 0 := by decide +kernel
theorem sp4 {W : World} (h : laidMetH Tryd.prog laidFour W) : SpT W := by
  rw [MakeChecks.laidMetH_plain _ _ _ (by kernel_rfl)] at h
  have h2 := laidMet.tail (laidMet.tail h)
  rw [spTab_is] at h2
  have hT : Lib.TabIs Tryd.prog W "strings.asciiSpace" .u8 spTab := Lib.tabIs_of_head (zs := spTab) gSp gSpType Tryd.underlying75 Tryd.underlying5 cells8S cellsSp h2
  have hl : spTab.length = 256 := by decide +kernel
  refine ⟨?_, fun c h1 h3 => ?_⟩
  · rw [hT.cell gSp 32 (by omega)]
    rfl
  · rw [hT.cell gSp c (by omega), spTab_low c (by omega) h1]
theorem door_met4 (os : Os) (args : Array Value) : laidMetH Tryd.prog laidFour ((World.laidAll Tryd.prog os laidFour).forCall (fun _ _ => 0) ⟨#[], args, []⟩).memory := by
  rw [MakeChecks.laidMetH_plain _ _ _ (by kernel_rfl)]; exact laidMet_laidAll _ (by kernel_rfl) (by kernel_rfl)
end Go.Proofs.YtgjajffpkjcenaaDoor
