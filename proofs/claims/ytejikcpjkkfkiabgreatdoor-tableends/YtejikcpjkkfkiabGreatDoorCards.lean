/-
  DERIVED. GIVEN WITH THE SEED: THE CARDS: each row of YtejikcpjkkfkiabGreatDoorRows.lean that lists a variable, with what it lists TIED to the program's text (the seventh form; the later family's looks); each row that meets fmt, with fmt's text TOLD by the authors' own Lean function (tested against real Go, not proved from fmt's source: count such statements apart). THE CARD IS WHAT COUNTS. Prove the row's statement (the work); the ties are given (YtejikcpjkkfkiabGreatDoorTie.lean); close each card by the builder's one call (the guide's Derived/Test/ToyasCard.lean, 'card_holds'). Laid BY PROGRAM, IN A SANDBOX (cutbox-door.mjs). By AI agents, Wed Nov 11 2026. No macro, syntax, notation, axiom, sorry.
-/
import Derived.Test.YtejikcpjkkfkiabGreatDoorRows
import GoSem.ClaimSeven
namespace Go.Proofs.YtejikcpjkkfkiabGreatDoor
namespace Rows

/-- THE TIED CARD OF 'skerrylaw09.TableEnds'. -/
def tableEndsCard : Claim7 := { stood := { row := tableEndsRow, standIns := [], harness := (true, "4b951fdbc52254ddbceb1ba64080eec2bc068b3b7d72665fb458cc0bcba921f9"), looks := false }, kinds := [], alts := [], laidByText := true, laidKinds := [.data, .sentinel], laidTests := true, laidLooks := .later }
def TableEndsCardSaid : Prop := Claim7.holds Tryz.pinned (.plain (OpenSpec.ofChange tableEndsSpec)) tableEndsCard

/-- THE SECOND FORM's CARD OF 'skerrylaw09.TableEnds'. -/
def tableEndsUptoCard : Claim7 := { stood := { row := tableEndsUptoRow, standIns := [], harness := (true, "4b951fdbc52254ddbceb1ba64080eec2bc068b3b7d72665fb458cc0bcba921f9"), looks := false }, kinds := [], alts := [], laidByText := true, laidKinds := [.data, .sentinel], laidTests := true, laidLooks := .later }
def TableEndsUptoCardSaid : Prop := Claim7.holds Tryz.pinned (.plain (OpenSpec.upto tableEndsSpec)) tableEndsUptoCard
end Rows
end Go.Proofs.YtejikcpjkkfkiabGreatDoor
