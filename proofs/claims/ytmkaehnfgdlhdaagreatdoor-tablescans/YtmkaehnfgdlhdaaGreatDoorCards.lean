/-
  DERIVED. GIVEN WITH THE SEED: THE CARDS: each row of YtmkaehnfgdlhdaaGreatDoorRows.lean that lists a variable, with what it lists TIED to the program's text (the seventh form; the later family's looks); each row that meets fmt, with fmt's text TOLD by the authors' own Lean function (tested against real Go, not proved from fmt's source: count such statements apart). THE CARD IS WHAT COUNTS. Prove the row's statement (the work); the ties are given (YtmkaehnfgdlhdaaGreatDoorTie.lean); close each card by the builder's one call (the guide's Derived/Test/ToyasCard.lean, 'card_holds'). Laid BY PROGRAM, IN A SANDBOX (cutbox-door.mjs). By AI agents, Wed Nov 11 2026. No macro, syntax, notation, axiom, sorry.
-/
import Derived.Test.YtmkaehnfgdlhdaaGreatDoorRows
import GoSem.ClaimSeven
namespace Go.Proofs.YtmkaehnfgdlhdaaGreatDoor
namespace Rows

/-- THE TIED CARD OF 'skerrylaw09.TableScans'. -/
def tableScansCard : Claim7 := { stood := { row := tableScansRow, standIns := [], harness := (true, "e9033ac50ca3f26da3465a1533932bfc860490c947a9bce5ce2be28557f7c50c"), looks := false }, kinds := [], alts := [], laidByText := true, laidKinds := [.data, .sentinel], laidTests := true, laidLooks := .later }
def TableScansCardSaid : Prop := Claim7.holds Tryz.pinned (.plain (OpenSpec.ofChange tableScansSpec)) tableScansCard

/-- THE SECOND FORM's CARD OF 'skerrylaw09.TableScans'. -/
def tableScansUptoCard : Claim7 := { stood := { row := tableScansUptoRow, standIns := [], harness := (true, "e9033ac50ca3f26da3465a1533932bfc860490c947a9bce5ce2be28557f7c50c"), looks := false }, kinds := [], alts := [], laidByText := true, laidKinds := [.data, .sentinel], laidTests := true, laidLooks := .later }
def TableScansUptoCardSaid : Prop := Claim7.holds Tryz.pinned (.plain (OpenSpec.upto tableScansSpec)) tableScansUptoCard
end Rows
end Go.Proofs.YtmkaehnfgdlhdaaGreatDoor
