/-
  DERIVED. GIVEN WITH THE SEED: THE CARDS: each row of YtajebjkpmbehgaaGreatDoorRows.lean that lists a variable, with what it lists TIED to the program's text (the seventh form; the later family's looks); each row that meets fmt, with fmt's text TOLD by the authors' own Lean function (tested against real Go, not proved from fmt's source: count such statements apart). THE CARD IS WHAT COUNTS. Prove the row's statement (the work); the ties are given (YtajebjkpmbehgaaGreatDoorTie.lean); close each card by the builder's one call (the guide's Derived/Test/ToyasCard.lean, 'card_holds'). Laid BY PROGRAM, IN A SANDBOX (cutbox-door.mjs). By AI agents, Wed Nov 11 2026. No macro, syntax, notation, axiom, sorry.
-/
import Derived.Test.YtajebjkpmbehgaaGreatDoorRows
import GoSem.ClaimSeven
namespace Go.Proofs.YtajebjkpmbehgaaGreatDoor
namespace Rows

/-- THE TIED CARD OF 'skerrylaw18.LexerNexts'. -/
def lexerNextsCard : Claim7 := { stood := { row := lexerNextsRow, standIns := [], harness := (true, "4042eb7ca97eb465b3440099c8ef60052e248e4652e4dfabfde6edfaf12113d4"), looks := true }, kinds := [], alts := [], laidByText := true, laidKinds := [.data, .data, .data, .data, .sentinel, .sentinel, .data, .data, .data, .data, .pinned, .pinned], laidTests := true, laidLooks := .later }
def LexerNextsCardSaid : Prop := Claim7.holds Tryz.pinned (.plain (OpenSpec.ofChange lexerNextsSpec)) lexerNextsCard

/-- THE TIED CARD OF 'skerrylaw18.LexerLexes'. -/
def lexerLexesCard : Claim7 := { stood := { row := lexerLexesRow, standIns := [], harness := (true, "4042eb7ca97eb465b3440099c8ef60052e248e4652e4dfabfde6edfaf12113d4"), looks := true }, kinds := [], alts := [], laidByText := true, laidKinds := [.data, .data, .data, .data, .sentinel, .sentinel, .data, .data, .data, .data, .pinned, .pinned], laidTests := true, laidLooks := .later }
def LexerLexesCardSaid : Prop := Claim7.holds Tryz.pinned (.plain (OpenSpec.ofChange lexerLexesSpec)) lexerLexesCard

/-- THE SECOND FORM's CARD OF 'skerrylaw18.LexerNexts'. -/
def lexerNextsUptoCard : Claim7 := { stood := { row := lexerNextsUptoRow, standIns := [], harness := (true, "4042eb7ca97eb465b3440099c8ef60052e248e4652e4dfabfde6edfaf12113d4"), looks := true }, kinds := [], alts := [], laidByText := true, laidKinds := [.data, .data, .data, .data, .sentinel, .sentinel, .data, .data, .data, .data, .pinned, .pinned], laidTests := true, laidLooks := .later }
def LexerNextsUptoCardSaid : Prop := Claim7.holds Tryz.pinned (.plain (OpenSpec.upto lexerNextsSpec)) lexerNextsUptoCard

/-- THE SECOND FORM's CARD OF 'skerrylaw18.LexerLexes'. -/
def lexerLexesUptoCard : Claim7 := { stood := { row := lexerLexesUptoRow, standIns := [], harness := (true, "4042eb7ca97eb465b3440099c8ef60052e248e4652e4dfabfde6edfaf12113d4"), looks := true }, kinds := [], alts := [], laidByText := true, laidKinds := [.data, .data, .data, .data, .sentinel, .sentinel, .data, .data, .data, .data, .pinned, .pinned], laidTests := true, laidLooks := .later }
def LexerLexesUptoCardSaid : Prop := Claim7.holds Tryz.pinned (.plain (OpenSpec.upto lexerLexesSpec)) lexerLexesUptoCard
end Rows
end Go.Proofs.YtajebjkpmbehgaaGreatDoor
