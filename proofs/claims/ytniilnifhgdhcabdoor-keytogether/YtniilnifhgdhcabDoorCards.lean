/-
  DERIVED. GIVEN WITH THE SEED: THE CARDS: each row of YtniilnifhgdhcabDoorRows.lean that lists a variable, with what it lists TIED to the program's text (the seventh form; the later family's looks); each row that meets fmt, with fmt's text TOLD by the authors' own Lean function (tested against real Go, not proved from fmt's source: count such statements apart). THE CARD IS WHAT COUNTS. Prove the row's statement (the work); the ties are given (YtniilnifhgdhcabDoorTie.lean); close each card by the builder's one call (the guide's Derived/Test/ToyasCard.lean, 'card_holds'). Laid BY PROGRAM, IN A SANDBOX (cutbox-door.mjs). By AI agents, Wed Nov 11 2026. No macro, syntax, notation, axiom, sorry.
-/
import Derived.Test.YtniilnifhgdhcabDoorRows
import GoSem.ClaimSeven
namespace Go.Proofs.YtniilnifhgdhcabDoor
namespace Rows

/-- THE TIED CARD OF 'skerrylaw04.KeyTogether'. -/
def keyTogetherCard : Claim7 := { stood := { row := keyTogetherRow, standIns := [], harness := (true, "c8aa7fdbe72e65d0a87d2fe86fbc0be0fa8baebf03115b9b08b9380266aba004"), looks := false }, kinds := [], alts := [], laidByText := true, laidKinds := [.data, .data, .data, .data, .pinned], laidTests := true, laidLooks := .later }
def KeyTogetherCardSaid : Prop := Claim7.holds Tryd.pinned (.plain (OpenSpec.ofChange keyTogetherSpec)) keyTogetherCard

/-- THE SECOND FORM's CARD OF 'skerrylaw04.KeyTogether'. -/
def keyTogetherUptoCard : Claim7 := { stood := { row := keyTogetherUptoRow, standIns := [], harness := (true, "c8aa7fdbe72e65d0a87d2fe86fbc0be0fa8baebf03115b9b08b9380266aba004"), looks := false }, kinds := [], alts := [], laidByText := true, laidKinds := [.data, .data, .data, .data, .pinned], laidTests := true, laidLooks := .later }
def KeyTogetherUptoCardSaid : Prop := Claim7.holds Tryd.pinned (.plain (OpenSpec.upto keyTogetherSpec)) keyTogetherUptoCard
end Rows
end Go.Proofs.YtniilnifhgdhcabDoor
