/-
  DERIVED. GIVEN WITH THE SEED: THE CARDS: each row of YtakokhdnccaclabDoorRows.lean that lists a variable, with what it lists TIED to the program's text (the seventh form; the later family's looks); each row that meets fmt, with fmt's text TOLD by the authors' own Lean function (tested against real Go, not proved from fmt's source: count such statements apart). THE CARD IS WHAT COUNTS. Prove the row's statement (the work); the ties are given (YtakokhdnccaclabDoorTie.lean); close each card by the builder's one call (the guide's Derived/Test/ToyasCard.lean, 'card_holds'). Laid BY PROGRAM, IN A SANDBOX (cutbox-door.mjs). By AI agents, Wed Nov 11 2026. No macro, syntax, notation, axiom, sorry.
-/
import Derived.Test.YtakokhdnccaclabDoorRows
import GoSem.ClaimSeven
namespace Go.Proofs.YtakokhdnccaclabDoor
namespace Rows

/-- THE TIED CARD OF 'skerrylaw01.CodecShort'. -/
def codecShortCard : Claim7 := { stood := { row := codecShortRow, standIns := [], harness := (true, "d1bab88ff92561ba9e0265f97ffb38cc2eb935fea2293afdd1b6f3090ae8510f"), looks := false }, kinds := [], alts := [], laidByText := true, laidKinds := [.data, .sentinel], laidTests := true, laidLooks := .later }
def CodecShortCardSaid : Prop := Claim7.holds Tryd.pinned (.plain (OpenSpec.ofChange codecShortSpec)) codecShortCard

/-- THE TIED CARD OF 'skerrylaw01.CodecZigs'. -/
def codecZigsCard : Claim7 := { stood := { row := codecZigsRow, standIns := [], harness := (true, "d1bab88ff92561ba9e0265f97ffb38cc2eb935fea2293afdd1b6f3090ae8510f"), looks := false }, kinds := [], alts := [], laidByText := true, laidKinds := [.data], laidTests := true, laidLooks := .later }
def CodecZigsCardSaid : Prop := Claim7.holds Tryd.pinned (.plain (OpenSpec.ofChange codecZigsSpec)) codecZigsCard

/-- THE SECOND FORM's CARD OF 'skerrylaw01.CodecShort'. -/
def codecShortUptoCard : Claim7 := { stood := { row := codecShortUptoRow, standIns := [], harness := (true, "d1bab88ff92561ba9e0265f97ffb38cc2eb935fea2293afdd1b6f3090ae8510f"), looks := false }, kinds := [], alts := [], laidByText := true, laidKinds := [.data, .sentinel], laidTests := true, laidLooks := .later }
def CodecShortUptoCardSaid : Prop := Claim7.holds Tryd.pinned (.plain (OpenSpec.upto codecShortSpec)) codecShortUptoCard

/-- THE SECOND FORM's CARD OF 'skerrylaw01.CodecZigs'. -/
def codecZigsUptoCard : Claim7 := { stood := { row := codecZigsUptoRow, standIns := [], harness := (true, "d1bab88ff92561ba9e0265f97ffb38cc2eb935fea2293afdd1b6f3090ae8510f"), looks := false }, kinds := [], alts := [], laidByText := true, laidKinds := [.data], laidTests := true, laidLooks := .later }
def CodecZigsUptoCardSaid : Prop := Claim7.holds Tryd.pinned (.plain (OpenSpec.upto codecZigsSpec)) codecZigsUptoCard
end Rows
end Go.Proofs.YtakokhdnccaclabDoor
