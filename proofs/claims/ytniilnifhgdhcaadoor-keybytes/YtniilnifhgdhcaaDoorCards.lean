/-
  DERIVED. GIVEN WITH THE SEED: THE CARDS: each row of YtniilnifhgdhcaaDoorRows.lean that lists a variable, with what it lists TIED to the program's text (the seventh form; the later family's looks); each row that meets fmt, with fmt's text TOLD by the authors' own Lean function (tested against real Go, not proved from fmt's source: count such statements apart). THE CARD IS WHAT COUNTS. Prove the row's statement (the work); the ties are given (YtniilnifhgdhcaaDoorTie.lean); close each card by the builder's one call (the guide's Derived/Test/ToyasCard.lean, 'card_holds'). Laid BY PROGRAM, IN A SANDBOX (cutbox-door.mjs). By AI agents, Wed Nov 11 2026. No macro, syntax, notation, axiom, sorry.
-/
import Derived.Test.YtniilnifhgdhcaaDoorRows
import GoSem.ClaimSeven
namespace Go.Proofs.YtniilnifhgdhcaaDoor
namespace Rows

/-- THE TIED CARD OF 'skerrylaw04.KeyTells'. -/
def keyTellsCard : Claim7 := { stood := { row := keyTellsRow, standIns := [], harness := (true, "9bbfcf21080ce11c1be5d7f45811e6c793a028195f494f335e80909fcbf5253e"), looks := false }, kinds := [], alts := [], laidByText := true, laidKinds := [.data, .data, .data, .data, .pinned], laidTests := true, laidLooks := .later }
def KeyTellsCardSaid : Prop := Claim7.holds Tryd.pinned (.plain (OpenSpec.ofChange keyTellsSpec)) keyTellsCard

/-- THE TIED CARD OF 'skerrylaw04.KeyCmps'. -/
def keyCmpsCard : Claim7 := { stood := { row := keyCmpsRow, standIns := [], harness := (true, "9bbfcf21080ce11c1be5d7f45811e6c793a028195f494f335e80909fcbf5253e"), looks := false }, kinds := [], alts := [], laidByText := true, laidKinds := [.data, .data, .data, .data, .pinned], laidTests := true, laidLooks := .later }
def KeyCmpsCardSaid : Prop := Claim7.holds Tryd.pinned (.plain (OpenSpec.ofChange keyCmpsSpec)) keyCmpsCard

/-- THE TIED CARD OF 'skerrylaw04.KeyBytes'. -/
def keyBytesCard : Claim7 := { stood := { row := keyBytesRow, standIns := [], harness := (true, "9bbfcf21080ce11c1be5d7f45811e6c793a028195f494f335e80909fcbf5253e"), looks := false }, kinds := [], alts := [], laidByText := true, laidKinds := [.data, .data, .data, .data, .pinned], laidTests := true, laidLooks := .later }
def KeyBytesCardSaid : Prop := Claim7.holds Tryd.pinned (.plain (OpenSpec.ofChange keyBytesSpec)) keyBytesCard

/-- THE TIED CARD OF 'skerrylaw04.KeyOrder'. -/
def keyOrderCard : Claim7 := { stood := { row := keyOrderRow, standIns := [], harness := (true, "9bbfcf21080ce11c1be5d7f45811e6c793a028195f494f335e80909fcbf5253e"), looks := false }, kinds := [], alts := [], laidByText := true, laidKinds := [.data, .data, .data, .data, .pinned], laidTests := true, laidLooks := .later }
def KeyOrderCardSaid : Prop := Claim7.holds Tryd.pinned (.plain (OpenSpec.ofChange keyOrderSpec)) keyOrderCard

/-- THE TIED CARD OF 'skerrylaw04.KeyPrints'. -/
def keyPrintsCard : Claim7 := { stood := { row := keyPrintsRow, standIns := [], harness := (true, "9bbfcf21080ce11c1be5d7f45811e6c793a028195f494f335e80909fcbf5253e"), looks := false }, kinds := [], alts := [], laidByText := true, laidKinds := [.data, .data, .data, .data, .pinned], laidTests := true, laidLooks := .later }
def KeyPrintsCardSaid : Prop := Claim7.holds Tryd.pinned (.plain (OpenSpec.ofChange keyPrintsSpec)) keyPrintsCard

/-- THE TIED CARD OF 'skerrylaw04.KeyRows'. -/
def keyRowsCard : Claim7 := { stood := { row := keyRowsRow, standIns := [], harness := (true, "9bbfcf21080ce11c1be5d7f45811e6c793a028195f494f335e80909fcbf5253e"), looks := false }, kinds := [], alts := [], laidByText := true, laidKinds := [.data, .data, .data, .data, .pinned], laidTests := true, laidLooks := .later }
def KeyRowsCardSaid : Prop := Claim7.holds Tryd.pinned (.plain (OpenSpec.ofChange keyRowsSpec)) keyRowsCard

/-- THE SECOND FORM's CARD OF 'skerrylaw04.KeyTells'. -/
def keyTellsUptoCard : Claim7 := { stood := { row := keyTellsUptoRow, standIns := [], harness := (true, "9bbfcf21080ce11c1be5d7f45811e6c793a028195f494f335e80909fcbf5253e"), looks := false }, kinds := [], alts := [], laidByText := true, laidKinds := [.data, .data, .data, .data, .pinned], laidTests := true, laidLooks := .later }
def KeyTellsUptoCardSaid : Prop := Claim7.holds Tryd.pinned (.plain (OpenSpec.upto keyTellsSpec)) keyTellsUptoCard

/-- THE SECOND FORM's CARD OF 'skerrylaw04.KeyCmps'. -/
def keyCmpsUptoCard : Claim7 := { stood := { row := keyCmpsUptoRow, standIns := [], harness := (true, "9bbfcf21080ce11c1be5d7f45811e6c793a028195f494f335e80909fcbf5253e"), looks := false }, kinds := [], alts := [], laidByText := true, laidKinds := [.data, .data, .data, .data, .pinned], laidTests := true, laidLooks := .later }
def KeyCmpsUptoCardSaid : Prop := Claim7.holds Tryd.pinned (.plain (OpenSpec.upto keyCmpsSpec)) keyCmpsUptoCard

/-- THE SECOND FORM's CARD OF 'skerrylaw04.KeyBytes'. -/
def keyBytesUptoCard : Claim7 := { stood := { row := keyBytesUptoRow, standIns := [], harness := (true, "9bbfcf21080ce11c1be5d7f45811e6c793a028195f494f335e80909fcbf5253e"), looks := false }, kinds := [], alts := [], laidByText := true, laidKinds := [.data, .data, .data, .data, .pinned], laidTests := true, laidLooks := .later }
def KeyBytesUptoCardSaid : Prop := Claim7.holds Tryd.pinned (.plain (OpenSpec.upto keyBytesSpec)) keyBytesUptoCard

/-- THE SECOND FORM's CARD OF 'skerrylaw04.KeyOrder'. -/
def keyOrderUptoCard : Claim7 := { stood := { row := keyOrderUptoRow, standIns := [], harness := (true, "9bbfcf21080ce11c1be5d7f45811e6c793a028195f494f335e80909fcbf5253e"), looks := false }, kinds := [], alts := [], laidByText := true, laidKinds := [.data, .data, .data, .data, .pinned], laidTests := true, laidLooks := .later }
def KeyOrderUptoCardSaid : Prop := Claim7.holds Tryd.pinned (.plain (OpenSpec.upto keyOrderSpec)) keyOrderUptoCard

/-- THE SECOND FORM's CARD OF 'skerrylaw04.KeyPrints'. -/
def keyPrintsUptoCard : Claim7 := { stood := { row := keyPrintsUptoRow, standIns := [], harness := (true, "9bbfcf21080ce11c1be5d7f45811e6c793a028195f494f335e80909fcbf5253e"), looks := false }, kinds := [], alts := [], laidByText := true, laidKinds := [.data, .data, .data, .data, .pinned], laidTests := true, laidLooks := .later }
def KeyPrintsUptoCardSaid : Prop := Claim7.holds Tryd.pinned (.plain (OpenSpec.upto keyPrintsSpec)) keyPrintsUptoCard

/-- THE SECOND FORM's CARD OF 'skerrylaw04.KeyRows'. -/
def keyRowsUptoCard : Claim7 := { stood := { row := keyRowsUptoRow, standIns := [], harness := (true, "9bbfcf21080ce11c1be5d7f45811e6c793a028195f494f335e80909fcbf5253e"), looks := false }, kinds := [], alts := [], laidByText := true, laidKinds := [.data, .data, .data, .data, .pinned], laidTests := true, laidLooks := .later }
def KeyRowsUptoCardSaid : Prop := Claim7.holds Tryd.pinned (.plain (OpenSpec.upto keyRowsSpec)) keyRowsUptoCard
end Rows
end Go.Proofs.YtniilnifhgdhcaaDoor
