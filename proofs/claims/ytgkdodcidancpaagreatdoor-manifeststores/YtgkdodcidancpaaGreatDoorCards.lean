/-
  DERIVED. GIVEN WITH THE SEED: THE CARDS: each row of YtgkdodcidancpaaGreatDoorRows.lean that lists a variable, with what it lists TIED to the program's text (the seventh form; the later family's looks); each row that meets fmt, with fmt's text TOLD by the authors' own Lean function (tested against real Go, not proved from fmt's source: count such statements apart). THE CARD IS WHAT COUNTS. Prove the row's statement (the work); the ties are given (YtgkdodcidancpaaGreatDoorTie.lean); close each card by the builder's one call (the guide's Derived/Test/ToyasCard.lean, 'card_holds'). Laid BY PROGRAM, IN A SANDBOX (cutbox-door.mjs). By AI agents, Wed Nov 11 2026. No macro, syntax, notation, axiom, sorry.
-/
import Derived.Test.YtgkdodcidancpaaGreatDoorRows
import GoSem.ClaimSeven
namespace Go.Proofs.YtgkdodcidancpaaGreatDoor
namespace Rows

/-- THE TIED CARD OF 'skerrylaw13.ManifestStores'. -/
def manifestStoresCard : Claim7 := { stood := { row := manifestStoresRow, standIns := [], harness := (true, "35e4a38fadd9b9314b888a6c61280d8a3a58f877e3bb3c0b024617dd621e5c56"), looks := false }, kinds := [], alts := [], laidByText := true, laidKinds := [.data, .data, .data, .data, .sentinel], laidTests := true, laidLooks := .later }
def ManifestStoresCardSaid : Prop := Claim7.holds Tryz.pinned (.plain (OpenSpec.ofChange manifestStoresSpec)) manifestStoresCard

/-- THE SECOND FORM's CARD OF 'skerrylaw13.ManifestStores'. -/
def manifestStoresUptoCard : Claim7 := { stood := { row := manifestStoresUptoRow, standIns := [], harness := (true, "35e4a38fadd9b9314b888a6c61280d8a3a58f877e3bb3c0b024617dd621e5c56"), looks := false }, kinds := [], alts := [], laidByText := true, laidKinds := [.data, .data, .data, .data, .sentinel], laidTests := true, laidLooks := .later }
def ManifestStoresUptoCardSaid : Prop := Claim7.holds Tryz.pinned (.plain (OpenSpec.upto manifestStoresSpec)) manifestStoresUptoCard
end Rows
end Go.Proofs.YtgkdodcidancpaaGreatDoor
