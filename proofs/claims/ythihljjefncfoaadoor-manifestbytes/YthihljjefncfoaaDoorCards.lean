/-
  DERIVED. GIVEN WITH THE SEED: THE CARDS: each row of YthihljjefncfoaaDoorRows.lean that lists a variable, with what it lists TIED to the program's text (the seventh form; the later family's looks); each row that meets fmt, with fmt's text TOLD by the authors' own Lean function (tested against real Go, not proved from fmt's source: count such statements apart). THE CARD IS WHAT COUNTS. Prove the row's statement (the work); the ties are given (YthihljjefncfoaaDoorTie.lean); close each card by the builder's one call (the guide's Derived/Test/ToyasCard.lean, 'card_holds'). Laid BY PROGRAM, IN A SANDBOX (cutbox-door.mjs). By AI agents, Wed Nov 11 2026. No macro, syntax, notation, axiom, sorry.
-/
import Derived.Test.YthihljjefncfoaaDoorRows
import GoSem.ClaimSeven
namespace Go.Proofs.YthihljjefncfoaaDoor
namespace Rows

/-- THE TIED CARD OF 'skerrylaw13.ManifestBytes'. -/
def manifestBytesCard : Claim7 := { stood := { row := manifestBytesRow, standIns := [], harness := (true, "1d6f0bc4438cd772f7c03d0de91474883becf2ae40cf7b4317339bc2e565babc"), looks := false }, kinds := [], alts := [], laidByText := true, laidKinds := [.data, .data, .data, .data, .sentinel], laidTests := true, laidLooks := .later }
def ManifestBytesCardSaid : Prop := Claim7.holds Tryd.pinned (.plain (OpenSpec.ofChange manifestBytesSpec)) manifestBytesCard

/-- THE TIED CARD OF 'skerrylaw13.ManifestBack'. -/
def manifestBackCard : Claim7 := { stood := { row := manifestBackRow, standIns := [], harness := (true, "1d6f0bc4438cd772f7c03d0de91474883becf2ae40cf7b4317339bc2e565babc"), looks := false }, kinds := [], alts := [], laidByText := true, laidKinds := [.data, .data, .data, .data, .sentinel], laidTests := true, laidLooks := .later }
def ManifestBackCardSaid : Prop := Claim7.holds Tryd.pinned (.plain (OpenSpec.ofChange manifestBackSpec)) manifestBackCard

/-- THE TIED CARD OF 'skerrylaw13.ManifestFiles'. -/
def manifestFilesCard : Claim7 := { stood := { row := manifestFilesRow, standIns := [], harness := (true, "1d6f0bc4438cd772f7c03d0de91474883becf2ae40cf7b4317339bc2e565babc"), looks := false }, kinds := [], alts := [], laidByText := true, laidKinds := [.data, .data, .data, .data, .sentinel], laidTests := true, laidLooks := .later }
def ManifestFilesCardSaid : Prop := Claim7.holds Tryd.pinned (.plain (OpenSpec.ofChange manifestFilesSpec)) manifestFilesCard

/-- THE SECOND FORM's CARD OF 'skerrylaw13.ManifestBytes'. -/
def manifestBytesUptoCard : Claim7 := { stood := { row := manifestBytesUptoRow, standIns := [], harness := (true, "1d6f0bc4438cd772f7c03d0de91474883becf2ae40cf7b4317339bc2e565babc"), looks := false }, kinds := [], alts := [], laidByText := true, laidKinds := [.data, .data, .data, .data, .sentinel], laidTests := true, laidLooks := .later }
def ManifestBytesUptoCardSaid : Prop := Claim7.holds Tryd.pinned (.plain (OpenSpec.upto manifestBytesSpec)) manifestBytesUptoCard

/-- THE SECOND FORM's CARD OF 'skerrylaw13.ManifestBack'. -/
def manifestBackUptoCard : Claim7 := { stood := { row := manifestBackUptoRow, standIns := [], harness := (true, "1d6f0bc4438cd772f7c03d0de91474883becf2ae40cf7b4317339bc2e565babc"), looks := false }, kinds := [], alts := [], laidByText := true, laidKinds := [.data, .data, .data, .data, .sentinel], laidTests := true, laidLooks := .later }
def ManifestBackUptoCardSaid : Prop := Claim7.holds Tryd.pinned (.plain (OpenSpec.upto manifestBackSpec)) manifestBackUptoCard

/-- THE SECOND FORM's CARD OF 'skerrylaw13.ManifestFiles'. -/
def manifestFilesUptoCard : Claim7 := { stood := { row := manifestFilesUptoRow, standIns := [], harness := (true, "1d6f0bc4438cd772f7c03d0de91474883becf2ae40cf7b4317339bc2e565babc"), looks := false }, kinds := [], alts := [], laidByText := true, laidKinds := [.data, .data, .data, .data, .sentinel], laidTests := true, laidLooks := .later }
def ManifestFilesUptoCardSaid : Prop := Claim7.holds Tryd.pinned (.plain (OpenSpec.upto manifestFilesSpec)) manifestFilesUptoCard
end Rows
end Go.Proofs.YthihljjefncfoaaDoor
