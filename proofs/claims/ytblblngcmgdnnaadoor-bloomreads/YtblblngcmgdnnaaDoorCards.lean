/-
  DERIVED. GIVEN WITH THE SEED: THE CARDS: each row of YtblblngcmgdnnaaDoorRows.lean that lists a variable, with what it lists TIED to the program's text (the seventh form; the later family's looks); each row that meets fmt, with fmt's text TOLD by the authors' own Lean function (tested against real Go, not proved from fmt's source: count such statements apart). THE CARD IS WHAT COUNTS. Prove the row's statement (the work); the ties are given (YtblblngcmgdnnaaDoorTie.lean); close each card by the builder's one call (the guide's Derived/Test/ToyasCard.lean, 'card_holds'). Laid BY PROGRAM, IN A SANDBOX (cutbox-door.mjs). By AI agents, Wed Nov 11 2026. No macro, syntax, notation, axiom, sorry.
-/
import Derived.Test.YtblblngcmgdnnaaDoorRows
import GoSem.ClaimSeven
namespace Go.Proofs.YtblblngcmgdnnaaDoor
namespace Rows

/-- THE TIED CARD OF 'skerrylaw08.BloomReads'. -/
def bloomReadsCard : Claim7 := { stood := { row := bloomReadsRow, standIns := [], harness := (true, "a262006805cdb7dd27acbda0ad2269696bbacc997a720b5ef7cd9655831977e5"), looks := false }, kinds := [], alts := [], laidByText := true, laidKinds := [.sentinel], laidTests := true, laidLooks := .later }
def BloomReadsCardSaid : Prop := Claim7.holds Tryd.pinned (.plain (OpenSpec.ofChange bloomReadsSpec)) bloomReadsCard

/-- THE TIED CARD OF 'skerrylaw08.BloomNever'. -/
def bloomNeverCard : Claim7 := { stood := { row := bloomNeverRow, standIns := [], harness := (true, "a262006805cdb7dd27acbda0ad2269696bbacc997a720b5ef7cd9655831977e5"), looks := false }, kinds := [], alts := [], laidByText := true, laidKinds := [.sentinel], laidTests := true, laidLooks := .later }
def BloomNeverCardSaid : Prop := Claim7.holds Tryd.pinned (.plain (OpenSpec.ofChange bloomNeverSpec)) bloomNeverCard

/-- THE SECOND FORM's CARD OF 'skerrylaw08.BloomReads'. -/
def bloomReadsUptoCard : Claim7 := { stood := { row := bloomReadsUptoRow, standIns := [], harness := (true, "a262006805cdb7dd27acbda0ad2269696bbacc997a720b5ef7cd9655831977e5"), looks := false }, kinds := [], alts := [], laidByText := true, laidKinds := [.sentinel], laidTests := true, laidLooks := .later }
def BloomReadsUptoCardSaid : Prop := Claim7.holds Tryd.pinned (.plain (OpenSpec.upto bloomReadsSpec)) bloomReadsUptoCard

/-- THE SECOND FORM's CARD OF 'skerrylaw08.BloomNever'. -/
def bloomNeverUptoCard : Claim7 := { stood := { row := bloomNeverUptoRow, standIns := [], harness := (true, "a262006805cdb7dd27acbda0ad2269696bbacc997a720b5ef7cd9655831977e5"), looks := false }, kinds := [], alts := [], laidByText := true, laidKinds := [.sentinel], laidTests := true, laidLooks := .later }
def BloomNeverUptoCardSaid : Prop := Claim7.holds Tryd.pinned (.plain (OpenSpec.upto bloomNeverSpec)) bloomNeverUptoCard
end Rows
end Go.Proofs.YtblblngcmgdnnaaDoor
