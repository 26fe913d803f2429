/-
  NARROWER THAN 'FOR EVERY INPUT', by the rows' own cells (each row's printed sentence says how): CodecFrames: laid · CodecNumbers: laid · CodecTexts: laid · CodecCells: laid · CodecBack: laid · CodecTells: laid.
  DERIVED. THE GIVEN ROWS OF THIS SEAT. 6 by the template 'for every input the law returns true; each argument reads behind the call as it read before'; 0 by the template 'total and deterministic' (their statements: YtakokhdnccaclaaDoorTotals.lean).
  GIVEN WITH THE SEED: the statements are not yours to turn. If you find one false, say at which input.
  Laid BY PROGRAM, IN A SANDBOX (cutbox-rows.mjs): the forced cells as the released guide's own fill.sh prints them over the translation ba56dcc3cbb00902… (all of the seat's roots in one cut). By AI agents, Wed Nov 11 2026. No macro, syntax, notation, axiom, sorry.
-/
import Derived.Test.YtakokhdnccaclaaDoorChecked
import GoSem.Claim
import GoSem.ClaimJoined
import GoSem.ClaimMapViews
import Derived.JoinedTies
import Derived.KernelRfl
namespace Go.Proofs.YtakokhdnccaclaaDoor
/- THE CELL 'sum', in the pinned program and in every row, IS THE sha256 OF THE DUMP (.gsa) THAT YtakokhdnccaclaaDoorProg.lean LOADS. Nothing in Lean hashes anything: it is a label: what it is worth is what the hold of that sum in a sandbox is worth. -/
noncomputable def Tryd.pinned : Pinned := { name := "ytakokhdnccaclaadoor", sum := "ba56dcc3cbb00902b9adc6822ceda1b71a4cacb100aae87f3707fc63a0cbc761", checked := Tryd.checked }
namespace Rows
def none {H : Type} : Left H := { results := [], args := [] }

/- WHAT THE LISTED PACKAGE-LEVEL VARIABLES READ AS WHEN THE CALL BEGINS. Each datum BY PROGRAM (the guide's laid-datum.mjs) off the statement by which the dump's own 'gosem.cut.vars' lays the variable. In a bare row this is a premise. The card (YtakokhdnccaclaaDoorCards.lean) ties it to the program's text. -/
def laid_skerry_codec_fourSteps {H : Type} : DataW H := .agg [.lit (.int .u32 0), .lit (.int .u32 498536548), .lit (.int .u32 997073096), .lit (.int .u32 651767980), .lit (.int .u32 1994146192), .lit (.int .u32 1802195444), .lit (.int .u32 1303535960), .lit (.int .u32 1342533948), .lit (.int .u32 3988292384), .lit (.int .u32 4027552580), .lit (.int .u32 3604390888), .lit (.int .u32 3412177804), .lit (.int .u32 2607071920), .lit (.int .u32 2262029012), .lit (.int .u32 2685067896), .lit (.int .u32 3183342108)]
def laid_skerry_codec_errNone {H : Type} : DataW H := .iface "*errors.errorString" (.ptr (.agg [.lit (.string [99, 111, 100, 101, 99, 58, 32, 98, 121, 116, 101, 115, 32, 116, 104, 97, 116, 32, 97, 114, 101, 32, 110, 111, 110, 101])]))

/-- 'skerrylaw01.CodecFrames': WHATEVER THE INPUT: true; the input reads as it did. -/
def codecFramesSpec : ChangeSpec := { name := "codecFrames", fn := fun _ => fun
  | [d] => { results := [.lit (.bool true)], args := [d] }
  | _ => none }
def codecFramesRow : OpenClaim := { program := "ytakokhdnccaclaadoor", sum := "ba56dcc3cbb00902b9adc6822ceda1b71a4cacb100aae87f3707fc63a0cbc761", func := "skerry/skerrylaw01.CodecFrames", spec := "codecFrames", named := ["skerry/codec.fourSteps"], apart := false, laid := [("skerry/codec.fourSteps", laid_skerry_codec_fourSteps)] }
def CodecFramesSaid : Prop := codecFramesRow.holds Tryd.pinned (OpenSpec.ofChange codecFramesSpec)

/-- ITS FALSE NEIGHBOUR: 'it returns false'. Refute it at one input. -/
def codecFramesWrong : ChangeSpec := { name := "codecFrames", fn := fun _ => fun
  | [d] => { results := [.lit (.bool false)], args := [d] }
  | _ => none }
def CodecFramesWrongFalsely : Prop := codecFramesRow.holds Tryd.pinned (OpenSpec.ofChange codecFramesWrong)

/-- 'skerrylaw01.CodecNumbers': WHATEVER THE INPUT: true; the input reads as it did. -/
def codecNumbersSpec : ChangeSpec := { name := "codecNumbers", fn := fun _ => fun
  | [d1, d2, d3] => { results := [.lit (.bool true)], args := [d1, d2, d3] }
  | _ => none }
def codecNumbersRow : OpenClaim := { program := "ytakokhdnccaclaadoor", sum := "ba56dcc3cbb00902b9adc6822ceda1b71a4cacb100aae87f3707fc63a0cbc761", func := "skerry/skerrylaw01.CodecNumbers", spec := "codecNumbers", unfollowed := true, recurses := true, named := ["skerry/codec.fourSteps", "skerry/codec.errNone"], apart := false, laid := [("skerry/codec.fourSteps", laid_skerry_codec_fourSteps), ("skerry/codec.errNone", laid_skerry_codec_errNone)] }
def CodecNumbersSaid : Prop := codecNumbersRow.holds Tryd.pinned (OpenSpec.ofChange codecNumbersSpec)

/-- ITS FALSE NEIGHBOUR: 'it returns false'. Refute it at one input. -/
def codecNumbersWrong : ChangeSpec := { name := "codecNumbers", fn := fun _ => fun
  | [d1, d2, d3] => { results := [.lit (.bool false)], args := [d1, d2, d3] }
  | _ => none }
def CodecNumbersWrongFalsely : Prop := codecNumbersRow.holds Tryd.pinned (OpenSpec.ofChange codecNumbersWrong)

/-- 'skerrylaw01.CodecTexts': WHATEVER THE INPUT: true; the input reads as it did. -/
def codecTextsSpec : ChangeSpec := { name := "codecTexts", fn := fun _ => fun
  | [d1, d2] => { results := [.lit (.bool true)], args := [d1, d2] }
  | _ => none }
def codecTextsRow : OpenClaim := { program := "ytakokhdnccaclaadoor", sum := "ba56dcc3cbb00902b9adc6822ceda1b71a4cacb100aae87f3707fc63a0cbc761", func := "skerry/skerrylaw01.CodecTexts", spec := "codecTexts", unfollowed := true, recurses := true, named := ["skerry/codec.fourSteps", "skerry/codec.errNone"], apart := false, laid := [("skerry/codec.fourSteps", laid_skerry_codec_fourSteps), ("skerry/codec.errNone", laid_skerry_codec_errNone)] }
def CodecTextsSaid : Prop := codecTextsRow.holds Tryd.pinned (OpenSpec.ofChange codecTextsSpec)

/-- ITS FALSE NEIGHBOUR: 'it returns false'. Refute it at one input. -/
def codecTextsWrong : ChangeSpec := { name := "codecTexts", fn := fun _ => fun
  | [d1, d2] => { results := [.lit (.bool false)], args := [d1, d2] }
  | _ => none }
def CodecTextsWrongFalsely : Prop := codecTextsRow.holds Tryd.pinned (OpenSpec.ofChange codecTextsWrong)

/-- 'skerrylaw01.CodecCells': WHATEVER THE INPUT: true; the input reads as it did. -/
def codecCellsSpec : ChangeSpec := { name := "codecCells", fn := fun _ => fun
  | [d1, d2] => { results := [.lit (.bool true)], args := [d1, d2] }
  | _ => none }
def codecCellsRow : OpenClaim := { program := "ytakokhdnccaclaadoor", sum := "ba56dcc3cbb00902b9adc6822ceda1b71a4cacb100aae87f3707fc63a0cbc761", func := "skerry/skerrylaw01.CodecCells", spec := "codecCells", unfollowed := true, recurses := true, named := ["skerry/codec.fourSteps", "skerry/codec.errNone"], apart := false, laid := [("skerry/codec.fourSteps", laid_skerry_codec_fourSteps), ("skerry/codec.errNone", laid_skerry_codec_errNone)] }
def CodecCellsSaid : Prop := codecCellsRow.holds Tryd.pinned (OpenSpec.ofChange codecCellsSpec)

/-- ITS FALSE NEIGHBOUR: 'it returns false'. Refute it at one input. -/
def codecCellsWrong : ChangeSpec := { name := "codecCells", fn := fun _ => fun
  | [d1, d2] => { results := [.lit (.bool false)], args := [d1, d2] }
  | _ => none }
def CodecCellsWrongFalsely : Prop := codecCellsRow.holds Tryd.pinned (OpenSpec.ofChange codecCellsWrong)

/-- 'skerrylaw01.CodecBack': WHATEVER THE INPUT: true; the input reads as it did. -/
def codecBackSpec : ChangeSpec := { name := "codecBack", fn := fun _ => fun
  | [d1, d2, d3] => { results := [.lit (.bool true)], args := [d1, d2, d3] }
  | _ => none }
def codecBackRow : OpenClaim := { program := "ytakokhdnccaclaadoor", sum := "ba56dcc3cbb00902b9adc6822ceda1b71a4cacb100aae87f3707fc63a0cbc761", func := "skerry/skerrylaw01.CodecBack", spec := "codecBack", unfollowed := true, recurses := true, named := ["skerry/codec.fourSteps", "skerry/codec.errNone"], apart := false, laid := [("skerry/codec.fourSteps", laid_skerry_codec_fourSteps), ("skerry/codec.errNone", laid_skerry_codec_errNone)] }
def CodecBackSaid : Prop := codecBackRow.holds Tryd.pinned (OpenSpec.ofChange codecBackSpec)

/-- ITS FALSE NEIGHBOUR: 'it returns false'. Refute it at one input. -/
def codecBackWrong : ChangeSpec := { name := "codecBack", fn := fun _ => fun
  | [d1, d2, d3] => { results := [.lit (.bool false)], args := [d1, d2, d3] }
  | _ => none }
def CodecBackWrongFalsely : Prop := codecBackRow.holds Tryd.pinned (OpenSpec.ofChange codecBackWrong)

/-- 'skerrylaw01.CodecTells': WHATEVER THE INPUT: true; the input reads as it did. -/
def codecTellsSpec : ChangeSpec := { name := "codecTells", fn := fun _ => fun
  | [d1, d2, d3] => { results := [.lit (.bool true)], args := [d1, d2, d3] }
  | _ => none }
def codecTellsRow : OpenClaim := { program := "ytakokhdnccaclaadoor", sum := "ba56dcc3cbb00902b9adc6822ceda1b71a4cacb100aae87f3707fc63a0cbc761", func := "skerry/skerrylaw01.CodecTells", spec := "codecTells", named := ["skerry/codec.fourSteps"], apart := false, laid := [("skerry/codec.fourSteps", laid_skerry_codec_fourSteps)] }
def CodecTellsSaid : Prop := codecTellsRow.holds Tryd.pinned (OpenSpec.ofChange codecTellsSpec)

/-- ITS FALSE NEIGHBOUR: 'it returns false'. Refute it at one input. -/
def codecTellsWrong : ChangeSpec := { name := "codecTells", fn := fun _ => fun
  | [d1, d2, d3] => { results := [.lit (.bool false)], args := [d1, d2, d3] }
  | _ => none }
def CodecTellsWrongFalsely : Prop := codecTellsRow.holds Tryd.pinned (OpenSpec.ofChange codecTellsWrong)

/- THE SECOND FORM. 'bulk': how many values and letters a reading holds, each counted each time it is reached (what is shared counts as often as it is met; a slice's spare places count too). A statement '..UptoSaid' is the law's where the arguments, and the package variables that the reading takes, are together of bulk at most 1048576: NARROWER than '..Said'. Prove '..Said' where nothing that the law and all that it calls make is longer than what came in: it says more and counts as full. Else prove '..UptoSaid'. A law counts once. -/
mutual
def uptoBulk {H : Type} : DataW H → Nat
  | .lit (.string bytes) => bytes.length + 1
  | .lit _ => 1
  | .nil => 1
  | .ptr d => uptoBulk d + 1
  | .slice elems spare => uptoBulkAll elems + uptoBulkAll spare + 1
  | .agg parts => uptoBulkAll parts + 1
  | .iface _ d => uptoBulk d + 1
  | .map entries => uptoBulkEntries entries + 1
  | .held _ => 1
def uptoBulkAll {H : Type} : List (DataW H) → Nat
  | [] => 0
  | d :: r => uptoBulk d + uptoBulkAll r
def uptoBulkEntries {H : Type} : List (Lit × DataW H) → Nat
  | [] => 0
  | x :: r => uptoBulkEntry x + uptoBulkEntries r
def uptoBulkEntry {H : Type} : Lit × DataW H → Nat
  | (.string bytes, d) => bytes.length + uptoBulk d + 1
  | (_, d) => uptoBulk d + 1
 end
def uptoSmall : (H : Type) → List (DataW H) → Bool := fun _ ds => decide (uptoBulkAll ds ≤ 1048576)
def OpenSpec.upto (s : _root_.Go.ChangeSpec) : _root_.Go.OpenSpec := { _root_.Go.OpenSpec.ofChange s with cond := some uptoSmall }

/-- 'skerrylaw01.CodecFrames', WHERE WHAT IT READS IS OF BULK AT MOST 1048576: true; the input reads as it did. -/
def codecFramesUptoRow : OpenClaim := { program := "ytakokhdnccaclaadoor", sum := "ba56dcc3cbb00902b9adc6822ceda1b71a4cacb100aae87f3707fc63a0cbc761", func := "skerry/skerrylaw01.CodecFrames", spec := "codecFrames", named := ["skerry/codec.fourSteps"], apart := false, laid := [("skerry/codec.fourSteps", laid_skerry_codec_fourSteps)], narrowed := true }
def CodecFramesUptoSaid : Prop := codecFramesUptoRow.holds Tryd.pinned (OpenSpec.upto codecFramesSpec)

/-- 'skerrylaw01.CodecNumbers', WHERE WHAT IT READS IS OF BULK AT MOST 1048576: true; the input reads as it did. -/
def codecNumbersUptoRow : OpenClaim := { program := "ytakokhdnccaclaadoor", sum := "ba56dcc3cbb00902b9adc6822ceda1b71a4cacb100aae87f3707fc63a0cbc761", func := "skerry/skerrylaw01.CodecNumbers", spec := "codecNumbers", unfollowed := true, recurses := true, named := ["skerry/codec.fourSteps", "skerry/codec.errNone"], apart := false, laid := [("skerry/codec.fourSteps", laid_skerry_codec_fourSteps), ("skerry/codec.errNone", laid_skerry_codec_errNone)], narrowed := true }
def CodecNumbersUptoSaid : Prop := codecNumbersUptoRow.holds Tryd.pinned (OpenSpec.upto codecNumbersSpec)

/-- 'skerrylaw01.CodecTexts', WHERE WHAT IT READS IS OF BULK AT MOST 1048576: true; the input reads as it did. -/
def codecTextsUptoRow : OpenClaim := { program := "ytakokhdnccaclaadoor", sum := "ba56dcc3cbb00902b9adc6822ceda1b71a4cacb100aae87f3707fc63a0cbc761", func := "skerry/skerrylaw01.CodecTexts", spec := "codecTexts", unfollowed := true, recurses := true, named := ["skerry/codec.fourSteps", "skerry/codec.errNone"], apart := false, laid := [("skerry/codec.fourSteps", laid_skerry_codec_fourSteps), ("skerry/codec.errNone", laid_skerry_codec_errNone)], narrowed := true }
def CodecTextsUptoSaid : Prop := codecTextsUptoRow.holds Tryd.pinned (OpenSpec.upto codecTextsSpec)

/-- 'skerrylaw01.CodecCells', WHERE WHAT IT READS IS OF BULK AT MOST 1048576: true; the input reads as it did. -/
def codecCellsUptoRow : OpenClaim := { program := "ytakokhdnccaclaadoor", sum := "ba56dcc3cbb00902b9adc6822ceda1b71a4cacb100aae87f3707fc63a0cbc761", func := "skerry/skerrylaw01.CodecCells", spec := "codecCells", unfollowed := true, recurses := true, named := ["skerry/codec.fourSteps", "skerry/codec.errNone"], apart := false, laid := [("skerry/codec.fourSteps", laid_skerry_codec_fourSteps), ("skerry/codec.errNone", laid_skerry_codec_errNone)], narrowed := true }
def CodecCellsUptoSaid : Prop := codecCellsUptoRow.holds Tryd.pinned (OpenSpec.upto codecCellsSpec)

/-- 'skerrylaw01.CodecBack', WHERE WHAT IT READS IS OF BULK AT MOST 1048576: true; the input reads as it did. -/
def codecBackUptoRow : OpenClaim := { program := "ytakokhdnccaclaadoor", sum := "ba56dcc3cbb00902b9adc6822ceda1b71a4cacb100aae87f3707fc63a0cbc761", func := "skerry/skerrylaw01.CodecBack", spec := "codecBack", unfollowed := true, recurses := true, named := ["skerry/codec.fourSteps", "skerry/codec.errNone"], apart := false, laid := [("skerry/codec.fourSteps", laid_skerry_codec_fourSteps), ("skerry/codec.errNone", laid_skerry_codec_errNone)], narrowed := true }
def CodecBackUptoSaid : Prop := codecBackUptoRow.holds Tryd.pinned (OpenSpec.upto codecBackSpec)

/-- 'skerrylaw01.CodecTells', WHERE WHAT IT READS IS OF BULK AT MOST 1048576: true; the input reads as it did. -/
def codecTellsUptoRow : OpenClaim := { program := "ytakokhdnccaclaadoor", sum := "ba56dcc3cbb00902b9adc6822ceda1b71a4cacb100aae87f3707fc63a0cbc761", func := "skerry/skerrylaw01.CodecTells", spec := "codecTells", named := ["skerry/codec.fourSteps"], apart := false, laid := [("skerry/codec.fourSteps", laid_skerry_codec_fourSteps)], narrowed := true }
def CodecTellsUptoSaid : Prop := codecTellsUptoRow.holds Tryd.pinned (OpenSpec.upto codecTellsSpec)

end Rows
end Go.Proofs.YtakokhdnccaclaaDoor
