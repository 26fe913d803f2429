/-
  NARROWER THAN 'FOR EVERY INPUT', by the rows' own cells (each row's printed sentence says how): BloomReads: laid · BloomNever: laid.
  DERIVED. THE GIVEN ROWS OF THIS SEAT. 2 by the template 'for every input the law returns true; each argument reads behind the call as it read before'; 0 by the template 'total and deterministic' (their statements: YtblblngcmgdnnaaDoorTotals.lean).
  GIVEN WITH THE SEED: the statements are not yours to turn. If you find one false, say at which input.
  Laid BY PROGRAM, IN A SANDBOX (cutbox-rows.mjs): the forced cells as the released guide's own fill.sh prints them over the translation 9495f89d4cc86823… (all of the seat's roots in one cut). By AI agents, Wed Nov 11 2026. No macro, syntax, notation, axiom, sorry.
-/
import Derived.Test.YtblblngcmgdnnaaDoorChecked
import GoSem.Claim
import GoSem.ClaimJoined
import GoSem.ClaimMapViews
import Derived.JoinedTies
import Derived.KernelRfl
namespace Go.Proofs.YtblblngcmgdnnaaDoor
/- THE CELL 'sum', in the pinned program and in every row, IS THE sha256 OF THE DUMP (.gsa) THAT YtblblngcmgdnnaaDoorProg.lean LOADS. Nothing in Lean hashes anything: it is a label: what it is worth is what the hold of that sum in a sandbox is worth. -/
noncomputable def Tryd.pinned : Pinned := { name := "ytblblngcmgdnnaadoor", sum := "9495f89d4cc86823d8393abb691b1b93ee4ad19e162b635801427a127712b476", checked := Tryd.checked }
namespace Rows
def none {H : Type} : Left H := { results := [], args := [] }

/- WHAT THE LISTED PACKAGE-LEVEL VARIABLES READ AS WHEN THE CALL BEGINS. Each datum BY PROGRAM (the guide's laid-datum.mjs) off the statement by which the dump's own 'gosem.cut.vars' lays the variable. In a bare row this is a premise. The card (YtblblngcmgdnnaaDoorCards.lean) ties it to the program's text. -/
def laid_skerry_codec_errNone {H : Type} : DataW H := .iface "*errors.errorString" (.ptr (.agg [.lit (.string [99, 111, 100, 101, 99, 58, 32, 98, 121, 116, 101, 115, 32, 116, 104, 97, 116, 32, 97, 114, 101, 32, 110, 111, 110, 101])]))

/-- 'skerrylaw08.BloomReads': WHATEVER THE INPUT: true; the input reads as it did. -/
def bloomReadsSpec : ChangeSpec := { name := "bloomReads", fn := fun _ => fun
  | [d1, d2] => { results := [.lit (.bool true)], args := [d1, d2] }
  | _ => none }
def bloomReadsRow : OpenClaim := { program := "ytblblngcmgdnnaadoor", sum := "9495f89d4cc86823d8393abb691b1b93ee4ad19e162b635801427a127712b476", func := "skerry/skerrylaw08.BloomReads", spec := "bloomReads", unfollowed := true, recurses := true, named := ["skerry/codec.errNone"], apart := false, laid := [("skerry/codec.errNone", laid_skerry_codec_errNone)] }
def BloomReadsSaid : Prop := bloomReadsRow.holds Tryd.pinned (OpenSpec.ofChange bloomReadsSpec)

/-- ITS FALSE NEIGHBOUR: 'it returns false'. Refute it at one input. -/
def bloomReadsWrong : ChangeSpec := { name := "bloomReads", fn := fun _ => fun
  | [d1, d2] => { results := [.lit (.bool false)], args := [d1, d2] }
  | _ => none }
def BloomReadsWrongFalsely : Prop := bloomReadsRow.holds Tryd.pinned (OpenSpec.ofChange bloomReadsWrong)

/-- 'skerrylaw08.BloomNever': WHATEVER THE INPUT: true; the input reads as it did. -/
def bloomNeverSpec : ChangeSpec := { name := "bloomNever", fn := fun _ => fun
  | [d1, d2, d3] => { results := [.lit (.bool true)], args := [d1, d2, d3] }
  | _ => none }
def bloomNeverRow : OpenClaim := { program := "ytblblngcmgdnnaadoor", sum := "9495f89d4cc86823d8393abb691b1b93ee4ad19e162b635801427a127712b476", func := "skerry/skerrylaw08.BloomNever", spec := "bloomNever", unfollowed := true, recurses := true, named := ["skerry/codec.errNone"], apart := false, laid := [("skerry/codec.errNone", laid_skerry_codec_errNone)] }
def BloomNeverSaid : Prop := bloomNeverRow.holds Tryd.pinned (OpenSpec.ofChange bloomNeverSpec)

/-- ITS FALSE NEIGHBOUR: 'it returns false'. Refute it at one input. -/
def bloomNeverWrong : ChangeSpec := { name := "bloomNever", fn := fun _ => fun
  | [d1, d2, d3] => { results := [.lit (.bool false)], args := [d1, d2, d3] }
  | _ => none }
def BloomNeverWrongFalsely : Prop := bloomNeverRow.holds Tryd.pinned (OpenSpec.ofChange bloomNeverWrong)

/- THE SECOND FORM. 'bulk': how many values and letters a reading holds, each counted each time it is reached (what is shared counts as often as it is met; a slice's spare places count too). A statement '..UptoSaid' is the law's where the arguments, and the package variables that the reading takes, are together of bulk at most 1048576: NARROWER than '..Said'. Prove '..Said' where nothing that the law and all that it calls make is longer than what came in: it says more and counts as full. Else prove '..UptoSaid'. A law counts once. -/
mutual
def uptoBulk {H : Type} : DataW H → Nat
  | .lit (.string bytes) => bytes.length + 1
  | .lit _ => 1
  | .nil => 1
  | .ptr d => uptoBulk d + 1
  | .slice elems spare => uptoBulkAll elems + uptoBulkAll spare + 1
  | .agg parts => uptoBulkAll parts + 1
  | .iface _ d => uptoBulk d + 1
  | .map entries => uptoBulkEntries entries + 1
  | .held _ => 1
def uptoBulkAll {H : Type} : List (DataW H) → Nat
  | [] => 0
  | d :: r => uptoBulk d + uptoBulkAll r
def uptoBulkEntries {H : Type} : List (Lit × DataW H) → Nat
  | [] => 0
  | x :: r => uptoBulkEntry x + uptoBulkEntries r
def uptoBulkEntry {H : Type} : Lit × DataW H → Nat
  | (.string bytes, d) => bytes.length + uptoBulk d + 1
  | (_, d) => uptoBulk d + 1
 end
def uptoSmall : (H : Type) → List (DataW H) → Bool := fun _ ds => decide (uptoBulkAll ds ≤ 1048576)
def OpenSpec.upto (s : _root_.Go.ChangeSpec) : _root_.Go.OpenSpec := { _root_.Go.OpenSpec.ofChange s with cond := some uptoSmall }

/-- 'skerrylaw08.BloomReads', WHERE WHAT IT READS IS OF BULK AT MOST 1048576: true; the input reads as it did. -/
def bloomReadsUptoRow : OpenClaim := { program := "ytblblngcmgdnnaadoor", sum := "9495f89d4cc86823d8393abb691b1b93ee4ad19e162b635801427a127712b476", func := "skerry/skerrylaw08.BloomReads", spec := "bloomReads", unfollowed := true, recurses := true, named := ["skerry/codec.errNone"], apart := false, laid := [("skerry/codec.errNone", laid_skerry_codec_errNone)], narrowed := true }
def BloomReadsUptoSaid : Prop := bloomReadsUptoRow.holds Tryd.pinned (OpenSpec.upto bloomReadsSpec)

/-- 'skerrylaw08.BloomNever', WHERE WHAT IT READS IS OF BULK AT MOST 1048576: true; the input reads as it did. -/
def bloomNeverUptoRow : OpenClaim := { program := "ytblblngcmgdnnaadoor", sum := "9495f89d4cc86823d8393abb691b1b93ee4ad19e162b635801427a127712b476", func := "skerry/skerrylaw08.BloomNever", spec := "bloomNever", unfollowed := true, recurses := true, named := ["skerry/codec.errNone"], apart := false, laid := [("skerry/codec.errNone", laid_skerry_codec_errNone)], narrowed := true }
def BloomNeverUptoSaid : Prop := bloomNeverUptoRow.holds Tryd.pinned (OpenSpec.upto bloomNeverSpec)

end Rows
end Go.Proofs.YtblblngcmgdnnaaDoor
