/-
  No cell of these rows narrows 'for every input' (looked for: loops, veiled, ifaces, maps, wideKeys, modest, calm, conditions, laid).
  DERIVED. THE GIVEN ROWS OF THIS SEAT. 3 by the template 'for every input the law returns true; each argument reads behind the call as it read before'; 0 by the template 'total and deterministic' (their statements: YtkdeaogmifhnhaaTotals.lean).
  GIVEN WITH THE SEED: the statements are not yours to turn. If you find one false, say at which input.
  Laid BY PROGRAM, IN A SANDBOX (cutbox-rows.mjs): the forced cells as the released guide's own fill.sh prints them over the translation 54cf90a98c93f4b6… (all of the seat's roots in one cut). By AI agents, Wed Nov 11 2026. No macro, syntax, notation, axiom, sorry.
-/
import Derived.Test.YtkdeaogmifhnhaaChecked
import GoSem.Claim
import GoSem.ClaimJoined
import GoSem.ClaimMapViews
import Derived.JoinedTies
import Derived.KernelRfl
namespace Go.Proofs.Ytkdeaogmifhnhaa
/- THE CELL 'sum', in the pinned program and in every row, IS THE sha256 OF THE DUMP (.gsa) THAT YtkdeaogmifhnhaaProg.lean LOADS. Nothing in Lean hashes anything: it is a label: what it is worth is what the hold of that sum in a sandbox is worth. -/
noncomputable def Try.pinned : Pinned := { name := "ytkdeaogmifhnhaa", sum := "54cf90a98c93f4b61dd280a2ad061ef2a4ec35ad45a435b794e63c5ed58119be", checked := Try.checked }
namespace Rows
def none {H : Type} : Left H := { results := [], args := [] }

/-- 'skerrylaw11.PurgeCells': WHATEVER THE INPUT: true; the input reads as it did. -/
def purgeCellsSpec : ChangeSpec := { name := "purgeCells", fn := fun _ => fun
  | [d1, d2, d3] => { results := [.lit (.bool true)], args := [d1, d2, d3] }
  | _ => none }
def purgeCellsRow : OpenClaim := { program := "ytkdeaogmifhnhaa", sum := "54cf90a98c93f4b61dd280a2ad061ef2a4ec35ad45a435b794e63c5ed58119be", func := "skerry/skerrylaw11.PurgeCells", spec := "purgeCells", inPlace := ["internal/bytealg.abigen_runtime_cmpstring"], unfollowed := true, recurses := true, plainKeys := false, apart := false }
def PurgeCellsSaid : Prop := purgeCellsRow.holds Try.pinned (OpenSpec.ofChange purgeCellsSpec)

/-- ITS FALSE NEIGHBOUR: 'it returns false'. Refute it at one input. -/
def purgeCellsWrong : ChangeSpec := { name := "purgeCells", fn := fun _ => fun
  | [d1, d2, d3] => { results := [.lit (.bool false)], args := [d1, d2, d3] }
  | _ => none }
def PurgeCellsWrongFalsely : Prop := purgeCellsRow.holds Try.pinned (OpenSpec.ofChange purgeCellsWrong)

/-- 'skerrylaw11.PurgeLater': WHATEVER THE INPUT: true; the input reads as it did. -/
def purgeLaterSpec : ChangeSpec := { name := "purgeLater", fn := fun _ => fun
  | [d1, d2, d3] => { results := [.lit (.bool true)], args := [d1, d2, d3] }
  | _ => none }
def purgeLaterRow : OpenClaim := { program := "ytkdeaogmifhnhaa", sum := "54cf90a98c93f4b61dd280a2ad061ef2a4ec35ad45a435b794e63c5ed58119be", func := "skerry/skerrylaw11.PurgeLater", spec := "purgeLater", inPlace := ["internal/bytealg.abigen_runtime_cmpstring"], unfollowed := true, recurses := true, plainKeys := false, apart := false }
def PurgeLaterSaid : Prop := purgeLaterRow.holds Try.pinned (OpenSpec.ofChange purgeLaterSpec)

/-- ITS FALSE NEIGHBOUR: 'it returns false'. Refute it at one input. -/
def purgeLaterWrong : ChangeSpec := { name := "purgeLater", fn := fun _ => fun
  | [d1, d2, d3] => { results := [.lit (.bool false)], args := [d1, d2, d3] }
  | _ => none }
def PurgeLaterWrongFalsely : Prop := purgeLaterRow.holds Try.pinned (OpenSpec.ofChange purgeLaterWrong)

/-- 'skerrylaw11.PurgeNever': WHATEVER THE INPUT: true; the input reads as it did. -/
def purgeNeverSpec : ChangeSpec := { name := "purgeNever", fn := fun _ => fun
  | [d1, d2] => { results := [.lit (.bool true)], args := [d1, d2] }
  | _ => none }
def purgeNeverRow : OpenClaim := { program := "ytkdeaogmifhnhaa", sum := "54cf90a98c93f4b61dd280a2ad061ef2a4ec35ad45a435b794e63c5ed58119be", func := "skerry/skerrylaw11.PurgeNever", spec := "purgeNever", inPlace := ["internal/bytealg.abigen_runtime_cmpstring"], unfollowed := true, recurses := true, plainKeys := false, apart := false }
def PurgeNeverSaid : Prop := purgeNeverRow.holds Try.pinned (OpenSpec.ofChange purgeNeverSpec)

/-- ITS FALSE NEIGHBOUR: 'it returns false'. Refute it at one input. -/
def purgeNeverWrong : ChangeSpec := { name := "purgeNever", fn := fun _ => fun
  | [d1, d2] => { results := [.lit (.bool false)], args := [d1, d2] }
  | _ => none }
def PurgeNeverWrongFalsely : Prop := purgeNeverRow.holds Try.pinned (OpenSpec.ofChange purgeNeverWrong)

/- THE SECOND FORM. 'bulk': how many values and letters a reading holds, each counted each time it is reached (what is shared counts as often as it is met; a slice's spare places count too). A statement '..UptoSaid' is the law's where the arguments, and the package variables that the reading takes, are together of bulk at most 1048576: NARROWER than '..Said'. Prove '..Said' where nothing that the law and all that it calls make is longer than what came in: it says more and counts as full. Else prove '..UptoSaid'. A law counts once. -/
mutual
def uptoBulk {H : Type} : DataW H → Nat
  | .lit (.string bytes) => bytes.length + 1
  | .lit _ => 1
  | .nil => 1
  | .ptr d => uptoBulk d + 1
  | .slice elems spare => uptoBulkAll elems + uptoBulkAll spare + 1
  | .agg parts => uptoBulkAll parts + 1
  | .iface _ d => uptoBulk d + 1
  | .map entries => uptoBulkEntries entries + 1
  | .held _ => 1
def uptoBulkAll {H : Type} : List (DataW H) → Nat
  | [] => 0
  | d :: r => uptoBulk d + uptoBulkAll r
def uptoBulkEntries {H : Type} : List (Lit × DataW H) → Nat
  | [] => 0
  | x :: r => uptoBulkEntry x + uptoBulkEntries r
def uptoBulkEntry {H : Type} : Lit × DataW H → Nat
  | (.string bytes, d) => bytes.length + uptoBulk d + 1
  | (_, d) => uptoBulk d + 1
 end
def uptoSmall : (H : Type) → List (DataW H) → Bool := fun _ ds => decide (uptoBulkAll ds ≤ 1048576)
def OpenSpec.upto (s : _root_.Go.ChangeSpec) : _root_.Go.OpenSpec := { _root_.Go.OpenSpec.ofChange s with cond := some uptoSmall }

/-- 'skerrylaw11.PurgeCells', WHERE WHAT IT READS IS OF BULK AT MOST 1048576: true; the input reads as it did. -/
def purgeCellsUptoRow : OpenClaim := { program := "ytkdeaogmifhnhaa", sum := "54cf90a98c93f4b61dd280a2ad061ef2a4ec35ad45a435b794e63c5ed58119be", func := "skerry/skerrylaw11.PurgeCells", spec := "purgeCells", inPlace := ["internal/bytealg.abigen_runtime_cmpstring"], unfollowed := true, recurses := true, plainKeys := false, apart := false, narrowed := true }
def PurgeCellsUptoSaid : Prop := purgeCellsUptoRow.holds Try.pinned (OpenSpec.upto purgeCellsSpec)

/-- 'skerrylaw11.PurgeLater', WHERE WHAT IT READS IS OF BULK AT MOST 1048576: true; the input reads as it did. -/
def purgeLaterUptoRow : OpenClaim := { program := "ytkdeaogmifhnhaa", sum := "54cf90a98c93f4b61dd280a2ad061ef2a4ec35ad45a435b794e63c5ed58119be", func := "skerry/skerrylaw11.PurgeLater", spec := "purgeLater", inPlace := ["internal/bytealg.abigen_runtime_cmpstring"], unfollowed := true, recurses := true, plainKeys := false, apart := false, narrowed := true }
def PurgeLaterUptoSaid : Prop := purgeLaterUptoRow.holds Try.pinned (OpenSpec.upto purgeLaterSpec)

/-- 'skerrylaw11.PurgeNever', WHERE WHAT IT READS IS OF BULK AT MOST 1048576: true; the input reads as it did. -/
def purgeNeverUptoRow : OpenClaim := { program := "ytkdeaogmifhnhaa", sum := "54cf90a98c93f4b61dd280a2ad061ef2a4ec35ad45a435b794e63c5ed58119be", func := "skerry/skerrylaw11.PurgeNever", spec := "purgeNever", inPlace := ["internal/bytealg.abigen_runtime_cmpstring"], unfollowed := true, recurses := true, plainKeys := false, apart := false, narrowed := true }
def PurgeNeverUptoSaid : Prop := purgeNeverUptoRow.holds Try.pinned (OpenSpec.upto purgeNeverSpec)

end Rows
end Go.Proofs.Ytkdeaogmifhnhaa
