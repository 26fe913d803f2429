/-
  No cell of these rows narrows 'for every input' (looked for: loops, veiled, ifaces, maps, wideKeys, modest, calm, conditions, laid).
  DERIVED. THE GIVEN ROWS OF THIS SEAT. 5 by the template 'for every input the law returns true; each argument reads behind the call as it read before'; 0 by the template 'total and deterministic' (their statements: YtdmfbhaojcoodaaTotals.lean).
  GIVEN WITH THE SEED: the statements are not yours to turn. If you find one false, say at which input.
  Laid BY PROGRAM, IN A SANDBOX (cutbox-rows.mjs): the forced cells as the released guide's own fill.sh prints them over the translation 60cc825b4b3ffd4c… (all of the seat's roots in one cut). By AI agents, Wed Nov 11 2026. No macro, syntax, notation, axiom, sorry.
-/
import Derived.Test.YtdmfbhaojcoodaaChecked
import GoSem.Claim
import GoSem.ClaimJoined
import GoSem.ClaimMapViews
import Derived.JoinedTies
import Derived.KernelRfl
namespace Go.Proofs.Ytdmfbhaojcoodaa
/- THE CELL 'sum', in the pinned program and in every row, IS THE sha256 OF THE DUMP (.gsa) THAT YtdmfbhaojcoodaaProg.lean LOADS. Nothing in Lean hashes anything: it is a label: what it is worth is what the hold of that sum in a sandbox is worth. -/
noncomputable def Try.pinned : Pinned := { name := "ytdmfbhaojcoodaa", sum := "60cc825b4b3ffd4c6cafa33fa9b9e79e8def3b500a71ec9d87333bd09b0799fc", checked := Try.checked }
namespace Rows
def none {H : Type} : Left H := { results := [], args := [] }

/-- 'skerrylaw02.MurmurSums': WHATEVER THE INPUT: true; the input reads as it did. -/
def murmurSumsSpec : ChangeSpec := { name := "murmurSums", fn := fun _ => fun
  | [d1, d2] => { results := [.lit (.bool true)], args := [d1, d2] }
  | _ => none }
def murmurSumsRow : OpenClaim := { program := "ytdmfbhaojcoodaa", sum := "60cc825b4b3ffd4c6cafa33fa9b9e79e8def3b500a71ec9d87333bd09b0799fc", func := "skerry/skerrylaw02.MurmurSums", spec := "murmurSums", unfollowed := true, recurses := true, apart := false }
def MurmurSumsSaid : Prop := murmurSumsRow.holds Try.pinned (OpenSpec.ofChange murmurSumsSpec)

/-- ITS FALSE NEIGHBOUR: 'it returns false'. Refute it at one input. -/
def murmurSumsWrong : ChangeSpec := { name := "murmurSums", fn := fun _ => fun
  | [d1, d2] => { results := [.lit (.bool false)], args := [d1, d2] }
  | _ => none }
def MurmurSumsWrongFalsely : Prop := murmurSumsRow.holds Try.pinned (OpenSpec.ofChange murmurSumsWrong)

/-- 'skerrylaw02.MurmurTokens': WHATEVER THE INPUT: true; the input reads as it did. -/
def murmurTokensSpec : ChangeSpec := { name := "murmurTokens", fn := fun _ => fun
  | [d1, d2] => { results := [.lit (.bool true)], args := [d1, d2] }
  | _ => none }
def murmurTokensRow : OpenClaim := { program := "ytdmfbhaojcoodaa", sum := "60cc825b4b3ffd4c6cafa33fa9b9e79e8def3b500a71ec9d87333bd09b0799fc", func := "skerry/skerrylaw02.MurmurTokens", spec := "murmurTokens", unfollowed := true, recurses := true, apart := false }
def MurmurTokensSaid : Prop := murmurTokensRow.holds Try.pinned (OpenSpec.ofChange murmurTokensSpec)

/-- ITS FALSE NEIGHBOUR: 'it returns false'. Refute it at one input. -/
def murmurTokensWrong : ChangeSpec := { name := "murmurTokens", fn := fun _ => fun
  | [d1, d2] => { results := [.lit (.bool false)], args := [d1, d2] }
  | _ => none }
def MurmurTokensWrongFalsely : Prop := murmurTokensRow.holds Try.pinned (OpenSpec.ofChange murmurTokensWrong)

/-- 'skerrylaw02.MurmurMixes': WHATEVER THE INPUT: true; the input reads as it did. -/
def murmurMixesSpec : ChangeSpec := { name := "murmurMixes", fn := fun _ => fun
  | [d1, d2] => { results := [.lit (.bool true)], args := [d1, d2] }
  | _ => none }
def murmurMixesRow : OpenClaim := { program := "ytdmfbhaojcoodaa", sum := "60cc825b4b3ffd4c6cafa33fa9b9e79e8def3b500a71ec9d87333bd09b0799fc", func := "skerry/skerrylaw02.MurmurMixes", spec := "murmurMixes", unfollowed := true, recurses := true, apart := false }
def MurmurMixesSaid : Prop := murmurMixesRow.holds Try.pinned (OpenSpec.ofChange murmurMixesSpec)

/-- ITS FALSE NEIGHBOUR: 'it returns false'. Refute it at one input. -/
def murmurMixesWrong : ChangeSpec := { name := "murmurMixes", fn := fun _ => fun
  | [d1, d2] => { results := [.lit (.bool false)], args := [d1, d2] }
  | _ => none }
def MurmurMixesWrongFalsely : Prop := murmurMixesRow.holds Try.pinned (OpenSpec.ofChange murmurMixesWrong)

/-- 'skerrylaw02.MurmurHalves': WHATEVER THE INPUT: true; the input reads as it did. -/
def murmurHalvesSpec : ChangeSpec := { name := "murmurHalves", fn := fun _ => fun
  | [d] => { results := [.lit (.bool true)], args := [d] }
  | _ => none }
def murmurHalvesRow : OpenClaim := { program := "ytdmfbhaojcoodaa", sum := "60cc825b4b3ffd4c6cafa33fa9b9e79e8def3b500a71ec9d87333bd09b0799fc", func := "skerry/skerrylaw02.MurmurHalves", spec := "murmurHalves", unfollowed := true, recurses := true, apart := false }
def MurmurHalvesSaid : Prop := murmurHalvesRow.holds Try.pinned (OpenSpec.ofChange murmurHalvesSpec)

/-- ITS FALSE NEIGHBOUR: 'it returns false'. Refute it at one input. -/
def murmurHalvesWrong : ChangeSpec := { name := "murmurHalves", fn := fun _ => fun
  | [d] => { results := [.lit (.bool false)], args := [d] }
  | _ => none }
def MurmurHalvesWrongFalsely : Prop := murmurHalvesRow.holds Try.pinned (OpenSpec.ofChange murmurHalvesWrong)

/-- 'skerrylaw02.MurmurNothing': WHATEVER THE INPUT: true; the input reads as it did. -/
def murmurNothingSpec : ChangeSpec := { name := "murmurNothing", fn := fun _ => fun
  | [d] => { results := [.lit (.bool true)], args := [d] }
  | _ => none }
def murmurNothingRow : OpenClaim := { program := "ytdmfbhaojcoodaa", sum := "60cc825b4b3ffd4c6cafa33fa9b9e79e8def3b500a71ec9d87333bd09b0799fc", func := "skerry/skerrylaw02.MurmurNothing", spec := "murmurNothing", unfollowed := true, recurses := true, apart := false }
def MurmurNothingSaid : Prop := murmurNothingRow.holds Try.pinned (OpenSpec.ofChange murmurNothingSpec)

/-- ITS FALSE NEIGHBOUR: 'it returns false'. Refute it at one input. -/
def murmurNothingWrong : ChangeSpec := { name := "murmurNothing", fn := fun _ => fun
  | [d] => { results := [.lit (.bool false)], args := [d] }
  | _ => none }
def MurmurNothingWrongFalsely : Prop := murmurNothingRow.holds Try.pinned (OpenSpec.ofChange murmurNothingWrong)

/- THE SECOND FORM. 'bulk': how many values and letters a reading holds, each counted each time it is reached (what is shared counts as often as it is met; a slice's spare places count too). A statement '..UptoSaid' is the law's where the arguments, and the package variables that the reading takes, are together of bulk at most 1048576: NARROWER than '..Said'. Prove '..Said' where nothing that the law and all that it calls make is longer than what came in: it says more and counts as full. Else prove '..UptoSaid'. A law counts once. -/
mutual
def uptoBulk {H : Type} : DataW H → Nat
  | .lit (.string bytes) => bytes.length + 1
  | .lit _ => 1
  | .nil => 1
  | .ptr d => uptoBulk d + 1
  | .slice elems spare => uptoBulkAll elems + uptoBulkAll spare + 1
  | .agg parts => uptoBulkAll parts + 1
  | .iface _ d => uptoBulk d + 1
  | .map entries => uptoBulkEntries entries + 1
  | .held _ => 1
def uptoBulkAll {H : Type} : List (DataW H) → Nat
  | [] => 0
  | d :: r => uptoBulk d + uptoBulkAll r
def uptoBulkEntries {H : Type} : List (Lit × DataW H) → Nat
  | [] => 0
  | x :: r => uptoBulkEntry x + uptoBulkEntries r
def uptoBulkEntry {H : Type} : Lit × DataW H → Nat
  | (.string bytes, d) => bytes.length + uptoBulk d + 1
  | (_, d) => uptoBulk d + 1
 end
def uptoSmall : (H : Type) → List (DataW H) → Bool := fun _ ds => decide (uptoBulkAll ds ≤ 1048576)
def OpenSpec.upto (s : _root_.Go.ChangeSpec) : _root_.Go.OpenSpec := { _root_.Go.OpenSpec.ofChange s with cond := some uptoSmall }

/-- 'skerrylaw02.MurmurSums', WHERE WHAT IT READS IS OF BULK AT MOST 1048576: true; the input reads as it did. -/
def murmurSumsUptoRow : OpenClaim := { program := "ytdmfbhaojcoodaa", sum := "60cc825b4b3ffd4c6cafa33fa9b9e79e8def3b500a71ec9d87333bd09b0799fc", func := "skerry/skerrylaw02.MurmurSums", spec := "murmurSums", unfollowed := true, recurses := true, apart := false, narrowed := true }
def MurmurSumsUptoSaid : Prop := murmurSumsUptoRow.holds Try.pinned (OpenSpec.upto murmurSumsSpec)

/-- 'skerrylaw02.MurmurTokens', WHERE WHAT IT READS IS OF BULK AT MOST 1048576: true; the input reads as it did. -/
def murmurTokensUptoRow : OpenClaim := { program := "ytdmfbhaojcoodaa", sum := "60cc825b4b3ffd4c6cafa33fa9b9e79e8def3b500a71ec9d87333bd09b0799fc", func := "skerry/skerrylaw02.MurmurTokens", spec := "murmurTokens", unfollowed := true, recurses := true, apart := false, narrowed := true }
def MurmurTokensUptoSaid : Prop := murmurTokensUptoRow.holds Try.pinned (OpenSpec.upto murmurTokensSpec)

/-- 'skerrylaw02.MurmurMixes', WHERE WHAT IT READS IS OF BULK AT MOST 1048576: true; the input reads as it did. -/
def murmurMixesUptoRow : OpenClaim := { program := "ytdmfbhaojcoodaa", sum := "60cc825b4b3ffd4c6cafa33fa9b9e79e8def3b500a71ec9d87333bd09b0799fc", func := "skerry/skerrylaw02.MurmurMixes", spec := "murmurMixes", unfollowed := true, recurses := true, apart := false, narrowed := true }
def MurmurMixesUptoSaid : Prop := murmurMixesUptoRow.holds Try.pinned (OpenSpec.upto murmurMixesSpec)

/-- 'skerrylaw02.MurmurHalves', WHERE WHAT IT READS IS OF BULK AT MOST 1048576: true; the input reads as it did. -/
def murmurHalvesUptoRow : OpenClaim := { program := "ytdmfbhaojcoodaa", sum := "60cc825b4b3ffd4c6cafa33fa9b9e79e8def3b500a71ec9d87333bd09b0799fc", func := "skerry/skerrylaw02.MurmurHalves", spec := "murmurHalves", unfollowed := true, recurses := true, apart := false, narrowed := true }
def MurmurHalvesUptoSaid : Prop := murmurHalvesUptoRow.holds Try.pinned (OpenSpec.upto murmurHalvesSpec)

/-- 'skerrylaw02.MurmurNothing', WHERE WHAT IT READS IS OF BULK AT MOST 1048576: true; the input reads as it did. -/
def murmurNothingUptoRow : OpenClaim := { program := "ytdmfbhaojcoodaa", sum := "60cc825b4b3ffd4c6cafa33fa9b9e79e8def3b500a71ec9d87333bd09b0799fc", func := "skerry/skerrylaw02.MurmurNothing", spec := "murmurNothing", unfollowed := true, recurses := true, apart := false, narrowed := true }
def MurmurNothingUptoSaid : Prop := murmurNothingUptoRow.holds Try.pinned (OpenSpec.upto murmurNothingSpec)

end Rows
end Go.Proofs.Ytdmfbhaojcoodaa
