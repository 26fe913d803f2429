/-
  CONTRACTS: the document's answers (Zig, Zag, Put, Get), and Lend and Kept, each for every argument.
-/
import Derived.Test.YtblblngcmgdnnaaDoorCodGot
namespace Go.Proofs.YtblblngcmgdnnaaDoor
open Go.RowKit

/-- A row of nothing, just made. -/
theorem owns_none (w : World) : (w.alloc (.cells #[] 5)).ownsRow w.heap.size 5 1 (.slice (some ⟨w.heap.size, 0, none⟩) 0 0) 0 [] := World.ownsRow_made w #[] 0 (Nat.le_refl _) (by decide) rfl
theorem below_none {w w' : World} {v : Value} (h : Grew (w.alloc (.cells #[] 5)) w' (.slice (some ⟨w.heap.size, 0, none⟩) 0 0) v) : Below w.heap.size w w' :=
  ((Below.refl _ _).alloc (Nat.le_refl _) _).trans (h.below (by rw [World.size_alloc]; omega) (fun k hk => by cases hk; exact Nat.le_refl _))

end Go.Proofs.YtblblngcmgdnnaaDoor
