/-
  CONTRACT: the join of two cells of one key.
-/
import Derived.Test.YtlhojbgpmjcjlaaCxSorted
import Derived.Test.YtlhojbgpmjcjlaaCxPlain
import Derived.Deep.RegionLaw
namespace Go.Proofs.Ytlhojbgpmjcjlaa
open Go.RowKit

def zeroX : Cx := ⟨⟨⟨#[]⟩, ⟨#[]⟩, 0, ⟨#[]⟩⟩, zeroV⟩
theorem set10_heap {w : World} {g : Nat} {a : Cx} {ty : TypeId} (h : w.heap[g]? = some (.cells a.a ty)) (v0 v1 v2 v3 v4 v5 v6 v7 v8 v9 : Value) :
    ((((((((((w.setCell ⟨g, 0, none⟩ v0).setCell ⟨g, 1, none⟩ v1).setCell ⟨g, 2, none⟩ v2).setCell ⟨g, 3, none⟩ v3).setCell ⟨g, 4, none⟩ v4).setCell ⟨g, 5, none⟩ v5).setCell ⟨g, 6, none⟩ v6).setCell ⟨g, 7, none⟩ v7).setCell ⟨g, 8, none⟩ v8).setCell ⟨g, 9, none⟩ v9).heap[g]? = some (.cells #[v0, v1, v2, v3, v4, v5, v6, v7, v8, v9] ty) := by
  simp only [World.setCell, Array.getElem?_modify, h, Cx.a]
  simp
theorem below10 {B : Nat} {w w1 : World} (h : Below B w w1) {g : Nat} (hg : B ≤ g) (v0 v1 v2 v3 v4 v5 v6 v7 v8 v9 : Value) : Below B w ((((((((((w1.setCell ⟨g, 0, none⟩ v0).setCell ⟨g, 1, none⟩ v1).setCell ⟨g, 2, none⟩ v2).setCell ⟨g, 3, none⟩ v3).setCell ⟨g, 4, none⟩ v4).setCell ⟨g, 5, none⟩ v5).setCell ⟨g, 6, none⟩ v6).setCell ⟨g, 7, none⟩ v7).setCell ⟨g, 8, none⟩ v8).setCell ⟨g, 9, none⟩ v9) :=
  ((((below6 h hg v0 v1 v2 v3 v4 v5).setCell (p := ⟨g, 6, none⟩) hg _).setCell (p := ⟨g, 7, none⟩) hg _).setCell (p := ⟨g, 8, none⟩) hg _).setCell (p := ⟨g, 9, none⟩) hg _
theorem boxesX3 (w : World) (a b c : Cx) : ∃ wa, wa = ((w.alloc (.cells a.a 40)).alloc (.cells b.a 40)).alloc (.cells c.a 40) ∧ TenX wa w.heap.size 0 a ∧ TenX wa (w.heap.size + 1) 0 b ∧ TenX wa (w.heap.size + 1 + 1) 0 c ∧ wa.heap[w.heap.size + 1 + 1]? = some (.cells c.a 40) ∧ Below w.heap.size w wa := by
  have h3 := heap_alloc_new ((w.alloc (.cells a.a 40)).alloc (.cells b.a 40)) (.cells c.a 40)
  rw [World.size_alloc, World.size_alloc] at h3
  refine ⟨_, rfl, ((TenX.new w a _).alloc _).alloc _, ?_, TenX.of h3, h3, (((Below.refl _ _).alloc (Nat.le_refl _) _).alloc (by simp) _).alloc (by rw [World.size_alloc, World.size_alloc]; omega) _⟩
  have := TenX.new (w.alloc (.cells a.a 40)) b 40
  rw [World.size_alloc] at this; exact this.alloc _
end Go.Proofs.Ytlhojbgpmjcjlaa
