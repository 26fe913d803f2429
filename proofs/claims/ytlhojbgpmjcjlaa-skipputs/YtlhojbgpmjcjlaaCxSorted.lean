/-
  CONTRACTS: how two cells stand by their keys; are cells sorted?
-/
import Derived.Test.YtlhojbgpmjcjlaaCxRow
namespace Go.Proofs.Ytlhojbgpmjcjlaa
open Go.RowKit

/-- The keys rise up to the place i. -/
def Rise (l : List Cx) (i : Nat) : Prop := ∀ j x y, j + 1 < i → l[j]? = some x → l[j + 1]? = some y → kc x.k.ky y.k.ky < 0
noncomputable def srtB (l : List Cx) : Bool := @decide (Rise l l.length) (Classical.propDecidable _)
theorem srtB_true {l : List Cx} (h : Rise l l.length) : srtB l = true := @decide_eq_true _ (Classical.propDecidable _) h
theorem srtB_false {l : List Cx} (h : ¬ Rise l l.length) : srtB l = false := @decide_eq_false _ (Classical.propDecidable _) h
theorem Rise.step {l : List Cx} {i : Nat} {x y : Cx} (h : Rise l i) (hx : l[i - 1]? = some x) (hy : l[i]? = some y) (hc : kc x.k.ky y.k.ky < 0) : Rise l (i + 1) := by
  intro j u v hj hu hv
  rcases Nat.lt_or_ge (j + 1) i with g | g
  · exact h j u v g hu hv
  · have e : j + 1 = i := by omega
    have e2 : j = i - 1 := by omega
    rw [e, hy] at hv
    rw [e2, hx] at hu
    obtain rfl := Option.some.inj hu
    obtain rfl := Option.some.inj hv
    exact hc
attribute [local irreducible] wpQuiet
end Go.Proofs.Ytlhojbgpmjcjlaa
