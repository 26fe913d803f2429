/-
  CONTRACTS: how two cells stand by their keys; are cells sorted?
-/
import Derived.Test.YtkdeaogmifhnhaaCxRow
namespace Go.Proofs.Ytkdeaogmifhnhaa
open Go.RowKit

set_option maxHeartbeats 800000 in
theorem cmpKeys_any (a b : Cx) (w : World) : Calls Try.prog 34 #[a.val, b.val] w fun x w' => x = .returned (.int .i64 (kc a.k.ky b.k.ky)) ∧ Below w.heap.size w w' := by
  have C : Hid (∀ w : World, Calls Try.prog 47 #[a.k.v, b.k.v] w fun x w' => x = .returned (.int .i64 (kc a.k.ky b.k.ky)) ∧ Below w.heap.size w w') := fun w => cmp_any a.k b.k w
  have hB : Hid (∀ o1 o2 : Obj, Below w.heap.size w ((w.alloc o1).alloc o2)) := fun o1 o2 => ((Below.refl _ _).alloc (Nat.le_refl _) _).alloc (by simp) _
  generalize kc a.k.ky b.k.ky = R at *
  obtain ⟨⟨a1, p1, r1, c1⟩, ⟨t1, d1, l1, k1, n1, s1⟩⟩ := a
  obtain ⟨⟨a2, p2, r2, c2⟩, ⟨t2, d2, l2, k2, n2, s2⟩⟩ := b
  simp only [Cx.val, Cx.a, Kb.v] at *
  go_enter Try.func34, Try.ntmps34
  go_wp2_with fail
  refine (C.out _).mono ?_
  rintro x w1 ⟨rfl, hb1⟩
  go_wp2_with fail
  go_ret
  exact ⟨rfl, (hB.out _ _).trans (hb1.mono (hB.out _ _).size)⟩

/-- The keys rise up to the place i. -/
def Rise (l : List Cx) (i : Nat) : Prop := ∀ j x y, j + 1 < i → l[j]? = some x → l[j + 1]? = some y → kc x.k.ky y.k.ky < 0
noncomputable def srtB (l : List Cx) : Bool := @decide (Rise l l.length) (Classical.propDecidable _)
theorem srtB_true {l : List Cx} (h : Rise l l.length) : srtB l = true := @decide_eq_true _ (Classical.propDecidable _) h
theorem srtB_false {l : List Cx} (h : ¬ Rise l l.length) : srtB l = false := @decide_eq_false _ (Classical.propDecidable _) h
theorem Rise.step {l : List Cx} {i : Nat} {x y : Cx} (h : Rise l i) (hx : l[i - 1]? = some x) (hy : l[i]? = some y) (hc : kc x.k.ky y.k.ky < 0) : Rise l (i + 1) := by
  intro j u v hj hu hv
  rcases Nat.lt_or_ge (j + 1) i with g | g
  · exact h j u v g hu hv
  · have e : j + 1 = i := by omega
    have e2 : j = i - 1 := by omega
    rw [e, hy] at hv
    rw [e2, hx] at hu
    obtain rfl := Option.some.inj hu
    obtain rfl := Option.some.inj hv
    exact hc
attribute [local irreducible] wpQuiet
end Go.Proofs.Ytkdeaogmifhnhaa
