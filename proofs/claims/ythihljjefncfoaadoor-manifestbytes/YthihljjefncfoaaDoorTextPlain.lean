/-
  PLAIN: the text that bytes begin with.
-/
import Derived.Test.YthihljjefncfoaaDoorShortPlain
namespace Go.Proofs.YthihljjefncfoaaDoor
open Go.RowKit

theorem getN_bd : ∀ (l : List UInt8) (i acc v : Nat) (r : List UInt8), i ≤ 9 → acc < 2 ^ (7 * i) → getN i acc l = some (v, r) → v < 18446744073709551616 ∧ r.length < l.length := by
  intro l
  induction l with
  | nil => intro i acc v r _ _ h; simp [getN] at h
  | cons b l ih =>
    intro i acc v r hi hacc h
    rw [getN] at h
    split at h
    · cases h
    · rename_i hno
      have hd := digit_bd i acc b.toNat hacc
      split at h
      · simp only [Option.some.injEq, Prod.mk.injEq] at h
        obtain ⟨rfl, rfl⟩ := h
        refine ⟨?_, by simp⟩
        rcases Nat.lt_or_ge i 9 with h1 | h1
        · have h2 : 2 ^ (7 * (i + 1)) ≤ 2 ^ 63 := Nat.pow_le_pow_right (by omega) (by omega)
          omega
        · obtain rfl : i = 9 := by omega
          have h3 : b.toNat % 128 * 2 ^ (7 * 9) ≤ 1 * 2 ^ 63 := Nat.mul_le_mul (by omega) (by decide)
          have h4 : acc < 2 ^ 63 := hacc
          omega
      · have hi' : i + 1 ≤ 9 := by omega
        have := ih (i + 1) _ v r hi' hd h
        simp only [List.length_cons]
        omega
theorem get_bd {l : List UInt8} {v : Nat} {r : List UInt8} (h : getN 0 0 l = some (v, r)) : v < 18446744073709551616 ∧ r.length < l.length := getN_bd l 0 0 v r (by omega) (by simp) h

/-- The text that bytes begin with, and what is left. -/
def textN (l : List UInt8) : Option (List UInt8 × List UInt8) := match getN 0 0 l with | none => none | some (v, r) => if v ≤ r.length then some (r.take v, r.drop v) else none
theorem textN_some {l s r' : List UInt8} (h : textN l = some (s, r')) : ∃ v r, getN 0 0 l = some (v, r) ∧ v ≤ r.length ∧ r.take v = s ∧ r.drop v = r' := by
  unfold textN at h
  split at h
  · cases h
  · rename_i v r hg
    split at h
    · rename_i hv
      simp only [Option.some.injEq, Prod.mk.injEq] at h
      exact ⟨v, r, hg, hv, h.1, h.2⟩
    · cases h
theorem textN_none {l : List UInt8} (h : textN l = none) : getN 0 0 l = none ∨ ∃ v r, getN 0 0 l = some (v, r) ∧ r.length < v := by
  unfold textN at h
  split at h
  · rename_i hg; exact .inl hg
  · rename_i v r hg
    split at h
    · cases h
    · exact .inr ⟨v, r, hg, by omega⟩
theorem textN_back (s rest : List UInt8) (h : s.length < 18446744073709551616) : textN (numL s.length ++ (s ++ rest)) = some (s, rest) := by
  unfold textN
  rw [get_back s.length h]
  simp
theorem getN_suffix : ∀ (l : List UInt8) (i acc v : Nat) (r : List UInt8), getN i acc l = some (v, r) → ∃ d, l = d ++ r := by
  intro l
  induction l with
  | nil => intro i acc v r h; simp [getN] at h
  | cons b l ih =>
    intro i acc v r h
    rw [getN] at h
    split at h
    · cases h
    · split at h
      · simp only [Option.some.injEq, Prod.mk.injEq] at h
        exact ⟨[b], by rw [h.2]; rfl⟩
      · obtain ⟨d, hd⟩ := ih _ _ _ _ h
        exact ⟨b :: d, by rw [hd]; rfl⟩
theorem getN_drop {l : List UInt8} {v : Nat} {r : List UInt8} (h : getN 0 0 l = some (v, r)) : l.drop (l.length - r.length) = r := by
  obtain ⟨d, rfl⟩ := getN_suffix l 0 0 v r h
  simp
end Go.Proofs.YthihljjefncfoaaDoor
