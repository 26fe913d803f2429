/-
  PLAIN: bytes that begin with a number begin with just its bytes.
-/
import Derived.Test.YthihljjefncfoaaDoorShortPlain
import Derived.Test.YthihljjefncfoaaDoorRefGet
namespace Go.Proofs.YthihljjefncfoaaDoor
open Go.RowKit

set_option maxRecDepth 100000 in
theorem byte_back (b : UInt8) : UInt8.ofNat b.toNat = b := by simp
set_option maxRecDepth 100000 in
theorem getN_shape (k : Nat) : ∀ (i acc : Nat) (l : List UInt8) (v : Nat) (r : List UInt8), i + k = 9 → getN i acc l = some (v, r) → ∃ x, x < 2 * 128 ^ k ∧ (0 < i → 0 < x) ∧ v = acc + x * 2 ^ (7 * i) ∧ l = numF k x ++ r := by
  induction k with
  | zero =>
    intro i acc l v r hi hg
    cases l with
    | nil => simp [getN] at hg
    | cons b r' =>
      rw [getN] at hg
      by_cases h1 : (i = 9 ∧ 1 < b.toNat) ∨ (0 < i ∧ b.toNat = 0)
      · rw [if_pos h1] at hg; cases hg
      · rw [if_neg h1, if_pos (by omega)] at hg
        cases hg
        refine ⟨b.toNat, by simp; omega, fun _ => by omega, by rw [Nat.mod_eq_of_lt (by omega)], ?_⟩
        rw [numF, byte_back]
        rfl
  | succ k ih =>
    intro i acc l v r hi hg
    cases l with
    | nil => simp [getN] at hg
    | cons b r' =>
      rw [getN] at hg
      by_cases h1 : (i = 9 ∧ 1 < b.toNat) ∨ (0 < i ∧ b.toNat = 0)
      · rw [if_pos h1] at hg; cases hg
      · rw [if_neg h1] at hg
        have hpw : 0 < 128 ^ k := Nat.pow_pos (by decide)
        by_cases h2 : b.toNat < 128
        · rw [if_pos h2] at hg
          cases hg
          refine ⟨b.toNat, by rw [Nat.pow_succ]; omega, fun _ => by omega, by rw [Nat.mod_eq_of_lt h2], ?_⟩
          rw [numF_small _ _ h2, byte_back]
          rfl
        · rw [if_neg h2] at hg
          obtain ⟨x, hx, hp, rfl, rfl⟩ := ih (i + 1) _ r' v r (by omega) hg
          have hb := b.toNat_lt
          have hm : b.toNat % 128 = b.toNat - 128 := by omega
          have hx0 := hp (by omega)
          have e1 : (x * 128 + (b.toNat - 128)) % 128 = b.toNat - 128 := by omega
          have e2 : (x * 128 + (b.toNat - 128)) / 128 = x := by omega
          refine ⟨x * 128 + (b.toNat - 128), by rw [Nat.pow_succ]; omega, fun _ => by omega, ?_, ?_⟩
          · rw [hm, pow7, Nat.add_mul, Nat.mul_assoc, Nat.add_assoc, Nat.add_comm ((b.toNat - 128) * 2 ^ (7 * i))]
          · rw [numF_great _ _ (by omega), e1, e2, show b.toNat - 128 + 128 = b.toNat by omega, byte_back]
            rfl
set_option maxRecDepth 100000 in
theorem get_canon {l : List UInt8} (h : getK l ≠ 0) : l = numL (getV l) ++ l.drop (getK l) ∧ getK l = (numL (getV l)).length ∧ getV l < 18446744073709551616 ∧ getN 0 0 l = some (getV l, l.drop (getK l)) := by
  cases hg : getN 0 0 l with
  | none => exact absurd (by unfold getK; rw [hg]) h
  | some vr =>
    obtain ⟨v, r⟩ := vr
    obtain ⟨x, hx, _, hv, hl⟩ := getN_shape 9 0 0 l v r rfl hg
    have hv' : v = x := by simpa using hv
    subst hv'
    have h1 : getV l = v := by unfold getV; rw [hg]
    have h2 : getK l = (numL v).length := by unfold getK; rw [hg]; show l.length - r.length = _; rw [hl, List.length_append]; unfold numL; omega
    have h3 : l.drop (getK l) = r := by rw [h2, hl]; exact List.drop_left
    rw [h3, h1]
    exact ⟨hl, h2, hx, rfl⟩
set_option maxRecDepth 100000 in
theorem getK_zero {l : List UInt8} (h : getK l = 0) : getV l = 0 := by
  cases hg : getN 0 0 l with
  | none => unfold getV; rw [hg]
  | some vr =>
    obtain ⟨v, r⟩ := vr
    obtain ⟨x, _, _, _, hl⟩ := getN_shape 9 0 0 l v r rfl hg
    have h2 : getK l = (numF 9 x).length := by unfold getK; rw [hg]; show l.length - r.length = _; rw [hl, List.length_append]; omega
    have := (numF_length 9 x).1
    omega
set_option maxRecDepth 100000 in
theorem getK_le (l : List UInt8) : getK l ≤ l.length := by
  unfold getK
  cases getN 0 0 l with
  | none => exact Nat.zero_le _
  | some vr => exact Nat.sub_le _ _
set_option maxRecDepth 100000 in
theorem getV_lt (l : List UInt8) : getV l < 18446744073709551616 := by
  by_cases h : getK l = 0
  · rw [getK_zero h]; decide
  · exact (get_canon h).2.2.1
/-- Are bytes a filter? -/
def okF (B : List UInt8) : Bool := decide (1 ≤ getV B ∧ getV B ≤ 16 ∧ 1 ≤ getV (B.drop (getK B)) ∧ getV (B.drop (getK B)) ≤ 400000 ∧ B.length - (getK B + getK (B.drop (getK B))) = getV (B.drop (getK B)))
set_option maxRecDepth 100000 in
theorem okF_enc {B : List UInt8} {k p q : Nat} {l : List UInt8} (hp : getK B = p) (hk : getV B = k) (hp0 : p ≠ 0) (hq : getK (B.drop p) = q) (hq0 : q ≠ 0) (hl : B.drop (p + q) = l) (hn : getV (B.drop p) = l.length) : B = numL k ++ numL l.length ++ l := by
  have h1 := get_canon (l := B) (by omega)
  have h2 := get_canon (l := B.drop p) (by omega)
  rw [hp, hk] at h1
  rw [hq, hn, List.drop_drop, hl] at h2
  rw [List.append_assoc, ← h2.1]
  exact h1.1
end Go.Proofs.YthihljjefncfoaaDoor
