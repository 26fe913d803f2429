/-
  PLAIN: the number that bytes begin with; no program.
-/
import Derived.Test.YthihljjefncfoaaDoorCodPlain
namespace Go.Proofs.YthihljjefncfoaaDoor
open Go.RowKit

/-! ### The number that bytes begin with. -/
/-- i digits, which come to acc, are read; l is left. -/
def getN : Nat → Nat → List UInt8 → Option (Nat × List UInt8)
  | _, _, [] => none
  | i, acc, b :: r =>
    if (i = 9 ∧ 1 < b.toNat) ∨ (0 < i ∧ b.toNat = 0) then none
    else if b.toNat < 128 then some (acc + b.toNat % 128 * 2 ^ (7 * i), r)
    else getN (i + 1) (acc + b.toNat % 128 * 2 ^ (7 * i)) r

theorem digit_bd (i acc x : Nat) (h : acc < 2 ^ (7 * i)) : acc + x % 128 * 2 ^ (7 * i) < 2 ^ (7 * (i + 1)) := by
  have e : 2 ^ (7 * (i + 1)) = 128 * 2 ^ (7 * i) := by rw [show 7 * (i + 1) = 7 + 7 * i by omega, Nat.pow_add]
  have h1 : x % 128 * 2 ^ (7 * i) ≤ 127 * 2 ^ (7 * i) := Nat.mul_le_mul_right _ (by omega)
  rw [e]
  omega
/-- What a round of number's text reckons. -/
theorem or_text (i acc x : Nat) (h : acc < 2 ^ (7 * i)) (hi : i ≤ 9) (h9 : i = 9 → x ≤ 1) :
    bits BinOp.or IntKind.u64 (acc : Int) (IntKind.u64.wrap ((x : Int) % 128 * 2 ^ (7 * i))) = ((acc + x % 128 * 2 ^ (7 * i) : Nat) : Int) := by
  have hp : 2 ^ (7 * i) ≤ 2 ^ 63 := Nat.pow_le_pow_right (by omega) (by omega)
  have hy : x % 128 * 2 ^ (7 * i) < 18446744073709551616 := by
    rcases Nat.lt_or_ge i 9 with h1 | h1
    · have h2 : 2 ^ (7 * i) ≤ 2 ^ 56 := Nat.pow_le_pow_right (by omega) (by omega)
      have h3 : x % 128 * 2 ^ (7 * i) ≤ 127 * 2 ^ 56 := Nat.mul_le_mul (by omega) h2
      omega
    · have hx := h9 (by omega)
      have h3 : x % 128 * 2 ^ (7 * i) ≤ 1 * 2 ^ 63 := Nat.mul_le_mul (by omega) hp
      omega
  have e : (x : Int) % 128 * 2 ^ (7 * i) = ((x % 128 * 2 ^ (7 * i) : Nat) : Int) := by simp
  rw [e, IntWalk.u64_in _ ⟨by omega, by omega⟩, u64_or_nat _ _ (by omega) hy]
  have h4 := Nat.two_pow_add_eq_or_of_lt h (x % 128)
  rw [Nat.or_comm, Nat.mul_comm, ← h4, Nat.mul_comm, Nat.add_comm]
end Go.Proofs.YthihljjefncfoaaDoor
