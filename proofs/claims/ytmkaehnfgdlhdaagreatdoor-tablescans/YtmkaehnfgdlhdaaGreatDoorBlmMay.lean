/-
  CONTRACT: May.
-/
import Derived.Test.YtmkaehnfgdlhdaaGreatDoorBlmOps
import Derived.Test.YtmkaehnfgdlhdaaGreatDoorBlmIx
namespace Go.Proofs.YtmkaehnfgdlhdaaGreatDoor
open Go.RowKit

theorem and_pow (x i : Nat) : x &&& 2 ^ i = (x.testBit i).toNat * 2 ^ i := by
  apply Nat.eq_of_testBit_eq
  intro j
  rw [Nat.testBit_and, Nat.testBit_two_pow]
  by_cases e : i = j
  · subst e
    cases h : x.testBit i
    · simp
    · simp
  · cases h : x.testBit i
    · simp [e]
    · simp [e]
theorem and_word (x : UInt8) (p : Nat) : ∃ z : Int, bits BinOp.and IntKind.u8 (x.toNat : Int) ((2 ^ (p % 8) : Nat) : Int) = z ∧ (x.toNat.testBit (p % 8) = true → z ≠ 0) ∧ (x.toNat.testBit (p % 8) = false → z = 0) := by
  refine ⟨_, u8_and_nat _ _ x.toNat_lt (Nat.pow_lt_pow_right (n := 8) (by decide) (Nat.mod_lt _ (by decide))), fun h => ?_, fun h => ?_⟩
  · rw [and_pow, h]
    have : 0 < 2 ^ (p % 8) := Nat.two_pow_pos _
    simp only [Bool.toNat_true, Nat.one_mul]
    omega
  · rw [and_pow, h]
    simp
end Go.Proofs.YtmkaehnfgdlhdaaGreatDoor
