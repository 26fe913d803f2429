/-
  CONTRACT: a row's eight bytes, by the program.
-/
import Derived.Test.YtcnceipkoapcpaaDoorKeyAdd
namespace Go.Proofs.YtcnceipkoapcpaaDoor
open Go.RowKit

theorem be_succ (u : Nat) : ∀ (n k : Nat), k < n → (be n u).take (k + 1) = (be n u).take k ++ [UInt8.ofNat (u / 256 ^ (n - 1 - k) % 256)]
  | 0, k, h => by omega
  | n + 1, 0, _ => by simp [be]
  | n + 1, k + 1, h => by
    have := be_succ u n k (by omega)
    simp only [be, List.take_succ_cons, List.cons_append]
    rw [this]
    have e : n - 1 - k = n + 1 - 1 - (k + 1) := by omega
    rw [e]
theorem xor_top (a : Nat) (h : a < 18446744073709551616) : a ^^^ 9223372036854775808 = if a < 9223372036854775808 then a + 9223372036854775808 else a - 9223372036854775808 := by
  have h1 : (a ^^^ 2 ^ 63) % 2 ^ 63 = a % 2 ^ 63 := by rw [Nat.xor_mod_two_pow]; simp
  have h2 : (a ^^^ 2 ^ 63) / 2 ^ 63 = (a / 2 ^ 63) ^^^ 1 := by rw [Nat.xor_div_two_pow]
  have h3 := Nat.div_add_mod (a ^^^ 2 ^ 63) (2 ^ 63)
  have h4 := Nat.div_add_mod a (2 ^ 63)
  have e : (2 : Nat) ^ 63 = 9223372036854775808 := by decide
  rw [h1, h2] at h3
  rw [e] at h3 h4
  split
  · have h5 : a / 9223372036854775808 = 0 := by omega
    rw [h5] at h3 h4
    have : (0 ^^^ 1 : Nat) = 1 := rfl
    rw [this] at h3; omega
  · have h5 : a / 9223372036854775808 = 1 := by omega
    rw [h5] at h3 h4
    have : (1 ^^^ 1 : Nat) = 0 := rfl
    rw [this] at h3; omega
theorem row_bits (r : Int) (h : InI r) : bits BinOp.xor IntKind.u64 (IntKind.u64.wrap r) 9223372036854775808 = (((r + 9223372036854775808).toNat : Nat) : Int) := by
  unfold InI at h
  have e : IntKind.u64.wrap r = (((r % 18446744073709551616).toNat : Nat) : Int) := by rw [IntKind.wrap_u64]; omega
  have e2 : (9223372036854775808 : Int) = ((9223372036854775808 : Nat) : Int) := rfl
  rw [e, e2, u64_xor_nat _ _ (by omega) (by decide), xor_top _ (by omega)]
  split <;> omega
end Go.Proofs.YtcnceipkoapcpaaDoor
