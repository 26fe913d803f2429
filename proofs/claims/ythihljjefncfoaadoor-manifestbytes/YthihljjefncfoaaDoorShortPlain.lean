/-
  PLAIN: a number's bytes lead back to it; cut short, or made longer, they are none.
-/
import Derived.Test.YthihljjefncfoaaDoorNumPlain
namespace Go.Proofs.YthihljjefncfoaaDoor
open Go.RowKit

theorem ofNat_toNat8 (x : Nat) (h : x < 256) : (UInt8.ofNat x).toNat = x := by simp; omega
theorem pow7 (i : Nat) : 2 ^ (7 * (i + 1)) = 128 * 2 ^ (7 * i) := by rw [show 7 * (i + 1) = 7 + 7 * i by omega, Nat.pow_add]
theorem digits (x p : Nat) : x % 128 * p + x / 128 * (128 * p) = x * p := by
  have h := Nat.div_add_mod x 128
  calc x % 128 * p + x / 128 * (128 * p) = (128 * (x / 128) + x % 128) * p := by rw [Nat.add_mul, Nat.mul_assoc, Nat.mul_left_comm, Nat.add_comm]
    _ = x * p := by rw [h]

theorem getN_back (k : Nat) : ∀ (i acc x : Nat) (rest : List UInt8), i + k = 9 → x < 2 * 128 ^ k → (0 < i → 0 < x) → getN i acc (numF k x ++ rest) = some (acc + x * 2 ^ (7 * i), rest) := by
  induction k with
  | zero =>
    intro i acc x rest hi hx hp
    have hx' : x < 2 := by simpa using hx
    have e : (UInt8.ofNat x).toNat = x := ofNat_toNat8 x (by omega)
    rw [numF, List.singleton_append, getN, e, if_neg (by omega), if_pos (by omega), Nat.mod_eq_of_lt (by omega)]
  | succ k ih =>
    intro i acc x rest hi hx hp
    by_cases h : x < 128
    · rw [numF_small _ _ h, List.singleton_append, getN, ofNat_toNat8 x (by omega), if_neg (by omega), if_pos h, Nat.mod_eq_of_lt h]
    · have hb : (UInt8.ofNat (x % 128 + 128)).toNat = x % 128 + 128 := ofNat_toNat8 _ (by omega)
      rw [numF_great _ _ (by omega), List.cons_append, getN, hb, if_neg (by omega), if_neg (by omega), ih (i + 1) _ (x / 128) rest (by omega) ?_ (by omega)]
      · rw [show (x % 128 + 128) % 128 = x % 128 by omega, pow7, Nat.add_assoc, digits]
      · rw [Nat.div_lt_iff_lt_mul (by omega)]
        rw [Nat.pow_succ] at hx
        omega
theorem getN_early (k : Nat) : ∀ (i acc x : Nat), i + k = 9 → x < 2 * 128 ^ k → getN i acc (numF k x).dropLast = none := by
  induction k with
  | zero => intro i acc x _ _; rfl
  | succ k ih =>
    intro i acc x hi hx
    by_cases h : x < 128
    · rw [numF_small _ _ h]; rfl
    · have hb : (UInt8.ofNat (x % 128 + 128)).toNat = x % 128 + 128 := ofNat_toNat8 _ (by omega)
      have hne : numF k (x / 128) ≠ [] := fun e => by have := (numF_length k (x / 128)).1; rw [e] at this; simp at this
      rw [numF_great _ _ (by omega), List.dropLast_cons_of_ne_nil hne, getN, hb, if_neg (by omega), if_neg (by omega)]
      refine ih (i + 1) _ (x / 128) (by omega) ?_
      rw [Nat.div_lt_iff_lt_mul (by omega)]
      rw [Nat.pow_succ] at hx
      omega
theorem getN_longer (k : Nat) : ∀ (i acc x : Nat) (y : UInt8), i + k = 9 → x < 2 * 128 ^ k → 128 ≤ y.toNat → getN i acc ((numF k x).dropLast ++ [y, 0]) = none := by
  induction k with
  | zero =>
    intro i acc x y hi _ hy
    show getN i acc [y, 0] = none
    rw [getN, if_pos (.inl ⟨by omega, by omega⟩)]
  | succ k ih =>
    intro i acc x y hi hx hy
    by_cases h : x < 128
    · rw [numF_small _ _ h]
      show getN i acc [y, 0] = none
      have h0 : (0 : UInt8).toNat = 0 := rfl
      rw [getN, if_neg (by omega), if_neg (by omega), getN, h0, if_pos (.inr ⟨by omega, rfl⟩)]
    · have hb : (UInt8.ofNat (x % 128 + 128)).toNat = x % 128 + 128 := ofNat_toNat8 _ (by omega)
      have hne : numF k (x / 128) ≠ [] := fun e => by have := (numF_length k (x / 128)).1; rw [e] at this; simp at this
      rw [numF_great _ _ (by omega), List.dropLast_cons_of_ne_nil hne, List.cons_append, getN, hb, if_neg (by omega), if_neg (by omega)]
      refine ih (i + 1) _ (x / 128) y (by omega) ?_ hy
      rw [Nat.div_lt_iff_lt_mul (by omega)]
      rw [Nat.pow_succ] at hx
      omega

theorem get_back (u : Nat) (h : u < 18446744073709551616) (rest : List UInt8) : getN 0 0 (numL u ++ rest) = some (u, rest) := by
  have := getN_back 9 0 0 u rest rfl h (by omega)
  unfold numL
  simpa using this
theorem get_early (u : Nat) (h : u < 18446744073709551616) : getN 0 0 ((numL u).take ((numL u).length - 1)) = none := by
  rw [← List.dropLast_eq_take]; exact getN_early 9 0 0 u rfl h
theorem get_longer (u : Nat) (h : u < 18446744073709551616) (y : UInt8) (hy : 128 ≤ y.toNat) : getN 0 0 ((numL u).set ((numL u).length - 1) y ++ [0]) = none := by
  have hl := numL_length u
  have e : (numL u).set ((numL u).length - 1) y ++ [0] = (numL u).dropLast ++ [y, 0] := by
    rw [List.set_eq_take_append_cons_drop, if_pos (by omega), List.dropLast_eq_take, List.drop_eq_nil_of_le (by omega)]
    simp
  rw [e]; exact getN_longer 9 0 0 u y rfl h hy
theorem or128 (x : Nat) (h : x < 128) : bits BinOp.or IntKind.u8 (x : Int) 128 = (x : Int) + 128 := by
  have h1 := u8_or_nat x 128 (by omega) (by omega)
  have h2 := Nat.two_pow_add_eq_or_of_lt (i := 7) (b := x) h 1
  rw [show ((128 : Nat) : Int) = 128 from rfl] at h1
  rw [h1, Nat.or_comm]
  have e : 128 ||| x = 128 + x := h2.symm
  rw [e]
  omega
end Go.Proofs.YthihljjefncfoaaDoor
