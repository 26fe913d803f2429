/-
  SEVERAL TEXTS IN ONE: CodPlain, NumPlain, ShortPlain, CodSum, CodAdd, CodPut, TextPlain, KeyShelf.
-/
import Derived.WalkKit
import Derived.PlainAid
import Derived.OpenShut
import Derived.Laws.BitsAllLaws
import Derived.Test.YtgkdodcidancpaaGreatDoorChecked
import Derived.Test.YtgkdodcidancpaaGreatDoorOwn
import Derived.Test.YtgkdodcidancpaaGreatDoorDskShelf
namespace Go.Proofs.YtgkdodcidancpaaGreatDoor
open Go.RowKit

/-- An int without a sign. -/
def zigZ (n : Int) : Int := if n < 0 then -2 * n - 1 else 2 * n
/-- The other way round. -/
def zagZ (u : Int) : Int := if u % 2 = 1 then -(u / 2) - 1 else u / 2

theorem zigZ_bd (n : Int) (h1 : -9223372036854775808 ≤ n) (h2 : n ≤ 9223372036854775807) : 0 ≤ zigZ n ∧ zigZ n ≤ 18446744073709551615 := by
  unfold zigZ; split <;> omega
theorem zagZ_bd (u : Int) (h1 : 0 ≤ u) (h2 : u ≤ 18446744073709551615) : -9223372036854775808 ≤ zagZ u ∧ zagZ u ≤ 9223372036854775807 := by
  unfold zagZ; split <;> omega
theorem zag_zig (n : Int) : zagZ (zigZ n) = n := by unfold zigZ zagZ; split <;> split <;> omega
theorem zig_zag (u : Int) (h1 : 0 ≤ u) : zigZ (zagZ u) = u := by unfold zigZ zagZ; split <;> split <;> omega

theorem xor_ones (a : Nat) (ha : a < 18446744073709551616) : a ^^^ 18446744073709551615 = 18446744073709551615 - a := by
  have h : (BitVec.ofNat 64 a ^^^ BitVec.allOnes 64).toNat = (~~~ BitVec.ofNat 64 a).toNat := by rw [BitVec.xor_allOnes]
  rw [BitVec.toNat_xor, BitVec.toNat_not, BitVec.toNat_allOnes, BitVec.toNat_ofNat, Nat.mod_eq_of_lt (by omega)] at h
  exact h

/-- What Zig's text reckons is zigZ. -/
theorem zig_text (n : Int) (h1 : -9223372036854775808 ≤ n) (h2 : n ≤ 9223372036854775807) :
    bits BinOp.xor IntKind.u64 (IntKind.u64.wrap (IntKind.u64.wrap n * 2)) (IntKind.u64.wrap (n / 9223372036854775808)) = zigZ n := by
  unfold zigZ
  by_cases h : n < 0
  · rw [if_pos h, PlainAid.shr63_neg h h1, IntKind.wrap_u64, IntKind.wrap_u64, IntKind.wrap_u64, u64_xor _ _ (by omega) (by omega) (by omega) (by omega)]
    have e1 : (n % 18446744073709551616 * 2 % 18446744073709551616).toNat = (2 * n + 18446744073709551616).toNat := by omega
    have e2 : ((-1 : Int) % 18446744073709551616).toNat = 18446744073709551615 := by decide
    rw [e1, e2, xor_ones _ (by omega)]
    omega
  · rw [if_neg h, PlainAid.shr63_nonneg (by omega) h2, IntKind.wrap_u64, IntKind.wrap_u64, IntKind.wrap_u64, u64_xor _ _ (by omega) (by omega) (by omega) (by omega)]
    have e2 : ((0 : Int) % 18446744073709551616).toNat = 0 := by decide
    rw [e2, Nat.xor_zero]
    omega

/-! ### The sum. -/
def tabZ : List Int := [0, 498536548, 997073096, 651767980, 1994146192, 1802195444, 1303535960, 1342533948, 3988292384, 4027552580, 3604390888, 3412177804, 2607071920, 2262029012, 2685067896, 3183342108]
/-- Four steps of the sum at once. -/
def fourZ (s : Int) : Int := bits BinOp.xor IntKind.u32 (s / 16) (tabZ.getD (s % 16).toNat 0)
/-- The sum goes on by one byte. -/
def byteZ (s x : Int) : Int := fourZ (fourZ (bits BinOp.xor IntKind.u32 s x))
def sumOnZ (s : Int) (l : List UInt8) : Int := l.foldl (fun s b => byteZ s (b.toNat : Int)) s

theorem bits_u32 (op : BinOp) (x y : Int) : 0 ≤ bits op IntKind.u32 x y ∧ bits op IntKind.u32 x y ≤ 4294967295 := by
  exact bounds_u32 (wf_bits op .u32 x y)
theorem fourZ_bd (s : Int) : 0 ≤ fourZ s ∧ fourZ s ≤ 4294967295 := bits_u32 _ _ _
theorem byteZ_bd (s x : Int) : 0 ≤ byteZ s x ∧ byteZ s x ≤ 4294967295 := fourZ_bd _
theorem sumOnZ_bd (s : Int) (l : List UInt8) (h : 0 ≤ s ∧ s ≤ 4294967295) : 0 ≤ sumOnZ s l ∧ sumOnZ s l ≤ 4294967295 := by
  unfold sumOnZ
  induction l generalizing s with
  | nil => exact h
  | cons x l ih => exact ih _ (byteZ_bd s _)
theorem sumOnZ_take (s : Int) (l : List UInt8) (k : Nat) (h : k < l.length) : sumOnZ s (l.take (k + 1)) = byteZ (sumOnZ s (l.take k)) ((l.getD k 0).toNat : Int) := by
  unfold sumOnZ
  rw [List.take_succ_eq_append_getElem h, List.foldl_append]
  simp [List.getD, h]
/-- The bytes' sum. -/
def sumZ (l : List UInt8) : Int := 4294967295 - sumOnZ 4294967295 l
theorem not_u32 (a : Int) (h0 : 0 ≤ a) (h1 : a ≤ 4294967295) : bits BinOp.xor IntKind.u32 IntKind.u32.max a = 4294967295 - a := by
  show bits BinOp.xor IntKind.u32 4294967295 a = 4294967295 - a
  rw [u32_xor _ _ (by omega) (by omega) (by omega) (by omega)]
  have h : (BitVec.allOnes 32 ^^^ BitVec.ofNat 32 a.toNat).toNat = (~~~ BitVec.ofNat 32 a.toNat).toNat := by rw [BitVec.allOnes_xor]
  rw [BitVec.toNat_xor, BitVec.toNat_not, BitVec.toNat_allOnes, BitVec.toNat_ofNat, Nat.mod_eq_of_lt (by omega)] at h
  have e : (4294967295 : Int).toNat = 2 ^ 32 - 1 := by decide
  rw [e, h]
  omega
theorem sumOnZ_append (s : Int) (a b : List UInt8) : sumOnZ s (a ++ b) = sumOnZ (sumOnZ s a) b := List.foldl_append
theorem sumZ_bd (l : List UInt8) : 0 ≤ sumZ l ∧ sumZ l ≤ 4294967295 := by
  have := sumOnZ_bd 4294967295 l ⟨by decide, by decide⟩
  unfold sumZ; omega

/-! ### Numbers in bytes. -/
/-- A number to base 128, the least digit first, at most k + 1 digits. -/
def numF : Nat → Nat → List UInt8
  | 0, u => [UInt8.ofNat u]
  | k + 1, u => if u < 128 then [UInt8.ofNat u] else UInt8.ofNat (u % 128 + 128) :: numF k (u / 128)
def numL (u : Nat) : List UInt8 := numF 9 u
theorem numF_small (k u : Nat) (h : u < 128) : numF k u = [UInt8.ofNat u] := by
  cases k with
  | zero => rfl
  | succ k => rw [numF, if_pos h]
theorem numF_great (k u : Nat) (h : 128 ≤ u) : numF (k + 1) u = UInt8.ofNat (u % 128 + 128) :: numF k (u / 128) := by
  rw [numF, if_neg (by omega)]
theorem numF_length (k u : Nat) : 1 ≤ (numF k u).length ∧ (numF k u).length ≤ k + 1 := by
  induction k generalizing u with
  | zero => exact ⟨Nat.le_refl _, Nat.le_refl _⟩
  | succ k ih =>
    unfold numF
    split
    · exact ⟨by simp, by simp⟩
    · have := ih (u / 128)
      simp only [List.length_cons]
      omega
theorem numL_length (u : Nat) : 1 ≤ (numL u).length ∧ (numL u).length ≤ 10 := numF_length 9 u
/-- Of u the digits d are written; x is left. -/
structure NumAt (u : Nat) (d : List UInt8) (x : Nat) : Prop where
  ex : ∃ k, numL u = d ++ numF k x ∧ d.length + k = 9 ∧ x < 2 * 128 ^ k
theorem NumAt.start {u : Nat} (h : u < 18446744073709551616) : NumAt u [] u := ⟨9, rfl, rfl, h⟩
theorem NumAt.step {u x : Nat} {d : List UInt8} (h : NumAt u d x) (hx : 128 ≤ x) : NumAt u (d ++ [UInt8.ofNat (x % 128 + 128)]) (x / 128) := by
  obtain ⟨k, h1, h2, h3⟩ := h.ex
  cases k with
  | zero => omega
  | succ k =>
    refine ⟨k, ?_, ?_, ?_⟩
    · rw [h1, numF_great k x hx]; simp
    · simp; omega
    · rw [Nat.div_lt_iff_lt_mul (by omega)]
      rw [Nat.pow_succ] at h3
      omega
theorem NumAt.done {u x : Nat} {d : List UInt8} (h : NumAt u d x) (hx : x < 128) : numL u = d ++ [UInt8.ofNat x] := by
  obtain ⟨k, h1, _, _⟩ := h.ex
  rw [h1, numF_small k x hx]
theorem NumAt.len {u x : Nat} {d : List UInt8} (h : NumAt u d x) : d.length ≤ 9 := by
  obtain ⟨k, _, h2, _⟩ := h.ex
  omega
theorem NumAt.bd {u x : Nat} {d : List UInt8} (h : NumAt u d x) : (x : Int) ≤ 18446744073709551615 := by
  obtain ⟨k, _, h2, h3⟩ := h.ex
  have h4 : 128 ^ k ≤ 128 ^ 9 := Nat.pow_le_pow_right (by omega) (by omega)
  have h5 : 2 * 128 ^ 9 = 18446744073709551616 := by decide
  omega
theorem byte_val (x : Nat) (h : x < 256) : ((UInt8.ofNat x).toNat : Int) = (x : Int) := by
  simp; omega

/-! ### Words of four bytes. -/
def fourL (x : Nat) : List UInt8 := [UInt8.ofNat (x / 16777216), UInt8.ofNat (x / 65536), UInt8.ofNat (x / 256), UInt8.ofNat x]
/-- The first k bytes of a word, laid from a place on. -/
def layL (l : List UInt8) (off : Nat) (x k : Nat) : List UInt8 := l.take off ++ (fourL x).take k ++ l.drop (off + k)
theorem layL_zero (l : List UInt8) (off x : Nat) : layL l off x 0 = l := by simp [layL]
theorem layL_length (l : List UInt8) (off x k : Nat) (hk : k ≤ 4) (h : off + k ≤ l.length) : (layL l off x k).length = l.length := by
  simp [layL, fourL]; omega
theorem layL_step (l : List UInt8) (off x k : Nat) (hk : k < 4) (h : off + k < l.length) : (layL l off x k).set (off + k) ((fourL x).getD k 0) = layL l off x (k + 1) := by
  unfold layL
  have hf : k < (fourL x).length := by simp [fourL]; omega
  have h1 : (List.take off l).length = off := by simp; omega
  have h2 : (List.take k (fourL x)).length = k := by simp [fourL]; omega
  rw [List.append_assoc, List.set_append_right _ _ (by omega), h1, Nat.add_sub_cancel_left, List.set_append_right _ _ (by omega), h2, Nat.sub_self, List.take_succ_eq_append_getElem hf, List.append_assoc, List.append_assoc,
    List.drop_eq_getElem_cons h, List.set_cons_zero]
  simp [List.getD, hf, Nat.add_assoc]
/-- A frame: the count, the sum of the count and the content, the content. -/
def frameL (l : List UInt8) : List UInt8 := fourL l.length ++ (fourL (sumZ (fourL l.length ++ l)).toNat ++ l)
theorem fourL_length (x : Nat) : (fourL x).length = 4 := rfl
theorem frameL_length (l : List UInt8) : (frameL l).length = l.length + 8 := by simp [frameL, fourL]
end Go.Proofs.YtgkdodcidancpaaGreatDoor
namespace Go.Proofs.YtgkdodcidancpaaGreatDoor
open Go.RowKit

/-! ### The number that bytes begin with. -/
/-- i digits, which come to acc, are read; l is left. -/
def getN : Nat → Nat → List UInt8 → Option (Nat × List UInt8)
  | _, _, [] => none
  | i, acc, b :: r =>
    if (i = 9 ∧ 1 < b.toNat) ∨ (0 < i ∧ b.toNat = 0) then none
    else if b.toNat < 128 then some (acc + b.toNat % 128 * 2 ^ (7 * i), r)
    else getN (i + 1) (acc + b.toNat % 128 * 2 ^ (7 * i)) r

theorem digit_bd (i acc x : Nat) (h : acc < 2 ^ (7 * i)) : acc + x % 128 * 2 ^ (7 * i) < 2 ^ (7 * (i + 1)) := by
  have e : 2 ^ (7 * (i + 1)) = 128 * 2 ^ (7 * i) := by rw [show 7 * (i + 1) = 7 + 7 * i by omega, Nat.pow_add]
  have h1 : x % 128 * 2 ^ (7 * i) ≤ 127 * 2 ^ (7 * i) := Nat.mul_le_mul_right _ (by omega)
  rw [e]
  omega
/-- What a round of number's text reckons. -/
theorem or_text (i acc x : Nat) (h : acc < 2 ^ (7 * i)) (hi : i ≤ 9) (h9 : i = 9 → x ≤ 1) :
    bits BinOp.or IntKind.u64 (acc : Int) (IntKind.u64.wrap ((x : Int) % 128 * 2 ^ (7 * i))) = ((acc + x % 128 * 2 ^ (7 * i) : Nat) : Int) := by
  have hp : 2 ^ (7 * i) ≤ 2 ^ 63 := Nat.pow_le_pow_right (by omega) (by omega)
  have hy : x % 128 * 2 ^ (7 * i) < 18446744073709551616 := by
    rcases Nat.lt_or_ge i 9 with h1 | h1
    · have h2 : 2 ^ (7 * i) ≤ 2 ^ 56 := Nat.pow_le_pow_right (by omega) (by omega)
      have h3 : x % 128 * 2 ^ (7 * i) ≤ 127 * 2 ^ 56 := Nat.mul_le_mul (by omega) h2
      omega
    · have hx := h9 (by omega)
      have h3 : x % 128 * 2 ^ (7 * i) ≤ 1 * 2 ^ 63 := Nat.mul_le_mul (by omega) hp
      omega
  have e : (x : Int) % 128 * 2 ^ (7 * i) = ((x % 128 * 2 ^ (7 * i) : Nat) : Int) := by simp
  rw [e, IntWalk.u64_in _ ⟨by omega, by omega⟩, u64_or_nat _ _ (by omega) hy]
  have h4 := Nat.two_pow_add_eq_or_of_lt h (x % 128)
  rw [Nat.or_comm, Nat.mul_comm, ← h4, Nat.mul_comm, Nat.add_comm]
end Go.Proofs.YtgkdodcidancpaaGreatDoor
namespace Go.Proofs.YtgkdodcidancpaaGreatDoor
open Go.RowKit

theorem ofNat_toNat8 (x : Nat) (h : x < 256) : (UInt8.ofNat x).toNat = x := by simp; omega
theorem pow7 (i : Nat) : 2 ^ (7 * (i + 1)) = 128 * 2 ^ (7 * i) := by rw [show 7 * (i + 1) = 7 + 7 * i by omega, Nat.pow_add]
theorem digits (x p : Nat) : x % 128 * p + x / 128 * (128 * p) = x * p := by
  have h := Nat.div_add_mod x 128
  calc x % 128 * p + x / 128 * (128 * p) = (128 * (x / 128) + x % 128) * p := by rw [Nat.add_mul, Nat.mul_assoc, Nat.mul_left_comm, Nat.add_comm]
    _ = x * p := by rw [h]

theorem getN_back (k : Nat) : ∀ (i acc x : Nat) (rest : List UInt8), i + k = 9 → x < 2 * 128 ^ k → (0 < i → 0 < x) → getN i acc (numF k x ++ rest) = some (acc + x * 2 ^ (7 * i), rest) := by
  induction k with
  | zero =>
    intro i acc x rest hi hx hp
    have hx' : x < 2 := by simpa using hx
    have e : (UInt8.ofNat x).toNat = x := ofNat_toNat8 x (by omega)
    rw [numF, List.singleton_append, getN, e, if_neg (by omega), if_pos (by omega), Nat.mod_eq_of_lt (by omega)]
  | succ k ih =>
    intro i acc x rest hi hx hp
    by_cases h : x < 128
    · rw [numF_small _ _ h, List.singleton_append, getN, ofNat_toNat8 x (by omega), if_neg (by omega), if_pos h, Nat.mod_eq_of_lt h]
    · have hb : (UInt8.ofNat (x % 128 + 128)).toNat = x % 128 + 128 := ofNat_toNat8 _ (by omega)
      rw [numF_great _ _ (by omega), List.cons_append, getN, hb, if_neg (by omega), if_neg (by omega), ih (i + 1) _ (x / 128) rest (by omega) ?_ (by omega)]
      · rw [show (x % 128 + 128) % 128 = x % 128 by omega, pow7, Nat.add_assoc, digits]
      · rw [Nat.div_lt_iff_lt_mul (by omega)]
        rw [Nat.pow_succ] at hx
        omega
theorem getN_early (k : Nat) : ∀ (i acc x : Nat), i + k = 9 → x < 2 * 128 ^ k → getN i acc (numF k x).dropLast = none := by
  induction k with
  | zero => intro i acc x _ _; rfl
  | succ k ih =>
    intro i acc x hi hx
    by_cases h : x < 128
    · rw [numF_small _ _ h]; rfl
    · have hb : (UInt8.ofNat (x % 128 + 128)).toNat = x % 128 + 128 := ofNat_toNat8 _ (by omega)
      have hne : numF k (x / 128) ≠ [] := fun e => by have := (numF_length k (x / 128)).1; rw [e] at this; simp at this
      rw [numF_great _ _ (by omega), List.dropLast_cons_of_ne_nil hne, getN, hb, if_neg (by omega), if_neg (by omega)]
      refine ih (i + 1) _ (x / 128) (by omega) ?_
      rw [Nat.div_lt_iff_lt_mul (by omega)]
      rw [Nat.pow_succ] at hx
      omega
theorem getN_longer (k : Nat) : ∀ (i acc x : Nat) (y : UInt8), i + k = 9 → x < 2 * 128 ^ k → 128 ≤ y.toNat → getN i acc ((numF k x).dropLast ++ [y, 0]) = none := by
  induction k with
  | zero =>
    intro i acc x y hi _ hy
    show getN i acc [y, 0] = none
    rw [getN, if_pos (.inl ⟨by omega, by omega⟩)]
  | succ k ih =>
    intro i acc x y hi hx hy
    by_cases h : x < 128
    · rw [numF_small _ _ h]
      show getN i acc [y, 0] = none
      have h0 : (0 : UInt8).toNat = 0 := rfl
      rw [getN, if_neg (by omega), if_neg (by omega), getN, h0, if_pos (.inr ⟨by omega, rfl⟩)]
    · have hb : (UInt8.ofNat (x % 128 + 128)).toNat = x % 128 + 128 := ofNat_toNat8 _ (by omega)
      have hne : numF k (x / 128) ≠ [] := fun e => by have := (numF_length k (x / 128)).1; rw [e] at this; simp at this
      rw [numF_great _ _ (by omega), List.dropLast_cons_of_ne_nil hne, List.cons_append, getN, hb, if_neg (by omega), if_neg (by omega)]
      refine ih (i + 1) _ (x / 128) y (by omega) ?_ hy
      rw [Nat.div_lt_iff_lt_mul (by omega)]
      rw [Nat.pow_succ] at hx
      omega

theorem get_back (u : Nat) (h : u < 18446744073709551616) (rest : List UInt8) : getN 0 0 (numL u ++ rest) = some (u, rest) := by
  have := getN_back 9 0 0 u rest rfl h (by omega)
  unfold numL
  simpa using this
theorem get_early (u : Nat) (h : u < 18446744073709551616) : getN 0 0 ((numL u).take ((numL u).length - 1)) = none := by
  rw [← List.dropLast_eq_take]; exact getN_early 9 0 0 u rfl h
theorem get_longer (u : Nat) (h : u < 18446744073709551616) (y : UInt8) (hy : 128 ≤ y.toNat) : getN 0 0 ((numL u).set ((numL u).length - 1) y ++ [0]) = none := by
  have hl := numL_length u
  have e : (numL u).set ((numL u).length - 1) y ++ [0] = (numL u).dropLast ++ [y, 0] := by
    rw [List.set_eq_take_append_cons_drop, if_pos (by omega), List.dropLast_eq_take, List.drop_eq_nil_of_le (by omega)]
    simp
  rw [e]; exact getN_longer 9 0 0 u y rfl h hy
theorem or128 (x : Nat) (h : x < 128) : bits BinOp.or IntKind.u8 (x : Int) 128 = (x : Int) + 128 := by
  have h1 := u8_or_nat x 128 (by omega) (by omega)
  have h2 := Nat.two_pow_add_eq_or_of_lt (i := 7) (b := x) h 1
  rw [show ((128 : Nat) : Int) = 128 from rfl] at h1
  rw [h1, Nat.or_comm]
  have e : 128 ||| x = 128 + x := h2.symm
  rw [e]
  omega
end Go.Proofs.YtgkdodcidancpaaGreatDoor
namespace Go.Proofs.YtgkdodcidancpaaGreatDoor
open Go.RowKit


/-- The table lies where it lies. -/
def Tab (w : World) : Prop := ∀ j, j < 16 → w.cell? ⟨0, j, none⟩ = some (.int .u32 (tabZ.getD j 0))
set_option maxHeartbeats 400000 in
theorem sumOn_any (s : Int) (ao : Option Addr) (l : List UInt8) (cap : Nat) (w : World) (hs : 0 ≤ s ∧ s ≤ 4294967295) (hl : l.length ≤ maxLen) (ht : Tab w) (hc : Sees w ao l) :
    Calls Tryz.prog 114 #[.int .u32 s, .slice ao l.length cap] w fun e w' => e = .returned (.int .u32 (sumOnZ s l)) ∧ w' = w := by
  unfold maxLen at hl
  go_enter Tryz.func114, Tryz.ntmps114
  go_wp2
  go_loop [0, 9] (fun t i => ∃ k : Nat, k ≤ l.length ∧ i = .int .i64 k ∧ t = .int .u32 (sumOnZ s (l.take k))) (fun _ i => l.length - (intOf i).toNat)
  case atStart => exact ⟨0, Nat.zero_le _, rfl, rfl⟩
  case round =>
    obtain ⟨k, hk, rfl, rfl⟩ := hrel
    have hbd := sumOnZ_bd s (l.take k) hs
    by_cases hlt : k < l.length
    · have hst : Hid (sumOnZ s (l.take (k + 1)) = byteZ (sumOnZ s (l.take k)) ((l.getD k 0).toNat : Int)) := sumOnZ_take s l k hlt
      obtain ⟨a, rfl, hca⟩ := hc k hlt
      have hx : 0 ≤ ((l.getD k 0).toNat : Int) ∧ ((l.getD k 0).toNat : Int) ≤ 255 := by have := (l.getD k 0).toNat_lt; omega
      clear hc
      generalize hS : sumOnZ s (l.take k) = S at *
      generalize ((l.getD k 0).toNat : Int) = x at *
      clear hS
      obtain ⟨A, hA⟩ : ∃ A, bits BinOp.xor IntKind.u32 S x = A := ⟨_, rfl⟩
      have hA0 : 0 ≤ A ∧ A ≤ 4294967295 := hA ▸ bits_u32 _ _ _
      have c1 : w.cell? ⟨0, (A % 16).toNat, none⟩ = some (.int .u32 (tabZ.getD (A % 16).toNat 0)) := ht _ (by omega)
      have hB1 : Hid (fourZ A = bits BinOp.xor IntKind.u32 (A / 16) (tabZ.getD (A % 16).toNat 0)) := rfl
      generalize tabZ.getD (A % 16).toNat 0 = T1 at *
      obtain ⟨B, hB⟩ : ∃ B, bits BinOp.xor IntKind.u32 (A / 16) T1 = B := ⟨_, rfl⟩
      have hB0 : 0 ≤ B ∧ B ≤ 4294967295 := hB ▸ bits_u32 _ _ _
      have c2 : w.cell? ⟨0, (B % 16).toNat, none⟩ = some (.int .u32 (tabZ.getD (B % 16).toNat 0)) := ht _ (by omega)
      have hC1 : Hid (fourZ B = bits BinOp.xor IntKind.u32 (B / 16) (tabZ.getD (B % 16).toNat 0)) := rfl
      generalize tabZ.getD (B % 16).toNat 0 = T2 at *
      have hend : Hid (sumOnZ s (l.take (k + 1)) = bits BinOp.xor IntKind.u32 (B / 16) T2) := by
        refine hst.out.trans ?_
        unfold byteZ
        rw [hA, hB1.out, hB, hC1.out]
      clear hst hB1 hC1 ht
      go_wp2
      go_round
      case rel => exact ⟨k + 1, by omega, by go_num, by rw [hend.out]⟩
      case measure => simp [intOf]; omega
    · go_wp2
      go_ret
      exact ⟨ret_int (by rw [List.take_of_length_le (by omega)]), rfl⟩

theorem sumOn_len (s : Int) (ao : Option Addr) (l : List UInt8) (n cap : Nat) (w : World) (hs : 0 ≤ s ∧ s ≤ 4294967295) (hn : l.length = n) (hl : n ≤ maxLen) (ht : Tab w) (hc : Sees w ao l) :
    Calls Tryz.prog 114 #[.int .u32 s, .slice ao n cap] w fun e w' => e = .returned (.int .u32 (sumOnZ s l)) ∧ w' = w := by
  subst hn
  exact sumOn_any s ao l cap w hs hl ht hc

end Go.Proofs.YtgkdodcidancpaaGreatDoor
namespace Go.Proofs.YtgkdodcidancpaaGreatDoor
open Go.RowKit

theorem info8 : (Tryz.prog.info? 5).map (fun i => (i.zero, i.size, i.bytes)) = some (some (.int .u8 0), 1, 1) := by kernel_rfl

/-- One byte, laid in a block of its own, as a source. -/
theorem src_one (w : World) (z : Int) (b : UInt8) (h : (b.toNat : Int) = z) :
    Src Tryz.prog 1 58 (.slice (some ⟨w.heap.size, 0, none⟩) 1 1) 1 (B8 [b]) (w.alloc (.cells #[.int .u8 z] 5)) := by
  refine Src.ofSlice _ Tryz.underlying58 _ 1 1 _ (by simp [B8_length]) ?_ (B8_one _)
  intro j u hu
  match j, hu with
  | 0, hu => simp [B8] at hu; subst hu; simp [Addr.add, h]
  | j + 1, hu => simp [B8] at hu

set_option maxRecDepth 100000 in
set_option maxHeartbeats 400000 in
theorem addNumber_any (base : Nat) (v : Value) (n : Nat) (xs : List UInt8) (u : Nat) (w : World) (hown : w.ownsRow base 5 1 v n (B8 xs)) (hu : u < 18446744073709551616) (hn : n ≤ 140737488355000) (hb : base ≤ w.heap.size) :
    Calls Tryz.prog 89 #[v, .int .u64 u] w fun e w' => ∃ v', e = .returned v' ∧ w'.ownsRow base 5 1 v' (n + (numL u).length) (B8 (xs ++ numL u)) ∧ Grew w w' v v' := by
  obtain ⟨i0, hi, hz0, hz1, hz2⟩ := info_parts info8
  have Hu : Hid (NumAt u [] u) := NumAt.start hu
  clear hu
  go_enter Tryz.func89, Tryz.ntmps89
  go_wp2
  go_loopw [0, 1] (fun s0 s1 wr => ∃ (x : Nat) (d : List UInt8), s1 = .int .u64 x ∧ NumAt u d x ∧ wr.ownsRow base 5 1 s0 (n + d.length) (B8 (xs ++ d)) ∧ Grew w wr v s0 ∧ base ≤ wr.heap.size) (fun _ s1 _ => (intOf s1).toNat)
  case atStart => exact ⟨u, [], rfl, Hu.out, by simpa using hown, Grew.refl _ _, hb⟩
  case round =>
    obtain ⟨x, d, rfl, hd, ho, hg, hbr⟩ := hrel
    have hbd := hd.bd
    have hdl := hd.len
    by_cases hx : x < 128
    · have hbv := byte_val x (by omega)
      have Hfin : Hid (numL u = d ++ [UInt8.ofNat x]) := hd.done hx
      go_wp2_with (at_builtin; go_must (refine wpList_append_grew _ rfl _ _ 58 58 rfl base 5 i0 (.int .u8 0) 1 1 Tryz.underlying58 hi hz0 hz1 hz2 rfl _ _ _ rfl (ho.alloc _) _ 1 (B8 [UInt8.ofNat x]) rfl (src_one _ _ _ hbv) (by unfold maxLen; omega) (by omega) (by rw [World.size_alloc]; omega) ?_; intro v' w' ho' hg'))
      go_ret
      refine ⟨v', rfl, ?_, hg.trans hg'.alloc⟩
      rw [Hfin.out, ← List.append_assoc, B8_append _ [_], List.length_append, List.length_singleton, ← Nat.add_assoc]
      exact ho'
    · have hbv := byte_val (x % 128 + 128) (by omega)
      have hst := hd.step (by omega)
      go_wp2_with (at_builtin; go_must (refine wpList_append_grew _ rfl _ _ 58 58 rfl base 5 i0 (.int .u8 0) 1 1 Tryz.underlying58 hi hz0 hz1 hz2 rfl _ _ _ rfl (ho.alloc _) _ 1 (B8 [UInt8.ofNat (x % 128 + 128)]) rfl (src_one _ _ _ hbv) (by unfold maxLen; omega) (by omega) (by rw [World.size_alloc]; omega) ?_; intro v' w' ho' hg'))
      go_roundw
      case rel =>
        refine ⟨x / 128, _, by go_num, hst, ?_, hg.trans hg'.alloc, Nat.le_trans hbr (Nat.le_trans (by rw [World.size_alloc]; omega) hg'.rows.size)⟩
        rw [← List.append_assoc, B8_append _ [_], List.length_append, List.length_singleton, ← Nat.add_assoc]
        exact ho'
      case measure => simp [intOf]; omega

set_option maxRecDepth 100000 in
set_option maxHeartbeats 400000 in
theorem copyWithRoom_any (ao : Option Addr) (l : List UInt8) (cap room : Nat) (w : World) (hs : Sees w ao l) (hnone : ao = none → l.length = 0) (hl : l.length + room ≤ 140737488355000) :
    Calls Tryz.prog 90 #[.slice ao l.length cap, .int .i64 room] w fun e w' => ∃ v', e = .returned v' ∧ w'.ownsRow w.heap.size 5 1 v' l.length (B8 l) ∧ Below w.heap.size w w' := by
  obtain ⟨i0, hi, hz0, hz1, hz2⟩ := info_parts info8
  go_enter Tryz.func90, Tryz.ntmps90
  go_wp2_with (first
    | (at_make; go_must (refine wpList_make_own _ rfl _ _ 58 rfl w.heap.size 5 i0 (.int .u8 0) 1 Tryz.underlying58 hi hz0 hz1 .i64 .i64 _ (l.length + room) rfl rfl (by omega) (by rw [hz2]; omega) (by unfold maxLen; omega) (Nat.le_refl _) ?_; intro w1 ho1 hg1))
    | (at_builtin; go_must (refine wpList_append_grew _ rfl _ _ 58 58 rfl w.heap.size 5 i0 (.int .u8 0) 1 1 Tryz.underlying58 hi hz0 hz1 hz2 rfl _ _ _ rfl ho1 _ l.length (B8 l) rfl (src_sees Tryz.underlying58 (hs.below ((Below.refl _ _).grown hg1 (Nat.le_refl _) (fun k hk => by cases hk)) (Nat.le_refl _)) hnone cap) (by unfold maxLen; omega) (by omega) hg1.size ?_; intro v' w' ho' hg')))
  go_ret
  refine ⟨v', rfl, by simpa using ho', ?_⟩
  exact ((Below.refl _ _).grown hg1 (Nat.le_refl _) (fun k hk => by cases hk)).trans (hg'.below hg1.size (fun g hg => (ho1.lt g hg).1))
end Go.Proofs.YtgkdodcidancpaaGreatDoor
namespace Go.Proofs.YtgkdodcidancpaaGreatDoor
open Go.RowKit

/-- A text in bytes: its length, then it. -/
def txtL (s : List UInt8) : List UInt8 := numL s.length ++ s

set_option maxRecDepth 100000 in
set_option maxHeartbeats 400000 in
theorem put_any (ao : Option Addr) (l : List UInt8) (cap u : Nat) (w : World) (hs : Sees w ao l) (hnone : ao = none → l.length = 0) (hl : l.length ≤ 140737488354000) (hu : u < 18446744073709551616) :
    Calls Tryz.prog 49 #[.slice ao l.length cap, .int .u64 u] w fun e w' => ∃ v', e = .returned v' ∧ w'.ownsRow w.heap.size 5 1 v' (l.length + (numL u).length) (B8 (l ++ numL u)) ∧ Below w.heap.size w w' := by
  have Hu : Hid (u < 18446744073709551616) := hu
  clear hu
  go_enter Tryz.func49, Tryz.ntmps49
  go_wp2_with (first
    | (go_at_call 90; go_must (refine (copyWithRoom_any ao l cap 10 _ hs hnone (by omega)).mono ?_; rintro e w1 ⟨v1, rfl, ho1, hb1⟩))
    | (go_at_call 89; go_must (refine (addNumber_any w.heap.size v1 l.length l u _ ho1 Hu.out (by omega) hb1.size).mono ?_; rintro e w2 ⟨v2, rfl, ho2, hg2⟩)))
  go_ret
  exact ⟨v2, rfl, ho2, hb1.trans (hg2.below hb1.size (fun g hg => (ho1.lt g hg).1))⟩
theorem conv_sees {w : World} {ao : Option Addr} {l : List UInt8} (h : Sees w ao l) (hn : ao = none → l.length = 0) (cap : Nat) :
    (convert 58 9 (.slice ao l.length cap)).run Tryz.prog w = .ok (.string ⟨l.toArray⟩) w := by
  cases ao with
  | none =>
    obtain rfl : l = [] := List.eq_nil_of_length_eq_zero (hn rfl)
    rw [run_convert_bytes_string w 58 9 5 none _ cap Tryz.underlying58 Tryz.underlying5 Tryz.underlying9]
    rfl
  | some a =>
    refine run_convert_bytes_back w 58 9 5 a cap l Tryz.underlying58 Tryz.underlying5 Tryz.underlying9 fun j hj => ?_
    obtain ⟨a', e, hc⟩ := h j hj
    obtain rfl := Option.some.inj e
    rw [hc]; simp [List.getD, hj]

end Go.Proofs.YtgkdodcidancpaaGreatDoor
namespace Go.Proofs.YtgkdodcidancpaaGreatDoor
open Go.RowKit

theorem getN_bd : ∀ (l : List UInt8) (i acc v : Nat) (r : List UInt8), i ≤ 9 → acc < 2 ^ (7 * i) → getN i acc l = some (v, r) → v < 18446744073709551616 ∧ r.length < l.length := by
  intro l
  induction l with
  | nil => intro i acc v r _ _ h; simp [getN] at h
  | cons b l ih =>
    intro i acc v r hi hacc h
    rw [getN] at h
    split at h
    · cases h
    · rename_i hno
      have hd := digit_bd i acc b.toNat hacc
      split at h
      · simp only [Option.some.injEq, Prod.mk.injEq] at h
        obtain ⟨rfl, rfl⟩ := h
        refine ⟨?_, by simp⟩
        rcases Nat.lt_or_ge i 9 with h1 | h1
        · have h2 : 2 ^ (7 * (i + 1)) ≤ 2 ^ 63 := Nat.pow_le_pow_right (by omega) (by omega)
          omega
        · obtain rfl : i = 9 := by omega
          have h3 : b.toNat % 128 * 2 ^ (7 * 9) ≤ 1 * 2 ^ 63 := Nat.mul_le_mul (by omega) (by decide)
          have h4 : acc < 2 ^ 63 := hacc
          omega
      · have hi' : i + 1 ≤ 9 := by omega
        have := ih (i + 1) _ v r hi' hd h
        simp only [List.length_cons]
        omega
theorem get_bd {l : List UInt8} {v : Nat} {r : List UInt8} (h : getN 0 0 l = some (v, r)) : v < 18446744073709551616 ∧ r.length < l.length := getN_bd l 0 0 v r (by omega) (by simp) h

/-- The text that bytes begin with, and what is left. -/
def textN (l : List UInt8) : Option (List UInt8 × List UInt8) := match getN 0 0 l with | none => none | some (v, r) => if v ≤ r.length then some (r.take v, r.drop v) else none
theorem textN_some {l s r' : List UInt8} (h : textN l = some (s, r')) : ∃ v r, getN 0 0 l = some (v, r) ∧ v ≤ r.length ∧ r.take v = s ∧ r.drop v = r' := by
  unfold textN at h
  split at h
  · cases h
  · rename_i v r hg
    split at h
    · rename_i hv
      simp only [Option.some.injEq, Prod.mk.injEq] at h
      exact ⟨v, r, hg, hv, h.1, h.2⟩
    · cases h
theorem textN_none {l : List UInt8} (h : textN l = none) : getN 0 0 l = none ∨ ∃ v r, getN 0 0 l = some (v, r) ∧ r.length < v := by
  unfold textN at h
  split at h
  · rename_i hg; exact .inl hg
  · rename_i v r hg
    split at h
    · cases h
    · exact .inr ⟨v, r, hg, by omega⟩
theorem textN_back (s rest : List UInt8) (h : s.length < 18446744073709551616) : textN (numL s.length ++ (s ++ rest)) = some (s, rest) := by
  unfold textN
  rw [get_back s.length h]
  simp
theorem getN_suffix : ∀ (l : List UInt8) (i acc v : Nat) (r : List UInt8), getN i acc l = some (v, r) → ∃ d, l = d ++ r := by
  intro l
  induction l with
  | nil => intro i acc v r h; simp [getN] at h
  | cons b l ih =>
    intro i acc v r h
    rw [getN] at h
    split at h
    · cases h
    · split at h
      · simp only [Option.some.injEq, Prod.mk.injEq] at h
        exact ⟨[b], by rw [h.2]; rfl⟩
      · obtain ⟨d, hd⟩ := ih _ _ _ _ h
        exact ⟨b :: d, by rw [hd]; rfl⟩
theorem getN_drop {l : List UInt8} {v : Nat} {r : List UInt8} (h : getN 0 0 l = some (v, r)) : l.drop (l.length - r.length) = r := by
  obtain ⟨d, rfl⟩ := getN_suffix l 0 0 v r h
  simp
end Go.Proofs.YtgkdodcidancpaaGreatDoor
