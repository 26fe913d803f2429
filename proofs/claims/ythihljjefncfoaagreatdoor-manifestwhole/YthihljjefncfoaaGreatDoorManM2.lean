/-
  SEVERAL TEXTS IN ONE: CodPlain, CodSum, CodAdd, CodPut, NumPlain, ShortPlain, TextPlain, CodFrame, CodLives, CodRead, CodNum, CodGet, CodGot, RefNum, RefGet, RefLend, CrcPlain, RefSum, CodText, CodUnframe, TellsPlain, BlmCanon, ManPlain.
-/
import Derived.WalkKit
import Derived.PlainAid
import Derived.OpenShut
import Derived.Laws.BitsAllLaws
import Derived.Test.YthihljjefncfoaaGreatDoorChecked
import Derived.Test.YthihljjefncfoaaGreatDoorOwn
import Derived.Laws.CopyOwn
import Derived.Deep.RegionWith
import Derived.Lib.SlBytesConst
import Derived.WalkLawsBesides
import Derived.WalkSmall
import Derived.Deep.QuietTactic
import Derived.BigQuiet
import Derived.Defers
import Derived.Recover
import Derived.Laws.Pointers
import Derived.WideLaws
namespace Go.Proofs.YthihljjefncfoaaGreatDoor
open Go.RowKit

/-- An int without a sign. -/
def zigZ (n : Int) : Int := if n < 0 then -2 * n - 1 else 2 * n
/-- The other way round. -/
def zagZ (u : Int) : Int := if u % 2 = 1 then -(u / 2) - 1 else u / 2

theorem zigZ_bd (n : Int) (h1 : -9223372036854775808 ≤ n) (h2 : n ≤ 9223372036854775807) : 0 ≤ zigZ n ∧ zigZ n ≤ 18446744073709551615 := by
  unfold zigZ; split <;> omega
theorem zagZ_bd (u : Int) (h1 : 0 ≤ u) (h2 : u ≤ 18446744073709551615) : -9223372036854775808 ≤ zagZ u ∧ zagZ u ≤ 9223372036854775807 := by
  unfold zagZ; split <;> omega
theorem zag_zig (n : Int) : zagZ (zigZ n) = n := by unfold zigZ zagZ; split <;> split <;> omega
theorem zig_zag (u : Int) (h1 : 0 ≤ u) : zigZ (zagZ u) = u := by unfold zigZ zagZ; split <;> split <;> omega

theorem xor_ones (a : Nat) (ha : a < 18446744073709551616) : a ^^^ 18446744073709551615 = 18446744073709551615 - a := by
  have h : (BitVec.ofNat 64 a ^^^ BitVec.allOnes 64).toNat = (~~~ BitVec.ofNat 64 a).toNat := by rw [BitVec.xor_allOnes]
  rw [BitVec.toNat_xor, BitVec.toNat_not, BitVec.toNat_allOnes, BitVec.toNat_ofNat, Nat.mod_eq_of_lt (by omega)] at h
  exact h

/-- What Zig's text reckons is zigZ. -/
theorem zig_text (n : Int) (h1 : -9223372036854775808 ≤ n) (h2 : n ≤ 9223372036854775807) :
    bits BinOp.xor IntKind.u64 (IntKind.u64.wrap (IntKind.u64.wrap n * 2)) (IntKind.u64.wrap (n / 9223372036854775808)) = zigZ n := by
  unfold zigZ
  by_cases h : n < 0
  · rw [if_pos h, PlainAid.shr63_neg h h1, IntKind.wrap_u64, IntKind.wrap_u64, IntKind.wrap_u64, u64_xor _ _ (by omega) (by omega) (by omega) (by omega)]
    have e1 : (n % 18446744073709551616 * 2 % 18446744073709551616).toNat = (2 * n + 18446744073709551616).toNat := by omega
    have e2 : ((-1 : Int) % 18446744073709551616).toNat = 18446744073709551615 := by decide
    rw [e1, e2, xor_ones _ (by omega)]
    omega
  · rw [if_neg h, PlainAid.shr63_nonneg (by omega) h2, IntKind.wrap_u64, IntKind.wrap_u64, IntKind.wrap_u64, u64_xor _ _ (by omega) (by omega) (by omega) (by omega)]
    have e2 : ((0 : Int) % 18446744073709551616).toNat = 0 := by decide
    rw [e2, Nat.xor_zero]
    omega

/-! ### The sum. -/
def tabZ : List Int := [0, 498536548, 997073096, 651767980, 1994146192, 1802195444, 1303535960, 1342533948, 3988292384, 4027552580, 3604390888, 3412177804, 2607071920, 2262029012, 2685067896, 3183342108]
/-- Four steps of the sum at once. -/
def fourZ (s : Int) : Int := bits BinOp.xor IntKind.u32 (s / 16) (tabZ.getD (s % 16).toNat 0)
/-- The sum goes on by one byte. -/
def byteZ (s x : Int) : Int := fourZ (fourZ (bits BinOp.xor IntKind.u32 s x))
def sumOnZ (s : Int) (l : List UInt8) : Int := l.foldl (fun s b => byteZ s (b.toNat : Int)) s

theorem bits_u32 (op : BinOp) (x y : Int) : 0 ≤ bits op IntKind.u32 x y ∧ bits op IntKind.u32 x y ≤ 4294967295 := by
  exact bounds_u32 (wf_bits op .u32 x y)
theorem fourZ_bd (s : Int) : 0 ≤ fourZ s ∧ fourZ s ≤ 4294967295 := bits_u32 _ _ _
theorem byteZ_bd (s x : Int) : 0 ≤ byteZ s x ∧ byteZ s x ≤ 4294967295 := fourZ_bd _
theorem sumOnZ_bd (s : Int) (l : List UInt8) (h : 0 ≤ s ∧ s ≤ 4294967295) : 0 ≤ sumOnZ s l ∧ sumOnZ s l ≤ 4294967295 := by
  unfold sumOnZ
  induction l generalizing s with
  | nil => exact h
  | cons x l ih => exact ih _ (byteZ_bd s _)
theorem sumOnZ_take (s : Int) (l : List UInt8) (k : Nat) (h : k < l.length) : sumOnZ s (l.take (k + 1)) = byteZ (sumOnZ s (l.take k)) ((l.getD k 0).toNat : Int) := by
  unfold sumOnZ
  rw [List.take_succ_eq_append_getElem h, List.foldl_append]
  simp [List.getD, h]
/-- The bytes' sum. -/
def sumZ (l : List UInt8) : Int := 4294967295 - sumOnZ 4294967295 l
theorem not_u32 (a : Int) (h0 : 0 ≤ a) (h1 : a ≤ 4294967295) : bits BinOp.xor IntKind.u32 IntKind.u32.max a = 4294967295 - a := by
  show bits BinOp.xor IntKind.u32 4294967295 a = 4294967295 - a
  rw [u32_xor _ _ (by omega) (by omega) (by omega) (by omega)]
  have h : (BitVec.allOnes 32 ^^^ BitVec.ofNat 32 a.toNat).toNat = (~~~ BitVec.ofNat 32 a.toNat).toNat := by rw [BitVec.allOnes_xor]
  rw [BitVec.toNat_xor, BitVec.toNat_not, BitVec.toNat_allOnes, BitVec.toNat_ofNat, Nat.mod_eq_of_lt (by omega)] at h
  have e : (4294967295 : Int).toNat = 2 ^ 32 - 1 := by decide
  rw [e, h]
  omega
theorem sumOnZ_append (s : Int) (a b : List UInt8) : sumOnZ s (a ++ b) = sumOnZ (sumOnZ s a) b := List.foldl_append
theorem sumZ_bd (l : List UInt8) : 0 ≤ sumZ l ∧ sumZ l ≤ 4294967295 := by
  have := sumOnZ_bd 4294967295 l ⟨by decide, by decide⟩
  unfold sumZ; omega

/-! ### Numbers in bytes. -/
/-- A number to base 128, the least digit first, at most k + 1 digits. -/
def numF : Nat → Nat → List UInt8
  | 0, u => [UInt8.ofNat u]
  | k + 1, u => if u < 128 then [UInt8.ofNat u] else UInt8.ofNat (u % 128 + 128) :: numF k (u / 128)
def numL (u : Nat) : List UInt8 := numF 9 u
theorem numF_small (k u : Nat) (h : u < 128) : numF k u = [UInt8.ofNat u] := by
  cases k with
  | zero => rfl
  | succ k => rw [numF, if_pos h]
theorem numF_great (k u : Nat) (h : 128 ≤ u) : numF (k + 1) u = UInt8.ofNat (u % 128 + 128) :: numF k (u / 128) := by
  rw [numF, if_neg (by omega)]
theorem numF_length (k u : Nat) : 1 ≤ (numF k u).length ∧ (numF k u).length ≤ k + 1 := by
  induction k generalizing u with
  | zero => exact ⟨Nat.le_refl _, Nat.le_refl _⟩
  | succ k ih =>
    unfold numF
    split
    · exact ⟨by simp, by simp⟩
    · have := ih (u / 128)
      simp only [List.length_cons]
      omega
theorem numL_length (u : Nat) : 1 ≤ (numL u).length ∧ (numL u).length ≤ 10 := numF_length 9 u
/-- Of u the digits d are written; x is left. -/
structure NumAt (u : Nat) (d : List UInt8) (x : Nat) : Prop where
  ex : ∃ k, numL u = d ++ numF k x ∧ d.length + k = 9 ∧ x < 2 * 128 ^ k
theorem NumAt.start {u : Nat} (h : u < 18446744073709551616) : NumAt u [] u := ⟨9, rfl, rfl, h⟩
theorem NumAt.step {u x : Nat} {d : List UInt8} (h : NumAt u d x) (hx : 128 ≤ x) : NumAt u (d ++ [UInt8.ofNat (x % 128 + 128)]) (x / 128) := by
  obtain ⟨k, h1, h2, h3⟩ := h.ex
  cases k with
  | zero => omega
  | succ k =>
    refine ⟨k, ?_, ?_, ?_⟩
    · rw [h1, numF_great k x hx]; simp
    · simp; omega
    · rw [Nat.div_lt_iff_lt_mul (by omega)]
      rw [Nat.pow_succ] at h3
      omega
theorem NumAt.done {u x : Nat} {d : List UInt8} (h : NumAt u d x) (hx : x < 128) : numL u = d ++ [UInt8.ofNat x] := by
  obtain ⟨k, h1, _, _⟩ := h.ex
  rw [h1, numF_small k x hx]
theorem NumAt.len {u x : Nat} {d : List UInt8} (h : NumAt u d x) : d.length ≤ 9 := by
  obtain ⟨k, _, h2, _⟩ := h.ex
  omega
theorem NumAt.bd {u x : Nat} {d : List UInt8} (h : NumAt u d x) : (x : Int) ≤ 18446744073709551615 := by
  obtain ⟨k, _, h2, h3⟩ := h.ex
  have h4 : 128 ^ k ≤ 128 ^ 9 := Nat.pow_le_pow_right (by omega) (by omega)
  have h5 : 2 * 128 ^ 9 = 18446744073709551616 := by decide
  omega
theorem byte_val (x : Nat) (h : x < 256) : ((UInt8.ofNat x).toNat : Int) = (x : Int) := by
  simp; omega

/-! ### Words of four bytes. -/
def fourL (x : Nat) : List UInt8 := [UInt8.ofNat (x / 16777216), UInt8.ofNat (x / 65536), UInt8.ofNat (x / 256), UInt8.ofNat x]
/-- The first k bytes of a word, laid from a place on. -/
def layL (l : List UInt8) (off : Nat) (x k : Nat) : List UInt8 := l.take off ++ (fourL x).take k ++ l.drop (off + k)
theorem layL_zero (l : List UInt8) (off x : Nat) : layL l off x 0 = l := by simp [layL]
theorem layL_length (l : List UInt8) (off x k : Nat) (hk : k ≤ 4) (h : off + k ≤ l.length) : (layL l off x k).length = l.length := by
  simp [layL, fourL]; omega
theorem layL_step (l : List UInt8) (off x k : Nat) (hk : k < 4) (h : off + k < l.length) : (layL l off x k).set (off + k) ((fourL x).getD k 0) = layL l off x (k + 1) := by
  unfold layL
  have hf : k < (fourL x).length := by simp [fourL]; omega
  have h1 : (List.take off l).length = off := by simp; omega
  have h2 : (List.take k (fourL x)).length = k := by simp [fourL]; omega
  rw [List.append_assoc, List.set_append_right _ _ (by omega), h1, Nat.add_sub_cancel_left, List.set_append_right _ _ (by omega), h2, Nat.sub_self, List.take_succ_eq_append_getElem hf, List.append_assoc, List.append_assoc,
    List.drop_eq_getElem_cons h, List.set_cons_zero]
  simp [List.getD, hf, Nat.add_assoc]
/-- A frame: the count, the sum of the count and the content, the content. -/
def frameL (l : List UInt8) : List UInt8 := fourL l.length ++ (fourL (sumZ (fourL l.length ++ l)).toNat ++ l)
theorem fourL_length (x : Nat) : (fourL x).length = 4 := rfl
theorem frameL_length (l : List UInt8) : (frameL l).length = l.length + 8 := by simp [frameL, fourL]
end Go.Proofs.YthihljjefncfoaaGreatDoor
namespace Go.Proofs.YthihljjefncfoaaGreatDoor
open Go.RowKit

/-! ### The number that bytes begin with. -/
/-- i digits, which come to acc, are read; l is left. -/
def getN : Nat → Nat → List UInt8 → Option (Nat × List UInt8)
  | _, _, [] => none
  | i, acc, b :: r =>
    if (i = 9 ∧ 1 < b.toNat) ∨ (0 < i ∧ b.toNat = 0) then none
    else if b.toNat < 128 then some (acc + b.toNat % 128 * 2 ^ (7 * i), r)
    else getN (i + 1) (acc + b.toNat % 128 * 2 ^ (7 * i)) r

theorem digit_bd (i acc x : Nat) (h : acc < 2 ^ (7 * i)) : acc + x % 128 * 2 ^ (7 * i) < 2 ^ (7 * (i + 1)) := by
  have e : 2 ^ (7 * (i + 1)) = 128 * 2 ^ (7 * i) := by rw [show 7 * (i + 1) = 7 + 7 * i by omega, Nat.pow_add]
  have h1 : x % 128 * 2 ^ (7 * i) ≤ 127 * 2 ^ (7 * i) := Nat.mul_le_mul_right _ (by omega)
  rw [e]
  omega
/-- What a round of number's text reckons. -/
theorem or_text (i acc x : Nat) (h : acc < 2 ^ (7 * i)) (hi : i ≤ 9) (h9 : i = 9 → x ≤ 1) :
    bits BinOp.or IntKind.u64 (acc : Int) (IntKind.u64.wrap ((x : Int) % 128 * 2 ^ (7 * i))) = ((acc + x % 128 * 2 ^ (7 * i) : Nat) : Int) := by
  have hp : 2 ^ (7 * i) ≤ 2 ^ 63 := Nat.pow_le_pow_right (by omega) (by omega)
  have hy : x % 128 * 2 ^ (7 * i) < 18446744073709551616 := by
    rcases Nat.lt_or_ge i 9 with h1 | h1
    · have h2 : 2 ^ (7 * i) ≤ 2 ^ 56 := Nat.pow_le_pow_right (by omega) (by omega)
      have h3 : x % 128 * 2 ^ (7 * i) ≤ 127 * 2 ^ 56 := Nat.mul_le_mul (by omega) h2
      omega
    · have hx := h9 (by omega)
      have h3 : x % 128 * 2 ^ (7 * i) ≤ 1 * 2 ^ 63 := Nat.mul_le_mul (by omega) hp
      omega
  have e : (x : Int) % 128 * 2 ^ (7 * i) = ((x % 128 * 2 ^ (7 * i) : Nat) : Int) := by simp
  rw [e, IntWalk.u64_in _ ⟨by omega, by omega⟩, u64_or_nat _ _ (by omega) hy]
  have h4 := Nat.two_pow_add_eq_or_of_lt h (x % 128)
  rw [Nat.or_comm, Nat.mul_comm, ← h4, Nat.mul_comm, Nat.add_comm]
end Go.Proofs.YthihljjefncfoaaGreatDoor
namespace Go.Proofs.YthihljjefncfoaaGreatDoor
open Go.RowKit

theorem ofNat_toNat8 (x : Nat) (h : x < 256) : (UInt8.ofNat x).toNat = x := by simp; omega
theorem pow7 (i : Nat) : 2 ^ (7 * (i + 1)) = 128 * 2 ^ (7 * i) := by rw [show 7 * (i + 1) = 7 + 7 * i by omega, Nat.pow_add]
theorem digits (x p : Nat) : x % 128 * p + x / 128 * (128 * p) = x * p := by
  have h := Nat.div_add_mod x 128
  calc x % 128 * p + x / 128 * (128 * p) = (128 * (x / 128) + x % 128) * p := by rw [Nat.add_mul, Nat.mul_assoc, Nat.mul_left_comm, Nat.add_comm]
    _ = x * p := by rw [h]

theorem getN_back (k : Nat) : ∀ (i acc x : Nat) (rest : List UInt8), i + k = 9 → x < 2 * 128 ^ k → (0 < i → 0 < x) → getN i acc (numF k x ++ rest) = some (acc + x * 2 ^ (7 * i), rest) := by
  induction k with
  | zero =>
    intro i acc x rest hi hx hp
    have hx' : x < 2 := by simpa using hx
    have e : (UInt8.ofNat x).toNat = x := ofNat_toNat8 x (by omega)
    rw [numF, List.singleton_append, getN, e, if_neg (by omega), if_pos (by omega), Nat.mod_eq_of_lt (by omega)]
  | succ k ih =>
    intro i acc x rest hi hx hp
    by_cases h : x < 128
    · rw [numF_small _ _ h, List.singleton_append, getN, ofNat_toNat8 x (by omega), if_neg (by omega), if_pos h, Nat.mod_eq_of_lt h]
    · have hb : (UInt8.ofNat (x % 128 + 128)).toNat = x % 128 + 128 := ofNat_toNat8 _ (by omega)
      rw [numF_great _ _ (by omega), List.cons_append, getN, hb, if_neg (by omega), if_neg (by omega), ih (i + 1) _ (x / 128) rest (by omega) ?_ (by omega)]
      · rw [show (x % 128 + 128) % 128 = x % 128 by omega, pow7, Nat.add_assoc, digits]
      · rw [Nat.div_lt_iff_lt_mul (by omega)]
        rw [Nat.pow_succ] at hx
        omega
theorem getN_early (k : Nat) : ∀ (i acc x : Nat), i + k = 9 → x < 2 * 128 ^ k → getN i acc (numF k x).dropLast = none := by
  induction k with
  | zero => intro i acc x _ _; rfl
  | succ k ih =>
    intro i acc x hi hx
    by_cases h : x < 128
    · rw [numF_small _ _ h]; rfl
    · have hb : (UInt8.ofNat (x % 128 + 128)).toNat = x % 128 + 128 := ofNat_toNat8 _ (by omega)
      have hne : numF k (x / 128) ≠ [] := fun e => by have := (numF_length k (x / 128)).1; rw [e] at this; simp at this
      rw [numF_great _ _ (by omega), List.dropLast_cons_of_ne_nil hne, getN, hb, if_neg (by omega), if_neg (by omega)]
      refine ih (i + 1) _ (x / 128) (by omega) ?_
      rw [Nat.div_lt_iff_lt_mul (by omega)]
      rw [Nat.pow_succ] at hx
      omega
theorem getN_longer (k : Nat) : ∀ (i acc x : Nat) (y : UInt8), i + k = 9 → x < 2 * 128 ^ k → 128 ≤ y.toNat → getN i acc ((numF k x).dropLast ++ [y, 0]) = none := by
  induction k with
  | zero =>
    intro i acc x y hi _ hy
    show getN i acc [y, 0] = none
    rw [getN, if_pos (.inl ⟨by omega, by omega⟩)]
  | succ k ih =>
    intro i acc x y hi hx hy
    by_cases h : x < 128
    · rw [numF_small _ _ h]
      show getN i acc [y, 0] = none
      have h0 : (0 : UInt8).toNat = 0 := rfl
      rw [getN, if_neg (by omega), if_neg (by omega), getN, h0, if_pos (.inr ⟨by omega, rfl⟩)]
    · have hb : (UInt8.ofNat (x % 128 + 128)).toNat = x % 128 + 128 := ofNat_toNat8 _ (by omega)
      have hne : numF k (x / 128) ≠ [] := fun e => by have := (numF_length k (x / 128)).1; rw [e] at this; simp at this
      rw [numF_great _ _ (by omega), List.dropLast_cons_of_ne_nil hne, List.cons_append, getN, hb, if_neg (by omega), if_neg (by omega)]
      refine ih (i + 1) _ (x / 128) y (by omega) ?_ hy
      rw [Nat.div_lt_iff_lt_mul (by omega)]
      rw [Nat.pow_succ] at hx
      omega

theorem get_back (u : Nat) (h : u < 18446744073709551616) (rest : List UInt8) : getN 0 0 (numL u ++ rest) = some (u, rest) := by
  have := getN_back 9 0 0 u rest rfl h (by omega)
  unfold numL
  simpa using this
theorem get_early (u : Nat) (h : u < 18446744073709551616) : getN 0 0 ((numL u).take ((numL u).length - 1)) = none := by
  rw [← List.dropLast_eq_take]; exact getN_early 9 0 0 u rfl h
theorem get_longer (u : Nat) (h : u < 18446744073709551616) (y : UInt8) (hy : 128 ≤ y.toNat) : getN 0 0 ((numL u).set ((numL u).length - 1) y ++ [0]) = none := by
  have hl := numL_length u
  have e : (numL u).set ((numL u).length - 1) y ++ [0] = (numL u).dropLast ++ [y, 0] := by
    rw [List.set_eq_take_append_cons_drop, if_pos (by omega), List.dropLast_eq_take, List.drop_eq_nil_of_le (by omega)]
    simp
  rw [e]; exact getN_longer 9 0 0 u y rfl h hy
theorem or128 (x : Nat) (h : x < 128) : bits BinOp.or IntKind.u8 (x : Int) 128 = (x : Int) + 128 := by
  have h1 := u8_or_nat x 128 (by omega) (by omega)
  have h2 := Nat.two_pow_add_eq_or_of_lt (i := 7) (b := x) h 1
  rw [show ((128 : Nat) : Int) = 128 from rfl] at h1
  rw [h1, Nat.or_comm]
  have e : 128 ||| x = 128 + x := h2.symm
  rw [e]
  omega
end Go.Proofs.YthihljjefncfoaaGreatDoor
namespace Go.Proofs.YthihljjefncfoaaGreatDoor
open Go.RowKit


/-- The table lies where it lies. -/
def Tab (w : World) : Prop := ∀ j, j < 16 → w.cell? ⟨0, j, none⟩ = some (.int .u32 (tabZ.getD j 0))
set_option maxHeartbeats 400000 in
theorem sumOn_any (s : Int) (ao : Option Addr) (l : List UInt8) (cap : Nat) (w : World) (hs : 0 ≤ s ∧ s ≤ 4294967295) (hl : l.length ≤ maxLen) (ht : Tab w) (hc : Sees w ao l) :
    Calls Tryz.prog 124 #[.int .u32 s, .slice ao l.length cap] w fun e w' => e = .returned (.int .u32 (sumOnZ s l)) ∧ w' = w := by
  unfold maxLen at hl
  go_enter Tryz.func124, Tryz.ntmps124
  go_wp2
  go_loop [0, 9] (fun t i => ∃ k : Nat, k ≤ l.length ∧ i = .int .i64 k ∧ t = .int .u32 (sumOnZ s (l.take k))) (fun _ i => l.length - (intOf i).toNat)
  case atStart => exact ⟨0, Nat.zero_le _, rfl, rfl⟩
  case round =>
    obtain ⟨k, hk, rfl, rfl⟩ := hrel
    have hbd := sumOnZ_bd s (l.take k) hs
    by_cases hlt : k < l.length
    · have hst : Hid (sumOnZ s (l.take (k + 1)) = byteZ (sumOnZ s (l.take k)) ((l.getD k 0).toNat : Int)) := sumOnZ_take s l k hlt
      obtain ⟨a, rfl, hca⟩ := hc k hlt
      have hx : 0 ≤ ((l.getD k 0).toNat : Int) ∧ ((l.getD k 0).toNat : Int) ≤ 255 := by have := (l.getD k 0).toNat_lt; omega
      clear hc
      generalize hS : sumOnZ s (l.take k) = S at *
      generalize ((l.getD k 0).toNat : Int) = x at *
      clear hS
      obtain ⟨A, hA⟩ : ∃ A, bits BinOp.xor IntKind.u32 S x = A := ⟨_, rfl⟩
      have hA0 : 0 ≤ A ∧ A ≤ 4294967295 := hA ▸ bits_u32 _ _ _
      have c1 : w.cell? ⟨0, (A % 16).toNat, none⟩ = some (.int .u32 (tabZ.getD (A % 16).toNat 0)) := ht _ (by omega)
      have hB1 : Hid (fourZ A = bits BinOp.xor IntKind.u32 (A / 16) (tabZ.getD (A % 16).toNat 0)) := rfl
      generalize tabZ.getD (A % 16).toNat 0 = T1 at *
      obtain ⟨B, hB⟩ : ∃ B, bits BinOp.xor IntKind.u32 (A / 16) T1 = B := ⟨_, rfl⟩
      have hB0 : 0 ≤ B ∧ B ≤ 4294967295 := hB ▸ bits_u32 _ _ _
      have c2 : w.cell? ⟨0, (B % 16).toNat, none⟩ = some (.int .u32 (tabZ.getD (B % 16).toNat 0)) := ht _ (by omega)
      have hC1 : Hid (fourZ B = bits BinOp.xor IntKind.u32 (B / 16) (tabZ.getD (B % 16).toNat 0)) := rfl
      generalize tabZ.getD (B % 16).toNat 0 = T2 at *
      have hend : Hid (sumOnZ s (l.take (k + 1)) = bits BinOp.xor IntKind.u32 (B / 16) T2) := by
        refine hst.out.trans ?_
        unfold byteZ
        rw [hA, hB1.out, hB, hC1.out]
      clear hst hB1 hC1 ht
      go_wp2
      go_round
      case rel => exact ⟨k + 1, by omega, by go_num, by rw [hend.out]⟩
      case measure => simp [intOf]; omega
    · go_wp2
      go_ret
      exact ⟨ret_int (by rw [List.take_of_length_le (by omega)]), rfl⟩

theorem sumOn_len (s : Int) (ao : Option Addr) (l : List UInt8) (n cap : Nat) (w : World) (hs : 0 ≤ s ∧ s ≤ 4294967295) (hn : l.length = n) (hl : n ≤ maxLen) (ht : Tab w) (hc : Sees w ao l) :
    Calls Tryz.prog 124 #[.int .u32 s, .slice ao n cap] w fun e w' => e = .returned (.int .u32 (sumOnZ s l)) ∧ w' = w := by
  subst hn
  exact sumOn_any s ao l cap w hs hl ht hc

end Go.Proofs.YthihljjefncfoaaGreatDoor
namespace Go.Proofs.YthihljjefncfoaaGreatDoor
open Go.RowKit

theorem info8 : (Tryz.prog.info? 5).map (fun i => (i.zero, i.size, i.bytes)) = some (some (.int .u8 0), 1, 1) := by kernel_rfl

/-- One byte, laid in a block of its own, as a source. -/
theorem src_one (w : World) (z : Int) (b : UInt8) (h : (b.toNat : Int) = z) :
    Src Tryz.prog 1 62 (.slice (some ⟨w.heap.size, 0, none⟩) 1 1) 1 (B8 [b]) (w.alloc (.cells #[.int .u8 z] 5)) := by
  refine Src.ofSlice _ Tryz.underlying62 _ 1 1 _ (by simp [B8_length]) ?_ (B8_one _)
  intro j u hu
  match j, hu with
  | 0, hu => simp [B8] at hu; subst hu; simp [Addr.add, h]
  | j + 1, hu => simp [B8] at hu

set_option maxRecDepth 100000 in
set_option maxHeartbeats 400000 in
theorem addNumber_any (base : Nat) (v : Value) (n : Nat) (xs : List UInt8) (u : Nat) (w : World) (hown : w.ownsRow base 5 1 v n (B8 xs)) (hu : u < 18446744073709551616) (hn : n ≤ 140737488355000) (hb : base ≤ w.heap.size) :
    Calls Tryz.prog 98 #[v, .int .u64 u] w fun e w' => ∃ v', e = .returned v' ∧ w'.ownsRow base 5 1 v' (n + (numL u).length) (B8 (xs ++ numL u)) ∧ Grew w w' v v' := by
  obtain ⟨i0, hi, hz0, hz1, hz2⟩ := info_parts info8
  have Hu : Hid (NumAt u [] u) := NumAt.start hu
  clear hu
  go_enter Tryz.func98, Tryz.ntmps98
  go_wp2
  go_loopw [0, 1] (fun s0 s1 wr => ∃ (x : Nat) (d : List UInt8), s1 = .int .u64 x ∧ NumAt u d x ∧ wr.ownsRow base 5 1 s0 (n + d.length) (B8 (xs ++ d)) ∧ Grew w wr v s0 ∧ base ≤ wr.heap.size) (fun _ s1 _ => (intOf s1).toNat)
  case atStart => exact ⟨u, [], rfl, Hu.out, by simpa using hown, Grew.refl _ _, hb⟩
  case round =>
    obtain ⟨x, d, rfl, hd, ho, hg, hbr⟩ := hrel
    have hbd := hd.bd
    have hdl := hd.len
    by_cases hx : x < 128
    · have hbv := byte_val x (by omega)
      have Hfin : Hid (numL u = d ++ [UInt8.ofNat x]) := hd.done hx
      go_wp2_with (at_builtin; go_must (refine wpList_append_grew _ rfl _ _ 62 62 rfl base 5 i0 (.int .u8 0) 1 1 Tryz.underlying62 hi hz0 hz1 hz2 rfl _ _ _ rfl (ho.alloc _) _ 1 (B8 [UInt8.ofNat x]) rfl (src_one _ _ _ hbv) (by unfold maxLen; omega) (by omega) (by rw [World.size_alloc]; omega) ?_; intro v' w' ho' hg'))
      go_ret
      refine ⟨v', rfl, ?_, hg.trans hg'.alloc⟩
      rw [Hfin.out, ← List.append_assoc, B8_append _ [_], List.length_append, List.length_singleton, ← Nat.add_assoc]
      exact ho'
    · have hbv := byte_val (x % 128 + 128) (by omega)
      have hst := hd.step (by omega)
      go_wp2_with (at_builtin; go_must (refine wpList_append_grew _ rfl _ _ 62 62 rfl base 5 i0 (.int .u8 0) 1 1 Tryz.underlying62 hi hz0 hz1 hz2 rfl _ _ _ rfl (ho.alloc _) _ 1 (B8 [UInt8.ofNat (x % 128 + 128)]) rfl (src_one _ _ _ hbv) (by unfold maxLen; omega) (by omega) (by rw [World.size_alloc]; omega) ?_; intro v' w' ho' hg'))
      go_roundw
      case rel =>
        refine ⟨x / 128, _, by go_num, hst, ?_, hg.trans hg'.alloc, Nat.le_trans hbr (Nat.le_trans (by rw [World.size_alloc]; omega) hg'.rows.size)⟩
        rw [← List.append_assoc, B8_append _ [_], List.length_append, List.length_singleton, ← Nat.add_assoc]
        exact ho'
      case measure => simp [intOf]; omega

set_option maxRecDepth 100000 in
set_option maxHeartbeats 400000 in
theorem copyWithRoom_any (ao : Option Addr) (l : List UInt8) (cap room : Nat) (w : World) (hs : Sees w ao l) (hnone : ao = none → l.length = 0) (hl : l.length + room ≤ 140737488355000) :
    Calls Tryz.prog 99 #[.slice ao l.length cap, .int .i64 room] w fun e w' => ∃ v', e = .returned v' ∧ w'.ownsRow w.heap.size 5 1 v' l.length (B8 l) ∧ Below w.heap.size w w' := by
  obtain ⟨i0, hi, hz0, hz1, hz2⟩ := info_parts info8
  go_enter Tryz.func99, Tryz.ntmps99
  go_wp2_with (first
    | (at_make; go_must (refine wpList_make_own _ rfl _ _ 62 rfl w.heap.size 5 i0 (.int .u8 0) 1 Tryz.underlying62 hi hz0 hz1 .i64 .i64 _ (l.length + room) rfl rfl (by omega) (by rw [hz2]; omega) (by unfold maxLen; omega) (Nat.le_refl _) ?_; intro w1 ho1 hg1))
    | (at_builtin; go_must (refine wpList_append_grew _ rfl _ _ 62 62 rfl w.heap.size 5 i0 (.int .u8 0) 1 1 Tryz.underlying62 hi hz0 hz1 hz2 rfl _ _ _ rfl ho1 _ l.length (B8 l) rfl (src_sees Tryz.underlying62 (hs.below ((Below.refl _ _).grown hg1 (Nat.le_refl _) (fun k hk => by cases hk)) (Nat.le_refl _)) hnone cap) (by unfold maxLen; omega) (by omega) hg1.size ?_; intro v' w' ho' hg')))
  go_ret
  refine ⟨v', rfl, by simpa using ho', ?_⟩
  exact ((Below.refl _ _).grown hg1 (Nat.le_refl _) (fun k hk => by cases hk)).trans (hg'.below hg1.size (fun g hg => (ho1.lt g hg).1))
end Go.Proofs.YthihljjefncfoaaGreatDoor
namespace Go.Proofs.YthihljjefncfoaaGreatDoor
open Go.RowKit

/-- A text in bytes: its length, then it. -/
def txtL (s : List UInt8) : List UInt8 := numL s.length ++ s

set_option maxRecDepth 100000 in
set_option maxHeartbeats 400000 in
theorem put_any (ao : Option Addr) (l : List UInt8) (cap u : Nat) (w : World) (hs : Sees w ao l) (hnone : ao = none → l.length = 0) (hl : l.length ≤ 140737488354000) (hu : u < 18446744073709551616) :
    Calls Tryz.prog 57 #[.slice ao l.length cap, .int .u64 u] w fun e w' => ∃ v', e = .returned v' ∧ w'.ownsRow w.heap.size 5 1 v' (l.length + (numL u).length) (B8 (l ++ numL u)) ∧ Below w.heap.size w w' := by
  have Hu : Hid (u < 18446744073709551616) := hu
  clear hu
  go_enter Tryz.func57, Tryz.ntmps57
  go_wp2_with (first
    | (go_at_call 99; go_must (refine (copyWithRoom_any ao l cap 10 _ hs hnone (by omega)).mono ?_; rintro e w1 ⟨v1, rfl, ho1, hb1⟩))
    | (go_at_call 98; go_must (refine (addNumber_any w.heap.size v1 l.length l u _ ho1 Hu.out (by omega) hb1.size).mono ?_; rintro e w2 ⟨v2, rfl, ho2, hg2⟩)))
  go_ret
  exact ⟨v2, rfl, ho2, hb1.trans (hg2.below hb1.size (fun g hg => (ho1.lt g hg).1))⟩
theorem conv_sees {w : World} {ao : Option Addr} {l : List UInt8} (h : Sees w ao l) (hn : ao = none → l.length = 0) (cap : Nat) :
    (convert 62 9 (.slice ao l.length cap)).run Tryz.prog w = .ok (.string ⟨l.toArray⟩) w := by
  cases ao with
  | none =>
    obtain rfl : l = [] := List.eq_nil_of_length_eq_zero (hn rfl)
    rw [run_convert_bytes_string w 62 9 5 none _ cap Tryz.underlying62 Tryz.underlying5 Tryz.underlying9]
    rfl
  | some a =>
    refine run_convert_bytes_back w 62 9 5 a cap l Tryz.underlying62 Tryz.underlying5 Tryz.underlying9 fun j hj => ?_
    obtain ⟨a', e, hc⟩ := h j hj
    obtain rfl := Option.some.inj e
    rw [hc]; simp [List.getD, hj]

end Go.Proofs.YthihljjefncfoaaGreatDoor
namespace Go.Proofs.YthihljjefncfoaaGreatDoor
open Go.RowKit

set_option maxRecDepth 100000 in
set_option maxHeartbeats 400000 in
theorem setWord_any (g off len cap : Nat) (l : List UInt8) (x : Nat) (w : World) (hx : x < 4294967296) (h4 : 4 ≤ len) (hlen : len ≤ 140737488355000) (hr : Row w g l) (hl : off + 4 ≤ l.length) :
    Calls Tryz.prog 100 #[.slice (some ⟨g, off, none⟩) len cap, .int .u32 x] w fun e w' => e = .returned (.tuple #[]) ∧ Row w' g (layL l off x 4) ∧ w.grownBy w' (some g) ∧ w'.heap.size = w.heap.size := by
  go_enter Tryz.func100, Tryz.ntmps100
  go_wp2
  go_loopw [5] (fun i wr => ∃ k : Nat, k ≤ 4 ∧ i = .int .i64 k ∧ Row wr g (layL l off x k) ∧ w.grownBy wr (some g) ∧ wr.heap.size = w.heap.size) (fun i _ => 4 - (intOf i).toNat)
  case atStart => exact ⟨0, Nat.zero_le _, rfl, by rw [layL_zero]; exact hr, World.grownBy.refl _ _, rfl⟩
  case round =>
    obtain ⟨k, hk, rfl, hrow, hg, hsz⟩ := hrel
    by_cases hlt : k < 4
    · have hcell := hrow.cell (off + k) (by rw [layL_length _ _ _ _ (by omega) (by omega)]; omega)
      have hfr := hrow.frozen (off + k)
      rcases (show k = 0 ∨ k = 1 ∨ k = 2 ∨ k = 3 by omega) with rfl | rfl | rfl | rfl
      all_goals
        try simp only [Nat.add_zero] at hcell hfr
        go_wp2
        go_roundw
        case rel =>
          refine ⟨_ + 1, by omega, rfl, ?_, grownBy_setCell hg, (size_setCell _ _ _).trans hsz⟩
          rw [← layL_step l off x _ (by omega) (by omega)]
          refine hrow.setZ _ _ _ ?_
          simp [fourL]
          try omega
        case measure => simp [intOf]
    · go_wp2
      go_end0
      obtain rfl : k = 4 := by omega
      exact ⟨rfl, hrow, hg, hsz⟩

set_option maxRecDepth 100000 in
set_option maxHeartbeats 400000 in
theorem frameSum_any (b off hn hcap : Nat) (h4 : List UInt8) (co : Option Addr) (l : List UInt8) (cap : Nat) (w : World) (h1 : 4 ≤ hn) (h2 : hn ≤ hcap) (hcm : hcap ≤ 9223372036854775807) (h3 : h4.length = 4) (hs : Sees w (some ⟨b, off, none⟩) h4) (hc : Sees w co l) (hl : l.length ≤ 140737488355000) (ht : Tab w) :
    Calls Tryz.prog 101 #[.slice (some ⟨b, off, none⟩) hn hcap, .slice co l.length cap] w fun e w' => e = .returned (.int .u32 (sumZ (h4 ++ l))) ∧ w' = w := by
  have hb4 := sumOnZ_bd 4294967295 h4 ⟨by decide, by decide⟩
  have hbd := sumOnZ_bd 4294967295 (h4 ++ l) ⟨by decide, by decide⟩
  have hn := not_u32 _ hbd.1 hbd.2
  have he : Hid (sumZ (h4 ++ l) = 4294967295 - sumOnZ 4294967295 (h4 ++ l)) := rfl
  rw [sumOnZ_append] at hn hbd he
  go_enter Tryz.func101, Tryz.ntmps101
  go_wp2_with fail
  refine (sumOn_len 4294967295 (some ⟨b, off, none⟩) h4 4 hcap _ ⟨by decide, by decide⟩ h3 (by decide) ht hs).mono ?_
  rintro e w' ⟨rfl, rfl⟩
  go_wp2_with fail
  refine (sumOn_any _ co l cap _ hb4 (by unfold maxLen; omega) ht hc).mono ?_
  rintro e w' ⟨rfl, rfl⟩
  go_wp2_with fail
  go_ret
  exact ⟨ret_int he.out.symm, rfl⟩

theorem Tab.below {w w' : World} (h : Tab w) {B : Nat} (hb : Below B w w') (hB : w.heap.size ≤ B) : Tab w' := by
  intro j hj
  have h1 := h j hj
  have hlt := World.block_lt_of_cell? _ _ h1
  rw [hb.cell (p := ⟨0, j, none⟩) (by omega), h1]

theorem made8 (m : Nat) : (madeCells (Value.int .u8 0).cells (m * 1)).toList = B8 (List.replicate m 0) := by
  have h : (Value.int .u8 0).cells = #[.int .u8 0] := rfl
  rw [h, Nat.mul_one]
  apply List.ext_getElem
  · simp [madeCells, B8]
  · intro i h1 h2
    simp [madeCells, B8, Nat.mod_one]

theorem frame_bytes (l : List UInt8) (n S : Nat) (hn : n = l.length) : splice (B8 (layL (layL (List.replicate (n + 8) 0) 0 n 4) 4 S 4)) 8 (B8 l) = B8 (fourL n ++ (fourL S ++ l)) := by
  have e : layL (layL (List.replicate (n + 8) 0) 0 n 4) 4 S 4 = fourL n ++ (fourL S ++ List.replicate n 0) := by
    simp [layL, fourL, Nat.add_sub_cancel]
  rw [e]
  have h1 : (B8 (fourL n ++ (fourL S ++ List.replicate n 0))).take 8 = B8 (fourL n ++ fourL S) := by simp [B8, fourL]
  have h2 : (B8 (fourL n ++ (fourL S ++ List.replicate n 0))).drop (8 + l.length) = [] := by
    rw [List.drop_eq_nil_of_le]
    rw [B8_length]
    simp [fourL]
    omega
  unfold splice
  rw [B8_length, h1, h2, ← List.append_assoc (fourL n), B8_append (fourL n ++ fourL S)]
  simp

theorem sees_cells {w : World} {ao : Option Addr} {l : List UInt8} (h : Sees w ao l) (hp : 0 < l.length) : ∃ ad, ao = some ad ∧ ∀ j v, (B8 l)[j]? = some v → w.cell? (ad.add j) = some v := by
  obtain ⟨a, rfl, _⟩ := h 0 hp
  exact ⟨a, rfl, h.cells⟩

/-- Too long for a frame. -/
theorem frame_long (ao : Option Addr) (n cap : Nat) (w : World) (h : 262144 < n) (hn : n ≤ 140737488355328) :
    Calls Tryz.prog 58 #[.slice ao n cap] w fun e w' => e = .returned (.slice none 0 0) ∧ w' = w := by
  go_enter Tryz.func58, Tryz.ntmps58
  go_wp2
  go_ret
  exact ⟨rfl, rfl⟩

set_option maxRecDepth 100000 in
set_option maxHeartbeats 800000 in
theorem frame_any (ao : Option Addr) (l : List UInt8) (cap : Nat) (w : World) (hl : l.length ≤ 262144) (hs : Sees w ao l) (hnone : ao = none → l.length = 0) (ht : Tab w) :
    Calls Tryz.prog 58 #[.slice ao l.length cap] w fun e w' => e = .returned (.slice (some ⟨w.heap.size, 0, none⟩) (l.length + 8) (l.length + 8)) ∧ Row w' w.heap.size (frameL l) ∧ Below w.heap.size w w' := by
  obtain ⟨i0, hi, hz0, hz1, hz2⟩ := info_parts info8
  have Hnone : Hid (ao = none → l.length = 0) := hnone
  clear hnone
  go_enter Tryz.func58, Tryz.ntmps58
  go_wp2_with (at_make; go_must (refine wpList_make_full _ rfl _ _ 62 rfl w.heap.size 5 i0 (.int .u8 0) 1 Tryz.underlying62 hi hz0 hz1 .i64 .i64 _ _ (l.length + 8) rfl rfl (by omega) (by omega) (by rw [hz2]; omega) (by unfold maxLen; omega) (Nat.le_refl _) ?_; intro w1 ho1 hg1))
  rw [made8] at ho1
  obtain ⟨hr1, hl1, _⟩ := Row.of_owns ho1
  have hb1 : Below w.heap.size w w1 := (Below.refl _ _).grown hg1 (Nat.le_refl _) (fun k hk => by cases hk)
  clear ho1
  refine (setWord_any w.heap.size 0 _ _ _ l.length _ (by omega) (by omega) (by omega) hr1 (by simp)).mono ?_
  rintro e w2 ⟨rfl, hr2, hg2, hsz2⟩
  have hb2 : Below w.heap.size w w2 := hb1.grown hg2 hb1.size (fun k hk => by cases hk; exact Nat.le_refl _)
  have hlen2 : (layL (List.replicate (l.length + 8) 0) 0 l.length 4).length = l.length + 8 := by rw [layL_length _ _ _ _ (by omega) (by simp)]; simp
  have hs4 : Sees w2 (some ⟨w.heap.size, 0, none⟩) (fourL l.length) := by
    have := hr2.sees 0 4 (by omega)
    simpa [layL, fourL] using this
  obtain ⟨S, hS⟩ := Int.eq_ofNat_of_zero_le (sumZ_bd (fourL l.length ++ l)).1
  have hS32 : S < 4294967296 := by have := (sumZ_bd (fourL l.length ++ l)).2; omega
  have HS : Hid (sumZ (fourL l.length ++ l) = (S : Int)) := hS
  clear hS
  have hs2 := hs.below hb2 (Nat.le_refl _)
  have ht2 := ht.below hb2 (Nat.le_refl _)
  go_wp2_with fail
  go_region_with (first
    | (go_at_call 101; go_must (refine (frameSum_any w.heap.size 0 (l.length + 8) (l.length + 8) (fourL l.length) ao l cap _ (by omega) (by omega) (by omega) rfl (by exact hs4) (by exact hs2) (by omega) (by exact ht2)).mono ?_; rintro e w' ⟨rfl, rfl⟩; rw [HS.out]))
    | (go_at_call 100; go_must (refine (setWord_any w.heap.size 4 _ _ (layL (List.replicate (l.length + 8) 0) 0 l.length 4) S _ hS32 (by omega) (by omega) (by exact hr2) (by omega)).mono ?_; rintro e w3 ⟨rfl, hr3, hg3, hsz3⟩)))
  all_goals
    have hb3 : Below w.heap.size w w3 := hb2.drew.grown hg3 hb2.size (fun k hk => by cases hk; exact Nat.le_refl _)
    have hs3 := hs.below hb3 (Nat.le_refl _)
    have hlen3 : (layL (layL (List.replicate (l.length + 8) 0) 0 l.length 4) 4 S 4).length = l.length + 8 := by rw [layL_length _ _ _ _ (by omega) (by omega)]; exact hlen2
    have hfin : Hid (splice (B8 (layL (layL (List.replicate (l.length + 8) 0) 0 l.length 4) 4 S 4)) 8 (B8 l) = B8 (frameL l)) := by
      unfold frameL
      rw [HS.out, Int.toNat_natCast]
      exact frame_bytes l l.length S rfl
    generalize layL (layL (List.replicate (l.length + 8) 0) 0 l.length 4) 4 S 4 = L3 at *
    clear hr1 hr2 hg1 hg2 hb1 hb2 hs2 ht2 hs4 hsz2 hlen2 hg3 hsz3 HS
    by_cases h0 : l.length = 0
    · go_wp2_with ((with_reducible (show wpList _ _ _ (Oper.mk _ (Op.call ⟨Callee.builtin Builtin.copy, _, _⟩) _ _ _ _ :: _) _ _)); go_must (refine wpList_copy_splice rfl _ _ 62 62 rfl 5 Tryz.underlying62 (by rw [hi]; simp [hz1]) _ _ _ _ _ _ rfl rfl w.heap.size 8 (B8 L3) 5 (by exact hr3) (B8 l) (by rw [B8_length, h0]; rfl) (fun h => by rw [B8_length] at h; omega) (by rw [B8_length, B8_length]; omega) (B8_one _) w.heap.size w hb3 (Nat.le_refl _) ?_; intro w4 hr4 hb4))
      go_ret
      refine ⟨by rw [h0]; rfl, ?_, hb4⟩
      unfold Row
      rw [hr4.out, hfin.out]
    · go_wp2_with ((with_reducible (show wpList _ _ _ (Oper.mk _ (Op.call ⟨Callee.builtin Builtin.copy, _, _⟩) _ _ _ _ :: _) _ _)); go_must (refine wpList_copy_splice rfl _ _ 62 62 rfl 5 Tryz.underlying62 (by rw [hi]; simp [hz1]) _ _ _ _ _ _ rfl rfl w.heap.size 8 (B8 L3) 5 (by exact hr3) (B8 l) (by rw [B8_length]; simp) (fun h => ⟨rfl, sees_cells hs3 (by omega)⟩) (by rw [B8_length, B8_length]; omega) (B8_one _) w.heap.size w hb3 (Nat.le_refl _) ?_; intro w4 hr4 hb4))
      go_ret
      refine ⟨rfl, ?_, hb4⟩
      unfold Row
      rw [hr4.out, hfin.out]
end Go.Proofs.YthihljjefncfoaaGreatDoor
namespace Go.Proofs.YthihljjefncfoaaGreatDoor
open Go.RowKit

theorem sees_lit (w : World) (l : List UInt8) (pr : Nat × Nat) : Sees (w.alloc (.cells (B8 l).toArray 5 pr)) (some ⟨w.heap.size, 0, none⟩) l := by
  intro i hi
  refine ⟨_, rfl, ?_⟩
  have h : (w.alloc (.cells (B8 l).toArray 5 pr)).heap[w.heap.size]? = some (.cells (B8 l).toArray 5 pr) := heap_alloc_new w _
  have e := B8_at l i hi
  rw [Addr.add_lit, Nat.zero_add]
  simp only [World.cell?, h]
  simpa using e

end Go.Proofs.YthihljjefncfoaaGreatDoor
namespace Go.Proofs.YthihljjefncfoaaGreatDoor
open Go.RowKit

/-- A reader in block R: its bytes are l (at ao), n of them are read. -/
structure Rd (w : World) (R : Nat) (ao : Option Addr) (l : List UInt8) (cap n : Nat) : Prop where
  c0 : w.cell? ⟨R, 0, none⟩ = some (.slice ao l.length cap)
  c1 : w.cell? ⟨R, 1, none⟩ = some (.int .i64 n)
  f1 : w.frozen? ⟨R, 1, none⟩ = false
  le : n ≤ l.length
  max : l.length ≤ 140737488355000
  sees : Sees w ao l
  ne : l.length ≠ 0 → ∀ a, ao = some a → a.block ≠ R
/-- What a reader panics with lies where it lies. -/
def Err (w : World) (u : TypeId) (pv : Value) : Prop := w.cell? ⟨1, 0, none⟩ = some (.iface u pv)

theorem Rd.drewN {w : World} {R : Nat} {ao : Option Addr} {l : List UInt8} {cap n : Nat} (h : Rd w R ao l cap n) (k : Nat) : Rd (w.drewN k) R ao l cap n := ⟨h.c0, h.c1, h.f1, h.le, h.max, h.sees, h.ne⟩

/-- The reader goes to another place. -/
theorem Rd.set {w : World} {R : Nat} {ao : Option Addr} {l : List UInt8} {cap n : Nat} (h : Rd w R ao l cap n) {m : Nat} (hm : m ≤ l.length) (z : Int) (hz : z = (m : Int)) : Rd (w.setCell ⟨R, 1, none⟩ (.int .i64 z)) R ao l cap m := by
  subst hz
  refine ⟨?_, ?_, ?_, hm, h.max, ?_, h.ne⟩
  · rw [World.cell?_setCell_other _ _ _ _ (by simp)]; exact h.c0
  · exact World.cell?_setCell_same _ _ _ h.c1
  · rw [World.frozen?_setCell]; exact h.f1
  · intro i hi
    obtain ⟨a, e, hc⟩ := h.sees i hi
    refine ⟨a, e, ?_⟩
    rw [World.cell?_setCell_other _ _ _ _ ?_]
    · exact hc
    · intro e'
      have := congrArg Addr.block e'
      rw [Addr.add_block] at this
      exact h.ne (by omega) a e this.symm
theorem grownBy_drewN {w w' : World} {r : Option Nat} (h : w.grownBy w' r) (k : Nat) : w.grownBy (w'.drewN k) r := ⟨h.os, h.tape, h.output, h.size, h.block⟩

set_option maxRecDepth 100000 in
set_option maxHeartbeats 400000 in
theorem octet_end (R : Nat) (ao : Option Addr) (l : List UInt8) (cap n : Nat) (w : World) (u : TypeId) (pv : Value) (h : Rd w R ao l cap n) (hn : n = l.length) (he : Err w u pv) :
    Calls Tryz.prog 155 #[.pointer (some ⟨R, 0, none⟩)] w fun e w' => e = .panicked [{ v := .iface u pv, recovered := false }] ∧ ∃ k, w' = w.drewN k := by
  have c0 := h.c0
  have c1 := h.c1
  have hm := h.max
  have hle := h.le
  have hcmp : ((n : Int) == (l.length : Int)) = true := by simp [hn]
  unfold Err at he
  clear h hn
  go_enter Tryz.func155, Tryz.ntmps155
  go_wp2
  go_quiet (fail)
  go_wp2
  exact ⟨rfl, rfl, nq, rfl⟩

theorem sees_at {w : World} {ao : Option Addr} {l : List UInt8} (h : Sees w ao l) {n : Nat} (hn : n < l.length) : ∃ b off, ao = some ⟨b, off, none⟩ ∧ w.cell? ⟨b, off + n, none⟩ = some (.int .u8 ((l.getD n 0).toNat : Int)) := by
  obtain ⟨a, rfl, hc⟩ := h n hn
  obtain ⟨a', e, hc0⟩ := h 0 (by omega)
  obtain rfl := Option.some.inj e
  obtain ⟨b, off, spot⟩ := a
  have hspot : spot = none := by simpa [Addr.add] using World.cell?_spot hc0
  subst hspot
  exact ⟨b, off, rfl, by rw [Addr.add_lit] at hc; exact hc⟩

set_option maxRecDepth 100000 in
set_option maxHeartbeats 400000 in
theorem octet_ok (R : Nat) (ao : Option Addr) (l : List UInt8) (cap n : Nat) (w : World) (h : Rd w R ao l cap n) (hn : n < l.length) :
    Calls Tryz.prog 155 #[.pointer (some ⟨R, 0, none⟩)] w fun e w' => e = .returned (.int .u8 ((l.getD n 0).toNat : Int)) ∧ Rd w' R ao l cap (n + 1) ∧ w.grownBy w' (some R) := by
  have c0 := h.c0
  have c1 := h.c1
  have f1 := h.f1
  have hm := h.max
  have hle := h.le
  have hcmp : ((n : Int) == (l.length : Int)) = false := by simp; omega
  obtain ⟨b, off, ha, hc⟩ := sees_at h.sees hn
  have hne : b ≠ R := h.ne (by omega) _ ha
  subst ha
  have H := h
  clear h
  go_enter Tryz.func155, Tryz.ntmps155
  go_wp2
  go_quiet (fail)
  go_wp2
  go_quiet (fail)
  go_wp2
  go_ret
  refine ⟨ret_int (by simp [hn]), (Rd.set (H.drewN _) (by omega) _ (by omega)).drewN _, grownBy_drewN (grownBy_setCell (grownBy_drewN (World.grownBy.refl _ _) _)) _⟩
end Go.Proofs.YthihljjefncfoaaGreatDoor
namespace Go.Proofs.YthihljjefncfoaaGreatDoor
open Go.RowKit

theorem grownBy_trans {w w1 w2 : World} {r : Option Nat} (h : w.grownBy w1 r) (k : w1.grownBy w2 r) : w.grownBy w2 r :=
  ⟨k.os.trans h.os, k.tape.trans h.tape, k.output.trans h.output, Nat.le_trans h.size k.size, fun i hi hne => (k.block i (Nat.lt_of_lt_of_le hi h.size) hne).trans (h.block i hi hne)⟩

set_option maxRecDepth 100000 in
set_option maxHeartbeats 400000 in
theorem number_ok (R : Nat) (ao : Option Addr) (l : List UInt8) (cap n : Nat) (w : World) (v : Nat) (r : List UInt8) (h : Rd w R ao l cap n) (hg : getN 0 0 (l.drop n) = some (v, r)) :
    Calls Tryz.prog 129 #[.pointer (some ⟨R, 0, none⟩)] w fun e w' => e = .returned (.int .u64 v) ∧ ∃ m, Rd w' R ao l cap m ∧ l.drop m = r ∧ n < m ∧ w.grownBy w' (some R) := by
  go_enter Tryz.func129, Tryz.ntmps129
  go_wp2
  go_loopw [3, 4] (fun s3 s4 wr => ∃ i acc m : Nat, i ≤ 9 ∧ acc < 2 ^ (7 * i) ∧ s3 = .int .u64 acc ∧ s4 = .int .i64 (7 * (i : Int)) ∧ Rd wr R ao l cap m ∧ getN i acc (l.drop m) = some (v, r) ∧ n ≤ m ∧ w.grownBy wr (some R)) (fun _ s4 _ => 70 - (intOf s4).toNat)
  case atStart => exact ⟨0, 0, n, by omega, by simp, rfl, rfl, h, hg, Nat.le_refl _, World.grownBy.refl _ _⟩
  case round =>
    obtain ⟨i, acc, m, hi, hacc, rfl, rfl, hR, hgm, hnm, hgr⟩ := hrel
    have hm : m < l.length := by
      rcases Nat.lt_or_ge m l.length with h1 | h1
      · exact h1
      · rw [List.drop_eq_nil_of_le h1] at hgm
        simp [getN] at hgm
    rw [List.drop_eq_getElem_cons hm, getN] at hgm
    have hb : l.getD m 0 = l[m] := by simp [List.getD, hm]
    have hoct := octet_ok R ao l cap m wr hR hm
    rw [hb] at hoct
    generalize l[m] = b at *
    have hbl := b.toNat_lt
    generalize b.toNat = x at *
    split at hgm
    · cases hgm
    · rename_i hno
      have Hg : Hid _ := hgm
      have Hacc : Hid _ := hacc
      have Hoct : Hid _ := hoct
      clear hgm hoct hb
      have Hor : Hid _ := or_text i acc x hacc hi (by omega)
      have Hno : Hid _ := hno
      have hcase : ((7 * (i : Int) == 63) = false ∧ ¬ 0 < 7 * (i : Int)) ∨ ((7 * (i : Int) == 63) = false ∧ 0 < 7 * (i : Int) ∧ ((x : Int) == 0) = false) ∨ ((7 * (i : Int) == 63) = true ∧ 0 < 7 * (i : Int) ∧ ¬ 1 < (x : Int) ∧ ((x : Int) == 0) = false) := by
        rcases (show i = 0 ∨ (0 < i ∧ i < 9) ∨ i = 9 by omega) with h1 | h1 | h1
        · exact .inl ⟨by simp; omega, by omega⟩
        · exact .inr (.inl ⟨by simp; omega, by omega, by simp; omega⟩)
        · exact .inr (.inr ⟨by simp; omega, by omega, by omega, by simp; omega⟩)
      clear hno hacc
      by_cases hx : x < 128
      · have Hend : Hid (acc + x % 128 * 2 ^ (7 * i) = v ∧ l.drop (m + 1) = r) := by
          have := Hg.out
          rw [if_pos hx] at this
          show _ ∧ _
          simpa using this
        rcases hcase with ⟨h1, h2⟩ | ⟨h1, h2, h3⟩ | ⟨h1, h2, h3, h4⟩
        all_goals
          go_wp2_with fail
          refine Calls.mono (Hid.out Hoct) ?_
          rintro e w1 ⟨rfl, hR1, hg1⟩
          go_wp2_with fail
          go_ret
          exact ⟨ret_int (by rw [Hor.out, Hend.out.1]), m + 1, hR1, Hend.out.2, by omega, grownBy_trans hgr hg1⟩
      · have Hend : Hid (getN (i + 1) (acc + x % 128 * 2 ^ (7 * i)) (l.drop (m + 1)) = some (v, r)) := by
          have := Hg.out
          rw [if_neg hx] at this
          exact this
        have Hi9 : Hid (i + 1 ≤ 9) := by
          have h9 : ¬ (i = 9 ∧ 1 < x ∨ 0 < i ∧ x = 0) := Hno.out
          show i + 1 ≤ 9
          omega
        rcases hcase with ⟨h1, h2⟩ | ⟨h1, h2, h3⟩ | ⟨h1, h2, h3, h4⟩
        · go_wp2_with fail
          refine Calls.mono (Hid.out Hoct) ?_
          rintro e w1 ⟨rfl, hR1, hg1⟩
          go_wp2_with fail
          go_roundw
          case rel => exact ⟨i + 1, _, m + 1, Hi9.out, digit_bd i acc x Hacc.out, by rw [Hor.out], by go_num, hR1, Hend.out, by omega, grownBy_trans hgr hg1⟩
          case measure => have := Hi9.out; simp [intOf]; omega
        · go_wp2_with fail
          refine Calls.mono (Hid.out Hoct) ?_
          rintro e w1 ⟨rfl, hR1, hg1⟩
          go_wp2_with fail
          go_roundw
          case rel => exact ⟨i + 1, _, m + 1, Hi9.out, digit_bd i acc x Hacc.out, by rw [Hor.out], by go_num, hR1, Hend.out, by omega, grownBy_trans hgr hg1⟩
          case measure => have := Hi9.out; simp [intOf]; omega
        · omega

set_option maxRecDepth 100000 in
set_option maxHeartbeats 400000 in
theorem number_no (R : Nat) (ao : Option Addr) (l : List UInt8) (cap n : Nat) (w : World) (u : TypeId) (pv : Value) (h : Rd w R ao l cap n) (hg : getN 0 0 (l.drop n) = none) (he : Err w u pv) (hER : R ≠ 1) :
    Calls Tryz.prog 129 #[.pointer (some ⟨R, 0, none⟩)] w fun e w' => e = .panicked [{ v := .iface u pv, recovered := false }] ∧ ∃ m, Rd w' R ao l cap m ∧ w.grownBy w' (some R) := by
  go_enter Tryz.func129, Tryz.ntmps129
  go_wp2
  go_loopw [3, 4] (fun s3 s4 wr => ∃ i acc m : Nat, i ≤ 9 ∧ acc < 2 ^ (7 * i) ∧ s3 = .int .u64 acc ∧ s4 = .int .i64 (7 * (i : Int)) ∧ Rd wr R ao l cap m ∧ getN i acc (l.drop m) = none ∧ w.grownBy wr (some R)) (fun _ s4 _ => 70 - (intOf s4).toNat)
  case atStart => exact ⟨0, 0, n, by omega, by simp, rfl, rfl, h, hg, World.grownBy.refl _ _⟩
  case round =>
    obtain ⟨i, acc, m, hi, hacc, rfl, rfl, hR, hgm, hgr⟩ := hrel
    have her : Err wr u pv := by
      unfold Err at he ⊢
      rw [World.cell?_of_block (hgr.block _ (World.block_lt_of_cell? _ _ he) (fun e => hER (Option.some.inj e).symm)), he]
    rcases Nat.lt_or_ge m l.length with hm | hm
    · rw [List.drop_eq_getElem_cons hm, getN] at hgm
      have hb : l.getD m 0 = l[m] := by simp [List.getD, hm]
      have hoct := octet_ok R ao l cap m wr hR hm
      rw [hb] at hoct
      generalize l[m] = b at *
      have hbl := b.toNat_lt
      generalize b.toNat = x at *
      have Hoct : Hid _ := hoct
      clear hoct hb
      split at hgm
      · rename_i hno
        have hcase : ((7 * (i : Int) == 63) = true ∧ 1 < (x : Int) ∧ 0 < 7 * (i : Int)) ∨ ((7 * (i : Int) == 63) = true ∧ ¬ 1 < (x : Int) ∧ 0 < 7 * (i : Int) ∧ ((x : Int) == 0) = true) ∨ ((7 * (i : Int) == 63) = false ∧ 0 < 7 * (i : Int) ∧ ((x : Int) == 0) = true) := by
          by_cases h9 : i = 9
          · by_cases hx : 1 < x
            · exact .inl ⟨by simp; omega, by omega, by omega⟩
            · exact .inr (.inl ⟨by simp; omega, by omega, by omega, by simp; omega⟩)
          · exact .inr (.inr ⟨by simp; omega, by omega, by simp; omega⟩)
        clear hno hacc hgm
        have Her : ∀ w1 : World, wr.grownBy w1 (some R) → w1.cell? ⟨1, 0, none⟩ = some (.iface u pv) := fun w1 hg1 => by
          unfold Err at her
          rw [World.cell?_of_block (hg1.block _ (World.block_lt_of_cell? _ _ her) (fun e => hER (Option.some.inj e).symm)), her]
        have Her : Hid _ := Her
        rcases hcase with ⟨h1, h2, h3⟩ | ⟨h1, h2, h3, h4⟩ | ⟨h1, h2, h3⟩
        all_goals
          go_wp2_with fail
          refine Calls.mono (Hid.out Hoct) ?_
          rintro e w1 ⟨rfl, hR1, hg1⟩
          have hc1 := Her.out w1 hg1
          go_wp2_with fail
          exact ⟨rfl, rfl, m + 1, hR1, grownBy_trans hgr hg1⟩
      · rename_i hno
        split at hgm
        · cases hgm
        · rename_i hx
          have Hend : Hid _ := hgm
          have Hor : Hid _ := or_text i acc x hacc hi (by omega)
          have Hacc : Hid _ := hacc
          have Hi9 : Hid (i + 1 ≤ 9) := by
            show i + 1 ≤ 9
            omega
          have hcase : ((7 * (i : Int) == 63) = false ∧ ¬ 0 < 7 * (i : Int)) ∨ ((7 * (i : Int) == 63) = false ∧ 0 < 7 * (i : Int) ∧ ((x : Int) == 0) = false) := by
            rcases (show i = 0 ∨ (0 < i ∧ i < 9) by omega) with h1 | h1
            · exact .inl ⟨by simp; omega, by omega⟩
            · exact .inr ⟨by simp; omega, by omega, by simp; omega⟩
          clear hno hacc hgm her
          rcases hcase with ⟨h1, h2⟩ | ⟨h1, h2, h3⟩
          · go_wp2_with fail
            refine Calls.mono (Hid.out Hoct) ?_
            rintro e w1 ⟨rfl, hR1, hg1⟩
            go_wp2_with fail
            go_roundw
            case rel => exact ⟨i + 1, _, m + 1, Hi9.out, digit_bd i acc x Hacc.out, by rw [Hor.out], by go_num, hR1, Hend.out, grownBy_trans hgr hg1⟩
            case measure => have := Hi9.out; simp [intOf]; omega
          · go_wp2_with fail
            refine Calls.mono (Hid.out Hoct) ?_
            rintro e w1 ⟨rfl, hR1, hg1⟩
            go_wp2_with fail
            go_roundw
            case rel => exact ⟨i + 1, _, m + 1, Hi9.out, digit_bd i acc x Hacc.out, by rw [Hor.out], by go_num, hR1, Hend.out, grownBy_trans hgr hg1⟩
            case measure => have := Hi9.out; simp [intOf]; omega
    · have hml : m = l.length := by have := hR.le; omega
      have Hoct : Hid _ := octet_end R ao l cap m wr u pv hR hml her
      clear hml hgm hacc
      go_wp2_with fail
      refine Calls.mono (Hid.out Hoct) ?_
      rintro e w1 ⟨rfl, k, rfl⟩
      go_wp2_with fail
      exact ⟨rfl, rfl, m, hR.drewN k, grownBy_drewN hgr k⟩
end Go.Proofs.YthihljjefncfoaaGreatDoor
namespace Go.Proofs.YthihljjefncfoaaGreatDoor
open Go.RowKit

/-- The deferred closure, of a frame that panics: the panic is over, and the mark says no. -/
theorem catch_panicking (p : Addr) (x : Bool) (u : TypeId) (pv : Value) (w : World) (hc : w.cell? p = some (.bool x)) (hz : w.frozen? p = false) :
    CallsD Tryz.prog 154 #[.pointer (some p)] (.panicking [{ v := .iface u pv, recovered := false }]) w fun e u' w' =>
      e = .returned (.tuple #[]) ∧ u' = .panicking [{ v := .iface u pv, recovered := true }] ∧ w' = w.setCell p (.bool false) := by
  refine callsD_of_wpS Tryz.func154 rfl fun c₀ cs hu => ?_
  apply wpS_region
  simp [wpOpsS, go_sem, recoverD, hu, Tryz.ntmps154, hc, hz, bodyPostS, results, Tryz.results154]

theorem catch_idle (p : Addr) (x : Bool) (w : World) (hc : w.cell? p = some (.bool x)) (hz : w.frozen? p = false) :
    CallsD Tryz.prog 154 #[.pointer (some p)] .returning w fun e u' w' => e = .returned (.tuple #[]) ∧ u' = .returning ∧ w' = w.setCell p (.bool true) := by
  refine callsD_of_wpS Tryz.func154 rfl fun c₀ cs hu => ?_
  apply wpS_region
  simp [wpOpsS, go_sem, recoverD, hu, Tryz.ntmps154, hc, hz, bodyPostS, results, Tryz.results154]
  cases c₀
  simp_all

theorem Rd.lt {w : World} {R : Nat} {ao : Option Addr} {l : List UInt8} {cap n : Nat} (h : Rd w R ao l cap n) : R < w.heap.size := World.block_lt_of_cell? _ _ h.c0
/-- Whatever leaves the reader's block and the bytes alone leaves the reader as it was. -/
theorem Rd.carry {w w' : World} {R : Nat} {ao : Option Addr} {l : List UInt8} {cap n : Nat} (h : Rd w R ao l cap n) (hb : ∀ k, k < w.heap.size → w'.heap[k]? = w.heap[k]?) : Rd w' R ao l cap n := by
  have e : ∀ p : Addr, p.block < w.heap.size → w'.cell? p = w.cell? p := fun p hp => World.cell?_of_block (hb p.block hp)
  refine ⟨?_, ?_, ?_, h.le, h.max, ?_, h.ne⟩
  · rw [e ⟨R, 0, none⟩ h.lt]; exact h.c0
  · rw [e ⟨R, 1, none⟩ h.lt]; exact h.c1
  · rw [World.frozen?_of_block (a := ⟨R, 1, none⟩) (hb R h.lt)]; exact h.f1
  · intro i hi
    obtain ⟨a, ea, hc⟩ := h.sees i hi
    exact ⟨a, ea, by rw [e _ (World.block_lt_of_cell? _ _ hc)]; exact hc⟩

theorem Rd.setOther {w w0 : World} {R : Nat} {ao : Option Addr} {l : List UInt8} {cap n : Nat} (h : Rd w R ao l cap n) (hs : Sees w0 ao l) (hR : R < w0.heap.size) {p : Addr} (hp : w0.heap.size ≤ p.block) (x : Value) : Rd (w.setCell p x) R ao l cap n := by
  have e : ∀ q : Addr, q.block < w0.heap.size → (w.setCell p x).cell? q = w.cell? q := fun q hq => World.cell?_setCell_other _ _ _ _ (fun e' => by rw [e'] at hp; omega)
  refine ⟨?_, ?_, ?_, h.le, h.max, ?_, h.ne⟩
  · rw [e ⟨R, 0, none⟩ hR]; exact h.c0
  · rw [e ⟨R, 1, none⟩ hR]; exact h.c1
  · rw [World.frozen?_setCell]; exact h.f1
  · intro i hi
    obtain ⟨a, ea, hc⟩ := h.sees i hi
    obtain ⟨a', ea', hc'⟩ := hs i hi
    obtain rfl := Option.some.inj (ea.symm.trans ea')
    exact ⟨a, ea, by rw [e _ (World.block_lt_of_cell? _ _ hc')]; exact hc⟩
/-- Beside the reader's block only new ones were written. -/
theorem grownBy_setNew {w w' : World} {R : Option Nat} {p : Addr} {x : Value} (h : w.grownBy w' R) (hp : w.heap.size ≤ p.block) : w.grownBy (w'.setCell p x) R :=
  ⟨h.os, h.tape, h.output, by rw [size_setCell]; exact h.size, fun k hk hne => (Below.heap_setCell _ _ _ _ (by omega)).trans (h.block k hk hne)⟩
theorem grownBy_alloc {w w' : World} {R : Option Nat} {o : Obj} (h : (w.alloc o).grownBy w' R) : w.grownBy w' R := by
  have hs := h.size
  rw [World.size_alloc] at hs
  exact ⟨h.os, h.tape, h.output, by omega, fun k hk hne => (h.block k (by rw [World.size_alloc]; omega) hne).trans (Below.heap_alloc _ _ _ hk)⟩

set_option maxRecDepth 100000 in
set_option maxHeartbeats 400000 in
theorem attempt_ok (R : Nat) (ao : Option Addr) (l : List UInt8) (cap n : Nat) (w : World) (v : Nat) (r : List UInt8) (h : Rd w R ao l cap n) (hg : getN 0 0 (l.drop n) = some (v, r)) :
    Calls Tryz.prog 128 #[.func (.func 129) #[.pointer (some ⟨R, 0, none⟩)] #[]] w fun e w' => e = .returned (.tuple #[.int .u64 v, .bool true]) ∧ ∃ m, Rd w' R ao l cap m ∧ l.drop m = r ∧ n < m ∧ w.grownBy w' (some R) := by
  have hmf : ∀ (fn : Fn) (first cap : Array Value) (w : World), (Instr.makeFunc fn first cap).run Tryz.prog w = .ok (.func fn first cap) w := fun _ _ _ _ => rfl
  have hlt := h.lt
  have hs0 := h.sees
  have h1 : Rd (w.alloc (.cells #[.bool false] 4)) R ao l cap n := h.carry fun k hk => Below.heap_alloc _ _ _ hk
  have Hc : Hid _ := number_ok R ao l cap n _ v r h1 hg
  clear h h1 hg
  go_enter_defers Tryz.func128, Tryz.ntmps128
  go_wp2_with fail
  refine Calls.mono (Hid.out Hc) ?_
  rintro e w2 ⟨rfl, m, hR2, hd, hm, hg2⟩
  have hB := hg2.block w.heap.size (by simp) (fun e => by have := Option.some.inj e; omega)
  have hc2 : w2.cell? ⟨w.heap.size, 0, none⟩ = some (.bool false) := by rw [World.cell?_of_block (a := ⟨w.heap.size, 0, none⟩) hB]; simp [go_sem]
  have hf2 : w2.frozen? ⟨w.heap.size, 0, none⟩ = false := by rw [World.frozen?_of_block (a := ⟨w.heap.size, 0, none⟩) hB]; simp [go_sem]
  clear hB Hc
  go_wp2_with fail
  refine leaves_cons (f := 154) (args := #[.pointer (some ⟨w.heap.size, 0, none⟩)]) (by simp) (by simp [go_sem]) ?_
  refine (catch_idle ⟨w.heap.size, 0, none⟩ true _ (World.cell?_setCell_same _ _ _ hc2) (by rw [World.frozen?_setCell]; exact hf2)).mono ?_
  rintro e u' w'' ⟨rfl, rfl, rfl⟩
  have hc3 := World.cell?_setCell_same (w2.setCell ⟨w.heap.size, 0, none⟩ (.bool true)) ⟨w.heap.size, 0, none⟩ (.bool true) (World.cell?_setCell_same _ _ _ hc2)
  refine ⟨.tuple #[.int .u64 v, .bool true], by simp [results, Tryz.results128, go_sem, hc3], rfl, m, ?_, hd, hm, ?_⟩
  · exact (hR2.setOther hs0 hlt (Nat.le_refl _) _).setOther hs0 hlt (Nat.le_refl _) _
  · exact grownBy_setNew (grownBy_setNew (grownBy_alloc hg2) (Nat.le_refl _)) (Nat.le_refl _)

set_option maxRecDepth 100000 in
set_option maxHeartbeats 400000 in
theorem attempt_no (R : Nat) (ao : Option Addr) (l : List UInt8) (cap n : Nat) (w : World) (u : TypeId) (pv : Value) (h : Rd w R ao l cap n) (hg : getN 0 0 (l.drop n) = none) (he : Err w u pv) (hER : R ≠ 1) :
    Calls Tryz.prog 128 #[.func (.func 129) #[.pointer (some ⟨R, 0, none⟩)] #[]] w fun e w' => e = .returned (.tuple #[.int .u64 0, .bool false]) ∧ ∃ m, Rd w' R ao l cap m ∧ w.grownBy w' (some R) := by
  have hmf : ∀ (fn : Fn) (first cap : Array Value) (w : World), (Instr.makeFunc fn first cap).run Tryz.prog w = .ok (.func fn first cap) w := fun _ _ _ _ => rfl
  have hlt := h.lt
  have hs0 := h.sees
  have h1 : Rd (w.alloc (.cells #[.bool false] 4)) R ao l cap n := h.carry fun k hk => Below.heap_alloc _ _ _ hk
  have he1 : Err (w.alloc (.cells #[.bool false] 4)) u pv := by
    unfold Err at he ⊢
    rw [World.cell?_of_block (Below.heap_alloc _ _ _ (World.block_lt_of_cell? _ _ he)), he]
  have Hc : Hid _ := number_no R ao l cap n _ u pv h1 hg he1 hER
  clear h h1 hg he he1
  go_enter_defers Tryz.func128, Tryz.ntmps128
  go_wp2_with fail
  refine Calls.mono (Hid.out Hc) ?_
  rintro e w2 ⟨rfl, m, hR2, hg2⟩
  have hB := hg2.block w.heap.size (by simp) (fun e => by have := Option.some.inj e; omega)
  have hc2 : w2.cell? ⟨w.heap.size, 0, none⟩ = some (.bool false) := by rw [World.cell?_of_block (a := ⟨w.heap.size, 0, none⟩) hB]; simp [go_sem]
  have hf2 : w2.frozen? ⟨w.heap.size, 0, none⟩ = false := by rw [World.frozen?_of_block (a := ⟨w.heap.size, 0, none⟩) hB]; simp [go_sem]
  clear hB Hc
  go_wp2_with fail
  refine leaves_cons (f := 154) (args := #[.pointer (some ⟨w.heap.size, 0, none⟩)]) (by simp) (by simp [go_sem]) ?_
  refine (catch_panicking ⟨w.heap.size, 0, none⟩ false u pv _ hc2 hf2).mono ?_
  rintro e u' w'' ⟨rfl, rfl, rfl⟩
  have hc3 := World.cell?_setCell_same w2 ⟨w.heap.size, 0, none⟩ (.bool false) hc2
  refine ⟨.tuple #[.int .u64 0, .bool false], by simp [results, Tryz.results128, go_sem, hc3], rfl, m, ?_, ?_⟩
  · exact hR2.setOther hs0 hlt (Nat.le_refl _) _
  · exact grownBy_setNew (grownBy_alloc hg2) (Nat.le_refl _)
end Go.Proofs.YthihljjefncfoaaGreatDoor
namespace Go.Proofs.YthihljjefncfoaaGreatDoor
open Go.RowKit

/-- A reader that was just made. -/
theorem Rd.made {w : World} {ao : Option Addr} {l : List UInt8} {cap : Nat} (hs : Sees w ao l) (hl : l.length ≤ 140737488355000) : Rd (w.alloc (.cells #[.slice ao l.length cap, .int .i64 0] 145)) w.heap.size ao l cap 0 := by
  refine ⟨by simp [go_sem], by simp [go_sem], by simp [go_sem], by omega, hl, hs.below ((Below.refl _ _).alloc (Nat.le_refl _) _) (Nat.le_refl _), fun hne a ea e => ?_⟩
  obtain ⟨a', ea', hc⟩ := hs 0 (by omega)
  obtain rfl := Option.some.inj (ea.symm.trans ea')
  have := World.block_lt_of_cell? _ _ hc
  rw [Addr.add_block] at this
  omega
theorem below_made {w w' : World} {o : Obj} (h : (w.alloc o).grownBy w' (some w.heap.size)) : Below w.heap.size w w' :=
  ⟨h.os, h.tape, h.output, by have := h.size; rw [World.size_alloc] at this; omega, fun k hk => (h.block k (by rw [World.size_alloc]; omega) (fun e => by have := Option.some.inj e; omega)).trans (Below.heap_alloc _ _ _ hk)⟩
theorem err_alloc {w : World} {u : TypeId} {pv : Value} (he : Err w u pv) (o : Obj) : Err (w.alloc o) u pv := by
  unfold Err at he ⊢
  rw [World.cell?_of_block (Below.heap_alloc _ _ _ (World.block_lt_of_cell? _ _ he)), he]
theorem Err.below {w w' : World} {u : TypeId} {pv : Value} (he : Err w u pv) {B : Nat} (hb : Below B w w') (hB : w.heap.size ≤ B) : Err w' u pv := by
  unfold Err at he ⊢
  have := World.block_lt_of_cell? _ _ he
  rw [hb.cell (p := ⟨1, 0, none⟩) (by omega), he]

set_option maxRecDepth 100000 in
set_option maxHeartbeats 400000 in
theorem get_ok (ao : Option Addr) (l : List UInt8) (cap : Nat) (w : World) (v : Nat) (r : List UInt8) (hs : Sees w ao l) (hl : l.length ≤ 140737488355000) (hg : getN 0 0 l = some (v, r)) :
    Calls Tryz.prog 116 #[.slice ao l.length cap] w fun e w' => e = .returned (.tuple #[.int .u64 v, .int .i64 ((l.length - r.length : Nat) : Int)]) ∧ Below w.heap.size w w' := by
  have hmf : ∀ (fn : Fn) (first cap : Array Value) (w : World), (Instr.makeFunc fn first cap).run Tryz.prog w = .ok (.func fn first cap) w := fun _ _ _ _ => rfl
  have Hc : Hid _ := attempt_ok _ ao l cap 0 _ v r (Rd.made hs hl) hg
  clear hs hg
  go_enter Tryz.func116, Tryz.ntmps116
  go_wp2_with fail
  refine Calls.mono (Hid.out Hc) ?_
  rintro e w2 ⟨rfl, m, hR2, hd, hm, hg2⟩
  have hc1 := hR2.c1
  have Hm : Hid (m = l.length - r.length) := by
    have h1 := congrArg List.length hd
    have h2 := hR2.le
    rw [List.length_drop] at h1
    show m = _
    omega
  clear hd
  go_wp2_with fail
  go_quiet (fail)
  go_wp2
  go_ret2
  refine ⟨by rw [← Hm.out]; rfl, (below_made hg2).trans ?_⟩
  exact ⟨rfl, rfl, rfl, Nat.le_refl _, fun _ _ => rfl⟩

set_option maxRecDepth 100000 in
set_option maxHeartbeats 400000 in
theorem get_no (ao : Option Addr) (l : List UInt8) (cap : Nat) (w : World) (u : TypeId) (pv : Value) (hs : Sees w ao l) (hl : l.length ≤ 140737488355000) (hg : getN 0 0 l = none) (he : Err w u pv) :
    Calls Tryz.prog 116 #[.slice ao l.length cap] w fun e w' => e = .returned (.tuple #[.int .u64 0, .int .i64 0]) ∧ Below w.heap.size w w' := by
  have hmf : ∀ (fn : Fn) (first cap : Array Value) (w : World), (Instr.makeFunc fn first cap).run Tryz.prog w = .ok (.func fn first cap) w := fun _ _ _ _ => rfl
  have Hc : Hid _ := attempt_no _ ao l cap 0 _ u pv (Rd.made hs hl) hg (err_alloc he _) (by have := World.block_lt_of_cell? _ _ he; show w.heap.size ≠ _; have h2 : (⟨1, 0, none⟩ : Addr).block < w.heap.size := this; simp at h2; omega)
  clear hs hg he
  go_enter Tryz.func116, Tryz.ntmps116
  go_wp2_with fail
  refine Calls.mono (Hid.out Hc) ?_
  rintro e w2 ⟨rfl, m, hR2, hg2⟩
  go_wp2_with fail
  go_ret2
  exact ⟨rfl, below_made hg2⟩

theorem get_ok_at (ao : Option Addr) (l : List UInt8) (n cap : Nat) (w : World) (v k : Nat) (r : List UInt8) (hn : l.length = n) (hk : n - r.length = k) (hs : Sees w ao l) (hl : n ≤ 140737488355000) (hg : getN 0 0 l = some (v, r)) :
    Calls Tryz.prog 116 #[.slice ao n cap] w fun e w' => e = .returned (.tuple #[.int .u64 v, .int .i64 k]) ∧ Below w.heap.size w w' := by
  subst hn
  subst hk
  exact get_ok ao l cap w v r hs hl hg
theorem get_no_at (ao : Option Addr) (l : List UInt8) (n cap : Nat) (w : World) (u : TypeId) (pv : Value) (hn : l.length = n) (hs : Sees w ao l) (hl : n ≤ 140737488355000) (hg : getN 0 0 l = none) (he : Err w u pv) :
    Calls Tryz.prog 116 #[.slice ao n cap] w fun e w' => e = .returned (.tuple #[.int .u64 0, .int .i64 0]) ∧ Below w.heap.size w w' := by
  subst hn
  exact get_no ao l cap w u pv hs hl hg he
theorem owns_heap {w w' : World} {base : Nat} {e : TypeId} {size : Nat} {v : Value} {n : Nat} {xs : List Value} (h : w.ownsRow base e size v n xs) (hb : ∀ k, v.ownBlock = some k → w'.heap[k]? = w.heap[k]?) : w'.ownsRow base e size v n xs := by
  refine ⟨h.1, ?_⟩
  rcases h.2 with hn | ⟨g, cap, cur, rfl, hg, hh, r⟩
  · exact .inl hn
  · exact .inr ⟨g, cap, cur, rfl, hg, (hb g rfl).trans hh, r⟩
end Go.Proofs.YthihljjefncfoaaGreatDoor
namespace Go.Proofs.YthihljjefncfoaaGreatDoor
open Go.RowKit

/-- A row of nothing, just made. -/
theorem owns_none (w : World) : (w.alloc (.cells #[] 5)).ownsRow w.heap.size 5 1 (.slice (some ⟨w.heap.size, 0, none⟩) 0 0) 0 [] := World.ownsRow_made w #[] 0 (Nat.le_refl _) (by decide) rfl
theorem below_none {w w' : World} {v : Value} (h : Grew (w.alloc (.cells #[] 5)) w' (.slice (some ⟨w.heap.size, 0, none⟩) 0 0) v) : Below w.heap.size w w' :=
  ((Below.refl _ _).alloc (Nat.le_refl _) _).trans (h.below (by rw [World.size_alloc]; omega) (fun k hk => by cases hk; exact Nat.le_refl _))

set_option maxRecDepth 100000 in
set_option maxHeartbeats 800000 in
theorem refPut_any (ao : Option Addr) (l : List UInt8) (cap u : Nat) (w : World) (hs : Sees w ao l) (hnone : ao = none → l.length = 0) (hl : l.length ≤ 140737488354000) (hu : u < 18446744073709551616) :
    Calls Tryz.prog 73 #[.slice ao l.length cap, .int .u64 u] w fun e w' => ∃ v', e = .returned v' ∧ w'.ownsRow w.heap.size 5 1 v' (l.length + (numL u).length) (B8 (l ++ numL u)) ∧ Below w.heap.size w w' := by
  obtain ⟨i0, hi, hz0, hz1, hz2⟩ := info_parts info8
  have Hu : Hid (NumAt u [] u) := NumAt.start hu
  have e0 := owns_none w
  have s1 := src_sees (P := Tryz.prog) Tryz.underlying62 (hs.below ((Below.refl _ _).alloc (Nat.le_refl _) (.cells #[] 5)) (Nat.le_refl _)) hnone cap
  clear hu hs hnone
  go_enter Tryz.func73, Tryz.ntmps73
  go_wp2_with (at_builtin; go_must (refine wpList_append_grew _ rfl (.tmp 6) (.tmp 7) 62 62 rfl w.heap.size 5 i0 (.int .u8 0) 1 1 Tryz.underlying62 hi hz0 hz1 hz2 rfl _ 0 [] rfl e0 _ l.length (B8 l) rfl s1 (by unfold maxLen; omega) (by omega) (by rw [World.size_alloc]; omega) ?_; intro v1 w1 ho1 hg1))
  have ho1' : w1.ownsRow w.heap.size 5 1 v1 l.length (B8 l) := by simpa using ho1
  have hb1 := below_none hg1
  clear e0 s1 hg1 ho1
  go_loopw [5, 1] (fun s0 s1 wr => ∃ (x : Nat) (d : List UInt8), s1 = .int .u64 x ∧ NumAt u d x ∧ wr.ownsRow w.heap.size 5 1 s0 (l.length + d.length) (B8 (l ++ d)) ∧ Grew w1 wr v1 s0 ∧ w.heap.size ≤ wr.heap.size) (fun _ s1 _ => (intOf s1).toNat)
  case atStart => exact ⟨u, [], rfl, Hu.out, by simpa using ho1', Grew.refl _ _, hb1.size⟩
  case round =>
    obtain ⟨x, d, rfl, hd, ho, hg, hbr⟩ := hrel
    have hbd := hd.bd
    have hdl := hd.len
    by_cases hx : x < 128
    · have hbv := byte_val x (by omega)
      have Hfin : Hid (numL u = d ++ [UInt8.ofNat x]) := hd.done hx
      go_wp2_with (at_builtin; go_must (refine wpList_append_grew _ rfl _ _ 62 62 rfl w.heap.size 5 i0 (.int .u8 0) 1 1 Tryz.underlying62 hi hz0 hz1 hz2 rfl _ _ _ rfl (ho.alloc _) _ 1 (B8 [UInt8.ofNat x]) rfl (src_one _ _ _ hbv) (by unfold maxLen; omega) (by omega) (by rw [World.size_alloc]; omega) ?_; intro v' w' ho' hg'))
      go_ret
      refine ⟨v', rfl, ?_, hb1.trans ((hg.trans hg'.alloc).below hb1.size (fun k hk => (ho1'.lt k hk).1))⟩
      rw [Hfin.out, ← List.append_assoc, B8_append _ [_], List.length_append, List.length_singleton, ← Nat.add_assoc]
      exact ho'
    · have hbv := byte_val (x % 128 + 128) (by omega)
      have hst := hd.step (by omega)
      go_wp2_with (at_builtin; go_must (refine wpList_append_grew _ rfl _ _ 62 62 rfl w.heap.size 5 i0 (.int .u8 0) 1 1 Tryz.underlying62 hi hz0 hz1 hz2 rfl _ _ _ rfl (ho.alloc _) _ 1 (B8 [UInt8.ofNat (x % 128 + 128)]) rfl (src_one _ _ _ hbv) (by unfold maxLen; omega) (by omega) (by rw [World.size_alloc]; omega) ?_; intro v' w' ho' hg'))
      go_roundw
      case rel =>
        refine ⟨x / 128, _, by go_num, hst, ?_, hg.trans hg'.alloc, Nat.le_trans hbr (Nat.le_trans (by rw [World.size_alloc]; omega) hg'.rows.size)⟩
        rw [← List.append_assoc, B8_append _ [_], List.length_append, List.length_singleton, ← Nat.add_assoc]
        exact ho'
      case measure => simp [intOf]; omega
end Go.Proofs.YthihljjefncfoaaGreatDoor
namespace Go.Proofs.YthihljjefncfoaaGreatDoor
open Go.RowKit

/-- What a round of the document's Get reckons. -/
theorem sum_text (i acc x : Nat) (h : acc < 2 ^ (7 * i)) (hi : i ≤ 9) (h9 : i = 9 → x ≤ 1) :
    IntKind.u64.wrap ((acc : Int) + IntKind.u64.wrap ((x : Int) % 128 * 2 ^ (7 * i))) = ((acc + x % 128 * 2 ^ (7 * i) : Nat) : Int) := by
  have hp : 2 ^ (7 * i) ≤ 2 ^ 63 := Nat.pow_le_pow_right (by omega) (by omega)
  have hy : acc + x % 128 * 2 ^ (7 * i) < 18446744073709551616 := by
    rcases Nat.lt_or_ge i 9 with h1 | h1
    · have h2 : 2 ^ (7 * i) ≤ 2 ^ 56 := Nat.pow_le_pow_right (by omega) (by omega)
      have h3 : x % 128 * 2 ^ (7 * i) ≤ 127 * 2 ^ 56 := Nat.mul_le_mul (by omega) h2
      omega
    · have hx := h9 (by omega)
      have h3 : x % 128 * 2 ^ (7 * i) ≤ 1 * 2 ^ 63 := Nat.mul_le_mul (by omega) hp
      omega
  have e : (x : Int) % 128 * 2 ^ (7 * i) = ((x % 128 * 2 ^ (7 * i) : Nat) : Int) := by simp
  rw [e, IntWalk.u64_in (((x % 128 * 2 ^ (7 * i) : Nat) : Int)) ⟨by omega, by omega⟩, ← Int.natCast_add, IntWalk.u64_in _ ⟨by omega, by omega⟩]

/-- What Get tells of bytes: the number, and how many it has. -/
def getV (l : List UInt8) : Nat := match getN 0 0 l with | some (v, _) => v | none => 0
def getK (l : List UInt8) : Nat := match getN 0 0 l with | some (_, r) => l.length - r.length | none => 0

set_option maxRecDepth 100000 in
set_option maxHeartbeats 1600000 in
theorem refGet_any (ao : Option Addr) (l : List UInt8) (cap : Nat) (w : World) (hs : Sees w ao l) (hl : l.length ≤ 140737488354000) :
    Calls Tryz.prog 90 #[.slice ao l.length cap] w fun e w' => e = .returned (.tuple #[.int .u64 (getV l), .int .i64 (getK l)]) ∧ w' = w := by
  go_enter Tryz.func90, Tryz.ntmps90
  go_wp2
  go_loop [4, 5] (fun s4 s5 => ∃ i acc : Nat, i ≤ 9 ∧ i ≤ l.length ∧ acc < 2 ^ (7 * i) ∧ s4 = .int .u64 acc ∧ s5 = .int .i64 i ∧ getN 0 0 l = getN i acc (l.drop i)) (fun _ s5 => 10 - (intOf s5).toNat)
  case atStart => exact ⟨0, 0, by omega, by omega, by simp, rfl, rfl, rfl⟩
  case round =>
    obtain ⟨i, acc, hi, hil, hacc, rfl, rfl, hg⟩ := hrel
    rcases Nat.lt_or_ge i l.length with hlt | hge
    · rw [List.drop_eq_getElem_cons hlt, getN] at hg
      obtain ⟨b, off, rfl, hc⟩ := sees_at hs hlt
      have hb : l.getD i 0 = l[i] := by simp [List.getD, hlt]
      rw [hb] at hc
      generalize l[i] = y at *
      have hbl := y.toNat_lt
      generalize y.toNat = x at *
      have Hs : Hid _ := hs
      clear hs hb
      by_cases hno : (i = 9 ∧ 1 < x) ∨ (0 < i ∧ x = 0)
      · rw [if_pos hno] at hg
        have HV : Hid (getV l = 0) := by show _ = _; unfold getV; rw [hg]
        have HK : Hid (getK l = 0) := by show _ = _; unfold getK; rw [hg]
        have hcase : ((i : Int) == 9) = true ∧ 1 < (x : Int) ∨ ((i : Int) == 9) = true ∧ ¬ 1 < (x : Int) ∧ 0 < (i : Int) ∧ ((x : Int) == 0) = true ∨ ((i : Int) == 9) = false ∧ 0 < (i : Int) ∧ ((x : Int) == 0) = true := by
          by_cases h9 : i = 9
          · by_cases hx : 1 < x
            · exact .inl ⟨by simp; omega, by omega⟩
            · exact .inr (.inl ⟨by simp; omega, by omega, by omega, by simp; omega⟩)
          · exact .inr (.inr ⟨by simp; omega, by omega, by simp; omega⟩)
        have Hacc : Hid _ := hacc
        clear hg hno hacc
        rcases hcase with ⟨h1, h2⟩ | ⟨h1, h2, h3, h4⟩ | ⟨h1, h2, h3⟩
        · go_wp2
          go_ret2
          exact ⟨by rw [HV.out, HK.out]; rfl, rfl⟩
        · have hx : (x : Int) < 128 := by omega
          go_wp2
          go_ret2
          exact ⟨by rw [HV.out, HK.out]; rfl, rfl⟩
        · have hx : (x : Int) < 128 := by have := (beq_iff_eq.1 h3 : (x : Int) = 0); omega
          go_wp2
          go_ret2
          exact ⟨by rw [HV.out, HK.out]; rfl, rfl⟩
      · rw [if_neg hno] at hg
        have Hsum : Hid _ := sum_text i acc x hacc hi (by omega)
        by_cases hx : x < 128
        · rw [if_pos hx] at hg
          have HV : Hid (getV l = acc + x % 128 * 2 ^ (7 * i)) := by show _ = _; unfold getV; rw [hg]
          have HK : Hid (getK l = i + 1) := by show _ = _; unfold getK; rw [hg]; simp; omega
          have hcase : (((i : Int) == 9) = false ∧ ¬ 0 < (i : Int)) ∨ (((i : Int) == 9) = false ∧ 0 < (i : Int) ∧ ((x : Int) == 0) = false) ∨ (((i : Int) == 9) = true ∧ 0 < (i : Int) ∧ ¬ 1 < (x : Int) ∧ ((x : Int) == 0) = false) := by
            rcases (show i = 0 ∨ (0 < i ∧ i < 9) ∨ i = 9 by omega) with h1 | h1 | h1
            · exact .inl ⟨by simp; omega, by omega⟩
            · exact .inr (.inl ⟨by simp; omega, by omega, by simp; omega⟩)
            · exact .inr (.inr ⟨by simp; omega, by omega, by omega, by simp; omega⟩)
          have Hacc : Hid _ := hacc
          clear hg hno hacc
          rcases hcase with ⟨h1, h2⟩ | ⟨h1, h2, h3⟩ | ⟨h1, h2, h3, h4⟩
          all_goals
            go_wp2
            go_ret2
            refine ⟨?_, rfl⟩
            rw [HV.out, HK.out, ← Hsum.out]
            rfl
        · rw [if_neg hx] at hg
          have Hg : Hid _ := hg
          have Hd : Hid _ := digit_bd i acc x hacc
          have Hi9 : Hid (i + 1 ≤ 9) := by show i + 1 ≤ 9; omega
          have hcase : ((i : Int) == 9) = false := by simp; omega
          clear hg hno hacc
          go_wp2
          go_round
          case rel => exact ⟨i + 1, _, Hi9.out, by omega, Hd.out, by rw [← Hsum.out], by go_num, Hg.out⟩
          case measure => have := Hi9.out; simp [intOf]; omega
    · rw [List.drop_eq_nil_of_le hge, getN] at hg
      have HV : Hid (getV l = 0) := by show _ = _; unfold getV; rw [hg]
      have HK : Hid (getK l = 0) := by show _ = _; unfold getK; rw [hg]
      clear hg hacc
      go_wp2
      go_ret2
      exact ⟨by rw [HV.out, HK.out]; rfl, rfl⟩
end Go.Proofs.YthihljjefncfoaaGreatDoor
namespace Go.Proofs.YthihljjefncfoaaGreatDoor
open Go.RowKit

set_option maxRecDepth 100000 in
theorem byte_back (b : UInt8) : UInt8.ofNat b.toNat = b := by simp
set_option maxRecDepth 100000 in
theorem getN_shape (k : Nat) : ∀ (i acc : Nat) (l : List UInt8) (v : Nat) (r : List UInt8), i + k = 9 → getN i acc l = some (v, r) → ∃ x, x < 2 * 128 ^ k ∧ (0 < i → 0 < x) ∧ v = acc + x * 2 ^ (7 * i) ∧ l = numF k x ++ r := by
  induction k with
  | zero =>
    intro i acc l v r hi hg
    cases l with
    | nil => simp [getN] at hg
    | cons b r' =>
      rw [getN] at hg
      by_cases h1 : (i = 9 ∧ 1 < b.toNat) ∨ (0 < i ∧ b.toNat = 0)
      · rw [if_pos h1] at hg; cases hg
      · rw [if_neg h1, if_pos (by omega)] at hg
        cases hg
        refine ⟨b.toNat, by simp; omega, fun _ => by omega, by rw [Nat.mod_eq_of_lt (by omega)], ?_⟩
        rw [numF, byte_back]
        rfl
  | succ k ih =>
    intro i acc l v r hi hg
    cases l with
    | nil => simp [getN] at hg
    | cons b r' =>
      rw [getN] at hg
      by_cases h1 : (i = 9 ∧ 1 < b.toNat) ∨ (0 < i ∧ b.toNat = 0)
      · rw [if_pos h1] at hg; cases hg
      · rw [if_neg h1] at hg
        have hpw : 0 < 128 ^ k := Nat.pow_pos (by decide)
        by_cases h2 : b.toNat < 128
        · rw [if_pos h2] at hg
          cases hg
          refine ⟨b.toNat, by rw [Nat.pow_succ]; omega, fun _ => by omega, by rw [Nat.mod_eq_of_lt h2], ?_⟩
          rw [numF_small _ _ h2, byte_back]
          rfl
        · rw [if_neg h2] at hg
          obtain ⟨x, hx, hp, rfl, rfl⟩ := ih (i + 1) _ r' v r (by omega) hg
          have hb := b.toNat_lt
          have hm : b.toNat % 128 = b.toNat - 128 := by omega
          have hx0 := hp (by omega)
          have e1 : (x * 128 + (b.toNat - 128)) % 128 = b.toNat - 128 := by omega
          have e2 : (x * 128 + (b.toNat - 128)) / 128 = x := by omega
          refine ⟨x * 128 + (b.toNat - 128), by rw [Nat.pow_succ]; omega, fun _ => by omega, ?_, ?_⟩
          · rw [hm, pow7, Nat.add_mul, Nat.mul_assoc, Nat.add_assoc, Nat.add_comm ((b.toNat - 128) * 2 ^ (7 * i))]
          · rw [numF_great _ _ (by omega), e1, e2, show b.toNat - 128 + 128 = b.toNat by omega, byte_back]
            rfl
set_option maxRecDepth 100000 in
theorem get_canon {l : List UInt8} (h : getK l ≠ 0) : l = numL (getV l) ++ l.drop (getK l) ∧ getK l = (numL (getV l)).length ∧ getV l < 18446744073709551616 ∧ getN 0 0 l = some (getV l, l.drop (getK l)) := by
  cases hg : getN 0 0 l with
  | none => exact absurd (by unfold getK; rw [hg]) h
  | some vr =>
    obtain ⟨v, r⟩ := vr
    obtain ⟨x, hx, _, hv, hl⟩ := getN_shape 9 0 0 l v r rfl hg
    have hv' : v = x := by simpa using hv
    subst hv'
    have h1 : getV l = v := by unfold getV; rw [hg]
    have h2 : getK l = (numL v).length := by unfold getK; rw [hg]; show l.length - r.length = _; rw [hl, List.length_append]; unfold numL; omega
    have h3 : l.drop (getK l) = r := by rw [h2, hl]; exact List.drop_left
    rw [h3, h1]
    exact ⟨hl, h2, hx, rfl⟩
set_option maxRecDepth 100000 in
theorem getK_zero {l : List UInt8} (h : getK l = 0) : getV l = 0 := by
  cases hg : getN 0 0 l with
  | none => unfold getV; rw [hg]
  | some vr =>
    obtain ⟨v, r⟩ := vr
    obtain ⟨x, _, _, _, hl⟩ := getN_shape 9 0 0 l v r rfl hg
    have h2 : getK l = (numF 9 x).length := by unfold getK; rw [hg]; show l.length - r.length = _; rw [hl, List.length_append]; omega
    have := (numF_length 9 x).1
    omega
set_option maxRecDepth 100000 in
theorem getK_le (l : List UInt8) : getK l ≤ l.length := by
  unfold getK
  cases getN 0 0 l with
  | none => exact Nat.zero_le _
  | some vr => exact Nat.sub_le _ _
set_option maxRecDepth 100000 in
theorem getV_lt (l : List UInt8) : getV l < 18446744073709551616 := by
  by_cases h : getK l = 0
  · rw [getK_zero h]; decide
  · exact (get_canon h).2.2.1
/-- Are bytes a filter? -/
def okF (B : List UInt8) : Bool := decide (1 ≤ getV B ∧ getV B ≤ 16 ∧ 1 ≤ getV (B.drop (getK B)) ∧ getV (B.drop (getK B)) ≤ 400000 ∧ B.length - (getK B + getK (B.drop (getK B))) = getV (B.drop (getK B)))
set_option maxRecDepth 100000 in
theorem okF_enc {B : List UInt8} {k p q : Nat} {l : List UInt8} (hp : getK B = p) (hk : getV B = k) (hp0 : p ≠ 0) (hq : getK (B.drop p) = q) (hq0 : q ≠ 0) (hl : B.drop (p + q) = l) (hn : getV (B.drop p) = l.length) : B = numL k ++ numL l.length ++ l := by
  have h1 := get_canon (l := B) (by omega)
  have h2 := get_canon (l := B.drop p) (by omega)
  rw [hp, hk] at h1
  rw [hq, hn, List.drop_drop, hl] at h2
  rw [List.append_assoc, ← h2.1]
  exact h1.1
end Go.Proofs.YthihljjefncfoaaGreatDoor
namespace Go.Proofs.YthihljjefncfoaaGreatDoor
open Go.RowKit

/-- Memory that is lent out, the first k bytes laid. -/
def lentK (l : List UInt8) (k : Nat) : List UInt8 := (165 : UInt8) :: (l.take k ++ (List.replicate (l.length - k) 0 ++ [90]))
def lent (l : List UInt8) : List UInt8 := (165 : UInt8) :: (l ++ [90])
theorem lentK_length (l : List UInt8) (k : Nat) (h : k ≤ l.length) : (lentK l k).length = l.length + 2 := by simp [lentK]; omega
theorem take_snoc (l : List UInt8) (k : Nat) (h : k < l.length) : l.take (k + 1) = l.take k ++ [l.getD k 0] := by
  have e : l.getD k 0 = l[k] := by simp [List.getD, h]
  rw [e, ← List.take_succ_eq_append_getElem h]
theorem lentK_step (l : List UInt8) (k : Nat) (h : k < l.length) : (lentK l k).set (k + 1) (l.getD k 0) = lentK l (k + 1) := by
  unfold lentK
  have h1 : (l.take k).length = k := by simp; omega
  obtain ⟨m, hm⟩ : ∃ m, l.length - k = m + 1 := ⟨l.length - k - 1, by omega⟩
  have hm' : l.length - (k + 1) = m := by omega
  rw [List.set_cons_succ, List.set_append_right _ _ (by omega), h1, Nat.sub_self, hm, hm', List.replicate_succ, List.cons_append, List.set_cons_zero, take_snoc l k h, List.append_assoc]
  rfl
theorem lentK_start (l : List UInt8) : ((List.replicate (l.length + 2) (0 : UInt8)).set 0 165).set (l.length + 1) 90 = lentK l 0 := by
  unfold lentK
  rw [List.replicate_succ, List.set_cons_zero, List.set_cons_succ, List.replicate_succ', List.set_append_right _ _ (by simp)]
  simp
theorem lentK_end (l : List UInt8) : lentK l l.length = lent l := by simp [lentK, lent]

theorem lent_sees {w : World} {g : Nat} {l : List UInt8} (h : Row w g (lent l)) : Sees w (some ⟨g, 1, none⟩) l := by
  have hlen : (lent l).length = l.length + 2 := by simp [lent]
  have := h.sees 1 l.length (by omega)
  simpa [lent] using this

theorem Row.below {w w' : World} {g : Nat} {l : List UInt8} (h : Row w g l) {B : Nat} (hb : Below B w w') (hB : g < B) : Row w' g l := (hb.block g hB).trans h
/-- The codec's Get, whatever the bytes. -/
theorem codGet_any (ao : Option Addr) (l : List UInt8) (cap : Nat) (w : World) (u : TypeId) (pv : Value) (hs : Sees w ao l) (hl : l.length ≤ 140737488354000) (he : Err w u pv) :
    Calls Tryz.prog 116 #[.slice ao l.length cap] w fun e w' => e = .returned (.tuple #[.int .u64 (getV l), .int .i64 (getK l)]) ∧ Below w.heap.size w w' := by
  cases hg : getN 0 0 l with
  | none =>
    have h1 : getV l = 0 := by unfold getV; rw [hg]
    have h2 : getK l = 0 := by unfold getK; rw [hg]
    rw [h1, h2]
    exact get_no ao l cap w u pv hs (by omega) hg he
  | some vr =>
    obtain ⟨v, r⟩ := vr
    have h1 : getV l = v := by unfold getV; rw [hg]
    have h2 : getK l = l.length - r.length := by unfold getK; rw [hg]
    rw [h1, h2]
    exact get_ok ao l cap w v r hs (by omega) hg
end Go.Proofs.YthihljjefncfoaaGreatDoor
namespace Go.Proofs.YthihljjefncfoaaGreatDoor
open Go.RowKit

/-- One step of the sum, without a byte. -/
def crcF (c : Nat) : Nat := (c / 2) ^^^ (if c % 2 = 1 then 3988292384 else 0)
/-- One step of the sum, with bit k of a byte. -/
def crcS (c x k : Nat) : Nat := (c / 2) ^^^ (if (c + x / 2 ^ k) % 2 = 1 then 3988292384 else 0)
/-- The first j steps. -/
def crcSs (c x : Nat) : Nat → Nat
  | 0 => c
  | j + 1 => crcS (crcSs c x j) x j
theorem xor_half (a b : Nat) : (a ^^^ b) / 2 = a / 2 ^^^ b / 2 := Nat.xor_div_two
theorem xor_par (a b : Nat) : (a ^^^ b) % 2 = (a + b) % 2 := by
  have h := Nat.testBit_xor a b 0
  simp only [Nat.testBit_zero] at h
  rcases Nat.mod_two_eq_zero_or_one a with ha | ha <;> rcases Nat.mod_two_eq_zero_or_one b with hb | hb <;> rcases Nat.mod_two_eq_zero_or_one (a ^^^ b) with hc | hc <;> simp [ha, hb, hc] at h <;> omega
theorem crcF_xor (a b : Nat) : crcF (a ^^^ b) = crcF a ^^^ crcF b := by
  unfold crcF
  rw [xor_half, xor_par]
  have e : (if (a + b) % 2 = 1 then 3988292384 else 0) = (if a % 2 = 1 then 3988292384 else 0) ^^^ (if b % 2 = 1 then 3988292384 else 0) := by
    rcases Nat.mod_two_eq_zero_or_one a with ha | ha <;> rcases Nat.mod_two_eq_zero_or_one b with hb | hb <;> simp [Nat.add_mod, ha, hb]
  rw [e]
  ac_rfl
theorem crcS_xor (c x k : Nat) : crcS c x k ^^^ x / 2 ^ (k + 1) = crcF (c ^^^ x / 2 ^ k) := by
  unfold crcS crcF
  rw [xor_half, xor_par, Nat.div_div_eq_div_mul, ← Nat.pow_succ]
  ac_rfl
theorem crcSs_xor (c x : Nat) : ∀ j, crcSs c x j ^^^ x / 2 ^ j = Nat.repeat crcF j (c ^^^ x)
  | 0 => by simp [crcSs, Nat.repeat]
  | j + 1 => by rw [crcSs, crcS_xor, crcSs_xor c x j]; rfl
theorem crcF4 (s : Nat) : crcF (crcF (crcF (crcF s))) = (s / 16) ^^^ (tabZ.getD (s % 16) 0).toNat := by
  have e : s = (16 * (s / 16)) ^^^ (s % 16) := by
    apply Nat.eq_of_testBit_eq
    intro i
    rw [Nat.testBit_xor, show 16 * (s / 16) = 2 ^ 4 * (s / 2 ^ 4) by omega, Nat.testBit_two_pow_mul, show s % 16 = s % 2 ^ 4 by omega, Nat.testBit_mod_two_pow, Nat.testBit_div_two_pow]
    by_cases hi : i < 4
    · have h2 : ¬ 4 ≤ i := by omega
      simp [hi, h2]
    · have h2 : 4 ≤ i := by omega
      have h3 : i - 4 + 4 = i := by omega
      simp [hi, h2, h3]
  have ev : ∀ n, crcF (2 * n) = n := by intro n; unfold crcF; simp
  have e16 : ∀ q, crcF (crcF (crcF (crcF (16 * q)))) = q := by
    intro q
    rw [show 16 * q = 2 * (2 * (2 * (2 * q))) by omega, ev, ev, ev, ev]
  have er : ∀ r, r < 16 → crcF (crcF (crcF (crcF r))) = (tabZ.getD r 0).toNat := by decide
  rw [e, crcF_xor, crcF_xor, crcF_xor, crcF_xor, e16, er _ (by omega), ← e]

theorem tabZ_bd (r : Nat) : 0 ≤ tabZ.getD r 0 ∧ tabZ.getD r 0 < 4294967296 := by
  rcases Nat.lt_or_ge r 16 with h | h
  · have : ∀ r, r < 16 → 0 ≤ tabZ.getD r 0 ∧ tabZ.getD r 0 < 4294967296 := by decide
    exact this r h
  · have e : tabZ.getD r 0 = 0 := by simp [List.getD, List.getElem?_eq_none (show tabZ.length ≤ r from h)]
    omega
theorem fourZ_nat (s : Nat) (h : s < 4294967296) : fourZ (s : Int) = ((crcF (crcF (crcF (crcF s))) : Nat) : Int) := by
  unfold fourZ
  have e : ((s : Int) % 16).toNat = s % 16 := by omega
  have hb := tabZ_bd (s % 16)
  rw [e, crcF4, u32_xor _ _ (by omega) (by omega) hb.1 hb.2]
  congr 2
theorem crcF_lt (c : Nat) (h : c < 4294967296) : crcF c < 4294967296 := by
  unfold crcF
  have h1 : c / 2 < 2 ^ 32 := by omega
  have h2 : (if c % 2 = 1 then 3988292384 else 0) < 2 ^ 32 := by split <;> decide
  exact Nat.xor_lt_two_pow h1 h2
theorem crcSs_lt (c x : Nat) (h : c < 4294967296) : ∀ j, crcSs c x j < 4294967296
  | 0 => h
  | j + 1 => by
    have h1 : crcSs c x j / 2 < 2 ^ 32 := by have := crcSs_lt c x h j; omega
    have h2 : (if (crcSs c x j + x / 2 ^ j) % 2 = 1 then 3988292384 else 0) < 2 ^ 32 := by split <;> decide
    exact Nat.xor_lt_two_pow h1 h2
/-- Eight steps are what the codec makes of a byte. -/
theorem byteZ_nat (c x : Nat) (hc : c < 4294967296) (hx : x < 256) : byteZ (c : Int) (x : Int) = ((crcSs c x 8 : Nat) : Int) := by
  have h8 := crcSs_xor c x 8
  rw [show x / 2 ^ 8 = 0 by omega, Nat.xor_zero] at h8
  have hcx : c ^^^ x < 4294967296 := Nat.xor_lt_two_pow (n := 32) hc (by omega)
  unfold byteZ
  rw [u32_xor_nat c x hc (by omega), fourZ_nat _ hcx, fourZ_nat _ (crcF_lt _ (crcF_lt _ (crcF_lt _ (crcF_lt _ hcx)))), h8]
  rfl
theorem bit_text (c x k : Nat) (hc : c < 4294967296) (hx : x < 256) : bits BinOp.and IntKind.u32 (bits BinOp.xor IntKind.u32 (c : Int) ((x : Int) / 2 ^ k)) 1 = (((c + x / 2 ^ k) % 2 : Nat) : Int) := by
  have hk : x / 2 ^ k < 4294967296 := Nat.lt_of_le_of_lt (Nat.div_le_self _ _) (by omega)
  have e : (x : Int) / 2 ^ k = ((x / 2 ^ k : Nat) : Int) := by simp
  have hx2 : c ^^^ x / 2 ^ k < 4294967296 := Nat.xor_lt_two_pow (n := 32) hc hk
  rw [e, u32_xor_nat c _ hc hk]
  have h := u32_and_nat (c ^^^ x / 2 ^ k) 1 hx2 (by omega)
  rw [Nat.and_one_is_mod, xor_par] at h
  exact h
theorem bit_text2 (c x k : Nat) (hc : c < 4294967296) (hx : x < 256) : bits BinOp.and IntKind.u32 (bits BinOp.xor IntKind.u32 (c : Int) ((x : Int) / 2 ^ k % 4294967296)) 1 = (((c + x / 2 ^ k) % 2 : Nat) : Int) := by
  have hk : x / 2 ^ k < 4294967296 := Nat.lt_of_le_of_lt (Nat.div_le_self _ _) (by omega)
  have e : (x : Int) / 2 ^ k = ((x / 2 ^ k : Nat) : Int) := by simp
  have e2 : (x : Int) / 2 ^ k % 4294967296 = (x : Int) / 2 ^ k := by rw [e]; generalize x / 2 ^ k = q at hk ⊢; omega
  rw [e2]
  exact bit_text c x k hc hx
theorem crcS_yes (c x k : Nat) (hc : c < 4294967296) (h : (c + x / 2 ^ k) % 2 = 1) : bits BinOp.xor IntKind.u32 ((c : Int) / 2) 3988292384 = ((crcS c x k : Nat) : Int) := by
  unfold crcS
  rw [if_pos h]
  have e := u32_xor_nat (c / 2) 3988292384 (by omega) (by omega)
  have e2 : ((c / 2 : Nat) : Int) = (c : Int) / 2 := by simp
  rw [← e, e2]
  rfl
theorem crcS_no (c x k : Nat) (h : (c + x / 2 ^ k) % 2 = 0) : (c : Int) / 2 = ((crcS c x k : Nat) : Int) := by
  unfold crcS
  rw [if_neg (by omega), Nat.xor_zero]
  simp

/-! ### Words. -/
/-- The number that bytes are, the greatest first. -/
def wordL (l : List UInt8) : Nat := l.foldl (fun w b => w * 256 + b.toNat) 0
theorem or_byte (a x : Nat) (ha : a < 16777216) (hx : x < 256) : bits BinOp.or IntKind.u32 ((a : Int) * 256) (x : Int) = ((a * 256 + x : Nat) : Int) := by
  have e : (a : Int) * 256 = ((a * 256 : Nat) : Int) := by simp
  rw [e, u32_or_nat (a * 256) x (by omega) (by omega)]
  have h := Nat.two_pow_add_eq_or_of_lt (i := 8) (b := x) (by omega) a
  rw [show 2 ^ 8 * a = a * 256 by omega] at h
  rw [h]
theorem wordL_four (x : Nat) (h : x < 4294967296) : wordL (fourL x) = x := by
  simp [wordL, fourL]
  omega
theorem wordL_lt (l : List UInt8) (h : l.length ≤ 4) : wordL l < 4294967296 := by
  have hb : ∀ b : UInt8, b.toNat < 256 := fun b => b.toNat_lt
  match l, h with
  | [], _ => decide
  | [a], _ => have := hb a; simp [wordL]; omega
  | [a, b], _ => have := hb a; have := hb b; simp [wordL]; omega
  | [a, b, c], _ => have := hb a; have := hb b; have := hb c; simp [wordL]; omega
  | [a, b, c, d], _ => have := hb a; have := hb b; have := hb c; have := hb d; simp [wordL]; omega
theorem wordL_lt3 (l : List UInt8) (h : l.length ≤ 3) : wordL l < 16777216 := by
  have hb : ∀ b : UInt8, b.toNat < 256 := fun b => b.toNat_lt
  match l, h with
  | [], _ => decide
  | [a], _ => have := hb a; simp [wordL]; omega
  | [a, b], _ => have := hb a; have := hb b; simp [wordL]; omega
  | [a, b, c], _ => have := hb a; have := hb b; have := hb c; simp [wordL]; omega
/-- What lies above, and what lies below, a bit. -/
theorem or_at (p q k : Nat) (hk : q < 2 ^ k) (hp : 2 ^ k * p + q < 4294967296) : bits BinOp.or IntKind.u32 ((2 ^ k * p : Nat) : Int) (q : Int) = ((2 ^ k * p + q : Nat) : Int) := by
  rw [u32_or_nat _ _ (by omega) (by omega), ← Nat.two_pow_add_eq_or_of_lt hk p]
theorem fourth_text (a b c d : Nat) (ha : a < 256) (hb : b < 256) (hc : c < 256) (hd : d < 256) :
    bits BinOp.or IntKind.u32 (bits BinOp.or IntKind.u32 (bits BinOp.or IntKind.u32 ((a : Int) * 16777216) ((b : Int) * 65536)) ((c : Int) * 256)) (d : Int) = (a : Int) * 16777216 + (b : Int) * 65536 + (c : Int) * 256 + (d : Int) := by
  have h1 := or_at a (b * 65536) 24 (by omega) (by omega)
  have h2 := or_at (a * 256 + b) (c * 256) 16 (by omega) (by omega)
  have h3 := or_at (a * 65536 + b * 256 + c) d 8 (by omega) (by omega)
  rw [show ((2 ^ 24 * a : Nat) : Int) = (a : Int) * 16777216 by omega, show ((b * 65536 : Nat) : Int) = (b : Int) * 65536 by omega] at h1
  rw [h1]
  rw [show ((c * 256 : Nat) : Int) = (c : Int) * 256 by omega] at h2
  rw [show ((2 ^ 24 * a + b * 65536 : Nat) : Int) = ((2 ^ 16 * (a * 256 + b) : Nat) : Int) by omega, h2]
  rw [show ((2 ^ 16 * (a * 256 + b) + c * 256 : Nat) : Int) = ((2 ^ 8 * (a * 65536 + b * 256 + c) : Nat) : Int) by omega, h3]
  omega
end Go.Proofs.YthihljjefncfoaaGreatDoor
namespace Go.Proofs.YthihljjefncfoaaGreatDoor
open Go.RowKit

set_option maxRecDepth 100000 in
set_option maxHeartbeats 1600000 in
theorem refSum_any (ao : Option Addr) (l : List UInt8) (cap : Nat) (w : World) (hs : Sees w ao l) (hl : l.length ≤ 140737488354000) :
    Calls Tryz.prog 108 #[.slice ao l.length cap] w fun e w' => e = .returned (.int .u32 (sumZ l)) ∧ w' = w := by
  have hn : ∀ a : Int, 0 ≤ a → a ≤ 4294967295 → bits BinOp.xor IntKind.u32 a 4294967295 = 4294967295 - a := fun a h0 h1 => by
    have := not_u32 a h0 h1
    rw [← this, u32_xor _ _ (by omega) (by omega) (by omega) (by omega)]
    show _ = bits BinOp.xor IntKind.u32 4294967295 a
    rw [u32_xor _ _ (by omega) (by omega) (by omega) (by omega), Nat.xor_comm]
  have Hn : Hid _ := hn
  clear hn
  go_enter Tryz.func108, Tryz.ntmps108
  go_wp2
  go_loop [3, 10] (fun t i => ∃ k : Nat, k ≤ l.length ∧ i = .int .i64 k ∧ t = .int .u32 (sumOnZ 4294967295 (l.take k))) (fun _ i => l.length - (intOf i).toNat)
  case atStart => exact ⟨0, Nat.zero_le _, rfl, rfl⟩
  case round =>
    obtain ⟨k, hk, rfl, rfl⟩ := hrel
    have hbd := sumOnZ_bd 4294967295 (l.take k) ⟨by decide, by decide⟩
    by_cases hlt : k < l.length
    · have hst : Hid (sumOnZ 4294967295 (l.take (k + 1)) = byteZ (sumOnZ 4294967295 (l.take k)) ((l.getD k 0).toNat : Int)) := sumOnZ_take 4294967295 l k hlt
      obtain ⟨b, off, rfl, hc⟩ := sees_at hs hlt
      have hx := (l.getD k 0).toNat_lt
      generalize hS : sumOnZ 4294967295 (l.take k) = S at *
      generalize (l.getD k 0).toNat = x at *
      clear hS
      obtain ⟨c, rfl⟩ := Int.eq_ofNat_of_zero_le hbd.1
      have hcl : c < 4294967296 := by omega
      have Hfin : Hid (sumOnZ 4294967295 (l.take (k + 1)) = ((crcSs c x 8 : Nat) : Int)) := hst.out.trans (byteZ_nat c x hcl (by omega))
      have Hs : Hid _ := hs
      clear hst hs
      go_wp2
      go_loop [3, 6] (fun t i => ∃ j : Nat, j ≤ 8 ∧ i = .int .i64 j ∧ t = .int .u32 (crcSs c x j)) (fun _ i => 8 - (intOf i).toNat)
      case atStart => exact ⟨0, Nat.zero_le _, rfl, rfl⟩
      case round =>
        obtain ⟨j, hj, rfl, rfl⟩ := hrel
        have hd := crcSs_lt c x hcl j
        by_cases hj8 : j < 8
        · have hbt := bit_text2 (crcSs c x j) x j hd (by omega)
          have Hstep : Hid (crcSs c x (j + 1) = crcS (crcSs c x j) x j) := rfl
          generalize crcSs c x j = d at *
          rcases Nat.mod_two_eq_zero_or_one (d + x / 2 ^ j) with h2 | h2
          · have Hno : Hid _ := crcS_no d x j h2
            rw [h2] at hbt
            clear h2
            go_wp2
            go_round
            case rel => exact ⟨j + 1, by omega, by go_num, by rw [Hstep.out, ← Hno.out]⟩
            case measure => simp [intOf]; omega
          · have Hyes : Hid _ := crcS_yes d x j hd h2
            rw [h2] at hbt
            clear h2
            go_wp2
            go_round
            case rel => exact ⟨j + 1, by omega, by go_num, by rw [Hstep.out, ← Hyes.out]⟩
            case measure => simp [intOf]; omega
        · obtain rfl : j = 8 := by omega
          go_wp2
          go_round
          case rel => exact ⟨k + 1, by omega, by go_num, by rw [Hfin.out]⟩
          case measure => simp [intOf]; omega
    · go_wp2
      go_ret
      refine ⟨ret_int ?_, rfl⟩
      rw [Hn.out _ hbd.1 hbd.2, List.take_of_length_le (by omega)]
      rfl

theorem four_any (x : Nat) (w : World) (hx : x < 4294967296) :
    Calls Tryz.prog 107 #[.int .u32 x] w fun e w' => e = .returned (.slice (some ⟨w.heap.size, 0, none⟩) 4 4) ∧ w' = w.alloc (.cells (B8 (fourL x)).toArray 5) := by
  have h0 : B8 (fourL x) = [.int .u8 ((x : Int) / 16777216), .int .u8 ((x : Int) / 65536 % 256), .int .u8 ((x : Int) / 256 % 256), .int .u8 ((x : Int) % 256)] := by
    simp [B8, fourL]
    omega
  rw [h0]
  clear h0
  go_enter Tryz.func107, Tryz.ntmps107
  go_wp2
  go_ret
  exact ⟨rfl, rfl⟩

set_option maxRecDepth 100000 in
set_option maxHeartbeats 800000 in
theorem word_any (b off n cap : Nat) (h4 : List UInt8) (w : World) (hn : 4 ≤ n) (hnm : n ≤ 140737488355328) (hl : h4.length = 4) (hs : Sees w (some ⟨b, off, none⟩) h4) :
    Calls Tryz.prog 114 #[.slice (some ⟨b, off, none⟩) n cap] w fun e w' => e = .returned (.int .u32 (wordL h4)) ∧ w' = w := by
  go_enter Tryz.func114, Tryz.ntmps114
  go_wp2
  go_loop [3, 5] (fun t i => ∃ k : Nat, k ≤ 4 ∧ i = .int .i64 k ∧ t = .int .u32 (wordL (h4.take k))) (fun _ i => 4 - (intOf i).toNat)
  case atStart => exact ⟨0, Nat.zero_le _, rfl, rfl⟩
  case round =>
    obtain ⟨k, hk, rfl, rfl⟩ := hrel
    by_cases hlt : k < 4
    · obtain ⟨b', off', e, hc⟩ := sees_at hs (n := k) (by omega)
      cases e
      have hst : Hid (wordL (h4.take (k + 1)) = wordL (h4.take k) * 256 + (h4.getD k 0).toNat) := by
        show _ = _
        rw [take_snoc h4 k (by omega)]
        unfold wordL
        rw [List.foldl_append]
        rfl
      have hw : wordL (h4.take k) < 16777216 := wordL_lt3 _ (by simp; omega)
      have hx := (h4.getD k 0).toNat_lt
      have Hor : Hid _ := or_byte (wordL (h4.take k)) (h4.getD k 0).toNat hw hx
      generalize wordL (h4.take k) = a at *
      generalize (h4.getD k 0).toNat = x at *
      go_wp2
      go_round
      case rel => exact ⟨k + 1, by omega, by go_num, by rw [hst.out, ← Hor.out]⟩
      case measure => simp [intOf]; omega
    · go_wp2
      go_ret
      exact ⟨ret_int (by rw [List.take_of_length_le (by omega)]), rfl⟩

set_option maxRecDepth 100000 in
set_option maxHeartbeats 800000 in
theorem fourth_any (b off n cap : Nat) (h4 : List UInt8) (w : World) (hn : 4 ≤ n) (hnm : n ≤ 140737488355328) (hl : h4.length = 4) (hs : Sees w (some ⟨b, off, none⟩) h4) :
    Calls Tryz.prog 117 #[.slice (some ⟨b, off, none⟩) n cap] w fun e w' => e = .returned (.int .u32 (wordL h4)) ∧ ∃ k, w' = w.drewN k := by
  match h4, hl with
  | [a, b1, c, d], _ =>
    obtain ⟨b', off', e, c0⟩ := sees_at hs (n := 0) (by simp)
    cases e
    obtain ⟨b', off', e, c1⟩ := sees_at hs (n := 1) (by simp)
    cases e
    obtain ⟨b', off', e, c2⟩ := sees_at hs (n := 2) (by simp)
    cases e
    obtain ⟨b', off', e, c3⟩ := sees_at hs (n := 3) (by simp)
    cases e
    simp only [List.getD_cons_zero, List.getD_cons_succ, Nat.add_zero] at c0 c1 c2 c3
    have Hw : Hid (((wordL [a, b1, c, d] : Nat) : Int) = (a.toNat : Int) * 16777216 + (b1.toNat : Int) * 65536 + (c.toNat : Int) * 256 + (d.toNat : Int)) := by
      show _ = _
      simp [wordL]
      omega
    have ha := a.toNat_lt
    have hb := b1.toNat_lt
    have hcc := c.toNat_lt
    have hd := d.toNat_lt
    clear hs
    go_enter Tryz.func117, Tryz.ntmps117
    go_wp2
    go_quiet (fail)
    go_wp2
    go_ret
    refine ⟨ret_int ?_, nq, rfl⟩
    rw [Hw.out]
    exact fourth_text _ _ _ _ ha hb hcc hd
end Go.Proofs.YthihljjefncfoaaGreatDoor
namespace Go.Proofs.YthihljjefncfoaaGreatDoor
open Go.RowKit

theorem getN_bd : ∀ (l : List UInt8) (i acc v : Nat) (r : List UInt8), i ≤ 9 → acc < 2 ^ (7 * i) → getN i acc l = some (v, r) → v < 18446744073709551616 ∧ r.length < l.length := by
  intro l
  induction l with
  | nil => intro i acc v r _ _ h; simp [getN] at h
  | cons b l ih =>
    intro i acc v r hi hacc h
    rw [getN] at h
    split at h
    · cases h
    · rename_i hno
      have hd := digit_bd i acc b.toNat hacc
      split at h
      · simp only [Option.some.injEq, Prod.mk.injEq] at h
        obtain ⟨rfl, rfl⟩ := h
        refine ⟨?_, by simp⟩
        rcases Nat.lt_or_ge i 9 with h1 | h1
        · have h2 : 2 ^ (7 * (i + 1)) ≤ 2 ^ 63 := Nat.pow_le_pow_right (by omega) (by omega)
          omega
        · obtain rfl : i = 9 := by omega
          have h3 : b.toNat % 128 * 2 ^ (7 * 9) ≤ 1 * 2 ^ 63 := Nat.mul_le_mul (by omega) (by decide)
          have h4 : acc < 2 ^ 63 := hacc
          omega
      · have hi' : i + 1 ≤ 9 := by omega
        have := ih (i + 1) _ v r hi' hd h
        simp only [List.length_cons]
        omega
theorem get_bd {l : List UInt8} {v : Nat} {r : List UInt8} (h : getN 0 0 l = some (v, r)) : v < 18446744073709551616 ∧ r.length < l.length := getN_bd l 0 0 v r (by omega) (by simp) h

/-- The text that bytes begin with, and what is left. -/
def textN (l : List UInt8) : Option (List UInt8 × List UInt8) := match getN 0 0 l with | none => none | some (v, r) => if v ≤ r.length then some (r.take v, r.drop v) else none
theorem textN_some {l s r' : List UInt8} (h : textN l = some (s, r')) : ∃ v r, getN 0 0 l = some (v, r) ∧ v ≤ r.length ∧ r.take v = s ∧ r.drop v = r' := by
  unfold textN at h
  split at h
  · cases h
  · rename_i v r hg
    split at h
    · rename_i hv
      simp only [Option.some.injEq, Prod.mk.injEq] at h
      exact ⟨v, r, hg, hv, h.1, h.2⟩
    · cases h
theorem textN_none {l : List UInt8} (h : textN l = none) : getN 0 0 l = none ∨ ∃ v r, getN 0 0 l = some (v, r) ∧ r.length < v := by
  unfold textN at h
  split at h
  · rename_i hg; exact .inl hg
  · rename_i v r hg
    split at h
    · cases h
    · exact .inr ⟨v, r, hg, by omega⟩
theorem textN_back (s rest : List UInt8) (h : s.length < 18446744073709551616) : textN (numL s.length ++ (s ++ rest)) = some (s, rest) := by
  unfold textN
  rw [get_back s.length h]
  simp
theorem getN_suffix : ∀ (l : List UInt8) (i acc v : Nat) (r : List UInt8), getN i acc l = some (v, r) → ∃ d, l = d ++ r := by
  intro l
  induction l with
  | nil => intro i acc v r h; simp [getN] at h
  | cons b l ih =>
    intro i acc v r h
    rw [getN] at h
    split at h
    · cases h
    · split at h
      · simp only [Option.some.injEq, Prod.mk.injEq] at h
        exact ⟨[b], by rw [h.2]; rfl⟩
      · obtain ⟨d, hd⟩ := ih _ _ _ _ h
        exact ⟨b :: d, by rw [hd]; rfl⟩
theorem getN_drop {l : List UInt8} {v : Nat} {r : List UInt8} (h : getN 0 0 l = some (v, r)) : l.drop (l.length - r.length) = r := by
  obtain ⟨d, rfl⟩ := getN_suffix l 0 0 v r h
  simp
end Go.Proofs.YthihljjefncfoaaGreatDoor
namespace Go.Proofs.YthihljjefncfoaaGreatDoor
open Go.RowKit

theorem conv_zero (w : World) (ao : Option Addr) (c : Nat) : (convert 62 9 (.slice ao 0 c)).run Tryz.prog w = .ok (.string ⟨#[]⟩) w := by
  have := conv_sees (w := w) (ao := ao) (l := []) (Sees.nil _ _) (fun _ => rfl) c
  exact this

theorem sees_cut {w : World} {b off : Nat} {l : List UInt8} (h : Sees w (some ⟨b, off, none⟩) l) (m v : Nat) (hv : m + v ≤ l.length) : Sees w (some ⟨b, off + m, none⟩) ((l.drop m).take v) := by
  intro i hi
  rw [List.length_take, List.length_drop] at hi
  obtain ⟨a, e, hc⟩ := h (m + i) (by omega)
  obtain rfl := Option.some.inj e
  refine ⟨_, rfl, ?_⟩
  rw [Addr.add_lit] at hc ⊢
  rw [Nat.add_assoc, hc]
  have : i < v := by omega
  simp [List.getD, this]

theorem err_grown {w w' : World} {u : TypeId} {pv : Value} {R : Nat} (he : Err w u pv) (hg : w.grownBy w' (some R)) (hER : R ≠ 1) : Err w' u pv := by
  unfold Err at he ⊢
  rw [World.cell?_of_block (hg.block _ (World.block_lt_of_cell? _ _ he) (fun e => hER (Option.some.inj e).symm)), he]

end Go.Proofs.YthihljjefncfoaaGreatDoor
namespace Go.Proofs.YthihljjefncfoaaGreatDoor
open Go.RowKit

/-- The count, the error, how many bytes, and the content of the frame that bytes begin with. -/
def unfC (l : List UInt8) : Nat := wordL (l.take 4)
def unfE (l : List UInt8) : Nat :=
  if l.length < 8 then 10 else if 262144 < unfC l then 6 else if l.length < 8 + unfC l then 10
  else if (wordL ((l.drop 4).take 4) : Int) ≠ sumZ (l.take 4 ++ (l.drop 8).take (unfC l)) then 8 else 0
def unfN (l : List UInt8) : Nat := if unfE l = 0 then 8 + unfC l else 0
def unfB (l : List UInt8) : List UInt8 := if unfE l = 0 then (l.drop 8).take (unfC l) else []
theorem unf_bad (l : List UInt8) {e : Nat} (h : unfE l = e) (he : e ≠ 0) : unfN l = 0 ∧ unfB l = [] := by
  unfold unfN unfB
  rw [if_neg (by omega), if_neg (by omega)]
  exact ⟨rfl, rfl⟩

theorem sees_take {w : World} {b off : Nat} {l : List UInt8} (h : Sees w (some ⟨b, off, none⟩) l) (v : Nat) (hv : v ≤ l.length) : Sees w (some ⟨b, off, none⟩) (l.take v) := by
  have := sees_cut h 0 v (by omega)
  simpa using this

set_option maxRecDepth 100000 in
set_option maxHeartbeats 1600000 in
theorem unframe_any (ao : Option Addr) (l : List UInt8) (cap : Nat) (w : World) (hs : Sees w ao l) (hl : l.length ≤ 140737488354000) (hcap : l.length ≤ cap) (hcm : cap ≤ 9223372036854775807) (ht : Tab w) :
    Calls Tryz.prog 85 #[.slice ao l.length cap] w fun e w' => ∃ v', e = .returned (.tuple #[v', .int .i64 (unfN l), .int .i64 (unfE l)]) ∧ w'.ownsRow w.heap.size 5 1 v' (unfB l).length (B8 (unfB l)) ∧ Below w.heap.size w w' := by
  by_cases h8 : l.length < 8
  · have hE : unfE l = 10 := by unfold unfE; rw [if_pos h8]
    obtain ⟨hN, hB⟩ := unf_bad l hE (by decide)
    rw [hE, hN, hB]
    clear hE hN hB
    go_enter Tryz.func85, Tryz.ntmps85
    go_wp2
    go_ret3
    exact ⟨_, rfl, World.ownsRow_nil _ _ _ _, Below.refl _ _⟩
  obtain ⟨b, off, rfl, _⟩ := sees_at hs (n := 0) (by omega)
  have Hw1 : Hid _ := word_any b off l.length cap (l.take 4) w (by omega) (by omega) (by simp; omega) (sees_take hs 4 (by omega))
  have hC4 : unfC l < 4294967296 := wordL_lt _ (by simp; omega)
  by_cases hbig : 262144 < unfC l
  · have hE : unfE l = 6 := by unfold unfE; rw [if_neg h8, if_pos hbig]
    obtain ⟨hN, hB⟩ := unf_bad l hE (by decide)
    rw [hE, hN, hB]
    clear hE hN hB
    have e : wordL (l.take 4) = unfC l := rfl
    rw [e] at Hw1
    clear e
    generalize unfC l = C at *
    go_enter Tryz.func85, Tryz.ntmps85
    go_wp2_with fail
    refine Calls.mono (Hid.out Hw1) ?_
    rintro e w' ⟨rfl, rfl⟩
    go_wp2_with fail
    go_ret3
    exact ⟨_, rfl, World.ownsRow_nil _ _ _ _, Below.refl _ _⟩
  by_cases hshort : l.length < 8 + unfC l
  · have hE : unfE l = 10 := by unfold unfE; rw [if_neg h8, if_neg hbig, if_pos hshort]
    obtain ⟨hN, hB⟩ := unf_bad l hE (by decide)
    rw [hE, hN, hB]
    clear hE hN hB
    have e : wordL (l.take 4) = unfC l := rfl
    rw [e] at Hw1
    clear e
    generalize unfC l = C at *
    go_enter Tryz.func85, Tryz.ntmps85
    go_wp2_with fail
    refine Calls.mono (Hid.out Hw1) ?_
    rintro e w' ⟨rfl, rfl⟩
    go_wp2_with fail
    go_ret3
    exact ⟨_, rfl, World.ownsRow_nil _ _ _ _, Below.refl _ _⟩
  have Hw2 : Hid _ := word_any b (off + 4) (l.length - 4) (cap - 4) ((l.drop 4).take 4) w (by omega) (by omega) (by simp; omega) (sees_cut hs 4 4 (by omega))
  obtain ⟨S, hS⟩ : ∃ S, sumZ (l.take 4 ++ (l.drop 8).take (unfC l)) = S := ⟨_, rfl⟩
  obtain ⟨co, hco, hcs, hcn, hcc⟩ : ∃ co : Option Addr, (cap = 8 → co = some ⟨b, off, none⟩) ∧ Sees w co ((l.drop 8).take (unfC l)) ∧ (co = none → ((l.drop 8).take (unfC l)).length = 0) ∧ (cap ≠ 8 → co = some ⟨b, off + 8, none⟩) := by
    by_cases hc8 : cap = 8
    · have h0 : unfC l = 0 := by omega
      refine ⟨some ⟨b, off, none⟩, fun _ => rfl, ?_, (fun h => by cases h), fun h => absurd hc8 h⟩
      rw [h0]
      exact Sees.nil _ _
    · exact ⟨some ⟨b, off + 8, none⟩, fun h => absurd h hc8, sees_cut hs 8 _ (by omega), (fun h => by cases h), fun _ => rfl⟩
  have hclen : ((l.drop 8).take (unfC l)).length = unfC l := by simp; omega
  have Hfs : Hid _ := frameSum_any b off l.length cap (l.take 4) co ((l.drop 8).take (unfC l)) (cap - 8) w (by omega) hcap (by omega) (by simp; omega) (sees_take hs 4 (by omega)) hcs (by omega) ht
  have Hcp : Hid _ := copyWithRoom_any co ((l.drop 8).take (unfC l)) (cap - 8) 0 w hcs hcn (by omega)
  rw [hclen] at Hfs Hcp
  rw [hS] at Hfs
  have e4 : wordL (l.take 4) = unfC l := rfl
  rw [e4] at Hw1
  have hWl : wordL ((l.drop 4).take 4) < 4294967296 := wordL_lt _ (by simp; omega)
  obtain ⟨V, hV⟩ : ∃ V, wordL ((l.drop 4).take 4) = V := ⟨_, rfl⟩
  rw [hV] at Hw2 hWl
  by_cases hne : (V : Int) ≠ S
  · have hE : unfE l = 8 := by unfold unfE; rw [if_neg h8, if_neg hbig, if_neg hshort, if_pos (by rw [hV, hS]; exact hne)]
    obtain ⟨hN, hB⟩ := unf_bad l hE (by decide)
    rw [hE, hN, hB]
    have hneb : ((V : Int) != S) = true := by simpa using hne
    clear hE hN hB e4 hV hS hclen Hcp hcn hcs hne
    generalize unfC l = C at *
    by_cases hc8 : cap = 8
    · obtain rfl := hco hc8
      obtain rfl : C = 0 := by omega
      subst hc8
      clear hco hcc
      go_enter Tryz.func85, Tryz.ntmps85
      go_wp2_with fail
      refine Calls.mono (Hid.out Hw1) ?_
      rintro e w' ⟨rfl, rfl⟩
      go_wp2_with fail
      refine Calls.mono (Hid.out Hw2) ?_
      rintro e w' ⟨rfl, rfl⟩
      go_wp2_with fail
      refine Calls.mono (Hid.out Hfs) ?_
      rintro e w' ⟨rfl, rfl⟩
      go_wp2_with fail
      go_ret3
      exact ⟨_, rfl, World.ownsRow_nil _ _ _ _, Below.refl _ _⟩
    · obtain rfl := hcc hc8
      clear hco hcc
      go_enter Tryz.func85, Tryz.ntmps85
      go_wp2_with fail
      refine Calls.mono (Hid.out Hw1) ?_
      rintro e w' ⟨rfl, rfl⟩
      go_wp2_with fail
      refine Calls.mono (Hid.out Hw2) ?_
      rintro e w' ⟨rfl, rfl⟩
      go_wp2_with fail
      refine Calls.mono (Hid.out Hfs) ?_
      rintro e w' ⟨rfl, rfl⟩
      go_wp2_with fail
      go_ret3
      exact ⟨_, rfl, World.ownsRow_nil _ _ _ _, Below.refl _ _⟩
  · obtain rfl : (V : Int) = S := by omega
    have hE : unfE l = 0 := by unfold unfE; rw [if_neg h8, if_neg hbig, if_neg hshort, if_neg (by rw [hV, hS]; exact hne)]
    have hN : unfN l = 8 + unfC l := by unfold unfN; rw [if_pos hE]
    have hB : unfB l = (l.drop 8).take (unfC l) := by unfold unfB; rw [if_pos hE]
    rw [hE, hN, hB, hclen]
    have hneb : ((V : Int) != (V : Int)) = false := by simp
    clear hE hN hB e4 hV hS hclen hcn hcs hne
    generalize (l.drop 8).take (unfC l) = D at *
    generalize unfC l = C at *
    by_cases hc8 : cap = 8
    · obtain rfl := hco hc8
      obtain rfl : C = 0 := by omega
      subst hc8
      clear hco hcc
      go_enter Tryz.func85, Tryz.ntmps85
      go_wp2_with fail
      refine Calls.mono (Hid.out Hw1) ?_
      rintro e w' ⟨rfl, rfl⟩
      go_wp2_with fail
      refine Calls.mono (Hid.out Hw2) ?_
      rintro e w' ⟨rfl, rfl⟩
      go_wp2_with fail
      refine Calls.mono (Hid.out Hfs) ?_
      rintro e w' ⟨rfl, rfl⟩
      go_wp2_with fail
      refine Calls.mono (Hid.out Hcp) ?_
      rintro e w1 ⟨v1, rfl, ho1, hb1⟩
      go_wp2_with fail
      go_ret3
      exact ⟨_, rfl, ho1, hb1⟩
    · obtain rfl := hcc hc8
      clear hco hcc
      go_enter Tryz.func85, Tryz.ntmps85
      go_wp2_with fail
      refine Calls.mono (Hid.out Hw1) ?_
      rintro e w' ⟨rfl, rfl⟩
      go_wp2_with fail
      refine Calls.mono (Hid.out Hw2) ?_
      rintro e w' ⟨rfl, rfl⟩
      go_wp2_with fail
      refine Calls.mono (Hid.out Hfs) ?_
      rintro e w' ⟨rfl, rfl⟩
      go_wp2_with fail
      refine Calls.mono (Hid.out Hcp) ?_
      rintro e w1 ⟨v1, rfl, ho1, hb1⟩
      go_wp2_with fail
      go_ret3
      exact ⟨_, rfl, ho1, hb1⟩
end Go.Proofs.YthihljjefncfoaaGreatDoor
namespace Go.Proofs.YthihljjefncfoaaGreatDoor
open Go.RowKit

theorem xor_cancel {a b c : Nat} (h : a ^^^ c = b ^^^ c) : a = b := by
  have : (a ^^^ c) ^^^ c = (b ^^^ c) ^^^ c := by rw [h]
  simpa [Nat.xor_assoc] using this
theorem crcF_inj {a b : Nat} (ha : a < 4294967296) (hb : b < 4294967296) (h : crcF a = crcF b) : a = b := by
  have top : ∀ c : Nat, c < 4294967296 → (crcF c).testBit 31 = decide (c % 2 = 1) := by
    intro c hc
    unfold crcF
    rw [Nat.testBit_xor, Nat.testBit_lt_two_pow (show c / 2 < 2 ^ 31 by omega)]
    split
    · rename_i h1; simp [h1]; decide
    · rename_i h1; simp [h1]
  have h1 := top a ha
  rw [h, top b hb] at h1
  have hp : a % 2 = b % 2 := by
    rcases Nat.mod_two_eq_zero_or_one a with h2 | h2 <;> rcases Nat.mod_two_eq_zero_or_one b with h3 | h3 <;> simp [h2, h3] at h1 <;> omega
  unfold crcF at h
  rw [hp] at h
  have := xor_cancel h
  omega
theorem rep_lt (c : Nat) (h : c < 4294967296) : ∀ j, Nat.repeat crcF j c < 4294967296
  | 0 => h
  | j + 1 => crcF_lt _ (rep_lt c h j)
theorem rep_inj {a b : Nat} (ha : a < 4294967296) (hb : b < 4294967296) : ∀ j, Nat.repeat crcF j a = Nat.repeat crcF j b → a = b
  | 0, h => h
  | j + 1, h => rep_inj ha hb j (crcF_inj (rep_lt a ha j) (rep_lt b hb j) h)
theorem crc8 (c x : Nat) (hx : x < 256) : crcSs c x 8 = Nat.repeat crcF 8 (c ^^^ x) := by
  have h8 := crcSs_xor c x 8
  rwa [show x / 2 ^ 8 = 0 by omega, Nat.xor_zero] at h8
theorem crc8_left {a b x : Nat} (ha : a < 4294967296) (hb : b < 4294967296) (hx : x < 256) (h : crcSs a x 8 = crcSs b x 8) : a = b := by
  rw [crc8 a x hx, crc8 b x hx] at h
  exact xor_cancel (rep_inj (Nat.xor_lt_two_pow (n := 32) ha (by omega)) (Nat.xor_lt_two_pow (n := 32) hb (by omega)) 8 h)
theorem crc8_right {c x y : Nat} (hc : c < 4294967296) (hx : x < 256) (hy : y < 256) (h : crcSs c x 8 = crcSs c y 8) : x = y := by
  rw [crc8 c x hx, crc8 c y hy] at h
  have h1 := rep_inj (Nat.xor_lt_two_pow (n := 32) hc (by omega)) (Nat.xor_lt_two_pow (n := 32) hc (by omega)) 8 h
  rw [Nat.xor_comm c x, Nat.xor_comm c y] at h1
  exact xor_cancel h1
/-- The sum, over Nat. -/
def sumN (c : Nat) (l : List UInt8) : Nat := l.foldl (fun c b => crcSs c b.toNat 8) c
theorem sumN_lt (l : List UInt8) : ∀ c, c < 4294967296 → sumN c l < 4294967296 := by
  induction l with
  | nil => intro c h; exact h
  | cons b l ih => intro c h; exact ih _ (crcSs_lt c _ h 8)
theorem sumOnZ_nat (l : List UInt8) : ∀ c : Nat, c < 4294967296 → sumOnZ (c : Int) l = ((sumN c l : Nat) : Int) := by
  induction l with
  | nil => intro c _; rfl
  | cons b l ih =>
    intro c h
    show sumOnZ (byteZ (c : Int) (b.toNat : Int)) l = _
    rw [byteZ_nat c b.toNat h b.toNat_lt, ih _ (crcSs_lt c _ h 8)]
    rfl
theorem sumN_inj (l : List UInt8) : ∀ a b, a < 4294967296 → b < 4294967296 → sumN a l = sumN b l → a = b := by
  induction l with
  | nil => intro a b _ _ h; exact h
  | cons x l ih =>
    intro a b ha hb h
    exact crc8_left ha hb x.toNat_lt (ih _ _ (crcSs_lt a _ ha 8) (crcSs_lt b _ hb 8) h)
theorem sumN_byte (a b : List UInt8) (x y : UInt8) (c : Nat) (hc : c < 4294967296) (h : sumN c (a ++ x :: b) = sumN c (a ++ y :: b)) : x = y := by
  unfold sumN at h
  rw [List.foldl_append, List.foldl_append, List.foldl_cons, List.foldl_cons] at h
  have hca := sumN_lt a c hc
  have h1 := sumN_inj b _ _ (crcSs_lt _ _ hca 8) (crcSs_lt _ _ hca 8) h
  have h2 := crc8_right hca x.toNat_lt y.toNat_lt h1
  exact UInt8.toNat_inj.1 h2
/-- A byte that was changed changes the sum. -/
theorem sumZ_byte (a b : List UInt8) (x y : UInt8) (h : sumZ (a ++ x :: b) = sumZ (a ++ y :: b)) : x = y := by
  unfold sumZ at h
  have e : (4294967295 : Int) = ((4294967295 : Nat) : Int) := rfl
  rw [e, sumOnZ_nat _ _ (by decide), sumOnZ_nat _ _ (by decide)] at h
  exact sumN_byte a b x y 4294967295 (by decide) (by omega)

theorem frame_count (l : List UInt8) (hl : l.length ≤ 262144) (r : List UInt8) : unfC (frameL l ++ r) = l.length := by
  unfold unfC
  have e : (frameL l ++ r).take 4 = fourL l.length := by simp [frameL, fourL]
  rw [e, wordL_four _ (by omega)]
/-- A beginning of a frame. -/
theorem tells_cut (l : List UInt8) (hl : l.length ≤ 262144) (m : Nat) (hm : m < l.length + 8) : unfE ((frameL l).take m) = 10 := by
  have hlen : ((frameL l).take m).length = m := by rw [List.length_take, frameL_length]; omega
  unfold unfE
  rw [hlen]
  by_cases h8 : m < 8
  · rw [if_pos h8]
  · have hc : unfC ((frameL l).take m) = l.length := by
      unfold unfC
      rw [List.take_take, Nat.min_eq_left (by omega)]
      have := frame_count l hl []
      unfold unfC at this
      simpa using this
    rw [if_neg h8, hc, if_neg (by omega), if_pos (by omega)]
theorem sum_nat (l : List UInt8) : ((sumZ l).toNat : Int) = sumZ l ∧ (sumZ l).toNat < 4294967296 := by
  have := sumZ_bd l
  omega
/-- A whole frame, whatever stands behind it. -/
theorem tells_whole (l : List UInt8) (hl : l.length ≤ 262144) (r : List UInt8) : unfE (frameL l ++ r) = 0 ∧ unfN (frameL l ++ r) = l.length + 8 ∧ unfB (frameL l ++ r) = l := by
  have hc := frame_count l hl r
  have hlen : (frameL l ++ r).length = l.length + 8 + r.length := by rw [List.length_append, frameL_length]
  have hn := sum_nat (fourL l.length ++ l)
  have h4 : (frameL l ++ r).take 4 = fourL l.length := by simp [frameL, fourL]
  have h44 : ((frameL l ++ r).drop 4).take 4 = fourL (sumZ (fourL l.length ++ l)).toNat := by simp [frameL, fourL]
  have h8 : ((frameL l ++ r).drop 8).take l.length = l := by simp [frameL, fourL]
  have hE : unfE (frameL l ++ r) = 0 := by
    unfold unfE
    rw [hlen, hc, if_neg (by omega), if_neg (by omega), if_neg (by omega), h44, wordL_four _ hn.2, h4, h8, if_neg]
    intro h
    exact h hn.1
  refine ⟨hE, ?_, ?_⟩
  · unfold unfN; rw [if_pos hE, hc]; omega
  · unfold unfB; rw [if_pos hE, hc, h8]
theorem wordL_inj {a b c d a' b' c' d' : UInt8} (h : wordL [a, b, c, d] = wordL [a', b', c', d']) : a = a' ∧ b = b' ∧ c = c' ∧ d = d' := by
  have q : ∀ x : UInt8, x.toNat < 256 := fun x => x.toNat_lt
  have := q a; have := q b; have := q c; have := q d; have := q a'; have := q b'; have := q c'; have := q d'
  simp [wordL] at h
  refine ⟨UInt8.toNat_inj.1 ?_, UInt8.toNat_inj.1 ?_, UInt8.toNat_inj.1 ?_, UInt8.toNat_inj.1 ?_⟩ <;> omega
theorem wordL_set (q : List UInt8) (hq : q.length = 4) (j : Nat) (hj : j < 4) (y : UInt8) (hy : y ≠ q.getD j 0) : wordL (q.set j y) ≠ wordL q := by
  match q, hq with
  | [a, b, c, d], _ =>
    intro h
    rcases (show j = 0 ∨ j = 1 ∨ j = 2 ∨ j = 3 by omega) with rfl | rfl | rfl | rfl
    · exact hy (wordL_inj h).1
    · exact hy (wordL_inj h).2.1
    · exact hy (wordL_inj h).2.2.1
    · exact hy (wordL_inj h).2.2.2
/-- A frame one byte of which behind its count was changed. -/
theorem tells_turned (l : List UInt8) (hl : l.length ≤ 262144) (i : Nat) (hi4 : 4 ≤ i) (hi : i < l.length + 8) (y : UInt8) (hy : y ≠ (frameL l).getD i 0) : unfE ((frameL l).set i y) = 8 := by
  have hn := sum_nat (fourL l.length ++ l)
  have hlen : ((frameL l).set i y).length = l.length + 8 := by rw [List.length_set, frameL_length]
  have hc : unfC ((frameL l).set i y) = l.length := by
    unfold unfC
    rw [List.take_set_of_le (by omega)]
    have := frame_count l hl []
    unfold unfC at this
    simpa using this
  have h4 : ((frameL l).set i y).take 4 = fourL l.length := by
    rw [List.take_set_of_le (by omega)]
    simp [frameL, fourL]
  unfold unfE
  rw [hlen, hc, if_neg (by omega), if_neg (by omega), if_neg (by omega), h4, if_pos]
  generalize hS : (sumZ (fourL l.length ++ l)).toNat = S at *
  have hf : frameL l = fourL l.length ++ (fourL S ++ l) := by unfold frameL; rw [hS]
  have hp4 : (fourL l.length).length = 4 := rfl
  have hq4 : (fourL S).length = 4 := rfl
  rw [hf] at hy ⊢
  generalize fourL l.length = p at *
  have hw := wordL_four S hn.2
  generalize fourL S = q at *
  by_cases h8 : i < 8
  · have e : (p ++ (q ++ l)).set i y = p ++ (q.set (i - 4) y ++ l) := by
      rw [List.set_append_right _ _ (by omega), hp4, List.set_append_left _ _ (by omega)]
    have e1 : ((p ++ (q.set (i - 4) y ++ l)).drop 4).take 4 = q.set (i - 4) y := by
      rw [List.drop_append_of_le_length (by omega), List.drop_of_length_le (by omega), List.nil_append, List.take_append_of_le_length (by rw [List.length_set]; omega), List.take_of_length_le (by rw [List.length_set]; omega)]
    have e2 : ((p ++ (q.set (i - 4) y ++ l)).drop 8).take l.length = l := by
      rw [← List.append_assoc, List.drop_append_of_le_length (by rw [List.length_append, List.length_set]; omega), List.drop_of_length_le (by rw [List.length_append, List.length_set]; omega), List.nil_append, List.take_of_length_le (Nat.le_refl _)]
    rw [e, e1, e2, ← hn.1]
    have hy' : y ≠ q.getD (i - 4) 0 := by
      intro h
      apply hy
      rw [h]
      simp only [List.getD_eq_getElem?_getD]
      rw [List.getElem?_append_right (by omega), hp4, List.getElem?_append_left (by omega)]
    have := wordL_set q hq4 (i - 4) (by omega) y hy'
    rw [hw] at this
    omega
  · obtain ⟨j, rfl⟩ : ∃ j, i = 8 + j := ⟨i - 8, by omega⟩
    have hj : j < l.length := by omega
    have e : (p ++ (q ++ l)).set (8 + j) y = p ++ (q ++ l.set j y) := by
      rw [List.set_append_right _ _ (by omega), hp4, List.set_append_right _ _ (by omega), hq4]
      congr 3
      omega
    have e1 : ((p ++ (q ++ l.set j y)).drop 4).take 4 = q := by
      rw [List.drop_append_of_le_length (by omega), List.drop_of_length_le (by omega), List.nil_append, List.take_append_of_le_length (by omega), List.take_of_length_le (by omega)]
    have e2 : ((p ++ (q ++ l.set j y)).drop 8).take l.length = l.set j y := by
      rw [← List.append_assoc, List.drop_append_of_le_length (by rw [List.length_append]; omega), List.drop_of_length_le (by rw [List.length_append]; omega), List.nil_append, List.take_of_length_le (by rw [List.length_set]; omega)]
    rw [e, e1, e2, hw, hn.1]
    intro h
    have hy' : y ≠ l[j] := by
      intro h'
      apply hy
      rw [h']
      simp only [List.getD_eq_getElem?_getD]
      rw [List.getElem?_append_right (by omega), hp4, List.getElem?_append_right (by omega), hq4, show 8 + j - 4 - 4 = j by omega, List.getElem?_eq_getElem hj]
      rfl
    apply hy'
    have s1 : l = l.take j ++ l[j] :: l.drop (j + 1) := by rw [← List.drop_eq_getElem_cons hj, List.take_append_drop]
    have s2 : l.set j y = l.take j ++ y :: l.drop (j + 1) := by rw [List.set_eq_take_append_cons_drop, if_pos hj]
    have h3 : sumZ ((p ++ l.take j) ++ y :: l.drop (j + 1)) = sumZ ((p ++ l.take j) ++ l[j] :: l.drop (j + 1)) := by
      rw [List.append_assoc, List.append_assoc, ← s2, ← s1, h]
    exact sumZ_byte _ _ _ _ h3
/-- A byte one bit of which was turned. -/
theorem flip_text (x : UInt8) (j : Nat) (hj : j < 8) : ∃ y : UInt8, (y.toNat : Int) = bits BinOp.xor IntKind.u8 (x.toNat : Int) (2 ^ j % 256) ∧ y ≠ x := by
  have hx : x.toNat < 256 := x.toNat_lt
  have h2 : 2 ^ j ≤ 2 ^ 7 := Nat.pow_le_pow_right (by omega) (by omega)
  have h2p : 0 < 2 ^ j := Nat.pow_pos (by omega)
  have e : (2 : Int) ^ j % 256 = ((2 ^ j : Nat) : Int) := by
    have e1 : (2 : Int) ^ j = ((2 ^ j : Nat) : Int) := by simp
    rw [e1]
    generalize 2 ^ j = q at *
    omega
  have hlt : x.toNat ^^^ 2 ^ j < 256 := Nat.xor_lt_two_pow (n := 8) hx (by omega)
  refine ⟨UInt8.ofNat (x.toNat ^^^ 2 ^ j), ?_, ?_⟩
  · rw [e, u8_xor_nat _ _ hx (by omega), byte_val _ hlt]
  · intro h
    have h3 := congrArg UInt8.toNat h
    have h4 : (UInt8.ofNat (x.toNat ^^^ 2 ^ j)).toNat = x.toNat ^^^ 2 ^ j := ofNat_toNat8 _ hlt
    rw [h4] at h3
    have h5 : (2 ^ j) ^^^ x.toNat = 0 ^^^ x.toNat := by rw [Nat.xor_comm, h3]; simp
    have := xor_cancel h5
    omega
end Go.Proofs.YthihljjefncfoaaGreatDoor
namespace Go.Proofs.YthihljjefncfoaaGreatDoor
open Go.RowKit

/-- A manifest, without its memory. -/
structure Mf where
  ts : List Int
  nx : Int
  fr : Int
def possZ (n : Int) : Bool := decide (1 ≤ n) && decide (n ≤ 999999999)
theorem possZ_iff {n : Int} : possZ n = true ↔ 1 ≤ n ∧ n ≤ 999999999 := by simp [possZ]
/-- May the i-th table be? -/
def okT (ts : List Int) (nx : Int) (i : Nat) : Bool := decide (1 ≤ ts.getD i 0) && decide (ts.getD i 0 < nx) && !((ts.take i).contains (ts.getD i 0))
/-- P13.1. -/
def goodM (m : Mf) : Bool := possZ m.nx && possZ m.fr && decide (m.ts.length ≤ 30) && (List.range m.ts.length).all (okT m.ts m.nx)
theorem goodM_iff {m : Mf} : goodM m = true ↔ (1 ≤ m.nx ∧ m.nx ≤ 999999999) ∧ (1 ≤ m.fr ∧ m.fr ≤ 999999999) ∧ m.ts.length ≤ 30 ∧ ∀ i, i < m.ts.length → okT m.ts m.nx i = true := by
  unfold goodM
  rw [Bool.and_eq_true, Bool.and_eq_true, Bool.and_eq_true, possZ_iff, possZ_iff, decide_eq_true_eq, List.all_eq_true]
  simp only [List.mem_range, and_assoc]
def listM (m : Mf) : List Int := m.nx :: m.fr :: (m.ts.length : Int) :: m.ts
def numsB (l : List Int) : List UInt8 := l.flatMap fun n => numL n.toNat
def contM (m : Mf) : List UInt8 := numsB (listM m)
/-- P13.2, a manifest in bytes. -/
def encM (m : Mf) : List UInt8 := frameL (contM m)
def Bdd (l : List Int) : Prop := ∀ n ∈ l, 0 ≤ n ∧ n ≤ 999999999
theorem Bdd.cons {n : Int} {l : List Int} (h : Bdd (n :: l)) : (0 ≤ n ∧ n ≤ 999999999) ∧ Bdd l := ⟨h n (by simp), fun x hx => h x (List.mem_cons_of_mem _ hx)⟩
theorem good_bdd {m : Mf} (h : goodM m = true) : Bdd (listM m) := by
  obtain ⟨h1, h2, h3, h4⟩ := goodM_iff.1 h
  intro n hn
  simp only [listM, List.mem_cons] at hn
  rcases hn with rfl | rfl | rfl | hn
  · omega
  · omega
  · omega
  · obtain ⟨i, hi, rfl⟩ := List.getElem_of_mem hn
    have := h4 i hi
    unfold okT at this
    rw [Bool.and_eq_true, Bool.and_eq_true, decide_eq_true_eq, decide_eq_true_eq, List.getD_eq_getElem?_getD, List.getElem?_eq_getElem hi] at this
    simp only [Option.getD_some] at this
    omega
theorem numsB_nil : numsB [] = [] := rfl
theorem numsB_cons (n : Int) (l : List Int) : numsB (n :: l) = numL n.toNat ++ numsB l := rfl
theorem numsB_app (a b : List Int) : numsB (a ++ b) = numsB a ++ numsB b := List.flatMap_append
theorem numsB_len (l : List Int) : (numsB l).length ≤ 10 * l.length := by
  induction l with
  | nil => simp [numsB]
  | cons n l ih =>
    have := numL_length n.toNat
    rw [numsB_cons, List.length_append, List.length_cons]; omega
theorem contM_len (m : Mf) : (contM m).length ≤ 10 * (m.ts.length + 3) := by
  have := numsB_len (listM m)
  simp only [listM, List.length_cons] at this
  unfold contM listM; omega
theorem good_len {m : Mf} (h : goodM m = true) : (contM m).length ≤ 330 := by
  obtain ⟨h1, h2, h3, h4⟩ := goodM_iff.1 h
  have := contM_len m
  omega
theorem encM_len (m : Mf) : (encM m).length = (contM m).length + 8 := frameL_length _
theorem numsB_ne {n : Int} {l : List Int} : numsB (n :: l) ≠ [] := fun e => by
  have := numL_length n.toNat
  rw [numsB_cons] at e
  have h2 := congrArg List.length e
  rw [List.length_append] at h2
  simp only [List.length_nil] at h2
  omega
theorem numsB_get {n : Int} (h : 0 ≤ n ∧ n ≤ 999999999) (r : List UInt8) : getN 0 0 (numL n.toNat ++ r) = some (n.toNat, r) := get_back n.toNat (by omega) r
/-- Numbers' bytes begin with the same numbers. -/
theorem numsB_pre : ∀ (l l' : List Int) (r : List UInt8), Bdd l → Bdd l' → numsB l ++ r = numsB l' → ∃ l'', l' = l ++ l'' ∧ r = numsB l''
  | [], l', r, _, _, h => ⟨l', rfl, h⟩
  | n :: l, [], r, _, _, h => by
    exfalso
    have h2 : numsB (n :: l) = [] := (List.append_eq_nil_iff.1 (by rw [numsB_nil] at h; exact h)).1
    exact numsB_ne h2
  | n :: l, n' :: l', r, hl, hl', h => by
    obtain ⟨hn, hl⟩ := hl.cons
    obtain ⟨hn', hl'⟩ := hl'.cons
    rw [numsB_cons, numsB_cons, List.append_assoc] at h
    have e1 := numsB_get hn (numsB l ++ r)
    rw [h, numsB_get hn'] at e1
    simp only [Option.some.injEq, Prod.mk.injEq] at e1
    obtain ⟨e1, e2⟩ := e1
    obtain ⟨l'', e3, e4⟩ := numsB_pre l l' r hl hl' e2.symm
    exact ⟨l'', by rw [e3, show n' = n by omega]; rfl, e4⟩
theorem numsB_inj {l l' : List Int} (hl : Bdd l) (hl' : Bdd l') (h : numsB l = numsB l') : l = l' := by
  obtain ⟨l'', e1, e2⟩ := numsB_pre l l' [] hl hl' (by rw [List.append_nil]; exact h)
  cases l'' with
  | nil => rw [e1, List.append_nil]
  | cons n t => exact absurd e2.symm numsB_ne
/-- What does not go on with a number ends no numbers' bytes. -/
theorem numsB_stop {l l' : List Int} {r : List UInt8} (hl : Bdd l) (hl' : Bdd l') (h : numsB l ++ r = numsB l') (hr : r ≠ []) : getK r ≠ 0 ∧ getV r ≤ 999999999 := by
  obtain ⟨l'', rfl, e2⟩ := numsB_pre l l' r hl hl' h
  cases l'' with
  | nil => exact absurd e2 hr
  | cons n t =>
    have hn : 0 ≤ n ∧ n ≤ 999999999 := hl' n (by simp)
    have hg := numsB_get hn (numsB t)
    rw [numsB_cons] at e2
    have := numL_length n.toNat
    rw [e2]
    unfold getK getV
    rw [hg]
    dsimp only
    rw [List.length_append]
    omega

/-! ### the program's reading -/
def tkV (c : List UInt8) : Nat := min (getV c) 1000000000
def tkR (c : List UInt8) : List UInt8 := c.drop (getK c)
def tks : Nat → List UInt8 → List Int
  | 0, _ => []
  | k + 1, c => (tkV c : Int) :: tks k (tkR c)
def tkRs : Nat → List UInt8 → List UInt8
  | 0, c => c
  | k + 1, c => tkRs k (tkR c)
theorem tks_len (k : Nat) : ∀ c, (tks k c).length = k := by
  induction k with
  | zero => intro c; rfl
  | succ k ih => intro c; simp [tks, ih]
theorem tks_snoc (k : Nat) : ∀ c, tks (k + 1) c = tks k c ++ [(tkV (tkRs k c) : Int)] ∧ tkRs (k + 1) c = tkR (tkRs k c) := by
  induction k with
  | zero => intro c; exact ⟨rfl, rfl⟩
  | succ k ih =>
    intro c
    have := ih (tkR c)
    refine ⟨?_, this.2⟩
    show (tkV c : Int) :: tks (k + 1) (tkR c) = _
    rw [this.1]; rfl
theorem tkR_len (c : List UInt8) : (tkR c).length ≤ c.length := by unfold tkR; rw [List.length_drop]; omega
theorem tkRs_len (k : Nat) : ∀ c, (tkRs k c).length ≤ c.length := by
  induction k with
  | zero => intro c; exact Nat.le_refl _
  | succ k ih => intro c; have := ih (tkR c); have := tkR_len c; show (tkRs k (tkR c)).length ≤ _; omega
def numM (c : List UInt8) : Mf := ⟨tks (min (tkV (tkR (tkR c))) 31) (tkR (tkR (tkR c))), (tkV c : Int), (tkV (tkR c) : Int)⟩
theorem tk_num {n : Int} (h : 0 ≤ n ∧ n ≤ 999999999) (r : List UInt8) : (tkV (numL n.toNat ++ r) : Int) = n ∧ tkR (numL n.toNat ++ r) = r := by
  have hg := numsB_get h r
  have h1 : getV (numL n.toNat ++ r) = n.toNat := by unfold getV; rw [hg]
  have h2 : getK (numL n.toNat ++ r) = (numL n.toNat).length := by unfold getK; rw [hg]; dsimp only; rw [List.length_append]; omega
  unfold tkV tkR
  rw [h1, h2, List.drop_left]
  refine ⟨by omega, rfl⟩
theorem tks_nums : ∀ (l : List Int) (r : List UInt8), Bdd l → tks l.length (numsB l ++ r) = l
  | [], _, _ => rfl
  | n :: l, r, h => by
    obtain ⟨hn, hl⟩ := h.cons
    rw [numsB_cons, List.append_assoc]
    obtain ⟨e1, e2⟩ := tk_num hn (numsB l ++ r)
    show (tkV _ : Int) :: tks l.length (tkR _) = _
    rw [e1, e2, tks_nums l r hl]
theorem numM_cont {m : Mf} (h : goodM m = true) : numM (contM m) = m := by
  have hb := good_bdd h
  obtain ⟨h1, h2, h3, h4⟩ := goodM_iff.1 h
  obtain ⟨ts, nx, fr⟩ := m
  dsimp only at h1 h2 h3
  obtain ⟨b1, hb⟩ := hb.cons
  obtain ⟨b2, hb⟩ := hb.cons
  obtain ⟨b3, hb⟩ := hb.cons
  have e : contM ⟨ts, nx, fr⟩ = numL nx.toNat ++ (numL fr.toNat ++ (numL (ts.length : Int).toNat ++ (numsB ts ++ []))) := by rw [List.append_nil]; rfl
  unfold numM
  rw [e, (tk_num b1 _).2, (tk_num b2 _).2, (tk_num b3 _).2, (tk_num b1 _).1, (tk_num b2 _).1]
  have h5 := (tk_num b3 (numsB ts ++ [])).1
  have h6 : min (tkV (numL (ts.length : Int).toNat ++ (numsB ts ++ []))) 31 = ts.length := by dsimp only at h5; omega
  rw [h6, tks_nums ts [] hb]
/-- P13.2, the manifest that bytes tell. -/
def rdM (b : List UInt8) : Option Mf := if unfE b = 0 ∧ goodM (numM (unfB b)) = true ∧ encM (numM (unfB b)) = b then some (numM (unfB b)) else none
theorem rdM_iff {b : List UInt8} {m : Mf} : rdM b = some m ↔ goodM m = true ∧ encM m = b := by
  constructor
  · intro h
    unfold rdM at h
    split at h
    · rename_i hc
      cases h
      exact ⟨hc.2.1, hc.2.2⟩
    · cases h
  · rintro ⟨hg, rfl⟩
    have hl := good_len hg
    obtain ⟨t1, t2, t3⟩ := tells_whole (contM m) (by omega) []
    rw [List.append_nil] at t1 t2 t3
    have e : unfB (encM m) = contM m := t3
    unfold rdM
    rw [e, numM_cont hg, if_pos ⟨t1, hg, rfl⟩]
theorem rdM_none {b : List UInt8} (h : ∀ m, goodM m = true → encM m ≠ b) : rdM b = none := by
  cases hr : rdM b with
  | none => rfl
  | some m =>
    obtain ⟨h1, h2⟩ := rdM_iff.1 hr
    exact absurd h2 (h m h1)
theorem rdM_enc {m : Mf} (h : goodM m = true) : rdM (encM m) = some m := rdM_iff.2 ⟨h, rfl⟩
theorem rdM_bad {b : List UInt8} (h : unfE b ≠ 0) : rdM b = none := by unfold rdM; rw [if_neg fun hh => h hh.1]
theorem rdM_more {b : List UInt8} (h : unfN b ≠ b.length) : rdM b = none := rdM_none fun m hg e => by
  subst e
  obtain ⟨t1, t2, t3⟩ := tells_whole (contM m) (by have := good_len hg; omega) []
  rw [List.append_nil] at t2
  exact h (by rw [encM_len]; exact t2)
theorem fourL_word {q : List UInt8} (hq : q.length = 4) : fourL (wordL q) = q := by
  match q, hq with
  | [a, b, c, d], _ =>
    have h := wordL_four (wordL [a, b, c, d]) (wordL_lt _ (by simp))
    obtain ⟨h1, h2, h3, h4⟩ := wordL_inj (show wordL [_, _, _, _] = wordL [a, b, c, d] from h)
    unfold fourL
    rw [h1, h2, h3, h4]
/-- Bytes that are one whole frame are the frame of what they hold. -/
theorem frame_back {b : List UInt8} (h : unfE b = 0) (hn : unfN b = b.length) : frameL (unfB b) = b ∧ (unfB b).length ≤ 262144 := by
  have hN : 8 + unfC b = b.length := by unfold unfN at hn; rw [if_pos h] at hn; exact hn
  have hB : unfB b = b.drop 8 := by unfold unfB; rw [if_pos h, List.take_of_length_le (by rw [List.length_drop]; omega)]
  have hl : (unfB b).length = unfC b := by rw [hB, List.length_drop]; omega
  unfold unfE at h
  split at h
  · cases h
  split at h
  · cases h
  split at h
  · cases h
  split at h
  · cases h
  rename_i h8 hbig _ hs
  have hs' : (wordL ((b.drop 4).take 4) : Int) = sumZ (b.take 4 ++ (b.drop 8).take (unfC b)) := Classical.not_not.1 hs
  have e4 : fourL (unfC b) = b.take 4 := fourL_word (by rw [List.length_take]; omega)
  have e8 : fourL (wordL ((b.drop 4).take 4)) = (b.drop 4).take 4 := fourL_word (by rw [List.length_take, List.length_drop]; omega)
  rw [List.take_of_length_le (l := b.drop 8) (by rw [List.length_drop]; omega)] at hs'
  refine ⟨?_, by omega⟩
  unfold frameL
  rw [hl, e4, hB, ← hs', Int.toNat_natCast, e8]
  have h1 : (b.drop 4).take 4 ++ b.drop 8 = b.drop 4 := by
    have := List.take_append_drop 4 (b.drop 4)
    rw [List.drop_drop] at this
    exact this
  rw [h1, List.take_append_drop]
end Go.Proofs.YthihljjefncfoaaGreatDoor
