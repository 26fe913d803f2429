/-
  SEVERAL TEXTS IN ONE: CodPlain, CodSum, CodAdd, CodPut, NumPlain, ShortPlain, TextPlain, CellPlain, CellWrite, Steps.
-/
import Derived.WalkKit
import Derived.PlainAid
import Derived.OpenShut
import Derived.Laws.BitsAllLaws
import Derived.Test.YtjjbghbhnnionaaChecked
import Derived.Test.YtjjbghbhnnionaaOwn
import Derived.Deep.RegionLaw
namespace Go.Proofs.Ytjjbghbhnnionaa
open Go.RowKit

/-- An int without a sign. -/
def zigZ (n : Int) : Int := if n < 0 then -2 * n - 1 else 2 * n
/-- The other way round. -/
def zagZ (u : Int) : Int := if u % 2 = 1 then -(u / 2) - 1 else u / 2

theorem zigZ_bd (n : Int) (h1 : -9223372036854775808 ≤ n) (h2 : n ≤ 9223372036854775807) : 0 ≤ zigZ n ∧ zigZ n ≤ 18446744073709551615 := by
  unfold zigZ; split <;> omega
theorem zagZ_bd (u : Int) (h1 : 0 ≤ u) (h2 : u ≤ 18446744073709551615) : -9223372036854775808 ≤ zagZ u ∧ zagZ u ≤ 9223372036854775807 := by
  unfold zagZ; split <;> omega
theorem zag_zig (n : Int) : zagZ (zigZ n) = n := by unfold zigZ zagZ; split <;> split <;> omega
theorem zig_zag (u : Int) (h1 : 0 ≤ u) : zigZ (zagZ u) = u := by unfold zigZ zagZ; split <;> split <;> omega

theorem xor_ones (a : Nat) (ha : a < 18446744073709551616) : a ^^^ 18446744073709551615 = 18446744073709551615 - a := by
  have h : (BitVec.ofNat 64 a ^^^ BitVec.allOnes 64).toNat = (~~~ BitVec.ofNat 64 a).toNat := by rw [BitVec.xor_allOnes]
  rw [BitVec.toNat_xor, BitVec.toNat_not, BitVec.toNat_allOnes, BitVec.toNat_ofNat, Nat.mod_eq_of_lt (by omega)] at h
  exact h

/-- What Zig's text reckons is zigZ. -/
theorem zig_text (n : Int) (h1 : -9223372036854775808 ≤ n) (h2 : n ≤ 9223372036854775807) :
    bits BinOp.xor IntKind.u64 (IntKind.u64.wrap (IntKind.u64.wrap n * 2)) (IntKind.u64.wrap (n / 9223372036854775808)) = zigZ n := by
  unfold zigZ
  by_cases h : n < 0
  · rw [if_pos h, PlainAid.shr63_neg h h1, IntKind.wrap_u64, IntKind.wrap_u64, IntKind.wrap_u64, u64_xor _ _ (by omega) (by omega) (by omega) (by omega)]
    have e1 : (n % 18446744073709551616 * 2 % 18446744073709551616).toNat = (2 * n + 18446744073709551616).toNat := by omega
    have e2 : ((-1 : Int) % 18446744073709551616).toNat = 18446744073709551615 := by decide
    rw [e1, e2, xor_ones _ (by omega)]
    omega
  · rw [if_neg h, PlainAid.shr63_nonneg (by omega) h2, IntKind.wrap_u64, IntKind.wrap_u64, IntKind.wrap_u64, u64_xor _ _ (by omega) (by omega) (by omega) (by omega)]
    have e2 : ((0 : Int) % 18446744073709551616).toNat = 0 := by decide
    rw [e2, Nat.xor_zero]
    omega

/-! ### The sum. -/
def tabZ : List Int := [0, 498536548, 997073096, 651767980, 1994146192, 1802195444, 1303535960, 1342533948, 3988292384, 4027552580, 3604390888, 3412177804, 2607071920, 2262029012, 2685067896, 3183342108]
/-- Four steps of the sum at once. -/
def fourZ (s : Int) : Int := bits BinOp.xor IntKind.u32 (s / 16) (tabZ.getD (s % 16).toNat 0)
/-- The sum goes on by one byte. -/
def byteZ (s x : Int) : Int := fourZ (fourZ (bits BinOp.xor IntKind.u32 s x))
def sumOnZ (s : Int) (l : List UInt8) : Int := l.foldl (fun s b => byteZ s (b.toNat : Int)) s

theorem bits_u32 (op : BinOp) (x y : Int) : 0 ≤ bits op IntKind.u32 x y ∧ bits op IntKind.u32 x y ≤ 4294967295 := by
  exact bounds_u32 (wf_bits op .u32 x y)
theorem fourZ_bd (s : Int) : 0 ≤ fourZ s ∧ fourZ s ≤ 4294967295 := bits_u32 _ _ _
theorem byteZ_bd (s x : Int) : 0 ≤ byteZ s x ∧ byteZ s x ≤ 4294967295 := fourZ_bd _
theorem sumOnZ_bd (s : Int) (l : List UInt8) (h : 0 ≤ s ∧ s ≤ 4294967295) : 0 ≤ sumOnZ s l ∧ sumOnZ s l ≤ 4294967295 := by
  unfold sumOnZ
  induction l generalizing s with
  | nil => exact h
  | cons x l ih => exact ih _ (byteZ_bd s _)
theorem sumOnZ_take (s : Int) (l : List UInt8) (k : Nat) (h : k < l.length) : sumOnZ s (l.take (k + 1)) = byteZ (sumOnZ s (l.take k)) ((l.getD k 0).toNat : Int) := by
  unfold sumOnZ
  rw [List.take_succ_eq_append_getElem h, List.foldl_append]
  simp [List.getD, h]
/-- The bytes' sum. -/
def sumZ (l : List UInt8) : Int := 4294967295 - sumOnZ 4294967295 l
theorem not_u32 (a : Int) (h0 : 0 ≤ a) (h1 : a ≤ 4294967295) : bits BinOp.xor IntKind.u32 IntKind.u32.max a = 4294967295 - a := by
  show bits BinOp.xor IntKind.u32 4294967295 a = 4294967295 - a
  rw [u32_xor _ _ (by omega) (by omega) (by omega) (by omega)]
  have h : (BitVec.allOnes 32 ^^^ BitVec.ofNat 32 a.toNat).toNat = (~~~ BitVec.ofNat 32 a.toNat).toNat := by rw [BitVec.allOnes_xor]
  rw [BitVec.toNat_xor, BitVec.toNat_not, BitVec.toNat_allOnes, BitVec.toNat_ofNat, Nat.mod_eq_of_lt (by omega)] at h
  have e : (4294967295 : Int).toNat = 2 ^ 32 - 1 := by decide
  rw [e, h]
  omega
theorem sumOnZ_append (s : Int) (a b : List UInt8) : sumOnZ s (a ++ b) = sumOnZ (sumOnZ s a) b := List.foldl_append
theorem sumZ_bd (l : List UInt8) : 0 ≤ sumZ l ∧ sumZ l ≤ 4294967295 := by
  have := sumOnZ_bd 4294967295 l ⟨by decide, by decide⟩
  unfold sumZ; omega

/-! ### Numbers in bytes. -/
/-- A number to base 128, the least digit first, at most k + 1 digits. -/
def numF : Nat → Nat → List UInt8
  | 0, u => [UInt8.ofNat u]
  | k + 1, u => if u < 128 then [UInt8.ofNat u] else UInt8.ofNat (u % 128 + 128) :: numF k (u / 128)
def numL (u : Nat) : List UInt8 := numF 9 u
theorem numF_small (k u : Nat) (h : u < 128) : numF k u = [UInt8.ofNat u] := by
  cases k with
  | zero => rfl
  | succ k => rw [numF, if_pos h]
theorem numF_great (k u : Nat) (h : 128 ≤ u) : numF (k + 1) u = UInt8.ofNat (u % 128 + 128) :: numF k (u / 128) := by
  rw [numF, if_neg (by omega)]
theorem numF_length (k u : Nat) : 1 ≤ (numF k u).length ∧ (numF k u).length ≤ k + 1 := by
  induction k generalizing u with
  | zero => exact ⟨Nat.le_refl _, Nat.le_refl _⟩
  | succ k ih =>
    unfold numF
    split
    · exact ⟨by simp, by simp⟩
    · have := ih (u / 128)
      simp only [List.length_cons]
      omega
theorem numL_length (u : Nat) : 1 ≤ (numL u).length ∧ (numL u).length ≤ 10 := numF_length 9 u
/-- Of u the digits d are written; x is left. -/
structure NumAt (u : Nat) (d : List UInt8) (x : Nat) : Prop where
  ex : ∃ k, numL u = d ++ numF k x ∧ d.length + k = 9 ∧ x < 2 * 128 ^ k
theorem NumAt.start {u : Nat} (h : u < 18446744073709551616) : NumAt u [] u := ⟨9, rfl, rfl, h⟩
theorem NumAt.step {u x : Nat} {d : List UInt8} (h : NumAt u d x) (hx : 128 ≤ x) : NumAt u (d ++ [UInt8.ofNat (x % 128 + 128)]) (x / 128) := by
  obtain ⟨k, h1, h2, h3⟩ := h.ex
  cases k with
  | zero => omega
  | succ k =>
    refine ⟨k, ?_, ?_, ?_⟩
    · rw [h1, numF_great k x hx]; simp
    · simp; omega
    · rw [Nat.div_lt_iff_lt_mul (by omega)]
      rw [Nat.pow_succ] at h3
      omega
theorem NumAt.done {u x : Nat} {d : List UInt8} (h : NumAt u d x) (hx : x < 128) : numL u = d ++ [UInt8.ofNat x] := by
  obtain ⟨k, h1, _, _⟩ := h.ex
  rw [h1, numF_small k x hx]
theorem NumAt.len {u x : Nat} {d : List UInt8} (h : NumAt u d x) : d.length ≤ 9 := by
  obtain ⟨k, _, h2, _⟩ := h.ex
  omega
theorem NumAt.bd {u x : Nat} {d : List UInt8} (h : NumAt u d x) : (x : Int) ≤ 18446744073709551615 := by
  obtain ⟨k, _, h2, h3⟩ := h.ex
  have h4 : 128 ^ k ≤ 128 ^ 9 := Nat.pow_le_pow_right (by omega) (by omega)
  have h5 : 2 * 128 ^ 9 = 18446744073709551616 := by decide
  omega
theorem byte_val (x : Nat) (h : x < 256) : ((UInt8.ofNat x).toNat : Int) = (x : Int) := by
  simp; omega

/-! ### Words of four bytes. -/
def fourL (x : Nat) : List UInt8 := [UInt8.ofNat (x / 16777216), UInt8.ofNat (x / 65536), UInt8.ofNat (x / 256), UInt8.ofNat x]
/-- The first k bytes of a word, laid from a place on. -/
def layL (l : List UInt8) (off : Nat) (x k : Nat) : List UInt8 := l.take off ++ (fourL x).take k ++ l.drop (off + k)
theorem layL_zero (l : List UInt8) (off x : Nat) : layL l off x 0 = l := by simp [layL]
theorem layL_length (l : List UInt8) (off x k : Nat) (hk : k ≤ 4) (h : off + k ≤ l.length) : (layL l off x k).length = l.length := by
  simp [layL, fourL]; omega
theorem layL_step (l : List UInt8) (off x k : Nat) (hk : k < 4) (h : off + k < l.length) : (layL l off x k).set (off + k) ((fourL x).getD k 0) = layL l off x (k + 1) := by
  unfold layL
  have hf : k < (fourL x).length := by simp [fourL]; omega
  have h1 : (List.take off l).length = off := by simp; omega
  have h2 : (List.take k (fourL x)).length = k := by simp [fourL]; omega
  rw [List.append_assoc, List.set_append_right _ _ (by omega), h1, Nat.add_sub_cancel_left, List.set_append_right _ _ (by omega), h2, Nat.sub_self, List.take_succ_eq_append_getElem hf, List.append_assoc, List.append_assoc,
    List.drop_eq_getElem_cons h, List.set_cons_zero]
  simp [List.getD, hf, Nat.add_assoc]
/-- A frame: the count, the sum of the count and the content, the content. -/
def frameL (l : List UInt8) : List UInt8 := fourL l.length ++ (fourL (sumZ (fourL l.length ++ l)).toNat ++ l)
theorem fourL_length (x : Nat) : (fourL x).length = 4 := rfl
theorem frameL_length (l : List UInt8) : (frameL l).length = l.length + 8 := by simp [frameL, fourL]
end Go.Proofs.Ytjjbghbhnnionaa
namespace Go.Proofs.Ytjjbghbhnnionaa
open Go.RowKit


theorem zig_any (n : Int) (w : World) (h1 : -9223372036854775808 ≤ n) (h2 : n ≤ 9223372036854775807) :
    Calls Try.prog 96 #[.int .i64 n] w fun e w' => e = .returned (.int .u64 (zigZ n)) ∧ w' = w := by
  have hz := zig_text n h1 h2
  go_enter Try.func96, Try.ntmps96
  go_wp2
  go_ret
  exact ⟨rfl, rfl⟩

end Go.Proofs.Ytjjbghbhnnionaa
namespace Go.Proofs.Ytjjbghbhnnionaa
open Go.RowKit

theorem info8 : (Try.prog.info? 5).map (fun i => (i.zero, i.size, i.bytes)) = some (some (.int .u8 0), 1, 1) := by kernel_rfl

/-- One byte, laid in a block of its own, as a source. -/
theorem src_one (w : World) (z : Int) (b : UInt8) (h : (b.toNat : Int) = z) :
    Src Try.prog 1 85 (.slice (some ⟨w.heap.size, 0, none⟩) 1 1) 1 (B8 [b]) (w.alloc (.cells #[.int .u8 z] 5)) := by
  refine Src.ofSlice _ Try.underlying85 _ 1 1 _ (by simp [B8_length]) ?_ (B8_one _)
  intro j u hu
  match j, hu with
  | 0, hu => simp [B8] at hu; subst hu; simp [Addr.add, h]
  | j + 1, hu => simp [B8] at hu

set_option maxRecDepth 100000 in
set_option maxHeartbeats 400000 in
theorem addNumber_any (base : Nat) (v : Value) (n : Nat) (xs : List UInt8) (u : Nat) (w : World) (hown : w.ownsRow base 5 1 v n (B8 xs)) (hu : u < 18446744073709551616) (hn : n ≤ 140737488355000) (hb : base ≤ w.heap.size) :
    Calls Try.prog 74 #[v, .int .u64 u] w fun e w' => ∃ v', e = .returned v' ∧ w'.ownsRow base 5 1 v' (n + (numL u).length) (B8 (xs ++ numL u)) ∧ Grew w w' v v' := by
  obtain ⟨i0, hi, hz0, hz1, hz2⟩ := info_parts info8
  have Hu : Hid (NumAt u [] u) := NumAt.start hu
  clear hu
  go_enter Try.func74, Try.ntmps74
  go_wp2
  go_loopw [0, 1] (fun s0 s1 wr => ∃ (x : Nat) (d : List UInt8), s1 = .int .u64 x ∧ NumAt u d x ∧ wr.ownsRow base 5 1 s0 (n + d.length) (B8 (xs ++ d)) ∧ Grew w wr v s0 ∧ base ≤ wr.heap.size) (fun _ s1 _ => (intOf s1).toNat)
  case atStart => exact ⟨u, [], rfl, Hu.out, by simpa using hown, Grew.refl _ _, hb⟩
  case round =>
    obtain ⟨x, d, rfl, hd, ho, hg, hbr⟩ := hrel
    have hbd := hd.bd
    have hdl := hd.len
    by_cases hx : x < 128
    · have hbv := byte_val x (by omega)
      have Hfin : Hid (numL u = d ++ [UInt8.ofNat x]) := hd.done hx
      go_wp2_with (at_builtin; go_must (refine wpList_append_grew _ rfl _ _ 85 85 rfl base 5 i0 (.int .u8 0) 1 1 Try.underlying85 hi hz0 hz1 hz2 rfl _ _ _ rfl (ho.alloc _) _ 1 (B8 [UInt8.ofNat x]) rfl (src_one _ _ _ hbv) (by unfold maxLen; omega) (by omega) (by rw [World.size_alloc]; omega) ?_; intro v' w' ho' hg'))
      go_ret
      refine ⟨v', rfl, ?_, hg.trans hg'.alloc⟩
      rw [Hfin.out, ← List.append_assoc, B8_append _ [_], List.length_append, List.length_singleton, ← Nat.add_assoc]
      exact ho'
    · have hbv := byte_val (x % 128 + 128) (by omega)
      have hst := hd.step (by omega)
      go_wp2_with (at_builtin; go_must (refine wpList_append_grew _ rfl _ _ 85 85 rfl base 5 i0 (.int .u8 0) 1 1 Try.underlying85 hi hz0 hz1 hz2 rfl _ _ _ rfl (ho.alloc _) _ 1 (B8 [UInt8.ofNat (x % 128 + 128)]) rfl (src_one _ _ _ hbv) (by unfold maxLen; omega) (by omega) (by rw [World.size_alloc]; omega) ?_; intro v' w' ho' hg'))
      go_roundw
      case rel =>
        refine ⟨x / 128, _, by go_num, hst, ?_, hg.trans hg'.alloc, Nat.le_trans hbr (Nat.le_trans (by rw [World.size_alloc]; omega) hg'.rows.size)⟩
        rw [← List.append_assoc, B8_append _ [_], List.length_append, List.length_singleton, ← Nat.add_assoc]
        exact ho'
      case measure => simp [intOf]; omega

end Go.Proofs.Ytjjbghbhnnionaa
namespace Go.Proofs.Ytjjbghbhnnionaa
open Go.RowKit

/-- A text in bytes: its length, then it. -/
def txtL (s : List UInt8) : List UInt8 := numL s.length ++ s

set_option maxRecDepth 100000 in
set_option maxHeartbeats 400000 in
theorem addText_any (base : Nat) (v : Value) (n : Nat) (xs : List UInt8) (s : ByteArray) (w : World) (hown : w.ownsRow base 5 1 v n (B8 xs)) (hn : n + s.size ≤ 140737488354000) (hb : base ≤ w.heap.size) :
    Calls Try.prog 98 #[v, .string s] w fun e w' => ∃ v', e = .returned v' ∧ w'.ownsRow base 5 1 v' (n + (txtL s.data.toList).length) (B8 (xs ++ txtL s.data.toList)) ∧ Grew w w' v v' := by
  obtain ⟨i0, hi, hz0, hz1, hz2⟩ := info_parts info8
  have hnl := numL_length s.size
  have hsz : s.data.toList.length = s.size := by simp
  go_enter Try.func98, Try.ntmps98
  go_wp2_with (first
    | (go_at_call 74; go_must (refine (addNumber_any base v n xs s.size _ hown (by omega) (by omega) hb).mono ?_; rintro e w1 ⟨v1, rfl, ho1, hg1⟩))
    | (at_builtin; go_must (refine wpList_append_grew _ rfl _ _ 85 9 rfl base 5 i0 (.int .u8 0) 1 1 Try.underlying85 hi hz0 hz1 hz2 rfl _ _ _ rfl ho1 _ s.size (B8 s.data.toList) rfl (Src.ofString _ Try.underlying9 s) (by unfold maxLen; omega) (by omega) (Nat.le_trans hb hg1.rows.size) ?_; intro v' w' ho' hg')))
  go_ret
  refine ⟨v', rfl, ?_, hg1.trans hg'⟩
  unfold txtL
  rw [hsz, List.length_append, hsz, ← List.append_assoc, B8_append _ s.data.toList, ← Nat.add_assoc]
  exact ho'

end Go.Proofs.Ytjjbghbhnnionaa
namespace Go.Proofs.Ytjjbghbhnnionaa
open Go.RowKit

/-! ### The number that bytes begin with. -/
/-- i digits, which come to acc, are read; l is left. -/
def getN : Nat → Nat → List UInt8 → Option (Nat × List UInt8)
  | _, _, [] => none
  | i, acc, b :: r =>
    if (i = 9 ∧ 1 < b.toNat) ∨ (0 < i ∧ b.toNat = 0) then none
    else if b.toNat < 128 then some (acc + b.toNat % 128 * 2 ^ (7 * i), r)
    else getN (i + 1) (acc + b.toNat % 128 * 2 ^ (7 * i)) r

theorem digit_bd (i acc x : Nat) (h : acc < 2 ^ (7 * i)) : acc + x % 128 * 2 ^ (7 * i) < 2 ^ (7 * (i + 1)) := by
  have e : 2 ^ (7 * (i + 1)) = 128 * 2 ^ (7 * i) := by rw [show 7 * (i + 1) = 7 + 7 * i by omega, Nat.pow_add]
  have h1 : x % 128 * 2 ^ (7 * i) ≤ 127 * 2 ^ (7 * i) := Nat.mul_le_mul_right _ (by omega)
  rw [e]
  omega
/-- What a round of number's text reckons. -/
theorem or_text (i acc x : Nat) (h : acc < 2 ^ (7 * i)) (hi : i ≤ 9) (h9 : i = 9 → x ≤ 1) :
    bits BinOp.or IntKind.u64 (acc : Int) (IntKind.u64.wrap ((x : Int) % 128 * 2 ^ (7 * i))) = ((acc + x % 128 * 2 ^ (7 * i) : Nat) : Int) := by
  have hp : 2 ^ (7 * i) ≤ 2 ^ 63 := Nat.pow_le_pow_right (by omega) (by omega)
  have hy : x % 128 * 2 ^ (7 * i) < 18446744073709551616 := by
    rcases Nat.lt_or_ge i 9 with h1 | h1
    · have h2 : 2 ^ (7 * i) ≤ 2 ^ 56 := Nat.pow_le_pow_right (by omega) (by omega)
      have h3 : x % 128 * 2 ^ (7 * i) ≤ 127 * 2 ^ 56 := Nat.mul_le_mul (by omega) h2
      omega
    · have hx := h9 (by omega)
      have h3 : x % 128 * 2 ^ (7 * i) ≤ 1 * 2 ^ 63 := Nat.mul_le_mul (by omega) hp
      omega
  have e : (x : Int) % 128 * 2 ^ (7 * i) = ((x % 128 * 2 ^ (7 * i) : Nat) : Int) := by simp
  rw [e, IntWalk.u64_in _ ⟨by omega, by omega⟩, u64_or_nat _ _ (by omega) hy]
  have h4 := Nat.two_pow_add_eq_or_of_lt h (x % 128)
  rw [Nat.or_comm, Nat.mul_comm, ← h4, Nat.mul_comm, Nat.add_comm]
end Go.Proofs.Ytjjbghbhnnionaa
namespace Go.Proofs.Ytjjbghbhnnionaa
open Go.RowKit

theorem ofNat_toNat8 (x : Nat) (h : x < 256) : (UInt8.ofNat x).toNat = x := by simp; omega
theorem pow7 (i : Nat) : 2 ^ (7 * (i + 1)) = 128 * 2 ^ (7 * i) := by rw [show 7 * (i + 1) = 7 + 7 * i by omega, Nat.pow_add]
theorem digits (x p : Nat) : x % 128 * p + x / 128 * (128 * p) = x * p := by
  have h := Nat.div_add_mod x 128
  calc x % 128 * p + x / 128 * (128 * p) = (128 * (x / 128) + x % 128) * p := by rw [Nat.add_mul, Nat.mul_assoc, Nat.mul_left_comm, Nat.add_comm]
    _ = x * p := by rw [h]

theorem getN_back (k : Nat) : ∀ (i acc x : Nat) (rest : List UInt8), i + k = 9 → x < 2 * 128 ^ k → (0 < i → 0 < x) → getN i acc (numF k x ++ rest) = some (acc + x * 2 ^ (7 * i), rest) := by
  induction k with
  | zero =>
    intro i acc x rest hi hx hp
    have hx' : x < 2 := by simpa using hx
    have e : (UInt8.ofNat x).toNat = x := ofNat_toNat8 x (by omega)
    rw [numF, List.singleton_append, getN, e, if_neg (by omega), if_pos (by omega), Nat.mod_eq_of_lt (by omega)]
  | succ k ih =>
    intro i acc x rest hi hx hp
    by_cases h : x < 128
    · rw [numF_small _ _ h, List.singleton_append, getN, ofNat_toNat8 x (by omega), if_neg (by omega), if_pos h, Nat.mod_eq_of_lt h]
    · have hb : (UInt8.ofNat (x % 128 + 128)).toNat = x % 128 + 128 := ofNat_toNat8 _ (by omega)
      rw [numF_great _ _ (by omega), List.cons_append, getN, hb, if_neg (by omega), if_neg (by omega), ih (i + 1) _ (x / 128) rest (by omega) ?_ (by omega)]
      · rw [show (x % 128 + 128) % 128 = x % 128 by omega, pow7, Nat.add_assoc, digits]
      · rw [Nat.div_lt_iff_lt_mul (by omega)]
        rw [Nat.pow_succ] at hx
        omega
theorem getN_early (k : Nat) : ∀ (i acc x : Nat), i + k = 9 → x < 2 * 128 ^ k → getN i acc (numF k x).dropLast = none := by
  induction k with
  | zero => intro i acc x _ _; rfl
  | succ k ih =>
    intro i acc x hi hx
    by_cases h : x < 128
    · rw [numF_small _ _ h]; rfl
    · have hb : (UInt8.ofNat (x % 128 + 128)).toNat = x % 128 + 128 := ofNat_toNat8 _ (by omega)
      have hne : numF k (x / 128) ≠ [] := fun e => by have := (numF_length k (x / 128)).1; rw [e] at this; simp at this
      rw [numF_great _ _ (by omega), List.dropLast_cons_of_ne_nil hne, getN, hb, if_neg (by omega), if_neg (by omega)]
      refine ih (i + 1) _ (x / 128) (by omega) ?_
      rw [Nat.div_lt_iff_lt_mul (by omega)]
      rw [Nat.pow_succ] at hx
      omega
theorem getN_longer (k : Nat) : ∀ (i acc x : Nat) (y : UInt8), i + k = 9 → x < 2 * 128 ^ k → 128 ≤ y.toNat → getN i acc ((numF k x).dropLast ++ [y, 0]) = none := by
  induction k with
  | zero =>
    intro i acc x y hi _ hy
    show getN i acc [y, 0] = none
    rw [getN, if_pos (.inl ⟨by omega, by omega⟩)]
  | succ k ih =>
    intro i acc x y hi hx hy
    by_cases h : x < 128
    · rw [numF_small _ _ h]
      show getN i acc [y, 0] = none
      have h0 : (0 : UInt8).toNat = 0 := rfl
      rw [getN, if_neg (by omega), if_neg (by omega), getN, h0, if_pos (.inr ⟨by omega, rfl⟩)]
    · have hb : (UInt8.ofNat (x % 128 + 128)).toNat = x % 128 + 128 := ofNat_toNat8 _ (by omega)
      have hne : numF k (x / 128) ≠ [] := fun e => by have := (numF_length k (x / 128)).1; rw [e] at this; simp at this
      rw [numF_great _ _ (by omega), List.dropLast_cons_of_ne_nil hne, List.cons_append, getN, hb, if_neg (by omega), if_neg (by omega)]
      refine ih (i + 1) _ (x / 128) y (by omega) ?_ hy
      rw [Nat.div_lt_iff_lt_mul (by omega)]
      rw [Nat.pow_succ] at hx
      omega

theorem get_back (u : Nat) (h : u < 18446744073709551616) (rest : List UInt8) : getN 0 0 (numL u ++ rest) = some (u, rest) := by
  have := getN_back 9 0 0 u rest rfl h (by omega)
  unfold numL
  simpa using this
theorem get_early (u : Nat) (h : u < 18446744073709551616) : getN 0 0 ((numL u).take ((numL u).length - 1)) = none := by
  rw [← List.dropLast_eq_take]; exact getN_early 9 0 0 u rfl h
theorem get_longer (u : Nat) (h : u < 18446744073709551616) (y : UInt8) (hy : 128 ≤ y.toNat) : getN 0 0 ((numL u).set ((numL u).length - 1) y ++ [0]) = none := by
  have hl := numL_length u
  have e : (numL u).set ((numL u).length - 1) y ++ [0] = (numL u).dropLast ++ [y, 0] := by
    rw [List.set_eq_take_append_cons_drop, if_pos (by omega), List.dropLast_eq_take, List.drop_eq_nil_of_le (by omega)]
    simp
  rw [e]; exact getN_longer 9 0 0 u y rfl h hy
theorem or128 (x : Nat) (h : x < 128) : bits BinOp.or IntKind.u8 (x : Int) 128 = (x : Int) + 128 := by
  have h1 := u8_or_nat x 128 (by omega) (by omega)
  have h2 := Nat.two_pow_add_eq_or_of_lt (i := 7) (b := x) h 1
  rw [show ((128 : Nat) : Int) = 128 from rfl] at h1
  rw [h1, Nat.or_comm]
  have e : 128 ||| x = 128 + x := h2.symm
  rw [e]
  omega
end Go.Proofs.Ytjjbghbhnnionaa
namespace Go.Proofs.Ytjjbghbhnnionaa
open Go.RowKit

theorem getN_bd : ∀ (l : List UInt8) (i acc v : Nat) (r : List UInt8), i ≤ 9 → acc < 2 ^ (7 * i) → getN i acc l = some (v, r) → v < 18446744073709551616 ∧ r.length < l.length := by
  intro l
  induction l with
  | nil => intro i acc v r _ _ h; simp [getN] at h
  | cons b l ih =>
    intro i acc v r hi hacc h
    rw [getN] at h
    split at h
    · cases h
    · rename_i hno
      have hd := digit_bd i acc b.toNat hacc
      split at h
      · simp only [Option.some.injEq, Prod.mk.injEq] at h
        obtain ⟨rfl, rfl⟩ := h
        refine ⟨?_, by simp⟩
        rcases Nat.lt_or_ge i 9 with h1 | h1
        · have h2 : 2 ^ (7 * (i + 1)) ≤ 2 ^ 63 := Nat.pow_le_pow_right (by omega) (by omega)
          omega
        · obtain rfl : i = 9 := by omega
          have h3 : b.toNat % 128 * 2 ^ (7 * 9) ≤ 1 * 2 ^ 63 := Nat.mul_le_mul (by omega) (by decide)
          have h4 : acc < 2 ^ 63 := hacc
          omega
      · have hi' : i + 1 ≤ 9 := by omega
        have := ih (i + 1) _ v r hi' hd h
        simp only [List.length_cons]
        omega
theorem get_bd {l : List UInt8} {v : Nat} {r : List UInt8} (h : getN 0 0 l = some (v, r)) : v < 18446744073709551616 ∧ r.length < l.length := getN_bd l 0 0 v r (by omega) (by simp) h

/-- The text that bytes begin with, and what is left. -/
def textN (l : List UInt8) : Option (List UInt8 × List UInt8) := match getN 0 0 l with | none => none | some (v, r) => if v ≤ r.length then some (r.take v, r.drop v) else none
theorem textN_some {l s r' : List UInt8} (h : textN l = some (s, r')) : ∃ v r, getN 0 0 l = some (v, r) ∧ v ≤ r.length ∧ r.take v = s ∧ r.drop v = r' := by
  unfold textN at h
  split at h
  · cases h
  · rename_i v r hg
    split at h
    · rename_i hv
      simp only [Option.some.injEq, Prod.mk.injEq] at h
      exact ⟨v, r, hg, hv, h.1, h.2⟩
    · cases h
theorem textN_none {l : List UInt8} (h : textN l = none) : getN 0 0 l = none ∨ ∃ v r, getN 0 0 l = some (v, r) ∧ r.length < v := by
  unfold textN at h
  split at h
  · rename_i hg; exact .inl hg
  · rename_i v r hg
    split at h
    · cases h
    · exact .inr ⟨v, r, hg, by omega⟩
theorem textN_back (s rest : List UInt8) (h : s.length < 18446744073709551616) : textN (numL s.length ++ (s ++ rest)) = some (s, rest) := by
  unfold textN
  rw [get_back s.length h]
  simp
theorem getN_suffix : ∀ (l : List UInt8) (i acc v : Nat) (r : List UInt8), getN i acc l = some (v, r) → ∃ d, l = d ++ r := by
  intro l
  induction l with
  | nil => intro i acc v r h; simp [getN] at h
  | cons b l ih =>
    intro i acc v r h
    rw [getN] at h
    split at h
    · cases h
    · split at h
      · simp only [Option.some.injEq, Prod.mk.injEq] at h
        exact ⟨[b], by rw [h.2]; rfl⟩
      · obtain ⟨d, hd⟩ := ih _ _ _ _ h
        exact ⟨b :: d, by rw [hd]; rfl⟩
theorem getN_drop {l : List UInt8} {v : Nat} {r : List UInt8} (h : getN 0 0 l = some (v, r)) : l.drop (l.length - r.length) = r := by
  obtain ⟨d, rfl⟩ := getN_suffix l 0 0 v r h
  simp
end Go.Proofs.Ytjjbghbhnnionaa
namespace Go.Proofs.Ytjjbghbhnnionaa
open Go.RowKit

structure KeyV where
  table : ByteArray
  part : ByteArray
  row : Int
  col : ByteArray
structure ValV where
  kind : Int
  num : Int
  s : ByteArray
structure VerV where
  time : Int
  dead : Bool
  loc : Int
  val : ValV
structure CellV where
  key : KeyV
  ver : VerV

/-- A number that an int can hold. -/
def I64 (n : Int) : Prop := -9223372036854775808 ≤ n ∧ n ≤ 9223372036854775807
structure KeyV.Ok (k : KeyV) : Prop where
  row : I64 k.row
structure ValV.Ok (k : ValV) : Prop where
  kind : I64 k.kind
  num : I64 k.num
structure VerV.Ok (k : VerV) : Prop where
  time : I64 k.time
  loc : I64 k.loc
  val : k.val.Ok
structure CellV.Ok (c : CellV) : Prop where
  key : c.key.Ok
  ver : c.ver.Ok

def keyA (k : KeyV) : Array Value := #[.string k.table, .string k.part, .int .i64 k.row, .string k.col]
def valA (k : ValV) : Array Value := #[.int .i64 k.kind, .int .i64 k.num, .string k.s]
def verA (k : VerV) : Array Value := #[.int .i64 k.time, .bool k.dead, .int .i64 k.loc, .int .i64 k.val.kind, .int .i64 k.val.num, .string k.val.s]
def cellA (c : CellV) : Array Value := #[.string c.key.table, .string c.key.part, .int .i64 c.key.row, .string c.key.col, .int .i64 c.ver.time, .bool c.ver.dead, .int .i64 c.ver.loc, .int .i64 c.ver.val.kind, .int .i64 c.ver.val.num, .string c.ver.val.s]

/-- An int without a sign; the bits of an int. -/
def zigN (n : Int) : Nat := (zigZ n).toNat
theorem zigN_eq {n : Int} (h : I64 n) : zigZ n = (zigN n : Int) ∧ zigN n < 18446744073709551616 := by
  have := zigZ_bd n h.1 h.2
  unfold zigN
  omega
theorem zag_zigN {n : Int} (h : I64 n) : zagZ (zigN n : Int) = n := by rw [← (zigN_eq h).1, zag_zig]
def kindN (n : Int) : Nat := (n % 18446744073709551616).toNat
def kindZ (u : Nat) : Int := if u < 9223372036854775808 then (u : Int) else (u : Int) - 18446744073709551616
theorem kindN_lt (n : Int) : kindN n < 18446744073709551616 := by unfold kindN; omega
theorem kind_back {n : Int} (h : I64 n) : kindZ (kindN n) = n := by
  have h1 := h.1
  have h2 := h.2
  unfold kindZ kindN
  split <;> omega
theorem kindZ_ok {u : Nat} (h : u < 18446744073709551616) : I64 (kindZ u) := by
  unfold kindZ I64
  split <;> omega
theorem zagZ_ok {u : Nat} (h : u < 18446744073709551616) : I64 (zagZ u) := zagZ_bd _ (by omega) (by omega)

def strL (s : ByteArray) : List UInt8 := s.data.toList
theorem strL_length (s : ByteArray) : (strL s).length = s.size := by simp [strL]
def keyL (k : KeyV) : List UInt8 := txtL (strL k.table) ++ (txtL (strL k.part) ++ (numL (zigN k.row) ++ txtL (strL k.col)))
def valL (k : ValV) : List UInt8 := numL (kindN k.kind) ++ (numL (zigN k.num) ++ txtL (strL k.s))
def verL (k : VerV) : List UInt8 := numL (zigN k.time) ++ (if k.dead then 1 :: numL (zigN k.loc) else 0 :: valL k.val)
def cellL (c : CellV) : List UInt8 := keyL c.key ++ verL c.ver
def manyL (l : List CellV) : List UInt8 := l.flatMap cellL
def cellsL (l : List CellV) : List UInt8 := numL l.length ++ manyL l

theorem txtL_le (s : ByteArray) : (txtL (strL s)).length ≤ s.size + 10 := by
  have := (numL_length (strL s).length).2
  unfold txtL
  rw [List.length_append, strL_length] at *
  omega
theorem keyL_le (k : KeyV) : (keyL k).length ≤ k.table.size + k.part.size + k.col.size + 40 := by
  have h1 := txtL_le k.table
  have h2 := txtL_le k.part
  have h3 := txtL_le k.col
  have h4 := (numL_length (zigN k.row)).2
  unfold keyL
  simp only [List.length_append]
  omega
theorem valL_le (k : ValV) : (valL k).length ≤ k.s.size + 30 := by
  have h1 := txtL_le k.s
  have h4 := (numL_length (kindN k.kind)).2
  have h5 := (numL_length (zigN k.num)).2
  unfold valL
  simp only [List.length_append]
  omega
theorem verL_le (k : VerV) : (verL k).length ≤ k.val.s.size + 41 := by
  have h1 := valL_le k.val
  have h4 := (numL_length (zigN k.time)).2
  have h5 := (numL_length (zigN k.loc)).2
  unfold verL
  split <;> simp only [List.length_append, List.length_cons] <;> omega
/-- The bytes of a cell's texts. -/
def wtC (c : CellV) : Nat := c.key.table.size + c.key.part.size + c.key.col.size + c.ver.val.s.size
theorem cellL_le (c : CellV) : (cellL c).length ≤ wtC c + 81 := by
  have h1 := keyL_le c.key
  have h2 := verL_le c.ver
  unfold cellL wtC
  rw [List.length_append]
  omega
def wtL (l : List CellV) : Nat := (l.map wtC).sum
theorem manyL_le (l : List CellV) : (manyL l).length ≤ wtL l + 81 * l.length := by
  induction l with
  | nil => simp [manyL, wtL]
  | cons c l ih =>
    have h := cellL_le c
    unfold manyL wtL at *
    simp only [List.flatMap_cons, List.length_append, List.map_cons, List.sum_cons, List.length_cons]
    omega
/-- The bytes of a cell's texts that are written. -/
def wtV (k : VerV) : Nat := if k.dead then 0 else k.val.s.size
theorem verL_leD (k : VerV) : (verL k).length ≤ wtV k + 41 := by
  have h1 := valL_le k.val
  have h4 := (numL_length (zigN k.time)).2
  have h5 := (numL_length (zigN k.loc)).2
  unfold verL wtV
  split <;> simp only [List.length_append, List.length_cons] <;> omega
def wtD (c : CellV) : Nat := c.key.table.size + c.key.part.size + c.key.col.size + wtV c.ver
theorem cellL_leD (c : CellV) : (cellL c).length ≤ wtD c + 81 := by
  have h1 := keyL_le c.key
  have h2 := verL_leD c.ver
  unfold cellL wtD
  rw [List.length_append]
  omega
def wtLD (l : List CellV) : Nat := (l.map wtD).sum
theorem manyL_leD (l : List CellV) : (manyL l).length ≤ wtLD l + 81 * l.length := by
  induction l with
  | nil => simp [manyL, wtLD]
  | cons c l ih =>
    have h := cellL_leD c
    unfold manyL wtLD at *
    simp only [List.flatMap_cons, List.length_append, List.map_cons, List.sum_cons, List.length_cons]
    omega
theorem wtLD_le (l : List CellV) : wtLD l ≤ wtL l := by
  induction l with
  | nil => simp [wtLD, wtL]
  | cons c l ih =>
    have h : wtD c ≤ wtC c := by unfold wtD wtC wtV; split <;> omega
    unfold wtLD wtL at *
    simp only [List.map_cons, List.sum_cons]
    omega
theorem manyL_append (a b : List CellV) : manyL (a ++ b) = manyL a ++ manyL b := by unfold manyL; rw [List.flatMap_append]

/-! ### What bytes begin with. -/
def bytesOf (l : List UInt8) : ByteArray := ⟨l.toArray⟩
def signN (l : List UInt8) : Option (Int × List UInt8) := match getN 0 0 l with | none => none | some (v, r) => some (zagZ v, r)
def keyN (l : List UInt8) : Option (KeyV × List UInt8) :=
  match textN l with
  | none => none
  | some (t, r1) => match textN r1 with
    | none => none
    | some (p, r2) => match signN r2 with
      | none => none
      | some (n, r3) => match textN r3 with
        | none => none
        | some (c, r4) => some (⟨bytesOf t, bytesOf p, n, bytesOf c⟩, r4)
def valN (l : List UInt8) : Option (ValV × List UInt8) :=
  match getN 0 0 l with
  | none => none
  | some (k, r1) => match signN r1 with
    | none => none
    | some (n, r2) => match textN r2 with
      | none => none
      | some (s, r3) => some (⟨kindZ k, n, bytesOf s⟩, r3)
def noVal : ValV := ⟨0, 0, ⟨#[]⟩⟩
def verN (l : List UInt8) : Option (VerV × List UInt8) :=
  match signN l with
  | none => none
  | some (t, r1) => match r1 with
    | [] => none
    | m :: r2 =>
      if m = 0 then match valN r2 with | none => none | some (v, r3) => some (⟨t, false, 0, v⟩, r3)
      else if m = 1 then match signN r2 with | none => none | some (n, r3) => some (⟨t, true, n, noVal⟩, r3)
      else none
def cellN (l : List UInt8) : Option (CellV × List UInt8) :=
  match keyN l with
  | none => none
  | some (k, r1) => match verN r1 with | none => none | some (v, r2) => some (⟨k, v⟩, r2)
def manyN : Nat → List UInt8 → Option (List CellV × List UInt8)
  | 0, l => some ([], l)
  | n + 1, l => match cellN l with | none => none | some (c, r) => match manyN n r with | none => none | some (cs, r') => some (c :: cs, r')
def cellsN (l : List UInt8) : Option (List CellV) :=
  match getN 0 0 l with
  | none => none
  | some (n, r) => match manyN n r with | some (cs, []) => some cs | _ => none

/-! ### There and back. -/
theorem signN_back {n : Int} (h : I64 n) (r : List UInt8) : signN (numL (zigN n) ++ r) = some (n, r) := by
  unfold signN
  rw [get_back _ (zigN_eq h).2]
  simp only [zag_zigN h]
theorem bytesOf_strL (s : ByteArray) : bytesOf (strL s) = s := by cases s; simp [bytesOf, strL]
theorem txt_back (s : ByteArray) (h : s.size < 18446744073709551616) (r : List UInt8) : textN (txtL (strL s) ++ r) = some (strL s, r) := by
  unfold txtL
  rw [List.append_assoc]
  exact textN_back _ _ (by rw [strL_length]; exact h)
theorem keyN_back {k : KeyV} (h : k.Ok) (hs : k.table.size + k.part.size + k.col.size < 18446744073709551616) (r : List UInt8) : keyN (keyL k ++ r) = some (k, r) := by
  unfold keyN keyL
  simp only [List.append_assoc]
  rw [txt_back _ (by omega)]
  simp only []
  rw [txt_back _ (by omega)]
  simp only []
  rw [signN_back h.row]
  simp only []
  rw [txt_back _ (by omega)]
  simp only [bytesOf_strL]
theorem valN_back {k : ValV} (h : k.Ok) (hs : k.s.size < 18446744073709551616) (r : List UInt8) : valN (valL k ++ r) = some (k, r) := by
  unfold valN valL
  simp only [List.append_assoc]
  rw [get_back _ (kindN_lt _)]
  simp only []
  rw [signN_back h.num]
  simp only []
  rw [txt_back _ hs]
  simp only [bytesOf_strL, kind_back h.kind]
/-- What is told of a version: a deletion's value is not, nor another one's Local. -/
def plainV (v : VerV) : VerV := if v.dead then ⟨v.time, true, v.loc, noVal⟩ else ⟨v.time, false, 0, v.val⟩
def plainC (c : CellV) : CellV := ⟨c.key, plainV c.ver⟩
theorem verN_back {k : VerV} (h : k.Ok) (hs : k.val.s.size < 18446744073709551616) (r : List UInt8) : verN (verL k ++ r) = some (plainV k, r) := by
  unfold verN verL plainV
  simp only [List.append_assoc]
  rw [signN_back h.time]
  cases k.dead
  · simp only [Bool.false_eq_true, if_false, List.cons_append, if_true]
    rw [valN_back h.val hs]
  · simp only [if_true, List.cons_append, show ¬ ((1 : UInt8) = 0) by decide, if_false]
    rw [signN_back h.loc]
theorem cellN_back {c : CellV} (h : c.Ok) (hs : wtC c < 18446744073709551616) (r : List UInt8) : cellN (cellL c ++ r) = some (plainC c, r) := by
  unfold wtC at hs
  unfold cellN cellL plainC
  rw [List.append_assoc, keyN_back h.key (by omega)]
  simp only []
  rw [verN_back h.ver (by omega)]
theorem manyN_back : ∀ (l : List CellV) (r : List UInt8), (∀ c ∈ l, c.Ok ∧ wtC c < 18446744073709551616) → manyN l.length (manyL l ++ r) = some (l.map plainC, r) := by
  intro l
  induction l with
  | nil => intro r _; rfl
  | cons c l ih =>
    intro r h
    have h1 := h c (by simp)
    have e : manyL (c :: l) ++ r = cellL c ++ (manyL l ++ r) := by unfold manyL; simp
    rw [e, List.length_cons, manyN, cellN_back h1.1 h1.2]
    simp only []
    rw [ih r (fun x hx => h x (by simp [hx]))]
    rfl
theorem cellsN_back (l : List CellV) (h : ∀ c ∈ l, c.Ok ∧ wtC c < 18446744073709551616) (hl : l.length < 18446744073709551616) : cellsN (cellsL l) = some (l.map plainC) := by
  unfold cellsN cellsL
  rw [get_back _ hl]
  have := manyN_back l [] h
  rw [List.append_nil] at this
  simp only [this]
theorem cellsN_more (l : List CellV) (h : ∀ c ∈ l, c.Ok ∧ wtC c < 18446744073709551616) (hl : l.length < 18446744073709551616) (b : UInt8) : cellsN (cellsL l ++ [b]) = none := by
  unfold cellsN cellsL
  rw [List.append_assoc, get_back _ hl]
  simp only [manyN_back l [b] h]
end Go.Proofs.Ytjjbghbhnnionaa
namespace Go.Proofs.Ytjjbghbhnnionaa
open Go.RowKit

/-- Block g holds just these cells. -/
structure Box (w : World) (g : Nat) (cs : Array Value) (t : TypeId) : Prop where
  heap : w.heap[g]? = some (.cells cs t (0, 0))
theorem Box.new (w : World) (cs : Array Value) (t : TypeId) : Box (w.alloc (.cells cs t)) w.heap.size cs t := ⟨heap_alloc_new w _⟩
theorem Box.lt {w : World} {g : Nat} {cs : Array Value} {t : TypeId} (h : Box w g cs t) : g < w.heap.size := (Array.getElem?_eq_some_iff.1 h.heap).1
theorem Box.carry {w w' : World} {g : Nat} {cs : Array Value} {t : TypeId} (h : Box w g cs t) (hb : w'.heap[g]? = w.heap[g]?) : Box w' g cs t := ⟨hb.trans h.heap⟩
theorem Box.alloc {w : World} {g : Nat} {cs : Array Value} {t : TypeId} (h : Box w g cs t) (o : Obj) : Box (w.alloc o) g cs t := h.carry (Below.heap_alloc _ _ _ h.lt)
theorem Box.cell {w : World} {g : Nat} {cs : Array Value} {t : TypeId} (h : Box w g cs t) (i : Nat) : w.cell? ⟨g, i, none⟩ = cs[i]? := cell_of_row w g i cs t _ h.heap
theorem Box.frozen {w : World} {g : Nat} {cs : Array Value} {t : TypeId} (h : Box w g cs t) (i : Nat) : w.frozen? ⟨g, i, none⟩ = false := by
  have := h.heap
  simp [World.frozen?, this]
theorem Box.grew {w w' : World} {g : Nat} {cs : Array Value} {t : TypeId} {v v' : Value} (h : Box w g cs t) (hg : Grew w w' v v') (hne : v.ownBlock ≠ some g) : Box w' g cs t :=
  h.carry (hg.rows.block g h.lt (fun e => hne e.symm))
theorem Grew.ne {w w' : World} {g : Nat} {v v' : Value} (hg : Grew w w' v v') (hne : v.ownBlock ≠ some g) (hlt : g < w.heap.size) : v'.ownBlock ≠ some g := fun e => by
  rcases hg.own g e with h1 | h1
  · exact hne h1
  · omega
theorem owns_ne_new {base : Nat} {w : World} {e : TypeId} {size : Nat} {v : Value} {n : Nat} {xs : List Value} (h : w.ownsRow base e size v n xs) : v.ownBlock ≠ some w.heap.size := fun e => by
  have := (h.lt _ e).2
  omega
theorem zig_nat (n : Int) (w : World) (h : I64 n) : Calls Try.prog 96 #[.int .i64 n] w fun e w' => e = .returned (.int .u64 (zigN n : Int)) ∧ w' = w := by
  rw [← (zigN_eq h).1]
  exact zig_any n w h.1 h.2
theorem kind_wrap (n : Int) : IntKind.u64.wrap n = (kindN n : Int) := by
  rw [IntKind.wrap_u64]
  unfold kindN
  omega

/-- A row and what it grew to. -/
def Wrote (base : Nat) (v : Value) (n : Nat) (xs news : List UInt8) (w : World) (e : Ending) (w' : World) : Prop :=
  ∃ v', e = .returned v' ∧ w'.ownsRow base 5 1 v' (n + news.length) (B8 (xs ++ news)) ∧ Grew w w' v v'

set_option maxRecDepth 100000 in
set_option maxHeartbeats 800000 in
theorem addValue_any (base : Nat) (v : Value) (n : Nat) (xs : List UInt8) (k : ValV) (w : World) (hown : w.ownsRow base 5 1 v n (B8 xs)) (hk : k.Ok) (hn : n + k.s.size ≤ 140737488350000) (hb : base ≤ w.heap.size) :
    Calls Try.prog 97 #[v, .agg (valA k)] w (Wrote base v n xs (valL k) w) := by
  obtain ⟨kind, num, s⟩ := k
  have hk1 : I64 num := hk.num
  have hs : n + s.size ≤ 140737488350000 := hn
  have hB := Box.new w (valA ⟨kind, num, s⟩) 29
  have hne := owns_ne_new hown
  have Hne : Hid _ := hne
  have hbx : base ≤ w.heap.size := hb
  have hl1 := (numL_length (kindN kind)).2
  have hl2 := (numL_length (zigN num)).2
  have Hc1 : Hid _ := addNumber_any base v n xs (kindN kind) (w.alloc (.cells (valA ⟨kind, num, s⟩) 29)) (hown.alloc _) (kindN_lt _) (by omega) (by rw [World.size_alloc]; omega)
  have HB : Hid _ := hB
  clear hB hne hk hn hown
  unfold valA at *
  go_enter Try.func97, Try.ntmps97
  go_wp2_with fail
  rw [kind_wrap]
  refine Calls.mono (Hid.out Hc1) ?_
  rintro e w1 ⟨v1, rfl, ho1, hg1⟩
  have hB1 := HB.out.grew hg1 Hne.out
  have hne1 := hg1.ne Hne.out HB.out.lt
  have c1 := hB1.cell 1
  have hb1 : base ≤ w1.heap.size := Nat.le_trans (by rw [World.size_alloc]; omega) hg1.rows.size
  have HB1 : Hid _ := hB1
  have Hne1 : Hid _ := hne1
  clear Hc1 hB1 hne1
  go_wp2_with fail
  refine Calls.mono (zig_nat num _ hk1) ?_
  rintro e w1' ⟨rfl, rfl⟩
  go_wp2_with fail
  refine Calls.mono (addNumber_any base v1 _ _ (zigN num) _ ho1 (zigN_eq hk1).2 (by omega) hb1) ?_
  rintro e w2 ⟨v2, rfl, ho2, hg2⟩
  have c2 := (HB1.out.grew hg2 Hne1.out).cell 2
  have hb2 : base ≤ w2.heap.size := Nat.le_trans hb1 hg2.rows.size
  clear c1
  go_wp2_with fail
  refine Calls.mono (addText_any base v2 _ _ s _ ho2 (by omega) hb2) ?_
  rintro e w3 ⟨v3, rfl, ho3, hg3⟩
  go_wp2_with fail
  go_ret
  refine ⟨v3, rfl, ?_, (hg1.trans (hg2.trans hg3)).alloc⟩
  unfold valL strL
  simpa only [List.append_assoc, List.length_append, Nat.add_assoc] using ho3

set_option maxRecDepth 100000 in
set_option maxHeartbeats 800000 in
theorem addKey_any (base : Nat) (v : Value) (n : Nat) (xs : List UInt8) (k : KeyV) (w : World) (hown : w.ownsRow base 5 1 v n (B8 xs)) (hk : k.Ok) (hn : n + (k.table.size + k.part.size + k.col.size) ≤ 140737488350000) (hb : base ≤ w.heap.size) :
    Calls Try.prog 76 #[v, .agg (keyA k)] w (Wrote base v n xs (keyL k) w) := by
  obtain ⟨table, part, row, col⟩ := k
  have hk1 : I64 row := hk.row
  have hs : n + (table.size + part.size + col.size) ≤ 140737488350000 := hn
  have Hne : Hid (v.ownBlock ≠ some w.heap.size) := owns_ne_new hown
  have hl1 := txtL_le table
  have hl2 := txtL_le part
  have hl3 := (numL_length (zigN row)).2
  unfold strL at hl1 hl2
  have Hc1 : Hid _ := addText_any base v n xs table (w.alloc (.cells (keyA ⟨table, part, row, col⟩) 24)) (hown.alloc _) (by omega) (by rw [World.size_alloc]; omega)
  have HB : Hid (Box _ _ _ _) := Box.new w (keyA ⟨table, part, row, col⟩) 24
  clear hk hn hown
  unfold keyA at *
  go_enter Try.func76, Try.ntmps76
  go_wp2_with fail
  refine Calls.mono (Hid.out Hc1) ?_
  rintro e w1 ⟨v1, rfl, ho1, hg1⟩
  have HB1 : Hid (Box _ _ _ _) := HB.out.grew hg1 Hne.out
  have Hne1 : Hid (v1.ownBlock ≠ some w.heap.size) := hg1.ne Hne.out HB.out.lt
  have c1 := HB1.out.cell 1
  have hb1 : base ≤ w1.heap.size := Nat.le_trans (by rw [World.size_alloc]; omega) hg1.rows.size
  clear Hc1
  go_wp2_with fail
  refine Calls.mono (addText_any base v1 _ _ part _ ho1 (by omega) hb1) ?_
  rintro e w2 ⟨v2, rfl, ho2, hg2⟩
  have HB2 : Hid (Box _ _ _ _) := HB1.out.grew hg2 Hne1.out
  have Hne2 : Hid (v2.ownBlock ≠ some w.heap.size) := hg2.ne Hne1.out HB1.out.lt
  have c2 := HB2.out.cell 2
  have hb2 : base ≤ w2.heap.size := Nat.le_trans hb1 hg2.rows.size
  clear c1
  go_wp2_with fail
  refine Calls.mono (zig_nat row _ hk1) ?_
  rintro e w2' ⟨rfl, rfl⟩
  go_wp2_with fail
  refine Calls.mono (addNumber_any base v2 _ _ (zigN row) _ ho2 (zigN_eq hk1).2 (by omega) hb2) ?_
  rintro e w3 ⟨v3, rfl, ho3, hg3⟩
  have c3 := (HB2.out.grew hg3 Hne2.out).cell 3
  have hb3 : base ≤ w3.heap.size := Nat.le_trans hb2 hg3.rows.size
  clear c2
  go_wp2_with fail
  refine Calls.mono (addText_any base v3 _ _ col _ ho3 (by omega) hb3) ?_
  rintro e w4 ⟨v4, rfl, ho4, hg4⟩
  go_wp2_with fail
  go_ret
  refine ⟨v4, rfl, ?_, (hg1.trans (hg2.trans (hg3.trans hg4))).alloc⟩
  unfold keyL strL
  simpa only [List.append_assoc, List.length_append, Nat.add_assoc] using ho4
end Go.Proofs.Ytjjbghbhnnionaa
namespace Go.Proofs.Ytjjbghbhnnionaa
open Go.RowKit

/-- An append onto a row of the call's own, as one step of a region that draws. -/
theorem step_append_grew {P : Program} {ops : Array Oper} {o : Oper} {a : Act} {w : World} {K : Act → World → Prop} {Q : Exit → Act → World → Prop} {E : Prop}
    (hgd : o.guard = none) (s x : Operand) (t tx : TypeId) (ho : o.op = .call { callee := .builtin .append, args := #[s, x], argTypes := #[t, tx] })
    (base : Nat) (e : TypeId) (i : TypeInfo) (z : Value) (size bytes : Nat) (ht : P.underlying t = some (.slice e)) (hi : P.info? e = some i) (hz : i.zero = some z)
    (hsize : i.size = size) (hby : i.bytes = bytes) (hzs : z.cells.size = size)
    (v : Value) (n : Nat) (xs : List Value) (hs : a.eval s = v) (hown : w.ownsRow base e size v n xs)
    (xv : Value) (m : Nat) (news : List Value) (hx : a.eval x = xv) (hsrc : Src P size tx xv m news w)
    (h63 : n + m ≤ maxLen) (hbytes : (n + m) * bytes ≤ 140737488355328) (hbase : base ≤ w.heap.size)
    (h : ∀ v' w', w'.ownsRow base e size v' (n + m) (xs ++ news) → Grew w w' v v' → K (a.put o.dst v') w') :
    if Region.wanted o (yielded ops a.tmps) = true then Oper.wp P o a w K Q else E := by
  have hw : Region.wanted o (yielded ops a.tmps) = true := by simp [Region.wanted, hgd]
  rw [if_pos hw]
  obtain ⟨v', w', hr, h2, h3⟩ := run_append_grew (P := P) w base t tx o.type e i z size bytes ht hi hz hsize hby hzs v n xs hown xv m news hsrc h63 hbytes hbase
  unfold Oper.wp execOp
  simp only [ho, resolve, invoke, builtin, Sem.run_bind, Sem.run_pure, Result.andThen_ok, List.map_toArray, List.map_cons, List.map_nil, hs, hx, hr]
  exact h v' w' h2 h3
end Go.Proofs.Ytjjbghbhnnionaa
