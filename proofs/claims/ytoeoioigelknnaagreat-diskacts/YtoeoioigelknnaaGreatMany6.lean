/-
  SEVERAL TEXTS IN ONE: DskOper, CodPlain, CodSum.
-/
import Derived.Test.YtoeoioigelknnaaGreatDskCrash
import Derived.WalkKit
import Derived.PlainAid
import Derived.OpenShut
import Derived.Laws.BitsAllLaws
import Derived.Test.YtoeoioigelknnaaGreatChecked
import Derived.Test.YtoeoioigelknnaaGreatOwn
namespace Go.Proofs.YtoeoioigelknnaaGreat
open Go.RowKit Go.Maps

theorem ops_text (n : Nat) (h : n ≤ 4611686018427387904) : wrap64 ((n : Int) + 1) = ((n + 1 : Nat) : Int) := by rw [IntWalk.wrap64_in _ ⟨by omega, by omega⟩]; omega
theorem left_text (n : Nat) (h : n ≤ 9223372036854775807) : max 0 (wrap64 ((n : Int) - 1)) = ((n - 1 : Nat) : Int) := by rw [IntWalk.wrap64_in _ ⟨by omega, by omega⟩]; omega

set_option maxRecDepth 100000 in
theorem operateCreate {w : World} {d bm : Nat} {S : St} (h : DiskAt w d bm S) (hl : S.left ≠ 1) (ho : S.ops ≤ 4611686018427387904) (hlm : S.left ≤ 9223372036854775807) (p1 p2 : Nat) (v : Value) (Q : World → Prop)
    (C : ∀ w1, DiskAt w1 d bm { S with ops := S.ops + 1, left := S.left - 1 } → Moved w w1 [d] [d] → Calls Tryz.prog 52 #[.pointer (some ⟨p1, 0, none⟩), .pointer (some ⟨p2, 0, none⟩)] w1 fun x w2 => x = .returned (.tuple #[]) ∧ Q w2) :
    Calls Tryz.prog 51 #[.pointer (some ⟨d, 0, none⟩), .func (.func 52) #[] #[.pointer (some ⟨p1, 0, none⟩), .pointer (some ⟨p2, 0, none⟩)], v] w fun x w2 => x = .returned (.int .i64 0) ∧ Q w2 := by
  have c3 := h.c3
  have f3 := h.head.frozen 3
  have c5 := h.c5
  have f5 := h.head.frozen 5
  have h1 := h.put (S' := { S with ops := S.ops + 1 }) rfl 3 (.int .i64 ((S.ops + 1 : Nat) : Int)) rfl
  have h2 := h1.put (S' := { S with ops := S.ops + 1, left := S.left - 1 }) rfl 5 (.int .i64 ((S.left - 1 : Nat) : Int)) rfl
  have M : Moved w ((w.setCell ⟨d, 3, none⟩ (.int .i64 ((S.ops + 1 : Nat) : Int))).setCell ⟨d, 5, none⟩ (.int .i64 ((S.left - 1 : Nat) : Int))) [d] [d] := (Moved.of_set d 3 _).trans (Moved.of_set d 5 _)
  have hc := C _ h2 M
  have hlb : ((S.left : Int) == 1) = false := by rw [beq_eq_false_iff_ne]; omega
  have t1 := ops_text S.ops ho
  have t2 := left_text S.left hlm
  generalize hA : ((S.ops + 1 : Nat) : Int) = A at *
  generalize hB : ((S.left - 1 : Nat) : Int) = B at *
  have HC : Hid (Calls Tryz.prog 52 #[.pointer (some ⟨p1, 0, none⟩), .pointer (some ⟨p2, 0, none⟩)] ((w.setCell ⟨d, 3, none⟩ (.int .i64 A)).setCell ⟨d, 5, none⟩ (.int .i64 B)) fun x w2 => x = .returned (.tuple #[]) ∧ Q w2) := hc
  clear h h1 h2 M C hc ho hlm hl hA hB
  go_enter Tryz.func51, Tryz.ntmps51
  go_wp2_with (go_at_call 52; go_fit HC.out; rintro x w2 ⟨rfl, hQ⟩)
  go_ret
  exact ⟨rfl, hQ⟩

set_option maxRecDepth 100000 in
theorem operateAppend {w : World} {d bm : Nat} {S : St} (h : DiskAt w d bm S) (hl : S.left ≠ 1) (ho : S.ops ≤ 4611686018427387904) (hlm : S.left ≤ 9223372036854775807) (p1 p2 p3 : Nat) (v : Value) (Q : World → Prop)
    (C : ∀ w1, DiskAt w1 d bm { S with ops := S.ops + 1, left := S.left - 1 } → Moved w w1 [d] [d] → Calls Tryz.prog 56 #[.pointer (some ⟨p1, 0, none⟩), .pointer (some ⟨p2, 0, none⟩), .pointer (some ⟨p3, 0, none⟩)] w1 fun x w2 => x = .returned (.tuple #[]) ∧ Q w2) :
    Calls Tryz.prog 51 #[.pointer (some ⟨d, 0, none⟩), .func (.func 56) #[] #[.pointer (some ⟨p1, 0, none⟩), .pointer (some ⟨p2, 0, none⟩), .pointer (some ⟨p3, 0, none⟩)], v] w fun x w2 => x = .returned (.int .i64 0) ∧ Q w2 := by
  have c3 := h.c3
  have f3 := h.head.frozen 3
  have c5 := h.c5
  have f5 := h.head.frozen 5
  have h1 := h.put (S' := { S with ops := S.ops + 1 }) rfl 3 (.int .i64 ((S.ops + 1 : Nat) : Int)) rfl
  have h2 := h1.put (S' := { S with ops := S.ops + 1, left := S.left - 1 }) rfl 5 (.int .i64 ((S.left - 1 : Nat) : Int)) rfl
  have M : Moved w ((w.setCell ⟨d, 3, none⟩ (.int .i64 ((S.ops + 1 : Nat) : Int))).setCell ⟨d, 5, none⟩ (.int .i64 ((S.left - 1 : Nat) : Int))) [d] [d] := (Moved.of_set d 3 _).trans (Moved.of_set d 5 _)
  have hc := C _ h2 M
  have hlb : ((S.left : Int) == 1) = false := by rw [beq_eq_false_iff_ne]; omega
  have t1 := ops_text S.ops ho
  have t2 := left_text S.left hlm
  generalize hA : ((S.ops + 1 : Nat) : Int) = A at *
  generalize hB : ((S.left - 1 : Nat) : Int) = B at *
  have HC : Hid (Calls Tryz.prog 56 #[.pointer (some ⟨p1, 0, none⟩), .pointer (some ⟨p2, 0, none⟩), .pointer (some ⟨p3, 0, none⟩)] ((w.setCell ⟨d, 3, none⟩ (.int .i64 A)).setCell ⟨d, 5, none⟩ (.int .i64 B)) fun x w2 => x = .returned (.tuple #[]) ∧ Q w2) := hc
  clear h h1 h2 M C hc ho hlm hl hA hB
  go_enter Tryz.func51, Tryz.ntmps51
  go_wp2_with (go_at_call 56; go_fit HC.out; rintro x w2 ⟨rfl, hQ⟩)
  go_ret
  exact ⟨rfl, hQ⟩

set_option maxRecDepth 100000 in
theorem operateSync {w : World} {d bm : Nat} {S : St} (h : DiskAt w d bm S) (hl : S.left ≠ 1) (ho : S.ops ≤ 4611686018427387904) (hlm : S.left ≤ 9223372036854775807) (p1 : Nat) (v : Value) (Q : World → Prop)
    (C : ∀ w1, DiskAt w1 d bm { S with ops := S.ops + 1, left := S.left - 1 } → Moved w w1 [d] [d] → Calls Tryz.prog 58 #[.pointer (some ⟨p1, 0, none⟩)] w1 fun x w2 => x = .returned (.tuple #[]) ∧ Q w2) :
    Calls Tryz.prog 51 #[.pointer (some ⟨d, 0, none⟩), .func (.func 58) #[] #[.pointer (some ⟨p1, 0, none⟩)], v] w fun x w2 => x = .returned (.int .i64 0) ∧ Q w2 := by
  have c3 := h.c3
  have f3 := h.head.frozen 3
  have c5 := h.c5
  have f5 := h.head.frozen 5
  have h1 := h.put (S' := { S with ops := S.ops + 1 }) rfl 3 (.int .i64 ((S.ops + 1 : Nat) : Int)) rfl
  have h2 := h1.put (S' := { S with ops := S.ops + 1, left := S.left - 1 }) rfl 5 (.int .i64 ((S.left - 1 : Nat) : Int)) rfl
  have M : Moved w ((w.setCell ⟨d, 3, none⟩ (.int .i64 ((S.ops + 1 : Nat) : Int))).setCell ⟨d, 5, none⟩ (.int .i64 ((S.left - 1 : Nat) : Int))) [d] [d] := (Moved.of_set d 3 _).trans (Moved.of_set d 5 _)
  have hc := C _ h2 M
  have hlb : ((S.left : Int) == 1) = false := by rw [beq_eq_false_iff_ne]; omega
  have t1 := ops_text S.ops ho
  have t2 := left_text S.left hlm
  generalize hA : ((S.ops + 1 : Nat) : Int) = A at *
  generalize hB : ((S.left - 1 : Nat) : Int) = B at *
  have HC : Hid (Calls Tryz.prog 58 #[.pointer (some ⟨p1, 0, none⟩)] ((w.setCell ⟨d, 3, none⟩ (.int .i64 A)).setCell ⟨d, 5, none⟩ (.int .i64 B)) fun x w2 => x = .returned (.tuple #[]) ∧ Q w2) := hc
  clear h h1 h2 M C hc ho hlm hl hA hB
  go_enter Tryz.func51, Tryz.ntmps51
  go_wp2_with (go_at_call 58; go_fit HC.out; rintro x w2 ⟨rfl, hQ⟩)
  go_ret
  exact ⟨rfl, hQ⟩

set_option maxRecDepth 100000 in
theorem operateRename {w : World} {d bm : Nat} {S : St} (h : DiskAt w d bm S) (hl : S.left ≠ 1) (ho : S.ops ≤ 4611686018427387904) (hlm : S.left ≤ 9223372036854775807) (p1 p2 p3 p4 : Nat) (v : Value) (Q : World → Prop)
    (C : ∀ w1, DiskAt w1 d bm { S with ops := S.ops + 1, left := S.left - 1 } → Moved w w1 [d] [d] → Calls Tryz.prog 73 #[.pointer (some ⟨p1, 0, none⟩), .pointer (some ⟨p2, 0, none⟩), .pointer (some ⟨p3, 0, none⟩), .pointer (some ⟨p4, 0, none⟩)] w1 fun x w2 => x = .returned (.tuple #[]) ∧ Q w2) :
    Calls Tryz.prog 51 #[.pointer (some ⟨d, 0, none⟩), .func (.func 73) #[] #[.pointer (some ⟨p1, 0, none⟩), .pointer (some ⟨p2, 0, none⟩), .pointer (some ⟨p3, 0, none⟩), .pointer (some ⟨p4, 0, none⟩)], v] w fun x w2 => x = .returned (.int .i64 0) ∧ Q w2 := by
  have c3 := h.c3
  have f3 := h.head.frozen 3
  have c5 := h.c5
  have f5 := h.head.frozen 5
  have h1 := h.put (S' := { S with ops := S.ops + 1 }) rfl 3 (.int .i64 ((S.ops + 1 : Nat) : Int)) rfl
  have h2 := h1.put (S' := { S with ops := S.ops + 1, left := S.left - 1 }) rfl 5 (.int .i64 ((S.left - 1 : Nat) : Int)) rfl
  have M : Moved w ((w.setCell ⟨d, 3, none⟩ (.int .i64 ((S.ops + 1 : Nat) : Int))).setCell ⟨d, 5, none⟩ (.int .i64 ((S.left - 1 : Nat) : Int))) [d] [d] := (Moved.of_set d 3 _).trans (Moved.of_set d 5 _)
  have hc := C _ h2 M
  have hlb : ((S.left : Int) == 1) = false := by rw [beq_eq_false_iff_ne]; omega
  have t1 := ops_text S.ops ho
  have t2 := left_text S.left hlm
  generalize hA : ((S.ops + 1 : Nat) : Int) = A at *
  generalize hB : ((S.left - 1 : Nat) : Int) = B at *
  have HC : Hid (Calls Tryz.prog 73 #[.pointer (some ⟨p1, 0, none⟩), .pointer (some ⟨p2, 0, none⟩), .pointer (some ⟨p3, 0, none⟩), .pointer (some ⟨p4, 0, none⟩)] ((w.setCell ⟨d, 3, none⟩ (.int .i64 A)).setCell ⟨d, 5, none⟩ (.int .i64 B)) fun x w2 => x = .returned (.tuple #[]) ∧ Q w2) := hc
  clear h h1 h2 M C hc ho hlm hl hA hB
  go_enter Tryz.func51, Tryz.ntmps51
  go_wp2_with (go_at_call 73; go_fit HC.out; rintro x w2 ⟨rfl, hQ⟩)
  go_ret
  exact ⟨rfl, hQ⟩

set_option maxRecDepth 100000 in
theorem operateRemove {w : World} {d bm : Nat} {S : St} (h : DiskAt w d bm S) (hl : S.left ≠ 1) (ho : S.ops ≤ 4611686018427387904) (hlm : S.left ≤ 9223372036854775807) (p1 p2 : Nat) (v : Value) (Q : World → Prop)
    (C : ∀ w1, DiskAt w1 d bm { S with ops := S.ops + 1, left := S.left - 1 } → Moved w w1 [d] [d] → Calls Tryz.prog 74 #[.pointer (some ⟨p1, 0, none⟩), .pointer (some ⟨p2, 0, none⟩)] w1 fun x w2 => x = .returned (.tuple #[]) ∧ Q w2) :
    Calls Tryz.prog 51 #[.pointer (some ⟨d, 0, none⟩), .func (.func 74) #[] #[.pointer (some ⟨p1, 0, none⟩), .pointer (some ⟨p2, 0, none⟩)], v] w fun x w2 => x = .returned (.int .i64 0) ∧ Q w2 := by
  have c3 := h.c3
  have f3 := h.head.frozen 3
  have c5 := h.c5
  have f5 := h.head.frozen 5
  have h1 := h.put (S' := { S with ops := S.ops + 1 }) rfl 3 (.int .i64 ((S.ops + 1 : Nat) : Int)) rfl
  have h2 := h1.put (S' := { S with ops := S.ops + 1, left := S.left - 1 }) rfl 5 (.int .i64 ((S.left - 1 : Nat) : Int)) rfl
  have M : Moved w ((w.setCell ⟨d, 3, none⟩ (.int .i64 ((S.ops + 1 : Nat) : Int))).setCell ⟨d, 5, none⟩ (.int .i64 ((S.left - 1 : Nat) : Int))) [d] [d] := (Moved.of_set d 3 _).trans (Moved.of_set d 5 _)
  have hc := C _ h2 M
  have hlb : ((S.left : Int) == 1) = false := by rw [beq_eq_false_iff_ne]; omega
  have t1 := ops_text S.ops ho
  have t2 := left_text S.left hlm
  generalize hA : ((S.ops + 1 : Nat) : Int) = A at *
  generalize hB : ((S.left - 1 : Nat) : Int) = B at *
  have HC : Hid (Calls Tryz.prog 74 #[.pointer (some ⟨p1, 0, none⟩), .pointer (some ⟨p2, 0, none⟩)] ((w.setCell ⟨d, 3, none⟩ (.int .i64 A)).setCell ⟨d, 5, none⟩ (.int .i64 B)) fun x w2 => x = .returned (.tuple #[]) ∧ Q w2) := hc
  clear h h1 h2 M C hc ho hlm hl hA hB
  go_enter Tryz.func51, Tryz.ntmps51
  go_wp2_with (go_at_call 74; go_fit HC.out; rintro x w2 ⟨rfl, hQ⟩)
  go_ret
  exact ⟨rfl, hQ⟩
end Go.Proofs.YtoeoioigelknnaaGreat
namespace Go.Proofs.YtoeoioigelknnaaGreat
open Go.RowKit

/-- An int without a sign. -/
def zigZ (n : Int) : Int := if n < 0 then -2 * n - 1 else 2 * n
/-- The other way round. -/
def zagZ (u : Int) : Int := if u % 2 = 1 then -(u / 2) - 1 else u / 2

theorem zigZ_bd (n : Int) (h1 : -9223372036854775808 ≤ n) (h2 : n ≤ 9223372036854775807) : 0 ≤ zigZ n ∧ zigZ n ≤ 18446744073709551615 := by
  unfold zigZ; split <;> omega
theorem zagZ_bd (u : Int) (h1 : 0 ≤ u) (h2 : u ≤ 18446744073709551615) : -9223372036854775808 ≤ zagZ u ∧ zagZ u ≤ 9223372036854775807 := by
  unfold zagZ; split <;> omega
theorem zag_zig (n : Int) : zagZ (zigZ n) = n := by unfold zigZ zagZ; split <;> split <;> omega
theorem zig_zag (u : Int) (h1 : 0 ≤ u) : zigZ (zagZ u) = u := by unfold zigZ zagZ; split <;> split <;> omega

theorem xor_ones (a : Nat) (ha : a < 18446744073709551616) : a ^^^ 18446744073709551615 = 18446744073709551615 - a := by
  have h : (BitVec.ofNat 64 a ^^^ BitVec.allOnes 64).toNat = (~~~ BitVec.ofNat 64 a).toNat := by rw [BitVec.xor_allOnes]
  rw [BitVec.toNat_xor, BitVec.toNat_not, BitVec.toNat_allOnes, BitVec.toNat_ofNat, Nat.mod_eq_of_lt (by omega)] at h
  exact h

/-- What Zig's text reckons is zigZ. -/
theorem zig_text (n : Int) (h1 : -9223372036854775808 ≤ n) (h2 : n ≤ 9223372036854775807) :
    bits BinOp.xor IntKind.u64 (IntKind.u64.wrap (IntKind.u64.wrap n * 2)) (IntKind.u64.wrap (n / 9223372036854775808)) = zigZ n := by
  unfold zigZ
  by_cases h : n < 0
  · rw [if_pos h, PlainAid.shr63_neg h h1, IntKind.wrap_u64, IntKind.wrap_u64, IntKind.wrap_u64, u64_xor _ _ (by omega) (by omega) (by omega) (by omega)]
    have e1 : (n % 18446744073709551616 * 2 % 18446744073709551616).toNat = (2 * n + 18446744073709551616).toNat := by omega
    have e2 : ((-1 : Int) % 18446744073709551616).toNat = 18446744073709551615 := by decide
    rw [e1, e2, xor_ones _ (by omega)]
    omega
  · rw [if_neg h, PlainAid.shr63_nonneg (by omega) h2, IntKind.wrap_u64, IntKind.wrap_u64, IntKind.wrap_u64, u64_xor _ _ (by omega) (by omega) (by omega) (by omega)]
    have e2 : ((0 : Int) % 18446744073709551616).toNat = 0 := by decide
    rw [e2, Nat.xor_zero]
    omega

/-! ### The sum. -/
def tabZ : List Int := [0, 498536548, 997073096, 651767980, 1994146192, 1802195444, 1303535960, 1342533948, 3988292384, 4027552580, 3604390888, 3412177804, 2607071920, 2262029012, 2685067896, 3183342108]
/-- Four steps of the sum at once. -/
def fourZ (s : Int) : Int := bits BinOp.xor IntKind.u32 (s / 16) (tabZ.getD (s % 16).toNat 0)
/-- The sum goes on by one byte. -/
def byteZ (s x : Int) : Int := fourZ (fourZ (bits BinOp.xor IntKind.u32 s x))
def sumOnZ (s : Int) (l : List UInt8) : Int := l.foldl (fun s b => byteZ s (b.toNat : Int)) s

theorem bits_u32 (op : BinOp) (x y : Int) : 0 ≤ bits op IntKind.u32 x y ∧ bits op IntKind.u32 x y ≤ 4294967295 := by
  exact bounds_u32 (wf_bits op .u32 x y)
theorem fourZ_bd (s : Int) : 0 ≤ fourZ s ∧ fourZ s ≤ 4294967295 := bits_u32 _ _ _
theorem byteZ_bd (s x : Int) : 0 ≤ byteZ s x ∧ byteZ s x ≤ 4294967295 := fourZ_bd _
theorem sumOnZ_bd (s : Int) (l : List UInt8) (h : 0 ≤ s ∧ s ≤ 4294967295) : 0 ≤ sumOnZ s l ∧ sumOnZ s l ≤ 4294967295 := by
  unfold sumOnZ
  induction l generalizing s with
  | nil => exact h
  | cons x l ih => exact ih _ (byteZ_bd s _)
theorem sumOnZ_take (s : Int) (l : List UInt8) (k : Nat) (h : k < l.length) : sumOnZ s (l.take (k + 1)) = byteZ (sumOnZ s (l.take k)) ((l.getD k 0).toNat : Int) := by
  unfold sumOnZ
  rw [List.take_succ_eq_append_getElem h, List.foldl_append]
  simp [List.getD, h]
/-- The bytes' sum. -/
def sumZ (l : List UInt8) : Int := 4294967295 - sumOnZ 4294967295 l
theorem not_u32 (a : Int) (h0 : 0 ≤ a) (h1 : a ≤ 4294967295) : bits BinOp.xor IntKind.u32 IntKind.u32.max a = 4294967295 - a := by
  show bits BinOp.xor IntKind.u32 4294967295 a = 4294967295 - a
  rw [u32_xor _ _ (by omega) (by omega) (by omega) (by omega)]
  have h : (BitVec.allOnes 32 ^^^ BitVec.ofNat 32 a.toNat).toNat = (~~~ BitVec.ofNat 32 a.toNat).toNat := by rw [BitVec.allOnes_xor]
  rw [BitVec.toNat_xor, BitVec.toNat_not, BitVec.toNat_allOnes, BitVec.toNat_ofNat, Nat.mod_eq_of_lt (by omega)] at h
  have e : (4294967295 : Int).toNat = 2 ^ 32 - 1 := by decide
  rw [e, h]
  omega
theorem sumOnZ_append (s : Int) (a b : List UInt8) : sumOnZ s (a ++ b) = sumOnZ (sumOnZ s a) b := List.foldl_append
theorem sumZ_bd (l : List UInt8) : 0 ≤ sumZ l ∧ sumZ l ≤ 4294967295 := by
  have := sumOnZ_bd 4294967295 l ⟨by decide, by decide⟩
  unfold sumZ; omega

/-! ### Numbers in bytes. -/
/-- A number to base 128, the least digit first, at most k + 1 digits. -/
def numF : Nat → Nat → List UInt8
  | 0, u => [UInt8.ofNat u]
  | k + 1, u => if u < 128 then [UInt8.ofNat u] else UInt8.ofNat (u % 128 + 128) :: numF k (u / 128)
def numL (u : Nat) : List UInt8 := numF 9 u
theorem numF_small (k u : Nat) (h : u < 128) : numF k u = [UInt8.ofNat u] := by
  cases k with
  | zero => rfl
  | succ k => rw [numF, if_pos h]
theorem numF_great (k u : Nat) (h : 128 ≤ u) : numF (k + 1) u = UInt8.ofNat (u % 128 + 128) :: numF k (u / 128) := by
  rw [numF, if_neg (by omega)]
theorem numF_length (k u : Nat) : 1 ≤ (numF k u).length ∧ (numF k u).length ≤ k + 1 := by
  induction k generalizing u with
  | zero => exact ⟨Nat.le_refl _, Nat.le_refl _⟩
  | succ k ih =>
    unfold numF
    split
    · exact ⟨by simp, by simp⟩
    · have := ih (u / 128)
      simp only [List.length_cons]
      omega
theorem numL_length (u : Nat) : 1 ≤ (numL u).length ∧ (numL u).length ≤ 10 := numF_length 9 u
/-- Of u the digits d are written; x is left. -/
structure NumAt (u : Nat) (d : List UInt8) (x : Nat) : Prop where
  ex : ∃ k, numL u = d ++ numF k x ∧ d.length + k = 9 ∧ x < 2 * 128 ^ k
theorem NumAt.start {u : Nat} (h : u < 18446744073709551616) : NumAt u [] u := ⟨9, rfl, rfl, h⟩
theorem NumAt.step {u x : Nat} {d : List UInt8} (h : NumAt u d x) (hx : 128 ≤ x) : NumAt u (d ++ [UInt8.ofNat (x % 128 + 128)]) (x / 128) := by
  obtain ⟨k, h1, h2, h3⟩ := h.ex
  cases k with
  | zero => omega
  | succ k =>
    refine ⟨k, ?_, ?_, ?_⟩
    · rw [h1, numF_great k x hx]; simp
    · simp; omega
    · rw [Nat.div_lt_iff_lt_mul (by omega)]
      rw [Nat.pow_succ] at h3
      omega
theorem NumAt.done {u x : Nat} {d : List UInt8} (h : NumAt u d x) (hx : x < 128) : numL u = d ++ [UInt8.ofNat x] := by
  obtain ⟨k, h1, _, _⟩ := h.ex
  rw [h1, numF_small k x hx]
theorem NumAt.len {u x : Nat} {d : List UInt8} (h : NumAt u d x) : d.length ≤ 9 := by
  obtain ⟨k, _, h2, _⟩ := h.ex
  omega
theorem NumAt.bd {u x : Nat} {d : List UInt8} (h : NumAt u d x) : (x : Int) ≤ 18446744073709551615 := by
  obtain ⟨k, _, h2, h3⟩ := h.ex
  have h4 : 128 ^ k ≤ 128 ^ 9 := Nat.pow_le_pow_right (by omega) (by omega)
  have h5 : 2 * 128 ^ 9 = 18446744073709551616 := by decide
  omega
theorem byte_val (x : Nat) (h : x < 256) : ((UInt8.ofNat x).toNat : Int) = (x : Int) := by
  simp; omega

/-! ### Words of four bytes. -/
def fourL (x : Nat) : List UInt8 := [UInt8.ofNat (x / 16777216), UInt8.ofNat (x / 65536), UInt8.ofNat (x / 256), UInt8.ofNat x]
/-- The first k bytes of a word, laid from a place on. -/
def layL (l : List UInt8) (off : Nat) (x k : Nat) : List UInt8 := l.take off ++ (fourL x).take k ++ l.drop (off + k)
theorem layL_zero (l : List UInt8) (off x : Nat) : layL l off x 0 = l := by simp [layL]
theorem layL_length (l : List UInt8) (off x k : Nat) (hk : k ≤ 4) (h : off + k ≤ l.length) : (layL l off x k).length = l.length := by
  simp [layL, fourL]; omega
theorem layL_step (l : List UInt8) (off x k : Nat) (hk : k < 4) (h : off + k < l.length) : (layL l off x k).set (off + k) ((fourL x).getD k 0) = layL l off x (k + 1) := by
  unfold layL
  have hf : k < (fourL x).length := by simp [fourL]; omega
  have h1 : (List.take off l).length = off := by simp; omega
  have h2 : (List.take k (fourL x)).length = k := by simp [fourL]; omega
  rw [List.append_assoc, List.set_append_right _ _ (by omega), h1, Nat.add_sub_cancel_left, List.set_append_right _ _ (by omega), h2, Nat.sub_self, List.take_succ_eq_append_getElem hf, List.append_assoc, List.append_assoc,
    List.drop_eq_getElem_cons h, List.set_cons_zero]
  simp [List.getD, hf, Nat.add_assoc]
/-- A frame: the count, the sum of the count and the content, the content. -/
def frameL (l : List UInt8) : List UInt8 := fourL l.length ++ (fourL (sumZ (fourL l.length ++ l)).toNat ++ l)
theorem fourL_length (x : Nat) : (fourL x).length = 4 := rfl
theorem frameL_length (l : List UInt8) : (frameL l).length = l.length + 8 := by simp [frameL, fourL]
end Go.Proofs.YtoeoioigelknnaaGreat
namespace Go.Proofs.YtoeoioigelknnaaGreat
open Go.RowKit


end Go.Proofs.YtoeoioigelknnaaGreat
