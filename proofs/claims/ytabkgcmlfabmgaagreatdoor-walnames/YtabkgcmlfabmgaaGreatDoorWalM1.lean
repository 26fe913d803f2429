/-
  SEVERAL TEXTS IN ONE: CodPlain, CodSum, CodAdd, CodPut, NumPlain, ShortPlain, TextPlain, CellPlain, CellWrite, Steps, CodFrame, CodLives, CodRead, CodNum, CodGet, CodGot, RefNum, RefGet, RefLend, CrcPlain, RefSum, CodText, CodUnframe, RefFrame, RefUnframe, CellVer.
-/
import Derived.WalkKit
import Derived.PlainAid
import Derived.OpenShut
import Derived.Laws.BitsAllLaws
import Derived.Test.YtabkgcmlfabmgaaGreatDoorChecked
import Derived.Test.YtabkgcmlfabmgaaGreatDoorOwn
import Derived.Deep.RegionLaw
import Derived.Laws.CopyOwn
import Derived.Deep.RegionWith
import Derived.Lib.SlBytesConst
import Derived.WalkLawsBesides
import Derived.WalkSmall
import Derived.Deep.QuietTactic
import Derived.BigQuiet
import Derived.Defers
import Derived.Recover
import Derived.Laws.Pointers
import Derived.WideLaws
namespace Go.Proofs.YtabkgcmlfabmgaaGreatDoor
open Go.RowKit

/-- An int without a sign. -/
def zigZ (n : Int) : Int := if n < 0 then -2 * n - 1 else 2 * n
/-- The other way round. -/
def zagZ (u : Int) : Int := if u % 2 = 1 then -(u / 2) - 1 else u / 2

theorem zigZ_bd (n : Int) (h1 : -9223372036854775808 ≤ n) (h2 : n ≤ 9223372036854775807) : 0 ≤ zigZ n ∧ zigZ n ≤ 18446744073709551615 := by
  unfold zigZ; split <;> omega
theorem zagZ_bd (u : Int) (h1 : 0 ≤ u) (h2 : u ≤ 18446744073709551615) : -9223372036854775808 ≤ zagZ u ∧ zagZ u ≤ 9223372036854775807 := by
  unfold zagZ; split <;> omega
theorem zag_zig (n : Int) : zagZ (zigZ n) = n := by unfold zigZ zagZ; split <;> split <;> omega
theorem zig_zag (u : Int) (h1 : 0 ≤ u) : zigZ (zagZ u) = u := by unfold zigZ zagZ; split <;> split <;> omega

theorem xor_ones (a : Nat) (ha : a < 18446744073709551616) : a ^^^ 18446744073709551615 = 18446744073709551615 - a := by
  have h : (BitVec.ofNat 64 a ^^^ BitVec.allOnes 64).toNat = (~~~ BitVec.ofNat 64 a).toNat := by rw [BitVec.xor_allOnes]
  rw [BitVec.toNat_xor, BitVec.toNat_not, BitVec.toNat_allOnes, BitVec.toNat_ofNat, Nat.mod_eq_of_lt (by omega)] at h
  exact h

/-- What Zig's text reckons is zigZ. -/
theorem zig_text (n : Int) (h1 : -9223372036854775808 ≤ n) (h2 : n ≤ 9223372036854775807) :
    bits BinOp.xor IntKind.u64 (IntKind.u64.wrap (IntKind.u64.wrap n * 2)) (IntKind.u64.wrap (n / 9223372036854775808)) = zigZ n := by
  unfold zigZ
  by_cases h : n < 0
  · rw [if_pos h, PlainAid.shr63_neg h h1, IntKind.wrap_u64, IntKind.wrap_u64, IntKind.wrap_u64, u64_xor _ _ (by omega) (by omega) (by omega) (by omega)]
    have e1 : (n % 18446744073709551616 * 2 % 18446744073709551616).toNat = (2 * n + 18446744073709551616).toNat := by omega
    have e2 : ((-1 : Int) % 18446744073709551616).toNat = 18446744073709551615 := by decide
    rw [e1, e2, xor_ones _ (by omega)]
    omega
  · rw [if_neg h, PlainAid.shr63_nonneg (by omega) h2, IntKind.wrap_u64, IntKind.wrap_u64, IntKind.wrap_u64, u64_xor _ _ (by omega) (by omega) (by omega) (by omega)]
    have e2 : ((0 : Int) % 18446744073709551616).toNat = 0 := by decide
    rw [e2, Nat.xor_zero]
    omega

/-! ### The sum. -/
def tabZ : List Int := [0, 498536548, 997073096, 651767980, 1994146192, 1802195444, 1303535960, 1342533948, 3988292384, 4027552580, 3604390888, 3412177804, 2607071920, 2262029012, 2685067896, 3183342108]
/-- Four steps of the sum at once. -/
def fourZ (s : Int) : Int := bits BinOp.xor IntKind.u32 (s / 16) (tabZ.getD (s % 16).toNat 0)
/-- The sum goes on by one byte. -/
def byteZ (s x : Int) : Int := fourZ (fourZ (bits BinOp.xor IntKind.u32 s x))
def sumOnZ (s : Int) (l : List UInt8) : Int := l.foldl (fun s b => byteZ s (b.toNat : Int)) s

theorem bits_u32 (op : BinOp) (x y : Int) : 0 ≤ bits op IntKind.u32 x y ∧ bits op IntKind.u32 x y ≤ 4294967295 := by
  exact bounds_u32 (wf_bits op .u32 x y)
theorem fourZ_bd (s : Int) : 0 ≤ fourZ s ∧ fourZ s ≤ 4294967295 := bits_u32 _ _ _
theorem byteZ_bd (s x : Int) : 0 ≤ byteZ s x ∧ byteZ s x ≤ 4294967295 := fourZ_bd _
theorem sumOnZ_bd (s : Int) (l : List UInt8) (h : 0 ≤ s ∧ s ≤ 4294967295) : 0 ≤ sumOnZ s l ∧ sumOnZ s l ≤ 4294967295 := by
  unfold sumOnZ
  induction l generalizing s with
  | nil => exact h
  | cons x l ih => exact ih _ (byteZ_bd s _)
theorem sumOnZ_take (s : Int) (l : List UInt8) (k : Nat) (h : k < l.length) : sumOnZ s (l.take (k + 1)) = byteZ (sumOnZ s (l.take k)) ((l.getD k 0).toNat : Int) := by
  unfold sumOnZ
  rw [List.take_succ_eq_append_getElem h, List.foldl_append]
  simp [List.getD, h]
/-- The bytes' sum. -/
def sumZ (l : List UInt8) : Int := 4294967295 - sumOnZ 4294967295 l
theorem not_u32 (a : Int) (h0 : 0 ≤ a) (h1 : a ≤ 4294967295) : bits BinOp.xor IntKind.u32 IntKind.u32.max a = 4294967295 - a := by
  show bits BinOp.xor IntKind.u32 4294967295 a = 4294967295 - a
  rw [u32_xor _ _ (by omega) (by omega) (by omega) (by omega)]
  have h : (BitVec.allOnes 32 ^^^ BitVec.ofNat 32 a.toNat).toNat = (~~~ BitVec.ofNat 32 a.toNat).toNat := by rw [BitVec.allOnes_xor]
  rw [BitVec.toNat_xor, BitVec.toNat_not, BitVec.toNat_allOnes, BitVec.toNat_ofNat, Nat.mod_eq_of_lt (by omega)] at h
  have e : (4294967295 : Int).toNat = 2 ^ 32 - 1 := by decide
  rw [e, h]
  omega
theorem sumOnZ_append (s : Int) (a b : List UInt8) : sumOnZ s (a ++ b) = sumOnZ (sumOnZ s a) b := List.foldl_append
theorem sumZ_bd (l : List UInt8) : 0 ≤ sumZ l ∧ sumZ l ≤ 4294967295 := by
  have := sumOnZ_bd 4294967295 l ⟨by decide, by decide⟩
  unfold sumZ; omega

/-! ### Numbers in bytes. -/
/-- A number to base 128, the least digit first, at most k + 1 digits. -/
def numF : Nat → Nat → List UInt8
  | 0, u => [UInt8.ofNat u]
  | k + 1, u => if u < 128 then [UInt8.ofNat u] else UInt8.ofNat (u % 128 + 128) :: numF k (u / 128)
def numL (u : Nat) : List UInt8 := numF 9 u
theorem numF_small (k u : Nat) (h : u < 128) : numF k u = [UInt8.ofNat u] := by
  cases k with
  | zero => rfl
  | succ k => rw [numF, if_pos h]
theorem numF_great (k u : Nat) (h : 128 ≤ u) : numF (k + 1) u = UInt8.ofNat (u % 128 + 128) :: numF k (u / 128) := by
  rw [numF, if_neg (by omega)]
theorem numF_length (k u : Nat) : 1 ≤ (numF k u).length ∧ (numF k u).length ≤ k + 1 := by
  induction k generalizing u with
  | zero => exact ⟨Nat.le_refl _, Nat.le_refl _⟩
  | succ k ih =>
    unfold numF
    split
    · exact ⟨by simp, by simp⟩
    · have := ih (u / 128)
      simp only [List.length_cons]
      omega
theorem numL_length (u : Nat) : 1 ≤ (numL u).length ∧ (numL u).length ≤ 10 := numF_length 9 u
/-- Of u the digits d are written; x is left. -/
structure NumAt (u : Nat) (d : List UInt8) (x : Nat) : Prop where
  ex : ∃ k, numL u = d ++ numF k x ∧ d.length + k = 9 ∧ x < 2 * 128 ^ k
theorem NumAt.start {u : Nat} (h : u < 18446744073709551616) : NumAt u [] u := ⟨9, rfl, rfl, h⟩
theorem NumAt.step {u x : Nat} {d : List UInt8} (h : NumAt u d x) (hx : 128 ≤ x) : NumAt u (d ++ [UInt8.ofNat (x % 128 + 128)]) (x / 128) := by
  obtain ⟨k, h1, h2, h3⟩ := h.ex
  cases k with
  | zero => omega
  | succ k =>
    refine ⟨k, ?_, ?_, ?_⟩
    · rw [h1, numF_great k x hx]; simp
    · simp; omega
    · rw [Nat.div_lt_iff_lt_mul (by omega)]
      rw [Nat.pow_succ] at h3
      omega
theorem NumAt.done {u x : Nat} {d : List UInt8} (h : NumAt u d x) (hx : x < 128) : numL u = d ++ [UInt8.ofNat x] := by
  obtain ⟨k, h1, _, _⟩ := h.ex
  rw [h1, numF_small k x hx]
theorem NumAt.len {u x : Nat} {d : List UInt8} (h : NumAt u d x) : d.length ≤ 9 := by
  obtain ⟨k, _, h2, _⟩ := h.ex
  omega
theorem NumAt.bd {u x : Nat} {d : List UInt8} (h : NumAt u d x) : (x : Int) ≤ 18446744073709551615 := by
  obtain ⟨k, _, h2, h3⟩ := h.ex
  have h4 : 128 ^ k ≤ 128 ^ 9 := Nat.pow_le_pow_right (by omega) (by omega)
  have h5 : 2 * 128 ^ 9 = 18446744073709551616 := by decide
  omega
theorem byte_val (x : Nat) (h : x < 256) : ((UInt8.ofNat x).toNat : Int) = (x : Int) := by
  simp; omega

/-! ### Words of four bytes. -/
def fourL (x : Nat) : List UInt8 := [UInt8.ofNat (x / 16777216), UInt8.ofNat (x / 65536), UInt8.ofNat (x / 256), UInt8.ofNat x]
/-- The first k bytes of a word, laid from a place on. -/
def layL (l : List UInt8) (off : Nat) (x k : Nat) : List UInt8 := l.take off ++ (fourL x).take k ++ l.drop (off + k)
theorem layL_zero (l : List UInt8) (off x : Nat) : layL l off x 0 = l := by simp [layL]
theorem layL_length (l : List UInt8) (off x k : Nat) (hk : k ≤ 4) (h : off + k ≤ l.length) : (layL l off x k).length = l.length := by
  simp [layL, fourL]; omega
theorem layL_step (l : List UInt8) (off x k : Nat) (hk : k < 4) (h : off + k < l.length) : (layL l off x k).set (off + k) ((fourL x).getD k 0) = layL l off x (k + 1) := by
  unfold layL
  have hf : k < (fourL x).length := by simp [fourL]; omega
  have h1 : (List.take off l).length = off := by simp; omega
  have h2 : (List.take k (fourL x)).length = k := by simp [fourL]; omega
  rw [List.append_assoc, List.set_append_right _ _ (by omega), h1, Nat.add_sub_cancel_left, List.set_append_right _ _ (by omega), h2, Nat.sub_self, List.take_succ_eq_append_getElem hf, List.append_assoc, List.append_assoc,
    List.drop_eq_getElem_cons h, List.set_cons_zero]
  simp [List.getD, hf, Nat.add_assoc]
/-- A frame: the count, the sum of the count and the content, the content. -/
def frameL (l : List UInt8) : List UInt8 := fourL l.length ++ (fourL (sumZ (fourL l.length ++ l)).toNat ++ l)
theorem fourL_length (x : Nat) : (fourL x).length = 4 := rfl
theorem frameL_length (l : List UInt8) : (frameL l).length = l.length + 8 := by simp [frameL, fourL]
end Go.Proofs.YtabkgcmlfabmgaaGreatDoor
namespace Go.Proofs.YtabkgcmlfabmgaaGreatDoor
open Go.RowKit


theorem zig_any (n : Int) (w : World) (h1 : -9223372036854775808 ≤ n) (h2 : n ≤ 9223372036854775807) :
    Calls Tryz.prog 115 #[.int .i64 n] w fun e w' => e = .returned (.int .u64 (zigZ n)) ∧ w' = w := by
  have hz := zig_text n h1 h2
  go_enter Tryz.func115, Tryz.ntmps115
  go_wp2
  go_ret
  exact ⟨rfl, rfl⟩

theorem zag_any (u : Int) (w : World) (h1 : 0 ≤ u) (h2 : u ≤ 18446744073709551615) :
    Calls Tryz.prog 214 #[.int .u64 u] w fun e w' => e = .returned (.int .i64 (zagZ u)) ∧ w' = w := by
  by_cases h : u % 2 = 1
  · have e1 : zagZ u = -(u / 2) - 1 := by unfold zagZ; rw [if_pos h]
    rw [e1]
    have ht : (u % 2 == 1) = true := by simp [h]
    clear e1 h
    go_enter Tryz.func214, Tryz.ntmps214
    go_wp2
    go_ret
    exact ⟨rfl, rfl⟩
  · have e1 : zagZ u = u / 2 := by unfold zagZ; rw [if_neg h]
    rw [e1]
    have ht : (u % 2 == 1) = false := by simp [h]
    clear e1 h
    go_enter Tryz.func214, Tryz.ntmps214
    go_wp2
    go_ret
    exact ⟨rfl, rfl⟩
/-- The table lies where it lies. -/
def Tab (w : World) : Prop := ∀ j, j < 16 → w.cell? ⟨2, j, none⟩ = some (.int .u32 (tabZ.getD j 0))
set_option maxHeartbeats 400000 in
theorem sumOn_any (s : Int) (ao : Option Addr) (l : List UInt8) (cap : Nat) (w : World) (hs : 0 ≤ s ∧ s ≤ 4294967295) (hl : l.length ≤ maxLen) (ht : Tab w) (hc : Sees w ao l) :
    Calls Tryz.prog 148 #[.int .u32 s, .slice ao l.length cap] w fun e w' => e = .returned (.int .u32 (sumOnZ s l)) ∧ w' = w := by
  unfold maxLen at hl
  go_enter Tryz.func148, Tryz.ntmps148
  go_wp2
  go_loop [0, 9] (fun t i => ∃ k : Nat, k ≤ l.length ∧ i = .int .i64 k ∧ t = .int .u32 (sumOnZ s (l.take k))) (fun _ i => l.length - (intOf i).toNat)
  case atStart => exact ⟨0, Nat.zero_le _, rfl, rfl⟩
  case round =>
    obtain ⟨k, hk, rfl, rfl⟩ := hrel
    have hbd := sumOnZ_bd s (l.take k) hs
    by_cases hlt : k < l.length
    · have hst : Hid (sumOnZ s (l.take (k + 1)) = byteZ (sumOnZ s (l.take k)) ((l.getD k 0).toNat : Int)) := sumOnZ_take s l k hlt
      obtain ⟨a, rfl, hca⟩ := hc k hlt
      have hx : 0 ≤ ((l.getD k 0).toNat : Int) ∧ ((l.getD k 0).toNat : Int) ≤ 255 := by have := (l.getD k 0).toNat_lt; omega
      clear hc
      generalize hS : sumOnZ s (l.take k) = S at *
      generalize ((l.getD k 0).toNat : Int) = x at *
      clear hS
      obtain ⟨A, hA⟩ : ∃ A, bits BinOp.xor IntKind.u32 S x = A := ⟨_, rfl⟩
      have hA0 : 0 ≤ A ∧ A ≤ 4294967295 := hA ▸ bits_u32 _ _ _
      have c1 : w.cell? ⟨2, (A % 16).toNat, none⟩ = some (.int .u32 (tabZ.getD (A % 16).toNat 0)) := ht _ (by omega)
      have hB1 : Hid (fourZ A = bits BinOp.xor IntKind.u32 (A / 16) (tabZ.getD (A % 16).toNat 0)) := rfl
      generalize tabZ.getD (A % 16).toNat 0 = T1 at *
      obtain ⟨B, hB⟩ : ∃ B, bits BinOp.xor IntKind.u32 (A / 16) T1 = B := ⟨_, rfl⟩
      have hB0 : 0 ≤ B ∧ B ≤ 4294967295 := hB ▸ bits_u32 _ _ _
      have c2 : w.cell? ⟨2, (B % 16).toNat, none⟩ = some (.int .u32 (tabZ.getD (B % 16).toNat 0)) := ht _ (by omega)
      have hC1 : Hid (fourZ B = bits BinOp.xor IntKind.u32 (B / 16) (tabZ.getD (B % 16).toNat 0)) := rfl
      generalize tabZ.getD (B % 16).toNat 0 = T2 at *
      have hend : Hid (sumOnZ s (l.take (k + 1)) = bits BinOp.xor IntKind.u32 (B / 16) T2) := by
        refine hst.out.trans ?_
        unfold byteZ
        rw [hA, hB1.out, hB, hC1.out]
      clear hst hB1 hC1 ht
      go_wp2
      go_round
      case rel => exact ⟨k + 1, by omega, by go_num, by rw [hend.out]⟩
      case measure => simp [intOf]; omega
    · go_wp2
      go_ret
      exact ⟨ret_int (by rw [List.take_of_length_le (by omega)]), rfl⟩

theorem sumOn_len (s : Int) (ao : Option Addr) (l : List UInt8) (n cap : Nat) (w : World) (hs : 0 ≤ s ∧ s ≤ 4294967295) (hn : l.length = n) (hl : n ≤ maxLen) (ht : Tab w) (hc : Sees w ao l) :
    Calls Tryz.prog 148 #[.int .u32 s, .slice ao n cap] w fun e w' => e = .returned (.int .u32 (sumOnZ s l)) ∧ w' = w := by
  subst hn
  exact sumOn_any s ao l cap w hs hl ht hc

end Go.Proofs.YtabkgcmlfabmgaaGreatDoor
namespace Go.Proofs.YtabkgcmlfabmgaaGreatDoor
open Go.RowKit

theorem info8 : (Tryz.prog.info? 5).map (fun i => (i.zero, i.size, i.bytes)) = some (some (.int .u8 0), 1, 1) := by kernel_rfl

/-- One byte, laid in a block of its own, as a source. -/
theorem src_one (w : World) (z : Int) (b : UInt8) (h : (b.toNat : Int) = z) :
    Src Tryz.prog 1 23 (.slice (some ⟨w.heap.size, 0, none⟩) 1 1) 1 (B8 [b]) (w.alloc (.cells #[.int .u8 z] 5)) := by
  refine Src.ofSlice _ Tryz.underlying23 _ 1 1 _ (by simp [B8_length]) ?_ (B8_one _)
  intro j u hu
  match j, hu with
  | 0, hu => simp [B8] at hu; subst hu; simp [Addr.add, h]
  | j + 1, hu => simp [B8] at hu

set_option maxRecDepth 100000 in
set_option maxHeartbeats 400000 in
theorem addNumber_any (base : Nat) (v : Value) (n : Nat) (xs : List UInt8) (u : Nat) (w : World) (hown : w.ownsRow base 5 1 v n (B8 xs)) (hu : u < 18446744073709551616) (hn : n ≤ 140737488355000) (hb : base ≤ w.heap.size) :
    Calls Tryz.prog 75 #[v, .int .u64 u] w fun e w' => ∃ v', e = .returned v' ∧ w'.ownsRow base 5 1 v' (n + (numL u).length) (B8 (xs ++ numL u)) ∧ Grew w w' v v' := by
  obtain ⟨i0, hi, hz0, hz1, hz2⟩ := info_parts info8
  have Hu : Hid (NumAt u [] u) := NumAt.start hu
  clear hu
  go_enter Tryz.func75, Tryz.ntmps75
  go_wp2
  go_loopw [0, 1] (fun s0 s1 wr => ∃ (x : Nat) (d : List UInt8), s1 = .int .u64 x ∧ NumAt u d x ∧ wr.ownsRow base 5 1 s0 (n + d.length) (B8 (xs ++ d)) ∧ Grew w wr v s0 ∧ base ≤ wr.heap.size) (fun _ s1 _ => (intOf s1).toNat)
  case atStart => exact ⟨u, [], rfl, Hu.out, by simpa using hown, Grew.refl _ _, hb⟩
  case round =>
    obtain ⟨x, d, rfl, hd, ho, hg, hbr⟩ := hrel
    have hbd := hd.bd
    have hdl := hd.len
    by_cases hx : x < 128
    · have hbv := byte_val x (by omega)
      have Hfin : Hid (numL u = d ++ [UInt8.ofNat x]) := hd.done hx
      go_wp2_with (at_builtin; go_must (refine wpList_append_grew _ rfl _ _ 23 23 rfl base 5 i0 (.int .u8 0) 1 1 Tryz.underlying23 hi hz0 hz1 hz2 rfl _ _ _ rfl (ho.alloc _) _ 1 (B8 [UInt8.ofNat x]) rfl (src_one _ _ _ hbv) (by unfold maxLen; omega) (by omega) (by rw [World.size_alloc]; omega) ?_; intro v' w' ho' hg'))
      go_ret
      refine ⟨v', rfl, ?_, hg.trans hg'.alloc⟩
      rw [Hfin.out, ← List.append_assoc, B8_append _ [_], List.length_append, List.length_singleton, ← Nat.add_assoc]
      exact ho'
    · have hbv := byte_val (x % 128 + 128) (by omega)
      have hst := hd.step (by omega)
      go_wp2_with (at_builtin; go_must (refine wpList_append_grew _ rfl _ _ 23 23 rfl base 5 i0 (.int .u8 0) 1 1 Tryz.underlying23 hi hz0 hz1 hz2 rfl _ _ _ rfl (ho.alloc _) _ 1 (B8 [UInt8.ofNat (x % 128 + 128)]) rfl (src_one _ _ _ hbv) (by unfold maxLen; omega) (by omega) (by rw [World.size_alloc]; omega) ?_; intro v' w' ho' hg'))
      go_roundw
      case rel =>
        refine ⟨x / 128, _, by go_num, hst, ?_, hg.trans hg'.alloc, Nat.le_trans hbr (Nat.le_trans (by rw [World.size_alloc]; omega) hg'.rows.size)⟩
        rw [← List.append_assoc, B8_append _ [_], List.length_append, List.length_singleton, ← Nat.add_assoc]
        exact ho'
      case measure => simp [intOf]; omega

set_option maxRecDepth 100000 in
set_option maxHeartbeats 400000 in
theorem copyWithRoom_any (ao : Option Addr) (l : List UInt8) (cap room : Nat) (w : World) (hs : Sees w ao l) (hnone : ao = none → l.length = 0) (hl : l.length + room ≤ 140737488355000) :
    Calls Tryz.prog 150 #[.slice ao l.length cap, .int .i64 room] w fun e w' => ∃ v', e = .returned v' ∧ w'.ownsRow w.heap.size 5 1 v' l.length (B8 l) ∧ Below w.heap.size w w' := by
  obtain ⟨i0, hi, hz0, hz1, hz2⟩ := info_parts info8
  go_enter Tryz.func150, Tryz.ntmps150
  go_wp2_with (first
    | (at_make; go_must (refine wpList_make_own _ rfl _ _ 23 rfl w.heap.size 5 i0 (.int .u8 0) 1 Tryz.underlying23 hi hz0 hz1 .i64 .i64 _ (l.length + room) rfl rfl (by omega) (by rw [hz2]; omega) (by unfold maxLen; omega) (Nat.le_refl _) ?_; intro w1 ho1 hg1))
    | (at_builtin; go_must (refine wpList_append_grew _ rfl _ _ 23 23 rfl w.heap.size 5 i0 (.int .u8 0) 1 1 Tryz.underlying23 hi hz0 hz1 hz2 rfl _ _ _ rfl ho1 _ l.length (B8 l) rfl (src_sees Tryz.underlying23 (hs.below ((Below.refl _ _).grown hg1 (Nat.le_refl _) (fun k hk => by cases hk)) (Nat.le_refl _)) hnone cap) (by unfold maxLen; omega) (by omega) hg1.size ?_; intro v' w' ho' hg')))
  go_ret
  refine ⟨v', rfl, by simpa using ho', ?_⟩
  exact ((Below.refl _ _).grown hg1 (Nat.le_refl _) (fun k hk => by cases hk)).trans (hg'.below hg1.size (fun g hg => (ho1.lt g hg).1))
end Go.Proofs.YtabkgcmlfabmgaaGreatDoor
namespace Go.Proofs.YtabkgcmlfabmgaaGreatDoor
open Go.RowKit

/-- A text in bytes: its length, then it. -/
def txtL (s : List UInt8) : List UInt8 := numL s.length ++ s

set_option maxRecDepth 100000 in
set_option maxHeartbeats 400000 in
theorem addText_any (base : Nat) (v : Value) (n : Nat) (xs : List UInt8) (s : ByteArray) (w : World) (hown : w.ownsRow base 5 1 v n (B8 xs)) (hn : n + s.size ≤ 140737488354000) (hb : base ≤ w.heap.size) :
    Calls Tryz.prog 117 #[v, .string s] w fun e w' => ∃ v', e = .returned v' ∧ w'.ownsRow base 5 1 v' (n + (txtL s.data.toList).length) (B8 (xs ++ txtL s.data.toList)) ∧ Grew w w' v v' := by
  obtain ⟨i0, hi, hz0, hz1, hz2⟩ := info_parts info8
  have hnl := numL_length s.size
  have hsz : s.data.toList.length = s.size := by simp
  go_enter Tryz.func117, Tryz.ntmps117
  go_wp2_with (first
    | (go_at_call 75; go_must (refine (addNumber_any base v n xs s.size _ hown (by omega) (by omega) hb).mono ?_; rintro e w1 ⟨v1, rfl, ho1, hg1⟩))
    | (at_builtin; go_must (refine wpList_append_grew _ rfl _ _ 23 9 rfl base 5 i0 (.int .u8 0) 1 1 Tryz.underlying23 hi hz0 hz1 hz2 rfl _ _ _ rfl ho1 _ s.size (B8 s.data.toList) rfl (Src.ofString _ Tryz.underlying9 s) (by unfold maxLen; omega) (by omega) (Nat.le_trans hb hg1.rows.size) ?_; intro v' w' ho' hg')))
  go_ret
  refine ⟨v', rfl, ?_, hg1.trans hg'⟩
  unfold txtL
  rw [hsz, List.length_append, hsz, ← List.append_assoc, B8_append _ s.data.toList, ← Nat.add_assoc]
  exact ho'

theorem conv_sees {w : World} {ao : Option Addr} {l : List UInt8} (h : Sees w ao l) (hn : ao = none → l.length = 0) (cap : Nat) :
    (convert 23 9 (.slice ao l.length cap)).run Tryz.prog w = .ok (.string ⟨l.toArray⟩) w := by
  cases ao with
  | none =>
    obtain rfl : l = [] := List.eq_nil_of_length_eq_zero (hn rfl)
    rw [run_convert_bytes_string w 23 9 5 none _ cap Tryz.underlying23 Tryz.underlying5 Tryz.underlying9]
    rfl
  | some a =>
    refine run_convert_bytes_back w 23 9 5 a cap l Tryz.underlying23 Tryz.underlying5 Tryz.underlying9 fun j hj => ?_
    obtain ⟨a', e, hc⟩ := h j hj
    obtain rfl := Option.some.inj e
    rw [hc]; simp [List.getD, hj]

set_option maxHeartbeats 400000 in
theorem same_any (ao bo : Option Addr) (la lb : List UInt8) (ca cb : Nat) (w : World) (ha : Sees w ao la) (hb : Sees w bo lb) (hna : ao = none → la.length = 0) (hnb : bo = none → lb.length = 0) :
    Calls Tryz.prog 16 #[.slice ao la.length ca, .slice bo lb.length cb] w fun e w' => e = .returned (.bool (la == lb)) ∧ w' = w := by
  have c1 := conv_sees ha hna ca
  have c2 := conv_sees hb hnb cb
  go_enter Tryz.func16, Tryz.ntmps16
  go_wp2
  go_ret
  exact ⟨rfl, rfl⟩
end Go.Proofs.YtabkgcmlfabmgaaGreatDoor
namespace Go.Proofs.YtabkgcmlfabmgaaGreatDoor
open Go.RowKit

/-! ### The number that bytes begin with. -/
/-- i digits, which come to acc, are read; l is left. -/
def getN : Nat → Nat → List UInt8 → Option (Nat × List UInt8)
  | _, _, [] => none
  | i, acc, b :: r =>
    if (i = 9 ∧ 1 < b.toNat) ∨ (0 < i ∧ b.toNat = 0) then none
    else if b.toNat < 128 then some (acc + b.toNat % 128 * 2 ^ (7 * i), r)
    else getN (i + 1) (acc + b.toNat % 128 * 2 ^ (7 * i)) r

theorem digit_bd (i acc x : Nat) (h : acc < 2 ^ (7 * i)) : acc + x % 128 * 2 ^ (7 * i) < 2 ^ (7 * (i + 1)) := by
  have e : 2 ^ (7 * (i + 1)) = 128 * 2 ^ (7 * i) := by rw [show 7 * (i + 1) = 7 + 7 * i by omega, Nat.pow_add]
  have h1 : x % 128 * 2 ^ (7 * i) ≤ 127 * 2 ^ (7 * i) := Nat.mul_le_mul_right _ (by omega)
  rw [e]
  omega
/-- What a round of number's text reckons. -/
theorem or_text (i acc x : Nat) (h : acc < 2 ^ (7 * i)) (hi : i ≤ 9) (h9 : i = 9 → x ≤ 1) :
    bits BinOp.or IntKind.u64 (acc : Int) (IntKind.u64.wrap ((x : Int) % 128 * 2 ^ (7 * i))) = ((acc + x % 128 * 2 ^ (7 * i) : Nat) : Int) := by
  have hp : 2 ^ (7 * i) ≤ 2 ^ 63 := Nat.pow_le_pow_right (by omega) (by omega)
  have hy : x % 128 * 2 ^ (7 * i) < 18446744073709551616 := by
    rcases Nat.lt_or_ge i 9 with h1 | h1
    · have h2 : 2 ^ (7 * i) ≤ 2 ^ 56 := Nat.pow_le_pow_right (by omega) (by omega)
      have h3 : x % 128 * 2 ^ (7 * i) ≤ 127 * 2 ^ 56 := Nat.mul_le_mul (by omega) h2
      omega
    · have hx := h9 (by omega)
      have h3 : x % 128 * 2 ^ (7 * i) ≤ 1 * 2 ^ 63 := Nat.mul_le_mul (by omega) hp
      omega
  have e : (x : Int) % 128 * 2 ^ (7 * i) = ((x % 128 * 2 ^ (7 * i) : Nat) : Int) := by simp
  rw [e, IntWalk.u64_in _ ⟨by omega, by omega⟩, u64_or_nat _ _ (by omega) hy]
  have h4 := Nat.two_pow_add_eq_or_of_lt h (x % 128)
  rw [Nat.or_comm, Nat.mul_comm, ← h4, Nat.mul_comm, Nat.add_comm]
end Go.Proofs.YtabkgcmlfabmgaaGreatDoor
namespace Go.Proofs.YtabkgcmlfabmgaaGreatDoor
open Go.RowKit

theorem ofNat_toNat8 (x : Nat) (h : x < 256) : (UInt8.ofNat x).toNat = x := by simp; omega
theorem pow7 (i : Nat) : 2 ^ (7 * (i + 1)) = 128 * 2 ^ (7 * i) := by rw [show 7 * (i + 1) = 7 + 7 * i by omega, Nat.pow_add]
theorem digits (x p : Nat) : x % 128 * p + x / 128 * (128 * p) = x * p := by
  have h := Nat.div_add_mod x 128
  calc x % 128 * p + x / 128 * (128 * p) = (128 * (x / 128) + x % 128) * p := by rw [Nat.add_mul, Nat.mul_assoc, Nat.mul_left_comm, Nat.add_comm]
    _ = x * p := by rw [h]

theorem getN_back (k : Nat) : ∀ (i acc x : Nat) (rest : List UInt8), i + k = 9 → x < 2 * 128 ^ k → (0 < i → 0 < x) → getN i acc (numF k x ++ rest) = some (acc + x * 2 ^ (7 * i), rest) := by
  induction k with
  | zero =>
    intro i acc x rest hi hx hp
    have hx' : x < 2 := by simpa using hx
    have e : (UInt8.ofNat x).toNat = x := ofNat_toNat8 x (by omega)
    rw [numF, List.singleton_append, getN, e, if_neg (by omega), if_pos (by omega), Nat.mod_eq_of_lt (by omega)]
  | succ k ih =>
    intro i acc x rest hi hx hp
    by_cases h : x < 128
    · rw [numF_small _ _ h, List.singleton_append, getN, ofNat_toNat8 x (by omega), if_neg (by omega), if_pos h, Nat.mod_eq_of_lt h]
    · have hb : (UInt8.ofNat (x % 128 + 128)).toNat = x % 128 + 128 := ofNat_toNat8 _ (by omega)
      rw [numF_great _ _ (by omega), List.cons_append, getN, hb, if_neg (by omega), if_neg (by omega), ih (i + 1) _ (x / 128) rest (by omega) ?_ (by omega)]
      · rw [show (x % 128 + 128) % 128 = x % 128 by omega, pow7, Nat.add_assoc, digits]
      · rw [Nat.div_lt_iff_lt_mul (by omega)]
        rw [Nat.pow_succ] at hx
        omega
theorem getN_early (k : Nat) : ∀ (i acc x : Nat), i + k = 9 → x < 2 * 128 ^ k → getN i acc (numF k x).dropLast = none := by
  induction k with
  | zero => intro i acc x _ _; rfl
  | succ k ih =>
    intro i acc x hi hx
    by_cases h : x < 128
    · rw [numF_small _ _ h]; rfl
    · have hb : (UInt8.ofNat (x % 128 + 128)).toNat = x % 128 + 128 := ofNat_toNat8 _ (by omega)
      have hne : numF k (x / 128) ≠ [] := fun e => by have := (numF_length k (x / 128)).1; rw [e] at this; simp at this
      rw [numF_great _ _ (by omega), List.dropLast_cons_of_ne_nil hne, getN, hb, if_neg (by omega), if_neg (by omega)]
      refine ih (i + 1) _ (x / 128) (by omega) ?_
      rw [Nat.div_lt_iff_lt_mul (by omega)]
      rw [Nat.pow_succ] at hx
      omega
theorem getN_longer (k : Nat) : ∀ (i acc x : Nat) (y : UInt8), i + k = 9 → x < 2 * 128 ^ k → 128 ≤ y.toNat → getN i acc ((numF k x).dropLast ++ [y, 0]) = none := by
  induction k with
  | zero =>
    intro i acc x y hi _ hy
    show getN i acc [y, 0] = none
    rw [getN, if_pos (.inl ⟨by omega, by omega⟩)]
  | succ k ih =>
    intro i acc x y hi hx hy
    by_cases h : x < 128
    · rw [numF_small _ _ h]
      show getN i acc [y, 0] = none
      have h0 : (0 : UInt8).toNat = 0 := rfl
      rw [getN, if_neg (by omega), if_neg (by omega), getN, h0, if_pos (.inr ⟨by omega, rfl⟩)]
    · have hb : (UInt8.ofNat (x % 128 + 128)).toNat = x % 128 + 128 := ofNat_toNat8 _ (by omega)
      have hne : numF k (x / 128) ≠ [] := fun e => by have := (numF_length k (x / 128)).1; rw [e] at this; simp at this
      rw [numF_great _ _ (by omega), List.dropLast_cons_of_ne_nil hne, List.cons_append, getN, hb, if_neg (by omega), if_neg (by omega)]
      refine ih (i + 1) _ (x / 128) y (by omega) ?_ hy
      rw [Nat.div_lt_iff_lt_mul (by omega)]
      rw [Nat.pow_succ] at hx
      omega

theorem get_back (u : Nat) (h : u < 18446744073709551616) (rest : List UInt8) : getN 0 0 (numL u ++ rest) = some (u, rest) := by
  have := getN_back 9 0 0 u rest rfl h (by omega)
  unfold numL
  simpa using this
theorem get_early (u : Nat) (h : u < 18446744073709551616) : getN 0 0 ((numL u).take ((numL u).length - 1)) = none := by
  rw [← List.dropLast_eq_take]; exact getN_early 9 0 0 u rfl h
theorem get_longer (u : Nat) (h : u < 18446744073709551616) (y : UInt8) (hy : 128 ≤ y.toNat) : getN 0 0 ((numL u).set ((numL u).length - 1) y ++ [0]) = none := by
  have hl := numL_length u
  have e : (numL u).set ((numL u).length - 1) y ++ [0] = (numL u).dropLast ++ [y, 0] := by
    rw [List.set_eq_take_append_cons_drop, if_pos (by omega), List.dropLast_eq_take, List.drop_eq_nil_of_le (by omega)]
    simp
  rw [e]; exact getN_longer 9 0 0 u y rfl h hy
theorem or128 (x : Nat) (h : x < 128) : bits BinOp.or IntKind.u8 (x : Int) 128 = (x : Int) + 128 := by
  have h1 := u8_or_nat x 128 (by omega) (by omega)
  have h2 := Nat.two_pow_add_eq_or_of_lt (i := 7) (b := x) h 1
  rw [show ((128 : Nat) : Int) = 128 from rfl] at h1
  rw [h1, Nat.or_comm]
  have e : 128 ||| x = 128 + x := h2.symm
  rw [e]
  omega
end Go.Proofs.YtabkgcmlfabmgaaGreatDoor
namespace Go.Proofs.YtabkgcmlfabmgaaGreatDoor
open Go.RowKit

theorem getN_bd : ∀ (l : List UInt8) (i acc v : Nat) (r : List UInt8), i ≤ 9 → acc < 2 ^ (7 * i) → getN i acc l = some (v, r) → v < 18446744073709551616 ∧ r.length < l.length := by
  intro l
  induction l with
  | nil => intro i acc v r _ _ h; simp [getN] at h
  | cons b l ih =>
    intro i acc v r hi hacc h
    rw [getN] at h
    split at h
    · cases h
    · rename_i hno
      have hd := digit_bd i acc b.toNat hacc
      split at h
      · simp only [Option.some.injEq, Prod.mk.injEq] at h
        obtain ⟨rfl, rfl⟩ := h
        refine ⟨?_, by simp⟩
        rcases Nat.lt_or_ge i 9 with h1 | h1
        · have h2 : 2 ^ (7 * (i + 1)) ≤ 2 ^ 63 := Nat.pow_le_pow_right (by omega) (by omega)
          omega
        · obtain rfl : i = 9 := by omega
          have h3 : b.toNat % 128 * 2 ^ (7 * 9) ≤ 1 * 2 ^ 63 := Nat.mul_le_mul (by omega) (by decide)
          have h4 : acc < 2 ^ 63 := hacc
          omega
      · have hi' : i + 1 ≤ 9 := by omega
        have := ih (i + 1) _ v r hi' hd h
        simp only [List.length_cons]
        omega
theorem get_bd {l : List UInt8} {v : Nat} {r : List UInt8} (h : getN 0 0 l = some (v, r)) : v < 18446744073709551616 ∧ r.length < l.length := getN_bd l 0 0 v r (by omega) (by simp) h

/-- The text that bytes begin with, and what is left. -/
def textN (l : List UInt8) : Option (List UInt8 × List UInt8) := match getN 0 0 l with | none => none | some (v, r) => if v ≤ r.length then some (r.take v, r.drop v) else none
theorem textN_some {l s r' : List UInt8} (h : textN l = some (s, r')) : ∃ v r, getN 0 0 l = some (v, r) ∧ v ≤ r.length ∧ r.take v = s ∧ r.drop v = r' := by
  unfold textN at h
  split at h
  · cases h
  · rename_i v r hg
    split at h
    · rename_i hv
      simp only [Option.some.injEq, Prod.mk.injEq] at h
      exact ⟨v, r, hg, hv, h.1, h.2⟩
    · cases h
theorem textN_none {l : List UInt8} (h : textN l = none) : getN 0 0 l = none ∨ ∃ v r, getN 0 0 l = some (v, r) ∧ r.length < v := by
  unfold textN at h
  split at h
  · rename_i hg; exact .inl hg
  · rename_i v r hg
    split at h
    · cases h
    · exact .inr ⟨v, r, hg, by omega⟩
theorem textN_back (s rest : List UInt8) (h : s.length < 18446744073709551616) : textN (numL s.length ++ (s ++ rest)) = some (s, rest) := by
  unfold textN
  rw [get_back s.length h]
  simp
theorem getN_suffix : ∀ (l : List UInt8) (i acc v : Nat) (r : List UInt8), getN i acc l = some (v, r) → ∃ d, l = d ++ r := by
  intro l
  induction l with
  | nil => intro i acc v r h; simp [getN] at h
  | cons b l ih =>
    intro i acc v r h
    rw [getN] at h
    split at h
    · cases h
    · split at h
      · simp only [Option.some.injEq, Prod.mk.injEq] at h
        exact ⟨[b], by rw [h.2]; rfl⟩
      · obtain ⟨d, hd⟩ := ih _ _ _ _ h
        exact ⟨b :: d, by rw [hd]; rfl⟩
theorem getN_drop {l : List UInt8} {v : Nat} {r : List UInt8} (h : getN 0 0 l = some (v, r)) : l.drop (l.length - r.length) = r := by
  obtain ⟨d, rfl⟩ := getN_suffix l 0 0 v r h
  simp
end Go.Proofs.YtabkgcmlfabmgaaGreatDoor
namespace Go.Proofs.YtabkgcmlfabmgaaGreatDoor
open Go.RowKit

structure KeyV where
  table : ByteArray
  part : ByteArray
  row : Int
  col : ByteArray
structure ValV where
  kind : Int
  num : Int
  s : ByteArray
structure VerV where
  time : Int
  dead : Bool
  loc : Int
  val : ValV
structure CellV where
  key : KeyV
  ver : VerV

/-- A number that an int can hold. -/
def I64 (n : Int) : Prop := -9223372036854775808 ≤ n ∧ n ≤ 9223372036854775807
structure KeyV.Ok (k : KeyV) : Prop where
  row : I64 k.row
structure ValV.Ok (k : ValV) : Prop where
  kind : I64 k.kind
  num : I64 k.num
structure VerV.Ok (k : VerV) : Prop where
  time : I64 k.time
  loc : I64 k.loc
  val : k.val.Ok
structure CellV.Ok (c : CellV) : Prop where
  key : c.key.Ok
  ver : c.ver.Ok

def keyA (k : KeyV) : Array Value := #[.string k.table, .string k.part, .int .i64 k.row, .string k.col]
def valA (k : ValV) : Array Value := #[.int .i64 k.kind, .int .i64 k.num, .string k.s]
def verA (k : VerV) : Array Value := #[.int .i64 k.time, .bool k.dead, .int .i64 k.loc, .int .i64 k.val.kind, .int .i64 k.val.num, .string k.val.s]
def cellA (c : CellV) : Array Value := #[.string c.key.table, .string c.key.part, .int .i64 c.key.row, .string c.key.col, .int .i64 c.ver.time, .bool c.ver.dead, .int .i64 c.ver.loc, .int .i64 c.ver.val.kind, .int .i64 c.ver.val.num, .string c.ver.val.s]

/-- An int without a sign; the bits of an int. -/
def zigN (n : Int) : Nat := (zigZ n).toNat
theorem zigN_eq {n : Int} (h : I64 n) : zigZ n = (zigN n : Int) ∧ zigN n < 18446744073709551616 := by
  have := zigZ_bd n h.1 h.2
  unfold zigN
  omega
theorem zag_zigN {n : Int} (h : I64 n) : zagZ (zigN n : Int) = n := by rw [← (zigN_eq h).1, zag_zig]
def kindN (n : Int) : Nat := (n % 18446744073709551616).toNat
def kindZ (u : Nat) : Int := if u < 9223372036854775808 then (u : Int) else (u : Int) - 18446744073709551616
theorem kindN_lt (n : Int) : kindN n < 18446744073709551616 := by unfold kindN; omega
theorem kind_back {n : Int} (h : I64 n) : kindZ (kindN n) = n := by
  have h1 := h.1
  have h2 := h.2
  unfold kindZ kindN
  split <;> omega
theorem kindZ_ok {u : Nat} (h : u < 18446744073709551616) : I64 (kindZ u) := by
  unfold kindZ I64
  split <;> omega
theorem zagZ_ok {u : Nat} (h : u < 18446744073709551616) : I64 (zagZ u) := zagZ_bd _ (by omega) (by omega)

def strL (s : ByteArray) : List UInt8 := s.data.toList
theorem strL_length (s : ByteArray) : (strL s).length = s.size := by simp [strL]
def keyL (k : KeyV) : List UInt8 := txtL (strL k.table) ++ (txtL (strL k.part) ++ (numL (zigN k.row) ++ txtL (strL k.col)))
def valL (k : ValV) : List UInt8 := numL (kindN k.kind) ++ (numL (zigN k.num) ++ txtL (strL k.s))
def verL (k : VerV) : List UInt8 := numL (zigN k.time) ++ (if k.dead then 1 :: numL (zigN k.loc) else 0 :: valL k.val)
def cellL (c : CellV) : List UInt8 := keyL c.key ++ verL c.ver
def manyL (l : List CellV) : List UInt8 := l.flatMap cellL
def cellsL (l : List CellV) : List UInt8 := numL l.length ++ manyL l

theorem txtL_le (s : ByteArray) : (txtL (strL s)).length ≤ s.size + 10 := by
  have := (numL_length (strL s).length).2
  unfold txtL
  rw [List.length_append, strL_length] at *
  omega
theorem keyL_le (k : KeyV) : (keyL k).length ≤ k.table.size + k.part.size + k.col.size + 40 := by
  have h1 := txtL_le k.table
  have h2 := txtL_le k.part
  have h3 := txtL_le k.col
  have h4 := (numL_length (zigN k.row)).2
  unfold keyL
  simp only [List.length_append]
  omega
theorem valL_le (k : ValV) : (valL k).length ≤ k.s.size + 30 := by
  have h1 := txtL_le k.s
  have h4 := (numL_length (kindN k.kind)).2
  have h5 := (numL_length (zigN k.num)).2
  unfold valL
  simp only [List.length_append]
  omega
theorem verL_le (k : VerV) : (verL k).length ≤ k.val.s.size + 41 := by
  have h1 := valL_le k.val
  have h4 := (numL_length (zigN k.time)).2
  have h5 := (numL_length (zigN k.loc)).2
  unfold verL
  split <;> simp only [List.length_append, List.length_cons] <;> omega
/-- The bytes of a cell's texts. -/
def wtC (c : CellV) : Nat := c.key.table.size + c.key.part.size + c.key.col.size + c.ver.val.s.size
theorem cellL_le (c : CellV) : (cellL c).length ≤ wtC c + 81 := by
  have h1 := keyL_le c.key
  have h2 := verL_le c.ver
  unfold cellL wtC
  rw [List.length_append]
  omega
def wtL (l : List CellV) : Nat := (l.map wtC).sum
theorem manyL_le (l : List CellV) : (manyL l).length ≤ wtL l + 81 * l.length := by
  induction l with
  | nil => simp [manyL, wtL]
  | cons c l ih =>
    have h := cellL_le c
    unfold manyL wtL at *
    simp only [List.flatMap_cons, List.length_append, List.map_cons, List.sum_cons, List.length_cons]
    omega
/-- The bytes of a cell's texts that are written. -/
def wtV (k : VerV) : Nat := if k.dead then 0 else k.val.s.size
theorem verL_leD (k : VerV) : (verL k).length ≤ wtV k + 41 := by
  have h1 := valL_le k.val
  have h4 := (numL_length (zigN k.time)).2
  have h5 := (numL_length (zigN k.loc)).2
  unfold verL wtV
  split <;> simp only [List.length_append, List.length_cons] <;> omega
def wtD (c : CellV) : Nat := c.key.table.size + c.key.part.size + c.key.col.size + wtV c.ver
theorem cellL_leD (c : CellV) : (cellL c).length ≤ wtD c + 81 := by
  have h1 := keyL_le c.key
  have h2 := verL_leD c.ver
  unfold cellL wtD
  rw [List.length_append]
  omega
def wtLD (l : List CellV) : Nat := (l.map wtD).sum
theorem manyL_leD (l : List CellV) : (manyL l).length ≤ wtLD l + 81 * l.length := by
  induction l with
  | nil => simp [manyL, wtLD]
  | cons c l ih =>
    have h := cellL_leD c
    unfold manyL wtLD at *
    simp only [List.flatMap_cons, List.length_append, List.map_cons, List.sum_cons, List.length_cons]
    omega
theorem wtLD_le (l : List CellV) : wtLD l ≤ wtL l := by
  induction l with
  | nil => simp [wtLD, wtL]
  | cons c l ih =>
    have h : wtD c ≤ wtC c := by unfold wtD wtC wtV; split <;> omega
    unfold wtLD wtL at *
    simp only [List.map_cons, List.sum_cons]
    omega
theorem manyL_append (a b : List CellV) : manyL (a ++ b) = manyL a ++ manyL b := by unfold manyL; rw [List.flatMap_append]

/-! ### What bytes begin with. -/
def bytesOf (l : List UInt8) : ByteArray := ⟨l.toArray⟩
def signN (l : List UInt8) : Option (Int × List UInt8) := match getN 0 0 l with | none => none | some (v, r) => some (zagZ v, r)
def keyN (l : List UInt8) : Option (KeyV × List UInt8) :=
  match textN l with
  | none => none
  | some (t, r1) => match textN r1 with
    | none => none
    | some (p, r2) => match signN r2 with
      | none => none
      | some (n, r3) => match textN r3 with
        | none => none
        | some (c, r4) => some (⟨bytesOf t, bytesOf p, n, bytesOf c⟩, r4)
def valN (l : List UInt8) : Option (ValV × List UInt8) :=
  match getN 0 0 l with
  | none => none
  | some (k, r1) => match signN r1 with
    | none => none
    | some (n, r2) => match textN r2 with
      | none => none
      | some (s, r3) => some (⟨kindZ k, n, bytesOf s⟩, r3)
def noVal : ValV := ⟨0, 0, ⟨#[]⟩⟩
def verN (l : List UInt8) : Option (VerV × List UInt8) :=
  match signN l with
  | none => none
  | some (t, r1) => match r1 with
    | [] => none
    | m :: r2 =>
      if m = 0 then match valN r2 with | none => none | some (v, r3) => some (⟨t, false, 0, v⟩, r3)
      else if m = 1 then match signN r2 with | none => none | some (n, r3) => some (⟨t, true, n, noVal⟩, r3)
      else none
def cellN (l : List UInt8) : Option (CellV × List UInt8) :=
  match keyN l with
  | none => none
  | some (k, r1) => match verN r1 with | none => none | some (v, r2) => some (⟨k, v⟩, r2)
def manyN : Nat → List UInt8 → Option (List CellV × List UInt8)
  | 0, l => some ([], l)
  | n + 1, l => match cellN l with | none => none | some (c, r) => match manyN n r with | none => none | some (cs, r') => some (c :: cs, r')
def cellsN (l : List UInt8) : Option (List CellV) :=
  match getN 0 0 l with
  | none => none
  | some (n, r) => match manyN n r with | some (cs, []) => some cs | _ => none

/-! ### There and back. -/
theorem signN_back {n : Int} (h : I64 n) (r : List UInt8) : signN (numL (zigN n) ++ r) = some (n, r) := by
  unfold signN
  rw [get_back _ (zigN_eq h).2]
  simp only [zag_zigN h]
theorem bytesOf_strL (s : ByteArray) : bytesOf (strL s) = s := by cases s; simp [bytesOf, strL]
theorem txt_back (s : ByteArray) (h : s.size < 18446744073709551616) (r : List UInt8) : textN (txtL (strL s) ++ r) = some (strL s, r) := by
  unfold txtL
  rw [List.append_assoc]
  exact textN_back _ _ (by rw [strL_length]; exact h)
theorem keyN_back {k : KeyV} (h : k.Ok) (hs : k.table.size + k.part.size + k.col.size < 18446744073709551616) (r : List UInt8) : keyN (keyL k ++ r) = some (k, r) := by
  unfold keyN keyL
  simp only [List.append_assoc]
  rw [txt_back _ (by omega)]
  simp only []
  rw [txt_back _ (by omega)]
  simp only []
  rw [signN_back h.row]
  simp only []
  rw [txt_back _ (by omega)]
  simp only [bytesOf_strL]
theorem valN_back {k : ValV} (h : k.Ok) (hs : k.s.size < 18446744073709551616) (r : List UInt8) : valN (valL k ++ r) = some (k, r) := by
  unfold valN valL
  simp only [List.append_assoc]
  rw [get_back _ (kindN_lt _)]
  simp only []
  rw [signN_back h.num]
  simp only []
  rw [txt_back _ hs]
  simp only [bytesOf_strL, kind_back h.kind]
/-- What is told of a version: a deletion's value is not, nor another one's Local. -/
def plainV (v : VerV) : VerV := if v.dead then ⟨v.time, true, v.loc, noVal⟩ else ⟨v.time, false, 0, v.val⟩
def plainC (c : CellV) : CellV := ⟨c.key, plainV c.ver⟩
theorem verN_back {k : VerV} (h : k.Ok) (hs : k.val.s.size < 18446744073709551616) (r : List UInt8) : verN (verL k ++ r) = some (plainV k, r) := by
  unfold verN verL plainV
  simp only [List.append_assoc]
  rw [signN_back h.time]
  cases k.dead
  · simp only [Bool.false_eq_true, if_false, List.cons_append, if_true]
    rw [valN_back h.val hs]
  · simp only [if_true, List.cons_append, show ¬ ((1 : UInt8) = 0) by decide, if_false]
    rw [signN_back h.loc]
theorem cellN_back {c : CellV} (h : c.Ok) (hs : wtC c < 18446744073709551616) (r : List UInt8) : cellN (cellL c ++ r) = some (plainC c, r) := by
  unfold wtC at hs
  unfold cellN cellL plainC
  rw [List.append_assoc, keyN_back h.key (by omega)]
  simp only []
  rw [verN_back h.ver (by omega)]
theorem manyN_back : ∀ (l : List CellV) (r : List UInt8), (∀ c ∈ l, c.Ok ∧ wtC c < 18446744073709551616) → manyN l.length (manyL l ++ r) = some (l.map plainC, r) := by
  intro l
  induction l with
  | nil => intro r _; rfl
  | cons c l ih =>
    intro r h
    have h1 := h c (by simp)
    have e : manyL (c :: l) ++ r = cellL c ++ (manyL l ++ r) := by unfold manyL; simp
    rw [e, List.length_cons, manyN, cellN_back h1.1 h1.2]
    simp only []
    rw [ih r (fun x hx => h x (by simp [hx]))]
    rfl
theorem cellsN_back (l : List CellV) (h : ∀ c ∈ l, c.Ok ∧ wtC c < 18446744073709551616) (hl : l.length < 18446744073709551616) : cellsN (cellsL l) = some (l.map plainC) := by
  unfold cellsN cellsL
  rw [get_back _ hl]
  have := manyN_back l [] h
  rw [List.append_nil] at this
  simp only [this]
theorem cellsN_more (l : List CellV) (h : ∀ c ∈ l, c.Ok ∧ wtC c < 18446744073709551616) (hl : l.length < 18446744073709551616) (b : UInt8) : cellsN (cellsL l ++ [b]) = none := by
  unfold cellsN cellsL
  rw [List.append_assoc, get_back _ hl]
  simp only [manyN_back l [b] h]
end Go.Proofs.YtabkgcmlfabmgaaGreatDoor
namespace Go.Proofs.YtabkgcmlfabmgaaGreatDoor
open Go.RowKit

/-- Block g holds just these cells. -/
structure Box (w : World) (g : Nat) (cs : Array Value) (t : TypeId) : Prop where
  heap : w.heap[g]? = some (.cells cs t (0, 0))
theorem Box.new (w : World) (cs : Array Value) (t : TypeId) : Box (w.alloc (.cells cs t)) w.heap.size cs t := ⟨heap_alloc_new w _⟩
theorem Box.lt {w : World} {g : Nat} {cs : Array Value} {t : TypeId} (h : Box w g cs t) : g < w.heap.size := (Array.getElem?_eq_some_iff.1 h.heap).1
theorem Box.carry {w w' : World} {g : Nat} {cs : Array Value} {t : TypeId} (h : Box w g cs t) (hb : w'.heap[g]? = w.heap[g]?) : Box w' g cs t := ⟨hb.trans h.heap⟩
theorem Box.alloc {w : World} {g : Nat} {cs : Array Value} {t : TypeId} (h : Box w g cs t) (o : Obj) : Box (w.alloc o) g cs t := h.carry (Below.heap_alloc _ _ _ h.lt)
theorem Box.cell {w : World} {g : Nat} {cs : Array Value} {t : TypeId} (h : Box w g cs t) (i : Nat) : w.cell? ⟨g, i, none⟩ = cs[i]? := cell_of_row w g i cs t _ h.heap
theorem Box.frozen {w : World} {g : Nat} {cs : Array Value} {t : TypeId} (h : Box w g cs t) (i : Nat) : w.frozen? ⟨g, i, none⟩ = false := by
  have := h.heap
  simp [World.frozen?, this]
theorem Box.grew {w w' : World} {g : Nat} {cs : Array Value} {t : TypeId} {v v' : Value} (h : Box w g cs t) (hg : Grew w w' v v') (hne : v.ownBlock ≠ some g) : Box w' g cs t :=
  h.carry (hg.rows.block g h.lt (fun e => hne e.symm))
theorem Grew.ne {w w' : World} {g : Nat} {v v' : Value} (hg : Grew w w' v v') (hne : v.ownBlock ≠ some g) (hlt : g < w.heap.size) : v'.ownBlock ≠ some g := fun e => by
  rcases hg.own g e with h1 | h1
  · exact hne h1
  · omega
theorem owns_ne_new {base : Nat} {w : World} {e : TypeId} {size : Nat} {v : Value} {n : Nat} {xs : List Value} (h : w.ownsRow base e size v n xs) : v.ownBlock ≠ some w.heap.size := fun e => by
  have := (h.lt _ e).2
  omega
theorem zig_nat (n : Int) (w : World) (h : I64 n) : Calls Tryz.prog 115 #[.int .i64 n] w fun e w' => e = .returned (.int .u64 (zigN n : Int)) ∧ w' = w := by
  rw [← (zigN_eq h).1]
  exact zig_any n w h.1 h.2
theorem kind_wrap (n : Int) : IntKind.u64.wrap n = (kindN n : Int) := by
  rw [IntKind.wrap_u64]
  unfold kindN
  omega

/-- A row and what it grew to. -/
def Wrote (base : Nat) (v : Value) (n : Nat) (xs news : List UInt8) (w : World) (e : Ending) (w' : World) : Prop :=
  ∃ v', e = .returned v' ∧ w'.ownsRow base 5 1 v' (n + news.length) (B8 (xs ++ news)) ∧ Grew w w' v v'

set_option maxRecDepth 100000 in
set_option maxHeartbeats 800000 in
theorem addValue_any (base : Nat) (v : Value) (n : Nat) (xs : List UInt8) (k : ValV) (w : World) (hown : w.ownsRow base 5 1 v n (B8 xs)) (hk : k.Ok) (hn : n + k.s.size ≤ 140737488350000) (hb : base ≤ w.heap.size) :
    Calls Tryz.prog 116 #[v, .agg (valA k)] w (Wrote base v n xs (valL k) w) := by
  obtain ⟨kind, num, s⟩ := k
  have hk1 : I64 num := hk.num
  have hs : n + s.size ≤ 140737488350000 := hn
  have hB := Box.new w (valA ⟨kind, num, s⟩) 71
  have hne := owns_ne_new hown
  have Hne : Hid _ := hne
  have hbx : base ≤ w.heap.size := hb
  have hl1 := (numL_length (kindN kind)).2
  have hl2 := (numL_length (zigN num)).2
  have Hc1 : Hid _ := addNumber_any base v n xs (kindN kind) (w.alloc (.cells (valA ⟨kind, num, s⟩) 71)) (hown.alloc _) (kindN_lt _) (by omega) (by rw [World.size_alloc]; omega)
  have HB : Hid _ := hB
  clear hB hne hk hn hown
  unfold valA at *
  go_enter Tryz.func116, Tryz.ntmps116
  go_wp2_with fail
  rw [kind_wrap]
  refine Calls.mono (Hid.out Hc1) ?_
  rintro e w1 ⟨v1, rfl, ho1, hg1⟩
  have hB1 := HB.out.grew hg1 Hne.out
  have hne1 := hg1.ne Hne.out HB.out.lt
  have c1 := hB1.cell 1
  have hb1 : base ≤ w1.heap.size := Nat.le_trans (by rw [World.size_alloc]; omega) hg1.rows.size
  have HB1 : Hid _ := hB1
  have Hne1 : Hid _ := hne1
  clear Hc1 hB1 hne1
  go_wp2_with fail
  refine Calls.mono (zig_nat num _ hk1) ?_
  rintro e w1' ⟨rfl, rfl⟩
  go_wp2_with fail
  refine Calls.mono (addNumber_any base v1 _ _ (zigN num) _ ho1 (zigN_eq hk1).2 (by omega) hb1) ?_
  rintro e w2 ⟨v2, rfl, ho2, hg2⟩
  have c2 := (HB1.out.grew hg2 Hne1.out).cell 2
  have hb2 : base ≤ w2.heap.size := Nat.le_trans hb1 hg2.rows.size
  clear c1
  go_wp2_with fail
  refine Calls.mono (addText_any base v2 _ _ s _ ho2 (by omega) hb2) ?_
  rintro e w3 ⟨v3, rfl, ho3, hg3⟩
  go_wp2_with fail
  go_ret
  refine ⟨v3, rfl, ?_, (hg1.trans (hg2.trans hg3)).alloc⟩
  unfold valL strL
  simpa only [List.append_assoc, List.length_append, Nat.add_assoc] using ho3

set_option maxRecDepth 100000 in
set_option maxHeartbeats 800000 in
theorem addKey_any (base : Nat) (v : Value) (n : Nat) (xs : List UInt8) (k : KeyV) (w : World) (hown : w.ownsRow base 5 1 v n (B8 xs)) (hk : k.Ok) (hn : n + (k.table.size + k.part.size + k.col.size) ≤ 140737488350000) (hb : base ≤ w.heap.size) :
    Calls Tryz.prog 77 #[v, .agg (keyA k)] w (Wrote base v n xs (keyL k) w) := by
  obtain ⟨table, part, row, col⟩ := k
  have hk1 : I64 row := hk.row
  have hs : n + (table.size + part.size + col.size) ≤ 140737488350000 := hn
  have Hne : Hid (v.ownBlock ≠ some w.heap.size) := owns_ne_new hown
  have hl1 := txtL_le table
  have hl2 := txtL_le part
  have hl3 := (numL_length (zigN row)).2
  unfold strL at hl1 hl2
  have Hc1 : Hid _ := addText_any base v n xs table (w.alloc (.cells (keyA ⟨table, part, row, col⟩) 69)) (hown.alloc _) (by omega) (by rw [World.size_alloc]; omega)
  have HB : Hid (Box _ _ _ _) := Box.new w (keyA ⟨table, part, row, col⟩) 69
  clear hk hn hown
  unfold keyA at *
  go_enter Tryz.func77, Tryz.ntmps77
  go_wp2_with fail
  refine Calls.mono (Hid.out Hc1) ?_
  rintro e w1 ⟨v1, rfl, ho1, hg1⟩
  have HB1 : Hid (Box _ _ _ _) := HB.out.grew hg1 Hne.out
  have Hne1 : Hid (v1.ownBlock ≠ some w.heap.size) := hg1.ne Hne.out HB.out.lt
  have c1 := HB1.out.cell 1
  have hb1 : base ≤ w1.heap.size := Nat.le_trans (by rw [World.size_alloc]; omega) hg1.rows.size
  clear Hc1
  go_wp2_with fail
  refine Calls.mono (addText_any base v1 _ _ part _ ho1 (by omega) hb1) ?_
  rintro e w2 ⟨v2, rfl, ho2, hg2⟩
  have HB2 : Hid (Box _ _ _ _) := HB1.out.grew hg2 Hne1.out
  have Hne2 : Hid (v2.ownBlock ≠ some w.heap.size) := hg2.ne Hne1.out HB1.out.lt
  have c2 := HB2.out.cell 2
  have hb2 : base ≤ w2.heap.size := Nat.le_trans hb1 hg2.rows.size
  clear c1
  go_wp2_with fail
  refine Calls.mono (zig_nat row _ hk1) ?_
  rintro e w2' ⟨rfl, rfl⟩
  go_wp2_with fail
  refine Calls.mono (addNumber_any base v2 _ _ (zigN row) _ ho2 (zigN_eq hk1).2 (by omega) hb2) ?_
  rintro e w3 ⟨v3, rfl, ho3, hg3⟩
  have c3 := (HB2.out.grew hg3 Hne2.out).cell 3
  have hb3 : base ≤ w3.heap.size := Nat.le_trans hb2 hg3.rows.size
  clear c2
  go_wp2_with fail
  refine Calls.mono (addText_any base v3 _ _ col _ ho3 (by omega) hb3) ?_
  rintro e w4 ⟨v4, rfl, ho4, hg4⟩
  go_wp2_with fail
  go_ret
  refine ⟨v4, rfl, ?_, (hg1.trans (hg2.trans (hg3.trans hg4))).alloc⟩
  unfold keyL strL
  simpa only [List.append_assoc, List.length_append, Nat.add_assoc] using ho4
end Go.Proofs.YtabkgcmlfabmgaaGreatDoor
namespace Go.Proofs.YtabkgcmlfabmgaaGreatDoor
open Go.RowKit

/-- An append onto a row of the call's own, as one step of a region that draws. -/
theorem step_append_grew {P : Program} {ops : Array Oper} {o : Oper} {a : Act} {w : World} {K : Act → World → Prop} {Q : Exit → Act → World → Prop} {E : Prop}
    (hgd : o.guard = none) (s x : Operand) (t tx : TypeId) (ho : o.op = .call { callee := .builtin .append, args := #[s, x], argTypes := #[t, tx] })
    (base : Nat) (e : TypeId) (i : TypeInfo) (z : Value) (size bytes : Nat) (ht : P.underlying t = some (.slice e)) (hi : P.info? e = some i) (hz : i.zero = some z)
    (hsize : i.size = size) (hby : i.bytes = bytes) (hzs : z.cells.size = size)
    (v : Value) (n : Nat) (xs : List Value) (hs : a.eval s = v) (hown : w.ownsRow base e size v n xs)
    (xv : Value) (m : Nat) (news : List Value) (hx : a.eval x = xv) (hsrc : Src P size tx xv m news w)
    (h63 : n + m ≤ maxLen) (hbytes : (n + m) * bytes ≤ 140737488355328) (hbase : base ≤ w.heap.size)
    (h : ∀ v' w', w'.ownsRow base e size v' (n + m) (xs ++ news) → Grew w w' v v' → K (a.put o.dst v') w') :
    if Region.wanted o (yielded ops a.tmps) = true then Oper.wp P o a w K Q else E := by
  have hw : Region.wanted o (yielded ops a.tmps) = true := by simp [Region.wanted, hgd]
  rw [if_pos hw]
  obtain ⟨v', w', hr, h2, h3⟩ := run_append_grew (P := P) w base t tx o.type e i z size bytes ht hi hz hsize hby hzs v n xs hown xv m news hsrc h63 hbytes hbase
  unfold Oper.wp execOp
  simp only [ho, resolve, invoke, builtin, Sem.run_bind, Sem.run_pure, Result.andThen_ok, List.map_toArray, List.map_cons, List.map_nil, hs, hx, hr]
  exact h v' w' h2 h3
end Go.Proofs.YtabkgcmlfabmgaaGreatDoor
namespace Go.Proofs.YtabkgcmlfabmgaaGreatDoor
open Go.RowKit

set_option maxRecDepth 100000 in
set_option maxHeartbeats 400000 in
theorem setWord_any (g off len cap : Nat) (l : List UInt8) (x : Nat) (w : World) (hx : x < 4294967296) (h4 : 4 ≤ len) (hlen : len ≤ 140737488355000) (hr : Row w g l) (hl : off + 4 ≤ l.length) :
    Calls Tryz.prog 113 #[.slice (some ⟨g, off, none⟩) len cap, .int .u32 x] w fun e w' => e = .returned (.tuple #[]) ∧ Row w' g (layL l off x 4) ∧ w.grownBy w' (some g) ∧ w'.heap.size = w.heap.size := by
  go_enter Tryz.func113, Tryz.ntmps113
  go_wp2
  go_loopw [5] (fun i wr => ∃ k : Nat, k ≤ 4 ∧ i = .int .i64 k ∧ Row wr g (layL l off x k) ∧ w.grownBy wr (some g) ∧ wr.heap.size = w.heap.size) (fun i _ => 4 - (intOf i).toNat)
  case atStart => exact ⟨0, Nat.zero_le _, rfl, by rw [layL_zero]; exact hr, World.grownBy.refl _ _, rfl⟩
  case round =>
    obtain ⟨k, hk, rfl, hrow, hg, hsz⟩ := hrel
    by_cases hlt : k < 4
    · have hcell := hrow.cell (off + k) (by rw [layL_length _ _ _ _ (by omega) (by omega)]; omega)
      have hfr := hrow.frozen (off + k)
      rcases (show k = 0 ∨ k = 1 ∨ k = 2 ∨ k = 3 by omega) with rfl | rfl | rfl | rfl
      all_goals
        try simp only [Nat.add_zero] at hcell hfr
        go_wp2
        go_roundw
        case rel =>
          refine ⟨_ + 1, by omega, rfl, ?_, grownBy_setCell hg, (size_setCell _ _ _).trans hsz⟩
          rw [← layL_step l off x _ (by omega) (by omega)]
          refine hrow.setZ _ _ _ ?_
          simp [fourL]
          try omega
        case measure => simp [intOf]
    · go_wp2
      go_end0
      obtain rfl : k = 4 := by omega
      exact ⟨rfl, hrow, hg, hsz⟩

set_option maxRecDepth 100000 in
set_option maxHeartbeats 400000 in
theorem frameSum_any (b off hn hcap : Nat) (h4 : List UInt8) (co : Option Addr) (l : List UInt8) (cap : Nat) (w : World) (h1 : 4 ≤ hn) (h2 : hn ≤ hcap) (hcm : hcap ≤ 9223372036854775807) (h3 : h4.length = 4) (hs : Sees w (some ⟨b, off, none⟩) h4) (hc : Sees w co l) (hl : l.length ≤ 140737488355000) (ht : Tab w) :
    Calls Tryz.prog 114 #[.slice (some ⟨b, off, none⟩) hn hcap, .slice co l.length cap] w fun e w' => e = .returned (.int .u32 (sumZ (h4 ++ l))) ∧ w' = w := by
  have hb4 := sumOnZ_bd 4294967295 h4 ⟨by decide, by decide⟩
  have hbd := sumOnZ_bd 4294967295 (h4 ++ l) ⟨by decide, by decide⟩
  have hn := not_u32 _ hbd.1 hbd.2
  have he : Hid (sumZ (h4 ++ l) = 4294967295 - sumOnZ 4294967295 (h4 ++ l)) := rfl
  rw [sumOnZ_append] at hn hbd he
  go_enter Tryz.func114, Tryz.ntmps114
  go_wp2_with fail
  refine (sumOn_len 4294967295 (some ⟨b, off, none⟩) h4 4 hcap _ ⟨by decide, by decide⟩ h3 (by decide) ht hs).mono ?_
  rintro e w' ⟨rfl, rfl⟩
  go_wp2_with fail
  refine (sumOn_any _ co l cap _ hb4 (by unfold maxLen; omega) ht hc).mono ?_
  rintro e w' ⟨rfl, rfl⟩
  go_wp2_with fail
  go_ret
  exact ⟨ret_int he.out.symm, rfl⟩

theorem Tab.below {w w' : World} (h : Tab w) {B : Nat} (hb : Below B w w') (hB : w.heap.size ≤ B) : Tab w' := by
  intro j hj
  have h1 := h j hj
  have hlt := World.block_lt_of_cell? _ _ h1
  rw [hb.cell (p := ⟨2, j, none⟩) (by omega), h1]

theorem made8 (m : Nat) : (madeCells (Value.int .u8 0).cells (m * 1)).toList = B8 (List.replicate m 0) := by
  have h : (Value.int .u8 0).cells = #[.int .u8 0] := rfl
  rw [h, Nat.mul_one]
  apply List.ext_getElem
  · simp [madeCells, B8]
  · intro i h1 h2
    simp [madeCells, B8, Nat.mod_one]

theorem frame_bytes (l : List UInt8) (n S : Nat) (hn : n = l.length) : splice (B8 (layL (layL (List.replicate (n + 8) 0) 0 n 4) 4 S 4)) 8 (B8 l) = B8 (fourL n ++ (fourL S ++ l)) := by
  have e : layL (layL (List.replicate (n + 8) 0) 0 n 4) 4 S 4 = fourL n ++ (fourL S ++ List.replicate n 0) := by
    simp [layL, fourL, Nat.add_sub_cancel]
  rw [e]
  have h1 : (B8 (fourL n ++ (fourL S ++ List.replicate n 0))).take 8 = B8 (fourL n ++ fourL S) := by simp [B8, fourL]
  have h2 : (B8 (fourL n ++ (fourL S ++ List.replicate n 0))).drop (8 + l.length) = [] := by
    rw [List.drop_eq_nil_of_le]
    rw [B8_length]
    simp [fourL]
    omega
  unfold splice
  rw [B8_length, h1, h2, ← List.append_assoc (fourL n), B8_append (fourL n ++ fourL S)]
  simp

theorem sees_cells {w : World} {ao : Option Addr} {l : List UInt8} (h : Sees w ao l) (hp : 0 < l.length) : ∃ ad, ao = some ad ∧ ∀ j v, (B8 l)[j]? = some v → w.cell? (ad.add j) = some v := by
  obtain ⟨a, rfl, _⟩ := h 0 hp
  exact ⟨a, rfl, h.cells⟩

/-- Too long for a frame. -/
theorem frame_long (ao : Option Addr) (n cap : Nat) (w : World) (h : 262144 < n) (hn : n ≤ 140737488355328) :
    Calls Tryz.prog 74 #[.slice ao n cap] w fun e w' => e = .returned (.slice none 0 0) ∧ w' = w := by
  go_enter Tryz.func74, Tryz.ntmps74
  go_wp2
  go_ret
  exact ⟨rfl, rfl⟩

set_option maxRecDepth 100000 in
set_option maxHeartbeats 800000 in
theorem frame_any (ao : Option Addr) (l : List UInt8) (cap : Nat) (w : World) (hl : l.length ≤ 262144) (hs : Sees w ao l) (hnone : ao = none → l.length = 0) (ht : Tab w) :
    Calls Tryz.prog 74 #[.slice ao l.length cap] w fun e w' => e = .returned (.slice (some ⟨w.heap.size, 0, none⟩) (l.length + 8) (l.length + 8)) ∧ Row w' w.heap.size (frameL l) ∧ Below w.heap.size w w' := by
  obtain ⟨i0, hi, hz0, hz1, hz2⟩ := info_parts info8
  have Hnone : Hid (ao = none → l.length = 0) := hnone
  clear hnone
  go_enter Tryz.func74, Tryz.ntmps74
  go_wp2_with (at_make; go_must (refine wpList_make_full _ rfl _ _ 23 rfl w.heap.size 5 i0 (.int .u8 0) 1 Tryz.underlying23 hi hz0 hz1 .i64 .i64 _ _ (l.length + 8) rfl rfl (by omega) (by omega) (by rw [hz2]; omega) (by unfold maxLen; omega) (Nat.le_refl _) ?_; intro w1 ho1 hg1))
  rw [made8] at ho1
  obtain ⟨hr1, hl1, _⟩ := Row.of_owns ho1
  have hb1 : Below w.heap.size w w1 := (Below.refl _ _).grown hg1 (Nat.le_refl _) (fun k hk => by cases hk)
  clear ho1
  refine (setWord_any w.heap.size 0 _ _ _ l.length _ (by omega) (by omega) (by omega) hr1 (by simp)).mono ?_
  rintro e w2 ⟨rfl, hr2, hg2, hsz2⟩
  have hb2 : Below w.heap.size w w2 := hb1.grown hg2 hb1.size (fun k hk => by cases hk; exact Nat.le_refl _)
  have hlen2 : (layL (List.replicate (l.length + 8) 0) 0 l.length 4).length = l.length + 8 := by rw [layL_length _ _ _ _ (by omega) (by simp)]; simp
  have hs4 : Sees w2 (some ⟨w.heap.size, 0, none⟩) (fourL l.length) := by
    have := hr2.sees 0 4 (by omega)
    simpa [layL, fourL] using this
  obtain ⟨S, hS⟩ := Int.eq_ofNat_of_zero_le (sumZ_bd (fourL l.length ++ l)).1
  have hS32 : S < 4294967296 := by have := (sumZ_bd (fourL l.length ++ l)).2; omega
  have HS : Hid (sumZ (fourL l.length ++ l) = (S : Int)) := hS
  clear hS
  have hs2 := hs.below hb2 (Nat.le_refl _)
  have ht2 := ht.below hb2 (Nat.le_refl _)
  go_wp2_with fail
  go_region_with (first
    | (go_at_call 114; go_must (refine (frameSum_any w.heap.size 0 (l.length + 8) (l.length + 8) (fourL l.length) ao l cap _ (by omega) (by omega) (by omega) rfl (by exact hs4) (by exact hs2) (by omega) (by exact ht2)).mono ?_; rintro e w' ⟨rfl, rfl⟩; rw [HS.out]))
    | (go_at_call 113; go_must (refine (setWord_any w.heap.size 4 _ _ (layL (List.replicate (l.length + 8) 0) 0 l.length 4) S _ hS32 (by omega) (by omega) (by exact hr2) (by omega)).mono ?_; rintro e w3 ⟨rfl, hr3, hg3, hsz3⟩)))
  all_goals
    have hb3 : Below w.heap.size w w3 := hb2.drew.grown hg3 hb2.size (fun k hk => by cases hk; exact Nat.le_refl _)
    have hs3 := hs.below hb3 (Nat.le_refl _)
    have hlen3 : (layL (layL (List.replicate (l.length + 8) 0) 0 l.length 4) 4 S 4).length = l.length + 8 := by rw [layL_length _ _ _ _ (by omega) (by omega)]; exact hlen2
    have hfin : Hid (splice (B8 (layL (layL (List.replicate (l.length + 8) 0) 0 l.length 4) 4 S 4)) 8 (B8 l) = B8 (frameL l)) := by
      unfold frameL
      rw [HS.out, Int.toNat_natCast]
      exact frame_bytes l l.length S rfl
    generalize layL (layL (List.replicate (l.length + 8) 0) 0 l.length 4) 4 S 4 = L3 at *
    clear hr1 hr2 hg1 hg2 hb1 hb2 hs2 ht2 hs4 hsz2 hlen2 hg3 hsz3 HS
    by_cases h0 : l.length = 0
    · go_wp2_with ((with_reducible (show wpList _ _ _ (Oper.mk _ (Op.call ⟨Callee.builtin Builtin.copy, _, _⟩) _ _ _ _ :: _) _ _)); go_must (refine wpList_copy_splice rfl _ _ 23 23 rfl 5 Tryz.underlying23 (by rw [hi]; simp [hz1]) _ _ _ _ _ _ rfl rfl w.heap.size 8 (B8 L3) 5 (by exact hr3) (B8 l) (by rw [B8_length, h0]; rfl) (fun h => by rw [B8_length] at h; omega) (by rw [B8_length, B8_length]; omega) (B8_one _) w.heap.size w hb3 (Nat.le_refl _) ?_; intro w4 hr4 hb4))
      go_ret
      refine ⟨by rw [h0]; rfl, ?_, hb4⟩
      unfold Row
      rw [hr4.out, hfin.out]
    · go_wp2_with ((with_reducible (show wpList _ _ _ (Oper.mk _ (Op.call ⟨Callee.builtin Builtin.copy, _, _⟩) _ _ _ _ :: _) _ _)); go_must (refine wpList_copy_splice rfl _ _ 23 23 rfl 5 Tryz.underlying23 (by rw [hi]; simp [hz1]) _ _ _ _ _ _ rfl rfl w.heap.size 8 (B8 L3) 5 (by exact hr3) (B8 l) (by rw [B8_length]; simp) (fun h => ⟨rfl, sees_cells hs3 (by omega)⟩) (by rw [B8_length, B8_length]; omega) (B8_one _) w.heap.size w hb3 (Nat.le_refl _) ?_; intro w4 hr4 hb4))
      go_ret
      refine ⟨rfl, ?_, hb4⟩
      unfold Row
      rw [hr4.out, hfin.out]
end Go.Proofs.YtabkgcmlfabmgaaGreatDoor
namespace Go.Proofs.YtabkgcmlfabmgaaGreatDoor
open Go.RowKit

theorem sees_lit (w : World) (l : List UInt8) (pr : Nat × Nat) : Sees (w.alloc (.cells (B8 l).toArray 5 pr)) (some ⟨w.heap.size, 0, none⟩) l := by
  intro i hi
  refine ⟨_, rfl, ?_⟩
  have h : (w.alloc (.cells (B8 l).toArray 5 pr)).heap[w.heap.size]? = some (.cells (B8 l).toArray 5 pr) := heap_alloc_new w _
  have e := B8_at l i hi
  rw [Addr.add_lit, Nat.zero_add]
  simp only [World.cell?, h]
  simpa using e

end Go.Proofs.YtabkgcmlfabmgaaGreatDoor
namespace Go.Proofs.YtabkgcmlfabmgaaGreatDoor
open Go.RowKit

/-- A reader in block R: its bytes are l (at ao), n of them are read. -/
structure Rd (w : World) (R : Nat) (ao : Option Addr) (l : List UInt8) (cap n : Nat) : Prop where
  c0 : w.cell? ⟨R, 0, none⟩ = some (.slice ao l.length cap)
  c1 : w.cell? ⟨R, 1, none⟩ = some (.int .i64 n)
  f1 : w.frozen? ⟨R, 1, none⟩ = false
  le : n ≤ l.length
  max : l.length ≤ 140737488355000
  sees : Sees w ao l
  ne : l.length ≠ 0 → ∀ a, ao = some a → a.block ≠ R
/-- What a reader panics with lies where it lies. -/
def Err (w : World) (u : TypeId) (pv : Value) : Prop := w.cell? ⟨3, 0, none⟩ = some (.iface u pv)

theorem Rd.drewN {w : World} {R : Nat} {ao : Option Addr} {l : List UInt8} {cap n : Nat} (h : Rd w R ao l cap n) (k : Nat) : Rd (w.drewN k) R ao l cap n := ⟨h.c0, h.c1, h.f1, h.le, h.max, h.sees, h.ne⟩

/-- The reader goes to another place. -/
theorem Rd.set {w : World} {R : Nat} {ao : Option Addr} {l : List UInt8} {cap n : Nat} (h : Rd w R ao l cap n) {m : Nat} (hm : m ≤ l.length) (z : Int) (hz : z = (m : Int)) : Rd (w.setCell ⟨R, 1, none⟩ (.int .i64 z)) R ao l cap m := by
  subst hz
  refine ⟨?_, ?_, ?_, hm, h.max, ?_, h.ne⟩
  · rw [World.cell?_setCell_other _ _ _ _ (by simp)]; exact h.c0
  · exact World.cell?_setCell_same _ _ _ h.c1
  · rw [World.frozen?_setCell]; exact h.f1
  · intro i hi
    obtain ⟨a, e, hc⟩ := h.sees i hi
    refine ⟨a, e, ?_⟩
    rw [World.cell?_setCell_other _ _ _ _ ?_]
    · exact hc
    · intro e'
      have := congrArg Addr.block e'
      rw [Addr.add_block] at this
      exact h.ne (by omega) a e this.symm
theorem grownBy_drewN {w w' : World} {r : Option Nat} (h : w.grownBy w' r) (k : Nat) : w.grownBy (w'.drewN k) r := ⟨h.os, h.tape, h.output, h.size, h.block⟩

set_option maxRecDepth 100000 in
set_option maxHeartbeats 400000 in
theorem octet_end (R : Nat) (ao : Option Addr) (l : List UInt8) (cap n : Nat) (w : World) (u : TypeId) (pv : Value) (h : Rd w R ao l cap n) (hn : n = l.length) (he : Err w u pv) :
    Calls Tryz.prog 206 #[.pointer (some ⟨R, 0, none⟩)] w fun e w' => e = .panicked [{ v := .iface u pv, recovered := false }] ∧ ∃ k, w' = w.drewN k := by
  have c0 := h.c0
  have c1 := h.c1
  have hm := h.max
  have hle := h.le
  have hcmp : ((n : Int) == (l.length : Int)) = true := by simp [hn]
  unfold Err at he
  clear h hn
  go_enter Tryz.func206, Tryz.ntmps206
  go_wp2
  go_quiet (fail)
  go_wp2
  exact ⟨rfl, rfl, nq, rfl⟩

theorem sees_at {w : World} {ao : Option Addr} {l : List UInt8} (h : Sees w ao l) {n : Nat} (hn : n < l.length) : ∃ b off, ao = some ⟨b, off, none⟩ ∧ w.cell? ⟨b, off + n, none⟩ = some (.int .u8 ((l.getD n 0).toNat : Int)) := by
  obtain ⟨a, rfl, hc⟩ := h n hn
  obtain ⟨a', e, hc0⟩ := h 0 (by omega)
  obtain rfl := Option.some.inj e
  obtain ⟨b, off, spot⟩ := a
  have hspot : spot = none := by simpa [Addr.add] using World.cell?_spot hc0
  subst hspot
  exact ⟨b, off, rfl, by rw [Addr.add_lit] at hc; exact hc⟩

set_option maxRecDepth 100000 in
set_option maxHeartbeats 400000 in
theorem octet_ok (R : Nat) (ao : Option Addr) (l : List UInt8) (cap n : Nat) (w : World) (h : Rd w R ao l cap n) (hn : n < l.length) :
    Calls Tryz.prog 206 #[.pointer (some ⟨R, 0, none⟩)] w fun e w' => e = .returned (.int .u8 ((l.getD n 0).toNat : Int)) ∧ Rd w' R ao l cap (n + 1) ∧ w.grownBy w' (some R) := by
  have c0 := h.c0
  have c1 := h.c1
  have f1 := h.f1
  have hm := h.max
  have hle := h.le
  have hcmp : ((n : Int) == (l.length : Int)) = false := by simp; omega
  obtain ⟨b, off, ha, hc⟩ := sees_at h.sees hn
  have hne : b ≠ R := h.ne (by omega) _ ha
  subst ha
  have H := h
  clear h
  go_enter Tryz.func206, Tryz.ntmps206
  go_wp2
  go_quiet (fail)
  go_wp2
  go_quiet (fail)
  go_wp2
  go_ret
  refine ⟨ret_int (by simp [hn]), (Rd.set (H.drewN _) (by omega) _ (by omega)).drewN _, grownBy_drewN (grownBy_setCell (grownBy_drewN (World.grownBy.refl _ _) _)) _⟩
end Go.Proofs.YtabkgcmlfabmgaaGreatDoor
namespace Go.Proofs.YtabkgcmlfabmgaaGreatDoor
open Go.RowKit

theorem grownBy_trans {w w1 w2 : World} {r : Option Nat} (h : w.grownBy w1 r) (k : w1.grownBy w2 r) : w.grownBy w2 r :=
  ⟨k.os.trans h.os, k.tape.trans h.tape, k.output.trans h.output, Nat.le_trans h.size k.size, fun i hi hne => (k.block i (Nat.lt_of_lt_of_le hi h.size) hne).trans (h.block i hi hne)⟩

set_option maxRecDepth 100000 in
set_option maxHeartbeats 400000 in
theorem number_ok (R : Nat) (ao : Option Addr) (l : List UInt8) (cap n : Nat) (w : World) (v : Nat) (r : List UInt8) (h : Rd w R ao l cap n) (hg : getN 0 0 (l.drop n) = some (v, r)) :
    Calls Tryz.prog 186 #[.pointer (some ⟨R, 0, none⟩)] w fun e w' => e = .returned (.int .u64 v) ∧ ∃ m, Rd w' R ao l cap m ∧ l.drop m = r ∧ n < m ∧ w.grownBy w' (some R) := by
  go_enter Tryz.func186, Tryz.ntmps186
  go_wp2
  go_loopw [3, 4] (fun s3 s4 wr => ∃ i acc m : Nat, i ≤ 9 ∧ acc < 2 ^ (7 * i) ∧ s3 = .int .u64 acc ∧ s4 = .int .i64 (7 * (i : Int)) ∧ Rd wr R ao l cap m ∧ getN i acc (l.drop m) = some (v, r) ∧ n ≤ m ∧ w.grownBy wr (some R)) (fun _ s4 _ => 70 - (intOf s4).toNat)
  case atStart => exact ⟨0, 0, n, by omega, by simp, rfl, rfl, h, hg, Nat.le_refl _, World.grownBy.refl _ _⟩
  case round =>
    obtain ⟨i, acc, m, hi, hacc, rfl, rfl, hR, hgm, hnm, hgr⟩ := hrel
    have hm : m < l.length := by
      rcases Nat.lt_or_ge m l.length with h1 | h1
      · exact h1
      · rw [List.drop_eq_nil_of_le h1] at hgm
        simp [getN] at hgm
    rw [List.drop_eq_getElem_cons hm, getN] at hgm
    have hb : l.getD m 0 = l[m] := by simp [List.getD, hm]
    have hoct := octet_ok R ao l cap m wr hR hm
    rw [hb] at hoct
    generalize l[m] = b at *
    have hbl := b.toNat_lt
    generalize b.toNat = x at *
    split at hgm
    · cases hgm
    · rename_i hno
      have Hg : Hid _ := hgm
      have Hacc : Hid _ := hacc
      have Hoct : Hid _ := hoct
      clear hgm hoct hb
      have Hor : Hid _ := or_text i acc x hacc hi (by omega)
      have Hno : Hid _ := hno
      have hcase : ((7 * (i : Int) == 63) = false ∧ ¬ 0 < 7 * (i : Int)) ∨ ((7 * (i : Int) == 63) = false ∧ 0 < 7 * (i : Int) ∧ ((x : Int) == 0) = false) ∨ ((7 * (i : Int) == 63) = true ∧ 0 < 7 * (i : Int) ∧ ¬ 1 < (x : Int) ∧ ((x : Int) == 0) = false) := by
        rcases (show i = 0 ∨ (0 < i ∧ i < 9) ∨ i = 9 by omega) with h1 | h1 | h1
        · exact .inl ⟨by simp; omega, by omega⟩
        · exact .inr (.inl ⟨by simp; omega, by omega, by simp; omega⟩)
        · exact .inr (.inr ⟨by simp; omega, by omega, by omega, by simp; omega⟩)
      clear hno hacc
      by_cases hx : x < 128
      · have Hend : Hid (acc + x % 128 * 2 ^ (7 * i) = v ∧ l.drop (m + 1) = r) := by
          have := Hg.out
          rw [if_pos hx] at this
          show _ ∧ _
          simpa using this
        rcases hcase with ⟨h1, h2⟩ | ⟨h1, h2, h3⟩ | ⟨h1, h2, h3, h4⟩
        all_goals
          go_wp2_with fail
          refine Calls.mono (Hid.out Hoct) ?_
          rintro e w1 ⟨rfl, hR1, hg1⟩
          go_wp2_with fail
          go_ret
          exact ⟨ret_int (by rw [Hor.out, Hend.out.1]), m + 1, hR1, Hend.out.2, by omega, grownBy_trans hgr hg1⟩
      · have Hend : Hid (getN (i + 1) (acc + x % 128 * 2 ^ (7 * i)) (l.drop (m + 1)) = some (v, r)) := by
          have := Hg.out
          rw [if_neg hx] at this
          exact this
        have Hi9 : Hid (i + 1 ≤ 9) := by
          have h9 : ¬ (i = 9 ∧ 1 < x ∨ 0 < i ∧ x = 0) := Hno.out
          show i + 1 ≤ 9
          omega
        rcases hcase with ⟨h1, h2⟩ | ⟨h1, h2, h3⟩ | ⟨h1, h2, h3, h4⟩
        · go_wp2_with fail
          refine Calls.mono (Hid.out Hoct) ?_
          rintro e w1 ⟨rfl, hR1, hg1⟩
          go_wp2_with fail
          go_roundw
          case rel => exact ⟨i + 1, _, m + 1, Hi9.out, digit_bd i acc x Hacc.out, by rw [Hor.out], by go_num, hR1, Hend.out, by omega, grownBy_trans hgr hg1⟩
          case measure => have := Hi9.out; simp [intOf]; omega
        · go_wp2_with fail
          refine Calls.mono (Hid.out Hoct) ?_
          rintro e w1 ⟨rfl, hR1, hg1⟩
          go_wp2_with fail
          go_roundw
          case rel => exact ⟨i + 1, _, m + 1, Hi9.out, digit_bd i acc x Hacc.out, by rw [Hor.out], by go_num, hR1, Hend.out, by omega, grownBy_trans hgr hg1⟩
          case measure => have := Hi9.out; simp [intOf]; omega
        · omega

set_option maxRecDepth 100000 in
set_option maxHeartbeats 400000 in
theorem number_no (R : Nat) (ao : Option Addr) (l : List UInt8) (cap n : Nat) (w : World) (u : TypeId) (pv : Value) (h : Rd w R ao l cap n) (hg : getN 0 0 (l.drop n) = none) (he : Err w u pv) (hER : R ≠ 3) :
    Calls Tryz.prog 186 #[.pointer (some ⟨R, 0, none⟩)] w fun e w' => e = .panicked [{ v := .iface u pv, recovered := false }] ∧ ∃ m, Rd w' R ao l cap m ∧ w.grownBy w' (some R) := by
  go_enter Tryz.func186, Tryz.ntmps186
  go_wp2
  go_loopw [3, 4] (fun s3 s4 wr => ∃ i acc m : Nat, i ≤ 9 ∧ acc < 2 ^ (7 * i) ∧ s3 = .int .u64 acc ∧ s4 = .int .i64 (7 * (i : Int)) ∧ Rd wr R ao l cap m ∧ getN i acc (l.drop m) = none ∧ w.grownBy wr (some R)) (fun _ s4 _ => 70 - (intOf s4).toNat)
  case atStart => exact ⟨0, 0, n, by omega, by simp, rfl, rfl, h, hg, World.grownBy.refl _ _⟩
  case round =>
    obtain ⟨i, acc, m, hi, hacc, rfl, rfl, hR, hgm, hgr⟩ := hrel
    have her : Err wr u pv := by
      unfold Err at he ⊢
      rw [World.cell?_of_block (hgr.block _ (World.block_lt_of_cell? _ _ he) (fun e => hER (Option.some.inj e).symm)), he]
    rcases Nat.lt_or_ge m l.length with hm | hm
    · rw [List.drop_eq_getElem_cons hm, getN] at hgm
      have hb : l.getD m 0 = l[m] := by simp [List.getD, hm]
      have hoct := octet_ok R ao l cap m wr hR hm
      rw [hb] at hoct
      generalize l[m] = b at *
      have hbl := b.toNat_lt
      generalize b.toNat = x at *
      have Hoct : Hid _ := hoct
      clear hoct hb
      split at hgm
      · rename_i hno
        have hcase : ((7 * (i : Int) == 63) = true ∧ 1 < (x : Int) ∧ 0 < 7 * (i : Int)) ∨ ((7 * (i : Int) == 63) = true ∧ ¬ 1 < (x : Int) ∧ 0 < 7 * (i : Int) ∧ ((x : Int) == 0) = true) ∨ ((7 * (i : Int) == 63) = false ∧ 0 < 7 * (i : Int) ∧ ((x : Int) == 0) = true) := by
          by_cases h9 : i = 9
          · by_cases hx : 1 < x
            · exact .inl ⟨by simp; omega, by omega, by omega⟩
            · exact .inr (.inl ⟨by simp; omega, by omega, by omega, by simp; omega⟩)
          · exact .inr (.inr ⟨by simp; omega, by omega, by simp; omega⟩)
        clear hno hacc hgm
        have Her : ∀ w1 : World, wr.grownBy w1 (some R) → w1.cell? ⟨3, 0, none⟩ = some (.iface u pv) := fun w1 hg1 => by
          unfold Err at her
          rw [World.cell?_of_block (hg1.block _ (World.block_lt_of_cell? _ _ her) (fun e => hER (Option.some.inj e).symm)), her]
        have Her : Hid _ := Her
        rcases hcase with ⟨h1, h2, h3⟩ | ⟨h1, h2, h3, h4⟩ | ⟨h1, h2, h3⟩
        all_goals
          go_wp2_with fail
          refine Calls.mono (Hid.out Hoct) ?_
          rintro e w1 ⟨rfl, hR1, hg1⟩
          have hc1 := Her.out w1 hg1
          go_wp2_with fail
          exact ⟨rfl, rfl, m + 1, hR1, grownBy_trans hgr hg1⟩
      · rename_i hno
        split at hgm
        · cases hgm
        · rename_i hx
          have Hend : Hid _ := hgm
          have Hor : Hid _ := or_text i acc x hacc hi (by omega)
          have Hacc : Hid _ := hacc
          have Hi9 : Hid (i + 1 ≤ 9) := by
            show i + 1 ≤ 9
            omega
          have hcase : ((7 * (i : Int) == 63) = false ∧ ¬ 0 < 7 * (i : Int)) ∨ ((7 * (i : Int) == 63) = false ∧ 0 < 7 * (i : Int) ∧ ((x : Int) == 0) = false) := by
            rcases (show i = 0 ∨ (0 < i ∧ i < 9) by omega) with h1 | h1
            · exact .inl ⟨by simp; omega, by omega⟩
            · exact .inr ⟨by simp; omega, by omega, by simp; omega⟩
          clear hno hacc hgm her
          rcases hcase with ⟨h1, h2⟩ | ⟨h1, h2, h3⟩
          · go_wp2_with fail
            refine Calls.mono (Hid.out Hoct) ?_
            rintro e w1 ⟨rfl, hR1, hg1⟩
            go_wp2_with fail
            go_roundw
            case rel => exact ⟨i + 1, _, m + 1, Hi9.out, digit_bd i acc x Hacc.out, by rw [Hor.out], by go_num, hR1, Hend.out, grownBy_trans hgr hg1⟩
            case measure => have := Hi9.out; simp [intOf]; omega
          · go_wp2_with fail
            refine Calls.mono (Hid.out Hoct) ?_
            rintro e w1 ⟨rfl, hR1, hg1⟩
            go_wp2_with fail
            go_roundw
            case rel => exact ⟨i + 1, _, m + 1, Hi9.out, digit_bd i acc x Hacc.out, by rw [Hor.out], by go_num, hR1, Hend.out, grownBy_trans hgr hg1⟩
            case measure => have := Hi9.out; simp [intOf]; omega
    · have hml : m = l.length := by have := hR.le; omega
      have Hoct : Hid _ := octet_end R ao l cap m wr u pv hR hml her
      clear hml hgm hacc
      go_wp2_with fail
      refine Calls.mono (Hid.out Hoct) ?_
      rintro e w1 ⟨rfl, k, rfl⟩
      go_wp2_with fail
      exact ⟨rfl, rfl, m, hR.drewN k, grownBy_drewN hgr k⟩
end Go.Proofs.YtabkgcmlfabmgaaGreatDoor
namespace Go.Proofs.YtabkgcmlfabmgaaGreatDoor
open Go.RowKit

theorem Rd.lt {w : World} {R : Nat} {ao : Option Addr} {l : List UInt8} {cap n : Nat} (h : Rd w R ao l cap n) : R < w.heap.size := World.block_lt_of_cell? _ _ h.c0
/-- Whatever leaves the reader's block and the bytes alone leaves the reader as it was. -/
theorem Rd.carry {w w' : World} {R : Nat} {ao : Option Addr} {l : List UInt8} {cap n : Nat} (h : Rd w R ao l cap n) (hb : ∀ k, k < w.heap.size → w'.heap[k]? = w.heap[k]?) : Rd w' R ao l cap n := by
  have e : ∀ p : Addr, p.block < w.heap.size → w'.cell? p = w.cell? p := fun p hp => World.cell?_of_block (hb p.block hp)
  refine ⟨?_, ?_, ?_, h.le, h.max, ?_, h.ne⟩
  · rw [e ⟨R, 0, none⟩ h.lt]; exact h.c0
  · rw [e ⟨R, 1, none⟩ h.lt]; exact h.c1
  · rw [World.frozen?_of_block (a := ⟨R, 1, none⟩) (hb R h.lt)]; exact h.f1
  · intro i hi
    obtain ⟨a, ea, hc⟩ := h.sees i hi
    exact ⟨a, ea, by rw [e _ (World.block_lt_of_cell? _ _ hc)]; exact hc⟩

theorem Rd.setOther {w w0 : World} {R : Nat} {ao : Option Addr} {l : List UInt8} {cap n : Nat} (h : Rd w R ao l cap n) (hs : Sees w0 ao l) (hR : R < w0.heap.size) {p : Addr} (hp : w0.heap.size ≤ p.block) (x : Value) : Rd (w.setCell p x) R ao l cap n := by
  have e : ∀ q : Addr, q.block < w0.heap.size → (w.setCell p x).cell? q = w.cell? q := fun q hq => World.cell?_setCell_other _ _ _ _ (fun e' => by rw [e'] at hp; omega)
  refine ⟨?_, ?_, ?_, h.le, h.max, ?_, h.ne⟩
  · rw [e ⟨R, 0, none⟩ hR]; exact h.c0
  · rw [e ⟨R, 1, none⟩ hR]; exact h.c1
  · rw [World.frozen?_setCell]; exact h.f1
  · intro i hi
    obtain ⟨a, ea, hc⟩ := h.sees i hi
    obtain ⟨a', ea', hc'⟩ := hs i hi
    obtain rfl := Option.some.inj (ea.symm.trans ea')
    exact ⟨a, ea, by rw [e _ (World.block_lt_of_cell? _ _ hc')]; exact hc⟩
/-- Beside the reader's block only new ones were written. -/
theorem grownBy_setNew {w w' : World} {R : Option Nat} {p : Addr} {x : Value} (h : w.grownBy w' R) (hp : w.heap.size ≤ p.block) : w.grownBy (w'.setCell p x) R :=
  ⟨h.os, h.tape, h.output, by rw [size_setCell]; exact h.size, fun k hk hne => (Below.heap_setCell _ _ _ _ (by omega)).trans (h.block k hk hne)⟩
theorem grownBy_alloc {w w' : World} {R : Option Nat} {o : Obj} (h : (w.alloc o).grownBy w' R) : w.grownBy w' R := by
  have hs := h.size
  rw [World.size_alloc] at hs
  exact ⟨h.os, h.tape, h.output, by omega, fun k hk hne => (h.block k (by rw [World.size_alloc]; omega) hne).trans (Below.heap_alloc _ _ _ hk)⟩

end Go.Proofs.YtabkgcmlfabmgaaGreatDoor
namespace Go.Proofs.YtabkgcmlfabmgaaGreatDoor
open Go.RowKit

/-- A reader that was just made. -/
theorem Rd.made {w : World} {ao : Option Addr} {l : List UInt8} {cap : Nat} (hs : Sees w ao l) (hl : l.length ≤ 140737488355000) : Rd (w.alloc (.cells #[.slice ao l.length cap, .int .i64 0] 184)) w.heap.size ao l cap 0 := by
  refine ⟨by simp [go_sem], by simp [go_sem], by simp [go_sem], by omega, hl, hs.below ((Below.refl _ _).alloc (Nat.le_refl _) _) (Nat.le_refl _), fun hne a ea e => ?_⟩
  obtain ⟨a', ea', hc⟩ := hs 0 (by omega)
  obtain rfl := Option.some.inj (ea.symm.trans ea')
  have := World.block_lt_of_cell? _ _ hc
  rw [Addr.add_block] at this
  omega
theorem below_made {w w' : World} {o : Obj} (h : (w.alloc o).grownBy w' (some w.heap.size)) : Below w.heap.size w w' :=
  ⟨h.os, h.tape, h.output, by have := h.size; rw [World.size_alloc] at this; omega, fun k hk => (h.block k (by rw [World.size_alloc]; omega) (fun e => by have := Option.some.inj e; omega)).trans (Below.heap_alloc _ _ _ hk)⟩
theorem err_alloc {w : World} {u : TypeId} {pv : Value} (he : Err w u pv) (o : Obj) : Err (w.alloc o) u pv := by
  unfold Err at he ⊢
  rw [World.cell?_of_block (Below.heap_alloc _ _ _ (World.block_lt_of_cell? _ _ he)), he]
theorem Err.below {w w' : World} {u : TypeId} {pv : Value} (he : Err w u pv) {B : Nat} (hb : Below B w w') (hB : w.heap.size ≤ B) : Err w' u pv := by
  unfold Err at he ⊢
  have := World.block_lt_of_cell? _ _ he
  rw [hb.cell (p := ⟨3, 0, none⟩) (by omega), he]

theorem owns_heap {w w' : World} {base : Nat} {e : TypeId} {size : Nat} {v : Value} {n : Nat} {xs : List Value} (h : w.ownsRow base e size v n xs) (hb : ∀ k, v.ownBlock = some k → w'.heap[k]? = w.heap[k]?) : w'.ownsRow base e size v n xs := by
  refine ⟨h.1, ?_⟩
  rcases h.2 with hn | ⟨g, cap, cur, rfl, hg, hh, r⟩
  · exact .inl hn
  · exact .inr ⟨g, cap, cur, rfl, hg, (hb g rfl).trans hh, r⟩
end Go.Proofs.YtabkgcmlfabmgaaGreatDoor
namespace Go.Proofs.YtabkgcmlfabmgaaGreatDoor
open Go.RowKit

theorem refZig_any (n : Int) (w : World) (h1 : -9223372036854775808 ≤ n) (h2 : n ≤ 9223372036854775807) :
    Calls Tryz.prog 81 #[.int .i64 n] w fun e w' => e = .returned (.int .u64 (zigZ n)) ∧ w' = w := by
  by_cases h : n < 0
  · have e1 : zigZ n = 2 * (-(n + 1)) + 1 := by unfold zigZ; rw [if_pos h]; omega
    rw [e1]
    clear e1
    go_enter Tryz.func81, Tryz.ntmps81
    go_wp2
    go_ret
    exact ⟨ret_int (by omega), rfl⟩
  · have e1 : zigZ n = 2 * n := by unfold zigZ; rw [if_neg h]
    rw [e1]
    clear e1
    go_enter Tryz.func81, Tryz.ntmps81
    go_wp2
    go_ret
    exact ⟨ret_int (by omega), rfl⟩
theorem refZag_any (u : Int) (w : World) (h1 : 0 ≤ u) (h2 : u ≤ 18446744073709551615) :
    Calls Tryz.prog 123 #[.int .u64 u] w fun e w' => e = .returned (.int .i64 (zagZ u)) ∧ w' = w := by
  by_cases h : u % 2 = 1
  · have e1 : zagZ u = -(u / 2) - 1 := by unfold zagZ; rw [if_pos h]
    rw [e1]
    have ht : (u % 2 == 1) = true := by simp [h]
    clear e1 h
    go_enter Tryz.func123, Tryz.ntmps123
    go_wp2
    go_ret
    exact ⟨rfl, rfl⟩
  · have e1 : zagZ u = u / 2 := by unfold zagZ; rw [if_neg h]
    rw [e1]
    have ht : (u % 2 == 1) = false := by simp [h]
    clear e1 h
    go_enter Tryz.func123, Tryz.ntmps123
    go_wp2
    go_ret
    exact ⟨rfl, rfl⟩

/-- A row of nothing, just made. -/
theorem owns_none (w : World) : (w.alloc (.cells #[] 5)).ownsRow w.heap.size 5 1 (.slice (some ⟨w.heap.size, 0, none⟩) 0 0) 0 [] := World.ownsRow_made w #[] 0 (Nat.le_refl _) (by decide) rfl
theorem below_none {w w' : World} {v : Value} (h : Grew (w.alloc (.cells #[] 5)) w' (.slice (some ⟨w.heap.size, 0, none⟩) 0 0) v) : Below w.heap.size w w' :=
  ((Below.refl _ _).alloc (Nat.le_refl _) _).trans (h.below (by rw [World.size_alloc]; omega) (fun k hk => by cases hk; exact Nat.le_refl _))

set_option maxRecDepth 100000 in
set_option maxHeartbeats 800000 in
theorem refPut_any (ao : Option Addr) (l : List UInt8) (cap u : Nat) (w : World) (hs : Sees w ao l) (hnone : ao = none → l.length = 0) (hl : l.length ≤ 140737488354000) (hu : u < 18446744073709551616) :
    Calls Tryz.prog 79 #[.slice ao l.length cap, .int .u64 u] w fun e w' => ∃ v', e = .returned v' ∧ w'.ownsRow w.heap.size 5 1 v' (l.length + (numL u).length) (B8 (l ++ numL u)) ∧ Below w.heap.size w w' := by
  obtain ⟨i0, hi, hz0, hz1, hz2⟩ := info_parts info8
  have Hu : Hid (NumAt u [] u) := NumAt.start hu
  have e0 := owns_none w
  have s1 := src_sees (P := Tryz.prog) Tryz.underlying23 (hs.below ((Below.refl _ _).alloc (Nat.le_refl _) (.cells #[] 5)) (Nat.le_refl _)) hnone cap
  clear hu hs hnone
  go_enter Tryz.func79, Tryz.ntmps79
  go_wp2_with (at_builtin; go_must (refine wpList_append_grew _ rfl (.tmp 6) (.tmp 7) 23 23 rfl w.heap.size 5 i0 (.int .u8 0) 1 1 Tryz.underlying23 hi hz0 hz1 hz2 rfl _ 0 [] rfl e0 _ l.length (B8 l) rfl s1 (by unfold maxLen; omega) (by omega) (by rw [World.size_alloc]; omega) ?_; intro v1 w1 ho1 hg1))
  have ho1' : w1.ownsRow w.heap.size 5 1 v1 l.length (B8 l) := by simpa using ho1
  have hb1 := below_none hg1
  clear e0 s1 hg1 ho1
  go_loopw [5, 1] (fun s0 s1 wr => ∃ (x : Nat) (d : List UInt8), s1 = .int .u64 x ∧ NumAt u d x ∧ wr.ownsRow w.heap.size 5 1 s0 (l.length + d.length) (B8 (l ++ d)) ∧ Grew w1 wr v1 s0 ∧ w.heap.size ≤ wr.heap.size) (fun _ s1 _ => (intOf s1).toNat)
  case atStart => exact ⟨u, [], rfl, Hu.out, by simpa using ho1', Grew.refl _ _, hb1.size⟩
  case round =>
    obtain ⟨x, d, rfl, hd, ho, hg, hbr⟩ := hrel
    have hbd := hd.bd
    have hdl := hd.len
    by_cases hx : x < 128
    · have hbv := byte_val x (by omega)
      have Hfin : Hid (numL u = d ++ [UInt8.ofNat x]) := hd.done hx
      go_wp2_with (at_builtin; go_must (refine wpList_append_grew _ rfl _ _ 23 23 rfl w.heap.size 5 i0 (.int .u8 0) 1 1 Tryz.underlying23 hi hz0 hz1 hz2 rfl _ _ _ rfl (ho.alloc _) _ 1 (B8 [UInt8.ofNat x]) rfl (src_one _ _ _ hbv) (by unfold maxLen; omega) (by omega) (by rw [World.size_alloc]; omega) ?_; intro v' w' ho' hg'))
      go_ret
      refine ⟨v', rfl, ?_, hb1.trans ((hg.trans hg'.alloc).below hb1.size (fun k hk => (ho1'.lt k hk).1))⟩
      rw [Hfin.out, ← List.append_assoc, B8_append _ [_], List.length_append, List.length_singleton, ← Nat.add_assoc]
      exact ho'
    · have hbv := byte_val (x % 128 + 128) (by omega)
      have hst := hd.step (by omega)
      go_wp2_with (at_builtin; go_must (refine wpList_append_grew _ rfl _ _ 23 23 rfl w.heap.size 5 i0 (.int .u8 0) 1 1 Tryz.underlying23 hi hz0 hz1 hz2 rfl _ _ _ rfl (ho.alloc _) _ 1 (B8 [UInt8.ofNat (x % 128 + 128)]) rfl (src_one _ _ _ hbv) (by unfold maxLen; omega) (by omega) (by rw [World.size_alloc]; omega) ?_; intro v' w' ho' hg'))
      go_roundw
      case rel =>
        refine ⟨x / 128, _, by go_num, hst, ?_, hg.trans hg'.alloc, Nat.le_trans hbr (Nat.le_trans (by rw [World.size_alloc]; omega) hg'.rows.size)⟩
        rw [← List.append_assoc, B8_append _ [_], List.length_append, List.length_singleton, ← Nat.add_assoc]
        exact ho'
      case measure => simp [intOf]; omega
end Go.Proofs.YtabkgcmlfabmgaaGreatDoor
namespace Go.Proofs.YtabkgcmlfabmgaaGreatDoor
open Go.RowKit

/-- What a round of the document's Get reckons. -/
theorem sum_text (i acc x : Nat) (h : acc < 2 ^ (7 * i)) (hi : i ≤ 9) (h9 : i = 9 → x ≤ 1) :
    IntKind.u64.wrap ((acc : Int) + IntKind.u64.wrap ((x : Int) % 128 * 2 ^ (7 * i))) = ((acc + x % 128 * 2 ^ (7 * i) : Nat) : Int) := by
  have hp : 2 ^ (7 * i) ≤ 2 ^ 63 := Nat.pow_le_pow_right (by omega) (by omega)
  have hy : acc + x % 128 * 2 ^ (7 * i) < 18446744073709551616 := by
    rcases Nat.lt_or_ge i 9 with h1 | h1
    · have h2 : 2 ^ (7 * i) ≤ 2 ^ 56 := Nat.pow_le_pow_right (by omega) (by omega)
      have h3 : x % 128 * 2 ^ (7 * i) ≤ 127 * 2 ^ 56 := Nat.mul_le_mul (by omega) h2
      omega
    · have hx := h9 (by omega)
      have h3 : x % 128 * 2 ^ (7 * i) ≤ 1 * 2 ^ 63 := Nat.mul_le_mul (by omega) hp
      omega
  have e : (x : Int) % 128 * 2 ^ (7 * i) = ((x % 128 * 2 ^ (7 * i) : Nat) : Int) := by simp
  rw [e, IntWalk.u64_in (((x % 128 * 2 ^ (7 * i) : Nat) : Int)) ⟨by omega, by omega⟩, ← Int.natCast_add, IntWalk.u64_in _ ⟨by omega, by omega⟩]

/-- What Get tells of bytes: the number, and how many it has. -/
def getV (l : List UInt8) : Nat := match getN 0 0 l with | some (v, _) => v | none => 0
def getK (l : List UInt8) : Nat := match getN 0 0 l with | some (_, r) => l.length - r.length | none => 0

set_option maxRecDepth 100000 in
set_option maxHeartbeats 1600000 in
theorem refGet_any (ao : Option Addr) (l : List UInt8) (cap : Nat) (w : World) (hs : Sees w ao l) (hl : l.length ≤ 140737488354000) :
    Calls Tryz.prog 121 #[.slice ao l.length cap] w fun e w' => e = .returned (.tuple #[.int .u64 (getV l), .int .i64 (getK l)]) ∧ w' = w := by
  go_enter Tryz.func121, Tryz.ntmps121
  go_wp2
  go_loop [4, 5] (fun s4 s5 => ∃ i acc : Nat, i ≤ 9 ∧ i ≤ l.length ∧ acc < 2 ^ (7 * i) ∧ s4 = .int .u64 acc ∧ s5 = .int .i64 i ∧ getN 0 0 l = getN i acc (l.drop i)) (fun _ s5 => 10 - (intOf s5).toNat)
  case atStart => exact ⟨0, 0, by omega, by omega, by simp, rfl, rfl, rfl⟩
  case round =>
    obtain ⟨i, acc, hi, hil, hacc, rfl, rfl, hg⟩ := hrel
    rcases Nat.lt_or_ge i l.length with hlt | hge
    · rw [List.drop_eq_getElem_cons hlt, getN] at hg
      obtain ⟨b, off, rfl, hc⟩ := sees_at hs hlt
      have hb : l.getD i 0 = l[i] := by simp [List.getD, hlt]
      rw [hb] at hc
      generalize l[i] = y at *
      have hbl := y.toNat_lt
      generalize y.toNat = x at *
      have Hs : Hid _ := hs
      clear hs hb
      by_cases hno : (i = 9 ∧ 1 < x) ∨ (0 < i ∧ x = 0)
      · rw [if_pos hno] at hg
        have HV : Hid (getV l = 0) := by show _ = _; unfold getV; rw [hg]
        have HK : Hid (getK l = 0) := by show _ = _; unfold getK; rw [hg]
        have hcase : ((i : Int) == 9) = true ∧ 1 < (x : Int) ∨ ((i : Int) == 9) = true ∧ ¬ 1 < (x : Int) ∧ 0 < (i : Int) ∧ ((x : Int) == 0) = true ∨ ((i : Int) == 9) = false ∧ 0 < (i : Int) ∧ ((x : Int) == 0) = true := by
          by_cases h9 : i = 9
          · by_cases hx : 1 < x
            · exact .inl ⟨by simp; omega, by omega⟩
            · exact .inr (.inl ⟨by simp; omega, by omega, by omega, by simp; omega⟩)
          · exact .inr (.inr ⟨by simp; omega, by omega, by simp; omega⟩)
        have Hacc : Hid _ := hacc
        clear hg hno hacc
        rcases hcase with ⟨h1, h2⟩ | ⟨h1, h2, h3, h4⟩ | ⟨h1, h2, h3⟩
        · go_wp2
          go_ret2
          exact ⟨by rw [HV.out, HK.out]; rfl, rfl⟩
        · have hx : (x : Int) < 128 := by omega
          go_wp2
          go_ret2
          exact ⟨by rw [HV.out, HK.out]; rfl, rfl⟩
        · have hx : (x : Int) < 128 := by have := (beq_iff_eq.1 h3 : (x : Int) = 0); omega
          go_wp2
          go_ret2
          exact ⟨by rw [HV.out, HK.out]; rfl, rfl⟩
      · rw [if_neg hno] at hg
        have Hsum : Hid _ := sum_text i acc x hacc hi (by omega)
        by_cases hx : x < 128
        · rw [if_pos hx] at hg
          have HV : Hid (getV l = acc + x % 128 * 2 ^ (7 * i)) := by show _ = _; unfold getV; rw [hg]
          have HK : Hid (getK l = i + 1) := by show _ = _; unfold getK; rw [hg]; simp; omega
          have hcase : (((i : Int) == 9) = false ∧ ¬ 0 < (i : Int)) ∨ (((i : Int) == 9) = false ∧ 0 < (i : Int) ∧ ((x : Int) == 0) = false) ∨ (((i : Int) == 9) = true ∧ 0 < (i : Int) ∧ ¬ 1 < (x : Int) ∧ ((x : Int) == 0) = false) := by
            rcases (show i = 0 ∨ (0 < i ∧ i < 9) ∨ i = 9 by omega) with h1 | h1 | h1
            · exact .inl ⟨by simp; omega, by omega⟩
            · exact .inr (.inl ⟨by simp; omega, by omega, by simp; omega⟩)
            · exact .inr (.inr ⟨by simp; omega, by omega, by omega, by simp; omega⟩)
          have Hacc : Hid _ := hacc
          clear hg hno hacc
          rcases hcase with ⟨h1, h2⟩ | ⟨h1, h2, h3⟩ | ⟨h1, h2, h3, h4⟩
          all_goals
            go_wp2
            go_ret2
            refine ⟨?_, rfl⟩
            rw [HV.out, HK.out, ← Hsum.out]
            rfl
        · rw [if_neg hx] at hg
          have Hg : Hid _ := hg
          have Hd : Hid _ := digit_bd i acc x hacc
          have Hi9 : Hid (i + 1 ≤ 9) := by show i + 1 ≤ 9; omega
          have hcase : ((i : Int) == 9) = false := by simp; omega
          clear hg hno hacc
          go_wp2
          go_round
          case rel => exact ⟨i + 1, _, Hi9.out, by omega, Hd.out, by rw [← Hsum.out], by go_num, Hg.out⟩
          case measure => have := Hi9.out; simp [intOf]; omega
    · rw [List.drop_eq_nil_of_le hge, getN] at hg
      have HV : Hid (getV l = 0) := by show _ = _; unfold getV; rw [hg]
      have HK : Hid (getK l = 0) := by show _ = _; unfold getK; rw [hg]
      clear hg hacc
      go_wp2
      go_ret2
      exact ⟨by rw [HV.out, HK.out]; rfl, rfl⟩
end Go.Proofs.YtabkgcmlfabmgaaGreatDoor
namespace Go.Proofs.YtabkgcmlfabmgaaGreatDoor
open Go.RowKit

/-- Memory that is lent out, the first k bytes laid. -/
def lentK (l : List UInt8) (k : Nat) : List UInt8 := (165 : UInt8) :: (l.take k ++ (List.replicate (l.length - k) 0 ++ [90]))
def lent (l : List UInt8) : List UInt8 := (165 : UInt8) :: (l ++ [90])
theorem lentK_length (l : List UInt8) (k : Nat) (h : k ≤ l.length) : (lentK l k).length = l.length + 2 := by simp [lentK]; omega
theorem take_snoc (l : List UInt8) (k : Nat) (h : k < l.length) : l.take (k + 1) = l.take k ++ [l.getD k 0] := by
  have e : l.getD k 0 = l[k] := by simp [List.getD, h]
  rw [e, ← List.take_succ_eq_append_getElem h]
theorem lentK_step (l : List UInt8) (k : Nat) (h : k < l.length) : (lentK l k).set (k + 1) (l.getD k 0) = lentK l (k + 1) := by
  unfold lentK
  have h1 : (l.take k).length = k := by simp; omega
  obtain ⟨m, hm⟩ : ∃ m, l.length - k = m + 1 := ⟨l.length - k - 1, by omega⟩
  have hm' : l.length - (k + 1) = m := by omega
  rw [List.set_cons_succ, List.set_append_right _ _ (by omega), h1, Nat.sub_self, hm, hm', List.replicate_succ, List.cons_append, List.set_cons_zero, take_snoc l k h, List.append_assoc]
  rfl
theorem lentK_start (l : List UInt8) : ((List.replicate (l.length + 2) (0 : UInt8)).set 0 165).set (l.length + 1) 90 = lentK l 0 := by
  unfold lentK
  rw [List.replicate_succ, List.set_cons_zero, List.set_cons_succ, List.replicate_succ', List.set_append_right _ _ (by simp)]
  simp
theorem lentK_end (l : List UInt8) : lentK l l.length = lent l := by simp [lentK, lent]

theorem lent_sees {w : World} {g : Nat} {l : List UInt8} (h : Row w g (lent l)) : Sees w (some ⟨g, 1, none⟩) l := by
  have hlen : (lent l).length = l.length + 2 := by simp [lent]
  have := h.sees 1 l.length (by omega)
  simpa [lent] using this

theorem Row.below {w w' : World} {g : Nat} {l : List UInt8} (h : Row w g l) {B : Nat} (hb : Below B w w') (hB : g < B) : Row w' g l := (hb.block g hB).trans h
end Go.Proofs.YtabkgcmlfabmgaaGreatDoor
namespace Go.Proofs.YtabkgcmlfabmgaaGreatDoor
open Go.RowKit

/-- One step of the sum, without a byte. -/
def crcF (c : Nat) : Nat := (c / 2) ^^^ (if c % 2 = 1 then 3988292384 else 0)
/-- One step of the sum, with bit k of a byte. -/
def crcS (c x k : Nat) : Nat := (c / 2) ^^^ (if (c + x / 2 ^ k) % 2 = 1 then 3988292384 else 0)
/-- The first j steps. -/
def crcSs (c x : Nat) : Nat → Nat
  | 0 => c
  | j + 1 => crcS (crcSs c x j) x j
theorem xor_half (a b : Nat) : (a ^^^ b) / 2 = a / 2 ^^^ b / 2 := Nat.xor_div_two
theorem xor_par (a b : Nat) : (a ^^^ b) % 2 = (a + b) % 2 := by
  have h := Nat.testBit_xor a b 0
  simp only [Nat.testBit_zero] at h
  rcases Nat.mod_two_eq_zero_or_one a with ha | ha <;> rcases Nat.mod_two_eq_zero_or_one b with hb | hb <;> rcases Nat.mod_two_eq_zero_or_one (a ^^^ b) with hc | hc <;> simp [ha, hb, hc] at h <;> omega
theorem crcF_xor (a b : Nat) : crcF (a ^^^ b) = crcF a ^^^ crcF b := by
  unfold crcF
  rw [xor_half, xor_par]
  have e : (if (a + b) % 2 = 1 then 3988292384 else 0) = (if a % 2 = 1 then 3988292384 else 0) ^^^ (if b % 2 = 1 then 3988292384 else 0) := by
    rcases Nat.mod_two_eq_zero_or_one a with ha | ha <;> rcases Nat.mod_two_eq_zero_or_one b with hb | hb <;> simp [Nat.add_mod, ha, hb]
  rw [e]
  ac_rfl
theorem crcS_xor (c x k : Nat) : crcS c x k ^^^ x / 2 ^ (k + 1) = crcF (c ^^^ x / 2 ^ k) := by
  unfold crcS crcF
  rw [xor_half, xor_par, Nat.div_div_eq_div_mul, ← Nat.pow_succ]
  ac_rfl
theorem crcSs_xor (c x : Nat) : ∀ j, crcSs c x j ^^^ x / 2 ^ j = Nat.repeat crcF j (c ^^^ x)
  | 0 => by simp [crcSs, Nat.repeat]
  | j + 1 => by rw [crcSs, crcS_xor, crcSs_xor c x j]; rfl
theorem crcF4 (s : Nat) : crcF (crcF (crcF (crcF s))) = (s / 16) ^^^ (tabZ.getD (s % 16) 0).toNat := by
  have e : s = (16 * (s / 16)) ^^^ (s % 16) := by
    apply Nat.eq_of_testBit_eq
    intro i
    rw [Nat.testBit_xor, show 16 * (s / 16) = 2 ^ 4 * (s / 2 ^ 4) by omega, Nat.testBit_two_pow_mul, show s % 16 = s % 2 ^ 4 by omega, Nat.testBit_mod_two_pow, Nat.testBit_div_two_pow]
    by_cases hi : i < 4
    · have h2 : ¬ 4 ≤ i := by omega
      simp [hi, h2]
    · have h2 : 4 ≤ i := by omega
      have h3 : i - 4 + 4 = i := by omega
      simp [hi, h2, h3]
  have ev : ∀ n, crcF (2 * n) = n := by intro n; unfold crcF; simp
  have e16 : ∀ q, crcF (crcF (crcF (crcF (16 * q)))) = q := by
    intro q
    rw [show 16 * q = 2 * (2 * (2 * (2 * q))) by omega, ev, ev, ev, ev]
  have er : ∀ r, r < 16 → crcF (crcF (crcF (crcF r))) = (tabZ.getD r 0).toNat := by decide
  rw [e, crcF_xor, crcF_xor, crcF_xor, crcF_xor, e16, er _ (by omega), ← e]

theorem tabZ_bd (r : Nat) : 0 ≤ tabZ.getD r 0 ∧ tabZ.getD r 0 < 4294967296 := by
  rcases Nat.lt_or_ge r 16 with h | h
  · have : ∀ r, r < 16 → 0 ≤ tabZ.getD r 0 ∧ tabZ.getD r 0 < 4294967296 := by decide
    exact this r h
  · have e : tabZ.getD r 0 = 0 := by simp [List.getD, List.getElem?_eq_none (show tabZ.length ≤ r from h)]
    omega
theorem fourZ_nat (s : Nat) (h : s < 4294967296) : fourZ (s : Int) = ((crcF (crcF (crcF (crcF s))) : Nat) : Int) := by
  unfold fourZ
  have e : ((s : Int) % 16).toNat = s % 16 := by omega
  have hb := tabZ_bd (s % 16)
  rw [e, crcF4, u32_xor _ _ (by omega) (by omega) hb.1 hb.2]
  congr 2
theorem crcF_lt (c : Nat) (h : c < 4294967296) : crcF c < 4294967296 := by
  unfold crcF
  have h1 : c / 2 < 2 ^ 32 := by omega
  have h2 : (if c % 2 = 1 then 3988292384 else 0) < 2 ^ 32 := by split <;> decide
  exact Nat.xor_lt_two_pow h1 h2
theorem crcSs_lt (c x : Nat) (h : c < 4294967296) : ∀ j, crcSs c x j < 4294967296
  | 0 => h
  | j + 1 => by
    have h1 : crcSs c x j / 2 < 2 ^ 32 := by have := crcSs_lt c x h j; omega
    have h2 : (if (crcSs c x j + x / 2 ^ j) % 2 = 1 then 3988292384 else 0) < 2 ^ 32 := by split <;> decide
    exact Nat.xor_lt_two_pow h1 h2
/-- Eight steps are what the codec makes of a byte. -/
theorem byteZ_nat (c x : Nat) (hc : c < 4294967296) (hx : x < 256) : byteZ (c : Int) (x : Int) = ((crcSs c x 8 : Nat) : Int) := by
  have h8 := crcSs_xor c x 8
  rw [show x / 2 ^ 8 = 0 by omega, Nat.xor_zero] at h8
  have hcx : c ^^^ x < 4294967296 := Nat.xor_lt_two_pow (n := 32) hc (by omega)
  unfold byteZ
  rw [u32_xor_nat c x hc (by omega), fourZ_nat _ hcx, fourZ_nat _ (crcF_lt _ (crcF_lt _ (crcF_lt _ (crcF_lt _ hcx)))), h8]
  rfl
theorem bit_text (c x k : Nat) (hc : c < 4294967296) (hx : x < 256) : bits BinOp.and IntKind.u32 (bits BinOp.xor IntKind.u32 (c : Int) ((x : Int) / 2 ^ k)) 1 = (((c + x / 2 ^ k) % 2 : Nat) : Int) := by
  have hk : x / 2 ^ k < 4294967296 := Nat.lt_of_le_of_lt (Nat.div_le_self _ _) (by omega)
  have e : (x : Int) / 2 ^ k = ((x / 2 ^ k : Nat) : Int) := by simp
  have hx2 : c ^^^ x / 2 ^ k < 4294967296 := Nat.xor_lt_two_pow (n := 32) hc hk
  rw [e, u32_xor_nat c _ hc hk]
  have h := u32_and_nat (c ^^^ x / 2 ^ k) 1 hx2 (by omega)
  rw [Nat.and_one_is_mod, xor_par] at h
  exact h
theorem bit_text2 (c x k : Nat) (hc : c < 4294967296) (hx : x < 256) : bits BinOp.and IntKind.u32 (bits BinOp.xor IntKind.u32 (c : Int) ((x : Int) / 2 ^ k % 4294967296)) 1 = (((c + x / 2 ^ k) % 2 : Nat) : Int) := by
  have hk : x / 2 ^ k < 4294967296 := Nat.lt_of_le_of_lt (Nat.div_le_self _ _) (by omega)
  have e : (x : Int) / 2 ^ k = ((x / 2 ^ k : Nat) : Int) := by simp
  have e2 : (x : Int) / 2 ^ k % 4294967296 = (x : Int) / 2 ^ k := by rw [e]; generalize x / 2 ^ k = q at hk ⊢; omega
  rw [e2]
  exact bit_text c x k hc hx
theorem crcS_yes (c x k : Nat) (hc : c < 4294967296) (h : (c + x / 2 ^ k) % 2 = 1) : bits BinOp.xor IntKind.u32 ((c : Int) / 2) 3988292384 = ((crcS c x k : Nat) : Int) := by
  unfold crcS
  rw [if_pos h]
  have e := u32_xor_nat (c / 2) 3988292384 (by omega) (by omega)
  have e2 : ((c / 2 : Nat) : Int) = (c : Int) / 2 := by simp
  rw [← e, e2]
  rfl
theorem crcS_no (c x k : Nat) (h : (c + x / 2 ^ k) % 2 = 0) : (c : Int) / 2 = ((crcS c x k : Nat) : Int) := by
  unfold crcS
  rw [if_neg (by omega), Nat.xor_zero]
  simp

/-! ### Words. -/
/-- The number that bytes are, the greatest first. -/
def wordL (l : List UInt8) : Nat := l.foldl (fun w b => w * 256 + b.toNat) 0
theorem or_byte (a x : Nat) (ha : a < 16777216) (hx : x < 256) : bits BinOp.or IntKind.u32 ((a : Int) * 256) (x : Int) = ((a * 256 + x : Nat) : Int) := by
  have e : (a : Int) * 256 = ((a * 256 : Nat) : Int) := by simp
  rw [e, u32_or_nat (a * 256) x (by omega) (by omega)]
  have h := Nat.two_pow_add_eq_or_of_lt (i := 8) (b := x) (by omega) a
  rw [show 2 ^ 8 * a = a * 256 by omega] at h
  rw [h]
theorem wordL_four (x : Nat) (h : x < 4294967296) : wordL (fourL x) = x := by
  simp [wordL, fourL]
  omega
theorem wordL_lt (l : List UInt8) (h : l.length ≤ 4) : wordL l < 4294967296 := by
  have hb : ∀ b : UInt8, b.toNat < 256 := fun b => b.toNat_lt
  match l, h with
  | [], _ => decide
  | [a], _ => have := hb a; simp [wordL]; omega
  | [a, b], _ => have := hb a; have := hb b; simp [wordL]; omega
  | [a, b, c], _ => have := hb a; have := hb b; have := hb c; simp [wordL]; omega
  | [a, b, c, d], _ => have := hb a; have := hb b; have := hb c; have := hb d; simp [wordL]; omega
theorem wordL_lt3 (l : List UInt8) (h : l.length ≤ 3) : wordL l < 16777216 := by
  have hb : ∀ b : UInt8, b.toNat < 256 := fun b => b.toNat_lt
  match l, h with
  | [], _ => decide
  | [a], _ => have := hb a; simp [wordL]; omega
  | [a, b], _ => have := hb a; have := hb b; simp [wordL]; omega
  | [a, b, c], _ => have := hb a; have := hb b; have := hb c; simp [wordL]; omega
/-- What lies above, and what lies below, a bit. -/
theorem or_at (p q k : Nat) (hk : q < 2 ^ k) (hp : 2 ^ k * p + q < 4294967296) : bits BinOp.or IntKind.u32 ((2 ^ k * p : Nat) : Int) (q : Int) = ((2 ^ k * p + q : Nat) : Int) := by
  rw [u32_or_nat _ _ (by omega) (by omega), ← Nat.two_pow_add_eq_or_of_lt hk p]
theorem fourth_text (a b c d : Nat) (ha : a < 256) (hb : b < 256) (hc : c < 256) (hd : d < 256) :
    bits BinOp.or IntKind.u32 (bits BinOp.or IntKind.u32 (bits BinOp.or IntKind.u32 ((a : Int) * 16777216) ((b : Int) * 65536)) ((c : Int) * 256)) (d : Int) = (a : Int) * 16777216 + (b : Int) * 65536 + (c : Int) * 256 + (d : Int) := by
  have h1 := or_at a (b * 65536) 24 (by omega) (by omega)
  have h2 := or_at (a * 256 + b) (c * 256) 16 (by omega) (by omega)
  have h3 := or_at (a * 65536 + b * 256 + c) d 8 (by omega) (by omega)
  rw [show ((2 ^ 24 * a : Nat) : Int) = (a : Int) * 16777216 by omega, show ((b * 65536 : Nat) : Int) = (b : Int) * 65536 by omega] at h1
  rw [h1]
  rw [show ((c * 256 : Nat) : Int) = (c : Int) * 256 by omega] at h2
  rw [show ((2 ^ 24 * a + b * 65536 : Nat) : Int) = ((2 ^ 16 * (a * 256 + b) : Nat) : Int) by omega, h2]
  rw [show ((2 ^ 16 * (a * 256 + b) + c * 256 : Nat) : Int) = ((2 ^ 8 * (a * 65536 + b * 256 + c) : Nat) : Int) by omega, h3]
  omega
end Go.Proofs.YtabkgcmlfabmgaaGreatDoor
namespace Go.Proofs.YtabkgcmlfabmgaaGreatDoor
open Go.RowKit

set_option maxRecDepth 100000 in
set_option maxHeartbeats 1600000 in
theorem refSum_any (ao : Option Addr) (l : List UInt8) (cap : Nat) (w : World) (hs : Sees w ao l) (hl : l.length ≤ 140737488354000) :
    Calls Tryz.prog 83 #[.slice ao l.length cap] w fun e w' => e = .returned (.int .u32 (sumZ l)) ∧ w' = w := by
  have hn : ∀ a : Int, 0 ≤ a → a ≤ 4294967295 → bits BinOp.xor IntKind.u32 a 4294967295 = 4294967295 - a := fun a h0 h1 => by
    have := not_u32 a h0 h1
    rw [← this, u32_xor _ _ (by omega) (by omega) (by omega) (by omega)]
    show _ = bits BinOp.xor IntKind.u32 4294967295 a
    rw [u32_xor _ _ (by omega) (by omega) (by omega) (by omega), Nat.xor_comm]
  have Hn : Hid _ := hn
  clear hn
  go_enter Tryz.func83, Tryz.ntmps83
  go_wp2
  go_loop [3, 10] (fun t i => ∃ k : Nat, k ≤ l.length ∧ i = .int .i64 k ∧ t = .int .u32 (sumOnZ 4294967295 (l.take k))) (fun _ i => l.length - (intOf i).toNat)
  case atStart => exact ⟨0, Nat.zero_le _, rfl, rfl⟩
  case round =>
    obtain ⟨k, hk, rfl, rfl⟩ := hrel
    have hbd := sumOnZ_bd 4294967295 (l.take k) ⟨by decide, by decide⟩
    by_cases hlt : k < l.length
    · have hst : Hid (sumOnZ 4294967295 (l.take (k + 1)) = byteZ (sumOnZ 4294967295 (l.take k)) ((l.getD k 0).toNat : Int)) := sumOnZ_take 4294967295 l k hlt
      obtain ⟨b, off, rfl, hc⟩ := sees_at hs hlt
      have hx := (l.getD k 0).toNat_lt
      generalize hS : sumOnZ 4294967295 (l.take k) = S at *
      generalize (l.getD k 0).toNat = x at *
      clear hS
      obtain ⟨c, rfl⟩ := Int.eq_ofNat_of_zero_le hbd.1
      have hcl : c < 4294967296 := by omega
      have Hfin : Hid (sumOnZ 4294967295 (l.take (k + 1)) = ((crcSs c x 8 : Nat) : Int)) := hst.out.trans (byteZ_nat c x hcl (by omega))
      have Hs : Hid _ := hs
      clear hst hs
      go_wp2
      go_loop [3, 6] (fun t i => ∃ j : Nat, j ≤ 8 ∧ i = .int .i64 j ∧ t = .int .u32 (crcSs c x j)) (fun _ i => 8 - (intOf i).toNat)
      case atStart => exact ⟨0, Nat.zero_le _, rfl, rfl⟩
      case round =>
        obtain ⟨j, hj, rfl, rfl⟩ := hrel
        have hd := crcSs_lt c x hcl j
        by_cases hj8 : j < 8
        · have hbt := bit_text2 (crcSs c x j) x j hd (by omega)
          have Hstep : Hid (crcSs c x (j + 1) = crcS (crcSs c x j) x j) := rfl
          generalize crcSs c x j = d at *
          rcases Nat.mod_two_eq_zero_or_one (d + x / 2 ^ j) with h2 | h2
          · have Hno : Hid _ := crcS_no d x j h2
            rw [h2] at hbt
            clear h2
            go_wp2
            go_round
            case rel => exact ⟨j + 1, by omega, by go_num, by rw [Hstep.out, ← Hno.out]⟩
            case measure => simp [intOf]; omega
          · have Hyes : Hid _ := crcS_yes d x j hd h2
            rw [h2] at hbt
            clear h2
            go_wp2
            go_round
            case rel => exact ⟨j + 1, by omega, by go_num, by rw [Hstep.out, ← Hyes.out]⟩
            case measure => simp [intOf]; omega
        · obtain rfl : j = 8 := by omega
          go_wp2
          go_round
          case rel => exact ⟨k + 1, by omega, by go_num, by rw [Hfin.out]⟩
          case measure => simp [intOf]; omega
    · go_wp2
      go_ret
      refine ⟨ret_int ?_, rfl⟩
      rw [Hn.out _ hbd.1 hbd.2, List.take_of_length_le (by omega)]
      rfl

theorem four_any (x : Nat) (w : World) (hx : x < 4294967296) :
    Calls Tryz.prog 82 #[.int .u32 x] w fun e w' => e = .returned (.slice (some ⟨w.heap.size, 0, none⟩) 4 4) ∧ w' = w.alloc (.cells (B8 (fourL x)).toArray 5) := by
  have h0 : B8 (fourL x) = [.int .u8 ((x : Int) / 16777216), .int .u8 ((x : Int) / 65536 % 256), .int .u8 ((x : Int) / 256 % 256), .int .u8 ((x : Int) % 256)] := by
    simp [B8, fourL]
    omega
  rw [h0]
  clear h0
  go_enter Tryz.func82, Tryz.ntmps82
  go_wp2
  go_ret
  exact ⟨rfl, rfl⟩

set_option maxRecDepth 100000 in
set_option maxHeartbeats 800000 in
theorem word_any (b off n cap : Nat) (h4 : List UInt8) (w : World) (hn : 4 ≤ n) (hnm : n ≤ 140737488355328) (hl : h4.length = 4) (hs : Sees w (some ⟨b, off, none⟩) h4) :
    Calls Tryz.prog 149 #[.slice (some ⟨b, off, none⟩) n cap] w fun e w' => e = .returned (.int .u32 (wordL h4)) ∧ w' = w := by
  go_enter Tryz.func149, Tryz.ntmps149
  go_wp2
  go_loop [3, 5] (fun t i => ∃ k : Nat, k ≤ 4 ∧ i = .int .i64 k ∧ t = .int .u32 (wordL (h4.take k))) (fun _ i => 4 - (intOf i).toNat)
  case atStart => exact ⟨0, Nat.zero_le _, rfl, rfl⟩
  case round =>
    obtain ⟨k, hk, rfl, rfl⟩ := hrel
    by_cases hlt : k < 4
    · obtain ⟨b', off', e, hc⟩ := sees_at hs (n := k) (by omega)
      cases e
      have hst : Hid (wordL (h4.take (k + 1)) = wordL (h4.take k) * 256 + (h4.getD k 0).toNat) := by
        show _ = _
        rw [take_snoc h4 k (by omega)]
        unfold wordL
        rw [List.foldl_append]
        rfl
      have hw : wordL (h4.take k) < 16777216 := wordL_lt3 _ (by simp; omega)
      have hx := (h4.getD k 0).toNat_lt
      have Hor : Hid _ := or_byte (wordL (h4.take k)) (h4.getD k 0).toNat hw hx
      generalize wordL (h4.take k) = a at *
      generalize (h4.getD k 0).toNat = x at *
      go_wp2
      go_round
      case rel => exact ⟨k + 1, by omega, by go_num, by rw [hst.out, ← Hor.out]⟩
      case measure => simp [intOf]; omega
    · go_wp2
      go_ret
      exact ⟨ret_int (by rw [List.take_of_length_le (by omega)]), rfl⟩

set_option maxRecDepth 100000 in
set_option maxHeartbeats 800000 in
theorem fourth_any (b off n cap : Nat) (h4 : List UInt8) (w : World) (hn : 4 ≤ n) (hnm : n ≤ 140737488355328) (hl : h4.length = 4) (hs : Sees w (some ⟨b, off, none⟩) h4) :
    Calls Tryz.prog 86 #[.slice (some ⟨b, off, none⟩) n cap] w fun e w' => e = .returned (.int .u32 (wordL h4)) ∧ ∃ k, w' = w.drewN k := by
  match h4, hl with
  | [a, b1, c, d], _ =>
    obtain ⟨b', off', e, c0⟩ := sees_at hs (n := 0) (by simp)
    cases e
    obtain ⟨b', off', e, c1⟩ := sees_at hs (n := 1) (by simp)
    cases e
    obtain ⟨b', off', e, c2⟩ := sees_at hs (n := 2) (by simp)
    cases e
    obtain ⟨b', off', e, c3⟩ := sees_at hs (n := 3) (by simp)
    cases e
    simp only [List.getD_cons_zero, List.getD_cons_succ, Nat.add_zero] at c0 c1 c2 c3
    have Hw : Hid (((wordL [a, b1, c, d] : Nat) : Int) = (a.toNat : Int) * 16777216 + (b1.toNat : Int) * 65536 + (c.toNat : Int) * 256 + (d.toNat : Int)) := by
      show _ = _
      simp [wordL]
      omega
    have ha := a.toNat_lt
    have hb := b1.toNat_lt
    have hcc := c.toNat_lt
    have hd := d.toNat_lt
    clear hs
    go_enter Tryz.func86, Tryz.ntmps86
    go_wp2
    go_quiet (fail)
    go_wp2
    go_ret
    refine ⟨ret_int ?_, nq, rfl⟩
    rw [Hw.out]
    exact fourth_text _ _ _ _ ha hb hcc hd
end Go.Proofs.YtabkgcmlfabmgaaGreatDoor
namespace Go.Proofs.YtabkgcmlfabmgaaGreatDoor
open Go.RowKit

theorem conv_zero (w : World) (ao : Option Addr) (c : Nat) : (convert 23 9 (.slice ao 0 c)).run Tryz.prog w = .ok (.string ⟨#[]⟩) w := by
  have := conv_sees (w := w) (ao := ao) (l := []) (Sees.nil _ _) (fun _ => rfl) c
  exact this

theorem sees_cut {w : World} {b off : Nat} {l : List UInt8} (h : Sees w (some ⟨b, off, none⟩) l) (m v : Nat) (hv : m + v ≤ l.length) : Sees w (some ⟨b, off + m, none⟩) ((l.drop m).take v) := by
  intro i hi
  rw [List.length_take, List.length_drop] at hi
  obtain ⟨a, e, hc⟩ := h (m + i) (by omega)
  obtain rfl := Option.some.inj e
  refine ⟨_, rfl, ?_⟩
  rw [Addr.add_lit] at hc ⊢
  rw [Nat.add_assoc, hc]
  have : i < v := by omega
  simp [List.getD, this]

set_option maxRecDepth 100000 in
set_option maxHeartbeats 800000 in
theorem text_ok (R : Nat) (ao : Option Addr) (l : List UInt8) (cap n : Nat) (w : World) (s r : List UInt8) (h : Rd w R ao l cap n) (hcap : l.length ≤ cap) (hg : textN (l.drop n) = some (s, r)) :
    Calls Tryz.prog 207 #[.pointer (some ⟨R, 0, none⟩)] w fun e w' => e = .returned (.string ⟨s.toArray⟩) ∧ ∃ m, Rd w' R ao l cap m ∧ l.drop m = r ∧ n < m ∧ w.grownBy w' (some R) := by
  obtain ⟨v, r1, hg1, hv, hs, hr⟩ := textN_some hg
  have hvb := (get_bd hg1).1
  have Hc : Hid _ := number_ok R ao l cap n w v r1 h hg1
  have hvi : (v : Int) ≤ 18446744073709551615 := by omega
  have hll := h.max
  clear hg hg1 hvb h
  go_enter Tryz.func207, Tryz.ntmps207
  go_wp2_with fail
  refine Calls.mono (Hid.out Hc) ?_
  rintro e w1 ⟨rfl, m, hR1, hd, hm, hg1⟩
  have c0 := hR1.c0
  have c1 := hR1.c1
  have f1 := hR1.f1
  have hle := hR1.le
  have hvl : v + m ≤ l.length := by
    have := congrArg List.length hd
    rw [List.length_drop] at this
    omega
  have Hs : Hid (((l.drop m).take v) = s) := by rw [hd]; exact hs
  have Hr : Hid (l.drop (v + m) = r) := by show _ = _; rw [Nat.add_comm, ← List.drop_drop, hd]; exact hr
  clear hs hr hd Hc hv
  go_wp2_with fail
  go_quiet (fail)
  go_wp2_with fail
  have hR2 : Rd ((w1.drewN nq).setCell ⟨R, 1, none⟩ (.int .i64 ((m : Int) + (v : Int)))) R ao l cap (v + m) := (hR1.drewN nq).set (by omega) _ (by omega)
  have hg2 : w.grownBy ((w1.drewN nq).setCell ⟨R, 1, none⟩ (.int .i64 ((m : Int) + (v : Int)))) (some R) := grownBy_setCell (grownBy_drewN hg1 nq)
  generalize (w1.drewN nq).setCell ⟨R, 1, none⟩ (.int .i64 ((m : Int) + (v : Int))) = W2 at *
  have d0 := hR2.c0
  have d1 := hR2.c1
  clear c0 c1 f1 hR1 hg1
  by_cases hv0 : v = 0
  · subst hv0
    have hcv := conv_zero
    by_cases hcm : cap = m
    · subst hcm
      go_quiet (fail)
      go_wp2
      go_ret
      exact ⟨by rw [← Hs.out]; rfl, cap, by simpa using hR2.drewN nq, by simpa using Hr.out, hm, grownBy_drewN hg2 _⟩
    · go_quiet (fail)
      all_goals go_wp2
      all_goals go_ret
      all_goals exact ⟨by rw [← Hs.out]; rfl, m, by simpa using hR2.drewN nq, by simpa using Hr.out, hm, grownBy_drewN hg2 _⟩
  · obtain ⟨b, off, rfl, hc⟩ := sees_at hR2.sees (n := m) (by omega)
    have hsl := sees_cut hR2.sees m v (by omega)
    have hcv := fun k : Nat => conv_sees (w := W2.drewN k) hsl (fun h => by cases h) (cap - m)
    have hlen : ((l.drop m).take v).length = v := by simp; omega
    rw [hlen] at hcv
    rw [Hs.out] at hcv
    have hcm : ¬ cap = m := by omega
    clear hsl hc hlen
    go_quiet (fail)
    go_wp2
    go_ret
    exact ⟨rfl, v + m, hR2.drewN nq, Hr.out, by omega, grownBy_drewN hg2 _⟩

theorem err_grown {w w' : World} {u : TypeId} {pv : Value} {R : Nat} (he : Err w u pv) (hg : w.grownBy w' (some R)) (hER : R ≠ 3) : Err w' u pv := by
  unfold Err at he ⊢
  rw [World.cell?_of_block (hg.block _ (World.block_lt_of_cell? _ _ he) (fun e => hER (Option.some.inj e).symm)), he]

set_option maxRecDepth 100000 in
set_option maxHeartbeats 800000 in
theorem text_no (R : Nat) (ao : Option Addr) (l : List UInt8) (cap n : Nat) (w : World) (u : TypeId) (pv : Value) (h : Rd w R ao l cap n) (hg : textN (l.drop n) = none) (he : Err w u pv) (hER : R ≠ 3) :
    Calls Tryz.prog 207 #[.pointer (some ⟨R, 0, none⟩)] w fun e w' => e = .panicked [{ v := .iface u pv, recovered := false }] ∧ ∃ m, Rd w' R ao l cap m ∧ w.grownBy w' (some R) := by
  rcases textN_none hg with hg0 | ⟨v, r1, hg1, hv⟩
  · have Hc : Hid _ := number_no R ao l cap n w u pv h hg0 he hER
    clear hg hg0
    go_enter Tryz.func207, Tryz.ntmps207
    go_wp2_with fail
    refine Calls.mono (Hid.out Hc) ?_
    rintro e w1 ⟨rfl, m, hR1, hg1⟩
    go_wp2_with fail
    exact ⟨rfl, rfl, m, hR1, hg1⟩
  · have hvb := (get_bd hg1).1
    have Hc : Hid _ := number_ok R ao l cap n w v r1 h hg1
    have hvi : (v : Int) ≤ 18446744073709551615 := by omega
    have hll := h.max
    clear hg hg1 hvb h
    go_enter Tryz.func207, Tryz.ntmps207
    go_wp2_with fail
    refine Calls.mono (Hid.out Hc) ?_
    rintro e w1 ⟨rfl, m, hR1, hd, hm, hg1⟩
    have c0 := hR1.c0
    have c1 := hR1.c1
    have hle := hR1.le
    have hvl : l.length < v + m := by
      have := congrArg List.length hd
      rw [List.length_drop] at this
      omega
    have he1 := err_grown he hg1 hER
    unfold Err at he1
    clear hd Hc hv
    go_wp2_with fail
    go_quiet (fail)
    go_wp2_with fail
    exact ⟨rfl, rfl, m, hR1.drewN _, grownBy_drewN hg1 _⟩
end Go.Proofs.YtabkgcmlfabmgaaGreatDoor
namespace Go.Proofs.YtabkgcmlfabmgaaGreatDoor
open Go.RowKit

/-- The count, the error, how many bytes, and the content of the frame that bytes begin with. -/
def unfC (l : List UInt8) : Nat := wordL (l.take 4)
def unfE (l : List UInt8) : Nat :=
  if l.length < 8 then 10 else if 262144 < unfC l then 6 else if l.length < 8 + unfC l then 10
  else if (wordL ((l.drop 4).take 4) : Int) ≠ sumZ (l.take 4 ++ (l.drop 8).take (unfC l)) then 8 else 0
def unfN (l : List UInt8) : Nat := if unfE l = 0 then 8 + unfC l else 0
def unfB (l : List UInt8) : List UInt8 := if unfE l = 0 then (l.drop 8).take (unfC l) else []
theorem unf_bad (l : List UInt8) {e : Nat} (h : unfE l = e) (he : e ≠ 0) : unfN l = 0 ∧ unfB l = [] := by
  unfold unfN unfB
  rw [if_neg (by omega), if_neg (by omega)]
  exact ⟨rfl, rfl⟩

theorem sees_take {w : World} {b off : Nat} {l : List UInt8} (h : Sees w (some ⟨b, off, none⟩) l) (v : Nat) (hv : v ≤ l.length) : Sees w (some ⟨b, off, none⟩) (l.take v) := by
  have := sees_cut h 0 v (by omega)
  simpa using this

set_option maxRecDepth 100000 in
set_option maxHeartbeats 1600000 in
theorem unframe_any (ao : Option Addr) (l : List UInt8) (cap : Nat) (w : World) (hs : Sees w ao l) (hl : l.length ≤ 140737488354000) (hcap : l.length ≤ cap) (hcm : cap ≤ 9223372036854775807) (ht : Tab w) :
    Calls Tryz.prog 119 #[.slice ao l.length cap] w fun e w' => ∃ v', e = .returned (.tuple #[v', .int .i64 (unfN l), .int .i64 (unfE l)]) ∧ w'.ownsRow w.heap.size 5 1 v' (unfB l).length (B8 (unfB l)) ∧ Below w.heap.size w w' := by
  by_cases h8 : l.length < 8
  · have hE : unfE l = 10 := by unfold unfE; rw [if_pos h8]
    obtain ⟨hN, hB⟩ := unf_bad l hE (by decide)
    rw [hE, hN, hB]
    clear hE hN hB
    go_enter Tryz.func119, Tryz.ntmps119
    go_wp2
    go_ret3
    exact ⟨_, rfl, World.ownsRow_nil _ _ _ _, Below.refl _ _⟩
  obtain ⟨b, off, rfl, _⟩ := sees_at hs (n := 0) (by omega)
  have Hw1 : Hid _ := word_any b off l.length cap (l.take 4) w (by omega) (by omega) (by simp; omega) (sees_take hs 4 (by omega))
  have hC4 : unfC l < 4294967296 := wordL_lt _ (by simp; omega)
  by_cases hbig : 262144 < unfC l
  · have hE : unfE l = 6 := by unfold unfE; rw [if_neg h8, if_pos hbig]
    obtain ⟨hN, hB⟩ := unf_bad l hE (by decide)
    rw [hE, hN, hB]
    clear hE hN hB
    have e : wordL (l.take 4) = unfC l := rfl
    rw [e] at Hw1
    clear e
    generalize unfC l = C at *
    go_enter Tryz.func119, Tryz.ntmps119
    go_wp2_with fail
    refine Calls.mono (Hid.out Hw1) ?_
    rintro e w' ⟨rfl, rfl⟩
    go_wp2_with fail
    go_ret3
    exact ⟨_, rfl, World.ownsRow_nil _ _ _ _, Below.refl _ _⟩
  by_cases hshort : l.length < 8 + unfC l
  · have hE : unfE l = 10 := by unfold unfE; rw [if_neg h8, if_neg hbig, if_pos hshort]
    obtain ⟨hN, hB⟩ := unf_bad l hE (by decide)
    rw [hE, hN, hB]
    clear hE hN hB
    have e : wordL (l.take 4) = unfC l := rfl
    rw [e] at Hw1
    clear e
    generalize unfC l = C at *
    go_enter Tryz.func119, Tryz.ntmps119
    go_wp2_with fail
    refine Calls.mono (Hid.out Hw1) ?_
    rintro e w' ⟨rfl, rfl⟩
    go_wp2_with fail
    go_ret3
    exact ⟨_, rfl, World.ownsRow_nil _ _ _ _, Below.refl _ _⟩
  have Hw2 : Hid _ := word_any b (off + 4) (l.length - 4) (cap - 4) ((l.drop 4).take 4) w (by omega) (by omega) (by simp; omega) (sees_cut hs 4 4 (by omega))
  obtain ⟨S, hS⟩ : ∃ S, sumZ (l.take 4 ++ (l.drop 8).take (unfC l)) = S := ⟨_, rfl⟩
  obtain ⟨co, hco, hcs, hcn, hcc⟩ : ∃ co : Option Addr, (cap = 8 → co = some ⟨b, off, none⟩) ∧ Sees w co ((l.drop 8).take (unfC l)) ∧ (co = none → ((l.drop 8).take (unfC l)).length = 0) ∧ (cap ≠ 8 → co = some ⟨b, off + 8, none⟩) := by
    by_cases hc8 : cap = 8
    · have h0 : unfC l = 0 := by omega
      refine ⟨some ⟨b, off, none⟩, fun _ => rfl, ?_, (fun h => by cases h), fun h => absurd hc8 h⟩
      rw [h0]
      exact Sees.nil _ _
    · exact ⟨some ⟨b, off + 8, none⟩, fun h => absurd h hc8, sees_cut hs 8 _ (by omega), (fun h => by cases h), fun _ => rfl⟩
  have hclen : ((l.drop 8).take (unfC l)).length = unfC l := by simp; omega
  have Hfs : Hid _ := frameSum_any b off l.length cap (l.take 4) co ((l.drop 8).take (unfC l)) (cap - 8) w (by omega) hcap (by omega) (by simp; omega) (sees_take hs 4 (by omega)) hcs (by omega) ht
  have Hcp : Hid _ := copyWithRoom_any co ((l.drop 8).take (unfC l)) (cap - 8) 0 w hcs hcn (by omega)
  rw [hclen] at Hfs Hcp
  rw [hS] at Hfs
  have e4 : wordL (l.take 4) = unfC l := rfl
  rw [e4] at Hw1
  have hWl : wordL ((l.drop 4).take 4) < 4294967296 := wordL_lt _ (by simp; omega)
  obtain ⟨V, hV⟩ : ∃ V, wordL ((l.drop 4).take 4) = V := ⟨_, rfl⟩
  rw [hV] at Hw2 hWl
  by_cases hne : (V : Int) ≠ S
  · have hE : unfE l = 8 := by unfold unfE; rw [if_neg h8, if_neg hbig, if_neg hshort, if_pos (by rw [hV, hS]; exact hne)]
    obtain ⟨hN, hB⟩ := unf_bad l hE (by decide)
    rw [hE, hN, hB]
    have hneb : ((V : Int) != S) = true := by simpa using hne
    clear hE hN hB e4 hV hS hclen Hcp hcn hcs hne
    generalize unfC l = C at *
    by_cases hc8 : cap = 8
    · obtain rfl := hco hc8
      obtain rfl : C = 0 := by omega
      subst hc8
      clear hco hcc
      go_enter Tryz.func119, Tryz.ntmps119
      go_wp2_with fail
      refine Calls.mono (Hid.out Hw1) ?_
      rintro e w' ⟨rfl, rfl⟩
      go_wp2_with fail
      refine Calls.mono (Hid.out Hw2) ?_
      rintro e w' ⟨rfl, rfl⟩
      go_wp2_with fail
      refine Calls.mono (Hid.out Hfs) ?_
      rintro e w' ⟨rfl, rfl⟩
      go_wp2_with fail
      go_ret3
      exact ⟨_, rfl, World.ownsRow_nil _ _ _ _, Below.refl _ _⟩
    · obtain rfl := hcc hc8
      clear hco hcc
      go_enter Tryz.func119, Tryz.ntmps119
      go_wp2_with fail
      refine Calls.mono (Hid.out Hw1) ?_
      rintro e w' ⟨rfl, rfl⟩
      go_wp2_with fail
      refine Calls.mono (Hid.out Hw2) ?_
      rintro e w' ⟨rfl, rfl⟩
      go_wp2_with fail
      refine Calls.mono (Hid.out Hfs) ?_
      rintro e w' ⟨rfl, rfl⟩
      go_wp2_with fail
      go_ret3
      exact ⟨_, rfl, World.ownsRow_nil _ _ _ _, Below.refl _ _⟩
  · obtain rfl : (V : Int) = S := by omega
    have hE : unfE l = 0 := by unfold unfE; rw [if_neg h8, if_neg hbig, if_neg hshort, if_neg (by rw [hV, hS]; exact hne)]
    have hN : unfN l = 8 + unfC l := by unfold unfN; rw [if_pos hE]
    have hB : unfB l = (l.drop 8).take (unfC l) := by unfold unfB; rw [if_pos hE]
    rw [hE, hN, hB, hclen]
    have hneb : ((V : Int) != (V : Int)) = false := by simp
    clear hE hN hB e4 hV hS hclen hcn hcs hne
    generalize (l.drop 8).take (unfC l) = D at *
    generalize unfC l = C at *
    by_cases hc8 : cap = 8
    · obtain rfl := hco hc8
      obtain rfl : C = 0 := by omega
      subst hc8
      clear hco hcc
      go_enter Tryz.func119, Tryz.ntmps119
      go_wp2_with fail
      refine Calls.mono (Hid.out Hw1) ?_
      rintro e w' ⟨rfl, rfl⟩
      go_wp2_with fail
      refine Calls.mono (Hid.out Hw2) ?_
      rintro e w' ⟨rfl, rfl⟩
      go_wp2_with fail
      refine Calls.mono (Hid.out Hfs) ?_
      rintro e w' ⟨rfl, rfl⟩
      go_wp2_with fail
      refine Calls.mono (Hid.out Hcp) ?_
      rintro e w1 ⟨v1, rfl, ho1, hb1⟩
      go_wp2_with fail
      go_ret3
      exact ⟨_, rfl, ho1, hb1⟩
    · obtain rfl := hcc hc8
      clear hco hcc
      go_enter Tryz.func119, Tryz.ntmps119
      go_wp2_with fail
      refine Calls.mono (Hid.out Hw1) ?_
      rintro e w' ⟨rfl, rfl⟩
      go_wp2_with fail
      refine Calls.mono (Hid.out Hw2) ?_
      rintro e w' ⟨rfl, rfl⟩
      go_wp2_with fail
      refine Calls.mono (Hid.out Hfs) ?_
      rintro e w' ⟨rfl, rfl⟩
      go_wp2_with fail
      refine Calls.mono (Hid.out Hcp) ?_
      rintro e w1 ⟨v1, rfl, ho1, hb1⟩
      go_wp2_with fail
      go_ret3
      exact ⟨_, rfl, ho1, hb1⟩
end Go.Proofs.YtabkgcmlfabmgaaGreatDoor
namespace Go.Proofs.YtabkgcmlfabmgaaGreatDoor
open Go.RowKit

theorem refFrame_long (ao : Option Addr) (n cap : Nat) (w : World) (h : 262144 < n) (hn : n ≤ 140737488355328) :
    Calls Tryz.prog 42 #[.slice ao n cap] w fun e w' => e = .returned (.slice none 0 0) ∧ w' = w := by
  go_enter Tryz.func42, Tryz.ntmps42
  go_wp2
  go_ret
  exact ⟨rfl, rfl⟩

/-- A row that was just laid. -/
theorem owns_lit (w : World) (l : List UInt8) (base : Nat) (hb : base ≤ w.heap.size) (hm : l.length ≤ maxLen) : (w.alloc (.cells (B8 l).toArray 5)).ownsRow base 5 1 (.slice (some ⟨w.heap.size, 0, none⟩) l.length l.length) l.length (B8 l) := by
  have := World.ownsRow_lit (e := 5) (size := 1) w (B8 l).toArray l.length hb hm (by simp [B8_length])
  simpa using this
theorem src_owns {w : World} {base n : Nat} {l : List UInt8} {v : Value} (h : w.ownsRow base 5 1 v n (B8 l)) : Src Tryz.prog 1 23 v n (B8 l) w := by
  obtain ⟨ao, cap, rfl, hs, hl, hn⟩ := owns_sees h
  have := src_sees (P := Tryz.prog) Tryz.underlying23 hs (fun e => by have := (hn e).1; omega) cap
  rwa [hl] at this
theorem owns_grew {w w' : World} {base : Nat} {e : TypeId} {size : Nat} {v : Value} {n : Nat} {xs : List Value} (h : w.ownsRow base e size v n xs) {u u' : Value} (hg : Grew w w' u u') (hne : ∀ k, v.ownBlock = some k → u.ownBlock ≠ some k) : w'.ownsRow base e size v n xs :=
  owns_heap h fun k hk => hg.rows.block k (h.lt k hk).2 (fun e => hne k hk e.symm)

set_option maxRecDepth 100000 in
set_option maxHeartbeats 1600000 in
theorem refFrame_any (ao : Option Addr) (l : List UInt8) (cap : Nat) (w : World) (hl : l.length ≤ 262144) (hs : Sees w ao l) (hnone : ao = none → l.length = 0) :
    Calls Tryz.prog 42 #[.slice ao l.length cap] w fun e w' => ∃ v', e = .returned v' ∧ w'.ownsRow w.heap.size 5 1 v' (l.length + 8) (B8 (frameL l)) ∧ Below w.heap.size w w' := by
  obtain ⟨i0, hi, hz0, hz1, hz2⟩ := info_parts info8
  have Hnone : Hid _ := hnone
  clear hnone
  have Hf1 : Hid _ := four_any l.length w (by omega)
  have o1 := owns_lit w (fourL l.length) w.heap.size (Nat.le_refl _) (by rw [fourL_length]; decide)
  have b1 : Below w.heap.size w (w.alloc (.cells (B8 (fourL l.length)).toArray 5)) := (Below.refl _ _).alloc (Nat.le_refl _) _
  have z1 : w.heap.size + 1 ≤ (w.alloc (.cells (B8 (fourL l.length)).toArray 5)).heap.size := by rw [World.size_alloc]; omega
  go_enter Tryz.func42, Tryz.ntmps42
  go_wp2_with fail
  refine Calls.mono (Hid.out Hf1) ?_
  rintro e w1 ⟨rfl, hw1⟩
  rw [← hw1] at o1 b1 z1
  clear hw1 Hf1
  have n2 := owns_none w1
  have o2 := o1.alloc (.cells #[] 5)
  have s2 := src_owns o2
  have bs1 := hs.below b1 (Nat.le_refl _)
  go_wp2_with (first
    | ((with_reducible (show wpList _ _ _ (Oper.mk _ (Op.call ⟨Callee.builtin Builtin.append, #[.tmp 12, .tmp 13], _⟩) _ _ _ _ :: _) _ _)); go_must (refine wpList_append_grew _ rfl (.tmp 12) (.tmp 13) 23 23 rfl w1.heap.size 5 i0 (.int .u8 0) 1 1 Tryz.underlying23 hi hz0 hz1 hz2 rfl _ 0 _ rfl n2 _ 4 (B8 (fourL l.length)) rfl s2 (by unfold maxLen; omega) (by omega) (by rw [World.size_alloc]; omega) ?_; intro v3 w3 ho3 hg3; have bs3 := hs.below (b1.trans ((below_none hg3).mono (by omega))) (Nat.le_refl _); have s3 := src_sees (P := Tryz.prog) Tryz.underlying23 bs3 Hnone.out cap; have hw3 := (below_none hg3).size))
    | ((with_reducible (show wpList _ _ _ (Oper.mk _ (Op.call ⟨Callee.builtin Builtin.append, #[.tmp 14, .tmp 15], _⟩) _ _ _ _ :: _) _ _)); go_must (refine wpList_append_grew _ rfl (.tmp 14) (.tmp 15) 23 23 rfl w1.heap.size 5 i0 (.int .u8 0) 1 1 Tryz.underlying23 hi hz0 hz1 hz2 rfl _ (0 + 4) _ rfl ho3 _ l.length (B8 l) rfl s3 (by unfold maxLen; omega) (by omega) (by omega) ?_; intro v4 w4 ho4 hg4)))
  have ho4' : w4.ownsRow w1.heap.size 5 1 v4 (4 + l.length) (B8 (fourL l.length ++ l)) := by rw [B8_append]; simpa using ho4
  obtain ⟨ao4, cap4, rfl, s4, l4, n4⟩ := owns_sees ho4'
  have g4 := hg3.trans hg4
  have b4 : Below w1.heap.size w1 w4 := below_none g4
  have o4 : w4.ownsRow w.heap.size 5 1 (.slice (some ⟨w.heap.size, 0, none⟩) 4 4) 4 (B8 (fourL l.length)) := owns_heap o1 (fun k hk => by cases hk; exact b4.block w.heap.size (by omega))
  have b4w : Below w.heap.size w w4 := b1.trans (b4.mono (by omega))
  have Hsum : Hid _ := refSum_any ao4 (fourL l.length ++ l) cap4 w4 s4 (by rw [l4]; omega)
  rw [l4] at Hsum
  clear ho3 ho4 ho4' hg3 hg4 g4 n2 o2 s2 bs1 o1 b1 hw3 s3 bs3 s4 n4
  refine Calls.mono (Hid.out Hsum) ?_
  rintro e w' ⟨rfl, rfl⟩
  obtain ⟨S, hS⟩ := Int.eq_ofNat_of_zero_le (sumZ_bd (fourL l.length ++ l)).1
  have hS32 : S < 4294967296 := by have := (sumZ_bd (fourL l.length ++ l)).2; omega
  have Hfin : Hid (frameL l = fourL l.length ++ (fourL S ++ l)) := by show _ = _; unfold frameL; rw [hS, Int.toNat_natCast]
  rw [hS]
  clear hS Hsum
  have Hf2 : Hid _ := four_any S w' hS32
  have o5 := owns_lit w' (fourL S) w'.heap.size (Nat.le_refl _) (by rw [fourL_length]; decide)
  have n5 := o4.alloc (.cells (B8 (fourL S)).toArray 5)
  have b5 : Below w.heap.size w (w'.alloc (.cells (B8 (fourL S)).toArray 5)) := b4w.alloc b4w.size _
  go_wp2_with fail
  refine Calls.mono (Hid.out Hf2) ?_
  rintro e w5 ⟨rfl, hw5⟩
  rw [← hw5] at o5 n5 b5
  clear hw5 Hf2
  have s5 := src_owns o5
  go_wp2_with (first
    | ((with_reducible (show wpList _ _ _ (Oper.mk _ (Op.call ⟨Callee.builtin Builtin.append, #[.tmp 18, .tmp 20], _⟩) _ _ _ _ :: _) _ _)); go_must (refine wpList_append_grew _ rfl (.tmp 18) (.tmp 20) 23 23 rfl w.heap.size 5 i0 (.int .u8 0) 1 1 Tryz.underlying23 hi hz0 hz1 hz2 rfl _ 4 _ rfl n5 _ 4 (B8 (fourL S)) rfl s5 (by unfold maxLen; omega) (by omega) (b5.size) ?_; intro v6 w6 ho6 hg6; have b6 := b5.trans (hg6.below b5.size (fun k hk => by cases hk; exact Nat.le_refl _)); have s6 := src_sees (P := Tryz.prog) Tryz.underlying23 (hs.below b6 (Nat.le_refl _)) Hnone.out cap))
    | ((with_reducible (show wpList _ _ _ (Oper.mk _ (Op.call ⟨Callee.builtin Builtin.append, #[.tmp 21, .tmp 22], _⟩) _ _ _ _ :: _) _ _)); go_must (refine wpList_append_grew _ rfl (.tmp 21) (.tmp 22) 23 23 rfl w.heap.size 5 i0 (.int .u8 0) 1 1 Tryz.underlying23 hi hz0 hz1 hz2 rfl _ (4 + 4) _ rfl ho6 _ l.length (B8 l) rfl s6 (by unfold maxLen; omega) (by omega) (b6.size) ?_; intro v7 w7 ho7 hg7)))
  go_ret
  refine ⟨v7, rfl, ?_, b6.trans (hg7.below b6.size (fun k hk => (ho6.lt k hk).1))⟩
  rw [Hfin.out, ← List.append_assoc, B8_append, B8_append, show l.length + 8 = 4 + 4 + l.length by omega]
  exact ho7
end Go.Proofs.YtabkgcmlfabmgaaGreatDoor
namespace Go.Proofs.YtabkgcmlfabmgaaGreatDoor
open Go.RowKit

theorem Grew.ofDrew {w w' : World} {v v' : Value} (h : Grew w.drew w' v v') : Grew w w' v v' := ⟨⟨h.rows.os, h.rows.tape, h.rows.output, h.rows.size, h.rows.block⟩, h.own⟩

set_option maxRecDepth 100000 in
set_option maxHeartbeats 1600000 in
theorem refUnframe_any (ao : Option Addr) (l : List UInt8) (cap : Nat) (w : World) (hs : Sees w ao l) (hl : l.length ≤ 140737488354000) (hcap : l.length ≤ cap) :
    Calls Tryz.prog 44 #[.slice ao l.length cap] w fun e w' => ∃ v', e = .returned (.tuple #[v', .int .i64 (unfN l), .int .i64 (unfE l)]) ∧ w'.ownsRow w.heap.size 5 1 v' (unfB l).length (B8 (unfB l)) ∧ Below w.heap.size w w' := by
  obtain ⟨i0, hi, hz0, hz1, hz2⟩ := info_parts info8
  by_cases h8 : l.length < 8
  · have hE : unfE l = 10 := by unfold unfE; rw [if_pos h8]
    obtain ⟨hN, hB⟩ := unf_bad l hE (by decide)
    rw [hE, hN, hB]
    clear hE hN hB
    go_enter Tryz.func44, Tryz.ntmps44
    go_wp2
    go_ret3
    exact ⟨_, rfl, World.ownsRow_nil _ _ _ _, Below.refl _ _⟩
  obtain ⟨b, off, rfl, _⟩ := sees_at hs (n := 0) (by omega)
  have Hw1 : Hid _ := fourth_any b off l.length cap (l.take 4) w (by omega) (by omega) (by simp; omega) (sees_take hs 4 (by omega))
  have hC4 : unfC l < 4294967296 := wordL_lt _ (by simp; omega)
  by_cases hbig : 262144 < unfC l
  · have hE : unfE l = 6 := by unfold unfE; rw [if_neg h8, if_pos hbig]
    obtain ⟨hN, hB⟩ := unf_bad l hE (by decide)
    rw [hE, hN, hB]
    clear hE hN hB
    have e : wordL (l.take 4) = unfC l := rfl
    rw [e] at Hw1
    clear e
    generalize unfC l = C at *
    go_enter Tryz.func44, Tryz.ntmps44
    go_wp2_with fail
    refine Calls.mono (Hid.out Hw1) ?_
    rintro e w' ⟨rfl, k, rfl⟩
    go_wp2_with fail
    go_ret3
    exact ⟨_, rfl, World.ownsRow_nil _ _ _ _, below_drewN (Below.refl _ _) k⟩
  by_cases hshort : l.length < 8 + unfC l
  · have hE : unfE l = 10 := by unfold unfE; rw [if_neg h8, if_neg hbig, if_pos hshort]
    obtain ⟨hN, hB⟩ := unf_bad l hE (by decide)
    rw [hE, hN, hB]
    clear hE hN hB
    have e : wordL (l.take 4) = unfC l := rfl
    rw [e] at Hw1
    clear e
    generalize unfC l = C at *
    go_enter Tryz.func44, Tryz.ntmps44
    go_wp2_with fail
    refine Calls.mono (Hid.out Hw1) ?_
    rintro e w' ⟨rfl, k, rfl⟩
    go_wp2_with fail
    go_ret3
    exact ⟨_, rfl, World.ownsRow_nil _ _ _ _, below_drewN (Below.refl _ _) k⟩
  obtain ⟨co, cc, hco, hcs, hcn, hcc⟩ : ∃ (co : Option Addr) (cc : Nat), (cap = 8 → co = some ⟨b, off, none⟩ ∧ cc = 0) ∧ Sees w co ((l.drop 8).take (unfC l)) ∧ (co = none → ((l.drop 8).take (unfC l)).length = 0) ∧ (cap ≠ 8 → co = some ⟨b, off + 8, none⟩ ∧ cc = cap - 8) := by
    by_cases hc8 : cap = 8
    · have h0 : unfC l = 0 := by omega
      refine ⟨some ⟨b, off, none⟩, 0, fun _ => ⟨rfl, rfl⟩, ?_, (fun h => by cases h), fun h => absurd hc8 h⟩
      rw [h0]
      exact Sees.nil _ _
    · exact ⟨some ⟨b, off + 8, none⟩, cap - 8, fun h => absurd h hc8, sees_cut hs 8 _ (by omega), (fun h => by cases h), fun _ => ⟨rfl, rfl⟩⟩
  have hclen : ((l.drop 8).take (unfC l)).length = unfC l := by simp; omega
  have e4 : wordL (l.take 4) = unfC l := rfl
  rw [e4] at Hw1
  obtain ⟨V, hV⟩ : ∃ V, wordL ((l.drop 4).take 4) = V := ⟨_, rfl⟩
  have hVl : V < 4294967296 := hV ▸ wordL_lt _ (by simp; omega)
  obtain ⟨S, hS⟩ : ∃ S, sumZ (l.take 4 ++ (l.drop 8).take (unfC l)) = S := ⟨_, rfl⟩
  have t4 : (l.take 4).length = 4 := by simp; omega
  have t44 : ((l.drop 4).take 4).length = 4 := by simp; omega
  have s4 := sees_take hs 4 (by omega)
  have s44 := sees_cut hs 4 4 (by omega)
  have HE : Hid (unfE l = if (V : Int) ≠ S then 8 else 0) := by show _ = _; unfold unfE; rw [if_neg h8, if_neg hbig, if_neg hshort, hV, hS]
  have Hok : Hid (unfE l = 0 → unfN l = 8 + unfC l ∧ unfB l = (l.drop 8).take (unfC l)) := fun h0 => ⟨by unfold unfN; rw [if_pos h0], by unfold unfB; rw [if_pos h0]⟩
  have Hbad : Hid (unfE l = 8 → unfN l = 0 ∧ unfB l = []) := fun h => unf_bad l h (by decide)
  clear e4 hs
  generalize (l.drop 8).take (unfC l) = D at *
  generalize (l.drop 4).take 4 = q at *
  generalize l.take 4 = p at *
  generalize unfC l = C at *
  generalize unfE l = ee at *
  generalize unfN l = nn at *
  generalize unfB l = bb at *
  have HV : Hid (wordL q = V) := hV
  have HS : Hid (sumZ (p ++ D) = S) := hS
  clear hV hS
  have hne : ((S != (V : Int)) = true ∧ ee = 8 ∧ nn = 0 ∧ bb = []) ∨ ((S != (V : Int)) = false ∧ ee = 0 ∧ nn = 8 + C ∧ bb = D) := by
    by_cases h : (V : Int) ≠ S
    · have h1 := HE.out
      rw [if_pos h] at h1
      have h2 := Hbad.out h1
      exact .inl ⟨by simp; omega, h1, h2.1, h2.2⟩
    · have h1 := HE.out
      rw [if_neg h] at h1
      have h2 := Hok.out h1
      exact .inr ⟨by simp; omega, h1, h2.1, h2.2⟩
  clear HE Hok Hbad
  by_cases hc8 : cap = 8
  · obtain ⟨rfl, rfl⟩ := hco hc8
    obtain rfl : C = 0 := by omega
    subst hc8
    obtain rfl : D = [] := List.eq_nil_of_length_eq_zero hclen
    clear hco hcc
    have n1 := fun k : Nat => owns_none (w.drewN k)
    have s1 := fun k : Nat => src_sees (P := Tryz.prog) Tryz.underlying23 (Sees.below (w := w.drewN k) (w' := (w.drewN k).alloc (.cells #[] 5)) hcs ((Below.refl _ _).alloc (Nat.le_refl _) _) (Nat.le_refl _)) (fun h => by cases h) 0
    have s1' : ∀ k : Nat, Src Tryz.prog 1 23 (.slice (some ⟨b, off, none⟩) 0 0) 0 (B8 []) ((w.drewN k).alloc (.cells #[] 5)) := s1
    clear s1
    go_enter Tryz.func44, Tryz.ntmps44
    go_wp2_with fail
    refine Calls.mono (Hid.out Hw1) ?_
    rintro e w' ⟨rfl, k, rfl⟩
    go_wp2_with (at_builtin; go_must (refine wpList_append_grew _ rfl (.tmp 22) (.tmp 26) 23 23 rfl w.heap.size 5 i0 (.int .u8 0) 1 1 Tryz.underlying23 hi hz0 hz1 hz2 rfl _ 0 _ rfl (n1 k) (.slice (some ⟨b, off, none⟩) 0 0) 0 (B8 ([] : List UInt8)) rfl (s1' k) (by unfold maxLen; omega) (by omega) (by rw [World.size_alloc]; exact Nat.le_succ _) ?_; intro v6 w6 ho6 hg6))
    have ho6' : w6.ownsRow w.heap.size 5 1 v6 0 (B8 ([] : List UInt8)) := by simpa using ho6
    have b6 : Below w.heap.size w w6 := (below_drewN (Below.refl _ _) k).trans (below_none hg6)
    clear ho6 hg6 n1 s1'
    obtain ⟨ao6, cap6, rfl, sD6, _, nD6⟩ := owns_sees ho6'
    have i4 : (4 : Int) ≤ (8 : Int) := by omega
    have i8 : (8 : Int) ≤ (8 : Int) := by omega
    have c4 : ¬ 8 = 4 := by omega
    have n6 := owns_none w6
    have bn6 : Below w6.heap.size w6 (w6.alloc (.cells #[] 5)).drew := ((Below.refl _ _).alloc (Nat.le_refl _) _).drew
    have sp6 : Src Tryz.prog 1 23 (.slice (some ⟨b, off, none⟩) 4 8) 4 (B8 p) (w6.alloc (.cells #[] 5)).drew := by
      have := src_sees (P := Tryz.prog) Tryz.underlying23 ((s4.below b6 (Nat.le_refl _)).below bn6 (Nat.le_refl _)) (fun h => by cases h) 8
      rwa [t4] at this
    have sq6 := s44.below b6 (Nat.le_refl _)
    have T4 : Hid (p.length = 4) := t4
    have T44 : Hid (q.length = 4) := t44
    have HD : Hid ((([] : List UInt8)).length = 0) := hclen
    have ho6w := ho6'.lt
    clear t4 t44 hclen hcs hcn Hw1
    go_region_law (first
      | (refine step_append_grew rfl (.tmp 28) (.tmp 30) 23 23 rfl w6.heap.size 5 i0 (.int .u8 0) 1 1 Tryz.underlying23 hi hz0 hz1 hz2 rfl _ 0 _ rfl (by exact n6) _ 4 (B8 p) rfl (by exact sp6) (by unfold maxLen; omega) (by omega) (by exact bn6.size) ?_; intro v7 w7 ho7 hg7; have g7 : Grew (w6.alloc (.cells #[] 5)) w7 (.slice (some ⟨w6.heap.size, 0, none⟩) 0 0) v7 := Grew.ofDrew hg7; have b7 := below_none g7; have sD7 := src_sees (P := Tryz.prog) Tryz.underlying23 (sD6.below b7 (Nat.le_refl _)) (fun e => HD.out.trans (nD6 e).1) cap6)
      | (refine step_append_grew rfl (.tmp 31) (.tmp 32) 23 23 rfl w6.heap.size 5 i0 (.int .u8 0) 1 1 Tryz.underlying23 hi hz0 hz1 hz2 rfl _ (0 + 4) _ rfl ho7 _ 0 (B8 ([] : List UInt8)) rfl (by rw [HD.out] at sD7; exact sD7) (by unfold maxLen; omega) (by omega) b7.size ?_; intro v8 w8 ho8 hg8; obtain ⟨ao8, cap8, rfl, s8, l8, n8⟩ := owns_sees (n := 4) (l := p ++ ([] : List UInt8)) (by rw [B8_append]; simpa using ho8); have b8 := b7.trans (hg8.below b7.size (fun g hg => (ho7.lt g hg).1)); have Hs8 : Hid _ := refSum_any ao8 (p ++ ([] : List UInt8)) cap8 w8 s8 (by rw [l8]; omega); rw [l8, HS.out] at Hs8; have Hf8 : Hid _ := fourth_any b (off + 4) 4 (8 - 4) q w8 (by omega) (by omega) T44.out (sq6.below b8 (Nat.le_refl _)); rw [HV.out] at Hf8)
      | (go_simp; go_at_call 83; refine Calls.mono (Hid.out Hs8) ?_; rintro e w9 ⟨rfl, rfl⟩)
      | (go_simp; go_at_call 86; refine Calls.mono (Hid.out Hf8) ?_; rintro e w9 ⟨rfl, k9, rfl⟩))
    have b8w := b6.trans (b8.mono b6.size)
    have o8 := owns_heap (w' := w9) ho6' (fun g hg => b8.block g (ho6w g hg).2)
    rcases hne with ⟨h1, rfl, rfl, rfl⟩ | ⟨h1, rfl, rfl, rfl⟩
    · clear hg7 g7 hg8 ho7 ho8 sp6 sD7 Hs8 Hf8 s8 n6 bn6 ho6'
      go_wp2
      go_ret3
      exact ⟨_, rfl, World.ownsRow_nil _ _ _ _, below_drewN b8w _⟩
    · clear hg7 g7 hg8 ho7 ho8 sp6 sD7 Hs8 Hf8 s8 n6 bn6 ho6'
      go_wp2
      go_ret3
      refine ⟨.slice ao6 0 cap6, rfl, ?_, below_drewN b8w _⟩
      exact o8
  · obtain ⟨rfl, rfl⟩ := hcc hc8
    clear hco hcc
    have n1 := fun k : Nat => owns_none (w.drewN k)
    have s1 := fun k : Nat => src_sees (P := Tryz.prog) Tryz.underlying23 (Sees.below (w := w.drewN k) (w' := (w.drewN k).alloc (.cells #[] 5)) hcs ((Below.refl _ _).alloc (Nat.le_refl _) _) (Nat.le_refl _)) (fun h => by cases h) (cap - 8)
    rw [hclen] at s1
    have s1' : ∀ k : Nat, Src Tryz.prog 1 23 (.slice (some ⟨b, off + 8, none⟩) (8 + C - 8) (cap - 8)) C (B8 D) ((w.drewN k).alloc (.cells #[] 5)) := fun k => by rw [Nat.add_sub_cancel_left]; exact s1 k
    clear s1
    go_enter Tryz.func44, Tryz.ntmps44
    go_wp2_with fail
    refine Calls.mono (Hid.out Hw1) ?_
    rintro e w' ⟨rfl, k, rfl⟩
    go_wp2_with (at_builtin; go_must (refine wpList_append_grew _ rfl (.tmp 22) (.tmp 26) 23 23 rfl w.heap.size 5 i0 (.int .u8 0) 1 1 Tryz.underlying23 hi hz0 hz1 hz2 rfl _ 0 _ rfl (n1 k) (.slice (some ⟨b, off + 8, none⟩) (8 + C - 8) (cap - 8)) C (B8 D) rfl (s1' k) (by unfold maxLen; omega) (by omega) (by rw [World.size_alloc]; exact Nat.le_succ _) ?_; intro v6 w6 ho6 hg6))
    have ho6' : w6.ownsRow w.heap.size 5 1 v6 C (B8 D) := by simpa using ho6
    have b6 : Below w.heap.size w w6 := (below_drewN (Below.refl _ _) k).trans (below_none hg6)
    clear ho6 hg6 n1 s1'
    obtain ⟨ao6, cap6, rfl, sD6, _, nD6⟩ := owns_sees ho6'
    have i4 : (4 : Int) ≤ (cap : Int) := by omega
    have i8 : (8 : Int) ≤ (cap : Int) := by omega
    have c4 : ¬ cap = 4 := by omega
    have n6 := owns_none w6
    have bn6 : Below w6.heap.size w6 (w6.alloc (.cells #[] 5)).drew := ((Below.refl _ _).alloc (Nat.le_refl _) _).drew
    have sp6 : Src Tryz.prog 1 23 (.slice (some ⟨b, off, none⟩) 4 cap) 4 (B8 p) (w6.alloc (.cells #[] 5)).drew := by
      have := src_sees (P := Tryz.prog) Tryz.underlying23 ((s4.below b6 (Nat.le_refl _)).below bn6 (Nat.le_refl _)) (fun h => by cases h) cap
      rwa [t4] at this
    have sq6 := s44.below b6 (Nat.le_refl _)
    have T4 : Hid (p.length = 4) := t4
    have T44 : Hid (q.length = 4) := t44
    have HD : Hid ((D).length = C) := hclen
    have ho6w := ho6'.lt
    clear t4 t44 hclen hcs hcn Hw1
    go_region_law (first
      | (refine step_append_grew rfl (.tmp 28) (.tmp 30) 23 23 rfl w6.heap.size 5 i0 (.int .u8 0) 1 1 Tryz.underlying23 hi hz0 hz1 hz2 rfl _ 0 _ rfl (by exact n6) _ 4 (B8 p) rfl (by exact sp6) (by unfold maxLen; omega) (by omega) (by exact bn6.size) ?_; intro v7 w7 ho7 hg7; have g7 : Grew (w6.alloc (.cells #[] 5)) w7 (.slice (some ⟨w6.heap.size, 0, none⟩) 0 0) v7 := Grew.ofDrew hg7; have b7 := below_none g7; have sD7 := src_sees (P := Tryz.prog) Tryz.underlying23 (sD6.below b7 (Nat.le_refl _)) (fun e => HD.out.trans (nD6 e).1) cap6)
      | (refine step_append_grew rfl (.tmp 31) (.tmp 32) 23 23 rfl w6.heap.size 5 i0 (.int .u8 0) 1 1 Tryz.underlying23 hi hz0 hz1 hz2 rfl _ (0 + 4) _ rfl ho7 _ C (B8 D) rfl (by rw [HD.out] at sD7; exact sD7) (by unfold maxLen; omega) (by omega) b7.size ?_; intro v8 w8 ho8 hg8; obtain ⟨ao8, cap8, rfl, s8, l8, n8⟩ := owns_sees (n := 4 + C) (l := p ++ D) (by rw [B8_append]; simpa using ho8); have b8 := b7.trans (hg8.below b7.size (fun g hg => (ho7.lt g hg).1)); have Hs8 : Hid _ := refSum_any ao8 (p ++ D) cap8 w8 s8 (by rw [l8]; omega); rw [l8, HS.out] at Hs8; have Hf8 : Hid _ := fourth_any b (off + 4) 4 (cap - 4) q w8 (by omega) (by omega) T44.out (sq6.below b8 (Nat.le_refl _)); rw [HV.out] at Hf8)
      | (go_simp; go_at_call 83; refine Calls.mono (Hid.out Hs8) ?_; rintro e w9 ⟨rfl, rfl⟩)
      | (go_simp; go_at_call 86; refine Calls.mono (Hid.out Hf8) ?_; rintro e w9 ⟨rfl, k9, rfl⟩))
    have b8w := b6.trans (b8.mono b6.size)
    have o8 := owns_heap (w' := w9) ho6' (fun g hg => b8.block g (ho6w g hg).2)
    rcases hne with ⟨h1, rfl, rfl, rfl⟩ | ⟨h1, rfl, rfl, rfl⟩
    · clear hg7 g7 hg8 ho7 ho8 sp6 sD7 Hs8 Hf8 s8 n6 bn6 ho6'
      go_wp2
      go_ret3
      exact ⟨_, rfl, World.ownsRow_nil _ _ _ _, below_drewN b8w _⟩
    · clear hg7 g7 hg8 ho7 ho8 sp6 sD7 Hs8 Hf8 s8 n6 bn6 ho6'
      go_wp2
      go_ret3
      refine ⟨.slice ao6 C cap6, by simp; omega, ?_, below_drewN b8w _⟩
      rw [HD.out]
      exact o8
end Go.Proofs.YtabkgcmlfabmgaaGreatDoor
namespace Go.Proofs.YtabkgcmlfabmgaaGreatDoor
open Go.RowKit

/-- One byte that lies at the head of a block, as a source. -/
theorem src_head {w : World} {g : Nat} (b : UInt8) (h : w.cell? ⟨g, 0, none⟩ = some (.int .u8 (b.toNat : Int))) : Src Tryz.prog 1 23 (.slice (some ⟨g, 0, none⟩) 1 1) 1 (B8 [b]) w := by
  refine Src.ofSlice _ Tryz.underlying23 _ 1 1 _ (by simp [B8_length]) ?_ (B8_one _)
  intro j u hu
  match j, hu with
  | 0, hu => simp [B8] at hu; subst hu; simpa [Addr.add] using h
  | j + 1, hu => simp [B8] at hu

/-- Draws do not matter. -/
theorem Grew.like {u w w' : World} {v v' : Value} (h : Grew u w' v v') (h1 : u.heap = w.heap) (h2 : u.os = w.os) (h3 : u.tape = w.tape) (h4 : u.output = w.output) : Grew w w' v v' :=
  ⟨⟨h.rows.os.trans h2, h.rows.tape.trans h3, h.rows.output.trans h4, by rw [← h1]; exact h.rows.size, by rw [← h1]; exact h.rows.block⟩, by rw [← h1]; exact h.own⟩

set_option maxRecDepth 100000 in
set_option maxHeartbeats 1600000 in
theorem addVersion_any (base : Nat) (v : Value) (n : Nat) (xs : List UInt8) (k : VerV) (w : World) (hown : w.ownsRow base 5 1 v n (B8 xs)) (hk : k.Ok) (hn : n + wtV k ≤ 140737488340000) (hb : base ≤ w.heap.size) :
    Calls Tryz.prog 76 #[v, .agg (verA k)] w (Wrote base v n xs (verL k) w) := by
  obtain ⟨i0, hi, hz0, hz1, hz2⟩ := info_parts info8
  obtain ⟨time, dead, loc, kind, num, s⟩ := k
  have hk1 : I64 time := hk.time
  have hk2 : I64 loc := hk.loc
  have hk3 : ValV.Ok ⟨kind, num, s⟩ := hk.val
  have hn0 : n ≤ 140737488340000 := by omega
  have hs : Hid (dead = false → n + s.size ≤ 140737488340000) := fun h => by
    have := hn
    unfold wtV at this
    simp only [h] at this
    simpa using this
  have Hne : Hid (v.ownBlock ≠ some w.heap.size) := owns_ne_new hown
  have hl1 := (numL_length (zigN time)).2
  have hl2 := (numL_length (zigN loc)).2
  have hl3 := valL_le ⟨kind, num, s⟩
  have Hc1 : Hid _ := addNumber_any base v n xs (zigN time) (w.alloc (.cells (verA ⟨time, dead, loc, kind, num, s⟩) 73)) (hown.alloc _) (zigN_eq hk1).2 (by omega) (by rw [World.size_alloc]; omega)
  have HB : Hid (Box _ _ _ _) := Box.new w (verA ⟨time, dead, loc, kind, num, s⟩) 73
  clear hk hn hown
  unfold verA at *
  go_enter Tryz.func76, Tryz.ntmps76
  go_wp2_with fail
  refine Calls.mono (zig_nat time _ hk1) ?_
  rintro e w1' ⟨rfl, rfl⟩
  go_wp2_with fail
  refine Calls.mono (Hid.out Hc1) ?_
  rintro e w1 ⟨v1, rfl, ho1, hg1⟩
  have HB1 : Hid (Box _ _ _ _) := HB.out.grew hg1 Hne.out
  have Hne1 : Hid (v1.ownBlock ≠ some w.heap.size) := hg1.ne Hne.out HB.out.lt
  have c1 := HB1.out.cell 1
  have c2 := HB1.out.cell 2
  have c3 := HB1.out.cell 3
  have c4 := HB1.out.cell 4
  have c5 := HB1.out.cell 5
  have hlt1 : w.heap.size < w1.heap.size := HB1.out.lt
  have hb1 : base ≤ w1.heap.size := Nat.le_trans hb (Nat.le_of_lt hlt1)
  clear Hc1
  cases dead
  · have hs' := hs.out rfl
    go_wp2_with fail
    go_region_law (first
      | (refine step_append_grew rfl (.tmp 19) (.tmp 20) 23 23 rfl base 5 i0 (.int .u8 0) 1 1 Tryz.underlying23 hi hz0 hz1 hz2 rfl _ _ _ rfl (by exact ho1.alloc _) _ 1 (B8 [0]) rfl (src_head 0 (by simp [go_sem])) (by unfold maxLen; omega) (by omega) (by simp; omega) ?_; intro v2 w2 ho2 hg2; rw [← B8_append] at ho2; have g2 : Grew w1 w2 v1 v2 := Grew.alloc (w := w1) (o := .cells #[.int .u8 0] 5) (hg2.like rfl rfl rfl rfl); have d3 := (HB1.out.grew g2 Hne1.out).cell 3; have d4 := (HB1.out.grew g2 Hne1.out).cell 4; have d5 := (HB1.out.grew g2 Hne1.out).cell 5; have hb2 : base ≤ w2.heap.size := Nat.le_trans hb1 g2.rows.size)
      | (go_simp; go_at_call 116; refine Calls.mono (addValue_any base v2 _ _ ⟨kind, num, s⟩ _ (by exact ho2) hk3 (by simp; omega) (by exact hb2)) ?_; rintro e w4 ⟨v4, rfl, ho4, hg4⟩))
    all_goals
      clear hg2
      go_wp2
      go_ret
      refine ⟨v4, rfl, ?_, (hg1.trans (g2.trans (hg4.like rfl rfl rfl rfl))).alloc⟩
      unfold verL
      simpa [List.append_assoc, Nat.add_assoc, Nat.add_comm 1] using ho4
  · go_wp2_with fail
    go_region_law (first
      | (refine step_append_grew rfl (.tmp 12) (.tmp 13) 23 23 rfl base 5 i0 (.int .u8 0) 1 1 Tryz.underlying23 hi hz0 hz1 hz2 rfl _ _ _ rfl (by exact ho1.alloc _) _ 1 (B8 [1]) rfl (src_head 1 (by simp [go_sem])) (by unfold maxLen; omega) (by omega) (by simp; omega) ?_; intro v2 w2 ho2 hg2; rw [← B8_append] at ho2; have g2 : Grew w1 w2 v1 v2 := Grew.alloc (w := w1) (o := .cells #[.int .u8 1] 5) (hg2.like rfl rfl rfl rfl); have d2 := (HB1.out.grew g2 Hne1.out).cell 2; have hb2 : base ≤ w2.heap.size := Nat.le_trans hb1 g2.rows.size)
      | (go_simp; go_at_call 115; refine Calls.mono (zig_nat loc _ hk2) ?_; rintro e w' ⟨rfl, rfl⟩)
      | (go_simp; go_at_call 75; refine Calls.mono (addNumber_any base v2 _ _ (zigN loc) _ (by exact ho2) (zigN_eq hk2).2 (by omega) (by exact hb2)) ?_; rintro e w4 ⟨v4, rfl, ho4, hg4⟩))
    all_goals
      clear hg2
      go_wp2
      go_ret
      refine ⟨v4, rfl, ?_, (hg1.trans (g2.trans (hg4.like rfl rfl rfl rfl))).alloc⟩
      unfold verL
      simpa [List.append_assoc, Nat.add_assoc, Nat.add_comm 1] using ho4
end Go.Proofs.YtabkgcmlfabmgaaGreatDoor
