/-
  CONTRACTS: the codec's Zig, Zag, and its sum (sumOn, Sum), each for every argument.
-/
import Derived.Test.YtdookhmaiapclaaGreatDoorChecked
import Derived.Test.YtdookhmaiapclaaGreatDoorCodPlain
import Derived.Test.YtdookhmaiapclaaGreatDoorOwn
namespace Go.Proofs.YtdookhmaiapclaaGreatDoor
open Go.RowKit


theorem zig_any (n : Int) (w : World) (h1 : -9223372036854775808 ≤ n) (h2 : n ≤ 9223372036854775807) :
    Calls Tryz.prog 141 #[.int .i64 n] w fun e w' => e = .returned (.int .u64 (zigZ n)) ∧ w' = w := by
  have hz := zig_text n h1 h2
  go_enter Tryz.func141, Tryz.ntmps141
  go_wp2
  go_ret
  exact ⟨rfl, rfl⟩

theorem zag_any (u : Int) (w : World) (h1 : 0 ≤ u) (h2 : u ≤ 18446744073709551615) :
    Calls Tryz.prog 153 #[.int .u64 u] w fun e w' => e = .returned (.int .i64 (zagZ u)) ∧ w' = w := by
  by_cases h : u % 2 = 1
  · have e1 : zagZ u = -(u / 2) - 1 := by unfold zagZ; rw [if_pos h]
    rw [e1]
    have ht : (u % 2 == 1) = true := by simp [h]
    clear e1 h
    go_enter Tryz.func153, Tryz.ntmps153
    go_wp2
    go_ret
    exact ⟨rfl, rfl⟩
  · have e1 : zagZ u = u / 2 := by unfold zagZ; rw [if_neg h]
    rw [e1]
    have ht : (u % 2 == 1) = false := by simp [h]
    clear e1 h
    go_enter Tryz.func153, Tryz.ntmps153
    go_wp2
    go_ret
    exact ⟨rfl, rfl⟩
/-- The table lies where it lies. -/
def Tab (w : World) : Prop := ∀ j, j < 16 → w.cell? ⟨0, j, none⟩ = some (.int .u32 (tabZ.getD j 0))
set_option maxHeartbeats 400000 in
theorem sumOn_any (s : Int) (ao : Option Addr) (l : List UInt8) (cap : Nat) (w : World) (hs : 0 ≤ s ∧ s ≤ 4294967295) (hl : l.length ≤ maxLen) (ht : Tab w) (hc : Sees w ao l) :
    Calls Tryz.prog 95 #[.int .u32 s, .slice ao l.length cap] w fun e w' => e = .returned (.int .u32 (sumOnZ s l)) ∧ w' = w := by
  unfold maxLen at hl
  go_enter Tryz.func95, Tryz.ntmps95
  go_wp2
  go_loop [0, 9] (fun t i => ∃ k : Nat, k ≤ l.length ∧ i = .int .i64 k ∧ t = .int .u32 (sumOnZ s (l.take k))) (fun _ i => l.length - (intOf i).toNat)
  case atStart => exact ⟨0, Nat.zero_le _, rfl, rfl⟩
  case round =>
    obtain ⟨k, hk, rfl, rfl⟩ := hrel
    have hbd := sumOnZ_bd s (l.take k) hs
    by_cases hlt : k < l.length
    · have hst : Hid (sumOnZ s (l.take (k + 1)) = byteZ (sumOnZ s (l.take k)) ((l.getD k 0).toNat : Int)) := sumOnZ_take s l k hlt
      obtain ⟨a, rfl, hca⟩ := hc k hlt
      have hx : 0 ≤ ((l.getD k 0).toNat : Int) ∧ ((l.getD k 0).toNat : Int) ≤ 255 := by have := (l.getD k 0).toNat_lt; omega
      clear hc
      generalize hS : sumOnZ s (l.take k) = S at *
      generalize ((l.getD k 0).toNat : Int) = x at *
      clear hS
      obtain ⟨A, hA⟩ : ∃ A, bits BinOp.xor IntKind.u32 S x = A := ⟨_, rfl⟩
      have hA0 : 0 ≤ A ∧ A ≤ 4294967295 := hA ▸ bits_u32 _ _ _
      have c1 : w.cell? ⟨0, (A % 16).toNat, none⟩ = some (.int .u32 (tabZ.getD (A % 16).toNat 0)) := ht _ (by omega)
      have hB1 : Hid (fourZ A = bits BinOp.xor IntKind.u32 (A / 16) (tabZ.getD (A % 16).toNat 0)) := rfl
      generalize tabZ.getD (A % 16).toNat 0 = T1 at *
      obtain ⟨B, hB⟩ : ∃ B, bits BinOp.xor IntKind.u32 (A / 16) T1 = B := ⟨_, rfl⟩
      have hB0 : 0 ≤ B ∧ B ≤ 4294967295 := hB ▸ bits_u32 _ _ _
      have c2 : w.cell? ⟨0, (B % 16).toNat, none⟩ = some (.int .u32 (tabZ.getD (B % 16).toNat 0)) := ht _ (by omega)
      have hC1 : Hid (fourZ B = bits BinOp.xor IntKind.u32 (B / 16) (tabZ.getD (B % 16).toNat 0)) := rfl
      generalize tabZ.getD (B % 16).toNat 0 = T2 at *
      have hend : Hid (sumOnZ s (l.take (k + 1)) = bits BinOp.xor IntKind.u32 (B / 16) T2) := by
        refine hst.out.trans ?_
        unfold byteZ
        rw [hA, hB1.out, hB, hC1.out]
      clear hst hB1 hC1 ht
      go_wp2
      go_round
      case rel => exact ⟨k + 1, by omega, by go_num, by rw [hend.out]⟩
      case measure => simp [intOf]; omega
    · go_wp2
      go_ret
      exact ⟨ret_int (by rw [List.take_of_length_le (by omega)]), rfl⟩

theorem sumOn_len (s : Int) (ao : Option Addr) (l : List UInt8) (n cap : Nat) (w : World) (hs : 0 ≤ s ∧ s ≤ 4294967295) (hn : l.length = n) (hl : n ≤ maxLen) (ht : Tab w) (hc : Sees w ao l) :
    Calls Tryz.prog 95 #[.int .u32 s, .slice ao n cap] w fun e w' => e = .returned (.int .u32 (sumOnZ s l)) ∧ w' = w := by
  subst hn
  exact sumOn_any s ao l cap w hs hl ht hc

/-- The codec's Sum. -/
theorem sum_any (ao : Option Addr) (l : List UInt8) (cap : Nat) (w : World) (hl : l.length ≤ maxLen) (ht : Tab w) (hc : Sees w ao l) :
    Calls Tryz.prog 59 #[.slice ao l.length cap] w fun e w' => e = .returned (.int .u32 (sumZ l)) ∧ w' = w := by
  have hbd := sumOnZ_bd 4294967295 l ⟨by decide, by decide⟩
  have hn := not_u32 _ hbd.1 hbd.2
  go_enter Tryz.func59, Tryz.ntmps59
  go_wp2_with (go_at_call 95; refine (sumOn_any 4294967295 ao l cap _ ⟨by decide, by decide⟩ hl ht hc).mono ?_; rintro e w' ⟨rfl, rfl⟩)
  go_ret
  exact ⟨rfl, rfl⟩
end Go.Proofs.YtdookhmaiapclaaGreatDoor
