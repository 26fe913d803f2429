/-
  CONTRACTS: the document's Sum, Four and Fourth, and the codec's word, each for every argument.
-/
import Derived.Test.YthihljjefncfoaaDoorRefLend
import Derived.Test.YthihljjefncfoaaDoorCrcPlain
namespace Go.Proofs.YthihljjefncfoaaDoor
open Go.RowKit

set_option maxRecDepth 100000 in
set_option maxHeartbeats 1600000 in
theorem refSum_any (ao : Option Addr) (l : List UInt8) (cap : Nat) (w : World) (hs : Sees w ao l) (hl : l.length ≤ 140737488354000) :
    Calls Tryd.prog 47 #[.slice ao l.length cap] w fun e w' => e = .returned (.int .u32 (sumZ l)) ∧ w' = w := by
  have hn : ∀ a : Int, 0 ≤ a → a ≤ 4294967295 → bits BinOp.xor IntKind.u32 a 4294967295 = 4294967295 - a := fun a h0 h1 => by
    have := not_u32 a h0 h1
    rw [← this, u32_xor _ _ (by omega) (by omega) (by omega) (by omega)]
    show _ = bits BinOp.xor IntKind.u32 4294967295 a
    rw [u32_xor _ _ (by omega) (by omega) (by omega) (by omega), Nat.xor_comm]
  have Hn : Hid _ := hn
  clear hn
  go_enter Tryd.func47, Tryd.ntmps47
  go_wp2
  go_loop [3, 10] (fun t i => ∃ k : Nat, k ≤ l.length ∧ i = .int .i64 k ∧ t = .int .u32 (sumOnZ 4294967295 (l.take k))) (fun _ i => l.length - (intOf i).toNat)
  case atStart => exact ⟨0, Nat.zero_le _, rfl, rfl⟩
  case round =>
    obtain ⟨k, hk, rfl, rfl⟩ := hrel
    have hbd := sumOnZ_bd 4294967295 (l.take k) ⟨by decide, by decide⟩
    by_cases hlt : k < l.length
    · have hst : Hid (sumOnZ 4294967295 (l.take (k + 1)) = byteZ (sumOnZ 4294967295 (l.take k)) ((l.getD k 0).toNat : Int)) := sumOnZ_take 4294967295 l k hlt
      obtain ⟨b, off, rfl, hc⟩ := sees_at hs hlt
      have hx := (l.getD k 0).toNat_lt
      generalize hS : sumOnZ 4294967295 (l.take k) = S at *
      generalize (l.getD k 0).toNat = x at *
      clear hS
      obtain ⟨c, rfl⟩ := Int.eq_ofNat_of_zero_le hbd.1
      have hcl : c < 4294967296 := by omega
      have Hfin : Hid (sumOnZ 4294967295 (l.take (k + 1)) = ((crcSs c x 8 : Nat) : Int)) := hst.out.trans (byteZ_nat c x hcl (by omega))
      have Hs : Hid _ := hs
      clear hst hs
      go_wp2
      go_loop [3, 6] (fun t i => ∃ j : Nat, j ≤ 8 ∧ i = .int .i64 j ∧ t = .int .u32 (crcSs c x j)) (fun _ i => 8 - (intOf i).toNat)
      case atStart => exact ⟨0, Nat.zero_le _, rfl, rfl⟩
      case round =>
        obtain ⟨j, hj, rfl, rfl⟩ := hrel
        have hd := crcSs_lt c x hcl j
        by_cases hj8 : j < 8
        · have hbt := bit_text2 (crcSs c x j) x j hd (by omega)
          have Hstep : Hid (crcSs c x (j + 1) = crcS (crcSs c x j) x j) := rfl
          generalize crcSs c x j = d at *
          rcases Nat.mod_two_eq_zero_or_one (d + x / 2 ^ j) with h2 | h2
          · have Hno : Hid _ := crcS_no d x j h2
            rw [h2] at hbt
            clear h2
            go_wp2
            go_round
            case rel => exact ⟨j + 1, by omega, by go_num, by rw [Hstep.out, ← Hno.out]⟩
            case measure => simp [intOf]; omega
          · have Hyes : Hid _ := crcS_yes d x j hd h2
            rw [h2] at hbt
            clear h2
            go_wp2
            go_round
            case rel => exact ⟨j + 1, by omega, by go_num, by rw [Hstep.out, ← Hyes.out]⟩
            case measure => simp [intOf]; omega
        · obtain rfl : j = 8 := by omega
          go_wp2
          go_round
          case rel => exact ⟨k + 1, by omega, by go_num, by rw [Hfin.out]⟩
          case measure => simp [intOf]; omega
    · go_wp2
      go_ret
      refine ⟨ret_int ?_, rfl⟩
      rw [Hn.out _ hbd.1 hbd.2, List.take_of_length_le (by omega)]
      rfl

theorem four_any (x : Nat) (w : World) (hx : x < 4294967296) :
    Calls Tryd.prog 46 #[.int .u32 x] w fun e w' => e = .returned (.slice (some ⟨w.heap.size, 0, none⟩) 4 4) ∧ w' = w.alloc (.cells (B8 (fourL x)).toArray 5) := by
  have h0 : B8 (fourL x) = [.int .u8 ((x : Int) / 16777216), .int .u8 ((x : Int) / 65536 % 256), .int .u8 ((x : Int) / 256 % 256), .int .u8 ((x : Int) % 256)] := by
    simp [B8, fourL]
    omega
  rw [h0]
  clear h0
  go_enter Tryd.func46, Tryd.ntmps46
  go_wp2
  go_ret
  exact ⟨rfl, rfl⟩

set_option maxRecDepth 100000 in
set_option maxHeartbeats 800000 in
theorem word_any (b off n cap : Nat) (h4 : List UInt8) (w : World) (hn : 4 ≤ n) (hnm : n ≤ 140737488355328) (hl : h4.length = 4) (hs : Sees w (some ⟨b, off, none⟩) h4) :
    Calls Tryd.prog 48 #[.slice (some ⟨b, off, none⟩) n cap] w fun e w' => e = .returned (.int .u32 (wordL h4)) ∧ w' = w := by
  go_enter Tryd.func48, Tryd.ntmps48
  go_wp2
  go_loop [3, 5] (fun t i => ∃ k : Nat, k ≤ 4 ∧ i = .int .i64 k ∧ t = .int .u32 (wordL (h4.take k))) (fun _ i => 4 - (intOf i).toNat)
  case atStart => exact ⟨0, Nat.zero_le _, rfl, rfl⟩
  case round =>
    obtain ⟨k, hk, rfl, rfl⟩ := hrel
    by_cases hlt : k < 4
    · obtain ⟨b', off', e, hc⟩ := sees_at hs (n := k) (by omega)
      cases e
      have hst : Hid (wordL (h4.take (k + 1)) = wordL (h4.take k) * 256 + (h4.getD k 0).toNat) := by
        show _ = _
        rw [take_snoc h4 k (by omega)]
        unfold wordL
        rw [List.foldl_append]
        rfl
      have hw : wordL (h4.take k) < 16777216 := wordL_lt3 _ (by simp; omega)
      have hx := (h4.getD k 0).toNat_lt
      have Hor : Hid _ := or_byte (wordL (h4.take k)) (h4.getD k 0).toNat hw hx
      generalize wordL (h4.take k) = a at *
      generalize (h4.getD k 0).toNat = x at *
      go_wp2
      go_round
      case rel => exact ⟨k + 1, by omega, by go_num, by rw [hst.out, ← Hor.out]⟩
      case measure => simp [intOf]; omega
    · go_wp2
      go_ret
      exact ⟨ret_int (by rw [List.take_of_length_le (by omega)]), rfl⟩

set_option maxRecDepth 100000 in
set_option maxHeartbeats 800000 in
theorem fourth_any (b off n cap : Nat) (h4 : List UInt8) (w : World) (hn : 4 ≤ n) (hnm : n ≤ 140737488355328) (hl : h4.length = 4) (hs : Sees w (some ⟨b, off, none⟩) h4) :
    Calls Tryd.prog 51 #[.slice (some ⟨b, off, none⟩) n cap] w fun e w' => e = .returned (.int .u32 (wordL h4)) ∧ ∃ k, w' = w.drewN k := by
  match h4, hl with
  | [a, b1, c, d], _ =>
    obtain ⟨b', off', e, c0⟩ := sees_at hs (n := 0) (by simp)
    cases e
    obtain ⟨b', off', e, c1⟩ := sees_at hs (n := 1) (by simp)
    cases e
    obtain ⟨b', off', e, c2⟩ := sees_at hs (n := 2) (by simp)
    cases e
    obtain ⟨b', off', e, c3⟩ := sees_at hs (n := 3) (by simp)
    cases e
    simp only [List.getD_cons_zero, List.getD_cons_succ, Nat.add_zero] at c0 c1 c2 c3
    have Hw : Hid (((wordL [a, b1, c, d] : Nat) : Int) = (a.toNat : Int) * 16777216 + (b1.toNat : Int) * 65536 + (c.toNat : Int) * 256 + (d.toNat : Int)) := by
      show _ = _
      simp [wordL]
      omega
    have ha := a.toNat_lt
    have hb := b1.toNat_lt
    have hcc := c.toNat_lt
    have hd := d.toNat_lt
    clear hs
    go_enter Tryd.func51, Tryd.ntmps51
    go_wp2
    go_quiet (fail)
    go_wp2
    go_ret
    refine ⟨ret_int ?_, nq, rfl⟩
    rw [Hw.out]
    exact fourth_text _ _ _ _ ha hb hcc hd
end Go.Proofs.YthihljjefncfoaaDoor
