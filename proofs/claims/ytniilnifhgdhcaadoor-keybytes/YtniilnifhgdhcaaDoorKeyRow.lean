/-
  CONTRACT: a row's eight bytes, by the program.
-/
import Derived.Test.YtniilnifhgdhcaaDoorKeyAdd
namespace Go.Proofs.YtniilnifhgdhcaaDoor
open Go.RowKit

theorem be_succ (u : Nat) : ∀ (n k : Nat), k < n → (be n u).take (k + 1) = (be n u).take k ++ [UInt8.ofNat (u / 256 ^ (n - 1 - k) % 256)]
  | 0, k, h => by omega
  | n + 1, 0, _ => by simp [be]
  | n + 1, k + 1, h => by
    have := be_succ u n k (by omega)
    simp only [be, List.take_succ_cons, List.cons_append]
    rw [this]
    have e : n - 1 - k = n + 1 - 1 - (k + 1) := by omega
    rw [e]
theorem xor_top (a : Nat) (h : a < 18446744073709551616) : a ^^^ 9223372036854775808 = if a < 9223372036854775808 then a + 9223372036854775808 else a - 9223372036854775808 := by
  have h1 : (a ^^^ 2 ^ 63) % 2 ^ 63 = a % 2 ^ 63 := by rw [Nat.xor_mod_two_pow]; simp
  have h2 : (a ^^^ 2 ^ 63) / 2 ^ 63 = (a / 2 ^ 63) ^^^ 1 := by rw [Nat.xor_div_two_pow]
  have h3 := Nat.div_add_mod (a ^^^ 2 ^ 63) (2 ^ 63)
  have h4 := Nat.div_add_mod a (2 ^ 63)
  have e : (2 : Nat) ^ 63 = 9223372036854775808 := by decide
  rw [h1, h2] at h3
  rw [e] at h3 h4
  split
  · have h5 : a / 9223372036854775808 = 0 := by omega
    rw [h5] at h3 h4
    have : (0 ^^^ 1 : Nat) = 1 := rfl
    rw [this] at h3; omega
  · have h5 : a / 9223372036854775808 = 1 := by omega
    rw [h5] at h3 h4
    have : (1 ^^^ 1 : Nat) = 0 := rfl
    rw [this] at h3; omega
theorem row_bits (r : Int) (h : InI r) : bits BinOp.xor IntKind.u64 (IntKind.u64.wrap r) 9223372036854775808 = (((r + 9223372036854775808).toNat : Nat) : Int) := by
  unfold InI at h
  have e : IntKind.u64.wrap r = (((r % 18446744073709551616).toNat : Nat) : Int) := by rw [IntKind.wrap_u64]; omega
  have e2 : (9223372036854775808 : Int) = ((9223372036854775808 : Nat) : Int) := rfl
  rw [e, e2, u64_xor_nat _ _ (by omega) (by decide), xor_top _ (by omega)]
  split <;> omega
set_option maxRecDepth 100000 in
set_option maxHeartbeats 1000000 in
theorem addRow_any (base : Nat) (v : Value) (n : Nat) (xs : List UInt8) (r : Int) (w : World) (hr : InI r) (hown : w.ownsRow base 5 1 v n (B8 xs)) (hn : n ≤ 1000000) (hb : base ≤ w.heap.size) :
    Calls Tryd.prog 41 #[v, .int .i64 r] w fun e w' => ∃ v', e = .returned v' ∧ w'.ownsRow base 5 1 v' (n + 8) (B8 (xs ++ encR r)) ∧ Grew w w' v v' := by
  obtain ⟨i0, hi, hz0, hz1, hz2⟩ := info_parts info8
  obtain ⟨u, hu⟩ : ∃ u, u = (r + 9223372036854775808).toNat := ⟨_, rfl⟩
  have hX := row_bits r hr
  rw [← hu] at hX
  have HR : Hid (encR r = be 8 u) := by show encR r = be 8 u; rw [hu]; rfl
  have hub : u < 18446744073709551616 := by unfold InI at hr; omega
  clear hu
  go_enter Tryd.func41, Tryd.ntmps41
  go_wp2_with fail
  go_loopw [0, 10] (fun s0 s1 wr => ∃ k : Nat, k ≤ 8 ∧ s1 = .int .i64 k ∧ wr.ownsRow base 5 1 s0 (n + k) (B8 (xs ++ (encR r).take k)) ∧ Grew w wr v s0 ∧ base ≤ wr.heap.size) (fun _ s1 _ => 8 - (intOf s1).toNat)
  case atStart => exact ⟨0, Nat.zero_le _, rfl, by simpa [esc] using hown, Grew.refl _ _, hb⟩
  case round =>
    obtain ⟨k, hk, rfl, ho, hg, hbr⟩ := hrel
    by_cases hlt : k < 8
    · have h1 : (k : Int) < 8 := by omega
      obtain ⟨b, hbb⟩ : ∃ b : UInt8, b = UInt8.ofNat (u / 256 ^ (7 - k) % 256) := ⟨_, rfl⟩
      have Hnew : Hid ((encR r).take (k + 1) = (encR r).take k ++ [b]) := by show _ = _; rw [HR.out, be_succ u 8 k hlt, hbb]
      have Hsrc : Hid (∀ wa : World, Src Tryd.prog 1 32 (.slice (some ⟨wa.heap.size, 0, none⟩) 1 1) 1 (B8 [b]) (wa.alloc (.cells #[.int .u8 ((u : Int) / 2 ^ (8 * (7 - k)) % 256)] 5))) := fun wa => src_one wa _ b (by
        rw [hbb, UInt8.toNat_ofNat_of_lt' (Nat.mod_lt _ (by decide)), Int.natCast_emod, Int.natCast_ediv]
        have : (256 : Nat) ^ (7 - k) = 2 ^ (8 * (7 - k)) := by rw [show (256 : Nat) = 2 ^ 8 from rfl, ← Nat.pow_mul]
        rw [this]; simp)
      clear hbb
      go_wp2_with (at_builtin; go_must (refine wpList_append_grew _ rfl _ _ 32 32 rfl base 5 i0 (.int .u8 0) 1 1 Tryd.underlying32 hi hz0 hz1 hz2 rfl _ _ _ rfl (ho.alloc _) _ 1 (B8 [b]) rfl (Hsrc.out _) (by unfold maxLen; omega) (by omega) (by rw [World.size_alloc]; omega) ?_; intro v1 w1 ho1 hg1))
      go_roundw
      case rel =>
        refine ⟨k + 1, by omega, by go_num, ?_, hg.trans hg1.alloc, ?_⟩
        · rw [Hnew.out, ← List.append_assoc, B8_append _ [_], ← Nat.add_assoc]
          exact ho1
        · have h1 := hg1.rows.size; rw [World.size_alloc] at h1; omega
      case measure => simp [intOf]; omega
    · obtain rfl : k = 8 := by omega
      have e : (encR r).take 8 = encR r := List.take_of_length_le (by rw [HR.out, be_length]; exact Nat.le_refl _)
      rw [e] at ho
      clear e
      go_wp2_with fail
      go_ret
      exact ⟨_, rfl, ho, hg⟩
end Go.Proofs.YtniilnifhgdhcaaDoor
