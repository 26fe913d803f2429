/-
  CONTRACTS: the program's reader: a row, the end.
-/
import Derived.Test.YtniilnifhgdhcaaDoorKeyReader
namespace Go.Proofs.YtniilnifhgdhcaaDoor
open Go.RowKit

def pad (r : List UInt8) (i : Nat) : List UInt8 := r.take i ++ List.replicate (i - r.length) 0
theorem pad_len (r : List UInt8) (i : Nat) : (pad r i).length = i := by unfold pad; rw [List.length_append, List.length_take, List.length_replicate]; omega
theorem pad_full (r : List UInt8) (i : Nat) (h : i ≤ r.length) : pad r i = r.take i := by unfold pad; rw [Nat.sub_eq_zero_of_le h]; simp
theorem pad_succ (r : List UInt8) (i : Nat) (b : Bool) : pad r (i + 1) = pad r i ++ [(nx (r.drop i) b).1] := by
  by_cases h : i < r.length
  · rw [pad_full _ _ h, pad_full _ _ (by omega), List.take_succ_eq_append_getElem h, List.drop_eq_getElem_cons h]; rfl
  · rw [List.drop_eq_nil_of_le (by omega)]
    unfold pad
    rw [List.take_of_length_le (by omega), List.take_of_length_le (by omega), show i + 1 - r.length = (i - r.length) + 1 by omega, List.replicate_succ', List.append_assoc]; rfl
theorem unbe_snoc (l : List UInt8) (c : UInt8) : unbe (l ++ [c]) = unbe l * 256 + c.toNat := by unfold unbe; rw [List.foldl_append]; rfl
theorem unbe_lt0 (l : List UInt8) : unbe l < 256 ^ l.length := by have := unbe_lt l 0; simpa [unbe] using this
theorem nx_drop (r : List UInt8) (i : Nat) (b : Bool) : (nx (r.drop i) (b || decide (r.length < i))).2.1 = r.drop (i + 1) ∧ (nx (r.drop i) (b || decide (r.length < i))).2.2 = (b || decide (r.length < i + 1)) := by
  by_cases h : i < r.length
  · rw [List.drop_eq_getElem_cons h]
    refine ⟨rfl, ?_⟩
    show (b || decide (r.length < i)) = _
    rw [decide_eq_false (by omega : ¬ r.length < i), decide_eq_false (by omega : ¬ r.length < i + 1)]
  · rw [List.drop_eq_nil_of_le (by omega), List.drop_eq_nil_of_le (by omega)]
    refine ⟨rfl, ?_⟩
    show true = _
    rw [decide_eq_true (by omega : r.length < i + 1)]; simp
theorem or_low (U c : Nat) (hc : c < 256) : (U * 256) ||| c = U * 256 + c := by
  have e : U * 256 = U <<< 8 := by rw [Nat.shiftLeft_eq]
  rw [e, Nat.shiftLeft_add_eq_or_of_lt (by omega)]
theorem or_step (U c : Nat) (hc : c < 256) (hU : U < 72057594037927936) : bits BinOp.or IntKind.u64 ((U : Int) * 256) (c : Int) = ((U * 256 + c : Nat) : Int) := by
  have e : (U : Int) * 256 = ((U * 256 : Nat) : Int) := by omega
  rw [e, u64_or_nat _ _ (by omega) (by omega), or_low U c hc]
theorem row_back (U : Nat) (h : U < 18446744073709551616) : wrap64 (bits BinOp.xor IntKind.u64 (U : Int) 9223372036854775808) = (U : Int) - 9223372036854775808 := by
  have e2 : (9223372036854775808 : Int) = ((9223372036854775808 : Nat) : Int) := rfl
  rw [e2, u64_xor_nat _ _ h (by decide), xor_top _ h]
  unfold wrap64
  split
  · omega
  · omega
set_option maxRecDepth 100000 in
set_option maxHeartbeats 2000000 in
theorem rowRead_any (B R : Nat) (r : List UInt8) (b : Bool) (w : World) (h : Rdr B w R r b) (hl : r.length ≤ 100000) :
    Calls Tryd.prog 37 #[.pointer (some ⟨R, 0, none⟩)] w fun e w' => e = .returned (.int .i64 (decR (pad r 8))) ∧ w.grownBy w' (some R) ∧ Rdr B w' R (r.drop 8) (b || decide (r.length < 8)) := by
  go_enter Tryd.func37, Tryd.ntmps37
  go_wp2_with fail
  go_loopw [3, 4] (fun s3 s4 wr => ∃ i U : Nat, i ≤ 8 ∧ s4 = .int .i64 i ∧ s3 = .int .u64 U ∧ U = unbe (pad r i) ∧ Rdr B wr R (r.drop i) (b || decide (r.length < i)) ∧ w.grownBy wr (some R)) (fun _ s4 _ => 8 - (intOf s4).toNat)
  case atStart => exact ⟨0, 0, by omega, rfl, rfl, by simp [pad, unbe], by simpa using h, grown_refl w _⟩
  case round =>
    obtain ⟨i, U, hi, rfl, rfl, hU, hR, hg⟩ := hrel
    have hUb : U < 256 ^ i := by rw [hU]; have := unbe_lt0 (pad r i); rwa [pad_len] at this
    have HU : Hid (U = unbe (pad r i)) := hU
    have HG : Hid (w.grownBy wr (some R)) := hg
    by_cases hlt : i < 8
    · have hU56 : U < 72057594037927936 := Nat.lt_of_lt_of_le hUb (Nat.le_trans (Nat.pow_le_pow_right (by omega) (by omega : i ≤ 7)) (by decide))
      have N : Hid (Calls Tryd.prog 47 #[.pointer (some ⟨R, 0, none⟩)] wr fun e w' => e = .returned (.int .u8 ((nx (r.drop i) (b || decide (r.length < i))).1.toNat : Int)) ∧ wr.grownBy w' (some R) ∧ Rdr B w' R (nx (r.drop i) (b || decide (r.length < i))).2.1 (nx (r.drop i) (b || decide (r.length < i))).2.2) := next_any _ R _ _ wr hR (by rw [List.length_drop]; omega)
      rw [(nx_drop r i b).1, (nx_drop r i b).2] at N
      have HP : Hid (unbe (pad r (i + 1)) = U * 256 + (nx (r.drop i) (b || decide (r.length < i))).1.toNat) := by show _ = _; rw [pad_succ r i (b || decide (r.length < i)), unbe_snoc, ← hU]
      have hcb := (nx (r.drop i) (b || decide (r.length < i))).1.toNat_lt
      generalize (nx (r.drop i) (b || decide (r.length < i))).1.toNat = c at *
      have hc : c < 256 := hcb
      have hci : (c : Int) < 256 := by omega
      have hUi : (U : Int) < 72057594037927936 := by omega
      obtain ⟨u, hu⟩ : ∃ u : Int, u = (U : Int) := ⟨_, rfl⟩
      obtain ⟨z, hz⟩ : ∃ z : Int, z = (c : Int) := ⟨_, rfl⟩
      have hu0 : 0 ≤ u := by omega
      have hz0 : 0 ≤ z := by omega
      rw [← hu] at hUi
      rw [← hz] at hci N
      have Hu : Hid (u = (U : Int)) := hu
      have Hz : Hid (z = (c : Int)) := hz
      rw [← hu]
      clear hcb hU hR hg hUb hU56 hc hu hz
      go_wp2_with fail
      refine N.out.mono ?_
      rintro y w1 ⟨rfl, hg1, hR1⟩
      go_wp2_with fail
      refine ⟨⟨i + 1, U * 256 + c, by omega, by go_num, ?_, HP.out.symm, hR1, grown_trans HG.out hg1⟩, by simp [intOf]; omega⟩
      rw [Hu.out, Hz.out]
      exact congrArg _ (or_step U c (by have := Hz.out; omega) (by have := Hu.out; omega))
    · obtain rfl : i = 8 := by omega
      have HF := row_back U (Nat.lt_of_lt_of_le hUb (by decide))
      have HFF : Hid (wrap64 (bits BinOp.xor IntKind.u64 (U : Int) 9223372036854775808) = (U : Int) - 9223372036854775808) := HF
      have HD : Hid ((U : Int) - 9223372036854775808 = decR (pad r 8)) := by show _ = (unbe (pad r 8) : Int) - _; rw [← hU]
      clear hU hg HF hUb
      go_wp2_with fail
      go_ret
      exact ⟨ret_int (HFF.out.trans HD.out), HG.out, hR⟩
theorem done_any (B R : Nat) (r : List UInt8) (b : Bool) (w : World) (h : Rdr B w R r b) (hl : r.length ≤ 100000) :
    Calls Tryd.prog 38 #[.pointer (some ⟨R, 0, none⟩)] w fun e w' => e = .returned (.bool (!b && decide (r.length = 0))) ∧ w' = w := by
  obtain ⟨_, ao, cap, h, _⟩ := h
  have c0 := h.c0
  have c1 := h.c1
  have hi : (r.length : Int) ≤ 100000 := by omega
  clear h
  cases b
  · by_cases h0 : r.length = 0
    · have e : ((r.length : Int) == 0) = true := by rw [beq_iff_eq]; omega
      go_enter Tryd.func38, Tryd.ntmps38
      go_wp2_with fail
      go_ret
      exact ⟨ret_bool (by rw [decide_eq_true h0]; rfl), rfl⟩
    · have e : ((r.length : Int) == 0) = false := by rw [beq_eq_false_iff_ne]; omega
      go_enter Tryd.func38, Tryd.ntmps38
      go_wp2_with fail
      go_ret
      exact ⟨ret_bool (by rw [decide_eq_false h0]; rfl), rfl⟩
  · go_enter Tryd.func38, Tryd.ntmps38
    go_wp2_with fail
    go_ret
    exact ⟨rfl, rfl⟩
end Go.Proofs.YtniilnifhgdhcaaDoor
