/-
  THE DOCUMENT'S FILTER: New, Add.
-/
import Derived.Test.YtblblngcmgdnnaaBlmRef
import Derived.Test.YtblblngcmgdnnaaBlmNew
import Derived.Test.YtblblngcmgdnnaaBlmAdd
namespace Go.Proofs.Ytblblngcmgdnnaa
open Go.RowKit

theorem refNew_bad (n b : Int) (h : n < 0 ∨ 100000 < n ∨ b < 1 ∨ 32 < b) (w : World) : Calls Try.prog 7 #[.int .i64 n, .int .i64 b] w fun e w' => e = .returned (.pointer none) ∧ w' = w := by
  go_enter Try.func7, Try.ntmps7
  go_wp2
  all_goals (go_ret; exact ⟨rfl, rfl⟩)
set_option maxHeartbeats 1000000 in
theorem refNew_num (n b p k q : Nat) (hn : n ≤ 100000) (hb1 : 1 ≤ b) (hb2 : b ≤ 32) (hm : wrap64 ((n : Int) * (b : Int)) = (p : Int)) (hp : p ≤ 3200000) (hk : k = kOf b) (hq : q = max ((p + 7) / 8) 1) (w w1 : World)
    (M : (Instr.makeSlice 29 (.int .i64 (q : Int)) (.int .i64 (q : Int))).run Try.prog w = .ok (.slice (some ⟨w.heap.size, 0, none⟩) q q) w1) :
    Calls Try.prog 7 #[.int .i64 (n : Int), .int .i64 (b : Int)] w fun e w' => e = .returned (.pointer (some ⟨w1.heap.size, 0, none⟩)) ∧ w' = w1.alloc (.cells #[.int .i64 (k : Int), .slice (some ⟨w.heap.size, 0, none⟩) q q] 39) := by
  unfold kOf at hk
  have M1 : (p + 7) / 8 < 1 → (Instr.makeSlice 29 (.int .i64 1) (.int .i64 1)).run Try.prog w = .ok (.slice (some ⟨w.heap.size, 0, none⟩) q q) w1 := fun h => by
    rw [← M, show (q : Int) = 1 by omega]
  have M2 : 1 ≤ (p + 7) / 8 → (Instr.makeSlice 29 (.int .i64 (((p : Int) + 7) / 8)) (.int .i64 (((p : Int) + 7) / 8))).run Try.prog w = .ok (.slice (some ⟨w.heap.size, 0, none⟩) q q) w1 := fun h => by
    rw [← M, show (q : Int) = ((p : Int) + 7) / 8 by omega]
  clear M
  go_enter Try.func7, Try.ntmps7
  go_wp2
  all_goals (first | rw [M1 (by omega)] | rw [M2 (by omega)])
  all_goals go_wp2
  all_goals go_ret
  all_goals (refine ⟨rfl, ?_⟩)
  all_goals (first | rw [show (k : Int) = 1 by omega] | rw [show (k : Int) = 16 by omega] | rw [show (k : Int) = (b : Int) * 7 / 10 by omega])
  all_goals rw [← hq]
theorem refNew_any (n b : Nat) (hn : n ≤ 100000) (hb1 : 1 ≤ b) (hb2 : b ≤ 32) (w : World) : Calls Try.prog 7 #[.int .i64 (n : Int), .int .i64 (b : Int)] w fun e w' => ∃ m : FM, e = .returned m.v ∧ RAt w' m (kOf b) (List.replicate (nOf n b) 0) ∧ w.heap.size ≤ m.d ∧ w.heap.size ≤ m.g ∧ w.grownBy w' none := by
  have hp : n * b ≤ 3200000 := Nat.le_trans (Nat.mul_le_mul hn hb2) (by decide)
  have hq1 : nOf n b ≤ 400000 := by unfold nOf; omega
  have hq0 : 1 ≤ nOf n b := by unfold nOf; omega
  have hk : 1 ≤ kOf b ∧ kOf b ≤ 16 := by unfold kOf; omega
  obtain ⟨w1, M, hb, hg⟩ := make_row (nOf n b) (by omega) w
  refine (refNew_num n b (n * b) (kOf b) (nOf n b) hn hb1 hb2 ?_ hp rfl rfl w w1 M).mono ?_
  · rw [← Int.natCast_mul]
    unfold wrap64
    omega
  · rintro e w' ⟨rfl, rfl⟩
    have hlt := hb.lt
    refine ⟨⟨w1.heap.size, w.heap.size, nOf n b, []⟩, rfl, ⟨?_, ?_, ?_, by rw [List.length_replicate]; exact hq0, by rw [List.length_replicate]; exact hq1, hk.1, hk.2⟩, hg.size, Nat.le_refl _, ?_⟩
    · rw [List.length_replicate]
      exact Blk.new w1 _ _
    · rw [List.append_nil]
      exact hb.alloc _
    · show w1.heap.size ≠ w.heap.size
      omega
    · exact ⟨hg.os, hg.tape, hg.output, Nat.le_trans hg.size (by simp), fun i hi hne => (Below.heap_alloc _ _ _ (Nat.lt_of_lt_of_le hi hg.size)).trans (hg.block i hi hne)⟩
set_option maxRecDepth 100000 in
set_option maxHeartbeats 1000000 in
theorem refAdd_any {w : World} {m : FM} {k : Nat} {l : List UInt8} (h : RAt w m k l) (ao : Option Addr) (b : List UInt8) (cap : Nat) (hb : b.length ≤ 140737488354000) (hs : Sees w ao b) :
    Calls Try.prog 16 #[m.v, .slice ao b.length cap] w fun e w' => e = .returned (.tuple #[]) ∧ RAt w' m k (addK l (sumB b 0#64) k) ∧ w.grownBy w' (some m.g) := by
  have P := refPlaces_any h ao b cap hb hs
  have hlen := h.len
  have hk1 := h.k1
  have hk2 := h.k2
  have hgl := h.bits.lt
  generalize sumB b 0#64 = hh at *
  go_enter Try.func16, Try.ntmps16
  go_wp2_with fail
  refine P.mono ?_
  rintro e w1 ⟨v, rfl, ho, hB⟩
  obtain ⟨g, cp, rfl, hg, hgl1, hcells⟩ := owns_ints ho (by omega)
  have h1 := h.below hB (Nat.le_refl _)
  have HC := show Hid (∀ (i z : Nat), (plcs hh l.length k)[i]? = some z → w1.cell? ⟨g, i, none⟩ = some (.int .i64 (z : Int))) from hcells
  clear P ho hcells
  go_wp2_with fail
  go_loopw [10] (fun s10 wr => ∃ i : Nat, i ≤ k ∧ s10 = .int .i64 (i : Int) ∧ RAt wr m k (addK l hh i) ∧ w1.grownBy wr (some m.g)) (fun s10 _ => k - (intOf s10).toNat)
  case atStart => exact ⟨0, Nat.zero_le _, rfl, h1, ⟨rfl, rfl, rfl, Nat.le_refl _, fun _ _ _ => rfl⟩⟩
  case round =>
    obtain ⟨i, hi, rfl, hF, hgr⟩ := hrel
    rcases Nat.lt_or_ge i k with hlt | hge
    · have hci : wr.cell? ⟨g, i, none⟩ = some (.int .i64 (plc hh l.length i : Int)) := (World.cell?_of_block (a := ⟨g, i, none⟩) (hgr.block g hgl1 (fun e => by have := Option.some.inj e; omega))).trans (HC.out i _ (plcs_at hh l.length k i hlt))
      have hpl := plc_lt hh l.length i h.pos
      have hadd := add_step l hh i
      generalize plc hh l.length i = p at *
      have hl2 : (addK l hh i).length = l.length := addK_length _ _ _
      generalize addK l hh i = l2 at *
      have c1 := hF.c1
      rw [hl2] at c1
      have Hd8 : Hid (p / 8 < l2.length) := by show _ < _; omega
      have hp3 : p ≤ 3200000 := by omega
      have O := or_word (l2.getD (p / 8) 0) p
      have hst : setP l2 p = l2.set (p / 8) (orP (l2.getD (p / 8) 0) p) := rfl
      have cb := hF.byte Hd8.out
      have fr := hF.bits.frozen (p / 8)
      have hq8 : (p : Int) / 8 = ((p / 8 : Nat) : Int) := by omega
      have hwq : Hid (IntKind.i64.wrap ((p / 8 : Nat) : Int) = ((p / 8 : Nat) : Int)) := by show _ = _; rw [IntKind.wrap_i64]; omega
      have hwr : Hid ((p : Int).tmod 8 = ((p % 8 : Nat) : Int)) := tmod_nat p 8
      have hur : Hid (IntKind.u64.wrap ((p % 8 : Nat) : Int) = ((p % 8 : Nat) : Int)) := by show _ = _; rw [IntKind.wrap_u64]; omega
      have IX : Hid (∀ w, (Instr.indexAt 29 (.slice (some ⟨m.g, 0, none⟩) l.length m.cap) (.int .i64 ((p / 8 : Nat) : Int))).run Try.prog w = .ok (.pointer (some ⟨m.g, p / 8, none⟩)) w) := fun w => index_byte _ _ _ _ (by omega) w
      have SH : Hid (∀ w, (binOp .shl 5 (.int .u8 1) (.int .u64 ((p % 8 : Nat) : Int))).run Try.prog w = .ok (.int .u8 ((2 ^ (p % 8) : Nat) : Int)) w) := fun w => run_shl _ _ (Nat.mod_lt _ (by decide)) w
      generalize p / 8 = q at *
      generalize l2.getD q 0 = x at *
      generalize ((2 ^ (p % 8) : Nat) : Int) = y at *
      generalize p % 8 = r at *
      go_upto_region 3 with fail
      refine wp_region_lit ?_
      iterate 6 (refine wpList_plain rfl fun K hK => ?_; go_simp; refine hK _ _ ?_; clear hK K)
      rw [hwq.out]
      refine wpList_ix rfl rfl rfl rfl (IX.out _) ?_
      iterate 3 (refine wpList_plain rfl fun K hK => ?_; go_simp; refine hK _ _ ?_; clear hK K)
      rw [hwr.out]
      refine wpList_plain rfl fun K hK => ?_
      go_simp
      refine hK _ _ ?_
      clear hK K
      rw [hur.out]
      refine wpList_bin rfl rfl (.inr rfl) rfl rfl (SH.out _) ?_
      refine wpList_plain rfl fun K hK => ?_
      go_simp
      refine hK _ _ ?_
      clear hK K
      refine wpList_ix rfl rfl rfl rfl (IX.out _) ?_
      go_wp2_with fail
      have hg' := grownBy_setCell (i := q) (v := .int .u8 ((orP x p).toNat : Int)) hgr
      refine ⟨⟨i + 1, by omega, by simp, ?_, hg'⟩, by simp only [intOf]; omega⟩
      rw [← hadd, hst]
      exact hF.set Hd8.out _
    · obtain rfl : i = k := by omega
      go_wp2_with fail
      go_end0
      exact ⟨rfl, hF, below_grown hB hgr⟩
end Go.Proofs.Ytblblngcmgdnnaa
