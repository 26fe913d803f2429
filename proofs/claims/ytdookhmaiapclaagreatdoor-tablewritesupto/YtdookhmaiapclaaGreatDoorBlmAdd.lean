/-
  CONTRACT: Add.
-/
import Derived.Test.YtdookhmaiapclaaGreatDoorBlmOps
import Derived.Test.YtdookhmaiapclaaGreatDoorBlmIx
namespace Go.Proofs.YtdookhmaiapclaaGreatDoor
open Go.RowKit

/-- A round of Add, over plain numbers. -/
theorem or_word (x : UInt8) (p : Nat) : bits BinOp.or IntKind.u8 (x.toNat : Int) ((2 ^ (p % 8) : Nat) : Int) = ((orP x p).toNat : Int) := by
  rw [orP_toNat]
  exact u8_or_nat _ _ x.toNat_lt (Nat.pow_lt_pow_right (n := 8) (by decide) (Nat.mod_lt _ (by decide)))
set_option maxRecDepth 100000 in
set_option maxHeartbeats 1000000 in
theorem add_any {w : World} {m : FM} {k : Nat} {l : List UInt8} (h : FAt w m k l) (ao : Option Addr) (b : List UInt8) (cap : Nat) (hb : b.length ≤ 140737488354000) (hcap : b.length ≤ cap) (hs : Sees w ao b) :
    Calls Tryz.prog 93 #[m.v, .slice ao b.length cap] w fun e w' => e = .returned (.tuple #[]) ∧ FAt w' m k (addK l (sumB b 0#64) k) ∧ w.grownBy w' (some m.g) := by
  have M := made_any h
  have P := placer_any h ao b cap hb hcap hs
  have c0 := h.c0
  have hlen := h.len
  have hk2 := h.k2
  have hgl := h.bits.lt
  generalize sumB b 0#64 = hh at *
  go_enter Tryz.func93, Tryz.ntmps93
  go_wp2_with fail
  refine M.mono ?_
  rintro e w1 ⟨rfl, rfl⟩
  go_wp2_with fail
  refine P.mono ?_
  rintro e w1 ⟨v, rfl, ⟨pa, pb, pc, rfl, Ha, Hb, Hc, la, lb, lc⟩, hB⟩
  have h1 := h.below hB (Nat.le_refl _)
  have c01 := h1.c0
  clear M P
  go_wp2_with fail
  go_loopw [17] (fun s17 wr => ∃ i : Nat, i ≤ k ∧ s17 = .int .i64 (i : Int) ∧ FAt wr m k (addK l hh i) ∧ w1.grownBy wr (some m.g)) (fun s17 _ => k - (intOf s17).toNat)
  case atStart => exact ⟨0, Nat.zero_le _, rfl, h1, ⟨rfl, rfl, rfl, Nat.le_refl _, fun _ _ _ => rfl⟩⟩
  case round =>
    obtain ⟨i, hi, rfl, hF, hg⟩ := hrel
    rcases Nat.lt_or_ge i k with hlt | hge
    · have L := place_any (n := l.length) (Ha.grown hg (by omega)) (Hb.grown hg (by omega)) (Hc.grown hg (by omega)) h.pos h.len i (by omega)
      go_wp2_with fail
      refine L.mono ?_
      rintro e w2 ⟨rfl, rfl⟩
      clear L
      have hpl := plc_lt hh l.length i h.pos
      have hadd := add_step l hh i
      generalize plc hh l.length i = p at *
      have hl2 : (addK l hh i).length = l.length := addK_length _ _ _
      generalize addK l hh i = l2 at *
      have c1 := hF.c1
      have Hd8 : Hid (p / 8 < l2.length) := by show _ < _; omega
      have B : Hid (∀ w, Calls Tryz.prog 76 #[.int .i64 (p : Int)] w fun e w' => e = .returned (.int .u8 ((2 ^ (p % 8) : Nat) : Int)) ∧ w' = w) := fun w => bit_any p (by omega) w
      have O := or_word (l2.getD (p / 8) 0) p
      have hp3 : p ≤ 3200000 := by omega
      have hq8 : (p : Int) / 8 = ((p / 8 : Nat) : Int) := by omega
      have hwq : Hid (IntKind.i64.wrap ((p / 8 : Nat) : Int) = ((p / 8 : Nat) : Int)) := by show _ = _; rw [IntKind.wrap_i64]; omega
      have hst : setP l2 p = l2.set (p / 8) (orP (l2.getD (p / 8) 0) p) := rfl
      have cb := hF.byte Hd8.out
      have fr := hF.bits.frozen (p / 8)
      have Hql : Hid (p / 8 < l.length) := by show _ < _; omega
      have IX : ∀ w, (Instr.indexAt 29 (.slice (some ⟨m.g, 0, none⟩) l.length m.cap) (.int .i64 ((p / 8 : Nat) : Int))).run Tryz.prog w = .ok (.pointer (some ⟨m.g, p / 8, none⟩)) w := fun w => index_byte _ _ _ _ Hql.out w
      generalize p / 8 = q at *
      generalize l2.getD q 0 = x at *
      generalize ((2 ^ (p % 8) : Nat) : Int) = y at *
      go_wp2_with fail
      refine wp_region_still_tail 12 (by kernel_rfl) (by kernel_rfl) ?_
      simp only [List.take_succ_cons, List.take_zero, List.drop_succ_cons, List.drop_zero]
      iterate 6 (refine wpStill_step (fun K hK => ?_); go_simp; (first | (refine hK _ ?_) | (refine ⟨_, B.out _, hK _ ?_⟩)); clear hK K)
      rw [hwq.out]
      refine still_ix rfl rfl rfl rfl (IX _) ?_
      iterate 4 (refine wpStill_step (fun K hK => ?_); go_simp; (first | (refine hK _ ?_) | (refine ⟨_, B.out _, hK _ ?_⟩)); clear hK K)
      refine still_ix rfl rfl rfl rfl (IX _) ?_
      refine wpStill_nil ?_
      go_wp2_with fail
      have hg' := grownBy_setCell (i := q) (v := .int .u8 ((orP x p).toNat : Int)) hg
      refine ⟨⟨i + 1, by omega, by simp, ?_, ⟨hg'.os, hg'.tape, hg'.output, hg'.size, hg'.block⟩⟩, by simp only [intOf]; omega⟩
      rw [← hadd, hst]
      exact (hF.set Hd8.out _).drew
    · obtain rfl : i = k := by omega
      go_wp2_with fail
      go_end0
      exact ⟨rfl, hF, below_grown hB hg⟩
end Go.Proofs.YtdookhmaiapclaaGreatDoor
