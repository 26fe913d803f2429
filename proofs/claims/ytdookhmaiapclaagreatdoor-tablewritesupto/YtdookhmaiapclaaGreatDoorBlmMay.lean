/-
  CONTRACT: May.
-/
import Derived.Test.YtdookhmaiapclaaGreatDoorBlmOps
import Derived.Test.YtdookhmaiapclaaGreatDoorBlmIx
namespace Go.Proofs.YtdookhmaiapclaaGreatDoor
open Go.RowKit

theorem and_pow (x i : Nat) : x &&& 2 ^ i = (x.testBit i).toNat * 2 ^ i := by
  apply Nat.eq_of_testBit_eq
  intro j
  rw [Nat.testBit_and, Nat.testBit_two_pow]
  by_cases e : i = j
  · subst e
    cases h : x.testBit i
    · simp
    · simp
  · cases h : x.testBit i
    · simp [e]
    · simp [e]
theorem and_word (x : UInt8) (p : Nat) : ∃ z : Int, bits BinOp.and IntKind.u8 (x.toNat : Int) ((2 ^ (p % 8) : Nat) : Int) = z ∧ (x.toNat.testBit (p % 8) = true → z ≠ 0) ∧ (x.toNat.testBit (p % 8) = false → z = 0) := by
  refine ⟨_, u8_and_nat _ _ x.toNat_lt (Nat.pow_lt_pow_right (n := 8) (by decide) (Nat.mod_lt _ (by decide))), fun h => ?_, fun h => ?_⟩
  · rw [and_pow, h]
    have : 0 < 2 ^ (p % 8) := Nat.two_pow_pos _
    simp only [Bool.toNat_true, Nat.one_mul]
    omega
  · rw [and_pow, h]
    simp
set_option maxRecDepth 100000 in
set_option maxHeartbeats 1000000 in
theorem may_any {w : World} {m : FM} {k : Nat} {l : List UInt8} (h : FAt w m k l) (ao : Option Addr) (b : List UInt8) (cap : Nat) (hb : b.length ≤ 140737488354000) (hcap : b.length ≤ cap) (hs : Sees w ao b) :
    Calls Tryz.prog 42 #[m.v, .slice ao b.length cap] w fun e w' => e = .returned (.bool (mayK l (sumB b 0#64) k)) ∧ Below w.heap.size w w' := by
  have M := made_any h
  have P := placer_any h ao b cap hb hcap hs
  have c0 := h.c0
  have hlen := h.len
  have hk2 := h.k2
  generalize sumB b 0#64 = hh at *
  go_enter Tryz.func42, Tryz.ntmps42
  go_wp2_with fail
  refine M.mono ?_
  rintro e w1 ⟨rfl, rfl⟩
  go_wp2_with fail
  refine P.mono ?_
  rintro e w1 ⟨v, rfl, ⟨pa, pb, pc, rfl, Ha, Hb, Hc, la, lb, lc⟩, hB⟩
  have h1 := h.below hB (Nat.le_refl _)
  have c01 := h1.c0
  clear M P
  go_wp2_with fail
  go_loopw [18] (fun s18 wr => ∃ i : Nat, i ≤ k ∧ s18 = .int .i64 (i : Int) ∧ mayK l hh i = true ∧ Below w1.heap.size w1 wr) (fun s18 _ => k - (intOf s18).toNat)
  case atStart => exact ⟨0, Nat.zero_le _, rfl, rfl, Below.refl _ _⟩
  case round =>
    obtain ⟨i, hi, rfl, hm, hW⟩ := hrel
    have hj : FAt wr m k l := h1.below hW (Nat.le_refl _)
    have Ka : Half wr pa hh.1 := Ha.carry (hW.block _ Ha.lt)
    have Kb : Half wr pb hh.2 := Hb.carry (hW.block _ Hb.lt)
    have Kc : Half wr pc (BitVec.ofNat 64 (8 * l.length)) := Hc.carry (hW.block _ Hc.lt)
    have HB : Hid (Below w1.heap.size w1 wr) := hW
    clear hW
    rcases Nat.lt_or_ge i k with hlt | hge
    · have L := place_any (n := l.length) Ka Kb Kc h.pos h.len i (by omega)
      go_wp2_with fail
      refine L.mono ?_
      rintro e w2 ⟨rfl, rfl⟩
      clear L
      have hpl := plc_lt hh l.length i h.pos
      have hms := may_step l hh i
      have hml := fun hf => may_less (l := l) (h := hh) hlt hf
      generalize plc hh l.length i = p at *
      have Hql : Hid (p / 8 < l.length) := by show _ < _; omega
      have B : Hid (∀ w, Calls Tryz.prog 76 #[.int .i64 (p : Int)] w fun e w' => e = .returned (.int .u8 ((2 ^ (p % 8) : Nat) : Int)) ∧ w' = w) := fun w => bit_any p (by omega) w
      obtain ⟨z, O, z1, z0⟩ := and_word (l.getD (p / 8) 0) p
      have hp3 : p ≤ 3200000 := by omega
      have hq8 : (p : Int) / 8 = ((p / 8 : Nat) : Int) := by omega
      have hwq : Hid (IntKind.i64.wrap ((p / 8 : Nat) : Int) = ((p / 8 : Nat) : Int)) := by show _ = _; rw [IntKind.wrap_i64]; omega
      have hhp : hasP l p = (l.getD (p / 8) 0).toNat.testBit (p % 8) := rfl
      have cb := hj.byte Hql.out
      have c11 := hj.c1
      rw [← hhp] at z1 z0
      clear hhp
      have IX : ∀ w, (Instr.indexAt 29 (.slice (some ⟨m.g, 0, none⟩) l.length m.cap) (.int .i64 ((p / 8 : Nat) : Int))).run Tryz.prog w = .ok (.pointer (some ⟨m.g, p / 8, none⟩)) w := fun w => index_byte _ _ _ _ Hql.out w
      generalize p / 8 = q at *
      generalize l.getD q 0 = x at *
      generalize ((2 ^ (p % 8) : Nat) : Int) = y at *
      cases hp : hasP l p
      · obtain rfl := z0 hp
        have hr := hml hp
        clear z1 z0 hml hms
        go_wp2_with fail
        refine wp_region_still_tail 11 (by kernel_rfl) (by kernel_rfl) ?_
        simp only [List.take_succ_cons, List.take_zero, List.drop_succ_cons, List.drop_zero]
        iterate 6 (refine wpStill_step (fun K hK => ?_); go_simp; (first | (refine hK _ ?_) | (refine ⟨_, B.out _, hK _ ?_⟩)); clear hK K)
        rw [hwq.out]
        refine still_ix rfl rfl rfl rfl (IX _) ?_
        iterate 4 (refine wpStill_step (fun K hK => ?_); go_simp; (first | (refine hK _ ?_) | (refine ⟨_, B.out _, hK _ ?_⟩)); clear hK K)
        refine wpStill_nil ?_
        go_wp2_with fail
        go_ret
        exact ⟨ret_bool hr.symm, (hB.trans (HB.out.mono hB.size)).drew⟩
      · have hz := z1 hp
        rw [hm, hp] at hms
        clear z1 z0 hml
        go_wp2_with fail
        refine wp_region_still_tail 11 (by kernel_rfl) (by kernel_rfl) ?_
        simp only [List.take_succ_cons, List.take_zero, List.drop_succ_cons, List.drop_zero]
        iterate 6 (refine wpStill_step (fun K hK => ?_); go_simp; (first | (refine hK _ ?_) | (refine ⟨_, B.out _, hK _ ?_⟩)); clear hK K)
        rw [hwq.out]
        refine still_ix rfl rfl rfl rfl (IX _) ?_
        iterate 4 (refine wpStill_step (fun K hK => ?_); go_simp; (first | (refine hK _ ?_) | (refine ⟨_, B.out _, hK _ ?_⟩)); clear hK K)
        refine wpStill_nil ?_
        go_wp2_with fail
        exact ⟨⟨i + 1, by omega, by simp, hms, HB.out.drew⟩, by simp only [intOf]; omega⟩
    · obtain rfl : i = k := by omega
      go_wp2_with fail
      go_ret
      exact ⟨ret_bool hm.symm, hB.trans (HB.out.mono hB.size)⟩
end Go.Proofs.YtdookhmaiapclaaGreatDoor
