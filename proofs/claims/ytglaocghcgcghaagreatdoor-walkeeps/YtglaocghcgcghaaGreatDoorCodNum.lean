/-
  CONTRACTS: the codec's reader reads a number, in every state.
-/
import Derived.Test.YtglaocghcgcghaaGreatDoorMany22
import Derived.Test.YtglaocghcgcghaaGreatDoorMany13
namespace Go.Proofs.YtglaocghcgcghaaGreatDoor
open Go.RowKit

theorem grownBy_trans {w w1 w2 : World} {r : Option Nat} (h : w.grownBy w1 r) (k : w1.grownBy w2 r) : w.grownBy w2 r :=
  ⟨k.os.trans h.os, k.tape.trans h.tape, k.output.trans h.output, Nat.le_trans h.size k.size, fun i hi hne => (k.block i (Nat.lt_of_lt_of_le hi h.size) hne).trans (h.block i hi hne)⟩

set_option maxRecDepth 100000 in
set_option maxHeartbeats 400000 in
theorem number_ok (R : Nat) (ao : Option Addr) (l : List UInt8) (cap n : Nat) (w : World) (v : Nat) (r : List UInt8) (h : Rd w R ao l cap n) (hg : getN 0 0 (l.drop n) = some (v, r)) :
    Calls Tryz.prog 169 #[.pointer (some ⟨R, 0, none⟩)] w fun e w' => e = .returned (.int .u64 v) ∧ ∃ m, Rd w' R ao l cap m ∧ l.drop m = r ∧ n < m ∧ w.grownBy w' (some R) := by
  go_enter Tryz.func169, Tryz.ntmps169
  go_wp2
  go_loopw [3, 4] (fun s3 s4 wr => ∃ i acc m : Nat, i ≤ 9 ∧ acc < 2 ^ (7 * i) ∧ s3 = .int .u64 acc ∧ s4 = .int .i64 (7 * (i : Int)) ∧ Rd wr R ao l cap m ∧ getN i acc (l.drop m) = some (v, r) ∧ n ≤ m ∧ w.grownBy wr (some R)) (fun _ s4 _ => 70 - (intOf s4).toNat)
  case atStart => exact ⟨0, 0, n, by omega, by simp, rfl, rfl, h, hg, Nat.le_refl _, World.grownBy.refl _ _⟩
  case round =>
    obtain ⟨i, acc, m, hi, hacc, rfl, rfl, hR, hgm, hnm, hgr⟩ := hrel
    have hm : m < l.length := by
      rcases Nat.lt_or_ge m l.length with h1 | h1
      · exact h1
      · rw [List.drop_eq_nil_of_le h1] at hgm
        simp [getN] at hgm
    rw [List.drop_eq_getElem_cons hm, getN] at hgm
    have hb : l.getD m 0 = l[m] := by simp [List.getD, hm]
    have hoct := octet_ok R ao l cap m wr hR hm
    rw [hb] at hoct
    generalize l[m] = b at *
    have hbl := b.toNat_lt
    generalize b.toNat = x at *
    split at hgm
    · cases hgm
    · rename_i hno
      have Hg : Hid _ := hgm
      have Hacc : Hid _ := hacc
      have Hoct : Hid _ := hoct
      clear hgm hoct hb
      have Hor : Hid _ := or_text i acc x hacc hi (by omega)
      have Hno : Hid _ := hno
      have hcase : ((7 * (i : Int) == 63) = false ∧ ¬ 0 < 7 * (i : Int)) ∨ ((7 * (i : Int) == 63) = false ∧ 0 < 7 * (i : Int) ∧ ((x : Int) == 0) = false) ∨ ((7 * (i : Int) == 63) = true ∧ 0 < 7 * (i : Int) ∧ ¬ 1 < (x : Int) ∧ ((x : Int) == 0) = false) := by
        rcases (show i = 0 ∨ (0 < i ∧ i < 9) ∨ i = 9 by omega) with h1 | h1 | h1
        · exact .inl ⟨by simp; omega, by omega⟩
        · exact .inr (.inl ⟨by simp; omega, by omega, by simp; omega⟩)
        · exact .inr (.inr ⟨by simp; omega, by omega, by omega, by simp; omega⟩)
      clear hno hacc
      by_cases hx : x < 128
      · have Hend : Hid (acc + x % 128 * 2 ^ (7 * i) = v ∧ l.drop (m + 1) = r) := by
          have := Hg.out
          rw [if_pos hx] at this
          show _ ∧ _
          simpa using this
        rcases hcase with ⟨h1, h2⟩ | ⟨h1, h2, h3⟩ | ⟨h1, h2, h3, h4⟩
        all_goals
          go_wp2_with fail
          refine Calls.mono (Hid.out Hoct) ?_
          rintro e w1 ⟨rfl, hR1, hg1⟩
          go_wp2_with fail
          go_ret
          exact ⟨ret_int (by rw [Hor.out, Hend.out.1]), m + 1, hR1, Hend.out.2, by omega, grownBy_trans hgr hg1⟩
      · have Hend : Hid (getN (i + 1) (acc + x % 128 * 2 ^ (7 * i)) (l.drop (m + 1)) = some (v, r)) := by
          have := Hg.out
          rw [if_neg hx] at this
          exact this
        have Hi9 : Hid (i + 1 ≤ 9) := by
          have h9 : ¬ (i = 9 ∧ 1 < x ∨ 0 < i ∧ x = 0) := Hno.out
          show i + 1 ≤ 9
          omega
        rcases hcase with ⟨h1, h2⟩ | ⟨h1, h2, h3⟩ | ⟨h1, h2, h3, h4⟩
        · go_wp2_with fail
          refine Calls.mono (Hid.out Hoct) ?_
          rintro e w1 ⟨rfl, hR1, hg1⟩
          go_wp2_with fail
          go_roundw
          case rel => exact ⟨i + 1, _, m + 1, Hi9.out, digit_bd i acc x Hacc.out, by rw [Hor.out], by go_num, hR1, Hend.out, by omega, grownBy_trans hgr hg1⟩
          case measure => have := Hi9.out; simp [intOf]; omega
        · go_wp2_with fail
          refine Calls.mono (Hid.out Hoct) ?_
          rintro e w1 ⟨rfl, hR1, hg1⟩
          go_wp2_with fail
          go_roundw
          case rel => exact ⟨i + 1, _, m + 1, Hi9.out, digit_bd i acc x Hacc.out, by rw [Hor.out], by go_num, hR1, Hend.out, by omega, grownBy_trans hgr hg1⟩
          case measure => have := Hi9.out; simp [intOf]; omega
        · omega

set_option maxRecDepth 100000 in
set_option maxHeartbeats 400000 in
theorem number_no (R : Nat) (ao : Option Addr) (l : List UInt8) (cap n : Nat) (w : World) (u : TypeId) (pv : Value) (h : Rd w R ao l cap n) (hg : getN 0 0 (l.drop n) = none) (he : Err w u pv) (hER : R ≠ 4) :
    Calls Tryz.prog 169 #[.pointer (some ⟨R, 0, none⟩)] w fun e w' => e = .panicked [{ v := .iface u pv, recovered := false }] ∧ ∃ m, Rd w' R ao l cap m ∧ w.grownBy w' (some R) := by
  go_enter Tryz.func169, Tryz.ntmps169
  go_wp2
  go_loopw [3, 4] (fun s3 s4 wr => ∃ i acc m : Nat, i ≤ 9 ∧ acc < 2 ^ (7 * i) ∧ s3 = .int .u64 acc ∧ s4 = .int .i64 (7 * (i : Int)) ∧ Rd wr R ao l cap m ∧ getN i acc (l.drop m) = none ∧ w.grownBy wr (some R)) (fun _ s4 _ => 70 - (intOf s4).toNat)
  case atStart => exact ⟨0, 0, n, by omega, by simp, rfl, rfl, h, hg, World.grownBy.refl _ _⟩
  case round =>
    obtain ⟨i, acc, m, hi, hacc, rfl, rfl, hR, hgm, hgr⟩ := hrel
    have her : Err wr u pv := by
      unfold Err at he ⊢
      rw [World.cell?_of_block (hgr.block _ (World.block_lt_of_cell? _ _ he) (fun e => hER (Option.some.inj e).symm)), he]
    rcases Nat.lt_or_ge m l.length with hm | hm
    · rw [List.drop_eq_getElem_cons hm, getN] at hgm
      have hb : l.getD m 0 = l[m] := by simp [List.getD, hm]
      have hoct := octet_ok R ao l cap m wr hR hm
      rw [hb] at hoct
      generalize l[m] = b at *
      have hbl := b.toNat_lt
      generalize b.toNat = x at *
      have Hoct : Hid _ := hoct
      clear hoct hb
      split at hgm
      · rename_i hno
        have hcase : ((7 * (i : Int) == 63) = true ∧ 1 < (x : Int) ∧ 0 < 7 * (i : Int)) ∨ ((7 * (i : Int) == 63) = true ∧ ¬ 1 < (x : Int) ∧ 0 < 7 * (i : Int) ∧ ((x : Int) == 0) = true) ∨ ((7 * (i : Int) == 63) = false ∧ 0 < 7 * (i : Int) ∧ ((x : Int) == 0) = true) := by
          by_cases h9 : i = 9
          · by_cases hx : 1 < x
            · exact .inl ⟨by simp; omega, by omega, by omega⟩
            · exact .inr (.inl ⟨by simp; omega, by omega, by omega, by simp; omega⟩)
          · exact .inr (.inr ⟨by simp; omega, by omega, by simp; omega⟩)
        clear hno hacc hgm
        have Her : ∀ w1 : World, wr.grownBy w1 (some R) → w1.cell? ⟨4, 0, none⟩ = some (.iface u pv) := fun w1 hg1 => by
          unfold Err at her
          rw [World.cell?_of_block (hg1.block _ (World.block_lt_of_cell? _ _ her) (fun e => hER (Option.some.inj e).symm)), her]
        have Her : Hid _ := Her
        rcases hcase with ⟨h1, h2, h3⟩ | ⟨h1, h2, h3, h4⟩ | ⟨h1, h2, h3⟩
        all_goals
          go_wp2_with fail
          refine Calls.mono (Hid.out Hoct) ?_
          rintro e w1 ⟨rfl, hR1, hg1⟩
          have hc1 := Her.out w1 hg1
          go_wp2_with fail
          exact ⟨rfl, rfl, m + 1, hR1, grownBy_trans hgr hg1⟩
      · rename_i hno
        split at hgm
        · cases hgm
        · rename_i hx
          have Hend : Hid _ := hgm
          have Hor : Hid _ := or_text i acc x hacc hi (by omega)
          have Hacc : Hid _ := hacc
          have Hi9 : Hid (i + 1 ≤ 9) := by
            show i + 1 ≤ 9
            omega
          have hcase : ((7 * (i : Int) == 63) = false ∧ ¬ 0 < 7 * (i : Int)) ∨ ((7 * (i : Int) == 63) = false ∧ 0 < 7 * (i : Int) ∧ ((x : Int) == 0) = false) := by
            rcases (show i = 0 ∨ (0 < i ∧ i < 9) by omega) with h1 | h1
            · exact .inl ⟨by simp; omega, by omega⟩
            · exact .inr ⟨by simp; omega, by omega, by simp; omega⟩
          clear hno hacc hgm her
          rcases hcase with ⟨h1, h2⟩ | ⟨h1, h2, h3⟩
          · go_wp2_with fail
            refine Calls.mono (Hid.out Hoct) ?_
            rintro e w1 ⟨rfl, hR1, hg1⟩
            go_wp2_with fail
            go_roundw
            case rel => exact ⟨i + 1, _, m + 1, Hi9.out, digit_bd i acc x Hacc.out, by rw [Hor.out], by go_num, hR1, Hend.out, grownBy_trans hgr hg1⟩
            case measure => have := Hi9.out; simp [intOf]; omega
          · go_wp2_with fail
            refine Calls.mono (Hid.out Hoct) ?_
            rintro e w1 ⟨rfl, hR1, hg1⟩
            go_wp2_with fail
            go_roundw
            case rel => exact ⟨i + 1, _, m + 1, Hi9.out, digit_bd i acc x Hacc.out, by rw [Hor.out], by go_num, hR1, Hend.out, grownBy_trans hgr hg1⟩
            case measure => have := Hi9.out; simp [intOf]; omega
    · have hml : m = l.length := by have := hR.le; omega
      have Hoct : Hid _ := octet_end R ao l cap m wr u pv hR hml her
      clear hml hgm hacc
      go_wp2_with fail
      refine Calls.mono (Hid.out Hoct) ?_
      rintro e w1 ⟨rfl, k, rfl⟩
      go_wp2_with fail
      exact ⟨rfl, rfl, m, hR.drewN k, grownBy_drewN hgr k⟩
end Go.Proofs.YtglaocghcgcghaaGreatDoor
