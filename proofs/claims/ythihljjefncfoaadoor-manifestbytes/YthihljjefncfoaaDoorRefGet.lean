/-
  CONTRACTS: the document's Get, for every argument.
-/
import Derived.Test.YthihljjefncfoaaDoorRefNum
namespace Go.Proofs.YthihljjefncfoaaDoor
open Go.RowKit

/-- What a round of the document's Get reckons. -/
theorem sum_text (i acc x : Nat) (h : acc < 2 ^ (7 * i)) (hi : i ≤ 9) (h9 : i = 9 → x ≤ 1) :
    IntKind.u64.wrap ((acc : Int) + IntKind.u64.wrap ((x : Int) % 128 * 2 ^ (7 * i))) = ((acc + x % 128 * 2 ^ (7 * i) : Nat) : Int) := by
  have hp : 2 ^ (7 * i) ≤ 2 ^ 63 := Nat.pow_le_pow_right (by omega) (by omega)
  have hy : acc + x % 128 * 2 ^ (7 * i) < 18446744073709551616 := by
    rcases Nat.lt_or_ge i 9 with h1 | h1
    · have h2 : 2 ^ (7 * i) ≤ 2 ^ 56 := Nat.pow_le_pow_right (by omega) (by omega)
      have h3 : x % 128 * 2 ^ (7 * i) ≤ 127 * 2 ^ 56 := Nat.mul_le_mul (by omega) h2
      omega
    · have hx := h9 (by omega)
      have h3 : x % 128 * 2 ^ (7 * i) ≤ 1 * 2 ^ 63 := Nat.mul_le_mul (by omega) hp
      omega
  have e : (x : Int) % 128 * 2 ^ (7 * i) = ((x % 128 * 2 ^ (7 * i) : Nat) : Int) := by simp
  rw [e, IntWalk.u64_in (((x % 128 * 2 ^ (7 * i) : Nat) : Int)) ⟨by omega, by omega⟩, ← Int.natCast_add, IntWalk.u64_in _ ⟨by omega, by omega⟩]

/-- What Get tells of bytes: the number, and how many it has. -/
def getV (l : List UInt8) : Nat := match getN 0 0 l with | some (v, _) => v | none => 0
def getK (l : List UInt8) : Nat := match getN 0 0 l with | some (_, r) => l.length - r.length | none => 0

set_option maxRecDepth 100000 in
set_option maxHeartbeats 1600000 in
theorem refGet_any (ao : Option Addr) (l : List UInt8) (cap : Nat) (w : World) (hs : Sees w ao l) (hl : l.length ≤ 140737488354000) :
    Calls Tryd.prog 32 #[.slice ao l.length cap] w fun e w' => e = .returned (.tuple #[.int .u64 (getV l), .int .i64 (getK l)]) ∧ w' = w := by
  go_enter Tryd.func32, Tryd.ntmps32
  go_wp2
  go_loop [4, 5] (fun s4 s5 => ∃ i acc : Nat, i ≤ 9 ∧ i ≤ l.length ∧ acc < 2 ^ (7 * i) ∧ s4 = .int .u64 acc ∧ s5 = .int .i64 i ∧ getN 0 0 l = getN i acc (l.drop i)) (fun _ s5 => 10 - (intOf s5).toNat)
  case atStart => exact ⟨0, 0, by omega, by omega, by simp, rfl, rfl, rfl⟩
  case round =>
    obtain ⟨i, acc, hi, hil, hacc, rfl, rfl, hg⟩ := hrel
    rcases Nat.lt_or_ge i l.length with hlt | hge
    · rw [List.drop_eq_getElem_cons hlt, getN] at hg
      obtain ⟨b, off, rfl, hc⟩ := sees_at hs hlt
      have hb : l.getD i 0 = l[i] := by simp [List.getD, hlt]
      rw [hb] at hc
      generalize l[i] = y at *
      have hbl := y.toNat_lt
      generalize y.toNat = x at *
      have Hs : Hid _ := hs
      clear hs hb
      by_cases hno : (i = 9 ∧ 1 < x) ∨ (0 < i ∧ x = 0)
      · rw [if_pos hno] at hg
        have HV : Hid (getV l = 0) := by show _ = _; unfold getV; rw [hg]
        have HK : Hid (getK l = 0) := by show _ = _; unfold getK; rw [hg]
        have hcase : ((i : Int) == 9) = true ∧ 1 < (x : Int) ∨ ((i : Int) == 9) = true ∧ ¬ 1 < (x : Int) ∧ 0 < (i : Int) ∧ ((x : Int) == 0) = true ∨ ((i : Int) == 9) = false ∧ 0 < (i : Int) ∧ ((x : Int) == 0) = true := by
          by_cases h9 : i = 9
          · by_cases hx : 1 < x
            · exact .inl ⟨by simp; omega, by omega⟩
            · exact .inr (.inl ⟨by simp; omega, by omega, by omega, by simp; omega⟩)
          · exact .inr (.inr ⟨by simp; omega, by omega, by simp; omega⟩)
        have Hacc : Hid _ := hacc
        clear hg hno hacc
        rcases hcase with ⟨h1, h2⟩ | ⟨h1, h2, h3, h4⟩ | ⟨h1, h2, h3⟩
        · go_wp2
          go_ret2
          exact ⟨by rw [HV.out, HK.out]; rfl, rfl⟩
        · have hx : (x : Int) < 128 := by omega
          go_wp2
          go_ret2
          exact ⟨by rw [HV.out, HK.out]; rfl, rfl⟩
        · have hx : (x : Int) < 128 := by have := (beq_iff_eq.1 h3 : (x : Int) = 0); omega
          go_wp2
          go_ret2
          exact ⟨by rw [HV.out, HK.out]; rfl, rfl⟩
      · rw [if_neg hno] at hg
        have Hsum : Hid _ := sum_text i acc x hacc hi (by omega)
        by_cases hx : x < 128
        · rw [if_pos hx] at hg
          have HV : Hid (getV l = acc + x % 128 * 2 ^ (7 * i)) := by show _ = _; unfold getV; rw [hg]
          have HK : Hid (getK l = i + 1) := by show _ = _; unfold getK; rw [hg]; simp; omega
          have hcase : (((i : Int) == 9) = false ∧ ¬ 0 < (i : Int)) ∨ (((i : Int) == 9) = false ∧ 0 < (i : Int) ∧ ((x : Int) == 0) = false) ∨ (((i : Int) == 9) = true ∧ 0 < (i : Int) ∧ ¬ 1 < (x : Int) ∧ ((x : Int) == 0) = false) := by
            rcases (show i = 0 ∨ (0 < i ∧ i < 9) ∨ i = 9 by omega) with h1 | h1 | h1
            · exact .inl ⟨by simp; omega, by omega⟩
            · exact .inr (.inl ⟨by simp; omega, by omega, by simp; omega⟩)
            · exact .inr (.inr ⟨by simp; omega, by omega, by omega, by simp; omega⟩)
          have Hacc : Hid _ := hacc
          clear hg hno hacc
          rcases hcase with ⟨h1, h2⟩ | ⟨h1, h2, h3⟩ | ⟨h1, h2, h3, h4⟩
          all_goals
            go_wp2
            go_ret2
            refine ⟨?_, rfl⟩
            rw [HV.out, HK.out, ← Hsum.out]
            rfl
        · rw [if_neg hx] at hg
          have Hg : Hid _ := hg
          have Hd : Hid _ := digit_bd i acc x hacc
          have Hi9 : Hid (i + 1 ≤ 9) := by show i + 1 ≤ 9; omega
          have hcase : ((i : Int) == 9) = false := by simp; omega
          clear hg hno hacc
          go_wp2
          go_round
          case rel => exact ⟨i + 1, _, Hi9.out, by omega, Hd.out, by rw [← Hsum.out], by go_num, Hg.out⟩
          case measure => have := Hi9.out; simp [intOf]; omega
    · rw [List.drop_eq_nil_of_le hge, getN] at hg
      have HV : Hid (getV l = 0) := by show _ = _; unfold getV; rw [hg]
      have HK : Hid (getK l = 0) := by show _ = _; unfold getK; rw [hg]
      clear hg hacc
      go_wp2
      go_ret2
      exact ⟨by rw [HV.out, HK.out]; rfl, rfl⟩
end Go.Proofs.YthihljjefncfoaaDoor
