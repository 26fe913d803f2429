/-
  CONTRACT: the document's Name.
-/
import Derived.Test.YtajebjkpmbehgaaGreatDoorLexQuo
namespace Go.Proofs.YtajebjkpmbehgaaGreatDoor
open Go.RowKit

set_option maxRecDepth 100000 in
set_option maxHeartbeats 2000000 in
theorem refName_any (s : ByteArray) (w : World) (hs : s.size ≤ maxLen) :
    Calls Tryz.prog 50 #[.string s] w fun e w' => e = .returned (.bool (nameB (nb s))) ∧ w' = w := by
  have hsz : (s.size : Int) ≤ 9223372036854775807 := by unfold maxLen at hs; omega
  have Hi : Hid _ := name_iff (nb s)
  have Hn : Hid _ := @name_no (nb s)
  rw [nb_size] at Hi Hn
  have Hat : Hid _ := at_nb s
  clear hs
  by_cases h0 : s.size = 0
  · go_enter Tryz.func50, Tryz.ntmps50
    go_wp2_with fail
    go_ret
    exact ⟨ret_bool (Hn.out (by omega)).symm, rfl⟩
  by_cases h16 : 16 < s.size
  · go_enter Tryz.func50, Tryz.ntmps50
    go_wp2_with fail
    go_ret
    exact ⟨ret_bool (Hn.out (by omega)).symm, rfl⟩
  have hb1 : decide ((s.size : Int) < 1) = false := decide_eq_false (by omega)
  have hb2 : decide (16 < (s.size : Int)) = false := decide_eq_false (by omega)
  have hsi : (s.size : Int) ≤ 16 := by omega
  have hpos : 0 < s.size := by omega
  have Hsz : Hid (s.size ≤ 16) := by show s.size ≤ 16; omega
  clear h0 h16
  obtain ⟨x0, hx0⟩ : ∃ x, ((s[0].toNat : Nat) : Int) = x := ⟨_, rfl⟩
  by_cases hlo : x0 < 97
  · have HF : Hid (nameB (nb s) = false) := Hn.out (fun hh => by have := hh.2.2.1; rw [Hat.out 0 hpos, hx0] at this; simp only [isL, Bool.and_eq_true, decide_eq_true_eq] at this; omega)
    have d1 : decide (x0 < 97) = true := decide_eq_true hlo
    go_enter Tryz.func50, Tryz.ntmps50
    go_wp2_with fail
    go_ret
    exact ⟨ret_bool HF.out.symm, rfl⟩
  have d1 : decide (x0 < 97) = false := decide_eq_false hlo
  by_cases hhi : 122 < x0
  · have HF : Hid (nameB (nb s) = false) := Hn.out (fun hh => by have := hh.2.2.1; rw [Hat.out 0 hpos, hx0] at this; simp only [isL, Bool.and_eq_true, decide_eq_true_eq] at this; omega)
    have d2 : decide (122 < x0) = true := decide_eq_true hhi
    go_enter Tryz.func50, Tryz.ntmps50
    go_wp2_with fail
    go_ret
    exact ⟨ret_bool HF.out.symm, rfl⟩
  have d2 : decide (122 < x0) = false := decide_eq_false hhi
  have HL0 : Hid (isL (((nb s).getD 0 0).toNat : Int) = true) := by show isL _ = true; rw [Hat.out 0 hpos, hx0]; simp only [isL, Bool.and_eq_true, decide_eq_true_eq]; omega
  go_enter Tryz.func50, Tryz.ntmps50
  go_wp2_with fail
  clear hx0 d1 d2 hlo hhi
  go_loop [3] (fun i => ∃ k : Nat, k ≤ s.size ∧ i = .int .i64 k ∧ ∀ j, j < k → okC (((nb s).getD j 0).toNat : Int) = true) (fun i => s.size - (intOf i).toNat)
  case atStart => exact ⟨0, Nat.zero_le _, rfl, fun j hj => absurd hj (Nat.not_lt_zero _)⟩
  case round =>
    obtain ⟨k, hk, rfl, hall⟩ := hrel
    have HA : Hid (∀ j, j < k → okC (((nb s).getD j 0).toNat : Int) = true) := hall
    clear hall
    by_cases hlt : k < s.size
    · obtain ⟨x, hx⟩ : ∃ x, ((s[k].toNat : Nat) : Int) = x := ⟨_, rfl⟩
      have HB : Hid (okC x = false → nameB (nb s) = false) := fun h => Hn.out fun hh => by have := hh.2.2.2 k hlt; rw [Hat.out k hlt, hx, h] at this; cases this
      have HN : Hid (okC x = true → ∀ j, j < k + 1 → okC (((nb s).getD j 0).toNat : Int) = true) := fun h j hj => by
        by_cases e : j = k
        · subst e; rw [Hat.out j hlt, hx]; exact h
        · exact HA.out j (by omega)
      have HO : Hid (okC x = (decide (97 ≤ x) && decide (x ≤ 122) || decide (48 ≤ x) && decide (x ≤ 57) || x == 95)) := rfl
      clear Hi Hn Hat HA HL0
      have hcase : (97 ≤ x ∧ x ≤ 122) ∨ (48 ≤ x ∧ x ≤ 57) ∨ x = 95 ∨ (122 < x) ∨ (57 < x ∧ x < 97 ∧ x ≠ 95) ∨ x < 48 := by omega
      rcases hcase with ⟨h1, h2⟩ | ⟨h1, h2⟩ | h1 | h1 | ⟨h1, h2, h3⟩ | h1
      · have HN' : Hid (∀ j, j < k + 1 → okC (((nb s).getD j 0).toNat : Int) = true) := HN.out (by rw [HO.out]; simp [h1, h2])
        have e1 : decide (97 ≤ x) = true := decide_eq_true h1
        have e2 : decide (x ≤ 122) = true := decide_eq_true h2
        clear HN HB HO h1 h2
        go_wp2_with fail
        go_round
        case rel => exact ⟨k + 1, by omega, by go_num, HN'.out⟩
        case measure => simp [intOf]; omega
      · have HN' : Hid (∀ j, j < k + 1 → okC (((nb s).getD j 0).toNat : Int) = true) := HN.out (by rw [HO.out]; simp [h1, h2])
        have e1 : decide (97 ≤ x) = false := decide_eq_false (by omega)
        have e3 : decide (48 ≤ x) = true := decide_eq_true h1
        have e4 : decide (x ≤ 57) = true := decide_eq_true h2
        clear HN HB HO h1 h2
        go_wp2_with fail
        go_round
        case rel => exact ⟨k + 1, by omega, by go_num, HN'.out⟩
        case measure => simp [intOf]; omega
      · subst h1
        have HN' : Hid (∀ j, j < k + 1 → okC (((nb s).getD j 0).toNat : Int) = true) := HN.out (by rw [HO.out]; rfl)
        clear HN HB HO
        go_wp2_with fail
        go_round
        case rel => exact ⟨k + 1, by omega, by go_num, HN'.out⟩
        case measure => simp [intOf]; omega
      · have e1 : decide (97 ≤ x) = true := decide_eq_true (by omega)
        have e2 : decide (x ≤ 122) = false := decide_eq_false (by omega)
        have e3 : decide (48 ≤ x) = true := decide_eq_true (by omega)
        have e4 : decide (x ≤ 57) = false := decide_eq_false (by omega)
        have e5 : (x == 95) = false := by rw [beq_eq_false_iff_ne]; omega
        have HF : Hid (nameB (nb s) = false) := HB.out (by rw [HO.out, e1, e2, e3, e4, e5]; rfl)
        clear HN HB HO h1
        go_wp2_with fail
        go_ret
        exact ⟨ret_bool HF.out.symm, rfl⟩
      · have e1 : decide (97 ≤ x) = false := decide_eq_false (by omega)
        have e3 : decide (48 ≤ x) = true := decide_eq_true (by omega)
        have e4 : decide (x ≤ 57) = false := decide_eq_false (by omega)
        have e5 : (x == 95) = false := by rw [beq_eq_false_iff_ne]; omega
        have HF : Hid (nameB (nb s) = false) := HB.out (by rw [HO.out, e1, e3, e4, e5]; rfl)
        clear HN HB HO h1 h2 h3
        go_wp2_with fail
        go_ret
        exact ⟨ret_bool HF.out.symm, rfl⟩
      · have e1 : decide (97 ≤ x) = false := decide_eq_false (by omega)
        have e3 : decide (48 ≤ x) = false := decide_eq_false (by omega)
        have e5 : (x == 95) = false := by rw [beq_eq_false_iff_ne]; omega
        have HF : Hid (nameB (nb s) = false) := HB.out (by rw [HO.out, e1, e3, e5]; rfl)
        clear HN HB HO h1
        go_wp2_with fail
        go_ret
        exact ⟨ret_bool HF.out.symm, rfl⟩
    · obtain rfl : k = s.size := by omega
      have HT : Hid (nameB (nb s) = true) := Hi.out.2 ⟨hpos, Hsz.out, HL0.out, HA.out⟩
      clear Hi Hn HA
      go_wp2_with fail
      go_ret
      exact ⟨ret_bool HT.out.symm, rfl⟩
end Go.Proofs.YtajebjkpmbehgaaGreatDoor
