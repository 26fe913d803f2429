/-
  CONTRACTS: the document's bytes (digit, letter, plain, hex).
-/
import Derived.Test.YtajebjkpmbehgaaGreatDoorLexQuo
namespace Go.Proofs.YtajebjkpmbehgaaGreatDoor
open Go.RowKit

/-- The place of a digit to base 16; below 0, none. -/
def hxI (x : Int) : Int := if 48 ≤ x ∧ x ≤ 57 then x - 48 else if 65 ≤ x ∧ x ≤ 70 then x - 55 else -1
theorem hxI_B (b : UInt8) : hxI (b.toNat : Int) = ixH b := by
  unfold hxI ixH hexB
  by_cases h : 48 ≤ b.toNat ∧ b.toNat ≤ 57
  · rw [if_pos (by omega), if_pos h]; simp only; omega
  · rw [if_neg (by omega), if_neg h]
    by_cases h2 : 65 ≤ b.toNat ∧ b.toNat ≤ 70
    · rw [if_pos (by omega), if_pos h2]; simp only; omega
    · rw [if_neg (by omega), if_neg h2]
set_option maxRecDepth 100000 in
theorem digitR_any (x : Int) (w : World) : Calls Tryz.prog 26 #[.int .u8 x] w fun e w' => e = .returned (.bool (dgI x)) ∧ w' = w := by
  unfold dgI
  by_cases h : 48 ≤ x
  · have d : decide (48 ≤ x) = true := decide_eq_true h
    go_enter Tryz.func26, Tryz.ntmps26
    go_wp2_with fail
    go_ret
    exact ⟨ret_bool (by simp [h]), rfl⟩
  · have d : decide (48 ≤ x) = false := decide_eq_false h
    go_enter Tryz.func26, Tryz.ntmps26
    go_wp2_with fail
    go_ret
    exact ⟨ret_bool (by simp), rfl⟩
set_option maxRecDepth 100000 in
theorem letterR_any (x : Int) (w : World) : Calls Tryz.prog 29 #[.int .u8 x] w fun e w' => e = .returned (.bool (ltI x)) ∧ w' = w := by
  unfold ltI
  by_cases h : 97 ≤ x
  · have d : decide (97 ≤ x) = true := decide_eq_true h
    by_cases h2 : x ≤ 122
    · have d2 : decide (x ≤ 122) = true := decide_eq_true h2
      go_enter Tryz.func29, Tryz.ntmps29
      go_wp2_with fail
      go_ret
      exact ⟨ret_bool (by simp [h, h2]), rfl⟩
    · have d2 : decide (x ≤ 122) = false := decide_eq_false h2
      have h3 : 65 ≤ x := by omega
      have d3 : decide (65 ≤ x) = true := decide_eq_true h3
      go_enter Tryz.func29, Tryz.ntmps29
      go_wp2_with fail
      go_ret
      exact ⟨ret_bool (by simp), rfl⟩
  · have d : decide (97 ≤ x) = false := decide_eq_false h
    by_cases h3 : 65 ≤ x
    · have d3 : decide (65 ≤ x) = true := decide_eq_true h3
      go_enter Tryz.func29, Tryz.ntmps29
      go_wp2_with fail
      go_ret
      exact ⟨ret_bool (by simp), rfl⟩
    · have d3 : decide (65 ≤ x) = false := decide_eq_false h3
      go_enter Tryz.func29, Tryz.ntmps29
      go_wp2_with fail
      go_ret
      exact ⟨ret_bool (by simp), rfl⟩
set_option maxRecDepth 100000 in
theorem plainR_any (x : Int) (w : World) : Calls Tryz.prog 46 #[.int .u8 x] w fun e w' => e = .returned (.bool (plI x)) ∧ w' = w := by
  unfold plI
  by_cases h : 32 ≤ x
  · have d : decide (32 ≤ x) = true := decide_eq_true h
    by_cases h2 : x ≤ 126
    · have d2 : decide (x ≤ 126) = true := decide_eq_true h2
      by_cases h3 : x = 39
      · subst h3
        go_enter Tryz.func46, Tryz.ntmps46
        go_wp2_with fail
        go_ret
        exact ⟨ret_bool rfl, rfl⟩
      · have d3 : (x == 39) = false := beq_false_of_ne h3
        by_cases h4 : x = 37
        · subst h4
          go_enter Tryz.func46, Tryz.ntmps46
          go_wp2_with fail
          go_ret
          exact ⟨ret_bool rfl, rfl⟩
        · have d4 : (x == 37) = false := beq_false_of_ne h4
          go_enter Tryz.func46, Tryz.ntmps46
          go_wp2_with fail
          go_ret
          exact ⟨ret_bool (by simp [h, h2, h3, h4]), rfl⟩
    · have d2 : decide (x ≤ 126) = false := decide_eq_false h2
      go_enter Tryz.func46, Tryz.ntmps46
      go_wp2_with fail
      go_ret
      exact ⟨ret_bool (by simp), rfl⟩
  · have d : decide (32 ≤ x) = false := decide_eq_false h
    go_enter Tryz.func46, Tryz.ntmps46
    go_wp2_with fail
    go_ret
    exact ⟨ret_bool (by simp), rfl⟩
set_option maxRecDepth 100000 in
theorem hexR_any (x : Int) (w : World) : Calls Tryz.prog 47 #[.int .u8 x] w fun e w' => e = .returned (.int .i64 (hxI x)) ∧ w' = w := by
  have CD : Hid _ := fun wr => digitR_any x wr
  unfold hxI
  cases hd : dgI x
  · rw [hd] at CD
    have hn : ¬ (48 ≤ x ∧ x ≤ 57) := by
      intro h
      unfold dgI at hd
      rw [decide_eq_true h] at hd
      cases hd
    rw [if_neg hn]
    clear hd hn
    by_cases h : 65 ≤ x
    · have d : decide (65 ≤ x) = true := decide_eq_true h
      by_cases h2 : x ≤ 70
      · have d2 : decide (x ≤ 70) = true := decide_eq_true h2
        have hE : Hid (x - 65 + 10 = x - 55) := by show _ = _; omega
        rw [if_pos ⟨h, h2⟩]
        go_enter Tryz.func47, Tryz.ntmps47
        go_wp2_with (go_at_call 26; with_reducible (refine (CD.out _).mono ?_); rintro e _ ⟨rfl, hw⟩; obtain rfl := hw.symm; clear hw)
        go_ret
        exact ⟨by rw [← hE.out]; rfl, rfl⟩
      · have d2 : decide (x ≤ 70) = false := decide_eq_false h2
        rw [if_neg (fun h => h2 h.2)]
        go_enter Tryz.func47, Tryz.ntmps47
        go_wp2_with (go_at_call 26; with_reducible (refine (CD.out _).mono ?_); rintro e _ ⟨rfl, hw⟩; obtain rfl := hw.symm; clear hw)
        go_ret
        exact ⟨rfl, rfl⟩
    · have d : decide (65 ≤ x) = false := decide_eq_false h
      rw [if_neg (fun h2 => h h2.1)]
      go_enter Tryz.func47, Tryz.ntmps47
      go_wp2_with (go_at_call 26; with_reducible (refine (CD.out _).mono ?_); rintro e _ ⟨rfl, hw⟩; obtain rfl := hw.symm; clear hw)
      go_ret
      exact ⟨rfl, rfl⟩
  · rw [hd] at CD
    have hn : 48 ≤ x ∧ x ≤ 57 := of_decide_eq_true hd
    rw [if_pos hn]
    obtain ⟨h1, h2⟩ := hn
    clear hd
    go_enter Tryz.func47, Tryz.ntmps47
    go_wp2_with (go_at_call 26; with_reducible (refine (CD.out _).mono ?_); rintro e _ ⟨rfl, hw⟩; obtain rfl := hw.symm; clear hw)
    go_ret
    exact ⟨rfl, rfl⟩
end Go.Proofs.YtajebjkpmbehgaaGreatDoor
