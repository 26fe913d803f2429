/-
  CONTRACT: the document's answer which names are good; the law DiskNames.
-/
import Derived.Test.YtbabepnoncpdlaaDskLive
namespace Go.Proofs.Ytbabepnoncpdlaa
open Go.RowKit Go.Maps

/-- May this byte stand at this place? -/
def okB (k : Nat) (x : Int) : Bool := letterI x || (decide (0 < k) && (decide (48 ≤ x) && decide (x ≤ 57) || x == 46 || x == 45))
theorem okB_iff (k : Nat) (x : Int) : okB k x = true ↔ (97 ≤ x ∧ x ≤ 122) ∨ (0 < k ∧ ((48 ≤ x ∧ x ≤ 57) ∨ x = 46 ∨ x = 45)) := by
  simp [okB, letterI, or_assoc]
theorem good_iff (l : List UInt8) : goodB l = true ↔ 0 < l.length ∧ l.length ≤ 40 ∧ ∀ j, j < l.length → okB j ((l.getD j 0).toNat : Int) = true := by
  unfold goodB
  simp only [Bool.and_eq_true, decide_eq_true_eq, List.all_eq_true]
  constructor
  · rintro ⟨⟨⟨h1, h2⟩, h3⟩, h4⟩
    refine ⟨h1, h2, fun j hj => ?_⟩
    have hm : l.getD j 0 ∈ l := by
      rw [List.getD_eq_getElem?_getD, List.getElem?_eq_getElem hj]
      exact List.getElem_mem hj
    have ha := h4 _ hm
    by_cases h0 : j = 0
    · subst h0
      unfold okB
      rw [h3]
      rfl
    · have hp : decide (0 < j) = true := decide_eq_true (by omega)
      unfold okB
      rw [hp, Bool.true_and]
      unfold allowedI at ha
      simpa [Bool.or_assoc] using ha
  · rintro ⟨h1, h2, h3⟩
    refine ⟨⟨⟨h1, h2⟩, ?_⟩, fun c hc => ?_⟩
    · have := h3 0 h1
      simpa [okB] using this
    · obtain ⟨j, hj, rfl⟩ := List.getElem_of_mem hc
      have := h3 j hj
      rw [List.getD_eq_getElem?_getD, List.getElem?_eq_getElem hj] at this
      rw [okB_iff] at this
      simp only [Option.getD_some] at this
      unfold allowedI letterI
      simp only [Bool.or_eq_true, Bool.and_eq_true, decide_eq_true_eq, beq_iff_eq]
      omega
set_option maxRecDepth 100000 in
set_option maxHeartbeats 1000000 in
theorem refGood_any (s : ByteArray) (w : World) (hs : s.size ≤ maxLen) :
    Calls Try.prog 10 #[.string s] w fun e w' => e = .returned (.bool (goodB s.data.toList)) ∧ w' = w := by
  have hsz : (s.size : Int) ≤ 9223372036854775807 := by unfold maxLen at hs; omega
  have Hlen : Hid (s.data.toList.length = s.size) := by show _ = _; simp
  have Hg : Hid (goodB s.data.toList = true ↔ 0 < s.size ∧ s.size ≤ 40 ∧ ∀ j, j < s.size → okB j ((s.data.toList.getD j 0).toNat : Int) = true) := by
    have := good_iff s.data.toList
    rw [Hlen.out] at this
    exact this
  have Hat : Hid (∀ k (hk : k < s.size), s.data.toList.getD k 0 = s[k]) := by
    intro k hk
    have : k < s.data.toList.length := by simpa using hk
    rw [List.getD_eq_getElem?_getD, List.getElem?_eq_getElem this]
    rfl
  have Hno : Hid (∀ P : Prop, (¬ (0 < s.size ∧ s.size ≤ 40 ∧ ∀ j, j < s.size → okB j ((s.data.toList.getD j 0).toNat : Int) = true)) → goodB s.data.toList = false) := fun _ h => by
    cases hg : goodB s.data.toList
    · rfl
    · exact absurd (Hg.out.1 hg) h
  clear hs
  by_cases h0 : s.size = 0
  · go_enter Try.func10, Try.ntmps10
    go_wp2_with fail
    go_ret
    exact ⟨ret_bool (Hno.out True (by omega)).symm, rfl⟩
  by_cases h40 : 40 < s.size
  · go_enter Try.func10, Try.ntmps10
    go_wp2_with fail
    go_ret
    exact ⟨ret_bool (Hno.out True (by omega)).symm, rfl⟩
  have hb1 : decide ((s.size : Int) < 1) = false := decide_eq_false (by omega)
  have hb2 : decide (40 < (s.size : Int)) = false := decide_eq_false (by omega)
  have hsi : (s.size : Int) ≤ 40 := by omega
  have hpos : 0 < s.size := by omega
  clear h0 h40
  go_enter Try.func10, Try.ntmps10
  go_wp2_with fail
  go_loop [3] (fun i => ∃ k : Nat, k ≤ s.size ∧ i = .int .i64 k ∧ ∀ j, j < k → okB j ((s.data.toList.getD j 0).toNat : Int) = true) (fun i => s.size - (intOf i).toNat)
  case atStart => exact ⟨0, Nat.zero_le _, rfl, fun j hj => absurd hj (Nat.not_lt_zero _)⟩
  case round =>
    obtain ⟨k, hk, rfl, hall⟩ := hrel
    have HA : Hid (∀ j, j < k → okB j ((s.data.toList.getD j 0).toNat : Int) = true) := hall
    clear hall
    by_cases hlt : k < s.size
    · have HB : Hid (okB k ((s[k].toNat : Nat) : Int) = false → goodB s.data.toList = false) := fun h => Hno.out True fun hh => by have := hh.2.2 k hlt; rw [Hat.out k hlt, h] at this; cases this
      have HN : Hid (okB k ((s[k].toNat : Nat) : Int) = true → ∀ j, j < k + 1 → okB j ((s.data.toList.getD j 0).toNat : Int) = true) := fun h j hj => by
        by_cases e : j = k
        · subst e; rw [Hat.out j hlt]; exact h
        · exact HA.out j (by omega)
      obtain ⟨x, hx⟩ : ∃ x, ((s[k].toNat : Nat) : Int) = x := ⟨_, rfl⟩
      rw [hx] at HB HN
      have h8 : (x < 45 ∨ x = 47 ∨ (58 ≤ x ∧ x < 97) ∨ 122 < x) ∨ (97 ≤ x ∧ x ≤ 122) ∨ (48 ≤ x ∧ x ≤ 57) ∨ x = 45 ∨ x = 46 := by omega
      by_cases hk0 : k = 0
      · have hkb : ((k : Int) == 0) = true := by rw [beq_iff_eq]; omega
        have HB' : Hid (¬ (97 ≤ x ∧ x ≤ 122) → goodB s.data.toList = false) := fun h => HB.out (by rw [Bool.eq_false_iff, ne_eq, okB_iff]; omega)
        by_cases hL : 97 ≤ x ∧ x ≤ 122
        · have HN' : Hid (∀ j, j < k + 1 → okB j ((s.data.toList.getD j 0).toNat : Int) = true) := HN.out (by rw [okB_iff]; omega)
          have d1 : decide (97 ≤ x) = true := decide_eq_true hL.1
          have d2 : decide (x ≤ 122) = true := decide_eq_true hL.2
          clear h8 hL hk0 HB HN HB'
          go_wp2_with fail
          go_round
          case rel => exact ⟨k + 1, by omega, by go_num, HN'.out⟩
          case measure => simp [intOf]; omega
        · have HF : Hid (goodB s.data.toList = false) := HB'.out hL
          have hd : (decide (97 ≤ x) = false) ∨ (decide (97 ≤ x) = true ∧ decide (x ≤ 122) = false) := by
            by_cases h : 97 ≤ x
            · exact .inr ⟨decide_eq_true h, decide_eq_false (by omega)⟩
            · exact .inl (decide_eq_false h)
          clear h8 hL hk0 HB HN HB'
          rcases hd with d1 | ⟨d1, d2⟩
          · go_wp2_with fail
            go_ret
            exact ⟨ret_bool HF.out.symm, rfl⟩
          · go_wp2_with fail
            go_ret
            exact ⟨ret_bool HF.out.symm, rfl⟩
      · have hkb : ((k : Int) == 0) = false := by rw [beq_eq_false_iff_ne]; omega
        have HB' : Hid ((x < 45 ∨ x = 47 ∨ (58 ≤ x ∧ x < 97) ∨ 122 < x) → goodB s.data.toList = false) := fun h => HB.out (by rw [Bool.eq_false_iff, ne_eq, okB_iff]; omega)
        have HN' : Hid (((97 ≤ x ∧ x ≤ 122) ∨ (48 ≤ x ∧ x ≤ 57) ∨ x = 45 ∨ x = 46) → ∀ j, j < k + 1 → okB j ((s.data.toList.getD j 0).toNat : Int) = true) := fun h => HN.out (by rw [okB_iff]; omega)
        clear HB HN hk0
        rcases h8 with h | h
        · have HF : Hid (goodB s.data.toList = false) := HB'.out h
          have d5 : (x == 46) = false := by rw [beq_eq_false_iff_ne]; omega
          have d6 : (x == 45) = false := by rw [beq_eq_false_iff_ne]; omega
          clear HB' HN'
          rcases h with h | h | ⟨h1, h2⟩ | h
          · have d1 : decide (97 ≤ x) = false := decide_eq_false (by omega)
            have d3 : decide (48 ≤ x) = false := decide_eq_false (by omega)
            go_wp2_with fail
            go_ret
            exact ⟨ret_bool HF.out.symm, rfl⟩
          · subst h
            go_wp2_with fail
            go_ret
            exact ⟨ret_bool HF.out.symm, rfl⟩
          · have d1 : decide (97 ≤ x) = false := decide_eq_false (by omega)
            have d3 : decide (48 ≤ x) = true := decide_eq_true (by omega)
            have d4 : decide (x ≤ 57) = false := decide_eq_false (by omega)
            go_wp2_with fail
            go_ret
            exact ⟨ret_bool HF.out.symm, rfl⟩
          · have d1 : decide (97 ≤ x) = true := decide_eq_true (by omega)
            have d2 : decide (x ≤ 122) = false := decide_eq_false (by omega)
            have d3 : decide (48 ≤ x) = true := decide_eq_true (by omega)
            have d4 : decide (x ≤ 57) = false := decide_eq_false (by omega)
            go_wp2_with fail
            go_ret
            exact ⟨ret_bool HF.out.symm, rfl⟩
        · have HO : Hid (∀ j, j < k + 1 → okB j ((s.data.toList.getD j 0).toNat : Int) = true) := HN'.out h
          clear HB' HN'
          rcases h with ⟨h1, h2⟩ | ⟨h1, h2⟩ | h | h
          · have d1 : decide (97 ≤ x) = true := decide_eq_true h1
            have d2 : decide (x ≤ 122) = true := decide_eq_true h2
            go_wp2_with fail
            go_round
            case rel => exact ⟨k + 1, by omega, by go_num, HO.out⟩
            case measure => simp [intOf]; omega
          · have d1 : decide (97 ≤ x) = false := decide_eq_false (by omega)
            have d3 : decide (48 ≤ x) = true := decide_eq_true (by omega)
            have d4 : decide (x ≤ 57) = true := decide_eq_true (by omega)
            go_wp2_with fail
            go_round
            case rel => exact ⟨k + 1, by omega, by go_num, HO.out⟩
            case measure => simp [intOf]; omega
          · subst h
            go_wp2_with fail
            go_round
            case rel => exact ⟨k + 1, by omega, by go_num, HO.out⟩
            case measure => simp [intOf]; omega
          · subst h
            go_wp2_with fail
            go_round
            case rel => exact ⟨k + 1, by omega, by go_num, HO.out⟩
            case measure => simp [intOf]; omega
    · obtain rfl : k = s.size := by omega
      go_wp2_with fail
      go_ret
      exact ⟨ret_bool (Hg.out.2 ⟨hpos, by omega, HA.out⟩).symm, rfl⟩

theorem diskNames.walk (s : ByteArray) (n : Int) (w : World) (hs : s.size ≤ maxLen) (hn : -9223372036854775808 ≤ n ∧ n ≤ 9223372036854775807) :
    Calls Try.prog 3 #[.string s, .int .i64 n] w fun e w' => e = .returned (.bool true) ∧ Below w.heap.size w w' := by
  have L : Hid (Calls Try.prog 8 #[] w fun x w' => x = .returned (.bool true) ∧ Below w.heap.size w w') := lives_any w
  have G : Hid (Calls Try.prog 9 #[.string s] w fun e w' => e = .returned (.bool (goodB s.data.toList)) ∧ w' = w) := good_any s w hs
  have R : Hid (Calls Try.prog 10 #[.string s] w fun e w' => e = .returned (.bool (goodB s.data.toList)) ∧ w' = w) := refGood_any s w hs
  have S1 : Hid (Calls Try.prog 11 #[.int .i64 n] w fun e w' => e = .returned (.int .i64 (secI n)) ∧ w' = w) := sectors_num n w hn.1 (by omega)
  have S2 : Hid (Calls Try.prog 12 #[.int .i64 n] w fun e w' => e = .returned (.int .i64 (secI n)) ∧ w' = w) := refSectors_num n w hn.1 (by omega)
  have hsz : (s.size : Int) ≤ 9223372036854775807 := by unfold maxLen at hs; omega
  clear hs hn
  generalize goodB s.data.toList = b at *
  generalize secI n = q at *
  by_cases hbig : 1000 < s.size
  · go_enter Try.func3, Try.ntmps3
    go_wp2_with (go_at_call 8; go_fit L.out; rintro x w1 ⟨rfl, hb⟩)
    go_ret
    exact ⟨rfl, hb⟩
  · go_enter Try.func3, Try.ntmps3
    go_wp2_with (first | (go_at_call 8; go_fit L.out; rintro x w1 ⟨rfl, hb⟩) | (go_at_call 9; go_fit G.out; rintro x w2 ⟨rfl, rfl⟩) | (go_at_call 10; go_fit R.out; rintro x w3 ⟨rfl, rfl⟩) | (go_at_call 11; go_fit S1.out; rintro x w4 ⟨rfl, rfl⟩) | (go_at_call 12; go_fit S2.out; rintro x w5 ⟨rfl, rfl⟩))
    go_ret
    exact ⟨rfl, hb⟩
end Go.Proofs.Ytbabepnoncpdlaa
