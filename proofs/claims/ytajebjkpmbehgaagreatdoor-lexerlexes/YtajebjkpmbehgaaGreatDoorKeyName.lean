/-
  CONTRACTS: names and good keys, by the program and by the document; a row's key.
-/
import Derived.Test.YtajebjkpmbehgaaGreatDoorKeyCmp
namespace Go.Proofs.YtajebjkpmbehgaaGreatDoor
open Go.RowKit

def isL (x : Int) : Bool := decide (97 ≤ x) && decide (x ≤ 122)
def isD (x : Int) : Bool := decide (48 ≤ x) && decide (x ≤ 57)
def okC (x : Int) : Bool := isL x || isD x || x == 95
def nameB (l : List UInt8) : Bool := decide (1 ≤ l.length) && decide (l.length ≤ 16) && isL ((l.getD 0 0).toNat : Int) && l.all fun b => okC (b.toNat : Int)
theorem name_iff (l : List UInt8) : nameB l = true ↔ 1 ≤ l.length ∧ l.length ≤ 16 ∧ isL ((l.getD 0 0).toNat : Int) = true ∧ ∀ j, j < l.length → okC ((l.getD j 0).toNat : Int) = true := by
  unfold nameB
  simp only [Bool.and_eq_true, decide_eq_true_eq, List.all_eq_true, and_assoc]
  constructor
  · rintro ⟨h1, h2, h3, h4⟩
    refine ⟨h1, h2, h3, fun j hj => ?_⟩
    have e : l.getD j 0 = l[j] := by simp [List.getD, hj]
    rw [e]; exact h4 _ (List.getElem_mem hj)
  · rintro ⟨h1, h2, h3, h4⟩
    refine ⟨h1, h2, h3, fun b hb => ?_⟩
    obtain ⟨j, hj, rfl⟩ := List.getElem_of_mem hb
    have e : l.getD j 0 = l[j] := by simp [List.getD, hj]
    have := h4 j hj
    rwa [e] at this
theorem letter_any (x : Int) (w : World) : Calls Tryz.prog 64 #[.int .u8 x] w fun e w' => e = .returned (.bool (isL x)) ∧ w' = w := by
  unfold isL
  by_cases h : 97 ≤ x
  · have d : decide (97 ≤ x) = true := decide_eq_true h
    go_enter Tryz.func64, Tryz.ntmps64
    go_wp2_with fail
    go_ret
    exact ⟨ret_bool (by first | rfl | (rw [d]; simp)), rfl⟩
  · have d : decide (97 ≤ x) = false := decide_eq_false h
    go_enter Tryz.func64, Tryz.ntmps64
    go_wp2_with fail
    go_ret
    exact ⟨ret_bool (by first | rfl | (rw [d]; simp)), rfl⟩
theorem digit_any (x : Int) (w : World) : Calls Tryz.prog 65 #[.int .u8 x] w fun e w' => e = .returned (.bool (isD x)) ∧ w' = w := by
  unfold isD
  by_cases h : 48 ≤ x
  · have d : decide (48 ≤ x) = true := decide_eq_true h
    go_enter Tryz.func65, Tryz.ntmps65
    go_wp2_with fail
    go_ret
    exact ⟨ret_bool (by first | rfl | (rw [d]; simp)), rfl⟩
  · have d : decide (48 ≤ x) = false := decide_eq_false h
    go_enter Tryz.func65, Tryz.ntmps65
    go_wp2_with fail
    go_ret
    exact ⟨ret_bool (by first | rfl | (rw [d]; simp)), rfl⟩

theorem at_nb (s : ByteArray) (k : Nat) (hk : k < s.size) : (nb s).getD k 0 = s[k] := by
  have : k < s.data.toList.length := by simpa using hk
  unfold nb
  rw [List.getD_eq_getElem?_getD, List.getElem?_eq_getElem this]
  rfl
theorem name_no {l : List UInt8} (h : ¬ (1 ≤ l.length ∧ l.length ≤ 16 ∧ isL ((l.getD 0 0).toNat : Int) = true ∧ ∀ j, j < l.length → okC ((l.getD j 0).toNat : Int) = true)) : nameB l = false := by
  cases hg : nameB l
  · rfl
  · exact absurd ((name_iff l).1 hg) h

set_option maxRecDepth 100000 in
set_option maxHeartbeats 1000000 in
theorem name_any (s : ByteArray) (w : World) (hs : s.size ≤ maxLen) :
    Calls Tryz.prog 45 #[.string s] w fun e w' => e = .returned (.bool (nameB (nb s))) ∧ w' = w := by
  have hsz : (s.size : Int) ≤ 9223372036854775807 := by unfold maxLen at hs; omega
  have Hi : Hid _ := name_iff (nb s)
  have Hn : Hid _ := @name_no (nb s)
  rw [nb_size] at Hi Hn
  have Hat : Hid _ := at_nb s
  have L : Hid (∀ (x : Int) (w : World), Calls Tryz.prog 64 #[.int .u8 x] w fun e w' => e = .returned (.bool (isL x)) ∧ w' = w) := letter_any
  have D : Hid (∀ (x : Int) (w : World), Calls Tryz.prog 65 #[.int .u8 x] w fun e w' => e = .returned (.bool (isD x)) ∧ w' = w) := digit_any
  clear hs
  by_cases h0 : s.size = 0
  · go_enter Tryz.func45, Tryz.ntmps45
    go_wp2_with fail
    go_ret
    exact ⟨ret_bool (Hn.out (by omega)).symm, rfl⟩
  by_cases h16 : 16 < s.size
  · go_enter Tryz.func45, Tryz.ntmps45
    go_wp2_with fail
    go_ret
    exact ⟨ret_bool (Hn.out (by omega)).symm, rfl⟩
  have hb1 : decide ((s.size : Int) < 1) = false := decide_eq_false (by omega)
  have hb2 : decide (16 < (s.size : Int)) = false := decide_eq_false (by omega)
  have hsi : (s.size : Int) ≤ 16 := by omega
  have hpos : 0 < s.size := by omega
  have Hsz : Hid (s.size ≤ 16) := by show s.size ≤ 16; omega
  clear h0 h16
  obtain ⟨x0, hx0⟩ : ∃ x, ((s[0].toNat : Nat) : Int) = x := ⟨_, rfl⟩
  cases hl0 : isL x0
  · have HF : Hid (nameB (nb s) = false) := Hn.out (fun hh => by have := hh.2.2.1; rw [Hat.out 0 hpos, hx0, hl0] at this; cases this)
    have L0 := L.out x0
    rw [hl0] at L0
    have L0' : Hid (∀ w : World, Calls Tryz.prog 64 #[.int .u8 x0] w fun e w' => e = .returned (.bool false) ∧ w' = w) := L0
    clear L0 L D
    go_enter Tryz.func45, Tryz.ntmps45
    go_wp2_with (go_at_call 64; go_fit (L0'.out _); rintro e w1 ⟨rfl, rfl⟩)
    go_ret
    exact ⟨ret_bool HF.out.symm, rfl⟩
  have HL0 : Hid (isL (((nb s).getD 0 0).toNat : Int) = true) := by show isL _ = true; rw [Hat.out 0 hpos, hx0, hl0]
  have L0 := L.out x0
  rw [hl0] at L0
  have L0' : Hid (∀ w : World, Calls Tryz.prog 64 #[.int .u8 x0] w fun e w' => e = .returned (.bool true) ∧ w' = w) := L0
  clear L0 hl0
  go_enter Tryz.func45, Tryz.ntmps45
  go_wp2_with (go_at_call 64; go_fit (L0'.out _); rintro e w1 ⟨rfl, rfl⟩)
  clear hx0 L0'
  go_loop [20] (fun i => ∃ k : Nat, k ≤ s.size ∧ i = .int .i64 k ∧ ∀ j, j < k → okC (((nb s).getD j 0).toNat : Int) = true) (fun i => s.size - (intOf i).toNat)
  case atStart => exact ⟨0, Nat.zero_le _, rfl, fun j hj => absurd hj (Nat.not_lt_zero _)⟩
  case round =>
    obtain ⟨k, hk, rfl, hall⟩ := hrel
    have HA : Hid (∀ j, j < k → okC (((nb s).getD j 0).toNat : Int) = true) := hall
    clear hall
    by_cases hlt : k < s.size
    · obtain ⟨x, hx⟩ : ∃ x, ((s[k].toNat : Nat) : Int) = x := ⟨_, rfl⟩
      have HB : Hid (okC x = false → nameB (nb s) = false) := fun h => Hn.out fun hh => by have := hh.2.2.2 k hlt; rw [Hat.out k hlt, hx, h] at this; cases this
      have HN : Hid (okC x = true → ∀ j, j < k + 1 → okC (((nb s).getD j 0).toNat : Int) = true) := fun h j hj => by
        by_cases e : j = k
        · subst e; rw [Hat.out j hlt, hx]; exact h
        · exact HA.out j (by omega)
      have L1 : Hid (∀ w : World, Calls Tryz.prog 64 #[.int .u8 x] w fun e w' => e = .returned (.bool (isL x)) ∧ w' = w) := L.out x
      have D1 : Hid (∀ w : World, Calls Tryz.prog 65 #[.int .u8 x] w fun e w' => e = .returned (.bool (isD x)) ∧ w' = w) := D.out x
      have HO : Hid (okC x = (isL x || isD x || x == 95)) := rfl
      generalize isL x = bl at *
      generalize isD x = bd at *
      generalize okC x = bo at *
      clear Hi Hn Hat HA HL0 L D
      cases bl
      · cases bd
        · by_cases h95 : x = 95
          · subst h95
            have HN' : Hid (∀ j, j < k + 1 → okC (((nb s).getD j 0).toNat : Int) = true) := HN.out (by rw [HO.out]; rfl)
            clear HN HB HO
            go_wp2_with (first | (go_at_call 64; go_fit (L1.out _); rintro e w1 ⟨rfl, rfl⟩) | (go_at_call 65; go_fit (D1.out _); rintro e w1 ⟨rfl, rfl⟩))
            go_round
            case rel => exact ⟨k + 1, by omega, by go_num, HN'.out⟩
            case measure => simp [intOf]; omega
          · have e95 : (x == 95) = false := by rw [beq_eq_false_iff_ne]; exact h95
            have HF : Hid (nameB (nb s) = false) := HB.out (by rw [HO.out, e95]; rfl)
            clear HN HB HO
            go_wp2_with (first | (go_at_call 64; go_fit (L1.out _); rintro e w1 ⟨rfl, rfl⟩) | (go_at_call 65; go_fit (D1.out _); rintro e w1 ⟨rfl, rfl⟩))
            go_ret
            exact ⟨ret_bool HF.out.symm, rfl⟩
        · have HN' : Hid (∀ j, j < k + 1 → okC (((nb s).getD j 0).toNat : Int) = true) := HN.out (by rw [HO.out]; rfl)
          clear HN HB HO
          go_wp2_with (first | (go_at_call 64; go_fit (L1.out _); rintro e w1 ⟨rfl, rfl⟩) | (go_at_call 65; go_fit (D1.out _); rintro e w1 ⟨rfl, rfl⟩))
          go_round
          case rel => exact ⟨k + 1, by omega, by go_num, HN'.out⟩
          case measure => simp [intOf]; omega
      · have HN' : Hid (∀ j, j < k + 1 → okC (((nb s).getD j 0).toNat : Int) = true) := HN.out (by rw [HO.out]; rfl)
        clear HN HB HO
        go_wp2_with (first | (go_at_call 64; go_fit (L1.out _); rintro e w1 ⟨rfl, rfl⟩) | (go_at_call 65; go_fit (D1.out _); rintro e w1 ⟨rfl, rfl⟩))
        go_round
        case rel => exact ⟨k + 1, by omega, by go_num, HN'.out⟩
        case measure => simp [intOf]; omega
    · obtain rfl : k = s.size := by omega
      have HT : Hid (nameB (nb s) = true) := Hi.out.2 ⟨hpos, Hsz.out, HL0.out, HA.out⟩
      clear Hi Hn HA
      go_wp2_with fail
      go_ret
      exact ⟨ret_bool HT.out.symm, rfl⟩
end Go.Proofs.YtajebjkpmbehgaaGreatDoor
