/-
  CONTRACT: the document's skip.
-/
import Derived.Test.YtajebjkpmbehgaaGreatDoorLxrByte
namespace Go.Proofs.YtajebjkpmbehgaaGreatDoor
open Go.RowKit

theorem skB_out (b : UInt8) (r : List UInt8) (h1 : blB b = false) (h2 : b.toNat ≠ 45 ∨ dash r = false) : skB false (b :: r) = 0 := by
  have : (decide (b.toNat = 45) && dash r) = false := by
    rcases h2 with h | h
    · rw [decide_eq_false h]; rfl
    · rw [h, Bool.and_false]
  simp [skB, h1, this]
theorem skB_blank (b : UInt8) (r : List UInt8) (h : blB b = true) : skB false (b :: r) = skB false r + 1 := by simp [skB, h]
theorem skB_note (b : UInt8) (r : List UInt8) (h0 : blB b = false) (h1 : b.toNat = 45) (h : dash r = true) : skB false (b :: r) = skB true (b :: r) := by
  have e10 : decide (b.toNat = 10) = false := decide_eq_false (by omega)
  simp [skB, h0, h1, h]
theorem skB_in (b : UInt8) (r : List UInt8) (h : b.toNat ≠ 10) : skB true (b :: r) = skB true r + 1 := by
  simp [skB, h]
theorem skB_lf (b : UInt8) (r : List UInt8) (h : b.toNat = 10) : skB true (b :: r) = skB false (b :: r) := by
  have : blB b = true := decide_eq_true (by omega)
  simp [skB, h, this]
theorem skB_nil (d : Bool) : skB d [] = 0 := by cases d <;> rfl
theorem drop_endB (s : ByteArray) (p : Nat) (h : s.size ≤ p) : s.data.toList.drop p = [] := List.drop_eq_nil_of_le (by simpa using h)
set_option maxRecDepth 100000 in
set_option maxHeartbeats 2000000 in
theorem skipR_any (s : ByteArray) (p0 : Nat) (w : World) (hp : p0 ≤ s.size) (hs : s.size ≤ 600) :
    Calls Tryz.prog 12 #[.string s, .int .i64 (p0 : Int)] w fun e w' => e = .returned (.int .i64 ((p0 + skB false (s.data.toList.drop p0) : Nat) : Int)) ∧ w' = w := by
  obtain ⟨A, hA⟩ : ∃ A, p0 + skB false (s.data.toList.drop p0) = A := ⟨_, rfl⟩
  rw [hA]
  have HX : Hid (∀ p, s.size ≤ p → s.data.toList.drop p = []) := drop_endB s
  have HC : Hid (∀ p (h : p < s.size), s.data.toList.drop p = (s[p]'h) :: s.data.toList.drop (p + 1)) := drop_consB s
  go_enter Tryz.func12, Tryz.ntmps12
  go_wp2_with fail
  go_loop [1] (fun s1 => ∃ p : Nat, p ≤ s.size ∧ s1 = .int .i64 (p : Int) ∧ p + skB false (s.data.toList.drop p) = A) (fun s1 => s.size - (intOf s1).toNat)
  case atStart => exact ⟨p0, hp, rfl, hA⟩
  case round =>
    obtain ⟨p, hp, rfl, hinv⟩ := hrel
    clear hA
    rcases Nat.lt_or_ge p s.size with hlt | hge
    · have hltz : (p : Int) < (s.size : Int) := by omega
      obtain ⟨b, hb⟩ : ∃ b, s[p]'hlt = b := ⟨_, rfl⟩
      have hc := HC.out p hlt
      rw [hb] at hc
      rw [hc] at hinv
      have h256 := b.toNat_lt
      obtain ⟨z, hz⟩ : ∃ z : Int, (b.toNat : Int) = z := ⟨_, rfl⟩
      by_cases hbl : blB b = true
      · rw [skB_blank b _ hbl] at hinv
        have HI : Hid (p + 1 + skB false (s.data.toList.drop (p + 1)) = A) := by show _ = _; omega
        have hbl2 : b.toNat = 32 ∨ b.toNat = 9 ∨ b.toNat = 10 ∨ b.toNat = 13 := of_decide_eq_true hbl
        have hz4 : z = 32 ∨ z = 9 ∨ z = 10 ∨ z = 13 := by omega
        clear hinv hbl hbl2 hc HX HC
        rcases hz4 with rfl | rfl | rfl | rfl
        all_goals
          go_wp2_with fail
          go_round
          case rel => exact ⟨p + 1, by omega, by simp, HI.out⟩
          case measure => simp [intOf]; omega
      · have hbl0 : blB b = false := by simpa using hbl
        have hbl2 : ¬ (b.toNat = 32 ∨ b.toNat = 9 ∨ b.toNat = 10 ∨ b.toNat = 13) := of_decide_eq_false hbl0
        have e1 : (z == 32) = false := beq_false_of_ne (by omega)
        have e2 : (z == 9) = false := beq_false_of_ne (by omega)
        have e3 : (z == 10) = false := beq_false_of_ne (by omega)
        have e4 : (z == 13) = false := beq_false_of_ne (by omega)
        by_cases h45 : z = 45
        · by_cases hd : dash (s.data.toList.drop (p + 1)) = true
          · have hlt2 : p + 1 < s.size := by
              by_cases h : p + 1 < s.size
              · exact h
              · rw [HX.out (p + 1) (by omega)] at hd
                cases hd
            have hc2 := HC.out (p + 1) hlt2
            obtain ⟨b2, hb2⟩ : ∃ b2, s[p + 1]'hlt2 = b2 := ⟨_, rfl⟩
            rw [hb2] at hc2
            rw [hc2] at hd
            have hd2 : b2.toNat = 45 := of_decide_eq_true hd
            have hd2z : (b2.toNat : Int) = 45 := by omega
            have hlt2z : (p : Int) + 1 < (s.size : Int) := by omega
            rw [skB_note b _ hbl0 (by omega) (by rw [hc2]; exact hd), ← hc] at hinv
            have HI : Hid (p + skB true (s.data.toList.drop p) = A) := hinv
            have HL : Hid (skB true (s.data.toList.drop p) = skB true (s.data.toList.drop (p + 1)) + 1) := by
              show _ = _
              rw [hc, skB_in b _ (by omega)]
            clear hinv hbl hbl0 hbl2 hc hc2 hd hd2
            subst h45
            go_wp2_with fail
            obtain ⟨p9, hp9⟩ : ∃ p9, p9 = p := ⟨_, rfl⟩
            go_loop [1] (fun s1 => ∃ q : Nat, p ≤ q ∧ q ≤ s.size ∧ s1 = .int .i64 (q : Int) ∧ q + skB true (s.data.toList.drop q) = A) (fun s1 => s.size - (intOf s1).toNat)
            case atStart => exact ⟨p, Nat.le_refl _, hp, rfl, HI.out⟩
            case round =>
              obtain ⟨q, hpq, hq, rfl, hinv⟩ := hrel
              rcases Nat.lt_or_ge q s.size with hlq | hgq
              · have hlqz : (q : Int) < (s.size : Int) := by omega
                obtain ⟨c, hcq⟩ : ∃ c, s[q]'hlq = c := ⟨_, rfl⟩
                have hcc := HC.out q hlq
                rw [hcq] at hcc
                by_cases h10 : c.toNat = 10
                · have HJ : Hid (q + skB false (s.data.toList.drop q) = A) := by
                    show _ = _
                    rw [hcc, ← skB_lf c _ h10, ← hcc]
                    exact hinv
                  have h10z : (c.toNat : Int) = 10 := by omega
                  have hqp : p < q := by
                    by_cases e : q = p
                    · subst e
                      rw [hb] at hcq
                      subst hcq
                      omega
                    · omega
                  clear hinv hcc h10 HX HC HI HL
                  go_wp2_with fail
                  go_round
                  case rel => exact ⟨q, by omega, by simp, HJ.out⟩
                  case measure => simp [intOf]; omega
                · have HJ : Hid (q + 1 + skB true (s.data.toList.drop (q + 1)) = A) := by
                    show _ = _
                    rw [hcc, skB_in c _ h10] at hinv
                    omega
                  have h10z : ((c.toNat : Int) != 10) = true := bne_iff_ne.2 (by omega)
                  clear hinv hcc h10 HX HC HI HL
                  go_wp2_with fail
                  go_round
                  case rel => exact ⟨q + 1, by omega, by omega, by simp, HJ.out⟩
                  case measure => simp [intOf]; omega
              · obtain rfl : q = s.size := by omega
                have HJ : Hid (s.size + skB false (s.data.toList.drop s.size) = A) := by
                  show _ = _
                  rw [HX.out s.size (Nat.le_refl _), skB_nil] at hinv ⊢
                  exact hinv
                clear hinv HX HC HI HL
                go_wp2_with fail
                go_round
                case rel => exact ⟨s.size, by omega, by simp, HJ.out⟩
                case measure => simp [intOf]; omega
          · have hd0 : dash (s.data.toList.drop (p + 1)) = false := by simpa using hd
            rw [skB_out b _ hbl0 (.inr hd0)] at hinv
            have HR : Hid (A = p) := by show _ = _; omega
            by_cases hlt2 : p + 1 < s.size
            · have hc2 := HC.out (p + 1) hlt2
              obtain ⟨b2, hb2⟩ : ∃ b2, s[p + 1]'hlt2 = b2 := ⟨_, rfl⟩
              rw [hb2] at hc2
              rw [hc2] at hd0
              have hd2 : b2.toNat ≠ 45 := of_decide_eq_false hd0
              have hd2z : ((b2.toNat : Int) != 45) = true := bne_iff_ne.2 (by omega)
              have hlt2z : (p : Int) + 1 < (s.size : Int) := by omega
              clear hinv hbl hbl0 hbl2 hc hc2 hd hd2 hd0 HX HC
              subst h45
              go_wp2_with fail
              go_ret
              exact ⟨by rw [HR.out]; rfl, rfl⟩
            · have hlt2z : ¬ (p : Int) + 1 < (s.size : Int) := by omega
              have hlt2g : (s.size : Int) ≤ (p : Int) + 1 := by omega
              clear hinv hbl hbl0 hbl2 hc hd hd0 HX HC
              subst h45
              go_wp2_with fail
              go_ret
              exact ⟨by rw [HR.out]; rfl, rfl⟩
        · rw [skB_out b _ hbl0 (.inl (by omega))] at hinv
          have HR : Hid (A = p) := by show _ = _; omega
          have e5 : (z != 45) = true := bne_iff_ne.2 h45
          clear hinv hbl hbl0 hbl2 hc HX HC
          go_wp2_with fail
          go_ret
          exact ⟨by rw [HR.out]; rfl, rfl⟩
    · obtain rfl : p = s.size := by omega
      rw [HX.out s.size (Nat.le_refl _), skB_nil] at hinv
      have HR : Hid (A = s.size) := by show _ = _; omega
      clear hinv HX HC
      go_wp2_with fail
      go_ret
      exact ⟨by rw [HR.out]; rfl, rfl⟩
end Go.Proofs.YtajebjkpmbehgaaGreatDoor
