/-
  CONTRACTS: a key's text, a name and a good key, by the document.
-/
import Derived.Test.YtniilnifhgdhcaaDoorKeyRefText
namespace Go.Proofs.YtniilnifhgdhcaaDoor
open Go.RowKit

theorem maskedB_any (s : ByteArray) (w : World) (hs : s.size ≤ 5000) :
    Calls Tryd.prog 30 #[.string s] w fun e w' => e = .returned (.string (strB (msk (nb s)))) ∧ Below w.heap.size w w' :=
  (masked_any s w hs).mono fun _ _ ⟨h1, h2⟩ => ⟨h1, by rw [h2]; exact Below.refl _ _⟩
set_option maxHeartbeats 1000000 in
theorem refPrint_any (k : Kb) (w : World) (hk : k.Ok) :
    Calls Tryd.prog 18 #[k.v] w fun x w' => x = .returned (.string (strB (prK k.ky))) ∧ Below w.heap.size w w' := by
  obtain ⟨t, p, r, c⟩ := k
  obtain ⟨ht, hp, hc, hr⟩ := hk
  simp only at ht hp hc hr
  have hres : Hid (catP (strB (msk (nb t))) (strB (msk (nb p))) (strB (Lib.itoa r)) (strB (msk (nb c))) = strB (prK (Kb.ky ⟨t, p, r, c⟩))) := catP_eq _ _ _ _
  obtain ⟨wa, hwa⟩ : ∃ wa, wa = w.alloc (.cells #[.string t, .string p, .int .i64 r, .string c] 23) := ⟨_, rfl⟩
  have hB : Below w.heap.size w wa := by rw [hwa]; exact (Below.refl _ _).alloc (Nat.le_refl _) _
  have hsz : wa.heap.size = w.heap.size + 1 := by rw [hwa]; simp
  have hg : wa.heap[w.heap.size]? = some (.cells #[.string t, .string p, .int .i64 r, .string c] 23) := by rw [hwa]; exact heap_alloc_new w _
  have k0 : ∀ q : Cl wa.heap.size wa, q.u.cell? ⟨w.heap.size, 0, none⟩ = some (.string t) := fun q => q.cell (by simp [hsz]) (by simp [World.cell?, hg])
  have k1 : ∀ q : Cl wa.heap.size wa, q.u.cell? ⟨w.heap.size, 1, none⟩ = some (.string p) := fun q => q.cell (by simp [hsz]) (by simp [World.cell?, hg])
  have k2 : ∀ q : Cl wa.heap.size wa, q.u.cell? ⟨w.heap.size, 2, none⟩ = some (.int .i64 r) := fun q => q.cell (by simp [hsz]) (by simp [World.cell?, hg])
  have k3 : ∀ q : Cl wa.heap.size wa, q.u.cell? ⟨w.heap.size, 3, none⟩ = some (.string c) := fun q => q.cell (by simp [hsz]) (by simp [World.cell?, hg])
  obtain ⟨s1, e1⟩ : ∃ s, s = strB (msk (nb t)) := ⟨_, rfl⟩
  obtain ⟨s2, e2⟩ : ∃ s, s = strB (msk (nb p)) := ⟨_, rfl⟩
  obtain ⟨s3, e3⟩ : ∃ s, s = strB (Lib.itoa r) := ⟨_, rfl⟩
  obtain ⟨s4, e4⟩ : ∃ s, s = strB (msk (nb c)) := ⟨_, rfl⟩
  have z1 : s1.size ≤ 15000 := by rw [e1]; exact msk_size t ht
  have z2 : s2.size ≤ 15000 := by rw [e2]; exact msk_size p hp
  have z3 : s3.size ≤ 21 := by rw [e3, strB_size]; exact Lib.itoa_length_le r hr.1 hr.2
  have z4 : s4.size ≤ 15000 := by rw [e4]; exact msk_size c hc
  have P1 : Hid (∀ q : Cl wa.heap.size wa, Calls Tryd.prog 30 #[.string t] q.u fun e w'' => e = .returned (.string s1) ∧ ∃ q' : Cl wa.heap.size wa, w'' = q'.u) := fun q => e1 ▸ Cl.calls (Nat.le_refl _) (maskedB_any t q.u ht)
  have P2 : Hid (∀ q : Cl wa.heap.size wa, Calls Tryd.prog 30 #[.string p] q.u fun e w'' => e = .returned (.string s2) ∧ ∃ q' : Cl wa.heap.size wa, w'' = q'.u) := fun q => e2 ▸ Cl.calls (Nat.le_refl _) (maskedB_any p q.u hp)
  have P3 : Hid (∀ q : Cl wa.heap.size wa, Calls Tryd.prog 31 #[.int .i64 r] q.u fun e w'' => e = .returned (.string s3) ∧ ∃ q' : Cl wa.heap.size wa, w'' = q'.u) := fun q => e3 ▸ Cl.calls (Nat.le_refl _) (digits_any r hr q.u)
  have P4 : Hid (∀ q : Cl wa.heap.size wa, Calls Tryd.prog 30 #[.string c] q.u fun e w'' => e = .returned (.string s4) ∧ ∃ q' : Cl wa.heap.size wa, w'' = q'.u) := fun q => e4 ▸ Cl.calls (Nat.le_refl _) (maskedB_any c q.u hc)
  rw [← e1, ← e2, ← e3, ← e4] at hres
  have y1 : ¬ (9223372036854775807 < s1.size + 1) := by omega
  have y2 : ¬ (9223372036854775807 < s1.size + 1 + s2.size) := by omega
  have y3 : ¬ (9223372036854775807 < s1.size + 1 + s2.size + 1) := by omega
  have y4 : ¬ (9223372036854775807 < s1.size + 1 + s2.size + 1 + s3.size) := by omega
  have y5 : ¬ (9223372036854775807 < s1.size + 1 + s2.size + 1 + s3.size + 1) := by omega
  have y6 : ¬ (9223372036854775807 < s1.size + 1 + s2.size + 1 + s3.size + 1 + s4.size) := by omega
  clear e1 e2 e3 e4 z1 z2 z3 z4 ht hp hc hr
  have hE : Hid (∀ q : Cl wa.heap.size wa, Below w.heap.size w q.u) := fun q => hB.trans (q.h.mono (by omega))
  clear hg hB hsz
  simp only [Kb.v]
  go_enter Tryd.func18, Tryd.ntmps18
  go_wp2_with fail
  rw [← hwa]
  clear hwa
  haveI := Cl.inh wa.heap.size wa
  refine wp_region_cl wa.heap.size (by kernel_rfl) (by kernel_rfl) ?_
  repeat (quiet_step (first | (go_at_call 31; exact P3.out _) | (go_at_call_of 30 (Value.string t); exact P1.out _) | (go_at_call_of 30 (Value.string p); exact P2.out _) | (go_at_call_of 30 (Value.string c); exact P4.out _)))
  refine wpQuiet_nil ?_
  rintro _ ⟨q, rfl⟩
  go_wp2_with fail
  go_ret
  exact ⟨ret_str hres.out, hE.out q⟩

set_option maxRecDepth 100000 in
set_option maxHeartbeats 2000000 in
theorem refName_any (s : ByteArray) (w : World) (hs : s.size ≤ maxLen) :
    Calls Tryd.prog 14 #[.string s] w fun e w' => e = .returned (.bool (nameB (nb s))) ∧ w' = w := by
  have hsz : (s.size : Int) ≤ 9223372036854775807 := by unfold maxLen at hs; omega
  have Hi : Hid _ := name_iff (nb s)
  have Hn : Hid _ := @name_no (nb s)
  rw [nb_size] at Hi Hn
  have Hat : Hid _ := at_nb s
  clear hs
  by_cases h0 : s.size = 0
  · go_enter Tryd.func14, Tryd.ntmps14
    go_wp2_with fail
    go_ret
    exact ⟨ret_bool (Hn.out (by omega)).symm, rfl⟩
  by_cases h16 : 16 < s.size
  · go_enter Tryd.func14, Tryd.ntmps14
    go_wp2_with fail
    go_ret
    exact ⟨ret_bool (Hn.out (by omega)).symm, rfl⟩
  have hb1 : decide ((s.size : Int) < 1) = false := decide_eq_false (by omega)
  have hb2 : decide (16 < (s.size : Int)) = false := decide_eq_false (by omega)
  have hsi : (s.size : Int) ≤ 16 := by omega
  have hpos : 0 < s.size := by omega
  have Hsz : Hid (s.size ≤ 16) := by show s.size ≤ 16; omega
  clear h0 h16
  obtain ⟨x0, hx0⟩ : ∃ x, ((s[0].toNat : Nat) : Int) = x := ⟨_, rfl⟩
  by_cases hlo : x0 < 97
  · have HF : Hid (nameB (nb s) = false) := Hn.out (fun hh => by have := hh.2.2.1; rw [Hat.out 0 hpos, hx0] at this; simp only [isL, Bool.and_eq_true, decide_eq_true_eq] at this; omega)
    have d1 : decide (x0 < 97) = true := decide_eq_true hlo
    go_enter Tryd.func14, Tryd.ntmps14
    go_wp2_with fail
    go_ret
    exact ⟨ret_bool HF.out.symm, rfl⟩
  have d1 : decide (x0 < 97) = false := decide_eq_false hlo
  by_cases hhi : 122 < x0
  · have HF : Hid (nameB (nb s) = false) := Hn.out (fun hh => by have := hh.2.2.1; rw [Hat.out 0 hpos, hx0] at this; simp only [isL, Bool.and_eq_true, decide_eq_true_eq] at this; omega)
    have d2 : decide (122 < x0) = true := decide_eq_true hhi
    go_enter Tryd.func14, Tryd.ntmps14
    go_wp2_with fail
    go_ret
    exact ⟨ret_bool HF.out.symm, rfl⟩
  have d2 : decide (122 < x0) = false := decide_eq_false hhi
  have HL0 : Hid (isL (((nb s).getD 0 0).toNat : Int) = true) := by show isL _ = true; rw [Hat.out 0 hpos, hx0]; simp only [isL, Bool.and_eq_true, decide_eq_true_eq]; omega
  go_enter Tryd.func14, Tryd.ntmps14
  go_wp2_with fail
  clear hx0 d1 d2 hlo hhi
  go_loop [3] (fun i => ∃ k : Nat, k ≤ s.size ∧ i = .int .i64 k ∧ ∀ j, j < k → okC (((nb s).getD j 0).toNat : Int) = true) (fun i => s.size - (intOf i).toNat)
  case atStart => exact ⟨0, Nat.zero_le _, rfl, fun j hj => absurd hj (Nat.not_lt_zero _)⟩
  case round =>
    obtain ⟨k, hk, rfl, hall⟩ := hrel
    have HA : Hid (∀ j, j < k → okC (((nb s).getD j 0).toNat : Int) = true) := hall
    clear hall
    by_cases hlt : k < s.size
    · obtain ⟨x, hx⟩ : ∃ x, ((s[k].toNat : Nat) : Int) = x := ⟨_, rfl⟩
      have HB : Hid (okC x = false → nameB (nb s) = false) := fun h => Hn.out fun hh => by have := hh.2.2.2 k hlt; rw [Hat.out k hlt, hx, h] at this; cases this
      have HN : Hid (okC x = true → ∀ j, j < k + 1 → okC (((nb s).getD j 0).toNat : Int) = true) := fun h j hj => by
        by_cases e : j = k
        · subst e; rw [Hat.out j hlt, hx]; exact h
        · exact HA.out j (by omega)
      have HO : Hid (okC x = (decide (97 ≤ x) && decide (x ≤ 122) || decide (48 ≤ x) && decide (x ≤ 57) || x == 95)) := rfl
      clear Hi Hn Hat HA HL0
      have hcase : (97 ≤ x ∧ x ≤ 122) ∨ (48 ≤ x ∧ x ≤ 57) ∨ x = 95 ∨ (122 < x) ∨ (57 < x ∧ x < 97 ∧ x ≠ 95) ∨ x < 48 := by omega
      rcases hcase with ⟨h1, h2⟩ | ⟨h1, h2⟩ | h1 | h1 | ⟨h1, h2, h3⟩ | h1
      · have HN' : Hid (∀ j, j < k + 1 → okC (((nb s).getD j 0).toNat : Int) = true) := HN.out (by rw [HO.out]; simp [h1, h2])
        have e1 : decide (97 ≤ x) = true := decide_eq_true h1
        have e2 : decide (x ≤ 122) = true := decide_eq_true h2
        clear HN HB HO h1 h2
        go_wp2_with fail
        go_round
        case rel => exact ⟨k + 1, by omega, by go_num, HN'.out⟩
        case measure => simp [intOf]; omega
      · have HN' : Hid (∀ j, j < k + 1 → okC (((nb s).getD j 0).toNat : Int) = true) := HN.out (by rw [HO.out]; simp [h1, h2])
        have e1 : decide (97 ≤ x) = false := decide_eq_false (by omega)
        have e3 : decide (48 ≤ x) = true := decide_eq_true h1
        have e4 : decide (x ≤ 57) = true := decide_eq_true h2
        clear HN HB HO h1 h2
        go_wp2_with fail
        go_round
        case rel => exact ⟨k + 1, by omega, by go_num, HN'.out⟩
        case measure => simp [intOf]; omega
      · subst h1
        have HN' : Hid (∀ j, j < k + 1 → okC (((nb s).getD j 0).toNat : Int) = true) := HN.out (by rw [HO.out]; rfl)
        clear HN HB HO
        go_wp2_with fail
        go_round
        case rel => exact ⟨k + 1, by omega, by go_num, HN'.out⟩
        case measure => simp [intOf]; omega
      · have e1 : decide (97 ≤ x) = true := decide_eq_true (by omega)
        have e2 : decide (x ≤ 122) = false := decide_eq_false (by omega)
        have e3 : decide (48 ≤ x) = true := decide_eq_true (by omega)
        have e4 : decide (x ≤ 57) = false := decide_eq_false (by omega)
        have e5 : (x == 95) = false := by rw [beq_eq_false_iff_ne]; omega
        have HF : Hid (nameB (nb s) = false) := HB.out (by rw [HO.out, e1, e2, e3, e4, e5]; rfl)
        clear HN HB HO h1
        go_wp2_with fail
        go_ret
        exact ⟨ret_bool HF.out.symm, rfl⟩
      · have e1 : decide (97 ≤ x) = false := decide_eq_false (by omega)
        have e3 : decide (48 ≤ x) = true := decide_eq_true (by omega)
        have e4 : decide (x ≤ 57) = false := decide_eq_false (by omega)
        have e5 : (x == 95) = false := by rw [beq_eq_false_iff_ne]; omega
        have HF : Hid (nameB (nb s) = false) := HB.out (by rw [HO.out, e1, e3, e4, e5]; rfl)
        clear HN HB HO h1 h2 h3
        go_wp2_with fail
        go_ret
        exact ⟨ret_bool HF.out.symm, rfl⟩
      · have e1 : decide (97 ≤ x) = false := decide_eq_false (by omega)
        have e3 : decide (48 ≤ x) = false := decide_eq_false (by omega)
        have e5 : (x == 95) = false := by rw [beq_eq_false_iff_ne]; omega
        have HF : Hid (nameB (nb s) = false) := HB.out (by rw [HO.out, e1, e3, e5]; rfl)
        clear HN HB HO h1
        go_wp2_with fail
        go_ret
        exact ⟨ret_bool HF.out.symm, rfl⟩
    · obtain rfl : k = s.size := by omega
      have HT : Hid (nameB (nb s) = true) := Hi.out.2 ⟨hpos, Hsz.out, HL0.out, HA.out⟩
      clear Hi Hn HA
      go_wp2_with fail
      go_ret
      exact ⟨ret_bool HT.out.symm, rfl⟩
set_option maxHeartbeats 1000000 in
theorem refGood_any (k : Kb) (w : World) (h1 : k.t.size ≤ maxLen) (h2 : k.p.size ≤ maxLen) (h3 : k.c.size ≤ maxLen) :
    Calls Tryd.prog 12 #[k.v] w fun e w' => e = .returned (.bool (goodK k.ky)) ∧ Below w.heap.size w w' := by
  obtain ⟨t, p, r, c⟩ := k
  simp only at h1 h2 h3
  have hp : (p.size : Int) ≤ 9223372036854775807 := by unfold maxLen at h2; omega
  have N1 : Hid (∀ w : World, Calls Tryd.prog 14 #[.string t] w fun e w' => e = .returned (.bool (nameB (nb t))) ∧ w' = w) := fun w => refName_any t w h1
  have N2 : Hid (∀ w : World, Calls Tryd.prog 14 #[.string c] w fun e w' => e = .returned (.bool (nameB (nb c))) ∧ w' = w) := fun w => refName_any c w h3
  have hR : Hid (goodK (Kb.ky ⟨t, p, r, c⟩) = (nameB (nb t) && decide (1 ≤ p.size) && decide (p.size ≤ 64) && (decide (c.size = 0) || nameB (nb c)))) := by
    show (_ && _ && _ && _) = _
    have e1 : (nb p).length = p.size := nb_size p
    have e2 : (nb c == []) = decide (c.size = 0) := by
      by_cases h : c.size = 0
      · rw [(nb_empty c).2 h]; simp [h]
      · have := fun e => h ((nb_empty c).1 e)
        simp only [h, decide_false, beq_eq_false_iff_ne, ne_eq]; exact this
    simp only [Kb.ky, e1, e2]
  have hB : Hid (∀ o : Obj, Below w.heap.size w (w.alloc o)) := fun o => (Below.refl _ _).alloc (Nat.le_refl _) _
  have hc := ba_isEmpty c
  clear h1 h2 h3
  simp only [Kb.v]
  generalize nameB (nb t) = b1 at *
  generalize nameB (nb c) = b2 at *
  cases b1
  · go_enter Tryd.func12, Tryd.ntmps12
    go_wp2_with (go_at_call 14; go_fit (N1.out _); rintro x w1 ⟨rfl, rfl⟩)
    go_ret
    exact ⟨ret_bool (by rw [hR.out]; rfl), hB.out _⟩
  by_cases hp1 : p.size = 0
  · have d1 : decide (1 ≤ (p.size : Int)) = false := decide_eq_false (by omega)
    have hR' : Hid (goodK (Kb.ky ⟨t, p, r, c⟩) = false) := by show _ = _; rw [hR.out, hp1]; rfl
    clear hR
    go_enter Tryd.func12, Tryd.ntmps12
    go_wp2_with (go_at_call 14; go_fit (N1.out _); rintro x w1 ⟨rfl, rfl⟩)
    go_ret
    exact ⟨ret_bool hR'.out.symm, hB.out _⟩
  have d1 : decide (1 ≤ (p.size : Int)) = true := decide_eq_true (by omega)
  by_cases hp2 : 64 < p.size
  · have d2 : decide ((p.size : Int) ≤ 64) = false := decide_eq_false (by omega)
    have hR' : Hid (goodK (Kb.ky ⟨t, p, r, c⟩) = false) := by
      show _ = _; rw [hR.out]
      have : decide (p.size ≤ 64) = false := decide_eq_false (by omega)
      rw [this]; simp
    clear hR
    go_enter Tryd.func12, Tryd.ntmps12
    go_wp2_with (go_at_call 14; go_fit (N1.out _); rintro x w1 ⟨rfl, rfl⟩)
    go_ret
    exact ⟨ret_bool hR'.out.symm, hB.out _⟩
  have d2 : decide ((p.size : Int) ≤ 64) = true := decide_eq_true (by omega)
  have hR2 : Hid (goodK (Kb.ky ⟨t, p, r, c⟩) = (decide (c.size = 0) || b2)) := by
    show _ = _; rw [hR.out]
    have e1 : decide (1 ≤ p.size) = true := decide_eq_true (by omega)
    have e2 : decide (p.size ≤ 64) = true := decide_eq_true (by omega)
    rw [e1, e2]; simp
  clear hR
  by_cases hc0 : c.size = 0
  · rw [decide_eq_true hc0] at hc
    have hR' : Hid (goodK (Kb.ky ⟨t, p, r, c⟩) = true) := by show _ = _; rw [hR2.out, hc0]; rfl
    clear hR2
    go_enter Tryd.func12, Tryd.ntmps12
    go_wp2_with (go_at_call 14; go_fit (N1.out _); rintro x w1 ⟨rfl, rfl⟩)
    go_ret
    exact ⟨ret_bool hR'.out.symm, hB.out _⟩
  · rw [decide_eq_false hc0] at hc
    have hR' : Hid (goodK (Kb.ky ⟨t, p, r, c⟩) = b2) := by show _ = _; rw [hR2.out, decide_eq_false hc0]; rfl
    clear hR2
    go_enter Tryd.func12, Tryd.ntmps12
    go_wp2_with (first | (go_at_call_of 14 (Value.string t); go_fit (N1.out _); rintro x w1 ⟨rfl, rfl⟩) | (go_at_call_of 14 (Value.string c); go_fit (N2.out _); rintro x w1 ⟨rfl, rfl⟩))
    go_ret
    exact ⟨ret_bool hR'.out.symm, hB.out _⟩

end Go.Proofs.YtniilnifhgdhcaaDoor
