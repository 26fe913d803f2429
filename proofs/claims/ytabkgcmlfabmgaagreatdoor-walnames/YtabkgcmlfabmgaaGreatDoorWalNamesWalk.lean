/-
  THE LAW WalNames, walked.
-/
import Derived.Test.YtabkgcmlfabmgaaGreatDoorWalM5
namespace Go.Proofs.YtabkgcmlfabmgaaGreatDoor.walNames
open Go.RowKit Go.Proofs.YtabkgcmlfabmgaaGreatDoor

theorem num_in (s : List UInt8) : -9223372036854775808 ≤ (numR s).1 ∧ (numR s).1 ≤ 9223372036854775807 := by
  unfold numR
  split
  · rename_i v hv
    split
    · exact atoi_in hv
    · show (-9223372036854775808 : Int) ≤ 0 ∧ (0 : Int) ≤ 9223372036854775807
      omega
  · show (-9223372036854775808 : Int) ≤ 0 ∧ (0 : Int) ≤ 9223372036854775807
    omega
theorem nm_shape {n : Int} (h : okW n = true) : nmW n = preW ++ Lib.decDigits n.toNat := by
  have h1 := okW_iff.1 h
  unfold nmW Lib.itoa
  rw [if_pos h, if_neg (by omega)]
theorem nm_good {n : Int} (h : okW n = true) : goodB (nmW n) = true := by
  have hl := nmW_len n
  have hr := dec_range (n.toNat + 1) n.toNat (by omega)
  rw [nm_shape h] at hl ⊢
  have hall : (preW ++ Lib.decDigits n.toNat).all (fun c => allowedI (c.toNat : Int)) = true := by
    rw [List.all_append, Bool.and_eq_true]
    refine ⟨by decide, List.all_eq_true.2 fun c hc => ?_⟩
    have := hr c hc
    have h1 : decide ((48 : Int) ≤ (c.toNat : Int)) = true := by simp; omega
    have h2 : decide ((c.toNat : Int) ≤ 57) = true := by simp; omega
    simp only [allowedI, h1, h2, Bool.and_self, Bool.or_true, Bool.true_or]
  unfold goodB
  rw [hall]
  have h3 : 0 < (preW ++ Lib.decDigits n.toNat).length := by simp [preW]
  have h4 : (preW ++ Lib.decDigits n.toNat).length ≤ 40 := by omega
  have h5 : letterI (((preW ++ Lib.decDigits n.toNat).getD 0 0).toNat : Int) = true := by
    show letterI (((108 : UInt8).toNat : Nat) : Int) = true
    decide
  rw [h5]
  simp only [Bool.and_true]
  rw [decide_eq_true h3, decide_eq_true h4]
  rfl
theorem nm_ne {n : Int} (h : okW n = true) : nmW n ≠ [] := by rw [nm_shape h]; simp [preW]
theorem nm_no {n : Int} (h : okW n = false) : nmW n = [] := by unfold nmW; rw [if_neg (by rw [h]; simp)]
set_option maxRecDepth 100000 in
set_option maxHeartbeats 2000000 in
theorem walk (n : Int) (s : ByteArray) (w : World) (he : EnvW w) (ht : Tab w) (hn : -9223372036854775808 ≤ n ∧ n ≤ 9223372036854775807) (hs : s.size ≤ 140737488355328) :
    Calls Tryz.prog 7 #[.int .i64 n, .string s] w fun e w' => e = .returned (.bool true) ∧ Below w.heap.size w w' := by
  have CN : Hid (Calls Tryz.prog 18 #[.int .i64 n] w fun x w' => x = .returned (.string (tB (nmW n))) ∧ Below w.heap.size w w') := nameW_any n hn.1 hn.2 w he
  have CL : Hid (∀ u, Below w.heap.size w u → Calls Tryz.prog 9 #[] u fun e w' => e = .returned (.bool true) ∧ Below u.heap.size u w') := fun u hu => lives07_any u (he.below hu (Nat.le_refl _)) (ht.below hu (Nat.le_refl _))
  obtain ⟨⟨k, ok⟩, hkr⟩ : ∃ p, numR s.data.toList = p := ⟨_, rfl⟩
  have hki := num_in s.data.toList
  have hk1 : ok = true → tB (nmW k) = s := fun h => by
    have := num_ok (s := s.data.toList) (by rw [hkr]; exact h)
    rw [hkr] at this
    rw [this, tB_of]
  have hk0 : ok = false → k = 0 := fun h => by
    have := num_no (s := s.data.toList) (by rw [hkr]; exact h)
    rw [hkr] at this; exact this
  rw [hkr] at hki
  have CM : Hid (∀ u, Below w.heap.size w u → Calls Tryz.prog 14 #[.string s] u fun x w' => x = .returned (.tuple #[.int .i64 k, .bool ok]) ∧ Below u.heap.size u w') := fun u hu => by
    have := numberW_any s hs u (he.below hu (Nat.le_refl _))
    rw [hkr] at this; exact this
  have CK : Hid (∀ u, ok = true → Below w.heap.size w u → Calls Tryz.prog 18 #[.int .i64 k] u fun x w' => x = .returned (.string s) ∧ Below u.heap.size u w') := fun u hok hu => by
    have := nameW_any k hki.1 hki.2 u (he.below hu (Nat.le_refl _))
    rw [hk1 hok] at this; exact this
  have CW : Hid (∀ u, okW n = true → Below w.heap.size w u → Calls Tryz.prog 14 #[.string (tB (nmW n))] u fun x w' => x = .returned (.tuple #[.int .i64 n, .bool true]) ∧ Below u.heap.size u w') := fun u hok hu => by
    have := numberW_any (tB (nmW n)) (by rw [tB_size]; have := nmW_len n; omega) u (he.below hu (Nat.le_refl _))
    rw [tB_list, num_name hok] at this; exact this
  have CG : Hid (∀ u, okW n = true → Calls Tryz.prog 32 #[.string (tB (nmW n))] u fun e w' => e = .returned (.bool true) ∧ w' = u) := fun u hok => by
    have := goodD_any (tB (nmW n)) u (tB_max _ (by have := nmW_len n; omega))
    rw [tB_list, nm_good hok] at this; exact this
  have HK0 : Hid (ok = false → k = 0) := hk0
  cases hok : okW n with
  | false =>
    have hnm : tB (nmW n) = ⟨#[]⟩ := by rw [nm_no hok]; rfl
    rw [hnm] at CN
    have hnr : n < 1 ∨ (¬ n < 1 ∧ 999999999 < n) := by
      have : ¬ (1 ≤ n ∧ n ≤ 999999999) := fun h => by rw [okW_iff.2 h] at hok; cases hok
      omega
    clear hok hnm hkr hk1 hk0 CW CG he ht hki hs
    cases ok with
    | false =>
      have hk := HK0.out rfl
      subst hk
      clear HK0 CK
      rcases hnr with h1 | ⟨h1, h2⟩
      · go_enter Tryz.func7, Tryz.ntmps7
        go_wp2_with fail
        go_fit CN.out
        rintro e w1 ⟨rfl, hB1⟩
        have C1 := CM.out w1 hB1
        go_wp2_with fail
        go_fit C1
        rintro e w2 ⟨rfl, hB2⟩
        have hB2' : Below w.heap.size w w2 := hB1.trans (hB2.mono hB1.size)
        clear C1 hB2 hB1
        have C3 := CL.out w2 hB2'
        go_wp2_with fail
        go_fit C3
        rintro e w9 ⟨rfl, hB9⟩
        have HF : Hid (Below w.heap.size w w9) := hB2'.trans (hB9.mono hB2'.size)
        clear C3 hB9 hB2'
        go_wp2_with fail
        go_ret
        exact ⟨rfl, HF.out⟩
      · go_enter Tryz.func7, Tryz.ntmps7
        go_wp2_with fail
        go_fit CN.out
        rintro e w1 ⟨rfl, hB1⟩
        have C1 := CM.out w1 hB1
        go_wp2_with fail
        go_fit C1
        rintro e w2 ⟨rfl, hB2⟩
        have hB2' : Below w.heap.size w w2 := hB1.trans (hB2.mono hB1.size)
        clear C1 hB2 hB1
        have C3 := CL.out w2 hB2'
        go_wp2_with fail
        go_fit C3
        rintro e w9 ⟨rfl, hB9⟩
        have HF : Hid (Below w.heap.size w w9) := hB2'.trans (hB9.mono hB2'.size)
        clear C3 hB9 hB2'
        go_wp2_with fail
        go_ret
        exact ⟨rfl, HF.out⟩
    | true =>
      have CK2 : Hid (∀ u, Below w.heap.size w u → Calls Tryz.prog 18 #[.int .i64 k] u fun x w' => x = .returned (.string s) ∧ Below u.heap.size u w') := fun u hu => CK.out u rfl hu
      clear HK0 CK
      rcases hnr with h1 | ⟨h1, h2⟩
      · go_enter Tryz.func7, Tryz.ntmps7
        go_wp2_with fail
        go_fit CN.out
        rintro e w1 ⟨rfl, hB1⟩
        have C1 := CM.out w1 hB1
        go_wp2_with fail
        go_fit C1
        rintro e w2 ⟨rfl, hB2⟩
        have hB2' : Below w.heap.size w w2 := hB1.trans (hB2.mono hB1.size)
        clear C1 hB2 hB1
        have C2 := CK2.out w2 hB2'
        go_wp2_with fail
        go_fit C2
        rintro e w3 ⟨rfl, hB3⟩
        have hB3' : Below w.heap.size w w3 := hB2'.trans (hB3.mono hB2'.size)
        clear C2 hB3 hB2'
        have C3 := CL.out w3 hB3'
        go_wp2_with fail
        go_fit C3
        rintro e w9 ⟨rfl, hB9⟩
        have HF : Hid (Below w.heap.size w w9) := hB3'.trans (hB9.mono hB3'.size)
        clear C3 hB9 hB3'
        go_wp2_with fail
        go_ret
        exact ⟨rfl, HF.out⟩
      · go_enter Tryz.func7, Tryz.ntmps7
        go_wp2_with fail
        go_fit CN.out
        rintro e w1 ⟨rfl, hB1⟩
        have C1 := CM.out w1 hB1
        go_wp2_with fail
        go_fit C1
        rintro e w2 ⟨rfl, hB2⟩
        have hB2' : Below w.heap.size w w2 := hB1.trans (hB2.mono hB1.size)
        clear C1 hB2 hB1
        have C2 := CK2.out w2 hB2'
        go_wp2_with fail
        go_fit C2
        rintro e w3 ⟨rfl, hB3⟩
        have hB3' : Below w.heap.size w w3 := hB2'.trans (hB3.mono hB2'.size)
        clear C2 hB3 hB2'
        have C3 := CL.out w3 hB3'
        go_wp2_with fail
        go_fit C3
        rintro e w9 ⟨rfl, hB9⟩
        have HF : Hid (Below w.heap.size w w9) := hB3'.trans (hB9.mono hB3'.size)
        clear C3 hB9 hB3'
        go_wp2_with fail
        go_ret
        exact ⟨rfl, HF.out⟩
  | true =>
    have hnr := okW_iff.1 hok
    have h1 : ¬ n < 1 := by omega
    have h2 : ¬ 999999999 < n := by omega
    have hq : tB (nmW n) ≠ ⟨#[]⟩ := fun e => nm_ne hok (by rw [← tB_list (nmW n), e])
    have CW2 : Hid (∀ u, Below w.heap.size w u → Calls Tryz.prog 14 #[.string (tB (nmW n))] u fun x w' => x = .returned (.tuple #[.int .i64 n, .bool true]) ∧ Below u.heap.size u w') := fun u hu => CW.out u hok hu
    have CG2 : Hid (∀ u, Calls Tryz.prog 32 #[.string (tB (nmW n))] u fun e w' => e = .returned (.bool true) ∧ w' = u) := fun u => CG.out u hok
    clear CW CG
    generalize tB (nmW n) = nm at CN CW2 CG2 hq
    have hne : (nm.toList == (⟨#[]⟩ : ByteArray).toList) = false := by
      rw [beq_eq_false_iff_ne, Go.ByteArray.toList_eq, Go.ByteArray.toList_eq]
      intro e
      apply hq
      obtain ⟨x⟩ := nm
      congr 1
      exact Array.toList_inj.1 e
    have hne3 : (nm.toList == []) = false := by
      rw [beq_eq_false_iff_ne, Go.ByteArray.toList_eq]
      intro e
      apply hq
      obtain ⟨x⟩ := nm
      congr 1
      exact Array.toList_inj.1 (by rw [e])
    have CW := CW2
    have CG := CG2
    clear CW2 CG2 hok hq hkr hk1 hk0 he ht hki hs hnr
    cases ok with
    | false =>
      have hk := HK0.out rfl
      subst hk
      clear HK0 CK
      go_enter Tryz.func7, Tryz.ntmps7
      go_wp2_with fail
      go_fit CN.out
      rintro e w1 ⟨rfl, hB1⟩
      have C1 := CW.out w1 hB1
      go_wp2_with fail
      go_fit C1
      rintro e w2 ⟨rfl, hB2⟩
      have hB2' : Below w.heap.size w w2 := hB1.trans (hB2.mono hB1.size)
      clear C1 hB2 hB1
      have C2 := CG.out w2
      go_wp2_with fail
      go_fit C2
      rintro e w2 ⟨rfl, rfl⟩
      clear C2
      have C1 := CM.out w2 hB2'
      go_wp2_with fail
      go_fit C1
      rintro e w3 ⟨rfl, hB3⟩
      have hB3' : Below w.heap.size w w3 := hB2'.trans (hB3.mono hB2'.size)
      clear C1 hB3 hB2'
      have C3 := CL.out w3 hB3'
      go_wp2_with fail
      go_fit C3
      rintro e w9 ⟨rfl, hB9⟩
      have HF : Hid (Below w.heap.size w w9) := hB3'.trans (hB9.mono hB3'.size)
      clear C3 hB9 hB3'
      go_wp2_with fail
      go_ret
      exact ⟨rfl, HF.out⟩
    | true =>
      have CK2 : Hid (∀ u, Below w.heap.size w u → Calls Tryz.prog 18 #[.int .i64 k] u fun x w' => x = .returned (.string s) ∧ Below u.heap.size u w') := fun u hu => CK.out u rfl hu
      clear HK0 CK
      go_enter Tryz.func7, Tryz.ntmps7
      go_wp2_with fail
      go_fit CN.out
      rintro e w1 ⟨rfl, hB1⟩
      have C1 := CW.out w1 hB1
      go_wp2_with fail
      go_fit C1
      rintro e w2 ⟨rfl, hB2⟩
      have hB2' : Below w.heap.size w w2 := hB1.trans (hB2.mono hB1.size)
      clear C1 hB2 hB1
      have C2 := CG.out w2
      go_wp2_with fail
      go_fit C2
      rintro e w2 ⟨rfl, rfl⟩
      clear C2
      have C1 := CM.out w2 hB2'
      go_wp2_with fail
      go_fit C1
      rintro e w3 ⟨rfl, hB3⟩
      have hB3' : Below w.heap.size w w3 := hB2'.trans (hB3.mono hB2'.size)
      clear C1 hB3 hB2'
      have C2 := CK2.out w3 hB3'
      go_wp2_with fail
      go_fit C2
      rintro e w4 ⟨rfl, hB4⟩
      have hB4' : Below w.heap.size w w4 := hB3'.trans (hB4.mono hB3'.size)
      clear C2 hB4 hB3'
      have C3 := CL.out w4 hB4'
      go_wp2_with fail
      go_fit C3
      rintro e w9 ⟨rfl, hB9⟩
      have HF : Hid (Below w.heap.size w w9) := hB4'.trans (hB9.mono hB4'.size)
      clear C3 hB9 hB4'
      go_wp2_with fail
      go_ret
      exact ⟨rfl, HF.out⟩
end Go.Proofs.YtabkgcmlfabmgaaGreatDoor.walNames
