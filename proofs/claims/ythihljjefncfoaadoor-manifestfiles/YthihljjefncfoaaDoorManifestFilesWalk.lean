/-
  THE LAW ManifestFiles, walked.
-/
import Derived.Test.YthihljjefncfoaaDoorManLives
import Derived.Test.YthihljjefncfoaaDoorKeyText
namespace Go.Proofs.YthihljjefncfoaaDoor.manifestFiles
open Go.RowKit Go.Proofs.YthihljjefncfoaaDoor

theorem fl_shape {n : Int} (h : possZ n = true) : flM n = preM ++ Lib.decDigits n.toNat := by
  have h1 := possZ_iff.1 h
  unfold flM Lib.itoa
  rw [if_pos h, if_neg (by omega)]
theorem fl_no {n : Int} (h : possZ n = false) : flM n = [] := by unfold flM; rw [if_neg (by rw [h]; simp)]
theorem fl_good {n : Int} (h : possZ n = true) : goodB (flM n) = true := by
  have hl := flM_len n
  have hr := dec_range (n.toNat + 1) n.toNat (by omega)
  rw [fl_shape h] at hl ⊢
  have hall : (preM ++ Lib.decDigits n.toNat).all (fun c => allowedI (c.toNat : Int)) = true := by
    rw [List.all_append, Bool.and_eq_true]
    refine ⟨by decide, List.all_eq_true.2 fun c hc => ?_⟩
    have := hr c hc
    have h1 : decide ((48 : Int) ≤ (c.toNat : Int)) = true := by simp; omega
    have h2 : decide ((c.toNat : Int) ≤ 57) = true := by simp; omega
    simp only [allowedI, h1, h2, Bool.and_self, Bool.or_true, Bool.true_or]
  unfold goodB
  rw [hall]
  have h3 : 0 < (preM ++ Lib.decDigits n.toNat).length := by simp [preM]
  have h4 : (preM ++ Lib.decDigits n.toNat).length ≤ 40 := by omega
  have h5 : letterI (((preM ++ Lib.decDigits n.toNat).getD 0 0).toNat : Int) = true := by
    show letterI (((116 : UInt8).toNat : Nat) : Int) = true
    decide
  rw [h5]
  simp only [Bool.and_true]
  rw [decide_eq_true h3, decide_eq_true h4]
  rfl
theorem fl_inj {a b : Int} (h : possZ a = true) (e : flM a = flM b) : a = b := by
  unfold flM at e
  rw [if_pos h] at e
  cases hb : possZ b with
  | false => rw [if_neg (by rw [hb]; simp)] at e; simp [preM] at e
  | true => rw [if_pos hb] at e; exact itoa_inj (List.append_cancel_left e)
theorem toL (l : List UInt8) : (tB l).toList = l := by rw [Go.ByteArray.toList_eq]; exact tB_list l
theorem fl_ne {n : Int} (h : possZ n = true) (l : List UInt8) (hl : l.head? ≠ some 116) : ((tB (flM n)).toList == l) = false := by
  rw [beq_eq_false_iff_ne, toL, fl_shape h]
  intro e
  subst e
  exact hl rfl
set_option maxRecDepth 100000 in
set_option maxHeartbeats 2000000 in
theorem walk (a b : Int) (w : World) (he : EnvM w) (_ht : Tab w) (ue : TypeId) (pv : Value) (_hu : Err w ue pv) (ha : -9223372036854775808 ≤ a ∧ a ≤ 9223372036854775807) (hb : -9223372036854775808 ≤ b ∧ b ≤ 9223372036854775807) :
    Calls Tryd.prog 5 #[.int .i64 a, .int .i64 b] w fun e w' => e = .returned (.bool true) ∧ Below w.heap.size w w' := by
  have CA : Hid (Calls Tryd.prog 16 #[.int .i64 a] w fun x w' => x = .returned (.string (tB (flM a))) ∧ Below w.heap.size w w') := fileM_any a ha.1 ha.2 w he
  have CB : Hid (∀ u, Below w.heap.size w u → Calls Tryd.prog 16 #[.int .i64 b] u fun x w' => x = .returned (.string (tB (flM b))) ∧ Below w.heap.size w w') := fun u hu => (fileM_any b hb.1 hb.2 u (he.below hu (Nat.le_refl _))).mono fun e w' hh => ⟨hh.1, hu.trans (hh.2.mono hu.size)⟩
  have CL : Hid (∀ u, Below w.heap.size w u → Calls Tryd.prog 6 #[] u fun e w' => e = .returned (.bool true) ∧ Below w.heap.size w w') := fun u hu => (lives13_any u (he.below hu (Nat.le_refl _))).mono fun e w' hh => ⟨hh.1, hu.trans (hh.2.mono hu.size)⟩
  cases hok : possZ a with
  | false =>
    have hx : tB (flM a) = ⟨#[]⟩ := by rw [fl_no hok]; rfl
    rw [hx] at CA
    have hnr : a < 1 ∨ (¬ a < 1 ∧ 999999999 < a) := by
      have : ¬ (1 ≤ a ∧ a ≤ 999999999) := fun h => by rw [possZ_iff.2 h] at hok; cases hok
      omega
    clear hok hx he
    generalize tB (flM b) = y at *
    rcases hnr with h1 | ⟨h1, h2⟩
    all_goals
      go_enter Tryd.func5, Tryd.ntmps5
      go_wp2_with fail
      go_fit CA.out
      rintro e w1 ⟨rfl, hB1⟩
      have C1 := CB.out w1 hB1
      clear hB1
      go_wp2_with fail
      go_fit C1
      rintro e w2 ⟨rfl, hB2⟩
      have C2 := CL.out w2 hB2
      clear C1 hB2
      go_wp2_with fail
      go_fit C2
      rintro e w3 ⟨rfl, hB3⟩
      have HF : Hid (Below w.heap.size w w3) := hB3
      clear C2 hB3
      go_wp2_with fail
      go_ret
      exact ⟨rfl, HF.out⟩
  | true =>
    have hr := possZ_iff.1 hok
    have h1 : ¬ a < 1 := by omega
    have h2 : ¬ 999999999 < a := by omega
    have CG : Hid (∀ u, Calls Tryd.prog 20 #[.string (tB (flM a))] u fun e w' => e = .returned (.bool true) ∧ w' = u) := fun u => by
      have := goodD_any (tB (flM a)) u (tB_max _ (by have := flM_len a; omega))
      rw [tB_list, fl_good hok] at this; exact this
    have n1 := fl_ne hok [] (by simp)
    have n2 := fl_ne hok [109, 97, 110, 105, 102, 101, 115, 116] (by decide)
    have n3 := fl_ne hok [109, 97, 110, 105, 102, 101, 115, 116, 46, 110, 101, 119] (by decide)
    have m1 : ((tB (flM a)).toList == (⟨#[]⟩ : ByteArray).toList) = false := fl_ne hok _ (by rw [Go.ByteArray.toList_eq]; decide)
    have m2 : ((tB (flM a)).toList == (⟨#[109, 97, 110, 105, 102, 101, 115, 116]⟩ : ByteArray).toList) = false := fl_ne hok _ (by rw [Go.ByteArray.toList_eq]; decide)
    have m3 : ((tB (flM a)).toList == (⟨#[109, 97, 110, 105, 102, 101, 115, 116, 46, 110, 101, 119]⟩ : ByteArray).toList) = false := fl_ne hok _ (by rw [Go.ByteArray.toList_eq]; decide)
    by_cases hab : a = b
    · subst hab
      clear hok he hr
      generalize tB (flM a) = x at *
      go_enter Tryd.func5, Tryd.ntmps5
      go_wp2_with fail
      go_fit CA.out
      rintro e w1 ⟨rfl, hB1⟩
      have C1 := CB.out w1 hB1
      clear hB1
      go_wp2_with fail
      go_fit C1
      rintro e w2 ⟨rfl, hB2⟩
      have C2 := CL.out w2 hB2
      have C3 := CG.out w2
      clear C1 hB2
      go_wp2_with fail
      go_fit C3
      rintro e w2 ⟨rfl, rfl⟩
      clear C3
      go_wp2_with fail
      go_fit C2
      rintro e w3 ⟨rfl, hB3⟩
      have HF : Hid (Below w.heap.size w w3) := hB3
      clear C2 hB3
      go_wp2_with fail
      go_ret
      exact ⟨rfl, HF.out⟩
    · have e1 : ((tB (flM a)).toList == (tB (flM b)).toList) = false := by
        rw [beq_eq_false_iff_ne, toL, toL]
        exact fun e => hab (fl_inj hok e)
      have e2 : (a == b) = false := by rw [beq_eq_false_iff_ne]; exact hab
      clear hok he hr
      generalize tB (flM a) = x at *
      generalize tB (flM b) = y at *
      go_enter Tryd.func5, Tryd.ntmps5
      go_wp2_with fail
      go_fit CA.out
      rintro e w1 ⟨rfl, hB1⟩
      have C1 := CB.out w1 hB1
      clear hB1
      go_wp2_with fail
      go_fit C1
      rintro e w2 ⟨rfl, hB2⟩
      have C2 := CL.out w2 hB2
      have C3 := CG.out w2
      clear C1 hB2
      go_wp2_with fail
      go_fit C3
      rintro e w2 ⟨rfl, rfl⟩
      clear C3
      go_wp2_with fail
      go_fit C2
      rintro e w3 ⟨rfl, hB3⟩
      have HF : Hid (Below w.heap.size w w3) := hB3
      clear C2 hB3
      go_wp2_with fail
      go_ret
      exact ⟨rfl, HF.out⟩
end Go.Proofs.YthihljjefncfoaaDoor.manifestFiles
