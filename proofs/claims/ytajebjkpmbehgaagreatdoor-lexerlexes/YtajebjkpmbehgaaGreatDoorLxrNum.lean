/-
  CONTRACT: the document's number.
-/
import Derived.Test.YtajebjkpmbehgaaGreatDoorLxrSkip
import Derived.Test.YtajebjkpmbehgaaGreatDoorLxrDig
namespace Go.Proofs.YtajebjkpmbehgaaGreatDoor
open Go.RowKit

/-- What the document's answer tells of a token that begins at byte p. -/
def resR (x : Option Tk × Nat) (p : Nat) : Value := match x with
  | (some t, _) => .tuple #[(t.at p).v, .int .i64 (-1)]
  | (none, m) => .tuple #[noTk.v, .int .i64 ((m + p : Nat) : Int)]
theorem resR_no (p : Nat) : resR (none, 0) p = .tuple #[.agg #[.int .i64 0, .string ⟨#[]⟩, .int .i64 0, .int .i64 0, .string ⟨#[]⟩, .int .i64 0, .int .i64 0], .int .i64 (p : Int)] := by simp [resR, noTk, Tk.v, Tk.cs, xB]
theorem resR_at (k vk vn : Int) (ts vs : List UInt8) (e p : Nat) : resR (some ⟨k, ts, vk, vn, vs, 0, e⟩, 0) p = .tuple #[.agg #[.int .i64 k, .string (xB ts), .int .i64 vk, .int .i64 vn, .string (xB vs), .int .i64 (p : Int), .int .i64 ((e + p : Nat) : Int)], .int .i64 (-1)] := by
  simp [resR, Tk.at, Tk.v, Tk.cs]
theorem tdiv_max (x : Int) (h : 48 ≤ x ∧ x ≤ 57) : ∃ y : Int, Int.tdiv (-9223372036854775808 + (x - 48)) 10 = y ∧ (-922337203685477581 ≤ y ∧ y ≤ 0) ∧ ∀ z : Int, z ≤ 0 → (z < y ↔ 10 * z - (x - 48) < -9223372036854775808) := by
  have e : (-9223372036854775808 + (x - 48)) = -(9223372036854775808 - (x - 48)) := by omega
  rw [e, Int.neg_tdiv, Int.tdiv_eq_ediv_of_nonneg (by omega)]
  exact ⟨_, rfl, by omega, fun z hz => by omega⟩
set_option maxRecDepth 100000 in
set_option maxHeartbeats 2000000 in
theorem numberPos_any (s : ByteArray) (p : Nat) (w : World) (hs : s.size ≤ 600) (hq : p < s.size) (hdg : dgB (s[p]'hq) = true) :
    Calls Tryz.prog 27 #[.string s, .int .i64 (p : Int)] w fun e w' => e = .returned (resR (numT (s.data.toList.drop p)) p) ∧ Below w.heap.size w w' := by
  have hc1 := drop_consB s p hq
  obtain ⟨b0, hb0⟩ : ∃ b, s[p]'hq = b := ⟨_, rfl⟩
  have h45z : ((b0.toNat : Int) == 45) = false := beq_false_of_ne (by have := (dgB_iff _).1 hdg; rw [hb0] at this; omega)
  obtain ⟨T, hT⟩ : ∃ T, vN 0 (dD false (s.data.toList.drop p)) = T := ⟨_, rfl⟩
  obtain ⟨E, hE⟩ : ∃ E, p + dgN false (s.data.toList.drop p) = E := ⟨_, rfl⟩
  have hnum : ∃ m, p + m = E ∧ numT (s.data.toList.drop p) = numV false T m := by
    refine ⟨dgN false (s.data.toList.drop p), by omega, ?_⟩
    rw [← hT, hc1, numT_pos hdg]
  obtain ⟨m, hm, hnum⟩ := hnum
  have HB : Hid (9223372036854775808 < T → resR (numT (s.data.toList.drop p)) p = .tuple #[.agg #[.int .i64 0, .string ⟨#[]⟩, .int .i64 0, .int .i64 0, .string ⟨#[]⟩, .int .i64 0, .int .i64 0], .int .i64 (p : Int)]) := fun h => by rw [hnum, numV_big _ h, resR_no]
  have HE : Hid (T = 9223372036854775808 → resR (numT (s.data.toList.drop p)) p = .tuple #[.agg #[.int .i64 0, .string ⟨#[]⟩, .int .i64 0, .int .i64 0, .string ⟨#[]⟩, .int .i64 0, .int .i64 0], .int .i64 (p : Int)]) := fun h => by rw [hnum, h, numV_edge, resR_no]
  have HO : Hid (T < 9223372036854775808 → resR (numT (s.data.toList.drop p)) p = .tuple #[.agg #[.int .i64 4, .string ⟨#[]⟩, .int .i64 1, .int .i64 (T : Int), .string ⟨#[]⟩, .int .i64 (p : Int), .int .i64 (E : Int)], .int .i64 (-1)]) := fun h => by
    rw [hnum, numV_pos h, resR_at, Nat.add_comm, hm]; rfl
  have hst : ∃ b r, s.data.toList.drop p = b :: r ∧ dgB b = true := ⟨_, _, hc1, hdg⟩
  generalize resR (numT (s.data.toList.drop p)) p = RR at *
  clear hnum hm hc1 hdg
  have HX : Hid (∀ p, s.size ≤ p → s.data.toList.drop p = []) := drop_endB s
  have HC : Hid (∀ p (h : p < s.size), s.data.toList.drop p = (s[p]'h) :: s.data.toList.drop (p + 1)) := drop_consB s
  have CD : Hid (∀ (b : UInt8) w, Calls Tryz.prog 26 #[.int .u8 (b.toNat : Int)] w fun e w' => e = .returned (.bool (dgB b)) ∧ w' = w) := fun b w => by rw [← dgI_B]; exact digitR_any _ w




  have HPx : Hid (∀ o, Below w.heap.size w (w.alloc o)) := fun o => (Below.refl _ _).alloc (Nat.le_refl _) o
  go_enter Tryz.func27, Tryz.ntmps27
  go_wp2_with fail
  go_loop [6, 8] (fun s6 s8 => ∃ (i V : Nat) (d : Bool), p ≤ i ∧ i ≤ s.size ∧ s6 = .int .i64 (i : Int) ∧ s8 = .int .i64 (-(V : Int)) ∧ V ≤ 9223372036854775808 ∧ i + dgN d (s.data.toList.drop i) = E ∧ vN V (dD d (s.data.toList.drop i)) = T ∧ (d = false → ∃ b r, s.data.toList.drop i = b :: r ∧ dgB b = true)) (fun s6 _ => s.size - (intOf s6).toNat)
  case atStart => exact ⟨p, 0, false, Nat.le_refl _, Nat.le_of_lt hq, rfl, rfl, by omega, hE, hT, fun _ => hst⟩
  case round =>
    obtain ⟨i, V, d, hqi, hi, rfl, rfl, hV, hinv, hval, hd⟩ := hrel
    clear hE hT hst
    obtain ⟨z, hz⟩ : ∃ z : Int, -(V : Int) = z := ⟨_, rfl⟩
    have hz0 : z ≤ 0 := by omega
    have hz1 : -9223372036854775808 ≤ z := by omega
    rw [hz]
    rcases Nat.lt_or_ge i s.size with hlt | hge
    · have hltz : (i : Int) < (s.size : Int) := by omega
      obtain ⟨b, hb⟩ : ∃ b, s[i]'hlt = b := ⟨_, rfl⟩
      have hc := HC.out i hlt
      rw [hb] at hc
      rw [hc] at hinv hval hd
      have h256 := b.toNat_lt
      have CB := CD.out b
      by_cases hbd : dgB b = true
      · have hbz := (dgB_iff b).1 hbd
        rw [hbd] at CB
        have CB1 : Hid _ := CB
        rw [(dD_dig hbd d _).1] at hinv
        rw [(dD_dig hbd d _).2, vN_cons] at hval
        have h95 : ((b.toNat : Int) == 95) = false := beq_false_of_ne (by omega)
        obtain ⟨y, hy, ⟨hyl, hyh⟩, hyz⟩ := tdiv_max (b.toNat : Int) (by omega)
        have hyz := hyz z hz0
        have hx48 : 48 ≤ (b.toNat : Int) := by omega
        have hx57 : (b.toNat : Int) ≤ 57 := by omega
        have HQ : Hid (V * 10 + (b.toNat - 48) ≤ 9223372036854775808 → i + 1 + dgN true (s.data.toList.drop (i + 1)) = E ∧ vN (V * 10 + (b.toNat - 48)) (dD true (s.data.toList.drop (i + 1))) = T) := fun _ => ⟨by omega, hval⟩
        have HT : Hid (V * 10 + (b.toNat - 48) ≤ T) := by rw [← hval]; exact vN_ge _ _
        have HV : Hid (((V * 10 + (b.toNat - 48) : Nat) : Int) = -(10 * z - ((b.toNat : Int) - 48))) := by show _ = _; omega
        clear hinv hval hd CB HC HX CD hbd hc
        by_cases ho : z < y
        · have HR : Hid (RR = _) := HB.out (by have := HT.out; have := HV.out; have := hyz.1 ho; omega)
          have hod : decide (z < y) = true := decide_eq_true ho
          clear hyz HQ HT HV HB HO hz hbz
          generalize hbx : (b.toNat : Int) = x at *
          go_wp2_with (go_at_call 26; with_reducible (refine (CB1.out _).mono ?_); rintro e _ ⟨rfl, hw⟩; obtain rfl := hw.symm; clear hw)
          refine bodyPost_ret (v := .tuple #[.agg #[.int .i64 0, .string ⟨#[]⟩, .int .i64 0, .int .i64 0, .string ⟨#[]⟩, .int .i64 0, .int .i64 0], .int .i64 (p : Int)]) (results_row_one Tryz.results27 _ _ w.heap.size 29 _ _ _ _ rfl rfl (new_at _ _ rfl) Tryz.underlying29 rfl (by kernel_rfl)) rfl ?_
          exact ⟨by rw [HR.out], HPx.out _⟩
        · have hod : decide (z < y) = false := decide_eq_false ho
          have hlow : -9223372036854775808 ≤ 10 * z - ((b.toNat : Int) - 48) := by have := fun h => ho (hyz.2 h); omega
          have HQ2 := HQ.out (by have := HV.out; omega)
          have HQ3 : Hid _ := HQ2
          have HV2 : Hid (10 * z - ((b.toNat : Int) - 48) = -((V * 10 + (b.toNat - 48) : Nat) : Int)) := by show _ = _; have := HV.out; omega
          have hVn : V * 10 + (b.toNat - 48) ≤ 9223372036854775808 := by have := HV.out; omega
          clear hyz HQ HT HV HB HO hz hbz HQ2
          generalize V * 10 + (b.toNat - 48) = V2 at *
          generalize hbx : (b.toNat : Int) = x at *
          go_wp2_with (go_at_call 26; with_reducible (refine (CB1.out _).mono ?_); rintro e _ ⟨rfl, hw⟩; obtain rfl := hw.symm; clear hw)
          go_round
          case rel => exact ⟨i + 1, V2, true, by omega, by omega, by simp, by rw [HV2.out], hVn, HQ3.out.1, HQ3.out.2, fun h => by cases h⟩
          case measure => simp [intOf]; omega
      · have hbd0 : dgB b = false := by simpa using hbd
        have hdt : d = true := by
          cases d
          · obtain ⟨b', r', e, h⟩ := hd rfl
            obtain ⟨rfl, -⟩ := List.cons.inj e
            exact absurd h hbd
          · rfl
        subst hdt
        rw [hbd0] at CB
        have CB1 : Hid _ := CB
        have hvT : V ≤ T := by rw [← hval]; exact vN_ge _ _
        by_cases h95 : b.toNat = 95
        · have h95z : (b.toNat : Int) = 95 := by omega
          rw [h95z] at CB CB1
          by_cases hlt2 : i + 1 < s.size
          · have hlt2z : (i : Int) + 1 < (s.size : Int) := by omega
            obtain ⟨c, hb2⟩ : ∃ c, s[i + 1]'hlt2 = c := ⟨_, rfl⟩
            have hc2 := HC.out (i + 1) hlt2
            rw [hb2] at hc2
            rw [hc2] at hinv hval
            have CC := CD.out c
            have c256 := c.toNat_lt
            by_cases hcd : dgB c = true
            · have hbz := (dgB_iff c).1 hcd
              rw [hcd] at CC
              have CC1 : Hid _ := CC
              rw [(dD_bar h95 hcd _).1] at hinv
              rw [(dD_bar h95 hcd _).2, vN_cons] at hval
              obtain ⟨y, hy, ⟨hyl, hyh⟩, hyz⟩ := tdiv_max (c.toNat : Int) (by omega)
              have hyz := hyz z hz0
              have hx48 : 48 ≤ (c.toNat : Int) := by omega
              have hx57 : (c.toNat : Int) ≤ 57 := by omega
              have HQ : Hid (V * 10 + (c.toNat - 48) ≤ 9223372036854775808 → i + 1 + 1 + dgN true (s.data.toList.drop (i + 1 + 1)) = E ∧ vN (V * 10 + (c.toNat - 48)) (dD true (s.data.toList.drop (i + 1 + 1))) = T) := fun _ => ⟨by omega, hval⟩
              have HT : Hid (V * 10 + (c.toNat - 48) ≤ T) := by rw [← hval]; exact vN_ge _ _
              have HV : Hid (((V * 10 + (c.toNat - 48) : Nat) : Int) = -(10 * z - ((c.toNat : Int) - 48))) := by show _ = _; omega
              clear hinv hval hd CB CC HC HX CD hbd hbd0 hc hc2 CB1 hvT h95
              by_cases ho : z < y
              · have HR : Hid (RR = _) := HB.out (by have := HT.out; have := HV.out; have := hyz.1 ho; omega)
                have hod : decide (z < y) = true := decide_eq_true ho
                clear hyz HQ HT HV HB HO hz hbz
                generalize hcx : (c.toNat : Int) = x at *
                go_wp2_with (go_at_call 26; with_reducible (refine (CC1.out _).mono ?_); rintro e _ ⟨rfl, hw⟩; obtain rfl := hw.symm; clear hw)
                refine bodyPost_ret (v := .tuple #[.agg #[.int .i64 0, .string ⟨#[]⟩, .int .i64 0, .int .i64 0, .string ⟨#[]⟩, .int .i64 0, .int .i64 0], .int .i64 (p : Int)]) (results_row_one Tryz.results27 _ _ w.heap.size 29 _ _ _ _ rfl rfl (new_at _ _ rfl) Tryz.underlying29 rfl (by kernel_rfl)) rfl ?_
                exact ⟨by rw [HR.out], HPx.out _⟩
              · have hod : decide (z < y) = false := decide_eq_false ho
                have hlow : -9223372036854775808 ≤ 10 * z - ((c.toNat : Int) - 48) := by have := fun h => ho (hyz.2 h); omega
                have HQ2 := HQ.out (by have := HV.out; omega)
                have HQ3 : Hid _ := HQ2
                have HV2 : Hid (10 * z - ((c.toNat : Int) - 48) = -((V * 10 + (c.toNat - 48) : Nat) : Int)) := by show _ = _; have := HV.out; omega
                have hVn : V * 10 + (c.toNat - 48) ≤ 9223372036854775808 := by have := HV.out; omega
                clear hyz HQ HT HV HB HO hz hbz HQ2
                generalize V * 10 + (c.toNat - 48) = V2 at *
                generalize hcx : (c.toNat : Int) = x at *
                go_wp2_with (go_at_call 26; with_reducible (refine (CC1.out _).mono ?_); rintro e _ ⟨rfl, hw⟩; obtain rfl := hw.symm; clear hw)
                go_round
                case rel => exact ⟨i + 1 + 1, V2, true, by omega, by omega, by first | go_num | simp | (simp; omega), by rw [HV2.out], hVn, HQ3.out.1, HQ3.out.2, fun h => by cases h⟩
                case measure => simp [intOf]; omega
            · have hcd0 : dgB c = false := by simpa using hcd
              rw [hcd0] at CC
              have CC1 : Hid _ := CC
              obtain ⟨e1, e2⟩ := dD_stop (b := b) (r := c :: s.data.toList.drop (i + 1 + 1)) hbd0 (fun _ c' t e => by obtain ⟨rfl, -⟩ := List.cons.inj e; exact hcd0)
              rw [e1] at hinv
              rw [e2, vN_nil] at hval
              clear e1 e2 hd CB CC HC HX CD hbd hbd0 hc hc2 hvT h95 hcd hcd0 HB
              obtain rfl : i = E := by omega
              subst hval
              by_cases hedge : V = 9223372036854775808
              · have HR : Hid (RR = _) := HE.out hedge
                have hze : z = -9223372036854775808 := by omega
                clear HO HE hz hV hedge
                subst hze
                go_wp2_with (first | (go_at_call 26; with_reducible (refine (CC1.out _).mono ?_); rintro e _ ⟨rfl, hw⟩; obtain rfl := hw.symm; clear hw) | (go_at_call 26; with_reducible (refine (CB1.out _).mono ?_); rintro e _ ⟨rfl, hw⟩; obtain rfl := hw.symm; clear hw))
                refine bodyPost_ret (v := .tuple #[.agg #[.int .i64 0, .string ⟨#[]⟩, .int .i64 0, .int .i64 0, .string ⟨#[]⟩, .int .i64 0, .int .i64 0], .int .i64 (p : Int)]) (results_row_one Tryz.results27 _ _ w.heap.size 29 _ _ _ _ rfl rfl (new_at _ _ rfl) Tryz.underlying29 rfl (by kernel_rfl)) rfl ?_
                exact ⟨by rw [HR.out], HPx.out _⟩
              · have HR : Hid (RR = _) := HO.out (by omega)
                have hze : (z == -9223372036854775808) = false := beq_false_of_ne (by omega)
                have hzn : -z = (V : Int) := by omega
                have hzl : -9223372036854775807 ≤ z := by omega
                rw [← hzn] at HR
                clear HO HE hz hV hedge hzn
                go_wp2_with (first | (go_at_call 26; with_reducible (refine (CC1.out _).mono ?_); rintro e _ ⟨rfl, hw⟩; obtain rfl := hw.symm; clear hw) | (go_at_call 26; with_reducible (refine (CB1.out _).mono ?_); rintro e _ ⟨rfl, hw⟩; obtain rfl := hw.symm; clear hw))
                refine bodyPost_ret (v := .tuple #[.agg #[.int .i64 4, .string ⟨#[]⟩, .int .i64 1, .int .i64 (-z), .string ⟨#[]⟩, .int .i64 (p : Int), .int .i64 (i : Int)], .int .i64 (-1)]) (results_row_one Tryz.results27 _ _ w.heap.size 29 _ _ _ _ rfl rfl (new_at _ _ rfl) Tryz.underlying29 rfl (by kernel_rfl)) rfl ?_
                exact ⟨by rw [HR.out], HPx.out _⟩
          · have hlt2z : ¬ (i : Int) + 1 < (s.size : Int) := by omega
            have hX := HX.out (i + 1) (by omega)
            rw [hX] at hinv hval
            obtain ⟨e1, e2⟩ := dD_stop (b := b) (r := []) hbd0 (fun _ c' t e => by cases e)
            rw [e1] at hinv
            rw [e2, vN_nil] at hval
            clear e1 e2 hd CB HC HX CD hbd hbd0 hc hvT h95 HB hX
            obtain rfl : i = E := by omega
            subst hval
            by_cases hedge : V = 9223372036854775808
            · have HR : Hid (RR = _) := HE.out hedge
              have hze : z = -9223372036854775808 := by omega
              clear HO HE hz hV hedge
              subst hze
              go_wp2_with (go_at_call 26; with_reducible (refine (CB1.out _).mono ?_); rintro e _ ⟨rfl, hw⟩; obtain rfl := hw.symm; clear hw)
              refine bodyPost_ret (v := .tuple #[.agg #[.int .i64 0, .string ⟨#[]⟩, .int .i64 0, .int .i64 0, .string ⟨#[]⟩, .int .i64 0, .int .i64 0], .int .i64 (p : Int)]) (results_row_one Tryz.results27 _ _ w.heap.size 29 _ _ _ _ rfl rfl (new_at _ _ rfl) Tryz.underlying29 rfl (by kernel_rfl)) rfl ?_
              exact ⟨by rw [HR.out], HPx.out _⟩
            · have HR : Hid (RR = _) := HO.out (by omega)
              have hze : (z == -9223372036854775808) = false := beq_false_of_ne (by omega)
              have hzn : -z = (V : Int) := by omega
              have hzl : -9223372036854775807 ≤ z := by omega
              rw [← hzn] at HR
              clear HO HE hz hV hedge hzn
              go_wp2_with (go_at_call 26; with_reducible (refine (CB1.out _).mono ?_); rintro e _ ⟨rfl, hw⟩; obtain rfl := hw.symm; clear hw)
              refine bodyPost_ret (v := .tuple #[.agg #[.int .i64 4, .string ⟨#[]⟩, .int .i64 1, .int .i64 (-z), .string ⟨#[]⟩, .int .i64 (p : Int), .int .i64 (i : Int)], .int .i64 (-1)]) (results_row_one Tryz.results27 _ _ w.heap.size 29 _ _ _ _ rfl rfl (new_at _ _ rfl) Tryz.underlying29 rfl (by kernel_rfl)) rfl ?_
              exact ⟨by rw [HR.out], HPx.out _⟩
        · have h95z : ((b.toNat : Int) == 95) = false := beq_false_of_ne (by omega)
          obtain ⟨e1, e2⟩ := dD_stop (b := b) (r := s.data.toList.drop (i + 1)) hbd0 (fun h => absurd h h95)
          rw [e1] at hinv
          rw [e2, vN_nil] at hval
          clear e1 e2 hd CB HC HX CD hbd hbd0 hc hvT h95 HB
          obtain rfl : i = E := by omega
          subst hval
          by_cases hedge : V = 9223372036854775808
          · have HR : Hid (RR = _) := HE.out hedge
            have hze : z = -9223372036854775808 := by omega
            clear HO HE hz hV hedge
            subst hze
            go_wp2_with (go_at_call 26; with_reducible (refine (CB1.out _).mono ?_); rintro e _ ⟨rfl, hw⟩; obtain rfl := hw.symm; clear hw)
            refine bodyPost_ret (v := .tuple #[.agg #[.int .i64 0, .string ⟨#[]⟩, .int .i64 0, .int .i64 0, .string ⟨#[]⟩, .int .i64 0, .int .i64 0], .int .i64 (p : Int)]) (results_row_one Tryz.results27 _ _ w.heap.size 29 _ _ _ _ rfl rfl (new_at _ _ rfl) Tryz.underlying29 rfl (by kernel_rfl)) rfl ?_
            exact ⟨by rw [HR.out], HPx.out _⟩
          · have HR : Hid (RR = _) := HO.out (by omega)
            have hze : (z == -9223372036854775808) = false := beq_false_of_ne (by omega)
            have hzn : -z = (V : Int) := by omega
            have hzl : -9223372036854775807 ≤ z := by omega
            rw [← hzn] at HR
            clear HO HE hz hV hedge hzn
            go_wp2_with (go_at_call 26; with_reducible (refine (CB1.out _).mono ?_); rintro e _ ⟨rfl, hw⟩; obtain rfl := hw.symm; clear hw)
            refine bodyPost_ret (v := .tuple #[.agg #[.int .i64 4, .string ⟨#[]⟩, .int .i64 1, .int .i64 (-z), .string ⟨#[]⟩, .int .i64 (p : Int), .int .i64 (i : Int)], .int .i64 (-1)]) (results_row_one Tryz.results27 _ _ w.heap.size 29 _ _ _ _ rfl rfl (new_at _ _ rfl) Tryz.underlying29 rfl (by kernel_rfl)) rfl ?_
            exact ⟨by rw [HR.out], HPx.out _⟩
    · obtain rfl : i = s.size := by omega
      rw [HX.out s.size (Nat.le_refl _)] at hinv hval
      rw [(dD_nil d).1] at hinv
      rw [(dD_nil d).2, vN_nil] at hval
      clear hd HC HX CD HB
      obtain rfl : s.size = E := by omega
      subst hval
      by_cases hedge : V = 9223372036854775808
      · have HR : Hid (RR = _) := HE.out hedge
        have hze : z = -9223372036854775808 := by omega
        clear HO HE hz hV hedge
        subst hze
        go_wp2_with fail
        refine bodyPost_ret (v := .tuple #[.agg #[.int .i64 0, .string ⟨#[]⟩, .int .i64 0, .int .i64 0, .string ⟨#[]⟩, .int .i64 0, .int .i64 0], .int .i64 (p : Int)]) (results_row_one Tryz.results27 _ _ w.heap.size 29 _ _ _ _ rfl rfl (new_at _ _ rfl) Tryz.underlying29 rfl (by kernel_rfl)) rfl ?_
        exact ⟨by rw [HR.out], HPx.out _⟩
      · have HR : Hid (RR = _) := HO.out (by omega)
        have hze : (z == -9223372036854775808) = false := beq_false_of_ne (by omega)
        have hzn : -z = (V : Int) := by omega
        have hzl : -9223372036854775807 ≤ z := by omega
        rw [← hzn] at HR
        clear HO HE hz hV hedge hzn
        go_wp2_with fail
        refine bodyPost_ret (v := .tuple #[.agg #[.int .i64 4, .string ⟨#[]⟩, .int .i64 1, .int .i64 (-z), .string ⟨#[]⟩, .int .i64 (p : Int), .int .i64 (s.size : Int)], .int .i64 (-1)]) (results_row_one Tryz.results27 _ _ w.heap.size 29 _ _ _ _ rfl rfl (new_at _ _ rfl) Tryz.underlying29 rfl (by kernel_rfl)) rfl ?_
        exact ⟨by rw [HR.out], HPx.out _⟩
set_option maxRecDepth 100000 in
set_option maxHeartbeats 2000000 in
theorem numberNeg_any (s : ByteArray) (p : Nat) (w : World) (hs : s.size ≤ 600) (hq : (p + 1) < s.size) (hdg : dgB (s[(p + 1)]'hq) = true) (h45 : (s[p]'(Nat.lt_of_succ_lt hq)).toNat = 45) :
    Calls Tryz.prog 27 #[.string s, .int .i64 (p : Int)] w fun e w' => e = .returned (resR (numT (s.data.toList.drop p)) p) ∧ Below w.heap.size w w' := by
  have hp : p < s.size := Nat.lt_of_succ_lt hq
  have hc0 := drop_consB s p hp
  have hc1 := drop_consB s (p + 1) hq
  obtain ⟨b0, hb0⟩ : ∃ b, s[p]'hp = b := ⟨_, rfl⟩
  rw [hb0] at hc0 h45
  have h45z : (b0.toNat : Int) = 45 := by omega
  obtain ⟨T, hT⟩ : ∃ T, vN 0 (dD false (s.data.toList.drop (p + 1))) = T := ⟨_, rfl⟩
  obtain ⟨E, hE⟩ : ∃ E, p + 1 + dgN false (s.data.toList.drop (p + 1)) = E := ⟨_, rfl⟩
  have hnum : ∃ m, p + m = E ∧ numT (s.data.toList.drop p) = numV true T m := by
    refine ⟨1 + dgN false (s.data.toList.drop (p + 1)), by omega, ?_⟩
    rw [hc0, ← hT, hc1, numT_neg h45 hdg]
  clear hc0 h45
  obtain ⟨m, hm, hnum⟩ := hnum
  have HB : Hid (9223372036854775808 < T → resR (numT (s.data.toList.drop p)) p = .tuple #[.agg #[.int .i64 0, .string ⟨#[]⟩, .int .i64 0, .int .i64 0, .string ⟨#[]⟩, .int .i64 0, .int .i64 0], .int .i64 (p : Int)]) := fun h => by rw [hnum, numV_big _ h, resR_no]
  have HO : Hid (T ≤ 9223372036854775808 → resR (numT (s.data.toList.drop p)) p = .tuple #[.agg #[.int .i64 4, .string ⟨#[]⟩, .int .i64 1, .int .i64 (-(T : Int)), .string ⟨#[]⟩, .int .i64 (p : Int), .int .i64 (E : Int)], .int .i64 (-1)]) := fun h => by
    rw [hnum, numV_neg h, resR_at, Nat.add_comm, hm]; rfl
  have hst : ∃ b r, s.data.toList.drop (p + 1) = b :: r ∧ dgB b = true := ⟨_, _, hc1, hdg⟩
  generalize resR (numT (s.data.toList.drop p)) p = RR at *
  clear hnum hm hc1 hdg
  have HX : Hid (∀ p, s.size ≤ p → s.data.toList.drop p = []) := drop_endB s
  have HC : Hid (∀ p (h : p < s.size), s.data.toList.drop p = (s[p]'h) :: s.data.toList.drop (p + 1)) := drop_consB s
  have CD : Hid (∀ (b : UInt8) w, Calls Tryz.prog 26 #[.int .u8 (b.toNat : Int)] w fun e w' => e = .returned (.bool (dgB b)) ∧ w' = w) := fun b w => by rw [← dgI_B]; exact digitR_any _ w




  have HPx : Hid (∀ o, Below w.heap.size w (w.alloc o)) := fun o => (Below.refl _ _).alloc (Nat.le_refl _) o
  go_enter Tryz.func27, Tryz.ntmps27
  go_wp2_with fail
  go_loop [6, 8] (fun s6 s8 => ∃ (i V : Nat) (d : Bool), (p + 1) ≤ i ∧ i ≤ s.size ∧ s6 = .int .i64 (i : Int) ∧ s8 = .int .i64 (-(V : Int)) ∧ V ≤ 9223372036854775808 ∧ i + dgN d (s.data.toList.drop i) = E ∧ vN V (dD d (s.data.toList.drop i)) = T ∧ (d = false → ∃ b r, s.data.toList.drop i = b :: r ∧ dgB b = true)) (fun s6 _ => s.size - (intOf s6).toNat)
  case atStart => exact ⟨(p + 1), 0, false, Nat.le_refl _, Nat.le_of_lt hq, by simp, rfl, by omega, hE, hT, fun _ => hst⟩
  case round =>
    obtain ⟨i, V, d, hqi, hi, rfl, rfl, hV, hinv, hval, hd⟩ := hrel
    clear hE hT hst
    obtain ⟨z, hz⟩ : ∃ z : Int, -(V : Int) = z := ⟨_, rfl⟩
    have hz0 : z ≤ 0 := by omega
    have hz1 : -9223372036854775808 ≤ z := by omega
    rw [hz]
    rcases Nat.lt_or_ge i s.size with hlt | hge
    · have hltz : (i : Int) < (s.size : Int) := by omega
      obtain ⟨b, hb⟩ : ∃ b, s[i]'hlt = b := ⟨_, rfl⟩
      have hc := HC.out i hlt
      rw [hb] at hc
      rw [hc] at hinv hval hd
      have h256 := b.toNat_lt
      have CB := CD.out b
      by_cases hbd : dgB b = true
      · have hbz := (dgB_iff b).1 hbd
        rw [hbd] at CB
        have CB1 : Hid _ := CB
        rw [(dD_dig hbd d _).1] at hinv
        rw [(dD_dig hbd d _).2, vN_cons] at hval
        have h95 : ((b.toNat : Int) == 95) = false := beq_false_of_ne (by omega)
        obtain ⟨y, hy, ⟨hyl, hyh⟩, hyz⟩ := tdiv_max (b.toNat : Int) (by omega)
        have hyz := hyz z hz0
        have hx48 : 48 ≤ (b.toNat : Int) := by omega
        have hx57 : (b.toNat : Int) ≤ 57 := by omega
        have HQ : Hid (V * 10 + (b.toNat - 48) ≤ 9223372036854775808 → i + 1 + dgN true (s.data.toList.drop (i + 1)) = E ∧ vN (V * 10 + (b.toNat - 48)) (dD true (s.data.toList.drop (i + 1))) = T) := fun _ => ⟨by omega, hval⟩
        have HT : Hid (V * 10 + (b.toNat - 48) ≤ T) := by rw [← hval]; exact vN_ge _ _
        have HV : Hid (((V * 10 + (b.toNat - 48) : Nat) : Int) = -(10 * z - ((b.toNat : Int) - 48))) := by show _ = _; omega
        clear hinv hval hd CB HC HX CD hbd hc
        by_cases ho : z < y
        · have HR : Hid (RR = _) := HB.out (by have := HT.out; have := HV.out; have := hyz.1 ho; omega)
          have hod : decide (z < y) = true := decide_eq_true ho
          clear hyz HQ HT HV HB HO hz hbz
          generalize hbx : (b.toNat : Int) = x at *
          go_wp2_with (go_at_call 26; with_reducible (refine (CB1.out _).mono ?_); rintro e _ ⟨rfl, hw⟩; obtain rfl := hw.symm; clear hw)
          refine bodyPost_ret (v := .tuple #[.agg #[.int .i64 0, .string ⟨#[]⟩, .int .i64 0, .int .i64 0, .string ⟨#[]⟩, .int .i64 0, .int .i64 0], .int .i64 (p : Int)]) (results_row_one Tryz.results27 _ _ w.heap.size 29 _ _ _ _ rfl rfl (new_at _ _ rfl) Tryz.underlying29 rfl (by kernel_rfl)) rfl ?_
          exact ⟨by rw [HR.out], HPx.out _⟩
        · have hod : decide (z < y) = false := decide_eq_false ho
          have hlow : -9223372036854775808 ≤ 10 * z - ((b.toNat : Int) - 48) := by have := fun h => ho (hyz.2 h); omega
          have HQ2 := HQ.out (by have := HV.out; omega)
          have HQ3 : Hid _ := HQ2
          have HV2 : Hid (10 * z - ((b.toNat : Int) - 48) = -((V * 10 + (b.toNat - 48) : Nat) : Int)) := by show _ = _; have := HV.out; omega
          have hVn : V * 10 + (b.toNat - 48) ≤ 9223372036854775808 := by have := HV.out; omega
          clear hyz HQ HT HV HB HO hz hbz HQ2
          generalize V * 10 + (b.toNat - 48) = V2 at *
          generalize hbx : (b.toNat : Int) = x at *
          go_wp2_with (go_at_call 26; with_reducible (refine (CB1.out _).mono ?_); rintro e _ ⟨rfl, hw⟩; obtain rfl := hw.symm; clear hw)
          go_round
          case rel => exact ⟨i + 1, V2, true, by omega, by omega, by simp, by rw [HV2.out], hVn, HQ3.out.1, HQ3.out.2, fun h => by cases h⟩
          case measure => simp [intOf]; omega
      · have hbd0 : dgB b = false := by simpa using hbd
        have hdt : d = true := by
          cases d
          · obtain ⟨b', r', e, h⟩ := hd rfl
            obtain ⟨rfl, -⟩ := List.cons.inj e
            exact absurd h hbd
          · rfl
        subst hdt
        rw [hbd0] at CB
        have CB1 : Hid _ := CB
        have hvT : V ≤ T := by rw [← hval]; exact vN_ge _ _
        by_cases h95 : b.toNat = 95
        · have h95z : (b.toNat : Int) = 95 := by omega
          rw [h95z] at CB CB1
          by_cases hlt2 : i + 1 < s.size
          · have hlt2z : (i : Int) + 1 < (s.size : Int) := by omega
            obtain ⟨c, hb2⟩ : ∃ c, s[i + 1]'hlt2 = c := ⟨_, rfl⟩
            have hc2 := HC.out (i + 1) hlt2
            rw [hb2] at hc2
            rw [hc2] at hinv hval
            have CC := CD.out c
            have c256 := c.toNat_lt
            by_cases hcd : dgB c = true
            · have hbz := (dgB_iff c).1 hcd
              rw [hcd] at CC
              have CC1 : Hid _ := CC
              rw [(dD_bar h95 hcd _).1] at hinv
              rw [(dD_bar h95 hcd _).2, vN_cons] at hval
              obtain ⟨y, hy, ⟨hyl, hyh⟩, hyz⟩ := tdiv_max (c.toNat : Int) (by omega)
              have hyz := hyz z hz0
              have hx48 : 48 ≤ (c.toNat : Int) := by omega
              have hx57 : (c.toNat : Int) ≤ 57 := by omega
              have HQ : Hid (V * 10 + (c.toNat - 48) ≤ 9223372036854775808 → i + 1 + 1 + dgN true (s.data.toList.drop (i + 1 + 1)) = E ∧ vN (V * 10 + (c.toNat - 48)) (dD true (s.data.toList.drop (i + 1 + 1))) = T) := fun _ => ⟨by omega, hval⟩
              have HT : Hid (V * 10 + (c.toNat - 48) ≤ T) := by rw [← hval]; exact vN_ge _ _
              have HV : Hid (((V * 10 + (c.toNat - 48) : Nat) : Int) = -(10 * z - ((c.toNat : Int) - 48))) := by show _ = _; omega
              clear hinv hval hd CB CC HC HX CD hbd hbd0 hc hc2 CB1 hvT h95
              by_cases ho : z < y
              · have HR : Hid (RR = _) := HB.out (by have := HT.out; have := HV.out; have := hyz.1 ho; omega)
                have hod : decide (z < y) = true := decide_eq_true ho
                clear hyz HQ HT HV HB HO hz hbz
                generalize hcx : (c.toNat : Int) = x at *
                go_wp2_with (go_at_call 26; with_reducible (refine (CC1.out _).mono ?_); rintro e _ ⟨rfl, hw⟩; obtain rfl := hw.symm; clear hw)
                refine bodyPost_ret (v := .tuple #[.agg #[.int .i64 0, .string ⟨#[]⟩, .int .i64 0, .int .i64 0, .string ⟨#[]⟩, .int .i64 0, .int .i64 0], .int .i64 (p : Int)]) (results_row_one Tryz.results27 _ _ w.heap.size 29 _ _ _ _ rfl rfl (new_at _ _ rfl) Tryz.underlying29 rfl (by kernel_rfl)) rfl ?_
                exact ⟨by rw [HR.out], HPx.out _⟩
              · have hod : decide (z < y) = false := decide_eq_false ho
                have hlow : -9223372036854775808 ≤ 10 * z - ((c.toNat : Int) - 48) := by have := fun h => ho (hyz.2 h); omega
                have HQ2 := HQ.out (by have := HV.out; omega)
                have HQ3 : Hid _ := HQ2
                have HV2 : Hid (10 * z - ((c.toNat : Int) - 48) = -((V * 10 + (c.toNat - 48) : Nat) : Int)) := by show _ = _; have := HV.out; omega
                have hVn : V * 10 + (c.toNat - 48) ≤ 9223372036854775808 := by have := HV.out; omega
                clear hyz HQ HT HV HB HO hz hbz HQ2
                generalize V * 10 + (c.toNat - 48) = V2 at *
                generalize hcx : (c.toNat : Int) = x at *
                go_wp2_with (go_at_call 26; with_reducible (refine (CC1.out _).mono ?_); rintro e _ ⟨rfl, hw⟩; obtain rfl := hw.symm; clear hw)
                go_round
                case rel => exact ⟨i + 1 + 1, V2, true, by omega, by omega, by first | go_num | simp | (simp; omega), by rw [HV2.out], hVn, HQ3.out.1, HQ3.out.2, fun h => by cases h⟩
                case measure => simp [intOf]; omega
            · have hcd0 : dgB c = false := by simpa using hcd
              rw [hcd0] at CC
              have CC1 : Hid _ := CC
              obtain ⟨e1, e2⟩ := dD_stop (b := b) (r := c :: s.data.toList.drop (i + 1 + 1)) hbd0 (fun _ c' t e => by obtain ⟨rfl, -⟩ := List.cons.inj e; exact hcd0)
              rw [e1] at hinv
              rw [e2, vN_nil] at hval
              clear e1 e2 hd CB CC HC HX CD hbd hbd0 hc hc2 hvT h95 hcd hcd0 HB
              obtain rfl : i = E := by omega
              subst hval
              have HR : Hid (RR = _) := HO.out hV
              rw [hz] at HR
              clear HO hz hV
              go_wp2_with (first | (go_at_call 26; with_reducible (refine (CC1.out _).mono ?_); rintro e _ ⟨rfl, hw⟩; obtain rfl := hw.symm; clear hw) | (go_at_call 26; with_reducible (refine (CB1.out _).mono ?_); rintro e _ ⟨rfl, hw⟩; obtain rfl := hw.symm; clear hw))
              refine bodyPost_ret (v := .tuple #[.agg #[.int .i64 4, .string ⟨#[]⟩, .int .i64 1, .int .i64 z, .string ⟨#[]⟩, .int .i64 (p : Int), .int .i64 (i : Int)], .int .i64 (-1)]) (results_row_one Tryz.results27 _ _ w.heap.size 29 _ _ _ _ rfl rfl (new_at _ _ rfl) Tryz.underlying29 rfl (by kernel_rfl)) rfl ?_
              exact ⟨by rw [HR.out], HPx.out _⟩
          · have hlt2z : ¬ (i : Int) + 1 < (s.size : Int) := by omega
            have hX := HX.out (i + 1) (by omega)
            rw [hX] at hinv hval
            obtain ⟨e1, e2⟩ := dD_stop (b := b) (r := []) hbd0 (fun _ c' t e => by cases e)
            rw [e1] at hinv
            rw [e2, vN_nil] at hval
            clear e1 e2 hd CB HC HX CD hbd hbd0 hc hvT h95 HB hX
            obtain rfl : i = E := by omega
            subst hval
            have HR : Hid (RR = _) := HO.out hV
            rw [hz] at HR
            clear HO hz hV
            go_wp2_with (go_at_call 26; with_reducible (refine (CB1.out _).mono ?_); rintro e _ ⟨rfl, hw⟩; obtain rfl := hw.symm; clear hw)
            refine bodyPost_ret (v := .tuple #[.agg #[.int .i64 4, .string ⟨#[]⟩, .int .i64 1, .int .i64 z, .string ⟨#[]⟩, .int .i64 (p : Int), .int .i64 (i : Int)], .int .i64 (-1)]) (results_row_one Tryz.results27 _ _ w.heap.size 29 _ _ _ _ rfl rfl (new_at _ _ rfl) Tryz.underlying29 rfl (by kernel_rfl)) rfl ?_
            exact ⟨by rw [HR.out], HPx.out _⟩
        · have h95z : ((b.toNat : Int) == 95) = false := beq_false_of_ne (by omega)
          obtain ⟨e1, e2⟩ := dD_stop (b := b) (r := s.data.toList.drop (i + 1)) hbd0 (fun h => absurd h h95)
          rw [e1] at hinv
          rw [e2, vN_nil] at hval
          clear e1 e2 hd CB HC HX CD hbd hbd0 hc hvT h95 HB
          obtain rfl : i = E := by omega
          subst hval
          have HR : Hid (RR = _) := HO.out hV
          rw [hz] at HR
          clear HO hz hV
          go_wp2_with (go_at_call 26; with_reducible (refine (CB1.out _).mono ?_); rintro e _ ⟨rfl, hw⟩; obtain rfl := hw.symm; clear hw)
          refine bodyPost_ret (v := .tuple #[.agg #[.int .i64 4, .string ⟨#[]⟩, .int .i64 1, .int .i64 z, .string ⟨#[]⟩, .int .i64 (p : Int), .int .i64 (i : Int)], .int .i64 (-1)]) (results_row_one Tryz.results27 _ _ w.heap.size 29 _ _ _ _ rfl rfl (new_at _ _ rfl) Tryz.underlying29 rfl (by kernel_rfl)) rfl ?_
          exact ⟨by rw [HR.out], HPx.out _⟩
    · obtain rfl : i = s.size := by omega
      rw [HX.out s.size (Nat.le_refl _)] at hinv hval
      rw [(dD_nil d).1] at hinv
      rw [(dD_nil d).2, vN_nil] at hval
      clear hd HC HX CD HB
      obtain rfl : s.size = E := by omega
      subst hval
      have HR : Hid (RR = _) := HO.out hV
      rw [hz] at HR
      clear HO hz hV
      go_wp2_with fail
      refine bodyPost_ret (v := .tuple #[.agg #[.int .i64 4, .string ⟨#[]⟩, .int .i64 1, .int .i64 z, .string ⟨#[]⟩, .int .i64 (p : Int), .int .i64 (s.size : Int)], .int .i64 (-1)]) (results_row_one Tryz.results27 _ _ w.heap.size 29 _ _ _ _ rfl rfl (new_at _ _ rfl) Tryz.underlying29 rfl (by kernel_rfl)) rfl ?_
      exact ⟨by rw [HR.out], HPx.out _⟩
end Go.Proofs.YtajebjkpmbehgaaGreatDoor
