/-
  CONTRACT: the document's token that begins at a byte (one).
-/
import Derived.Test.YtajebjkpmbehgaaGreatDoorLxrQuo
import Derived.Lib.SmallJoins
namespace Go.Proofs.YtajebjkpmbehgaaGreatDoor
open Go.RowKit

theorem resR_form (x : Option Tk × Nat) (p : Nat) : ∃ (k vk vn tb te r : Int) (ts vs : ByteArray), resR x p = .tuple #[.agg #[.int .i64 k, .string ts, .int .i64 vk, .int .i64 vn, .string vs, .int .i64 tb, .int .i64 te], .int .i64 r] := by
  obtain ⟨t, m⟩ := x
  cases t with
  | none => exact ⟨_, _, _, _, _, _, _, _, rfl⟩
  | some t => exact ⟨_, _, _, _, _, _, _, _, rfl⟩
theorem oneT_cons (b : UInt8) (r : List UInt8) : oneT (b :: r) = if dgB b || decide (b.toNat = 45) then numT (b :: r) else if b.toNat = 39 then qtT r else if ltB b then wdT (b :: r) else opT (b :: r) := rfl
theorem oneT_num {b : UInt8} (h : dgB b = true ∨ b.toNat = 45) (r : List UInt8) : oneT (b :: r) = numT (b :: r) := by
  rw [oneT_cons, if_pos]
  rcases h with h | h
  · rw [h]; rfl
  · rw [decide_eq_true h, Bool.or_true]
theorem oneT_quo {b : UInt8} (h : b.toNat = 39) (r : List UInt8) : oneT (b :: r) = qtT r := by
  have h1 : dgB b = false := decide_eq_false (by omega)
  have h2 : decide (b.toNat = 45) = false := decide_eq_false (by omega)
  rw [oneT_cons, h1, h2, if_neg (by decide), if_pos h]
theorem oneT_wd {b : UInt8} (h : ltB b = true) (r : List UInt8) : oneT (b :: r) = wdT (b :: r) := by
  have hz : (97 ≤ b.toNat ∧ b.toNat ≤ 122) ∨ (65 ≤ b.toNat ∧ b.toNat ≤ 90) := of_decide_eq_true h
  have h1 : dgB b = false := decide_eq_false (by omega)
  have h2 : decide (b.toNat = 45) = false := decide_eq_false (by omega)
  rw [oneT_cons, h1, h2, if_neg (by decide), if_neg (by omega), if_pos h]
theorem oneT_op {b : UInt8} (h1 : dgB b = false) (h2 : b.toNat ≠ 45) (h3 : b.toNat ≠ 39) (h4 : ltB b = false) (r : List UInt8) : oneT (b :: r) = opT (b :: r) := by
  rw [oneT_cons, h1, decide_eq_false h2, if_neg (by decide), if_neg h3, h4, if_neg (by decide)]
theorem opT_no {l : List UInt8} (h : opN l = 0) : opT l = (none, 0) := by unfold opT; rw [if_pos h]
set_option maxRecDepth 100000 in
set_option maxHeartbeats 4000000 in
theorem oneR_any (s : ByteArray) (p : Nat) (w : World) (hp : p < s.size) (hs : s.size ≤ 600) :
    Calls Tryz.prog 13 #[.string s, .int .i64 (p : Int)] w fun e w' => e = .returned (resR (oneT (s.data.toList.drop p)) p) ∧ Below w.heap.size w w' := by
  have hcons := drop_consB s p hp
  obtain ⟨b, hb⟩ : ∃ b, s[p]'hp = b := ⟨_, rfl⟩
  rw [hb] at hcons
  have hpz : (p : Int) < (s.size : Int) := by omega
  have b256 := b.toNat_lt
  have CD : ∀ (b : UInt8) w, Calls Tryz.prog 26 #[.int .u8 (b.toNat : Int)] w fun e w' => e = .returned (.bool (dgB b)) ∧ w' = w := fun b w => by rw [← dgI_B]; exact digitR_any _ w
  have CL : ∀ (b : UInt8) w, Calls Tryz.prog 29 #[.int .u8 (b.toNat : Int)] w fun e w' => e = .returned (.bool (ltB b)) ∧ w' = w := fun b w => by rw [← ltI_B]; exact letterR_any _ w
  have CV : (convert 57 57 (.slice (some ⟨w.heap.size + 1, 0, none⟩) 6 6)).run Tryz.prog ((w.alloc (.cells #[.int .i64 0, .string ⟨#[]⟩, .int .i64 0, .int .i64 0, .string ⟨#[]⟩, .int .i64 0, .int .i64 0] 29)).alloc (.cells #[.int .u8 61, .int .u8 60, .int .u8 40, .int .u8 41, .int .u8 44, .int .u8 42] 5)) = .ok (.slice (some ⟨w.heap.size + 1, 0, none⟩) 6 6) ((w.alloc (.cells #[.int .i64 0, .string ⟨#[]⟩, .int .i64 0, .int .i64 0, .string ⟨#[]⟩, .int .i64 0, .int .i64 0] 29)).alloc (.cells #[.int .u8 61, .int .u8 60, .int .u8 40, .int .u8 41, .int .u8 44, .int .u8 42] 5 (6, 7))) := Go.Joins.run_convert_bytes_const_at _ _ _ _ _ _ _ (by simp) Tryz.underlying57 Tryz.underlying5
  have HF : Hid (∀ w1, Ro w w1 → ∀ v0 v1 v2 v3 v4 v5 v6 : Value, (((((((w1.setCell ⟨w.heap.size, 0, none⟩ v0).setCell ⟨w.heap.size, 1, none⟩ v1).setCell ⟨w.heap.size, 2, none⟩ v2).setCell ⟨w.heap.size, 3, none⟩ v3).setCell ⟨w.heap.size, 4, none⟩ v4).setCell ⟨w.heap.size, 5, none⟩ v5).setCell ⟨w.heap.size, 6, none⟩ v6).heap[w.heap.size]? = some (.cells #[v0, v1, v2, v3, v4, v5, v6] 29 (0, 0)) ∧
    Below w.heap.size w (((((((w1.setCell ⟨w.heap.size, 0, none⟩ v0).setCell ⟨w.heap.size, 1, none⟩ v1).setCell ⟨w.heap.size, 2, none⟩ v2).setCell ⟨w.heap.size, 3, none⟩ v3).setCell ⟨w.heap.size, 4, none⟩ v4).setCell ⟨w.heap.size, 5, none⟩ v5).setCell ⟨w.heap.size, 6, none⟩ v6)) := fun w1 h => h.fin
  have HRo : Hid _ := Ro.new w
  obtain ⟨W2, hW2⟩ : ∃ W2, W2 = (w.alloc (.cells #[.int .i64 0, .string ⟨#[]⟩, .int .i64 0, .int .i64 0, .string ⟨#[]⟩, .int .i64 0, .int .i64 0] 29)).alloc (.cells #[.int .u8 61, .int .u8 60, .int .u8 40, .int .u8 41, .int .u8 44, .int .u8 42] 5 (6, 7)) := ⟨_, rfl⟩
  have HRo2 : Hid (Ro w W2) := by
    show Ro w W2
    rw [hW2]
    exact HRo.out.to ((Below.refl _ _).alloc (Nat.le_refl _) _)
  have HFz : Hid (∀ i, W2.frozen? ⟨w.heap.size, i, none⟩ = false) := HRo2.out.fro.1
  have hbk : W2.heap[w.heap.size + 1]? = some (.cells #[.int .u8 61, .int .u8 60, .int .u8 40, .int .u8 41, .int .u8 44, .int .u8 42] 5 (6, 7)) := by
    rw [hW2]
    exact new_at _ _ (by simp)
  have c0 : W2.cell? ⟨w.heap.size + 1, 0, none⟩ = some (.int .u8 61) := by simp [World.cell?, hbk]
  have c1 : W2.cell? ⟨w.heap.size + 1, 1, none⟩ = some (.int .u8 60) := by simp [World.cell?, hbk]
  have c2 : W2.cell? ⟨w.heap.size + 1, 2, none⟩ = some (.int .u8 40) := by simp [World.cell?, hbk]
  have c3 : W2.cell? ⟨w.heap.size + 1, 3, none⟩ = some (.int .u8 41) := by simp [World.cell?, hbk]
  have c4 : W2.cell? ⟨w.heap.size + 1, 4, none⟩ = some (.int .u8 44) := by simp [World.cell?, hbk]
  have c5 : W2.cell? ⟨w.heap.size + 1, 5, none⟩ = some (.int .u8 42) := by simp [World.cell?, hbk]
  have z0 := HRo2.out.res.cell 0 rfl
  have z1 := HRo2.out.res.cell 1 rfl
  have z2 := HRo2.out.res.cell 2 rfl
  have z3 := HRo2.out.res.cell 3 rfl
  have z4 := HRo2.out.res.cell 4 rfl
  have z5 := HRo2.out.res.cell 5 rfl
  have z6 := HRo2.out.res.cell 6 rfl
  have HX2 : Hid (xB [b] = s.extract p (p + 1)) := by
    show _ = _
    rw [← xB_of (s.extract p (p + 1)), ext_list, hcons]
    congr 1
    rw [Nat.add_sub_cancel_left]
    rfl
  clear hbk
  have C1 := CD b
  have L1 := CL b
  by_cases hd : dgB b = true
  · rw [hd] at C1
    have CC1 : Hid _ := C1
    clear C1 L1 HFz hW2 HRo2 c0 c1 c2 c3 c4 c5 z0 z1 z2 z3 z4 z5 z6 HX2
    have hRR : oneT (s.data.toList.drop p) = numT (s.data.toList.drop p) := by rw [hcons, oneT_num (.inl hd)]
    obtain ⟨k, vk, vn, tb, te, r, ts, vs, hfo⟩ := resR_form (numT (s.data.toList.drop p)) p
    have HR : Hid (resR (oneT (s.data.toList.drop p)) p = .tuple #[.agg #[.int .i64 k, .string ts, .int .i64 vk, .int .i64 vn, .string vs, .int .i64 tb, .int .i64 te], .int .i64 r]) := by show _ = _; rw [hRR, hfo]
    have CN : Hid (∀ wr, Calls Tryz.prog 27 #[.string s, .int .i64 (p : Int)] wr fun e w' => e = .returned (.tuple #[.agg #[.int .i64 k, .string ts, .int .i64 vk, .int .i64 vn, .string vs, .int .i64 tb, .int .i64 te], .int .i64 r]) ∧ Below wr.heap.size wr w') := fun wr => by rw [← hfo]; exact numberPos_any s p wr hs hp (by rw [hb]; exact hd)
    generalize resR (oneT (s.data.toList.drop p)) p = RR at *
    clear hRR hfo hcons CD CL
    clear hd
    go_enter Tryz.func13, Tryz.ntmps13
    go_wp2_with (first | (go_at_call 26; with_reducible (refine (CC1.out _).mono ?_); rintro e _ ⟨rfl, hw⟩; obtain rfl := hw.symm; clear hw) | (go_at_call 27; with_reducible (refine (CN.out _).mono ?_); rintro e w1 ⟨rfl, hb1⟩; have HP1 := HRo.out.to hb1; clear hb1; obtain ⟨fz, e0, e1, e2, e3, e4, e5, e6⟩ := HP1.fro; have f0 := fz 0; have f1 := fz 1; have f2 := fz 2; have f3 := fz 3; have f4 := fz 4; have f5 := fz 5; have f6 := fz 6; clear fz))
    refine bodyPost_ret (v := .tuple #[.agg #[.int .i64 k, .string ts, .int .i64 vk, .int .i64 vn, .string vs, .int .i64 tb, .int .i64 te], .int .i64 r]) (results_row_one Tryz.results13 _ _ w.heap.size 29 _ _ _ _ rfl rfl (HF.out _ HP1 _ _ _ _ _ _ _).1 Tryz.underlying29 rfl (by kernel_rfl)) rfl ?_
    exact ⟨by rw [HR.out], (HF.out _ HP1 _ _ _ _ _ _ _).2⟩
  · have hd0 : dgB b = false := by simpa using hd
    rw [hd0] at C1
    by_cases h45 : b.toNat = 45
    · have h45z : (b.toNat : Int) = 45 := by omega
      have hl0 : ltB b = false := decide_eq_false (by omega)
      rw [hl0] at L1
      rw [h45z] at C1 L1
      have CC1 : Hid _ := C1
      have CL1 : Hid _ := L1
      clear C1 L1
      by_cases hlt : p + 1 < s.size
      · have hltz : (p : Int) + 1 < (s.size : Int) := by omega
        obtain ⟨c, hc⟩ : ∃ c, s[p + 1]'hlt = c := ⟨_, rfl⟩
        have hcons2 := drop_consB s (p + 1) hlt
        rw [hc] at hcons2
        have C2 := CD c
        by_cases hcd : dgB c = true
        · rw [hcd] at C2
          have CC2 : Hid _ := C2
          clear C2 HFz hW2 HRo2 c0 c1 c2 c3 c4 c5 z0 z1 z2 z3 z4 z5 z6 HX2
          have hRR : oneT (s.data.toList.drop p) = numT (s.data.toList.drop p) := by rw [hcons, oneT_num (.inr h45)]
          obtain ⟨k, vk, vn, tb, te, r, ts, vs, hfo⟩ := resR_form (numT (s.data.toList.drop p)) p
          have HR : Hid (resR (oneT (s.data.toList.drop p)) p = .tuple #[.agg #[.int .i64 k, .string ts, .int .i64 vk, .int .i64 vn, .string vs, .int .i64 tb, .int .i64 te], .int .i64 r]) := by show _ = _; rw [hRR, hfo]
          have CN : Hid (∀ wr, Calls Tryz.prog 27 #[.string s, .int .i64 (p : Int)] wr fun e w' => e = .returned (.tuple #[.agg #[.int .i64 k, .string ts, .int .i64 vk, .int .i64 vn, .string vs, .int .i64 tb, .int .i64 te], .int .i64 r]) ∧ Below wr.heap.size wr w') := fun wr => by rw [← hfo]; exact numberNeg_any s p wr hs hlt (by rw [hc]; exact hcd) (by rw [hb]; exact h45)
          generalize resR (oneT (s.data.toList.drop p)) p = RR at *
          clear hRR hfo hcons CD CL
          clear hcons2 hcd hd0 hd h45 hl0
          go_enter Tryz.func13, Tryz.ntmps13
          go_wp2_with (first | (go_at_call 26; with_reducible (refine (CC1.out _).mono ?_); rintro e _ ⟨rfl, hw⟩; obtain rfl := hw.symm; clear hw) | (go_at_call 26; with_reducible (refine (CC2.out _).mono ?_); rintro e _ ⟨rfl, hw⟩; obtain rfl := hw.symm; clear hw) | (go_at_call 27; with_reducible (refine (CN.out _).mono ?_); rintro e w1 ⟨rfl, hb1⟩; have HP1 := HRo.out.to hb1; clear hb1; obtain ⟨fz, e0, e1, e2, e3, e4, e5, e6⟩ := HP1.fro; have f0 := fz 0; have f1 := fz 1; have f2 := fz 2; have f3 := fz 3; have f4 := fz 4; have f5 := fz 5; have f6 := fz 6; clear fz))
          refine bodyPost_ret (v := .tuple #[.agg #[.int .i64 k, .string ts, .int .i64 vk, .int .i64 vn, .string vs, .int .i64 tb, .int .i64 te], .int .i64 r]) (results_row_one Tryz.results13 _ _ w.heap.size 29 _ _ _ _ rfl rfl (HF.out _ HP1 _ _ _ _ _ _ _).1 Tryz.underlying29 rfl (by kernel_rfl)) rfl ?_
          exact ⟨by rw [HR.out], (HF.out _ HP1 _ _ _ _ _ _ _).2⟩
        · have hcd0 : dgB c = false := by simpa using hcd
          rw [hcd0] at C2
          have CC2 : Hid _ := C2
          clear C2
          have HR : Hid (resR (oneT (s.data.toList.drop p)) p = .tuple #[.agg #[.int .i64 0, .string ⟨#[]⟩, .int .i64 0, .int .i64 0, .string ⟨#[]⟩, .int .i64 0, .int .i64 0], .int .i64 (p : Int)]) := by
            show _ = _
            rw [hcons, oneT_num (.inr h45), hcons2, numT_dash h45 (fun c' t e => by obtain ⟨rfl, -⟩ := List.cons.inj e; exact hcd0), resR_no]
          clear hcons2 hcd hcd0 hd0 hd h45 hl0 HX2
          generalize resR (oneT (s.data.toList.drop p)) p = RR at *
          clear hcons CD CL
          go_enter Tryz.func13, Tryz.ntmps13
          go_wp2_with (first | (go_at_call 26; with_reducible (refine (CC1.out _).mono ?_); rintro e _ ⟨rfl, hw⟩; obtain rfl := hw.symm; clear hw) | (go_at_call 26; with_reducible (refine (CC2.out _).mono ?_); rintro e _ ⟨rfl, hw⟩; obtain rfl := hw.symm; clear hw) | (go_at_call 29; with_reducible (refine (CL1.out _).mono ?_); rintro e _ ⟨rfl, hw⟩; obtain rfl := hw.symm; clear hw))
          rw [← hW2]
          clear hW2
          go_loop [76] (fun s76 => ∃ i : Nat, i ≤ 6 ∧ s76 = .int .i64 (i : Int)) (fun s76 => 6 - (intOf s76).toNat)
          case atStart => exact ⟨0, by omega, rfl⟩
          case round =>
            obtain ⟨i, hi, rfl⟩ := hrel
            have hi2 : i = 0 ∨ i = 1 ∨ i = 2 ∨ i = 3 ∨ i = 4 ∨ i = 5 ∨ i = 6 := by omega
            clear hi
            rcases hi2 with rfl | rfl | rfl | rfl | rfl | rfl | rfl
            · go_wp2_with fail
              go_round
              case rel => exact ⟨1, by omega, rfl⟩
              case measure => simp [intOf]
            · go_wp2_with fail
              go_round
              case rel => exact ⟨2, by omega, rfl⟩
              case measure => simp [intOf]
            · go_wp2_with fail
              go_round
              case rel => exact ⟨3, by omega, rfl⟩
              case measure => simp [intOf]
            · go_wp2_with fail
              go_round
              case rel => exact ⟨4, by omega, rfl⟩
              case measure => simp [intOf]
            · go_wp2_with fail
              go_round
              case rel => exact ⟨5, by omega, rfl⟩
              case measure => simp [intOf]
            · go_wp2_with fail
              go_round
              case rel => exact ⟨6, by omega, rfl⟩
              case measure => simp [intOf]
            · have f0 := HFz.out 0
              have f1 := HFz.out 1
              have f2 := HFz.out 2
              have f3 := HFz.out 3
              have f4 := HFz.out 4
              have f5 := HFz.out 5
              have f6 := HFz.out 6
              go_wp2_with fail
              refine bodyPost_ret (v := .tuple #[.agg #[.int .i64 0, .string ⟨#[]⟩, .int .i64 0, .int .i64 0, .string ⟨#[]⟩, .int .i64 0, .int .i64 0], .int .i64 (p : Int)]) (results_row_one Tryz.results13 _ _ w.heap.size 29 _ _ _ _ rfl rfl (HF.out _ HRo2.out _ _ _ _ _ _ _).1 Tryz.underlying29 rfl (by kernel_rfl)) rfl ?_
              exact ⟨by rw [HR.out], (HF.out _ HRo2.out _ _ _ _ _ _ _).2⟩
      · have hltz : ¬ (p : Int) + 1 < (s.size : Int) := by omega
        have hX := drop_endB s (p + 1) (by omega)
        have HR : Hid (resR (oneT (s.data.toList.drop p)) p = .tuple #[.agg #[.int .i64 0, .string ⟨#[]⟩, .int .i64 0, .int .i64 0, .string ⟨#[]⟩, .int .i64 0, .int .i64 0], .int .i64 (p : Int)]) := by
          show _ = _
          rw [hcons, oneT_num (.inr h45), hX, numT_dash h45 (fun c' t e => by cases e), resR_no]
        clear hX hd0 hd h45 hl0 HX2
        generalize resR (oneT (s.data.toList.drop p)) p = RR at *
        clear hcons CD CL
        go_enter Tryz.func13, Tryz.ntmps13
        go_wp2_with (first | (go_at_call 26; with_reducible (refine (CC1.out _).mono ?_); rintro e _ ⟨rfl, hw⟩; obtain rfl := hw.symm; clear hw) | (go_at_call 29; with_reducible (refine (CL1.out _).mono ?_); rintro e _ ⟨rfl, hw⟩; obtain rfl := hw.symm; clear hw))
        rw [← hW2]
        clear hW2
        go_loop [76] (fun s76 => ∃ i : Nat, i ≤ 6 ∧ s76 = .int .i64 (i : Int)) (fun s76 => 6 - (intOf s76).toNat)
        case atStart => exact ⟨0, by omega, rfl⟩
        case round =>
          obtain ⟨i, hi, rfl⟩ := hrel
          have hi2 : i = 0 ∨ i = 1 ∨ i = 2 ∨ i = 3 ∨ i = 4 ∨ i = 5 ∨ i = 6 := by omega
          clear hi
          rcases hi2 with rfl | rfl | rfl | rfl | rfl | rfl | rfl
          · go_wp2_with fail
            go_round
            case rel => exact ⟨1, by omega, rfl⟩
            case measure => simp [intOf]
          · go_wp2_with fail
            go_round
            case rel => exact ⟨2, by omega, rfl⟩
            case measure => simp [intOf]
          · go_wp2_with fail
            go_round
            case rel => exact ⟨3, by omega, rfl⟩
            case measure => simp [intOf]
          · go_wp2_with fail
            go_round
            case rel => exact ⟨4, by omega, rfl⟩
            case measure => simp [intOf]
          · go_wp2_with fail
            go_round
            case rel => exact ⟨5, by omega, rfl⟩
            case measure => simp [intOf]
          · go_wp2_with fail
            go_round
            case rel => exact ⟨6, by omega, rfl⟩
            case measure => simp [intOf]
          · have f0 := HFz.out 0
            have f1 := HFz.out 1
            have f2 := HFz.out 2
            have f3 := HFz.out 3
            have f4 := HFz.out 4
            have f5 := HFz.out 5
            have f6 := HFz.out 6
            go_wp2_with fail
            refine bodyPost_ret (v := .tuple #[.agg #[.int .i64 0, .string ⟨#[]⟩, .int .i64 0, .int .i64 0, .string ⟨#[]⟩, .int .i64 0, .int .i64 0], .int .i64 (p : Int)]) (results_row_one Tryz.results13 _ _ w.heap.size 29 _ _ _ _ rfl rfl (HF.out _ HRo2.out _ _ _ _ _ _ _).1 Tryz.underlying29 rfl (by kernel_rfl)) rfl ?_
            exact ⟨by rw [HR.out], (HF.out _ HRo2.out _ _ _ _ _ _ _).2⟩
    · have h45z : ((b.toNat : Int) == 45) = false := beq_false_of_ne (by omega)
      by_cases h39 : b.toNat = 39
      · have h39z : (b.toNat : Int) = 39 := by omega
        rw [h39z] at C1
        have CC1 : Hid _ := C1
        clear C1 L1 HFz hW2 HRo2 c0 c1 c2 c3 c4 c5 z0 z1 z2 z3 z4 z5 z6 HX2 h45z
        have hRR : oneT (s.data.toList.drop p) = qtT (s.data.toList.drop (p + 1)) := by rw [hcons, oneT_quo h39]
        obtain ⟨k, vk, vn, tb, te, r, ts, vs, hfo⟩ := resR_form (qtT (s.data.toList.drop (p + 1))) p
        have HR : Hid (resR (oneT (s.data.toList.drop p)) p = .tuple #[.agg #[.int .i64 k, .string ts, .int .i64 vk, .int .i64 vn, .string vs, .int .i64 tb, .int .i64 te], .int .i64 r]) := by show _ = _; rw [hRR, hfo]
        have CN : Hid (∀ wr, Calls Tryz.prog 28 #[.string s, .int .i64 (p : Int)] wr fun e w' => e = .returned (.tuple #[.agg #[.int .i64 k, .string ts, .int .i64 vk, .int .i64 vn, .string vs, .int .i64 tb, .int .i64 te], .int .i64 r]) ∧ Below wr.heap.size wr w') := fun wr => by rw [← hfo]; exact quotedR_any s p wr hp hs
        generalize resR (oneT (s.data.toList.drop p)) p = RR at *
        clear hRR hfo hcons CD CL
        clear hd0 hd h45 h39
        go_enter Tryz.func13, Tryz.ntmps13
        go_wp2_with (first | (go_at_call 26; with_reducible (refine (CC1.out _).mono ?_); rintro e _ ⟨rfl, hw⟩; obtain rfl := hw.symm; clear hw) | (go_at_call 28; with_reducible (refine (CN.out _).mono ?_); rintro e w1 ⟨rfl, hb1⟩; have HP1 := HRo.out.to hb1; clear hb1; obtain ⟨fz, e0, e1, e2, e3, e4, e5, e6⟩ := HP1.fro; have f0 := fz 0; have f1 := fz 1; have f2 := fz 2; have f3 := fz 3; have f4 := fz 4; have f5 := fz 5; have f6 := fz 6; clear fz))
        refine bodyPost_ret (v := .tuple #[.agg #[.int .i64 k, .string ts, .int .i64 vk, .int .i64 vn, .string vs, .int .i64 tb, .int .i64 te], .int .i64 r]) (results_row_one Tryz.results13 _ _ w.heap.size 29 _ _ _ _ rfl rfl (HF.out _ HP1 _ _ _ _ _ _ _).1 Tryz.underlying29 rfl (by kernel_rfl)) rfl ?_
        exact ⟨by rw [HR.out], (HF.out _ HP1 _ _ _ _ _ _ _).2⟩
      · have h39z : ((b.toNat : Int) == 39) = false := beq_false_of_ne (by omega)
        by_cases hl : ltB b = true
        · rw [hl] at L1
          have CC1 : Hid _ := C1
          have CL1 : Hid _ := L1
          clear C1 L1 HFz hW2 HRo2 c0 c1 c2 c3 c4 c5 z0 z1 z2 z3 z4 z5 z6 HX2
          have hRR : oneT (s.data.toList.drop p) = wdT (s.data.toList.drop p) := by rw [hcons, oneT_wd hl]
          obtain ⟨k, vk, vn, tb, te, r, ts, vs, hfo⟩ := resR_form (wdT (s.data.toList.drop p)) p
          have HR : Hid (resR (oneT (s.data.toList.drop p)) p = .tuple #[.agg #[.int .i64 k, .string ts, .int .i64 vk, .int .i64 vn, .string vs, .int .i64 tb, .int .i64 te], .int .i64 r]) := by show _ = _; rw [hRR, hfo]
          have CN : Hid (∀ wr, Calls Tryz.prog 30 #[.string s, .int .i64 (p : Int)] wr fun e w' => e = .returned (.tuple #[.agg #[.int .i64 k, .string ts, .int .i64 vk, .int .i64 vn, .string vs, .int .i64 tb, .int .i64 te], .int .i64 r]) ∧ Below wr.heap.size wr w') := fun wr => by rw [← hfo]; exact wordRR_any s p wr hp hs (by rw [hb]; exact hl)
          generalize resR (oneT (s.data.toList.drop p)) p = RR at *
          clear hRR hfo hcons CD CL
          clear hd0 hd h45 h39 hl
          go_enter Tryz.func13, Tryz.ntmps13
          go_wp2_with (first | (go_at_call 26; with_reducible (refine (CC1.out _).mono ?_); rintro e _ ⟨rfl, hw⟩; obtain rfl := hw.symm; clear hw) | (go_at_call 29; with_reducible (refine (CL1.out _).mono ?_); rintro e _ ⟨rfl, hw⟩; obtain rfl := hw.symm; clear hw) | (go_at_call 30; with_reducible (refine (CN.out _).mono ?_); rintro e w1 ⟨rfl, hb1⟩; have HP1 := HRo.out.to hb1; clear hb1; obtain ⟨fz, e0, e1, e2, e3, e4, e5, e6⟩ := HP1.fro; have f0 := fz 0; have f1 := fz 1; have f2 := fz 2; have f3 := fz 3; have f4 := fz 4; have f5 := fz 5; have f6 := fz 6; clear fz))
          refine bodyPost_ret (v := .tuple #[.agg #[.int .i64 k, .string ts, .int .i64 vk, .int .i64 vn, .string vs, .int .i64 tb, .int .i64 te], .int .i64 r]) (results_row_one Tryz.results13 _ _ w.heap.size 29 _ _ _ _ rfl rfl (HF.out _ HP1 _ _ _ _ _ _ _).1 Tryz.underlying29 rfl (by kernel_rfl)) rfl ?_
          exact ⟨by rw [HR.out], (HF.out _ HP1 _ _ _ _ _ _ _).2⟩
        · have hl0 : ltB b = false := by simpa using hl
          rw [hl0] at L1
          have hop := fun r => oneT_op hd0 h45 h39 hl0 r
          by_cases h62 : b.toNat = 62
          · have h62z : (b.toNat : Int) = 62 := by omega
            rw [h62z] at C1 L1
            have CC1 : Hid _ := C1
            have CL1 : Hid _ := L1
            clear C1 L1 h45z h39z
            by_cases hlt : p + 1 < s.size
            · have hltz : (p : Int) + 1 < (s.size : Int) := by omega
              obtain ⟨c, hc⟩ : ∃ c, s[p + 1]'hlt = c := ⟨_, rfl⟩
              have hcons2 := drop_consB s (p + 1) hlt
              rw [hc] at hcons2
              by_cases h61 : c.toNat = 61
              · have h61z : (c.toNat : Int) = 61 := by omega
                have hp2 : (p : Int) ≤ 600 := by omega
                have HR : Hid (resR (oneT (s.data.toList.drop p)) p = .tuple #[.agg #[.int .i64 1, .string ⟨#[62, 61]⟩, .int .i64 0, .int .i64 0, .string ⟨#[]⟩, .int .i64 (p : Int), .int .i64 ((p : Int) + 2)], .int .i64 (-1)]) := by
                  show _ = _
                  obtain rfl : b = 62 := UInt8.toNat_inj.1 h62
                  obtain rfl : c = 61 := UInt8.toNat_inj.1 h61
                  rw [hcons, hop, hcons2]
                  show resR (some ⟨1, [62, 61], 0, 0, [], 0, 2⟩, 0) p = _
                  rw [resR_at, show (((2 + p : Nat)) : Int) = (p : Int) + 2 by omega]
                  rfl
                generalize resR (oneT (s.data.toList.drop p)) p = RR at *
                clear hcons hcons2 CD CL hop hd0 hd h45 h39 hl hl0 h62 h61 HFz hW2 HRo2 c0 c1 c2 c3 c4 c5 z0 z1 z2 z3 z4 z5 z6 HX2
                go_enter Tryz.func13, Tryz.ntmps13
                go_wp2_with (first | (go_at_call 26; with_reducible (refine (CC1.out _).mono ?_); rintro e _ ⟨rfl, hw⟩; obtain rfl := hw.symm; clear hw) | (go_at_call 29; with_reducible (refine (CL1.out _).mono ?_); rintro e _ ⟨rfl, hw⟩; obtain rfl := hw.symm; clear hw))
                refine bodyPost_ret (v := .tuple #[.agg #[.int .i64 1, .string ⟨#[62, 61]⟩, .int .i64 0, .int .i64 0, .string ⟨#[]⟩, .int .i64 (p : Int), .int .i64 ((p : Int) + 2)], .int .i64 (-1)]) (results_row_one Tryz.results13 _ _ w.heap.size 29 _ _ _ _ rfl rfl (new_at _ _ rfl) Tryz.underlying29 rfl (by kernel_rfl)) rfl ?_
                exact ⟨by rw [HR.out], (Below.refl _ _).alloc (Nat.le_refl _) _⟩
              · have h61z : ((c.toNat : Int) == 61) = false := beq_false_of_ne (by omega)
                have HR : Hid (resR (oneT (s.data.toList.drop p)) p = .tuple #[.agg #[.int .i64 0, .string ⟨#[]⟩, .int .i64 0, .int .i64 0, .string ⟨#[]⟩, .int .i64 0, .int .i64 0], .int .i64 (p : Int)]) := by
                  show _ = _
                  rw [hcons, hop, hcons2, opT_no (by simp [opN, h62, h61]), resR_no]
                clear hcons2 hop hd0 hd h45 h39 hl hl0 h62 h61 HX2
                generalize resR (oneT (s.data.toList.drop p)) p = RR at *
                clear hcons CD CL
                go_enter Tryz.func13, Tryz.ntmps13
                go_wp2_with (first | (go_at_call 26; with_reducible (refine (CC1.out _).mono ?_); rintro e _ ⟨rfl, hw⟩; obtain rfl := hw.symm; clear hw) | (go_at_call 29; with_reducible (refine (CL1.out _).mono ?_); rintro e _ ⟨rfl, hw⟩; obtain rfl := hw.symm; clear hw))
                rw [← hW2]
                clear hW2
                go_loop [76] (fun s76 => ∃ i : Nat, i ≤ 6 ∧ s76 = .int .i64 (i : Int)) (fun s76 => 6 - (intOf s76).toNat)
                case atStart => exact ⟨0, by omega, rfl⟩
                case round =>
                  obtain ⟨i, hi, rfl⟩ := hrel
                  have hi2 : i = 0 ∨ i = 1 ∨ i = 2 ∨ i = 3 ∨ i = 4 ∨ i = 5 ∨ i = 6 := by omega
                  clear hi
                  rcases hi2 with rfl | rfl | rfl | rfl | rfl | rfl | rfl
                  · go_wp2_with fail
                    go_round
                    case rel => exact ⟨1, by omega, rfl⟩
                    case measure => simp [intOf]
                  · go_wp2_with fail
                    go_round
                    case rel => exact ⟨2, by omega, rfl⟩
                    case measure => simp [intOf]
                  · go_wp2_with fail
                    go_round
                    case rel => exact ⟨3, by omega, rfl⟩
                    case measure => simp [intOf]
                  · go_wp2_with fail
                    go_round
                    case rel => exact ⟨4, by omega, rfl⟩
                    case measure => simp [intOf]
                  · go_wp2_with fail
                    go_round
                    case rel => exact ⟨5, by omega, rfl⟩
                    case measure => simp [intOf]
                  · go_wp2_with fail
                    go_round
                    case rel => exact ⟨6, by omega, rfl⟩
                    case measure => simp [intOf]
                  · have f0 := HFz.out 0
                    have f1 := HFz.out 1
                    have f2 := HFz.out 2
                    have f3 := HFz.out 3
                    have f4 := HFz.out 4
                    have f5 := HFz.out 5
                    have f6 := HFz.out 6
                    go_wp2_with fail
                    refine bodyPost_ret (v := .tuple #[.agg #[.int .i64 0, .string ⟨#[]⟩, .int .i64 0, .int .i64 0, .string ⟨#[]⟩, .int .i64 0, .int .i64 0], .int .i64 (p : Int)]) (results_row_one Tryz.results13 _ _ w.heap.size 29 _ _ _ _ rfl rfl (HF.out _ HRo2.out _ _ _ _ _ _ _).1 Tryz.underlying29 rfl (by kernel_rfl)) rfl ?_
                    exact ⟨by rw [HR.out], (HF.out _ HRo2.out _ _ _ _ _ _ _).2⟩
            · have hltz : ¬ (p : Int) + 1 < (s.size : Int) := by omega
              have hX := drop_endB s (p + 1) (by omega)
              have HR : Hid (resR (oneT (s.data.toList.drop p)) p = .tuple #[.agg #[.int .i64 0, .string ⟨#[]⟩, .int .i64 0, .int .i64 0, .string ⟨#[]⟩, .int .i64 0, .int .i64 0], .int .i64 (p : Int)]) := by
                show _ = _
                rw [hcons, hop, hX, opT_no (by simp [opN, h62]), resR_no]
              clear hX hop hd0 hd h45 h39 hl hl0 h62 HX2
              generalize resR (oneT (s.data.toList.drop p)) p = RR at *
              clear hcons CD CL
              go_enter Tryz.func13, Tryz.ntmps13
              go_wp2_with (first | (go_at_call 26; with_reducible (refine (CC1.out _).mono ?_); rintro e _ ⟨rfl, hw⟩; obtain rfl := hw.symm; clear hw) | (go_at_call 29; with_reducible (refine (CL1.out _).mono ?_); rintro e _ ⟨rfl, hw⟩; obtain rfl := hw.symm; clear hw))
              rw [← hW2]
              clear hW2
              go_loop [76] (fun s76 => ∃ i : Nat, i ≤ 6 ∧ s76 = .int .i64 (i : Int)) (fun s76 => 6 - (intOf s76).toNat)
              case atStart => exact ⟨0, by omega, rfl⟩
              case round =>
                obtain ⟨i, hi, rfl⟩ := hrel
                have hi2 : i = 0 ∨ i = 1 ∨ i = 2 ∨ i = 3 ∨ i = 4 ∨ i = 5 ∨ i = 6 := by omega
                clear hi
                rcases hi2 with rfl | rfl | rfl | rfl | rfl | rfl | rfl
                · go_wp2_with fail
                  go_round
                  case rel => exact ⟨1, by omega, rfl⟩
                  case measure => simp [intOf]
                · go_wp2_with fail
                  go_round
                  case rel => exact ⟨2, by omega, rfl⟩
                  case measure => simp [intOf]
                · go_wp2_with fail
                  go_round
                  case rel => exact ⟨3, by omega, rfl⟩
                  case measure => simp [intOf]
                · go_wp2_with fail
                  go_round
                  case rel => exact ⟨4, by omega, rfl⟩
                  case measure => simp [intOf]
                · go_wp2_with fail
                  go_round
                  case rel => exact ⟨5, by omega, rfl⟩
                  case measure => simp [intOf]
                · go_wp2_with fail
                  go_round
                  case rel => exact ⟨6, by omega, rfl⟩
                  case measure => simp [intOf]
                · have f0 := HFz.out 0
                  have f1 := HFz.out 1
                  have f2 := HFz.out 2
                  have f3 := HFz.out 3
                  have f4 := HFz.out 4
                  have f5 := HFz.out 5
                  have f6 := HFz.out 6
                  go_wp2_with fail
                  refine bodyPost_ret (v := .tuple #[.agg #[.int .i64 0, .string ⟨#[]⟩, .int .i64 0, .int .i64 0, .string ⟨#[]⟩, .int .i64 0, .int .i64 0], .int .i64 (p : Int)]) (results_row_one Tryz.results13 _ _ w.heap.size 29 _ _ _ _ rfl rfl (HF.out _ HRo2.out _ _ _ _ _ _ _).1 Tryz.underlying29 rfl (by kernel_rfl)) rfl ?_
                  exact ⟨by rw [HR.out], (HF.out _ HRo2.out _ _ _ _ _ _ _).2⟩
          · have h62z : ((b.toNat : Int) == 62) = false := beq_false_of_ne (by omega)
            by_cases hop6 : b.toNat = 61 ∨ b.toNat = 60 ∨ b.toNat = 40 ∨ b.toNat = 41 ∨ b.toNat = 44 ∨ b.toNat = 42
            · have HR0 : Hid (resR (oneT (s.data.toList.drop p)) p = .tuple #[.agg #[.int .i64 1, .string (s.extract p (p + 1)), .int .i64 0, .int .i64 0, .string ⟨#[]⟩, .int .i64 (p : Int), .int .i64 ((p : Int) + 1)], .int .i64 (-1)]) := by
                show _ = _
                rw [hcons, hop]
                have h1 : opN (b :: s.data.toList.drop (p + 1)) = 1 := by simp only [opN]; rw [if_neg h62, if_pos hop6]
                unfold opT
                rw [h1, if_neg (by decide)]
                show resR (some ⟨1, [b], 0, 0, [], 0, 1⟩, 0) p = _
                rw [resR_at, HX2.out, show (((1 + p : Nat)) : Int) = (p : Int) + 1 by omega]
                rfl
              clear h45z h39z h62z hop hd0 hd h45 h39 hl hl0 h62 HX2
              rcases hop6 with h | h | h | h | h | h
              · have hz : (b.toNat : Int) = 61 := by omega
                rw [hz] at C1 L1
                have CC1 : Hid _ := C1
                have CL1 : Hid _ := L1
                clear C1 L1 h
                have HR : Hid (resR (oneT (s.data.toList.drop p)) p = .tuple #[.agg #[.int .i64 1, .string (s.extract p (p + 1)), .int .i64 0, .int .i64 0, .string ⟨#[]⟩, .int .i64 (p : Int), .int .i64 ((p : Int) + 1)], .int .i64 (-1)]) := by
                  show _ = _
                  exact HR0.out
                clear HR0
                generalize resR (oneT (s.data.toList.drop p)) p = RR at *
                clear hcons CD CL
                go_enter Tryz.func13, Tryz.ntmps13
                go_wp2_with (first | (go_at_call 26; with_reducible (refine (CC1.out _).mono ?_); rintro e _ ⟨rfl, hw⟩; obtain rfl := hw.symm; clear hw) | (go_at_call 29; with_reducible (refine (CL1.out _).mono ?_); rintro e _ ⟨rfl, hw⟩; obtain rfl := hw.symm; clear hw))
                rw [← hW2]
                clear hW2
                go_loop [76] (fun s76 => ∃ i : Nat, i ≤ 0 ∧ s76 = .int .i64 (i : Int)) (fun s76 => 6 - (intOf s76).toNat)
                case atStart => exact ⟨0, by omega, rfl⟩
                case round =>
                  obtain ⟨i, hi, rfl⟩ := hrel
                  obtain rfl : i = 0 := by omega
                  clear hi
                  have f0 := HFz.out 0
                  have f1 := HFz.out 1
                  have f2 := HFz.out 2
                  have f3 := HFz.out 3
                  have f4 := HFz.out 4
                  have f5 := HFz.out 5
                  have f6 := HFz.out 6
                  go_wp2_with fail
                  refine bodyPost_ret (v := .tuple #[.agg #[.int .i64 1, .string (s.extract p (p + 1)), .int .i64 0, .int .i64 0, .string ⟨#[]⟩, .int .i64 (p : Int), .int .i64 ((p : Int) + 1)], .int .i64 (-1)]) (results_row_one Tryz.results13 _ _ w.heap.size 29 _ _ _ _ rfl rfl (HF.out _ HRo2.out _ _ _ _ _ _ _).1 Tryz.underlying29 rfl (by kernel_rfl)) rfl ?_
                  exact ⟨by rw [HR.out], (HF.out _ HRo2.out _ _ _ _ _ _ _).2⟩
              · have hz : (b.toNat : Int) = 60 := by omega
                rw [hz] at C1 L1
                have CC1 : Hid _ := C1
                have CL1 : Hid _ := L1
                clear C1 L1 h
                have HR : Hid (resR (oneT (s.data.toList.drop p)) p = .tuple #[.agg #[.int .i64 1, .string (s.extract p (p + 1)), .int .i64 0, .int .i64 0, .string ⟨#[]⟩, .int .i64 (p : Int), .int .i64 ((p : Int) + 1)], .int .i64 (-1)]) := by
                  show _ = _
                  exact HR0.out
                clear HR0
                generalize resR (oneT (s.data.toList.drop p)) p = RR at *
                clear hcons CD CL
                go_enter Tryz.func13, Tryz.ntmps13
                go_wp2_with (first | (go_at_call 26; with_reducible (refine (CC1.out _).mono ?_); rintro e _ ⟨rfl, hw⟩; obtain rfl := hw.symm; clear hw) | (go_at_call 29; with_reducible (refine (CL1.out _).mono ?_); rintro e _ ⟨rfl, hw⟩; obtain rfl := hw.symm; clear hw))
                rw [← hW2]
                clear hW2
                go_loop [76] (fun s76 => ∃ i : Nat, i ≤ 1 ∧ s76 = .int .i64 (i : Int)) (fun s76 => 6 - (intOf s76).toNat)
                case atStart => exact ⟨0, by omega, rfl⟩
                case round =>
                  obtain ⟨i, hi, rfl⟩ := hrel
                  have hi2 : i = 0 ∨ i = 1 := by omega
                  clear hi
                  rcases hi2 with rfl | rfl
                  · go_wp2_with fail
                    go_round
                    case rel => exact ⟨1, by omega, rfl⟩
                    case measure => simp [intOf]
                  · have f0 := HFz.out 0
                    have f1 := HFz.out 1
                    have f2 := HFz.out 2
                    have f3 := HFz.out 3
                    have f4 := HFz.out 4
                    have f5 := HFz.out 5
                    have f6 := HFz.out 6
                    go_wp2_with fail
                    refine bodyPost_ret (v := .tuple #[.agg #[.int .i64 1, .string (s.extract p (p + 1)), .int .i64 0, .int .i64 0, .string ⟨#[]⟩, .int .i64 (p : Int), .int .i64 ((p : Int) + 1)], .int .i64 (-1)]) (results_row_one Tryz.results13 _ _ w.heap.size 29 _ _ _ _ rfl rfl (HF.out _ HRo2.out _ _ _ _ _ _ _).1 Tryz.underlying29 rfl (by kernel_rfl)) rfl ?_
                    exact ⟨by rw [HR.out], (HF.out _ HRo2.out _ _ _ _ _ _ _).2⟩
              · have hz : (b.toNat : Int) = 40 := by omega
                rw [hz] at C1 L1
                have CC1 : Hid _ := C1
                have CL1 : Hid _ := L1
                clear C1 L1 h
                have HR : Hid (resR (oneT (s.data.toList.drop p)) p = .tuple #[.agg #[.int .i64 1, .string (s.extract p (p + 1)), .int .i64 0, .int .i64 0, .string ⟨#[]⟩, .int .i64 (p : Int), .int .i64 ((p : Int) + 1)], .int .i64 (-1)]) := by
                  show _ = _
                  exact HR0.out
                clear HR0
                generalize resR (oneT (s.data.toList.drop p)) p = RR at *
                clear hcons CD CL
                go_enter Tryz.func13, Tryz.ntmps13
                go_wp2_with (first | (go_at_call 26; with_reducible (refine (CC1.out _).mono ?_); rintro e _ ⟨rfl, hw⟩; obtain rfl := hw.symm; clear hw) | (go_at_call 29; with_reducible (refine (CL1.out _).mono ?_); rintro e _ ⟨rfl, hw⟩; obtain rfl := hw.symm; clear hw))
                rw [← hW2]
                clear hW2
                go_loop [76] (fun s76 => ∃ i : Nat, i ≤ 2 ∧ s76 = .int .i64 (i : Int)) (fun s76 => 6 - (intOf s76).toNat)
                case atStart => exact ⟨0, by omega, rfl⟩
                case round =>
                  obtain ⟨i, hi, rfl⟩ := hrel
                  have hi2 : i = 0 ∨ i = 1 ∨ i = 2 := by omega
                  clear hi
                  rcases hi2 with rfl | rfl | rfl
                  · go_wp2_with fail
                    go_round
                    case rel => exact ⟨1, by omega, rfl⟩
                    case measure => simp [intOf]
                  · go_wp2_with fail
                    go_round
                    case rel => exact ⟨2, by omega, rfl⟩
                    case measure => simp [intOf]
                  · have f0 := HFz.out 0
                    have f1 := HFz.out 1
                    have f2 := HFz.out 2
                    have f3 := HFz.out 3
                    have f4 := HFz.out 4
                    have f5 := HFz.out 5
                    have f6 := HFz.out 6
                    go_wp2_with fail
                    refine bodyPost_ret (v := .tuple #[.agg #[.int .i64 1, .string (s.extract p (p + 1)), .int .i64 0, .int .i64 0, .string ⟨#[]⟩, .int .i64 (p : Int), .int .i64 ((p : Int) + 1)], .int .i64 (-1)]) (results_row_one Tryz.results13 _ _ w.heap.size 29 _ _ _ _ rfl rfl (HF.out _ HRo2.out _ _ _ _ _ _ _).1 Tryz.underlying29 rfl (by kernel_rfl)) rfl ?_
                    exact ⟨by rw [HR.out], (HF.out _ HRo2.out _ _ _ _ _ _ _).2⟩
              · have hz : (b.toNat : Int) = 41 := by omega
                rw [hz] at C1 L1
                have CC1 : Hid _ := C1
                have CL1 : Hid _ := L1
                clear C1 L1 h
                have HR : Hid (resR (oneT (s.data.toList.drop p)) p = .tuple #[.agg #[.int .i64 1, .string (s.extract p (p + 1)), .int .i64 0, .int .i64 0, .string ⟨#[]⟩, .int .i64 (p : Int), .int .i64 ((p : Int) + 1)], .int .i64 (-1)]) := by
                  show _ = _
                  exact HR0.out
                clear HR0
                generalize resR (oneT (s.data.toList.drop p)) p = RR at *
                clear hcons CD CL
                go_enter Tryz.func13, Tryz.ntmps13
                go_wp2_with (first | (go_at_call 26; with_reducible (refine (CC1.out _).mono ?_); rintro e _ ⟨rfl, hw⟩; obtain rfl := hw.symm; clear hw) | (go_at_call 29; with_reducible (refine (CL1.out _).mono ?_); rintro e _ ⟨rfl, hw⟩; obtain rfl := hw.symm; clear hw))
                rw [← hW2]
                clear hW2
                go_loop [76] (fun s76 => ∃ i : Nat, i ≤ 3 ∧ s76 = .int .i64 (i : Int)) (fun s76 => 6 - (intOf s76).toNat)
                case atStart => exact ⟨0, by omega, rfl⟩
                case round =>
                  obtain ⟨i, hi, rfl⟩ := hrel
                  have hi2 : i = 0 ∨ i = 1 ∨ i = 2 ∨ i = 3 := by omega
                  clear hi
                  rcases hi2 with rfl | rfl | rfl | rfl
                  · go_wp2_with fail
                    go_round
                    case rel => exact ⟨1, by omega, rfl⟩
                    case measure => simp [intOf]
                  · go_wp2_with fail
                    go_round
                    case rel => exact ⟨2, by omega, rfl⟩
                    case measure => simp [intOf]
                  · go_wp2_with fail
                    go_round
                    case rel => exact ⟨3, by omega, rfl⟩
                    case measure => simp [intOf]
                  · have f0 := HFz.out 0
                    have f1 := HFz.out 1
                    have f2 := HFz.out 2
                    have f3 := HFz.out 3
                    have f4 := HFz.out 4
                    have f5 := HFz.out 5
                    have f6 := HFz.out 6
                    go_wp2_with fail
                    refine bodyPost_ret (v := .tuple #[.agg #[.int .i64 1, .string (s.extract p (p + 1)), .int .i64 0, .int .i64 0, .string ⟨#[]⟩, .int .i64 (p : Int), .int .i64 ((p : Int) + 1)], .int .i64 (-1)]) (results_row_one Tryz.results13 _ _ w.heap.size 29 _ _ _ _ rfl rfl (HF.out _ HRo2.out _ _ _ _ _ _ _).1 Tryz.underlying29 rfl (by kernel_rfl)) rfl ?_
                    exact ⟨by rw [HR.out], (HF.out _ HRo2.out _ _ _ _ _ _ _).2⟩
              · have hz : (b.toNat : Int) = 44 := by omega
                rw [hz] at C1 L1
                have CC1 : Hid _ := C1
                have CL1 : Hid _ := L1
                clear C1 L1 h
                have HR : Hid (resR (oneT (s.data.toList.drop p)) p = .tuple #[.agg #[.int .i64 1, .string (s.extract p (p + 1)), .int .i64 0, .int .i64 0, .string ⟨#[]⟩, .int .i64 (p : Int), .int .i64 ((p : Int) + 1)], .int .i64 (-1)]) := by
                  show _ = _
                  exact HR0.out
                clear HR0
                generalize resR (oneT (s.data.toList.drop p)) p = RR at *
                clear hcons CD CL
                go_enter Tryz.func13, Tryz.ntmps13
                go_wp2_with (first | (go_at_call 26; with_reducible (refine (CC1.out _).mono ?_); rintro e _ ⟨rfl, hw⟩; obtain rfl := hw.symm; clear hw) | (go_at_call 29; with_reducible (refine (CL1.out _).mono ?_); rintro e _ ⟨rfl, hw⟩; obtain rfl := hw.symm; clear hw))
                rw [← hW2]
                clear hW2
                go_loop [76] (fun s76 => ∃ i : Nat, i ≤ 4 ∧ s76 = .int .i64 (i : Int)) (fun s76 => 6 - (intOf s76).toNat)
                case atStart => exact ⟨0, by omega, rfl⟩
                case round =>
                  obtain ⟨i, hi, rfl⟩ := hrel
                  have hi2 : i = 0 ∨ i = 1 ∨ i = 2 ∨ i = 3 ∨ i = 4 := by omega
                  clear hi
                  rcases hi2 with rfl | rfl | rfl | rfl | rfl
                  · go_wp2_with fail
                    go_round
                    case rel => exact ⟨1, by omega, rfl⟩
                    case measure => simp [intOf]
                  · go_wp2_with fail
                    go_round
                    case rel => exact ⟨2, by omega, rfl⟩
                    case measure => simp [intOf]
                  · go_wp2_with fail
                    go_round
                    case rel => exact ⟨3, by omega, rfl⟩
                    case measure => simp [intOf]
                  · go_wp2_with fail
                    go_round
                    case rel => exact ⟨4, by omega, rfl⟩
                    case measure => simp [intOf]
                  · have f0 := HFz.out 0
                    have f1 := HFz.out 1
                    have f2 := HFz.out 2
                    have f3 := HFz.out 3
                    have f4 := HFz.out 4
                    have f5 := HFz.out 5
                    have f6 := HFz.out 6
                    go_wp2_with fail
                    refine bodyPost_ret (v := .tuple #[.agg #[.int .i64 1, .string (s.extract p (p + 1)), .int .i64 0, .int .i64 0, .string ⟨#[]⟩, .int .i64 (p : Int), .int .i64 ((p : Int) + 1)], .int .i64 (-1)]) (results_row_one Tryz.results13 _ _ w.heap.size 29 _ _ _ _ rfl rfl (HF.out _ HRo2.out _ _ _ _ _ _ _).1 Tryz.underlying29 rfl (by kernel_rfl)) rfl ?_
                    exact ⟨by rw [HR.out], (HF.out _ HRo2.out _ _ _ _ _ _ _).2⟩
              · have hz : (b.toNat : Int) = 42 := by omega
                rw [hz] at C1 L1
                have CC1 : Hid _ := C1
                have CL1 : Hid _ := L1
                clear C1 L1 h
                have HR : Hid (resR (oneT (s.data.toList.drop p)) p = .tuple #[.agg #[.int .i64 1, .string (s.extract p (p + 1)), .int .i64 0, .int .i64 0, .string ⟨#[]⟩, .int .i64 (p : Int), .int .i64 ((p : Int) + 1)], .int .i64 (-1)]) := by
                  show _ = _
                  exact HR0.out
                clear HR0
                generalize resR (oneT (s.data.toList.drop p)) p = RR at *
                clear hcons CD CL
                go_enter Tryz.func13, Tryz.ntmps13
                go_wp2_with (first | (go_at_call 26; with_reducible (refine (CC1.out _).mono ?_); rintro e _ ⟨rfl, hw⟩; obtain rfl := hw.symm; clear hw) | (go_at_call 29; with_reducible (refine (CL1.out _).mono ?_); rintro e _ ⟨rfl, hw⟩; obtain rfl := hw.symm; clear hw))
                rw [← hW2]
                clear hW2
                go_loop [76] (fun s76 => ∃ i : Nat, i ≤ 5 ∧ s76 = .int .i64 (i : Int)) (fun s76 => 6 - (intOf s76).toNat)
                case atStart => exact ⟨0, by omega, rfl⟩
                case round =>
                  obtain ⟨i, hi, rfl⟩ := hrel
                  have hi2 : i = 0 ∨ i = 1 ∨ i = 2 ∨ i = 3 ∨ i = 4 ∨ i = 5 := by omega
                  clear hi
                  rcases hi2 with rfl | rfl | rfl | rfl | rfl | rfl
                  · go_wp2_with fail
                    go_round
                    case rel => exact ⟨1, by omega, rfl⟩
                    case measure => simp [intOf]
                  · go_wp2_with fail
                    go_round
                    case rel => exact ⟨2, by omega, rfl⟩
                    case measure => simp [intOf]
                  · go_wp2_with fail
                    go_round
                    case rel => exact ⟨3, by omega, rfl⟩
                    case measure => simp [intOf]
                  · go_wp2_with fail
                    go_round
                    case rel => exact ⟨4, by omega, rfl⟩
                    case measure => simp [intOf]
                  · go_wp2_with fail
                    go_round
                    case rel => exact ⟨5, by omega, rfl⟩
                    case measure => simp [intOf]
                  · have f0 := HFz.out 0
                    have f1 := HFz.out 1
                    have f2 := HFz.out 2
                    have f3 := HFz.out 3
                    have f4 := HFz.out 4
                    have f5 := HFz.out 5
                    have f6 := HFz.out 6
                    go_wp2_with fail
                    refine bodyPost_ret (v := .tuple #[.agg #[.int .i64 1, .string (s.extract p (p + 1)), .int .i64 0, .int .i64 0, .string ⟨#[]⟩, .int .i64 (p : Int), .int .i64 ((p : Int) + 1)], .int .i64 (-1)]) (results_row_one Tryz.results13 _ _ w.heap.size 29 _ _ _ _ rfl rfl (HF.out _ HRo2.out _ _ _ _ _ _ _).1 Tryz.underlying29 rfl (by kernel_rfl)) rfl ?_
                    exact ⟨by rw [HR.out], (HF.out _ HRo2.out _ _ _ _ _ _ _).2⟩
            · have HRn : Hid (resR (oneT (s.data.toList.drop p)) p = .tuple #[.agg #[.int .i64 0, .string ⟨#[]⟩, .int .i64 0, .int .i64 0, .string ⟨#[]⟩, .int .i64 0, .int .i64 0], .int .i64 (p : Int)]) := by
                show _ = _
                rw [hcons, hop, opT_no (by simp only [opN]; rw [if_neg h62, if_neg hop6]), resR_no]
              have y0 : ((b.toNat : Int) == 61) = false := beq_false_of_ne (by omega)
              have y1 : ((b.toNat : Int) == 60) = false := beq_false_of_ne (by omega)
              have y2 : ((b.toNat : Int) == 40) = false := beq_false_of_ne (by omega)
              have y3 : ((b.toNat : Int) == 41) = false := beq_false_of_ne (by omega)
              have y4 : ((b.toNat : Int) == 44) = false := beq_false_of_ne (by omega)
              have y5 : ((b.toNat : Int) == 42) = false := beq_false_of_ne (by omega)
              have CC1 : Hid _ := C1
              have CL1 : Hid _ := L1
              clear C1 L1 hop hd0 hd h45 h39 hl hl0 h62 hop6 HX2
              have HR : Hid (resR (oneT (s.data.toList.drop p)) p = .tuple #[.agg #[.int .i64 0, .string ⟨#[]⟩, .int .i64 0, .int .i64 0, .string ⟨#[]⟩, .int .i64 0, .int .i64 0], .int .i64 (p : Int)]) := by
                show _ = _
                exact HRn.out
              clear HRn
              generalize resR (oneT (s.data.toList.drop p)) p = RR at *
              clear hcons CD CL
              go_enter Tryz.func13, Tryz.ntmps13
              go_wp2_with (first | (go_at_call 26; with_reducible (refine (CC1.out _).mono ?_); rintro e _ ⟨rfl, hw⟩; obtain rfl := hw.symm; clear hw) | (go_at_call 29; with_reducible (refine (CL1.out _).mono ?_); rintro e _ ⟨rfl, hw⟩; obtain rfl := hw.symm; clear hw))
              rw [← hW2]
              clear hW2
              go_loop [76] (fun s76 => ∃ i : Nat, i ≤ 6 ∧ s76 = .int .i64 (i : Int)) (fun s76 => 6 - (intOf s76).toNat)
              case atStart => exact ⟨0, by omega, rfl⟩
              case round =>
                obtain ⟨i, hi, rfl⟩ := hrel
                have hi2 : i = 0 ∨ i = 1 ∨ i = 2 ∨ i = 3 ∨ i = 4 ∨ i = 5 ∨ i = 6 := by omega
                clear hi
                rcases hi2 with rfl | rfl | rfl | rfl | rfl | rfl | rfl
                · go_wp2_with fail
                  go_round
                  case rel => exact ⟨1, by omega, rfl⟩
                  case measure => simp [intOf]
                · go_wp2_with fail
                  go_round
                  case rel => exact ⟨2, by omega, rfl⟩
                  case measure => simp [intOf]
                · go_wp2_with fail
                  go_round
                  case rel => exact ⟨3, by omega, rfl⟩
                  case measure => simp [intOf]
                · go_wp2_with fail
                  go_round
                  case rel => exact ⟨4, by omega, rfl⟩
                  case measure => simp [intOf]
                · go_wp2_with fail
                  go_round
                  case rel => exact ⟨5, by omega, rfl⟩
                  case measure => simp [intOf]
                · go_wp2_with fail
                  go_round
                  case rel => exact ⟨6, by omega, rfl⟩
                  case measure => simp [intOf]
                · have f0 := HFz.out 0
                  have f1 := HFz.out 1
                  have f2 := HFz.out 2
                  have f3 := HFz.out 3
                  have f4 := HFz.out 4
                  have f5 := HFz.out 5
                  have f6 := HFz.out 6
                  go_wp2_with fail
                  refine bodyPost_ret (v := .tuple #[.agg #[.int .i64 0, .string ⟨#[]⟩, .int .i64 0, .int .i64 0, .string ⟨#[]⟩, .int .i64 0, .int .i64 0], .int .i64 (p : Int)]) (results_row_one Tryz.results13 _ _ w.heap.size 29 _ _ _ _ rfl rfl (HF.out _ HRo2.out _ _ _ _ _ _ _).1 Tryz.underlying29 rfl (by kernel_rfl)) rfl ?_
                  exact ⟨by rw [HR.out], (HF.out _ HRo2.out _ _ _ _ _ _ _).2⟩
end Go.Proofs.YtajebjkpmbehgaaGreatDoor
