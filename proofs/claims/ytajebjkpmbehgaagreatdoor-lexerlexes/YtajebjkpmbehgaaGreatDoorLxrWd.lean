/-
  CONTRACT: the document's word.
-/
import Derived.Test.YtajebjkpmbehgaaGreatDoorLxrNum
import Derived.Test.YtajebjkpmbehgaaGreatDoorLxrWord
import Derived.Test.YtajebjkpmbehgaaGreatDoorLxrName
namespace Go.Proofs.YtajebjkpmbehgaaGreatDoor
open Go.RowKit

/-- Worlds in which the result's block stands, not stored. -/
structure Ro (w w1 : World) : Prop where
  res : Blk w1 w.heap.size [.int .i64 0, .string ⟨#[]⟩, .int .i64 0, .int .i64 0, .string ⟨#[]⟩, .int .i64 0, .int .i64 0] 29
  below : Below w.heap.size w w1
theorem Ro.new (w : World) : Ro w (w.alloc (.cells #[.int .i64 0, .string ⟨#[]⟩, .int .i64 0, .int .i64 0, .string ⟨#[]⟩, .int .i64 0, .int .i64 0] 29)) :=
  ⟨new_at _ _ rfl, (Below.refl _ _).alloc (Nat.le_refl _) _⟩
theorem Ro.to {w w1 w2 : World} (h : Ro w w1) (hb : Below w1.heap.size w1 w2) : Ro w w2 := by
  have hlt := h.res.lt
  exact ⟨h.res.carry (hb.block _ hlt), h.below.trans (hb.mono (by omega))⟩
theorem Ro.fin {w w1 : World} (h : Ro w w1) (v0 v1 v2 v3 v4 v5 v6 : Value) :
    (((((((w1.setCell ⟨w.heap.size, 0, none⟩ v0).setCell ⟨w.heap.size, 1, none⟩ v1).setCell ⟨w.heap.size, 2, none⟩ v2).setCell ⟨w.heap.size, 3, none⟩ v3).setCell ⟨w.heap.size, 4, none⟩ v4).setCell ⟨w.heap.size, 5, none⟩ v5).setCell ⟨w.heap.size, 6, none⟩ v6).heap[w.heap.size]? = some (.cells #[v0, v1, v2, v3, v4, v5, v6] 29 (0, 0)) ∧
    Below w.heap.size w (((((((w1.setCell ⟨w.heap.size, 0, none⟩ v0).setCell ⟨w.heap.size, 1, none⟩ v1).setCell ⟨w.heap.size, 2, none⟩ v2).setCell ⟨w.heap.size, 3, none⟩ v3).setCell ⟨w.heap.size, 4, none⟩ v4).setCell ⟨w.heap.size, 5, none⟩ v5).setCell ⟨w.heap.size, 6, none⟩ v6) :=
  ⟨set7 h.res _ _ _ _ _ _ _, below7 h.below (Nat.le_refl _) _ _ _ _ _ _ _⟩
theorem Ro.fro {w w1 : World} (h : Ro w w1) : (∀ i, w1.frozen? ⟨w.heap.size, i, none⟩ = false) ∧
    w1.cell? ⟨w.heap.size, 0, none⟩ = some (.int .i64 0) ∧ w1.cell? ⟨w.heap.size, 1, none⟩ = some (.string ⟨#[]⟩) ∧ w1.cell? ⟨w.heap.size, 2, none⟩ = some (.int .i64 0) ∧ w1.cell? ⟨w.heap.size, 3, none⟩ = some (.int .i64 0) ∧ w1.cell? ⟨w.heap.size, 4, none⟩ = some (.string ⟨#[]⟩) ∧ w1.cell? ⟨w.heap.size, 5, none⟩ = some (.int .i64 0) ∧ w1.cell? ⟨w.heap.size, 6, none⟩ = some (.int .i64 0) :=
  ⟨fun i => h.res.frozen i, h.res.cell 0 rfl, h.res.cell 1 rfl, h.res.cell 2 rfl, h.res.cell 3 rfl, h.res.cell 4 rfl, h.res.cell 5 rfl, h.res.cell 6 rfl⟩
theorem wdN_cons (b : UInt8) (r : List UInt8) : wdN (b :: r) = if wdB b then wdN r + 1 else 0 := rfl
set_option maxRecDepth 100000 in
set_option maxHeartbeats 2000000 in
theorem wordRR_any (s : ByteArray) (p : Nat) (w : World) (hp : p < s.size) (hs : s.size ≤ 600) (hlb : ltB (s[p]'hp) = true) :
    Calls Tryz.prog 30 #[.string s, .int .i64 (p : Int)] w fun e w' => e = .returned (resR (wdT (s.data.toList.drop p)) p) ∧ Below w.heap.size w w' := by
  have hlen : (s.data.toList.drop p).length = s.size - p := by rw [List.length_drop]; simp
  have hwl := wdN_le (s.data.toList.drop p)
  rw [hlen] at hwl
  obtain ⟨l, hl⟩ : ∃ l, (s.data.toList.drop p).take (wdN (s.data.toList.drop p)) = l := ⟨_, rfl⟩
  obtain ⟨N, hN⟩ : ∃ N, wdN (s.data.toList.drop p) = N := ⟨_, rfl⟩
  have hN1 : 1 ≤ N := by
    rw [← hN, drop_consB s p hp, wdN_cons, if_pos (by unfold wdB; rw [hlb]; rfl)]
    omega
  have hll : l.length = N := by rw [← hl, List.length_take, hlen, hN]; omega
  obtain ⟨t, ht⟩ : ∃ t, s.extract p (p + N) = t := ⟨_, rfl⟩
  have htl : t.data.toList = l := by rw [← ht, ext_list, Nat.add_sub_cancel_left, ← hl, hN]
  have hts : t.size = N := by rw [← hll, ← htl]; simp
  have hwb : ∀ b ∈ t.data.toList, wdB b = true := by rw [htl, ← hl]; exact wdN_all _
  have hT : wdT (s.data.toList.drop p) = if isWd l then (some ⟨2, Lib.toUpperA l, 0, 0, [], 0, l.length⟩, 0) else if nameB (Lib.toLowerA l) then (some ⟨3, Lib.toLowerA l, 0, 0, [], 0, l.length⟩, 0) else (none, 0) := by
    unfold wdT
    simp only [hl]
  have CWd : Hid (∀ wr, Calls Tryz.prog 48 #[.string t] wr fun e w' => e = .returned (.bool (isWd l)) ∧ Below wr.heap.size wr w') := fun wr => by
    have := wordR_any t wr (by omega) (by omega) hwb
    rw [htl] at this
    exact this
  have CUp : Hid (∀ wr, Calls Tryz.prog 49 #[.string t] wr fun e w' => e = .returned (.string (xB (Lib.toUpperA l))) ∧ Below wr.heap.size wr w') := fun wr => by
    have := upR_any t wr (by omega)
    rw [htl] at this
    exact this
  have CLo : Hid (∀ wr, Calls Tryz.prog 51 #[.string t] wr fun e w' => e = .returned (.string (xB (Lib.toLowerA l))) ∧ Below wr.heap.size wr w') := fun wr => by
    have := loR_any t wr (by omega)
    rw [htl] at this
    exact this
  have hlo : (Lib.toLowerA l).length = N := by unfold Lib.toLowerA; rw [List.length_map, hll]
  have CNm : Hid (∀ wr, Calls Tryz.prog 50 #[.string (xB (Lib.toLowerA l))] wr fun e w' => e = .returned (.bool (nameB (Lib.toLowerA l))) ∧ w' = wr) := fun wr => refName_any (xB (Lib.toLowerA l)) wr (by rw [xB_size, hlo]; unfold maxLen; omega)
  obtain ⟨E, hE⟩ : ∃ E, p + N = E := ⟨_, rfl⟩
  have i1 : (p : Int) ≤ (E : Int) := by omega
  have i2 : (E : Int) ≤ (s.size : Int) := by omega
  have HL2 : Hid (((l.length + p : Nat) : Int) = (E : Int)) := by show _ = _; rw [hll]; omega
  have hinv0 : p + wdN (s.data.toList.drop p) = E := by rw [hN]; exact hE
  rw [hE] at ht
  have HT : Hid (wdT (s.data.toList.drop p) = _) := hT
  obtain ⟨RR, hRR⟩ : ∃ RR, resR (wdT (s.data.toList.drop p)) p = RR := ⟨_, rfl⟩
  rw [hRR]
  have HR2 : Hid (isWd l = true → RR = .tuple #[.agg #[.int .i64 2, .string (xB (Lib.toUpperA l)), .int .i64 0, .int .i64 0, .string ⟨#[]⟩, .int .i64 (p : Int), .int .i64 (E : Int)], .int .i64 (-1)]) := fun h => by
    rw [← hRR, HT.out, if_pos h, resR_at, HL2.out]; rfl
  have HR3 : Hid (isWd l = false → nameB (Lib.toLowerA l) = true → RR = .tuple #[.agg #[.int .i64 3, .string (xB (Lib.toLowerA l)), .int .i64 0, .int .i64 0, .string ⟨#[]⟩, .int .i64 (p : Int), .int .i64 (E : Int)], .int .i64 (-1)]) := fun h h2 => by
    rw [← hRR, HT.out, h, if_neg (by decide), if_pos h2, resR_at, HL2.out]; rfl
  have HR0 : Hid (isWd l = false → nameB (Lib.toLowerA l) = false → RR = .tuple #[.agg #[.int .i64 0, .string ⟨#[]⟩, .int .i64 0, .int .i64 0, .string ⟨#[]⟩, .int .i64 0, .int .i64 0], .int .i64 (p : Int)]) := fun h h2 => by
    rw [← hRR, HT.out, h, if_neg (by decide), h2, if_neg (by decide), resR_no]
  have HX : Hid (∀ p, s.size ≤ p → s.data.toList.drop p = []) := drop_endB s
  have HC : Hid (∀ p (h : p < s.size), s.data.toList.drop p = (s[p]'h) :: s.data.toList.drop (p + 1)) := drop_consB s
  have CD : Hid (∀ (b : UInt8) w, Calls Tryz.prog 26 #[.int .u8 (b.toNat : Int)] w fun e w' => e = .returned (.bool (dgB b)) ∧ w' = w) := fun b w => by rw [← dgI_B]; exact digitR_any _ w
  have CL : Hid (∀ (b : UInt8) w, Calls Tryz.prog 29 #[.int .u8 (b.toNat : Int)] w fun e w' => e = .returned (.bool (ltB b)) ∧ w' = w) := fun b w => by rw [← ltI_B]; exact letterR_any _ w
  have HF : Hid (∀ w1, Ro w w1 → ∀ v0 v1 v2 v3 v4 v5 v6 : Value, (((((((w1.setCell ⟨w.heap.size, 0, none⟩ v0).setCell ⟨w.heap.size, 1, none⟩ v1).setCell ⟨w.heap.size, 2, none⟩ v2).setCell ⟨w.heap.size, 3, none⟩ v3).setCell ⟨w.heap.size, 4, none⟩ v4).setCell ⟨w.heap.size, 5, none⟩ v5).setCell ⟨w.heap.size, 6, none⟩ v6).heap[w.heap.size]? = some (.cells #[v0, v1, v2, v3, v4, v5, v6] 29 (0, 0)) ∧
    Below w.heap.size w (((((((w1.setCell ⟨w.heap.size, 0, none⟩ v0).setCell ⟨w.heap.size, 1, none⟩ v1).setCell ⟨w.heap.size, 2, none⟩ v2).setCell ⟨w.heap.size, 3, none⟩ v3).setCell ⟨w.heap.size, 4, none⟩ v4).setCell ⟨w.heap.size, 5, none⟩ v5).setCell ⟨w.heap.size, 6, none⟩ v6)) := fun w1 h => h.fin
  obtain ⟨W, hW⟩ : ∃ W, W = w.alloc (.cells #[.int .i64 0, .string ⟨#[]⟩, .int .i64 0, .int .i64 0, .string ⟨#[]⟩, .int .i64 0, .int .i64 0] 29) := ⟨_, rfl⟩
  have hRo : Ro w W := by rw [hW]; exact Ro.new w
  have HRo : Hid _ := hRo
  have i3 : E ≤ s.size := by omega
  have HI0 : Hid (p + wdN (s.data.toList.drop p) = E) := hinv0
  clear hT hRR hl hlen hwl hN hll hts hlo hE htl hwb hN1 HL2 HT hRo hinv0 hlb
  go_enter Tryz.func30, Tryz.ntmps30
  go_wp2_with fail
  rw [← hW]
  clear hW
  go_loop [6] (fun s6 => ∃ i : Nat, p ≤ i ∧ i ≤ s.size ∧ s6 = .int .i64 (i : Int) ∧ i + wdN (s.data.toList.drop i) = E) (fun s6 => s.size - (intOf s6).toNat)
  case atStart => exact ⟨p, Nat.le_refl _, Nat.le_of_lt hp, rfl, HI0.out⟩
  case round =>
    obtain ⟨i, hpi, hi, rfl, hinv⟩ := hrel
    clear HI0
    by_cases hin : ∃ (h : i < s.size), wdB (s[i]'h) = true
    · obtain ⟨hlt, hwb⟩ := hin
      have hltz : (i : Int) < (s.size : Int) := by omega
      obtain ⟨b, hb⟩ : ∃ b, s[i]'hlt = b := ⟨_, rfl⟩
      rw [hb] at hwb
      rw [HC.out i hlt, hb, wdN_cons, if_pos hwb] at hinv
      have HJ : Hid (i + 1 + wdN (s.data.toList.drop (i + 1)) = E) := by show _ = _; omega
      have C1 := CL.out b
      have C2 := CD.out b
      clear hinv HC HX CL CD CWd CUp CLo CNm HR2 HR3 HR0 HF HRo
      cases h1 : ltB b
      · rw [h1] at C1
        have CC1 : Hid _ := C1
        cases h2 : dgB b
        · rw [h2] at C2
          have CC2 : Hid _ := C2
          have h95 : (b.toNat : Int) = 95 := by
            simp only [wdB, h1, h2, Bool.false_or, decide_eq_true_eq] at hwb
            omega
          rw [h95] at CC1 CC2
          clear C1 C2 h1 h2 hwb
          go_wp2_with (first | (go_at_call 29; with_reducible (refine (CC1.out _).mono ?_); rintro e _ ⟨rfl, hw⟩; obtain rfl := hw.symm; clear hw) | (go_at_call 26; with_reducible (refine (CC2.out _).mono ?_); rintro e _ ⟨rfl, hw⟩; obtain rfl := hw.symm; clear hw))
          go_round
          case rel => exact ⟨i + 1, by omega, by omega, by simp, HJ.out⟩
          case measure => simp [intOf]; omega
        · rw [h2] at C2
          have CC2 : Hid _ := C2
          clear C1 C2 h1 h2 hwb
          go_wp2_with (first | (go_at_call 29; with_reducible (refine (CC1.out _).mono ?_); rintro e _ ⟨rfl, hw⟩; obtain rfl := hw.symm; clear hw) | (go_at_call 26; with_reducible (refine (CC2.out _).mono ?_); rintro e _ ⟨rfl, hw⟩; obtain rfl := hw.symm; clear hw))
          go_round
          case rel => exact ⟨i + 1, by omega, by omega, by simp, HJ.out⟩
          case measure => simp [intOf]; omega
      · rw [h1] at C1
        have CC1 : Hid _ := C1
        clear C1 C2 h1 hwb
        go_wp2_with (go_at_call 29; with_reducible (refine (CC1.out _).mono ?_); rintro e _ ⟨rfl, hw⟩; obtain rfl := hw.symm; clear hw)
        go_round
        case rel => exact ⟨i + 1, by omega, by omega, by simp, HJ.out⟩
        case measure => simp [intOf]; omega
    · have hz0 : wdN (s.data.toList.drop i) = 0 := by
        by_cases hlt : i < s.size
        · rw [HC.out i hlt, wdN_cons, if_neg (fun h => hin ⟨hlt, h⟩)]
        · rw [HX.out i (by omega)]; rfl
      rw [hz0] at hinv
      obtain rfl : i = E := by omega
      clear hinv hz0
      by_cases hlt : i < s.size
      · have hltz : (i : Int) < (s.size : Int) := by omega
        obtain ⟨b, hb⟩ : ∃ b, s[i]'hlt = b := ⟨_, rfl⟩
        have hwb : ¬ wdB b = true := fun h => hin ⟨hlt, by rw [hb]; exact h⟩
        simp only [wdB, Bool.or_eq_true, decide_eq_true_eq, not_or, Bool.not_eq_true] at hwb
        obtain ⟨⟨h1, h2⟩, h3⟩ := hwb
        have C1 := CL.out b
        have C2 := CD.out b
        rw [h1] at C1
        rw [h2] at C2
        have CC1 : Hid _ := C1
        have CC2 : Hid _ := C2
        have h95 : ((b.toNat : Int) == 95) = false := beq_false_of_ne (by omega)
        clear C1 C2 CL CD HC HX hin h1 h2 h3
        cases hW : isWd l
        · rw [hW] at CWd
          cases hM : nameB (Lib.toLowerA l)
          · rw [hM] at CNm
            have HR : Hid (RR = _) := HR0.out hW hM
            clear HR0 HR2 HR3 hW hM
            go_wp2_with (first | (go_at_call 29; with_reducible (refine (CC1.out _).mono ?_); rintro e _ ⟨rfl, hw⟩; obtain rfl := hw.symm; clear hw) | (go_at_call 26; with_reducible (refine (CC2.out _).mono ?_); rintro e _ ⟨rfl, hw⟩; obtain rfl := hw.symm; clear hw) | (go_at_call 48; with_reducible (refine (CWd.out _).mono ?_); rintro e w1 ⟨rfl, hb1⟩; have HP1 := HRo.out.to hb1; clear hb1) | (go_at_call 51; with_reducible (refine (CLo.out _).mono ?_); rintro e w2 ⟨rfl, hb2⟩; have HP2 := HP1.to hb2; clear hb2; obtain ⟨fz, e0, e1, e2, e3, e4, e5, e6⟩ := HP2.fro; have f0 := fz 0; have f1 := fz 1; have f2 := fz 2; have f3 := fz 3; have f4 := fz 4; have f5 := fz 5; have f6 := fz 6; clear fz) | (go_at_call 50; with_reducible (refine (CNm.out _).mono ?_); rintro e _ ⟨rfl, hw⟩; obtain rfl := hw.symm; clear hw))
            refine bodyPost_ret (v := .tuple #[.agg #[.int .i64 0, .string ⟨#[]⟩, .int .i64 0, .int .i64 0, .string ⟨#[]⟩, .int .i64 0, .int .i64 0], .int .i64 (p : Int)]) (results_row_one Tryz.results30 _ _ w.heap.size 29 _ _ _ _ rfl rfl (HF.out _ HP2 _ _ _ _ _ _ _).1 Tryz.underlying29 rfl (by kernel_rfl)) rfl ?_
            exact ⟨by rw [HR.out], (HF.out _ HP2 _ _ _ _ _ _ _).2⟩
          · rw [hM] at CNm
            have HR : Hid (RR = _) := HR3.out hW hM
            clear HR0 HR2 HR3 hW hM
            go_wp2_with (first | (go_at_call 29; with_reducible (refine (CC1.out _).mono ?_); rintro e _ ⟨rfl, hw⟩; obtain rfl := hw.symm; clear hw) | (go_at_call 26; with_reducible (refine (CC2.out _).mono ?_); rintro e _ ⟨rfl, hw⟩; obtain rfl := hw.symm; clear hw) | (go_at_call 48; with_reducible (refine (CWd.out _).mono ?_); rintro e w1 ⟨rfl, hb1⟩; have HP1 := HRo.out.to hb1; clear hb1) | (go_at_call 51; with_reducible (refine (CLo.out _).mono ?_); first | (rintro e w3 ⟨rfl, hb3⟩; have HP3 := HP2.to hb3; clear hb3; obtain ⟨fz, e0, e1, e2, e3, e4, e5, e6⟩ := HP3.fro; have f0 := fz 0; have f1 := fz 1; have f2 := fz 2; have f3 := fz 3; have f4 := fz 4; have f5 := fz 5; have f6 := fz 6; clear fz) | (rintro e w2 ⟨rfl, hb2⟩; have HP2 := HP1.to hb2; clear hb2)) | (go_at_call 50; with_reducible (refine (CNm.out _).mono ?_); rintro e _ ⟨rfl, hw⟩; obtain rfl := hw.symm; clear hw))
            refine bodyPost_ret (v := .tuple #[.agg #[.int .i64 3, .string (xB (Lib.toLowerA l)), .int .i64 0, .int .i64 0, .string ⟨#[]⟩, .int .i64 (p : Int), .int .i64 (i : Int)], .int .i64 (-1)]) (results_row_one Tryz.results30 _ _ w.heap.size 29 _ _ _ _ rfl rfl (HF.out _ HP3 _ _ _ _ _ _ _).1 Tryz.underlying29 rfl (by kernel_rfl)) rfl ?_
            exact ⟨by rw [HR.out], (HF.out _ HP3 _ _ _ _ _ _ _).2⟩
        · rw [hW] at CWd
          have HR : Hid (RR = _) := HR2.out hW
          clear HR0 HR2 HR3 hW
          go_wp2_with (first | (go_at_call 29; with_reducible (refine (CC1.out _).mono ?_); rintro e _ ⟨rfl, hw⟩; obtain rfl := hw.symm; clear hw) | (go_at_call 26; with_reducible (refine (CC2.out _).mono ?_); rintro e _ ⟨rfl, hw⟩; obtain rfl := hw.symm; clear hw) | (go_at_call 48; with_reducible (refine (CWd.out _).mono ?_); rintro e w1 ⟨rfl, hb1⟩; have HP1 := HRo.out.to hb1; clear hb1) | (go_at_call 49; with_reducible (refine (CUp.out _).mono ?_); rintro e w2 ⟨rfl, hb2⟩; have HP2 := HP1.to hb2; obtain ⟨fz, e0, e1, e2, e3, e4, e5, e6⟩ := HP2.fro; have f0 := fz 0; have f1 := fz 1; have f2 := fz 2; have f3 := fz 3; have f4 := fz 4; have f5 := fz 5; have f6 := fz 6; clear fz hb2))
          refine bodyPost_ret (v := .tuple #[.agg #[.int .i64 2, .string (xB (Lib.toUpperA l)), .int .i64 0, .int .i64 0, .string ⟨#[]⟩, .int .i64 (p : Int), .int .i64 (i : Int)], .int .i64 (-1)]) (results_row_one Tryz.results30 _ _ w.heap.size 29 _ _ _ _ rfl rfl (HF.out _ HP2 _ _ _ _ _ _ _).1 Tryz.underlying29 rfl (by kernel_rfl)) rfl ?_
          exact ⟨by rw [HR.out], (HF.out _ HP2 _ _ _ _ _ _ _).2⟩
      · obtain rfl : i = s.size := by omega
        clear CL CD HC HX hin
        cases hW : isWd l
        · rw [hW] at CWd
          cases hM : nameB (Lib.toLowerA l)
          · rw [hM] at CNm
            have HR : Hid (RR = _) := HR0.out hW hM
            clear HR0 HR2 HR3 hW hM
            go_wp2_with (first | (go_at_call 48; with_reducible (refine (CWd.out _).mono ?_); rintro e w1 ⟨rfl, hb1⟩; have HP1 := HRo.out.to hb1; clear hb1) | (go_at_call 51; with_reducible (refine (CLo.out _).mono ?_); rintro e w2 ⟨rfl, hb2⟩; have HP2 := HP1.to hb2; clear hb2; obtain ⟨fz, e0, e1, e2, e3, e4, e5, e6⟩ := HP2.fro; have f0 := fz 0; have f1 := fz 1; have f2 := fz 2; have f3 := fz 3; have f4 := fz 4; have f5 := fz 5; have f6 := fz 6; clear fz) | (go_at_call 50; with_reducible (refine (CNm.out _).mono ?_); rintro e _ ⟨rfl, hw⟩; obtain rfl := hw.symm; clear hw))
            refine bodyPost_ret (v := .tuple #[.agg #[.int .i64 0, .string ⟨#[]⟩, .int .i64 0, .int .i64 0, .string ⟨#[]⟩, .int .i64 0, .int .i64 0], .int .i64 (p : Int)]) (results_row_one Tryz.results30 _ _ w.heap.size 29 _ _ _ _ rfl rfl (HF.out _ HP2 _ _ _ _ _ _ _).1 Tryz.underlying29 rfl (by kernel_rfl)) rfl ?_
            exact ⟨by rw [HR.out], (HF.out _ HP2 _ _ _ _ _ _ _).2⟩
          · rw [hM] at CNm
            have HR : Hid (RR = _) := HR3.out hW hM
            clear HR0 HR2 HR3 hW hM
            go_wp2_with (first | (go_at_call 48; with_reducible (refine (CWd.out _).mono ?_); rintro e w1 ⟨rfl, hb1⟩; have HP1 := HRo.out.to hb1; clear hb1) | (go_at_call 51; with_reducible (refine (CLo.out _).mono ?_); first | (rintro e w3 ⟨rfl, hb3⟩; have HP3 := HP2.to hb3; clear hb3; obtain ⟨fz, e0, e1, e2, e3, e4, e5, e6⟩ := HP3.fro; have f0 := fz 0; have f1 := fz 1; have f2 := fz 2; have f3 := fz 3; have f4 := fz 4; have f5 := fz 5; have f6 := fz 6; clear fz) | (rintro e w2 ⟨rfl, hb2⟩; have HP2 := HP1.to hb2; clear hb2)) | (go_at_call 50; with_reducible (refine (CNm.out _).mono ?_); rintro e _ ⟨rfl, hw⟩; obtain rfl := hw.symm; clear hw))
            refine bodyPost_ret (v := .tuple #[.agg #[.int .i64 3, .string (xB (Lib.toLowerA l)), .int .i64 0, .int .i64 0, .string ⟨#[]⟩, .int .i64 (p : Int), .int .i64 (s.size : Int)], .int .i64 (-1)]) (results_row_one Tryz.results30 _ _ w.heap.size 29 _ _ _ _ rfl rfl (HF.out _ HP3 _ _ _ _ _ _ _).1 Tryz.underlying29 rfl (by kernel_rfl)) rfl ?_
            exact ⟨by rw [HR.out], (HF.out _ HP3 _ _ _ _ _ _ _).2⟩
        · rw [hW] at CWd
          have HR : Hid (RR = _) := HR2.out hW
          clear HR0 HR2 HR3 hW
          go_wp2_with (first | (go_at_call 48; with_reducible (refine (CWd.out _).mono ?_); rintro e w1 ⟨rfl, hb1⟩; have HP1 := HRo.out.to hb1; clear hb1) | (go_at_call 49; with_reducible (refine (CUp.out _).mono ?_); rintro e w2 ⟨rfl, hb2⟩; have HP2 := HP1.to hb2; obtain ⟨fz, e0, e1, e2, e3, e4, e5, e6⟩ := HP2.fro; have f0 := fz 0; have f1 := fz 1; have f2 := fz 2; have f3 := fz 3; have f4 := fz 4; have f5 := fz 5; have f6 := fz 6; clear fz hb2))
          refine bodyPost_ret (v := .tuple #[.agg #[.int .i64 2, .string (xB (Lib.toUpperA l)), .int .i64 0, .int .i64 0, .string ⟨#[]⟩, .int .i64 (p : Int), .int .i64 (s.size : Int)], .int .i64 (-1)]) (results_row_one Tryz.results30 _ _ w.heap.size 29 _ _ _ _ rfl rfl (HF.out _ HP2 _ _ _ _ _ _ _).1 Tryz.underlying29 rfl (by kernel_rfl)) rfl ?_
          exact ⟨by rw [HR.out], (HF.out _ HP2 _ _ _ _ _ _ _).2⟩
end Go.Proofs.YtajebjkpmbehgaaGreatDoor
