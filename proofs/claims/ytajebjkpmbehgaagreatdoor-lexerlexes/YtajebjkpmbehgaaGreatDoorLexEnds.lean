/-
  CONTRACTS: where digits end (digitsEnd), where a word ends (wordEnd).
-/
import Derived.Test.YtajebjkpmbehgaaGreatDoorLexBytes
import Derived.Test.YtajebjkpmbehgaaGreatDoorLexVal
namespace Go.Proofs.YtajebjkpmbehgaaGreatDoor
open Go.RowKit

/-- The rune at a byte of a text. -/
structure Rn (S : ByteArray) (p : Nat) (b : UInt8) (r m : Nat) : Prop where
  dec : Utf8.decode S p = (r, m)
  cons : S.data.toList.drop p = b :: S.data.toList.drop (p + 1)
  le : r ≤ 2147483647
  low : b.toNat < 128 → r = b.toNat ∧ m = 1
  high : 128 ≤ b.toNat → 128 ≤ r
  pos : 1 ≤ m
  fit : p + m ≤ S.size
  all : 128 ≤ b.toNat → ∀ j, j < m → ∃ c, (S.data.toList.drop p)[j]? = some c ∧ 128 ≤ c.toNat
theorem rn_at (S : ByteArray) (p : Nat) (h : p < S.size) : ∃ b r m, Rn S p b r m := by
  by_cases hb : (S[p]'h).toNat < 128
  · exact ⟨_, _, _, dec_low S p h hb, drop_consB S p h, by omega, fun _ => ⟨rfl, rfl⟩, fun h => by omega, Nat.le_refl _, h, fun h => by omega⟩
  · obtain ⟨r, m, h1, h2, h3, h4, h5, h6⟩ := dec_high S p h (by omega)
    exact ⟨_, r, m, h1, drop_consB S p h, h3, fun h => by omega, fun _ => h2, h4, h5, fun _ => h6⟩
section
variable {S : ByteArray} {p : Nat} {b : UInt8} {r m : Nat}
theorem Rn.bl (h : Rn S p b r m) : blI (r : Int) = blB b := by
  by_cases hb : b.toNat < 128
  · rw [(h.low hb).1, blI_B]
  · have := h.high (by omega)
    rw [blI_high (by omega)]
    exact (decide_eq_false (by omega)).symm
theorem Rn.dg (h : Rn S p b r m) : dgI (r : Int) = dgB b := by
  by_cases hb : b.toNat < 128
  · rw [(h.low hb).1, dgI_B]
  · have := h.high (by omega)
    rw [dgI_high (by omega)]
    exact (decide_eq_false (by omega)).symm
theorem Rn.lt (h : Rn S p b r m) : ltI (r : Int) = ltB b := by
  by_cases hb : b.toNat < 128
  · rw [(h.low hb).1, ltI_B]
  · have := h.high (by omega)
    rw [ltI_high (by omega)]
    exact (decide_eq_false (by omega)).symm
theorem Rn.pl (h : Rn S p b r m) : plI (r : Int) = plB b := by
  by_cases hb : b.toNat < 128
  · rw [(h.low hb).1, plI_B]
  · have := h.high (by omega)
    rw [plI_high (by omega)]
    exact (decide_eq_false (by omega)).symm
theorem Rn.eq (h : Rn S p b r m) (x : Nat) (hx : x < 128) : (r : Int) = (x : Int) ↔ b.toNat = x := by
  by_cases hb : b.toNat < 128
  · rw [(h.low hb).1]; omega
  · have := h.high (by omega); omega
end
theorem dgN_cons (d : Bool) (b : UInt8) (r : List UInt8) : dgN d (b :: r) = if dgB b then dgN true r + 1 else if decide (b.toNat = 95) && d then (if dgN false r = 0 then 0 else dgN false r + 1) else 0 := by
  cases d <;> rfl
set_option maxRecDepth 100000 in
set_option maxHeartbeats 2000000 in
theorem digitsEnd_any (s : ByteArray) (p0 : Nat) (w : World) (hp : p0 ≤ s.size) (hs : s.size ≤ 600) :
    Calls Tryz.prog 36 #[.string s, .int .i64 (p0 : Int)] w fun e w' => e = .returned (.int .i64 ((p0 + dgN false (s.data.toList.drop p0) : Nat) : Int)) ∧ Below w.heap.size w w' := by
  rw [← ext_end]
  obtain ⟨S, hS⟩ : ∃ S, s.extract p0 s.size = S := ⟨_, rfl⟩
  have zS : S.size = s.size - p0 := by rw [← hS]; simp
  have i1 : (p0 : Int) ≤ (s.size : Int) := by omega
  have hp0 : p0 ≤ 600 := by omega
  have hz : S.size ≤ 600 := by omega
  have CD : Hid (∀ (x : Int) (w : World), Calls Tryz.prog 19 #[.int .i32 x] w fun e w' => e = .returned (.bool (dgI x)) ∧ w' = w) := digitL_any
  obtain ⟨A, hA⟩ : ∃ A, dgN false S.data.toList = A := ⟨_, rfl⟩
  rw [hS, hA]
  go_enter Tryz.func36, Tryz.ntmps36
  go_wp2_with fail
  have HD : Hid (∀ (d : Bool) (b : UInt8) (r : List UInt8), dgN d (b :: r) = if dgB b then dgN true r + 1 else if decide (b.toNat = 95) && d then (if dgN false r = 0 then 0 else dgN false r + 1) else 0) := dgN_cons
  have HB : Hid (∀ p, Below w.heap.size w (w.iter S p)) := fun p => (Below.refl _ _).alloc (Nat.le_refl _) _
  clear hS zS hp hs
  go_loopw [5, 6] (fun s5 s6 wr => ∃ (p en : Nat) (bd : Bool), p ≤ S.size ∧ en ≤ S.size ∧ wr = w.iter S p ∧ s5 = .int .i64 ((p0 + en : Nat) : Int) ∧ s6 = .bool bd ∧ A = if dgN bd (S.data.toList.drop p) = 0 then en else p + dgN bd (S.data.toList.drop p)) (fun _ _ wr => S.size - wr.iterPos w.heap.size)
  case atStart => exact ⟨0, 0, false, Nat.zero_le _, Nat.zero_le _, rfl, rfl, rfl, by rw [← hA, List.drop_zero]; split <;> omega⟩
  case round =>
    obtain ⟨p, en, bd, hp, hen, rfl, rfl, rfl, hinv⟩ := hrel
    clear hA
    rcases Nat.lt_or_ge p S.size with hlt | hge
    · obtain ⟨b, r, m, hr⟩ := rn_at S p hlt
      have hn := fun ty => run_next_any (P := Tryz.prog) w S p ty hlt
      rw [hr.dec] at hn
      have hdg := hr.dg
      have h95 := hr.eq 95 (by omega)
      have hle := hr.le
      have hlow := hr.low
      have hfit := hr.fit
      rw [hr.cons, HD.out] at hinv
      clear hr
      have hrz : 0 ≤ (r : Int) := by omega
      have hrz2 : (r : Int) ≤ 2147483647 := by omega
      by_cases hd : dgB b = true
      · have hb := (dgB_iff b).1 hd
        obtain ⟨-, rfl⟩ := hlow (by omega)
        rw [if_pos hd] at hinv
        have HV : Hid (A = if dgN true (S.data.toList.drop (p + 1)) = 0 then p + 1 else p + 1 + dgN true (S.data.toList.drop (p + 1))) := by show A = _; rw [hinv, if_neg (by omega)]; split <;> omega
        have C : Hid (∀ wr, Calls Tryz.prog 19 #[.int .i32 (r : Int)] wr fun e w' => e = .returned (.bool true) ∧ w' = wr) := fun wr => by have := CD.out (r : Int) wr; rw [hdg, hd] at this; exact this
        clear hinv hdg h95 hlow CD HD hd hb
        generalize (r : Int) = x at *
        go_wp2_with (go_at_call 19; with_reducible (refine (C.out _).mono ?_); rintro e _ ⟨rfl, hw⟩; obtain rfl := hw.symm; clear hw)
        go_roundw
        case rel => exact ⟨p + 1, p + 1, true, hfit, hfit, rfl, by go_num, rfl, HV.out⟩
        case measure => simp; omega
      · have hd2 : dgB b = false := by simpa using hd
        have C : Hid (∀ wr, Calls Tryz.prog 19 #[.int .i32 (r : Int)] wr fun e w' => e = .returned (.bool false) ∧ w' = wr) := fun wr => by have := CD.out (r : Int) wr; rw [hdg, hd2] at this; exact this
        rw [if_neg hd] at hinv
        by_cases hu : b.toNat = 95
        · obtain ⟨-, rfl⟩ := hlow (by omega)
          have hx : (r : Int) = 95 := h95.2 hu
          rw [decide_eq_true hu, Bool.true_and] at hinv
          clear hdg h95 hlow CD HD hd hd2 hu
          generalize (r : Int) = x at *
          cases bd
          · have HV : Hid (A = en) := by show A = _; simpa using hinv
            clear hinv
            subst hx
            go_wp2_with (go_at_call 19; with_reducible (refine (C.out _).mono ?_); rintro e _ ⟨rfl, hw⟩; obtain rfl := hw.symm; clear hw)
            go_ret
            exact ⟨ret_int (by rw [HV.out]; omega), HB.out _⟩
          · have HV : Hid (A = if dgN false (S.data.toList.drop (p + 1)) = 0 then en else p + 1 + dgN false (S.data.toList.drop (p + 1))) := by
              show A = _
              rw [hinv, if_pos rfl]
              by_cases h0 : dgN false (S.data.toList.drop (p + 1)) = 0
              · rw [if_pos h0, if_pos rfl, if_pos h0]
              · rw [if_neg h0, if_neg (by omega), if_neg h0]; omega
            clear hinv
            subst hx
            go_wp2_with (go_at_call 19; with_reducible (refine (C.out _).mono ?_); rintro e _ ⟨rfl, hw⟩; obtain rfl := hw.symm; clear hw)
            go_roundw
            case rel => exact ⟨p + 1, en, false, hfit, hen, rfl, rfl, rfl, HV.out⟩
            case measure => simp; omega
        · have hx : ¬ (r : Int) = 95 := fun e => hu (h95.1 e)
          have hx2 : ((r : Int) == 95) = false := beq_false_of_ne hx
          rw [decide_eq_false hu, Bool.false_and] at hinv
          have HV : Hid (A = en) := by show A = _; simpa using hinv
          clear hdg h95 hlow CD HD hd hd2 hu hinv
          generalize (r : Int) = x at *
          go_wp2_with (go_at_call 19; with_reducible (refine (C.out _).mono ?_); rintro e _ ⟨rfl, hw⟩; obtain rfl := hw.symm; clear hw)
          go_ret
          exact ⟨ret_int (by rw [HV.out]; omega), HB.out _⟩
    · have hn := fun ty => run_next_end (P := Tryz.prog) w S p ty (by omega)
      rw [List.drop_eq_nil_of_le (by simpa using hge)] at hinv
      have HV : Hid (A = en) := by show A = _; simpa [dgN] using hinv
      clear hinv
      go_wp2_with fail
      go_ret
      exact ⟨ret_int (by rw [HV.out]), HB.out _⟩
set_option maxRecDepth 100000 in
set_option maxHeartbeats 2000000 in
theorem wordEnd_any (s : ByteArray) (p0 : Nat) (w : World) (hp : p0 ≤ s.size) (hs : s.size ≤ 600) :
    Calls Tryz.prog 42 #[.string s, .int .i64 (p0 : Int)] w fun e w' => e = .returned (.int .i64 ((p0 + wdN (s.data.toList.drop p0) : Nat) : Int)) ∧ Below w.heap.size w w' := by
  rw [← ext_end]
  obtain ⟨S, hS⟩ : ∃ S, s.extract p0 s.size = S := ⟨_, rfl⟩
  have zS : S.size = s.size - p0 := by rw [← hS]; simp
  have i1 : (p0 : Int) ≤ (s.size : Int) := by omega
  have HZ : Hid (p0 + S.size = s.size) := by show _ = _; omega
  have hp0 : p0 ≤ 600 := by omega
  have hz : S.size ≤ 600 := by omega
  have CD : Hid (∀ (x : Int) (w : World), Calls Tryz.prog 19 #[.int .i32 x] w fun e w' => e = .returned (.bool (dgI x)) ∧ w' = w) := digitL_any
  have CL : Hid (∀ (x : Int) (w : World), Calls Tryz.prog 22 #[.int .i32 x] w fun e w' => e = .returned (.bool (ltI x)) ∧ w' = w) := letterL_any
  obtain ⟨A, hA⟩ : ∃ A, wdN S.data.toList = A := ⟨_, rfl⟩
  rw [hS, hA]
  go_enter Tryz.func42, Tryz.ntmps42
  go_wp2_with fail
  have HB : Hid (∀ p, Below w.heap.size w (w.iter S p)) := fun p => (Below.refl _ _).alloc (Nat.le_refl _) _
  have HW : Hid (∀ (b : UInt8) (r : List UInt8), wdN (b :: r) = if wdB b then wdN r + 1 else 0) := fun b r => rfl
  clear hS zS hp hs
  go_loopw [] (fun wr => ∃ p : Nat, p ≤ S.size ∧ wr = w.iter S p ∧ A = p + wdN (S.data.toList.drop p)) (fun wr => S.size - wr.iterPos w.heap.size)
  case atStart => exact ⟨0, Nat.zero_le _, rfl, by rw [← hA, List.drop_zero]; omega⟩
  case round =>
    obtain ⟨p, hp, rfl, hinv⟩ := hrel
    clear hA
    rcases Nat.lt_or_ge p S.size with hlt | hge
    · obtain ⟨b, r, m, hr⟩ := rn_at S p hlt
      have hn := fun ty => run_next_any (P := Tryz.prog) w S p ty hlt
      rw [hr.dec] at hn
      have hdg := hr.dg
      have hlt2 := hr.lt
      have h95 := hr.eq 95 (by omega)
      have hle := hr.le
      have hlow := hr.low
      have hfit := hr.fit
      rw [hr.cons, HW.out] at hinv
      clear hr
      have hrz : 0 ≤ (r : Int) := by omega
      have hrz2 : (r : Int) ≤ 2147483647 := by omega
      have C1 : Hid (∀ wr, Calls Tryz.prog 22 #[.int .i32 (r : Int)] wr fun e w' => e = .returned (.bool (ltB b)) ∧ w' = wr) := fun wr => by have := CL.out (r : Int) wr; rw [hlt2] at this; exact this
      have C2 : Hid (∀ wr, Calls Tryz.prog 19 #[.int .i32 (r : Int)] wr fun e w' => e = .returned (.bool (dgB b)) ∧ w' = wr) := fun wr => by have := CD.out (r : Int) wr; rw [hdg] at this; exact this
      clear CL CD hdg hlt2 HW
      by_cases hwd : wdB b = true
      · rw [if_pos hwd] at hinv
        have hb128 : b.toNat < 128 := by
          simp only [wdB, ltB, dgB, Bool.or_eq_true, decide_eq_true_eq] at hwd
          omega
        obtain ⟨-, rfl⟩ := hlow hb128
        have HV : Hid (A = p + 1 + wdN (S.data.toList.drop (p + 1))) := by show A = _; omega
        clear hinv hlow
        cases hl : ltB b
        · cases hd : dgB b
          · have hx : (r : Int) = 95 := h95.2 (by simpa [wdB, hl, hd] using hwd)
            rw [hl] at C1
            rw [hd] at C2
            clear h95 hwd hl hd hb128
            generalize (r : Int) = x at *
            subst hx
            go_wp2_with (first | (go_at_call 22; with_reducible (refine (C1.out _).mono ?_); rintro e _ ⟨rfl, hw⟩; obtain rfl := hw.symm; clear hw) | (go_at_call 19; with_reducible (refine (C2.out _).mono ?_); rintro e _ ⟨rfl, hw⟩; obtain rfl := hw.symm; clear hw))
            go_roundw
            case rel => exact ⟨p + 1, hfit, rfl, HV.out⟩
            case measure => simp; omega
          · rw [hl] at C1
            rw [hd] at C2
            clear h95 hwd hl hd hb128
            generalize (r : Int) = x at *
            go_wp2_with (first | (go_at_call 22; with_reducible (refine (C1.out _).mono ?_); rintro e _ ⟨rfl, hw⟩; obtain rfl := hw.symm; clear hw) | (go_at_call 19; with_reducible (refine (C2.out _).mono ?_); rintro e _ ⟨rfl, hw⟩; obtain rfl := hw.symm; clear hw))
            go_roundw
            case rel => exact ⟨p + 1, hfit, rfl, HV.out⟩
            case measure => simp; omega
        · rw [hl] at C1
          clear h95 hwd hl hb128 C2
          generalize (r : Int) = x at *
          go_wp2_with (go_at_call 22; with_reducible (refine (C1.out _).mono ?_); rintro e _ ⟨rfl, hw⟩; obtain rfl := hw.symm; clear hw)
          go_roundw
          case rel => exact ⟨p + 1, hfit, rfl, HV.out⟩
          case measure => simp; omega
      · rw [if_neg hwd] at hinv
        have hl : ltB b = false := by cases h : ltB b <;> simp_all [wdB]
        have hd : dgB b = false := by cases h : dgB b <;> simp_all [wdB]
        have hx : ¬ (r : Int) = 95 := fun e => by
          have := h95.1 e
          simp [wdB, this] at hwd
        have hx2 : ((r : Int) == 95) = false := beq_false_of_ne hx
        have HV : Hid (A = p) := by show A = _; omega
        rw [hl] at C1
        rw [hd] at C2
        clear h95 hwd hl hd hinv hlow
        generalize (r : Int) = x at *
        go_wp2_with (first | (go_at_call 22; with_reducible (refine (C1.out _).mono ?_); rintro e _ ⟨rfl, hw⟩; obtain rfl := hw.symm; clear hw) | (go_at_call 19; with_reducible (refine (C2.out _).mono ?_); rintro e _ ⟨rfl, hw⟩; obtain rfl := hw.symm; clear hw))
        go_ret
        exact ⟨ret_int (by rw [HV.out]; omega), HB.out _⟩
    · have hn := fun ty => run_next_end (P := Tryz.prog) w S p ty (by omega)
      rw [List.drop_eq_nil_of_le (by simpa using hge)] at hinv
      have HV : Hid (A = p) := by show A = _; simpa [wdN] using hinv
      obtain rfl : p = S.size := by omega
      clear hinv
      go_wp2_with fail
      go_ret
      exact ⟨ret_int (by rw [HV.out]; have := HZ.out; omega), HB.out _⟩
end Go.Proofs.YtajebjkpmbehgaaGreatDoor
