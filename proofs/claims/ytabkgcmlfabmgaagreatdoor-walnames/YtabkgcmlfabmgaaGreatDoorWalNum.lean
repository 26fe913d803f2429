/-
  PLAIN, AND CONTRACT: a name's number (Number).
-/
import Derived.Test.YtabkgcmlfabmgaaGreatDoorWalName
namespace Go.Proofs.YtabkgcmlfabmgaaGreatDoor
open Go.RowKit

theorem atoi_in {l : List UInt8} {v : Int} (h : Lib.atoiAll l = .ok v) : -9223372036854775808 ≤ v ∧ v ≤ 9223372036854775807 := by
  unfold Lib.atoiAll at h
  cases l with
  | nil => cases h
  | cons c r =>
    simp only at h
    split at h
    · cases h
    · cases h
    · rename_i u hu
      split at h
      · cases h
      · rename_i h1
        split at h
        · cases h
        · rename_i h2
          injection h with h
          by_cases hc : c.toNat = 45
          · rw [if_pos hc] at h
            have h3 : ¬ 9223372036854775808 < u := fun h4 => h2 ⟨hc, h4⟩
            omega
          · rw [if_neg hc] at h
            have h3 : ¬ 9223372036854775808 ≤ u := fun h4 => h1 ⟨hc, h4⟩
            omega
theorem parse_app : ∀ (a b : List UInt8) (acc m : Nat), Lib.parseUint10 acc a = .ok m → Lib.parseUint10 acc (a ++ b) = Lib.parseUint10 m b
  | [], b, acc, m, h => by
    simp only [Lib.parseUint10] at h
    injection h with h
    subst h; rfl
  | c :: r, b, acc, m, h => by
    simp only [Lib.parseUint10] at h
    rw [List.cons_append, Lib.parseUint10]
    split at h
    · rename_i hd
      rw [if_pos hd]
      split at h
      · cases h
      · rename_i h1
        rw [if_neg h1]
        split at h
        · cases h
        · rename_i h2
          rw [if_neg h2]
          exact parse_app r b _ m h
    · cases h
theorem dig_val {d : Nat} (h : d < 10) : (UInt8.ofNat (48 + d)).toNat = 48 + d := by simp; omega
theorem parse_dec : ∀ (n u : Nat), u < n → u < 1000000000000000000 → Lib.parseUint10 0 (Lib.decDigits u) = .ok u
  | 0, _, h, _ => by omega
  | n + 1, u, h, hb => by
    rcases Nat.lt_or_ge u 10 with h1 | h1
    · rw [dec_small h1]
      simp only [Lib.parseUint10, dig_val h1]
      rw [if_pos (by omega), if_neg (by omega), if_neg (by omega)]
      congr 1; omega
    · rw [dec_big h1, parse_app _ _ 0 (u / 10) (parse_dec n (u / 10) (by omega) (by omega))]
      have hm : u % 10 < 10 := Nat.mod_lt _ (by omega)
      simp only [Lib.parseUint10, dig_val hm]
      rw [if_pos (by omega), if_neg (by omega), if_neg (by omega)]
      congr 1; omega
theorem dec_ne (u : Nat) : Lib.decDigits u ≠ [] := fun e => by
  have h1 := Lib.decDigits_length u
  have h2 := Lib.nDigits_pos u
  rw [e] at h1; simp at h1; omega
theorem atoi_dec {u : Nat} (h : u < 1000000000000000000) : Lib.atoiAll (Lib.decDigits u) = .ok (u : Int) := by
  have hp := parse_dec (u + 1) u (by omega) h
  have hr := dec_range (u + 1) u (by omega)
  have hne := dec_ne u
  generalize Lib.decDigits u = l at *
  cases l with
  | nil => exact absurd rfl hne
  | cons c r =>
    have hc := hr c List.mem_cons_self
    have h1 : ¬ (c.toNat = 43 ∨ c.toNat = 45) := by omega
    have h2 : ¬ c.toNat = 45 := by omega
    unfold Lib.atoiAll
    simp only
    rw [if_neg h1, Lib.parseMag, if_neg hne, hp]
    simp only [h2, if_false]
    rw [if_neg (fun e => by have := e.2; omega), if_neg (fun e => e.1)]
theorem trim_pre (x : List UInt8) : Lib.trimPrefix (preW ++ x) preW = x := by
  unfold Lib.trimPrefix Lib.hasPrefix
  simp [preW]
/-- A segment's name leads back to its number. -/
theorem num_name {n : Int} (h : okW n = true) : numR (nmW n) = (n, true) := by
  have h1 := okW_iff.1 h
  have e : nmW n = preW ++ Lib.decDigits n.toNat := by
    unfold nmW Lib.itoa
    rw [if_pos h, if_neg (by omega)]
  unfold numR
  rw [e, trim_pre, atoi_dec (by omega)]
  have h2 : ((n.toNat : Nat) : Int) = n := by omega
  simp only [h2]
  rw [← e, if_pos rfl]
theorem num_ok {s : List UInt8} (h : (numR s).2 = true) : nmW (numR s).1 = s := by
  unfold numR at h ⊢
  split at h
  · rename_i v hv
    split at h
    · rename_i h2; simp only [if_pos h2]; exact h2
    · cases h
  · cases h
theorem num_no {s : List UInt8} (h : (numR s).2 = false) : (numR s).1 = 0 := by
  unfold numR at h ⊢
  split at h
  · rename_i v hv
    split at h
    · cases h
    · rename_i h2; simp only [if_neg h2]
  · rename_i h1
    cases h2 : Lib.atoiAll (Lib.trimPrefix s preW) with
    | ok v => exact absurd h2 (h1 v)
    | «syntax» => rfl
    | range => rfl
theorem trim_len (s : List UInt8) : (Lib.trimPrefix s preW).length ≤ s.length := by
  unfold Lib.trimPrefix
  split
  · rw [List.length_drop]; omega
  · exact Nat.le_refl _
theorem not_nil_err (N : Nat) (w : World) : (binOp BinOp.neq 93 (.iface 167 (.pointer (some ⟨N, 0, none⟩))) .nilIface).run Tryz.prog w = .ok (.bool true) w := by kernel_rfl
set_option maxRecDepth 100000 in
set_option maxHeartbeats 1000000 in
theorem numberW_any (s : ByteArray) (hs : s.size ≤ 140737488355328) (w : World) (he : EnvW w) :
    Calls Tryz.prog 14 #[.string s] w fun x w' => x = .returned (.tuple #[.int .i64 (numR s.data.toList).1, .bool (numR s.data.toList).2]) ∧ Below w.heap.size w w' := by
  have CT : Hid (∀ u, Calls Tryz.prog 47 #[.string s, .string ⟨#[108, 111, 103, 45]⟩] u fun e w' => e = .returned (.string (tB (Lib.trimPrefix s.data.toList preW))) ∧ w' = u) := fun u => Tryz.strings_TrimPrefix s ⟨#[108, 111, 103, 45]⟩ u
  have hsl : s.data.toList.length = s.size := by rw [Array.length_toList]; rfl
  have htl : (tB (Lib.trimPrefix s.data.toList preW)).size ≤ 140737488355328 := by rw [tB_size]; have := trim_len s.data.toList; omega
  have hts : (tB (Lib.trimPrefix s.data.toList preW)).data.toList = Lib.trimPrefix s.data.toList preW := tB_list _
  have HR : Hid (numR s.data.toList = match Lib.atoiAll (Lib.trimPrefix s.data.toList preW) with | .ok v => if nmW v = s.data.toList then (v, true) else (0, false) | _ => (0, false)) := rfl
  obtain ⟨tt, hT⟩ : ∃ tt, tt = tB (Lib.trimPrefix s.data.toList preW) := ⟨_, rfl⟩
  rw [← hT] at CT htl hts
  cases hA : Lib.atoiAll (Lib.trimPrefix s.data.toList preW) with
  | ok v =>
    obtain ⟨hv0, hv1⟩ := atoi_in hA
    have CA : Hid (∀ u, Calls Tryz.prog 46 #[.string tt] u fun e w' => e = .returned (.tuple #[.int .i64 v, .nilIface]) ∧ Below u.heap.size u w') := fun u =>
      (Tryz.strconv_Atoi_ok tt (by omega) v (by rw [hts]; exact hA) u).mono fun e w' ⟨h1, h2⟩ => ⟨h1, by
        rcases h2 with rfl | ⟨t, rfl⟩
        · exact Below.refl _ _
        · exact ⟨rfl, rfl, rfl, by rw [Lib.bytesWorld_size]; omega, fun j hj => Lib.bytesWorld_at_old _ _ _ _ hj⟩⟩
    have CN : Hid (∀ u, Below w.heap.size w u → Calls Tryz.prog 18 #[.int .i64 v] u fun x w' => x = .returned (.string (tB (nmW v))) ∧ Below u.heap.size u w') := fun u hu => nameW_any v hv0 hv1 u (he.below hu (Nat.le_refl _))
    by_cases hsame : nmW v = s.data.toList
    · have HN : Hid (numR s.data.toList = (v, true)) := by show _ = _; rw [HR.out, hA]; simp only [if_pos hsame]
      have hq : tB (nmW v) = s := by rw [hsame, tB_of]
      rw [hq] at CN
      clear HR hA hsame hq hT hts htl hsl hs he
      rw [HN.out]
      go_enter Tryz.func14, Tryz.ntmps14
      go_wp2_with fail
      go_fit (CT.out _)
      rintro e w1 ⟨rfl, rfl⟩
      go_wp2_with fail
      go_fit (CA.out _)
      rintro e w2 ⟨rfl, hB2⟩
      have CN2 : Hid (Calls Tryz.prog 18 #[.int .i64 v] w2 fun x w' => x = .returned (.string s) ∧ Below w2.heap.size w2 w') := CN.out w2 hB2
      clear CN
      go_wp2_with fail
      go_fit CN2.out
      rintro e w3 ⟨rfl, hB3⟩
      have HF : Hid (Below w1.heap.size w1 w3) := hB2.trans (hB3.mono hB2.size)
      clear hB2 hB3
      go_wp2_with fail
      go_ret2
      exact ⟨rfl, HF.out⟩
    · have HN : Hid (numR s.data.toList = (0, false)) := by show _ = _; rw [HR.out, hA]; simp only [if_neg hsame]
      have hq : tB (nmW v) ≠ s := fun e => hsame (by rw [← e, tB_list])
      generalize tB (nmW v) = s2 at *
      have hne2 : (s2.toList == s.toList) = false := by
        rw [beq_eq_false_iff_ne]
        intro e
        rw [Go.ByteArray.toList_eq, Go.ByteArray.toList_eq] at e
        exact hq (by rw [← tB_of s2, ← tB_of s, e])
      clear HR hA hsame hT hts htl hsl hs he
      rw [HN.out]
      go_enter Tryz.func14, Tryz.ntmps14
      go_wp2_with fail
      go_fit (CT.out _)
      rintro e w1 ⟨rfl, rfl⟩
      go_wp2_with fail
      go_fit (CA.out _)
      rintro e w2 ⟨rfl, hB2⟩
      have CN2 : Hid (Calls Tryz.prog 18 #[.int .i64 v] w2 fun x w' => x = .returned (.string s2) ∧ Below w2.heap.size w2 w') := CN.out w2 hB2
      clear CN
      go_wp2_with fail
      go_fit CN2.out
      rintro e w3 ⟨rfl, hB3⟩
      have HF : Hid (Below w1.heap.size w1 w3) := hB2.trans (hB3.mono hB2.size)
      clear hB2 hB3
      go_wp2_with fail
      go_ret2
      exact ⟨rfl, HF.out⟩
  | «syntax» =>
    obtain ⟨te, pe, hce⟩ := he.syn
    have HN : Hid (numR s.data.toList = (0, false)) := by show _ = _; rw [HR.out, hA]
    have CA : Hid (Calls Tryz.prog 46 #[.string tt] w fun e w' => ∃ N, e = .returned (.tuple #[.int .i64 0, .iface 167 (.pointer (some ⟨N, 0, none⟩))]) ∧ Below w.heap.size w w') :=
      (Tryz.strconv_Atoi_syntax tt (by omega) (by rw [hts]; exact hA) _ w hce (.inr ⟨te, pe, rfl⟩)).mono fun e w' ⟨N, h1, _, _, h4⟩ => ⟨N, h1, h4⟩
    clear HR hA hT hts htl hsl hs he hce
    rw [HN.out]
    go_enter Tryz.func14, Tryz.ntmps14
    go_wp2_with fail
    go_fit (CT.out _)
    rintro e w1 ⟨rfl, rfl⟩
    go_wp2_with fail
    go_fit CA.out
    rintro e w2 ⟨N, rfl, hB2⟩
    have hq := not_nil_err N w2
    go_wp2_with fail
    go_ret2
    exact ⟨rfl, hB2⟩
  | range =>
    obtain ⟨te, pe, hce⟩ := he.rng
    have HN : Hid (numR s.data.toList = (0, false)) := by show _ = _; rw [HR.out, hA]
    have CA : Hid (Calls Tryz.prog 46 #[.string tt] w fun e w' => ∃ N, e = .returned (.tuple #[.int .i64 (Lib.atoiSat tt.data.toList), .iface 167 (.pointer (some ⟨N, 0, none⟩))]) ∧ Below w.heap.size w w') :=
      (Tryz.strconv_Atoi_range tt (by omega) (by rw [hts]; exact hA) _ w hce (.inr ⟨te, pe, rfl⟩)).mono fun e w' ⟨N, h1, _, _, h4⟩ => ⟨N, h1, h4⟩
    generalize Lib.atoiSat tt.data.toList = sat at *
    clear HR hA hT hts htl hsl hs he hce
    rw [HN.out]
    go_enter Tryz.func14, Tryz.ntmps14
    go_wp2_with fail
    go_fit (CT.out _)
    rintro e w1 ⟨rfl, rfl⟩
    go_wp2_with fail
    go_fit CA.out
    rintro e w2 ⟨N, rfl, hB2⟩
    have hq := not_nil_err N w2
    go_wp2_with fail
    go_ret2
    exact ⟨rfl, hB2⟩
end Go.Proofs.YtabkgcmlfabmgaaGreatDoor
