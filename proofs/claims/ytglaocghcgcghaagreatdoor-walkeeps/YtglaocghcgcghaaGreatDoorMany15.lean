/-
  SEVERAL TEXTS IN ONE: WalNum, WalLog, WkLog.
-/
import Derived.Test.YtglaocghcgcghaaGreatDoorMany6
import Derived.Test.YtglaocghcgcghaaGreatDoorMany10
import Derived.Test.YtglaocghcgcghaaGreatDoorMany11
import Derived.Test.YtglaocghcgcghaaGreatDoorMany14
import Derived.Test.YtglaocghcgcghaaGreatDoorMany13
namespace Go.Proofs.YtglaocghcgcghaaGreatDoor
open Go.RowKit

theorem atoi_in {l : List UInt8} {v : Int} (h : Lib.atoiAll l = .ok v) : -9223372036854775808 ≤ v ∧ v ≤ 9223372036854775807 := by
  unfold Lib.atoiAll at h
  cases l with
  | nil => cases h
  | cons c r =>
    simp only at h
    split at h
    · cases h
    · cases h
    · rename_i u hu
      split at h
      · cases h
      · rename_i h1
        split at h
        · cases h
        · rename_i h2
          injection h with h
          by_cases hc : c.toNat = 45
          · rw [if_pos hc] at h
            have h3 : ¬ 9223372036854775808 < u := fun h4 => h2 ⟨hc, h4⟩
            omega
          · rw [if_neg hc] at h
            have h3 : ¬ 9223372036854775808 ≤ u := fun h4 => h1 ⟨hc, h4⟩
            omega
theorem parse_app : ∀ (a b : List UInt8) (acc m : Nat), Lib.parseUint10 acc a = .ok m → Lib.parseUint10 acc (a ++ b) = Lib.parseUint10 m b
  | [], b, acc, m, h => by
    simp only [Lib.parseUint10] at h
    injection h with h
    subst h; rfl
  | c :: r, b, acc, m, h => by
    simp only [Lib.parseUint10] at h
    rw [List.cons_append, Lib.parseUint10]
    split at h
    · rename_i hd
      rw [if_pos hd]
      split at h
      · cases h
      · rename_i h1
        rw [if_neg h1]
        split at h
        · cases h
        · rename_i h2
          rw [if_neg h2]
          exact parse_app r b _ m h
    · cases h
theorem dig_val {d : Nat} (h : d < 10) : (UInt8.ofNat (48 + d)).toNat = 48 + d := by simp; omega
theorem parse_dec : ∀ (n u : Nat), u < n → u < 1000000000000000000 → Lib.parseUint10 0 (Lib.decDigits u) = .ok u
  | 0, _, h, _ => by omega
  | n + 1, u, h, hb => by
    rcases Nat.lt_or_ge u 10 with h1 | h1
    · rw [dec_small h1]
      simp only [Lib.parseUint10, dig_val h1]
      rw [if_pos (by omega), if_neg (by omega), if_neg (by omega)]
      congr 1; omega
    · rw [dec_big h1, parse_app _ _ 0 (u / 10) (parse_dec n (u / 10) (by omega) (by omega))]
      have hm : u % 10 < 10 := Nat.mod_lt _ (by omega)
      simp only [Lib.parseUint10, dig_val hm]
      rw [if_pos (by omega), if_neg (by omega), if_neg (by omega)]
      congr 1; omega
theorem dec_ne (u : Nat) : Lib.decDigits u ≠ [] := fun e => by
  have h1 := Lib.decDigits_length u
  have h2 := Lib.nDigits_pos u
  rw [e] at h1; simp at h1; omega
theorem atoi_dec {u : Nat} (h : u < 1000000000000000000) : Lib.atoiAll (Lib.decDigits u) = .ok (u : Int) := by
  have hp := parse_dec (u + 1) u (by omega) h
  have hr := dec_range (u + 1) u (by omega)
  have hne := dec_ne u
  generalize Lib.decDigits u = l at *
  cases l with
  | nil => exact absurd rfl hne
  | cons c r =>
    have hc := hr c List.mem_cons_self
    have h1 : ¬ (c.toNat = 43 ∨ c.toNat = 45) := by omega
    have h2 : ¬ c.toNat = 45 := by omega
    unfold Lib.atoiAll
    simp only
    rw [if_neg h1, Lib.parseMag, if_neg hne, hp]
    simp only [h2, if_false]
    rw [if_neg (fun e => by have := e.2; omega), if_neg (fun e => e.1)]
theorem trim_pre (x : List UInt8) : Lib.trimPrefix (preW ++ x) preW = x := by
  unfold Lib.trimPrefix Lib.hasPrefix
  simp [preW]
/-- A segment's name leads back to its number. -/
theorem num_name {n : Int} (h : okW n = true) : numR (nmW n) = (n, true) := by
  have h1 := okW_iff.1 h
  have e : nmW n = preW ++ Lib.decDigits n.toNat := by
    unfold nmW Lib.itoa
    rw [if_pos h, if_neg (by omega)]
  unfold numR
  rw [e, trim_pre, atoi_dec (by omega)]
  have h2 : ((n.toNat : Nat) : Int) = n := by omega
  simp only [h2]
  rw [← e, if_pos rfl]
theorem num_ok {s : List UInt8} (h : (numR s).2 = true) : nmW (numR s).1 = s := by
  unfold numR at h ⊢
  split at h
  · rename_i v hv
    split at h
    · rename_i h2; simp only [if_pos h2]; exact h2
    · cases h
  · cases h
theorem num_no {s : List UInt8} (h : (numR s).2 = false) : (numR s).1 = 0 := by
  unfold numR at h ⊢
  split at h
  · rename_i v hv
    split at h
    · cases h
    · rename_i h2; simp only [if_neg h2]
  · rename_i h1
    cases h2 : Lib.atoiAll (Lib.trimPrefix s preW) with
    | ok v => exact absurd h2 (h1 v)
    | «syntax» => rfl
    | range => rfl
theorem trim_len (s : List UInt8) : (Lib.trimPrefix s preW).length ≤ s.length := by
  unfold Lib.trimPrefix
  split
  · rw [List.length_drop]; omega
  · exact Nat.le_refl _
theorem not_nil_err (N : Nat) (w : World) : (binOp BinOp.neq 128 (.iface 170 (.pointer (some ⟨N, 0, none⟩))) .nilIface).run Tryz.prog w = .ok (.bool true) w := by kernel_rfl
set_option maxRecDepth 100000 in
set_option maxHeartbeats 1000000 in
theorem numberW_any (s : ByteArray) (hs : s.size ≤ 140737488355328) (w : World) (he : EnvW w) :
    Calls Tryz.prog 61 #[.string s] w fun x w' => x = .returned (.tuple #[.int .i64 (numR s.data.toList).1, .bool (numR s.data.toList).2]) ∧ Below w.heap.size w w' := by
  have CT : Hid (∀ u, Calls Tryz.prog 91 #[.string s, .string ⟨#[108, 111, 103, 45]⟩] u fun e w' => e = .returned (.string (tB (Lib.trimPrefix s.data.toList preW))) ∧ w' = u) := fun u => Tryz.strings_TrimPrefix s ⟨#[108, 111, 103, 45]⟩ u
  have hsl : s.data.toList.length = s.size := by rw [Array.length_toList]; rfl
  have htl : (tB (Lib.trimPrefix s.data.toList preW)).size ≤ 140737488355328 := by rw [tB_size]; have := trim_len s.data.toList; omega
  have hts : (tB (Lib.trimPrefix s.data.toList preW)).data.toList = Lib.trimPrefix s.data.toList preW := tB_list _
  have HR : Hid (numR s.data.toList = match Lib.atoiAll (Lib.trimPrefix s.data.toList preW) with | .ok v => if nmW v = s.data.toList then (v, true) else (0, false) | _ => (0, false)) := rfl
  obtain ⟨tt, hT⟩ : ∃ tt, tt = tB (Lib.trimPrefix s.data.toList preW) := ⟨_, rfl⟩
  rw [← hT] at CT htl hts
  cases hA : Lib.atoiAll (Lib.trimPrefix s.data.toList preW) with
  | ok v =>
    obtain ⟨hv0, hv1⟩ := atoi_in hA
    have CA : Hid (∀ u, Calls Tryz.prog 90 #[.string tt] u fun e w' => e = .returned (.tuple #[.int .i64 v, .nilIface]) ∧ Below u.heap.size u w') := fun u =>
      (Tryz.strconv_Atoi_ok tt (by omega) v (by rw [hts]; exact hA) u).mono fun e w' ⟨h1, h2⟩ => ⟨h1, by
        rcases h2 with rfl | ⟨t, rfl⟩
        · exact Below.refl _ _
        · exact ⟨rfl, rfl, rfl, by rw [Lib.bytesWorld_size]; omega, fun j hj => Lib.bytesWorld_at_old _ _ _ _ hj⟩⟩
    have CN : Hid (∀ u, Below w.heap.size w u → Calls Tryz.prog 38 #[.int .i64 v] u fun x w' => x = .returned (.string (tB (nmW v))) ∧ Below u.heap.size u w') := fun u hu => nameW_any v hv0 hv1 u (he.below hu (Nat.le_refl _))
    by_cases hsame : nmW v = s.data.toList
    · have HN : Hid (numR s.data.toList = (v, true)) := by show _ = _; rw [HR.out, hA]; simp only [if_pos hsame]
      have hq : tB (nmW v) = s := by rw [hsame, tB_of]
      rw [hq] at CN
      clear HR hA hsame hq hT hts htl hsl hs he
      rw [HN.out]
      go_enter Tryz.func61, Tryz.ntmps61
      go_wp2_with fail
      go_fit (CT.out _)
      rintro e w1 ⟨rfl, rfl⟩
      go_wp2_with fail
      go_fit (CA.out _)
      rintro e w2 ⟨rfl, hB2⟩
      have CN2 : Hid (Calls Tryz.prog 38 #[.int .i64 v] w2 fun x w' => x = .returned (.string s) ∧ Below w2.heap.size w2 w') := CN.out w2 hB2
      clear CN
      go_wp2_with fail
      go_fit CN2.out
      rintro e w3 ⟨rfl, hB3⟩
      have HF : Hid (Below w1.heap.size w1 w3) := hB2.trans (hB3.mono hB2.size)
      clear hB2 hB3
      go_wp2_with fail
      go_ret2
      exact ⟨rfl, HF.out⟩
    · have HN : Hid (numR s.data.toList = (0, false)) := by show _ = _; rw [HR.out, hA]; simp only [if_neg hsame]
      have hq : tB (nmW v) ≠ s := fun e => hsame (by rw [← e, tB_list])
      generalize tB (nmW v) = s2 at *
      have hne2 : (s2.toList == s.toList) = false := by
        rw [beq_eq_false_iff_ne]
        intro e
        rw [Go.ByteArray.toList_eq, Go.ByteArray.toList_eq] at e
        exact hq (by rw [← tB_of s2, ← tB_of s, e])
      clear HR hA hsame hT hts htl hsl hs he
      rw [HN.out]
      go_enter Tryz.func61, Tryz.ntmps61
      go_wp2_with fail
      go_fit (CT.out _)
      rintro e w1 ⟨rfl, rfl⟩
      go_wp2_with fail
      go_fit (CA.out _)
      rintro e w2 ⟨rfl, hB2⟩
      have CN2 : Hid (Calls Tryz.prog 38 #[.int .i64 v] w2 fun x w' => x = .returned (.string s2) ∧ Below w2.heap.size w2 w') := CN.out w2 hB2
      clear CN
      go_wp2_with fail
      go_fit CN2.out
      rintro e w3 ⟨rfl, hB3⟩
      have HF : Hid (Below w1.heap.size w1 w3) := hB2.trans (hB3.mono hB2.size)
      clear hB2 hB3
      go_wp2_with fail
      go_ret2
      exact ⟨rfl, HF.out⟩
  | «syntax» =>
    obtain ⟨te, pe, hce⟩ := he.syn
    have HN : Hid (numR s.data.toList = (0, false)) := by show _ = _; rw [HR.out, hA]
    have CA : Hid (Calls Tryz.prog 90 #[.string tt] w fun e w' => ∃ N, e = .returned (.tuple #[.int .i64 0, .iface 170 (.pointer (some ⟨N, 0, none⟩))]) ∧ Below w.heap.size w w') :=
      (Tryz.strconv_Atoi_syntax tt (by omega) (by rw [hts]; exact hA) _ w hce (.inr ⟨te, pe, rfl⟩)).mono fun e w' ⟨N, h1, _, _, h4⟩ => ⟨N, h1, h4⟩
    clear HR hA hT hts htl hsl hs he hce
    rw [HN.out]
    go_enter Tryz.func61, Tryz.ntmps61
    go_wp2_with fail
    go_fit (CT.out _)
    rintro e w1 ⟨rfl, rfl⟩
    go_wp2_with fail
    go_fit CA.out
    rintro e w2 ⟨N, rfl, hB2⟩
    have hq := not_nil_err N w2
    go_wp2_with fail
    go_ret2
    exact ⟨rfl, hB2⟩
  | range =>
    obtain ⟨te, pe, hce⟩ := he.rng
    have HN : Hid (numR s.data.toList = (0, false)) := by show _ = _; rw [HR.out, hA]
    have CA : Hid (Calls Tryz.prog 90 #[.string tt] w fun e w' => ∃ N, e = .returned (.tuple #[.int .i64 (Lib.atoiSat tt.data.toList), .iface 170 (.pointer (some ⟨N, 0, none⟩))]) ∧ Below w.heap.size w w') :=
      (Tryz.strconv_Atoi_range tt (by omega) (by rw [hts]; exact hA) _ w hce (.inr ⟨te, pe, rfl⟩)).mono fun e w' ⟨N, h1, _, _, h4⟩ => ⟨N, h1, h4⟩
    generalize Lib.atoiSat tt.data.toList = sat at *
    clear HR hA hT hts htl hsl hs he hce
    rw [HN.out]
    go_enter Tryz.func61, Tryz.ntmps61
    go_wp2_with fail
    go_fit (CT.out _)
    rintro e w1 ⟨rfl, rfl⟩
    go_wp2_with fail
    go_fit CA.out
    rintro e w2 ⟨N, rfl, hB2⟩
    have hq := not_nil_err N w2
    go_wp2_with fail
    go_ret2
    exact ⟨rfl, hB2⟩
end Go.Proofs.YtglaocghcgcghaaGreatDoor
namespace Go.Proofs.YtglaocghcgcghaaGreatDoor
open Go.RowKit
attribute [local go_sem] Oper.pureAt Oper.pureUpon

/-- A log on a disk, all of it new since w0. -/
def Lg (w0 : World) (d lb : Nat) (A : Ab) (n : Int) (w : World) : Prop :=
  ∃ ft, At d A ft w ∧ lb ∉ ft ∧ Blk w lb [.pointer (some ⟨d, 0, none⟩), .int .i64 n, .bool false] 65 ∧ (∀ i ∈ ft, w0.heap.size ≤ i) ∧ w0.heap.size ≤ lb ∧ Below w0.heap.size w0 w
theorem Lg.bel {w0 : World} {d lb : Nat} {A : Ab} {n : Int} {w : World} (h : Lg w0 d lb A n w) : Below w0.heap.size w0 w := by
  obtain ⟨ft, _, _, _, _, _, h6⟩ := h; exact h6
theorem Lg.blk {w0 : World} {d lb : Nat} {A : Ab} {n : Int} {w : World} (h : Lg w0 d lb A n w) : Blk w lb [.pointer (some ⟨d, 0, none⟩), .int .i64 n, .bool false] 65 := by
  obtain ⟨ft, _, _, h3, _, _, _⟩ := h; exact h3
theorem moved_below {w u : World} {ft : List Nat} (h : Below w.heap.size w u) : Moved w u ft ft := ⟨h.os, h.tape, h.output, h.size, fun i hi _ => h.block i hi, fun _ hi => .inl hi⟩
theorem Lg.more {w0 : World} {d lb : Nat} {A : Ab} {n : Int} {w u : World} (h : Lg w0 d lb A n w) (hb : Below w.heap.size w u) : Lg w0 d lb A n u := by
  obtain ⟨ft, h1, h2, h3, h4, h5, h6⟩ := h
  exact ⟨ft, h1.moved (moved_below (ft := []) hb) (by simp), h2, h3.carry (hb.block _ h3.lt), h4, h5, h6.trans (hb.mono h6.size)⟩
theorem Lg.out {w0 : World} {d lb : Nat} {A' : Ab} {n : Int} {w w' : World} {ft ft' : List Nat} (h2 : lb ∉ ft) (h3 : Blk w lb [.pointer (some ⟨d, 0, none⟩), .int .i64 n, .bool false] 65) (h4 : ∀ i ∈ ft, w0.heap.size ≤ i) (h5 : w0.heap.size ≤ lb) (h6 : Below w0.heap.size w0 w) (ha : At d A' ft' w') (hm : Moved w w' ft ft') : Lg w0 d lb A' n w' := by
  have hs := h6.size
  refine ⟨ft', ha, fun hi => ?_, h3.carry (hm.kept lb h3.lt h2), fun i hi => ?_, h5, h6.trans ⟨hm.os, hm.tape, hm.output, hm.size, fun i hi => hm.kept i (by omega) fun h => ?_⟩⟩
  · rcases hm.news lb hi with h | h
    · exact h2 h
    · have := h3.lt; omega
  · rcases hm.news i hi with h | h
    · exact h4 i h
    · omega
  · have := h4 i h; omega
section
variable {w0 : World} {d lb : Nat} {A : Ab} {n : Int} {w : World} (h : Lg w0 d lb A n w) (s : ByteArray) (hs : s.size ≤ maxLen)
include h hs
theorem lg_create (hF : A.Fine) (hl : A.left ≠ 1) (ho : A.ops ≤ 4611686018427387904) (hlm : A.left ≤ 9223372036854775807) :
    Calls Tryz.prog 60 #[.pointer (some ⟨d, 0, none⟩), .string s] w fun x w' => x = .returned (.int .i64 (createM A s).1) ∧ Lg w0 d lb (createM A s).2 n w' := by
  obtain ⟨ft, h1, h2, h3, h4, h5, h6⟩ := h
  exact (abx_create h1 s hs hF hl ho hlm).mono fun x w' ⟨hx, ft', ha, hm⟩ => ⟨hx, Lg.out h2 h3 h4 h5 h6 ha hm⟩
theorem lg_sync (hl : A.left ≠ 1) (ho : A.ops ≤ 4611686018427387904) (hlm : A.left ≤ 9223372036854775807) :
    Calls Tryz.prog 51 #[.pointer (some ⟨d, 0, none⟩), .string s] w fun x w' => x = .returned (.int .i64 (syncM A s).1) ∧ Lg w0 d lb (syncM A s).2 n w' := by
  obtain ⟨ft, h1, h2, h3, h4, h5, h6⟩ := h
  exact (abx_sync h1 s hs hl ho hlm).mono fun x w' ⟨hx, ft', ha, hm⟩ => ⟨hx, Lg.out h2 h3 h4 h5 h6 ha hm⟩
theorem lg_remove (hl : A.left ≠ 1) (ho : A.ops ≤ 4611686018427387904) (hlm : A.left ≤ 9223372036854775807) :
    Calls Tryz.prog 37 #[.pointer (some ⟨d, 0, none⟩), .string s] w fun x w' => x = .returned (.int .i64 (removeM A s).1) ∧ Lg w0 d lb (removeM A s).2 n w' := by
  obtain ⟨ft, h1, h2, h3, h4, h5, h6⟩ := h
  exact (abx_remove h1 s hs hl ho hlm).mono fun x w' ⟨hx, ft', ha, hm⟩ => ⟨hx, Lg.out h2 h3 h4 h5 h6 ha hm⟩
end
theorem lg_set {w0 : World} {d lb : Nat} {A : Ab} {n : Int} {w : World} (h : Lg w0 d lb A n w) (m : Int) : Lg w0 d lb A m (w.setCell ⟨lb, 1, none⟩ (.int .i64 m)) := by
  obtain ⟨ft, h1, h2, h3, h4, h5, h6⟩ := h
  refine ⟨ft, h1.moved (a := [lb]) (b := [lb]) ⟨rfl, rfl, rfl, by rw [size_setCell]; exact Nat.le_refl _, fun i _ hi => Below.heap_setCell _ _ _ _ (by simpa using hi), fun _ hi => .inl hi⟩ (fun i hi e => by rw [List.mem_singleton] at e; subst e; exact h2 hi), h2, h3.setTo 1 _ _ rfl, h4, h5, h6.setCell (by exact h5) _⟩
set_option maxRecDepth 100000 in
theorem madeL_any {w0 : World} {d lb : Nat} {A : Ab} {n : Int} {w : World} (h : Lg w0 d lb A n w) (hn : 0 < n) : Calls Tryz.prog 49 #[.pointer (some ⟨lb, 0, none⟩)] w fun e w' => e = .returned (.bool true) ∧ w' = w := by
  have c1 := h.blk.cell 1 rfl
  have hq : (binOp BinOp.neq 31 (.pointer (some ⟨lb, 0, none⟩)) (.pointer none)).run Tryz.prog w = .ok (.bool true) w := by kernel_rfl
  clear h
  go_enter Tryz.func49, Tryz.ntmps49
  go_wp2_with fail
  go_ret
  exact ⟨rfl, rfl⟩
set_option maxRecDepth 100000 in
theorem noted_any (lb : Nat) (e : Int) (w : World) (he : e ≠ 9) : Calls Tryz.prog 26 #[.pointer (some ⟨lb, 0, none⟩), .int .i64 e] w fun x w' => x = .returned (.int .i64 e) ∧ w' = w := by
  go_enter Tryz.func26, Tryz.ntmps26
  go_wp2_with fail
  go_ret
  exact ⟨rfl, rfl⟩
set_option maxRecDepth 100000 in
theorem refusalL_any {w0 : World} {d lb : Nat} {A : Ab} {n : Int} {w : World} (h : Lg w0 d lb A n w) (hn : 0 < n) (hon : A.on = true) : Calls Tryz.prog 25 #[.pointer (some ⟨lb, 0, none⟩)] w fun e w' => e = .returned (.int .i64 0) ∧ w' = w := by
  have CM : Hid (Calls Tryz.prog 49 #[.pointer (some ⟨lb, 0, none⟩)] w fun e w' => e = .returned (.bool true) ∧ w' = w) := madeL_any h hn
  have CO : Hid (Calls Tryz.prog 11 #[.pointer (some ⟨d, 0, none⟩)] w fun e w' => e = .returned (.bool true) ∧ w' = w) := by
    obtain ⟨ft, ⟨bm, fs, hD, _, _⟩, _⟩ := h
    have := on_any hD
    rw [show (A.st fs).on = A.on from rfl, hon] at this
    exact this
  have c0 := h.blk.cell 0 rfl
  have c2 := h.blk.cell 2 rfl
  clear h
  go_enter Tryz.func25, Tryz.ntmps25
  go_wp2_with (go_at_call 49; refine CM.out.mono ?_; rintro e w1 ⟨rfl, rfl⟩)
  go_fit CO.out
  rintro e w2 ⟨rfl, rfl⟩
  go_wp2_with fail
  go_ret
  exact ⟨rfl, rfl⟩
/-- Worlds in which a log says which disk it has. -/
structure LC (d lb : Nat) where
  u : World
  h : u.cell? ⟨lb, 0, none⟩ = some (.pointer (some ⟨d, 0, none⟩))
theorem LC.of {w0 : World} {d lb : Nat} {A : Ab} {n : Int} {w : World} (h : Lg w0 d lb A n w) : ∃ p : LC d lb, w = p.u := ⟨⟨w, h.blk.cell 0 rfl⟩, rfl⟩
theorem Lg.drew {w0 : World} {d lb : Nat} {A : Ab} {n : Int} {w : World} (h : Lg w0 d lb A n w) : Lg w0 d lb A n w.drew := h.more (Below.refl _ _).drew
set_option maxRecDepth 100000 in
set_option maxHeartbeats 1000000 in
theorem beginL_ok {w0 : World} {d lb : Nat} {A A1 A2 : Ab} {n m : Int} {w : World} (he : EnvW w0) (h : Lg w0 d lb A n w) (hm : okW m = true) (hF : A.Fine) (hl : A.left = 0) (ho : A.ops ≤ 1000000) (h1 : createM A (tB (nmW m)) = (0, A1)) (hl1 : A1.left = 0) (ho1 : A1.ops ≤ 1000000) (h2 : syncM A1 (tB (nmW m)) = (0, A2)) :
    Calls Tryz.prog 35 #[.pointer (some ⟨lb, 0, none⟩), .int .i64 m] w fun x w' => x = .returned (.int .i64 0) ∧ Lg w0 d lb A2 m w' := by
  have hmm := okW_iff.1 hm
  have CP : Hid (∀ u, Calls Tryz.prog 22 #[.int .i64 m] u fun e w' => e = .returned (.bool true) ∧ w' = u) := fun u => by have := possible_any m u; rw [hm] at this; exact this
  have CN : Hid (∀ u A n, Lg w0 d lb A n u → Calls Tryz.prog 38 #[.int .i64 m] u fun x w' => x = .returned (.string (tB (nmW m))) ∧ Lg w0 d lb A n w') := fun u A n hu => (nameW_any m (by omega) (by omega) u (he.below hu.bel (Nat.le_refl _))).mono fun x w' ⟨hx, hb⟩ => ⟨hx, hu.more hb⟩
  have hsz := tB_max (nmW m) (by have := nmW_len m; omega)
  have CC : Hid (∀ u, Lg w0 d lb A n u → Calls Tryz.prog 60 #[.pointer (some ⟨d, 0, none⟩), .string (tB (nmW m))] u fun x w' => x = .returned (.int .i64 0) ∧ Lg w0 d lb A1 n w') := fun u hu => by
    have := lg_create hu (tB (nmW m)) hsz hF (by omega) (by omega) (by omega)
    rw [h1] at this; exact this
  have CS : Hid (∀ u, Lg w0 d lb A1 n u → Calls Tryz.prog 51 #[.pointer (some ⟨d, 0, none⟩), .string (tB (nmW m))] u fun x w' => x = .returned (.int .i64 0) ∧ Lg w0 d lb A2 n w') := fun u hu => by
    have := lg_sync hu (tB (nmW m)) hsz (by omega) (by omega) (by omega)
    rw [h2] at this; exact this
  have c0 : ∀ q : LC d lb, q.u.cell? ⟨lb, 0, none⟩ = some (.pointer (some ⟨d, 0, none⟩)) := fun q => q.h
  haveI : Nonempty (LC d lb) := ⟨⟨w, h.blk.cell 0 rfl⟩⟩
  have HL : Hid (Lg w0 d lb A n w) := h
  generalize tB (nmW m) = s at *
  clear h1 h2 hF hm h he hl ho hl1 ho1
  go_enter Tryz.func35, Tryz.ntmps35
  go_wp2_with (go_at_call 22; refine (CP.out _).mono ?_; rintro e w1 ⟨rfl, rfl⟩)
  refine wp_region_sched (fun w' => ∃ p : LC d lb, w' = p.u) [(0, true), (1, true), (2, true), (3, true), (4, true), (5, false), (6, false), (7, true)] rfl (by kernel_rfl) (by kernel_rfl) (by kernel_rfl) (LC.of HL.out.drew) ?_
  iterate 5 (refine sched_pure rfl (fun K hK => ?_); go_simp; refine hK _ ?_; clear hK K)
  refine sched_loud rfl (fun K hK => ?_)
  go_simp
  refine (CN.out _ A n HL.out.drew).mono ?_
  rintro e u1 ⟨rfl, hu1⟩
  refine hK _ _ (LC.of hu1) ?_
  clear hK K
  refine sched_loud rfl (fun K hK => ?_)
  go_simp
  refine (CC.out _ hu1).mono ?_
  rintro e u2 ⟨rfl, hu2⟩
  refine hK _ _ (LC.of hu2) ?_
  clear hK K
  refine sched_pure rfl (fun K hK => ?_)
  go_simp
  refine hK _ ?_
  clear hK K
  refine sched_nil ?_
  go_wp2_with fail
  refine wp_region_sched (fun w' => ∃ p : LC d lb, w' = p.u) [(0, true), (1, true), (2, true), (3, true), (4, true), (5, false), (6, false), (7, true)] rfl (by kernel_rfl) (by kernel_rfl) (by kernel_rfl) (LC.of hu2.drew) ?_
  iterate 5 (refine sched_pure rfl (fun K hK => ?_); go_simp; refine hK _ ?_; clear hK K)
  refine sched_loud rfl (fun K hK => ?_)
  go_simp
  refine (CN.out _ A1 n hu2.drew).mono ?_
  rintro e u3 ⟨rfl, hu3⟩
  refine hK _ _ (LC.of hu3) ?_
  clear hK K
  refine sched_loud rfl (fun K hK => ?_)
  go_simp
  refine (CS.out _ hu3).mono ?_
  rintro e u4 ⟨rfl, hu4⟩
  refine hK _ _ (LC.of hu4) ?_
  clear hK K
  refine sched_pure rfl (fun K hK => ?_)
  go_simp
  refine hK _ ?_
  clear hK K
  refine sched_nil ?_
  have d1 := hu4.blk.cell 1 rfl
  have f1 := hu4.blk.frozen 1
  go_wp2_with fail
  go_ret
  exact ⟨rfl, lg_set hu4 m⟩
end Go.Proofs.YtglaocghcgcghaaGreatDoor
namespace Go.Proofs.YtglaocghcgcghaaGreatDoor
open Go.RowKit

/-- A log on a disk, all of it new since w0; the disk's blocks told. -/
def LyF (w0 : World) (d lb : Nat) (A : Ab) (n : Int) (b : Bool) (ft : List Nat) (w : World) : Prop :=
  At d A ft w ∧ lb ∉ ft ∧ Blk w lb [.pointer (some ⟨d, 0, none⟩), .int .i64 n, .bool b] 65 ∧ (∀ i ∈ ft, w0.heap.size ≤ i) ∧ w0.heap.size ≤ lb ∧ Below w0.heap.size w0 w
/-- The log behind a call: no block but its own was written. -/
def LyR (w0 : World) (d lb : Nat) (A : Ab) (n : Int) (b : Bool) (ft : List Nat) (w w' : World) : Prop := ∃ ft', LyF w0 d lb A n b ft' w' ∧ Moved w w' (lb :: ft) (lb :: ft')
section
variable {w0 : World} {d lb : Nat} {A : Ab} {n : Int} {b : Bool} {ft : List Nat} {w : World}
theorem LyF.bel (h : LyF w0 d lb A n b ft w) : Below w0.heap.size w0 w := h.2.2.2.2.2
theorem LyF.blk (h : LyF w0 d lb A n b ft w) : Blk w lb [.pointer (some ⟨d, 0, none⟩), .int .i64 n, .bool b] 65 := h.2.2.1
theorem LyF.more (h : LyF w0 d lb A n b ft w) {u : World} (hb : Below w.heap.size w u) : LyF w0 d lb A n b ft u := by
  obtain ⟨h1, h2, h3, h4, h5, h6⟩ := h
  exact ⟨h1.moved (moved_below (ft := []) hb) (by simp), h2, h3.carry (hb.block _ h3.lt), h4, h5, h6.trans (hb.mono h6.size)⟩
theorem LyF.drew (h : LyF w0 d lb A n b ft w) : LyF w0 d lb A n b ft w.drew := h.more (Below.refl _ _).drew
theorem LyF.toR (h : LyF w0 d lb A n b ft w) : LyR w0 d lb A n b ft w w := ⟨ft, h, Moved.refl _ _⟩
theorem LyF.moreR (h : LyF w0 d lb A n b ft w) {u : World} (hb : Below w.heap.size w u) : LyR w0 d lb A n b ft w u := ⟨ft, h.more hb, moved_below hb⟩
theorem LyR.more {u w' : World} (h : LyR w0 d lb A n b ft w w') (hb : Below w'.heap.size w' u) : LyR w0 d lb A n b ft w u := by
  obtain ⟨ft', h1, h2⟩ := h
  exact ⟨ft', h1.more hb, h2.trans (moved_below hb)⟩
theorem LyR.bel {w' : World} (h : LyR w0 d lb A n b ft w w') : Below w0.heap.size w0 w' := by
  obtain ⟨ft', h1, _⟩ := h; exact h1.bel
theorem LyR.blk {w' : World} (h : LyR w0 d lb A n b ft w w') : Blk w' lb [.pointer (some ⟨d, 0, none⟩), .int .i64 n, .bool b] 65 := by
  obtain ⟨ft', h1, _⟩ := h; exact h1.blk
theorem LyR.out {A' : Ab} {w' : World} {ft' : List Nat} (h : LyF w0 d lb A n b ft w) (ha : At d A' ft' w') (hm : Moved w w' ft ft') : LyR w0 d lb A' n b ft w w' := by
  obtain ⟨h1, h2, h3, h4, h5, h6⟩ := h
  have hs := h6.size
  refine ⟨ft', ⟨ha, fun hi => ?_, h3.carry (hm.kept lb h3.lt h2), fun i hi => ?_, h5, h6.trans ⟨hm.os, hm.tape, hm.output, hm.size, fun i hi => hm.kept i (by omega) fun h => ?_⟩⟩, ⟨hm.os, hm.tape, hm.output, hm.size, fun i hi hn => hm.kept i hi fun h => hn (List.mem_cons_of_mem _ h), fun i hi => ?_⟩⟩
  · rcases hm.news lb hi with h | h
    · exact h2 h
    · have := h3.lt; omega
  · rcases hm.news i hi with h | h
    · exact h4 i h
    · omega
  · have := h4 i h; omega
  · rcases List.mem_cons.1 hi with rfl | hi
    · exact .inl List.mem_cons_self
    · exact (hm.news i hi).imp (fun h => List.mem_cons_of_mem _ h) id
theorem LyR.pre {A' : Ab} {n' : Int} {b' : Bool} {u w' : World} (hb : Below w.heap.size w u) (h : LyR w0 d lb A' n' b' ft u w') : LyR w0 d lb A' n' b' ft w w' := by
  obtain ⟨ft', h1, h2⟩ := h
  exact ⟨ft', h1, (moved_below hb).trans h2⟩
theorem LyR.then {A' A'' : Ab} {n' n'' : Int} {b' b'' : Bool} {w' w'' : World} (h : LyR w0 d lb A' n' b' ft w w') (k : ∀ ft', LyF w0 d lb A' n' b' ft' w' → LyR w0 d lb A'' n'' b'' ft' w' w'') : LyR w0 d lb A'' n'' b'' ft w w'' := by
  obtain ⟨ft', h1, h2⟩ := h
  obtain ⟨ft'', h3, h4⟩ := k ft' h1
  exact ⟨ft'', h3, h2.trans h4⟩
theorem ly_set (h : LyF w0 d lb A n b ft w) (m : Int) : LyR w0 d lb A m b ft w (w.setCell ⟨lb, 1, none⟩ (.int .i64 m)) := by
  obtain ⟨h1, h2, h3, h4, h5, h6⟩ := h
  refine ⟨ft, ⟨h1.moved (a := [lb]) (b := [lb]) (Moved.of_set lb 1 _) (fun i hi e => by rw [List.mem_singleton] at e; subst e; exact h2 hi), h2, h3.setTo 1 _ _ rfl, h4, h5, h6.setCell (by exact h5) _⟩, (Moved.of_set lb 1 _).wider (fun i hi => .inl (by rw [List.mem_singleton] at hi; subst hi; exact List.mem_cons_self)) fun i hi => .inl hi⟩
theorem ly_dead (h : LyF w0 d lb A n b ft w) : LyR w0 d lb A n true ft w (w.setCell ⟨lb, 2, none⟩ (.bool true)) := by
  obtain ⟨h1, h2, h3, h4, h5, h6⟩ := h
  refine ⟨ft, ⟨h1.moved (a := [lb]) (b := [lb]) (Moved.of_set lb 2 _) (fun i hi e => by rw [List.mem_singleton] at e; subst e; exact h2 hi), h2, h3.setTo 2 _ _ rfl, h4, h5, h6.setCell (by exact h5) _⟩, (Moved.of_set lb 2 _).wider (fun i hi => .inl (by rw [List.mem_singleton] at hi; subst hi; exact List.mem_cons_self)) fun i hi => .inl hi⟩
theorem ly_create (h : LyF w0 d lb A n b ft w) (s : ByteArray) (hs : s.size ≤ maxLen) {k : Nat} (hN : Nice A k) (hk : k ≤ 2000) :
    Calls Tryz.prog 60 #[.pointer (some ⟨d, 0, none⟩), .string s] w fun x w' => x = .returned (.int .i64 (createX A s).1) ∧ LyR w0 d lb (createX A s).2 n b ft w w' :=
  (any_create h.1 s hs (hN.fine hk) (hN.opsB hk) hN.left hN.keep).mono fun _ _ ⟨hx, _, ha, hm⟩ => ⟨hx, LyR.out h ha hm⟩
theorem ly_sync (h : LyF w0 d lb A n b ft w) (s : ByteArray) (hs : s.size ≤ maxLen) {k : Nat} (hN : Nice A k) (hk : k ≤ 2000) :
    Calls Tryz.prog 51 #[.pointer (some ⟨d, 0, none⟩), .string s] w fun x w' => x = .returned (.int .i64 (syncX A s).1) ∧ LyR w0 d lb (syncX A s).2 n b ft w w' :=
  (any_sync h.1 s hs (hN.fine hk) (hN.opsB hk) hN.left hN.keep).mono fun _ _ ⟨hx, _, ha, hm⟩ => ⟨hx, LyR.out h ha hm⟩
theorem ly_rename (h : LyF w0 d lb A n b ft w) (s u : ByteArray) (hs : s.size ≤ maxLen) (hu : u.size ≤ maxLen) {k : Nat} (hN : Nice A k) (hk : k ≤ 2000) :
    Calls Tryz.prog 73 #[.pointer (some ⟨d, 0, none⟩), .string s, .string u] w fun x w' => x = .returned (.int .i64 (renameX A s u).1) ∧ LyR w0 d lb (renameX A s u).2 n b ft w w' :=
  (any_rename h.1 s hs u hu (hN.fine hk) (hN.opsB hk) hN.left hN.keep).mono fun _ _ ⟨hx, _, ha, hm⟩ => ⟨hx, LyR.out h ha hm⟩
theorem ly_append (h : LyF w0 d lb A n b ft w) (s : ByteArray) (hs : s.size ≤ maxLen) (ao : Option Addr) (l : List UInt8) (c : Nat) (hb : Sees w ao l) (hne : ∀ a, ao = some a → 0 < l.length → a.block ∉ ft) {k : Nat} (hN : Nice A k) (hk : k + 1 ≤ 2000) (hl : l.length ≤ 600000) (hl2 : ∀ t, findT A.sp (nameOf s) = some t → t.bs.length + l.length ≤ 600000) :
    Calls Tryz.prog 50 #[.pointer (some ⟨d, 0, none⟩), .string s, .slice ao l.length c] w fun x w' => x = .returned (.int .i64 (appendX A s l).1) ∧ LyR w0 d lb (appendX A s l).2 n b ft w w' :=
  (any_append h.1 s hs ao l c hb hne (hN.fine (by omega)) (hN.opsB (by omega)) hN.left hN.keep (hN.nextB (by omega)) (fun t ht => by have := (hN.file t ht).len; omega) (fun t ht _ => (Nice.apl hN ht (hl2 t ht)).fine hk)).mono fun _ _ ⟨hx, _, ha, hm⟩ => ⟨hx, LyR.out h ha hm⟩
theorem LyC.of (h : LyF w0 d lb A n b ft w) : ∃ p : LC d lb, w = p.u := ⟨⟨w, h.blk.cell 0 rfl⟩, rfl⟩
theorem LyC.ofR {w' : World} (h : LyR w0 d lb A n b ft w w') : ∃ p : LC d lb, w' = p.u := ⟨⟨w', h.blk.cell 0 rfl⟩, rfl⟩
end
/-- One call of the disk, and then another, if it answered OK. -/
def chainW (q : Int × Ab) (f : Ab → Int × Ab) : Int × Ab := if q.1 = 0 then f q.2 else q
theorem chainW_ok {q : Int × Ab} {f : Ab → Int × Ab} (h : q.1 = 0) : chainW q f = f q.2 := by unfold chainW; rw [if_pos h]
theorem chainW_no {q : Int × Ab} {f : Ab → Int × Ab} (h : q.1 ≠ 0) : chainW q f = q := by unfold chainW; rw [if_neg h]
def beginX (A : Ab) (m : Int) : Int × Ab := chainW (createX A (tB (nmW m))) fun A1 => syncX A1 (tB (nmW m))
def writeX (A : Ab) (m : Int) (l : List UInt8) : Int × Ab := chainW (appendX A (tB (nmW m)) l) fun A1 => syncX A1 (tB (nmW m))
/-- The name of the file in which a segment is mended. -/
def spW : List UInt8 := [108, 111, 103, 46, 110, 101, 119]
def mendX (A : Ab) (m : Int) (l : List UInt8) : Int × Ab :=
  chainW (createX A (tB spW)) fun A1 => chainW (if l = [] then (0, A1) else appendX A1 (tB spW) l) fun A2 => chainW (syncX A2 (tB spW)) fun A3 => renameX A3 (tB spW) (tB (nmW m))
def openX (A : Ab) (torn : Bool) (l : List UInt8) (k m : Int) : Int × Ab := chainW (if torn then mendX A k l else (0, A)) fun A1 => beginX A1 m
end Go.Proofs.YtglaocghcgcghaaGreatDoor
