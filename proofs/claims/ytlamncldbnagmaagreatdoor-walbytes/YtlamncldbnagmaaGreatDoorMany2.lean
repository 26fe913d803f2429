/-
  SEVERAL TEXTS IN ONE: WalName, WalNum, Blk, SrtNat, DskIter.
-/
import Derived.Test.YtlamncldbnagmaaGreatDoorMany1
import Derived.Test.YtlamncldbnagmaaGreatDoorDskShelf
import Derived.Test.YtlamncldbnagmaaGreatDoorOwn
import Derived.Lib.ItoaLen
import Derived.Lib.AtoiAll
import Derived.Deep.QuietTactic
import Derived.Test.YtlamncldbnagmaaGreatDoorChecked
import Derived.Shelf.SlIter.Nil
import Derived.Ground.GgzProg
namespace Go.Proofs.YtlamncldbnagmaaGreatDoor
open Go.RowKit

def preW : List UInt8 := [108, 111, 103, 45]
/-- May a segment have that number? -/
def okW (n : Int) : Bool := decide (1 ≤ n) && decide (n ≤ 999999999)
theorem okW_iff {n : Int} : okW n = true ↔ 1 ≤ n ∧ n ≤ 999999999 := by simp [okW]
/-- P7.1, a segment's name. -/
def nmW (n : Int) : List UInt8 := if okW n then preW ++ Lib.itoa n else []
/-- .. a name's number. -/
def numR (s : List UInt8) : Int × Bool := match Lib.atoiAll (Lib.trimPrefix s preW) with
  | .ok v => if nmW v = s then (v, true) else (0, false)
  | _ => (0, false)
theorem nmW_len (n : Int) : (nmW n).length ≤ 25 := by
  unfold nmW
  split
  · rename_i h
    rw [okW_iff] at h
    have := Lib.itoa_length_le n (by omega) (by omega)
    rw [List.length_append]; simp only [preW, List.length_cons, List.length_nil]; omega
  · simp
/-- What the library's variables hold. -/
structure EnvW (w : World) : Prop where
  tab : Lib.TabIs Tryz.prog w "internal/strconv.uint64pow10" .u64 Lib.pow10Tab
  syn : ∃ t p, w.cell? ⟨0, 0, none⟩ = some (.iface t p)
  rng : ∃ t p, w.cell? ⟨1, 0, none⟩ = some (.iface t p)
theorem gPowW : Tryz.prog.globalNamed "internal/strconv.uint64pow10" = some 4 := by kernel_rfl
theorem EnvW.keep {w w' : World} (h : EnvW w) (h1 : w'.heap[4]? = w.heap[4]?) (h2 : w'.heap[0]? = w.heap[0]?) (h3 : w'.heap[1]? = w.heap[1]?) : EnvW w' := by
  refine ⟨?_, ?_, ?_⟩
  · have ht := h.tab
    unfold Lib.TabIs World.var? at ht ⊢
    rw [gPowW] at ht ⊢
    simp only [Option.bind_some] at ht ⊢
    rw [h1]; exact ht
  · obtain ⟨t, p, hc⟩ := h.syn
    exact ⟨t, p, by rw [World.cell?_of_block (a := ⟨0, 0, none⟩) h2]; exact hc⟩
  · obtain ⟨t, p, hc⟩ := h.rng
    exact ⟨t, p, by rw [World.cell?_of_block (a := ⟨1, 0, none⟩) h3]; exact hc⟩
theorem EnvW.lt {w : World} (h : EnvW w) : 4 < w.heap.size ∧ 0 < w.heap.size ∧ 1 < w.heap.size := by
  refine ⟨?_, ?_, ?_⟩
  · have ht := h.tab
    unfold Lib.TabIs World.var? at ht
    rw [gPowW] at ht
    simp only [Option.bind_some] at ht
    rcases Nat.lt_or_ge 4 w.heap.size with g | g
    · exact g
    · rw [Array.getElem?_eq_none g] at ht; cases ht
  · obtain ⟨t, p, hc⟩ := h.syn; exact World.block_lt_of_cell? _ _ hc
  · obtain ⟨t, p, hc⟩ := h.rng; exact World.block_lt_of_cell? _ _ hc
theorem EnvW.below {w w' : World} (h : EnvW w) {B : Nat} (hb : Below B w w') (hB : w.heap.size ≤ B) : EnvW w' := by
  obtain ⟨l1, l2, l3⟩ := h.lt
  exact h.keep (hb.block _ (by omega)) (hb.block _ (by omega)) (hb.block _ (by omega))
set_option maxRecDepth 100000 in
theorem possible_any (n : Int) (w : World) : Calls Tryz.prog 42 #[.int .i64 n] w fun e w' => e = .returned (.bool (okW n)) ∧ w' = w := by
  have HO : Hid (okW n = (decide (1 ≤ n) && decide (n ≤ 999999999))) := rfl
  by_cases h1 : 1 ≤ n
  · by_cases h2 : n ≤ 999999999
    · go_enter Tryz.func42, Tryz.ntmps42
      go_wp2_with fail
      go_ret
      exact ⟨ret_bool (by rw [HO.out]; simp [h1, h2]), rfl⟩
    · go_enter Tryz.func42, Tryz.ntmps42
      go_wp2_with fail
      go_ret
      exact ⟨ret_bool (by rw [HO.out]; simp [h1, h2]; try omega), rfl⟩
  · go_enter Tryz.func42, Tryz.ntmps42
    go_wp2_with fail
    go_ret
    exact ⟨ret_bool (by rw [HO.out]; simp; try omega), rfl⟩
theorem itoaW_any (n : Int) (h0 : -9223372036854775808 ≤ n) (h1 : n ≤ 9223372036854775807) (w : World) (he : EnvW w) :
    Calls Tryz.prog 43 #[.int .i64 n] w fun x w' => x = .returned (.string (tB (Lib.itoa n))) ∧ Below w.heap.size w w' :=
  (Tryz.strconv_Itoa n h0 h1 w he.tab).mono fun x w' ⟨h1, k, os, h2⟩ => ⟨h1, by
    rw [h2]
    exact ⟨rfl, rfl, rfl, by show w.heap.size ≤ (w.heap ++ os).size; simp, fun j hj => by show (w.heap ++ os)[j]? = _; rw [Array.getElem?_append_left hj]⟩⟩
set_option maxRecDepth 100000 in
theorem nameW_any (n : Int) (h0 : -9223372036854775808 ≤ n) (h1 : n ≤ 9223372036854775807) (w : World) (he : EnvW w) :
    Calls Tryz.prog 16 #[.int .i64 n] w fun x w' => x = .returned (.string (tB (nmW n))) ∧ Below w.heap.size w w' := by
  have CP : Hid (∀ u, Calls Tryz.prog 42 #[.int .i64 n] u fun e w' => e = .returned (.bool (okW n)) ∧ w' = u) := possible_any n
  have CI : Hid (Calls Tryz.prog 43 #[.int .i64 n] w fun x w' => x = .returned (.string (tB (Lib.itoa n))) ∧ Below w.heap.size w w') := itoaW_any n h0 h1 w he
  have HN : Hid (nmW n = if okW n then preW ++ Lib.itoa n else []) := rfl
  clear he
  cases hok : okW n with
  | true =>
    have HR : Hid (⟨#[108, 111, 103, 45]⟩ ++ tB (Lib.itoa n) = tB (nmW n)) := by
      show _ = _
      rw [HN.out, if_pos hok, ← tB_app]; rfl
    rw [hok] at CP
    clear HN hok
    have hsz : (tB (Lib.itoa n)).size ≤ 21 := by rw [tB_size]; exact Lib.itoa_length_le n h0 h1
    generalize tB (Lib.itoa n) = s at *
    have hsz2 : ¬ 9223372036854775807 < 4 + s.size := by omega
    go_enter Tryz.func16, Tryz.ntmps16
    go_wp2_with (go_at_call 42; refine (CP.out _).mono ?_; rintro e w1 ⟨rfl, rfl⟩)
    go_fit CI.out
    rintro e w2 ⟨rfl, hB⟩
    go_wp2_with fail
    go_ret
    exact ⟨by rw [← HR.out]; rfl, hB⟩
  | false =>
    have HR : Hid (tB (nmW n) = ⟨#[]⟩) := by
      show _ = _
      rw [HN.out, if_neg (by rw [hok]; simp)]; rfl
    rw [hok] at CP
    clear HN hok CI h0 h1
    go_enter Tryz.func16, Tryz.ntmps16
    go_wp2_with (go_at_call 42; refine (CP.out _).mono ?_; rintro e w1 ⟨rfl, rfl⟩)
    go_ret
    exact ⟨by rw [HR.out]; rfl, Below.refl _ _⟩
end Go.Proofs.YtlamncldbnagmaaGreatDoor
namespace Go.Proofs.YtlamncldbnagmaaGreatDoor
open Go.RowKit

theorem atoi_in {l : List UInt8} {v : Int} (h : Lib.atoiAll l = .ok v) : -9223372036854775808 ≤ v ∧ v ≤ 9223372036854775807 := by
  unfold Lib.atoiAll at h
  cases l with
  | nil => cases h
  | cons c r =>
    simp only at h
    split at h
    · cases h
    · cases h
    · rename_i u hu
      split at h
      · cases h
      · rename_i h1
        split at h
        · cases h
        · rename_i h2
          injection h with h
          by_cases hc : c.toNat = 45
          · rw [if_pos hc] at h
            have h3 : ¬ 9223372036854775808 < u := fun h4 => h2 ⟨hc, h4⟩
            omega
          · rw [if_neg hc] at h
            have h3 : ¬ 9223372036854775808 ≤ u := fun h4 => h1 ⟨hc, h4⟩
            omega
theorem parse_app : ∀ (a b : List UInt8) (acc m : Nat), Lib.parseUint10 acc a = .ok m → Lib.parseUint10 acc (a ++ b) = Lib.parseUint10 m b
  | [], b, acc, m, h => by
    simp only [Lib.parseUint10] at h
    injection h with h
    subst h; rfl
  | c :: r, b, acc, m, h => by
    simp only [Lib.parseUint10] at h
    rw [List.cons_append, Lib.parseUint10]
    split at h
    · rename_i hd
      rw [if_pos hd]
      split at h
      · cases h
      · rename_i h1
        rw [if_neg h1]
        split at h
        · cases h
        · rename_i h2
          rw [if_neg h2]
          exact parse_app r b _ m h
    · cases h
theorem dig_val {d : Nat} (h : d < 10) : (UInt8.ofNat (48 + d)).toNat = 48 + d := by simp; omega
theorem parse_dec : ∀ (n u : Nat), u < n → u < 1000000000000000000 → Lib.parseUint10 0 (Lib.decDigits u) = .ok u
  | 0, _, h, _ => by omega
  | n + 1, u, h, hb => by
    rcases Nat.lt_or_ge u 10 with h1 | h1
    · rw [dec_small h1]
      simp only [Lib.parseUint10, dig_val h1]
      rw [if_pos (by omega), if_neg (by omega), if_neg (by omega)]
      congr 1; omega
    · rw [dec_big h1, parse_app _ _ 0 (u / 10) (parse_dec n (u / 10) (by omega) (by omega))]
      have hm : u % 10 < 10 := Nat.mod_lt _ (by omega)
      simp only [Lib.parseUint10, dig_val hm]
      rw [if_pos (by omega), if_neg (by omega), if_neg (by omega)]
      congr 1; omega
theorem dec_ne (u : Nat) : Lib.decDigits u ≠ [] := fun e => by
  have h1 := Lib.decDigits_length u
  have h2 := Lib.nDigits_pos u
  rw [e] at h1; simp at h1; omega
theorem atoi_dec {u : Nat} (h : u < 1000000000000000000) : Lib.atoiAll (Lib.decDigits u) = .ok (u : Int) := by
  have hp := parse_dec (u + 1) u (by omega) h
  have hr := dec_range (u + 1) u (by omega)
  have hne := dec_ne u
  generalize Lib.decDigits u = l at *
  cases l with
  | nil => exact absurd rfl hne
  | cons c r =>
    have hc := hr c List.mem_cons_self
    have h1 : ¬ (c.toNat = 43 ∨ c.toNat = 45) := by omega
    have h2 : ¬ c.toNat = 45 := by omega
    unfold Lib.atoiAll
    simp only
    rw [if_neg h1, Lib.parseMag, if_neg hne, hp]
    simp only [h2, if_false]
    rw [if_neg (fun e => by have := e.2; omega), if_neg (fun e => e.1)]
theorem trim_pre (x : List UInt8) : Lib.trimPrefix (preW ++ x) preW = x := by
  unfold Lib.trimPrefix Lib.hasPrefix
  simp [preW]
/-- A segment's name leads back to its number. -/
theorem num_name {n : Int} (h : okW n = true) : numR (nmW n) = (n, true) := by
  have h1 := okW_iff.1 h
  have e : nmW n = preW ++ Lib.decDigits n.toNat := by
    unfold nmW Lib.itoa
    rw [if_pos h, if_neg (by omega)]
  unfold numR
  rw [e, trim_pre, atoi_dec (by omega)]
  have h2 : ((n.toNat : Nat) : Int) = n := by omega
  simp only [h2]
  rw [← e, if_pos rfl]
theorem num_ok {s : List UInt8} (h : (numR s).2 = true) : nmW (numR s).1 = s := by
  unfold numR at h ⊢
  split at h
  · rename_i v hv
    split at h
    · rename_i h2; simp only [if_pos h2]; exact h2
    · cases h
  · cases h
theorem num_no {s : List UInt8} (h : (numR s).2 = false) : (numR s).1 = 0 := by
  unfold numR at h ⊢
  split at h
  · rename_i v hv
    split at h
    · cases h
    · rename_i h2; simp only [if_neg h2]
  · rename_i h1
    cases h2 : Lib.atoiAll (Lib.trimPrefix s preW) with
    | ok v => exact absurd h2 (h1 v)
    | «syntax» => rfl
    | range => rfl
theorem trim_len (s : List UInt8) : (Lib.trimPrefix s preW).length ≤ s.length := by
  unfold Lib.trimPrefix
  split
  · rw [List.length_drop]; omega
  · exact Nat.le_refl _
theorem not_nil_err (N : Nat) (w : World) : (binOp BinOp.neq 86 (.iface 159 (.pointer (some ⟨N, 0, none⟩))) .nilIface).run Tryz.prog w = .ok (.bool true) w := by kernel_rfl
set_option maxRecDepth 100000 in
set_option maxHeartbeats 1000000 in
theorem numberW_any (s : ByteArray) (hs : s.size ≤ 140737488355328) (w : World) (he : EnvW w) :
    Calls Tryz.prog 12 #[.string s] w fun x w' => x = .returned (.tuple #[.int .i64 (numR s.data.toList).1, .bool (numR s.data.toList).2]) ∧ Below w.heap.size w w' := by
  have CT : Hid (∀ u, Calls Tryz.prog 40 #[.string s, .string ⟨#[108, 111, 103, 45]⟩] u fun e w' => e = .returned (.string (tB (Lib.trimPrefix s.data.toList preW))) ∧ w' = u) := fun u => Tryz.strings_TrimPrefix s ⟨#[108, 111, 103, 45]⟩ u
  have hsl : s.data.toList.length = s.size := by rw [Array.length_toList]; rfl
  have htl : (tB (Lib.trimPrefix s.data.toList preW)).size ≤ 140737488355328 := by rw [tB_size]; have := trim_len s.data.toList; omega
  have hts : (tB (Lib.trimPrefix s.data.toList preW)).data.toList = Lib.trimPrefix s.data.toList preW := tB_list _
  have HR : Hid (numR s.data.toList = match Lib.atoiAll (Lib.trimPrefix s.data.toList preW) with | .ok v => if nmW v = s.data.toList then (v, true) else (0, false) | _ => (0, false)) := rfl
  obtain ⟨tt, hT⟩ : ∃ tt, tt = tB (Lib.trimPrefix s.data.toList preW) := ⟨_, rfl⟩
  rw [← hT] at CT htl hts
  cases hA : Lib.atoiAll (Lib.trimPrefix s.data.toList preW) with
  | ok v =>
    obtain ⟨hv0, hv1⟩ := atoi_in hA
    have CA : Hid (∀ u, Calls Tryz.prog 39 #[.string tt] u fun e w' => e = .returned (.tuple #[.int .i64 v, .nilIface]) ∧ Below u.heap.size u w') := fun u =>
      (Tryz.strconv_Atoi_ok tt (by omega) v (by rw [hts]; exact hA) u).mono fun e w' ⟨h1, h2⟩ => ⟨h1, by
        rcases h2 with rfl | ⟨t, rfl⟩
        · exact Below.refl _ _
        · exact ⟨rfl, rfl, rfl, by rw [Lib.bytesWorld_size]; omega, fun j hj => Lib.bytesWorld_at_old _ _ _ _ hj⟩⟩
    have CN : Hid (∀ u, Below w.heap.size w u → Calls Tryz.prog 16 #[.int .i64 v] u fun x w' => x = .returned (.string (tB (nmW v))) ∧ Below u.heap.size u w') := fun u hu => nameW_any v hv0 hv1 u (he.below hu (Nat.le_refl _))
    by_cases hsame : nmW v = s.data.toList
    · have HN : Hid (numR s.data.toList = (v, true)) := by show _ = _; rw [HR.out, hA]; simp only [if_pos hsame]
      have hq : tB (nmW v) = s := by rw [hsame, tB_of]
      rw [hq] at CN
      clear HR hA hsame hq hT hts htl hsl hs he
      rw [HN.out]
      go_enter Tryz.func12, Tryz.ntmps12
      go_wp2_with fail
      go_fit (CT.out _)
      rintro e w1 ⟨rfl, rfl⟩
      go_wp2_with fail
      go_fit (CA.out _)
      rintro e w2 ⟨rfl, hB2⟩
      have CN2 : Hid (Calls Tryz.prog 16 #[.int .i64 v] w2 fun x w' => x = .returned (.string s) ∧ Below w2.heap.size w2 w') := CN.out w2 hB2
      clear CN
      go_wp2_with fail
      go_fit CN2.out
      rintro e w3 ⟨rfl, hB3⟩
      have HF : Hid (Below w1.heap.size w1 w3) := hB2.trans (hB3.mono hB2.size)
      clear hB2 hB3
      go_wp2_with fail
      go_ret2
      exact ⟨rfl, HF.out⟩
    · have HN : Hid (numR s.data.toList = (0, false)) := by show _ = _; rw [HR.out, hA]; simp only [if_neg hsame]
      have hq : tB (nmW v) ≠ s := fun e => hsame (by rw [← e, tB_list])
      generalize tB (nmW v) = s2 at *
      have hne2 : (s2.toList == s.toList) = false := by
        rw [beq_eq_false_iff_ne]
        intro e
        rw [Go.ByteArray.toList_eq, Go.ByteArray.toList_eq] at e
        exact hq (by rw [← tB_of s2, ← tB_of s, e])
      clear HR hA hsame hT hts htl hsl hs he
      rw [HN.out]
      go_enter Tryz.func12, Tryz.ntmps12
      go_wp2_with fail
      go_fit (CT.out _)
      rintro e w1 ⟨rfl, rfl⟩
      go_wp2_with fail
      go_fit (CA.out _)
      rintro e w2 ⟨rfl, hB2⟩
      have CN2 : Hid (Calls Tryz.prog 16 #[.int .i64 v] w2 fun x w' => x = .returned (.string s2) ∧ Below w2.heap.size w2 w') := CN.out w2 hB2
      clear CN
      go_wp2_with fail
      go_fit CN2.out
      rintro e w3 ⟨rfl, hB3⟩
      have HF : Hid (Below w1.heap.size w1 w3) := hB2.trans (hB3.mono hB2.size)
      clear hB2 hB3
      go_wp2_with fail
      go_ret2
      exact ⟨rfl, HF.out⟩
  | «syntax» =>
    obtain ⟨te, pe, hce⟩ := he.syn
    have HN : Hid (numR s.data.toList = (0, false)) := by show _ = _; rw [HR.out, hA]
    have CA : Hid (Calls Tryz.prog 39 #[.string tt] w fun e w' => ∃ N, e = .returned (.tuple #[.int .i64 0, .iface 159 (.pointer (some ⟨N, 0, none⟩))]) ∧ Below w.heap.size w w') :=
      (Tryz.strconv_Atoi_syntax tt (by omega) (by rw [hts]; exact hA) _ w hce (.inr ⟨te, pe, rfl⟩)).mono fun e w' ⟨N, h1, _, _, h4⟩ => ⟨N, h1, h4⟩
    clear HR hA hT hts htl hsl hs he hce
    rw [HN.out]
    go_enter Tryz.func12, Tryz.ntmps12
    go_wp2_with fail
    go_fit (CT.out _)
    rintro e w1 ⟨rfl, rfl⟩
    go_wp2_with fail
    go_fit CA.out
    rintro e w2 ⟨N, rfl, hB2⟩
    have hq := not_nil_err N w2
    go_wp2_with fail
    go_ret2
    exact ⟨rfl, hB2⟩
  | range =>
    obtain ⟨te, pe, hce⟩ := he.rng
    have HN : Hid (numR s.data.toList = (0, false)) := by show _ = _; rw [HR.out, hA]
    have CA : Hid (Calls Tryz.prog 39 #[.string tt] w fun e w' => ∃ N, e = .returned (.tuple #[.int .i64 (Lib.atoiSat tt.data.toList), .iface 159 (.pointer (some ⟨N, 0, none⟩))]) ∧ Below w.heap.size w w') :=
      (Tryz.strconv_Atoi_range tt (by omega) (by rw [hts]; exact hA) _ w hce (.inr ⟨te, pe, rfl⟩)).mono fun e w' ⟨N, h1, _, _, h4⟩ => ⟨N, h1, h4⟩
    generalize Lib.atoiSat tt.data.toList = sat at *
    clear HR hA hT hts htl hsl hs he hce
    rw [HN.out]
    go_enter Tryz.func12, Tryz.ntmps12
    go_wp2_with fail
    go_fit (CT.out _)
    rintro e w1 ⟨rfl, rfl⟩
    go_wp2_with fail
    go_fit CA.out
    rintro e w2 ⟨N, rfl, hB2⟩
    have hq := not_nil_err N w2
    go_wp2_with fail
    go_ret2
    exact ⟨rfl, hB2⟩
end Go.Proofs.YtlamncldbnagmaaGreatDoor
namespace Go.Proofs.YtlamncldbnagmaaGreatDoor
open Go.RowKit

/-- A block that holds these cells. -/
def Blk (w : World) (g : Nat) (cs : List Value) (t : TypeId) : Prop := w.heap[g]? = some (.cells cs.toArray t (0, 0))
section
variable {w w' : World} {g : Nat} {cs : List Value} {t : TypeId}
theorem Blk.lt (h : Blk w g cs t) : g < w.heap.size := (Array.getElem?_eq_some_iff.1 h).1
theorem Blk.cell (h : Blk w g cs t) (i : Nat) {v : Value} (hv : cs[i]? = some v) : w.cell? ⟨g, i, none⟩ = some v := by
  unfold Blk at h
  simp only [World.cell?, h]
  simpa using hv
theorem Blk.frozen (h : Blk w g cs t) (i : Nat) : w.frozen? ⟨g, i, none⟩ = false := by
  unfold Blk at h
  simp [World.frozen?, h]
theorem Blk.carry (h : Blk w g cs t) (e : w'.heap[g]? = w.heap[g]?) : Blk w' g cs t := e.trans h
theorem Blk.set (h : Blk w g cs t) (i : Nat) (v : Value) : Blk (w.setCell ⟨g, i, none⟩ v) g (cs.set i v) t := by
  unfold Blk at h ⊢
  simp only [World.setCell, Array.getElem?_modify, h]
  simp
theorem Blk.setTo (h : Blk w g cs t) (i : Nat) (v : Value) (cs' : List Value) (e : cs.set i v = cs') : Blk (w.setCell ⟨g, i, none⟩ v) g cs' t := e ▸ h.set i v
theorem Blk.new (w : World) (cs : List Value) (t : TypeId) : Blk (w.alloc (.cells cs.toArray t)) w.heap.size cs t := heap_alloc_new w _
theorem Blk.alloc (h : Blk w g cs t) (o : Obj) : Blk (w.alloc o) g cs t := h.carry (Below.heap_alloc _ _ _ h.lt)
end

/-- From w to w': only blocks of the list (and new ones) were written, the new list lies in the old one or is new. -/
structure Moved (w w' : World) (ft ft' : List Nat) : Prop where
  os : w'.os = w.os
  tape : w'.tape = w.tape
  output : w'.output = w.output
  size : w.heap.size ≤ w'.heap.size
  kept : ∀ i, i < w.heap.size → i ∉ ft → w'.heap[i]? = w.heap[i]?
  news : ∀ i, i ∈ ft' → i ∈ ft ∨ w.heap.size ≤ i
theorem Moved.refl (w : World) (ft : List Nat) : Moved w w ft ft := ⟨rfl, rfl, rfl, Nat.le_refl _, fun _ _ _ => rfl, fun _ h => .inl h⟩
theorem Moved.trans {w w1 w2 : World} {a b c : List Nat} (h : Moved w w1 a b) (k : Moved w1 w2 b c) : Moved w w2 a c := by
  have hs := h.size
  refine ⟨k.os.trans h.os, k.tape.trans h.tape, k.output.trans h.output, Nat.le_trans hs k.size, fun i hi hn => ?_, fun i hi => ?_⟩
  · refine (k.kept i (by omega) fun e => ?_).trans (h.kept i hi hn)
    rcases h.news i e with h1 | h1
    · exact hn h1
    · omega
  · rcases k.news i hi with h1 | h1
    · exact h.news i h1
    · exact .inr (by omega)
theorem Moved.wider {w w' : World} {a a' b b' : List Nat} (h : Moved w w' a b) (ha : ∀ i ∈ a, i ∈ a' ∨ w.heap.size ≤ i) (hb : ∀ i ∈ b', i ∈ a' ∨ i ∈ b ∨ w.heap.size ≤ i) : Moved w w' a' b' := by
  refine ⟨h.os, h.tape, h.output, h.size, fun i hi hn => h.kept i hi fun e => ?_, fun i hi => ?_⟩
  · rcases ha i e with h1 | h1
    · exact hn h1
    · omega
  · rcases hb i hi with h1 | h1 | h1
    · exact .inl h1
    · rcases h.news i h1 with h2 | h2
      · rcases ha i h2 with h3 | h3
        · exact .inl h3
        · exact .inr h3
      · exact .inr h2
    · exact .inr h1
theorem Moved.sub {w w' : World} {a b b' : List Nat} (h : Moved w w' a b) (hb : ∀ i ∈ b', i ∈ b) : Moved w w' a b' := h.wider (fun _ hi => .inl hi) (fun i hi => .inr (.inl (hb i hi)))
theorem Moved.of_grown {w w' : World} {r : Option Nat} (h : w.grownBy w' r) : Moved w w' r.toList r.toList :=
  ⟨h.os, h.tape, h.output, h.size, fun i hi hn => h.block i hi (fun e => hn (by rw [← e]; simp)), fun _ h => .inl h⟩
theorem Moved.none_of {w w' : World} (h : w.grownBy w' none) (ft : List Nat) : Moved w w' ft ft := (Moved.of_grown h).wider (by simp) (fun i hi => .inl hi)
theorem Moved.alloc {w : World} (o : Obj) (ft : List Nat) : Moved w (w.alloc o) ft ft := Moved.none_of (World.grownBy_alloc w o none) ft
theorem Moved.below {w w' : World} {a b : List Nat} (h : Moved w w' a b) {B : Nat} (hB : B ≤ w.heap.size) (ha : ∀ i ∈ a, B ≤ i) : Below B w w' :=
  ⟨h.os, h.tape, h.output, h.size, fun k hk => h.kept k (by omega) fun e => by have := ha k e; omega⟩
theorem Moved.drew {w w' : World} {a b : List Nat} (h : Moved w w' a b) : Moved w w'.drew a b := ⟨h.os, h.tape, h.output, h.size, h.kept, h.news⟩
theorem Moved.drewN {w w' : World} {a b : List Nat} (h : Moved w w' a b) (k : Nat) : Moved w (w'.drewN k) a b := ⟨h.os, h.tape, h.output, h.size, h.kept, h.news⟩
theorem Moved.of_set {w : World} (g i : Nat) (v : Value) : Moved w (w.setCell ⟨g, i, none⟩ v) [g] [g] :=
  ⟨rfl, rfl, rfl, by simp [World.setCell], fun k _ hn => Below.heap_setCell _ _ _ _ (fun e => hn (by simp [e])), fun _ h => .inl h⟩
end Go.Proofs.YtlamncldbnagmaaGreatDoor
namespace Go.Proofs.YtlamncldbnagmaaGreatDoor

theorem mergeSort_nat {l l' : List Nat} (h : l.Perm l') : l.mergeSort (fun a b => decide (a ≤ b)) = l'.mergeSort (fun a b => decide (a ≤ b)) := by
  have tr : ∀ a b c : Nat, decide (a ≤ b) = true → decide (b ≤ c) = true → decide (a ≤ c) = true := fun a b c h1 h2 => by simp at *; omega
  have to : ∀ a b : Nat, (decide (a ≤ b) || decide (b ≤ a)) = true := fun a b => by simp; omega
  refine List.Perm.eq_of_pairwise (le := fun a b => decide (a ≤ b) = true) (fun a b _ _ h1 h2 => by simp at h1 h2; omega) (List.pairwise_mergeSort tr to l) (List.pairwise_mergeSort tr to l') (((List.mergeSort_perm l _).trans h).trans (List.mergeSort_perm l' _).symm)
theorem mergeSort_cast (l : List Nat) : (l.map fun n : Nat => (n : Int)).mergeSort (fun x y => decide (x ≤ y)) = (l.mergeSort (fun a b => decide (a ≤ b))).map fun n : Nat => (n : Int) := by
  have tr : ∀ a b c : Int, decide (a ≤ b) = true → decide (b ≤ c) = true → decide (a ≤ c) = true := fun a b c h1 h2 => by simp at *; omega
  have to : ∀ a b : Int, (decide (a ≤ b) || decide (b ≤ a)) = true := fun a b => by simp; omega
  have trn : ∀ a b c : Nat, decide (a ≤ b) = true → decide (b ≤ c) = true → decide (a ≤ c) = true := fun a b c h1 h2 => by simp at *; omega
  have ton : ∀ a b : Nat, (decide (a ≤ b) || decide (b ≤ a)) = true := fun a b => by simp; omega
  refine List.Perm.eq_of_pairwise (le := fun a b : Int => decide (a ≤ b) = true) (fun a b _ _ h1 h2 => by simp at h1 h2; omega) (List.pairwise_mergeSort tr to _) ?_ ?_
  · rw [List.pairwise_map]
    exact (List.pairwise_mergeSort trn ton l).imp fun h => by simp at *; omega
  · exact (List.mergeSort_perm _ _).trans ((List.mergeSort_perm l _).symm.map _)
end Go.Proofs.YtlamncldbnagmaaGreatDoor
namespace Go.Proofs
section
open Go.Shelf
def Tryz.keys57_ren : Go.Shelf.Ren := ⟨fun | 7 => 57 | 10 => 100 | n => n, fun | 23 => 100 | 26 => 9 | 3 => 108 | 28 => 106 | 0 => 0 | 27 => 105 | 33 => 142 | 4 => 4 | n => n, fun | n => n⟩
theorem Tryz.keys57 : Go.Proofs.SlLaysZ.n7 Tryz.prog Tryz.keys57_ren := {
  mixed := by kernel_rfl
  f7 := ⟨Tryz.f57.name, by decide, Tryz.func57.trans (congrArg some (by kernel_rfl))⟩
  f10 := ⟨Tryz.f100.name, by decide, Tryz.func100.trans (congrArg some (by kernel_rfl))⟩
  t0 := Tryz.underlying0
  a0 := Tryz.isAgg0
  z0 := Tryz.sizeOf0
  v0 := Tryz.zeroValue0
  t4 := Tryz.underlying4
  a4 := Tryz.isAgg4
  z4 := Tryz.sizeOf4
  v4 := Tryz.zeroValue4
  t23 := Tryz.underlying100
  a23 := Tryz.isAgg100
  z23 := Tryz.sizeOf100
  v23 := Tryz.zeroValue100
  t26 := Tryz.underlying9
  a26 := Tryz.isAgg9
  z26 := Tryz.sizeOf9
  v26 := Tryz.zeroValue9
  t27 := Tryz.underlying105
  a27 := Tryz.isAgg105
  z27 := Tryz.sizeOf105
  v27 := Tryz.zeroValue105
  t28 := Tryz.underlying106
  a28 := Tryz.isAgg106
  z28 := Tryz.sizeOf106
  v28 := Tryz.zeroValue106
  t33 := Tryz.underlying142
  a33 := Tryz.isAgg142
  z33 := Tryz.sizeOf142
  v33 := Tryz.zeroValue142 }
def Tryz.sorted56_ren : Go.Shelf.Ren := ⟨fun | 6 => 56 | 8 => 98 | 9 => 99 | 11 => 138 | 13 => 129 | 12 => 139 | 23 => 165 | 24 => 166 | 14 => 172 | 15 => 173 | 16 => 174 | 17 => 175 | 18 => 176 | 19 => 177 | 20 => 178 | 21 => 179 | 22 => 180 | 25 => 198 | 26 => 194 | 27 => 195 | 28 => 199 | 29 => 200 | 30 => 201 | 31 => 209 | n => n, fun | 26 => 9 | 28 => 106 | 24 => 71 | 0 => 0 | 3 => 3 | 37 => 42 | 48 => 119 | 50 => 113 | 4 => 4 | 40 => 197 | 39 => 196 | 45 => 36 | 5 => 5 | 9 => 9 | 51 => 223 | 55 => 226 | 57 => 232 | 58 => 233 | 33 => 142 | n => n, fun | n => n⟩
theorem Tryz.sorted56 : Go.Proofs.SlLaysZ.n6 Tryz.prog Tryz.sorted56_ren := {
  mixed := by kernel_rfl
  f6 := ⟨Tryz.f56.name, by decide, Tryz.func56.trans (congrArg some (by kernel_rfl))⟩
  f8 := ⟨Tryz.f98.name, by decide, Tryz.func98.trans (congrArg some (by kernel_rfl))⟩
  f11 := ⟨Tryz.f138.name, by decide, Tryz.func138.trans (congrArg some (by kernel_rfl))⟩
  t0 := Tryz.underlying0
  a0 := Tryz.isAgg0
  z0 := Tryz.sizeOf0
  v0 := Tryz.zeroValue0
  t24 := Tryz.underlying71
  a24 := Tryz.isAgg71
  z24 := Tryz.sizeOf71
  v24 := Tryz.zeroValue71
  t26 := Tryz.underlying9
  a26 := Tryz.isAgg9
  z26 := Tryz.sizeOf9
  v26 := Tryz.zeroValue9
  t28 := Tryz.underlying106
  a28 := Tryz.isAgg106
  z28 := Tryz.sizeOf106
  v28 := Tryz.zeroValue106
  i26 := by kernel_rfl }
end
section
open Go.RowKit Go.Maps Go.Sort Go.Shelf
theorem Tryz.sorts56 (m : Nat) : AnyZ.SortsIn Tryz.prog Tryz.sorted56_ren Fence.wide m :=
  ⟨fun blk off cap ss W hH hblk hsz => callsIn_wide.2 (Tryz.slices_Sort_string blk off cap ss W hH hblk hsz),
   fun p cap W => callsIn_wide.2 (Tryz.slices_Sort_string_none p cap W)⟩

theorem Tryz.maps_Keys_57 (mb : Option Nat) (W : World) : CallsIn Fence.wide 5 Tryz.prog 57 #[.map mb] W fun e w' => e = .returned (.func (.func 100) #[] #[.pointer (some ⟨W.heap.size, 0, none⟩)]) ∧ w' = W.alloc (.cells #[.map mb] 100) :=
  AnyZ.keys_in Tryz.keys57 Fence.wide 5 trivial rfl mb W

set_option maxHeartbeats 1000000 in
theorem Tryz.slices_Sorted_keys_56_57 {H : Type} (b nn : Nat) (D0 : DataW H) (R : Value → Option (DataW H × List MemPlace)) (w : World) (hown : w.ownsMap Tryz.prog 9 R b nn D0) (hmax : Maps.size D0 ≤ maxLen) (hbytes : Maps.size D0 * 16 ≤ 140737488355328) :
    CallsIn Fence.wide 5 Tryz.prog 56 #[.func (.func 100) #[] #[.pointer (some ⟨w.heap.size, 0, none⟩)]] (w.alloc (.cells #[.map (some b)] 100)) fun e w' => ∃ (v : Value) (ss : List (List UInt8)), e = .returned v ∧ ss.Perm (strKeys D0) ∧
      w'.ownsRow (w.alloc (.cells #[.map (some b)] 100)).heap.size 9 1 v ss.length ((ss.mergeSort (fun x y => decide (x ≤ y))).map encStr) ∧ (v = .slice none 0 0 ↔ ss = []) ∧ Below (w.alloc (.cells #[.map (some b)] 100)).heap.size (w.alloc (.cells #[.map (some b)] 100)) w' := by
  have hbl := hown.lt
  have hseq : SeqGives Fence.wide 2 Tryz.prog 100 #[.pointer (some ⟨w.heap.size, 0, none⟩)] encStr (fun ss => ss.Perm (strKeys D0)) (Maps.size D0) (w.alloc (.cells #[.map (some b)] 100)) :=
    AnyZ.keys_gives (ρ := Tryz.keys57_ren) { Tryz.keys57 with } Fence.wide _ trivial rfl (by omega) w.heap.size b nn D0 _ (by simp) (by simp) (by
      obtain ⟨es, clock, hb, Ft, hs, hD⟩ := hown
      exact ⟨es, clock, (Below.heap_alloc _ _ b hbl).trans hb, Ft, hs, hD⟩)
  exact AnyZ.sorted_in Tryz.sorted56 Fence.wide 5 trivial trivial trivial trivial rfl (by omega) (Tryz.sorts56 _) (enters_of Tryz.func99 (by kernel_rfl) rfl) 100 #[.pointer (some ⟨w.heap.size, 0, none⟩)] trivial (enters_of Tryz.func100 (by kernel_rfl) rfl) _ _ hmax hbytes _ hseq

set_option maxHeartbeats 1000000 in
theorem Tryz.slices_Sorted_keys_nil_56_57 (w : World) :
    CallsIn Fence.wide 5 Tryz.prog 56 #[.func (.func 100) #[] #[.pointer (some ⟨w.heap.size, 0, none⟩)]] (w.alloc (.cells #[.map none] 100)) fun e w' => ∃ (v : Value) (ss : List (List UInt8)), e = .returned v ∧ ss = [] ∧
      w'.ownsRow (w.alloc (.cells #[.map none] 100)).heap.size 9 1 v ss.length ((ss.mergeSort (fun x y => decide (x ≤ y))).map encStr) ∧ (v = .slice none 0 0 ↔ ss = []) ∧ Below (w.alloc (.cells #[.map none] 100)).heap.size (w.alloc (.cells #[.map none] 100)) w' := by
  have hseq : SeqGives Fence.wide 2 Tryz.prog 100 #[.pointer (some ⟨w.heap.size, 0, none⟩)] encStr (fun ss : List (List UInt8) => ss = []) 0 (w.alloc (.cells #[.map none] 100)) :=
    AnyZ.keys_gives_nil (ρ := Tryz.keys57_ren) { Tryz.keys57 with } Fence.wide _ trivial rfl w.heap.size _ (by simp) (by simp)
  exact AnyZ.sorted_in Tryz.sorted56 Fence.wide 5 trivial trivial trivial trivial rfl (by omega) (Tryz.sorts56 _) (enters_of Tryz.func99 (by kernel_rfl) rfl) 100 #[.pointer (some ⟨w.heap.size, 0, none⟩)] trivial (enters_of Tryz.func100 (by kernel_rfl) rfl) _ 0 (Nat.zero_le _) (by omega) _ hseq

end
end Go.Proofs
