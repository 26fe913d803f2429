/-
  FOR THE LAW DiskKeeps: numbers, and the contracts on its road.
-/
import Derived.Test.YtbabepnoncpdlaaDskKeepsP
namespace Go.Proofs.Ytbabepnoncpdlaa
open Go.RowKit Go.Maps

theorem count_range (s n j : Nat) : (List.range' s n).countP (fun q => decide (q < s + j)) = min j n := by
  induction n with
  | zero => simp
  | succ n ih =>
    rw [List.range'_concat, List.countP_append, ih]
    simp only [Nat.one_mul, List.countP_singleton, decide_eq_true_eq]
    split <;> omega
theorem growT_le (t : Sig) (l : List UInt8) : growT t l ≤ (t.bs.length + l.length + 15) / 16 := by unfold growT growN; split <;> omega
theorem fine_two {A : Ab} {ta tb : Sig} (hsp : A.sp = [ta, tb]) (hr : A.room ≤ 1073741824) (a1 : ta.wr ≤ ta.bs.length) (a2 : ta.bs.length ≤ 100000) (a3 : ta.pl.Pairwise (· < ·)) (a4 : ∀ q ∈ ta.pl, q < A.next) (a5 : ta.pl.length ≤ 100000)
    (b1 : tb.wr ≤ tb.bs.length) (b2 : tb.bs.length ≤ 100000) (b3 : tb.pl.Pairwise (· < ·)) (b4 : ∀ q ∈ tb.pl, q < A.next) (b5 : tb.pl.length ≤ 100000) : A.Fine := by
  refine ⟨?_, ?_, ?_, ?_, hr, ?_, ?_⟩
  · rw [hsp]; simp [a1, b1]
  · rw [hsp]; simp; omega
  · rw [hsp]; simp [a3, b3]
  · rw [hsp]; simp; exact ⟨a4, b4⟩
  · rw [hsp]; simp [usedT]; omega
  · rw [hsp]; simp [dirtyT]; omega
theorem fine_one {A : Ab} {ta : Sig} (hsp : A.sp = [ta]) (hr : A.room ≤ 1073741824) (a1 : ta.wr ≤ ta.bs.length) (a2 : ta.bs.length ≤ 100000) (a3 : ta.pl.Pairwise (· < ·)) (a4 : ∀ q ∈ ta.pl, q < A.next) (a5 : ta.pl.length ≤ 100000) : A.Fine := by
  refine ⟨?_, ?_, ?_, ?_, hr, ?_, ?_⟩
  · rw [hsp]; simp [a1]
  · rw [hsp]; simp; omega
  · rw [hsp]; simp [a3]
  · rw [hsp]; simp; exact a4
  · rw [hsp]; simp [usedT]; omega
  · rw [hsp]; simp [dirtyT]; omega
theorem rise_range (s n : Nat) : (List.range' s n).Pairwise (· < ·) := List.pairwise_lt_range'
theorem ahead_range (s n : Nat) : ∀ q ∈ List.range' s n, q < s + n := fun _ hq => (List.mem_range'_1.1 hq).2
section
variable (l1 l2 l3 : List UInt8)
/-- How many bytes the file a has behind the failure. -/
def keepM (k : Nat) : Nat := if min k (growT (kt3 l1) l2) = 0 then l1.length else min (l1.length + l2.length) ((l1.length / 16 + min k (growT (kt3 l1) l2)) * 16)
theorem keepM_facts (keep : Int) : l1.length ≤ keepM l1 l2 keep.toNat ∧ keepM l1 l2 keep.toNat ≤ l1.length + l2.length ∧ (keepM l1 l2 keep.toNat = l1.length ∨ keepM l1 l2 keep.toNat = l1.length + l2.length ∨ keepM l1 l2 keep.toNat % 16 = 0) ∧ (keep ≤ 0 → keepM l1 l2 keep.toNat = l1.length) ∧ ((l1.length : Int) + l2.length ≤ keep → keepM l1 l2 keep.toNat = l1.length + l2.length) := by
  have hg : (l2.length = 0 → growT (kt3 l1) l2 = 0) ∧ (l2.length ≠ 0 → growT (kt3 l1) l2 = (l1.length + l2.length + 15) / 16 - l1.length / 16) := by
    unfold growT growN kt3
    constructor
    · intro h
      rw [if_pos (List.eq_nil_of_length_eq_zero h)]
    · intro h
      rw [if_neg (fun e => h (by rw [e]; rfl))]
      simp
  unfold keepM
  generalize growT (kt3 l1) l2 = G at *
  by_cases h : l2.length = 0
  · have := hg.1 h
    subst this
    rw [if_pos (by omega)]
    omega
  · have := hg.2 h
    subst this
    split <;> omega
theorem end7 (k : Nat) : endT (kA7 l1 l2 l3) k = (kA5 l1 l3).next + min k (growT (kt3 l1) l2) := by
  have hl : linesT (kA7 l1 l2 l3).sp = List.range' (kA5 l1 l3).next (growT (kt3 l1) l2) := by
    rw [sp7]
    simp [linesT, kt6, ku7]
  have hn : (kA7 l1 l2 l3).next = (kA5 l1 l3).next + growT (kt3 l1) l2 := rfl
  unfold endT
  rw [hl, hn, List.length_range', List.mergeSort_of_pairwise ((rise_range _ _).imp fun h => by simp; omega)]
  split
  · omega
  · rename_i h
    have hk : k < growT (kt3 l1) l2 := by omega
    rw [List.getD_eq_getElem?_getD, List.getElem?_range' hk]
    simp
    omega
def kA9 (k : Nat) : Ab := { kA7 l1 l2 l3 with on := true, left := 0, sp := [⟨[97], (l1 ++ l2).take (keepM l1 l2 k), keepM l1 l2 k, []⟩, ⟨[98], l3, l3.length, []⟩] }
theorem lost7 (k : Nat) : ((kA7 l1 l2 l3).sp.map fun t => loseT t (endT (kA7 l1 l2 l3) k)) = [⟨[97], (l1 ++ l2).take (keepM l1 l2 k), keepM l1 l2 k, []⟩, ⟨[98], l3, l3.length, []⟩] := by
  have ha : lostT (kt6 l1 l2 l3) (endT (kA7 l1 l2 l3) k) = keepM l1 l2 k := by
    have hk : keptT (kt6 l1 l2 l3) (endT (kA7 l1 l2 l3) k) = min k (growT (kt3 l1) l2) := by
      rw [end7]
      show (List.range' (kA5 l1 l3).next (growT (kt3 l1) l2)).countP _ = _
      rw [count_range]
      omega
    unfold lostT keepM
    rw [hk]
    simp [kt6]
  have hb : lostT (ku7 l3) (endT (kA7 l1 l2 l3) k) = l3.length := by
    unfold lostT keptT ku7
    simp
  rw [sp7]
  simp only [List.map_cons, List.map_nil, loseT, ha, hb]
  simp [kt6, ku7]
end

/-! ### the road -/
section
variable {w0 : World} {d : Nat} {l1 l2 l3 : List UInt8} (hb : l1.length + l2.length + l3.length ≤ 5000)
theorem nmB_size : nmB.size ≤ maxLen := by show 1 ≤ maxLen; unfold maxLen; omega
theorem nmB_good : refuse true [nmB] = 0 := by decide
theorem used_small (n : Nat) (h : n ≤ 5000) : secI (n : Int) ≤ 313 ∧ 0 ≤ secI (n : Int) := by rw [secI_nat]; omega
theorem k_create {w1 : World} (h : Kp w0 d (newA 10000) w1) : Calls Try.prog 14 #[.pointer (some ⟨d, 0, none⟩), .string nmA] w1 fun x w' => x = .returned (.int .i64 0) ∧ Kp w0 d kA1 w' :=
  kp_create h nmA nmA_size nmA_good rfl (by simp [newA]) (by simp [newA, usedT]) (by simp [newA]) (by simp [newA]) (by simp [newA]) (by simp [newA])
include hb
theorem k_append1 {w1 : World} (h : Kp w0 d kA1 w1) (ao : Option Addr) (c : Nat) (hs : Sees w0 ao l1) : Calls Try.prog 15 #[.pointer (some ⟨d, 0, none⟩), .string nmA, .slice ao l1.length c] w1 fun x w' => x = .returned (.int .i64 0) ∧ Kp w0 d (kA2 l1) w' := by
  have hF : kA1.Fine := fine_one sp1 (by decide) (by simp [kt1]) (by simp [kt1]) (by simp [kt1]) (by simp [kt1]) (by simp [kt1])
  refine kp_append h nmA nmA_size ao l1 c hs nmA_good (t := kt1) rfl (by decide) (by decide) (by decide) hF (by simp [kt1]; omega) (by decide) ?_
  have := used_small l1.length (by omega)
  have h0 : secI 0 = 0 := rfl
  show secI ((0 : Nat) + (l1.length : Int)) - secI ((0 : Nat) : Int) ≤ 10000 - 1
  simp only [Int.natCast_zero, Int.zero_add, h0]
  omega
omit hb in
theorem k_sync1 {w1 : World} (h : Kp w0 d (kA2 l1) w1) : Calls Try.prog 16 #[.pointer (some ⟨d, 0, none⟩), .string nmA] w1 fun x w' => x = .returned (.int .i64 0) ∧ Kp w0 d (kA3 l1) w' :=
  kp_sync h nmA nmA_size nmA_good (t := kt2 l1) (by rw [sp2]; rfl) (by show (0 : Nat) ≠ 1; omega) (by show 2 ≤ _; omega) (by show 0 ≤ _; omega)
theorem k_create2 {w1 : World} (h : Kp w0 d (kA3 l1) w1) : Calls Try.prog 14 #[.pointer (some ⟨d, 0, none⟩), .string nmB] w1 fun x w' => x = .returned (.int .i64 0) ∧ Kp w0 d (kA4 l1) w' :=
  kp_create h nmB nmB_size nmB_good (by rw [sp3]; rfl) (by rw [sp3]; simp) (by rw [sp3]; show usedT _ < 10000; simp [usedT, kt3]; omega) (by show 10000 ≤ _; omega) (by show (0 : Nat) ≠ 1; omega) (by show 3 ≤ _; omega) (by show 0 ≤ _; omega)
theorem k_append2 {w1 : World} (h : Kp w0 d (kA4 l1) w1) (ao : Option Addr) (c : Nat) (hs : Sees w0 ao l3) : Calls Try.prog 15 #[.pointer (some ⟨d, 0, none⟩), .string nmB, .slice ao l3.length c] w1 fun x w' => x = .returned (.int .i64 0) ∧ Kp w0 d (kA5 l1 l3) w' := by
  have hF : (kA4 l1).Fine := fine_two (sp4 l1) (by show 10000 ≤ _; omega) (by simp [kt3]) (by simp [kt3]; omega) (by simp [kt3]) (by simp [kt3]) (by simp [kt3]) (by simp [ku4]) (by simp [ku4]) (by simp [ku4]) (by simp [ku4]) (by simp [ku4])
  have hg := growT_le kt1 l1
  refine kp_append h nmB nmB_size ao l3 c hs nmB_good (t := ku4) (by rw [sp4]; rfl) (by show (0 : Nat) ≠ 1; omega) (by show 4 ≤ _; omega) (by show 0 ≤ _; omega) hF (by simp [ku4]; omega) (by show 0 + growT kt1 l1 ≤ _; simp [kt1] at hg ⊢; omega) ?_
  have := used_small l3.length (by omega)
  have h0 : secI 0 = 0 := rfl
  have hu : usedT (kA4 l1).sp = 1 + (l1.length + 15) / 16 + 1 := by rw [sp4]; simp [usedT, kt3, ku4]
  rw [hu]
  show secI ((0 : Nat) + (l3.length : Int)) - secI ((0 : Nat) : Int) ≤ ((10000 : Nat) : Int) - _
  simp only [Int.natCast_zero, Int.zero_add, h0]
  omega
theorem k_append3 {w1 : World} (h : Kp w0 d (kA5 l1 l3) w1) (ao : Option Addr) (c : Nat) (hs : Sees w0 ao l2) : Calls Try.prog 15 #[.pointer (some ⟨d, 0, none⟩), .string nmA, .slice ao l2.length c] w1 fun x w' => x = .returned (.int .i64 0) ∧ Kp w0 d (kA6 l1 l2 l3) w' := by
  have hg := growT_le kt1 l1
  have hg3 := growT_le ku4 l3
  have hnx : (kA5 l1 l3).next = growT kt1 l1 + growT ku4 l3 := by show 0 + growT kt1 l1 + growT ku4 l3 = _; omega
  simp [kt1] at hg
  simp [ku4] at hg3
  have hF : (kA5 l1 l3).Fine := fine_two (sp5 l1 l3) (by show 10000 ≤ _; omega) (by simp [kt3]) (by simp [kt3]; omega) (by simp [kt3]) (by simp [kt3]) (by simp [kt3]) (by simp [ku5]) (by simp [ku5]; omega) (rise_range _ _) (ahead_range _ _) (by show (List.range' _ _).length ≤ _; rw [List.length_range']; simp [ku4] at *; omega)
  refine kp_append h nmA nmA_size ao l2 c hs nmA_good (t := kt3 l1) (by rw [sp5]; rfl) (by show (0 : Nat) ≠ 1; omega) (by show 5 ≤ _; omega) (by show 0 ≤ _; omega) hF (by simp [kt3]; omega) (by rw [hnx]; simp [kt1, ku4] at *; omega) ?_
  have a1 := used_small (l1.length + l2.length) (by omega)
  have a2 := used_small l1.length (by omega)
  have hu : usedT (kA5 l1 l3).sp = 1 + (l1.length + 15) / 16 + (1 + (l3.length + 15) / 16) := by rw [sp5]; simp [usedT, kt3, ku5]
  rw [hu]
  have hc : ((l1.length + l2.length : Nat) : Int) = (l1.length : Int) + (l2.length : Int) := by omega
  rw [hc] at a1
  show secI ((l1.length : Int) + (l2.length : Int)) - secI (l1.length : Int) ≤ ((10000 : Nat) : Int) - _
  omega
omit hb in
theorem k_sync2 {w1 : World} (h : Kp w0 d (kA6 l1 l2 l3) w1) : Calls Try.prog 16 #[.pointer (some ⟨d, 0, none⟩), .string nmB] w1 fun x w' => x = .returned (.int .i64 0) ∧ Kp w0 d (kA7 l1 l2 l3) w' :=
  kp_sync h nmB nmB_size nmB_good (t := ku5 l1 l3) (by rw [sp6]; rfl) (by show (0 : Nat) ≠ 1; omega) (by show 6 ≤ _; omega) (by show 0 ≤ _; omega)
theorem k_crash {w1 : World} (h : Kp w0 d (kA7 l1 l2 l3) w1) (keep : Int) (hk1 : -9223372036854775808 ≤ keep) (hk2 : keep ≤ 9223372036854775807) : Calls Try.prog 17 #[.pointer (some ⟨d, 0, none⟩), .int .i64 keep] w1 fun x w' => x = .returned (.tuple #[]) ∧ Kp w0 d { kA9 l1 l2 l3 keep.toNat with on := false } w' := by
  have hg2 := growT_le (kt3 l1) l2
  simp [kt3] at hg2
  have hF : (kA7 l1 l2 l3).Fine := fine_two (sp7 l1 l2 l3) (by show 10000 ≤ _; omega) (by simp [kt6]) (by simp [kt6]; omega) (rise_range _ _) (ahead_range _ _) (by show (List.range' _ _).length ≤ _; rw [List.length_range']; simp [kt3] at *; omega) (by simp [ku7]) (by simp [ku7]; omega) (by simp [ku7]) (by simp [ku7]) (by simp [ku7])
  refine (kp_crash h rfl hF keep hk1 hk2).mono ?_
  rintro x w' ⟨rfl, h1⟩
  rw [lost7] at h1
  exact ⟨rfl, h1⟩
omit hb in
theorem k_start {w1 : World} {k : Nat} (h : Kp w0 d { kA9 l1 l2 l3 k with on := false } w1) : Calls Try.prog 18 #[.pointer (some ⟨d, 0, none⟩)] w1 fun x w' => x = .returned (.tuple #[]) ∧ Kp w0 d (kA9 l1 l2 l3 k) w' := kp_start h
theorem k_readA {w1 : World} {k : Nat} (h : Kp w0 d (kA9 l1 l2 l3 k) w1) : Calls Try.prog 19 #[.pointer (some ⟨d, 0, none⟩), .string nmA] w1 fun x w' => ∃ ao c, x = .returned (.tuple #[.slice ao ((l1 ++ l2).take (keepM l1 l2 k)).length c, .int .i64 0]) ∧ Sees w' ao ((l1 ++ l2).take (keepM l1 l2 k)) ∧ (ao = none → ((l1 ++ l2).take (keepM l1 l2 k)).length = 0) ∧ ((l1 ++ l2).take (keepM l1 l2 k)).length ≤ c ∧ w1.grownBy w' none ∧ Kp w0 d (kA9 l1 l2 l3 k) w' :=
  kp_read h nmA nmA_size nmA_good (t := ⟨[97], (l1 ++ l2).take (keepM l1 l2 k), keepM l1 l2 k, []⟩) rfl (by simp; omega)
theorem k_readB {w1 : World} {k : Nat} (h : Kp w0 d (kA9 l1 l2 l3 k) w1) : Calls Try.prog 19 #[.pointer (some ⟨d, 0, none⟩), .string nmB] w1 fun x w' => ∃ ao c, x = .returned (.tuple #[.slice ao l3.length c, .int .i64 0]) ∧ Sees w' ao l3 ∧ (ao = none → l3.length = 0) ∧ l3.length ≤ c ∧ w1.grownBy w' none ∧ Kp w0 d (kA9 l1 l2 l3 k) w' :=
  kp_read h nmB nmB_size nmB_good (t := ⟨[98], l3, l3.length, []⟩) rfl (by simp; omega)
theorem k_dirty {w1 : World} {keep : Int} (h : Kp w0 d (kA9 l1 l2 l3 keep.toNat) w1) : Calls Try.prog 21 #[.pointer (some ⟨d, 0, none⟩)] w1 fun x w' => x = .returned (.int .i64 0) ∧ w1.grownBy w' none ∧ Kp w0 d (kA9 l1 l2 l3 keep.toNat) w' := by
  have hm := keepM_facts l1 l2 keep
  have hF : (kA9 l1 l2 l3 keep.toNat).Fine := fine_two rfl (by show 10000 ≤ _; omega) (by simp; omega) (by simp; omega) (by simp) (by simp) (by simp) (by simp) (by simp; omega) (by simp) (by simp) (by simp)
  exact kp_dirty h hF rfl
end
end Go.Proofs.Ytbabepnoncpdlaa
