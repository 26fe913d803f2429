/-
  A FILTER, PLAIN: places, bits, what was added may be there; the words of the walks.
-/
import Derived.Test.YtdookhmaiapclaaGreatDoorMurPlain
namespace Go.Proofs.YtdookhmaiapclaaGreatDoor
open Go.RowKit

/-- The i-th place of a key whose hash is h, in a filter of n bytes. -/
def plc (h : BitVec 64 × BitVec 64) (n i : Nat) : Nat := (h.1 + BitVec.ofNat 64 i * h.2).toNat % (8 * n)
def plcs (h : BitVec 64 × BitVec 64) (n k : Nat) : List Nat := (List.range k).map (plc h n)
/-- One bit is set; is one set? -/
def orP (x : UInt8) (p : Nat) : UInt8 := UInt8.ofNat (x.toNat ||| 2 ^ (p % 8))
def setP (l : List UInt8) (p : Nat) : List UInt8 := l.set (p / 8) (orP (l.getD (p / 8) 0) p)
def hasP (l : List UInt8) (p : Nat) : Bool := (l.getD (p / 8) 0).toNat.testBit (p % 8)
def addK (l : List UInt8) (h : BitVec 64 × BitVec 64) (k : Nat) : List UInt8 := (plcs h l.length k).foldl setP l
def mayK (l : List UInt8) (h : BitVec 64 × BitVec 64) (k : Nat) : Bool := (plcs h l.length k).all (hasP l)

theorem orP_toNat (x : UInt8) (p : Nat) : (orP x p).toNat = x.toNat ||| 2 ^ (p % 8) := by
  unfold orP
  rw [UInt8.toNat_ofNat', Nat.mod_eq_of_lt]
  refine Nat.or_lt_two_pow (n := 8) ?_ ?_
  · exact x.toNat_lt
  · exact Nat.pow_lt_pow_right (by decide) (Nat.mod_lt _ (by decide))
theorem setP_length (l : List UInt8) (p : Nat) : (setP l p).length = l.length := List.length_set
theorem plc_lt (h : BitVec 64 × BitVec 64) (n i : Nat) (hn : 0 < n) : plc h n i < 8 * n := Nat.mod_lt _ (by omega)
theorem hasP_setP (l : List UInt8) (p q : Nat) (hp : p / 8 < l.length) : hasP (setP l p) q = (hasP l q || decide (p = q)) := by
  unfold hasP setP
  by_cases h : p / 8 = q / 8
  · rw [← h]
    have : (l.set (p / 8) (orP (l.getD (p / 8) 0) p)).getD (p / 8) 0 = orP (l.getD (p / 8) 0) p := by
      simp [List.getD, hp]
    rw [this, orP_toNat, Nat.testBit_or, Nat.testBit_two_pow]
    congr 1
    by_cases e : p % 8 = q % 8
    · have : p = q := by omega
      simp [this]
    · have : p ≠ q := fun k => e (by rw [k])
      simp [e, this]
  · have : (l.set (p / 8) (orP (l.getD (p / 8) 0) p)).getD (q / 8) 0 = l.getD (q / 8) 0 := by
      simp [List.getD, h]
    rw [this]
    have : p ≠ q := fun k => h (by rw [k])
    simp [this]
theorem setAll_length (ps : List Nat) (l : List UInt8) : (ps.foldl setP l).length = l.length := by
  induction ps generalizing l with
  | nil => rfl
  | cons p ps ih => rw [List.foldl_cons, ih, setP_length]
theorem addK_length (l : List UInt8) (h : BitVec 64 × BitVec 64) (k : Nat) : (addK l h k).length = l.length := setAll_length _ _
theorem hasP_all (ps : List Nat) (l : List UInt8) (q : Nat) (hps : ∀ p ∈ ps, p / 8 < l.length) : hasP (ps.foldl setP l) q = (hasP l q || ps.any (fun p => decide (p = q))) := by
  induction ps generalizing l with
  | nil => simp
  | cons p ps ih =>
    rw [List.foldl_cons, ih _ (fun x hx => by rw [setP_length]; exact hps x (List.mem_cons_of_mem _ hx)), hasP_setP l p q (hps p List.mem_cons_self), List.any_cons, Bool.or_assoc]
theorem plcs_lt (h : BitVec 64 × BitVec 64) (n k : Nat) (hn : 0 < n) : ∀ p ∈ plcs h n k, p < 8 * n := by
  intro p hp
  obtain ⟨i, _, rfl⟩ := List.mem_map.1 hp
  exact plc_lt h n i hn
theorem plcs_div (h : BitVec 64 × BitVec 64) (n k : Nat) (hn : 0 < n) : ∀ p ∈ plcs h n k, p / 8 < n := by
  intro p hp
  have := plcs_lt h n k hn p hp
  omega
theorem plcs_length (h : BitVec 64 × BitVec 64) (n k : Nat) : (plcs h n k).length = k := by simp [plcs]
theorem plcs_at (h : BitVec 64 × BitVec 64) (n k i : Nat) (hi : i < k) : (plcs h n k)[i]? = some (plc h n i) := by simp [plcs, hi]
theorem plcs_step (h : BitVec 64 × BitVec 64) (n i : Nat) : plcs h n (i + 1) = plcs h n i ++ [plc h n i] := by simp [plcs, List.range_succ]
theorem plcs_take (h : BitVec 64 × BitVec 64) (n k i : Nat) (hi : i ≤ k) : (plcs h n k).take i = plcs h n i := by
  unfold plcs
  rw [← List.map_take, List.take_range, Nat.min_eq_left hi]
/-- What was added may be there. -/
theorem may_add (l : List UInt8) (h : BitVec 64 × BitVec 64) (k : Nat) (hl : 0 < l.length) : mayK (addK l h k) h k = true := by
  unfold mayK
  rw [addK_length, List.all_eq_true]
  intro p hp
  unfold addK
  rw [hasP_all _ _ _ (plcs_div h _ k hl), Bool.or_eq_true]
  exact .inr (List.any_eq_true.2 ⟨p, hp, by simp⟩)
/-- What may be there stays so. -/
theorem may_more (l : List UInt8) (h h' : BitVec 64 × BitVec 64) (k k' : Nat) (hl : 0 < l.length) (hm : mayK l h k = true) : mayK (addK l h' k') h k = true := by
  unfold mayK at hm ⊢
  rw [addK_length, List.all_eq_true]
  rw [List.all_eq_true] at hm
  intro p hp
  unfold addK
  rw [hasP_all _ _ _ (plcs_div h' _ k' hl), hm p hp, Bool.true_or]
theorem hasP_zero (n p : Nat) : hasP (List.replicate n 0) p = false := by
  unfold hasP
  have : (List.replicate n (0 : UInt8)).getD (p / 8) 0 = 0 := by
    simp [List.getD, List.getElem?_replicate]
    split <;> rfl
  rw [this]
  simp
theorem may_zero (n k : Nat) (h : BitVec 64 × BitVec 64) (hk : 0 < k) : mayK (List.replicate n 0) h k = false := by
  unfold mayK
  rw [List.all_eq_false]
  refine ⟨plc h (List.replicate n (0 : UInt8)).length 0, ?_, by rw [hasP_zero]; simp⟩
  exact List.mem_map.2 ⟨0, List.mem_range.2 hk, rfl⟩
/-- A step of Add, of May. -/
theorem add_step (l : List UInt8) (h : BitVec 64 × BitVec 64) (i : Nat) : setP (addK l h i) (plc h l.length i) = addK l h (i + 1) := by
  unfold addK
  rw [plcs_step, List.foldl_append]
  rfl
theorem may_step (l : List UInt8) (h : BitVec 64 × BitVec 64) (i : Nat) : mayK l h (i + 1) = (mayK l h i && hasP l (plc h l.length i)) := by
  unfold mayK
  rw [plcs_step, List.all_append]
  simp
theorem may_less {l : List UInt8} {h : BitVec 64 × BitVec 64} {i k : Nat} (hi : i < k) (hp : hasP l (plc h l.length i) = false) : mayK l h k = false := by
  unfold mayK
  rw [List.all_eq_false]
  exact ⟨_, List.mem_map.2 ⟨i, List.mem_range.2 hi, rfl⟩, by rw [hp]; simp⟩
end Go.Proofs.YtdookhmaiapclaaGreatDoor
