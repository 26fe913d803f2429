/-
  PLAIN: a number's digits, one after the other.
-/
import Derived.Test.YtajebjkpmbehgaaGreatDoorLexVal
namespace Go.Proofs.YtajebjkpmbehgaaGreatDoor
open Go.RowKit

def dD (d : Bool) (l : List UInt8) : List UInt8 := (l.take (dgN d l)).filter (fun b => !decide (b.toNat = 95))
theorem dgN_consX (d : Bool) (b : UInt8) (r : List UInt8) : dgN d (b :: r) = if dgB b then dgN true r + 1 else if decide (b.toNat = 95) && d then (if dgN false r = 0 then 0 else dgN false r + 1) else 0 := by
  cases d <;> rfl
theorem dD_nil (d : Bool) : dgN d [] = 0 ∧ dD d [] = [] := by cases d <;> exact ⟨rfl, rfl⟩
theorem dD_dig {b : UInt8} (h : dgB b = true) (d : Bool) (r : List UInt8) : dgN d (b :: r) = dgN true r + 1 ∧ dD d (b :: r) = b :: dD true r := by
  have hz := (dgB_iff b).1 h
  have e : dgN d (b :: r) = dgN true r + 1 := by rw [dgN_consX, if_pos h]
  refine ⟨e, ?_⟩
  unfold dD
  rw [e, List.take_succ_cons, List.filter_cons, if_pos (by rw [decide_eq_false (by omega)]; rfl)]
theorem dD_bar {b c : UInt8} (h : b.toNat = 95) (hc : dgB c = true) (r : List UInt8) : dgN true (b :: c :: r) = dgN true r + 2 ∧ dD true (b :: c :: r) = c :: dD true r := by
  obtain ⟨e1, e2⟩ := dD_dig hc false r
  have hb : dgB b = false := by
    have := dgB_iff b
    cases hq : dgB b
    · rfl
    · have := this.1 hq; omega
  have e : dgN true (b :: c :: r) = dgN true r + 2 := by
    rw [dgN_consX, hb, e1, decide_eq_true h]
    simp
  refine ⟨e, ?_⟩
  rw [← e2]
  unfold dD
  rw [e, e1, List.take_succ_cons, List.filter_cons, if_neg (by rw [decide_eq_true h]; simp)]
theorem dD_stop {b : UInt8} {r : List UInt8} (h : dgB b = false) (h2 : b.toNat = 95 → ∀ c t, r = c :: t → dgB c = false) : dgN true (b :: r) = 0 ∧ dD true (b :: r) = [] := by
  have e : dgN true (b :: r) = 0 := by
    rw [dgN_consX, h]
    by_cases h95 : b.toNat = 95
    · have : dgN false r = 0 := by
        cases r with
        | nil => rfl
        | cons c t =>
          rw [dgN_consX, h2 h95 c t rfl]
          simp
      simp [this]
    · simp [h95]
  refine ⟨e, ?_⟩
  unfold dD
  rw [e]
  rfl
theorem dgN_in : ∀ (l : List UInt8) (d : Bool), ∀ c ∈ l.take (dgN d l), dgB c = true ∨ c.toNat = 95
  | [], d, c, h => by simp at h
  | b :: r, d, c, h => by
    have ih := dgN_in r
    rw [dgN_consX] at h
    split at h
    · rename_i hb
      rw [List.take_succ_cons, List.mem_cons] at h
      rcases h with rfl | h
      · exact .inl hb
      · exact ih true c h
    · split at h
      · rename_i hb
        split at h
        · simp at h
        · rw [List.take_succ_cons, List.mem_cons] at h
          rcases h with rfl | h
          · rw [Bool.and_eq_true, decide_eq_true_eq] at hb
            exact .inr hb.1
          · exact ih false c h
      · simp at h
theorem dD_all (d : Bool) (l : List UInt8) : ∀ c ∈ dD d l, dgB c = true := by
  intro c hc
  unfold dD at hc
  rw [List.mem_filter] at hc
  rcases dgN_in l d c hc.1 with h | h
  · exact h
  · rw [decide_eq_true h] at hc
    exact absurd hc.2 (by simp)
/-- The token of a number. -/
def numV (neg : Bool) (V n : Nat) : Option Tk × Nat := match valI neg V with
  | .ok v => (some ⟨4, [], 1, v, [], 0, n⟩, 0)
  | _ => (none, 0)
theorem numT_pos {b : UInt8} (h : dgB b = true) (r : List UInt8) : numT (b :: r) = numV false (vN 0 (dD false (b :: r))) (dgN false (b :: r)) := by
  have hz := (dgB_iff b).1 h
  have hd : dash (b :: r) = false := decide_eq_false (by omega)
  obtain ⟨e1, e2⟩ := dD_dig h false r
  unfold numT numV
  simp only [hd, Bool.false_eq_true, if_false, List.drop_zero, Nat.zero_add]
  rw [← atoi_pos (dD false (b :: r)) (by rw [e2]; simp) (dD_all _ _)]
  rfl
theorem numT_neg {b c : UInt8} (hb : b.toNat = 45) (h : dgB c = true) (r : List UInt8) : numT (b :: c :: r) = numV true (vN 0 (dD false (c :: r))) (1 + dgN false (c :: r)) := by
  have hd : dash (b :: c :: r) = true := decide_eq_true hb
  obtain ⟨e1, e2⟩ := dD_dig h false r
  obtain rfl : b = 45 := UInt8.toNat_inj.1 hb
  unfold numT numV
  simp only [hd, if_true, List.drop_succ_cons, List.drop_zero]
  rw [← atoi_neg (dD false (c :: r)) (by rw [e2]; simp) (dD_all _ _), Nat.add_comm 1 (dgN false (c :: r)), List.take_succ_cons, List.filter_cons, if_pos (by decide)]
  rfl
theorem numT_dash {b : UInt8} (hb : b.toNat = 45) {r : List UInt8} (h : ∀ c t, r = c :: t → dgB c = false) : numT (b :: r) = (none, 0) := by
  have hd : dash (b :: r) = true := decide_eq_true hb
  obtain rfl : b = 45 := UInt8.toNat_inj.1 hb
  have e : dgN false r = 0 := by
    cases r with
    | nil => rfl
    | cons c t =>
      rw [dgN_consX, h c t rfl]
      simp
  unfold numT
  simp only [hd, if_true, List.drop_succ_cons, List.drop_zero, e, Nat.add_zero]
  rfl
theorem numV_big (neg : Bool) {V : Nat} (h : 9223372036854775808 < V) (n : Nat) : numV neg V n = (none, 0) := by
  unfold numV valI
  cases neg
  · simp only [Bool.false_eq_true, if_false]; rw [if_neg (by omega)]
  · simp only [if_true]; rw [if_neg (by omega)]
theorem numV_edge (n : Nat) : numV false 9223372036854775808 n = (none, 0) := by
  unfold numV valI
  simp only [Bool.false_eq_true, if_false]; rw [if_neg (by omega)]
theorem numV_pos {V : Nat} (h : V < 9223372036854775808) (n : Nat) : numV false V n = (some ⟨4, [], 1, (V : Int), [], 0, n⟩, 0) := by
  unfold numV valI
  simp only [Bool.false_eq_true, if_false]; rw [if_pos h]
theorem numV_neg {V : Nat} (h : V ≤ 9223372036854775808) (n : Nat) : numV true V n = (some ⟨4, [], 1, -(V : Int), [], 0, n⟩, 0) := by
  unfold numV valI
  simp only [if_true]; rw [if_pos h]
end Go.Proofs.YtajebjkpmbehgaaGreatDoor
