/-
  CONTRACTS: names and good keys, by the program and by the document; a row's key.
-/
import Derived.Test.YtcnceipkoapcpaaDoorKeyCmp
namespace Go.Proofs.YtcnceipkoapcpaaDoor
open Go.RowKit

def isL (x : Int) : Bool := decide (97 ≤ x) && decide (x ≤ 122)
def isD (x : Int) : Bool := decide (48 ≤ x) && decide (x ≤ 57)
def okC (x : Int) : Bool := isL x || isD x || x == 95
def nameB (l : List UInt8) : Bool := decide (1 ≤ l.length) && decide (l.length ≤ 16) && isL ((l.getD 0 0).toNat : Int) && l.all fun b => okC (b.toNat : Int)
theorem name_iff (l : List UInt8) : nameB l = true ↔ 1 ≤ l.length ∧ l.length ≤ 16 ∧ isL ((l.getD 0 0).toNat : Int) = true ∧ ∀ j, j < l.length → okC ((l.getD j 0).toNat : Int) = true := by
  unfold nameB
  simp only [Bool.and_eq_true, decide_eq_true_eq, List.all_eq_true, and_assoc]
  constructor
  · rintro ⟨h1, h2, h3, h4⟩
    refine ⟨h1, h2, h3, fun j hj => ?_⟩
    have e : l.getD j 0 = l[j] := by simp [List.getD, hj]
    rw [e]; exact h4 _ (List.getElem_mem hj)
  · rintro ⟨h1, h2, h3, h4⟩
    refine ⟨h1, h2, h3, fun b hb => ?_⟩
    obtain ⟨j, hj, rfl⟩ := List.getElem_of_mem hb
    have e : l.getD j 0 = l[j] := by simp [List.getD, hj]
    have := h4 j hj
    rwa [e] at this
theorem at_nb (s : ByteArray) (k : Nat) (hk : k < s.size) : (nb s).getD k 0 = s[k] := by
  have : k < s.data.toList.length := by simpa using hk
  unfold nb
  rw [List.getD_eq_getElem?_getD, List.getElem?_eq_getElem this]
  rfl
theorem name_no {l : List UInt8} (h : ¬ (1 ≤ l.length ∧ l.length ≤ 16 ∧ isL ((l.getD 0 0).toNat : Int) = true ∧ ∀ j, j < l.length → okC ((l.getD j 0).toNat : Int) = true)) : nameB l = false := by
  cases hg : nameB l
  · rfl
  · exact absurd ((name_iff l).1 hg) h

end Go.Proofs.YtcnceipkoapcpaaDoor
