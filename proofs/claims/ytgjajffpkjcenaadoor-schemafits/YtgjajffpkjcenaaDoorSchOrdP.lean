/-
  PLAIN: columns in a table's order.
-/
import Derived.Test.YtgjajffpkjcenaaDoorSchTabC
namespace Go.Proofs.YtgjajffpkjcenaaDoor
open Go.RowKit

/-- Is a name wanted? (None given: all are.) -/
def wantB (C : List ByteArray) (s : ByteArray) : Bool := C.isEmpty || decide (nb s ∈ C.map nb)
def ordStep (C o : List ByteArray) (s : ByteArray) : List ByteArray := if wantB C s && !decide (nb s ∈ o.map nb) then o ++ [s] else o
def ordL (C N : List ByteArray) : List ByteArray := N.foldl (ordStep C) []
/-- Is each one that is given there? -/
def allIn (C N : List ByteArray) : Bool := C.all fun s => decide (nb s ∈ N.map nb)
/-- What Order tells. -/
def ordR (C N : List ByteArray) : List ByteArray := if allIn C N then ordL C N else []
theorem ordL_take {C N : List ByteArray} {k : Nat} {s : ByteArray} (h : N[k]? = some s) : ordL C (N.take (k + 1)) = ordStep C (ordL C (N.take k)) s := by
  unfold ordL
  rw [List.take_add_one, h, List.foldl_append]; rfl
theorem wantB_eq {C : List ByteArray} {a b : ByteArray} (h : nb a = nb b) : wantB C a = wantB C b := by unfold wantB; rw [h]
theorem mem_step {C o : List ByteArray} {a s : ByteArray} : nb s ∈ (ordStep C o a).map nb ↔ nb s ∈ o.map nb ∨ (nb s = nb a ∧ wantB C s = true) := by
  unfold ordStep
  by_cases hw : wantB C a = true
  · by_cases hm : nb a ∈ o.map nb
    · rw [hw, decide_eq_true hm]
      simp only [Bool.not_true, Bool.and_false, Bool.false_eq_true, if_false]
      exact ⟨fun h => .inl h, fun h => h.elim id fun h => h.1 ▸ hm⟩
    · rw [hw, decide_eq_false hm]
      simp only [Bool.not_false, Bool.and_true, if_true, List.map_append, List.mem_append, List.map_cons, List.map_nil, List.mem_singleton]
      exact ⟨fun h => h.imp id fun e => ⟨e, (wantB_eq e).trans hw⟩, fun h => h.imp id fun h => h.1⟩
  · have hw' : wantB C a = false := by simpa using hw
    rw [hw']
    simp only [Bool.false_and, Bool.false_eq_true, if_false]
    exact ⟨fun h => .inl h, fun h => h.elim id fun h => by rw [wantB_eq h.1, hw'] at h; cases h.2⟩
theorem mem_fold {C : List ByteArray} {s : ByteArray} : ∀ (N o : List ByteArray), nb s ∈ (N.foldl (ordStep C) o).map nb ↔ nb s ∈ o.map nb ∨ (nb s ∈ N.map nb ∧ wantB C s = true) := by
  intro N
  induction N with
  | nil => intro o; simp
  | cons a N ih =>
    intro o
    rw [List.foldl_cons, ih, mem_step, List.map_cons, List.mem_cons]
    constructor
    · rintro ((h | h) | h)
      · exact .inl h
      · exact .inr ⟨.inl h.1, h.2⟩
      · exact .inr ⟨.inr h.1, h.2⟩
    · rintro (h | ⟨h | h, hw⟩)
      · exact .inl (.inl h)
      · exact .inl (.inr ⟨h, hw⟩)
      · exact .inr ⟨h, hw⟩
theorem mem_ordL {C N : List ByteArray} {s : ByteArray} : nb s ∈ (ordL C N).map nb ↔ nb s ∈ N.map nb ∧ wantB C s = true := by
  unfold ordL; rw [mem_fold]; simp
/-- The step at place k, by whether a name stands first there and is wanted. -/
theorem step_yes {C N : List ByteArray} {k : Nat} {s : ByteArray} (h : N[k]? = some s) (hf : ¬ nb s ∈ (N.take k).map nb) (hw : wantB C s = true) : ordL C (N.take (k + 1)) = ordL C (N.take k) ++ [s] := by
  rw [ordL_take h]; unfold ordStep
  rw [hw, decide_eq_false (fun hm => hf (mem_ordL.1 hm).1)]; rfl
theorem step_no {C N : List ByteArray} {k : Nat} {s : ByteArray} (h : N[k]? = some s) (hf : nb s ∈ (N.take k).map nb ∨ wantB C s = false) : ordL C (N.take (k + 1)) = ordL C (N.take k) := by
  rw [ordL_take h]; unfold ordStep
  by_cases hw : wantB C s = true
  · have hf1 : nb s ∈ (N.take k).map nb := hf.elim id fun e => by rw [hw] at e; cases e
    rw [hw, decide_eq_true (mem_ordL.2 ⟨hf1, hw⟩)]; rfl
  · rw [show wantB C s = false by simpa using hw]; rfl
theorem idx_first {L : List (List UInt8)} {k : Nat} {x : List UInt8} (h : L[k]? = some x) : L.idxOf x ≤ k ∧ (L.idxOf x = k ↔ ¬ x ∈ L.take k) := by
  obtain ⟨hlt, he⟩ := List.getElem?_eq_some_iff.1 h
  have hL : L = L.take k ++ L.drop k := (List.take_append_drop k L).symm
  have hd : L.drop k = x :: L.drop (k + 1) := by rw [List.drop_eq_getElem_cons hlt, he]
  have hlen : (L.take k).length = k := by rw [List.length_take]; omega
  by_cases hm : x ∈ L.take k
  · have h1 : L.idxOf x = (L.take k).idxOf x := by
      conv => lhs; rw [hL]
      rw [List.idxOf_append, if_pos hm]
    have h2 : (L.take k).idxOf x < (L.take k).length := List.idxOf_lt_length_of_mem hm
    rw [hlen] at h2
    rw [h1]
    exact ⟨by omega, ⟨fun e => by omega, fun e => absurd hm e⟩⟩
  · have h1 : L.idxOf x = k := by
      conv => lhs; rw [hL]
      rw [List.idxOf_append, if_neg hm, hd, List.idxOf_cons_self, hlen]; omega
    rw [h1]
    exact ⟨Nat.le_refl _, ⟨fun _ => hm, fun _ => rfl⟩⟩
theorem ordL_len (C N : List ByteArray) : (ordL C N).length ≤ N.length := by
  have : ∀ (N o : List ByteArray), (N.foldl (ordStep C) o).length ≤ o.length + N.length := by
    intro N
    induction N with
    | nil => intro o; simp
    | cons a N ih =>
      intro o
      have := ih (ordStep C o a)
      have h2 : (ordStep C o a).length ≤ o.length + 1 := by unfold ordStep; split <;> simp
      rw [List.foldl_cons, List.length_cons]; omega
  have := this N []
  simpa [ordL] using this
theorem ordR_len (C N : List ByteArray) : (ordR C N).length ≤ N.length := by
  unfold ordR
  split
  · exact ordL_len C N
  · simp
end Go.Proofs.YtgjajffpkjcenaaDoor
