/-
  SLICES OF BYTES that lie in a slice.
-/
import Derived.Test.YtblblngcmgdnnaaDskMem
namespace Go.Proofs.Ytblblngcmgdnnaa
open Go.RowKit

structure PartV where
  ao : Option Addr
  bs : List UInt8
  cap : Nat
/-- The parts can be read from the address on. -/
def PSees (w : World) (po : Option Addr) (P : List PartV) : Prop := ∀ r p, P[r]? = some p → (∃ b off, po = some ⟨b, off, none⟩ ∧ w.cell? ⟨b, off + r, none⟩ = some (.slice p.ao p.bs.length p.cap)) ∧ Sees w p.ao p.bs ∧ (p.ao = none → p.bs.length = 0)
theorem PSees.cell {w : World} {po : Option Addr} {P : List PartV} (h : PSees w po P) {r : Nat} {p : PartV} (hp : P[r]? = some p) : ∃ b off, po = some ⟨b, off, none⟩ ∧ ∀ w', Below w.heap.size w w' → w'.cell? ⟨b, off + r, none⟩ = some (.slice p.ao p.bs.length p.cap) := by
  obtain ⟨⟨b, off, e, hc⟩, _⟩ := h r p hp
  refine ⟨b, off, e, fun w' hb => ?_⟩
  have hlt := World.block_lt_of_cell? _ _ hc
  rw [hb.cell (p := ⟨b, off + r, none⟩) (by omega), hc]
def totP (P : List PartV) : Nat := (P.map fun p => 1 + p.bs.length).sum
def catP (P : List PartV) : List UInt8 := P.flatMap PartV.bs
theorem take_succ_part {α : Type} {l : List α} {i : Nat} {c : α} (h : l[i]? = some c) : l.take (i + 1) = l.take i ++ [c] := by
  rw [List.take_add_one, h]
  rfl
theorem totP_step {P : List PartV} {i : Nat} {p : PartV} (h : P[i]? = some p) : totP (P.take (i + 1)) = totP (P.take i) + (1 + p.bs.length) := by
  rw [take_succ_part h]
  unfold totP
  rw [List.map_append, List.sum_append]
  simp
theorem catP_step {P : List PartV} {i : Nat} {p : PartV} (h : P[i]? = some p) : catP (P.take (i + 1)) = catP (P.take i) ++ p.bs := by
  rw [take_succ_part h]
  unfold catP
  rw [List.flatMap_append]
  simp
theorem catP_len (P : List PartV) : (catP P).length + P.length = totP P := by
  unfold catP totP
  induction P with
  | nil => rfl
  | cons x r ih =>
    simp only [List.flatMap_cons, List.length_append, List.map_cons, List.sum_cons, List.length_cons]
    omega
theorem totP_take (P : List PartV) (i : Nat) : totP (P.take i) ≤ totP P := by
  have : totP P = totP (P.take i) + totP (P.drop i) := by
    unfold totP
    rw [← List.sum_append, ← List.map_append, List.take_append_drop]
  omega
end Go.Proofs.Ytblblngcmgdnnaa
