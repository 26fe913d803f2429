/-
  BLOCKS OF CELLS, and worlds that differ in a list of blocks alone.
-/
import Derived.Test.YtajebjkpmbehgaaGreatDoorOwn
import Derived.Deep.QuietTactic
namespace Go.Proofs.YtajebjkpmbehgaaGreatDoor
open Go.RowKit

/-- A block that holds these cells. -/
def Blk (w : World) (g : Nat) (cs : List Value) (t : TypeId) : Prop := w.heap[g]? = some (.cells cs.toArray t (0, 0))
section
variable {w w' : World} {g : Nat} {cs : List Value} {t : TypeId}
theorem Blk.lt (h : Blk w g cs t) : g < w.heap.size := (Array.getElem?_eq_some_iff.1 h).1
theorem Blk.cell (h : Blk w g cs t) (i : Nat) {v : Value} (hv : cs[i]? = some v) : w.cell? ⟨g, i, none⟩ = some v := by
  unfold Blk at h
  simp only [World.cell?, h]
  simpa using hv
theorem Blk.frozen (h : Blk w g cs t) (i : Nat) : w.frozen? ⟨g, i, none⟩ = false := by
  unfold Blk at h
  simp [World.frozen?, h]
theorem Blk.carry (h : Blk w g cs t) (e : w'.heap[g]? = w.heap[g]?) : Blk w' g cs t := e.trans h
theorem Blk.set (h : Blk w g cs t) (i : Nat) (v : Value) : Blk (w.setCell ⟨g, i, none⟩ v) g (cs.set i v) t := by
  unfold Blk at h ⊢
  simp only [World.setCell, Array.getElem?_modify, h]
  simp
theorem Blk.setTo (h : Blk w g cs t) (i : Nat) (v : Value) (cs' : List Value) (e : cs.set i v = cs') : Blk (w.setCell ⟨g, i, none⟩ v) g cs' t := e ▸ h.set i v
theorem Blk.new (w : World) (cs : List Value) (t : TypeId) : Blk (w.alloc (.cells cs.toArray t)) w.heap.size cs t := heap_alloc_new w _
theorem Blk.alloc (h : Blk w g cs t) (o : Obj) : Blk (w.alloc o) g cs t := h.carry (Below.heap_alloc _ _ _ h.lt)
end

/-- From w to w': only blocks of the list (and new ones) were written, the new list lies in the old one or is new. -/
structure Moved (w w' : World) (ft ft' : List Nat) : Prop where
  os : w'.os = w.os
  tape : w'.tape = w.tape
  output : w'.output = w.output
  size : w.heap.size ≤ w'.heap.size
  kept : ∀ i, i < w.heap.size → i ∉ ft → w'.heap[i]? = w.heap[i]?
  news : ∀ i, i ∈ ft' → i ∈ ft ∨ w.heap.size ≤ i
theorem Moved.refl (w : World) (ft : List Nat) : Moved w w ft ft := ⟨rfl, rfl, rfl, Nat.le_refl _, fun _ _ _ => rfl, fun _ h => .inl h⟩
theorem Moved.trans {w w1 w2 : World} {a b c : List Nat} (h : Moved w w1 a b) (k : Moved w1 w2 b c) : Moved w w2 a c := by
  have hs := h.size
  refine ⟨k.os.trans h.os, k.tape.trans h.tape, k.output.trans h.output, Nat.le_trans hs k.size, fun i hi hn => ?_, fun i hi => ?_⟩
  · refine (k.kept i (by omega) fun e => ?_).trans (h.kept i hi hn)
    rcases h.news i e with h1 | h1
    · exact hn h1
    · omega
  · rcases k.news i hi with h1 | h1
    · exact h.news i h1
    · exact .inr (by omega)
theorem Moved.wider {w w' : World} {a a' b b' : List Nat} (h : Moved w w' a b) (ha : ∀ i ∈ a, i ∈ a' ∨ w.heap.size ≤ i) (hb : ∀ i ∈ b', i ∈ a' ∨ i ∈ b ∨ w.heap.size ≤ i) : Moved w w' a' b' := by
  refine ⟨h.os, h.tape, h.output, h.size, fun i hi hn => h.kept i hi fun e => ?_, fun i hi => ?_⟩
  · rcases ha i e with h1 | h1
    · exact hn h1
    · omega
  · rcases hb i hi with h1 | h1 | h1
    · exact .inl h1
    · rcases h.news i h1 with h2 | h2
      · rcases ha i h2 with h3 | h3
        · exact .inl h3
        · exact .inr h3
      · exact .inr h2
    · exact .inr h1
theorem Moved.sub {w w' : World} {a b b' : List Nat} (h : Moved w w' a b) (hb : ∀ i ∈ b', i ∈ b) : Moved w w' a b' := h.wider (fun _ hi => .inl hi) (fun i hi => .inr (.inl (hb i hi)))
theorem Moved.of_grown {w w' : World} {r : Option Nat} (h : w.grownBy w' r) : Moved w w' r.toList r.toList :=
  ⟨h.os, h.tape, h.output, h.size, fun i hi hn => h.block i hi (fun e => hn (by rw [← e]; simp)), fun _ h => .inl h⟩
theorem Moved.none_of {w w' : World} (h : w.grownBy w' none) (ft : List Nat) : Moved w w' ft ft := (Moved.of_grown h).wider (by simp) (fun i hi => .inl hi)
theorem Moved.alloc {w : World} (o : Obj) (ft : List Nat) : Moved w (w.alloc o) ft ft := Moved.none_of (World.grownBy_alloc w o none) ft
theorem Moved.below {w w' : World} {a b : List Nat} (h : Moved w w' a b) {B : Nat} (hB : B ≤ w.heap.size) (ha : ∀ i ∈ a, B ≤ i) : Below B w w' :=
  ⟨h.os, h.tape, h.output, h.size, fun k hk => h.kept k (by omega) fun e => by have := ha k e; omega⟩
theorem Moved.drew {w w' : World} {a b : List Nat} (h : Moved w w' a b) : Moved w w'.drew a b := ⟨h.os, h.tape, h.output, h.size, h.kept, h.news⟩
theorem Moved.drewN {w w' : World} {a b : List Nat} (h : Moved w w' a b) (k : Nat) : Moved w (w'.drewN k) a b := ⟨h.os, h.tape, h.output, h.size, h.kept, h.news⟩
theorem Moved.of_set {w : World} (g i : Nat) (v : Value) : Moved w (w.setCell ⟨g, i, none⟩ v) [g] [g] :=
  ⟨rfl, rfl, rfl, by simp [World.setCell], fun k _ hn => Below.heap_setCell _ _ _ _ (fun e => hn (by simp [e])), fun _ h => .inl h⟩
end Go.Proofs.YtajebjkpmbehgaaGreatDoor
