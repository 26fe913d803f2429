/-
  KEYS IN MEMORY, and the calls of the laws in the class of worlds that keep them.
-/
import Derived.Test.YtcnceipkoapcpaaDoorKeyLives
namespace Go.Proofs.YtcnceipkoapcpaaDoor
open Go.RowKit

structure KAt (w : World) (g : Nat) (k : Kb) : Prop where
  t : w.cell? ⟨g, 0, none⟩ = some (.string k.t)
  p : w.cell? ⟨g, 1, none⟩ = some (.string k.p)
  r : w.cell? ⟨g, 2, none⟩ = some (.int .i64 k.r)
  c : w.cell? ⟨g, 3, none⟩ = some (.string k.c)
theorem KAt.below {w w' : World} {g : Nat} {k : Kb} (h : KAt w g k) {B : Nat} (hb : Below B w w') (hg : g < B) : KAt w' g k :=
  ⟨by rw [hb.cell hg, h.t], by rw [hb.cell hg, h.p], by rw [hb.cell hg, h.r], by rw [hb.cell hg, h.c]⟩
theorem KAt.of {w : World} {g : Nat} {k : Kb} {ty : TypeId} {z : Nat × Nat} (h : w.heap[g]? = some (.cells #[.string k.t, .string k.p, .int .i64 k.r, .string k.c] ty z)) : KAt w g k :=
  ⟨by simp [World.cell?, h], by simp [World.cell?, h], by simp [World.cell?, h], by simp [World.cell?, h]⟩
theorem KAt.lt {w : World} {g : Nat} {k : Kb} (h : KAt w g k) : g < w.heap.size := World.block_lt_of_cell? _ _ h.t
theorem KAt.new (w : World) (k : Kb) (ty : TypeId) : KAt (w.alloc (.cells #[.string k.t, .string k.p, .int .i64 k.r, .string k.c] ty)) w.heap.size k := KAt.of (heap_alloc_new w _)
theorem KAt.alloc {w : World} {g : Nat} {k : Kb} (h : KAt w g k) (o : Obj) : KAt (w.alloc o) g k := h.below ((Below.refl w.heap.size w).alloc (Nat.le_refl _) o) h.lt
theorem KAt.setOther {w : World} {g : Nat} {k : Kb} (h : KAt w g k) {a : Addr} (u : Value) (hne : g ≠ a.block) : KAt (w.setCell a u) g k := by
  have e : ∀ i, (w.setCell a u).cell? ⟨g, i, none⟩ = w.cell? ⟨g, i, none⟩ := fun i => World.cell?_of_block (Below.heap_setCell w a u g hne)
  exact ⟨by rw [e, h.t], by rw [e, h.p], by rw [e, h.r], by rw [e, h.c]⟩
/-- A key whose block is known whole, with two texts set. -/
theorem set_two {w : World} {g : Nat} {t2 p2 c2 : ByteArray} {r2 : Int} {ty : TypeId} {z : Nat × Nat} (h : w.heap[g]? = some (.cells #[.string t2, .string p2, .int .i64 r2, .string c2] ty z)) (t1 p1 : ByteArray) :
    KAt ((w.setCell ⟨g, 0, none⟩ (.string t1)).setCell ⟨g, 1, none⟩ (.string p1)) g ⟨t1, p1, r2, c2⟩ := by
  refine KAt.of (ty := ty) (z := z) ?_
  simp only [World.setCell, Array.getElem?_modify, h]
  simp
theorem set_two' {w : World} {g : Nat} {t2 p2 c2 : ByteArray} {r2 : Int} {ty : TypeId} {z : Nat × Nat} (h : w.heap[g]? = some (.cells #[.string t2, .string p2, .int .i64 r2, .string c2] ty z)) (t1 p1 : ByteArray) :
    KAt ((w.setCell ⟨g, 1, none⟩ (.string p1)).setCell ⟨g, 0, none⟩ (.string t1)) g ⟨t1, p1, r2, c2⟩ := by
  refine KAt.of (ty := ty) (z := z) ?_
  simp only [World.setCell, Array.getElem?_modify, h]
  simp
theorem frozen_of {w : World} {g : Nat} {cs : Array Value} {ty : TypeId} (h : w.heap[g]? = some (.cells cs ty)) (i : Nat) : w.frozen? ⟨g, i, none⟩ = false := by simp [World.frozen?, h]
/-- Two keys are one, as the walk spells it. -/
def eqK (a b : Kb) : Bool := a.t.toList == b.t.toList && (a.p.toList == b.p.toList && (a.r == b.r && a.c.toList == b.c.toList))
theorem eqK_iff (a b : Kb) : eqK a b = true ↔ a = b := by
  unfold eqK
  rw [ba_same, ba_same, ba_same]
  cases a; cases b
  simp only [Bool.and_eq_true, decide_eq_true_eq, beq_iff_eq, Kb.mk.injEq]
theorem eqK_kc (a b : Kb) : (kc a.ky b.ky == 0) = eqK a b := by
  rw [Bool.eq_iff_iff, beq_iff_eq, eqK_iff, kc_cmpr.z, Kb.ky_inj]
/-- How two keys compare, of their parts. -/
def kcB (t1 p1 : ByteArray) (r1 : Int) (c1 t2 p2 : ByteArray) (r2 : Int) (c2 : ByteArray) : Int := kc (Kb.ky ⟨t1, p1, r1, c1⟩) (Kb.ky ⟨t2, p2, r2, c2⟩)
end Go.Proofs.YtcnceipkoapcpaaDoor
