/-
  CELLS IN MEMORY, and how heavy they are ('weigh').
-/
import Derived.Test.YtgjajffpkjcenaaDoorVerLives
namespace Go.Proofs.YtgjajffpkjcenaaDoor
open Go.RowKit

/-- Ten cells, one by one. -/
structure TenX (w : World) (b o : Nat) (c : Cx) : Prop where
  c0 : w.cell? ⟨b, o, none⟩ = some (.string c.k.t)
  c1 : w.cell? ⟨b, o + 1, none⟩ = some (.string c.k.p)
  c2 : w.cell? ⟨b, o + 2, none⟩ = some (.int .i64 c.k.r)
  c3 : w.cell? ⟨b, o + 3, none⟩ = some (.string c.k.c)
  c4 : w.cell? ⟨b, o + 4, none⟩ = some (.int .i64 c.v.time)
  c5 : w.cell? ⟨b, o + 5, none⟩ = some (.bool c.v.dead)
  c6 : w.cell? ⟨b, o + 6, none⟩ = some (.int .i64 c.v.loc)
  c7 : w.cell? ⟨b, o + 7, none⟩ = some (.int .i64 c.v.kind)
  c8 : w.cell? ⟨b, o + 8, none⟩ = some (.int .i64 c.v.num)
  c9 : w.cell? ⟨b, o + 9, none⟩ = some (.string c.v.s)
theorem TenX.lt {w : World} {b o : Nat} {c : Cx} (h : TenX w b o c) : b < w.heap.size := World.block_lt_of_cell? _ _ h.c0
theorem TenX.below {w w' : World} {b o : Nat} {c : Cx} (h : TenX w b o c) {B : Nat} (hb : Below B w w') (hB : b < B) : TenX w' b o c :=
  ⟨by rw [hb.cell hB, h.c0], by rw [hb.cell hB, h.c1], by rw [hb.cell hB, h.c2], by rw [hb.cell hB, h.c3], by rw [hb.cell hB, h.c4], by rw [hb.cell hB, h.c5], by rw [hb.cell hB, h.c6], by rw [hb.cell hB, h.c7], by rw [hb.cell hB, h.c8], by rw [hb.cell hB, h.c9]⟩
theorem TenX.alloc {w : World} {b o : Nat} {c : Cx} (h : TenX w b o c) (ob : Obj) : TenX (w.alloc ob) b o c := h.below ((Below.refl w.heap.size w).alloc (Nat.le_refl _) ob) h.lt
theorem TenX.of {w : World} {g : Nat} {c : Cx} {ty : TypeId} {z : Nat × Nat} (h : w.heap[g]? = some (.cells c.a ty z)) : TenX w g 0 c := by
  constructor <;> simp [World.cell?, h, Cx.a]
theorem TenX.new (w : World) (c : Cx) (ty : TypeId) : TenX (w.alloc (.cells c.a ty)) w.heap.size 0 c := TenX.of (heap_alloc_new w _)
/-- The cells l can be read from the address on. -/
def XSees (w : World) (ao : Option Addr) (l : List Cx) : Prop := ∀ i c, l[i]? = some c → ∃ b off, ao = some ⟨b, off, none⟩ ∧ TenX w b (off + i * 10) c
theorem XSees.below {w w' : World} {ao : Option Addr} {l : List Cx} (h : XSees w ao l) {B : Nat} (hb : Below B w w') (hB : w.heap.size ≤ B) : XSees w' ao l := by
  intro i c hc
  obtain ⟨b, off, e, hr⟩ := h i c hc
  exact ⟨b, off, e, hr.below hb (Nat.lt_of_lt_of_le hr.lt hB)⟩
/-- The bytes of a cell's texts. -/
def wtX (c : Cx) : Nat := c.k.t.size + c.k.p.size + c.k.c.size + c.v.s.size
def wtXs (l : List Cx) : Nat := (l.map wtX).sum
theorem takeX_succ {α : Type} {l : List α} {i : Nat} {c : α} (h : l[i]? = some c) : l.take (i + 1) = l.take i ++ [c] := by
  rw [List.take_add_one, h]
  rfl
end Go.Proofs.YtgjajffpkjcenaaDoor
