/-
  CONTRACTS: how two versions compare, by the program and by the document; which one is joined.
-/
import Derived.Test.YtgjajffpkjcenaaDoorVerPlain
import Derived.Test.YtgjajffpkjcenaaDoorRegCl
namespace Go.Proofs.YtgjajffpkjcenaaDoor
open Go.RowKit

/-- A version whose cells lie in memory. -/
structure VAt (w : World) (g o : Nat) (a : Vr) : Prop where
  time : w.cell? ⟨g, o, none⟩ = some (.int .i64 a.time)
  dead : w.cell? ⟨g, o + 1, none⟩ = some (.bool a.dead)
  loc : w.cell? ⟨g, o + 2, none⟩ = some (.int .i64 a.loc)
  kind : w.cell? ⟨g, o + 3, none⟩ = some (.int .i64 a.kind)
  num : w.cell? ⟨g, o + 4, none⟩ = some (.int .i64 a.num)
  s : w.cell? ⟨g, o + 5, none⟩ = some (.string a.s)
def Vr.a (a : Vr) : Array Value := #[.int .i64 a.time, .bool a.dead, .int .i64 a.loc, .int .i64 a.kind, .int .i64 a.num, .string a.s]
theorem VAt.below {w w' : World} {g o : Nat} {k : Vr} (h : VAt w g o k) {B : Nat} (hb : Below B w w') (hg : g < B) : VAt w' g o k :=
  ⟨by rw [hb.cell hg, h.time], by rw [hb.cell hg, h.dead], by rw [hb.cell hg, h.loc], by rw [hb.cell hg, h.kind], by rw [hb.cell hg, h.num], by rw [hb.cell hg, h.s]⟩
theorem VAt.of {w : World} {g : Nat} {k : Vr} {ty : TypeId} {z : Nat × Nat} (h : w.heap[g]? = some (.cells k.a ty z)) : VAt w g 0 k :=
  ⟨by simp [World.cell?, h, Vr.a], by simp [World.cell?, h, Vr.a], by simp [World.cell?, h, Vr.a], by simp [World.cell?, h, Vr.a], by simp [World.cell?, h, Vr.a], by simp [World.cell?, h, Vr.a]⟩
theorem VAt.lt {w : World} {g o : Nat} {k : Vr} (h : VAt w g o k) : g < w.heap.size := World.block_lt_of_cell? _ _ h.time
theorem VAt.new (w : World) (k : Vr) (ty : TypeId) : VAt (w.alloc (.cells k.a ty)) w.heap.size 0 k := VAt.of (heap_alloc_new w _)
theorem VAt.alloc {w : World} {g o : Nat} {k : Vr} (h : VAt w g o k) (ob : Obj) : VAt (w.alloc ob) g o k := h.below ((Below.refl w.heap.size w).alloc (Nat.le_refl _) ob) h.lt
/-- Two boxes. -/
theorem boxes2 (w : World) (a b : Vr) : VAt ((w.alloc (.cells a.a 45)).alloc (.cells b.a 45)) w.heap.size 0 a ∧ VAt ((w.alloc (.cells a.a 45)).alloc (.cells b.a 45)) (w.heap.size + 1) 0 b ∧ Below w.heap.size w ((w.alloc (.cells a.a 45)).alloc (.cells b.a 45)) := by
  refine ⟨(VAt.new w a _).alloc _, ?_, ((Below.refl _ _).alloc (Nat.le_refl _) _).alloc (by simp) _⟩
  have := VAt.new (w.alloc (.cells a.a 45)) b 45
  rwa [World.size_alloc] at this
theorem verEq_run (a b : Vr) (w : World) : (binOp BinOp.eql 45 (.agg a.a) (.agg b.a)).run Tryd.prog w = .ok (.bool (eqV a b)) w := by
  unfold Vr.a eqV
  obtain ⟨t1, d1, l1, k1, n1, s1⟩ := a
  obtain ⟨t2, d2, l2, k2, n2, s2⟩ := b
  go_simp
  by_cases e1 : t1 = t2 <;> by_cases e2 : d1 = d2 <;> by_cases e3 : l1 = l2 <;> by_cases e4 : k1 = k2 <;> by_cases e5 : n1 = n2 <;> by_cases e6 : s1.toList = s2.toList <;> simp [e1, e2, e3, e4, e5, e6]
theorem ne_parts {t1 t2 l1 l2 k1 k2 n1 n2 : Int} {d1 d2 : Bool} {s1 s2 : ByteArray} (h : ¬ (⟨t1, d1, l1, k1, n1, s1⟩ : Vr) = ⟨t2, d2, l2, k2, n2, s2⟩) (ht : t1 = t2) (hd : d1 = d2) :
    l1 ≠ l2 ∨ (l1 = l2 ∧ k1 ≠ k2) ∨ (l1 = l2 ∧ k1 = k2 ∧ n1 ≠ n2) ∨ (l1 = l2 ∧ k1 = k2 ∧ n1 = n2 ∧ s1.toList ≠ s2.toList) := by
  by_cases e3 : l1 = l2
  · by_cases e4 : k1 = k2
    · by_cases e5 : n1 = n2
      · refine Or.inr (Or.inr (Or.inr ⟨e3, e4, e5, fun e6 => h ?_⟩))
        rw [ba_list, ba_list] at e6
        rw [ht, hd, e3, e4, e5, nb_inj.1 e6]
      · exact Or.inr (Or.inr (Or.inl ⟨e3, e4, e5⟩))
    · exact Or.inr (Or.inl ⟨e3, e4⟩)
  · exact Or.inl e3
end Go.Proofs.YtgjajffpkjcenaaDoor
