/-
  CONTRACTS: a good cell; the document's examples ('lives').
-/
import Derived.Test.YtkdeaogmifhnhaaVerJoin
namespace Go.Proofs.Ytkdeaogmifhnhaa
open Go.RowKit

/-- A cell. -/
structure Cx where
  k : Kb
  v : Vr
def Cx.a (c : Cx) : Array Value := #[.string c.k.t, .string c.k.p, .int .i64 c.k.r, .string c.k.c, .int .i64 c.v.time, .bool c.v.dead, .int .i64 c.v.loc, .int .i64 c.v.kind, .int .i64 c.v.num, .string c.v.s]
def Cx.val (c : Cx) : Value := .agg c.a
def goodC (c : Cx) : Bool := goodK c.k.ky && goodV (decide (c.k.c.size = 0)) c.v
theorem goodV_dead {m : Bool} {a : Vr} (h : a.dead = true) : goodV m a = (a.kind == 0 && (a.num == 0 && decide (a.s.size = 0))) := by unfold goodV zeroVal; rw [if_pos h]
theorem goodV_live {m : Bool} {a : Vr} (h : a.dead = false) : goodV m a = (a.loc == 0 && goodU m a.kind a.num a.s) := by unfold goodV zeroVal goodU; rw [if_neg (by rw [h]; simp)]
theorem size_none (s : ByteArray) (h : s.size = 0) : s = ⟨#[]⟩ := size0 h

theorem goodX_world (w : World) (c : Cx) : ∃ wa, wa = (w.alloc (.cells c.a 35)).alloc (.cells c.v.a 33) ∧ VAt wa (w.heap.size + 1) 0 c.v ∧ wa.cell? ⟨w.heap.size, 3, none⟩ = some (.string c.k.c) ∧ w.heap.size < wa.heap.size ∧ Below w.heap.size w wa := by
  refine ⟨_, rfl, ?_, ?_, by rw [World.size_alloc, World.size_alloc]; omega, ((Below.refl _ _).alloc (Nat.le_refl _) _).alloc (by simp) _⟩
  · have := VAt.new (w.alloc (.cells c.a 35)) c.v 33
    rwa [World.size_alloc] at this
  · exact (box_cells w _ _ _ 3 _ rfl).1
theorem chain_next (t1 t2 l1 l2 k1 k2 n1 n2 : Int) (d1 d2 : Bool) (s1 s2 : ByteArray) (w : World) : (if t1 = t2 then if d1 = d2 then if l1 = l2 then if k1 = k2 then if n1 = n2 then if s1.toList = s2.toList then Result.ok (Next.value (Value.bool true)) w else Result.ok (Next.value (Value.bool false)) w else Result.ok (Next.value (Value.bool false)) w else Result.ok (Next.value (Value.bool false)) w else Result.ok (Next.value (Value.bool false)) w else Result.ok (Next.value (Value.bool false)) w else Result.ok (Next.value (Value.bool false)) w) = Result.ok (Next.value (Value.bool (eqV ⟨t1, d1, l1, k1, n1, s1⟩ ⟨t2, d2, l2, k2, n2, s2⟩))) w := by
  unfold eqV
  by_cases e1 : t1 = t2 <;> by_cases e2 : d1 = d2 <;> by_cases e3 : l1 = l2 <;> by_cases e4 : k1 = k2 <;> by_cases e5 : n1 = n2 <;> by_cases e6 : s1.toList = s2.toList <;> simp [e1, e2, e3, e4, e5, e6]
def vA : Vr := ⟨5, false, 0, 2, 0, ⟨#[97]⟩⟩
def vB : Vr := ⟨5, false, 0, 2, 0, ⟨#[98]⟩⟩
def vD : Vr := ⟨5, true, 3, 0, 0, ⟨#[]⟩⟩
def vL : Vr := ⟨6, false, 0, 2, 0, ⟨#[97]⟩⟩
theorem jAD : jn vA vD = vD := by unfold jn; rw [if_pos (by decide)]
theorem jDL : jn vD vL = vL := by unfold jn; rw [if_pos (by decide)]
theorem jBA : jn vB vA = vB := by unfold jn; rw [if_neg (by decide)]
def cA : Cx := ⟨⟨⟨#[116]⟩, ⟨#[120]⟩, 1, ⟨#[97]⟩⟩, vA⟩
theorem gA : goodC cA = true := by decide
theorem boxes4 (w : World) (a b c d : Vr) : ∃ wa, wa = (((w.alloc (.cells a.a 33)).alloc (.cells b.a 33)).alloc (.cells c.a 33)).alloc (.cells d.a 33) ∧ VAt wa w.heap.size 0 a ∧ VAt wa (w.heap.size + 1) 0 b ∧ VAt wa (w.heap.size + 1 + 1) 0 c ∧ VAt wa (w.heap.size + 1 + 1 + 1) 0 d ∧ Below w.heap.size w wa := by
  obtain ⟨w3, rfl, v1, v2, v3, _, hB⟩ := boxes3 w a b c
  refine ⟨_, rfl, v1.alloc _, v2.alloc _, v3.alloc _, ?_, hB.alloc hB.size _⟩
  have := VAt.new (((w.alloc (.cells a.a 33)).alloc (.cells b.a 33)).alloc (.cells c.a 33)) d 33
  rwa [World.size_alloc, World.size_alloc, World.size_alloc] at this
theorem VAt.cl {w : World} {g : Nat} {a : Vr} (h : VAt w g 0 a) (q : Cl w.heap.size w) : VAt q.u g 0 a := h.below q.h h.lt
end Go.Proofs.Ytkdeaogmifhnhaa
