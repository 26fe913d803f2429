/-
  CONTRACTS: Get, for every argument.
-/
import Derived.Test.YthihljjefncfoaaDoorCodGet
namespace Go.Proofs.YthihljjefncfoaaDoor
open Go.RowKit

/-- A reader that was just made. -/
theorem Rd.made {w : World} {ao : Option Addr} {l : List UInt8} {cap : Nat} (hs : Sees w ao l) (hl : l.length ≤ 140737488355000) : Rd (w.alloc (.cells #[.slice ao l.length cap, .int .i64 0] 89)) w.heap.size ao l cap 0 := by
  refine ⟨by simp [go_sem], by simp [go_sem], by simp [go_sem], by omega, hl, hs.below ((Below.refl _ _).alloc (Nat.le_refl _) _) (Nat.le_refl _), fun hne a ea e => ?_⟩
  obtain ⟨a', ea', hc⟩ := hs 0 (by omega)
  obtain rfl := Option.some.inj (ea.symm.trans ea')
  have := World.block_lt_of_cell? _ _ hc
  rw [Addr.add_block] at this
  omega
theorem below_made {w w' : World} {o : Obj} (h : (w.alloc o).grownBy w' (some w.heap.size)) : Below w.heap.size w w' :=
  ⟨h.os, h.tape, h.output, by have := h.size; rw [World.size_alloc] at this; omega, fun k hk => (h.block k (by rw [World.size_alloc]; omega) (fun e => by have := Option.some.inj e; omega)).trans (Below.heap_alloc _ _ _ hk)⟩
theorem err_alloc {w : World} {u : TypeId} {pv : Value} (he : Err w u pv) (o : Obj) : Err (w.alloc o) u pv := by
  unfold Err at he ⊢
  rw [World.cell?_of_block (Below.heap_alloc _ _ _ (World.block_lt_of_cell? _ _ he)), he]
theorem Err.below {w w' : World} {u : TypeId} {pv : Value} (he : Err w u pv) {B : Nat} (hb : Below B w w') (hB : w.heap.size ≤ B) : Err w' u pv := by
  unfold Err at he ⊢
  have := World.block_lt_of_cell? _ _ he
  rw [hb.cell (p := ⟨1, 0, none⟩) (by omega), he]

set_option maxRecDepth 100000 in
set_option maxHeartbeats 400000 in
theorem get_ok (ao : Option Addr) (l : List UInt8) (cap : Nat) (w : World) (v : Nat) (r : List UInt8) (hs : Sees w ao l) (hl : l.length ≤ 140737488355000) (hg : getN 0 0 l = some (v, r)) :
    Calls Tryd.prog 50 #[.slice ao l.length cap] w fun e w' => e = .returned (.tuple #[.int .u64 v, .int .i64 ((l.length - r.length : Nat) : Int)]) ∧ Below w.heap.size w w' := by
  have hmf : ∀ (fn : Fn) (first cap : Array Value) (w : World), (Instr.makeFunc fn first cap).run Tryd.prog w = .ok (.func fn first cap) w := fun _ _ _ _ => rfl
  have Hc : Hid _ := attempt_ok _ ao l cap 0 _ v r (Rd.made hs hl) hg
  clear hs hg
  go_enter Tryd.func50, Tryd.ntmps50
  go_wp2_with fail
  refine Calls.mono (Hid.out Hc) ?_
  rintro e w2 ⟨rfl, m, hR2, hd, hm, hg2⟩
  have hc1 := hR2.c1
  have Hm : Hid (m = l.length - r.length) := by
    have h1 := congrArg List.length hd
    have h2 := hR2.le
    rw [List.length_drop] at h1
    show m = _
    omega
  clear hd
  go_wp2_with fail
  go_quiet (fail)
  go_wp2
  go_ret2
  refine ⟨by rw [← Hm.out]; rfl, (below_made hg2).trans ?_⟩
  exact ⟨rfl, rfl, rfl, Nat.le_refl _, fun _ _ => rfl⟩

set_option maxRecDepth 100000 in
set_option maxHeartbeats 400000 in
theorem get_no (ao : Option Addr) (l : List UInt8) (cap : Nat) (w : World) (u : TypeId) (pv : Value) (hs : Sees w ao l) (hl : l.length ≤ 140737488355000) (hg : getN 0 0 l = none) (he : Err w u pv) :
    Calls Tryd.prog 50 #[.slice ao l.length cap] w fun e w' => e = .returned (.tuple #[.int .u64 0, .int .i64 0]) ∧ Below w.heap.size w w' := by
  have hmf : ∀ (fn : Fn) (first cap : Array Value) (w : World), (Instr.makeFunc fn first cap).run Tryd.prog w = .ok (.func fn first cap) w := fun _ _ _ _ => rfl
  have Hc : Hid _ := attempt_no _ ao l cap 0 _ u pv (Rd.made hs hl) hg (err_alloc he _) (by have := World.block_lt_of_cell? _ _ he; show w.heap.size ≠ _; have h2 : (⟨1, 0, none⟩ : Addr).block < w.heap.size := this; simp at h2; omega)
  clear hs hg he
  go_enter Tryd.func50, Tryd.ntmps50
  go_wp2_with fail
  refine Calls.mono (Hid.out Hc) ?_
  rintro e w2 ⟨rfl, m, hR2, hg2⟩
  go_wp2_with fail
  go_ret2
  exact ⟨rfl, below_made hg2⟩

theorem get_ok_at (ao : Option Addr) (l : List UInt8) (n cap : Nat) (w : World) (v k : Nat) (r : List UInt8) (hn : l.length = n) (hk : n - r.length = k) (hs : Sees w ao l) (hl : n ≤ 140737488355000) (hg : getN 0 0 l = some (v, r)) :
    Calls Tryd.prog 50 #[.slice ao n cap] w fun e w' => e = .returned (.tuple #[.int .u64 v, .int .i64 k]) ∧ Below w.heap.size w w' := by
  subst hn
  subst hk
  exact get_ok ao l cap w v r hs hl hg
theorem get_no_at (ao : Option Addr) (l : List UInt8) (n cap : Nat) (w : World) (u : TypeId) (pv : Value) (hn : l.length = n) (hs : Sees w ao l) (hl : n ≤ 140737488355000) (hg : getN 0 0 l = none) (he : Err w u pv) :
    Calls Tryd.prog 50 #[.slice ao n cap] w fun e w' => e = .returned (.tuple #[.int .u64 0, .int .i64 0]) ∧ Below w.heap.size w w' := by
  subst hn
  exact get_no ao l cap w u pv hs hl hg he
theorem owns_heap {w w' : World} {base : Nat} {e : TypeId} {size : Nat} {v : Value} {n : Nat} {xs : List Value} (h : w.ownsRow base e size v n xs) (hb : ∀ k, v.ownBlock = some k → w'.heap[k]? = w.heap[k]?) : w'.ownsRow base e size v n xs := by
  refine ⟨h.1, ?_⟩
  rcases h.2 with hn | ⟨g, cap, cur, rfl, hg, hh, r⟩
  · exact .inl hn
  · exact .inr ⟨g, cap, cur, rfl, hg, (hb g rfl).trans hh, r⟩
end Go.Proofs.YthihljjefncfoaaDoor
