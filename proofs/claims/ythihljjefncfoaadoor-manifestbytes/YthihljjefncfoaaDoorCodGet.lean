/-
  CONTRACTS: attempt at a number, and Get, each for every argument.
-/
import Derived.Test.YthihljjefncfoaaDoorCodNum
import Derived.Defers
import Derived.Recover
import Derived.Laws.Pointers
import Derived.WideLaws
namespace Go.Proofs.YthihljjefncfoaaDoor
open Go.RowKit

/-- The deferred closure, of a frame that panics: the panic is over, and the mark says no. -/
theorem catch_panicking (p : Addr) (x : Bool) (u : TypeId) (pv : Value) (w : World) (hc : w.cell? p = some (.bool x)) (hz : w.frozen? p = false) :
    CallsD Tryd.prog 61 #[.pointer (some p)] (.panicking [{ v := .iface u pv, recovered := false }]) w fun e u' w' =>
      e = .returned (.tuple #[]) ∧ u' = .panicking [{ v := .iface u pv, recovered := true }] ∧ w' = w.setCell p (.bool false) := by
  refine callsD_of_wpS Tryd.func61 rfl fun c₀ cs hu => ?_
  apply wpS_region
  simp [wpOpsS, go_sem, recoverD, hu, Tryd.ntmps61, hc, hz, bodyPostS, results, Tryd.results61]

theorem catch_idle (p : Addr) (x : Bool) (w : World) (hc : w.cell? p = some (.bool x)) (hz : w.frozen? p = false) :
    CallsD Tryd.prog 61 #[.pointer (some p)] .returning w fun e u' w' => e = .returned (.tuple #[]) ∧ u' = .returning ∧ w' = w.setCell p (.bool true) := by
  refine callsD_of_wpS Tryd.func61 rfl fun c₀ cs hu => ?_
  apply wpS_region
  simp [wpOpsS, go_sem, recoverD, hu, Tryd.ntmps61, hc, hz, bodyPostS, results, Tryd.results61]
  cases c₀
  simp_all

theorem Rd.lt {w : World} {R : Nat} {ao : Option Addr} {l : List UInt8} {cap n : Nat} (h : Rd w R ao l cap n) : R < w.heap.size := World.block_lt_of_cell? _ _ h.c0
/-- Whatever leaves the reader's block and the bytes alone leaves the reader as it was. -/
theorem Rd.carry {w w' : World} {R : Nat} {ao : Option Addr} {l : List UInt8} {cap n : Nat} (h : Rd w R ao l cap n) (hb : ∀ k, k < w.heap.size → w'.heap[k]? = w.heap[k]?) : Rd w' R ao l cap n := by
  have e : ∀ p : Addr, p.block < w.heap.size → w'.cell? p = w.cell? p := fun p hp => World.cell?_of_block (hb p.block hp)
  refine ⟨?_, ?_, ?_, h.le, h.max, ?_, h.ne⟩
  · rw [e ⟨R, 0, none⟩ h.lt]; exact h.c0
  · rw [e ⟨R, 1, none⟩ h.lt]; exact h.c1
  · rw [World.frozen?_of_block (a := ⟨R, 1, none⟩) (hb R h.lt)]; exact h.f1
  · intro i hi
    obtain ⟨a, ea, hc⟩ := h.sees i hi
    exact ⟨a, ea, by rw [e _ (World.block_lt_of_cell? _ _ hc)]; exact hc⟩

theorem Rd.setOther {w w0 : World} {R : Nat} {ao : Option Addr} {l : List UInt8} {cap n : Nat} (h : Rd w R ao l cap n) (hs : Sees w0 ao l) (hR : R < w0.heap.size) {p : Addr} (hp : w0.heap.size ≤ p.block) (x : Value) : Rd (w.setCell p x) R ao l cap n := by
  have e : ∀ q : Addr, q.block < w0.heap.size → (w.setCell p x).cell? q = w.cell? q := fun q hq => World.cell?_setCell_other _ _ _ _ (fun e' => by rw [e'] at hp; omega)
  refine ⟨?_, ?_, ?_, h.le, h.max, ?_, h.ne⟩
  · rw [e ⟨R, 0, none⟩ hR]; exact h.c0
  · rw [e ⟨R, 1, none⟩ hR]; exact h.c1
  · rw [World.frozen?_setCell]; exact h.f1
  · intro i hi
    obtain ⟨a, ea, hc⟩ := h.sees i hi
    obtain ⟨a', ea', hc'⟩ := hs i hi
    obtain rfl := Option.some.inj (ea.symm.trans ea')
    exact ⟨a, ea, by rw [e _ (World.block_lt_of_cell? _ _ hc')]; exact hc⟩
/-- Beside the reader's block only new ones were written. -/
theorem grownBy_setNew {w w' : World} {R : Option Nat} {p : Addr} {x : Value} (h : w.grownBy w' R) (hp : w.heap.size ≤ p.block) : w.grownBy (w'.setCell p x) R :=
  ⟨h.os, h.tape, h.output, by rw [size_setCell]; exact h.size, fun k hk hne => (Below.heap_setCell _ _ _ _ (by omega)).trans (h.block k hk hne)⟩
theorem grownBy_alloc {w w' : World} {R : Option Nat} {o : Obj} (h : (w.alloc o).grownBy w' R) : w.grownBy w' R := by
  have hs := h.size
  rw [World.size_alloc] at hs
  exact ⟨h.os, h.tape, h.output, by omega, fun k hk hne => (h.block k (by rw [World.size_alloc]; omega) hne).trans (Below.heap_alloc _ _ _ hk)⟩

set_option maxRecDepth 100000 in
set_option maxHeartbeats 400000 in
theorem attempt_ok (R : Nat) (ao : Option Addr) (l : List UInt8) (cap n : Nat) (w : World) (v : Nat) (r : List UInt8) (h : Rd w R ao l cap n) (hg : getN 0 0 (l.drop n) = some (v, r)) :
    Calls Tryd.prog 57 #[.func (.func 58) #[.pointer (some ⟨R, 0, none⟩)] #[]] w fun e w' => e = .returned (.tuple #[.int .u64 v, .bool true]) ∧ ∃ m, Rd w' R ao l cap m ∧ l.drop m = r ∧ n < m ∧ w.grownBy w' (some R) := by
  have hmf : ∀ (fn : Fn) (first cap : Array Value) (w : World), (Instr.makeFunc fn first cap).run Tryd.prog w = .ok (.func fn first cap) w := fun _ _ _ _ => rfl
  have hlt := h.lt
  have hs0 := h.sees
  have h1 : Rd (w.alloc (.cells #[.bool false] 4)) R ao l cap n := h.carry fun k hk => Below.heap_alloc _ _ _ hk
  have Hc : Hid _ := number_ok R ao l cap n _ v r h1 hg
  clear h h1 hg
  go_enter_defers Tryd.func57, Tryd.ntmps57
  go_wp2_with fail
  refine Calls.mono (Hid.out Hc) ?_
  rintro e w2 ⟨rfl, m, hR2, hd, hm, hg2⟩
  have hB := hg2.block w.heap.size (by simp) (fun e => by have := Option.some.inj e; omega)
  have hc2 : w2.cell? ⟨w.heap.size, 0, none⟩ = some (.bool false) := by rw [World.cell?_of_block (a := ⟨w.heap.size, 0, none⟩) hB]; simp [go_sem]
  have hf2 : w2.frozen? ⟨w.heap.size, 0, none⟩ = false := by rw [World.frozen?_of_block (a := ⟨w.heap.size, 0, none⟩) hB]; simp [go_sem]
  clear hB Hc
  go_wp2_with fail
  refine leaves_cons (f := 61) (args := #[.pointer (some ⟨w.heap.size, 0, none⟩)]) (by simp) (by simp [go_sem]) ?_
  refine (catch_idle ⟨w.heap.size, 0, none⟩ true _ (World.cell?_setCell_same _ _ _ hc2) (by rw [World.frozen?_setCell]; exact hf2)).mono ?_
  rintro e u' w'' ⟨rfl, rfl, rfl⟩
  have hc3 := World.cell?_setCell_same (w2.setCell ⟨w.heap.size, 0, none⟩ (.bool true)) ⟨w.heap.size, 0, none⟩ (.bool true) (World.cell?_setCell_same _ _ _ hc2)
  refine ⟨.tuple #[.int .u64 v, .bool true], by simp [results, Tryd.results57, go_sem, hc3], rfl, m, ?_, hd, hm, ?_⟩
  · exact (hR2.setOther hs0 hlt (Nat.le_refl _) _).setOther hs0 hlt (Nat.le_refl _) _
  · exact grownBy_setNew (grownBy_setNew (grownBy_alloc hg2) (Nat.le_refl _)) (Nat.le_refl _)

set_option maxRecDepth 100000 in
set_option maxHeartbeats 400000 in
theorem attempt_no (R : Nat) (ao : Option Addr) (l : List UInt8) (cap n : Nat) (w : World) (u : TypeId) (pv : Value) (h : Rd w R ao l cap n) (hg : getN 0 0 (l.drop n) = none) (he : Err w u pv) (hER : R ≠ 1) :
    Calls Tryd.prog 57 #[.func (.func 58) #[.pointer (some ⟨R, 0, none⟩)] #[]] w fun e w' => e = .returned (.tuple #[.int .u64 0, .bool false]) ∧ ∃ m, Rd w' R ao l cap m ∧ w.grownBy w' (some R) := by
  have hmf : ∀ (fn : Fn) (first cap : Array Value) (w : World), (Instr.makeFunc fn first cap).run Tryd.prog w = .ok (.func fn first cap) w := fun _ _ _ _ => rfl
  have hlt := h.lt
  have hs0 := h.sees
  have h1 : Rd (w.alloc (.cells #[.bool false] 4)) R ao l cap n := h.carry fun k hk => Below.heap_alloc _ _ _ hk
  have he1 : Err (w.alloc (.cells #[.bool false] 4)) u pv := by
    unfold Err at he ⊢
    rw [World.cell?_of_block (Below.heap_alloc _ _ _ (World.block_lt_of_cell? _ _ he)), he]
  have Hc : Hid _ := number_no R ao l cap n _ u pv h1 hg he1 hER
  clear h h1 hg he he1
  go_enter_defers Tryd.func57, Tryd.ntmps57
  go_wp2_with fail
  refine Calls.mono (Hid.out Hc) ?_
  rintro e w2 ⟨rfl, m, hR2, hg2⟩
  have hB := hg2.block w.heap.size (by simp) (fun e => by have := Option.some.inj e; omega)
  have hc2 : w2.cell? ⟨w.heap.size, 0, none⟩ = some (.bool false) := by rw [World.cell?_of_block (a := ⟨w.heap.size, 0, none⟩) hB]; simp [go_sem]
  have hf2 : w2.frozen? ⟨w.heap.size, 0, none⟩ = false := by rw [World.frozen?_of_block (a := ⟨w.heap.size, 0, none⟩) hB]; simp [go_sem]
  clear hB Hc
  go_wp2_with fail
  refine leaves_cons (f := 61) (args := #[.pointer (some ⟨w.heap.size, 0, none⟩)]) (by simp) (by simp [go_sem]) ?_
  refine (catch_panicking ⟨w.heap.size, 0, none⟩ false u pv _ hc2 hf2).mono ?_
  rintro e u' w'' ⟨rfl, rfl, rfl⟩
  have hc3 := World.cell?_setCell_same w2 ⟨w.heap.size, 0, none⟩ (.bool false) hc2
  refine ⟨.tuple #[.int .u64 0, .bool false], by simp [results, Tryd.results57, go_sem, hc3], rfl, m, ?_, ?_⟩
  · exact hR2.setOther hs0 hlt (Nat.le_refl _) _
  · exact grownBy_setNew (grownBy_alloc hg2) (Nat.le_refl _)
end Go.Proofs.YthihljjefncfoaaDoor
