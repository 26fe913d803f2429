/-
  CONTRACTS: attempt at cells, and ReadCells, each for every argument.
-/
import Derived.Test.YtdookhmaiapclaaGreatDoorCellReads
namespace Go.Proofs.YtdookhmaiapclaaGreatDoor
open Go.RowKit

theorem catch_panickingC (p : Addr) (x : Bool) (u : TypeId) (pv : Value) (w : World) (hc : w.cell? p = some (.bool x)) (hz : w.frozen? p = false) :
    CallsD Tryz.prog 136 #[.pointer (some p)] (.panicking [{ v := .iface u pv, recovered := false }]) w fun e u' w' =>
      e = .returned (.tuple #[]) ∧ u' = .panicking [{ v := .iface u pv, recovered := true }] ∧ w' = w.setCell p (.bool false) := by
  refine callsD_of_wpS Tryz.func136 rfl fun c₀ cs hu => ?_
  apply wpS_region
  simp [wpOpsS, go_sem, recoverD, hu, Tryz.ntmps136, hc, hz, bodyPostS, results, Tryz.results136]

theorem catch_idleC (p : Addr) (x : Bool) (w : World) (hc : w.cell? p = some (.bool x)) (hz : w.frozen? p = false) :
    CallsD Tryz.prog 136 #[.pointer (some p)] .returning w fun e u' w' => e = .returned (.tuple #[]) ∧ u' = .returning ∧ w' = w.setCell p (.bool true) := by
  refine callsD_of_wpS Tryz.func136 rfl fun c₀ cs hu => ?_
  apply wpS_region
  simp [wpOpsS, go_sem, recoverD, hu, Tryz.ntmps136, hc, hz, bodyPostS, results, Tryz.results136]
  cases c₀
  simp_all

theorem owns_mono {w : World} {b b' : Nat} {e : TypeId} {size : Nat} {v : Value} {n : Nat} {xs : List Value} (h : w.ownsRow b e size v n xs) (hb : b' ≤ b) : w.ownsRow b' e size v n xs := by
  refine ⟨h.1, ?_⟩
  rcases h.2 with hn | ⟨g, cap, cur, rfl, hg, r⟩
  · exact .inl hn
  · exact .inr ⟨g, cap, cur, rfl, Nat.le_trans hb hg, r⟩
theorem owns_set {w : World} {base : Nat} {e : TypeId} {size : Nat} {v : Value} {n : Nat} {xs : List Value} (h : w.ownsRow base e size v n xs) {a : Addr} (ha : a.block < base) (x : Value) : (w.setCell a x).ownsRow base e size v n xs :=
  owns_heap h (fun k hk => Below.heap_setCell _ _ _ _ (fun e => by have := (h.lt k hk).1; omega))

set_option maxRecDepth 100000 in
set_option maxHeartbeats 400000 in
theorem attempt_okC (R : Nat) (ao : Option Addr) (l : List UInt8) (cap n : Nat) (w : World) (u : TypeId) (pv : Value) (cs : List CellV) (h : Ready w u pv R ao l cap n) (hl : l.length ≤ 1000000000) (hg : cellsN (l.drop n) = some cs) :
    Calls Tryz.prog 114 #[.func (.func 115) #[.pointer (some ⟨R, 0, none⟩)] #[]] w fun e w' => ∃ v, e = .returned (.tuple #[v, .bool true]) ∧ w'.ownsRow w.heap.size 59 10 v cs.length (C10 cs) ∧ w.grownBy w' (some R) := by
  have hmf : ∀ (fn : Fn) (first cap : Array Value) (w : World), (Instr.makeFunc fn first cap).run Tryz.prog w = .ok (.func fn first cap) w := fun _ _ _ _ => rfl
  have hlt := h.rd.lt
  have Hc : Hid _ := rcells_any R ao l cap n _ u pv (h.alloc (.cells #[.bool false] 4)) hl
  rw [hg] at Hc
  clear h hg
  go_enter_defers Tryz.func114, Tryz.ntmps114
  go_wp2_with fail
  refine Calls.mono (Hid.out Hc) ?_
  rintro e w2 ⟨v, rfl, ho2, m, hR2, hg2⟩
  rw [World.size_alloc] at ho2
  have hB := hg2.block w.heap.size (by simp) (fun e => by have := Option.some.inj e; omega)
  have hc2 : w2.cell? ⟨w.heap.size, 0, none⟩ = some (.bool false) := by rw [World.cell?_of_block (a := ⟨w.heap.size, 0, none⟩) hB]; simp [go_sem]
  have hf2 : w2.frozen? ⟨w.heap.size, 0, none⟩ = false := by rw [World.frozen?_of_block (a := ⟨w.heap.size, 0, none⟩) hB]; simp [go_sem]
  clear hB Hc
  go_wp2_with fail
  refine leaves_cons (f := 136) (args := #[.pointer (some ⟨w.heap.size, 0, none⟩)]) (by simp) (by simp [go_sem]) ?_
  refine (catch_idleC ⟨w.heap.size, 0, none⟩ true _ (World.cell?_setCell_same _ _ _ hc2) (by rw [World.frozen?_setCell]; exact hf2)).mono ?_
  rintro e u' w'' ⟨rfl, rfl, rfl⟩
  have hc3 := World.cell?_setCell_same (w2.setCell ⟨w.heap.size, 0, none⟩ (.bool true)) ⟨w.heap.size, 0, none⟩ (.bool true) (World.cell?_setCell_same _ _ _ hc2)
  refine ⟨.tuple #[v, .bool true], by simp [results, Tryz.results114, go_sem, hc3], v, rfl, ?_, ?_⟩
  · exact owns_mono (owns_set (owns_set ho2 (by simp) _) (by simp) _) (by omega)
  · exact grownBy_setNew (grownBy_setNew (grownBy_alloc hg2) (Nat.le_refl _)) (Nat.le_refl _)

set_option maxRecDepth 100000 in
set_option maxHeartbeats 400000 in
theorem attempt_noC (R : Nat) (ao : Option Addr) (l : List UInt8) (cap n : Nat) (w : World) (u : TypeId) (pv : Value) (h : Ready w u pv R ao l cap n) (hl : l.length ≤ 1000000000) (hg : cellsN (l.drop n) = none) :
    Calls Tryz.prog 114 #[.func (.func 115) #[.pointer (some ⟨R, 0, none⟩)] #[]] w fun e w' => e = .returned (.tuple #[.slice none 0 0, .bool false]) ∧ w.grownBy w' (some R) := by
  have hmf : ∀ (fn : Fn) (first cap : Array Value) (w : World), (Instr.makeFunc fn first cap).run Tryz.prog w = .ok (.func fn first cap) w := fun _ _ _ _ => rfl
  have hlt := h.rd.lt
  have Hc : Hid _ := rcells_any R ao l cap n _ u pv (h.alloc (.cells #[.bool false] 4)) hl
  rw [hg] at Hc
  clear h hg
  go_enter_defers Tryz.func114, Tryz.ntmps114
  go_wp2_with fail
  refine Calls.mono (Hid.out Hc) ?_
  rintro e w2 ⟨rfl, m, hR2, hg2⟩
  have hB := hg2.block w.heap.size (by simp) (fun e => by have := Option.some.inj e; omega)
  have hc2 : w2.cell? ⟨w.heap.size, 0, none⟩ = some (.bool false) := by rw [World.cell?_of_block (a := ⟨w.heap.size, 0, none⟩) hB]; simp [go_sem]
  have hf2 : w2.frozen? ⟨w.heap.size, 0, none⟩ = false := by rw [World.frozen?_of_block (a := ⟨w.heap.size, 0, none⟩) hB]; simp [go_sem]
  clear hB Hc
  go_wp2_with fail
  refine leaves_cons (f := 136) (args := #[.pointer (some ⟨w.heap.size, 0, none⟩)]) (by simp) (by simp [go_sem]) ?_
  refine (catch_panickingC ⟨w.heap.size, 0, none⟩ false u pv _ hc2 hf2).mono ?_
  rintro e u' w'' ⟨rfl, rfl, rfl⟩
  have hc3 := World.cell?_setCell_same w2 ⟨w.heap.size, 0, none⟩ (.bool false) hc2
  refine ⟨.tuple #[.slice none 0 0, .bool false], by simp [results, Tryz.results114, go_sem, hc3], rfl, ?_⟩
  exact grownBy_setNew (grownBy_alloc hg2) (Nat.le_refl _)

/-- What ReadCells tells of bytes: the cells, and the error. -/
def redC (l : List UInt8) : List CellV := (cellsN l).getD []
def redE (l : List UInt8) : Int := match cellsN l with | some _ => 0 | none => 8

theorem Ready.made {w : World} {u : TypeId} {pv : Value} {ao : Option Addr} {l : List UInt8} {cap : Nat} (hs : Sees w ao l) (hl : l.length ≤ 1000000000) (hcap : l.length ≤ cap) (he : Err w u pv) : Ready (w.alloc (.cells #[.slice ao l.length cap, .int .i64 0] 158)) u pv w.heap.size ao l cap 0 := by
  have hlt : (⟨1, 0, none⟩ : Addr).block < w.heap.size := World.block_lt_of_cell? _ _ he
  exact ⟨Rd.made hs (by omega), err_alloc he _, by simp at hlt; omega, hcap⟩

set_option maxRecDepth 100000 in
set_option maxHeartbeats 400000 in
theorem readCells_any (ao : Option Addr) (l : List UInt8) (cap : Nat) (w : World) (u : TypeId) (pv : Value) (hs : Sees w ao l) (hcap : l.length ≤ cap) (hl : l.length ≤ 1000000000) (he : Err w u pv) :
    Calls Tryz.prog 83 #[.slice ao l.length cap] w fun e w' => ∃ v, e = .returned (.tuple #[v, .int .i64 (redE l)]) ∧ w'.ownsRow w.heap.size 59 10 v (redC l).length (C10 (redC l)) ∧ Below w.heap.size w w' := by
  have hmf : ∀ (fn : Fn) (first cap : Array Value) (w : World), (Instr.makeFunc fn first cap).run Tryz.prog w = .ok (.func fn first cap) w := fun _ _ _ _ => rfl
  have hr := Ready.made (cap := cap) hs hl hcap he
  cases hg : cellsN l with
  | some cs =>
    have h1 : redC l = cs := by unfold redC; rw [hg]; rfl
    have h2 : redE l = 0 := by unfold redE; rw [hg]
    rw [h1, h2]
    have Hc : Hid _ := attempt_okC _ ao l cap 0 _ u pv cs hr hl hg
    clear hs hg he hr h1 h2
    go_enter Tryz.func83, Tryz.ntmps83
    go_wp2_with fail
    refine Calls.mono (Hid.out Hc) ?_
    rintro e w2 ⟨v, rfl, ho2, hg2⟩
    rw [World.size_alloc] at ho2
    go_wp2_with fail
    go_ret2
    exact ⟨v, rfl, owns_mono ho2 (by omega), below_made hg2⟩
  | none =>
    have h1 : redC l = [] := by unfold redC; rw [hg]; rfl
    have h2 : redE l = 8 := by unfold redE; rw [hg]
    rw [h1, h2]
    have Hc : Hid _ := attempt_noC _ ao l cap 0 _ u pv hr hl hg
    clear hs hg he hr h1 h2
    go_enter Tryz.func83, Tryz.ntmps83
    go_wp2_with fail
    refine Calls.mono (Hid.out Hc) ?_
    rintro e w2 ⟨rfl, hg2⟩
    go_wp2_with fail
    go_ret2
    exact ⟨_, rfl, World.ownsRow_nil _ _ _ _, below_made hg2⟩
end Go.Proofs.YtdookhmaiapclaaGreatDoor
