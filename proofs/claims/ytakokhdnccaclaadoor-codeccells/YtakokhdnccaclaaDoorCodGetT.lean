/-
  CONTRACTS: attempt at a text, and GetText, each for every argument.
-/
import Derived.Test.YtakokhdnccaclaaDoorCodText
namespace Go.Proofs.YtakokhdnccaclaaDoor
open Go.RowKit

/-- The deferred closure, of a frame that panics: the panic is over, and the mark says no. -/
theorem catch_panickingT (p : Addr) (x : Bool) (u : TypeId) (pv : Value) (w : World) (hc : w.cell? p = some (.bool x)) (hz : w.frozen? p = false) :
    CallsD Tryd.prog 58 #[.pointer (some p)] (.panicking [{ v := .iface u pv, recovered := false }]) w fun e u' w' =>
      e = .returned (.tuple #[]) ∧ u' = .panicking [{ v := .iface u pv, recovered := true }] ∧ w' = w.setCell p (.bool false) := by
  refine callsD_of_wpS Tryd.func58 rfl fun c₀ cs hu => ?_
  apply wpS_region
  simp [wpOpsS, go_sem, recoverD, hu, Tryd.ntmps58, hc, hz, bodyPostS, results, Tryd.results58]

theorem catch_idleT (p : Addr) (x : Bool) (w : World) (hc : w.cell? p = some (.bool x)) (hz : w.frozen? p = false) :
    CallsD Tryd.prog 58 #[.pointer (some p)] .returning w fun e u' w' => e = .returned (.tuple #[]) ∧ u' = .returning ∧ w' = w.setCell p (.bool true) := by
  refine callsD_of_wpS Tryd.func58 rfl fun c₀ cs hu => ?_
  apply wpS_region
  simp [wpOpsS, go_sem, recoverD, hu, Tryd.ntmps58, hc, hz, bodyPostS, results, Tryd.results58]
  cases c₀
  simp_all

set_option maxRecDepth 100000 in
set_option maxHeartbeats 400000 in
theorem attempt_okT (R : Nat) (ao : Option Addr) (l : List UInt8) (cap n : Nat) (w : World) (s r : List UInt8) (h : Rd w R ao l cap n) (hcap : l.length ≤ cap) (hg : textN (l.drop n) = some (s, r)) :
    Calls Tryd.prog 47 #[.func (.func 48) #[.pointer (some ⟨R, 0, none⟩)] #[]] w fun e w' => e = .returned (.tuple #[.string ⟨s.toArray⟩, .bool true]) ∧ ∃ m, Rd w' R ao l cap m ∧ l.drop m = r ∧ n < m ∧ w.grownBy w' (some R) := by
  have hmf : ∀ (fn : Fn) (first cap : Array Value) (w : World), (Instr.makeFunc fn first cap).run Tryd.prog w = .ok (.func fn first cap) w := fun _ _ _ _ => rfl
  have hlt := h.lt
  have hs0 := h.sees
  have h1 : Rd (w.alloc (.cells #[.bool false] 4)) R ao l cap n := h.carry fun k hk => Below.heap_alloc _ _ _ hk
  have Hc : Hid _ := text_ok R ao l cap n _ s r h1 hcap hg
  clear h h1 hg
  go_enter_defers Tryd.func47, Tryd.ntmps47
  go_wp2_with fail
  refine Calls.mono (Hid.out Hc) ?_
  rintro e w2 ⟨rfl, m, hR2, hd, hm, hg2⟩
  have hB := hg2.block w.heap.size (by simp) (fun e => by have := Option.some.inj e; omega)
  have hc2 : w2.cell? ⟨w.heap.size, 0, none⟩ = some (.bool false) := by rw [World.cell?_of_block (a := ⟨w.heap.size, 0, none⟩) hB]; simp [go_sem]
  have hf2 : w2.frozen? ⟨w.heap.size, 0, none⟩ = false := by rw [World.frozen?_of_block (a := ⟨w.heap.size, 0, none⟩) hB]; simp [go_sem]
  clear hB Hc
  go_wp2_with fail
  refine leaves_cons (f := 58) (args := #[.pointer (some ⟨w.heap.size, 0, none⟩)]) (by simp) (by simp [go_sem]) ?_
  refine (catch_idleT ⟨w.heap.size, 0, none⟩ true _ (World.cell?_setCell_same _ _ _ hc2) (by rw [World.frozen?_setCell]; exact hf2)).mono ?_
  rintro e u' w'' ⟨rfl, rfl, rfl⟩
  have hc3 := World.cell?_setCell_same (w2.setCell ⟨w.heap.size, 0, none⟩ (.bool true)) ⟨w.heap.size, 0, none⟩ (.bool true) (World.cell?_setCell_same _ _ _ hc2)
  refine ⟨.tuple #[.string ⟨s.toArray⟩, .bool true], by simp [results, Tryd.results47, go_sem, hc3], rfl, m, ?_, hd, hm, ?_⟩
  · exact (hR2.setOther hs0 hlt (Nat.le_refl _) _).setOther hs0 hlt (Nat.le_refl _) _
  · exact grownBy_setNew (grownBy_setNew (grownBy_alloc hg2) (Nat.le_refl _)) (Nat.le_refl _)

set_option maxRecDepth 100000 in
set_option maxHeartbeats 400000 in
theorem attempt_noT (R : Nat) (ao : Option Addr) (l : List UInt8) (cap n : Nat) (w : World) (u : TypeId) (pv : Value) (h : Rd w R ao l cap n) (hg : textN (l.drop n) = none) (he : Err w u pv) (hER : R ≠ 1) :
    Calls Tryd.prog 47 #[.func (.func 48) #[.pointer (some ⟨R, 0, none⟩)] #[]] w fun e w' => e = .returned (.tuple #[.string ⟨#[]⟩, .bool false]) ∧ ∃ m, Rd w' R ao l cap m ∧ w.grownBy w' (some R) := by
  have hmf : ∀ (fn : Fn) (first cap : Array Value) (w : World), (Instr.makeFunc fn first cap).run Tryd.prog w = .ok (.func fn first cap) w := fun _ _ _ _ => rfl
  have hlt := h.lt
  have hs0 := h.sees
  have h1 : Rd (w.alloc (.cells #[.bool false] 4)) R ao l cap n := h.carry fun k hk => Below.heap_alloc _ _ _ hk
  have he1 : Err (w.alloc (.cells #[.bool false] 4)) u pv := by
    unfold Err at he ⊢
    rw [World.cell?_of_block (Below.heap_alloc _ _ _ (World.block_lt_of_cell? _ _ he)), he]
  have Hc : Hid _ := text_no R ao l cap n _ u pv h1 hg he1 hER
  clear h h1 hg he he1
  go_enter_defers Tryd.func47, Tryd.ntmps47
  go_wp2_with fail
  refine Calls.mono (Hid.out Hc) ?_
  rintro e w2 ⟨rfl, m, hR2, hg2⟩
  have hB := hg2.block w.heap.size (by simp) (fun e => by have := Option.some.inj e; omega)
  have hc2 : w2.cell? ⟨w.heap.size, 0, none⟩ = some (.bool false) := by rw [World.cell?_of_block (a := ⟨w.heap.size, 0, none⟩) hB]; simp [go_sem]
  have hf2 : w2.frozen? ⟨w.heap.size, 0, none⟩ = false := by rw [World.frozen?_of_block (a := ⟨w.heap.size, 0, none⟩) hB]; simp [go_sem]
  clear hB Hc
  go_wp2_with fail
  refine leaves_cons (f := 58) (args := #[.pointer (some ⟨w.heap.size, 0, none⟩)]) (by simp) (by simp [go_sem]) ?_
  refine (catch_panickingT ⟨w.heap.size, 0, none⟩ false u pv _ hc2 hf2).mono ?_
  rintro e u' w'' ⟨rfl, rfl, rfl⟩
  have hc3 := World.cell?_setCell_same w2 ⟨w.heap.size, 0, none⟩ (.bool false) hc2
  refine ⟨.tuple #[.string ⟨#[]⟩, .bool false], by simp [results, Tryd.results47, go_sem, hc3], rfl, m, ?_, ?_⟩
  · exact hR2.setOther hs0 hlt (Nat.le_refl _) _
  · exact grownBy_setNew (grownBy_alloc hg2) (Nat.le_refl _)

set_option maxRecDepth 100000 in
set_option maxHeartbeats 400000 in
theorem getText_ok (ao : Option Addr) (l : List UInt8) (cap : Nat) (w : World) (s r : List UInt8) (hs : Sees w ao l) (hcap : l.length ≤ cap) (hl : l.length ≤ 140737488355000) (hg : textN l = some (s, r)) :
    Calls Tryd.prog 27 #[.slice ao l.length cap] w fun e w' => e = .returned (.tuple #[.string ⟨s.toArray⟩, .int .i64 ((l.length - r.length : Nat) : Int)]) ∧ Below w.heap.size w w' := by
  have hmf : ∀ (fn : Fn) (first cap : Array Value) (w : World), (Instr.makeFunc fn first cap).run Tryd.prog w = .ok (.func fn first cap) w := fun _ _ _ _ => rfl
  have Hc : Hid _ := attempt_okT _ ao l cap 0 _ s r (Rd.made hs hl) hcap hg
  clear hs hg
  go_enter Tryd.func27, Tryd.ntmps27
  go_wp2_with fail
  refine Calls.mono (Hid.out Hc) ?_
  rintro e w2 ⟨rfl, m, hR2, hd, hm, hg2⟩
  have hc1 := hR2.c1
  have Hm : Hid (m = l.length - r.length) := by
    have h1 := congrArg List.length hd
    have h2 := hR2.le
    rw [List.length_drop] at h1
    show m = _
    omega
  clear hd
  go_wp2_with fail
  go_quiet (fail)
  go_wp2
  go_ret2
  refine ⟨by rw [← Hm.out]; rfl, (below_made hg2).trans ?_⟩
  exact ⟨rfl, rfl, rfl, Nat.le_refl _, fun _ _ => rfl⟩

set_option maxRecDepth 100000 in
set_option maxHeartbeats 400000 in
theorem getText_no (ao : Option Addr) (l : List UInt8) (cap : Nat) (w : World) (u : TypeId) (pv : Value) (hs : Sees w ao l) (hl : l.length ≤ 140737488355000) (hg : textN l = none) (he : Err w u pv) :
    Calls Tryd.prog 27 #[.slice ao l.length cap] w fun e w' => e = .returned (.tuple #[.string ⟨#[]⟩, .int .i64 0]) ∧ Below w.heap.size w w' := by
  have hmf : ∀ (fn : Fn) (first cap : Array Value) (w : World), (Instr.makeFunc fn first cap).run Tryd.prog w = .ok (.func fn first cap) w := fun _ _ _ _ => rfl
  have hlt : (⟨1, 0, none⟩ : Addr).block < w.heap.size := World.block_lt_of_cell? _ _ he
  have Hc : Hid _ := attempt_noT _ ao l cap 0 _ u pv (Rd.made hs hl) hg (err_alloc he _) (by simp at hlt; omega)
  clear hs hg he hlt
  go_enter Tryd.func27, Tryd.ntmps27
  go_wp2_with fail
  refine Calls.mono (Hid.out Hc) ?_
  rintro e w2 ⟨rfl, m, hR2, hg2⟩
  go_wp2_with fail
  go_ret2
  exact ⟨rfl, below_made hg2⟩

/-- What GetText tells of bytes: the text, and how many bytes it has. -/
def txtS (l : List UInt8) : List UInt8 := match textN l with | some (s, _) => s | none => []
def txtK (l : List UInt8) : Nat := match textN l with | some (_, r) => l.length - r.length | none => 0
theorem getText_any (ao : Option Addr) (l : List UInt8) (cap : Nat) (w : World) (u : TypeId) (pv : Value) (hs : Sees w ao l) (hcap : l.length ≤ cap) (hl : l.length ≤ 140737488354000) (he : Err w u pv) :
    Calls Tryd.prog 27 #[.slice ao l.length cap] w fun e w' => e = .returned (.tuple #[.string ⟨(txtS l).toArray⟩, .int .i64 (txtK l)]) ∧ Below w.heap.size w w' := by
  cases hg : textN l with
  | none =>
    have h1 : txtS l = [] := by unfold txtS; rw [hg]
    have h2 : txtK l = 0 := by unfold txtK; rw [hg]
    rw [h1, h2]
    exact getText_no ao l cap w u pv hs (by omega) hg he
  | some vr =>
    obtain ⟨s, r⟩ := vr
    have h1 : txtS l = s := by unfold txtS; rw [hg]
    have h2 : txtK l = l.length - r.length := by unfold txtK; rw [hg]
    rw [h1, h2]
    exact getText_ok ao l cap w s r hs hcap (by omega) hg
end Go.Proofs.YtakokhdnccaclaaDoor
