/-
  CONTRACTS: the codec's reader, each method for every state.
-/
import Derived.Test.YthihljjefncfoaaDoorCodLives
import Derived.WalkLawsBesides
import Derived.WalkSmall
import Derived.Deep.QuietTactic
import Derived.BigQuiet
namespace Go.Proofs.YthihljjefncfoaaDoor
open Go.RowKit

/-- A reader in block R: its bytes are l (at ao), n of them are read. -/
structure Rd (w : World) (R : Nat) (ao : Option Addr) (l : List UInt8) (cap n : Nat) : Prop where
  c0 : w.cell? ⟨R, 0, none⟩ = some (.slice ao l.length cap)
  c1 : w.cell? ⟨R, 1, none⟩ = some (.int .i64 n)
  f1 : w.frozen? ⟨R, 1, none⟩ = false
  le : n ≤ l.length
  max : l.length ≤ 140737488355000
  sees : Sees w ao l
  ne : l.length ≠ 0 → ∀ a, ao = some a → a.block ≠ R
/-- What a reader panics with lies where it lies. -/
def Err (w : World) (u : TypeId) (pv : Value) : Prop := w.cell? ⟨1, 0, none⟩ = some (.iface u pv)

theorem Rd.drewN {w : World} {R : Nat} {ao : Option Addr} {l : List UInt8} {cap n : Nat} (h : Rd w R ao l cap n) (k : Nat) : Rd (w.drewN k) R ao l cap n := ⟨h.c0, h.c1, h.f1, h.le, h.max, h.sees, h.ne⟩

/-- The reader goes to another place. -/
theorem Rd.set {w : World} {R : Nat} {ao : Option Addr} {l : List UInt8} {cap n : Nat} (h : Rd w R ao l cap n) {m : Nat} (hm : m ≤ l.length) (z : Int) (hz : z = (m : Int)) : Rd (w.setCell ⟨R, 1, none⟩ (.int .i64 z)) R ao l cap m := by
  subst hz
  refine ⟨?_, ?_, ?_, hm, h.max, ?_, h.ne⟩
  · rw [World.cell?_setCell_other _ _ _ _ (by simp)]; exact h.c0
  · exact World.cell?_setCell_same _ _ _ h.c1
  · rw [World.frozen?_setCell]; exact h.f1
  · intro i hi
    obtain ⟨a, e, hc⟩ := h.sees i hi
    refine ⟨a, e, ?_⟩
    rw [World.cell?_setCell_other _ _ _ _ ?_]
    · exact hc
    · intro e'
      have := congrArg Addr.block e'
      rw [Addr.add_block] at this
      exact h.ne (by omega) a e this.symm
theorem grownBy_drewN {w w' : World} {r : Option Nat} (h : w.grownBy w' r) (k : Nat) : w.grownBy (w'.drewN k) r := ⟨h.os, h.tape, h.output, h.size, h.block⟩

set_option maxRecDepth 100000 in
set_option maxHeartbeats 400000 in
theorem octet_end (R : Nat) (ao : Option Addr) (l : List UInt8) (cap n : Nat) (w : World) (u : TypeId) (pv : Value) (h : Rd w R ao l cap n) (hn : n = l.length) (he : Err w u pv) :
    Calls Tryd.prog 62 #[.pointer (some ⟨R, 0, none⟩)] w fun e w' => e = .panicked [{ v := .iface u pv, recovered := false }] ∧ ∃ k, w' = w.drewN k := by
  have c0 := h.c0
  have c1 := h.c1
  have hm := h.max
  have hle := h.le
  have hcmp : ((n : Int) == (l.length : Int)) = true := by simp [hn]
  unfold Err at he
  clear h hn
  go_enter Tryd.func62, Tryd.ntmps62
  go_wp2
  go_quiet (fail)
  go_wp2
  exact ⟨rfl, rfl, nq, rfl⟩

theorem sees_at {w : World} {ao : Option Addr} {l : List UInt8} (h : Sees w ao l) {n : Nat} (hn : n < l.length) : ∃ b off, ao = some ⟨b, off, none⟩ ∧ w.cell? ⟨b, off + n, none⟩ = some (.int .u8 ((l.getD n 0).toNat : Int)) := by
  obtain ⟨a, rfl, hc⟩ := h n hn
  obtain ⟨a', e, hc0⟩ := h 0 (by omega)
  obtain rfl := Option.some.inj e
  obtain ⟨b, off, spot⟩ := a
  have hspot : spot = none := by simpa [Addr.add] using World.cell?_spot hc0
  subst hspot
  exact ⟨b, off, rfl, by rw [Addr.add_lit] at hc; exact hc⟩

set_option maxRecDepth 100000 in
set_option maxHeartbeats 400000 in
theorem octet_ok (R : Nat) (ao : Option Addr) (l : List UInt8) (cap n : Nat) (w : World) (h : Rd w R ao l cap n) (hn : n < l.length) :
    Calls Tryd.prog 62 #[.pointer (some ⟨R, 0, none⟩)] w fun e w' => e = .returned (.int .u8 ((l.getD n 0).toNat : Int)) ∧ Rd w' R ao l cap (n + 1) ∧ w.grownBy w' (some R) := by
  have c0 := h.c0
  have c1 := h.c1
  have f1 := h.f1
  have hm := h.max
  have hle := h.le
  have hcmp : ((n : Int) == (l.length : Int)) = false := by simp; omega
  obtain ⟨b, off, ha, hc⟩ := sees_at h.sees hn
  have hne : b ≠ R := h.ne (by omega) _ ha
  subst ha
  have H := h
  clear h
  go_enter Tryd.func62, Tryd.ntmps62
  go_wp2
  go_quiet (fail)
  go_wp2
  go_quiet (fail)
  go_wp2
  go_ret
  refine ⟨ret_int (by simp [hn]), (Rd.set (H.drewN _) (by omega) _ (by omega)).drewN _, grownBy_drewN (grownBy_setCell (grownBy_drewN (World.grownBy.refl _ _) _)) _⟩
end Go.Proofs.YthihljjefncfoaaDoor
