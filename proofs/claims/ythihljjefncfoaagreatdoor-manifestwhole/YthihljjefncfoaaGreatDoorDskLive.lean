/-
  CONTRACT: the law's 'lives' answers true, from whatever memory.
-/
import Derived.Test.YthihljjefncfoaaGreatDoorDskLives
namespace Go.Proofs.YthihljjefncfoaaGreatDoor
open Go.RowKit Go.Maps

theorem Lv.below {w w1 : World} {d ops next wr : Nat} {on : Bool} {bs : List UInt8} {pl : List Nat} (h : Lv w d on ops next bs wr pl w1) : Below w.heap.size w w1 := by
  obtain ⟨bm, e, _, _, _, _, _, hM⟩ := h
  exact hM.below (Nat.le_refl _) (by simp)
def b20 : List UInt8 := List.replicate 20 0
def b50 : List UInt8 := b20 ++ List.replicate 30 0
def b32 : List UInt8 := b50.take 32
end Go.Proofs.YthihljjefncfoaaGreatDoor
