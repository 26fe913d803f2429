/-
  ROWS OF INTS IN MEMORY; the very same numbers (Ints).
-/
import Derived.Test.YtabkgcmlfabmgaaGreatDoorRegCl
import Derived.Test.YtabkgcmlfabmgaaGreatDoorChecked
namespace Go.Proofs.YtabkgcmlfabmgaaGreatDoor
open Go.RowKit

def vI (l : List Int) : List Value := l.map fun x => Value.int .i64 x
theorem vI_len (l : List Int) : (vI l).length = l.length := List.length_map _
theorem vI_one (l : List Int) : ∀ u ∈ vI l, u.oneCell' = true := by
  intro u hu
  obtain ⟨_, _, rfl⟩ := List.mem_map.1 hu
  rfl
theorem vI_at {l : List Int} {i : Nat} {x : Int} (h : l[i]? = some x) : (vI l)[i]? = some (.int .i64 x) := by simp [vI, h]
/-- The ints l can be read from the address on. -/
def ISees (w : World) (ao : Option Addr) (l : List Int) : Prop := ∀ i x, l[i]? = some x → ∃ b off, ao = some ⟨b, off, none⟩ ∧ w.cell? ⟨b, off + i, none⟩ = some (.int .i64 x)
theorem ISees.below {w w' : World} {ao : Option Addr} {l : List Int} (h : ISees w ao l) {B : Nat} (hb : Below B w w') (hB : w.heap.size ≤ B) : ISees w' ao l := by
  intro i x hx
  obtain ⟨b, off, e, hc⟩ := h i x hx
  have := World.block_lt_of_cell? _ _ hc
  exact ⟨b, off, e, by rw [hb.cell (show b < B from Nat.lt_of_lt_of_le this hB)]; exact hc⟩
theorem src_ints {w : World} {ao : Option Addr} {l : List Int} (h : ISees w ao l) (hn : ao = none → l.length = 0) (cap : Nat) : Src Tryz.prog 1 62 (.slice ao l.length cap) l.length (vI l) w := by
  cases ao with
  | none =>
    obtain rfl : l = [] := List.eq_nil_of_length_eq_zero (hn rfl)
    exact Src.ofNil w Tryz.underlying62 cap
  | some a =>
    refine Src.ofSlice w Tryz.underlying62 a _ cap _ (by rw [vI_len, Nat.mul_one]) (fun j u hu => ?_) (vI_one l)
    have hj : j < l.length := by have := (List.getElem?_eq_some_iff.1 hu).1; rwa [vI_len] at this
    have hx : l[j]? = some l[j] := List.getElem?_eq_getElem hj
    obtain ⟨b, off, e, hc⟩ := h j _ hx
    obtain rfl := Option.some.inj e
    rw [vI_at hx] at hu
    obtain rfl := Option.some.inj hu
    rw [Addr.add_lit]; exact hc
theorem infoInt : (Tryz.prog.info? 3).map (fun i => (i.zero, i.size, i.bytes)) = some (some (.int .i64 0), 1, 8) := by kernel_rfl
theorem isNilI (cap : Nat) (w : World) : (binOp BinOp.eql 62 (.slice none 0 cap) (.slice none 0 0)).run Tryz.prog w = .ok (.bool true) w := by kernel_rfl
theorem notNilI (a : Addr) (n cap : Nat) (w : World) : (binOp BinOp.eql 62 (.slice (some a) n cap) (.slice none 0 0)).run Tryz.prog w = .ok (.bool false) w := by kernel_rfl
theorem owns_noneI (w : World) (base : Nat) (hb : base ≤ w.heap.size) : (w.alloc (.cells #[] 3)).ownsRow base 3 1 (.slice (some ⟨w.heap.size, 0, none⟩) 0 0) 0 [] :=
  ⟨rfl, .inr ⟨w.heap.size, 0, #[], rfl, hb, heap_alloc_new w _, Nat.le_refl _, Nat.zero_le _, rfl, rfl⟩⟩
theorem owns_isees {w : World} {base : Nat} {v : Value} {l : List Int} {n : Nat} (h : w.ownsRow base 3 1 v n (vI l)) : ∃ ao cap, v = .slice ao l.length cap ∧ ISees w ao l := by
  have hl : l.length = n := by have := h.1; rwa [vI_len, Nat.mul_one] at this
  have h0 := h
  rcases h.2 with ⟨rfl, rfl⟩ | ⟨g, cap, cur, rfl, hg, hh, hn, hm, hs, ht⟩
  · exact ⟨none, 0, by rw [hl], fun i x hx => by have := (List.getElem?_eq_some_iff.1 hx).1; omega⟩
  · refine ⟨some ⟨g, 0, none⟩, cap, by rw [hl], fun i x hx => ⟨g, 0, rfl, ?_⟩⟩
    have := h0.cells (g := g) rfl _ _ (vI_at hx)
    rw [Addr.add_lit] at this; exact this
end Go.Proofs.YtabkgcmlfabmgaaGreatDoor
