/-
  LISTS OF NUMBERS THAT CAME IN.
-/
import Derived.Test.YtdeobmihkcfofaaIntRow
import Derived.Test.YtdeobmihkcfofaaRowAid
namespace Go.Proofs.Ytdeobmihkcfofaa
open Go.ChangeShapes Go.WideShapes Go.ChangeAt Go.RowKit

set_option maxRecDepth 100000 in
/-- Numbers that came in. -/
theorem ints_came {H : Type} {enc : TypeId × Value → H} {W : World} {ao : Option Addr} {len cap : Nat} {d : DataW H} {p : List MemPlace}
    (h : DataW.Trod enc Try.prog W 0 (fun _ => true) true 22 (Value.slice ao len cap) d p) :
    ∃ l : List Int, l.length = len ∧ ISees W ao l ∧ (ao = none → l.length = 0) ∧ (l.length = 0 ∨ ∃ el sp, d = .slice el sp ∧ el.length = l.length) := by
  obtain ⟨fuel, hf⟩ := h
  rcases open_ints Try.underlying22 Try.underlying3 (by kernel_rfl) hf with ⟨hcs, _⟩ | ⟨x, n, c, zs, hcs, _, hl, hm, hz, hx, hcell, hwz⟩
  · simp [Value.cells] at hcs
    obtain ⟨rfl, rfl, rfl⟩ := hcs
    exact ⟨[], rfl, (fun i c hc => by simp at hc), fun _ => rfl, .inl rfl⟩
  · simp [Value.cells] at hcs
    obtain ⟨rfl, rfl, rfl⟩ := hcs
    have hzl : zs.length = cap := by simpa using hz
    have hlen : (zs.take len).length = len := by simp; omega
    refine ⟨zs.take len, hlen, fun i y hy => ?_, (fun h => by cases h), .inr ⟨_, _, congrArg Prod.fst hx, by simp [lits]⟩⟩
    have hi : i < len := by have := (List.getElem?_eq_some_iff.1 hy).1; omega
    have hi' : i < zs.length := by omega
    have hc := hcell i hi'
    rw [List.getElem?_take_of_lt hi] at hy
    have e : zs.getD i 0 = y := by simp [List.getD, hy]
    rw [e] at hc
    obtain ⟨b, off, spot⟩ := x
    have hspot : spot = none := by
      have := World.cell?_spot (hcell 0 (by omega))
      simpa [Addr.add] using this
    subst hspot
    rw [Addr.add_lit] at hc
    exact ⟨b, off, rfl, hc⟩
set_option maxRecDepth 100000 in
theorem bytesI : Try.prog.bytesOf 3 = 8 := by kernel_rfl
/-- How many numbers can have come in. -/
theorem ints_fit {H : Type} {ts : List TypeId} {ds : List (DataW H)} {j n : Nat} {d : DataW H} (h : (DataW.weightsEach Try.prog ts ds).all (· ≤ reachBytes) = true) (ht : ts[j]? = some 22) (hd : ds[j]? = some d)
    (hn : n = 0 ∨ ∃ el sp, d = .slice el sp ∧ el.length = n) : n ≤ 1125899906842624 := by
  rcases hn with rfl | ⟨el, sp, rfl, rfl⟩
  · omega
  · have := sized_slice h ht hd Try.underlying22
    rw [bytesI] at this
    simp only [reachBytes] at this
    omega
end Go.Proofs.Ytdeobmihkcfofaa
