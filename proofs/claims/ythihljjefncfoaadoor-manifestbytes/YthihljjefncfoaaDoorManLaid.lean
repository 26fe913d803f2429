/-
  MANIFESTS, AND WHERE THE POWER FAILS, THAT CAME IN.
-/
import Derived.Test.YthihljjefncfoaaDoorManGood
import Derived.Test.YthihljjefncfoaaDoorRowAid
import Derived.Deep.Strs
namespace Go.Proofs.YthihljjefncfoaaDoor
open Go.ChangeShapes Go.WideShapes Go.ChangeAt Go.RowKit

set_option maxRecDepth 100000 in
theorem cellsMf : Tryd.prog.cellsOf 24 = 3 := by kernel_rfl
set_option maxRecDepth 100000 in
theorem cellsIs : Tryd.prog.cellsOf 22 = 1 := by kernel_rfl
set_option maxRecDepth 100000 in
theorem cellsIn : Tryd.prog.cellsOf 3 = 1 := by kernel_rfl
/-- A manifest that came in. -/
structure MCame (W : World) (ao : Option Addr) (cap : Nat) (m : Mf) : Prop where
  see : MSees W ao cap m
  cap : cap ≤ 9223372036854775807
  nx : -9223372036854775808 ≤ m.nx ∧ m.nx ≤ 9223372036854775807
  fr : -9223372036854775808 ≤ m.fr ∧ m.fr ≤ 9223372036854775807
set_option maxRecDepth 100000 in
theorem ints_cells {H : Type} {enc : TypeId × Value → H} {W : World} {fuel : Nat} {c : Value} {y : DataW H × List MemPlace} (hf : DataW.trod enc Tryd.prog W 0 (fun _ => true) true fuel 22 [c] = some y) :
    ∃ ao cap, ∃ l : List Int, c = .slice ao l.length cap ∧ ISees W ao l ∧ (ao = none → l.length = 0) ∧ l.length ≤ cap ∧ cap ≤ 9223372036854775807 := by
  rcases open_ints Tryd.underlying22 Tryd.underlying3 (by kernel_rfl) hf with ⟨hcs, _⟩ | ⟨x, n, c', zs, hcs, _, hl, hm, hz, hx, hcell, hwz⟩
  · simp at hcs
    exact ⟨none, 0, [], hcs, (fun i c hc => by simp at hc), fun _ => rfl, Nat.le_refl _, by omega⟩
  · simp at hcs
    have hzl : zs.length = c' := by simpa using hz
    have hlen : (zs.take n).length = n := by simp; omega
    refine ⟨some x, c', zs.take n, by rw [hlen]; exact hcs, fun i y hy => ?_, (fun h => by cases h), by omega, by unfold maxLen at hm; omega⟩
    have hi : i < n := by have := (List.getElem?_eq_some_iff.1 hy).1; omega
    have hi' : i < zs.length := by omega
    have hc := hcell i hi'
    rw [List.getElem?_take_of_lt hi] at hy
    have e : zs.getD i 0 = y := by simp [List.getD, hy]
    rw [e] at hc
    obtain ⟨b, off, spot⟩ := x
    have hspot : spot = none := by
      have := World.cell?_spot (hcell 0 (by omega))
      simpa [Addr.add] using this
    subst hspot
    rw [Addr.add_lit] at hc
    exact ⟨b, off, rfl, hc⟩
set_option maxRecDepth 100000 in
theorem man_came {H : Type} {enc : TypeId × Value → H} {W : World} {base : Nat} {v : Value} {d : DataW H} {p : List MemPlace} (hv : Value.okWide Tryd.prog W .any base 24 v)
    (h : DataW.Trod enc Tryd.prog W 0 (fun _ => true) true 24 v d p) : ∃ ao cap m, v = mval ao cap m ∧ MCame W ao cap m := by
  obtain ⟨cs, rfl, hsz⟩ := okWide_struct Tryd.underlying24 hv
  obtain ⟨fuel, hf⟩ := h
  have hl := hsz.trans cellsMf
  obtain ⟨l⟩ := cs
  match l, hl with
  | [c0, c1, c2], _ =>
    have hf' : DataW.trod enc Tryd.prog W 0 (fun _ => true) true fuel 24 [c0, c1, c2] = some (d, p) := hf
    obtain ⟨y0, y1, y2, m', _, _, h0, h1, h2⟩ := Go.Deep.trod_struct3 Tryd.underlying24 hf'
    simp only [cellsIs, cellsIn] at h0 h1 h2
    obtain ⟨ao, cap, ts, e0, i1, i2, i3, i4⟩ := ints_cells (fuel := m') (c := c0) (y := y0) h0
    obtain ⟨r1, f1, rfl, q1⟩ := DataW.trod_int Tryd.underlying3 h1
    obtain ⟨r2, f2, rfl, q2⟩ := DataW.trod_int Tryd.underlying3 h2
    simp at f1 f2
    subst f1
    subst f2
    subst e0
    exact ⟨ao, cap, ⟨ts, r1, r2⟩, rfl, ⟨i1, i2, i3⟩, i4, bounds_i64 q1, bounds_i64 q2⟩
set_option maxRecDepth 100000 in
theorem man_came2 {H : Type} {enc : TypeId × Value → H} {W : World} {base : Nat} {v : Value} {d : DataW H} {p : List MemPlace} (hv : Value.okWide Tryd.prog W .any base 24 v)
    (h : DataW.Trod enc Tryd.prog W 0 (fun _ => true) true 24 v d p) : ∃ ao cap m, v = mval ao cap m ∧ MCame W ao cap m ∧ (m.ts.length = 0 ∨ ∃ el sp y z, d = .agg [.slice el sp, y, z] ∧ el.length = m.ts.length) := by
  obtain ⟨cs, rfl, hsz⟩ := okWide_struct Tryd.underlying24 hv
  obtain ⟨fuel, hf⟩ := h
  have hl := hsz.trans cellsMf
  obtain ⟨l⟩ := cs
  match l, hl with
  | [c0, c1, c2], _ =>
    have hf' : DataW.trod enc Tryd.prog W 0 (fun _ => true) true fuel 24 [c0, c1, c2] = some (d, p) := hf
    obtain ⟨y0, y1, y2, m', hd, _, h0, h1, h2⟩ := Go.Deep.trod_struct3 Tryd.underlying24 hf'
    simp only [cellsIs, cellsIn] at h0 h1 h2
    have hdat : ∀ ao' n' cap', c0 = Value.slice ao' n' cap' → n' = 0 ∨ ∃ el sp, y0.1 = .slice el sp ∧ el.length = n' := fun ao' n' cap' e => by
      rcases open_ints Tryd.underlying22 Tryd.underlying3 (by kernel_rfl) (show DataW.trod enc Tryd.prog W 0 (fun _ => true) true m' 22 [c0] = some y0 from h0) with ⟨hcs, _⟩ | ⟨x, n, c', zs, hcs, _, hl, hm, hz, hx, hcell, hwz⟩
      · simp at hcs
        rw [hcs] at e
        cases e
        exact .inl rfl
      · simp at hcs
        rw [hcs] at e
        have hzl : zs.length = c' := by simpa using hz
        simp only [Value.slice.injEq] at e
        obtain ⟨-, rfl, -⟩ := e
        exact .inr ⟨_, _, congrArg Prod.fst hx, by simp [lits]; omega⟩
    obtain ⟨ao, cap, ts, e0, i1, i2, i3, i4⟩ := ints_cells (fuel := m') (c := c0) (y := y0) h0
    obtain ⟨r1, f1, rfl, q1⟩ := DataW.trod_int Tryd.underlying3 h1
    obtain ⟨r2, f2, rfl, q2⟩ := DataW.trod_int Tryd.underlying3 h2
    simp at f1 f2
    subst f1
    subst f2
    have hq := hdat _ _ _ e0
    subst e0
    have hd1 : d = .agg [y0.1, .lit (.int .i64 r1), .lit (.int .i64 r2)] := congrArg Prod.fst hd
    exact ⟨ao, cap, ⟨ts, r1, r2⟩, rfl, ⟨⟨i1, i2, i3⟩, i4, bounds_i64 q1, bounds_i64 q2⟩, hq.imp id fun ⟨el, sp, e1, e2⟩ => ⟨el, sp, .lit (.int .i64 r1), .lit (.int .i64 r2), by rw [hd1, e1], e2⟩⟩
/-- How many tables can have come in. -/
theorem man_fit {H : Type} {ts : List TypeId} {ds : List (DataW H)} {j n : Nat} {d : DataW H} (h : (DataW.weightsEach Tryd.prog ts ds).all (· ≤ reachBytes) = true) (ht : ts[j]? = some 24) (hd : ds[j]? = some d)
    (hn : n = 0 ∨ ∃ el sp y z, d = .agg [.slice el sp, y, z] ∧ el.length = n) : n ≤ 140737488355328 := by
  rcases hn with rfl | ⟨el, sp, y, z, rfl, rfl⟩
  · omega
  · have hw : ∀ n ∈ (DataW.agg [.slice el sp, y, z] : DataW H).weights Tryd.prog 24, n ≤ reachBytes := fun n hn => by
      have := List.all_eq_true.1 h n (DataW.weights_mem_each ht hd n hn)
      simpa using this
    have a1 := hw ((el.length + sp.length) * Tryd.prog.bytesOf 3) (by simp [DataW.weights, DataW.weightsEach, Tryd.underlying24, Tryd.underlying22])
    rw [show Tryd.prog.bytesOf 3 = 8 by kernel_rfl] at a1
    simp only [reachBytes] at a1
    omega
theorem bytes_capM {H : Type} {enc : TypeId × Value → H} {W : World} {ao : Option Addr} {len cap : Nat} {d : DataW H} {p : List MemPlace}
    (h : DataW.Trod enc Tryd.prog W 0 (fun _ => true) true 25 (Value.slice ao len cap) d p) : cap ≤ 9223372036854775807 := by
  obtain ⟨fuel, hf⟩ := h
  rcases open_ints Tryd.underlying25 Tryd.underlying5 (by kernel_rfl) hf with ⟨hcs, _⟩ | ⟨x, n, c, zs, hcs, _, hl, hm, hz, hx, hcell, hwz⟩
  · simp [Value.cells] at hcs; omega
  · simp [Value.cells] at hcs; unfold maxLen at hm; omega
end Go.Proofs.YthihljjefncfoaaDoor
