/-
  A TIME (When) THAT CAME IN.
-/
import Derived.Test.YtkdeaogmifhnhaaVerLaid
namespace Go.Proofs.Ytkdeaogmifhnhaa
open Go.ChangeShapes Go.WideShapes Go.ChangeAt Go.RowKit

theorem cellsWhen : Try.prog.cellsOf 25 = 2 := by kernel_rfl
theorem cellsIntW : Try.prog.cellsOf 3 = 1 := by kernel_rfl
set_option maxRecDepth 100000 in
theorem when_came {H : Type} {enc : TypeId × Value → H} {W : World} {base : Nat} {v : Value} {d : DataW H} {p : List MemPlace} (hv : Value.okWide Try.prog W .any base 25 v)
    (h : DataW.Trod enc Try.prog W 0 (fun _ => true) true 25 v d p) : ∃ (x y : Int), v = .agg #[.int .i64 x, .int .i64 y] ∧ InI x ∧ InI y := by
  obtain ⟨cs, rfl, hsz⟩ := okWide_struct Try.underlying25 hv
  obtain ⟨fuel, hf⟩ := h
  have hl := hsz.trans cellsWhen
  obtain ⟨l⟩ := cs
  match l, hl with
  | [c0, c1], _ =>
    have hf' : DataW.trod enc Try.prog W 0 (fun _ => true) true fuel 25 [c0, c1] = some (d, p) := hf
    obtain ⟨u0, u1, m', hu, _, g0, g1⟩ := trod_struct2 Try.underlying25 hf'
    simp only [cellsIntW] at g0 g1
    obtain ⟨r0, f0, rfl, q0⟩ := DataW.trod_int Try.underlying3 g0
    obtain ⟨r1, f1, rfl, q1⟩ := DataW.trod_int Try.underlying3 g1
    simp at f0 f1
    subst f0
    subst f1
    exact ⟨r0, r1, rfl, bounds_i64 q0, bounds_i64 q1⟩
end Go.Proofs.Ytkdeaogmifhnhaa
