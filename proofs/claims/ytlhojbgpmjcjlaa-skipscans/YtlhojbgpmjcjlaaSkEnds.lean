/-
  THE ENDS OF A SCAN that came in.
-/
import Derived.Test.YtlhojbgpmjcjlaaCxLaid
namespace Go.Proofs.Ytlhojbgpmjcjlaa
open Go.ChangeShapes Go.WideShapes Go.ChangeAt Go.RowKit Go.Deep

/-- Two keys and a number. -/
def endsV (f u : Kb) (s : Int) : Value := .agg #[.string f.t, .string f.p, .int .i64 f.r, .string f.c, .string u.t, .string u.p, .int .i64 u.r, .string u.c, .int .i64 s]
set_option maxRecDepth 100000 in
theorem cellsEn : Try.prog.cellsOf 27 = 9 := by kernel_rfl
set_option maxRecDepth 100000 in
theorem ends_came {H : Type} {enc : TypeId × Value → H} {W : World} {base : Nat} {v : Value} {d : DataW H} {p : List MemPlace} (hv : Value.okWide Try.prog W .any base 27 v)
    (h : DataW.Trod enc Try.prog W 0 (fun _ => true) true 27 v d p) : ∃ (f u : Kb) (s : Int), v = endsV f u s ∧ InI s := by
  obtain ⟨cs, rfl, hsz⟩ := okWide_struct Try.underlying27 hv
  obtain ⟨fuel, hf⟩ := h
  have hl := hsz.trans cellsEn
  obtain ⟨l⟩ := cs
  match l, hl with
  | [c0, c1, c2, c3, c4, c5, c6, c7, c8], _ =>
    have hf' : DataW.trod enc Try.prog W 0 (fun _ => true) true fuel 27 [c0, c1, c2, c3, c4, c5, c6, c7, c8] = some (d, p) := hf
    obtain ⟨y0, y1, y2, m, _, _, h0, h1, h2⟩ := trod_struct3 Try.underlying27 hf'
    simp only [cellsXK, cellsXI] at h0 h1 h2
    obtain ⟨k, ek, _, _⟩ := kx_open (n := m) (c0 := c0) (c1 := c1) (c2 := c2) (c3 := c3) (x := y0) h0
    obtain ⟨k', ek', _, _⟩ := kx_open (n := m) (c0 := c4) (c1 := c5) (c2 := c6) (c3 := c7) (x := y1) h1
    obtain ⟨s, es, _, ws⟩ := DataW.trod_int Try.underlying3 h2
    simp at ek ek' es
    obtain ⟨rfl, rfl, rfl, rfl⟩ := ek
    obtain ⟨rfl, rfl, rfl, rfl⟩ := ek'
    subst es
    exact ⟨k, k', s, rfl, bounds_i64 ws⟩
end Go.Proofs.Ytlhojbgpmjcjlaa
