/-
  WHAT COMES IN: an act, as a row's reading gives it.
-/
import Derived.Test.YtbabepnoncpdlaaRowAid
import Derived.Lib.SmallJoins
namespace Go.Proofs.Ytbabepnoncpdlaa
open Go.ChangeShapes Go.WideShapes Go.ChangeAt Go.RowKit Go.Joins

theorem array6 {α : Type} {cs : Array α} (h : cs.size = 6) : ∃ c0 c1 c2 c3 c4 c5, cs = #[c0, c1, c2, c3, c4, c5] := by
  obtain ⟨l⟩ := cs
  match l, h with
  | [c0, c1, c2, c3, c4, c5], _ => exact ⟨c0, c1, c2, c3, c4, c5, rfl⟩
theorem cellsAct : Try.prog.cellsOf 44 = 6 := by kernel_rfl
theorem cellsInt : Try.prog.cellsOf 3 = 1 := by kernel_rfl
theorem cellsStr : Try.prog.cellsOf 9 = 1 := by kernel_rfl
theorem cellsByt : Try.prog.cellsOf 26 = 1 := by kernel_rfl
set_option maxRecDepth 100000 in
/-- An act that came in. -/
theorem act_open {H : Type} {enc : TypeId × Value → H} {W : World} {base : Nat} {v : Value} {d : DataW H} {p : List MemPlace} (hv : Value.okWide Try.prog W .any base 44 v)
    (h : DataW.Trod enc Try.prog W 0 (fun _ => true) true 44 v d p) : ∃ (kind n m : Int) (sa sb : ByteArray) (ao : Option Addr) (len cap : Nat), v = .agg #[.int .i64 kind, .string sa, .string sb, .slice ao len cap, .int .i64 n, .int .i64 m] := by
  obtain ⟨cs, rfl, hsz⟩ := okWide_struct Try.underlying44 hv
  obtain ⟨c0, c1, c2, c3, c4, c5, rfl⟩ := array6 (hsz.trans cellsAct)
  obtain ⟨fuel, hf⟩ := h
  obtain ⟨xs, n, _, _, hl, hlen, hf⟩ := DataW.trod_struct Try.underlying44 hf
  match xs, hlen with
  | [y0, y1, y2, y3, y4, y5], _ =>
    have h0 : DataW.trod enc Try.prog W 0 (fun _ => true) true n 3 ((([c0, c1, c2, c3, c4, c5] : List Value).drop 0).take (Try.prog.cellsOf 3)) = some y0 := hf 0 _ rfl
    rw [cellsInt] at h0
    have h1 : DataW.trod enc Try.prog W 0 (fun _ => true) true n 9 ((([c0, c1, c2, c3, c4, c5] : List Value).drop 1).take (Try.prog.cellsOf 9)) = some y1 := hf 1 _ rfl
    rw [cellsStr] at h1
    have h2 : DataW.trod enc Try.prog W 0 (fun _ => true) true n 9 ((([c0, c1, c2, c3, c4, c5] : List Value).drop 2).take (Try.prog.cellsOf 9)) = some y2 := hf 2 _ rfl
    rw [cellsStr] at h2
    have h3 : DataW.trod enc Try.prog W 0 (fun _ => true) true n 26 ((([c0, c1, c2, c3, c4, c5] : List Value).drop 3).take (Try.prog.cellsOf 26)) = some y3 := hf 3 _ rfl
    rw [cellsByt] at h3
    have h4 : DataW.trod enc Try.prog W 0 (fun _ => true) true n 3 ((([c0, c1, c2, c3, c4, c5] : List Value).drop 4).take (Try.prog.cellsOf 3)) = some y4 := hf 4 _ rfl
    rw [cellsInt] at h4
    have h5 : DataW.trod enc Try.prog W 0 (fun _ => true) true n 3 ((([c0, c1, c2, c3, c4, c5] : List Value).drop 5).take (Try.prog.cellsOf 3)) = some y5 := hf 5 _ rfl
    rw [cellsInt] at h5
    obtain ⟨k, e0, _, _⟩ := DataW.trod_int Try.underlying3 h0
    obtain ⟨sa, e1, _, _⟩ := DataW.trod_string Try.underlying9 h1
    obtain ⟨sb, e2, _, _⟩ := DataW.trod_string Try.underlying9 h2
    obtain ⟨a, l, c, e3⟩ := slice_form Try.underlying26 h3
    obtain ⟨n4, e4, _, _⟩ := DataW.trod_int Try.underlying3 h4
    obtain ⟨n5, e5, _, _⟩ := DataW.trod_int Try.underlying3 h5
    cases e0
    cases e1
    cases e2
    cases e3
    cases e4
    cases e5
    exact ⟨k, n4, n5, sa, sb, a, l, c, rfl⟩
theorem cellsLoss : Try.prog.cellsOf 28 = 2 := by kernel_rfl
set_option maxRecDepth 100000 in
/-- A loss that came in: its bytes, and a number. -/
theorem loss_open {H : Type} {enc : TypeId × Value → H} {W : World} {base : Nat} {v : Value} {d : DataW H} {p : List MemPlace} (hv : Value.okWide Try.prog W .any base 28 v)
    (h : DataW.Trod enc Try.prog W 0 (fun _ => true) true 28 v d p) : ∃ (n : Int) (ao : Option Addr) (l : List UInt8) (cap : Nat), v = .agg #[.slice ao l.length cap, .int .i64 n] ∧ (Lit.int .i64 n).wf = true ∧ Sees W ao l ∧ (ao = none → l.length = 0) ∧ (l.length = 0 ∨ ∃ el sp, d = .agg [.slice el sp, .lit (.int .i64 n)] ∧ el.length = l.length) := by
  obtain ⟨cs, rfl, hsz⟩ := okWide_struct Try.underlying28 hv
  obtain ⟨c0, c1, rfl⟩ := array2 (hsz.trans cellsLoss)
  obtain ⟨fuel, hf⟩ := h
  obtain ⟨xs, n, _, hd, hl, hlen, hf⟩ := DataW.trod_struct Try.underlying28 hf
  match xs, hlen with
  | [y0, y1], _ =>
    have h0 : DataW.trod enc Try.prog W 0 (fun _ => true) true n 26 ((([c0, c1] : List Value).drop 0).take (Try.prog.cellsOf 26)) = some y0 := hf 0 _ rfl
    have h1 : DataW.trod enc Try.prog W 0 (fun _ => true) true n 3 ((([c0, c1] : List Value).drop 1).take (Try.prog.cellsOf 3)) = some y1 := hf 1 _ rfl
    rw [cellsByt] at h0
    rw [cellsInt] at h1
    obtain ⟨a, len, c, e0⟩ := slice_form Try.underlying26 h0
    obtain ⟨k, e1, hy1, hw⟩ := DataW.trod_int Try.underlying3 h1
    cases e0
    cases e1
    obtain ⟨y0d, y0p⟩ := y0
    have h0' : DataW.trod enc Try.prog W 0 (fun _ => true) true n 26 (Value.slice a len c).cells.toList = some (y0d, y0p) := h0
    obtain ⟨l, rfl, hs, hz, _, _, hsz⟩ := bytes_open ⟨n, h0'⟩
    refine ⟨k, a, l, c, rfl, hw, hs, hz, hsz.imp id fun ⟨el, sp, h2, h3⟩ => ⟨el, sp, ?_, h3⟩⟩
    have hd1 := congrArg Prod.fst hd
    simp at hd1
    rw [hd1, hy1, h2]
/-- How many bytes can have come in within a loss. -/
theorem loss_reach {H : Type} {ts : List TypeId} {ds : List (DataW H)} {j n : Nat} {d x : DataW H} (h : (DataW.weightsEach Try.prog ts ds).all (· ≤ reachBytes) = true) (ht : ts[j]? = some 28) (hd : ds[j]? = some d)
    (hn : n = 0 ∨ ∃ el sp, d = .agg [.slice el sp, x] ∧ el.length = n) : n ≤ 140737488351232 := by
  rcases hn with rfl | ⟨el, sp, rfl, rfl⟩
  · omega
  · have := List.all_eq_true.1 h _ (DataW.weights_mem_each ht hd ((el.length + sp.length) * Try.prog.bytesOf 5) (by simp [DataW.weights, DataW.weightsEach, Try.underlying28, Try.underlying26]))
    have := of_decide_eq_true this
    rw [bytes8] at this
    simp only [reachBytes] at this
    omega
end Go.Proofs.Ytbabepnoncpdlaa
