/-
  A NAME WITH A NUMBER, CELLS, BYTES THAT CAME IN.
-/
import Derived.Test.YtlamncldbnagmaaGreatDoorMany25
import Derived.Test.YtlamncldbnagmaaGreatDoorMany5
import Derived.Test.YtlamncldbnagmaaGreatDoorMany17
import Derived.ChangeSame
namespace Go.Proofs.YtlamncldbnagmaaGreatDoor
open Go.ChangeShapes Go.WideShapes Go.ChangeAt Go.RowKit

theorem cellsNm : Tryz.prog.cellsOf 25 = 2 := by kernel_rfl
set_option maxRecDepth 100000 in
theorem name_came {H : Type} {enc : TypeId × Value → H} {W : World} {base : Nat} {v : Value} {d : DataW H} {p : List MemPlace} (hv : Value.okWide Tryz.prog W .any base 25 v)
    (h : DataW.Trod enc Tryz.prog W 0 (fun _ => true) true 25 v d p) : ∃ (n : Int) (s : ByteArray), v = .agg #[.int .i64 n, .string s] ∧ (-9223372036854775808 ≤ n ∧ n ≤ 9223372036854775807) ∧ d = .agg [iD n, sD s] := by
  obtain ⟨cs, rfl, hsz⟩ := okWide_struct Tryz.underlying25 hv
  obtain ⟨fuel, hf⟩ := h
  have hl := hsz.trans cellsNm
  obtain ⟨l⟩ := cs
  match l, hl with
  | [c0, c1], _ =>
    have hf' : DataW.trod enc Tryz.prog W 0 (fun _ => true) true fuel 25 [c0, c1] = some (d, p) := hf
    obtain ⟨u0, u1, m', hu, _, g0, g1⟩ := trod_struct2 Tryz.underlying25 hf'
    simp only [cellsXI, cellsXS] at g0 g1
    obtain ⟨r0, f0, rfl, q0⟩ := DataW.trod_int Tryz.underlying3 g0
    obtain ⟨r1, f1, rfl, _⟩ := DataW.trod_string Tryz.underlying9 g1
    simp at f0 f1
    subst f0
    subst f1
    exact ⟨r0, r1, rfl, bounds_i64 q0, congrArg Prod.fst hu⟩
set_option maxRecDepth 100000 in
theorem name_fit {H : Type} {ts : List TypeId} {ds : List (DataW H)} {j : Nat} {n : Int} {s : ByteArray} (h : (DataW.weightsEach Tryz.prog ts ds).all (· ≤ reachBytes) = true) (ht : ts[j]? = some 25) (hd : ds[j]? = some (.agg [iD n, sD s])) : s.size ≤ 140737488355328 := by
  have : s.size ≤ big := reach_mem h ht hd (by unfold sD iD; simp [DataW.weights, DataW.weightsEach, Tryz.underlying25])
  unfold big at this
  exact this
theorem bytes_capW {H : Type} {enc : TypeId × Value → H} {W : World} {ao : Option Addr} {len cap : Nat} {d : DataW H} {p : List MemPlace}
    (h : DataW.Trod enc Tryz.prog W 0 (fun _ => true) true 23 (Value.slice ao len cap) d p) : cap ≤ 9223372036854775807 := by
  obtain ⟨fuel, hf⟩ := h
  rcases open_ints Tryz.underlying23 Tryz.underlying5 (by kernel_rfl) hf with ⟨hcs, _⟩ | ⟨x, n, c, zs, hcs, _, hl, hm, hz, hx, hcell, hwz⟩
  · simp [Value.cells] at hcs; omega
  · simp [Value.cells] at hcs; unfold maxLen at hm; omega
theorem wt_max {c : Cx} (h : wtX c ≤ 562949953421312) : CxMax c := by
  unfold wtX at h
  have hm : (562949953421312 : Nat) ≤ maxLen := by decide
  exact ⟨by omega, by omega, by omega, by omega⟩
end Go.Proofs.YtlamncldbnagmaaGreatDoor
