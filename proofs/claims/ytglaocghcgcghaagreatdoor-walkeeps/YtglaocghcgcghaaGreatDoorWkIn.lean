/-
  THE LAW WalKeeps, walked, of what came in.
-/
import Derived.Test.YtglaocghcgcghaaGreatDoorWkKeepsWalk
import Derived.Test.YtglaocghcgcghaaGreatDoorMany31
import Derived.OpenShut
namespace Go.Proofs.YtglaocghcgcghaaGreatDoor
open Go.ChangeShapes Go.WideShapes Go.ChangeAt Go.RowKit

theorem cellsCutK : Tryz.prog.cellsOf 25 = 2 := by kernel_rfl
theorem cellsUintK : Tryz.prog.cellsOf 23 = 1 := by kernel_rfl
theorem cellsIntK : Tryz.prog.cellsOf 3 = 1 := by kernel_rfl
set_option maxRecDepth 100000 in
/-- A cut that came in. -/
theorem cut_came {H : Type} {enc : TypeId × Value → H} {W : World} {base : Nat} {v : Value} {d : DataW H} {p : List MemPlace} (hv : Value.okWide Tryz.prog W .any base 25 v)
    (h : DataW.Trod enc Tryz.prog W 0 (fun _ => true) true 25 v d p) : ∃ x y : Int, v = .agg #[.int .u64 x, .int .i64 y] ∧ (0 ≤ x ∧ x ≤ 18446744073709551615) ∧ (-9223372036854775808 ≤ y ∧ y ≤ 9223372036854775807) := by
  obtain ⟨cs, rfl, hsz⟩ := okWide_struct Tryz.underlying25 hv
  obtain ⟨fuel, hf⟩ := h
  have hl := hsz.trans cellsCutK
  obtain ⟨l⟩ := cs
  match l, hl with
  | [c0, c1], _ =>
    obtain ⟨xs, n, _, hd, hl, hlen, hf⟩ := DataW.trod_struct Tryz.underlying25 hf
    match xs, hlen with
    | [y0, y1], _ =>
      have h0 : DataW.trod enc Tryz.prog W 0 (fun _ => true) true n 23 ((([c0, c1] : List Value).drop 0).take (Tryz.prog.cellsOf 23)) = some y0 := hf 0 _ rfl
      have h1 : DataW.trod enc Tryz.prog W 0 (fun _ => true) true n 3 ((([c0, c1] : List Value).drop 1).take (Tryz.prog.cellsOf 3)) = some y1 := hf 1 _ rfl
      rw [cellsUintK] at h0
      rw [cellsIntK] at h1
      obtain ⟨z0, e0, _, w0⟩ := DataW.trod_int Tryz.underlying23 h0
      obtain ⟨z1, e1, _, w1⟩ := DataW.trod_int Tryz.underlying3 h1
      cases e0
      cases e1
      exact ⟨z0, z1, rfl, bounds_u64 w0, bounds_i64 w1⟩
end Go.Proofs.YtglaocghcgcghaaGreatDoor
namespace Go.Proofs.YtglaocghcgcghaaGreatDoor.walKeeps
open Go.RowKit Go.Proofs.YtglaocghcgcghaaGreatDoor

theorem walk (lo : Option Addr) (vs : List Lvx) (cap : Nat) (N1 K1 N2 K2 : Int) (w : World) (he : EnvW w) (ht : Tab w) (ue : TypeId) (pv : Value) (hE : Err w ue pv) (hL : LSees w lo vs) (hX : ∀ v ∈ vs, XSees w v.ao v.l ∧ ∀ c ∈ v.l, c.In)
    (hF : vs.length ≤ 140737488355328 ∧ ∀ v ∈ vs, v.l.length ≤ 140737488355328 ∧ ∀ c ∈ v.l, CxMax c ∧ wtX c ≤ 562949953421312) (hN1 : 0 ≤ N1 ∧ N1 ≤ 18446744073709551615) (hK1 : -9223372036854775808 ≤ K1 ∧ K1 ≤ 9223372036854775807) (hN2 : 0 ≤ N2 ∧ N2 ≤ 18446744073709551615) (hK2 : -9223372036854775808 ≤ K2 ∧ K2 ≤ 9223372036854775807) :
    Calls Tryz.prog 3 #[.slice lo vs.length cap, .agg #[.int .u64 N1, .int .i64 K1], .agg #[.int .u64 N2, .int .i64 K2]] w fun e w' => e = .returned (.bool true) ∧ Below w.heap.size w w' :=
  keepsWalk0 lo vs cap N1 K1 N2 K2 w he ht ue pv hE hL (fun v hv => (hX v hv).1) (fun v hv => ⟨(hF.2 v hv).1, fun c hc => ((hF.2 v hv).2 c hc).1, fun c hc => ⟨((hX v hv).2 c hc).1, ((hX v hv).2 c hc).2⟩, fun c hc => ((hF.2 v hv).2 c hc).2⟩) hF.1 hN1 hK1 hN2 hK2
end Go.Proofs.YtglaocghcgcghaaGreatDoor.walKeeps
