/-
  VERSIONS AND CELLS THAT CAME IN.
-/
import Derived.Test.YtglaocghcgcghaaGreatDoorMany19
import Derived.Test.YtglaocghcgcghaaGreatDoorMany1
import Derived.Deep.Slices
import Derived.Deep.Strs
namespace Go.Proofs.YtglaocghcgcghaaGreatDoor
open Go.ChangeShapes Go.WideShapes Go.ChangeAt Go.RowKit Go.Deep

section
variable {H : Type} {enc : TypeId × Value → H} {P : Program} {w : World} {base : Nat} {spare : Nat → Bool} {held : Bool}
set_option maxRecDepth 100000 in
theorem trod_s4 {t : TypeId} {f0 f1 f2 f3 : Field} {fuel : Nat} {cs : List Value} {x : DataW H × List MemPlace} (ht : P.underlying t = some (.struct #[f0, f1, f2, f3])) (h : DataW.trod enc P w base spare held fuel t cs = some x) :
    ∃ y0 y1 y2 y3 n, x.1 = .agg [y0.1, y1.1, y2.1, y3.1] ∧ cs.length = P.cellsOf t ∧ DataW.trod enc P w base spare held n f0.type ((cs.drop f0.offset).take (P.cellsOf f0.type)) = some y0 ∧
      DataW.trod enc P w base spare held n f1.type ((cs.drop f1.offset).take (P.cellsOf f1.type)) = some y1 ∧ DataW.trod enc P w base spare held n f2.type ((cs.drop f2.offset).take (P.cellsOf f2.type)) = some y2 ∧
      DataW.trod enc P w base spare held n f3.type ((cs.drop f3.offset).take (P.cellsOf f3.type)) = some y3 := by
  obtain ⟨xs, n, _, rfl, hl, hlen, hf⟩ := DataW.trod_struct ht h
  match xs, hlen with
  | [y0, y1, y2, y3], _ => exact ⟨y0, y1, y2, y3, n, by simp, hl, by simpa using hf 0 f0 rfl, by simpa using hf 1 f1 rfl, by simpa using hf 2 f2 rfl, by simpa using hf 3 f3 rfl⟩
end
set_option maxRecDepth 100000 in
theorem cellsXK : Tryz.prog.cellsOf 44 = 4 := by kernel_rfl
set_option maxRecDepth 100000 in
theorem cellsXV : Tryz.prog.cellsOf 46 = 3 := by kernel_rfl
set_option maxRecDepth 100000 in
theorem cellsXR : Tryz.prog.cellsOf 48 = 6 := by kernel_rfl
set_option maxRecDepth 100000 in
theorem cellsXC : Tryz.prog.cellsOf 50 = 10 := by kernel_rfl
set_option maxRecDepth 100000 in
theorem cellsXI : Tryz.prog.cellsOf 3 = 1 := by kernel_rfl
set_option maxRecDepth 100000 in
theorem cellsXB : Tryz.prog.cellsOf 4 = 1 := by kernel_rfl
set_option maxRecDepth 100000 in
theorem cellsXS : Tryz.prog.cellsOf 9 = 1 := by kernel_rfl

def sD {H : Type} (s : ByteArray) : DataW H := .lit (.string s.data.toList)
def iD {H : Type} (n : Int) : DataW H := .lit (.int .i64 n)
def kxD {H : Type} (k : Kb) : DataW H := .agg [sD k.t, sD k.p, iD k.r, sD k.c]
def vxD {H : Type} (a : Vr) : DataW H := .agg [iD a.time, .lit (.bool a.dead), iD a.loc, .agg [iD a.kind, iD a.num, sD a.s]]
def cxD {H : Type} (c : Cx) : DataW H := .agg [kxD c.k, vxD c.v]

section
variable {H : Type} {enc : TypeId × Value → H} {w : World} {base : Nat} {spare : Nat → Bool} {held : Bool}
set_option maxRecDepth 100000 in
theorem kx_open {n : Nat} {c0 c1 c2 c3 : Value} {x : DataW H × List MemPlace} (h : DataW.trod enc Tryz.prog w base spare held n 44 [c0, c1, c2, c3] = some x) :
    ∃ k : Kb, [c0, c1, c2, c3] = [.string k.t, .string k.p, .int .i64 k.r, .string k.c] ∧ InI k.r ∧ x.1 = kxD k := by
  obtain ⟨y0, y1, y2, y3, m, hx, _, h0, h1, h2, h3⟩ := trod_s4 Tryz.underlying44 h
  simp only [cellsXS, cellsXI] at h0 h1 h2 h3
  obtain ⟨s0, e0, rfl, _⟩ := DataW.trod_string Tryz.underlying9 h0
  obtain ⟨s1, e1, rfl, _⟩ := DataW.trod_string Tryz.underlying9 h1
  obtain ⟨s2, e2, rfl, w2⟩ := DataW.trod_int Tryz.underlying3 h2
  obtain ⟨s3, e3, rfl, _⟩ := DataW.trod_string Tryz.underlying9 h3
  simp at e0 e1 e2 e3
  subst e0
  subst e1
  subst e2
  subst e3
  exact ⟨⟨s0, s1, s2, s3⟩, rfl, bounds_i64 w2, hx⟩
set_option maxRecDepth 100000 in
theorem vx_open {n : Nat} {c0 c1 c2 c3 c4 c5 : Value} {x : DataW H × List MemPlace} (h : DataW.trod enc Tryz.prog w base spare held n 48 [c0, c1, c2, c3, c4, c5] = some x) :
    ∃ a : Vr, [c0, c1, c2, c3, c4, c5] = a.a.toList ∧ InI a.time ∧ InI a.loc ∧ InI a.kind ∧ InI a.num ∧ x.1 = vxD a := by
  obtain ⟨y0, y1, y2, y3, m, hx, _, h0, h1, h2, h3⟩ := trod_s4 Tryz.underlying48 h
  simp only [cellsXI, cellsXB, cellsXV] at h0 h1 h2 h3
  obtain ⟨s0, e0, rfl, w0⟩ := DataW.trod_int Tryz.underlying3 h0
  obtain ⟨s1, e1, rfl⟩ := DataW.trod_bool Tryz.underlying4 h1
  obtain ⟨s2, e2, rfl, w2⟩ := DataW.trod_int Tryz.underlying3 h2
  simp at e0 e1 e2
  subst e0
  subst e1
  subst e2
  have h3' : DataW.trod enc Tryz.prog w base spare held m 46 [c3, c4, c5] = some y3 := h3
  obtain ⟨u0, u1, u2, m', hu, _, g0, g1, g2⟩ := trod_struct3 Tryz.underlying46 h3'
  simp only [cellsXS, cellsXI] at g0 g1 g2
  obtain ⟨r0, f0, rfl, q0⟩ := DataW.trod_int Tryz.underlying3 g0
  obtain ⟨r1, f1, rfl, q1⟩ := DataW.trod_int Tryz.underlying3 g1
  obtain ⟨r2, f2, rfl, _⟩ := DataW.trod_string Tryz.underlying9 g2
  simp at f0 f1 f2
  subst f0
  subst f1
  subst f2
  exact ⟨⟨s0, s1, s2, r0, r1, r2⟩, rfl, bounds_i64 w0, bounds_i64 w2, bounds_i64 q0, bounds_i64 q1, by rw [hx, hu]; rfl⟩
set_option maxRecDepth 100000 in
theorem cx_open {n : Nat} {cs : List Value} {x : DataW H × List MemPlace} (h : DataW.trod enc Tryz.prog w base spare held n 50 cs = some x) :
    ∃ c : Cx, cs = c.a.toList ∧ InI c.k.r ∧ (InI c.v.time ∧ InI c.v.loc ∧ InI c.v.kind ∧ InI c.v.num) ∧ x.1 = cxD c := by
  obtain ⟨y0, y1, m, rfl, hl, h0, h1⟩ := trod_struct2 Tryz.underlying50 h
  rw [cellsXC] at hl
  match cs, hl with
  | [c0, c1, c2, c3, c4, c5, c6, c7, c8, c9], _ =>
    simp only [cellsXK] at h0
    simp only [cellsXR] at h1
    obtain ⟨k, ek, ok, dk⟩ := kx_open (n := m) (c0 := c0) (c1 := c1) (c2 := c2) (c3 := c3) (x := y0) h0
    obtain ⟨v, ev, o1, o2, o3, o4, dv⟩ := vx_open (n := m) (c0 := c4) (c1 := c5) (c2 := c6) (c3 := c7) (c4 := c8) (c5 := c9) (x := y1) h1
    obtain ⟨table, part, row, col⟩ := k
    obtain ⟨time, dead, loc, kind, num, s⟩ := v
    simp at ek
    simp [Vr.a] at ev
    obtain ⟨rfl, rfl, rfl, rfl⟩ := ek
    obtain ⟨rfl, rfl, rfl, rfl, rfl, rfl⟩ := ev
    exact ⟨⟨⟨table, part, row, col⟩, ⟨time, dead, loc, kind, num, s⟩⟩, rfl, ok, ⟨o1, o2, o3, o4⟩, by rw [dk, dv]; rfl⟩
end
set_option maxRecDepth 100000 in
theorem array6 {α : Type} {cs : Array α} (h : cs.size = 6) : ∃ c0 c1 c2 c3 c4 c5, cs = #[c0, c1, c2, c3, c4, c5] := by
  obtain ⟨l⟩ := cs
  match l, h with
  | [c0, c1, c2, c3, c4, c5], _ => exact ⟨c0, c1, c2, c3, c4, c5, rfl⟩
set_option maxRecDepth 100000 in
theorem array4' {α : Type} {cs : Array α} (h : cs.size = 4) : ∃ c0 c1 c2 c3, cs = #[c0, c1, c2, c3] := by
  obtain ⟨l⟩ := cs
  match l, h with
  | [c0, c1, c2, c3], _ => exact ⟨c0, c1, c2, c3, rfl⟩
set_option maxRecDepth 100000 in
/-- A version that came in. -/
theorem ver_came {H : Type} {enc : TypeId × Value → H} {W : World} {base : Nat} {v : Value} {d : DataW H} {p : List MemPlace} (hv : Value.okWide Tryz.prog W .any base 48 v)
    (h : DataW.Trod enc Tryz.prog W 0 (fun _ => true) true 48 v d p) : ∃ a : Vr, v = a.v ∧ (InI a.time ∧ InI a.loc ∧ InI a.kind ∧ InI a.num) ∧ d = vxD a := by
  obtain ⟨cs, rfl, hsz⟩ := okWide_struct Tryz.underlying48 hv
  obtain ⟨c0, c1, c2, c3, c4, c5, rfl⟩ := array6 (hsz.trans cellsXR)
  obtain ⟨fuel, hf⟩ := h
  obtain ⟨a, ea, o1, o2, o3, o4, hd⟩ := vx_open (n := fuel) (c0 := c0) (c1 := c1) (c2 := c2) (c3 := c3) (c4 := c4) (c5 := c5) (x := (d, p)) hf
  obtain ⟨time, dead, loc, kind, num, s⟩ := a
  simp [Vr.a] at ea
  obtain ⟨rfl, rfl, rfl, rfl, rfl, rfl⟩ := ea
  exact ⟨_, rfl, ⟨o1, o2, o3, o4⟩, hd⟩
set_option maxRecDepth 100000 in
/-- A key that came in. -/
theorem key_came {H : Type} {enc : TypeId × Value → H} {W : World} {base : Nat} {v : Value} {d : DataW H} {p : List MemPlace} (hv : Value.okWide Tryz.prog W .any base 44 v)
    (h : DataW.Trod enc Tryz.prog W 0 (fun _ => true) true 44 v d p) : ∃ k : Kb, v = k.v ∧ InI k.r ∧ d = kxD k := by
  obtain ⟨cs, rfl, hsz⟩ := okWide_struct Tryz.underlying44 hv
  obtain ⟨c0, c1, c2, c3, rfl⟩ := array4' (hsz.trans cellsXK)
  obtain ⟨fuel, hf⟩ := h
  obtain ⟨k, ek, o1, hd⟩ := kx_open (n := fuel) (c0 := c0) (c1 := c1) (c2 := c2) (c3 := c3) (x := (d, p)) hf
  obtain ⟨t, pp, r, c⟩ := k
  simp at ek
  obtain ⟨rfl, rfl, rfl, rfl⟩ := ek
  exact ⟨_, rfl, o1, hd⟩
set_option maxRecDepth 100000 in
/-- A cell that came in. -/
theorem cell_came {H : Type} {enc : TypeId × Value → H} {W : World} {base : Nat} {v : Value} {d : DataW H} {p : List MemPlace} (hv : Value.okWide Tryz.prog W .any base 50 v)
    (h : DataW.Trod enc Tryz.prog W 0 (fun _ => true) true 50 v d p) : ∃ c : Cx, v = c.val ∧ InI c.k.r ∧ (InI c.v.time ∧ InI c.v.loc ∧ InI c.v.kind ∧ InI c.v.num) ∧ d = cxD c := by
  obtain ⟨cs, rfl, hsz⟩ := okWide_struct Tryz.underlying50 hv
  obtain ⟨fuel, hf⟩ := h
  obtain ⟨c, ec, o1, o2, hd⟩ := cx_open (n := fuel) (cs := cs.toList) (x := (d, p)) hf
  have : cs = c.a := by rw [← Array.toArray_toList (xs := cs), ec, Array.toArray_toList]
  rw [this]
  exact ⟨c, rfl, o1, o2, hd⟩
set_option maxRecDepth 100000 in
theorem vxD_weights {H : Type} (a : Vr) : (vxD (H := H) a).weights Tryz.prog 48 = [a.s.size] := by
  unfold vxD sD iD
  simp [DataW.weights, DataW.weightsEach, Tryz.underlying48, Tryz.underlying46]
set_option maxRecDepth 100000 in
theorem kxD_weights {H : Type} (k : Kb) : (kxD (H := H) k).weights Tryz.prog 44 = [k.t.size, k.p.size, k.c.size] := by
  unfold kxD sD iD
  simp [DataW.weights, DataW.weightsEach, Tryz.underlying44]
set_option maxRecDepth 100000 in
theorem cxD_weights {H : Type} (c : Cx) : (cxD (H := H) c).weights Tryz.prog 50 = [c.k.t.size, c.k.p.size, c.k.c.size, c.v.s.size] := by
  unfold cxD kxD vxD sD iD
  simp [DataW.weights, DataW.weightsEach, Tryz.underlying50, Tryz.underlying44, Tryz.underlying48, Tryz.underlying46]
def big : Nat := 140737488355328
set_option maxRecDepth 100000 in
theorem reach_mem {H : Type} {ts : List TypeId} {ds : List (DataW H)} {j : Nat} {t : TypeId} {d : DataW H} (h : (DataW.weightsEach Tryz.prog ts ds).all (· ≤ reachBytes) = true) (ht : ts[j]? = some t) (hd : ds[j]? = some d) {n : Nat} (hn : n ∈ d.weights Tryz.prog t) : n ≤ big := by
  have := List.all_eq_true.1 h n (DataW.weights_mem_each ht hd n hn)
  have := of_decide_eq_true this
  simp only [reachBytes] at this
  unfold big; omega
/-- What came in is not great. -/
structure Cx.Fits (c : Cx) : Prop where
  r : InI c.k.r
  n : InI c.v.time ∧ InI c.v.loc ∧ InI c.v.kind ∧ InI c.v.num
  bt : c.k.t.size ≤ big
  bp : c.k.p.size ≤ big
  bc : c.k.c.size ≤ big
  bs : c.v.s.size ≤ big
set_option maxRecDepth 100000 in
theorem ver_reach {H : Type} {ts : List TypeId} {ds : List (DataW H)} {j : Nat} {a : Vr} (h : (DataW.weightsEach Tryz.prog ts ds).all (· ≤ reachBytes) = true) (ht : ts[j]? = some 48) (hd : ds[j]? = some (vxD a)) : a.s.size ≤ big :=
  reach_mem h ht hd (by rw [vxD_weights]; simp)
set_option maxRecDepth 100000 in
theorem cell_reach {H : Type} {ts : List TypeId} {ds : List (DataW H)} {j : Nat} {c : Cx} (o1 : InI c.k.r) (o2 : InI c.v.time ∧ InI c.v.loc ∧ InI c.v.kind ∧ InI c.v.num) (h : (DataW.weightsEach Tryz.prog ts ds).all (· ≤ reachBytes) = true) (ht : ts[j]? = some 50) (hd : ds[j]? = some (cxD c)) : c.Fits :=
  ⟨o1, o2, reach_mem h ht hd (by rw [cxD_weights]; simp), reach_mem h ht hd (by rw [cxD_weights]; simp), reach_mem h ht hd (by rw [cxD_weights]; simp), reach_mem h ht hd (by rw [cxD_weights]; simp)⟩
end Go.Proofs.YtglaocghcgcghaaGreatDoor
