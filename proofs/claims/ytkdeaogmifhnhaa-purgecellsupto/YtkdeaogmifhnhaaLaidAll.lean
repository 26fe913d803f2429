/-
  SEVERAL TEXTS IN ONE: RowAid, VerLaid, CxLaid, MrgBulk, MrgLists, PrgLaid.
-/
import Derived.Test.YtkdeaogmifhnhaaOwn
import Derived.Test.YtkdeaogmifhnhaaRows
import Derived.ProofKit
import Derived.OpenShut
import Derived.ShutString
import Derived.ChangeOld
import Derived.SizedLaws
import Derived.Test.YtkdeaogmifhnhaaVerLives
import Derived.Deep.Slices
import Derived.Deep.Strs
import Derived.Test.YtkdeaogmifhnhaaCxWeigh
import Derived.JoinedCond
import Derived.Test.YtkdeaogmifhnhaaMrgLow
import Derived.Lib.SmallJoins
namespace Go.Proofs.Ytkdeaogmifhnhaa
open Go.ChangeShapes Go.WideShapes Go.ChangeAt Go.RowKit

theorem own : ownKnob Try.prog.godebug = none := by kernel_rfl
theorem laidOut : laidOutB Try.prog = true := by kernel_rfl
theorem byte_valR (n : Nat) (h : n < 256) : ((UInt8.ofNat n).toNat : Int) = n := by
  simp; omega
/-- Bytes that came in. -/
theorem bytes_open {H : Type} {enc : TypeId × Value → H} {W : World} {ao : Option Addr} {len cap : Nat} {d : DataW H} {p : List MemPlace}
    (h : DataW.Trod enc Try.prog W 0 (fun _ => true) true 69 (Value.slice ao len cap) d p) :
    ∃ l : List UInt8, l.length = len ∧ Sees W ao l ∧ (ao = none → l.length = 0) ∧ l.length ≤ maxLen ∧ l.length ≤ cap ∧ (l.length = 0 ∨ ∃ el sp, d = .slice el sp ∧ el.length = l.length) := by
  obtain ⟨fuel, hf⟩ := h
  rcases open_ints Try.underlying69 Try.underlying5 (by kernel_rfl) hf with ⟨hcs, _⟩ | ⟨x, n, c, zs, hcs, _, hl, hm, hz, hx, hcell, hwz⟩
  · simp [Value.cells] at hcs
    obtain ⟨rfl, rfl, rfl⟩ := hcs
    exact ⟨[], rfl, Sees.nil _ _, fun _ => rfl, Nat.zero_le _, Nat.zero_le _, .inl rfl⟩
  · simp [Value.cells] at hcs
    obtain ⟨rfl, rfl, rfl⟩ := hcs
    have hzl : zs.length = cap := by simpa using hz
    have hlen : ((zs.take len).map fun z : Int => UInt8.ofNat z.toNat).length = len := by simp; omega
    refine ⟨(zs.take len).map fun z : Int => UInt8.ofNat z.toNat, hlen, fun i hi => ⟨x, rfl, ?_⟩, (fun h => by cases h), by omega, by omega, .inr ⟨_, _, congrArg Prod.fst hx, by rw [hlen]; simp [lits]; omega⟩⟩
    rw [hlen] at hi
    have hi' : i < zs.length := by omega
    rw [hcell i hi']
    have hb := bounds_u8 (hwz (zs.getD i 0) (by simp [List.getD, hi']))
    have e : ((zs.take len).map fun z : Int => UInt8.ofNat z.toNat).getD i 0 = UInt8.ofNat (zs.getD i 0).toNat := by simp [List.getD, hi, hi']
    rw [e, byte_valR _ (by omega), Int.toNat_of_nonneg hb.1]
theorem bytes8 : Try.prog.bytesOf 5 = 1 := by kernel_rfl
/-- How many bytes can have come in. -/
theorem bytes_reach {H : Type} {ts : List TypeId} {ds : List (DataW H)} {j n : Nat} {d : DataW H} (h : (DataW.weightsEach Try.prog ts ds).all (· ≤ reachBytes) = true) (ht : ts[j]? = some 69) (hd : ds[j]? = some d)
    (hn : n = 0 ∨ ∃ el sp, d = .slice el sp ∧ el.length = n) : n ≤ 140737488351232 := by
  rcases hn with rfl | ⟨el, sp, rfl, rfl⟩
  · omega
  · have := sized_slice h ht hd Try.underlying69
    rw [bytes8] at this
    simp only [reachBytes] at this
    omega
end Go.Proofs.Ytkdeaogmifhnhaa
namespace Go.Proofs.Ytkdeaogmifhnhaa
open Go.ChangeShapes Go.WideShapes Go.ChangeAt Go.RowKit Go.Deep

section
variable {H : Type} {enc : TypeId × Value → H} {P : Program} {w : World} {base : Nat} {spare : Nat → Bool} {held : Bool}
set_option maxRecDepth 100000 in
theorem trod_s4 {t : TypeId} {f0 f1 f2 f3 : Field} {fuel : Nat} {cs : List Value} {x : DataW H × List MemPlace} (ht : P.underlying t = some (.struct #[f0, f1, f2, f3])) (h : DataW.trod enc P w base spare held fuel t cs = some x) :
    ∃ y0 y1 y2 y3 n, x.1 = .agg [y0.1, y1.1, y2.1, y3.1] ∧ cs.length = P.cellsOf t ∧ DataW.trod enc P w base spare held n f0.type ((cs.drop f0.offset).take (P.cellsOf f0.type)) = some y0 ∧
      DataW.trod enc P w base spare held n f1.type ((cs.drop f1.offset).take (P.cellsOf f1.type)) = some y1 ∧ DataW.trod enc P w base spare held n f2.type ((cs.drop f2.offset).take (P.cellsOf f2.type)) = some y2 ∧
      DataW.trod enc P w base spare held n f3.type ((cs.drop f3.offset).take (P.cellsOf f3.type)) = some y3 := by
  obtain ⟨xs, n, _, rfl, hl, hlen, hf⟩ := DataW.trod_struct ht h
  match xs, hlen with
  | [y0, y1, y2, y3], _ => exact ⟨y0, y1, y2, y3, n, by simp, hl, by simpa using hf 0 f0 rfl, by simpa using hf 1 f1 rfl, by simpa using hf 2 f2 rfl, by simpa using hf 3 f3 rfl⟩
end
set_option maxRecDepth 100000 in
theorem cellsXK : Try.prog.cellsOf 29 = 4 := by kernel_rfl
set_option maxRecDepth 100000 in
theorem cellsXV : Try.prog.cellsOf 31 = 3 := by kernel_rfl
set_option maxRecDepth 100000 in
theorem cellsXR : Try.prog.cellsOf 33 = 6 := by kernel_rfl
set_option maxRecDepth 100000 in
theorem cellsXC : Try.prog.cellsOf 35 = 10 := by kernel_rfl
set_option maxRecDepth 100000 in
theorem cellsXI : Try.prog.cellsOf 3 = 1 := by kernel_rfl
set_option maxRecDepth 100000 in
theorem cellsXB : Try.prog.cellsOf 4 = 1 := by kernel_rfl
set_option maxRecDepth 100000 in
theorem cellsXS : Try.prog.cellsOf 9 = 1 := by kernel_rfl

def sD {H : Type} (s : ByteArray) : DataW H := .lit (.string s.data.toList)
def iD {H : Type} (n : Int) : DataW H := .lit (.int .i64 n)
def kxD {H : Type} (k : Kb) : DataW H := .agg [sD k.t, sD k.p, iD k.r, sD k.c]
def vxD {H : Type} (a : Vr) : DataW H := .agg [iD a.time, .lit (.bool a.dead), iD a.loc, .agg [iD a.kind, iD a.num, sD a.s]]
def cxD {H : Type} (c : Cx) : DataW H := .agg [kxD c.k, vxD c.v]

section
variable {H : Type} {enc : TypeId × Value → H} {w : World} {base : Nat} {spare : Nat → Bool} {held : Bool}
set_option maxRecDepth 100000 in
theorem kx_open {n : Nat} {c0 c1 c2 c3 : Value} {x : DataW H × List MemPlace} (h : DataW.trod enc Try.prog w base spare held n 29 [c0, c1, c2, c3] = some x) :
    ∃ k : Kb, [c0, c1, c2, c3] = [.string k.t, .string k.p, .int .i64 k.r, .string k.c] ∧ InI k.r ∧ x.1 = kxD k := by
  obtain ⟨y0, y1, y2, y3, m, hx, _, h0, h1, h2, h3⟩ := trod_s4 Try.underlying29 h
  simp only [cellsXS, cellsXI] at h0 h1 h2 h3
  obtain ⟨s0, e0, rfl, _⟩ := DataW.trod_string Try.underlying9 h0
  obtain ⟨s1, e1, rfl, _⟩ := DataW.trod_string Try.underlying9 h1
  obtain ⟨s2, e2, rfl, w2⟩ := DataW.trod_int Try.underlying3 h2
  obtain ⟨s3, e3, rfl, _⟩ := DataW.trod_string Try.underlying9 h3
  simp at e0 e1 e2 e3
  subst e0
  subst e1
  subst e2
  subst e3
  exact ⟨⟨s0, s1, s2, s3⟩, rfl, bounds_i64 w2, hx⟩
set_option maxRecDepth 100000 in
theorem vx_open {n : Nat} {c0 c1 c2 c3 c4 c5 : Value} {x : DataW H × List MemPlace} (h : DataW.trod enc Try.prog w base spare held n 33 [c0, c1, c2, c3, c4, c5] = some x) :
    ∃ a : Vr, [c0, c1, c2, c3, c4, c5] = a.a.toList ∧ InI a.time ∧ InI a.loc ∧ InI a.kind ∧ InI a.num ∧ x.1 = vxD a := by
  obtain ⟨y0, y1, y2, y3, m, hx, _, h0, h1, h2, h3⟩ := trod_s4 Try.underlying33 h
  simp only [cellsXI, cellsXB, cellsXV] at h0 h1 h2 h3
  obtain ⟨s0, e0, rfl, w0⟩ := DataW.trod_int Try.underlying3 h0
  obtain ⟨s1, e1, rfl⟩ := DataW.trod_bool Try.underlying4 h1
  obtain ⟨s2, e2, rfl, w2⟩ := DataW.trod_int Try.underlying3 h2
  simp at e0 e1 e2
  subst e0
  subst e1
  subst e2
  have h3' : DataW.trod enc Try.prog w base spare held m 31 [c3, c4, c5] = some y3 := h3
  obtain ⟨u0, u1, u2, m', hu, _, g0, g1, g2⟩ := trod_struct3 Try.underlying31 h3'
  simp only [cellsXS, cellsXI] at g0 g1 g2
  obtain ⟨r0, f0, rfl, q0⟩ := DataW.trod_int Try.underlying3 g0
  obtain ⟨r1, f1, rfl, q1⟩ := DataW.trod_int Try.underlying3 g1
  obtain ⟨r2, f2, rfl, _⟩ := DataW.trod_string Try.underlying9 g2
  simp at f0 f1 f2
  subst f0
  subst f1
  subst f2
  exact ⟨⟨s0, s1, s2, r0, r1, r2⟩, rfl, bounds_i64 w0, bounds_i64 w2, bounds_i64 q0, bounds_i64 q1, by rw [hx, hu]; rfl⟩
set_option maxRecDepth 100000 in
theorem cx_open {n : Nat} {cs : List Value} {x : DataW H × List MemPlace} (h : DataW.trod enc Try.prog w base spare held n 35 cs = some x) :
    ∃ c : Cx, cs = c.a.toList ∧ InI c.k.r ∧ (InI c.v.time ∧ InI c.v.loc ∧ InI c.v.kind ∧ InI c.v.num) ∧ x.1 = cxD c := by
  obtain ⟨y0, y1, m, rfl, hl, h0, h1⟩ := trod_struct2 Try.underlying35 h
  rw [cellsXC] at hl
  match cs, hl with
  | [c0, c1, c2, c3, c4, c5, c6, c7, c8, c9], _ =>
    simp only [cellsXK] at h0
    simp only [cellsXR] at h1
    obtain ⟨k, ek, ok, dk⟩ := kx_open (n := m) (c0 := c0) (c1 := c1) (c2 := c2) (c3 := c3) (x := y0) h0
    obtain ⟨v, ev, o1, o2, o3, o4, dv⟩ := vx_open (n := m) (c0 := c4) (c1 := c5) (c2 := c6) (c3 := c7) (c4 := c8) (c5 := c9) (x := y1) h1
    obtain ⟨table, part, row, col⟩ := k
    obtain ⟨time, dead, loc, kind, num, s⟩ := v
    simp at ek
    simp [Vr.a] at ev
    obtain ⟨rfl, rfl, rfl, rfl⟩ := ek
    obtain ⟨rfl, rfl, rfl, rfl, rfl, rfl⟩ := ev
    exact ⟨⟨⟨table, part, row, col⟩, ⟨time, dead, loc, kind, num, s⟩⟩, rfl, ok, ⟨o1, o2, o3, o4⟩, by rw [dk, dv]; rfl⟩
end
set_option maxRecDepth 100000 in
theorem array6 {α : Type} {cs : Array α} (h : cs.size = 6) : ∃ c0 c1 c2 c3 c4 c5, cs = #[c0, c1, c2, c3, c4, c5] := by
  obtain ⟨l⟩ := cs
  match l, h with
  | [c0, c1, c2, c3, c4, c5], _ => exact ⟨c0, c1, c2, c3, c4, c5, rfl⟩
set_option maxRecDepth 100000 in
theorem array4' {α : Type} {cs : Array α} (h : cs.size = 4) : ∃ c0 c1 c2 c3, cs = #[c0, c1, c2, c3] := by
  obtain ⟨l⟩ := cs
  match l, h with
  | [c0, c1, c2, c3], _ => exact ⟨c0, c1, c2, c3, rfl⟩
set_option maxRecDepth 100000 in
/-- A version that came in. -/
theorem ver_came {H : Type} {enc : TypeId × Value → H} {W : World} {base : Nat} {v : Value} {d : DataW H} {p : List MemPlace} (hv : Value.okWide Try.prog W .any base 33 v)
    (h : DataW.Trod enc Try.prog W 0 (fun _ => true) true 33 v d p) : ∃ a : Vr, v = a.v ∧ (InI a.time ∧ InI a.loc ∧ InI a.kind ∧ InI a.num) ∧ d = vxD a := by
  obtain ⟨cs, rfl, hsz⟩ := okWide_struct Try.underlying33 hv
  obtain ⟨c0, c1, c2, c3, c4, c5, rfl⟩ := array6 (hsz.trans cellsXR)
  obtain ⟨fuel, hf⟩ := h
  obtain ⟨a, ea, o1, o2, o3, o4, hd⟩ := vx_open (n := fuel) (c0 := c0) (c1 := c1) (c2 := c2) (c3 := c3) (c4 := c4) (c5 := c5) (x := (d, p)) hf
  obtain ⟨time, dead, loc, kind, num, s⟩ := a
  simp [Vr.a] at ea
  obtain ⟨rfl, rfl, rfl, rfl, rfl, rfl⟩ := ea
  exact ⟨_, rfl, ⟨o1, o2, o3, o4⟩, hd⟩
set_option maxRecDepth 100000 in
/-- A key that came in. -/
theorem key_came {H : Type} {enc : TypeId × Value → H} {W : World} {base : Nat} {v : Value} {d : DataW H} {p : List MemPlace} (hv : Value.okWide Try.prog W .any base 29 v)
    (h : DataW.Trod enc Try.prog W 0 (fun _ => true) true 29 v d p) : ∃ k : Kb, v = k.v ∧ InI k.r ∧ d = kxD k := by
  obtain ⟨cs, rfl, hsz⟩ := okWide_struct Try.underlying29 hv
  obtain ⟨c0, c1, c2, c3, rfl⟩ := array4' (hsz.trans cellsXK)
  obtain ⟨fuel, hf⟩ := h
  obtain ⟨k, ek, o1, hd⟩ := kx_open (n := fuel) (c0 := c0) (c1 := c1) (c2 := c2) (c3 := c3) (x := (d, p)) hf
  obtain ⟨t, pp, r, c⟩ := k
  simp at ek
  obtain ⟨rfl, rfl, rfl, rfl⟩ := ek
  exact ⟨_, rfl, o1, hd⟩
set_option maxRecDepth 100000 in
/-- A cell that came in. -/
theorem cell_came {H : Type} {enc : TypeId × Value → H} {W : World} {base : Nat} {v : Value} {d : DataW H} {p : List MemPlace} (hv : Value.okWide Try.prog W .any base 35 v)
    (h : DataW.Trod enc Try.prog W 0 (fun _ => true) true 35 v d p) : ∃ c : Cx, v = c.val ∧ InI c.k.r ∧ (InI c.v.time ∧ InI c.v.loc ∧ InI c.v.kind ∧ InI c.v.num) ∧ d = cxD c := by
  obtain ⟨cs, rfl, hsz⟩ := okWide_struct Try.underlying35 hv
  obtain ⟨fuel, hf⟩ := h
  obtain ⟨c, ec, o1, o2, hd⟩ := cx_open (n := fuel) (cs := cs.toList) (x := (d, p)) hf
  have : cs = c.a := by rw [← Array.toArray_toList (xs := cs), ec, Array.toArray_toList]
  rw [this]
  exact ⟨c, rfl, o1, o2, hd⟩
set_option maxRecDepth 100000 in
theorem vxD_weights {H : Type} (a : Vr) : (vxD (H := H) a).weights Try.prog 33 = [a.s.size] := by
  unfold vxD sD iD
  simp [DataW.weights, DataW.weightsEach, Try.underlying33, Try.underlying31]
set_option maxRecDepth 100000 in
theorem kxD_weights {H : Type} (k : Kb) : (kxD (H := H) k).weights Try.prog 29 = [k.t.size, k.p.size, k.c.size] := by
  unfold kxD sD iD
  simp [DataW.weights, DataW.weightsEach, Try.underlying29]
set_option maxRecDepth 100000 in
theorem cxD_weights {H : Type} (c : Cx) : (cxD (H := H) c).weights Try.prog 35 = [c.k.t.size, c.k.p.size, c.k.c.size, c.v.s.size] := by
  unfold cxD kxD vxD sD iD
  simp [DataW.weights, DataW.weightsEach, Try.underlying35, Try.underlying29, Try.underlying33, Try.underlying31]
def big : Nat := 140737488355328
set_option maxRecDepth 100000 in
theorem reach_mem {H : Type} {ts : List TypeId} {ds : List (DataW H)} {j : Nat} {t : TypeId} {d : DataW H} (h : (DataW.weightsEach Try.prog ts ds).all (· ≤ reachBytes) = true) (ht : ts[j]? = some t) (hd : ds[j]? = some d) {n : Nat} (hn : n ∈ d.weights Try.prog t) : n ≤ big := by
  have := List.all_eq_true.1 h n (DataW.weights_mem_each ht hd n hn)
  have := of_decide_eq_true this
  simp only [reachBytes] at this
  unfold big; omega
/-- What came in is not great. -/
structure Cx.Fits (c : Cx) : Prop where
  r : InI c.k.r
  n : InI c.v.time ∧ InI c.v.loc ∧ InI c.v.kind ∧ InI c.v.num
  bt : c.k.t.size ≤ big
  bp : c.k.p.size ≤ big
  bc : c.k.c.size ≤ big
  bs : c.v.s.size ≤ big
set_option maxRecDepth 100000 in
theorem ver_reach {H : Type} {ts : List TypeId} {ds : List (DataW H)} {j : Nat} {a : Vr} (h : (DataW.weightsEach Try.prog ts ds).all (· ≤ reachBytes) = true) (ht : ts[j]? = some 33) (hd : ds[j]? = some (vxD a)) : a.s.size ≤ big :=
  reach_mem h ht hd (by rw [vxD_weights]; simp)
set_option maxRecDepth 100000 in
theorem cell_reach {H : Type} {ts : List TypeId} {ds : List (DataW H)} {j : Nat} {c : Cx} (o1 : InI c.k.r) (o2 : InI c.v.time ∧ InI c.v.loc ∧ InI c.v.kind ∧ InI c.v.num) (h : (DataW.weightsEach Try.prog ts ds).all (· ≤ reachBytes) = true) (ht : ts[j]? = some 35) (hd : ds[j]? = some (cxD c)) : c.Fits :=
  ⟨o1, o2, reach_mem h ht hd (by rw [cxD_weights]; simp), reach_mem h ht hd (by rw [cxD_weights]; simp), reach_mem h ht hd (by rw [cxD_weights]; simp), reach_mem h ht hd (by rw [cxD_weights]; simp)⟩
end Go.Proofs.Ytkdeaogmifhnhaa
namespace Go.Proofs.Ytkdeaogmifhnhaa
open Go.ChangeShapes Go.WideShapes Go.ChangeAt Go.RowKit Go.Deep

set_option maxRecDepth 100000 in
theorem weightsX_mem {H : Type} {P : Program} {e : TypeId} {d : DataW H} : ∀ {l : List (DataW H)}, d ∈ l → ∀ n ∈ d.weights P e, n ∈ DataW.weightsAll P e l
  | [], h, _, _ => by cases h
  | a :: l, h, n, hn => by
    simp only [DataW.weightsAll, List.mem_append]
    rcases List.mem_cons.1 h with rfl | h
    · exact .inl hn
    · exact .inr (weightsX_mem h n hn)
/-- What numbers came in. -/
def Cx.In (c : Cx) : Prop := InI c.k.r ∧ (InI c.v.time ∧ InI c.v.loc ∧ InI c.v.kind ∧ InI c.v.num)
def noCx : Cx := ⟨⟨⟨#[]⟩, ⟨#[]⟩, 0, ⟨#[]⟩⟩, zeroV⟩
set_option maxRecDepth 100000 in
/-- Cells that came in. -/
theorem cells_came {H : Type} {enc : TypeId × Value → H} {W : World} {ao : Option Addr} {len cap : Nat} {d : DataW H} {p : List MemPlace}
    (h : DataW.Trod enc Try.prog W 0 (fun _ => true) true 22 (Value.slice ao len cap) d p) :
    ∃ l : List Cx, l.length = len ∧ XSees W ao l ∧ (ao = none → l.length = 0) ∧ (∀ c ∈ l, c.In) ∧ (l.length = 0 ∨ ∃ sp, d = .slice (l.map cxD) sp) := by
  obtain ⟨fuel, hf⟩ := h
  rcases open_slice Try.underlying22 hf with ⟨hcs, _⟩ | ⟨a, n, c, m, k, D, Pl, hcs, _, hle, _, hm, hx, hc⟩
  · simp [Value.cells] at hcs
    obtain ⟨rfl, rfl, rfl⟩ := hcs
    exact ⟨[], rfl, (fun i c hc => by simp at hc), fun _ => rfl, (fun c hc => by cases hc), .inl rfl⟩
  · simp [Value.cells] at hcs
    obtain ⟨rfl, rfl, rfl⟩ := hcs
    simp only [if_true] at hm
    subst hm
    rw [cellsXC] at hc
    haveI : Inhabited Cx := ⟨noCx⟩
    obtain ⟨C, hC⟩ := choose_lt (α := Cx) (n := len) (p := fun i c => W.cells? 0 (a.add (i * 10)) 10 = some c.a.toList ∧ c.In ∧ D i = cxD c) (fun i hi => by
      obtain ⟨cs', h1, h2⟩ := hc i (by omega)
      obtain ⟨c, rfl, h3, h4, h5⟩ := cx_open h2
      exact ⟨c, h1, ⟨h3, h4⟩, h5⟩)
    have hD : (List.range len).map D = ((List.range len).map C).map cxD := by
      rw [List.map_map]
      exact List.map_congr_left fun i hi => (hC i (List.mem_range.1 hi)).2.2
    have hd := congrArg Prod.fst hx
    simp only [hD] at hd
    refine ⟨(List.range len).map C, by simp, ?_, (fun h => by cases h), ?_, .inr ⟨_, hd⟩⟩
    · intro i c hi
      have hlt : i < len := by
        have := (List.getElem?_eq_some_iff.1 hi).1
        simpa using this
      simp [hlt] at hi
      subst hi
      obtain ⟨_, _, h3⟩ := World.cells?_some (hC i hlt).1
      obtain ⟨_, _, h30⟩ := World.cells?_some (hC 0 (by omega)).1
      have hz := h30 0 (by omega)
      obtain ⟨b, off, spot⟩ := a
      have hspot : spot = none := by
        have := World.cell?_spot (hz.trans (by rfl : (C 0).a.toList[0]? = some (.string (C 0).k.t)))
        simpa [Addr.add] using this
      subst hspot
      have hv : ∀ j v, (C i).a.toList[j]? = some v → W.cell? ⟨b, off + i * 10 + j, none⟩ = some v := fun j v hv => by
        have hj : j < 10 := (List.getElem?_eq_some_iff.1 hv).1
        have := h3 j hj
        rw [Addr.add_lit, Addr.add_lit, hv] at this
        exact this
      exact ⟨b, off, rfl, ⟨hv 0 _ rfl, hv 1 _ rfl, hv 2 _ rfl, hv 3 _ rfl, hv 4 _ rfl, hv 5 _ rfl, hv 6 _ rfl, hv 7 _ rfl, hv 8 _ rfl, hv 9 _ rfl⟩⟩
    · intro c hc
      obtain ⟨i, hi, rfl⟩ := List.mem_map.1 hc
      exact (hC i (List.mem_range.1 hi)).2.1
set_option maxRecDepth 100000 in
theorem bytesXC : Try.prog.bytesOf 35 = 112 := by kernel_rfl
set_option maxRecDepth 100000 in
theorem cells_fit {H : Type} {ts : List TypeId} {ds : List (DataW H)} {j : Nat} {d : DataW H} {l : List Cx} (h : (DataW.weightsEach Try.prog ts ds).all (· ≤ reachBytes) = true) (ht : ts[j]? = some 22) (hd : ds[j]? = some d)
    (hk : ∀ c ∈ l, c.In) (hn : l.length = 0 ∨ ∃ sp, d = .slice (l.map cxD) sp) : l.length ≤ 140737488355328 ∧ ∀ c ∈ l, c.In ∧ wtX c ≤ 562949953421312 := by
  rcases hn with h0 | ⟨sp, rfl⟩
  · obtain rfl : l = [] := List.eq_nil_of_length_eq_zero h0
    exact ⟨by simp, fun c hc => by cases hc⟩
  · have h1 := sized_slice h ht hd Try.underlying22
    rw [bytesXC] at h1
    simp only [reachBytes, List.length_map] at h1
    refine ⟨by omega, fun c hc => ⟨hk c hc, ?_⟩⟩
    have hw : ∀ n ∈ (cxD (H := H) c).weights Try.prog 35, n ≤ big := fun n hn =>
      reach_mem h ht hd (by
        simp only [DataW.weights, Try.underlying22, List.mem_cons, List.mem_append]
        exact .inr (.inl (weightsX_mem (List.mem_map_of_mem hc) n hn)))
    rw [cxD_weights] at hw
    have a0 := hw c.k.t.size (by simp)
    have a1 := hw c.k.p.size (by simp)
    have a2 := hw c.k.c.size (by simp)
    have a3 := hw c.v.s.size (by simp)
    unfold big at a0 a1 a2 a3
    unfold wtX
    omega
set_option maxRecDepth 100000 in
theorem array3 {α : Type} {cs : Array α} (h : cs.size = 3) : ∃ c0 c1 c2, cs = #[c0, c1, c2] := by
  obtain ⟨l⟩ := cs
  match l, h with
  | [c0, c1, c2], _ => exact ⟨c0, c1, c2, rfl⟩
set_option maxRecDepth 100000 in
/-- A value that came in. -/
theorem value_came {H : Type} {enc : TypeId × Value → H} {W : World} {base : Nat} {v : Value} {d : DataW H} {p : List MemPlace} (hv : Value.okWide Try.prog W .any base 31 v)
    (h : DataW.Trod enc Try.prog W 0 (fun _ => true) true 31 v d p) : ∃ (k n : Int) (s : ByteArray), v = .agg #[.int .i64 k, .int .i64 n, .string s] ∧ InI k ∧ InI n := by
  obtain ⟨cs, rfl, hsz⟩ := okWide_struct Try.underlying31 hv
  obtain ⟨c0, c1, c2, rfl⟩ := array3 (hsz.trans cellsXV)
  obtain ⟨fuel, hf⟩ := h
  obtain ⟨u0, u1, u2, m', hu, _, g0, g1, g2⟩ := trod_struct3 (cs := [c0, c1, c2]) Try.underlying31 hf
  simp only [cellsXS, cellsXI] at g0 g1 g2
  obtain ⟨r0, f0, rfl, q0⟩ := DataW.trod_int Try.underlying3 g0
  obtain ⟨r1, f1, rfl, q1⟩ := DataW.trod_int Try.underlying3 g1
  obtain ⟨r2, f2, rfl, _⟩ := DataW.trod_string Try.underlying9 g2
  simp at f0 f1 f2
  subst f0
  subst f1
  subst f2
  exact ⟨r0, r1, r2, rfl, bounds_i64 q0, bounds_i64 q1⟩
end Go.Proofs.Ytkdeaogmifhnhaa
namespace Go.Proofs.Ytkdeaogmifhnhaa
open Go.ChangeShapes Go.WideShapes Go.ChangeAt Go.RowKit

theorem bulk_part {H : Type} {d : DataW H} {l : List (DataW H)} (h : d ∈ l) : Rows.uptoBulk d ≤ Rows.uptoBulkAll l := by
  induction l with
  | nil => cases h
  | cons x r ih =>
    simp only [Rows.uptoBulkAll]
    rcases List.mem_cons.1 h with e | e
    · subst e; omega
    · have := ih e; omega
theorem bulk_cx {H : Type} (c : Cx) : 11 + wtX c ≤ Rows.uptoBulk (cxD (H := H) c) := by
  have e : ∀ s : ByteArray, s.data.toList.length = s.size := fun s => by rw [Array.length_toList]; rfl
  simp only [cxD, kxD, vxD, sD, iD, Rows.uptoBulk, Rows.uptoBulkAll, wtX, e]
  omega
theorem bulk_cxs {H : Type} (l : List Cx) : 11 * l.length ≤ Rows.uptoBulkAll (l.map (cxD (H := H))) := by
  induction l with
  | nil => simp [Rows.uptoBulkAll]
  | cons c r ih =>
    have := bulk_cx (H := H) c
    simp only [List.map_cons, Rows.uptoBulkAll, List.length_cons]
    omega
theorem bulk_bound {H : Type} {l : List (DataW H)} (hk : Rows.uptoSmall H l = true) : Rows.uptoBulkAll l ≤ 1048576 := of_decide_eq_true hk
theorem bulk_list {H : Type} {d : DataW H} {l : List Cx} {B : Nat} (hb : Rows.uptoBulk d ≤ B) (hB : B ≤ 1048576) (h : l.length = 0 ∨ ∃ sp, d = .slice (l.map cxD) sp) : 11 * l.length ≤ B ∧ ∀ c ∈ l, wtX c ≤ 562949953421312 := by
  rcases h with h0 | ⟨sp, rfl⟩
  · obtain rfl : l = [] := List.eq_nil_of_length_eq_zero h0
    exact ⟨by simp, fun c hc => by cases hc⟩
  · simp only [Rows.uptoBulk] at hb
    have h1 := bulk_cxs (H := H) l
    refine ⟨by omega, fun c hc => ?_⟩
    have h2 := bulk_part (List.mem_map_of_mem (f := cxD (H := H)) hc)
    have h3 := bulk_cx (H := H) c
    omega
/-- A list of cells that came in, where all that came in is small. -/
theorem bulk_cells {H : Type} {d : DataW H} {ds : List (DataW H)} {l : List Cx} (hk : Rows.uptoSmall H ds = true) (hd : d ∈ ds) (h : l.length = 0 ∨ ∃ sp, d = .slice (l.map cxD) sp) : l.length ≤ 100000 ∧ ∀ c ∈ l, wtX c ≤ 562949953421312 := by
  have h1 := bulk_bound hk
  have h2 := bulk_part hd
  have h3 := bulk_list (B := 1048576) (by omega) (Nat.le_refl _) h
  exact ⟨by omega, h3.2⟩
end Go.Proofs.Ytkdeaogmifhnhaa
namespace Go.Proofs.Ytkdeaogmifhnhaa
open Go.ChangeShapes Go.WideShapes Go.ChangeAt Go.RowKit Go.Deep Go.Joins

theorem cellsListC : Try.prog.cellsOf 22 = 1 := by kernel_rfl
def LvD {H : Type} (q : Lv × DataW H) : Prop := q.1.l.length = 0 ∨ ∃ sp, q.2 = .slice (q.1.l.map cxD) sp
theorem lists_came {H : Type} {enc : TypeId × Value → H} {W : World} {ao : Option Addr} {len cap : Nat} {d : DataW H} {p : List MemPlace}
    (h : DataW.Trod enc Try.prog W 0 (fun _ => true) true 23 (Value.slice ao len cap) d p) :
    ∃ vs : List Lv, vs.length = len ∧ LSees W ao vs ∧ (∀ v ∈ vs, XSees W v.ao v.l) ∧ (vs.length = 0 ∨ ∃ (P : List (Lv × DataW H)) (sp : List (DataW H)), P.map Prod.fst = vs ∧ d = .slice (P.map Prod.snd) sp ∧ ∀ q ∈ P, LvD q) := by
  obtain ⟨fuel, hf⟩ := h
  rcases open_slice1 Try.underlying23 cellsListC hf with ⟨hcs, _⟩ | ⟨a, n, c, m, k, V, D, Pl, hcs, _, hle, _, hm, hx, hc⟩
  · simp [Value.cells] at hcs
    obtain ⟨rfl, rfl, rfl⟩ := hcs
    exact ⟨[], rfl, (fun i c hc => by simp at hc), (fun q hq => by cases hq), .inl rfl⟩
  · simp [Value.cells] at hcs
    obtain ⟨rfl, rfl, rfl⟩ := hcs
    simp only [if_true] at hm
    subst hm
    haveI : Inhabited Lv := ⟨⟨none, 0, []⟩⟩
    obtain ⟨C, hC⟩ := choose_lt (α := Lv) (n := len) (p := fun i q => W.cell? (a.add i) = some q.s ∧ XSees W q.ao q.l ∧ LvD (q, D i)) (fun i hi => by
      obtain ⟨h1, h2⟩ := hc i (by omega)
      obtain ⟨a', l', c', e⟩ := slice_form Try.underlying22 h2
      have e' : V i = .slice a' l' c' := by simpa using e
      rw [e'] at h1 h2
      have h2' : DataW.trod enc Try.prog W 0 (fun _ => true) true k 22 (Value.slice a' l' c').cells.toList = some (D i, Pl i) := h2
      obtain ⟨l, rfl, hs, _, _, hd⟩ := cells_came ⟨k, h2'⟩
      exact ⟨⟨a', c', l⟩, h1, hs, hd⟩)
    have hd := congrArg Prod.fst hx
    simp only at hd
    refine ⟨(List.range len).map C, by simp, ?_, fun q hq => ?_, .inr ⟨(List.range len).map fun i => (C i, D i), _, by rw [List.map_map]; rfl, by rw [List.map_map]; exact hd, fun q hq => ?_⟩⟩
    · intro i q hi
      have hlt : i < len := by
        have := (List.getElem?_eq_some_iff.1 hi).1
        simpa using this
      simp [hlt] at hi
      subst hi
      obtain ⟨h1, h2, h3⟩ := hC i hlt
      obtain ⟨b, off, spot⟩ := a
      have hspot : spot = none := by
        have := World.cell?_spot (hC 0 (by omega)).1
        simpa [Addr.add] using this
      subst hspot
      rw [Addr.add_lit] at h1
      exact ⟨b, off, rfl, h1⟩
    · obtain ⟨i, hi, rfl⟩ := List.mem_map.1 hq
      exact (hC i (List.mem_range.1 hi)).2.1
    · obtain ⟨i, hi, rfl⟩ := List.mem_map.1 hq
      exact (hC i (List.mem_range.1 hi)).2.2
theorem bulk_pos {H : Type} (d : DataW H) : 1 ≤ Rows.uptoBulk d := by
  cases d with
  | lit x => cases x <;> simp [Rows.uptoBulk]
  | _ => simp [Rows.uptoBulk]
/-- What the bound gives of lists in a list. -/
structure SmallLs (vs : List Lv) : Prop where
  n : vs.length ≤ 1048576
  each : ∀ v ∈ vs, v.l.length ≤ 100000 ∧ ∀ c ∈ v.l, wtX c ≤ 562949953421312
  tot : (vs.map Lv.l).flatten.length ≤ 110000
theorem bulk_rows {H : Type} (P : List (Lv × DataW H)) (B : Nat) (hB : B ≤ 1048576) (hb : Rows.uptoBulkAll (P.map Prod.snd) ≤ B) (hP : ∀ q ∈ P, LvD q) :
    P.length + 10 * ((P.map Prod.fst).map Lv.l).flatten.length ≤ B ∧ ∀ v ∈ P.map Prod.fst, v.l.length ≤ 100000 ∧ ∀ c ∈ v.l, wtX c ≤ 562949953421312 := by
  induction P generalizing B with
  | nil => exact ⟨by simp, fun v hv => by cases hv⟩
  | cons q P ih =>
    simp only [List.map_cons, Rows.uptoBulkAll] at hb
    have hp := bulk_pos q.2
    have h1 := bulk_list (B := Rows.uptoBulk q.2) (Nat.le_refl _) (by omega) (hP q (by simp))
    have h2 := ih (B - Rows.uptoBulk q.2) (by omega) (by omega) (fun x hx => hP x (by simp [hx]))
    constructor
    · simp only [List.map_cons, List.flatten_cons, List.length_append, List.length_cons]
      have := h2.1
      have := h1.1
      by_cases hz : q.1.l.length = 0 <;> omega
    · intro v hv
      rcases List.mem_cons.1 hv with e | e
      · subst e; exact ⟨by have := h1.1; omega, h1.2⟩
      · exact h2.2 v e
theorem bulk_lists {H : Type} {d : DataW H} {ds : List (DataW H)} {vs : List Lv} (hk : Rows.uptoSmall H ds = true) (hd : d ∈ ds) (h : vs.length = 0 ∨ ∃ (P : List (Lv × DataW H)) (sp : List (DataW H)), P.map Prod.fst = vs ∧ d = .slice (P.map Prod.snd) sp ∧ ∀ q ∈ P, LvD q) : SmallLs vs := by
  rcases h with h0 | ⟨P, sp, rfl, rfl, hP⟩
  · obtain rfl : vs = [] := List.eq_nil_of_length_eq_zero h0
    exact ⟨by simp, fun v hv => (by cases hv), by simp⟩
  · have h1 := bulk_bound hk
    have h2 := bulk_part hd
    simp only [Rows.uptoBulk] at h2
    have h3 := bulk_rows P 1048576 (Nat.le_refl _) (by omega) hP
    exact ⟨by have := h3.1; rw [List.length_map]; omega, h3.2, by have := h3.1; omega⟩
end Go.Proofs.Ytkdeaogmifhnhaa
namespace Go.Proofs.Ytkdeaogmifhnhaa
open Go.ChangeShapes Go.WideShapes Go.ChangeAt Go.RowKit

theorem cellsWhen : Try.prog.cellsOf 25 = 2 := by kernel_rfl
theorem cellsIntW : Try.prog.cellsOf 3 = 1 := by kernel_rfl
set_option maxRecDepth 100000 in
theorem when_came {H : Type} {enc : TypeId × Value → H} {W : World} {base : Nat} {v : Value} {d : DataW H} {p : List MemPlace} (hv : Value.okWide Try.prog W .any base 25 v)
    (h : DataW.Trod enc Try.prog W 0 (fun _ => true) true 25 v d p) : ∃ (x y : Int), v = .agg #[.int .i64 x, .int .i64 y] ∧ InI x ∧ InI y := by
  obtain ⟨cs, rfl, hsz⟩ := okWide_struct Try.underlying25 hv
  obtain ⟨fuel, hf⟩ := h
  have hl := hsz.trans cellsWhen
  obtain ⟨l⟩ := cs
  match l, hl with
  | [c0, c1], _ =>
    have hf' : DataW.trod enc Try.prog W 0 (fun _ => true) true fuel 25 [c0, c1] = some (d, p) := hf
    obtain ⟨u0, u1, m', hu, _, g0, g1⟩ := trod_struct2 Try.underlying25 hf'
    simp only [cellsIntW] at g0 g1
    obtain ⟨r0, f0, rfl, q0⟩ := DataW.trod_int Try.underlying3 g0
    obtain ⟨r1, f1, rfl, q1⟩ := DataW.trod_int Try.underlying3 g1
    simp at f0 f1
    subst f0
    subst f1
    exact ⟨r0, r1, rfl, bounds_i64 q0, bounds_i64 q1⟩
end Go.Proofs.Ytkdeaogmifhnhaa
