/-
  SEVERAL TEXTS IN ONE: TabLaw, RowAid, VerLaid, CxLaid.
-/
import Derived.Test.YtdookhmaiapclaaGreatDoorTabM2
import Derived.Test.YtdookhmaiapclaaGreatDoorOwn
import Derived.Test.YtdookhmaiapclaaGreatDoorRows
import Derived.ProofKit
import Derived.OpenShut
import Derived.ShutString
import Derived.ChangeOld
import Derived.SizedLaws
import Derived.Test.YtdookhmaiapclaaGreatDoorTabM1
import Derived.Deep.Slices
import Derived.Deep.Strs
namespace Go.Proofs.YtdookhmaiapclaaGreatDoor
open Go.RowKit

set_option maxRecDepth 100000 in
set_option maxHeartbeats 1600000 in
theorem weigh9_any (ao : Option Addr) (l : List Cx) (cap m : Nat) (w : World) (ha : XSees w ao l) (hm : m ≤ 500) (hl : l.length ≤ 140737488355328) (hw : ∀ c ∈ l, wtX c ≤ 562949953421312) :
    Calls Tryz.prog 6 #[.slice ao l.length cap, .int .i64 m] w fun e w' => (∃ z : Nat, e = .returned (.int .i64 z) ∧ z ≤ 1000000000000000 ∧ (z ≤ m → l.length ≤ m ∧ wtXs l ≤ 20 * m)) ∧ Below w.heap.size w w' := by
  go_enter Tryz.func6, Tryz.ntmps6
  go_wp2
  go_loopw [5, 10] (fun s5 s10 wr => ∃ i z : Nat, i ≤ l.length ∧ s5 = .int .i64 z ∧ s10 = .int .i64 i ∧ i ≤ z ∧ z ≤ m ∧ wtXs (l.take i) ≤ 20 * z ∧ Below w.heap.size w wr) (fun _ s10 _ => l.length - (intOf s10).toNat)
  case atStart => exact ⟨0, 0, by omega, rfl, rfl, by omega, by omega, by simp [wtXs], Below.refl _ _⟩
  case round =>
    obtain ⟨i, z, hi, rfl, rfl, hiz, hz, hwz, hbr⟩ := hrel
    rcases Nat.lt_or_ge i l.length with hlt | hge
    · have hc : l[i]? = some l[i] := List.getElem?_eq_getElem hlt
      have hcw := hw l[i] (List.getElem_mem hlt)
      have hst : wtXs (l.take (i + 1)) = wtXs (l.take i) + wtX l[i] := by
        rw [takeX_succ hc]
        unfold wtXs
        rw [List.map_append, List.sum_append]
        simp
      obtain ⟨b1, o1, rfl, h1⟩ := (ha.below hbr (Nat.le_refl _)) i _ hc
      generalize l[i] = c at *
      obtain ⟨⟨table, part, row, col⟩, ⟨time, dead, loc, kind, num, s⟩⟩ := c
      obtain ⟨k0, k1, k2, k3, k4, k5, k6, k7, k8, k9⟩ := h1
      simp only at k0 k1 k2 k3 k4 k5 k6 k7 k8 k9
      unfold wtX at hcw hst
      simp only at hcw hst
      have hb2 : Below w.heap.size w (wr.alloc (.cells (Cx.a ⟨⟨table, part, row, col⟩, ⟨time, dead, loc, kind, num, s⟩⟩) 59)) := hbr.alloc hbr.size _
      have Hst : Hid (wtXs (l.take (i + 1)) = wtXs (l.take i) + (table.size + part.size + col.size + s.size)) := hst
      clear hc ha hst hw
      have hsum : (table.size : Int) + part.size + col.size + s.size ≤ 562949953421312 := by omega
      by_cases hbig : z + (1 + (table.size + part.size + col.size + s.size) / 20) ≤ m
      · have hq : ¬ ((m : Int) < (z : Int) + (1 + ((table.size : Int) + part.size + col.size + s.size) / 20)) := by omega
        go_wp2
        go_roundw
        case rel =>
          refine ⟨i + 1, z + (1 + (table.size + part.size + col.size + s.size) / 20), by omega, ?_, by go_num, by omega, hbig, ?_, hb2⟩
          · congr 1
          · rw [Hst.out]
            omega
        case measure => simp [intOf]; omega
      · have hq : ((m : Int) < (z : Int) + (1 + ((table.size : Int) + part.size + col.size + s.size) / 20)) := by omega
        go_wp2
        go_ret
        refine ⟨⟨z + (1 + (table.size + part.size + col.size + s.size) / 20), ret_int (by omega), by omega, fun h => absurd h hbig⟩, hb2⟩
    · obtain rfl : i = l.length := by omega
      rw [List.take_length] at hwz
      clear ha hw
      go_wp2
      go_ret
      exact ⟨⟨z, rfl, by omega, fun _ => ⟨by omega, by omega⟩⟩, hbr⟩

theorem wt_mem9 {l : List Cx} {c : Cx} (hc : c ∈ l) {m : Nat} (h : wtXs l ≤ m) : c.k.t.size ≤ m ∧ c.k.p.size ≤ m ∧ c.k.c.size ≤ m ∧ c.v.s.size ≤ m := by
  have h1 : wtX c ≤ wtXs l := by
    unfold wtXs
    obtain ⟨s, t, rfl⟩ := List.append_of_mem hc
    rw [List.map_append, List.sum_append, List.map_cons, List.sum_cons]; omega
  unfold wtX at h1
  omega
theorem addC_all {P : Cx → Prop} (hj : ∀ a b, P a → P b → a.k = b.k → P (jnC a b)) : ∀ {O : List Cx} {c : Cx}, (∀ x ∈ O, P x) → P c → ∀ x ∈ addC O c, P x
  | [], c, _, hc, x, hx => by simp only [addC, List.mem_singleton] at hx; subst hx; exact hc
  | y :: O, c, hO, hc, x, hx => by
    by_cases h0 : kx y c = 0
    · rw [addC_same O h0] at hx
      rcases List.mem_cons.1 hx with rfl | hx
      · exact hj y c (hO y (by simp)) hc ((kx_z y c).1 h0)
      · exact hO x (by simp [hx])
    · rcases (show 0 < kx y c ∨ kx y c < 0 by omega) with h1 | h1
      · rw [addC_ahead O h1] at hx
        rcases List.mem_cons.1 hx with rfl | hx
        · exact hc
        · exact hO x hx
      · rw [addC_behind O h1] at hx
        rcases List.mem_cons.1 hx with rfl | hx
        · exact hO _ (by simp)
        · exact addC_all hj (fun z hz => hO z (by simp [hz])) hc x hx
theorem nrm_all {P : Cx → Prop} (hj : ∀ a b, P a → P b → a.k = b.k → P (jnC a b)) {l : List Cx} (h : ∀ c ∈ l, P c) : ∀ c ∈ nrm l, P c := by
  have H : ∀ (l O : List Cx), (∀ c ∈ O, P c) → (∀ c ∈ l, P c) → ∀ c ∈ l.foldl addC O, P c := by
    intro l
    induction l with
    | nil => intro O hO _; exact hO
    | cons x l ih => intro O hO hl; exact ih _ (addC_all hj hO (hl x (by simp))) fun c hc => hl c (by simp [hc])
  exact H l [] (fun c hc => by cases hc) h
theorem nums_join (a b : Cx) (ha : a.Nums) (hb : b.Nums) (_ : a.k = b.k) : (jnC a b).Nums := by
  refine ⟨ha.r, ?_⟩
  show InI (jn a.v b.v).time ∧ _
  rcases jn_or a.v b.v with e | e
  · rw [show (jnC a b).v = a.v from e, e]; exact ha.n
  · rw [show (jnC a b).v = b.v from e, e]; exact hb.n
theorem addC_ne (O : List Cx) (c : Cx) : addC O c ≠ [] := by
  cases O with
  | nil => simp [addC]
  | cons x O => unfold addC; split <;> (try split) <;> simp
theorem nrm_pos {l : List Cx} (h : 0 < l.length) : 0 < (nrm l).length := by
  obtain ⟨x, r, rfl⟩ : ∃ x r, l = r ++ [x] := ⟨l.getLast (by intro e; rw [e] at h; simp at h), l.dropLast, (List.dropLast_concat_getLast _).symm⟩
  rw [nrm_snoc]
  exact List.length_pos_iff.2 (addC_ne _ _)
theorem addC_le : ∀ (O : List Cx) (c : Cx), (addC O c).length ≤ O.length + 1
  | [], c => by simp [addC]
  | x :: O, c => by
    have := addC_le O c
    unfold addC
    split
    · simp
    · split
      · simp
      · simp only [List.length_cons]; omega
theorem nrm_le (l : List Cx) : (nrm l).length ≤ l.length := by
  have H : ∀ (l O : List Cx), (l.foldl addC O).length ≤ O.length + l.length := by
    intro l
    induction l with
    | nil => intro O; simp
    | cons x l ih => intro O; have h1 := ih (addC O x); have h2 := addC_le O x; simp only [List.foldl_cons, List.length_cons]; omega
  have := H l []
  simpa [nrm] using this
theorem rise_of {L : List Cx} (h : Rising L) : srtB L = true := srtB_true fun j x y hj hx hy => by
  have h1 : j < L.length := by omega
  rw [List.getElem?_eq_getElem h1] at hx
  rw [List.getElem?_eq_getElem hj] at hy
  obtain rfl := Option.some.inj hx
  obtain rfl := Option.some.inj hy
  exact List.pairwise_iff_getElem.1 h j (j + 1) h1 hj (by omega)
/-- The good ones of cells that came in, by their keys: they may be a table. -/
theorem norm_wrt {l : List Cx} (hn : ∀ c ∈ l, c.Nums) (hl : l.length ≤ 400) : Wrt (nrm (goods l)) := by
  have h1 : (goods l).length ≤ l.length := List.length_filter_le _ _
  have h2 := nrm_le (goods l)
  exact ⟨nrm_all (P := fun c => goodC c = true) (fun a b ha hb hk => jnC_good ha hb hk) (goods_all l), nrm_all nums_join fun c hc => hn c (List.mem_filter.1 hc).1, by omega⟩
theorem norm_ok {l : List Cx} (hn : ∀ c ∈ l, c.Nums) (hl : l.length ≤ 400) (hp : 0 < (goods l).length) : wrtB (nrm (goods l)) = true := by
  have h1 := norm_wrt hn hl
  unfold wrtB
  rw [rise_of (nrm_rising _), decide_eq_true (nrm_pos hp)]
  simp only [Bool.true_and, List.all_eq_true]
  exact h1.good
theorem norm_bad {l : List Cx} (hp : (goods l).length = 0) : wrtB (nrm (goods l)) = false := by
  rw [List.eq_nil_of_length_eq_zero hp]
  unfold wrtB
  simp [nrm]
theorem Wrt.fit {l : List Cx} (h : Wrt l) : ∀ c ∈ l, c.Fit := fun c hc => by
  obtain ⟨a1, a2, a3, a4⟩ := h.small c hc
  exact ⟨by unfold maxLen; omega, by unfold maxLen; omega, by unfold maxLen; omega, by unfold maxLen; omega⟩
/-- A row of bytes with room behind them. -/
def Row9 (w : World) (g : Nat) (b : List UInt8) (cap : Nat) : Prop := ∃ cur : Array Value, w.heap[g]? = some (.cells cur 5 (0, 0)) ∧ b.length ≤ cap ∧ cap ≤ maxLen ∧ cur.size = cap ∧ cur.toList.take b.length = B8 b
theorem Row9.lt {w : World} {g : Nat} {b : List UInt8} {cap : Nat} (h : Row9 w g b cap) : g < w.heap.size := by obtain ⟨cur, hh, _⟩ := h; exact (Array.getElem?_eq_some_iff.1 hh).1
theorem Row9.carry {w w' : World} {g : Nat} {b : List UInt8} {cap : Nat} (h : Row9 w g b cap) (e : w'.heap[g]? = w.heap[g]?) : Row9 w' g b cap := by obtain ⟨cur, hh, r⟩ := h; exact ⟨cur, e.trans hh, r⟩
theorem Row9.sees {w : World} {g : Nat} {b : List UInt8} {cap : Nat} (h : Row9 w g b cap) : Sees w (some ⟨g, 0, none⟩) b := fun i hi => by
  obtain ⟨cur, hh, h1, h2, h3, h4⟩ := h
  refine ⟨_, rfl, ?_⟩
  rw [Addr.add_lit, Nat.zero_add]
  have e := B8_at b i hi
  rw [← h4, List.getElem?_take_of_lt hi] at e
  simp only [World.cell?, hh]
  simpa using e
theorem Row9.frozen {w : World} {g : Nat} {b : List UInt8} {cap : Nat} (h : Row9 w g b cap) (i : Nat) : w.frozen? ⟨g, i, none⟩ = false := by
  obtain ⟨cur, hh, _⟩ := h
  simp [World.frozen?, hh]
theorem Row9.set {w : World} {g : Nat} {b : List UInt8} {cap : Nat} (h : Row9 w g b cap) (i : Nat) (y : UInt8) : Row9 (w.setCell ⟨g, i, none⟩ (.int .u8 (y.toNat : Int))) g (b.set i y) cap := by
  obtain ⟨cur, hh, h1, h2, h3, h4⟩ := h
  refine ⟨cur.setIfInBounds i (.int .u8 (y.toNat : Int)), ?_, by rw [List.length_set]; exact h1, h2, by simp [h3], ?_⟩
  · simp only [World.setCell, Array.getElem?_modify, hh]
    simp
  · rw [List.length_set, Array.toList_setIfInBounds, List.take_set, h4]
    simp [B8, List.map_set]
/-- Write, whatever cells in a row of the call's own. -/
theorem write_row {w : World} {base : Nat} {v : Value} {l : List Cx} (ho : w.ownsRow base 59 10 v l.length (l.flatMap xs10)) (h : Wrt l) (ht : Tab w) (hw : wrtB l = true) :
    Calls Tryz.prog 8 #[v] w fun e w' => ∃ g cap, e = .returned (.tuple #[.slice (some ⟨g, 0, none⟩) (encTb l).length cap, .int .i64 0]) ∧ Row9 w' g (encTb l) cap ∧ w.heap.size ≤ g ∧ Below w.heap.size w w' := by
  obtain ⟨ao, cap, rfl, hx, -⟩ := owns_xsees ho
  have hp : 0 < l.length := by unfold wrtB at hw; simp only [Bool.and_eq_true, decide_eq_true_eq] at hw; exact hw.1
  rcases ho.2 with ⟨h1, h2⟩ | ⟨g, cap', cur, e, _, _, hn, _⟩
  · injection h1 with e1 e2 e3; omega
  · injection e with e1 e2 e3
    subst e1
    subst e3
    refine (write_any g 0 cap l w hx h.len hn h.fit h.num (ho.lt g rfl).2 ht hw).mono ?_
    rintro e w' ⟨v, rfl, ho2, hb⟩
    have hep := encTb_pos l
    rcases ho2.2 with ⟨h1, h2⟩ | ⟨g2, cap2, cur2, e, hb2, hh, hn2, hm2, hcs, htk⟩
    · omega
    · subst e
      exact ⟨g2, cap2, rfl, ⟨cur2, hh, hn2, hm2, by omega, by simpa using htk⟩, hb2, hb⟩
theorem write_rowB {w : World} {base : Nat} {v : Value} {l : List Cx} (ho : w.ownsRow base 59 10 v l.length (l.flatMap xs10)) (h : Wrt l) (hw : wrtB l = false) :
    Calls Tryz.prog 8 #[v] w fun e w' => e = .returned (.tuple #[.slice none 0 0, .int .i64 2]) ∧ Below w.heap.size w w' := by
  obtain ⟨ao, cap, rfl, hx, -⟩ := owns_xsees ho
  exact write_bad ao l cap w hx (by have := h.len; omega) h.fit hw
end Go.Proofs.YtdookhmaiapclaaGreatDoor
namespace Go.Proofs.YtdookhmaiapclaaGreatDoor
open Go.ChangeShapes Go.WideShapes Go.ChangeAt Go.RowKit

theorem own : ownKnob Tryz.prog.godebug = none := by kernel_rfl
theorem laidOut : laidOutB Tryz.prog = true := by kernel_rfl
theorem byte_valR (n : Nat) (h : n < 256) : ((UInt8.ofNat n).toNat : Int) = n := by
  simp; omega
/-- Bytes that came in. -/
theorem bytes_open {H : Type} {enc : TypeId × Value → H} {W : World} {ao : Option Addr} {len cap : Nat} {d : DataW H} {p : List MemPlace}
    (h : DataW.Trod enc Tryz.prog W 0 (fun _ => true) true 29 (Value.slice ao len cap) d p) :
    ∃ l : List UInt8, l.length = len ∧ Sees W ao l ∧ (ao = none → l.length = 0) ∧ l.length ≤ maxLen ∧ l.length ≤ cap ∧ (l.length = 0 ∨ ∃ el sp, d = .slice el sp ∧ el.length = l.length) := by
  obtain ⟨fuel, hf⟩ := h
  rcases open_ints Tryz.underlying29 Tryz.underlying5 (by kernel_rfl) hf with ⟨hcs, _⟩ | ⟨x, n, c, zs, hcs, _, hl, hm, hz, hx, hcell, hwz⟩
  · simp [Value.cells] at hcs
    obtain ⟨rfl, rfl, rfl⟩ := hcs
    exact ⟨[], rfl, Sees.nil _ _, fun _ => rfl, Nat.zero_le _, Nat.zero_le _, .inl rfl⟩
  · simp [Value.cells] at hcs
    obtain ⟨rfl, rfl, rfl⟩ := hcs
    have hzl : zs.length = cap := by simpa using hz
    have hlen : ((zs.take len).map fun z : Int => UInt8.ofNat z.toNat).length = len := by simp; omega
    refine ⟨(zs.take len).map fun z : Int => UInt8.ofNat z.toNat, hlen, fun i hi => ⟨x, rfl, ?_⟩, (fun h => by cases h), by omega, by omega, .inr ⟨_, _, congrArg Prod.fst hx, by rw [hlen]; simp [lits]; omega⟩⟩
    rw [hlen] at hi
    have hi' : i < zs.length := by omega
    rw [hcell i hi']
    have hb := bounds_u8 (hwz (zs.getD i 0) (by simp [List.getD, hi']))
    have e : ((zs.take len).map fun z : Int => UInt8.ofNat z.toNat).getD i 0 = UInt8.ofNat (zs.getD i 0).toNat := by simp [List.getD, hi, hi']
    rw [e, byte_valR _ (by omega), Int.toNat_of_nonneg hb.1]
theorem bytes8 : Tryz.prog.bytesOf 5 = 1 := by kernel_rfl
/-- How many bytes can have come in. -/
theorem bytes_reach {H : Type} {ts : List TypeId} {ds : List (DataW H)} {j n : Nat} {d : DataW H} (h : (DataW.weightsEach Tryz.prog ts ds).all (· ≤ reachBytes) = true) (ht : ts[j]? = some 29) (hd : ds[j]? = some d)
    (hn : n = 0 ∨ ∃ el sp, d = .slice el sp ∧ el.length = n) : n ≤ 140737488351232 := by
  rcases hn with rfl | ⟨el, sp, rfl, rfl⟩
  · omega
  · have := sized_slice h ht hd Tryz.underlying29
    rw [bytes8] at this
    simp only [reachBytes] at this
    omega
end Go.Proofs.YtdookhmaiapclaaGreatDoor
namespace Go.Proofs.YtdookhmaiapclaaGreatDoor
open Go.ChangeShapes Go.WideShapes Go.ChangeAt Go.RowKit Go.Deep

section
variable {H : Type} {enc : TypeId × Value → H} {P : Program} {w : World} {base : Nat} {spare : Nat → Bool} {held : Bool}
set_option maxRecDepth 100000 in
theorem trod_s4 {t : TypeId} {f0 f1 f2 f3 : Field} {fuel : Nat} {cs : List Value} {x : DataW H × List MemPlace} (ht : P.underlying t = some (.struct #[f0, f1, f2, f3])) (h : DataW.trod enc P w base spare held fuel t cs = some x) :
    ∃ y0 y1 y2 y3 n, x.1 = .agg [y0.1, y1.1, y2.1, y3.1] ∧ cs.length = P.cellsOf t ∧ DataW.trod enc P w base spare held n f0.type ((cs.drop f0.offset).take (P.cellsOf f0.type)) = some y0 ∧
      DataW.trod enc P w base spare held n f1.type ((cs.drop f1.offset).take (P.cellsOf f1.type)) = some y1 ∧ DataW.trod enc P w base spare held n f2.type ((cs.drop f2.offset).take (P.cellsOf f2.type)) = some y2 ∧
      DataW.trod enc P w base spare held n f3.type ((cs.drop f3.offset).take (P.cellsOf f3.type)) = some y3 := by
  obtain ⟨xs, n, _, rfl, hl, hlen, hf⟩ := DataW.trod_struct ht h
  match xs, hlen with
  | [y0, y1, y2, y3], _ => exact ⟨y0, y1, y2, y3, n, by simp, hl, by simpa using hf 0 f0 rfl, by simpa using hf 1 f1 rfl, by simpa using hf 2 f2 rfl, by simpa using hf 3 f3 rfl⟩
end
set_option maxRecDepth 100000 in
theorem cellsXK : Tryz.prog.cellsOf 24 = 4 := by kernel_rfl
set_option maxRecDepth 100000 in
theorem cellsXV : Tryz.prog.cellsOf 46 = 3 := by kernel_rfl
set_option maxRecDepth 100000 in
theorem cellsXR : Tryz.prog.cellsOf 48 = 6 := by kernel_rfl
set_option maxRecDepth 100000 in
theorem cellsXC : Tryz.prog.cellsOf 59 = 10 := by kernel_rfl
set_option maxRecDepth 100000 in
theorem cellsXI : Tryz.prog.cellsOf 3 = 1 := by kernel_rfl
set_option maxRecDepth 100000 in
theorem cellsXB : Tryz.prog.cellsOf 4 = 1 := by kernel_rfl
set_option maxRecDepth 100000 in
theorem cellsXS : Tryz.prog.cellsOf 9 = 1 := by kernel_rfl

def sD {H : Type} (s : ByteArray) : DataW H := .lit (.string s.data.toList)
def iD {H : Type} (n : Int) : DataW H := .lit (.int .i64 n)
def kxD {H : Type} (k : Kb) : DataW H := .agg [sD k.t, sD k.p, iD k.r, sD k.c]
def vxD {H : Type} (a : Vr) : DataW H := .agg [iD a.time, .lit (.bool a.dead), iD a.loc, .agg [iD a.kind, iD a.num, sD a.s]]
def cxD {H : Type} (c : Cx) : DataW H := .agg [kxD c.k, vxD c.v]

section
variable {H : Type} {enc : TypeId × Value → H} {w : World} {base : Nat} {spare : Nat → Bool} {held : Bool}
set_option maxRecDepth 100000 in
theorem kx_open {n : Nat} {c0 c1 c2 c3 : Value} {x : DataW H × List MemPlace} (h : DataW.trod enc Tryz.prog w base spare held n 24 [c0, c1, c2, c3] = some x) :
    ∃ k : Kb, [c0, c1, c2, c3] = [.string k.t, .string k.p, .int .i64 k.r, .string k.c] ∧ InI k.r ∧ x.1 = kxD k := by
  obtain ⟨y0, y1, y2, y3, m, hx, _, h0, h1, h2, h3⟩ := trod_s4 Tryz.underlying24 h
  simp only [cellsXS, cellsXI] at h0 h1 h2 h3
  obtain ⟨s0, e0, rfl, _⟩ := DataW.trod_string Tryz.underlying9 h0
  obtain ⟨s1, e1, rfl, _⟩ := DataW.trod_string Tryz.underlying9 h1
  obtain ⟨s2, e2, rfl, w2⟩ := DataW.trod_int Tryz.underlying3 h2
  obtain ⟨s3, e3, rfl, _⟩ := DataW.trod_string Tryz.underlying9 h3
  simp at e0 e1 e2 e3
  subst e0
  subst e1
  subst e2
  subst e3
  exact ⟨⟨s0, s1, s2, s3⟩, rfl, bounds_i64 w2, hx⟩
set_option maxRecDepth 100000 in
theorem vx_open {n : Nat} {c0 c1 c2 c3 c4 c5 : Value} {x : DataW H × List MemPlace} (h : DataW.trod enc Tryz.prog w base spare held n 48 [c0, c1, c2, c3, c4, c5] = some x) :
    ∃ a : Vr, [c0, c1, c2, c3, c4, c5] = a.a.toList ∧ InI a.time ∧ InI a.loc ∧ InI a.kind ∧ InI a.num ∧ x.1 = vxD a := by
  obtain ⟨y0, y1, y2, y3, m, hx, _, h0, h1, h2, h3⟩ := trod_s4 Tryz.underlying48 h
  simp only [cellsXI, cellsXB, cellsXV] at h0 h1 h2 h3
  obtain ⟨s0, e0, rfl, w0⟩ := DataW.trod_int Tryz.underlying3 h0
  obtain ⟨s1, e1, rfl⟩ := DataW.trod_bool Tryz.underlying4 h1
  obtain ⟨s2, e2, rfl, w2⟩ := DataW.trod_int Tryz.underlying3 h2
  simp at e0 e1 e2
  subst e0
  subst e1
  subst e2
  have h3' : DataW.trod enc Tryz.prog w base spare held m 46 [c3, c4, c5] = some y3 := h3
  obtain ⟨u0, u1, u2, m', hu, _, g0, g1, g2⟩ := trod_struct3 Tryz.underlying46 h3'
  simp only [cellsXS, cellsXI] at g0 g1 g2
  obtain ⟨r0, f0, rfl, q0⟩ := DataW.trod_int Tryz.underlying3 g0
  obtain ⟨r1, f1, rfl, q1⟩ := DataW.trod_int Tryz.underlying3 g1
  obtain ⟨r2, f2, rfl, _⟩ := DataW.trod_string Tryz.underlying9 g2
  simp at f0 f1 f2
  subst f0
  subst f1
  subst f2
  exact ⟨⟨s0, s1, s2, r0, r1, r2⟩, rfl, bounds_i64 w0, bounds_i64 w2, bounds_i64 q0, bounds_i64 q1, by rw [hx, hu]; rfl⟩
set_option maxRecDepth 100000 in
theorem cx_open {n : Nat} {cs : List Value} {x : DataW H × List MemPlace} (h : DataW.trod enc Tryz.prog w base spare held n 59 cs = some x) :
    ∃ c : Cx, cs = c.a.toList ∧ InI c.k.r ∧ (InI c.v.time ∧ InI c.v.loc ∧ InI c.v.kind ∧ InI c.v.num) ∧ x.1 = cxD c := by
  obtain ⟨y0, y1, m, rfl, hl, h0, h1⟩ := trod_struct2 Tryz.underlying59 h
  rw [cellsXC] at hl
  match cs, hl with
  | [c0, c1, c2, c3, c4, c5, c6, c7, c8, c9], _ =>
    simp only [cellsXK] at h0
    simp only [cellsXR] at h1
    obtain ⟨k, ek, ok, dk⟩ := kx_open (n := m) (c0 := c0) (c1 := c1) (c2 := c2) (c3 := c3) (x := y0) h0
    obtain ⟨v, ev, o1, o2, o3, o4, dv⟩ := vx_open (n := m) (c0 := c4) (c1 := c5) (c2 := c6) (c3 := c7) (c4 := c8) (c5 := c9) (x := y1) h1
    obtain ⟨table, part, row, col⟩ := k
    obtain ⟨time, dead, loc, kind, num, s⟩ := v
    simp at ek
    simp [Vr.a] at ev
    obtain ⟨rfl, rfl, rfl, rfl⟩ := ek
    obtain ⟨rfl, rfl, rfl, rfl, rfl, rfl⟩ := ev
    exact ⟨⟨⟨table, part, row, col⟩, ⟨time, dead, loc, kind, num, s⟩⟩, rfl, ok, ⟨o1, o2, o3, o4⟩, by rw [dk, dv]; rfl⟩
end
set_option maxRecDepth 100000 in
theorem array6 {α : Type} {cs : Array α} (h : cs.size = 6) : ∃ c0 c1 c2 c3 c4 c5, cs = #[c0, c1, c2, c3, c4, c5] := by
  obtain ⟨l⟩ := cs
  match l, h with
  | [c0, c1, c2, c3, c4, c5], _ => exact ⟨c0, c1, c2, c3, c4, c5, rfl⟩
set_option maxRecDepth 100000 in
theorem array4' {α : Type} {cs : Array α} (h : cs.size = 4) : ∃ c0 c1 c2 c3, cs = #[c0, c1, c2, c3] := by
  obtain ⟨l⟩ := cs
  match l, h with
  | [c0, c1, c2, c3], _ => exact ⟨c0, c1, c2, c3, rfl⟩
set_option maxRecDepth 100000 in
/-- A version that came in. -/
theorem ver_came {H : Type} {enc : TypeId × Value → H} {W : World} {base : Nat} {v : Value} {d : DataW H} {p : List MemPlace} (hv : Value.okWide Tryz.prog W .any base 48 v)
    (h : DataW.Trod enc Tryz.prog W 0 (fun _ => true) true 48 v d p) : ∃ a : Vr, v = a.v ∧ (InI a.time ∧ InI a.loc ∧ InI a.kind ∧ InI a.num) ∧ d = vxD a := by
  obtain ⟨cs, rfl, hsz⟩ := okWide_struct Tryz.underlying48 hv
  obtain ⟨c0, c1, c2, c3, c4, c5, rfl⟩ := array6 (hsz.trans cellsXR)
  obtain ⟨fuel, hf⟩ := h
  obtain ⟨a, ea, o1, o2, o3, o4, hd⟩ := vx_open (n := fuel) (c0 := c0) (c1 := c1) (c2 := c2) (c3 := c3) (c4 := c4) (c5 := c5) (x := (d, p)) hf
  obtain ⟨time, dead, loc, kind, num, s⟩ := a
  simp [Vr.a] at ea
  obtain ⟨rfl, rfl, rfl, rfl, rfl, rfl⟩ := ea
  exact ⟨_, rfl, ⟨o1, o2, o3, o4⟩, hd⟩
set_option maxRecDepth 100000 in
/-- A key that came in. -/
theorem key_came {H : Type} {enc : TypeId × Value → H} {W : World} {base : Nat} {v : Value} {d : DataW H} {p : List MemPlace} (hv : Value.okWide Tryz.prog W .any base 24 v)
    (h : DataW.Trod enc Tryz.prog W 0 (fun _ => true) true 24 v d p) : ∃ k : Kb, v = k.v ∧ InI k.r ∧ d = kxD k := by
  obtain ⟨cs, rfl, hsz⟩ := okWide_struct Tryz.underlying24 hv
  obtain ⟨c0, c1, c2, c3, rfl⟩ := array4' (hsz.trans cellsXK)
  obtain ⟨fuel, hf⟩ := h
  obtain ⟨k, ek, o1, hd⟩ := kx_open (n := fuel) (c0 := c0) (c1 := c1) (c2 := c2) (c3 := c3) (x := (d, p)) hf
  obtain ⟨t, pp, r, c⟩ := k
  simp at ek
  obtain ⟨rfl, rfl, rfl, rfl⟩ := ek
  exact ⟨_, rfl, o1, hd⟩
set_option maxRecDepth 100000 in
/-- A cell that came in. -/
theorem cell_came {H : Type} {enc : TypeId × Value → H} {W : World} {base : Nat} {v : Value} {d : DataW H} {p : List MemPlace} (hv : Value.okWide Tryz.prog W .any base 59 v)
    (h : DataW.Trod enc Tryz.prog W 0 (fun _ => true) true 59 v d p) : ∃ c : Cx, v = c.val ∧ InI c.k.r ∧ (InI c.v.time ∧ InI c.v.loc ∧ InI c.v.kind ∧ InI c.v.num) ∧ d = cxD c := by
  obtain ⟨cs, rfl, hsz⟩ := okWide_struct Tryz.underlying59 hv
  obtain ⟨fuel, hf⟩ := h
  obtain ⟨c, ec, o1, o2, hd⟩ := cx_open (n := fuel) (cs := cs.toList) (x := (d, p)) hf
  have : cs = c.a := by rw [← Array.toArray_toList (xs := cs), ec, Array.toArray_toList]
  rw [this]
  exact ⟨c, rfl, o1, o2, hd⟩
set_option maxRecDepth 100000 in
theorem vxD_weights {H : Type} (a : Vr) : (vxD (H := H) a).weights Tryz.prog 48 = [a.s.size] := by
  unfold vxD sD iD
  simp [DataW.weights, DataW.weightsEach, Tryz.underlying48, Tryz.underlying46]
set_option maxRecDepth 100000 in
theorem kxD_weights {H : Type} (k : Kb) : (kxD (H := H) k).weights Tryz.prog 24 = [k.t.size, k.p.size, k.c.size] := by
  unfold kxD sD iD
  simp [DataW.weights, DataW.weightsEach, Tryz.underlying24]
set_option maxRecDepth 100000 in
theorem cxD_weights {H : Type} (c : Cx) : (cxD (H := H) c).weights Tryz.prog 59 = [c.k.t.size, c.k.p.size, c.k.c.size, c.v.s.size] := by
  unfold cxD kxD vxD sD iD
  simp [DataW.weights, DataW.weightsEach, Tryz.underlying59, Tryz.underlying24, Tryz.underlying48, Tryz.underlying46]
def big : Nat := 140737488355328
set_option maxRecDepth 100000 in
theorem reach_mem {H : Type} {ts : List TypeId} {ds : List (DataW H)} {j : Nat} {t : TypeId} {d : DataW H} (h : (DataW.weightsEach Tryz.prog ts ds).all (· ≤ reachBytes) = true) (ht : ts[j]? = some t) (hd : ds[j]? = some d) {n : Nat} (hn : n ∈ d.weights Tryz.prog t) : n ≤ big := by
  have := List.all_eq_true.1 h n (DataW.weights_mem_each ht hd n hn)
  have := of_decide_eq_true this
  simp only [reachBytes] at this
  unfold big; omega
/-- What came in is not great. -/
structure Cx.Fits (c : Cx) : Prop where
  r : InI c.k.r
  n : InI c.v.time ∧ InI c.v.loc ∧ InI c.v.kind ∧ InI c.v.num
  bt : c.k.t.size ≤ big
  bp : c.k.p.size ≤ big
  bc : c.k.c.size ≤ big
  bs : c.v.s.size ≤ big
set_option maxRecDepth 100000 in
theorem ver_reach {H : Type} {ts : List TypeId} {ds : List (DataW H)} {j : Nat} {a : Vr} (h : (DataW.weightsEach Tryz.prog ts ds).all (· ≤ reachBytes) = true) (ht : ts[j]? = some 48) (hd : ds[j]? = some (vxD a)) : a.s.size ≤ big :=
  reach_mem h ht hd (by rw [vxD_weights]; simp)
set_option maxRecDepth 100000 in
theorem cell_reach {H : Type} {ts : List TypeId} {ds : List (DataW H)} {j : Nat} {c : Cx} (o1 : InI c.k.r) (o2 : InI c.v.time ∧ InI c.v.loc ∧ InI c.v.kind ∧ InI c.v.num) (h : (DataW.weightsEach Tryz.prog ts ds).all (· ≤ reachBytes) = true) (ht : ts[j]? = some 59) (hd : ds[j]? = some (cxD c)) : c.Fits :=
  ⟨o1, o2, reach_mem h ht hd (by rw [cxD_weights]; simp), reach_mem h ht hd (by rw [cxD_weights]; simp), reach_mem h ht hd (by rw [cxD_weights]; simp), reach_mem h ht hd (by rw [cxD_weights]; simp)⟩
end Go.Proofs.YtdookhmaiapclaaGreatDoor
namespace Go.Proofs.YtdookhmaiapclaaGreatDoor
open Go.ChangeShapes Go.WideShapes Go.ChangeAt Go.RowKit Go.Deep

set_option maxRecDepth 100000 in
theorem weightsX_mem {H : Type} {P : Program} {e : TypeId} {d : DataW H} : ∀ {l : List (DataW H)}, d ∈ l → ∀ n ∈ d.weights P e, n ∈ DataW.weightsAll P e l
  | [], h, _, _ => by cases h
  | a :: l, h, n, hn => by
    simp only [DataW.weightsAll, List.mem_append]
    rcases List.mem_cons.1 h with rfl | h
    · exact .inl hn
    · exact .inr (weightsX_mem h n hn)
/-- What numbers came in. -/
def Cx.In (c : Cx) : Prop := InI c.k.r ∧ (InI c.v.time ∧ InI c.v.loc ∧ InI c.v.kind ∧ InI c.v.num)
def noCx : Cx := ⟨⟨⟨#[]⟩, ⟨#[]⟩, 0, ⟨#[]⟩⟩, zeroV⟩
set_option maxRecDepth 100000 in
/-- Cells that came in. -/
theorem cells_came {H : Type} {enc : TypeId × Value → H} {W : World} {ao : Option Addr} {len cap : Nat} {d : DataW H} {p : List MemPlace}
    (h : DataW.Trod enc Tryz.prog W 0 (fun _ => true) true 22 (Value.slice ao len cap) d p) :
    ∃ l : List Cx, l.length = len ∧ XSees W ao l ∧ (ao = none → l.length = 0) ∧ (∀ c ∈ l, c.In) ∧ (l.length = 0 ∨ ∃ sp, d = .slice (l.map cxD) sp) := by
  obtain ⟨fuel, hf⟩ := h
  rcases open_slice Tryz.underlying22 hf with ⟨hcs, _⟩ | ⟨a, n, c, m, k, D, Pl, hcs, _, hle, _, hm, hx, hc⟩
  · simp [Value.cells] at hcs
    obtain ⟨rfl, rfl, rfl⟩ := hcs
    exact ⟨[], rfl, (fun i c hc => by simp at hc), fun _ => rfl, (fun c hc => by cases hc), .inl rfl⟩
  · simp [Value.cells] at hcs
    obtain ⟨rfl, rfl, rfl⟩ := hcs
    simp only [if_true] at hm
    subst hm
    rw [cellsXC] at hc
    haveI : Inhabited Cx := ⟨noCx⟩
    obtain ⟨C, hC⟩ := choose_lt (α := Cx) (n := len) (p := fun i c => W.cells? 0 (a.add (i * 10)) 10 = some c.a.toList ∧ c.In ∧ D i = cxD c) (fun i hi => by
      obtain ⟨cs', h1, h2⟩ := hc i (by omega)
      obtain ⟨c, rfl, h3, h4, h5⟩ := cx_open h2
      exact ⟨c, h1, ⟨h3, h4⟩, h5⟩)
    have hD : (List.range len).map D = ((List.range len).map C).map cxD := by
      rw [List.map_map]
      exact List.map_congr_left fun i hi => (hC i (List.mem_range.1 hi)).2.2
    have hd := congrArg Prod.fst hx
    simp only [hD] at hd
    refine ⟨(List.range len).map C, by simp, ?_, (fun h => by cases h), ?_, .inr ⟨_, hd⟩⟩
    · intro i c hi
      have hlt : i < len := by
        have := (List.getElem?_eq_some_iff.1 hi).1
        simpa using this
      simp [hlt] at hi
      subst hi
      obtain ⟨_, _, h3⟩ := World.cells?_some (hC i hlt).1
      obtain ⟨_, _, h30⟩ := World.cells?_some (hC 0 (by omega)).1
      have hz := h30 0 (by omega)
      obtain ⟨b, off, spot⟩ := a
      have hspot : spot = none := by
        have := World.cell?_spot (hz.trans (by rfl : (C 0).a.toList[0]? = some (.string (C 0).k.t)))
        simpa [Addr.add] using this
      subst hspot
      have hv : ∀ j v, (C i).a.toList[j]? = some v → W.cell? ⟨b, off + i * 10 + j, none⟩ = some v := fun j v hv => by
        have hj : j < 10 := (List.getElem?_eq_some_iff.1 hv).1
        have := h3 j hj
        rw [Addr.add_lit, Addr.add_lit, hv] at this
        exact this
      exact ⟨b, off, rfl, ⟨hv 0 _ rfl, hv 1 _ rfl, hv 2 _ rfl, hv 3 _ rfl, hv 4 _ rfl, hv 5 _ rfl, hv 6 _ rfl, hv 7 _ rfl, hv 8 _ rfl, hv 9 _ rfl⟩⟩
    · intro c hc
      obtain ⟨i, hi, rfl⟩ := List.mem_map.1 hc
      exact (hC i (List.mem_range.1 hi)).2.1
set_option maxRecDepth 100000 in
theorem bytesXC : Tryz.prog.bytesOf 59 = 112 := by kernel_rfl
set_option maxRecDepth 100000 in
theorem cells_fit {H : Type} {ts : List TypeId} {ds : List (DataW H)} {j : Nat} {d : DataW H} {l : List Cx} (h : (DataW.weightsEach Tryz.prog ts ds).all (· ≤ reachBytes) = true) (ht : ts[j]? = some 22) (hd : ds[j]? = some d)
    (hk : ∀ c ∈ l, c.In) (hn : l.length = 0 ∨ ∃ sp, d = .slice (l.map cxD) sp) : l.length ≤ 140737488355328 ∧ ∀ c ∈ l, c.In ∧ wtX c ≤ 562949953421312 := by
  rcases hn with h0 | ⟨sp, rfl⟩
  · obtain rfl : l = [] := List.eq_nil_of_length_eq_zero h0
    exact ⟨by simp, fun c hc => by cases hc⟩
  · have h1 := sized_slice h ht hd Tryz.underlying22
    rw [bytesXC] at h1
    simp only [reachBytes, List.length_map] at h1
    refine ⟨by omega, fun c hc => ⟨hk c hc, ?_⟩⟩
    have hw : ∀ n ∈ (cxD (H := H) c).weights Tryz.prog 59, n ≤ big := fun n hn =>
      reach_mem h ht hd (by
        simp only [DataW.weights, Tryz.underlying22, List.mem_cons, List.mem_append]
        exact .inr (.inl (weightsX_mem (List.mem_map_of_mem hc) n hn)))
    rw [cxD_weights] at hw
    have a0 := hw c.k.t.size (by simp)
    have a1 := hw c.k.p.size (by simp)
    have a2 := hw c.k.c.size (by simp)
    have a3 := hw c.v.s.size (by simp)
    unfold big at a0 a1 a2 a3
    unfold wtX
    omega
set_option maxRecDepth 100000 in
theorem array3 {α : Type} {cs : Array α} (h : cs.size = 3) : ∃ c0 c1 c2, cs = #[c0, c1, c2] := by
  obtain ⟨l⟩ := cs
  match l, h with
  | [c0, c1, c2], _ => exact ⟨c0, c1, c2, rfl⟩
set_option maxRecDepth 100000 in
/-- A value that came in. -/
theorem value_came {H : Type} {enc : TypeId × Value → H} {W : World} {base : Nat} {v : Value} {d : DataW H} {p : List MemPlace} (hv : Value.okWide Tryz.prog W .any base 46 v)
    (h : DataW.Trod enc Tryz.prog W 0 (fun _ => true) true 46 v d p) : ∃ (k n : Int) (s : ByteArray), v = .agg #[.int .i64 k, .int .i64 n, .string s] ∧ InI k ∧ InI n := by
  obtain ⟨cs, rfl, hsz⟩ := okWide_struct Tryz.underlying46 hv
  obtain ⟨c0, c1, c2, rfl⟩ := array3 (hsz.trans cellsXV)
  obtain ⟨fuel, hf⟩ := h
  obtain ⟨u0, u1, u2, m', hu, _, g0, g1, g2⟩ := trod_struct3 (cs := [c0, c1, c2]) Tryz.underlying46 hf
  simp only [cellsXS, cellsXI] at g0 g1 g2
  obtain ⟨r0, f0, rfl, q0⟩ := DataW.trod_int Tryz.underlying3 g0
  obtain ⟨r1, f1, rfl, q1⟩ := DataW.trod_int Tryz.underlying3 g1
  obtain ⟨r2, f2, rfl, _⟩ := DataW.trod_string Tryz.underlying9 g2
  simp at f0 f1 f2
  subst f0
  subst f1
  subst f2
  exact ⟨r0, r1, r2, rfl, bounds_i64 q0, bounds_i64 q1⟩
end Go.Proofs.YtdookhmaiapclaaGreatDoor
