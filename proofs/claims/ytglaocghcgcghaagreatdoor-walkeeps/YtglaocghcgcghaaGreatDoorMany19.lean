/-
  SEVERAL TEXTS IN ONE: VerJoin, VerLives, CxWeigh, CxDigest, WkWrite, CxRow.
-/
import Derived.Test.YtglaocghcgcghaaGreatDoorMany18
import Derived.Test.YtglaocghcgcghaaGreatDoorCellMany
import Derived.Test.YtglaocghcgcghaaGreatDoorMany7
import Derived.Test.YtglaocghcgcghaaGreatDoorMany17
import Derived.Test.YtglaocghcgcghaaGreatDoorMany16
namespace Go.Proofs.YtglaocghcgcghaaGreatDoor
open Go.RowKit

theorem frozen_at {w : World} {g : Nat} {cs : Array Value} {ty : TypeId} (h : w.heap[g]? = some (.cells cs ty)) (i : Nat) : w.frozen? ⟨g, i, none⟩ = false := by simp [World.frozen?, h]
def zeroV : Vr := ⟨0, false, 0, 0, 0, ⟨#[]⟩⟩
theorem set6 {w : World} {g : Nat} {a : Vr} {ty : TypeId} (h : w.heap[g]? = some (.cells a.a ty)) (v0 v1 v2 v3 v4 v5 : Value) :
    ((((((w.setCell ⟨g, 0, none⟩ v0).setCell ⟨g, 1, none⟩ v1).setCell ⟨g, 2, none⟩ v2).setCell ⟨g, 3, none⟩ v3).setCell ⟨g, 4, none⟩ v4).setCell ⟨g, 5, none⟩ v5).heap[g]? = some (.cells #[v0, v1, v2, v3, v4, v5] ty) := by
  simp only [World.setCell, Array.getElem?_modify, h, Vr.a]
  simp
theorem boxes3 (w : World) (a b c : Vr) : ∃ wa, wa = ((w.alloc (.cells a.a 48)).alloc (.cells b.a 48)).alloc (.cells c.a 48) ∧ VAt wa w.heap.size 0 a ∧ VAt wa (w.heap.size + 1) 0 b ∧ VAt wa (w.heap.size + 1 + 1) 0 c ∧ wa.heap[w.heap.size + 1 + 1]? = some (.cells c.a 48) ∧ Below w.heap.size w wa := by
  refine ⟨_, rfl, ((VAt.new w a _).alloc _).alloc _, ?_, ?_, ?_, (((Below.refl _ _).alloc (Nat.le_refl _) _).alloc (by simp) _).alloc (by rw [World.size_alloc, World.size_alloc]; omega) _⟩
  · have := VAt.new (w.alloc (.cells a.a 48)) b 48
    rw [World.size_alloc] at this; exact this.alloc _
  · have := VAt.new ((w.alloc (.cells a.a 48)).alloc (.cells b.a 48)) c 48
    rw [World.size_alloc, World.size_alloc] at this; exact this
  · have := heap_alloc_new ((w.alloc (.cells a.a 48)).alloc (.cells b.a 48)) (.cells c.a 48)
    rw [World.size_alloc, World.size_alloc] at this; exact this
theorem below6 {B : Nat} {w w1 : World} (h : Below B w w1) {g : Nat} (hg : B ≤ g) (v0 v1 v2 v3 v4 v5 : Value) : Below B w ((((((w1.setCell ⟨g, 0, none⟩ v0).setCell ⟨g, 1, none⟩ v1).setCell ⟨g, 2, none⟩ v2).setCell ⟨g, 3, none⟩ v3).setCell ⟨g, 4, none⟩ v4).setCell ⟨g, 5, none⟩ v5) :=
  (((((h.setCell (p := ⟨g, 0, none⟩) hg _).setCell (p := ⟨g, 1, none⟩) hg _).setCell (p := ⟨g, 2, none⟩) hg _).setCell (p := ⟨g, 3, none⟩) hg _).setCell (p := ⟨g, 4, none⟩) hg _).setCell (p := ⟨g, 5, none⟩) hg _

/-- Which values may be, of a version that lives. -/
def goodU (mark : Bool) (k n : Int) (s : ByteArray) : Bool := if mark then k == 0 && (n == 0 && decide (s.size = 0)) else (k == 1 && decide (s.size = 0)) || (k == 2 && (n == 0 && decide (s.size ≤ 64)))
theorem goodU_any (m : Bool) (k n : Int) (s : ByteArray) (w : World) (hs : s.size ≤ maxLen) :
    Calls Tryz.prog 42 #[.agg #[.int .i64 k, .int .i64 n, .string s], .bool m] w fun x w' => x = .returned (.bool (goodU m k n s)) ∧ Below w.heap.size w w' := by
  have hs' : (s.size : Int) ≤ 9223372036854775807 := by unfold maxLen at hs; omega
  have hE : Hid (∀ o : Obj, Below w.heap.size w (w.alloc o)) := fun o => (Below.refl _ _).alloc (Nat.le_refl _) _
  have he := ba_isEmpty s
  clear hs
  obtain ⟨R, hR⟩ : ∃ R, R = goodU m k n s := ⟨_, rfl⟩
  rw [← hR]
  have HR : Hid (R = goodU m k n s) := hR
  clear hR
  cases m
  · by_cases h1 : k = 1
    · subst h1
      go_enter Tryz.func42, Tryz.ntmps42
      go_wp2_with fail
      go_ret
      exact ⟨ret_bool (by rw [HR.out]; simp [goodU]), hE.out _⟩
    · by_cases h2 : k = 2
      · subst h2
        by_cases h3 : n = 0
        · subst h3
          go_enter Tryz.func42, Tryz.ntmps42
          go_wp2_with fail
          go_ret
          exact ⟨ret_bool (by rw [HR.out]; simp [goodU]; omega), hE.out _⟩
        · go_enter Tryz.func42, Tryz.ntmps42
          go_wp2_with fail
          go_ret
          exact ⟨ret_bool (by rw [HR.out]; simp [goodU, h3]), hE.out _⟩
      · go_enter Tryz.func42, Tryz.ntmps42
        go_wp2_with fail
        go_ret
        exact ⟨ret_bool (by rw [HR.out]; simp [goodU, h1, h2]), hE.out _⟩
  · by_cases h1 : k = 0 <;> by_cases h2 : n = 0 <;> by_cases h3 : s.size = 0 <;> (simp only [h3, decide_true, decide_false] at he; go_enter Tryz.func42, Tryz.ntmps42; go_wp2_with fail; go_ret; exact ⟨ret_bool (by rw [HR.out]; simp [goodU, h1, h2, h3]), hE.out _⟩)
end Go.Proofs.YtglaocghcgcghaaGreatDoor
namespace Go.Proofs.YtglaocghcgcghaaGreatDoor
open Go.RowKit

/-- A cell. -/
structure Cx where
  k : Kb
  v : Vr
def Cx.a (c : Cx) : Array Value := #[.string c.k.t, .string c.k.p, .int .i64 c.k.r, .string c.k.c, .int .i64 c.v.time, .bool c.v.dead, .int .i64 c.v.loc, .int .i64 c.v.kind, .int .i64 c.v.num, .string c.v.s]
def Cx.val (c : Cx) : Value := .agg c.a
def goodC (c : Cx) : Bool := goodK c.k.ky && goodV (decide (c.k.c.size = 0)) c.v
theorem goodV_dead {m : Bool} {a : Vr} (h : a.dead = true) : goodV m a = (a.kind == 0 && (a.num == 0 && decide (a.s.size = 0))) := by unfold goodV zeroVal; rw [if_pos h]
theorem goodV_live {m : Bool} {a : Vr} (h : a.dead = false) : goodV m a = (a.loc == 0 && goodU m a.kind a.num a.s) := by unfold goodV zeroVal goodU; rw [if_neg (by rw [h]; simp)]
theorem size_none (s : ByteArray) (h : s.size = 0) : s = ⟨#[]⟩ := size0 h

theorem goodX_world (w : World) (c : Cx) : ∃ wa, wa = (w.alloc (.cells c.a 50)).alloc (.cells c.v.a 48) ∧ VAt wa (w.heap.size + 1) 0 c.v ∧ wa.cell? ⟨w.heap.size, 3, none⟩ = some (.string c.k.c) ∧ w.heap.size < wa.heap.size ∧ Below w.heap.size w wa := by
  refine ⟨_, rfl, ?_, ?_, by rw [World.size_alloc, World.size_alloc]; omega, ((Below.refl _ _).alloc (Nat.le_refl _) _).alloc (by simp) _⟩
  · have := VAt.new (w.alloc (.cells c.a 50)) c.v 48
    rwa [World.size_alloc] at this
  · exact (box_cells w _ _ _ 3 _ rfl).1
set_option maxRecDepth 100000 in
set_option maxHeartbeats 1000000 in
theorem goodX_any (c : Cx) (w : World) (h1 : c.k.t.size ≤ maxLen) (h2 : c.k.p.size ≤ maxLen) (h3 : c.k.c.size ≤ maxLen) (h4 : c.v.s.size ≤ maxLen) :
    Calls Tryz.prog 20 #[c.val] w fun x w' => x = .returned (.bool (goodC c)) ∧ Below w.heap.size w w' := by
  have G : Hid (∀ w : World, Calls Tryz.prog 41 #[c.k.v] w fun e w' => e = .returned (.bool (goodK c.k.ky)) ∧ Below w.heap.size w w') := fun w => good_any c.k w h1 h2 h3
  have U : Hid (∀ (m : Bool) (w : World), Calls Tryz.prog 42 #[.agg #[.int .i64 c.v.kind, .int .i64 c.v.num, .string c.v.s], .bool m] w fun x w' => x = .returned (.bool (goodU m c.v.kind c.v.num c.v.s)) ∧ Below w.heap.size w w') := fun m w => goodU_any m _ _ _ w h4
  obtain ⟨wa, hwa, va, kc', hlt, hB⟩ := goodX_world w c
  have lv := va.lt
  have HF : Hid (∀ w1, Below wa.heap.size wa w1 → VAt w1 (w.heap.size + 1) 0 c.v ∧ w1.cell? ⟨w.heap.size, 3, none⟩ = some (.string c.k.c) ∧ Below w.heap.size w w1) := fun w1 h => ⟨va.below h lv, by rw [h.cell hlt]; exact kc', hB.trans (h.mono hB.size)⟩
  have e1 := ba_isEmpty c.k.c
  have e2 := ba_isEmpty c.v.s
  have hg : Hid (goodC c = (goodK c.k.ky && goodV (decide (c.k.c.size = 0)) c.v)) := rfl
  have hd : Hid (c.v.dead = true → goodV (decide (c.k.c.size = 0)) c.v = (c.v.kind == 0 && (c.v.num == 0 && decide (c.v.s.size = 0)))) := goodV_dead
  have hl : Hid (c.v.dead = false → goodV (decide (c.k.c.size = 0)) c.v = (c.v.loc == 0 && goodU (decide (c.k.c.size = 0)) c.v.kind c.v.num c.v.s)) := goodV_live
  generalize goodC c = R at *
  generalize goodV (decide (c.k.c.size = 0)) c.v = V at *
  generalize goodK c.k.ky = K at *
  clear va kc' hlt lv hB h1 h2 h3 h4
  obtain ⟨⟨kt, kp, kr, kcol⟩, ⟨t1, d1, l1, k1, n1, s1⟩⟩ := c
  simp only [Cx.val, Cx.a, Vr.a, Kb.v] at *
  go_enter Tryz.func20, Tryz.ntmps20
  go_wp2_with fail
  rw [← hwa]
  clear hwa
  refine (G.out _).mono ?_
  rintro x w1 ⟨rfl, hb1⟩
  obtain ⟨⟨x1, x2, x3, x4, x5, x6⟩, y, hB⟩ := HF.out w1 hb1
  have HB : Hid (Below w.heap.size w w1) := hB
  simp only [Nat.zero_add] at x1 x2 x3 x4 x5 x6
  clear hB hb1 HF
  cases K
  · have hR : Hid (R = false) := hg.out
    clear hg
    go_wp2_with fail
    go_ret
    exact ⟨ret_bool hR.out.symm, HB.out⟩
  · cases d1
    · have hR : Hid (R = (l1 == 0 && goodU (decide (kcol.size = 0)) k1 n1 s1)) := hg.out.trans (hl.out rfl)
      clear hg hd hl
      by_cases hz : l1 = 0
      · subst hz
        obtain ⟨U1, hU1⟩ : ∃ U1, U1 = goodU (decide (kcol.size = 0)) k1 n1 s1 := ⟨_, rfl⟩
        have U' : Hid (Calls Tryz.prog 42 #[.agg #[.int .i64 k1, .int .i64 n1, .string s1], .bool kcol.toList.isEmpty] w1 fun x w' => x = .returned (.bool U1) ∧ Below w1.heap.size w1 w') := by rw [hU1, e1]; exact U.out _ w1
        have hR' : Hid (R = U1) := by rw [hU1]; exact hR.out
        clear U hR hU1 e1
        go_wp2_with fail
        refine U'.out.mono ?_
        rintro x w2 ⟨rfl, hb2⟩
        go_wp2_with fail
        go_ret
        exact ⟨ret_bool hR'.out.symm, HB.out.trans (hb2.mono HB.out.size)⟩
      · have hR' : Hid (R = false) := hR.out.trans (by rw [beq_false_of_ne hz]; rfl)
        clear hR
        go_wp2_with fail
        go_ret
        exact ⟨ret_bool hR'.out.symm, HB.out⟩
    · have hR : Hid (R = (k1 == 0 && (n1 == 0 && decide (s1.size = 0)))) := hg.out.trans (hd.out rfl)
      clear hg hd hl U
      by_cases h1 : k1 = 0 <;> by_cases h2 : n1 = 0 <;> by_cases h3 : s1.size = 0 <;> (simp only [h3, decide_true, decide_false] at e2; go_wp2_with fail; go_ret; exact ⟨ret_bool (by rw [hR.out]; simp [h1, h2, h3]), HB.out⟩)

theorem chain_next (t1 t2 l1 l2 k1 k2 n1 n2 : Int) (d1 d2 : Bool) (s1 s2 : ByteArray) (w : World) : (if t1 = t2 then if d1 = d2 then if l1 = l2 then if k1 = k2 then if n1 = n2 then if s1.toList = s2.toList then Result.ok (Next.value (Value.bool true)) w else Result.ok (Next.value (Value.bool false)) w else Result.ok (Next.value (Value.bool false)) w else Result.ok (Next.value (Value.bool false)) w else Result.ok (Next.value (Value.bool false)) w else Result.ok (Next.value (Value.bool false)) w else Result.ok (Next.value (Value.bool false)) w) = Result.ok (Next.value (Value.bool (eqV ⟨t1, d1, l1, k1, n1, s1⟩ ⟨t2, d2, l2, k2, n2, s2⟩))) w := by
  unfold eqV
  by_cases e1 : t1 = t2 <;> by_cases e2 : d1 = d2 <;> by_cases e3 : l1 = l2 <;> by_cases e4 : k1 = k2 <;> by_cases e5 : n1 = n2 <;> by_cases e6 : s1.toList = s2.toList <;> simp [e1, e2, e3, e4, e5, e6]
def vA : Vr := ⟨5, false, 0, 2, 0, ⟨#[97]⟩⟩
def vB : Vr := ⟨5, false, 0, 2, 0, ⟨#[98]⟩⟩
def vD : Vr := ⟨5, true, 3, 0, 0, ⟨#[]⟩⟩
def vL : Vr := ⟨6, false, 0, 2, 0, ⟨#[97]⟩⟩
theorem jAD : jn vA vD = vD := by unfold jn; rw [if_pos (by decide)]
theorem jDL : jn vD vL = vL := by unfold jn; rw [if_pos (by decide)]
theorem jBA : jn vB vA = vB := by unfold jn; rw [if_neg (by decide)]
def cA : Cx := ⟨⟨⟨#[116]⟩, ⟨#[120]⟩, 1, ⟨#[97]⟩⟩, vA⟩
theorem gA : goodC cA = true := by decide
theorem boxes4 (w : World) (a b c d : Vr) : ∃ wa, wa = (((w.alloc (.cells a.a 48)).alloc (.cells b.a 48)).alloc (.cells c.a 48)).alloc (.cells d.a 48) ∧ VAt wa w.heap.size 0 a ∧ VAt wa (w.heap.size + 1) 0 b ∧ VAt wa (w.heap.size + 1 + 1) 0 c ∧ VAt wa (w.heap.size + 1 + 1 + 1) 0 d ∧ Below w.heap.size w wa := by
  obtain ⟨w3, rfl, v1, v2, v3, _, hB⟩ := boxes3 w a b c
  refine ⟨_, rfl, v1.alloc _, v2.alloc _, v3.alloc _, ?_, hB.alloc hB.size _⟩
  have := VAt.new (((w.alloc (.cells a.a 48)).alloc (.cells b.a 48)).alloc (.cells c.a 48)) d 48
  rwa [World.size_alloc, World.size_alloc, World.size_alloc] at this
theorem VAt.cl {w : World} {g : Nat} {a : Vr} (h : VAt w g 0 a) (q : Cl w.heap.size w) : VAt q.u g 0 a := h.below q.h h.lt
end Go.Proofs.YtglaocghcgcghaaGreatDoor
namespace Go.Proofs.YtglaocghcgcghaaGreatDoor
open Go.RowKit

/-- Ten cells, one by one. -/
structure TenX (w : World) (b o : Nat) (c : Cx) : Prop where
  c0 : w.cell? ⟨b, o, none⟩ = some (.string c.k.t)
  c1 : w.cell? ⟨b, o + 1, none⟩ = some (.string c.k.p)
  c2 : w.cell? ⟨b, o + 2, none⟩ = some (.int .i64 c.k.r)
  c3 : w.cell? ⟨b, o + 3, none⟩ = some (.string c.k.c)
  c4 : w.cell? ⟨b, o + 4, none⟩ = some (.int .i64 c.v.time)
  c5 : w.cell? ⟨b, o + 5, none⟩ = some (.bool c.v.dead)
  c6 : w.cell? ⟨b, o + 6, none⟩ = some (.int .i64 c.v.loc)
  c7 : w.cell? ⟨b, o + 7, none⟩ = some (.int .i64 c.v.kind)
  c8 : w.cell? ⟨b, o + 8, none⟩ = some (.int .i64 c.v.num)
  c9 : w.cell? ⟨b, o + 9, none⟩ = some (.string c.v.s)
theorem TenX.lt {w : World} {b o : Nat} {c : Cx} (h : TenX w b o c) : b < w.heap.size := World.block_lt_of_cell? _ _ h.c0
theorem TenX.below {w w' : World} {b o : Nat} {c : Cx} (h : TenX w b o c) {B : Nat} (hb : Below B w w') (hB : b < B) : TenX w' b o c :=
  ⟨by rw [hb.cell hB, h.c0], by rw [hb.cell hB, h.c1], by rw [hb.cell hB, h.c2], by rw [hb.cell hB, h.c3], by rw [hb.cell hB, h.c4], by rw [hb.cell hB, h.c5], by rw [hb.cell hB, h.c6], by rw [hb.cell hB, h.c7], by rw [hb.cell hB, h.c8], by rw [hb.cell hB, h.c9]⟩
theorem TenX.alloc {w : World} {b o : Nat} {c : Cx} (h : TenX w b o c) (ob : Obj) : TenX (w.alloc ob) b o c := h.below ((Below.refl w.heap.size w).alloc (Nat.le_refl _) ob) h.lt
theorem TenX.of {w : World} {g : Nat} {c : Cx} {ty : TypeId} {z : Nat × Nat} (h : w.heap[g]? = some (.cells c.a ty z)) : TenX w g 0 c := by
  constructor <;> simp [World.cell?, h, Cx.a]
theorem TenX.new (w : World) (c : Cx) (ty : TypeId) : TenX (w.alloc (.cells c.a ty)) w.heap.size 0 c := TenX.of (heap_alloc_new w _)
/-- The cells l can be read from the address on. -/
def XSees (w : World) (ao : Option Addr) (l : List Cx) : Prop := ∀ i c, l[i]? = some c → ∃ b off, ao = some ⟨b, off, none⟩ ∧ TenX w b (off + i * 10) c
theorem XSees.below {w w' : World} {ao : Option Addr} {l : List Cx} (h : XSees w ao l) {B : Nat} (hb : Below B w w') (hB : w.heap.size ≤ B) : XSees w' ao l := by
  intro i c hc
  obtain ⟨b, off, e, hr⟩ := h i c hc
  exact ⟨b, off, e, hr.below hb (Nat.lt_of_lt_of_le hr.lt hB)⟩
/-- The bytes of a cell's texts. -/
def wtX (c : Cx) : Nat := c.k.t.size + c.k.p.size + c.k.c.size + c.v.s.size
def wtXs (l : List Cx) : Nat := (l.map wtX).sum
theorem takeX_succ {α : Type} {l : List α} {i : Nat} {c : α} (h : l[i]? = some c) : l.take (i + 1) = l.take i ++ [c] := by
  rw [List.take_add_one, h]
  rfl
end Go.Proofs.YtglaocghcgcghaaGreatDoor
namespace Go.Proofs.YtglaocghcgcghaaGreatDoor
open Go.RowKit

def toC (c : Cx) : CellV := ⟨⟨c.k.t, c.k.p, c.k.r, c.k.c⟩, ⟨c.v.time, c.v.dead, c.v.loc, ⟨c.v.kind, c.v.num, c.v.s⟩⟩⟩
theorem XSees.c {w : World} {ao : Option Addr} {l : List Cx} (h : XSees w ao l) : CSees w ao (l.map toC) := by
  intro i c hc
  rw [List.getElem?_map] at hc
  cases hl : l[i]? with
  | none => rw [hl] at hc; cases hc
  | some x =>
    rw [hl] at hc
    obtain rfl : toC x = c := by simpa using hc
    obtain ⟨b, off, e, t⟩ := h i x hl
    refine ⟨b, off, e, fun j v hv => ?_⟩
    match j, hv with
    | 0, hv => obtain rfl := Option.some.inj hv; exact t.c0
    | 1, hv => obtain rfl := Option.some.inj hv; exact t.c1
    | 2, hv => obtain rfl := Option.some.inj hv; exact t.c2
    | 3, hv => obtain rfl := Option.some.inj hv; exact t.c3
    | 4, hv => obtain rfl := Option.some.inj hv; exact t.c4
    | 5, hv => obtain rfl := Option.some.inj hv; exact t.c5
    | 6, hv => obtain rfl := Option.some.inj hv; exact t.c6
    | 7, hv => obtain rfl := Option.some.inj hv; exact t.c7
    | 8, hv => obtain rfl := Option.some.inj hv; exact t.c8
    | 9, hv => obtain rfl := Option.some.inj hv; exact t.c9
    | j + 10, hv => exact absurd hv (by simp [cellA])
/-- What numbers a cell has. -/
structure Cx.Nums (c : Cx) : Prop where
  r : InI c.k.r
  n : InI c.v.time ∧ InI c.v.loc ∧ InI c.v.kind ∧ InI c.v.num
theorem Cx.Nums.ok {c : Cx} (h : c.Nums) : (toC c).Ok := ⟨⟨h.r⟩, ⟨h.n.1, h.n.2.1, ⟨h.n.2.2.1, h.n.2.2.2⟩⟩⟩
/-- The bytes of texts that are written. -/
def wtY (c : Cx) : Nat := c.k.t.size + c.k.p.size + c.k.c.size + (if c.v.dead then 0 else c.v.s.size)
def wtYs (l : List Cx) : Nat := (l.map wtY).sum
theorem wtL_toC (l : List Cx) : wtLD (l.map toC) = wtYs l := by
  unfold wtLD wtYs
  rw [List.map_map]; rfl
theorem wtYs_le (l : List Cx) : wtYs l ≤ wtXs l := by
  induction l with
  | nil => simp [wtYs, wtXs]
  | cons c l ih =>
    have h : wtY c ≤ wtX c := by unfold wtY wtX; split <;> omega
    unfold wtYs wtXs at *
    simp only [List.map_cons, List.sum_cons]
    omega
/-- The digest. -/
def dgB (l : List UInt8) : Int := ((sumB l 0#64).1.toNat : Int)
/-- What the digest does not look at. -/
def blur (k n : Int) (s : ByteArray) (loc : Int) (c : Cx) : Cx := if c.v.dead then ⟨c.k, ⟨c.v.time, c.v.dead, c.v.loc, k, n, s⟩⟩ else ⟨c.k, ⟨c.v.time, c.v.dead, loc, c.v.kind, c.v.num, c.v.s⟩⟩
theorem blur_bytes (k n : Int) (s : ByteArray) (loc : Int) (c : Cx) : cellL (toC (blur k n s loc c)) = cellL (toC c) := by
  unfold blur
  split
  · rename_i h
    unfold cellL verL toC keyL
    simp only [h, if_true]
  · rename_i h
    unfold cellL verL toC keyL
    simp only [h]
    rfl
theorem blur_wt (k n : Int) (s : ByteArray) (loc : Int) (c : Cx) : wtY (blur k n s loc c) = wtY c := by
  unfold blur wtY
  cases c.v.dead <;> simp
theorem blur_wts (k n : Int) (s : ByteArray) (loc : Int) (l : List Cx) : wtYs (l.map (blur k n s loc)) = wtYs l := by
  unfold wtYs
  rw [List.map_map]
  congr 1
  exact List.map_congr_left fun c _ => blur_wt k n s loc c
theorem blur_nums {k n loc : Int} (s : ByteArray) {c : Cx} (hk : InI k) (hn : InI n) (hl : InI loc) (h : c.Nums) : (blur k n s loc c).Nums := by
  unfold blur
  split
  · exact ⟨h.r, h.n.1, h.n.2.1, hk, hn⟩
  · exact ⟨h.r, h.n.1, hl, h.n.2.2.1, h.n.2.2.2⟩
theorem blur_cells (k n : Int) (s : ByteArray) (loc : Int) (l : List Cx) : cellsL ((l.map (blur k n s loc)).map toC) = cellsL (l.map toC) := by
  unfold cellsL
  rw [List.length_map, List.length_map, List.length_map]
  congr 1
  unfold manyL
  induction l with
  | nil => rfl
  | cons c l ih =>
    simp only [List.map_cons, List.flatMap_cons]
    rw [ih, blur_bytes]
end Go.Proofs.YtglaocghcgcghaaGreatDoor
namespace Go.Proofs.YtglaocghcgcghaaGreatDoor
open Go.RowKit
attribute [local go_sem] Oper.pureAt Oper.pureUpon

section
variable {w0 : World} {d lb : Nat} {A : Ab} {n : Int} {b : Bool} {ft : List Nat} {w : World}
theorem LyD.of (h : LyF w0 d lb A n b ft w) : ∃ p : LD d lb n, w = p.u := ⟨⟨w, h.blk.cell 0 rfl, h.blk.cell 1 rfl⟩, rfl⟩
theorem LyD.ofR {w' : World} (h : LyR w0 d lb A n b ft w w') : ∃ p : LD d lb n, w' = p.u := ⟨⟨w', h.blk.cell 0 rfl, h.blk.cell 1 rfl⟩, rfl⟩
end
set_option maxRecDepth 100000 in
set_option maxHeartbeats 2000000 in
theorem writeY {w0 : World} {d lb : Nat} {A : Ab} {n : Int} {b : Bool} {ft : List Nat} {w : World} (he : EnvW w0) (h : LyF w0 d lb A n b ft w) (hn : okW n = true) (ao : Option Addr) (l : List UInt8) (c : Nat) (hb : Sees w ao l) (hne : ∀ a, ao = some a → 0 < l.length → a.block ∉ ft) {k : Nat} (hN : Nice A k) (hk : k + 1 ≤ 2000) (hl : l.length ≤ 600000) (hl2 : ∀ t, findT A.sp (nmW n) = some t → t.bs.length + l.length ≤ 600000) :
    Calls Tryz.prog 27 #[.pointer (some ⟨lb, 0, none⟩), .slice ao l.length c] w fun x w' => x = .returned (.int .i64 (writeX A n l).1) ∧ LyR w0 d lb (writeX A n l).2 n b ft w w' := by
  have hmm := okW_iff.1 hn
  have CN : Hid (∀ u, Below w0.heap.size w0 u → Calls Tryz.prog 38 #[.int .i64 n] u fun x w' => x = .returned (.string (tB (nmW n))) ∧ Below u.heap.size u w') := fun u hu => nameW_any n (by omega) (by omega) u (he.below hu (Nat.le_refl _))
  have hsz := tB_max (nmW n) (by have := nmW_len n; omega)
  unfold writeX
  rw [← tB_list (nmW n)] at hl2
  have CC0 := fun u (hu : Below w.heap.size w u) => ly_append (h.more hu) (tB (nmW n)) hsz ao l c (hb.below hu (Nat.le_refl _)) hne hN hk hl hl2
  have hN1 := hN.append (tB (nmW n)) hl2
  have CS0 := fun u f (hu : LyF w0 d lb (appendX A (tB (nmW n)) l).2 n b f u) => ly_sync hu (tB (nmW n)) hsz hN1 hk
  have HL : Hid (LyF w0 d lb A n b ft w) := h
  have c0 : ∀ q : LD d lb n, q.u.cell? ⟨lb, 0, none⟩ = some (.pointer (some ⟨d, 0, none⟩)) := fun q => q.h
  have c1 : ∀ q : LD d lb n, q.u.cell? ⟨lb, 1, none⟩ = some (.int .i64 n) := fun q => q.k
  obtain ⟨p0, hp0⟩ := LyD.of h
  haveI : Nonempty (LD d lb n) := ⟨p0⟩
  clear hp0
  generalize appendX A (tB (nmW n)) l = q at *
  obtain ⟨e1, A1⟩ := q
  have CC : Hid (∀ u, Below w.heap.size w u → Calls Tryz.prog 50 #[.pointer (some ⟨d, 0, none⟩), .string (tB (nmW n)), .slice ao l.length c] u fun x w' => x = .returned (.int .i64 e1) ∧ LyR w0 d lb A1 n b ft u w') := CC0
  by_cases h1 : e1 = 0
  · subst h1
    rw [chainW_mk0]
    simp only at CS0
    generalize syncX A1 (tB (nmW n)) = q at *
    obtain ⟨e2, A2⟩ := q
    have CS : Hid (∀ u f, LyF w0 d lb A1 n b f u → Calls Tryz.prog 51 #[.pointer (some ⟨d, 0, none⟩), .string (tB (nmW n))] u fun x w' => x = .returned (.int .i64 e2) ∧ LyR w0 d lb A2 n b f u w') := CS0
    generalize tB (nmW n) = s at *
    clear CC0 CS0 hN1 hN hn h he hsz hk hl hl2 hb hne p0
    go_enter Tryz.func27, Tryz.ntmps27
    go_wp2_with fail
    refine wp_region_sched (fun w' => ∃ p : LD d lb n, w' = p.u) [(0, true), (1, true), (2, true), (3, true), (4, true), (5, true), (6, true), (7, true), (9, true), (8, false), (10, false), (11, true)] rfl (by kernel_rfl) (by kernel_rfl) (by kernel_rfl) (LyD.of HL.out.drew) ?_
    iterate 9 (refine sched_pure rfl (fun K hK => ?_); go_simp; refine hK _ ?_; clear hK K)
    refine sched_loud rfl (fun K hK => ?_)
    go_simp
    refine (CN.out _ HL.out.drew.bel).mono ?_
    rintro e u1 ⟨rfl, hu1⟩
    have hu1f := HL.out.drew.more hu1
    have hu1b : Below w.heap.size w u1 := (Below.refl _ _).drew.trans hu1
    refine hK _ _ (LyD.of hu1f) ?_
    clear hK K
    refine sched_loud rfl (fun K hK => ?_)
    go_simp
    refine (CC.out _ hu1b).mono ?_
    rintro e u2 ⟨rfl, r2⟩
    refine hK _ _ (LyD.ofR r2) ?_
    clear hK K
    refine sched_pure rfl (fun K hK => ?_)
    go_simp
    refine hK _ ?_
    clear hK K
    refine sched_nil ?_
    obtain ⟨f2, hF2, hM2⟩ := r2
    go_wp2_with fail
    refine wp_region_sched (fun w' => ∃ p : LD d lb n, w' = p.u) [(0, true), (1, true), (2, true), (3, true), (4, true), (5, true), (6, true), (7, true), (8, false), (9, false), (10, true)] rfl (by kernel_rfl) (by kernel_rfl) (by kernel_rfl) (LyD.of hF2.drew) ?_
    iterate 8 (refine sched_pure rfl (fun K hK => ?_); go_simp; refine hK _ ?_; clear hK K)
    refine sched_loud rfl (fun K hK => ?_)
    go_simp
    refine (CN.out _ hF2.drew.bel).mono ?_
    rintro e u3 ⟨rfl, hu3⟩
    have hu3f := hF2.drew.more hu3
    have hu3b : Below u2.heap.size u2 u3 := (Below.refl _ _).drew.trans hu3
    refine hK _ _ (LyD.of hu3f) ?_
    clear hK K
    refine sched_loud rfl (fun K hK => ?_)
    go_simp
    refine (CS.out _ f2 hu3f).mono ?_
    rintro e u4 ⟨rfl, r4⟩
    refine hK _ _ (LyD.ofR r4) ?_
    clear hK K
    refine sched_pure rfl (fun K hK => ?_)
    go_simp
    refine hK _ ?_
    clear hK K
    refine sched_nil ?_
    obtain ⟨f4, hF4, hM4⟩ := r4
    go_wp2_with fail
    go_ret
    exact ⟨rfl, f4, hF4, (((moved_below hu1b).trans hM2).trans (moved_below hu3b)).trans hM4⟩
  · have h1b : (e1 != 0) = true := by simpa using h1
    rw [chainW_mk h1]
    generalize tB (nmW n) = s at *
    clear CC0 CS0 hN1 hN hn h he hsz hk hl hl2 hb hne p0
    go_enter Tryz.func27, Tryz.ntmps27
    go_wp2_with fail
    refine wp_region_sched (fun w' => ∃ p : LD d lb n, w' = p.u) [(0, true), (1, true), (2, true), (3, true), (4, true), (5, true), (6, true), (7, true), (9, true), (8, false), (10, false), (11, true)] rfl (by kernel_rfl) (by kernel_rfl) (by kernel_rfl) (LyD.of HL.out.drew) ?_
    iterate 9 (refine sched_pure rfl (fun K hK => ?_); go_simp; refine hK _ ?_; clear hK K)
    refine sched_loud rfl (fun K hK => ?_)
    go_simp
    refine (CN.out _ HL.out.drew.bel).mono ?_
    rintro e u1 ⟨rfl, hu1⟩
    have hu1f := HL.out.drew.more hu1
    have hu1b : Below w.heap.size w u1 := (Below.refl _ _).drew.trans hu1
    refine hK _ _ (LyD.of hu1f) ?_
    clear hK K
    refine sched_loud rfl (fun K hK => ?_)
    go_simp
    refine (CC.out _ hu1b).mono ?_
    rintro e u2 ⟨rfl, r2⟩
    refine hK _ _ (LyD.ofR r2) ?_
    clear hK K
    refine sched_pure rfl (fun K hK => ?_)
    go_simp
    refine hK _ ?_
    clear hK K
    refine sched_nil ?_
    obtain ⟨f2, hF2, hM2⟩ := r2
    go_wp2_with fail
    go_ret
    exact ⟨rfl, f2, hF2, (moved_below hu1b).trans hM2⟩
end Go.Proofs.YtglaocghcgcghaaGreatDoor
namespace Go.Proofs.YtglaocghcgcghaaGreatDoor
open Go.RowKit

def xs10 (c : Cx) : List Value := c.a.toList
theorem xs10_len (c : Cx) : (xs10 c).length = 10 := rfl
theorem xs10_one (c : Cx) : ∀ u ∈ xs10 c, u.oneCell' = true := by
  intro u hu
  simp only [xs10, Cx.a, List.mem_cons, List.not_mem_nil, or_false] at hu
  rcases hu with rfl | rfl | rfl | rfl | rfl | rfl | rfl | rfl | rfl | rfl <;> rfl
theorem infoCx : (Tryz.prog.info? 50).map (fun i => (i.zero, i.size, i.bytes)) = some (some (.agg (Cx.a ⟨⟨⟨#[]⟩, ⟨#[]⟩, 0, ⟨#[]⟩⟩, zeroV⟩)), 10, 112) := by kernel_rfl
theorem infoX {t : TypeId} {z : Value} {k b : Nat} (h : (Tryz.prog.info? t).map (fun i => (i.zero, i.size, i.bytes)) = some (some z, k, b)) : ∃ i, Tryz.prog.info? t = some i ∧ i.zero = some z ∧ i.size = k ∧ i.bytes = b := by
  cases hi : Tryz.prog.info? t with
  | none => rw [hi] at h; cases h
  | some i =>
    rw [hi] at h
    simp only [Option.map_some, Option.some.injEq, Prod.mk.injEq] at h
    exact ⟨i, rfl, h.1, h.2.1, h.2.2⟩
theorem flat_inv (l : List Cx) (j : Nat) (u : Value) (h : (l.flatMap xs10)[j]? = some u) : ∃ a, l[j / 10]? = some a ∧ (xs10 a)[j % 10]? = some u := by
  have hj := (List.getElem?_eq_some_iff.1 h).1
  rw [flat_lenR xs10_len] at hj
  have hi : j / 10 < l.length := by omega
  have hr : j % 10 < (xs10 l[j / 10]).length := by rw [xs10_len]; omega
  have h1 : l[j / 10]? = some l[j / 10] := List.getElem?_eq_getElem hi
  have h2 : (xs10 l[j / 10])[j % 10]? = some (xs10 l[j / 10])[j % 10] := List.getElem?_eq_getElem hr
  have h3 := flat_at xs10_len l (j / 10) (j % 10) _ _ h1 h2
  have h4 : j / 10 * 10 + j % 10 = j := by omega
  rw [h4, h] at h3
  exact ⟨_, h1, by rw [h2]; exact h3.symm⟩
theorem TenX.at {w : World} {b o : Nat} {c : Cx} (t : TenX w b o c) (j : Nat) (v : Value) (hv : (xs10 c)[j]? = some v) : w.cell? ⟨b, o + j, none⟩ = some v := by
  match j, hv with
  | 0, hv => obtain rfl := Option.some.inj hv; exact t.c0
  | 1, hv => obtain rfl := Option.some.inj hv; exact t.c1
  | 2, hv => obtain rfl := Option.some.inj hv; exact t.c2
  | 3, hv => obtain rfl := Option.some.inj hv; exact t.c3
  | 4, hv => obtain rfl := Option.some.inj hv; exact t.c4
  | 5, hv => obtain rfl := Option.some.inj hv; exact t.c5
  | 6, hv => obtain rfl := Option.some.inj hv; exact t.c6
  | 7, hv => obtain rfl := Option.some.inj hv; exact t.c7
  | 8, hv => obtain rfl := Option.some.inj hv; exact t.c8
  | 9, hv => obtain rfl := Option.some.inj hv; exact t.c9
  | j + 10, hv => exact absurd hv (by simp [xs10, Cx.a])
theorem src_cells {w : World} {ao : Option Addr} {l : List Cx} (h : XSees w ao l) (hn : ao = none → l.length = 0) (cap : Nat) : Src Tryz.prog 10 26 (.slice ao l.length cap) l.length (l.flatMap xs10) w := by
  cases ao with
  | none =>
    obtain rfl : l = [] := List.eq_nil_of_length_eq_zero (hn rfl)
    exact Src.ofNil w Tryz.underlying26 cap
  | some a =>
    refine Src.ofSlice w Tryz.underlying26 a _ cap _ (flat_lenR xs10_len l) (fun j u hu => ?_) (flat_one xs10_one l)
    obtain ⟨c, h1, h2⟩ := flat_inv l j u hu
    obtain ⟨b, off, e, t⟩ := h _ _ h1
    obtain rfl := Option.some.inj e
    have := t.at _ _ h2
    rw [Addr.add_lit]
    have e2 : off + j / 10 * 10 + j % 10 = off + j := by omega
    rwa [e2] at this
/-- Cells of a row of the call's own can be read. -/
theorem owns_xsees {w : World} {base : Nat} {v : Value} {l : List Cx} (h : w.ownsRow base 50 10 v l.length (l.flatMap xs10)) : ∃ ao cap, v = .slice ao l.length cap ∧ XSees w ao l ∧ ∀ i c, l[i]? = some c → ∃ g, ao = some ⟨g, 0, none⟩ ∧ base ≤ g ∧ TenX w g (i * 10) c := by
  obtain ⟨ao, cap, rfl, _, hr⟩ := owns_recs xs10_len h
  have hT : ∀ i c, l[i]? = some c → ∃ g, ao = some ⟨g, 0, none⟩ ∧ base ≤ g ∧ TenX w g (i * 10) c := fun i c hc => by
    obtain ⟨g, rfl, hg, hv⟩ := hr i c hc
    exact ⟨g, rfl, (h.lt g hg).1, ⟨hv 0 _ rfl, hv 1 _ rfl, hv 2 _ rfl, hv 3 _ rfl, hv 4 _ rfl, hv 5 _ rfl, hv 6 _ rfl, hv 7 _ rfl, hv 8 _ rfl, hv 9 _ rfl⟩⟩
  refine ⟨ao, cap, rfl, fun i c hc => ?_, hT⟩
  obtain ⟨g, rfl, _, t⟩ := hT i c hc
  exact ⟨g, 0, rfl, by rwa [Nat.zero_add]⟩
/-- An empty row. -/
theorem owns_noneX (w : World) (base : Nat) (hb : base ≤ w.heap.size) : (w.alloc (.cells #[] 50)).ownsRow base 50 10 (.slice (some ⟨w.heap.size, 0, none⟩) 0 0) 0 [] :=
  ⟨rfl, .inr ⟨w.heap.size, 0, #[], rfl, hb, heap_alloc_new w _, Nat.le_refl _, Nat.zero_le _, rfl, rfl⟩⟩
end Go.Proofs.YtglaocghcgcghaaGreatDoor
