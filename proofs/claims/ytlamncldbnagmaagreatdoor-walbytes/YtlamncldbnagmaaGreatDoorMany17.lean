/-
  SEVERAL TEXTS IN ONE: VerLives, CxWeigh, CxDigest, WalRec, KeyAdd.
-/
import Derived.Test.YtlamncldbnagmaaGreatDoorMany16
import Derived.Test.YtlamncldbnagmaaGreatDoorCellMany
import Derived.Test.YtlamncldbnagmaaGreatDoorMany15
import Derived.Test.YtlamncldbnagmaaGreatDoorMany12
namespace Go.Proofs.YtlamncldbnagmaaGreatDoor
open Go.RowKit

/-- A cell. -/
structure Cx where
  k : Kb
  v : Vr
def Cx.a (c : Cx) : Array Value := #[.string c.k.t, .string c.k.p, .int .i64 c.k.r, .string c.k.c, .int .i64 c.v.time, .bool c.v.dead, .int .i64 c.v.loc, .int .i64 c.v.kind, .int .i64 c.v.num, .string c.v.s]
def Cx.val (c : Cx) : Value := .agg c.a
def goodC (c : Cx) : Bool := goodK c.k.ky && goodV (decide (c.k.c.size = 0)) c.v
theorem goodV_dead {m : Bool} {a : Vr} (h : a.dead = true) : goodV m a = (a.kind == 0 && (a.num == 0 && decide (a.s.size = 0))) := by unfold goodV zeroVal; rw [if_pos h]
theorem goodV_live {m : Bool} {a : Vr} (h : a.dead = false) : goodV m a = (a.loc == 0 && goodU m a.kind a.num a.s) := by unfold goodV zeroVal goodU; rw [if_neg (by rw [h]; simp)]
theorem size_none (s : ByteArray) (h : s.size = 0) : s = ⟨#[]⟩ := size0 h

theorem goodX_world (w : World) (c : Cx) : ∃ wa, wa = (w.alloc (.cells c.a 67)).alloc (.cells c.v.a 65) ∧ VAt wa (w.heap.size + 1) 0 c.v ∧ wa.cell? ⟨w.heap.size, 3, none⟩ = some (.string c.k.c) ∧ w.heap.size < wa.heap.size ∧ Below w.heap.size w wa := by
  refine ⟨_, rfl, ?_, ?_, by rw [World.size_alloc, World.size_alloc]; omega, ((Below.refl _ _).alloc (Nat.le_refl _) _).alloc (by simp) _⟩
  · have := VAt.new (w.alloc (.cells c.a 67)) c.v 65
    rwa [World.size_alloc] at this
  · exact (box_cells w _ _ _ 3 _ rfl).1
set_option maxRecDepth 100000 in
set_option maxHeartbeats 1000000 in
theorem goodX_any (c : Cx) (w : World) (h1 : c.k.t.size ≤ maxLen) (h2 : c.k.p.size ≤ maxLen) (h3 : c.k.c.size ≤ maxLen) (h4 : c.v.s.size ≤ maxLen) :
    Calls Tryz.prog 29 #[c.val] w fun x w' => x = .returned (.bool (goodC c)) ∧ Below w.heap.size w w' := by
  have G : Hid (∀ w : World, Calls Tryz.prog 58 #[c.k.v] w fun e w' => e = .returned (.bool (goodK c.k.ky)) ∧ Below w.heap.size w w') := fun w => good_any c.k w h1 h2 h3
  have U : Hid (∀ (m : Bool) (w : World), Calls Tryz.prog 59 #[.agg #[.int .i64 c.v.kind, .int .i64 c.v.num, .string c.v.s], .bool m] w fun x w' => x = .returned (.bool (goodU m c.v.kind c.v.num c.v.s)) ∧ Below w.heap.size w w') := fun m w => goodU_any m _ _ _ w h4
  obtain ⟨wa, hwa, va, kc', hlt, hB⟩ := goodX_world w c
  have lv := va.lt
  have HF : Hid (∀ w1, Below wa.heap.size wa w1 → VAt w1 (w.heap.size + 1) 0 c.v ∧ w1.cell? ⟨w.heap.size, 3, none⟩ = some (.string c.k.c) ∧ Below w.heap.size w w1) := fun w1 h => ⟨va.below h lv, by rw [h.cell hlt]; exact kc', hB.trans (h.mono hB.size)⟩
  have e1 := ba_isEmpty c.k.c
  have e2 := ba_isEmpty c.v.s
  have hg : Hid (goodC c = (goodK c.k.ky && goodV (decide (c.k.c.size = 0)) c.v)) := rfl
  have hd : Hid (c.v.dead = true → goodV (decide (c.k.c.size = 0)) c.v = (c.v.kind == 0 && (c.v.num == 0 && decide (c.v.s.size = 0)))) := goodV_dead
  have hl : Hid (c.v.dead = false → goodV (decide (c.k.c.size = 0)) c.v = (c.v.loc == 0 && goodU (decide (c.k.c.size = 0)) c.v.kind c.v.num c.v.s)) := goodV_live
  generalize goodC c = R at *
  generalize goodV (decide (c.k.c.size = 0)) c.v = V at *
  generalize goodK c.k.ky = K at *
  clear va kc' hlt lv hB h1 h2 h3 h4
  obtain ⟨⟨kt, kp, kr, kcol⟩, ⟨t1, d1, l1, k1, n1, s1⟩⟩ := c
  simp only [Cx.val, Cx.a, Vr.a, Kb.v] at *
  go_enter Tryz.func29, Tryz.ntmps29
  go_wp2_with fail
  rw [← hwa]
  clear hwa
  refine (G.out _).mono ?_
  rintro x w1 ⟨rfl, hb1⟩
  obtain ⟨⟨x1, x2, x3, x4, x5, x6⟩, y, hB⟩ := HF.out w1 hb1
  have HB : Hid (Below w.heap.size w w1) := hB
  simp only [Nat.zero_add] at x1 x2 x3 x4 x5 x6
  clear hB hb1 HF
  cases K
  · have hR : Hid (R = false) := hg.out
    clear hg
    go_wp2_with fail
    go_ret
    exact ⟨ret_bool hR.out.symm, HB.out⟩
  · cases d1
    · have hR : Hid (R = (l1 == 0 && goodU (decide (kcol.size = 0)) k1 n1 s1)) := hg.out.trans (hl.out rfl)
      clear hg hd hl
      by_cases hz : l1 = 0
      · subst hz
        obtain ⟨U1, hU1⟩ : ∃ U1, U1 = goodU (decide (kcol.size = 0)) k1 n1 s1 := ⟨_, rfl⟩
        have U' : Hid (Calls Tryz.prog 59 #[.agg #[.int .i64 k1, .int .i64 n1, .string s1], .bool kcol.toList.isEmpty] w1 fun x w' => x = .returned (.bool U1) ∧ Below w1.heap.size w1 w') := by rw [hU1, e1]; exact U.out _ w1
        have hR' : Hid (R = U1) := by rw [hU1]; exact hR.out
        clear U hR hU1 e1
        go_wp2_with fail
        refine U'.out.mono ?_
        rintro x w2 ⟨rfl, hb2⟩
        go_wp2_with fail
        go_ret
        exact ⟨ret_bool hR'.out.symm, HB.out.trans (hb2.mono HB.out.size)⟩
      · have hR' : Hid (R = false) := hR.out.trans (by rw [beq_false_of_ne hz]; rfl)
        clear hR
        go_wp2_with fail
        go_ret
        exact ⟨ret_bool hR'.out.symm, HB.out⟩
    · have hR : Hid (R = (k1 == 0 && (n1 == 0 && decide (s1.size = 0)))) := hg.out.trans (hd.out rfl)
      clear hg hd hl U
      by_cases h1 : k1 = 0 <;> by_cases h2 : n1 = 0 <;> by_cases h3 : s1.size = 0 <;> (simp only [h3, decide_true, decide_false] at e2; go_wp2_with fail; go_ret; exact ⟨ret_bool (by rw [hR.out]; simp [h1, h2, h3]), HB.out⟩)

theorem chain_next (t1 t2 l1 l2 k1 k2 n1 n2 : Int) (d1 d2 : Bool) (s1 s2 : ByteArray) (w : World) : (if t1 = t2 then if d1 = d2 then if l1 = l2 then if k1 = k2 then if n1 = n2 then if s1.toList = s2.toList then Result.ok (Next.value (Value.bool true)) w else Result.ok (Next.value (Value.bool false)) w else Result.ok (Next.value (Value.bool false)) w else Result.ok (Next.value (Value.bool false)) w else Result.ok (Next.value (Value.bool false)) w else Result.ok (Next.value (Value.bool false)) w else Result.ok (Next.value (Value.bool false)) w) = Result.ok (Next.value (Value.bool (eqV ⟨t1, d1, l1, k1, n1, s1⟩ ⟨t2, d2, l2, k2, n2, s2⟩))) w := by
  unfold eqV
  by_cases e1 : t1 = t2 <;> by_cases e2 : d1 = d2 <;> by_cases e3 : l1 = l2 <;> by_cases e4 : k1 = k2 <;> by_cases e5 : n1 = n2 <;> by_cases e6 : s1.toList = s2.toList <;> simp [e1, e2, e3, e4, e5, e6]
def vA : Vr := ⟨5, false, 0, 2, 0, ⟨#[97]⟩⟩
def vB : Vr := ⟨5, false, 0, 2, 0, ⟨#[98]⟩⟩
def vD : Vr := ⟨5, true, 3, 0, 0, ⟨#[]⟩⟩
def vL : Vr := ⟨6, false, 0, 2, 0, ⟨#[97]⟩⟩
theorem jAD : jn vA vD = vD := by unfold jn; rw [if_pos (by decide)]
theorem jDL : jn vD vL = vL := by unfold jn; rw [if_pos (by decide)]
theorem jBA : jn vB vA = vB := by unfold jn; rw [if_neg (by decide)]
def cA : Cx := ⟨⟨⟨#[116]⟩, ⟨#[120]⟩, 1, ⟨#[97]⟩⟩, vA⟩
theorem gA : goodC cA = true := by decide
theorem boxes4 (w : World) (a b c d : Vr) : ∃ wa, wa = (((w.alloc (.cells a.a 65)).alloc (.cells b.a 65)).alloc (.cells c.a 65)).alloc (.cells d.a 65) ∧ VAt wa w.heap.size 0 a ∧ VAt wa (w.heap.size + 1) 0 b ∧ VAt wa (w.heap.size + 1 + 1) 0 c ∧ VAt wa (w.heap.size + 1 + 1 + 1) 0 d ∧ Below w.heap.size w wa := by
  obtain ⟨w3, rfl, v1, v2, v3, _, hB⟩ := boxes3 w a b c
  refine ⟨_, rfl, v1.alloc _, v2.alloc _, v3.alloc _, ?_, hB.alloc hB.size _⟩
  have := VAt.new (((w.alloc (.cells a.a 65)).alloc (.cells b.a 65)).alloc (.cells c.a 65)) d 65
  rwa [World.size_alloc, World.size_alloc, World.size_alloc] at this
theorem VAt.cl {w : World} {g : Nat} {a : Vr} (h : VAt w g 0 a) (q : Cl w.heap.size w) : VAt q.u g 0 a := h.below q.h h.lt
end Go.Proofs.YtlamncldbnagmaaGreatDoor
namespace Go.Proofs.YtlamncldbnagmaaGreatDoor
open Go.RowKit

/-- Ten cells, one by one. -/
structure TenX (w : World) (b o : Nat) (c : Cx) : Prop where
  c0 : w.cell? ⟨b, o, none⟩ = some (.string c.k.t)
  c1 : w.cell? ⟨b, o + 1, none⟩ = some (.string c.k.p)
  c2 : w.cell? ⟨b, o + 2, none⟩ = some (.int .i64 c.k.r)
  c3 : w.cell? ⟨b, o + 3, none⟩ = some (.string c.k.c)
  c4 : w.cell? ⟨b, o + 4, none⟩ = some (.int .i64 c.v.time)
  c5 : w.cell? ⟨b, o + 5, none⟩ = some (.bool c.v.dead)
  c6 : w.cell? ⟨b, o + 6, none⟩ = some (.int .i64 c.v.loc)
  c7 : w.cell? ⟨b, o + 7, none⟩ = some (.int .i64 c.v.kind)
  c8 : w.cell? ⟨b, o + 8, none⟩ = some (.int .i64 c.v.num)
  c9 : w.cell? ⟨b, o + 9, none⟩ = some (.string c.v.s)
theorem TenX.lt {w : World} {b o : Nat} {c : Cx} (h : TenX w b o c) : b < w.heap.size := World.block_lt_of_cell? _ _ h.c0
theorem TenX.below {w w' : World} {b o : Nat} {c : Cx} (h : TenX w b o c) {B : Nat} (hb : Below B w w') (hB : b < B) : TenX w' b o c :=
  ⟨by rw [hb.cell hB, h.c0], by rw [hb.cell hB, h.c1], by rw [hb.cell hB, h.c2], by rw [hb.cell hB, h.c3], by rw [hb.cell hB, h.c4], by rw [hb.cell hB, h.c5], by rw [hb.cell hB, h.c6], by rw [hb.cell hB, h.c7], by rw [hb.cell hB, h.c8], by rw [hb.cell hB, h.c9]⟩
theorem TenX.alloc {w : World} {b o : Nat} {c : Cx} (h : TenX w b o c) (ob : Obj) : TenX (w.alloc ob) b o c := h.below ((Below.refl w.heap.size w).alloc (Nat.le_refl _) ob) h.lt
theorem TenX.of {w : World} {g : Nat} {c : Cx} {ty : TypeId} {z : Nat × Nat} (h : w.heap[g]? = some (.cells c.a ty z)) : TenX w g 0 c := by
  constructor <;> simp [World.cell?, h, Cx.a]
theorem TenX.new (w : World) (c : Cx) (ty : TypeId) : TenX (w.alloc (.cells c.a ty)) w.heap.size 0 c := TenX.of (heap_alloc_new w _)
/-- The cells l can be read from the address on. -/
def XSees (w : World) (ao : Option Addr) (l : List Cx) : Prop := ∀ i c, l[i]? = some c → ∃ b off, ao = some ⟨b, off, none⟩ ∧ TenX w b (off + i * 10) c
theorem XSees.below {w w' : World} {ao : Option Addr} {l : List Cx} (h : XSees w ao l) {B : Nat} (hb : Below B w w') (hB : w.heap.size ≤ B) : XSees w' ao l := by
  intro i c hc
  obtain ⟨b, off, e, hr⟩ := h i c hc
  exact ⟨b, off, e, hr.below hb (Nat.lt_of_lt_of_le hr.lt hB)⟩
/-- The bytes of a cell's texts. -/
def wtX (c : Cx) : Nat := c.k.t.size + c.k.p.size + c.k.c.size + c.v.s.size
def wtXs (l : List Cx) : Nat := (l.map wtX).sum
theorem takeX_succ {α : Type} {l : List α} {i : Nat} {c : α} (h : l[i]? = some c) : l.take (i + 1) = l.take i ++ [c] := by
  rw [List.take_add_one, h]
  rfl
end Go.Proofs.YtlamncldbnagmaaGreatDoor
namespace Go.Proofs.YtlamncldbnagmaaGreatDoor
open Go.RowKit

def toC (c : Cx) : CellV := ⟨⟨c.k.t, c.k.p, c.k.r, c.k.c⟩, ⟨c.v.time, c.v.dead, c.v.loc, ⟨c.v.kind, c.v.num, c.v.s⟩⟩⟩
theorem XSees.c {w : World} {ao : Option Addr} {l : List Cx} (h : XSees w ao l) : CSees w ao (l.map toC) := by
  intro i c hc
  rw [List.getElem?_map] at hc
  cases hl : l[i]? with
  | none => rw [hl] at hc; cases hc
  | some x =>
    rw [hl] at hc
    obtain rfl : toC x = c := by simpa using hc
    obtain ⟨b, off, e, t⟩ := h i x hl
    refine ⟨b, off, e, fun j v hv => ?_⟩
    match j, hv with
    | 0, hv => obtain rfl := Option.some.inj hv; exact t.c0
    | 1, hv => obtain rfl := Option.some.inj hv; exact t.c1
    | 2, hv => obtain rfl := Option.some.inj hv; exact t.c2
    | 3, hv => obtain rfl := Option.some.inj hv; exact t.c3
    | 4, hv => obtain rfl := Option.some.inj hv; exact t.c4
    | 5, hv => obtain rfl := Option.some.inj hv; exact t.c5
    | 6, hv => obtain rfl := Option.some.inj hv; exact t.c6
    | 7, hv => obtain rfl := Option.some.inj hv; exact t.c7
    | 8, hv => obtain rfl := Option.some.inj hv; exact t.c8
    | 9, hv => obtain rfl := Option.some.inj hv; exact t.c9
    | j + 10, hv => exact absurd hv (by simp [cellA])
/-- What numbers a cell has. -/
structure Cx.Nums (c : Cx) : Prop where
  r : InI c.k.r
  n : InI c.v.time ∧ InI c.v.loc ∧ InI c.v.kind ∧ InI c.v.num
theorem Cx.Nums.ok {c : Cx} (h : c.Nums) : (toC c).Ok := ⟨⟨h.r⟩, ⟨h.n.1, h.n.2.1, ⟨h.n.2.2.1, h.n.2.2.2⟩⟩⟩
/-- The bytes of texts that are written. -/
def wtY (c : Cx) : Nat := c.k.t.size + c.k.p.size + c.k.c.size + (if c.v.dead then 0 else c.v.s.size)
def wtYs (l : List Cx) : Nat := (l.map wtY).sum
theorem wtL_toC (l : List Cx) : wtLD (l.map toC) = wtYs l := by
  unfold wtLD wtYs
  rw [List.map_map]; rfl
theorem wtYs_le (l : List Cx) : wtYs l ≤ wtXs l := by
  induction l with
  | nil => simp [wtYs, wtXs]
  | cons c l ih =>
    have h : wtY c ≤ wtX c := by unfold wtY wtX; split <;> omega
    unfold wtYs wtXs at *
    simp only [List.map_cons, List.sum_cons]
    omega
/-- The digest. -/
def dgB (l : List UInt8) : Int := ((sumB l 0#64).1.toNat : Int)
/-- What the digest does not look at. -/
def blur (k n : Int) (s : ByteArray) (loc : Int) (c : Cx) : Cx := if c.v.dead then ⟨c.k, ⟨c.v.time, c.v.dead, c.v.loc, k, n, s⟩⟩ else ⟨c.k, ⟨c.v.time, c.v.dead, loc, c.v.kind, c.v.num, c.v.s⟩⟩
theorem blur_bytes (k n : Int) (s : ByteArray) (loc : Int) (c : Cx) : cellL (toC (blur k n s loc c)) = cellL (toC c) := by
  unfold blur
  split
  · rename_i h
    unfold cellL verL toC keyL
    simp only [h, if_true]
  · rename_i h
    unfold cellL verL toC keyL
    simp only [h]
    rfl
theorem blur_wt (k n : Int) (s : ByteArray) (loc : Int) (c : Cx) : wtY (blur k n s loc c) = wtY c := by
  unfold blur wtY
  cases c.v.dead <;> simp
theorem blur_wts (k n : Int) (s : ByteArray) (loc : Int) (l : List Cx) : wtYs (l.map (blur k n s loc)) = wtYs l := by
  unfold wtYs
  rw [List.map_map]
  congr 1
  exact List.map_congr_left fun c _ => blur_wt k n s loc c
theorem blur_nums {k n loc : Int} (s : ByteArray) {c : Cx} (hk : InI k) (hn : InI n) (hl : InI loc) (h : c.Nums) : (blur k n s loc c).Nums := by
  unfold blur
  split
  · exact ⟨h.r, h.n.1, h.n.2.1, hk, hn⟩
  · exact ⟨h.r, h.n.1, hl, h.n.2.2.1, h.n.2.2.2⟩
theorem blur_cells (k n : Int) (s : ByteArray) (loc : Int) (l : List Cx) : cellsL ((l.map (blur k n s loc)).map toC) = cellsL (l.map toC) := by
  unfold cellsL
  rw [List.length_map, List.length_map, List.length_map]
  congr 1
  unfold manyL
  induction l with
  | nil => rfl
  | cons c l ih =>
    simp only [List.map_cons, List.flatMap_cons]
    rw [ih, blur_bytes]
end Go.Proofs.YtlamncldbnagmaaGreatDoor
namespace Go.Proofs.YtlamncldbnagmaaGreatDoor
open Go.RowKit

set_option maxRecDepth 100000 in
theorem notGood_any (c : Cx) (w : World) (h1 : c.k.t.size ≤ maxLen) (h2 : c.k.p.size ≤ maxLen) (h3 : c.k.c.size ≤ maxLen) (h4 : c.v.s.size ≤ maxLen) :
    Calls Tryz.prog 61 #[c.val] w fun x w' => x = .returned (.bool (!goodC c)) ∧ Below w.heap.size w w' := by
  have G : Hid (∀ u, Calls Tryz.prog 29 #[c.val] u fun x w' => x = .returned (.bool (goodC c)) ∧ Below u.heap.size u w') := fun u => goodX_any c u h1 h2 h3 h4
  have hb : Hid (Below w.heap.size w (w.alloc (.cells c.a 67))) := (Below.refl _ _).alloc (Nat.le_refl _) _
  generalize goodC c = g at *
  clear h1 h2 h3 h4
  obtain ⟨⟨ct, cp, cr, cc⟩, ⟨cti, cd, cl, ck, cn, cstr⟩⟩ := c
  simp only [Cx.val, Cx.a] at G hb ⊢
  go_enter Tryz.func61, Tryz.ntmps61
  go_wp2_with fail
  go_fit (G.out _)
  rintro e w1 ⟨rfl, hB⟩
  have HF : Hid (Below w.heap.size w w1) := hb.out.trans (hB.mono hb.out.size)
  clear hB hb
  go_wp2_with fail
  go_ret
  exact ⟨rfl, HF.out⟩
set_option maxRecDepth 100000 in
set_option maxHeartbeats 1000000 in
theorem indexRec_any (ao : Option Addr) (l : List Cx) (cap : Nat) (w : World) (p : Cx → Bool) (hs : XSees w ao l) (hl : l.length ≤ 1000000)
    (hf : ∀ (u : World) (c : Cx), c ∈ l → Below w.heap.size w u → Calls Tryz.prog 61 #[c.val] u fun e w' => e = .returned (.bool (p c)) ∧ Below u.heap.size u w') :
    Calls Tryz.prog 102 #[.slice ao l.length cap, .func (.func 61) #[] #[]] w fun e w' => ((e = .returned (.int .i64 (-1)) ∧ ∀ c ∈ l, p c = false) ∨ ∃ i : Nat, e = .returned (.int .i64 (i : Int)) ∧ i < l.length ∧ (∀ c ∈ l.take i, p c = false) ∧ ∃ c, l[i]? = some c ∧ p c = true) ∧ Below w.heap.size w w' := by
  have hlz : (l.length : Int) ≤ 1000000 := by omega
  have Hf : Hid (∀ (u : World) (c : Cx), c ∈ l → Below w.heap.size w u → Calls Tryz.prog 61 #[c.val] u fun e w' => e = .returned (.bool (p c)) ∧ Below u.heap.size u w') := hf
  clear hf
  go_enter Tryz.func102, Tryz.ntmps102
  go_wp2_with fail
  go_loopw [8] (fun s8 wr => ∃ i : Nat, i ≤ l.length ∧ s8 = .int .i64 i ∧ (∀ c ∈ l.take i, p c = false) ∧ Below w.heap.size w wr) (fun s8 _ => l.length - (intOf s8).toNat)
  case atStart => exact ⟨0, by omega, rfl, by simp, Below.refl _ _⟩
  case round =>
    obtain ⟨i, hi, rfl, hr, hbr⟩ := hrel
    have HR : Hid (∀ c ∈ l.take i, p c = false) := hr
    clear hr
    rcases Nat.lt_or_ge i l.length with hlt | hge
    · have hc : l[i]? = some l[i] := List.getElem?_eq_getElem hlt
      have HC : Hid (l[i]? = some l[i]) := hc
      have HT : Hid (l.take (i + 1) = l.take i ++ [l[i]]) := takeX_succ hc
      obtain ⟨b, off, rfl, x1⟩ := (hs.below hbr (Nat.le_refl _)) i _ hc
      have G : Hid (Calls Tryz.prog 61 #[l[i].val] wr fun x w' => x = .returned (.bool (p l[i])) ∧ Below wr.heap.size wr w') := Hf.out wr _ (List.getElem_mem hlt) hbr
      have hltz : (i : Int) < (l.length : Int) := by omega
      generalize l[i] = c at *
      clear hc
      cases hg : p c
      · rw [hg] at G
        have HG : Hid (p c = false) := hg
        clear hg
        obtain ⟨⟨ct, cp, cr, cc⟩, ⟨cti, cd, cl, ck, cn, cstr⟩⟩ := c
        obtain ⟨k0, k1, k2, k3, k4, k5, k6, k7, k8, k9⟩ := x1
        simp only [Cx.val, Cx.a] at k0 k1 k2 k3 k4 k5 k6 k7 k8 k9 G
        go_wp2_with fail
        refine G.out.mono ?_
        rintro e w1 ⟨rfl, hb1⟩
        go_wp2_with fail
        go_roundw
        case rel =>
          refine ⟨i + 1, by omega, by simp, ?_, hbr.trans (hb1.mono hbr.size)⟩
          intro c hc
          rw [HT.out, List.mem_append, List.mem_singleton] at hc
          rcases hc with h | rfl
          · exact HR.out c h
          · exact HG.out
        case measure => simp [intOf]; omega
      · rw [hg] at G
        have HG : Hid (p c = true) := hg
        clear hg
        obtain ⟨⟨ct, cp, cr, cc⟩, ⟨cti, cd, cl, ck, cn, cstr⟩⟩ := c
        obtain ⟨k0, k1, k2, k3, k4, k5, k6, k7, k8, k9⟩ := x1
        simp only [Cx.val, Cx.a] at k0 k1 k2 k3 k4 k5 k6 k7 k8 k9 G
        go_wp2_with fail
        refine G.out.mono ?_
        rintro e w1 ⟨rfl, hb1⟩
        go_wp2_with fail
        go_ret
        exact ⟨.inr ⟨i, rfl, hlt, HR.out, _, HC.out, HG.out⟩, hbr.trans (hb1.mono hbr.size)⟩
    · obtain rfl : i = l.length := by omega
      go_wp2_with fail
      go_ret
      exact ⟨.inl ⟨rfl, fun c hc => HR.out c (by rw [List.take_length]; exact hc)⟩, hbr⟩
/-- May cells be a record? -/
def recB (l : List Cx) : Bool := decide (0 < l.length ∧ l.length ≤ 400) && l.all goodC
/-- Cells as texts that are not too long. -/
def CxMax (c : Cx) : Prop := c.k.t.size ≤ maxLen ∧ c.k.p.size ≤ maxLen ∧ c.k.c.size ≤ maxLen ∧ c.v.s.size ≤ maxLen
set_option maxRecDepth 100000 in
theorem containsRec_any (ao : Option Addr) (l : List Cx) (cap : Nat) (w : World) (hs : XSees w ao l) (hl : l.length ≤ 1000000) (hc : ∀ c ∈ l, CxMax c) :
    Calls Tryz.prog 60 #[.slice ao l.length cap, .func (.func 61) #[] #[]] w fun e w' => e = .returned (.bool (!l.all goodC)) ∧ Below w.heap.size w w' := by
  have CI : Hid (Calls Tryz.prog 102 #[.slice ao l.length cap, .func (.func 61) #[] #[]] w fun e w' => ∃ k : Int, e = .returned (.int .i64 k) ∧ (decide (0 ≤ k)) = (!l.all goodC) ∧ Below w.heap.size w w') := by
    refine (indexRec_any ao l cap w (fun c => !goodC c) hs hl fun u c hcm _ => notGood_any c u (hc c hcm).1 (hc c hcm).2.1 (hc c hcm).2.2.1 (hc c hcm).2.2.2).mono ?_
    rintro e w' ⟨h, hb⟩
    rcases h with ⟨rfl, h⟩ | ⟨i, rfl, hi, _, c, h1, h2⟩
    · refine ⟨_, rfl, ?_, hb⟩
      have : l.all goodC = true := List.all_eq_true.2 fun c hc => by simpa using h c hc
      rw [this]; rfl
    · refine ⟨_, rfl, ?_, hb⟩
      have : l.all goodC = false := by
        rw [List.all_eq_false]
        exact ⟨c, List.mem_of_getElem? h1, by simpa using h2⟩
      rw [this]; simp
  generalize (!l.all goodC) = r at *
  clear hs hl hc
  go_enter Tryz.func60, Tryz.ntmps60
  go_wp2_with fail
  go_fit CI.out
  rintro e w1 ⟨k, rfl, hk, hB⟩
  go_wp2_with fail
  go_ret
  exact ⟨by rw [← hk]; rfl, hB⟩
set_option maxRecDepth 100000 in
theorem recordable_any (ao : Option Addr) (l : List Cx) (cap : Nat) (w : World) (hs : XSees w ao l) (hl : l.length ≤ 140737488355328) (hc : ∀ c ∈ l, CxMax c) :
    Calls Tryz.prog 30 #[.slice ao l.length cap] w fun e w' => e = .returned (.bool (recB l)) ∧ Below w.heap.size w w' := by
  have hlz : (l.length : Int) ≤ 140737488355328 := by omega
  by_cases h0 : 0 < l.length ∧ l.length ≤ 400
  · have CC : Hid (Calls Tryz.prog 60 #[.slice ao l.length cap, .func (.func 61) #[] #[]] w fun e w' => e = .returned (.bool (!l.all goodC)) ∧ Below w.heap.size w w') := containsRec_any ao l cap w hs (by omega) hc
    have HR : Hid (recB l = !(!l.all goodC)) := by show _ = _; unfold recB; rw [decide_eq_true h0]; simp
    have h1 : ¬ (l.length : Int) = 0 := by omega
    have h2 : ¬ (400 : Int) < (l.length : Int) := by omega
    generalize l.length = n at *
    generalize (!l.all goodC) = r at *
    clear hs hc hl h0
    go_enter Tryz.func30, Tryz.ntmps30
    go_wp2_with fail
    go_fit CC.out
    rintro e w1 ⟨rfl, hB⟩
    go_wp2_with fail
    go_ret
    exact ⟨ret_bool (by rw [HR.out]), hB⟩
  · have HR : Hid (recB l = false) := by show _ = _; unfold recB; rw [decide_eq_false h0]; rfl
    rw [HR.out]
    generalize l.length = n at *
    clear hs hc hl
    rcases Nat.eq_zero_or_pos n with hn | hn
    · have h1 : (n : Int) = 0 := by omega
      clear h0
      subst hn
      go_enter Tryz.func30, Tryz.ntmps30
      go_wp2_with fail
      go_ret
      exact ⟨rfl, Below.refl _ _⟩
    · have h1 : ¬ (n : Int) = 0 := by omega
      have h2 : (400 : Int) < (n : Int) := by omega
      clear h0
      go_enter Tryz.func30, Tryz.ntmps30
      go_wp2_with fail
      go_ret
      exact ⟨rfl, Below.refl _ _⟩
/-- A record's bytes. -/
def recL (l : List Cx) : List UInt8 := frameL (cellsL (l.map toC))
set_option maxRecDepth 100000 in
theorem framed_any (ao : Option Addr) (b : List UInt8) (cap : Nat) (w : World) (hb : b.length ≤ 262144) (hs : Sees w ao b) (hn : ao = none → b.length = 0) (ht : Tab w) :
    Calls Tryz.prog 31 #[.slice ao b.length cap] w fun e w' => e = .returned (.tuple #[.slice (some ⟨w.heap.size, 0, none⟩) (b.length + 8) (b.length + 8), .int .i64 0]) ∧ Row w' w.heap.size (frameL b) ∧ Below w.heap.size w w' := by
  have CF : Hid (Calls Tryz.prog 62 #[.slice ao b.length cap] w fun e w' => e = .returned (.slice (some ⟨w.heap.size, 0, none⟩) (b.length + 8) (b.length + 8)) ∧ Row w' w.heap.size (frameL b) ∧ Below w.heap.size w w') := frame_any ao b cap w hb hs hn ht
  generalize frameL b = F at *
  have hz : ¬ ((b.length + 8 : Nat) : Int) = 0 := by omega
  have hz2 : ((b.length + 8 : Nat) : Int) ≤ 1000000 := by omega
  clear hs hn ht hb
  generalize b.length + 8 = m at *
  generalize b.length = n at *
  have hz3 : ¬ m = 0 := by omega
  go_enter Tryz.func31, Tryz.ntmps31
  go_wp2_with fail
  go_fit CF.out
  rintro e w1 ⟨rfl, hR, hB⟩
  go_wp2_with fail
  go_ret2
  exact ⟨rfl, hR, hB⟩
set_option maxRecDepth 100000 in
theorem record_ok (ao : Option Addr) (l : List Cx) (cap : Nat) (w : World) (hs : XSees w ao l) (hl : l.length ≤ 400) (hc : ∀ c ∈ l, CxMax c) (hok : ∀ c ∈ l.map toC, c.Ok) (hw : wtLD (l.map toC) + 81 * (l.map toC).length ≤ 140737488330000) (hb : (cellsL (l.map toC)).length ≤ 262144) (hr : recB l = true) (ht : Tab w) :
    Calls Tryz.prog 8 #[.slice ao l.length cap] w fun e w' => ∃ g, e = .returned (.tuple #[.slice (some ⟨g, 0, none⟩) (recL l).length (recL l).length, .int .i64 0]) ∧ w.heap.size ≤ g ∧ Row w' g (recL l) ∧ Below w.heap.size w w' := by
  have CR : Hid (Calls Tryz.prog 30 #[.slice ao l.length cap] w fun e w' => e = .returned (.bool true) ∧ Below w.heap.size w w') := by
    have := recordable_any ao l cap w hs (by omega) hc
    rw [hr] at this; exact this
  have hlm : (l.map toC).length = l.length := List.length_map _
  have CC : Hid (∀ u, Below w.heap.size w u → Calls Tryz.prog 32 #[.slice ao l.length cap] u fun e w' => ∃ bo c, e = .returned (.slice bo (cellsL (l.map toC)).length c) ∧ Sees w' bo (cellsL (l.map toC)) ∧ (bo = none → (cellsL (l.map toC)).length = 0) ∧ Below u.heap.size u w') := fun u hu => by
    have := cells_anyD ao (l.map toC) cap u (hs.below hu (Nat.le_refl _)).c hok hw
    rw [hlm] at this
    refine this.mono fun e w' ⟨v, he, ho, hB⟩ => ?_
    obtain ⟨bo, c, rfl, h1, h2, h3⟩ := owns_sees ho
    exact ⟨bo, c, he, h1, fun e => (h3 e).1, hB⟩
  have HFL : Hid ((recL l).length = (cellsL (l.map toC)).length + 8) := frameL_length _
  have HTB : Hid (∀ u, Below w.heap.size w u → Tab u) := fun u hu => ht.below hu (Nat.le_refl _)
  have HRL : Hid (recL l = frameL (cellsL (l.map toC))) := rfl
  rw [HFL.out]
  generalize recL l = R at *
  generalize cellsL (l.map toC) = B at *
  clear hs hc hok hw hr ht hlm
  go_enter Tryz.func8, Tryz.ntmps8
  go_wp2_with fail
  go_fit CR.out
  rintro e w1 ⟨rfl, hB1⟩
  have C1 : Hid (Calls Tryz.prog 32 #[.slice ao l.length cap] w1 fun e w' => ∃ bo c, e = .returned (.slice bo B.length c) ∧ Sees w' bo B ∧ (bo = none → B.length = 0) ∧ Below w1.heap.size w1 w') := CC.out w1 hB1
  go_wp2_with fail
  go_fit C1.out
  rintro e w2 ⟨bo, c, rfl, hS2, hn2, hB2⟩
  have hB2' : Below w.heap.size w w2 := hB1.trans (hB2.mono hB1.size)
  have C2 : Hid (Calls Tryz.prog 31 #[.slice bo B.length c] w2 fun e w' => e = .returned (.tuple #[.slice (some ⟨w2.heap.size, 0, none⟩) (B.length + 8) (B.length + 8), .int .i64 0]) ∧ Row w' w2.heap.size (frameL B) ∧ Below w2.heap.size w2 w') := framed_any bo B c w2 hb hS2 hn2 (HTB.out w2 hB2')
  clear C1 CC CR hS2 hn2
  go_wp2_with fail
  go_fit C2.out
  rintro e w3 ⟨rfl, hR3, hB3⟩
  have HF : Hid (Row w3 w2.heap.size R ∧ w.heap.size ≤ w2.heap.size ∧ Below w.heap.size w w3) := ⟨by rw [HRL.out]; exact hR3, hB2'.size, hB2'.trans (hB3.mono hB2'.size)⟩
  clear hR3 hB3 hB2' hB2 hB1 C2
  go_wp2_with fail
  go_ret2
  exact ⟨_, rfl, HF.out.2.1, HF.out.1, HF.out.2.2⟩
end Go.Proofs.YtlamncldbnagmaaGreatDoor
namespace Go.Proofs.YtlamncldbnagmaaGreatDoor
open Go.RowKit

theorem info8K : (Tryz.prog.info? 5).map (fun i => (i.zero, i.size, i.bytes)) = some (some (.int .u8 0), 1, 1) := by kernel_rfl
/-- One byte, laid in a block of its own, as a source. -/
theorem src_oneK (w : World) (z : Int) (b : UInt8) (h : (b.toNat : Int) = z) :
    Src Tryz.prog 1 23 (.slice (some ⟨w.heap.size, 0, none⟩) 1 1) 1 (B8 [b]) (w.alloc (.cells #[.int .u8 z] 5)) := by
  refine Src.ofSlice _ Tryz.underlying23 _ 1 1 _ (by simp [B8_length]) ?_ (B8_one _)
  intro j u hu
  match j, hu with
  | 0, hu => simp [B8] at hu; subst hu; simp [Addr.add, h]
  | j + 1, hu => simp [B8] at hu
theorem sees_litK (w : World) (l : List UInt8) (pr : Nat × Nat) : Sees (w.alloc (.cells (B8 l).toArray 5 pr)) (some ⟨w.heap.size, 0, none⟩) l := by
  intro i hi
  refine ⟨_, rfl, ?_⟩
  have h : (w.alloc (.cells (B8 l).toArray 5 pr)).heap[w.heap.size]? = some (.cells (B8 l).toArray 5 pr) := heap_alloc_new w _
  have e := B8_at l i hi
  rw [Addr.add_lit, Nat.zero_add]
  simp only [World.cell?, h]
  simpa using e
theorem esc_len : ∀ l : List UInt8, (esc l).length ≤ 2 * l.length
  | [] => by simp [esc]
  | b :: l => by have := esc_len l; simp only [esc]; split <;> simp only [List.length_cons] <;> omega
theorem esc_succ (l : List UInt8) (k : Nat) (hk : k < l.length) : esc (l.take (k + 1)) = esc (l.take k) ++ (if l.getD k 0 = 0 then [0, 255] else [l.getD k 0]) := by
  have e : l.getD k 0 = l[k] := by simp [List.getD, hk]
  rw [List.take_succ_eq_append_getElem hk, esc_append, e]
  simp only [esc]
theorem encT_len (l : List UInt8) : (encT l).length = (esc l).length + 2 := by simp [encT]

end Go.Proofs.YtlamncldbnagmaaGreatDoor
