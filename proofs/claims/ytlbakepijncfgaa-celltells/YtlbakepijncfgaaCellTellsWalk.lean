/-
  THE LAW CellTells: the walk.
-/
import Derived.Test.YtlbakepijncfgaaVerRefGood
import Derived.Test.YtlbakepijncfgaaVerLaid
import Derived.Deep.DeepCutAuto
namespace Go.Proofs.Ytlbakepijncfgaa.cellTells
open Go.RowKit

def two (a b : Cx) : Array Value := #[.string a.k.t, .string a.k.p, .int .i64 a.k.r, .string a.k.c, .int .i64 a.v.time, .bool a.v.dead, .int .i64 a.v.loc, .int .i64 a.v.kind, .int .i64 a.v.num, .string a.v.s, .string b.k.t, .string b.k.p, .int .i64 b.k.r, .string b.k.c, .int .i64 b.v.time, .bool b.v.dead, .int .i64 b.v.loc, .int .i64 b.v.kind, .int .i64 b.v.num, .string b.v.s]
theorem two_sees (w : World) (a b : Cx) (ty : TypeId) : XSees (w.alloc (.cells (two a b) ty)) (some ⟨w.heap.size, 0, none⟩) [a, b] := by
  have h := heap_alloc_new w (.cells (two a b) ty)
  intro i c hc
  refine ⟨w.heap.size, 0, rfl, ?_⟩
  match i, hc with
  | 0, hc =>
    obtain rfl : a = c := by simpa using hc
    constructor <;> (simp only [World.cell?, h]; rfl)
  | 1, hc =>
    obtain rfl : b = c := by simpa using hc
    constructor <;> (simp only [World.cell?, h]; rfl)
attribute [local irreducible] wpQuiet
set_option maxRecDepth 100000 in
set_option maxHeartbeats 4000000 in
theorem walk (a b : Cx) (w : World) (ha : a.Fits) (hb : b.Fits) :
    Calls Try.prog 3 #[a.val, b.val] w fun e w' => e = .returned (.bool true) ∧ Below w.heap.size w w' := by
  obtain ⟨g, hg⟩ : ∃ g, goodC a = g := ⟨_, rfl⟩
  obtain ⟨R, hR⟩ : ∃ R, cv a.v b.v = R := ⟨_, rfl⟩
  obtain ⟨j, hj⟩ : ∃ j, jn a.v b.v = j := ⟨_, rfl⟩
  have G1 : Hid (∀ w : World, Calls Try.prog 11 #[a.val] w fun x w' => x = .returned (.bool g) ∧ Below w.heap.size w w') := fun w => hg ▸ goodX_any a w (by unfold maxLen; have := ha.bt; unfold big at this; omega) (by unfold maxLen; have := ha.bp; unfold big at this; omega) (by unfold maxLen; have := ha.bc; unfold big at this; omega) (by unfold maxLen; have := ha.bs; unfold big at this; omega)
  have G2 : Hid (∀ w : World, Calls Try.prog 12 #[a.val] w fun x w' => x = .returned (.bool g) ∧ Below w.heap.size w w') := fun w => hg ▸ refGoodX_any a w (by unfold maxLen; have := ha.bt; unfold big at this; omega) (by unfold maxLen; have := ha.bp; unfold big at this; omega) (by unfold maxLen; have := ha.bc; unfold big at this; omega) (by unfold maxLen; have := ha.bs; unfold big at this; omega)
  have C1 : Hid (∀ w : World, Calls Try.prog 13 #[a.v.v, b.v.v] w fun x w' => x = .returned (.int .i64 R) ∧ Below w.heap.size w w') := fun w => hR ▸ vcmp_any a.v b.v w
  have C2 : Hid (∀ w : World, Calls Try.prog 14 #[a.v.v, b.v.v] w fun x w' => x = .returned (.int .i64 R) ∧ Below w.heap.size w w') := fun w => hR ▸ refVcmp_any a.v b.v w
  have J1 : Hid (∀ w : World, Calls Try.prog 15 #[a.v.v, b.v.v] w fun x w' => x = .returned (j.v) ∧ Below w.heap.size w w') := fun w => hj ▸ join_any a.v b.v w
  have J2 : Hid (∀ w : World, Calls Try.prog 16 #[a.v.v, b.v.v] w fun x w' => x = .returned (j.v) ∧ Below w.heap.size w w') := fun w => hj ▸ refJoin_any a.v b.v w
  have L1 : Hid (∀ w : World, Calls Try.prog 17 #[a.v.v] w fun x w' => x = .returned (.bool (!a.v.dead)) ∧ Below w.heap.size w w') := fun w => live_any a.v w
  have LV : Hid (∀ w : World, Calls Try.prog 10 #[] w fun x w' => x = .returned (.bool true) ∧ Below w.heap.size w w') := fun w => lives_any w
  obtain ⟨wa, hwa⟩ : ∃ wa, wa = (w.alloc (.cells a.a 29)).alloc (.cells b.a 29) := ⟨_, rfl⟩
  have ta : TenX wa w.heap.size 0 a := by rw [hwa]; exact (TenX.new w a _).alloc _
  have tb : TenX wa (w.heap.size + 1) 0 b := by rw [hwa]; have := TenX.new (w.alloc (.cells a.a 29)) b 29; rwa [World.size_alloc] at this
  have hB : Below w.heap.size w wa := by rw [hwa]; exact ((Below.refl _ _).alloc (Nat.le_refl _) _).alloc (by simp) _
  have hsz : wa.heap.size = w.heap.size + 1 + 1 := by rw [hwa, World.size_alloc, World.size_alloc]
  have W1 : Hid (Calls Try.prog 9 #[.slice (some ⟨w.heap.size + 1 + 1, 0, none⟩) 2 2, .int .i64 500] (wa.alloc (.cells (two a b) 29)) fun e w' => (∃ z : Nat, e = .returned (.int .i64 z) ∧ z ≤ 1000000000000000 ∧ (z ≤ 500 → 2 ≤ 500 ∧ wtXs [a, b] ≤ 20 * 500)) ∧ Below (wa.alloc (.cells (two a b) 29)).heap.size (wa.alloc (.cells (two a b) 29)) w') :=
    hsz ▸ weighX_any _ [a, b] 2 500 _ (two_sees wa a b 29) (by omega) (by simp) (fun c hc => by
      have : c.Fits := by rcases List.mem_cons.1 hc with rfl | hc; exact ha; rcases List.mem_cons.1 hc with rfl | hc; exact hb; cases hc
      obtain ⟨-, -, b1, b2, b3, b4⟩ := this
      unfold wtX big at *; omega)
  have HT : Hid (∀ w', Below wa.heap.size wa w' → TenX w' w.heap.size 0 a ∧ TenX w' (w.heap.size + 1) 0 b ∧ Below w.heap.size w w') := fun w' h => ⟨ta.below h ta.lt, tb.below h tb.lt, hB.trans (h.mono hB.size)⟩
  have HA : Hid (Below wa.heap.size wa (wa.alloc (.cells (two a b) 29))) := (Below.refl _ _).alloc (Nat.le_refl _) _
  clear ta tb hB hg hR hj ha hb hsz
  obtain ⟨⟨a1, p1, r1, c1⟩, ⟨t1, d1, l1, k1, n1, s1⟩⟩ := a
  obtain ⟨⟨a2, p2, r2, c2⟩, ⟨t2, d2, l2, k2, n2, s2⟩⟩ := b
  obtain ⟨t4, d4, l4, k4, n4, s4⟩ := j
  simp only [Cx.val, Cx.a, Vr.v, two] at G1 G2 C1 C2 J1 J2 L1 W1 HA hwa ⊢
  go_enter Try.func3, Try.ntmps3
  go_wp2_with fail
  rw [← hwa]
  clear hwa
  go_fit W1.out
  rintro x w1 ⟨⟨z, rfl, hz, -⟩, hb1⟩
  have hb2 : Below wa.heap.size wa w1 := HA.out.trans (hb1.mono HA.out.size)
  clear hb1 HA W1
  obtain ⟨ta, tb, hB⟩ := HT.out w1 hb2
  have HB : Hid (Below w.heap.size w w1) := hB
  clear hB
  have hz' : (z : Int) ≤ 1000000000000000 := by omega
  clear hz
  by_cases h5 : 500 < z
  · have d : decide (500 < (z : Int)) = true := decide_eq_true (by omega)
    go_wp2_with fail
    refine (LV.out _).mono ?_
    rintro x w9 ⟨rfl, hb9⟩
    go_wp2_with fail
    go_ret
    exact ⟨rfl, HB.out.trans (hb9.mono HB.out.size)⟩
  have d : decide (500 < (z : Int)) = false := decide_eq_false (by omega)
  clear h5
  have xA4 : ∀ o1 : Obj, (w1.alloc o1).cell? ⟨w.heap.size, 4, none⟩ = some (.int .i64 t1) := fun o1 => by have := (ta.alloc o1).c4; simpa using this
  have xB4 : ∀ o1 o2 : Obj, ((w1.alloc o1).alloc o2).cell? ⟨w.heap.size, 4, none⟩ = some (.int .i64 t1) := fun o1 o2 => by have := ((ta.alloc o1).alloc o2).c4; simpa using this
  have xA5 : ∀ o1 : Obj, (w1.alloc o1).cell? ⟨w.heap.size, 5, none⟩ = some (.bool d1) := fun o1 => by have := (ta.alloc o1).c5; simpa using this
  have xB5 : ∀ o1 o2 : Obj, ((w1.alloc o1).alloc o2).cell? ⟨w.heap.size, 5, none⟩ = some (.bool d1) := fun o1 o2 => by have := ((ta.alloc o1).alloc o2).c5; simpa using this
  have xA6 : ∀ o1 : Obj, (w1.alloc o1).cell? ⟨w.heap.size, 6, none⟩ = some (.int .i64 l1) := fun o1 => by have := (ta.alloc o1).c6; simpa using this
  have xB6 : ∀ o1 o2 : Obj, ((w1.alloc o1).alloc o2).cell? ⟨w.heap.size, 6, none⟩ = some (.int .i64 l1) := fun o1 o2 => by have := ((ta.alloc o1).alloc o2).c6; simpa using this
  have xA7 : ∀ o1 : Obj, (w1.alloc o1).cell? ⟨w.heap.size, 7, none⟩ = some (.int .i64 k1) := fun o1 => by have := (ta.alloc o1).c7; simpa using this
  have xB7 : ∀ o1 o2 : Obj, ((w1.alloc o1).alloc o2).cell? ⟨w.heap.size, 7, none⟩ = some (.int .i64 k1) := fun o1 o2 => by have := ((ta.alloc o1).alloc o2).c7; simpa using this
  have xA8 : ∀ o1 : Obj, (w1.alloc o1).cell? ⟨w.heap.size, 8, none⟩ = some (.int .i64 n1) := fun o1 => by have := (ta.alloc o1).c8; simpa using this
  have xB8 : ∀ o1 o2 : Obj, ((w1.alloc o1).alloc o2).cell? ⟨w.heap.size, 8, none⟩ = some (.int .i64 n1) := fun o1 o2 => by have := ((ta.alloc o1).alloc o2).c8; simpa using this
  have xA9 : ∀ o1 : Obj, (w1.alloc o1).cell? ⟨w.heap.size, 9, none⟩ = some (.string s1) := fun o1 => by have := (ta.alloc o1).c9; simpa using this
  have xB9 : ∀ o1 o2 : Obj, ((w1.alloc o1).alloc o2).cell? ⟨w.heap.size, 9, none⟩ = some (.string s1) := fun o1 o2 => by have := ((ta.alloc o1).alloc o2).c9; simpa using this
  have yA4 : ∀ o1 : Obj, (w1.alloc o1).cell? ⟨w.heap.size + 1, 4, none⟩ = some (.int .i64 t2) := fun o1 => by have := (tb.alloc o1).c4; simpa using this
  have yB4 : ∀ o1 o2 : Obj, ((w1.alloc o1).alloc o2).cell? ⟨w.heap.size + 1, 4, none⟩ = some (.int .i64 t2) := fun o1 o2 => by have := ((tb.alloc o1).alloc o2).c4; simpa using this
  have yA5 : ∀ o1 : Obj, (w1.alloc o1).cell? ⟨w.heap.size + 1, 5, none⟩ = some (.bool d2) := fun o1 => by have := (tb.alloc o1).c5; simpa using this
  have yB5 : ∀ o1 o2 : Obj, ((w1.alloc o1).alloc o2).cell? ⟨w.heap.size + 1, 5, none⟩ = some (.bool d2) := fun o1 o2 => by have := ((tb.alloc o1).alloc o2).c5; simpa using this
  have yA6 : ∀ o1 : Obj, (w1.alloc o1).cell? ⟨w.heap.size + 1, 6, none⟩ = some (.int .i64 l2) := fun o1 => by have := (tb.alloc o1).c6; simpa using this
  have yB6 : ∀ o1 o2 : Obj, ((w1.alloc o1).alloc o2).cell? ⟨w.heap.size + 1, 6, none⟩ = some (.int .i64 l2) := fun o1 o2 => by have := ((tb.alloc o1).alloc o2).c6; simpa using this
  have yA7 : ∀ o1 : Obj, (w1.alloc o1).cell? ⟨w.heap.size + 1, 7, none⟩ = some (.int .i64 k2) := fun o1 => by have := (tb.alloc o1).c7; simpa using this
  have yB7 : ∀ o1 o2 : Obj, ((w1.alloc o1).alloc o2).cell? ⟨w.heap.size + 1, 7, none⟩ = some (.int .i64 k2) := fun o1 o2 => by have := ((tb.alloc o1).alloc o2).c7; simpa using this
  have yA8 : ∀ o1 : Obj, (w1.alloc o1).cell? ⟨w.heap.size + 1, 8, none⟩ = some (.int .i64 n2) := fun o1 => by have := (tb.alloc o1).c8; simpa using this
  have yB8 : ∀ o1 o2 : Obj, ((w1.alloc o1).alloc o2).cell? ⟨w.heap.size + 1, 8, none⟩ = some (.int .i64 n2) := fun o1 o2 => by have := ((tb.alloc o1).alloc o2).c8; simpa using this
  have yA9 : ∀ o1 : Obj, (w1.alloc o1).cell? ⟨w.heap.size + 1, 9, none⟩ = some (.string s2) := fun o1 => by have := (tb.alloc o1).c9; simpa using this
  have yB9 : ∀ o1 o2 : Obj, ((w1.alloc o1).alloc o2).cell? ⟨w.heap.size + 1, 9, none⟩ = some (.string s2) := fun o1 o2 => by have := ((tb.alloc o1).alloc o2).c9; simpa using this
  have TA : Hid (TenX w1 w.heap.size 0 ⟨⟨a1, p1, r1, c1⟩, ⟨t1, d1, l1, k1, n1, s1⟩⟩) := ta
  have b12 : ∀ u v : Vr, VAt (((w1.alloc (.cells u.a 27)).alloc (.cells v.a 27)).drew) w1.heap.size 0 u ∧ VAt (((w1.alloc (.cells u.a 27)).alloc (.cells v.a 27)).drew) (w1.heap.size + 1) 0 v ∧ Below w1.heap.size w1 (((w1.alloc (.cells u.a 27)).alloc (.cells v.a 27)).drew) := fun u v => by
    obtain ⟨h1, h2, h3⟩ := boxes2 w1 u v
    exact ⟨h1.below (Below.refl _ _).drew h1.lt, h2.below (Below.refl _ _).drew h2.lt, h3.drew⟩
  obtain ⟨x0, x1, x2, x3, x4, x5, x6, x7, x8, x9⟩ := ta
  obtain ⟨y0, y1, y2, y3, y4, y5, y6, y7, y8, y9⟩ := tb
  simp only [Nat.zero_add] at x0 x1 x2 x3 x4 x5 x6 x7 x8 x9 y0 y1 y2 y3 y4 y5 y6 y7 y8 y9
  go_wp2_with fail
  go_cut [5, 6] from 13 to 17 (fun s5 s6 wx => ∃ g5 g6, s5 = .pointer (some ⟨g5, 0, none⟩) ∧ s6 = .pointer (some ⟨g6, 0, none⟩) ∧ VAt wx g5 0 ⟨t1, d1, l1, k1, n1, s1⟩ ∧ VAt wx g6 0 ⟨t2, d2, l2, k2, n2, s2⟩ ∧ Below w1.heap.size w1 wx)
  case first =>
    go_region
    · go_wp2_with fail
      go_meet
      case rel => exact ⟨_, _, rfl, rfl, (b12 ⟨t1, d1, l1, k1, n1, s1⟩ ⟨t2, d2, l2, k2, n2, s2⟩).1, (b12 ⟨t1, d1, l1, k1, n1, s1⟩ ⟨t2, d2, l2, k2, n2, s2⟩).2.1, (b12 ⟨t1, d1, l1, k1, n1, s1⟩ ⟨t2, d2, l2, k2, n2, s2⟩).2.2⟩
    · go_wp2_with fail
      go_meet
      case rel => exact ⟨_, _, rfl, rfl, (b12 ⟨t2, d2, l2, k2, n2, s2⟩ ⟨t1, d1, l1, k1, n1, s1⟩).2.1, (b12 ⟨t2, d2, l2, k2, n2, s2⟩ ⟨t1, d1, l1, k1, n1, s1⟩).1, (b12 ⟨t2, d2, l2, k2, n2, s2⟩ ⟨t1, d1, l1, k1, n1, s1⟩).2.2⟩
  case rest =>
    clear xA4 xA5 xA6 xA7 xA8 xA9 xB4 xB5 xB6 xB7 xB8 xB9 yA4 yA5 yA6 yA7 yA8 yA9 yB4 yB5 yB6 yB7 yB8 yB9 x0 x1 x2 x3 x4 x5 x6 x7 x8 x9 y0 y1 y2 y3 y4 y5 y6 y7 y8 y9
    obtain ⟨g5, g6, rfl, rfl, v5, v6, hbc⟩ := hcut
    have hbw : Below w.heap.size w wc := HB.out.trans (hbc.mono HB.out.size)
    have HE : Hid (∀ w' : World, Below wc.heap.size wc w' → Below w.heap.size w w') := fun w' h => hbw.trans (h.mono hbw.size)
    have tc := TA.out.below hbc TA.out.lt
    clear hbw hbc HB TA
    have e0 : ∀ q : Cl wc.heap.size wc, q.u.cell? ⟨w.heap.size, 0, none⟩ = some (.string a1) := fun q => by have := (tc.below q.h tc.lt).c0; simpa using this
    have e1 : ∀ q : Cl wc.heap.size wc, q.u.cell? ⟨w.heap.size, 1, none⟩ = some (.string p1) := fun q => by have := (tc.below q.h tc.lt).c1; simpa using this
    have e2 : ∀ q : Cl wc.heap.size wc, q.u.cell? ⟨w.heap.size, 2, none⟩ = some (.int .i64 r1) := fun q => by have := (tc.below q.h tc.lt).c2; simpa using this
    have e3 : ∀ q : Cl wc.heap.size wc, q.u.cell? ⟨w.heap.size, 3, none⟩ = some (.string c1) := fun q => by have := (tc.below q.h tc.lt).c3; simpa using this
    have e4 : ∀ q : Cl wc.heap.size wc, q.u.cell? ⟨w.heap.size, 4, none⟩ = some (.int .i64 t1) := fun q => by have := (tc.below q.h tc.lt).c4; simpa using this
    have e5 : ∀ q : Cl wc.heap.size wc, q.u.cell? ⟨w.heap.size, 5, none⟩ = some (.bool d1) := fun q => by have := (tc.below q.h tc.lt).c5; simpa using this
    have e6 : ∀ q : Cl wc.heap.size wc, q.u.cell? ⟨w.heap.size, 6, none⟩ = some (.int .i64 l1) := fun q => by have := (tc.below q.h tc.lt).c6; simpa using this
    have e7 : ∀ q : Cl wc.heap.size wc, q.u.cell? ⟨w.heap.size, 7, none⟩ = some (.int .i64 k1) := fun q => by have := (tc.below q.h tc.lt).c7; simpa using this
    have e8 : ∀ q : Cl wc.heap.size wc, q.u.cell? ⟨w.heap.size, 8, none⟩ = some (.int .i64 n1) := fun q => by have := (tc.below q.h tc.lt).c8; simpa using this
    have e9 : ∀ q : Cl wc.heap.size wc, q.u.cell? ⟨w.heap.size, 9, none⟩ = some (.string s1) := fun q => by have := (tc.below q.h tc.lt).c9; simpa using this
    have mm1 : ∀ q : Cl wc.heap.size wc, q.u.cell? ⟨g5, 0, none⟩ = some (.int .i64 t1) := fun q => (v5.cl q).time
    have mm2 : ∀ q : Cl wc.heap.size wc, q.u.cell? ⟨g5, 1, none⟩ = some (.bool d1) := fun q => (v5.cl q).dead
    have mm3 : ∀ q : Cl wc.heap.size wc, q.u.cell? ⟨g5, 2, none⟩ = some (.int .i64 l1) := fun q => (v5.cl q).loc
    have mm4 : ∀ q : Cl wc.heap.size wc, q.u.cell? ⟨g5, 3, none⟩ = some (.int .i64 k1) := fun q => (v5.cl q).kind
    have mm5 : ∀ q : Cl wc.heap.size wc, q.u.cell? ⟨g5, 4, none⟩ = some (.int .i64 n1) := fun q => (v5.cl q).num
    have mm6 : ∀ q : Cl wc.heap.size wc, q.u.cell? ⟨g5, 5, none⟩ = some (.string s1) := fun q => (v5.cl q).s
    have qq1 : ∀ q : Cl wc.heap.size wc, q.u.cell? ⟨g6, 0, none⟩ = some (.int .i64 t2) := fun q => (v6.cl q).time
    have qq2 : ∀ q : Cl wc.heap.size wc, q.u.cell? ⟨g6, 1, none⟩ = some (.bool d2) := fun q => (v6.cl q).dead
    have qq3 : ∀ q : Cl wc.heap.size wc, q.u.cell? ⟨g6, 2, none⟩ = some (.int .i64 l2) := fun q => (v6.cl q).loc
    have qq4 : ∀ q : Cl wc.heap.size wc, q.u.cell? ⟨g6, 3, none⟩ = some (.int .i64 k2) := fun q => (v6.cl q).kind
    have qq5 : ∀ q : Cl wc.heap.size wc, q.u.cell? ⟨g6, 4, none⟩ = some (.int .i64 n2) := fun q => (v6.cl q).num
    have qq6 : ∀ q : Cl wc.heap.size wc, q.u.cell? ⟨g6, 5, none⟩ = some (.string s2) := fun q => (v6.cl q).s
    clear v5 v6 tc
    haveI := Cl.inh wc.heap.size wc
    cases d1
    · go_wp2_with fail
      refine wp_region_cl wc.heap.size (by kernel_rfl) (by kernel_rfl) ?_
      quiet_step (fail)
      quiet_step ((go_at_call 11; exact Cl.calls (Nat.le_refl _) (G1.out _)))
      quiet_step (fail)
      quiet_step ((go_at_call 12; exact Cl.calls (Nat.le_refl _) (G2.out _)))
      quiet_step (fail)
      quiet_step (fail)
      quiet_step (fail)
      quiet_step (fail)
      quiet_step ((go_at_call 13; exact Cl.calls (Nat.le_refl _) (C1.out _)))
      quiet_step (fail)
      quiet_step (fail)
      quiet_step ((go_at_call 14; exact Cl.calls (Nat.le_refl _) (C2.out _)))
      quiet_step (fail)
      quiet_step (fail)
      quiet_step (fail)
      quiet_step (fail)
      quiet_step (fail)
      quiet_step ((go_at_call 15; exact Cl.calls (Nat.le_refl _) (J1.out _)))
      quiet_step (fail)
      quiet_step (fail)
      quiet_step ((go_at_call 16; exact Cl.calls (Nat.le_refl _) (J2.out _)))
      quiet_step (fail)
      quiet_step (fail)
      quiet_step (fail)
      quiet_step (fail)
      quiet_step ((go_at_call 17; exact Cl.calls (Nat.le_refl _) (L1.out _)))
      quiet_step (fail)
      quiet_step (fail)
      quiet_step (fail)
      quiet_step (fail)
      quiet_step (fail)
      quiet_step ((go_at_call 10; exact Cl.calls (Nat.le_refl _) (LV.out _)))
      quiet_step (fail)
      quiet_step (fail)
      refine wpQuiet_nil ?_
      rintro w0 ⟨q, rfl⟩
      go_wp2_with fail
      go_ret
      exact ⟨rfl, HE.out _ q.h⟩
    · go_wp2_with fail
      refine wp_region_cl wc.heap.size (by kernel_rfl) (by kernel_rfl) ?_
      quiet_step (fail)
      quiet_step ((go_at_call 11; exact Cl.calls (Nat.le_refl _) (G1.out _)))
      quiet_step (fail)
      quiet_step ((go_at_call 12; exact Cl.calls (Nat.le_refl _) (G2.out _)))
      quiet_step (fail)
      quiet_step (fail)
      quiet_step (fail)
      quiet_step (fail)
      quiet_step ((go_at_call 13; exact Cl.calls (Nat.le_refl _) (C1.out _)))
      quiet_step (fail)
      quiet_step (fail)
      quiet_step ((go_at_call 14; exact Cl.calls (Nat.le_refl _) (C2.out _)))
      quiet_step (fail)
      quiet_step (fail)
      quiet_step (fail)
      quiet_step (fail)
      quiet_step (fail)
      quiet_step ((go_at_call 15; exact Cl.calls (Nat.le_refl _) (J1.out _)))
      quiet_step (fail)
      quiet_step (fail)
      quiet_step ((go_at_call 16; exact Cl.calls (Nat.le_refl _) (J2.out _)))
      quiet_step (fail)
      quiet_step (fail)
      quiet_step (fail)
      quiet_step (fail)
      quiet_step ((go_at_call 17; exact Cl.calls (Nat.le_refl _) (L1.out _)))
      quiet_step (fail)
      quiet_step (fail)
      quiet_step (fail)
      quiet_step (fail)
      quiet_step (fail)
      quiet_step ((go_at_call 10; exact Cl.calls (Nat.le_refl _) (LV.out _)))
      quiet_step (fail)
      quiet_step (fail)
      refine wpQuiet_nil ?_
      rintro w0 ⟨q, rfl⟩
      go_wp2_with fail
      go_ret
      exact ⟨rfl, HE.out _ q.h⟩
end Go.Proofs.Ytlbakepijncfgaa.cellTells
