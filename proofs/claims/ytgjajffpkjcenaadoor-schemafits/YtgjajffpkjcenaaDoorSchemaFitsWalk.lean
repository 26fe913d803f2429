/-
  THE LAW SchemaFits: the walk.
-/
import Derived.Test.YtgjajffpkjcenaaDoorSchLives
import Derived.Test.YtgjajffpkjcenaaDoorSchFind
import Derived.Test.YtgjajffpkjcenaaDoorVerLaid
namespace Go.Proofs.YtgjajffpkjcenaaDoor.schemaFits
open Go.RowKit

attribute [local go_sem] Oper.pureAt Oper.pureUpon

set_option maxRecDepth 100000 in
set_option maxHeartbeats 4000000 in
theorem walk (l : List Tx) (ao : Option Addr) (cap : Nat) (c : Cx) (s : ByteArray) (w : World) (hL : TSee w ao l) (hl : l.length * 72 ≤ 140737488351232) (_hO : ∀ x ∈ l, CSee w x.o x.T.cs) (hc : c.Fits) (_hs : s.size ≤ 140737488351232) (hS : SpT w) :
    Calls Tryd.prog 5 #[.slice ao l.length cap, c.val, .string s] w fun e w' => e = .returned (.bool true) ∧ Below w.heap.size w w' := by
  obtain ⟨w0, hw0⟩ : ∃ w0, w0 = w.alloc (.cells c.a 47) := ⟨_, rfl⟩
  have hB : Below w.heap.size w w0 := by rw [hw0]; exact (Below.refl _ _).alloc (Nat.le_refl _) _
  have hX : TenX w0 w.heap.size 0 c := by rw [hw0]; exact TenX.new w c _
  have HX : Hid (∀ wr, Below w0.heap.size w0 wr → TenX wr w.heap.size 0 c ∧ TSee wr ao l ∧ SpT wr ∧ Below w.heap.size w wr) := fun wr hb =>
    ⟨hX.below hb hX.lt, hL.below (hB.trans (hb.mono hB.size)), hS.below (hB.trans (hb.mono hB.size)) hS.lt, hB.trans (hb.mono hB.size)⟩
  have L : Hid (∀ wr, Below w0.heap.size w0 wr → Calls Tryd.prog 8 #[] wr fun e w' => e = .returned (.bool true) ∧ Below w.heap.size w w') := fun wr hb => (lives17_any wr (HX.out wr hb).2.2.1).mono fun e w' h => ⟨h.1, (HX.out wr hb).2.2.2.trans (h.2.mono (HX.out wr hb).2.2.2.size)⟩
  have hnz : (l.length : Int) ≤ 1954687338212 := by omega
  have b1 : c.k.t.size ≤ 140737488355328 := hc.bt
  have b2 : c.k.p.size ≤ 140737488355328 := hc.bp
  have b3 : c.k.c.size ≤ 140737488355328 := hc.bc
  have b4 : c.v.s.size ≤ 140737488355328 := hc.bs
  have z1 : (c.k.t.size : Int) ≤ 140737488355328 := by omega
  have z2 : (c.k.p.size : Int) ≤ 140737488355328 := by omega
  have z3 : (c.k.c.size : Int) ≤ 140737488355328 := by omega
  have z4 : (c.v.s.size : Int) ≤ 140737488355328 := by omega
  obtain ⟨t0, t1, t2, t3, t4, t5, t6, t7, t8, t9⟩ := hX
  rw [hw0] at t0 t1 t2 t3 t4 t5 t6 t7 t8 t9
  have L0 := L.out w0 (Below.refl _ _)
  by_cases hbig : 100 < l.length
  · have hz : (100 : Int) < (l.length : Int) := by omega
    clear HX L hL hl hc hS hB b1 b2 b3 b4 hbig
    generalize l.length = n at *
    obtain ⟨⟨ct, cp, cr, cc⟩, ⟨vt, vd, vl, vk, vn, vs⟩⟩ := c
    simp only [Cx.val, Cx.a, Nat.zero_add] at *
    go_enter Tryd.func5, Tryd.ntmps5
    go_wp2_with fail
    rw [← hw0]
    refine L0.mono ?_
    rintro e w1 ⟨rfl, hb1⟩
    go_wp2_with fail
    go_ret
    exact ⟨rfl, hb1⟩
  · have hz : ¬ (100 : Int) < (l.length : Int) := by omega
    by_cases hsum : 5000 < c.k.p.size + c.k.t.size + c.k.c.size + c.v.s.size
    · have hz5 : (5000 : Int) < (c.k.p.size : Int) + (c.k.t.size : Int) + (c.k.c.size : Int) + (c.v.s.size : Int) := by omega
      clear HX L hL hl hc hS hB b1 b2 b3 b4 hbig hsum
      obtain ⟨⟨ct, cp, cr, cc⟩, ⟨vt, vd, vl, vk, vn, vs⟩⟩ := c
      simp only [Cx.val, Cx.a, Nat.zero_add] at *
      go_enter Tryd.func5, Tryd.ntmps5
      go_wp2_with fail
      rw [← hw0]
      refine L0.mono ?_
      rintro e w1 ⟨rfl, hb1⟩
      go_wp2_with fail
      go_ret
      exact ⟨rfl, hb1⟩
    · have hz5 : ¬ (5000 : Int) < (c.k.p.size : Int) + (c.k.t.size : Int) + (c.k.c.size : Int) + (c.v.s.size : Int) := by omega
      have HM : Hid (∀ n, n ≤ 5000 → n ≤ maxLen) := fun n hn => by unfold maxLen; omega
      have HF : Hid (∀ wr (x : Tx), Below w0.heap.size w0 wr → CSee wr x.o x.T.cs → x.T.cs.length ≤ 200 → Calls Tryd.prog 18 #[x.T.v x.o x.k, c.val] wr fun e w' => e = .returned (.bool (fitsB x.T c)) ∧ Below wr.heap.size wr w') := fun wr x hb hcs hn => fits_any x.T x.o x.k c wr hcs (by omega) (HM.out _ (by omega)) (HM.out _ (by omega)) (HM.out _ (by omega)) (HM.out _ (by omega))
      have HG : Hid (∀ wr (x : Tx), Below w0.heap.size w0 wr → CSee wr x.o x.T.cs → x.T.cs.length ≤ 200 → Calls Tryd.prog 19 #[x.T.v x.o x.k, c.val] wr fun e w' => e = .returned (.bool (fitsB x.T c)) ∧ Below wr.heap.size wr w') := fun wr x hb hcs hn => refFits_any x.T x.o x.k c wr hcs (by omega) (HM.out _ (by omega)) (HM.out _ (by omega)) (HM.out _ (by omega)) (HM.out _ (by omega))
      have HL : Hid (l.length ≤ 100) := by show _ ≤ _; omega
      clear hL hl hc hS hB b1 b2 b3 b4 hbig hsum HM L0
      obtain ⟨⟨ct, cp, cr, cc⟩, ⟨vt, vd, vl, vk, vn, vs⟩⟩ := c
      simp only [Cx.val, Cx.a, Nat.zero_add] at *
      go_enter Tryd.func5, Tryd.ntmps5
      go_wp2_with fail
      rw [← hw0]
      clear hw0 t0 t1 t2 t3 t4 t5 t6 t7 t8 t9
      go_loopw [42] (fun s42 wr => ∃ k : Nat, k ≤ l.length ∧ s42 = .int .i64 (k : Int) ∧ Below w0.heap.size w0 wr ∧ ∀ (j : Nat) (x : Tx), j < k → l[j]? = some x → x.T.cs.length ≤ 200) (fun s42 _ => l.length - (intOf s42).toNat)
      case atStart => exact ⟨0, Nat.zero_le _, rfl, Below.refl _ _, fun j x hj => absurd hj (Nat.not_lt_zero _)⟩
      case round =>
        obtain ⟨k, hk, rfl, hb, hle⟩ := hrel
        obtain ⟨hTr, hLr, hSr, hWr⟩ := HX.out wr hb
        rcases Nat.lt_or_ge k l.length with hlt | hge
        · have hcs : l[k]? = some l[k] := List.getElem?_eq_getElem hlt
          obtain ⟨b, off, hao, ⟨k0, k1, k2, k3⟩, hcc⟩ := hLr k _ hcs
          have hkz : (k : Int) < (l.length : Int) := by omega
          have HKL : Hid (k < l.length) := hlt
          obtain ⟨wq, hwq⟩ : ∃ wq, wq = wr.alloc (.cells #[.string l[k].T.t, .string l[k].T.p, .string l[k].T.r, .slice l[k].o l[k].T.cs.length l[k].k] 26) := ⟨_, rfl⟩
          have hbq : Below wr.heap.size wr wq := by rw [hwq]; exact (Below.refl _ _).alloc (Nat.le_refl _) _
          have hKq : Blk wq wr.heap.size [.string l[k].T.t, .string l[k].T.p, .string l[k].T.r, .slice l[k].o l[k].T.cs.length l[k].k] 26 := by rw [hwq]; exact Blk.new wr [.string l[k].T.t, .string l[k].T.p, .string l[k].T.r, .slice l[k].o l[k].T.cs.length l[k].k] _
          have hb0 : Below w0.heap.size w0 wq := hb.trans (hbq.mono hb.size)
          have hccq := hcc.below hbq
          have hTq : TenX wq w.heap.size 0 ⟨⟨ct, cp, cr, cc⟩, ⟨vt, vd, vl, vk, vn, vs⟩⟩ := (HX.out wq hb0).1
          have HGx : ∀ u, Below wq.heap.size wq u → l[k].T.cs.length ≤ 200 → Calls Tryd.prog 19 #[l[k].T.v l[k].o l[k].k, .agg #[.string ct, .string cp, .int .i64 cr, .string cc, .int .i64 vt, .bool vd, .int .i64 vl, .int .i64 vk, .int .i64 vn, .string vs]] u fun e w' => e = .returned (.bool (fitsB l[k].T ⟨⟨ct, cp, cr, cc⟩, ⟨vt, vd, vl, vk, vn, vs⟩⟩)) ∧ Below u.heap.size u w' := fun u hu hn => HG.out u l[k] (hb0.trans (hu.mono hb0.size)) (hccq.below hu) hn
          have HFu : ∀ u, Below wq.heap.size wq u → l[k].T.cs.length ≤ 200 → Calls Tryd.prog 18 #[l[k].T.v l[k].o l[k].k, .agg #[.string ct, .string cp, .int .i64 cr, .string cc, .int .i64 vt, .bool vd, .int .i64 vl, .int .i64 vk, .int .i64 vn, .string vs]] u fun e w' => e = .returned (.bool (fitsB l[k].T ⟨⟨ct, cp, cr, cc⟩, ⟨vt, vd, vl, vk, vn, vs⟩⟩)) ∧ Below u.heap.size u w' := fun u hu hn => HF.out u l[k] (hb0.trans (hu.mono hb0.size)) (hccq.below hu) hn
          have Lq := L.out wq hb0
          have HLe : Hid (l[k].T.cs.length ≤ 200 → ∀ (j : Nat) (x : Tx), j < k + 1 → l[j]? = some x → x.T.cs.length ≤ 200) := fun h j x hj hx => by
            by_cases e : j = k
            · subst e; rw [hcs] at hx; cases hx; exact h
            · exact hle j x (by omega) hx
          have HBq : Hid (∀ u, Below wq.heap.size wq u → Below w0.heap.size w0 u) := fun u hu => hb0.trans (hu.mono hb0.size)
          clear hcs hle hTr hLr hSr hWr hcc hccq hb hb0 hbq HX HF HG L
          generalize l[k] = x at *
          obtain ⟨⟨tt, tp, tr, cs⟩, xo, xk⟩ := x
          simp only [Tb.v, Tb.a] at *
          subst hao
          have c0 := hKq.cell 0 rfl
          have c1 := hKq.cell 1 rfl
          have c2 := hKq.cell 2 rfl
          have c3 := hKq.cell 3 rfl
          rw [hwq] at c0 c1 c2 c3
          by_cases hn : 200 < cs.length
          · have hnz2 : (200 : Int) < (cs.length : Int) := by omega
            clear HGx HFu HLe HBq hTq hKq hn
            go_wp2_with fail
            rw [← hwq]
            refine Lq.mono ?_
            rintro e w1 ⟨rfl, hb1⟩
            go_wp2_with fail
            go_ret
            exact ⟨rfl, hb1⟩
          · have hn2 : cs.length ≤ 200 := by omega
            have hnz2 : ¬ (200 : Int) < (cs.length : Int) := by omega
            have HL2 := HLe.out hn2
            have HFv : Hid (∀ u, Below wq.heap.size wq u → Calls Tryd.prog 18 #[.agg #[.string tt, .string tp, .string tr, .slice xo cs.length xk], .agg #[.string ct, .string cp, .int .i64 cr, .string cc, .int .i64 vt, .bool vd, .int .i64 vl, .int .i64 vk, .int .i64 vn, .string vs]] u fun e w' => e = .returned (.bool (fitsB ⟨tt, tp, tr, cs⟩ ⟨⟨ct, cp, cr, cc⟩, ⟨vt, vd, vl, vk, vn, vs⟩⟩)) ∧ Below u.heap.size u w') := fun u hu => HFu u hu hn2
            have HGv : Hid (∀ u, Below wq.heap.size wq u → Calls Tryd.prog 19 #[.agg #[.string tt, .string tp, .string tr, .slice xo cs.length xk], .agg #[.string ct, .string cp, .int .i64 cr, .string cc, .int .i64 vt, .bool vd, .int .i64 vl, .int .i64 vk, .int .i64 vn, .string vs]] u fun e w' => e = .returned (.bool (fitsB ⟨tt, tp, tr, cs⟩ ⟨⟨ct, cp, cr, cc⟩, ⟨vt, vd, vl, vk, vn, vs⟩⟩)) ∧ Below u.heap.size u w') := fun u hu => HGx u hu hn2
            have HL3 : Hid (∀ (j : Nat) (x : Tx), j < k + 1 → l[j]? = some x → x.T.cs.length ≤ 200) := HL2
            clear HFu HGx HLe HL2 hn hn2 Lq
            generalize fitsB ⟨tt, tp, tr, cs⟩ ⟨⟨ct, cp, cr, cc⟩, ⟨vt, vd, vl, vk, vn, vs⟩⟩ = fb at *
            have hff : (fb != fb) = false := by simp
            obtain ⟨g0, g1, g2, g3, g4, g5, g6, g7, g8, g9⟩ := hTq
            simp only [Nat.zero_add] at g0 g1 g2 g3 g4 g5 g6 g7 g8 g9
            have p0 : ∀ z : Cl wq.heap.size wq, z.u.cell? ⟨wr.heap.size, 0, none⟩ = some (.string tt) := fun z => z.cell hKq.lt (hKq.cell 0 rfl)
            have p1 : ∀ z : Cl wq.heap.size wq, z.u.cell? ⟨wr.heap.size, 1, none⟩ = some (.string tp) := fun z => z.cell hKq.lt (hKq.cell 1 rfl)
            have p2 : ∀ z : Cl wq.heap.size wq, z.u.cell? ⟨wr.heap.size, 2, none⟩ = some (.string tr) := fun z => z.cell hKq.lt (hKq.cell 2 rfl)
            have p3 : ∀ z : Cl wq.heap.size wq, z.u.cell? ⟨wr.heap.size, 3, none⟩ = some (.slice xo cs.length xk) := fun z => z.cell hKq.lt (hKq.cell 3 rfl)
            have r0 : ∀ z : Cl wq.heap.size wq, z.u.cell? ⟨w.heap.size, 0, none⟩ = some (.string ct) := fun z => z.cell (World.block_lt_of_cell? _ _ g0) g0
            have r1 : ∀ z : Cl wq.heap.size wq, z.u.cell? ⟨w.heap.size, 1, none⟩ = some (.string cp) := fun z => z.cell (World.block_lt_of_cell? _ _ g1) g1
            have r2 : ∀ z : Cl wq.heap.size wq, z.u.cell? ⟨w.heap.size, 2, none⟩ = some (.int .i64 cr) := fun z => z.cell (World.block_lt_of_cell? _ _ g2) g2
            have r3 : ∀ z : Cl wq.heap.size wq, z.u.cell? ⟨w.heap.size, 3, none⟩ = some (.string cc) := fun z => z.cell (World.block_lt_of_cell? _ _ g3) g3
            have r4 : ∀ z : Cl wq.heap.size wq, z.u.cell? ⟨w.heap.size, 4, none⟩ = some (.int .i64 vt) := fun z => z.cell (World.block_lt_of_cell? _ _ g4) g4
            have r5 : ∀ z : Cl wq.heap.size wq, z.u.cell? ⟨w.heap.size, 5, none⟩ = some (.bool vd) := fun z => z.cell (World.block_lt_of_cell? _ _ g5) g5
            have r6 : ∀ z : Cl wq.heap.size wq, z.u.cell? ⟨w.heap.size, 6, none⟩ = some (.int .i64 vl) := fun z => z.cell (World.block_lt_of_cell? _ _ g6) g6
            have r7 : ∀ z : Cl wq.heap.size wq, z.u.cell? ⟨w.heap.size, 7, none⟩ = some (.int .i64 vk) := fun z => z.cell (World.block_lt_of_cell? _ _ g7) g7
            have r8 : ∀ z : Cl wq.heap.size wq, z.u.cell? ⟨w.heap.size, 8, none⟩ = some (.int .i64 vn) := fun z => z.cell (World.block_lt_of_cell? _ _ g8) g8
            have r9 : ∀ z : Cl wq.heap.size wq, z.u.cell? ⟨w.heap.size, 9, none⟩ = some (.string vs) := fun z => z.cell (World.block_lt_of_cell? _ _ g9) g9
            clear g0 g1 g2 g3 g4 g5 g6 g7 g8 g9 hKq
            go_wp2_with fail
            rw [← hwq]
            clear hwq c0 c1 c2 c3 k0 k1 k2 k3
            refine wp_region_sched (fun w' => ∃ p : Cl wq.heap.size wq, w' = p.u) [(0, true), (1, true), (3, true), (4, true), (2, false), (5, false), (6, true)] rfl (by kernel_rfl) (by kernel_rfl) (by kernel_rfl) ⟨⟨_, (Below.refl _ wq).drew⟩, rfl⟩ ?_
            iterate 4 (refine sched_pure rfl (fun K hK => ?_); go_simp; first | refine hK _ ?_ | refine ⟨_, fun _ => rfl, hK _ ?_⟩; clear hK K)
            refine sched_loud rfl (fun K hK => ?_)
            go_simp
            refine (HFv.out _ (Below.refl _ wq).drew).mono ?_
            rintro e u1 ⟨rfl, h1⟩
            have q1 : Below wq.heap.size wq u1 := (Below.refl _ wq).drew.trans h1
            refine hK _ _ ⟨⟨u1, q1⟩, rfl⟩ ?_
            clear hK K
            refine sched_loud rfl (fun K hK => ?_)
            go_simp
            refine (HGv.out _ q1).mono ?_
            rintro e u2 ⟨rfl, h2⟩
            have q2 : Below wq.heap.size wq u2 := q1.trans (h2.mono q1.size)
            refine hK _ _ ⟨⟨u2, q2⟩, rfl⟩ ?_
            clear hK K
            have hq2 := HBq.out u2 q2
            iterate 1 (refine sched_pure rfl (fun K hK => ?_); go_simp; first | refine hK _ ?_ | refine ⟨_, fun _ => rfl, hK _ ?_⟩; clear hK K)
            refine sched_nil ?_
            go_wp2_with fail
            go_roundw
            case rel => exact ⟨k + 1, by have := HKL.out; omega, by go_num, hq2, HL3.out⟩
            case measure => have := HKL.out; simp [intOf]; omega
        · obtain rfl : k = l.length := by omega
          have hall : ∀ x ∈ l, x.T.cs.length ≤ 1000000 := fun x hx => by
            obtain ⟨j, hj, rfl⟩ := List.getElem_of_mem hx
            have := hle j _ hj (List.getElem?_eq_getElem hj)
            omega
          have F1 := find_any l ao cap s wr hLr (by have := HL.out; omega) hall
          have F2 : Hid (∀ u, Below w0.heap.size w0 u → Calls Tryd.prog 21 #[.slice ao l.length cap, .string s] u fun e w' => ∃ o c, e = .returned (.tuple #[.agg #[.string (fdR l s).t, .string (fdR l s).p, .string (fdR l s).r, .slice o (fdR l s).n c], .bool (fdR l s).ok]) ∧ Below u.heap.size u w') := fun u hu => refFind_any l ao cap s u (HX.out u hu).2.1 (by have := HL.out; omega) hall
          clear hle hTr hLr hSr hWr HX HF HG hall
          generalize fdR l s = q at *
          obtain ⟨qt, qp, qr, qn, qo⟩ := q
          simp only at F1 F2
          go_wp2_with fail
          refine F1.mono ?_
          rintro e w1 ⟨o1, c1, rfl, hb1⟩
          have hb2 : Below w0.heap.size w0 (w1.alloc (.cells #[.string qt, .string qp, .string qr, .slice o1 qn c1] 26)) := (hb.trans (hb1.mono hb.size)).alloc (hb.trans (hb1.mono hb.size)).size _
          have F3 := F2.out _ hb2
          obtain ⟨w2, hw2⟩ : ∃ w2, w2 = w1.alloc (.cells #[.string qt, .string qp, .string qr, .slice o1 qn c1] 26) := ⟨_, rfl⟩
          have hK2 : Blk w2 w1.heap.size [.string qt, .string qp, .string qr, .slice o1 qn c1] 26 := by rw [hw2]; exact Blk.new w1 [.string qt, .string qp, .string qr, .slice o1 qn c1] _
          rw [← hw2] at F3 hb2
          clear F1 F2 hb hb1
          go_wp2_with fail
          rw [← hw2]
          clear hw2
          generalize w1.heap.size = X9 at *
          refine F3.mono ?_
          rintro e w3 ⟨o2, c2, rfl, hb3⟩
          obtain ⟨w4, hw4⟩ : ∃ w4, w4 = w3.alloc (.cells #[.string qt, .string qp, .string qr, .slice o2 qn c2] 26) := ⟨_, rfl⟩
          have hK4 : Blk w4 w3.heap.size [.string qt, .string qp, .string qr, .slice o2 qn c2] 26 := by rw [hw4]; exact Blk.new w3 [.string qt, .string qp, .string qr, .slice o2 qn c2] _
          have hb4 : Below w2.heap.size w2 w4 := by rw [hw4]; exact hb3.alloc hb3.size _
          have hK2' := hK2.carry (hb4.block _ hK2.lt)
          have m0 := hK2'.cell 0 rfl
          have m1 := hK2'.cell 1 rfl
          have m2 := hK2'.cell 2 rfl
          have m3 := hK2'.cell 3 rfl
          have n0 := hK4.cell 0 rfl
          have n1 := hK4.cell 1 rfl
          have n2 := hK4.cell 2 rfl
          have n3 := hK4.cell 3 rfl
          have L4 := L.out w4 (hb2.trans (hb4.mono hb2.size))
          have y1 : (qt.toList == qt.toList) = true := by simp
          have y2 : (qp.toList == qp.toList) = true := by simp
          have y3 : (qr.toList == qr.toList) = true := by simp
          have y4 : (qo == qo) = true := by simp
          clear hK2 hK4 hK2' hb2 hb3 hb4 F3 L
          rw [hw4] at m0 m1 m2 m3 n0 n1 n2 n3
          go_wp2_with fail
          rw [← hw4]
          refine L4.mono ?_
          rintro e w5 ⟨rfl, hb5⟩
          clear hw4 m0 m1 m2 m3 n0 n1 n2 n3
          go_wp2_with fail
          go_ret
          exact ⟨rfl, hb5⟩
end Go.Proofs.YtgjajffpkjcenaaDoor.schemaFits
