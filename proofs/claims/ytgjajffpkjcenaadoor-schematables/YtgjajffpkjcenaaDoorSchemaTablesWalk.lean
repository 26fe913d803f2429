/-
  THE LAW SchemaTables: the walk.
-/
import Derived.Test.YtgjajffpkjcenaaDoorSchLives
import Derived.Test.YtgjajffpkjcenaaDoorSchRefTab
import Derived.Test.YtgjajffpkjcenaaDoorSchRefOrd
namespace Go.Proofs.YtgjajffpkjcenaaDoor.schemaTables
open Go.RowKit

attribute [local go_sem] Oper.pureAt Oper.pureUpon

set_option maxRecDepth 100000 in
set_option maxHeartbeats 4000000 in
theorem walk (T : Tb) (ao : Option Addr) (cap : Nat) (s : ByteArray) (C : List ByteArray) (co : Option Addr) (cc : Nat) (w : World) (hC : CSee w ao T.cs) (hT : T.Ok) (_hs : s.size ≤ 140737488351232) (hN : NSee w co C) (hCl : C.length * 16 ≤ 140737488351232) (hCs : ∀ s ∈ C, s.size ≤ maxLen) (hS : SpT w) :
    Calls Tryd.prog 4 #[T.v ao cap, .string s, .slice co C.length cc] w fun e w' => e = .returned (.bool true) ∧ Below w.heap.size w w' := by
  obtain ⟨w0, hw0⟩ : ∃ w0, w0 = w.alloc (.cells #[.string T.t, .string T.p, .string T.r, .slice ao T.cs.length cap] 26) := ⟨_, rfl⟩
  have hB : Below w.heap.size w w0 := by rw [hw0]; exact (Below.refl _ _).alloc (Nat.le_refl _) _
  have hX : Blk w0 w.heap.size [.string T.t, .string T.p, .string T.r, .slice ao T.cs.length cap] 26 := by rw [hw0]; exact Blk.new w [.string T.t, .string T.p, .string T.r, .slice ao T.cs.length cap] _
  have HX : Hid (∀ wr, Below w0.heap.size w0 wr → Blk wr w.heap.size [.string T.t, .string T.p, .string T.r, .slice ao T.cs.length cap] 26 ∧ CSee wr ao T.cs ∧ NSee wr co C ∧ SpT wr ∧ Below w.heap.size w wr) := fun wr hb =>
    ⟨hX.carry (hb.block _ hX.lt), hC.below (hB.trans (hb.mono hB.size)), hN.below (hB.trans (hb.mono hB.size)), hS.below (hB.trans (hb.mono hB.size)) hS.lt, hB.trans (hb.mono hB.size)⟩
  have L : Hid (∀ wr, Below w0.heap.size w0 wr → Calls Tryd.prog 8 #[] wr fun e w' => e = .returned (.bool true) ∧ Below wr.heap.size wr w') := fun wr hb => lives17_any wr (HX.out wr hb).2.2.2.1
  have hnz : (T.cs.length : Int) ≤ 5864062014634 := by have := hT.l; omega
  have hcz : (C.length : Int) ≤ 8796093021952 := by omega
  have HT : Hid T.Ok := hT
  have HCs : Hid (∀ s ∈ C, s.size ≤ maxLen) := hCs
  have e3 := hX.cell 3 rfl
  rw [hw0] at e3
  clear hC hT hN hCl hCs hS hB hX
  simp only [Tb.v, Tb.a]
  by_cases hbig : 200 < T.cs.length ∨ 200 < C.length
  · have L0 := L.out w0 (Below.refl _ _)
    have HW : Hid (∀ w', Below w0.heap.size w0 w' → Below w.heap.size w w') := fun w' h => (HX.out w' h).2.2.2.2
    clear HX L HT HCs
    generalize T.cs.length = n at *
    generalize C.length = m at *
    by_cases hn : 200 < n
    · have hz : (200 : Int) < (n : Int) := by omega
      clear hbig hn
      go_enter Tryd.func4, Tryd.ntmps4
      go_wp2_with fail
      rw [← hw0]
      refine L0.mono ?_
      rintro e w1 ⟨rfl, hb1⟩
      have hW := HW.out w1 hb1
      go_wp2_with fail
      go_ret
      exact ⟨rfl, hW⟩
    · have hz : ¬ (200 : Int) < (n : Int) := by omega
      have hz2 : (200 : Int) < (m : Int) := by omega
      clear hbig hn
      go_enter Tryd.func4, Tryd.ntmps4
      go_wp2_with fail
      rw [← hw0]
      refine L0.mono ?_
      rintro e w1 ⟨rfl, hb1⟩
      have hW := HW.out w1 hb1
      go_wp2_with fail
      go_ret
      exact ⟨rfl, hW⟩
  · have hn : T.cs.length ≤ 200 := by omega
    have hm : C.length ≤ 200 := by omega
    have hz : ¬ (200 : Int) < (T.cs.length : Int) := by omega
    have hz2 : ¬ (200 : Int) < (C.length : Int) := by omega
    have K1 : Hid (∀ wr, Below w0.heap.size w0 wr → Calls Tryd.prog 11 #[.agg #[.string T.t, .string T.p, .string T.r, .slice ao T.cs.length cap], .string s] wr fun e w' => e = .returned (.tuple #[.agg #[.string (colR T.cs s).1.n, .int .i64 (colR T.cs s).1.k], .bool (colR T.cs s).2]) ∧ Below w0.heap.size w0 w') := fun wr hb => (column_any T ao cap s wr (HX.out wr hb).2.1 (by omega)).mono fun e w' h => ⟨h.1, hb.trans (h.2.mono hb.size)⟩
    have K2 : Hid (∀ wr, Below w0.heap.size w0 wr → Calls Tryd.prog 12 #[.agg #[.string T.t, .string T.p, .string T.r, .slice ao T.cs.length cap], .string s] wr fun e w' => e = .returned (.tuple #[.agg #[.string (colR T.cs s).1.n, .int .i64 (colR T.cs s).1.k], .bool (colR T.cs s).2]) ∧ Below wr.heap.size wr w') := fun wr hb => refColumn_any T ao cap s wr (HX.out wr hb).2.1 (by omega)
    have K3 : Hid (∀ wr, Below w0.heap.size w0 wr → Calls Tryd.prog 13 #[.agg #[.string T.t, .string T.p, .string T.r, .slice ao T.cs.length cap], .slice co C.length cc] wr fun e w' => ∃ a1 c1, e = .returned (.tuple #[.slice a1 (ordR C (nmC T)).length c1, .bool (allIn C (nmC T))]) ∧ NSee w' a1 (ordR C (nmC T)) ∧ Below wr.heap.size wr w') := fun wr hb => (order_any T ao cap C co cc wr (HX.out wr hb).2.1 HT.out (by omega) (HX.out wr hb).2.2.1 (by omega) HCs.out).mono fun e w' h => by
      obtain ⟨v, rfl, ho, h2⟩ := h
      obtain ⟨a1, c1, rfl, h3⟩ := owns_see ho rfl
      exact ⟨a1, c1, rfl, h3, h2⟩
    have K4 : Hid (∀ wr, Below w0.heap.size w0 wr → Calls Tryd.prog 14 #[.agg #[.string T.t, .string T.p, .string T.r, .slice ao T.cs.length cap], .slice co C.length cc] wr fun e w' => ∃ a1 c1, e = .returned (.tuple #[.slice a1 (ordR C (nmC T)).length c1, .bool (allIn C (nmC T))]) ∧ NSee w' a1 (ordR C (nmC T)) ∧ Below wr.heap.size wr w') := fun wr hb => (refOrder_any T ao cap C co cc wr (HX.out wr hb).2.1 (by omega) (HX.out wr hb).2.2.1 (by omega)).mono fun e w' h => by
      obtain ⟨v, rfl, ho, h2⟩ := h
      obtain ⟨a1, c1, rfl, h3⟩ := owns_see ho rfl
      exact ⟨a1, c1, rfl, h3, h2⟩
    have K5 : Hid (∀ wr, Below w0.heap.size w0 wr → Calls Tryd.prog 15 #[.agg #[.string T.t, .string T.p, .string T.r, .slice ao T.cs.length cap]] wr fun e w' => e = .returned (.int .i64 (tabE T)) ∧ Below wr.heap.size wr w') := fun wr hb => table_any T ao cap wr (HX.out wr hb).2.1 HT.out (HX.out wr hb).2.2.2.1
    have K6 : Hid (∀ wr, Below w0.heap.size w0 wr → Calls Tryd.prog 16 #[.agg #[.string T.t, .string T.p, .string T.r, .slice ao T.cs.length cap]] wr fun e w' => e = .returned (.int .i64 (tabE T)) ∧ Below wr.heap.size wr w') := fun wr hb => refTable_any T ao cap wr (HX.out wr hb).2.1 HT.out (by omega)
    have HB : Hid (∀ wr, Below w0.heap.size w0 wr → Blk wr w.heap.size [.string T.t, .string T.p, .string T.r, .slice ao T.cs.length cap] 26 ∧ Below w.heap.size w wr) := fun wr hb => ⟨(HX.out wr hb).1, (HX.out wr hb).2.2.2.2⟩
    have HlN : (nmC T).length = T.cs.length := by simp [nmC]
    have HlR : (ordR C (nmC T)).length ≤ 1000000 := by have h1 := ordR_len C (nmC T); omega
    have HR : Hid ((ordR C (nmC T)).length ≤ 1000000) := HlR
    have e0 := ((HX.out w0 (Below.refl _ _)).1).cell 0 rfl
    have e1 := ((HX.out w0 (Below.refl _ _)).1).cell 1 rfl
    have e2 := ((HX.out w0 (Below.refl _ _)).1).cell 2 rfl
    rw [hw0] at e0 e1 e2
    clear HX HT HCs hbig hn hm HlR HlN
    generalize ordR C (nmC T) = R at *
    generalize allIn C (nmC T) = b at *
    generalize colR T.cs s = q at *
    generalize tabE T = tE at *
    obtain ⟨⟨qn, qk⟩, qb⟩ := q
    simp only at K1 K2
    go_enter Tryd.func4, Tryd.ntmps4
    go_wp2_with fail
    rw [← hw0]
    clear hw0 e0 e1 e2 e3
    refine (K1.out w0 (Below.refl _ _)).mono ?_
    rintro e w1 ⟨rfl, hb1⟩
    have hb2 : Below w0.heap.size w0 (w1.alloc (.cells #[.string qn, .int .i64 qk] 29)) := hb1.alloc hb1.size _
    have g0 := (HB.out _ hb2).1.cell 0 rfl
    have g1 := (HB.out _ hb2).1.cell 1 rfl
    have g2 := (HB.out _ hb2).1.cell 2 rfl
    have g3 := (HB.out _ hb2).1.cell 3 rfl
    clear K1
    go_wp2_with fail
    obtain ⟨w2, hw2⟩ : ∃ w2, w2 = w1.alloc (.cells #[.string qn, .int .i64 qk] 29) := ⟨_, rfl⟩
    have hq1 : Blk w2 w1.heap.size [.string qn, .int .i64 qk] 29 := by rw [hw2]; exact Blk.new w1 [.string qn, .int .i64 qk] _
    rw [← hw2] at hb2 ⊢
    clear hw2 g0 g1 g2 g3 hb1
    generalize w1.heap.size = X7 at *
    refine (K2.out w2 hb2).mono ?_
    rintro e w3 ⟨rfl, hb3⟩
    have hb4 : Below w2.heap.size w2 (w3.alloc (.cells #[.string qn, .int .i64 qk] 29)) := hb3.alloc hb3.size _
    obtain ⟨w4, hw4⟩ : ∃ w4, w4 = w3.alloc (.cells #[.string qn, .int .i64 qk] 29) := ⟨_, rfl⟩
    have hq2 : Blk w4 w3.heap.size [.string qn, .int .i64 qk] 29 := by rw [hw4]; exact Blk.new w3 [.string qn, .int .i64 qk] _
    have hq1' := hq1.carry (hb4.block _ hq1.lt)
    rw [← hw4] at hb4 hq1'
    have hb5 : Below w0.heap.size w0 w4 := hb2.trans (hb4.mono hb2.size)
    have g0 := (HB.out _ hb5).1.cell 0 rfl
    have g1 := (HB.out _ hb5).1.cell 1 rfl
    have g2 := (HB.out _ hb5).1.cell 2 rfl
    have g3 := (HB.out _ hb5).1.cell 3 rfl
    rw [hw4] at g0 g1 g2 g3
    clear K2 hq1 hb3 hb4 hb2
    go_wp2_with fail
    rw [← hw4]
    clear hw4 g0 g1 g2 g3
    generalize w3.heap.size = X9 at *
    refine (K3.out w4 hb5).mono ?_
    rintro e w5 ⟨a1, c1, rfl, hn1, hb6⟩
    have hb7 : Below w0.heap.size w0 w5 := hb5.trans (hb6.mono hb5.size)
    have q1 := hq1'.carry (hb6.block _ hq1'.lt)
    have q2 := hq2.carry (hb6.block _ hq2.lt)
    have g0 := (HB.out _ hb7).1.cell 0 rfl
    have g1 := (HB.out _ hb7).1.cell 1 rfl
    have g2 := (HB.out _ hb7).1.cell 2 rfl
    have g3 := (HB.out _ hb7).1.cell 3 rfl
    clear K3 hq1' hq2 hb6 hb5
    go_wp2_with fail
    refine (K4.out w5 hb7).mono ?_
    rintro e w6 ⟨a2, c2, rfl, hn2, hb8⟩
    have hb9 : Below w0.heap.size w0 w6 := hb7.trans (hb8.mono hb7.size)
    have hn1' := hn1.below hb8
    have p1 := q1.carry (hb8.block _ q1.lt)
    have p2 := q2.carry (hb8.block _ q2.lt)
    have hY := (HB.out _ hb9).1
    clear K4 hn1 q1 q2 hb8 hb7 g0 g1 g2 g3
    have k0 : ∀ z : Cl w6.heap.size w6, z.u.cell? ⟨w.heap.size, 0, none⟩ = some (.string T.t) := fun z => z.cell hY.lt (hY.cell 0 rfl)
    have k1 : ∀ z : Cl w6.heap.size w6, z.u.cell? ⟨w.heap.size, 1, none⟩ = some (.string T.p) := fun z => z.cell hY.lt (hY.cell 1 rfl)
    have k2 : ∀ z : Cl w6.heap.size w6, z.u.cell? ⟨w.heap.size, 2, none⟩ = some (.string T.r) := fun z => z.cell hY.lt (hY.cell 2 rfl)
    have k3 : ∀ z : Cl w6.heap.size w6, z.u.cell? ⟨w.heap.size, 3, none⟩ = some (.slice ao T.cs.length cap) := fun z => z.cell hY.lt (hY.cell 3 rfl)
    have k4 : ∀ z : Cl w6.heap.size w6, z.u.cell? ⟨X7, 0, none⟩ = some (.string qn) := fun z => z.cell p1.lt (p1.cell 0 rfl)
    have k5 : ∀ z : Cl w6.heap.size w6, z.u.cell? ⟨X7, 1, none⟩ = some (.int .i64 qk) := fun z => z.cell p1.lt (p1.cell 1 rfl)
    have k6 : ∀ z : Cl w6.heap.size w6, z.u.cell? ⟨X9, 0, none⟩ = some (.string qn) := fun z => z.cell p2.lt (p2.cell 0 rfl)
    have k7 : ∀ z : Cl w6.heap.size w6, z.u.cell? ⟨X9, 1, none⟩ = some (.int .i64 qk) := fun z => z.cell p2.lt (p2.cell 1 rfl)
    have HN : Hid (∀ u, Below w6.heap.size w6 u → Below w0.heap.size w0 u ∧ Calls Tryd.prog 17 #[.slice a1 R.length c1, .slice a2 R.length c2] u fun e w' => e = .returned (.bool true) ∧ Below u.heap.size u w') := fun u hu => ⟨hb9.trans (hu.mono hb9.size), texts17_any a1 a2 R c1 c2 u (hn1'.below hu) (hn2.below hu) HR.out⟩
    have hbb : (b == b) = true := by simp
    have hqq : (qb == qb) = true := by simp
    have htt : (tE == tE) = true := by simp
    have hnn : (qn.toList == qn.toList) = true := by simp
    clear hY p1 p2 hn1' hn2
    go_wp2_with fail
    refine wp_region_sched (fun w' => ∃ p : Cl w6.heap.size w6, w' = p.u) [(0, true), (2, true), (1, false), (3, false), (4, true), (5, true), (6, true), (7, true), (8, true), (9, true), (10, true), (11, true), (12, true), (13, true), (14, true), (15, true), (16, true), (17, true), (18, false), (19, true), (20, true), (21, true), (22, true), (23, true), (24, true), (25, true), (26, false), (27, true), (28, true)] rfl (by kernel_rfl) (by kernel_rfl) (by kernel_rfl) ⟨⟨_, (Below.refl _ w6).drew⟩, rfl⟩ ?_
    iterate 2 (refine sched_pure rfl (fun K hK => ?_); go_simp; first | refine hK _ ?_ | refine ⟨_, fun _ => rfl, hK _ ?_⟩; clear hK K)
    refine sched_loud rfl (fun K hK => ?_)
    go_simp
    refine (K5.out _ (hb9.trans ((Below.refl _ w6).drew.mono hb9.size))).mono ?_
    rintro e u1 ⟨rfl, h1⟩
    have b1 : Below w6.heap.size w6 u1 := (Below.refl _ w6).drew.trans h1
    refine hK _ _ ⟨⟨u1, b1⟩, rfl⟩ ?_
    clear hK K
    refine sched_loud rfl (fun K hK => ?_)
    go_simp
    refine (K6.out _ (HN.out u1 b1).1).mono ?_
    rintro e u2 ⟨rfl, h2⟩
    have b2 : Below w6.heap.size w6 u2 := b1.trans (h2.mono b1.size)
    refine hK _ _ ⟨⟨u2, b2⟩, rfl⟩ ?_
    clear hK K
    iterate 14 (refine sched_pure rfl (fun K hK => ?_); go_simp; first | refine hK _ ?_ | refine ⟨_, fun _ => rfl, hK _ ?_⟩; clear hK K)
    refine sched_loud rfl (fun K hK => ?_)
    go_simp
    refine ((HN.out u2 b2).2).mono ?_
    rintro e u3 ⟨rfl, h3⟩
    have b3 : Below w6.heap.size w6 u3 := b2.trans (h3.mono b2.size)
    refine hK _ _ ⟨⟨u3, b3⟩, rfl⟩ ?_
    clear hK K
    iterate 7 (refine sched_pure rfl (fun K hK => ?_); go_simp; first | refine hK _ ?_ | refine ⟨_, fun _ => rfl, hK _ ?_⟩; clear hK K)
    refine sched_loud rfl (fun K hK => ?_)
    go_simp
    refine (L.out u3 (HN.out u3 b3).1).mono ?_
    rintro e u4 ⟨rfl, h4⟩
    have b4 : Below w6.heap.size w6 u4 := b3.trans (h4.mono b3.size)
    have hW := (HB.out u4 (HN.out u4 b4).1).2
    refine hK _ _ ⟨⟨u4, b4⟩, rfl⟩ ?_
    clear hK K
    iterate 2 (refine sched_pure rfl (fun K hK => ?_); go_simp; first | refine hK _ ?_ | refine ⟨_, fun _ => rfl, hK _ ?_⟩; clear hK K)
    refine sched_nil ?_
    go_wp2_with fail
    go_ret
    exact ⟨rfl, hW⟩
end Go.Proofs.YtgjajffpkjcenaaDoor.schemaTables
