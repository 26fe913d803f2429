/-
  THE LAW RingTells: the walk.
-/
import Derived.Test.YtcnceipkoapcpaaDoorRngLives
import Derived.Test.YtcnceipkoapcpaaDoorRngRefQ
import Derived.Test.YtcnceipkoapcpaaDoorRngRefNew
import Derived.Deep.Cut
import Derived.Deep.CutRange
import Derived.Test.YtcnceipkoapcpaaDoorLoud
namespace Go.Proofs.YtcnceipkoapcpaaDoor.ringTells
open Go.RowKit

attribute [local go_sem] Oper.pureAt Oper.pureUpon

/-- What stays through the law's loops: the ring, the document's, the points that were told. -/
structure KT (w0 w : World) (r d g gd cd : Nat) (l : List Pt) (c : Nat) : Prop where
  bel : Below w0.heap.size w0 w
  rg : RgAt w 48 r l c
  dg : RgAt w 33 d l c
  db : Blk w d [.slice (some ⟨gd, 0, none⟩) l.length cd, .int .i64 (c : Int)] 33
  dp : PSees w (some ⟨gd, 0, none⟩) l
  ps : PSees w (some ⟨g, 0, none⟩) l
theorem KT.to {w0 w w' : World} {r d g gd cd : Nat} {l : List Pt} {c : Nat} (h : KT w0 w r d g gd cd l c) (hb : Below w.heap.size w w') : KT w0 w' r d g gd cd l c :=
  ⟨h.bel.trans (hb.mono h.bel.size), h.rg.to hb, h.dg.to hb, h.db.carry (hb.block _ h.db.lt), h.dp.below hb (Nat.le_refl _), h.ps.below hb (Nat.le_refl _)⟩
theorem pt_at {w : World} {g : Nat} {l : List Pt} (h : PSees w (some ⟨g, 0, none⟩) l) {i : Nat} (hi : i < l.length) : w.cell? ⟨g, i * 2, none⟩ = some (.int .i64 (tokAt l i)) ∧ w.cell? ⟨g, i * 2 + 1, none⟩ = some (.int .i64 (ndAt l i : Int)) := by
  have hc : l[i]? = some l[i] := List.getElem?_eq_getElem hi
  obtain ⟨g', e, h1, h2⟩ := h i _ hc
  cases e
  have e1 : tokAt l i = l[i].tok := by simp [tokAt, List.getD, hc]
  rw [e1, ndAt_at hc]
  exact ⟨h1, h2⟩
set_option maxRecDepth 100000 in
set_option maxHeartbeats 40000000 in
theorem walk (x y z t0 i0 : Int) (w : World) (_hx : -9223372036854775808 ≤ x ∧ x ≤ 9223372036854775807) (_hy : -9223372036854775808 ≤ y ∧ y ≤ 9223372036854775807) (_hz : -9223372036854775808 ≤ z ∧ z ≤ 9223372036854775807) (_ht : -9223372036854775808 ≤ t0 ∧ t0 ≤ 9223372036854775807) (_hi : -9223372036854775808 ≤ i0 ∧ i0 ≤ 9223372036854775807) :
    Calls Tryd.prog 3 #[.agg #[.int .i64 x, .int .i64 y, .int .i64 z], .int .i64 t0, .int .i64 i0] w fun e w' => e = .returned (.bool true) ∧ Below w.heap.size w w' := by
  have L : Hid (∀ u : World, Calls Tryd.prog 10 #[] u fun e w' => e = .returned (.bool true) ∧ Below u.heap.size u w') := lives15_any
  obtain ⟨w1, hw1⟩ : ∃ w1, w1 = w.alloc (.cells #[.int .i64 x, .int .i64 y, .int .i64 z] 23) := ⟨_, rfl⟩
  have hB1 : Below w.heap.size w w1 := by rw [hw1]; exact (Below.refl _ _).alloc (Nat.le_refl _) _
  have hb1 : Blk w1 w.heap.size [.int .i64 x, .int .i64 y, .int .i64 z] 23 := by rw [hw1]; exact Blk.new w _ _
  have HE : Hid (w.alloc (.cells #[.int .i64 x, .int .i64 y, .int .i64 z] 23) = w1) := hw1.symm
  clear hw1
  have c0 : ∀ q : Cl w1.heap.size w1, q.u.cell? ⟨w.heap.size, 0, none⟩ = some (.int .i64 x) := fun q => q.cell hb1.lt (hb1.cell 0 rfl)
  have c1 : ∀ q : Cl w1.heap.size w1, q.u.cell? ⟨w.heap.size, 1, none⟩ = some (.int .i64 y) := fun q => q.cell hb1.lt (hb1.cell 1 rfl)
  have c2 : ∀ q : Cl w1.heap.size w1, q.u.cell? ⟨w.heap.size, 2, none⟩ = some (.int .i64 z) := fun q => q.cell hb1.lt (hb1.cell 2 rfl)
  haveI := Cl.inh w1.heap.size w1
  clear hb1
  by_cases hok : OkN x y z
  · obtain ⟨N, t, c, rfl, rfl, rfl, hN5, ht1, ht8, hc1, hcN⟩ : ∃ N t c : Nat, x = N ∧ y = t ∧ z = c ∧ N ≤ 5 ∧ 1 ≤ t ∧ t ≤ 8 ∧ 1 ≤ c ∧ c ≤ N := by
      unfold OkN at hok
      exact ⟨x.toNat, y.toNat, z.toNat, by omega, by omega, by omega, by omega, by omega, by omega, by omega, by omega⟩
    have ok := ptsP_ok tkP (N := N) (t := t) (c := c) hN5 ht1 ht8 hc1 hcN
    have NW : Hid (∀ u, Calls Tryd.prog 8 #[.int .i64 (N : Int), .int .i64 (t : Int), .int .i64 (c : Int)] u fun e w' => ∃ r, e = .returned (.pointer (some ⟨r, 0, none⟩)) ∧ RgAt w' 48 r (ptsP tkP N t) c ∧ Below u.heap.size u w') :=
      fun u => (newR_ok N t c hN5 ht1 ht8 hc1 hcN u).mono fun e w' ⟨r, he, h1, h2, h3⟩ => ⟨r, he, h1, h3⟩
    have NR : Hid (∀ u, Calls Tryd.prog 9 #[.int .i64 (N : Int), .int .i64 (t : Int), .int .i64 (c : Int)] u fun e w' => ∃ r, e = .returned (.pointer (some ⟨r, 0, none⟩)) ∧ RgAt w' 33 r (ptsP tkP N t) c ∧ Below u.heap.size u w') :=
      fun u => refNewR_ok N t c hN5 ht1 ht8 hc1 hcN u
    generalize ptsP tkP N t = l at *
    have hl40 := ok.le
    have hpos := ok.pos
    have hlz : (l.length : Int) ≤ 40 := by omega
    have CP : Hid (∀ (u : World) (r : Nat), RgAt u 48 r l c → Calls Tryd.prog 11 #[.pointer (some ⟨r, 0, none⟩)] u fun e w' => ∃ g cap, e = .returned (.slice (some ⟨g, 0, none⟩) l.length cap) ∧ PSees w' (some ⟨g, 0, none⟩) l ∧ Below u.heap.size u w') := fun u r h => (pointsR_at h hc1 hl40).mono fun e w' ⟨ao, cap, he, hs, hb⟩ => by
      obtain ⟨g, rfl, -⟩ := hs 0 _ (List.getElem?_eq_getElem hpos)
      exact ⟨g, cap, he, hs, hb⟩
    have CC : Hid (∀ (u : World) (r : Nat), RgAt u 48 r l c → Calls Tryd.prog 12 #[.pointer (some ⟨r, 0, none⟩)] u fun e w' => e = .returned (.int .i64 (c : Int)) ∧ w' = u) := fun u r h => copiesR_at h hc1
    have CR : Hid (∀ (u : World) (r : Nat) (t : Int), RgAt u 48 r l c → Calls Tryd.prog 13 #[.pointer (some ⟨r, 0, none⟩), .int .i64 t] u fun e w' => e = .returned (.int .i64 (rngP l t : Int)) ∧ Below u.heap.size u w') := fun u r t h => rangeR_any h ok t
    have DR : Hid (∀ (u : World) (r : Nat) (t : Int), RgAt u 33 r l c → Calls Tryd.prog 14 #[.pointer (some ⟨r, 0, none⟩), .int .i64 t] u fun e w' => e = .returned (.int .i64 (rngP l t : Int)) ∧ Below u.heap.size u w') := fun u r t h => refRange_any h hl40 t
    have CQ : Hid (∀ (u : World) (r : Nat) (i : Int), RgAt u 48 r l c → Calls Tryd.prog 16 #[.pointer (some ⟨r, 0, none⟩), .int .i64 i] u fun e w' => ∃ ao cap, e = .returned (.slice ao (repI l c i).length cap) ∧ ISees w' ao (zs (repI l c i)) ∧ Below u.heap.size u w') := fun u r i h => replicasR_any h ok i
    have DQ : Hid (∀ (u : World) (r : Nat) (i : Int), RgAt u 33 r l c → Calls Tryd.prog 17 #[.pointer (some ⟨r, 0, none⟩), .int .i64 i] u fun e w' => ∃ ao cap, e = .returned (.slice ao (repI l c i).length cap) ∧ ISees w' ao (zs (repI l c i)) ∧ Below u.heap.size u w') := fun u r i h => refReplicas_any h ok i
    have CG : Hid (∀ (u : World) (r : Nat) (n : Int), RgAt u 48 r l c → Calls Tryd.prog 18 #[.pointer (some ⟨r, 0, none⟩), .int .i64 n] u fun e w' => ∃ ao cap, e = .returned (.slice ao (rgT l c n l.length).length cap) ∧ ISees w' ao (zs (rgT l c n l.length)) ∧ Below u.heap.size u w') := fun u r n h => rangesR_any h ok n
    have DG : Hid (∀ (u : World) (r : Nat) (n : Int), RgAt u 33 r l c → Calls Tryd.prog 19 #[.pointer (some ⟨r, 0, none⟩), .int .i64 n] u fun e w' => ∃ ao cap, e = .returned (.slice ao (rgT l c n l.length).length cap) ∧ ISees w' ao (zs (rgT l c n l.length)) ∧ Below u.heap.size u w') := fun u r n h => refRanges_any h ok n
    have CH : Hid (∀ (u : World) (r : Nat) (i n : Int), RgAt u 48 r l c → Calls Tryd.prog 20 #[.pointer (some ⟨r, 0, none⟩), .int .i64 i, .int .i64 n] u fun e w' => e = .returned (.bool (decide (n ∈ zs (repI l c i)))) ∧ Below u.heap.size u w') := fun u r i n h => hasR_any h ok i n
    have DH : Hid (∀ (u : World) (r : Nat) (i n : Int), RgAt u 33 r l c → Calls Tryd.prog 21 #[.pointer (some ⟨r, 0, none⟩), .int .i64 i, .int .i64 n] u fun e w' => e = .returned (.bool (decide (n ∈ zs (repI l c i)))) ∧ Below u.heap.size u w') := fun u r i n h => refHas_any h ok i n
    have CI : Hid (∀ (u : World) (ao bo : Option Addr) (ca cb : Nat) (R : List Nat), R.length ≤ 1000000 → ISees u ao (zs R) → ISees u bo (zs R) → Calls Tryd.prog 15 #[.slice ao R.length ca, .slice bo R.length cb] u fun e w' => e = .returned (.bool true) ∧ Below u.heap.size u w') := fun u ao bo ca cb R hR ha hb => by
      have := ints_same ao bo (zs R) ca cb u ha hb (by rw [zs_len]; exact hR)
      rwa [zs_len] at this
    have HRL : Hid (∀ i, (repI l c i).length ≤ 1000000) := fun i => Nat.le_trans (repI_le ok i) (by omega)
    have HGL : Hid (∀ n, (rgT l c n l.length).length ≤ 1000000) := fun n => Nat.le_trans (rgT_le l c n _) (by omega)
    have HKT : Hid (∀ (u1 u2 u3 : World) (r d g : Nat), RgAt u1 48 r l c → Below w1.heap.size w1 u1 → RgAt u2 33 d l c → Below u1.heap.size u1 u2 → PSees u3 (some ⟨g, 0, none⟩) l → Below u2.heap.size u2 u3 → ∃ gd cd, KT w u3 r d g gd cd l c) := fun u1 u2 u3 r d g h1 h2 h3 h4 h5 h6 => by
      have hd := h3.to h6
      obtain ⟨gd, cd, hdb, hdp⟩ := hd.ex
      have h24 := h2.trans (h4.mono h2.size)
      have h246 := h24.trans (h6.mono h24.size)
      exact ⟨gd, cd, hB1.trans (h246.mono hB1.size), (h1.to h4).to h6, hd, hdb, hdp, h5⟩
    clear ok hok hB1
    go_enter Tryd.func3, Tryd.ntmps3
    go_upto_region 1 with fail
    rw [HE.out]
    clear HE
    refine wp_region_sched (fun w' => ∃ p : Cl w1.heap.size w1, w' = p.u) [(0, true), (1, true), (2, true), (3, true), (4, true), (5, true), (7, true), (8, true), (9, true), (10, true), (11, true), (12, true), (6, false), (13, false), (14, true), (15, true)] rfl (by kernel_rfl) (by kernel_rfl) (by kernel_rfl) ⟨⟨_, (Below.refl _ _).drew⟩, rfl⟩ ?_
    iterate 12 (refine sched_pure rfl (fun K hK => ?_); go_simp; refine hK _ ?_; clear hK K)
    refine sched_loud rfl (fun K hK => ?_)
    go_simp
    refine (NW.out _).mono ?_
    rintro e u1 ⟨r, rfl, hR, g1⟩
    have b1 : Below w1.heap.size w1 u1 := (Below.refl _ _).drew.trans g1
    refine hK _ _ ⟨⟨_, b1⟩, rfl⟩ ?_
    clear hK K
    refine sched_loud rfl (fun K hK => ?_)
    go_simp
    refine (NR.out _).mono ?_
    rintro e u2 ⟨d, rfl, hD, g2⟩
    have b2 : Below w1.heap.size w1 u2 := b1.trans (g2.mono b1.size)
    refine hK _ _ ⟨⟨_, b2⟩, rfl⟩ ?_
    clear hK K
    iterate 2 (refine sched_pure rfl (fun K hK => ?_); go_simp; refine hK _ ?_; clear hK K)
    refine sched_nil ?_
    clear NW NR c0 c1 c2 this
    go_upto_region 7 with (go_at_call 11; refine (CP.out u2 r (hR.to g2)).mono ?_; rintro e w3 ⟨g, cap, rfl, hP3, g3⟩; obtain ⟨gd, cd, k3⟩ := HKT.out u1 u2 w3 r d g hR b1 hD g2 hP3 g3; clear hR b1 hD g2 hP3 g3 HKT b2 CP g1)
    go_cut [71] from 12 (fun s71 wx => s71 = .bool false ∧ KT w wx r d g gd cd l c)
    case first =>
      have d0 : ∀ q : Cl w3.heap.size w3, q.u.cell? ⟨d, 0, none⟩ = some (.slice (some ⟨gd, 0, none⟩) l.length cd) := fun q => q.cell k3.db.lt (k3.db.cell 0 rfl)
      have d1 : ∀ q : Cl w3.heap.size w3, q.u.cell? ⟨d, 1, none⟩ = some (.int .i64 (c : Int)) := fun q => q.cell k3.db.lt (k3.db.cell 1 rfl)
      haveI := Cl.inh w3.heap.size w3
      have Q1 : Hid (∀ u, Below w3.heap.size w3 u → Calls Tryd.prog 16 #[.pointer (some ⟨r, 0, none⟩), .int .i64 i0] u fun e w' => ∃ ao cap, e = .returned (.slice ao (repI l c i0).length cap) ∧ ISees w' ao (zs (repI l c i0)) ∧ Below u.heap.size u w') := fun u hu => CQ.out u r i0 (k3.to hu).rg
      have Q2 : Hid (∀ u, Below w3.heap.size w3 u → Calls Tryd.prog 17 #[.pointer (some ⟨d, 0, none⟩), .int .i64 i0] u fun e w' => ∃ ao cap, e = .returned (.slice ao (repI l c i0).length cap) ∧ ISees w' ao (zs (repI l c i0)) ∧ Below u.heap.size u w') := fun u hu => DQ.out u d i0 (k3.to hu).dg
      have R1 : Hid (∀ u, Below w3.heap.size w3 u → Calls Tryd.prog 13 #[.pointer (some ⟨r, 0, none⟩), .int .i64 t0] u fun e w' => e = .returned (.int .i64 (rngP l t0 : Int)) ∧ Below u.heap.size u w') := fun u hu => CR.out u r t0 (k3.to hu).rg
      have R2 : Hid (∀ u, Below w3.heap.size w3 u → Calls Tryd.prog 14 #[.pointer (some ⟨d, 0, none⟩), .int .i64 t0] u fun e w' => e = .returned (.int .i64 (rngP l t0 : Int)) ∧ Below u.heap.size u w') := fun u hu => DR.out u d t0 (k3.to hu).dg
      have C1 : Hid (∀ u, Below w3.heap.size w3 u → Calls Tryd.prog 12 #[.pointer (some ⟨r, 0, none⟩)] u fun e w' => e = .returned (.int .i64 (c : Int)) ∧ w' = u) := fun u hu => CC.out u r (k3.to hu).rg
      have hRL := HRL.out i0
      have b0 : Below w3.heap.size w3 w3.drew := (Below.refl _ _).drew
      clear CG DG CH DH HGL L CQ DQ CR DR CC HRL
      generalize repI l c i0 = R at *
      generalize rngP l t0 = K0 at *
      refine wp_region_sched (fun w' => ∃ p : Cl w3.heap.size w3, w' = p.u) [(0, true), (1, true), (2, true), (3, true), (4, true), (5, true), (6, true), (7, true), (8, true), (9, true), (11, true), (12, true), (13, true), (14, true), (10, false), (15, true), (16, true), (17, true), (18, true), (19, true), (21, true), (22, true), (20, false), (23, false), (24, true), (25, true), (26, true), (27, true), (28, true), (30, true), (31, true), (29, false), (32, false), (33, false), (34, true), (35, true)] rfl (by kernel_rfl) (by kernel_rfl) (by kernel_rfl) ⟨⟨_, b0⟩, rfl⟩ ?_
      iterate 14 (refine sched_pure rfl (fun K hK => ?_); go_simp; refine hK _ ?_; clear hK K)
      refine sched_loud rfl (fun K hK => ?_)
      go_simp
      refine (C1.out _ b0).mono ?_
      rintro e x1 ⟨rfl, hw⟩
      obtain rfl := hw.symm
      clear hw
      refine hK _ _ ⟨⟨_, b0⟩, rfl⟩ ?_
      clear hK K
      iterate 7 (refine sched_pure rfl (fun K hK => ?_); go_simp; refine hK _ ?_; clear hK K)
      refine sched_loud rfl (fun K hK => ?_)
      go_simp
      refine (R1.out _ b0).mono ?_
      rintro e x2 ⟨rfl, g2⟩
      have b2 : Below w3.heap.size w3 x2 := b0.trans (g2.mono b0.size)
      refine hK _ _ ⟨⟨_, b2⟩, rfl⟩ ?_
      clear hK K
      refine sched_loud rfl (fun K hK => ?_)
      go_simp
      refine (R2.out _ b2).mono ?_
      rintro e x3 ⟨rfl, g3⟩
      have b3 : Below w3.heap.size w3 x3 := b2.trans (g3.mono b2.size)
      refine hK _ _ ⟨⟨_, b3⟩, rfl⟩ ?_
      clear hK K
      iterate 7 (refine sched_pure rfl (fun K hK => ?_); go_simp; refine hK _ ?_; clear hK K)
      refine sched_loud rfl (fun K hK => ?_)
      go_simp
      refine (Q1.out _ b3).mono ?_
      rintro e x4 ⟨ao4, ca4, rfl, hI4, g4⟩
      have b4 : Below w3.heap.size w3 x4 := b3.trans (g4.mono b3.size)
      refine hK _ _ ⟨⟨_, b4⟩, rfl⟩ ?_
      clear hK K
      refine sched_loud rfl (fun K hK => ?_)
      go_simp
      refine (Q2.out _ b4).mono ?_
      rintro e x5 ⟨ao5, ca5, rfl, hI5, g5⟩
      have b5 : Below w3.heap.size w3 x5 := b4.trans (g5.mono b4.size)
      have hI45 := hI4.below g5 (Nat.le_refl _)
      refine hK _ _ ⟨⟨_, b5⟩, rfl⟩ ?_
      clear hK K
      refine sched_loud rfl (fun K hK => ?_)
      go_simp
      refine (CI.out _ _ _ _ _ R hRL hI45 hI5).mono ?_
      rintro e x6 ⟨rfl, g6⟩
      have b6 : Below w3.heap.size w3 x6 := b5.trans (g6.mono b5.size)
      refine hK _ _ ⟨⟨_, b6⟩, rfl⟩ ?_
      clear hK K
      iterate 2 (refine sched_pure rfl (fun K hK => ?_); go_simp; refine hK _ ?_; clear hK K)
      refine sched_nil ?_
      go_wp2_with fail
      go_meet
      case rel => exact ⟨rfl, k3.to b6⟩
    case rest =>
      obtain ⟨rfl, k4⟩ := hcut
      clear k3 CC
      go_wp2_with fail
      go_loopw [74] (fun s74 wr => ∃ i : Nat, i ≤ l.length ∧ s74 = .int .i64 (i : Int) ∧ KT w wr r d g gd cd l c) (fun s74 _ => l.length - (intOf s74).toNat)
      case atStart => exact ⟨0, by omega, rfl, k4⟩
      case round =>
        obtain ⟨i, hi, rfl, k5⟩ := hrel
        clear k4
        rcases Nat.lt_or_ge i l.length with hlt | hge
        · have hltz : (i : Int) < (l.length : Int) := by omega
          clear CG DG CH DH HGL L
          go_upto_region 12 with fail
          go_cut [133] from 77 to 133 (fun s133 wx => s133 = .bool false ∧ KT w wx r d g gd cd l c)
          case first =>
            have d0 : ∀ q : Cl wr.heap.size wr, q.u.cell? ⟨d, 0, none⟩ = some (.slice (some ⟨gd, 0, none⟩) l.length cd) := fun q => q.cell k5.db.lt (k5.db.cell 0 rfl)
            have p0 : ∀ q : Cl wr.heap.size wr, q.u.cell? ⟨g, i * 2, none⟩ = some (.int .i64 (tokAt l i)) := fun q => (pt_at (k5.to q.h).ps hlt).1
            have p1 : ∀ q : Cl wr.heap.size wr, q.u.cell? ⟨g, i * 2 + 1, none⟩ = some (.int .i64 (ndAt l i : Int)) := fun q => (pt_at (k5.to q.h).ps hlt).2
            have e0 : ∀ q : Cl wr.heap.size wr, q.u.cell? ⟨gd, i * 2, none⟩ = some (.int .i64 (tokAt l i)) := fun q => (pt_at (k5.to q.h).dp hlt).1
            have e1 : ∀ q : Cl wr.heap.size wr, q.u.cell? ⟨gd, i * 2 + 1, none⟩ = some (.int .i64 (ndAt l i : Int)) := fun q => (pt_at (k5.to q.h).dp hlt).2
            haveI := Cl.inh wr.heap.size wr
            have Q1 : Hid (∀ u, Below wr.heap.size wr u → Calls Tryd.prog 16 #[.pointer (some ⟨r, 0, none⟩), .int .i64 (i : Int)] u fun e w' => ∃ ao cap, e = .returned (.slice ao (repI l c i).length cap) ∧ ISees w' ao (zs (repI l c i)) ∧ Below u.heap.size u w') := fun u hu => CQ.out u r i (k5.to hu).rg
            have Q2 : Hid (∀ u, Below wr.heap.size wr u → Calls Tryd.prog 17 #[.pointer (some ⟨d, 0, none⟩), .int .i64 (i : Int)] u fun e w' => ∃ ao cap, e = .returned (.slice ao (repI l c i).length cap) ∧ ISees w' ao (zs (repI l c i)) ∧ Below u.heap.size u w') := fun u hu => DQ.out u d i (k5.to hu).dg
            have R1 : Hid (∀ u, Below wr.heap.size wr u → Calls Tryd.prog 13 #[.pointer (some ⟨r, 0, none⟩), .int .i64 (tokAt l i)] u fun e w' => e = .returned (.int .i64 (rngP l (tokAt l i) : Int)) ∧ Below u.heap.size u w') := fun u hu => CR.out u r _ (k5.to hu).rg
            have R2 : Hid (∀ u, Below wr.heap.size wr u → Calls Tryd.prog 14 #[.pointer (some ⟨d, 0, none⟩), .int .i64 (tokAt l i)] u fun e w' => e = .returned (.int .i64 (rngP l (tokAt l i) : Int)) ∧ Below u.heap.size u w') := fun u hu => DR.out u d _ (k5.to hu).dg
            have hRL := HRL.out i
            have b0 : Below wr.heap.size wr wr.drew := (Below.refl _ _).drew
            clear CQ DQ CR DR HRL
            generalize repI l c i = R at *
            generalize rngP l (tokAt l i) = K0 at *
            generalize tokAt l i = T0 at *
            generalize ndAt l i = nd at *
            refine wp_region_sched (fun w' => ∃ p : Cl wr.heap.size wr, w' = p.u) [(0, true), (1, true), (2, true), (3, true), (4, true), (5, true), (6, true), (7, true), (8, true), (9, true), (10, true), (11, true), (12, true), (13, true), (14, true), (15, true), (16, true), (17, true), (18, true), (19, true), (20, true), (21, true), (22, true), (23, true), (24, true), (25, true), (26, true), (27, true), (28, true), (29, true), (30, true), (31, true), (32, true), (34, true), (35, true), (33, false), (36, false), (37, false), (38, true), (39, true), (40, true), (41, true), (42, true), (43, true), (44, true), (45, true), (46, true), (48, true), (49, true), (50, true), (51, true), (52, true), (53, true), (47, false), (54, false), (55, true), (56, true)] rfl (by kernel_rfl) (by kernel_rfl) (by kernel_rfl) ⟨⟨_, b0⟩, rfl⟩ ?_
            iterate 35 (refine sched_pure rfl (fun K hK => ?_); go_simp; refine hK _ ?_; clear hK K)
            refine sched_loud rfl (fun K hK => ?_)
            go_simp
            refine (Q1.out _ b0).mono ?_
            rintro e x4 ⟨ao4, ca4, rfl, hI4, g4⟩
            have b4 : Below wr.heap.size wr x4 := b0.trans (g4.mono b0.size)
            refine hK _ _ ⟨⟨_, b4⟩, rfl⟩ ?_
            clear hK K
            refine sched_loud rfl (fun K hK => ?_)
            go_simp
            refine (Q2.out _ b4).mono ?_
            rintro e x5 ⟨ao5, ca5, rfl, hI5, g5⟩
            have b5 : Below wr.heap.size wr x5 := b4.trans (g5.mono b4.size)
            have hI45 := hI4.below g5 (Nat.le_refl _)
            refine hK _ _ ⟨⟨_, b5⟩, rfl⟩ ?_
            clear hK K
            refine sched_loud rfl (fun K hK => ?_)
            go_simp
            refine (CI.out _ _ _ _ _ R hRL hI45 hI5).mono ?_
            rintro e x6 ⟨rfl, g6⟩
            have b6 : Below wr.heap.size wr x6 := b5.trans (g6.mono b5.size)
            refine hK _ _ ⟨⟨_, b6⟩, rfl⟩ ?_
            clear hK K
            iterate 15 (refine sched_pure rfl (fun K hK => ?_); go_simp; refine hK _ ?_; clear hK K)
            refine sched_loud rfl (fun K hK => ?_)
            go_simp
            refine (R1.out _ b6).mono ?_
            rintro e x7 ⟨rfl, g7⟩
            have b7 : Below wr.heap.size wr x7 := b6.trans (g7.mono b6.size)
            refine hK _ _ ⟨⟨_, b7⟩, rfl⟩ ?_
            clear hK K
            refine sched_loud rfl (fun K hK => ?_)
            go_simp
            refine (R2.out _ b7).mono ?_
            rintro e x8 ⟨rfl, g8⟩
            have b8 : Below wr.heap.size wr x8 := b7.trans (g8.mono b7.size)
            refine hK _ _ ⟨⟨_, b8⟩, rfl⟩ ?_
            clear hK K
            iterate 2 (refine sched_pure rfl (fun K hK => ?_); go_simp; refine hK _ ?_; clear hK K)
            refine sched_nil ?_
            go_wp2_with fail
            go_meet
            case rel => exact ⟨rfl, k5.to b8⟩
          case rest =>
            obtain ⟨rfl, k6⟩ := hcut
            clear k5 CQ DQ CR DR HRL CI
            go_wp2_with fail
            go_roundw
            case rel => exact ⟨i + 1, by omega, by go_num, k6⟩
            case measure => (simp [intOf]; try omega)
        · have hltz : ¬ (i : Int) < (l.length : Int) := by omega
          clear CQ DQ CR DR HRL
          go_wp2_with fail
          go_loopw [11] (fun s11 wi => ∃ j : Nat, j ≤ 8 ∧ s11 = .int .i64 ((j : Int) - 1) ∧ KT w wi r d g gd cd l c) (fun s11 _ => 8 - (intOf s11 + 1).toNat)
          case atStart => exact ⟨0, by omega, by go_num, k5⟩
          case round =>
            obtain ⟨j, hj, rfl, k6⟩ := hrel
            clear k5
            rcases Nat.lt_or_ge j 8 with hj8 | hj8
            · obtain ⟨n, hn⟩ : ∃ n : Int, n = (j : Int) - 1 := ⟨_, rfl⟩
              rw [← hn]
              have hnz : n < 7 := by omega
              have hnl : -1 ≤ n := by omega
              have G1 : Hid (Calls Tryd.prog 18 #[.pointer (some ⟨r, 0, none⟩), .int .i64 n] wr fun e w' => ∃ ao cap, e = .returned (.slice ao (rgT l c n l.length).length cap) ∧ ISees w' ao (zs (rgT l c n l.length)) ∧ Below wr.heap.size wr w') := CG.out wr r n k6.rg
              have G2 : Hid (∀ u, KT w u r d g gd cd l c → Calls Tryd.prog 19 #[.pointer (some ⟨d, 0, none⟩), .int .i64 n] u fun e w' => ∃ ao cap, e = .returned (.slice ao (rgT l c n l.length).length cap) ∧ ISees w' ao (zs (rgT l c n l.length)) ∧ Below u.heap.size u w') := fun u k => DG.out u d n k.dg
              have H1 : Hid (∀ u, KT w u r d g gd cd l c → Calls Tryd.prog 20 #[.pointer (some ⟨r, 0, none⟩), .int .i64 i0, .int .i64 n] u fun e w' => e = .returned (.bool (decide (n ∈ zs (repI l c i0)))) ∧ Below u.heap.size u w') := fun u k => CH.out u r i0 n k.rg
              have H2 : Hid (∀ u, KT w u r d g gd cd l c → Calls Tryd.prog 21 #[.pointer (some ⟨d, 0, none⟩), .int .i64 i0, .int .i64 n] u fun e w' => e = .returned (.bool (decide (n ∈ zs (repI l c i0)))) ∧ Below u.heap.size u w') := fun u k => DH.out u d i0 n k.dg
              have hGL := HGL.out n
              have HN : Hid (n = (j : Int) - 1) := hn
              generalize rgT l c n l.length = G at *
              generalize decide (n ∈ zs (repI l c i0)) = bh at *
              clear CG DG CH DH HGL L hn
              go_wp2_with (first | (go_at_call 18; refine G1.out.mono ?_; rintro e v1 ⟨ao1, ca1, rfl, hI1, g1⟩; have k7 := k6.to g1; clear k6 g1 G1) | (go_at_call 19; refine (G2.out v1 k7).mono ?_; rintro e v2 ⟨ao2, ca2, rfl, hI2, g2⟩; have k8 := k7.to g2; have hI12 := hI1.below g2 (Nat.le_refl _); clear k7 g2 G2 hI1) | (go_at_call 15; refine (CI.out v2 ao1 ao2 ca1 ca2 G hGL hI12 hI2).mono ?_; rintro e v3 ⟨rfl, g3⟩; have k9 := k8.to g3; clear k8 g3 hI12 hI2) | (go_at_call 20; refine (H1.out v3 k9).mono ?_; rintro e v4 ⟨rfl, g4⟩; have k10 := k9.to g4; clear k9 g4 H1) | (go_at_call 21; refine (H2.out v4 k10).mono ?_; rintro e v5 ⟨rfl, g5⟩; have k11 := k10.to g5; clear k10 g5 H2))
              go_roundw
              case rel => exact ⟨j + 1, by omega, by have := HN.out; first | (go_num; done) | (congr 1; omega), k11⟩
              case measure => (have := HN.out; simp [intOf]; try omega)
            · obtain rfl : j = 8 := by omega
              clear CG DG CH DH HGL CI
              go_wp2_with (go_at_call 10; refine (L.out _).mono ?_; rintro e v5 ⟨rfl, g5⟩)
              go_ret
              exact ⟨rfl, (k6.to g5).bel⟩
  · have NW : Hid (∀ u, Calls Tryd.prog 8 #[.int .i64 x, .int .i64 y, .int .i64 z] u fun e w' => e = .returned (.pointer none) ∧ w' = u) := fun u => newR_bad x y z hok u
    have NR : Hid (∀ u, Calls Tryd.prog 9 #[.int .i64 x, .int .i64 y, .int .i64 z] u fun e w' => e = .returned (.pointer none) ∧ w' = u) := fun u => refNewR_bad x y z hok u
    clear hok
    go_enter Tryd.func3, Tryd.ntmps3
    go_upto_region 1 with fail
    rw [HE.out]
    clear HE
    refine wp_region_cl w1.heap.size (by kernel_rfl) (by kernel_rfl) ?_
    repeat (quiet_step (first | (go_at_call 8; exact Calls.mono (NW.out _) (fun e w' ⟨h1, h2⟩ => ⟨h1, _, h2⟩)) | (go_at_call 9; exact Calls.mono (NR.out _) (fun e w' ⟨h1, h2⟩ => ⟨h1, _, h2⟩))))
    refine wpQuiet_nil ?_
    rintro wz ⟨q, rfl⟩
    have B2 : Below w.heap.size w q.u := hB1.trans (q.h.mono hB1.size)
    clear NW NR c0 c1 c2
    go_wp2_with (go_at_call 10; refine (L.out _).mono ?_; rintro e u5 ⟨rfl, b5⟩)
    go_ret
    exact ⟨rfl, B2.trans (b5.mono B2.size)⟩
end Go.Proofs.YtcnceipkoapcpaaDoor.ringTells
