/-
  THE WALK of the law MergeSubs: what one list lacks of another one, and the cells of a partition.
-/
import Derived.Test.YtdpglmgnbhpneaaMrgFar
import Derived.Test.YtdpglmgnbhpneaaMrgLives
namespace Go.Proofs.Ytdpglmgnbhpneaa.mergeSubs
open Go.RowKit

attribute [local go_sem] Oper.pureAt Oper.pureUpon
set_option maxRecDepth 100000 in
set_option maxHeartbeats 2000000 in
theorem walk (ao : Option Addr) (la : List Cx) (ac : Nat) (bo : Option Addr) (lb : List Cx) (bc : Nat) (k : Kb) (w : World)
    (sa : XSees w ao la) (ha : la.length ≤ 100000 ∧ ∀ c ∈ la, wtX c ≤ 562949953421312) (sb : XSees w bo lb) (hb : lb.length ≤ 100000 ∧ ∀ c ∈ lb, wtX c ≤ 562949953421312) :
    Calls Try.prog 4 #[.slice ao la.length ac, .slice bo lb.length bc, k.v] w fun e w' => e = .returned (.bool true) ∧ Below w.heap.size w w' := by
  have LV : Hid (∀ w : World, Calls Try.prog 10 #[] w fun e w' => e = .returned (.bool true) ∧ Below w.heap.size w w') := lives10_any
  obtain ⟨wk, hwk⟩ : ∃ wk, wk = w.alloc (.cells #[.string k.t, .string k.p, .int .i64 k.r, .string k.c] 33) := ⟨_, rfl⟩
  have hBk : Below w.heap.size w wk := by rw [hwk]; exact (Below.refl _ _).alloc (Nat.le_refl _) _
  have bK : Blk wk w.heap.size [.string k.t, .string k.p, .int .i64 k.r, .string k.c] 33 := by rw [hwk]; exact Blk.new w _ _
  have h12 : Below wk.heap.size wk (wk.alloc (.cells #[.slice ao la.length ac, .slice bo lb.length bc] 25)) := (Below.refl _ _).alloc (Nat.le_refl _) _
  have hB2 : Below w.heap.size w (wk.alloc (.cells #[.slice ao la.length ac, .slice bo lb.length bc] 25)) := hBk.trans (h12.mono hBk.size)
  have FW : Hid (Calls Try.prog 9 #[.slice (some ⟨wk.heap.size, 0, none⟩) 2 2] (wk.alloc (.cells #[.slice ao la.length ac, .slice bo lb.length bc] 25)) fun e w' => (∃ b, e = .returned (.bool b)) ∧ Below (wk.alloc (.cells #[.slice ao la.length ac, .slice bo lb.length bc] 25)).heap.size (wk.alloc (.cells #[.slice ao la.length ac, .slice bo lb.length bc] 25)) w') :=
    (few_any (some ⟨wk.heap.size, 0, none⟩) [⟨ao, ac, la⟩, ⟨bo, bc, lb⟩] 2 _ (lsees2 wk ⟨ao, ac, la⟩ ⟨bo, bc, lb⟩) (fun v hv => by
      simp only [List.mem_cons, List.not_mem_nil, or_false] at hv
      rcases hv with rfl | rfl
      · exact sa.below hB2 (Nat.le_refl _)
      · exact sb.below hB2 (Nat.le_refl _)) (by simp) (fun v hv => by
      simp only [List.mem_cons, List.not_mem_nil, or_false] at hv
      rcases hv with rfl | rfl
      · exact ⟨by show la.length ≤ _; omega, ha.2⟩
      · exact ⟨by show lb.length ≤ _; omega, hb.2⟩)).mono fun e w' ⟨⟨b, h1, _⟩, h2⟩ => ⟨⟨b, h1⟩, h2⟩
  have HW : Hid (∀ u, Below wk.heap.size wk u → XSees u ao la ∧ XSees u bo lb ∧ Blk u w.heap.size [.string k.t, .string k.p, .int .i64 k.r, .string k.c] 33 ∧ Below w.heap.size w u) := fun u hu =>
    ⟨sa.below (hBk.trans (hu.mono hBk.size)) (Nat.le_refl _), sb.below (hBk.trans (hu.mono hBk.size)) (Nat.le_refl _), bK.carry (hu.block _ bK.lt), hBk.trans (hu.mono hBk.size)⟩
  have hla : la.length ≤ 1000000 := by omega
  have hlb : lb.length ≤ 1000000 := by omega
  obtain ⟨kt, kp, kr, kc'⟩ := k
  simp only [Kb.v] at *
  have h12' : Hid (Below wk.heap.size wk (wk.alloc (.cells #[.slice ao la.length ac, .slice bo lb.length bc] 25))) := h12
  rw [hwk] at FW
  rw [World.size_alloc] at FW
  clear sa sb ha hb bK h12 hB2
  go_enter Try.func4, Try.ntmps4
  go_wp2_with fail
  refine FW.out.mono ?_
  rw [← hwk]
  clear FW hwk
  rintro e w3 ⟨⟨b, rfl⟩, hb3⟩
  have hb3' : Below wk.heap.size wk w3 := h12'.out.trans (hb3.mono h12'.out.size)
  clear hb3 h12'
  cases b with
  | false =>
    have HE := (HW.out w3 hb3').2.2.2
    go_wp2_with fail
    refine (LV.out _).mono ?_
    rintro e w4 ⟨rfl, hb4⟩
    go_wp2_with fail
    go_ret
    exact ⟨rfl, HE.trans (hb4.mono HE.size)⟩
  | true =>
    obtain ⟨sa3, sb3, bK3, B3⟩ := HW.out w3 hb3'
    have RS : Hid (Calls Try.prog 16 #[.slice ao la.length ac, .slice bo lb.length bc] w3 fun e w' => ∃ v, e = .returned v ∧ w'.ownsRow w3.heap.size 39 10 v (lck (nrm lb) (nrm la)).length ((lck (nrm lb) (nrm la)).flatMap xs10) ∧ Below w3.heap.size w3 w') := rsub_any ao bo la lb ac bc w3 sa3 sb3 hla hlb
    clear sa3 sb3 bK3
    go_wp2_with fail
    refine RS.out.mono ?_
    clear RS
    rintro e w4 ⟨v4, rfl, ho4, hb4⟩
    obtain ⟨a4, c4, rfl⟩ := ownsM_shape ho4
    have hx4 := (owns_see ho4).1
    have hb4' : Below wk.heap.size wk w4 := hb3'.trans (hb4.mono hb3'.size)
    clear ho4 hb4 hb3' B3
    go_wp2_with fail
    have HW4 : Hid (∀ u, Below w4.heap.size w4 u → XSees u ao la ∧ XSees u bo lb ∧ XSees u a4 (lck (nrm lb) (nrm la)) ∧ Below w.heap.size w u) := fun u hu => by
      have h := HW.out u (hb4'.trans (hu.mono hb4'.size))
      exact ⟨h.1, h.2.1, hx4.below hu (Nat.le_refl _), h.2.2.2⟩
    have bK4 := (HW.out w4 hb4').2.2.1
    have q0 : ∀ q : Cl w4.heap.size w4, q.u.cell? ⟨w.heap.size, 0, none⟩ = some (.string kt) := fun q => q.cell bK4.lt (bK4.cell 0 rfl)
    have q1 : ∀ q : Cl w4.heap.size w4, q.u.cell? ⟨w.heap.size, 1, none⟩ = some (.string kp) := fun q => q.cell bK4.lt (bK4.cell 1 rfl)
    have hln := lck_len (nrm lb) (nrm la)
    have hnl := nrm_len la
    generalize hLK : lck (nrm lb) (nrm la) = LK at *
    have hem : Hid (LK.isEmpty = ((LK.length : Int) == 0)) := by
      show _ = _
      cases LK with
      | nil => rfl
      | cons x r =>
        have : ¬ ((r.length : Int) + 1 = 0) := by omega
        simp [this]
    have HLK : Hid (lck (nrm lb) (nrm la) = LK) := hLK
    clear hx4 hb4' HW bK4 hLK
    haveI := Cl.inh w4.heap.size w4
    refine wp_region_sched (fun w' => ∃ p : Cl w4.heap.size w4, w' = p.u) ((0, true) :: (1, true) :: (3, true) :: (2, false) :: (4, false) :: (5, true) :: (6, true) :: (7, true) :: (9, true) :: (10, true) :: (11, true) :: (8, false) :: (12, true) :: (13, true) :: (14, true) :: (15, true) :: (16, true) :: (17, true) :: (18, true) :: (19, true) :: (21, true) :: (22, true) :: (23, true) :: (24, true) :: (25, true) :: (20, false) :: (26, false) :: (27, false) :: (28, true) :: (29, true) :: (30, false) :: (31, true) :: (32, true) :: []) rfl (by kernel_rfl) (by kernel_rfl) (by kernel_rfl) ⟨⟨_, (Below.refl _ _).drew⟩, rfl⟩ ?_
    iterate 3 (refine sched_pure rfl (fun K hK => ?_); go_simp; refine hK _ ?_; clear hK K)
    refine sched_loud rfl (fun K hK => ?_)
    go_simp
    have h0 := HW4.out w4.drew (Below.refl _ _).drew
    have P1 := sub_any ao bo la lb ac bc w4.drew h0.1 h0.2.1 hla hlb
    rw [HLK.out] at P1
    refine P1.mono ?_
    clear P1 h0
    rintro e u1 ⟨v1, rfl, ho1, hu1⟩
    have g1 : Below w4.heap.size w4 u1 := (Below.refl _ _).drew.trans hu1
    obtain ⟨a1, c1, rfl⟩ := ownsM_shape ho1
    have hx1 := (owns_see ho1).1
    refine hK _ _ ⟨⟨u1, g1⟩, rfl⟩ ?_
    clear hK K ho1 hu1
    refine sched_loud rfl (fun K hK => ?_)
    go_simp
    refine (likeX_same a1 a4 LK c1 c4 u1 hx1 (HW4.out u1 g1).2.2.1 (by omega)).mono ?_
    rintro e u2 ⟨rfl, hu2⟩
    have g2 : Below w4.heap.size w4 u2 := g1.trans (hu2.mono g1.size)
    refine hK _ _ ⟨⟨u2, g2⟩, rfl⟩ ?_
    clear hK K hu2 g1 hx1
    iterate 6 (refine sched_pure rfl (fun K hK => ?_); go_simp; refine hK _ ?_; clear hK K)
    refine sched_loud rfl (fun K hK => ?_)
    go_simp
    have P2 := over_any ao bo la lb ac bc u2 (HW4.out u2 g2).1 (HW4.out u2 g2).2.1 hla hlb
    rw [HLK.out] at P2
    refine P2.mono ?_
    clear P2
    rintro e u3 ⟨rfl, hu3⟩
    have g3 : Below w4.heap.size w4 u3 := g2.trans (hu3.mono g2.size)
    refine hK _ _ ⟨⟨u3, g3⟩, rfl⟩ ?_
    clear hK K hu3 g2
    rw [hem.out]
    generalize ((LK.length : Int) == 0) = bb
    clear hem
    iterate 13 (refine sched_pure rfl (fun K hK => ?_); go_simp; refine hK _ ?_; clear hK K)
    refine sched_loud rfl (fun K hK => ?_)
    go_simp
    refine (mpart_any ao la ac kt kp u3 (HW4.out u3 g3).1 hla).mono ?_
    rintro e u4 ⟨v4, rfl, ho4, hu4⟩
    have g4 : Below w4.heap.size w4 u4 := g3.trans (hu4.mono g3.size)
    obtain ⟨a5, c5, rfl⟩ := ownsM_shape ho4
    have hx4 := (owns_see ho4).1
    refine hK _ _ ⟨⟨u4, g4⟩, rfl⟩ ?_
    clear hK K ho4 hu4 g3
    refine sched_loud rfl (fun K hK => ?_)
    go_simp
    refine (rpart_any ao la ac kt kp u4 (HW4.out u4 g4).1 hla).mono ?_
    rintro e u5 ⟨v5, rfl, ho5, hu5⟩
    have g5 : Below w4.heap.size w4 u5 := g4.trans (hu5.mono g4.size)
    obtain ⟨a6, c6, rfl⟩ := ownsM_shape ho5
    have hx5 := (owns_see ho5).1
    have hx4' := hx4.below hu5 (Nat.le_refl _)
    refine hK _ _ ⟨⟨u5, g5⟩, rfl⟩ ?_
    clear hK K ho5 hu5 g4 hx4
    refine sched_loud rfl (fun K hK => ?_)
    go_simp
    refine (likeX_same a5 a6 (prt kt kp (nrm la)) c5 c6 u5 hx4' hx5 (by have := prt_len kt kp (nrm la); omega)).mono ?_
    rintro e u6 ⟨rfl, hu6⟩
    have g6 : Below w4.heap.size w4 u6 := g5.trans (hu6.mono g5.size)
    refine hK _ _ ⟨⟨u6, g6⟩, rfl⟩ ?_
    clear hK K hu6 g5 hx4' hx5
    iterate 2 (refine sched_pure rfl (fun K hK => ?_); go_simp; refine hK _ ?_; clear hK K)
    refine sched_loud rfl (fun K hK => ?_)
    go_simp
    refine (LV.out u6).mono ?_
    rintro e u7 ⟨rfl, hu7⟩
    have g7 : Below w4.heap.size w4 u7 := g6.trans (hu7.mono g6.size)
    refine hK _ _ ⟨⟨u7, g7⟩, rfl⟩ ?_
    clear hK K hu7 g6
    iterate 2 (refine sched_pure rfl (fun K hK => ?_); go_simp; refine hK _ ?_; clear hK K)
    refine sched_nil ?_
    have HE := (HW4.out u7 g7).2.2.2
    clear q0 q1 HW4
    go_wp2_with fail
    go_ret
    exact ⟨rfl, HE⟩
end Go.Proofs.Ytdpglmgnbhpneaa.mergeSubs
