/-
  CONTRACT: the document's example of layer 15 (lives).
-/
import Derived.Test.YtcnceipkoapcpaaDoorRngNew
namespace Go.Proofs.YtcnceipkoapcpaaDoor
open Go.RowKit

theorem one_pts : ptsP tkP 1 1 = [⟨tkP 1 0, 1⟩] := by
  refine (srtP_only (l := rawP tkP 1 1) ?_ (by simp)).symm
  exact List.Perm.refl _
theorem one_ok : RgOk [⟨tkP 1 0, 1⟩] 1 1 := by
  rw [← one_pts]
  exact ptsP_ok tkP (by omega) (by omega) (by omega) (by omega) (by omega)
theorem one_rng (t : Int) : rngP [⟨tkP 1 0, 1⟩] t = 0 := by
  unfold rngP
  simp only [List.length_cons, List.length_nil, Nat.zero_add, Nat.mod_one]
theorem one_rep : repI [⟨tkP 1 0, 1⟩] 1 0 = [1] := by
  have := repI_at [⟨tkP 1 0, 1⟩] 1 (i := 0) (by simp)
  exact this.trans rfl
set_option maxRecDepth 100000 in
set_option maxHeartbeats 2000000 in
theorem lives15_any (w : World) : Calls Tryd.prog 10 #[] w fun e w' => e = .returned (.bool true) ∧ Below w.heap.size w w' := by
  have NW : Hid (Calls Tryd.prog 8 #[.int .i64 1, .int .i64 1, .int .i64 1] w fun e w' => ∃ r, e = .returned (.pointer (some ⟨r, 0, none⟩)) ∧ RgAt w' 48 r [⟨tkP 1 0, 1⟩] 1 ∧ Below w.heap.size w w') :=
    (newR_ok 1 1 1 (by omega) (by omega) (by omega) (by omega) (by omega) w).mono fun e w' ⟨r, he, h1, h2, h3⟩ => ⟨r, he, one_pts ▸ h1, h3⟩
  have CP : Hid (∀ (u : World) (r : Nat), RgAt u 48 r [⟨tkP 1 0, 1⟩] 1 → Calls Tryd.prog 11 #[.pointer (some ⟨r, 0, none⟩)] u fun e w' => ∃ ao cap, e = .returned (.slice ao 1 cap) ∧ Below u.heap.size u w') := fun u r h => (pointsR_at (c := 1) h (Nat.le_refl 1) (by simp)).mono fun e w' ⟨ao, cap, he, _, hb⟩ => ⟨ao, cap, he, hb⟩
  have CR : Hid (∀ (u : World) (r : Nat) (t : Int), RgAt u 48 r [⟨tkP 1 0, 1⟩] 1 → Calls Tryd.prog 13 #[.pointer (some ⟨r, 0, none⟩), .int .i64 t] u fun e w' => e = .returned (.int .i64 0) ∧ Below u.heap.size u w') := fun u r t h => (rangeR_any h one_ok t).mono fun e w' ⟨he, hb⟩ => ⟨by rw [he, one_rng]; rfl, hb⟩
  have CO : Hid (∀ (u : World) (r : Nat), RgAt u 48 r [⟨tkP 1 0, 1⟩] 1 → Calls Tryd.prog 22 #[.pointer (some ⟨r, 0, none⟩), .string ⟨#[120]⟩] u fun e w' => e = .returned (.int .i64 0) ∧ Below u.heap.size u w') := fun u r h => (ofR_any h one_ok ⟨#[120]⟩ (by decide)).mono fun e w' ⟨he, hb⟩ => ⟨by rw [he, one_rng]; rfl, hb⟩
  have CC : Hid (∀ (u : World) (r : Nat), RgAt u 48 r [⟨tkP 1 0, 1⟩] 1 → Calls Tryd.prog 12 #[.pointer (some ⟨r, 0, none⟩)] u fun e w' => e = .returned (.int .i64 1) ∧ w' = u) := fun u r h => copiesR_at (c := 1) h (Nat.le_refl 1)
  have CQ : Hid (∀ (u : World) (r : Nat), RgAt u 48 r [⟨tkP 1 0, 1⟩] 1 → Calls Tryd.prog 16 #[.pointer (some ⟨r, 0, none⟩), .int .i64 0] u fun e w' => ∃ ao cap, e = .returned (.slice ao 1 cap) ∧ ISees w' ao (zs [1]) ∧ Below u.heap.size u w') := fun u r h => (replicasR_any h one_ok 0).mono fun e w' ⟨ao, cap, he, h1, h2⟩ => by
    rw [one_rep] at he h1
    exact ⟨ao, cap, he, h1, h2⟩
  have CI : Hid (∀ (u : World) (ao : Option Addr) (ca : Nat), ISees u ao (zs [1]) → Calls Tryd.prog 15 #[.slice ao 1 ca, .slice (some ⟨u.heap.size, 0, none⟩) 1 1] (u.alloc (.cells #[.int .i64 1] 3)) fun e w' => e = .returned (.bool true) ∧ Below u.heap.size u w') := fun u ao ca ha => by
    have hb : Below u.heap.size u (u.alloc (.cells #[.int .i64 1] 3)) := (Below.refl _ _).alloc (Nat.le_refl _) _
    have hk : Blk (u.alloc (.cells #[.int .i64 1] 3)) u.heap.size (vI (zs [1])) 3 := Blk.new u _ _
    exact (ints_same ao (some ⟨u.heap.size, 0, none⟩) (zs [1]) ca 1 _ (ha.below hb (Nat.le_refl _)) (fun i x hx => ⟨u.heap.size, 0, rfl, by rw [Nat.zero_add]; exact hk.cell i (vI_at hx)⟩) (by decide)).mono fun e w' ⟨he, h⟩ => ⟨he, hb.trans (h.mono hb.size)⟩
  generalize tkP 1 0 = tk at *
  go_enter Tryd.func10, Tryd.ntmps10
  go_upto_region 2 with (go_at_call 8; refine NW.out.mono ?_; rintro e w1 ⟨r, rfl, hR, hB⟩)
  clear NW
  go_wp2_with (go_at_call 11; refine (CP.out w1 r hR).mono ?_; rintro e w2 ⟨ao, cap, rfl, b2⟩; have R2 := hR.to b2; have B2 := hB.trans (b2.mono hB.size); clear CP)
  refine (CR.out w2 r _ R2).mono ?_
  rintro e w3 ⟨rfl, b3⟩
  have R3 := R2.to b3
  have B3 := B2.trans (b3.mono B2.size)
  clear R2 B2 b2 b3 hR hB
  go_wp2_with fail
  refine (CR.out w3 r _ R3).mono ?_
  rintro e w4 ⟨rfl, b4⟩
  have R4 := R3.to b4
  have B4 := B3.trans (b4.mono B3.size)
  clear R3 B3 b4 CR
  go_wp2_with fail
  refine (CQ.out w4 r R4).mono ?_
  rintro e w5 ⟨ao5, cap5, rfl, hI, b5⟩
  have R5 := R4.to b5
  have B5 := B4.trans (b5.mono B4.size)
  clear R4 B4 b5 CQ
  go_wp2_with fail
  refine (CI.out w5 ao5 cap5 hI).mono ?_
  rintro e w6 ⟨rfl, b6⟩
  have R6 := R5.to b6
  have B6 := B5.trans (b6.mono B5.size)
  clear R5 B5 b6 CI hI
  go_wp2_with fail
  refine (CO.out w6 r R6).mono ?_
  rintro e w7 ⟨rfl, b7⟩
  have R7 := R6.to b7
  have B7 := B6.trans (b7.mono B6.size)
  clear R6 B6 b7 CO
  go_wp2_with fail
  refine (CC.out w7 r R7).mono ?_
  rintro e w8 ⟨rfl, hw⟩
  obtain rfl := hw.symm
  clear hw
  go_wp2_with fail
  go_ret
  exact ⟨rfl, B7⟩
end Go.Proofs.YtcnceipkoapcpaaDoor
