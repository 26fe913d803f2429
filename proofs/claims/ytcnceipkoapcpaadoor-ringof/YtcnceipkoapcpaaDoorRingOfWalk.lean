/-
  THE LAW RingOf: the walk.
-/
import Derived.Test.YtcnceipkoapcpaaDoorRngLives
import Derived.Test.YtcnceipkoapcpaaDoorRngRefQ
import Derived.Test.YtcnceipkoapcpaaDoorRngRefNew
namespace Go.Proofs.YtcnceipkoapcpaaDoor.ringOf
open Go.RowKit

attribute [local go_sem] Oper.pureAt Oper.pureUpon

set_option maxRecDepth 100000 in
set_option maxHeartbeats 4000000 in
theorem walk (x y z : Int) (s : ByteArray) (w : World) (_hx : -9223372036854775808 ≤ x ∧ x ≤ 9223372036854775807) (_hy : -9223372036854775808 ≤ y ∧ y ≤ 9223372036854775807) (_hz : -9223372036854775808 ≤ z ∧ z ≤ 9223372036854775807) (_hs : s.size ≤ 140737488351232) :
    Calls Tryd.prog 4 #[.agg #[.int .i64 x, .int .i64 y, .int .i64 z], .string s] w fun e w' => e = .returned (.bool true) ∧ Below w.heap.size w w' := by
  have L : Hid (∀ u : World, Calls Tryd.prog 10 #[] u fun e w' => e = .returned (.bool true) ∧ Below u.heap.size u w') := lives15_any
  obtain ⟨w1, hw1⟩ : ∃ w1, w1 = w.alloc (.cells #[.int .i64 x, .int .i64 y, .int .i64 z] 23) := ⟨_, rfl⟩
  have hB1 : Below w.heap.size w w1 := by rw [hw1]; exact (Below.refl _ _).alloc (Nat.le_refl _) _
  have hb1 : Blk w1 w.heap.size [.int .i64 x, .int .i64 y, .int .i64 z] 23 := by rw [hw1]; exact Blk.new w _ _
  have HE : Hid (w.alloc (.cells #[.int .i64 x, .int .i64 y, .int .i64 z] 23) = w1) := hw1.symm
  clear hw1
  by_cases h10 : 10000 < s.size
  · have h10z : (10000 : Int) < (s.size : Int) := by omega
    clear hb1
    go_enter Tryd.func4, Tryd.ntmps4
    go_upto_region 1 with fail
    rw [HE.out]
    clear HE
    go_wp2_with (go_at_call 10; refine (L.out _).mono ?_; rintro e w2 ⟨rfl, b2⟩)
    go_ret
    exact ⟨rfl, hB1.trans (b2.mono hB1.size)⟩
  · have h10z : ¬ (10000 : Int) < (s.size : Int) := by omega
    have c0 : ∀ q : Cl w1.heap.size w1, q.u.cell? ⟨w.heap.size, 0, none⟩ = some (.int .i64 x) := fun q => q.cell hb1.lt (hb1.cell 0 rfl)
    have c1 : ∀ q : Cl w1.heap.size w1, q.u.cell? ⟨w.heap.size, 1, none⟩ = some (.int .i64 y) := fun q => q.cell hb1.lt (hb1.cell 1 rfl)
    have c2 : ∀ q : Cl w1.heap.size w1, q.u.cell? ⟨w.heap.size, 2, none⟩ = some (.int .i64 z) := fun q => q.cell hb1.lt (hb1.cell 2 rfl)
    haveI := Cl.inh w1.heap.size w1
    have hs10 : s.size ≤ 140737488354000 := by omega
    clear hb1 h10
    by_cases hok : OkN x y z
    · obtain ⟨N, t, c, rfl, rfl, rfl, hN5, ht1, ht8, hc1, hcN⟩ : ∃ N t c : Nat, x = N ∧ y = t ∧ z = c ∧ N ≤ 5 ∧ 1 ≤ t ∧ t ≤ 8 ∧ 1 ≤ c ∧ c ≤ N := by
        unfold OkN at hok
        exact ⟨x.toNat, y.toNat, z.toNat, by omega, by omega, by omega, by omega, by omega, by omega, by omega, by omega⟩
      have ok := ptsP_ok tkP (N := N) (t := t) (c := c) hN5 ht1 ht8 hc1 hcN
      have NW : Hid (∀ u, Calls Tryd.prog 8 #[.int .i64 (N : Int), .int .i64 (t : Int), .int .i64 (c : Int)] u fun e w' => ∃ r, e = .returned (.pointer (some ⟨r, 0, none⟩)) ∧ RgAt w' 48 r (ptsP tkP N t) c ∧ Below u.heap.size u w') :=
        fun u => (newR_ok N t c hN5 ht1 ht8 hc1 hcN u).mono fun e w' ⟨r, he, h1, h2, h3⟩ => ⟨r, he, h1, h3⟩
      have NR : Hid (∀ u, Calls Tryd.prog 9 #[.int .i64 (N : Int), .int .i64 (t : Int), .int .i64 (c : Int)] u fun e w' => ∃ r, e = .returned (.pointer (some ⟨r, 0, none⟩)) ∧ RgAt w' 33 r (ptsP tkP N t) c ∧ Below u.heap.size u w') :=
        fun u => refNewR_ok N t c hN5 ht1 ht8 hc1 hcN u
      generalize ptsP tkP N t = l at *
      have hl40 := ok.le
      have CO : Hid (∀ (u : World) (r : Nat), RgAt u 48 r l c → Calls Tryd.prog 22 #[.pointer (some ⟨r, 0, none⟩), .string s] u fun e w' => e = .returned (.int .i64 (rngP l (tokenB s) : Int)) ∧ Below u.heap.size u w') := fun u r h => ofR_any h ok s hs10
      have CF : Hid (∀ (u : World) (r : Nat), RgAt u 33 r l c → Calls Tryd.prog 23 #[.pointer (some ⟨r, 0, none⟩), .string s] u fun e w' => e = .returned (.int .i64 (rngP l (tokenB s) : Int)) ∧ Below u.heap.size u w') := fun u r h => refOf_any h hl40 s hs10
      generalize rngP l (tokenB s) = K at *
      clear ok hok
      go_enter Tryd.func4, Tryd.ntmps4
      go_upto_region 1 with fail
      rw [HE.out]
      clear HE
      go_upto_region 3 with fail
      refine wp_region_sched (fun w' => ∃ p : Cl w1.heap.size w1, w' = p.u) [(0, true), (1, true), (2, true), (3, true), (4, true), (5, true), (7, true), (8, true), (9, true), (10, true), (11, true), (12, true), (6, false), (13, false), (14, true), (15, true)] rfl (by kernel_rfl) (by kernel_rfl) (by kernel_rfl) ⟨⟨_, (Below.refl _ _).drew⟩, rfl⟩ ?_
      iterate 12 (refine sched_pure rfl (fun K hK => ?_); go_simp; refine hK _ ?_; clear hK K)
      refine sched_loud rfl (fun K hK => ?_)
      go_simp
      refine (NW.out _).mono ?_
      rintro e u1 ⟨r, rfl, hR, g1⟩
      have b1 : Below w1.heap.size w1 u1 := (Below.refl _ _).drew.trans g1
      refine hK _ _ ⟨⟨u1, b1⟩, rfl⟩ ?_
      clear hK
      refine sched_loud rfl (fun K hK => ?_)
      go_simp
      refine (NR.out _).mono ?_
      rintro e u2 ⟨q, rfl, hQ, g2⟩
      have b2 : Below w1.heap.size w1 u2 := b1.trans (g2.mono b1.size)
      have hR2 := hR.to g2
      refine hK _ _ ⟨⟨u2, b2⟩, rfl⟩ ?_
      clear hK
      iterate 2 (refine sched_pure rfl (fun K hK => ?_); go_simp; refine hK _ ?_; clear hK)
      refine sched_nil ?_
      have B2 : Below w.heap.size w u2 := hB1.trans (b2.mono hB1.size)
      clear hR g1 g2 b1 b2 NW NR c0 c1 c2 hB1 this
      go_wp2_with (first | (go_at_call 22; refine (CO.out u2 r hR2).mono ?_; rintro e u3 ⟨rfl, b3⟩; have hQ3 := hQ.to b3; have B3 := B2.trans (b3.mono B2.size); clear hR2 hQ b3 B2) | (go_at_call 23; refine (CF.out u3 q hQ3).mono ?_; rintro e u4 ⟨rfl, b4⟩; have B4 := B3.trans (b4.mono B3.size); clear hQ3 B3 b4) | (go_at_call 10; refine (L.out _).mono ?_; rintro e u5 ⟨rfl, b5⟩))
      go_ret
      exact ⟨rfl, B4.trans (b5.mono B4.size)⟩
    · have NW : Hid (∀ u, Calls Tryd.prog 8 #[.int .i64 x, .int .i64 y, .int .i64 z] u fun e w' => e = .returned (.pointer none) ∧ w' = u) := fun u => newR_bad x y z hok u
      have NR : Hid (∀ u, Calls Tryd.prog 9 #[.int .i64 x, .int .i64 y, .int .i64 z] u fun e w' => e = .returned (.pointer none) ∧ w' = u) := fun u => refNewR_bad x y z hok u
      clear hok
      go_enter Tryd.func4, Tryd.ntmps4
      go_upto_region 1 with fail
      rw [HE.out]
      clear HE
      go_upto_region 3 with fail
      refine wp_region_cl w1.heap.size (by kernel_rfl) (by kernel_rfl) ?_
      repeat (quiet_step (first | (go_at_call 8; exact Calls.mono (NW.out _) (fun e w' ⟨h1, h2⟩ => ⟨h1, _, h2⟩)) | (go_at_call 9; exact Calls.mono (NR.out _) (fun e w' ⟨h1, h2⟩ => ⟨h1, _, h2⟩))))
      refine wpQuiet_nil ?_
      rintro wz ⟨q, rfl⟩
      have B2 : Below w.heap.size w q.u := hB1.trans (q.h.mono hB1.size)
      clear NW NR c0 c1 c2
      go_wp2_with (go_at_call 10; refine (L.out _).mono ?_; rintro e u5 ⟨rfl, b5⟩)
      go_ret
      exact ⟨rfl, B2.trans (b5.mono B2.size)⟩
end Go.Proofs.YtcnceipkoapcpaaDoor.ringOf
