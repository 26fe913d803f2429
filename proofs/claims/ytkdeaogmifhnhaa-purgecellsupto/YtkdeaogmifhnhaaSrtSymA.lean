/-
  CONTRACT: the library's stable sort at cells: symMerge, one cell ahead of sorted ones.
-/
import Derived.Test.YtkdeaogmifhnhaaSrtIns
namespace Go.Proofs.Ytkdeaogmifhnhaa
open Go.RowKit

theorem kx_lt {x y z : Cx} (h : kx x y ≤ 0) (g : kx y z < 0) : kx x z < 0 := by
  have h1 := kx_t h (show kx y z ≤ 0 by omega)
  by_cases e : kx x z = 0
  · have e2 := (kx_z x z).1 e
    have e3 : kx y z = kx y x := by unfold kx; rw [e2]
    have e4 := kx_n x y
    omega
  · omega
theorem set_mid2 (A : List Cx) (x l : Cx) (Z : List Cx) : ((A ++ x :: l :: Z).set A.length l).set (A.length + 1) x = A ++ l :: x :: Z := by
  rw [List.set_append_right _ _ (Nat.le_refl _), List.set_append_right _ _ (by omega)]
  simp
attribute [local irreducible] wpQuiet
set_option maxRecDepth 100000 in
set_option maxHeartbeats 4000000 in
theorem symOne_any (B g cap N : Nat) (P : List Cx) (c0 : Cx) (T Q : List Cx) (w : World) (hR0 : Rx w B g cap (P ++ (c0 :: T) ++ Q)) (hN : (P ++ (c0 :: T) ++ Q).length = N) (hL : N ≤ 1000000) (hT : 1 ≤ T.length) (hU : Up T) :
    Calls Try.prog 56 #[.slice (some ⟨g, 0, none⟩) N cap, .int .i64 P.length, .int .i64 (P.length + 1 : Nat), .int .i64 (P.length + 1 + T.length : Nat), .func (.func 34) #[] #[]] w fun e w' => e = .returned (.tuple #[]) ∧ (∃ S', St (c0 :: T) S' ∧ Up S' ∧ Rx w' B g cap (P ++ S' ++ Q)) ∧ w.grownBy w' (some g) := by
  obtain ⟨a, ha⟩ : ∃ a, a = P.length := ⟨_, rfl⟩
  obtain ⟨b, hb⟩ : ∃ b, b = P.length + 1 + T.length := ⟨_, rfl⟩
  rw [← hb, ← ha]
  have hNl := hN
  simp only [List.length_append, List.length_cons] at hNl
  have hbz : (b : Int) ≤ 1000000 := by omega
  have haz : (a : Int) + 1 < (b : Int) := by omega
  have HA : Hid (P.length = a) := ha.symm
  have HB : Hid (P.length + 1 + T.length = b ∧ b ≤ N) := ⟨hb.symm, by omega⟩
  have hNz : (N : Int) ≤ 1000000 := by omega
  have e1 : ((a + 1 : Nat) : Int) = (a : Int) + 1 := by omega
  rw [e1]
  have e2 : (a : Int) + 1 - (a : Int) = 1 := by omega
  clear ha hb hNl
  go_enter Try.func56, Try.ntmps56
  go_wp2_with fail
  go_loopw [10, 11] (fun s10 s11 wr => ∃ U W V : List Cx, T = U ++ W ++ V ∧ s10 = .int .i64 (a + 1 + U.length : Nat) ∧ s11 = .int .i64 (a + 1 + U.length + W.length : Nat) ∧ (∀ u ∈ U, kx u c0 < 0) ∧ (∀ v ∈ V, kx c0 v ≤ 0) ∧ Rx wr B g cap (P ++ (c0 :: T) ++ Q) ∧ w.grownBy wr (some g)) (fun s10 s11 _ => (intOf s11).toNat - (intOf s10).toNat)
  case atStart => exact ⟨[], T, [], by simp, by go_num, by have := HA.out; have := HB.out.1; simp; omega, (fun u hu => by cases hu), (fun v hv => by cases hv), hR0, ⟨rfl, rfl, rfl, Nat.le_refl _, fun _ _ _ => rfl⟩⟩
  case round =>
    obtain ⟨U, W, V, hT3, rfl, rfl, hu, hv, hR, hG⟩ := hrel
    obtain ⟨i, hi⟩ : ∃ i, i = a + 1 + U.length := ⟨_, rfl⟩
    obtain ⟨j, hj⟩ : ∃ j, j = a + 1 + U.length + W.length := ⟨_, rfl⟩
    rw [← hj, ← hi]
    by_cases hij : i < j
    · have hijz : (i : Int) < (j : Int) := by omega
      have hjz : (j : Int) ≤ 1000000 := by
        have h1 := HB.out
        have h2 := HA.out
        have h3 := congrArg List.length hT3
        simp only [List.length_append] at h3
        omega
      obtain ⟨h, hh⟩ : ∃ h, h = (i + j) / 2 := ⟨_, rfl⟩
      have hhi : i ≤ h := by omega
      have hhj : h < j := by omega
      have eh : ((i : Int) + (j : Int)) / 2 = (h : Int) := by omega
      obtain ⟨W1, c, W2, hW, hW1⟩ : ∃ W1 c W2, W = W1 ++ c :: W2 ∧ W1.length = h - i := by
        have hlt : h - i < W.length := by omega
        exact ⟨W.take (h - i), W[h - i], W.drop (h - i + 1), by rw [← List.drop_eq_getElem_cons hlt, List.take_append_drop], by rw [List.length_take]; omega⟩
      subst hW
      have hUT : Up (U ++ (W1 ++ c :: W2) ++ V) := hT3 ▸ hU
      have hW1c : ∀ u ∈ W1, kx u c ≤ 0 := fun u hu' => (hUT.left.right.over) u hu' c (by simp)
      have hcW2 : ∀ v ∈ W2, kx c v ≤ 0 := fun v hv' => (List.pairwise_cons.1 (hUT.left.right.right)).1 v hv'
      have hR2 : Rx wr B g cap ((P ++ c0 :: (U ++ W1)) ++ c :: (W2 ++ V ++ Q)) := by rw [hT3] at hR; simpa [List.append_assoc] using hR
      have hR3 : Rx wr B g cap (P ++ c0 :: (T ++ Q)) := by simpa [List.append_assoc] using hR
      have hpos : (P ++ c0 :: (U ++ W1)).length = h := by have := HA.out; simp only [List.length_append, List.length_cons]; omega
      have tc : TenX wr g (h * 10) c := by rw [← hpos]; exact hR2.ten (at_mid _ _ _)
      have t0 : TenX wr g (a * 10) c0 := by rw [← HA.out]; exact hR3.ten (at_mid _ _ _)
      have C : Hid (∀ w : World, Calls Try.prog 34 #[c.val, c0.val] w fun e w' => e = .returned (.int .i64 (kx c c0)) ∧ Below w.heap.size w w') := fun w => cmpKeys_any c c0 w
      have HRx : Hid (∀ w', Below wr.heap.size wr w' → Rx w' B g cap (P ++ (c0 :: T) ++ Q) ∧ w.grownBy w' (some g)) := fun w' h => ⟨hR.below h, hG.trans (grown_below h g)⟩
      have HY : Hid (kx c c0 < 0 → ∀ u ∈ U ++ W1 ++ [c], kx u c0 < 0) := fun hk u hu' => by
        rcases List.mem_append.1 hu' with hu' | hu'
        · rcases List.mem_append.1 hu' with hu' | hu'
          · exact hu u hu'
          · exact kx_lt (hW1c u hu') hk
        · obtain rfl : u = c := by simpa using hu'
          exact hk
      have HZ : Hid (¬ kx c c0 < 0 → ∀ v ∈ c :: W2 ++ V, kx c0 v ≤ 0) := fun hk v hv' => by
        have hk2 : kx c0 c ≤ 0 := by have := kx_n c c0; omega
        rcases List.mem_append.1 hv' with hv' | hv'
        · rcases List.mem_cons.1 hv' with rfl | hv'
          · exact hk2
          · exact kx_t hk2 (hcW2 v hv')
        · exact hv v hv'
      have HL : Hid (i = a + 1 + U.length ∧ j = a + 1 + U.length + (W1 ++ c :: W2).length ∧ W1.length = h - i ∧ i ≤ h ∧ h < j) := ⟨hi, hj, hW1, hhi, hhj⟩
      have HT3 : Hid (T = U ++ (W1 ++ c :: W2) ++ V) := hT3
      have Hu : Hid (∀ u ∈ U, kx u c0 < 0) := hu
      have Hv : Hid (∀ v ∈ V, kx c0 v ≤ 0) := hv
      have hhz : (h : Int) < (N : Int) := by have := HB.out; have h3 := congrArg List.length hT3; simp only [List.length_append, List.length_cons] at h3 hj; have := HA.out; omega
      have haN : (a : Int) < (N : Int) := by omega
      generalize hkx : kx c c0 = K at *
      clear hkx hi hj hh hhi hhj hW1 hUT hW1c hcW2 hR2 hR3 hpos hR hG hT3 hu hv hij hR0 hN
      obtain ⟨⟨xa, xp, xr, xc⟩, ⟨xt, xd, xl, xk, xn, xs⟩⟩ := c
      obtain ⟨⟨ya, yp, yr, yc⟩, ⟨yt, yd, yl, yk, yn, ys⟩⟩ := c0
      simp only [Cx.val, Cx.a] at C
      have qx0 : ∀ z : Cl wr.heap.size wr, z.u.cell? ⟨g, h * 10, none⟩ = some (.string xa) := fun z => (tc.below z.h tc.lt).c0
      have qx1 : ∀ z : Cl wr.heap.size wr, z.u.cell? ⟨g, h * 10 + 1, none⟩ = some (.string xp) := fun z => (tc.below z.h tc.lt).c1
      have qx2 : ∀ z : Cl wr.heap.size wr, z.u.cell? ⟨g, h * 10 + 2, none⟩ = some (.int .i64 xr) := fun z => (tc.below z.h tc.lt).c2
      have qx3 : ∀ z : Cl wr.heap.size wr, z.u.cell? ⟨g, h * 10 + 3, none⟩ = some (.string xc) := fun z => (tc.below z.h tc.lt).c3
      have qx4 : ∀ z : Cl wr.heap.size wr, z.u.cell? ⟨g, h * 10 + 4, none⟩ = some (.int .i64 xt) := fun z => (tc.below z.h tc.lt).c4
      have qx5 : ∀ z : Cl wr.heap.size wr, z.u.cell? ⟨g, h * 10 + 5, none⟩ = some (.bool xd) := fun z => (tc.below z.h tc.lt).c5
      have qx6 : ∀ z : Cl wr.heap.size wr, z.u.cell? ⟨g, h * 10 + 6, none⟩ = some (.int .i64 xl) := fun z => (tc.below z.h tc.lt).c6
      have qx7 : ∀ z : Cl wr.heap.size wr, z.u.cell? ⟨g, h * 10 + 7, none⟩ = some (.int .i64 xk) := fun z => (tc.below z.h tc.lt).c7
      have qx8 : ∀ z : Cl wr.heap.size wr, z.u.cell? ⟨g, h * 10 + 8, none⟩ = some (.int .i64 xn) := fun z => (tc.below z.h tc.lt).c8
      have qx9 : ∀ z : Cl wr.heap.size wr, z.u.cell? ⟨g, h * 10 + 9, none⟩ = some (.string xs) := fun z => (tc.below z.h tc.lt).c9
      have qy0 : ∀ z : Cl wr.heap.size wr, z.u.cell? ⟨g, a * 10, none⟩ = some (.string ya) := fun z => (t0.below z.h t0.lt).c0
      have qy1 : ∀ z : Cl wr.heap.size wr, z.u.cell? ⟨g, a * 10 + 1, none⟩ = some (.string yp) := fun z => (t0.below z.h t0.lt).c1
      have qy2 : ∀ z : Cl wr.heap.size wr, z.u.cell? ⟨g, a * 10 + 2, none⟩ = some (.int .i64 yr) := fun z => (t0.below z.h t0.lt).c2
      have qy3 : ∀ z : Cl wr.heap.size wr, z.u.cell? ⟨g, a * 10 + 3, none⟩ = some (.string yc) := fun z => (t0.below z.h t0.lt).c3
      have qy4 : ∀ z : Cl wr.heap.size wr, z.u.cell? ⟨g, a * 10 + 4, none⟩ = some (.int .i64 yt) := fun z => (t0.below z.h t0.lt).c4
      have qy5 : ∀ z : Cl wr.heap.size wr, z.u.cell? ⟨g, a * 10 + 5, none⟩ = some (.bool yd) := fun z => (t0.below z.h t0.lt).c5
      have qy6 : ∀ z : Cl wr.heap.size wr, z.u.cell? ⟨g, a * 10 + 6, none⟩ = some (.int .i64 yl) := fun z => (t0.below z.h t0.lt).c6
      have qy7 : ∀ z : Cl wr.heap.size wr, z.u.cell? ⟨g, a * 10 + 7, none⟩ = some (.int .i64 yk) := fun z => (t0.below z.h t0.lt).c7
      have qy8 : ∀ z : Cl wr.heap.size wr, z.u.cell? ⟨g, a * 10 + 8, none⟩ = some (.int .i64 yn) := fun z => (t0.below z.h t0.lt).c8
      have qy9 : ∀ z : Cl wr.heap.size wr, z.u.cell? ⟨g, a * 10 + 9, none⟩ = some (.string ys) := fun z => (t0.below z.h t0.lt).c9
      clear tc t0
      haveI := Cl.inh wr.heap.size wr
      by_cases hK : K < 0
      · have hKd : decide (K < 0) = true := decide_eq_true hK
        have hY := HY.out hK
        have HY2 : Hid (∀ u ∈ U ++ W1 ++ [(⟨⟨xa, xp, xr, xc⟩, ⟨xt, xd, xl, xk, xn, xs⟩⟩ : Cx)], kx u ⟨⟨ya, yp, yr, yc⟩, ⟨yt, yd, yl, yk, yn, ys⟩⟩ < 0) := hY
        clear HY HZ hY hK
        go_wp2_with fail
        refine wp_region_cl wr.heap.size (by kernel_rfl) (by kernel_rfl) ?_
        quiet_step (fail)
        quiet_step (fail)
        quiet_step (fail)
        quiet_step (fail)
        quiet_step (fail)
        quiet_step (fail)
        quiet_step (fail)
        quiet_step (fail)
        quiet_step (fail)
        quiet_step ((go_at_call 34; exact Cl.calls (Nat.le_refl _) (C.out _)))
        quiet_step (fail)
        refine wpQuiet_nil ?_
        rintro w0 ⟨z, rfl⟩
        obtain ⟨hR1, hG1⟩ := HRx.out _ z.h
        go_wp2_with fail
        go_roundw
        case rel => exact ⟨U ++ W1 ++ [⟨⟨xa, xp, xr, xc⟩, ⟨xt, xd, xl, xk, xn, xs⟩⟩], W2, V, by rw [HT3.out]; simp, by have := HL.out; simp only [List.length_append, List.length_cons, List.length_nil] at *; congr 1; omega, by have := HL.out; simp only [List.length_append, List.length_cons, List.length_nil] at *; congr 1; omega, HY2.out, Hv.out, hR1, hG1⟩
        case measure => have := HL.out; (simp [intOf]; try omega)
      · have hKd : decide (K < 0) = false := decide_eq_false hK
        have hZ := HZ.out hK
        have HZ2 : Hid (∀ v ∈ (⟨⟨xa, xp, xr, xc⟩, ⟨xt, xd, xl, xk, xn, xs⟩⟩ : Cx) :: W2 ++ V, kx ⟨⟨ya, yp, yr, yc⟩, ⟨yt, yd, yl, yk, yn, ys⟩⟩ v ≤ 0) := hZ
        clear HY HZ hZ hK
        go_wp2_with fail
        refine wp_region_cl wr.heap.size (by kernel_rfl) (by kernel_rfl) ?_
        quiet_step (fail)
        quiet_step (fail)
        quiet_step (fail)
        quiet_step (fail)
        quiet_step (fail)
        quiet_step (fail)
        quiet_step (fail)
        quiet_step (fail)
        quiet_step (fail)
        quiet_step ((go_at_call 34; exact Cl.calls (Nat.le_refl _) (C.out _)))
        quiet_step (fail)
        refine wpQuiet_nil ?_
        rintro w0 ⟨z, rfl⟩
        obtain ⟨hR1, hG1⟩ := HRx.out _ z.h
        go_wp2_with fail
        go_roundw
        case rel => exact ⟨U, W1, ⟨⟨xa, xp, xr, xc⟩, ⟨xt, xd, xl, xk, xn, xs⟩⟩ :: W2 ++ V, by rw [HT3.out]; simp, by rw [HL.out.1], by have := HL.out; congr 1; omega, Hu.out, HZ2.out, hR1, hG1⟩
        case measure => have := HL.out; (simp [intOf]; try omega)
    · have hWn : W = [] := List.eq_nil_of_length_eq_zero (by omega)
      subst hWn
      have hTV : T = U ++ V := by rw [hT3]; simp
      obtain ⟨n0, hn0⟩ : ∃ n0, n0 = a + U.length := ⟨_, rfl⟩
      have ei : (i : Int) = (n0 : Int) + 1 := by omega
      have hn0z : (n0 : Int) < (N : Int) := by
        have h1 := HB.out
        have h2 := HA.out
        have h3 := congrArg List.length hTV
        simp only [List.length_append] at h3
        omega
      have hwp : IntKind.i64.wrap (n0 : Int) = (n0 : Int) := by rw [IntKind.wrap_i64]; omega
      have hijz : ¬ (i : Int) < (j : Int) := by omega
      have HM : Hid (St (c0 :: T) (U ++ c0 :: V) ∧ Up (U ++ c0 :: V)) := by
        have := moved_right (a := c0) (U := U) (V := V) (hTV ▸ hU) hu hv
        rw [hTV]; exact this
      have HN0 : Hid (n0 = a + U.length) := hn0
      have hR4 : Rx wr B g cap (P ++ ([] ++ c0 :: (U ++ V)) ++ Q) := by rw [← hTV]; exact hR
      rw [ei] at hijz ⊢
      have HTV : Hid (T = U ++ V) := hTV
      clear hT3 hi hj hij hn0 ei hu hv hR hR0 hN hTV
      go_wp2_with fail
      go_loopw [13] (fun s13 wk => ∃ U1 U2 : List Cx, U = U1 ++ U2 ∧ s13 = .int .i64 (a + U1.length : Nat) ∧ Rx wk B g cap (P ++ (U1 ++ c0 :: (U2 ++ V)) ++ Q) ∧ w.grownBy wk (some g)) (fun s13 _ => n0 - (intOf s13).toNat)
      case atStart => exact ⟨[], U, by simp, by simp, hR4, hG⟩
      case round =>
        obtain ⟨U1, U2, hU12, rfl, hRk, hGk⟩ := hrel
        obtain ⟨k, hk⟩ : ∃ k, k = a + U1.length := ⟨_, rfl⟩
        rw [← hk]
        cases U2 with
        | nil =>
          have hkn : ¬ (k : Int) < (n0 : Int) := by have h1 := HN0.out; rw [hU12] at h1; simp only [List.append_nil] at h1; omega
          rw [List.append_nil] at hU12
          have HF : Hid ((∃ S', St (c0 :: T) S' ∧ Up S' ∧ Rx wr B g cap (P ++ S' ++ Q)) ∧ w.grownBy wr (some g)) := ⟨⟨U ++ c0 :: V, HM.out.1, HM.out.2, by rw [hU12]; exact hRk⟩, hGk⟩
          clear hRk hGk hk hU12
          go_wp2_with fail
          refine bodyPost_ret (results_none rfl _ _ _) rfl ?_
          exact ⟨rfl, by simpa [List.append_assoc] using HF.out⟩
        | cons u U2 =>
          have hkn : (k : Int) < (n0 : Int) := by have h1 := HN0.out; rw [hU12] at h1; simp only [List.length_append, List.length_cons] at h1; omega
          have hRk' : Rx wr B g cap ((P ++ U1) ++ c0 :: u :: (U2 ++ V ++ Q)) := by simpa [List.append_assoc] using hRk
          have hpos : (P ++ U1).length = k := by rw [List.length_append, HA.out]; exact hk.symm
          have t0 : TenX wr g (k * 10) c0 := by rw [← hpos]; exact hRk'.ten (at_mid _ _ _)
          have tu : TenX wr g ((k + 1) * 10) u := by rw [← hpos]; exact hRk'.ten (at_mid2 _ _ _ _)
          have h0 : wr.ownsRow B 35 10 (.slice (some ⟨g, 0, none⟩) ((P ++ U1) ++ c0 :: u :: (U2 ++ V ++ Q)).length cap) ((P ++ U1) ++ c0 :: u :: (U2 ++ V ++ Q)).length (((P ++ U1) ++ c0 :: u :: (U2 ++ V ++ Q)).flatMap xs10) := hRk'
          have fz : ∀ j, wr.frozen? ⟨g, j, none⟩ = false := fun j => h0.frozenAt j
          have P1 : Hid (Rx (set10 (set10 wr g (k * 10) u) g ((k + 1) * 10) c0) B g cap (P ++ ((U1 ++ [u]) ++ c0 :: (U2 ++ V)) ++ Q) ∧ w.grownBy (set10 (set10 wr g (k * 10) u) g ((k + 1) * 10) c0) (some g)) := by
            have p1 := hRk'.put (i := k) (a := c0) (by rw [← hpos]; exact at_mid _ _ _) u
            have p2 := p1.1.put (i := k + 1) (a := u) (by rw [List.getElem?_set_ne (by omega), ← hpos]; exact at_mid2 _ _ _ _) c0
            refine ⟨?_, (hGk.trans p1.2).trans p2.2⟩
            have e := set_mid2 (P ++ U1) c0 u (U2 ++ V ++ Q)
            rw [hpos] at e
            have e3 : P ++ ((U1 ++ [u]) ++ c0 :: (U2 ++ V)) ++ Q = P ++ U1 ++ u :: c0 :: (U2 ++ V ++ Q) := by simp
            rw [e3, ← e]; exact p2.1
          have HUU : Hid (U = (U1 ++ [u]) ++ U2) := by rw [hU12]; show _ = _; simp
          have HK : Hid (k = a + U1.length) := hk
          have hkz : (k : Int) + 1 < (N : Int) := by omega
          have hkz2 : (k : Int) < (N : Int) := by omega
          have p0 : (0 : Int) ≤ (k : Int) + 1 := by omega
          have e0 : ((k : Int) + 1).toNat = k + 1 := by omega
          clear hRk hRk' hGk hk hU12 h0 hpos
          obtain ⟨⟨xa, xp, xr, xc⟩, ⟨xt, xd, xl, xk, xn, xs⟩⟩ := u
          obtain ⟨⟨ya, yp, yr, yc⟩, ⟨yt, yd, yl, yk, yn, ys⟩⟩ := c0
          obtain ⟨y0, y1, y2, y3, y4, y5, y6, y7, y8, y9⟩ := t0
          obtain ⟨z0, z1, z2, z3, z4, z5, z6, z7, z8, z9⟩ := tu
          simp only at y0 y1 y2 y3 y4 y5 y6 y7 y8 y9 z0 z1 z2 z3 z4 z5 z6 z7 z8 z9
          have fa0 := fz (k * 10)
          have fa1 := fz (k * 10 + 1)
          have fa2 := fz (k * 10 + 2)
          have fa3 := fz (k * 10 + 3)
          have fa4 := fz (k * 10 + 4)
          have fa5 := fz (k * 10 + 5)
          have fa6 := fz (k * 10 + 6)
          have fa7 := fz (k * 10 + 7)
          have fa8 := fz (k * 10 + 8)
          have fa9 := fz (k * 10 + 9)
          have fb0 := fz ((k + 1) * 10)
          have fb1 := fz ((k + 1) * 10 + 1)
          have fb2 := fz ((k + 1) * 10 + 2)
          have fb3 := fz ((k + 1) * 10 + 3)
          have fb4 := fz ((k + 1) * 10 + 4)
          have fb5 := fz ((k + 1) * 10 + 5)
          have fb6 := fz ((k + 1) * 10 + 6)
          have fb7 := fz ((k + 1) * 10 + 7)
          have fb8 := fz ((k + 1) * 10 + 8)
          have fb9 := fz ((k + 1) * 10 + 9)
          clear fz
          go_wp2_with fail
          go_region
          go_wp2_with fail
          go_roundw
          case rel => exact ⟨U1 ++ [(⟨⟨xa, xp, xr, xc⟩, ⟨xt, xd, xl, xk, xn, xs⟩⟩ : Cx)], U2, HUU.out, by rw [HK.out]; simp; omega, Rx.drew P1.out.1, grown_drew P1.out.2⟩
          case measure => (simp [intOf]; try omega)
end Go.Proofs.Ytkdeaogmifhnhaa
