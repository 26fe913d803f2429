/-
  CONTRACT: the library's stable sort at cells: symMerge, one cell behind sorted ones.
-/
import Derived.Test.YtkdeaogmifhnhaaSrtSymA
namespace Go.Proofs.Ytkdeaogmifhnhaa
open Go.RowKit

theorem kx_lt2 {x y z : Cx} (h : kx x y < 0) (g : kx y z ≤ 0) : kx x z < 0 := by
  have h1 := kx_t (show kx x y ≤ 0 by omega) g
  by_cases e : kx x z = 0
  · have e2 := (kx_z x z).1 e
    have e3 : kx y z = kx y x := by unfold kx; rw [e2]
    have e4 := kx_n x y
    omega
  · omega
attribute [local irreducible] wpQuiet
set_option maxRecDepth 100000 in
set_option maxHeartbeats 4000000 in
theorem symLast_any (B g cap N : Nat) (P : List Cx) (c0 : Cx) (T Q : List Cx) (w : World) (hR0 : Rx w B g cap (P ++ (T ++ [c0]) ++ Q)) (hN : (P ++ (T ++ [c0]) ++ Q).length = N) (hL : N ≤ 1000000) (hT : 2 ≤ T.length) (hU : Up T) :
    Calls Try.prog 56 #[.slice (some ⟨g, 0, none⟩) N cap, .int .i64 P.length, .int .i64 (P.length + T.length : Nat), .int .i64 (P.length + T.length + 1 : Nat), .func (.func 34) #[] #[]] w fun e w' => e = .returned (.tuple #[]) ∧ (∃ S', St (T ++ [c0]) S' ∧ Up S' ∧ Rx w' B g cap (P ++ S' ++ Q)) ∧ w.grownBy w' (some g) := by
  obtain ⟨a, ha⟩ : ∃ a, a = P.length := ⟨_, rfl⟩
  obtain ⟨m, hm⟩ : ∃ m, m = P.length + T.length := ⟨_, rfl⟩
  rw [← hm, ← ha]
  have hNl := hN
  simp only [List.length_append, List.length_cons, List.length_nil] at hNl
  have hmz : (m : Int) + 1 ≤ 1000000 := by omega
  have hmN : (m : Int) < (N : Int) := by omega
  have haz : (a : Int) < (m : Int) := by omega
  have HA : Hid (P.length = a) := ha.symm
  have HB : Hid (a + T.length = m ∧ m + 1 ≤ N) := ⟨by omega, by omega⟩
  have hNz : (N : Int) ≤ 1000000 := by omega
  have e1 : ((m + 1 : Nat) : Int) = (m : Int) + 1 := by omega
  rw [e1]
  have e2 : ((m : Int) - (a : Int) == 1) = false := by rw [beq_eq_false_iff_ne]; omega
  have e2' : ¬ (m : Int) - (a : Int) = 1 := by omega
  have e3 : (m : Int) + 1 - (m : Int) = 1 := by omega
  clear ha hm hNl
  go_enter Try.func56, Try.ntmps56
  go_wp2_with fail
  go_loopw [14, 15] (fun s14 s15 wr => ∃ U W V : List Cx, T = U ++ W ++ V ∧ s14 = .int .i64 (a + U.length : Nat) ∧ s15 = .int .i64 (a + U.length + W.length : Nat) ∧ (∀ u ∈ U, kx u c0 ≤ 0) ∧ (∀ v ∈ V, kx c0 v < 0) ∧ Rx wr B g cap (P ++ (T ++ [c0]) ++ Q) ∧ w.grownBy wr (some g)) (fun s14 s15 _ => (intOf s15).toNat - (intOf s14).toNat)
  case atStart => exact ⟨[], T, [], by simp, by simp, by have := HB.out.1; simp; omega, (fun u hu => by cases hu), (fun v hv => by cases hv), hR0, ⟨rfl, rfl, rfl, Nat.le_refl _, fun _ _ _ => rfl⟩⟩
  case round =>
    obtain ⟨U, W, V, hT3, rfl, rfl, hu, hv, hR, hG⟩ := hrel
    obtain ⟨i, hi⟩ : ∃ i, i = a + U.length := ⟨_, rfl⟩
    obtain ⟨j, hj⟩ : ∃ j, j = a + U.length + W.length := ⟨_, rfl⟩
    rw [← hj, ← hi]
    by_cases hij : i < j
    · have hijz : (i : Int) < (j : Int) := by omega
      have hjm : j ≤ m := by
        have h1 := HB.out
        have h3 := congrArg List.length hT3
        simp only [List.length_append] at h3
        omega
      have hjz : (j : Int) ≤ 1000000 := by omega
      obtain ⟨h, hh⟩ : ∃ h, h = (i + j) / 2 := ⟨_, rfl⟩
      have hhi : i ≤ h := by omega
      have hhj : h < j := by omega
      have eh : ((i : Int) + (j : Int)) / 2 = (h : Int) := by omega
      obtain ⟨W1, c, W2, hW, hW1⟩ : ∃ W1 c W2, W = W1 ++ c :: W2 ∧ W1.length = h - i := by
        have hlt : h - i < W.length := by omega
        exact ⟨W.take (h - i), W[h - i], W.drop (h - i + 1), by rw [← List.drop_eq_getElem_cons hlt, List.take_append_drop], by rw [List.length_take]; omega⟩
      subst hW
      have hUT : Up (U ++ (W1 ++ c :: W2) ++ V) := hT3 ▸ hU
      have hW1c : ∀ u ∈ W1, kx u c ≤ 0 := fun u hu' => (hUT.left.right.over) u hu' c (by simp)
      have hcW2 : ∀ v ∈ W2, kx c v ≤ 0 := fun v hv' => (List.pairwise_cons.1 (hUT.left.right.right)).1 v hv'
      have hR2 : Rx wr B g cap ((P ++ (U ++ W1)) ++ c :: (W2 ++ V ++ [c0] ++ Q)) := by rw [hT3] at hR; simpa [List.append_assoc] using hR
      have hR3 : Rx wr B g cap ((P ++ T) ++ c0 :: Q) := by simpa [List.append_assoc] using hR
      have hpos : (P ++ (U ++ W1)).length = h := by have := HA.out; simp only [List.length_append]; omega
      have hpos0 : (P ++ T).length = m := by rw [List.length_append, HA.out]; exact HB.out.1
      have tc : TenX wr g (h * 10) c := by rw [← hpos]; exact hR2.ten (at_mid _ _ _)
      have t0 : TenX wr g (m * 10) c0 := by rw [← hpos0]; exact hR3.ten (at_mid _ _ _)
      have C : Hid (∀ w : World, Calls Try.prog 34 #[c0.val, c.val] w fun e w' => e = .returned (.int .i64 (kx c0 c)) ∧ Below w.heap.size w w') := fun w => cmpKeys_any c0 c w
      have HRx : Hid (∀ w', Below wr.heap.size wr w' → Rx w' B g cap (P ++ (T ++ [c0]) ++ Q) ∧ w.grownBy w' (some g)) := fun w' h => ⟨hR.below h, hG.trans (grown_below h g)⟩
      have HY : Hid (¬ kx c0 c < 0 → ∀ u ∈ U ++ W1 ++ [c], kx u c0 ≤ 0) := fun hk u hu' => by
        have hk2 : kx c c0 ≤ 0 := by have := kx_n c c0; omega
        rcases List.mem_append.1 hu' with hu' | hu'
        · rcases List.mem_append.1 hu' with hu' | hu'
          · exact hu u hu'
          · exact kx_t (hW1c u hu') hk2
        · obtain rfl : u = c := by simpa using hu'
          exact hk2
      have HZ : Hid (kx c0 c < 0 → ∀ v ∈ c :: W2 ++ V, kx c0 v < 0) := fun hk v hv' => by
        rcases List.mem_append.1 hv' with hv' | hv'
        · rcases List.mem_cons.1 hv' with rfl | hv'
          · exact hk
          · exact kx_lt2 hk (hcW2 v hv')
        · exact hv v hv'
      have HL : Hid (i = a + U.length ∧ j = a + U.length + (W1 ++ c :: W2).length ∧ W1.length = h - i ∧ i ≤ h ∧ h < j) := ⟨hi, hj, hW1, hhi, hhj⟩
      have HT3 : Hid (T = U ++ (W1 ++ c :: W2) ++ V) := hT3
      have Hu : Hid (∀ u ∈ U, kx u c0 ≤ 0) := hu
      have Hv : Hid (∀ v ∈ V, kx c0 v < 0) := hv
      have hhz : (h : Int) < (N : Int) := by omega
      generalize hkx : kx c0 c = K at *
      clear hkx hi hj hh hhi hhj hW1 hUT hW1c hcW2 hR2 hR3 hpos hpos0 hR hG hT3 hu hv hij hR0 hN hjm
      obtain ⟨⟨xa, xp, xr, xc⟩, ⟨xt, xd, xl, xk, xn, xs⟩⟩ := c
      obtain ⟨⟨ya, yp, yr, yc⟩, ⟨yt, yd, yl, yk, yn, ys⟩⟩ := c0
      simp only [Cx.val, Cx.a] at C
      have qx0 : ∀ z : Cl wr.heap.size wr, z.u.cell? ⟨g, h * 10, none⟩ = some (.string xa) := fun z => (tc.below z.h tc.lt).c0
      have qx1 : ∀ z : Cl wr.heap.size wr, z.u.cell? ⟨g, h * 10 + 1, none⟩ = some (.string xp) := fun z => (tc.below z.h tc.lt).c1
      have qx2 : ∀ z : Cl wr.heap.size wr, z.u.cell? ⟨g, h * 10 + 2, none⟩ = some (.int .i64 xr) := fun z => (tc.below z.h tc.lt).c2
      have qx3 : ∀ z : Cl wr.heap.size wr, z.u.cell? ⟨g, h * 10 + 3, none⟩ = some (.string xc) := fun z => (tc.below z.h tc.lt).c3
      have qx4 : ∀ z : Cl wr.heap.size wr, z.u.cell? ⟨g, h * 10 + 4, none⟩ = some (.int .i64 xt) := fun z => (tc.below z.h tc.lt).c4
      have qx5 : ∀ z : Cl wr.heap.size wr, z.u.cell? ⟨g, h * 10 + 5, none⟩ = some (.bool xd) := fun z => (tc.below z.h tc.lt).c5
      have qx6 : ∀ z : Cl wr.heap.size wr, z.u.cell? ⟨g, h * 10 + 6, none⟩ = some (.int .i64 xl) := fun z => (tc.below z.h tc.lt).c6
      have qx7 : ∀ z : Cl wr.heap.size wr, z.u.cell? ⟨g, h * 10 + 7, none⟩ = some (.int .i64 xk) := fun z => (tc.below z.h tc.lt).c7
      have qx8 : ∀ z : Cl wr.heap.size wr, z.u.cell? ⟨g, h * 10 + 8, none⟩ = some (.int .i64 xn) := fun z => (tc.below z.h tc.lt).c8
      have qx9 : ∀ z : Cl wr.heap.size wr, z.u.cell? ⟨g, h * 10 + 9, none⟩ = some (.string xs) := fun z => (tc.below z.h tc.lt).c9
      have qy0 : ∀ z : Cl wr.heap.size wr, z.u.cell? ⟨g, m * 10, none⟩ = some (.string ya) := fun z => (t0.below z.h t0.lt).c0
      have qy1 : ∀ z : Cl wr.heap.size wr, z.u.cell? ⟨g, m * 10 + 1, none⟩ = some (.string yp) := fun z => (t0.below z.h t0.lt).c1
      have qy2 : ∀ z : Cl wr.heap.size wr, z.u.cell? ⟨g, m * 10 + 2, none⟩ = some (.int .i64 yr) := fun z => (t0.below z.h t0.lt).c2
      have qy3 : ∀ z : Cl wr.heap.size wr, z.u.cell? ⟨g, m * 10 + 3, none⟩ = some (.string yc) := fun z => (t0.below z.h t0.lt).c3
      have qy4 : ∀ z : Cl wr.heap.size wr, z.u.cell? ⟨g, m * 10 + 4, none⟩ = some (.int .i64 yt) := fun z => (t0.below z.h t0.lt).c4
      have qy5 : ∀ z : Cl wr.heap.size wr, z.u.cell? ⟨g, m * 10 + 5, none⟩ = some (.bool yd) := fun z => (t0.below z.h t0.lt).c5
      have qy6 : ∀ z : Cl wr.heap.size wr, z.u.cell? ⟨g, m * 10 + 6, none⟩ = some (.int .i64 yl) := fun z => (t0.below z.h t0.lt).c6
      have qy7 : ∀ z : Cl wr.heap.size wr, z.u.cell? ⟨g, m * 10 + 7, none⟩ = some (.int .i64 yk) := fun z => (t0.below z.h t0.lt).c7
      have qy8 : ∀ z : Cl wr.heap.size wr, z.u.cell? ⟨g, m * 10 + 8, none⟩ = some (.int .i64 yn) := fun z => (t0.below z.h t0.lt).c8
      have qy9 : ∀ z : Cl wr.heap.size wr, z.u.cell? ⟨g, m * 10 + 9, none⟩ = some (.string ys) := fun z => (t0.below z.h t0.lt).c9
      clear tc t0
      haveI := Cl.inh wr.heap.size wr
      by_cases hK : K < 0
      · have hKd : decide (K < 0) = true := decide_eq_true hK
        have hZ := HZ.out hK
        have HZ2 : Hid (∀ v ∈ (⟨⟨xa, xp, xr, xc⟩, ⟨xt, xd, xl, xk, xn, xs⟩⟩ : Cx) :: W2 ++ V, kx ⟨⟨ya, yp, yr, yc⟩, ⟨yt, yd, yl, yk, yn, ys⟩⟩ v < 0) := hZ
        clear HY HZ hZ hK
        go_wp2_with fail
        refine wp_region_cl wr.heap.size (by kernel_rfl) (by kernel_rfl) ?_
        quiet_step (fail)
        quiet_step (fail)
        quiet_step (fail)
        quiet_step (fail)
        quiet_step (fail)
        quiet_step (fail)
        quiet_step (fail)
        quiet_step (fail)
        quiet_step (fail)
        quiet_step ((go_at_call 34; exact Cl.calls (Nat.le_refl _) (C.out _)))
        quiet_step (fail)
        quiet_step (fail)
        refine wpQuiet_nil ?_
        rintro w0 ⟨z, rfl⟩
        obtain ⟨hR1, hG1⟩ := HRx.out _ z.h
        go_wp2_with fail
        go_roundw
        case rel => exact ⟨U, W1, (⟨⟨xa, xp, xr, xc⟩, ⟨xt, xd, xl, xk, xn, xs⟩⟩ : Cx) :: W2 ++ V, by rw [HT3.out]; simp, by rw [HL.out.1], by have := HL.out; congr 1; omega, Hu.out, HZ2.out, hR1, hG1⟩
        case measure => have := HL.out; (simp [intOf]; try omega)
      · have hKd : decide (K < 0) = false := decide_eq_false hK
        have hY := HY.out hK
        have HY2 : Hid (∀ u ∈ U ++ W1 ++ [(⟨⟨xa, xp, xr, xc⟩, ⟨xt, xd, xl, xk, xn, xs⟩⟩ : Cx)], kx u ⟨⟨ya, yp, yr, yc⟩, ⟨yt, yd, yl, yk, yn, ys⟩⟩ ≤ 0) := hY
        clear HY HZ hY hK
        go_wp2_with fail
        refine wp_region_cl wr.heap.size (by kernel_rfl) (by kernel_rfl) ?_
        quiet_step (fail)
        quiet_step (fail)
        quiet_step (fail)
        quiet_step (fail)
        quiet_step (fail)
        quiet_step (fail)
        quiet_step (fail)
        quiet_step (fail)
        quiet_step (fail)
        quiet_step ((go_at_call 34; exact Cl.calls (Nat.le_refl _) (C.out _)))
        quiet_step (fail)
        quiet_step (fail)
        refine wpQuiet_nil ?_
        rintro w0 ⟨z, rfl⟩
        obtain ⟨hR1, hG1⟩ := HRx.out _ z.h
        go_wp2_with fail
        go_roundw
        case rel => exact ⟨U ++ W1 ++ [(⟨⟨xa, xp, xr, xc⟩, ⟨xt, xd, xl, xk, xn, xs⟩⟩ : Cx)], W2, V, by rw [HT3.out]; simp, by have := HL.out; simp only [List.length_append, List.length_cons, List.length_nil] at *; congr 1; omega, by have := HL.out; simp only [List.length_append, List.length_cons, List.length_nil] at *; congr 1; omega, HY2.out, Hv.out, hR1, hG1⟩
        case measure => have := HL.out; (simp [intOf]; try omega)
    · have hWn : W = [] := List.eq_nil_of_length_eq_zero (by omega)
      subst hWn
      have hTV : T = U ++ V := by rw [hT3]; simp
      have hijz : ¬ (i : Int) < (j : Int) := by omega
      have hmi : m = i + V.length := by
        have h1 := HB.out.1
        have h3 := congrArg List.length hTV
        simp only [List.length_append] at h3
        omega
      have HM : Hid (St (T ++ [c0]) (U ++ c0 :: V) ∧ Up (U ++ c0 :: V)) := by
        have := moved_left (b := c0) (U := U) (V := V) (hTV ▸ hU) hu hv
        rw [hTV]; exact this
      have HI : Hid (i = a + U.length) := hi
      have hR4 : Rx wr B g cap (P ++ (U ++ (V ++ c0 :: [])) ++ Q) := by rw [hTV] at hR; simpa [List.append_assoc] using hR
      have hiz : (i : Int) ≤ 1000000 := by omega
      have HMI : Hid (m = i + V.length) := hmi
      clear hT3 hi hj hij hu hv hR hR0 hN hTV hmi
      go_wp2_with fail
      go_loopw [17] (fun s17 wk => ∃ V1 V2 : List Cx, V = V1 ++ V2 ∧ s17 = .int .i64 (i + V1.length : Nat) ∧ Rx wk B g cap (P ++ (U ++ (V1 ++ c0 :: V2)) ++ Q) ∧ w.grownBy wk (some g)) (fun s17 _ => (intOf s17).toNat)
      case atStart => exact ⟨V, [], by simp, by rw [HMI.out], hR4, hG⟩
      case round =>
        obtain ⟨V1, V2, hV12, rfl, hRk, hGk⟩ := hrel
        rcases List.eq_nil_or_concat V1 with rfl | ⟨V3, v, hV3⟩
        · rw [List.nil_append] at hV12
          have HF : Hid ((∃ S', St (T ++ [c0]) S' ∧ Up S' ∧ Rx wr B g cap (P ++ S' ++ Q)) ∧ w.grownBy wr (some g)) := ⟨⟨U ++ c0 :: V, HM.out.1, HM.out.2, by rw [hV12]; exact hRk⟩, hGk⟩
          have hii : ¬ (i : Int) < (i : Int) := by omega
          clear hRk hGk hV12
          rw [List.length_nil, Nat.add_zero]
          go_wp2_with fail
          refine bodyPost_ret (results_none rfl _ _ _) rfl ?_
          exact ⟨rfl, by simpa [List.append_assoc] using HF.out⟩
        · rw [List.concat_eq_append] at hV3
          subst hV3
          obtain ⟨q, hq⟩ : ∃ q, q = i + V3.length := ⟨_, rfl⟩
          have hqm : q + 1 ≤ m := by have h1 := HMI.out; rw [hV12] at h1; simp only [List.length_append, List.length_cons, List.length_nil] at h1; omega
          have e9 : ((i + (V3 ++ [v]).length : Nat) : Int) = (q : Int) + 1 := by rw [hq]; simp; omega
          have hRk' : Rx wr B g cap ((P ++ (U ++ V3)) ++ v :: c0 :: (V2 ++ Q)) := by simpa [List.append_assoc] using hRk
          have hpos : q = (P ++ (U ++ V3)).length := by have := HA.out; have := HI.out; simp only [List.length_append]; omega
          have tv : TenX wr g (q * 10) v := by rw [hpos]; exact hRk'.ten (at_mid _ _ _)
          have t0 : TenX wr g ((q + 1) * 10) c0 := by rw [hpos]; exact hRk'.ten (at_mid2 _ _ _ _)
          have h0 : wr.ownsRow B 35 10 (.slice (some ⟨g, 0, none⟩) ((P ++ (U ++ V3)) ++ v :: c0 :: (V2 ++ Q)).length cap) ((P ++ (U ++ V3)) ++ v :: c0 :: (V2 ++ Q)).length (((P ++ (U ++ V3)) ++ v :: c0 :: (V2 ++ Q)).flatMap xs10) := hRk'
          have fz : ∀ j, wr.frozen? ⟨g, j, none⟩ = false := fun j => h0.frozenAt j
          have P1 : Hid (Rx (set10 (set10 wr g ((q + 1) * 10) v) g (q * 10) c0) B g cap (P ++ (U ++ (V3 ++ c0 :: (v :: V2))) ++ Q) ∧ w.grownBy (set10 (set10 wr g ((q + 1) * 10) v) g (q * 10) c0) (some g)) := by
            have p1 := hRk'.put (i := q + 1) (a := c0) (by rw [hpos]; exact at_mid2 _ _ _ _) v
            have p2 := p1.1.put (i := q) (a := v) (by rw [List.getElem?_set_ne (by omega), hpos]; exact at_mid _ _ _) c0
            refine ⟨?_, (hGk.trans p1.2).trans p2.2⟩
            have e := set_two_mid (P ++ (U ++ V3)) v c0 (V2 ++ Q)
            rw [← hpos] at e
            have e3 : P ++ (U ++ (V3 ++ c0 :: (v :: V2))) ++ Q = P ++ (U ++ V3) ++ c0 :: v :: (V2 ++ Q) := by simp
            rw [e3, ← e]; exact p2.1
          have HVV : Hid (V = V3 ++ (v :: V2)) := by rw [hV12]; show _ = _; simp
          have HQ : Hid (q = i + V3.length) := hq
          have hqz : (q : Int) + 1 < (N : Int) := by omega
          have hqz2 : (q : Int) < (N : Int) := by omega
          have hiq : (i : Int) < (q : Int) + 1 := by omega
          have hwp : IntKind.i64.wrap (q : Int) = (q : Int) := by rw [IntKind.wrap_i64]; omega
          have p0 : (0 : Int) ≤ (q : Int) + 1 := by omega
          have e0 : ((q : Int) + 1).toNat = q + 1 := by omega
          rw [e9]
          clear hRk hRk' hGk hq hV12 h0 hpos e9 hqm
          obtain ⟨⟨xa, xp, xr, xc⟩, ⟨xt, xd, xl, xk, xn, xs⟩⟩ := v
          obtain ⟨⟨ya, yp, yr, yc⟩, ⟨yt, yd, yl, yk, yn, ys⟩⟩ := c0
          obtain ⟨y0, y1, y2, y3, y4, y5, y6, y7, y8, y9⟩ := tv
          obtain ⟨z0, z1, z2, z3, z4, z5, z6, z7, z8, z9⟩ := t0
          simp only at y0 y1 y2 y3 y4 y5 y6 y7 y8 y9 z0 z1 z2 z3 z4 z5 z6 z7 z8 z9
          have fa0 := fz (q * 10)
          have fa1 := fz (q * 10 + 1)
          have fa2 := fz (q * 10 + 2)
          have fa3 := fz (q * 10 + 3)
          have fa4 := fz (q * 10 + 4)
          have fa5 := fz (q * 10 + 5)
          have fa6 := fz (q * 10 + 6)
          have fa7 := fz (q * 10 + 7)
          have fa8 := fz (q * 10 + 8)
          have fa9 := fz (q * 10 + 9)
          have fb0 := fz ((q + 1) * 10)
          have fb1 := fz ((q + 1) * 10 + 1)
          have fb2 := fz ((q + 1) * 10 + 2)
          have fb3 := fz ((q + 1) * 10 + 3)
          have fb4 := fz ((q + 1) * 10 + 4)
          have fb5 := fz ((q + 1) * 10 + 5)
          have fb6 := fz ((q + 1) * 10 + 6)
          have fb7 := fz ((q + 1) * 10 + 7)
          have fb8 := fz ((q + 1) * 10 + 8)
          have fb9 := fz ((q + 1) * 10 + 9)
          clear fz
          go_wp2_with fail
          go_region
          go_wp2_with fail
          go_roundw
          case rel => exact ⟨V3, (⟨⟨xa, xp, xr, xc⟩, ⟨xt, xd, xl, xk, xn, xs⟩⟩ : Cx) :: V2, HVV.out, by rw [HQ.out], Rx.drew P1.out.1, grown_drew P1.out.2⟩
          case measure => (simp [intOf]; try omega)
end Go.Proofs.Ytkdeaogmifhnhaa
