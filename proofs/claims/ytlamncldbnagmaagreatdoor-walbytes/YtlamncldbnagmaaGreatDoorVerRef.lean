/-
  CONTRACTS: the document's answers: how two versions compare, their join, a good cell.
-/
import Derived.Test.YtlamncldbnagmaaGreatDoorMany17
import Derived.Test.YtlamncldbnagmaaGreatDoorKeyRefGood
namespace Go.Proofs.YtlamncldbnagmaaGreatDoor
open Go.RowKit

theorem ints_any (a b : Int) (w : World) : Calls Tryz.prog 171 #[.int .i64 a, .int .i64 b] w fun x w' => x = .returned (.int .i64 (ci a b)) ∧ w' = w := by
  rcases Int.lt_trichotomy a b with h | h | h
  · have hR : Hid (ci a b = -1) := by unfold ci; rw [if_pos h]; rfl
    go_enter Tryz.func171, Tryz.ntmps171
    go_wp2_with fail
    go_ret
    exact ⟨ret_int hR.out.symm, rfl⟩
  · subst h
    have hR : Hid (ci a a = 0) := ci_self a
    go_enter Tryz.func171, Tryz.ntmps171
    go_wp2_with fail
    go_ret
    exact ⟨ret_int hR.out.symm, rfl⟩
  · have hR : Hid (ci a b = 1) := by unfold ci; rw [if_neg (by omega), if_pos h]; rfl
    have h2 : ¬ a < b := by omega
    go_enter Tryz.func171, Tryz.ntmps171
    go_wp2_with fail
    go_ret
    exact ⟨ret_int hR.out.symm, rfl⟩
theorem fu3_a {x y z : Int} (h : x ≠ 0) : fu [x, y, z] = x := th_of h _
theorem fu3_b {y z : Int} (h : y ≠ 0) : fu [0, y, z] = y := by show th 0 (th y _) = _; rw [th_zero, th_of h]
theorem fu3_c {z : Int} : fu [0, 0, z] = z := by show th 0 (th 0 (th z 0)) = _; rw [th_zero, th_zero]; unfold th; split <;> omega
set_option maxRecDepth 100000 in
set_option maxHeartbeats 1000000 in
theorem refVcmp_any (a b : Vr) (w : World) :
    Calls Tryz.prog 135 #[a.v, b.v] w fun x w' => x = .returned (.int .i64 (cv a b)) ∧ Below w.heap.size w w' := by
  have T3 : Hid (∀ (x y : Int) (w : World), Calls Tryz.prog 171 #[.int .i64 x, .int .i64 y] w fun e w' => e = .returned (.int .i64 (ci x y)) ∧ w' = w) := ints_any
  have hB : Hid (∀ o1 o2 : Obj, Below w.heap.size w ((w.alloc o1).alloc o2)) := fun o1 o2 => ((Below.refl _ _).alloc (Nat.le_refl _) _).alloc (by simp) _
  have c2 : Hid (a.time ≠ b.time → cv a b = ci a.time b.time) := cv_time
  have c3 : Hid (a.time = b.time → a.dead = true → b.dead = true → cv a b = ci a.loc b.loc) := cv_dead
  have c4 : Hid (a.time = b.time → a.dead = true → b.dead = false → cv a b = 1) := cv_left
  have c5 : Hid (a.time = b.time → a.dead = false → b.dead = true → cv a b = -1) := cv_right
  have c6 : Hid (a.time = b.time → a.dead = false → b.dead = false → cv a b = fu [ci a.kind b.kind, ci a.num b.num, cb (nb a.s) (nb b.s)]) := cv_live
  generalize cv a b = R at *
  obtain ⟨t1, d1, l1, k1, n1, s1⟩ := a
  obtain ⟨t2, d2, l2, k2, n2, s2⟩ := b
  simp only [Vr.v] at *
  by_cases ht : t1 = t2
  · subst ht
    clear c2
    cases d1 <;> cases d2
    · have hR := c6.out rfl rfl rfl
      clear c3 c4 c5 c6
      by_cases hk : k1 = k2
      · subst hk
        rw [ci_self] at hR
        by_cases hn : n1 = n2
        · subst hn
          rw [ci_self, fu3_c] at hR
          have h1 := ba_less s1 s2
          have h2 := ba_same s1 s2
          have h3 := cb_cmpr.z (nb s1) (nb s2)
          have h4 := cb_cmpr.r (nb s1) (nb s2)
          rw [nb_inj] at h3
          generalize cb (nb s1) (nb s2) = X at *
          subst hR
          rcases h4 with h | h | h
          · subst h
            rw [decide_eq_true rfl] at h1
            clear h2 h3
            go_enter Tryz.func135, Tryz.ntmps135
            go_wp2_with fail
            go_ret
            exact ⟨rfl, hB.out _ _⟩
          · subst h
            rw [decide_eq_false (by omega)] at h1
            obtain rfl := h3.1 rfl
            rw [decide_eq_true rfl] at h2
            clear h3
            go_enter Tryz.func135, Tryz.ntmps135
            go_wp2_with fail
            go_ret
            exact ⟨rfl, hB.out _ _⟩
          · subst h
            rw [decide_eq_false (by omega)] at h1
            rw [decide_eq_false (fun e => by have := h3.2 e; omega)] at h2
            clear h3
            go_enter Tryz.func135, Tryz.ntmps135
            go_wp2_with fail
            go_ret
            exact ⟨rfl, hB.out _ _⟩
        · rw [fu3_b (ci_ne hn)] at hR
          subst hR
          go_enter Tryz.func135, Tryz.ntmps135
          go_wp2_with (go_at_call 171; go_fit (T3.out _ _ _); rintro x w1 ⟨rfl, rfl⟩)
          go_ret
          exact ⟨rfl, hB.out _ _⟩
      · rw [fu3_a (ci_ne hk)] at hR
        subst hR
        go_enter Tryz.func135, Tryz.ntmps135
        go_wp2_with (go_at_call 171; go_fit (T3.out _ _ _); rintro x w1 ⟨rfl, rfl⟩)
        go_ret
        exact ⟨rfl, hB.out _ _⟩
    · obtain rfl := c5.out rfl rfl rfl
      clear c3 c4 c5 c6
      go_enter Tryz.func135, Tryz.ntmps135
      go_wp2_with fail
      go_ret
      exact ⟨rfl, hB.out _ _⟩
    · obtain rfl := c4.out rfl rfl rfl
      clear c3 c4 c5 c6
      go_enter Tryz.func135, Tryz.ntmps135
      go_wp2_with fail
      go_ret
      exact ⟨rfl, hB.out _ _⟩
    · obtain rfl := c3.out rfl rfl rfl
      clear c3 c4 c5 c6
      go_enter Tryz.func135, Tryz.ntmps135
      go_wp2_with (go_at_call 171; go_fit (T3.out _ _ _); rintro x w1 ⟨rfl, rfl⟩)
      go_ret
      exact ⟨rfl, hB.out _ _⟩
  · obtain rfl := c2.out ht
    clear c2 c3 c4 c5 c6
    go_enter Tryz.func135, Tryz.ntmps135
    go_wp2_with (go_at_call 171; go_fit (T3.out _ _ _); rintro x w1 ⟨rfl, rfl⟩)
    go_ret
    exact ⟨rfl, hB.out _ _⟩
set_option maxRecDepth 100000 in
set_option maxHeartbeats 1000000 in
theorem refJoin_any (a b : Vr) (w : World) :
    Calls Tryz.prog 95 #[a.v, b.v] w fun x w' => x = .returned (jn a b).v ∧ Below w.heap.size w w' := by
  have C : Hid (∀ w : World, Calls Tryz.prog 135 #[b.v, a.v] w fun x w' => x = .returned (.int .i64 (cv b a)) ∧ Below w.heap.size w w') := fun w => refVcmp_any b a w
  obtain ⟨wa, hwa, va, vb, vc, hz, hB⟩ := boxes3 w a b zeroV
  have la := va.lt
  have lb := vb.lt
  have lc := vc.lt
  have HF : Hid (∀ w1, Below wa.heap.size wa w1 → VAt w1 w.heap.size 0 a ∧ VAt w1 (w.heap.size + 1) 0 b ∧ VAt w1 (w.heap.size + 1 + 1) 0 zeroV ∧ w1.heap[w.heap.size + 1 + 1]? = some (.cells zeroV.a 65) ∧ Below w.heap.size w w1) := fun w1 h => ⟨va.below h la, vb.below h lb, vc.below h lc, by rw [h.block _ lc]; exact hz, hB.trans (h.mono hB.size)⟩
  have hj1 : Hid (0 < cv b a → jn a b = b) := fun h => by have := cv_n a b; unfold jn; rw [if_pos (by omega)]
  have hj2 : Hid (cv b a ≤ 0 → jn a b = a) := fun h => by have := cv_n a b; unfold jn; rw [if_neg (by omega)]
  clear va vb vc hz hB la lb lc
  generalize cv b a = R at *
  generalize jn a b = J at *
  obtain ⟨t1, d1, l1, k1, n1, s1⟩ := a
  obtain ⟨t2, d2, l2, k2, n2, s2⟩ := b
  simp only [Vr.v, Vr.a, zeroV] at C hwa ⊢
  go_enter Tryz.func95, Tryz.ntmps95
  go_wp2_with fail
  rw [← hwa]
  clear hwa
  refine (C.out _).mono ?_
  rintro x w1 ⟨rfl, hb1⟩
  obtain ⟨⟨x1, x2, x3, x4, x5, x6⟩, ⟨y1, y2, y3, y4, y5, y6⟩, ⟨c1, c2, c3, c4, c5, c6⟩, hz, hB⟩ := HF.out w1 hb1
  have z0 := frozen_at hz 0
  have z1 := frozen_at hz 1
  have z2 := frozen_at hz 2
  have z3 := frozen_at hz 3
  have z4 := frozen_at hz 4
  have z5 := frozen_at hz 5
  simp only [Nat.zero_add] at x1 x2 x3 x4 x5 x6 y1 y2 y3 y4 y5 y6 c1 c2 c3 c4 c5 c6
  have HS : Hid (∀ v0 v1 v2 v3 v4 v5 : Value, ((((((w1.setCell ⟨w.heap.size + 1 + 1, 0, none⟩ v0).setCell ⟨w.heap.size + 1 + 1, 1, none⟩ v1).setCell ⟨w.heap.size + 1 + 1, 2, none⟩ v2).setCell ⟨w.heap.size + 1 + 1, 3, none⟩ v3).setCell ⟨w.heap.size + 1 + 1, 4, none⟩ v4).setCell ⟨w.heap.size + 1 + 1, 5, none⟩ v5).heap[w.heap.size + 1 + 1]? = some (.cells #[v0, v1, v2, v3, v4, v5] 65)) := set6 hz
  have HB : Hid (∀ v0 v1 v2 v3 v4 v5 : Value, Below w.heap.size w ((((((w1.setCell ⟨w.heap.size + 1 + 1, 0, none⟩ v0).setCell ⟨w.heap.size + 1 + 1, 1, none⟩ v1).setCell ⟨w.heap.size + 1 + 1, 2, none⟩ v2).setCell ⟨w.heap.size + 1 + 1, 3, none⟩ v3).setCell ⟨w.heap.size + 1 + 1, 4, none⟩ v4).setCell ⟨w.heap.size + 1 + 1, 5, none⟩ v5)) := below6 hB (by omega)
  clear hz hB hb1 HF
  by_cases hR : 0 < R
  · obtain rfl := hj1.out hR
    have hd : decide (0 < R) = true := decide_eq_true hR
    clear hj1 hj2 hR
    go_wp2_with fail
    refine bodyPost_ret (v := .agg #[.int .i64 t2, .bool d2, .int .i64 l2, .int .i64 k2, .int .i64 n2, .string s2]) (results_cell_row Tryz.results95 _ _ (w.heap.size + 1 + 1) 65 _ _ _ rfl (HS.out _ _ _ _ _ _) Tryz.underlying65 rfl (by kernel_rfl)) rfl ?_
    exact ⟨rfl, HB.out _ _ _ _ _ _⟩
  · obtain rfl := hj2.out (by omega)
    have hd : decide (0 < R) = false := decide_eq_false hR
    clear hj1 hj2 hR
    go_wp2_with fail
    refine bodyPost_ret (v := .agg #[.int .i64 t1, .bool d1, .int .i64 l1, .int .i64 k1, .int .i64 n1, .string s1]) (results_cell_row Tryz.results95 _ _ (w.heap.size + 1 + 1) 65 _ _ _ rfl (HS.out _ _ _ _ _ _) Tryz.underlying65 rfl (by kernel_rfl)) rfl ?_
    exact ⟨rfl, HB.out _ _ _ _ _ _⟩
end Go.Proofs.YtlamncldbnagmaaGreatDoor
