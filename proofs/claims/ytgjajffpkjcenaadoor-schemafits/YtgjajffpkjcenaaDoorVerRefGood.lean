/-
  CONTRACT: the document's answer: a good cell.
-/
import Derived.Test.YtgjajffpkjcenaaDoorVerRef
namespace Go.Proofs.YtgjajffpkjcenaaDoor
open Go.RowKit

set_option maxRecDepth 100000 in
set_option maxHeartbeats 2000000 in
theorem refGoodX_any (c : Cx) (w : World) (h1 : c.k.t.size ≤ maxLen) (h2 : c.k.p.size ≤ maxLen) (h3 : c.k.c.size ≤ maxLen) (h4 : c.v.s.size ≤ maxLen) :
    Calls Tryd.prog 40 #[c.val] w fun x w' => x = .returned (.bool (goodC c)) ∧ Below w.heap.size w w' := by
  have hs' : (c.v.s.size : Int) ≤ 9223372036854775807 := by unfold maxLen at h4; omega
  have G : Hid (∀ w : World, Calls Tryd.prog 47 #[c.k.v] w fun e w' => e = .returned (.bool (goodK c.k.ky)) ∧ Below w.heap.size w w') := fun w => refGood_any c.k w h1 h2 h3
  have tn := TenX.new w c 47
  have hB0 : Below w.heap.size w (w.alloc (.cells c.a 47)) := (Below.refl _ _).alloc (Nat.le_refl _) _
  obtain ⟨wa, hwa⟩ : ∃ wa, wa = w.alloc (.cells c.a 47) := ⟨_, rfl⟩
  rw [← hwa] at tn hB0
  have HF : Hid (∀ w1, Below wa.heap.size wa w1 → TenX w1 w.heap.size 0 c ∧ TenX (w1.alloc (.cells c.v.a 45)) w.heap.size 0 c ∧ Below w.heap.size w w1 ∧ Below w.heap.size w (w1.alloc (.cells c.v.a 45))) := fun w1 h =>
    ⟨tn.below h tn.lt, (tn.below h tn.lt).alloc _, hB0.trans (h.mono hB0.size), (hB0.trans (h.mono hB0.size)).alloc (Nat.le_trans hB0.size h.size) _⟩
  have e1 := ba_isEmpty c.k.c
  have e2 := ba_isEmpty c.v.s
  have hg : Hid (goodC c = (goodK c.k.ky && goodV (decide (c.k.c.size = 0)) c.v)) := rfl
  have hd : Hid (c.v.dead = true → goodV (decide (c.k.c.size = 0)) c.v = (c.v.kind == 0 && (c.v.num == 0 && decide (c.v.s.size = 0)))) := goodV_dead
  have hl : Hid (c.v.dead = false → goodV (decide (c.k.c.size = 0)) c.v = (c.v.loc == 0 && goodU (decide (c.k.c.size = 0)) c.v.kind c.v.num c.v.s)) := goodV_live
  generalize goodC c = R at *
  generalize goodV (decide (c.k.c.size = 0)) c.v = V at *
  generalize goodK c.k.ky = K at *
  clear tn hB0 h1 h2 h3 h4
  obtain ⟨⟨kt, kp, kr, kcol⟩, ⟨t1, d1, l1, k1, n1, s1⟩⟩ := c
  simp only [Cx.val, Cx.a, Vr.a, Kb.v] at *
  go_enter Tryd.func40, Tryd.ntmps40
  go_wp2_with fail
  rw [← hwa]
  clear hwa
  refine (G.out _).mono ?_
  rintro x w1 ⟨rfl, hb1⟩
  obtain ⟨⟨x0, x1, x2, x3, x4, x5, x6, x7, x8, x9⟩, ⟨-, -, -, y3, -, -, -, -, -, -⟩, hB, hB2⟩ := HF.out w1 hb1
  have HB : Hid (Below w.heap.size w w1) := hB
  have HB2 : Hid (Below w.heap.size w (w1.alloc (.cells #[.int .i64 t1, .bool d1, .int .i64 l1, .int .i64 k1, .int .i64 n1, .string s1] 45))) := hB2
  simp only [Nat.zero_add] at x0 x1 x2 x3 x4 x5 x6 x7 x8 x9 y3
  clear hB hB2 hb1 HF
  cases K
  · have hR : Hid (R = false) := hg.out
    clear hg
    go_wp2_with fail
    go_ret
    exact ⟨ret_bool hR.out.symm, HB.out⟩
  · cases d1
    · have hR : Hid (R = (l1 == 0 && goodU (decide (kcol.size = 0)) k1 n1 s1)) := hg.out.trans (hl.out rfl)
      clear hg hd hl
      by_cases hz : l1 = 0
      · subst hz
        by_cases hc : kcol.size = 0
        · simp only [hc, decide_true] at e1 hR
          by_cases h1 : k1 = 0
          · subst h1
            by_cases h2 : n1 = 0
            · subst h2
              by_cases h3 : s1.size = 0
              · simp only [h3, decide_true] at e2
                go_wp2_with fail
                go_ret
                exact ⟨ret_bool (by rw [hR.out]; simp [goodU, h3]), HB2.out⟩
              · simp only [h3, decide_false] at e2
                go_wp2_with fail
                go_ret
                exact ⟨ret_bool (by rw [hR.out]; simp [goodU, h3]), HB2.out⟩
            · go_wp2_with fail
              go_ret
              exact ⟨ret_bool (by rw [hR.out]; simp [goodU, h2]), HB2.out⟩
          · have h1b : (k1 == 0) = false := beq_false_of_ne h1
            go_wp2_with fail
            go_ret
            exact ⟨ret_bool (by rw [hR.out]; simp [goodU, h1]), HB2.out⟩
        · simp only [hc, decide_false] at e1 hR
          by_cases h1 : k1 = 0
          · subst h1
            go_wp2_with fail
            go_ret
            exact ⟨ret_bool (by rw [hR.out]; simp [goodU]), HB2.out⟩
          · have h1b : (k1 == 0) = false := beq_false_of_ne h1
            by_cases h2 : k1 = 1
            · subst h2
              go_wp2_with fail
              go_ret
              exact ⟨ret_bool (by rw [hR.out]; simp [goodU]), HB2.out⟩
            · have h2b : (k1 == 1) = false := beq_false_of_ne h2
              by_cases h3 : k1 = 2
              · subst h3
                by_cases h4 : n1 = 0
                · subst h4
                  go_wp2_with fail
                  go_ret
                  exact ⟨ret_bool (by rw [hR.out]; simp [goodU]; omega), HB2.out⟩
                · go_wp2_with fail
                  go_ret
                  exact ⟨ret_bool (by rw [hR.out]; simp [goodU, h4]), HB2.out⟩
              · have h3b : (k1 == 2) = false := beq_false_of_ne h3
                go_wp2_with fail
                go_ret
                exact ⟨ret_bool (by rw [hR.out]; simp [goodU, h2, h3]), HB2.out⟩
      · have hR' : Hid (R = false) := hR.out.trans (by rw [beq_false_of_ne hz]; rfl)
        clear hR
        go_wp2_with fail
        go_ret
        exact ⟨ret_bool hR'.out.symm, HB2.out⟩
    · have hR : Hid (R = (k1 == 0 && (n1 == 0 && decide (s1.size = 0)))) := hg.out.trans (hd.out rfl)
      clear hg hd hl
      by_cases h1 : k1 = 0 <;> by_cases h2 : n1 = 0 <;> by_cases h3 : s1.size = 0 <;> (simp only [h3, decide_true, decide_false] at e2; go_wp2_with fail; go_ret; exact ⟨ret_bool (by rw [hR.out]; simp [h1, h2, h3]), HB.out.alloc HB.out.size _⟩)
end Go.Proofs.YtgjajffpkjcenaaDoor
