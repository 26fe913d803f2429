/-
  THE LAW CellLater: the walk.
-/
import Derived.Test.YtlbakepijncfgaaVerLives
namespace Go.Proofs.Ytlbakepijncfgaa
open Go.RowKit

theorem chain_eq (t1 t2 l1 l2 k1 k2 n1 n2 : Int) (d1 d2 : Bool) (s1 s2 : ByteArray) (w : World) : (if t1 = t2 then if d1 = d2 then if l1 = l2 then if k1 = k2 then if n1 = n2 then if s1.toList = s2.toList then Result.ok (Value.bool true) w else Result.ok (Value.bool false) w else Result.ok (Value.bool false) w else Result.ok (Value.bool false) w else Result.ok (Value.bool false) w else Result.ok (Value.bool false) w else Result.ok (Value.bool false) w) = Result.ok (Value.bool (eqV ⟨t1, d1, l1, k1, n1, s1⟩ ⟨t2, d2, l2, k2, n2, s2⟩)) w := by
  unfold eqV
  by_cases e1 : t1 = t2 <;> by_cases e2 : d1 = d2 <;> by_cases e3 : l1 = l2 <;> by_cases e4 : k1 = k2 <;> by_cases e5 : n1 = n2 <;> by_cases e6 : s1.toList = s2.toList <;> simp [e1, e2, e3, e4, e5, e6]
end Go.Proofs.Ytlbakepijncfgaa
namespace Go.Proofs.Ytlbakepijncfgaa.cellLater
open Go.RowKit

set_option maxRecDepth 100000 in
set_option maxHeartbeats 2000000 in
theorem walk (a b : Vr) (w : World) (_ : InI a.time ∧ InI a.loc ∧ InI a.kind ∧ InI a.num) (_ : a.s.size ≤ 140737488355328) (_ : InI b.time ∧ InI b.loc ∧ InI b.kind ∧ InI b.num) (_ : b.s.size ≤ 140737488355328) :
    Calls Try.prog 8 #[a.v, b.v] w fun e w' => e = .returned (.bool true) ∧ Below w.heap.size w w' := by
  have J : Hid (∀ w : World, Calls Try.prog 15 #[a.v, b.v] w fun x w' => x = .returned (jn a b).v ∧ Below w.heap.size w w') := fun w => join_any a b w
  obtain ⟨j, hj⟩ : ∃ j, j = jn a b := ⟨_, rfl⟩
  have L : Hid (∀ w : World, Calls Try.prog 17 #[j.v] w fun x w' => x = .returned (.bool (!j.dead)) ∧ Below w.heap.size w w') := fun w => live_any j w
  have LV : Hid (∀ w : World, Calls Try.prog 10 #[] w fun x w' => x = .returned (.bool true) ∧ Below w.heap.size w w') := lives_any
  obtain ⟨wa, hwa⟩ : ∃ wa, wa = (w.alloc (.cells a.a 27)).alloc (.cells b.a 27) := ⟨_, rfl⟩
  obtain ⟨va, vb, hB⟩ := boxes2 w a b
  rw [← hwa] at va vb hB
  have HF : Hid (∀ w1, Below wa.heap.size wa w1 → VAt (w1.alloc (.cells j.a 27)) w.heap.size 0 a ∧ VAt (w1.alloc (.cells j.a 27)) (w.heap.size + 1) 0 b ∧ VAt (w1.alloc (.cells j.a 27)) w1.heap.size 0 j ∧ Below w.heap.size w (w1.alloc (.cells j.a 27))) := fun w1 h =>
    ⟨(va.below h va.lt).alloc _, (vb.below h vb.lt).alloc _, VAt.new w1 j _, (hB.trans (h.mono hB.size)).alloc (Nat.le_trans hB.size h.size) _⟩
  have hor : Hid (a = j ∨ b = j) := by rw [hj]; exact (jn_or a b).imp Eq.symm Eq.symm
  have c1 : Hid (a.time < b.time → b = j) := fun h => by
    rw [hj]; refine Eq.symm ?_; unfold jn; rw [if_pos]; rw [cv_time (by omega)]; unfold ci; rw [if_pos h]; omega
  have c2 : Hid (b.time < a.time → a = j) := fun h => by
    rw [hj]; refine Eq.symm ?_; unfold jn; rw [if_neg]; rw [cv_time (by omega)]; unfold ci; rw [if_neg (by omega), if_pos (by omega)]; omega
  have c3 : Hid (a.time = b.time → a.dead = true → b.dead = false → a = j) := fun h h1 h2 => by
    rw [hj]; refine Eq.symm ?_; unfold jn; rw [if_neg]; rw [cv_left h h1 h2]; omega
  have c4 : Hid (a.time = b.time → a.dead = false → b.dead = true → b = j) := fun h h1 h2 => by
    rw [hj]; refine Eq.symm ?_; unfold jn; rw [if_pos]; rw [cv_right h h1 h2]; omega
  clear va vb hB
  rw [← hj] at J
  clear hj
  obtain ⟨t1, d1, l1, k1, n1, s1⟩ := a
  obtain ⟨t2, d2, l2, k2, n2, s2⟩ := b
  obtain ⟨t3, d3, l3, k3, n3, s3⟩ := j
  simp only [Vr.v, Vr.a] at J L hwa HF c1 c2 c3 c4 ⊢
  go_enter Try.func8, Try.ntmps8
  go_wp2_with fail
  rw [← hwa]
  clear hwa
  refine (J.out _).mono ?_
  rintro x w1 ⟨rfl, hb1⟩
  obtain ⟨va, vb, vj, hB⟩ := HF.out w1 hb1
  clear HF hb1 J
  obtain ⟨wb, hwb⟩ : ∃ wb, wb = w1.alloc (.cells #[.int .i64 t3, .bool d3, .int .i64 l3, .int .i64 k3, .int .i64 n3, .string s3] 27) := ⟨_, rfl⟩
  rw [← hwb] at va vb vj hB
  have HE : Hid (∀ w' : World, Below wb.heap.size wb w' → Below w.heap.size w w') := fun w' h => hB.trans (h.mono hB.size)


  have VA : Hid (VAt wb w.heap.size 0 ⟨t1, d1, l1, k1, n1, s1⟩) := va
  have VB : Hid (VAt wb (w.heap.size + 1) 0 ⟨t2, d2, l2, k2, n2, s2⟩) := vb
  have VJ : Hid (VAt wb w1.heap.size 0 ⟨t3, d3, l3, k3, n3, s3⟩) := vj
  obtain ⟨x1, x2, x3, x4, x5, x6⟩ := va
  obtain ⟨y1, y2, y3, y4, y5, y6⟩ := vb
  obtain ⟨z1, z2, z3, z4, z5, z6⟩ := vj
  simp only [Nat.zero_add] at x1 x2 x3 x4 x5 x6 y1 y2 y3 y4 y5 y6 z1 z2 z3 z4 z5 z6
  rw [hwb] at x1 x2 x3 x4 x5 x6 y1 y2 y3 y4 y5 y6 z1 z2 z3 z4 z5 z6
  have HW : Hid (wb = w1.alloc (.cells #[.int .i64 t3, .bool d3, .int .i64 l3, .int .i64 k3, .int .i64 n3, .string s3] 27)) := hwb
  clear hB hwb
  by_cases h1 : t1 < t2
  · have e := c1.out h1
    simp only [Vr.mk.injEq] at e
    obtain ⟨rfl, rfl, rfl, rfl, rfl, rfl⟩ := e
    have h2 : ¬ t2 < t1 := by omega
    have h3 : ¬ t1 = t2 := by omega
    have h4 : ¬ t2 = t1 := by omega
    clear c1 c2 c3 c4 hor
    go_wp2_with fail
    rw [← HW.out]
    clear HW
    clear x1 x2 x3 x4 x5 x6 y1 y2 y3 y4 y5 y6 z1 z2 z3 z4 z5 z6
    have va := VA.out
    have vb := VB.out
    have vj := VJ.out
    have p1 : ∀ q : Cl wb.heap.size wb, q.u.cell? ⟨w.heap.size, 0, none⟩ = some (.int .i64 t1) := fun q => (va.cl q).time
    have p2 : ∀ q : Cl wb.heap.size wb, q.u.cell? ⟨w.heap.size, 1, none⟩ = some (.bool d1) := fun q => (va.cl q).dead
    have p3 : ∀ q : Cl wb.heap.size wb, q.u.cell? ⟨w.heap.size, 2, none⟩ = some (.int .i64 l1) := fun q => (va.cl q).loc
    have p4 : ∀ q : Cl wb.heap.size wb, q.u.cell? ⟨w.heap.size, 3, none⟩ = some (.int .i64 k1) := fun q => (va.cl q).kind
    have p5 : ∀ q : Cl wb.heap.size wb, q.u.cell? ⟨w.heap.size, 4, none⟩ = some (.int .i64 n1) := fun q => (va.cl q).num
    have p6 : ∀ q : Cl wb.heap.size wb, q.u.cell? ⟨w.heap.size, 5, none⟩ = some (.string s1) := fun q => (va.cl q).s
    have r1 : ∀ q : Cl wb.heap.size wb, q.u.cell? ⟨w.heap.size + 1, 0, none⟩ = some (.int .i64 t2) := fun q => (vb.cl q).time
    have r2 : ∀ q : Cl wb.heap.size wb, q.u.cell? ⟨w.heap.size + 1, 1, none⟩ = some (.bool d2) := fun q => (vb.cl q).dead
    have r3 : ∀ q : Cl wb.heap.size wb, q.u.cell? ⟨w.heap.size + 1, 2, none⟩ = some (.int .i64 l2) := fun q => (vb.cl q).loc
    have r4 : ∀ q : Cl wb.heap.size wb, q.u.cell? ⟨w.heap.size + 1, 3, none⟩ = some (.int .i64 k2) := fun q => (vb.cl q).kind
    have r5 : ∀ q : Cl wb.heap.size wb, q.u.cell? ⟨w.heap.size + 1, 4, none⟩ = some (.int .i64 n2) := fun q => (vb.cl q).num
    have r6 : ∀ q : Cl wb.heap.size wb, q.u.cell? ⟨w.heap.size + 1, 5, none⟩ = some (.string s2) := fun q => (vb.cl q).s
    have u1 : ∀ q : Cl wb.heap.size wb, q.u.cell? ⟨w1.heap.size, 0, none⟩ = some (.int .i64 t2) := fun q => (vj.cl q).time
    have u2 : ∀ q : Cl wb.heap.size wb, q.u.cell? ⟨w1.heap.size, 1, none⟩ = some (.bool d2) := fun q => (vj.cl q).dead
    have u3 : ∀ q : Cl wb.heap.size wb, q.u.cell? ⟨w1.heap.size, 2, none⟩ = some (.int .i64 l2) := fun q => (vj.cl q).loc
    have u4 : ∀ q : Cl wb.heap.size wb, q.u.cell? ⟨w1.heap.size, 3, none⟩ = some (.int .i64 k2) := fun q => (vj.cl q).kind
    have u5 : ∀ q : Cl wb.heap.size wb, q.u.cell? ⟨w1.heap.size, 4, none⟩ = some (.int .i64 n2) := fun q => (vj.cl q).num
    have u6 : ∀ q : Cl wb.heap.size wb, q.u.cell? ⟨w1.heap.size, 5, none⟩ = some (.string s2) := fun q => (vj.cl q).s
    clear va vb vj VA VB VJ
    haveI := Cl.inh wb.heap.size wb
    refine wp_region_cl wb.heap.size (by kernel_rfl) (by kernel_rfl) ?_
    quiet_step (fail)
    quiet_step (fail)
    quiet_step (fail)
    repeat (quiet_step (first | (go_at_call 17; exact Cl.calls (Nat.le_refl _) (L.out _)) | (go_at_call 10; exact Cl.calls (Nat.le_refl _) (LV.out _))))
    refine wpQuiet_nil ?_
    rintro w0 ⟨q, rfl⟩
    go_wp2_with fail
    go_ret
    exact ⟨rfl, HE.out _ q.h⟩
  by_cases h2 : t2 < t1
  · have e := c2.out h2
    simp only [Vr.mk.injEq] at e
    obtain ⟨rfl, rfl, rfl, rfl, rfl, rfl⟩ := e
    have h3 : ¬ t1 = t2 := by omega
    have h4 : ¬ t2 = t1 := by omega
    clear c1 c2 c3 c4 hor
    go_wp2_with fail
    rw [← HW.out]
    clear HW
    clear x1 x2 x3 x4 x5 x6 y1 y2 y3 y4 y5 y6 z1 z2 z3 z4 z5 z6
    have va := VA.out
    have vb := VB.out
    have vj := VJ.out
    have p1 : ∀ q : Cl wb.heap.size wb, q.u.cell? ⟨w.heap.size, 0, none⟩ = some (.int .i64 t1) := fun q => (va.cl q).time
    have p2 : ∀ q : Cl wb.heap.size wb, q.u.cell? ⟨w.heap.size, 1, none⟩ = some (.bool d1) := fun q => (va.cl q).dead
    have p3 : ∀ q : Cl wb.heap.size wb, q.u.cell? ⟨w.heap.size, 2, none⟩ = some (.int .i64 l1) := fun q => (va.cl q).loc
    have p4 : ∀ q : Cl wb.heap.size wb, q.u.cell? ⟨w.heap.size, 3, none⟩ = some (.int .i64 k1) := fun q => (va.cl q).kind
    have p5 : ∀ q : Cl wb.heap.size wb, q.u.cell? ⟨w.heap.size, 4, none⟩ = some (.int .i64 n1) := fun q => (va.cl q).num
    have p6 : ∀ q : Cl wb.heap.size wb, q.u.cell? ⟨w.heap.size, 5, none⟩ = some (.string s1) := fun q => (va.cl q).s
    have r1 : ∀ q : Cl wb.heap.size wb, q.u.cell? ⟨w.heap.size + 1, 0, none⟩ = some (.int .i64 t2) := fun q => (vb.cl q).time
    have r2 : ∀ q : Cl wb.heap.size wb, q.u.cell? ⟨w.heap.size + 1, 1, none⟩ = some (.bool d2) := fun q => (vb.cl q).dead
    have r3 : ∀ q : Cl wb.heap.size wb, q.u.cell? ⟨w.heap.size + 1, 2, none⟩ = some (.int .i64 l2) := fun q => (vb.cl q).loc
    have r4 : ∀ q : Cl wb.heap.size wb, q.u.cell? ⟨w.heap.size + 1, 3, none⟩ = some (.int .i64 k2) := fun q => (vb.cl q).kind
    have r5 : ∀ q : Cl wb.heap.size wb, q.u.cell? ⟨w.heap.size + 1, 4, none⟩ = some (.int .i64 n2) := fun q => (vb.cl q).num
    have r6 : ∀ q : Cl wb.heap.size wb, q.u.cell? ⟨w.heap.size + 1, 5, none⟩ = some (.string s2) := fun q => (vb.cl q).s
    have u1 : ∀ q : Cl wb.heap.size wb, q.u.cell? ⟨w1.heap.size, 0, none⟩ = some (.int .i64 t1) := fun q => (vj.cl q).time
    have u2 : ∀ q : Cl wb.heap.size wb, q.u.cell? ⟨w1.heap.size, 1, none⟩ = some (.bool d1) := fun q => (vj.cl q).dead
    have u3 : ∀ q : Cl wb.heap.size wb, q.u.cell? ⟨w1.heap.size, 2, none⟩ = some (.int .i64 l1) := fun q => (vj.cl q).loc
    have u4 : ∀ q : Cl wb.heap.size wb, q.u.cell? ⟨w1.heap.size, 3, none⟩ = some (.int .i64 k1) := fun q => (vj.cl q).kind
    have u5 : ∀ q : Cl wb.heap.size wb, q.u.cell? ⟨w1.heap.size, 4, none⟩ = some (.int .i64 n1) := fun q => (vj.cl q).num
    have u6 : ∀ q : Cl wb.heap.size wb, q.u.cell? ⟨w1.heap.size, 5, none⟩ = some (.string s1) := fun q => (vj.cl q).s
    clear va vb vj VA VB VJ
    haveI := Cl.inh wb.heap.size wb
    refine wp_region_cl wb.heap.size (by kernel_rfl) (by kernel_rfl) ?_
    quiet_step (fail)
    quiet_step (fail)
    quiet_step (fail)
    repeat (quiet_step (first | (go_at_call 17; exact Cl.calls (Nat.le_refl _) (L.out _)) | (go_at_call 10; exact Cl.calls (Nat.le_refl _) (LV.out _))))
    refine wpQuiet_nil ?_
    rintro w0 ⟨q, rfl⟩
    go_wp2_with fail
    go_ret
    exact ⟨rfl, HE.out _ q.h⟩
  obtain rfl : t1 = t2 := by omega
  have ht : ¬ t1 < t1 := by omega
  clear h1 h2
  rcases hor.out with e | e
  · simp only [Vr.mk.injEq] at e c3 c4
    obtain ⟨rfl, rfl, rfl, rfl, rfl, rfl⟩ := e
    cases d1 <;> cases d2
    · clear c1 c2 c3 c4 hor
      go_wp2_with fail
      rw [← HW.out]
      clear HW
      clear x1 x2 x3 x4 x5 x6 y1 y2 y3 y4 y5 y6 z1 z2 z3 z4 z5 z6
      have va := VA.out
      have vb := VB.out
      have vj := VJ.out
      have p1 : ∀ q : Cl wb.heap.size wb, q.u.cell? ⟨w.heap.size, 0, none⟩ = some (.int .i64 t1) := fun q => (va.cl q).time
      have p2 : ∀ q : Cl wb.heap.size wb, q.u.cell? ⟨w.heap.size, 1, none⟩ = some (.bool false) := fun q => (va.cl q).dead
      have p3 : ∀ q : Cl wb.heap.size wb, q.u.cell? ⟨w.heap.size, 2, none⟩ = some (.int .i64 l1) := fun q => (va.cl q).loc
      have p4 : ∀ q : Cl wb.heap.size wb, q.u.cell? ⟨w.heap.size, 3, none⟩ = some (.int .i64 k1) := fun q => (va.cl q).kind
      have p5 : ∀ q : Cl wb.heap.size wb, q.u.cell? ⟨w.heap.size, 4, none⟩ = some (.int .i64 n1) := fun q => (va.cl q).num
      have p6 : ∀ q : Cl wb.heap.size wb, q.u.cell? ⟨w.heap.size, 5, none⟩ = some (.string s1) := fun q => (va.cl q).s
      have r1 : ∀ q : Cl wb.heap.size wb, q.u.cell? ⟨w.heap.size + 1, 0, none⟩ = some (.int .i64 t1) := fun q => (vb.cl q).time
      have r2 : ∀ q : Cl wb.heap.size wb, q.u.cell? ⟨w.heap.size + 1, 1, none⟩ = some (.bool false) := fun q => (vb.cl q).dead
      have r3 : ∀ q : Cl wb.heap.size wb, q.u.cell? ⟨w.heap.size + 1, 2, none⟩ = some (.int .i64 l2) := fun q => (vb.cl q).loc
      have r4 : ∀ q : Cl wb.heap.size wb, q.u.cell? ⟨w.heap.size + 1, 3, none⟩ = some (.int .i64 k2) := fun q => (vb.cl q).kind
      have r5 : ∀ q : Cl wb.heap.size wb, q.u.cell? ⟨w.heap.size + 1, 4, none⟩ = some (.int .i64 n2) := fun q => (vb.cl q).num
      have r6 : ∀ q : Cl wb.heap.size wb, q.u.cell? ⟨w.heap.size + 1, 5, none⟩ = some (.string s2) := fun q => (vb.cl q).s
      have u1 : ∀ q : Cl wb.heap.size wb, q.u.cell? ⟨w1.heap.size, 0, none⟩ = some (.int .i64 t1) := fun q => (vj.cl q).time
      have u2 : ∀ q : Cl wb.heap.size wb, q.u.cell? ⟨w1.heap.size, 1, none⟩ = some (.bool false) := fun q => (vj.cl q).dead
      have u3 : ∀ q : Cl wb.heap.size wb, q.u.cell? ⟨w1.heap.size, 2, none⟩ = some (.int .i64 l1) := fun q => (vj.cl q).loc
      have u4 : ∀ q : Cl wb.heap.size wb, q.u.cell? ⟨w1.heap.size, 3, none⟩ = some (.int .i64 k1) := fun q => (vj.cl q).kind
      have u5 : ∀ q : Cl wb.heap.size wb, q.u.cell? ⟨w1.heap.size, 4, none⟩ = some (.int .i64 n1) := fun q => (vj.cl q).num
      have u6 : ∀ q : Cl wb.heap.size wb, q.u.cell? ⟨w1.heap.size, 5, none⟩ = some (.string s1) := fun q => (vj.cl q).s
      clear va vb vj VA VB VJ
      haveI := Cl.inh wb.heap.size wb
      refine wp_region_cl wb.heap.size (by kernel_rfl) (by kernel_rfl) ?_
      quiet_step (fail)
      quiet_step (fail)
      quiet_step (fail)
      repeat (quiet_step (first | (go_at_call 17; exact Cl.calls (Nat.le_refl _) (L.out _)) | (go_at_call 10; exact Cl.calls (Nat.le_refl _) (LV.out _))))
      refine wpQuiet_nil ?_
      rintro w0 ⟨q, rfl⟩
      go_wp2_with fail
      go_ret
      exact ⟨rfl, HE.out _ q.h⟩
    · have e := c4.out trivial rfl rfl
      exact absurd e.2.1 (by decide)
    · clear c1 c2 c3 c4 hor
      go_wp2_with fail
      rw [← HW.out]
      clear HW
      clear x1 x2 x3 x4 x5 x6 y1 y2 y3 y4 y5 y6 z1 z2 z3 z4 z5 z6
      have va := VA.out
      have vb := VB.out
      have vj := VJ.out
      have p1 : ∀ q : Cl wb.heap.size wb, q.u.cell? ⟨w.heap.size, 0, none⟩ = some (.int .i64 t1) := fun q => (va.cl q).time
      have p2 : ∀ q : Cl wb.heap.size wb, q.u.cell? ⟨w.heap.size, 1, none⟩ = some (.bool true) := fun q => (va.cl q).dead
      have p3 : ∀ q : Cl wb.heap.size wb, q.u.cell? ⟨w.heap.size, 2, none⟩ = some (.int .i64 l1) := fun q => (va.cl q).loc
      have p4 : ∀ q : Cl wb.heap.size wb, q.u.cell? ⟨w.heap.size, 3, none⟩ = some (.int .i64 k1) := fun q => (va.cl q).kind
      have p5 : ∀ q : Cl wb.heap.size wb, q.u.cell? ⟨w.heap.size, 4, none⟩ = some (.int .i64 n1) := fun q => (va.cl q).num
      have p6 : ∀ q : Cl wb.heap.size wb, q.u.cell? ⟨w.heap.size, 5, none⟩ = some (.string s1) := fun q => (va.cl q).s
      have r1 : ∀ q : Cl wb.heap.size wb, q.u.cell? ⟨w.heap.size + 1, 0, none⟩ = some (.int .i64 t1) := fun q => (vb.cl q).time
      have r2 : ∀ q : Cl wb.heap.size wb, q.u.cell? ⟨w.heap.size + 1, 1, none⟩ = some (.bool false) := fun q => (vb.cl q).dead
      have r3 : ∀ q : Cl wb.heap.size wb, q.u.cell? ⟨w.heap.size + 1, 2, none⟩ = some (.int .i64 l2) := fun q => (vb.cl q).loc
      have r4 : ∀ q : Cl wb.heap.size wb, q.u.cell? ⟨w.heap.size + 1, 3, none⟩ = some (.int .i64 k2) := fun q => (vb.cl q).kind
      have r5 : ∀ q : Cl wb.heap.size wb, q.u.cell? ⟨w.heap.size + 1, 4, none⟩ = some (.int .i64 n2) := fun q => (vb.cl q).num
      have r6 : ∀ q : Cl wb.heap.size wb, q.u.cell? ⟨w.heap.size + 1, 5, none⟩ = some (.string s2) := fun q => (vb.cl q).s
      have u1 : ∀ q : Cl wb.heap.size wb, q.u.cell? ⟨w1.heap.size, 0, none⟩ = some (.int .i64 t1) := fun q => (vj.cl q).time
      have u2 : ∀ q : Cl wb.heap.size wb, q.u.cell? ⟨w1.heap.size, 1, none⟩ = some (.bool true) := fun q => (vj.cl q).dead
      have u3 : ∀ q : Cl wb.heap.size wb, q.u.cell? ⟨w1.heap.size, 2, none⟩ = some (.int .i64 l1) := fun q => (vj.cl q).loc
      have u4 : ∀ q : Cl wb.heap.size wb, q.u.cell? ⟨w1.heap.size, 3, none⟩ = some (.int .i64 k1) := fun q => (vj.cl q).kind
      have u5 : ∀ q : Cl wb.heap.size wb, q.u.cell? ⟨w1.heap.size, 4, none⟩ = some (.int .i64 n1) := fun q => (vj.cl q).num
      have u6 : ∀ q : Cl wb.heap.size wb, q.u.cell? ⟨w1.heap.size, 5, none⟩ = some (.string s1) := fun q => (vj.cl q).s
      clear va vb vj VA VB VJ
      haveI := Cl.inh wb.heap.size wb
      refine wp_region_cl wb.heap.size (by kernel_rfl) (by kernel_rfl) ?_
      quiet_step (fail)
      quiet_step (fail)
      quiet_step (fail)
      repeat (quiet_step (first | (go_at_call 17; exact Cl.calls (Nat.le_refl _) (L.out _)) | (go_at_call 10; exact Cl.calls (Nat.le_refl _) (LV.out _))))
      refine wpQuiet_nil ?_
      rintro w0 ⟨q, rfl⟩
      go_wp2_with fail
      go_ret
      exact ⟨rfl, HE.out _ q.h⟩
    · clear c1 c2 c3 c4 hor
      go_wp2_with fail
      rw [← HW.out]
      clear HW
      clear x1 x2 x3 x4 x5 x6 y1 y2 y3 y4 y5 y6 z1 z2 z3 z4 z5 z6
      have va := VA.out
      have vb := VB.out
      have vj := VJ.out
      have p1 : ∀ q : Cl wb.heap.size wb, q.u.cell? ⟨w.heap.size, 0, none⟩ = some (.int .i64 t1) := fun q => (va.cl q).time
      have p2 : ∀ q : Cl wb.heap.size wb, q.u.cell? ⟨w.heap.size, 1, none⟩ = some (.bool true) := fun q => (va.cl q).dead
      have p3 : ∀ q : Cl wb.heap.size wb, q.u.cell? ⟨w.heap.size, 2, none⟩ = some (.int .i64 l1) := fun q => (va.cl q).loc
      have p4 : ∀ q : Cl wb.heap.size wb, q.u.cell? ⟨w.heap.size, 3, none⟩ = some (.int .i64 k1) := fun q => (va.cl q).kind
      have p5 : ∀ q : Cl wb.heap.size wb, q.u.cell? ⟨w.heap.size, 4, none⟩ = some (.int .i64 n1) := fun q => (va.cl q).num
      have p6 : ∀ q : Cl wb.heap.size wb, q.u.cell? ⟨w.heap.size, 5, none⟩ = some (.string s1) := fun q => (va.cl q).s
      have r1 : ∀ q : Cl wb.heap.size wb, q.u.cell? ⟨w.heap.size + 1, 0, none⟩ = some (.int .i64 t1) := fun q => (vb.cl q).time
      have r2 : ∀ q : Cl wb.heap.size wb, q.u.cell? ⟨w.heap.size + 1, 1, none⟩ = some (.bool true) := fun q => (vb.cl q).dead
      have r3 : ∀ q : Cl wb.heap.size wb, q.u.cell? ⟨w.heap.size + 1, 2, none⟩ = some (.int .i64 l2) := fun q => (vb.cl q).loc
      have r4 : ∀ q : Cl wb.heap.size wb, q.u.cell? ⟨w.heap.size + 1, 3, none⟩ = some (.int .i64 k2) := fun q => (vb.cl q).kind
      have r5 : ∀ q : Cl wb.heap.size wb, q.u.cell? ⟨w.heap.size + 1, 4, none⟩ = some (.int .i64 n2) := fun q => (vb.cl q).num
      have r6 : ∀ q : Cl wb.heap.size wb, q.u.cell? ⟨w.heap.size + 1, 5, none⟩ = some (.string s2) := fun q => (vb.cl q).s
      have u1 : ∀ q : Cl wb.heap.size wb, q.u.cell? ⟨w1.heap.size, 0, none⟩ = some (.int .i64 t1) := fun q => (vj.cl q).time
      have u2 : ∀ q : Cl wb.heap.size wb, q.u.cell? ⟨w1.heap.size, 1, none⟩ = some (.bool true) := fun q => (vj.cl q).dead
      have u3 : ∀ q : Cl wb.heap.size wb, q.u.cell? ⟨w1.heap.size, 2, none⟩ = some (.int .i64 l1) := fun q => (vj.cl q).loc
      have u4 : ∀ q : Cl wb.heap.size wb, q.u.cell? ⟨w1.heap.size, 3, none⟩ = some (.int .i64 k1) := fun q => (vj.cl q).kind
      have u5 : ∀ q : Cl wb.heap.size wb, q.u.cell? ⟨w1.heap.size, 4, none⟩ = some (.int .i64 n1) := fun q => (vj.cl q).num
      have u6 : ∀ q : Cl wb.heap.size wb, q.u.cell? ⟨w1.heap.size, 5, none⟩ = some (.string s1) := fun q => (vj.cl q).s
      clear va vb vj VA VB VJ
      haveI := Cl.inh wb.heap.size wb
      refine wp_region_cl wb.heap.size (by kernel_rfl) (by kernel_rfl) ?_
      quiet_step (fail)
      quiet_step (fail)
      quiet_step (fail)
      repeat (quiet_step (first | (go_at_call 17; exact Cl.calls (Nat.le_refl _) (L.out _)) | (go_at_call 10; exact Cl.calls (Nat.le_refl _) (LV.out _))))
      refine wpQuiet_nil ?_
      rintro w0 ⟨q, rfl⟩
      go_wp2_with fail
      go_ret
      exact ⟨rfl, HE.out _ q.h⟩
  · simp only [Vr.mk.injEq] at e c3 c4
    obtain ⟨rfl, rfl, rfl, rfl, rfl, rfl⟩ := e
    cases d1 <;> cases d2
    · clear c1 c2 c3 c4 hor
      go_wp2_with fail
      rw [← HW.out]
      clear HW
      clear x1 x2 x3 x4 x5 x6 y1 y2 y3 y4 y5 y6 z1 z2 z3 z4 z5 z6
      have va := VA.out
      have vb := VB.out
      have vj := VJ.out
      have p1 : ∀ q : Cl wb.heap.size wb, q.u.cell? ⟨w.heap.size, 0, none⟩ = some (.int .i64 t1) := fun q => (va.cl q).time
      have p2 : ∀ q : Cl wb.heap.size wb, q.u.cell? ⟨w.heap.size, 1, none⟩ = some (.bool false) := fun q => (va.cl q).dead
      have p3 : ∀ q : Cl wb.heap.size wb, q.u.cell? ⟨w.heap.size, 2, none⟩ = some (.int .i64 l1) := fun q => (va.cl q).loc
      have p4 : ∀ q : Cl wb.heap.size wb, q.u.cell? ⟨w.heap.size, 3, none⟩ = some (.int .i64 k1) := fun q => (va.cl q).kind
      have p5 : ∀ q : Cl wb.heap.size wb, q.u.cell? ⟨w.heap.size, 4, none⟩ = some (.int .i64 n1) := fun q => (va.cl q).num
      have p6 : ∀ q : Cl wb.heap.size wb, q.u.cell? ⟨w.heap.size, 5, none⟩ = some (.string s1) := fun q => (va.cl q).s
      have r1 : ∀ q : Cl wb.heap.size wb, q.u.cell? ⟨w.heap.size + 1, 0, none⟩ = some (.int .i64 t1) := fun q => (vb.cl q).time
      have r2 : ∀ q : Cl wb.heap.size wb, q.u.cell? ⟨w.heap.size + 1, 1, none⟩ = some (.bool false) := fun q => (vb.cl q).dead
      have r3 : ∀ q : Cl wb.heap.size wb, q.u.cell? ⟨w.heap.size + 1, 2, none⟩ = some (.int .i64 l2) := fun q => (vb.cl q).loc
      have r4 : ∀ q : Cl wb.heap.size wb, q.u.cell? ⟨w.heap.size + 1, 3, none⟩ = some (.int .i64 k2) := fun q => (vb.cl q).kind
      have r5 : ∀ q : Cl wb.heap.size wb, q.u.cell? ⟨w.heap.size + 1, 4, none⟩ = some (.int .i64 n2) := fun q => (vb.cl q).num
      have r6 : ∀ q : Cl wb.heap.size wb, q.u.cell? ⟨w.heap.size + 1, 5, none⟩ = some (.string s2) := fun q => (vb.cl q).s
      have u1 : ∀ q : Cl wb.heap.size wb, q.u.cell? ⟨w1.heap.size, 0, none⟩ = some (.int .i64 t1) := fun q => (vj.cl q).time
      have u2 : ∀ q : Cl wb.heap.size wb, q.u.cell? ⟨w1.heap.size, 1, none⟩ = some (.bool false) := fun q => (vj.cl q).dead
      have u3 : ∀ q : Cl wb.heap.size wb, q.u.cell? ⟨w1.heap.size, 2, none⟩ = some (.int .i64 l2) := fun q => (vj.cl q).loc
      have u4 : ∀ q : Cl wb.heap.size wb, q.u.cell? ⟨w1.heap.size, 3, none⟩ = some (.int .i64 k2) := fun q => (vj.cl q).kind
      have u5 : ∀ q : Cl wb.heap.size wb, q.u.cell? ⟨w1.heap.size, 4, none⟩ = some (.int .i64 n2) := fun q => (vj.cl q).num
      have u6 : ∀ q : Cl wb.heap.size wb, q.u.cell? ⟨w1.heap.size, 5, none⟩ = some (.string s2) := fun q => (vj.cl q).s
      clear va vb vj VA VB VJ
      haveI := Cl.inh wb.heap.size wb
      refine wp_region_cl wb.heap.size (by kernel_rfl) (by kernel_rfl) ?_
      quiet_step (fail)
      quiet_step (fail)
      refine wpQuiet_step (fun K hK => ?_)
      go_simp
      refine ⟨.bool (eqV ⟨t1, false, l2, k2, n2, s2⟩ ⟨t1, false, l1, k1, n1, s1⟩), fun q => ?_, hK _ ?_⟩
      · by_cases e3 : l2 = l1 <;> by_cases e4 : k2 = k1 <;> by_cases e5 : n2 = n1 <;> by_cases e6 : s2.toList = s1.toList <;> simp [eqV, e3, e4, e5, e6]
      clear hK K
      generalize eqV ⟨t1, false, l2, k2, n2, s2⟩ ⟨t1, false, l1, k1, n1, s1⟩ = e
      cases e
      · repeat (quiet_step (first | (go_at_call 17; exact Cl.calls (Nat.le_refl _) (L.out _)) | (go_at_call 10; exact Cl.calls (Nat.le_refl _) (LV.out _))))
        refine wpQuiet_nil ?_
        rintro w0 ⟨q, rfl⟩
        go_wp2_with fail
        go_ret
        exact ⟨rfl, HE.out _ q.h⟩
      · repeat (quiet_step (first | (go_at_call 17; exact Cl.calls (Nat.le_refl _) (L.out _)) | (go_at_call 10; exact Cl.calls (Nat.le_refl _) (LV.out _))))
        refine wpQuiet_nil ?_
        rintro w0 ⟨q, rfl⟩
        go_wp2_with fail
        go_ret
        exact ⟨rfl, HE.out _ q.h⟩
    · clear c1 c2 c3 c4 hor
      go_wp2_with fail
      rw [← HW.out]
      clear HW
      clear x1 x2 x3 x4 x5 x6 y1 y2 y3 y4 y5 y6 z1 z2 z3 z4 z5 z6
      have va := VA.out
      have vb := VB.out
      have vj := VJ.out
      have p1 : ∀ q : Cl wb.heap.size wb, q.u.cell? ⟨w.heap.size, 0, none⟩ = some (.int .i64 t1) := fun q => (va.cl q).time
      have p2 : ∀ q : Cl wb.heap.size wb, q.u.cell? ⟨w.heap.size, 1, none⟩ = some (.bool false) := fun q => (va.cl q).dead
      have p3 : ∀ q : Cl wb.heap.size wb, q.u.cell? ⟨w.heap.size, 2, none⟩ = some (.int .i64 l1) := fun q => (va.cl q).loc
      have p4 : ∀ q : Cl wb.heap.size wb, q.u.cell? ⟨w.heap.size, 3, none⟩ = some (.int .i64 k1) := fun q => (va.cl q).kind
      have p5 : ∀ q : Cl wb.heap.size wb, q.u.cell? ⟨w.heap.size, 4, none⟩ = some (.int .i64 n1) := fun q => (va.cl q).num
      have p6 : ∀ q : Cl wb.heap.size wb, q.u.cell? ⟨w.heap.size, 5, none⟩ = some (.string s1) := fun q => (va.cl q).s
      have r1 : ∀ q : Cl wb.heap.size wb, q.u.cell? ⟨w.heap.size + 1, 0, none⟩ = some (.int .i64 t1) := fun q => (vb.cl q).time
      have r2 : ∀ q : Cl wb.heap.size wb, q.u.cell? ⟨w.heap.size + 1, 1, none⟩ = some (.bool true) := fun q => (vb.cl q).dead
      have r3 : ∀ q : Cl wb.heap.size wb, q.u.cell? ⟨w.heap.size + 1, 2, none⟩ = some (.int .i64 l2) := fun q => (vb.cl q).loc
      have r4 : ∀ q : Cl wb.heap.size wb, q.u.cell? ⟨w.heap.size + 1, 3, none⟩ = some (.int .i64 k2) := fun q => (vb.cl q).kind
      have r5 : ∀ q : Cl wb.heap.size wb, q.u.cell? ⟨w.heap.size + 1, 4, none⟩ = some (.int .i64 n2) := fun q => (vb.cl q).num
      have r6 : ∀ q : Cl wb.heap.size wb, q.u.cell? ⟨w.heap.size + 1, 5, none⟩ = some (.string s2) := fun q => (vb.cl q).s
      have u1 : ∀ q : Cl wb.heap.size wb, q.u.cell? ⟨w1.heap.size, 0, none⟩ = some (.int .i64 t1) := fun q => (vj.cl q).time
      have u2 : ∀ q : Cl wb.heap.size wb, q.u.cell? ⟨w1.heap.size, 1, none⟩ = some (.bool true) := fun q => (vj.cl q).dead
      have u3 : ∀ q : Cl wb.heap.size wb, q.u.cell? ⟨w1.heap.size, 2, none⟩ = some (.int .i64 l2) := fun q => (vj.cl q).loc
      have u4 : ∀ q : Cl wb.heap.size wb, q.u.cell? ⟨w1.heap.size, 3, none⟩ = some (.int .i64 k2) := fun q => (vj.cl q).kind
      have u5 : ∀ q : Cl wb.heap.size wb, q.u.cell? ⟨w1.heap.size, 4, none⟩ = some (.int .i64 n2) := fun q => (vj.cl q).num
      have u6 : ∀ q : Cl wb.heap.size wb, q.u.cell? ⟨w1.heap.size, 5, none⟩ = some (.string s2) := fun q => (vj.cl q).s
      clear va vb vj VA VB VJ
      haveI := Cl.inh wb.heap.size wb
      refine wp_region_cl wb.heap.size (by kernel_rfl) (by kernel_rfl) ?_
      quiet_step (fail)
      quiet_step (fail)
      quiet_step (fail)
      repeat (quiet_step (first | (go_at_call 17; exact Cl.calls (Nat.le_refl _) (L.out _)) | (go_at_call 10; exact Cl.calls (Nat.le_refl _) (LV.out _))))
      refine wpQuiet_nil ?_
      rintro w0 ⟨q, rfl⟩
      go_wp2_with fail
      go_ret
      exact ⟨rfl, HE.out _ q.h⟩
    · have e := c3.out trivial rfl rfl
      exact absurd e.2.1 (by decide)
    · clear c1 c2 c3 c4 hor
      go_wp2_with fail
      rw [← HW.out]
      clear HW
      clear x1 x2 x3 x4 x5 x6 y1 y2 y3 y4 y5 y6 z1 z2 z3 z4 z5 z6
      have va := VA.out
      have vb := VB.out
      have vj := VJ.out
      have p1 : ∀ q : Cl wb.heap.size wb, q.u.cell? ⟨w.heap.size, 0, none⟩ = some (.int .i64 t1) := fun q => (va.cl q).time
      have p2 : ∀ q : Cl wb.heap.size wb, q.u.cell? ⟨w.heap.size, 1, none⟩ = some (.bool true) := fun q => (va.cl q).dead
      have p3 : ∀ q : Cl wb.heap.size wb, q.u.cell? ⟨w.heap.size, 2, none⟩ = some (.int .i64 l1) := fun q => (va.cl q).loc
      have p4 : ∀ q : Cl wb.heap.size wb, q.u.cell? ⟨w.heap.size, 3, none⟩ = some (.int .i64 k1) := fun q => (va.cl q).kind
      have p5 : ∀ q : Cl wb.heap.size wb, q.u.cell? ⟨w.heap.size, 4, none⟩ = some (.int .i64 n1) := fun q => (va.cl q).num
      have p6 : ∀ q : Cl wb.heap.size wb, q.u.cell? ⟨w.heap.size, 5, none⟩ = some (.string s1) := fun q => (va.cl q).s
      have r1 : ∀ q : Cl wb.heap.size wb, q.u.cell? ⟨w.heap.size + 1, 0, none⟩ = some (.int .i64 t1) := fun q => (vb.cl q).time
      have r2 : ∀ q : Cl wb.heap.size wb, q.u.cell? ⟨w.heap.size + 1, 1, none⟩ = some (.bool true) := fun q => (vb.cl q).dead
      have r3 : ∀ q : Cl wb.heap.size wb, q.u.cell? ⟨w.heap.size + 1, 2, none⟩ = some (.int .i64 l2) := fun q => (vb.cl q).loc
      have r4 : ∀ q : Cl wb.heap.size wb, q.u.cell? ⟨w.heap.size + 1, 3, none⟩ = some (.int .i64 k2) := fun q => (vb.cl q).kind
      have r5 : ∀ q : Cl wb.heap.size wb, q.u.cell? ⟨w.heap.size + 1, 4, none⟩ = some (.int .i64 n2) := fun q => (vb.cl q).num
      have r6 : ∀ q : Cl wb.heap.size wb, q.u.cell? ⟨w.heap.size + 1, 5, none⟩ = some (.string s2) := fun q => (vb.cl q).s
      have u1 : ∀ q : Cl wb.heap.size wb, q.u.cell? ⟨w1.heap.size, 0, none⟩ = some (.int .i64 t1) := fun q => (vj.cl q).time
      have u2 : ∀ q : Cl wb.heap.size wb, q.u.cell? ⟨w1.heap.size, 1, none⟩ = some (.bool true) := fun q => (vj.cl q).dead
      have u3 : ∀ q : Cl wb.heap.size wb, q.u.cell? ⟨w1.heap.size, 2, none⟩ = some (.int .i64 l2) := fun q => (vj.cl q).loc
      have u4 : ∀ q : Cl wb.heap.size wb, q.u.cell? ⟨w1.heap.size, 3, none⟩ = some (.int .i64 k2) := fun q => (vj.cl q).kind
      have u5 : ∀ q : Cl wb.heap.size wb, q.u.cell? ⟨w1.heap.size, 4, none⟩ = some (.int .i64 n2) := fun q => (vj.cl q).num
      have u6 : ∀ q : Cl wb.heap.size wb, q.u.cell? ⟨w1.heap.size, 5, none⟩ = some (.string s2) := fun q => (vj.cl q).s
      clear va vb vj VA VB VJ
      haveI := Cl.inh wb.heap.size wb
      refine wp_region_cl wb.heap.size (by kernel_rfl) (by kernel_rfl) ?_
      quiet_step (fail)
      quiet_step (fail)
      refine wpQuiet_step (fun K hK => ?_)
      go_simp
      refine ⟨.bool (eqV ⟨t1, true, l2, k2, n2, s2⟩ ⟨t1, true, l1, k1, n1, s1⟩), fun q => ?_, hK _ ?_⟩
      · by_cases e3 : l2 = l1 <;> by_cases e4 : k2 = k1 <;> by_cases e5 : n2 = n1 <;> by_cases e6 : s2.toList = s1.toList <;> simp [eqV, e3, e4, e5, e6]
      clear hK K
      generalize eqV ⟨t1, true, l2, k2, n2, s2⟩ ⟨t1, true, l1, k1, n1, s1⟩ = e
      cases e
      · repeat (quiet_step (first | (go_at_call 17; exact Cl.calls (Nat.le_refl _) (L.out _)) | (go_at_call 10; exact Cl.calls (Nat.le_refl _) (LV.out _))))
        refine wpQuiet_nil ?_
        rintro w0 ⟨q, rfl⟩
        go_wp2_with fail
        go_ret
        exact ⟨rfl, HE.out _ q.h⟩
      · repeat (quiet_step (first | (go_at_call 17; exact Cl.calls (Nat.le_refl _) (L.out _)) | (go_at_call 10; exact Cl.calls (Nat.le_refl _) (LV.out _))))
        refine wpQuiet_nil ?_
        rintro w0 ⟨q, rfl⟩
        go_wp2_with fail
        go_ret
        exact ⟨rfl, HE.out _ q.h⟩
end Go.Proofs.Ytlbakepijncfgaa.cellLater
