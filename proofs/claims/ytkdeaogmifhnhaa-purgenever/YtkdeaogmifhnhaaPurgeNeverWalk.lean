/-
  THE LAW PurgeNever, walked.
-/
import Derived.Test.YtkdeaogmifhnhaaPrgLives
import Derived.Test.YtkdeaogmifhnhaaRegCl
namespace Go.Proofs.Ytkdeaogmifhnhaa.purgeNever
open Go.RowKit Go.Proofs.Ytkdeaogmifhnhaa

theorem old_zero (v : Vr) (n : Int) (hd : v.dead = true) : oldV v n 0 = decide (v.loc ≤ n) := by
  unfold oldV
  rw [hd]
  by_cases h : v.loc ≤ n
  · simp [h]
  · simp [h]
theorem old_neg (v : Vr) (n g : Int) (hg : g < 0) : oldV v n g = oldV v n 0 := by
  unfold oldV
  rw [show max g 0 = max 0 0 by omega]
theorem old_le (v : Vr) (n g : Int) (h : oldV v n g = true) : v.loc ≤ n := by
  unfold oldV at h
  simp only [Bool.and_eq_true, decide_eq_true_eq] at h
  exact h.2.1
set_option maxRecDepth 100000 in
set_option maxHeartbeats 2000000 in
theorem walk (v : Vr) (n g : Int) (w : World) (hl0 : InI v.time ∧ InI v.loc ∧ InI v.kind ∧ InI v.num) (_ : v.s.size ≤ 140737488355328) (hn : InI n) (hg : InI g) :
    Calls Try.prog 5 #[v.v, .agg #[.int .i64 n, .int .i64 g]] w fun e w' => e = .returned (.bool true) ∧ Below w.heap.size w w' := by
  have hl := hl0.2.1
  clear hl0
  have LV : Hid (∀ w : World, Calls Try.prog 7 #[] w fun x w' => x = .returned (.bool true) ∧ Below w.heap.size w w') := fun w => lives11_any w
  have O1 : Hid (∀ u : World, Calls Try.prog 8 #[v.v, .int .i64 n, .int .i64 g] u fun x w' => x = .returned (.bool (oldV v n g)) ∧ Below u.heap.size u w') := fun u => old_any v n g u hl hn hg
  have O2 : Hid (∀ u : World, Calls Try.prog 8 #[v.v, .int .i64 n, .int .i64 0] u fun x w' => x = .returned (.bool (oldV v n 0)) ∧ Below u.heap.size u w') := fun u => old_any v n 0 u hl hn (by unfold InI; decide)
  have Z := old_zero v n
  have NG := old_neg v n g
  have LE := old_le v n g
  have LI := oldV_live (v := v) (now := n) (g := g)
  obtain ⟨t1, d1, l1, k1, n1, s1⟩ := v
  simp only [Vr.v] at O1 O2 Z LE LI ⊢
  generalize oldV ⟨t1, d1, l1, k1, n1, s1⟩ n g = r at *
  generalize oldV ⟨t1, d1, l1, k1, n1, s1⟩ n 0 = r0 at *
  obtain ⟨wa, hwa⟩ : ∃ wa, wa = (w.alloc (.cells #[.int .i64 t1, .bool d1, .int .i64 l1, .int .i64 k1, .int .i64 n1, .string s1] 33)).alloc (.cells #[.int .i64 n, .int .i64 g] 25) := ⟨_, rfl⟩
  have hB : Below w.heap.size w wa := by rw [hwa]; exact ((Below.refl _ _).alloc (Nat.le_refl _) _).alloc (by simp) _
  have T : VAt wa w.heap.size 0 ⟨t1, d1, l1, k1, n1, s1⟩ := by
    rw [hwa]
    exact (VAt.of (heap_alloc_new w _)).below ((Below.refl (w.heap.size + 1) _).alloc (by simp) _) (by omega)
  have W0 : wa.cell? ⟨w.heap.size + 1, 0, none⟩ = some (.int .i64 n) := by
    rw [hwa]
    have := heap_alloc_new (w.alloc (.cells #[.int .i64 t1, .bool d1, .int .i64 l1, .int .i64 k1, .int .i64 n1, .string s1] 33)) (.cells #[.int .i64 n, .int .i64 g] 25)
    rw [World.size_alloc] at this
    simp only [World.cell?, this]
    rfl
  have W1 : wa.cell? ⟨w.heap.size + 1, 1, none⟩ = some (.int .i64 g) := by
    rw [hwa]
    have := heap_alloc_new (w.alloc (.cells #[.int .i64 t1, .bool d1, .int .i64 l1, .int .i64 k1, .int .i64 n1, .string s1] 33)) (.cells #[.int .i64 n, .int .i64 g] 25)
    rw [World.size_alloc] at this
    simp only [World.cell?, this]
    rfl
  have q0 : ∀ q : Cl wa.heap.size wa, q.u.cell? ⟨w.heap.size, 0, none⟩ = some (.int .i64 t1) := fun q => (T.below q.h T.lt).time
  have q1 : ∀ q : Cl wa.heap.size wa, q.u.cell? ⟨w.heap.size, 1, none⟩ = some (.bool d1) := fun q => (T.below q.h T.lt).dead
  have q2 : ∀ q : Cl wa.heap.size wa, q.u.cell? ⟨w.heap.size, 2, none⟩ = some (.int .i64 l1) := fun q => (T.below q.h T.lt).loc
  have q3 : ∀ q : Cl wa.heap.size wa, q.u.cell? ⟨w.heap.size, 3, none⟩ = some (.int .i64 k1) := fun q => (T.below q.h T.lt).kind
  have q4 : ∀ q : Cl wa.heap.size wa, q.u.cell? ⟨w.heap.size, 4, none⟩ = some (.int .i64 n1) := fun q => (T.below q.h T.lt).num
  have q5 : ∀ q : Cl wa.heap.size wa, q.u.cell? ⟨w.heap.size, 5, none⟩ = some (.string s1) := fun q => (T.below q.h T.lt).s
  have q6 : ∀ q : Cl wa.heap.size wa, q.u.cell? ⟨w.heap.size + 1, 0, none⟩ = some (.int .i64 n) := fun q => (q.h.cell (World.block_lt_of_cell? _ _ W0)).trans W0
  have q7 : ∀ q : Cl wa.heap.size wa, q.u.cell? ⟨w.heap.size + 1, 1, none⟩ = some (.int .i64 g) := fun q => (q.h.cell (World.block_lt_of_cell? _ _ W1)).trans W1
  have HQ : Hid (∀ u, Below wa.heap.size wa u → u.cell? ⟨w.heap.size, 0, none⟩ = some (.int .i64 t1) ∧ u.cell? ⟨w.heap.size, 1, none⟩ = some (.bool d1) ∧ u.cell? ⟨w.heap.size, 2, none⟩ = some (.int .i64 l1) ∧ u.cell? ⟨w.heap.size, 3, none⟩ = some (.int .i64 k1) ∧ u.cell? ⟨w.heap.size, 4, none⟩ = some (.int .i64 n1) ∧ u.cell? ⟨w.heap.size, 5, none⟩ = some (.string s1) ∧ u.cell? ⟨w.heap.size + 1, 0, none⟩ = some (.int .i64 n) ∧ u.cell? ⟨w.heap.size + 1, 1, none⟩ = some (.int .i64 g)) :=
    fun u hu => ⟨q0 ⟨u, hu⟩, q1 ⟨u, hu⟩, q2 ⟨u, hu⟩, q3 ⟨u, hu⟩, q4 ⟨u, hu⟩, q5 ⟨u, hu⟩, q6 ⟨u, hu⟩, q7 ⟨u, hu⟩⟩
  have HE : Hid (∀ u, Below wa.heap.size wa u → Below w.heap.size w u) := fun u h => hB.trans (h.mono hB.size)
  have HZ : Hid (d1 = true → r0 = decide (l1 ≤ n)) := Z
  have HNG : Hid (g < 0 → r = r0) := NG
  have HLE : Hid (r = true → l1 ≤ n) := LE
  have HLI : Hid (d1 = false → r = false) := LI
  clear Z NG LE LI T W0 W1 hB hl hn hg
  haveI := Cl.inh wa.heap.size wa
  go_enter Try.func5, Try.ntmps5
  go_wp2_with fail
  rw [← hwa]
  clear hwa
  refine (O1.out _).mono ?_
  rintro e u ⟨rfl, hu⟩
  obtain ⟨f0, f1, f2, f3, f4, f5, f6, f7⟩ := HQ.out u hu
  cases d1
  · have hr := HLI.out rfl
    subst hr
    go_wp2_with fail
    refine (LV.out _).mono ?_
    rintro e u2 ⟨rfl, hu2⟩
    go_wp2_with fail
    go_ret
    exact ⟨rfl, HE.out u2 (hu.trans (hu2.mono hu.size))⟩
  · have hz := HZ.out rfl
    clear HZ HLI
    by_cases hgz : g < 0
    · have hr := HNG.out hgz
      subst hr
      by_cases hle : l1 ≤ n
      · obtain rfl : r = true := by rw [hz]; exact decide_eq_true hle
        clear hz HNG HLE
        go_wp2_with fail
        refine (O2.out _).mono ?_
        rintro e u2 ⟨rfl, hu2⟩
        have hu3 := hu.trans (hu2.mono hu.size)
        clear hu2 f0 f1 f2 f3 f4 f5 f6 f7
        obtain ⟨f0, f1, f2, f3, f4, f5, f6, f7⟩ := HQ.out u2 hu3
        have p0 : ∀ q : Cl u2.heap.size u2, q.u.cell? ⟨w.heap.size, 0, none⟩ = some (.int .i64 t1) := fun q => (HQ.out q.u (hu3.trans (q.h.mono hu3.size))).1
        have p1 : ∀ q : Cl u2.heap.size u2, q.u.cell? ⟨w.heap.size, 1, none⟩ = some (.bool true) := fun q => (HQ.out q.u (hu3.trans (q.h.mono hu3.size))).2.1
        have p2 : ∀ q : Cl u2.heap.size u2, q.u.cell? ⟨w.heap.size, 2, none⟩ = some (.int .i64 l1) := fun q => (HQ.out q.u (hu3.trans (q.h.mono hu3.size))).2.2.1
        have p3 : ∀ q : Cl u2.heap.size u2, q.u.cell? ⟨w.heap.size, 3, none⟩ = some (.int .i64 k1) := fun q => (HQ.out q.u (hu3.trans (q.h.mono hu3.size))).2.2.2.1
        have p4 : ∀ q : Cl u2.heap.size u2, q.u.cell? ⟨w.heap.size, 4, none⟩ = some (.int .i64 n1) := fun q => (HQ.out q.u (hu3.trans (q.h.mono hu3.size))).2.2.2.2.1
        have p5 : ∀ q : Cl u2.heap.size u2, q.u.cell? ⟨w.heap.size, 5, none⟩ = some (.string s1) := fun q => (HQ.out q.u (hu3.trans (q.h.mono hu3.size))).2.2.2.2.2.1
        have p6 : ∀ q : Cl u2.heap.size u2, q.u.cell? ⟨w.heap.size + 1, 0, none⟩ = some (.int .i64 n) := fun q => (HQ.out q.u (hu3.trans (q.h.mono hu3.size))).2.2.2.2.2.2.1
        have p7 : ∀ q : Cl u2.heap.size u2, q.u.cell? ⟨w.heap.size + 1, 1, none⟩ = some (.int .i64 g) := fun q => (HQ.out q.u (hu3.trans (q.h.mono hu3.size))).2.2.2.2.2.2.2
        have HE2 : Hid (∀ y, Below u2.heap.size u2 y → Below w.heap.size w y) := fun y h => HE.out y (hu3.trans (h.mono hu3.size))
        haveI := Cl.inh u2.heap.size u2
        clear q0 q1 q2 q3 q4 q5 q6 q7
        go_wp2_with fail
        clear f0 f1 f2 f3 f4 f5 f6 f7
        refine wp_region_cl u2.heap.size (by kernel_rfl) (by kernel_rfl) ?_
        repeat (quiet_step (first | (go_at_call 8; exact Cl.calls (Nat.le_refl _) (O2.out _)) | (go_at_call 7; exact Cl.calls (Nat.le_refl _) (LV.out _))))
        refine wpQuiet_nil ?_
        rintro w0 ⟨q, rfl⟩
        go_wp2_with fail
        go_ret
        exact ⟨rfl, HE2.out _ q.h⟩
      · obtain rfl : r = false := by rw [hz]; exact decide_eq_false hle
        have dd : decide (l1 ≤ n) = false := decide_eq_false hle
        clear hz HNG HLE
        go_wp2_with fail
        refine (O2.out _).mono ?_
        rintro e u2 ⟨rfl, hu2⟩
        have hu3 := hu.trans (hu2.mono hu.size)
        clear hu2 f0 f1 f2 f3 f4 f5 f6 f7
        obtain ⟨f0, f1, f2, f3, f4, f5, f6, f7⟩ := HQ.out u2 hu3
        have p0 : ∀ q : Cl u2.heap.size u2, q.u.cell? ⟨w.heap.size, 0, none⟩ = some (.int .i64 t1) := fun q => (HQ.out q.u (hu3.trans (q.h.mono hu3.size))).1
        have p1 : ∀ q : Cl u2.heap.size u2, q.u.cell? ⟨w.heap.size, 1, none⟩ = some (.bool true) := fun q => (HQ.out q.u (hu3.trans (q.h.mono hu3.size))).2.1
        have p2 : ∀ q : Cl u2.heap.size u2, q.u.cell? ⟨w.heap.size, 2, none⟩ = some (.int .i64 l1) := fun q => (HQ.out q.u (hu3.trans (q.h.mono hu3.size))).2.2.1
        have p3 : ∀ q : Cl u2.heap.size u2, q.u.cell? ⟨w.heap.size, 3, none⟩ = some (.int .i64 k1) := fun q => (HQ.out q.u (hu3.trans (q.h.mono hu3.size))).2.2.2.1
        have p4 : ∀ q : Cl u2.heap.size u2, q.u.cell? ⟨w.heap.size, 4, none⟩ = some (.int .i64 n1) := fun q => (HQ.out q.u (hu3.trans (q.h.mono hu3.size))).2.2.2.2.1
        have p5 : ∀ q : Cl u2.heap.size u2, q.u.cell? ⟨w.heap.size, 5, none⟩ = some (.string s1) := fun q => (HQ.out q.u (hu3.trans (q.h.mono hu3.size))).2.2.2.2.2.1
        have p6 : ∀ q : Cl u2.heap.size u2, q.u.cell? ⟨w.heap.size + 1, 0, none⟩ = some (.int .i64 n) := fun q => (HQ.out q.u (hu3.trans (q.h.mono hu3.size))).2.2.2.2.2.2.1
        have p7 : ∀ q : Cl u2.heap.size u2, q.u.cell? ⟨w.heap.size + 1, 1, none⟩ = some (.int .i64 g) := fun q => (HQ.out q.u (hu3.trans (q.h.mono hu3.size))).2.2.2.2.2.2.2
        have HE2 : Hid (∀ y, Below u2.heap.size u2 y → Below w.heap.size w y) := fun y h => HE.out y (hu3.trans (h.mono hu3.size))
        haveI := Cl.inh u2.heap.size u2
        clear q0 q1 q2 q3 q4 q5 q6 q7
        go_wp2_with fail
        clear f0 f1 f2 f3 f4 f5 f6 f7
        refine wp_region_cl u2.heap.size (by kernel_rfl) (by kernel_rfl) ?_
        repeat (quiet_step (first | (go_at_call 8; exact Cl.calls (Nat.le_refl _) (O2.out _)) | (go_at_call 7; exact Cl.calls (Nat.le_refl _) (LV.out _))))
        refine wpQuiet_nil ?_
        rintro w0 ⟨q, rfl⟩
        go_wp2_with fail
        go_ret
        exact ⟨rfl, HE2.out _ q.h⟩
    · by_cases hle : l1 ≤ n
      · obtain rfl : r0 = true := by rw [hz]; exact decide_eq_true hle
        clear hz HNG HLE
        cases r
        · have p0 : ∀ q : Cl u.heap.size u, q.u.cell? ⟨w.heap.size, 0, none⟩ = some (.int .i64 t1) := fun q => (HQ.out q.u (hu.trans (q.h.mono hu.size))).1
          have p1 : ∀ q : Cl u.heap.size u, q.u.cell? ⟨w.heap.size, 1, none⟩ = some (.bool true) := fun q => (HQ.out q.u (hu.trans (q.h.mono hu.size))).2.1
          have p2 : ∀ q : Cl u.heap.size u, q.u.cell? ⟨w.heap.size, 2, none⟩ = some (.int .i64 l1) := fun q => (HQ.out q.u (hu.trans (q.h.mono hu.size))).2.2.1
          have p3 : ∀ q : Cl u.heap.size u, q.u.cell? ⟨w.heap.size, 3, none⟩ = some (.int .i64 k1) := fun q => (HQ.out q.u (hu.trans (q.h.mono hu.size))).2.2.2.1
          have p4 : ∀ q : Cl u.heap.size u, q.u.cell? ⟨w.heap.size, 4, none⟩ = some (.int .i64 n1) := fun q => (HQ.out q.u (hu.trans (q.h.mono hu.size))).2.2.2.2.1
          have p5 : ∀ q : Cl u.heap.size u, q.u.cell? ⟨w.heap.size, 5, none⟩ = some (.string s1) := fun q => (HQ.out q.u (hu.trans (q.h.mono hu.size))).2.2.2.2.2.1
          have p6 : ∀ q : Cl u.heap.size u, q.u.cell? ⟨w.heap.size + 1, 0, none⟩ = some (.int .i64 n) := fun q => (HQ.out q.u (hu.trans (q.h.mono hu.size))).2.2.2.2.2.2.1
          have p7 : ∀ q : Cl u.heap.size u, q.u.cell? ⟨w.heap.size + 1, 1, none⟩ = some (.int .i64 g) := fun q => (HQ.out q.u (hu.trans (q.h.mono hu.size))).2.2.2.2.2.2.2
          have HE2 : Hid (∀ y, Below u.heap.size u y → Below w.heap.size w y) := fun y h => HE.out y (hu.trans (h.mono hu.size))
          haveI := Cl.inh u.heap.size u
          clear q0 q1 q2 q3 q4 q5 q6 q7
          go_wp2_with fail
          clear f0 f1 f2 f3 f4 f5 f6 f7
          refine wp_region_cl u.heap.size (by kernel_rfl) (by kernel_rfl) ?_
          repeat (quiet_step (first | (go_at_call 8; exact Cl.calls (Nat.le_refl _) (O2.out _)) | (go_at_call 7; exact Cl.calls (Nat.le_refl _) (LV.out _))))
          refine wpQuiet_nil ?_
          rintro w0 ⟨q, rfl⟩
          go_wp2_with fail
          go_ret
          exact ⟨rfl, HE2.out _ q.h⟩
        · have p0 : ∀ q : Cl u.heap.size u, q.u.cell? ⟨w.heap.size, 0, none⟩ = some (.int .i64 t1) := fun q => (HQ.out q.u (hu.trans (q.h.mono hu.size))).1
          have p1 : ∀ q : Cl u.heap.size u, q.u.cell? ⟨w.heap.size, 1, none⟩ = some (.bool true) := fun q => (HQ.out q.u (hu.trans (q.h.mono hu.size))).2.1
          have p2 : ∀ q : Cl u.heap.size u, q.u.cell? ⟨w.heap.size, 2, none⟩ = some (.int .i64 l1) := fun q => (HQ.out q.u (hu.trans (q.h.mono hu.size))).2.2.1
          have p3 : ∀ q : Cl u.heap.size u, q.u.cell? ⟨w.heap.size, 3, none⟩ = some (.int .i64 k1) := fun q => (HQ.out q.u (hu.trans (q.h.mono hu.size))).2.2.2.1
          have p4 : ∀ q : Cl u.heap.size u, q.u.cell? ⟨w.heap.size, 4, none⟩ = some (.int .i64 n1) := fun q => (HQ.out q.u (hu.trans (q.h.mono hu.size))).2.2.2.2.1
          have p5 : ∀ q : Cl u.heap.size u, q.u.cell? ⟨w.heap.size, 5, none⟩ = some (.string s1) := fun q => (HQ.out q.u (hu.trans (q.h.mono hu.size))).2.2.2.2.2.1
          have p6 : ∀ q : Cl u.heap.size u, q.u.cell? ⟨w.heap.size + 1, 0, none⟩ = some (.int .i64 n) := fun q => (HQ.out q.u (hu.trans (q.h.mono hu.size))).2.2.2.2.2.2.1
          have p7 : ∀ q : Cl u.heap.size u, q.u.cell? ⟨w.heap.size + 1, 1, none⟩ = some (.int .i64 g) := fun q => (HQ.out q.u (hu.trans (q.h.mono hu.size))).2.2.2.2.2.2.2
          have HE2 : Hid (∀ y, Below u.heap.size u y → Below w.heap.size w y) := fun y h => HE.out y (hu.trans (h.mono hu.size))
          haveI := Cl.inh u.heap.size u
          clear q0 q1 q2 q3 q4 q5 q6 q7
          go_wp2_with fail
          clear f0 f1 f2 f3 f4 f5 f6 f7
          refine wp_region_cl u.heap.size (by kernel_rfl) (by kernel_rfl) ?_
          repeat (quiet_step (first | (go_at_call 8; exact Cl.calls (Nat.le_refl _) (O2.out _)) | (go_at_call 7; exact Cl.calls (Nat.le_refl _) (LV.out _))))
          refine wpQuiet_nil ?_
          rintro w0 ⟨q, rfl⟩
          go_wp2_with fail
          go_ret
          exact ⟨rfl, HE2.out _ q.h⟩
      · obtain rfl : r0 = false := by rw [hz]; exact decide_eq_false hle
        have hr : r = false := by
          cases hr : r
          · rfl
          · exact absurd (HLE.out hr) hle
        subst hr
        clear hz HNG HLE
        have dd : decide (l1 ≤ n) = false := decide_eq_false hle
        have p0 : ∀ q : Cl u.heap.size u, q.u.cell? ⟨w.heap.size, 0, none⟩ = some (.int .i64 t1) := fun q => (HQ.out q.u (hu.trans (q.h.mono hu.size))).1
        have p1 : ∀ q : Cl u.heap.size u, q.u.cell? ⟨w.heap.size, 1, none⟩ = some (.bool true) := fun q => (HQ.out q.u (hu.trans (q.h.mono hu.size))).2.1
        have p2 : ∀ q : Cl u.heap.size u, q.u.cell? ⟨w.heap.size, 2, none⟩ = some (.int .i64 l1) := fun q => (HQ.out q.u (hu.trans (q.h.mono hu.size))).2.2.1
        have p3 : ∀ q : Cl u.heap.size u, q.u.cell? ⟨w.heap.size, 3, none⟩ = some (.int .i64 k1) := fun q => (HQ.out q.u (hu.trans (q.h.mono hu.size))).2.2.2.1
        have p4 : ∀ q : Cl u.heap.size u, q.u.cell? ⟨w.heap.size, 4, none⟩ = some (.int .i64 n1) := fun q => (HQ.out q.u (hu.trans (q.h.mono hu.size))).2.2.2.2.1
        have p5 : ∀ q : Cl u.heap.size u, q.u.cell? ⟨w.heap.size, 5, none⟩ = some (.string s1) := fun q => (HQ.out q.u (hu.trans (q.h.mono hu.size))).2.2.2.2.2.1
        have p6 : ∀ q : Cl u.heap.size u, q.u.cell? ⟨w.heap.size + 1, 0, none⟩ = some (.int .i64 n) := fun q => (HQ.out q.u (hu.trans (q.h.mono hu.size))).2.2.2.2.2.2.1
        have p7 : ∀ q : Cl u.heap.size u, q.u.cell? ⟨w.heap.size + 1, 1, none⟩ = some (.int .i64 g) := fun q => (HQ.out q.u (hu.trans (q.h.mono hu.size))).2.2.2.2.2.2.2
        have HE2 : Hid (∀ y, Below u.heap.size u y → Below w.heap.size w y) := fun y h => HE.out y (hu.trans (h.mono hu.size))
        haveI := Cl.inh u.heap.size u
        clear q0 q1 q2 q3 q4 q5 q6 q7
        go_wp2_with fail
        clear f0 f1 f2 f3 f4 f5 f6 f7
        refine wp_region_cl u.heap.size (by kernel_rfl) (by kernel_rfl) ?_
        repeat (quiet_step (first | (go_at_call 8; exact Cl.calls (Nat.le_refl _) (O2.out _)) | (go_at_call 7; exact Cl.calls (Nat.le_refl _) (LV.out _))))
        refine wpQuiet_nil ?_
        rintro w0 ⟨q, rfl⟩
        go_wp2_with fail
        go_ret
        exact ⟨rfl, HE2.out _ q.h⟩
end Go.Proofs.Ytkdeaogmifhnhaa.purgeNever
