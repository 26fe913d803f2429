/-
  ACT: what is done to both disks (written by mkdact.py).
-/
import Derived.Test.YtoeoioigelknnaaGreatMany21
import Derived.Test.YtoeoioigelknnaaGreatLoud
import Derived.Test.YtoeoioigelknnaaGreatMany5
namespace Go.Proofs.YtoeoioigelknnaaGreat
open Go.RowKit Go.Maps Go.WideAt Go.WideShapes
attribute [local go_sem] Oper.pureAt Oper.pureUpon
attribute [local irreducible] wpQuiet

set_option maxRecDepth 100000 in
set_option maxHeartbeats 4000000 in
theorem act_create {w : World} {d r : Nat} {A A' : Ab} {Q Q' : RA} {fs : List Nat} {c : Int} (h : Two d r A Q fs w) (sa sb : ByteArray) (ao : Option Addr) (len cap : Nat) (n m : Int)
    (P : Hid (∀ w1, Two d r A Q fs w1 → Calls Tryz.prog 18 #[.pointer (some ⟨d, 0, none⟩), .string sa] w1 fun x w2 => x = .returned (.int .i64 c) ∧ ∃ fs2, Two d r A' Q fs2 w2 ∧ Moved w1 w2 fs fs2))
    (R : Hid (∀ w1 fs1, Two d r A' Q fs1 w1 → Calls Tryz.prog 25 #[.pointer (some ⟨r, 0, none⟩), .string sa] w1 fun x w2 => x = .returned (.int .i64 c) ∧ ∃ fs2, Two d r A' Q' fs2 w2 ∧ Moved w1 w2 fs1 fs2)) :
    Calls Tryz.prog 8 #[.pointer (some ⟨d, 0, none⟩), .pointer (some ⟨r, 0, none⟩), .agg #[.int .i64 0, .string sa, .string sb, .slice ao len cap, .int .i64 n, .int .i64 m]] w fun x w' => x = .returned (.bool true) ∧ ∃ fs', Two d r A' Q' fs' w' ∧ Moved w w' fs fs' := by
  obtain ⟨w0, hw0⟩ : ∃ w0, w.alloc (.cells #[.int .i64 0, .string sa, .string sb, .slice ao len cap, .int .i64 n, .int .i64 m] 31) = w0 := ⟨_, rfl⟩
  obtain ⟨b, hbb⟩ : ∃ b, w.heap.size = b := ⟨_, rfl⟩
  have B1 : Blk w0 b [.int .i64 0, .string sa, .string sb, .slice ao len cap, .int .i64 n, .int .i64 m] 31 := by rw [← hw0, ← hbb]; exact Blk.new w _ _
  have hb : b ∉ fs := fun hh => by have := h.lt b hh; omega
  have HT : Hid (Two d r A Q fs w0) := h.grown (by rw [← hw0]; exact World.grownBy_alloc w _ none)
  have HM : Hid (Moved w w0 fs fs) := by show Moved _ _ _ _; rw [← hw0]; exact Moved.alloc _ _
  have hlt : b < w0.heap.size := B1.lt
  have HK : Hid (∀ w2 fs2, Moved w0 w2 fs fs2 → w2.heap[b]? = w0.heap[b]? ∧ b ∉ fs2 ∧ b < w2.heap.size) := fun w2 fs2 hm => ⟨hm.kept b hlt hb, fun hh => by
    rcases hm.news b hh with h1 | h1
    · exact hb h1
    · omega, Nat.lt_of_lt_of_le hlt hm.size⟩
  have k0 := B1.cell 0 rfl
  have p1 : ∀ q : CB b w0.heap[b]?, q.u.cell? ⟨b, 1, none⟩ = some (.string sa) := fun q => q.cell rfl (B1.cell 1 rfl)
  have p2 : ∀ q : CB b w0.heap[b]?, q.u.cell? ⟨b, 2, none⟩ = some (.string sb) := fun q => q.cell rfl (B1.cell 2 rfl)
  have p4 : ∀ q : CB b w0.heap[b]?, q.u.cell? ⟨b, 4, none⟩ = some (.int .i64 n) := fun q => q.cell rfl (B1.cell 4 rfl)
  have p5 : ∀ q : CB b w0.heap[b]?, q.u.cell? ⟨b, 5, none⟩ = some (.int .i64 m) := fun q => q.cell rfl (B1.cell 5 rfl)
  haveI : Nonempty (CB b w0.heap[b]?) := ⟨⟨w0, rfl⟩⟩
  clear B1 hb h hlt
  go_enter Tryz.func8, Tryz.ntmps8
  go_wp2_with fail
  refine wp_region_sched (fun w' => ∃ p : CB b w0.heap[b]?, w' = p.u) [(0, true), (1, true), (2, true), (4, true), (5, true), (6, true), (3, false), (7, false), (8, true), (9, true)] rfl (by kernel_rfl) (by kernel_rfl) (by kernel_rfl) ⟨⟨w0.drew, rfl⟩, rfl⟩ ?_
  iterate 6 (refine sched_pure rfl (fun K hK => ?_); go_simp; refine hK _ ?_; clear hK K)
  refine sched_loud rfl (fun K hK => ?_)
  go_simp
  refine (P.out _ HT.out.drew).mono ?_
  rintro e u1 ⟨rfl, fs1, h1, m1⟩
  have m1' : Moved w0 u1 fs fs1 := (Moved.refl w0 fs).drew.trans m1
  obtain ⟨g1, g2, g3⟩ := HK.out u1 fs1 m1'
  refine hK _ _ ⟨⟨u1, g1⟩, rfl⟩ ?_
  clear hK K
  refine sched_loud rfl (fun K hK => ?_)
  go_simp
  refine (R.out _ fs1 h1).mono ?_
  rintro e u2 ⟨rfl, fs2, h2, m2⟩
  have m2' : Moved w0 u2 fs fs2 := m1'.trans m2
  obtain ⟨g4, g5, g6⟩ := HK.out u2 fs2 m2'
  refine hK _ _ ⟨⟨u2, g4⟩, rfl⟩ ?_
  clear hK K
  iterate 2 (refine sched_pure rfl (fun K hK => ?_); go_simp; refine hK _ ?_; clear hK K)
  refine sched_nil ?_
  go_wp2_with fail
  go_ret
  exact ⟨rfl, fs2, h2, HM.out.trans m2'⟩
set_option maxRecDepth 100000 in
set_option maxHeartbeats 4000000 in
theorem act_sync {w : World} {d r : Nat} {A A' : Ab} {Q Q' : RA} {fs : List Nat} {c : Int} (h : Two d r A Q fs w) (sa sb : ByteArray) (ao : Option Addr) (len cap : Nat) (n m : Int)
    (P : Hid (∀ w1, Two d r A Q fs w1 → Calls Tryz.prog 20 #[.pointer (some ⟨d, 0, none⟩), .string sa] w1 fun x w2 => x = .returned (.int .i64 c) ∧ ∃ fs2, Two d r A' Q fs2 w2 ∧ Moved w1 w2 fs fs2))
    (R : Hid (∀ w1 fs1, Two d r A' Q fs1 w1 → Calls Tryz.prog 29 #[.pointer (some ⟨r, 0, none⟩), .string sa] w1 fun x w2 => x = .returned (.int .i64 c) ∧ ∃ fs2, Two d r A' Q' fs2 w2 ∧ Moved w1 w2 fs1 fs2)) :
    Calls Tryz.prog 8 #[.pointer (some ⟨d, 0, none⟩), .pointer (some ⟨r, 0, none⟩), .agg #[.int .i64 2, .string sa, .string sb, .slice ao len cap, .int .i64 n, .int .i64 m]] w fun x w' => x = .returned (.bool true) ∧ ∃ fs', Two d r A' Q' fs' w' ∧ Moved w w' fs fs' := by
  obtain ⟨w0, hw0⟩ : ∃ w0, w.alloc (.cells #[.int .i64 2, .string sa, .string sb, .slice ao len cap, .int .i64 n, .int .i64 m] 31) = w0 := ⟨_, rfl⟩
  obtain ⟨b, hbb⟩ : ∃ b, w.heap.size = b := ⟨_, rfl⟩
  have B1 : Blk w0 b [.int .i64 2, .string sa, .string sb, .slice ao len cap, .int .i64 n, .int .i64 m] 31 := by rw [← hw0, ← hbb]; exact Blk.new w _ _
  have hb : b ∉ fs := fun hh => by have := h.lt b hh; omega
  have HT : Hid (Two d r A Q fs w0) := h.grown (by rw [← hw0]; exact World.grownBy_alloc w _ none)
  have HM : Hid (Moved w w0 fs fs) := by show Moved _ _ _ _; rw [← hw0]; exact Moved.alloc _ _
  have hlt : b < w0.heap.size := B1.lt
  have HK : Hid (∀ w2 fs2, Moved w0 w2 fs fs2 → w2.heap[b]? = w0.heap[b]? ∧ b ∉ fs2 ∧ b < w2.heap.size) := fun w2 fs2 hm => ⟨hm.kept b hlt hb, fun hh => by
    rcases hm.news b hh with h1 | h1
    · exact hb h1
    · omega, Nat.lt_of_lt_of_le hlt hm.size⟩
  have k0 := B1.cell 0 rfl
  have p1 : ∀ q : CB b w0.heap[b]?, q.u.cell? ⟨b, 1, none⟩ = some (.string sa) := fun q => q.cell rfl (B1.cell 1 rfl)
  have p2 : ∀ q : CB b w0.heap[b]?, q.u.cell? ⟨b, 2, none⟩ = some (.string sb) := fun q => q.cell rfl (B1.cell 2 rfl)
  have p4 : ∀ q : CB b w0.heap[b]?, q.u.cell? ⟨b, 4, none⟩ = some (.int .i64 n) := fun q => q.cell rfl (B1.cell 4 rfl)
  have p5 : ∀ q : CB b w0.heap[b]?, q.u.cell? ⟨b, 5, none⟩ = some (.int .i64 m) := fun q => q.cell rfl (B1.cell 5 rfl)
  haveI : Nonempty (CB b w0.heap[b]?) := ⟨⟨w0, rfl⟩⟩
  clear B1 hb h hlt
  go_enter Tryz.func8, Tryz.ntmps8
  go_wp2_with fail
  refine wp_region_sched (fun w' => ∃ p : CB b w0.heap[b]?, w' = p.u) [(0, true), (1, true), (2, true), (4, true), (5, true), (6, true), (3, false), (7, false), (8, true), (9, true)] rfl (by kernel_rfl) (by kernel_rfl) (by kernel_rfl) ⟨⟨w0.drew, rfl⟩, rfl⟩ ?_
  iterate 6 (refine sched_pure rfl (fun K hK => ?_); go_simp; refine hK _ ?_; clear hK K)
  refine sched_loud rfl (fun K hK => ?_)
  go_simp
  refine (P.out _ HT.out.drew).mono ?_
  rintro e u1 ⟨rfl, fs1, h1, m1⟩
  have m1' : Moved w0 u1 fs fs1 := (Moved.refl w0 fs).drew.trans m1
  obtain ⟨g1, g2, g3⟩ := HK.out u1 fs1 m1'
  refine hK _ _ ⟨⟨u1, g1⟩, rfl⟩ ?_
  clear hK K
  refine sched_loud rfl (fun K hK => ?_)
  go_simp
  refine (R.out _ fs1 h1).mono ?_
  rintro e u2 ⟨rfl, fs2, h2, m2⟩
  have m2' : Moved w0 u2 fs fs2 := m1'.trans m2
  obtain ⟨g4, g5, g6⟩ := HK.out u2 fs2 m2'
  refine hK _ _ ⟨⟨u2, g4⟩, rfl⟩ ?_
  clear hK K
  iterate 2 (refine sched_pure rfl (fun K hK => ?_); go_simp; refine hK _ ?_; clear hK K)
  refine sched_nil ?_
  go_wp2_with fail
  go_ret
  exact ⟨rfl, fs2, h2, HM.out.trans m2'⟩
set_option maxRecDepth 100000 in
set_option maxHeartbeats 4000000 in
theorem act_rename {w : World} {d r : Nat} {A A' : Ab} {Q Q' : RA} {fs : List Nat} {c : Int} (h : Two d r A Q fs w) (sa sb : ByteArray) (ao : Option Addr) (len cap : Nat) (n m : Int)
    (P : Hid (∀ w1, Two d r A Q fs w1 → Calls Tryz.prog 30 #[.pointer (some ⟨d, 0, none⟩), .string sa, .string sb] w1 fun x w2 => x = .returned (.int .i64 c) ∧ ∃ fs2, Two d r A' Q fs2 w2 ∧ Moved w1 w2 fs fs2))
    (R : Hid (∀ w1 fs1, Two d r A' Q fs1 w1 → Calls Tryz.prog 31 #[.pointer (some ⟨r, 0, none⟩), .string sa, .string sb] w1 fun x w2 => x = .returned (.int .i64 c) ∧ ∃ fs2, Two d r A' Q' fs2 w2 ∧ Moved w1 w2 fs1 fs2)) :
    Calls Tryz.prog 8 #[.pointer (some ⟨d, 0, none⟩), .pointer (some ⟨r, 0, none⟩), .agg #[.int .i64 3, .string sa, .string sb, .slice ao len cap, .int .i64 n, .int .i64 m]] w fun x w' => x = .returned (.bool true) ∧ ∃ fs', Two d r A' Q' fs' w' ∧ Moved w w' fs fs' := by
  obtain ⟨w0, hw0⟩ : ∃ w0, w.alloc (.cells #[.int .i64 3, .string sa, .string sb, .slice ao len cap, .int .i64 n, .int .i64 m] 31) = w0 := ⟨_, rfl⟩
  obtain ⟨b, hbb⟩ : ∃ b, w.heap.size = b := ⟨_, rfl⟩
  have B1 : Blk w0 b [.int .i64 3, .string sa, .string sb, .slice ao len cap, .int .i64 n, .int .i64 m] 31 := by rw [← hw0, ← hbb]; exact Blk.new w _ _
  have hb : b ∉ fs := fun hh => by have := h.lt b hh; omega
  have HT : Hid (Two d r A Q fs w0) := h.grown (by rw [← hw0]; exact World.grownBy_alloc w _ none)
  have HM : Hid (Moved w w0 fs fs) := by show Moved _ _ _ _; rw [← hw0]; exact Moved.alloc _ _
  have hlt : b < w0.heap.size := B1.lt
  have HK : Hid (∀ w2 fs2, Moved w0 w2 fs fs2 → w2.heap[b]? = w0.heap[b]? ∧ b ∉ fs2 ∧ b < w2.heap.size) := fun w2 fs2 hm => ⟨hm.kept b hlt hb, fun hh => by
    rcases hm.news b hh with h1 | h1
    · exact hb h1
    · omega, Nat.lt_of_lt_of_le hlt hm.size⟩
  have k0 := B1.cell 0 rfl
  have p1 : ∀ q : CB b w0.heap[b]?, q.u.cell? ⟨b, 1, none⟩ = some (.string sa) := fun q => q.cell rfl (B1.cell 1 rfl)
  have p2 : ∀ q : CB b w0.heap[b]?, q.u.cell? ⟨b, 2, none⟩ = some (.string sb) := fun q => q.cell rfl (B1.cell 2 rfl)
  have p4 : ∀ q : CB b w0.heap[b]?, q.u.cell? ⟨b, 4, none⟩ = some (.int .i64 n) := fun q => q.cell rfl (B1.cell 4 rfl)
  have p5 : ∀ q : CB b w0.heap[b]?, q.u.cell? ⟨b, 5, none⟩ = some (.int .i64 m) := fun q => q.cell rfl (B1.cell 5 rfl)
  haveI : Nonempty (CB b w0.heap[b]?) := ⟨⟨w0, rfl⟩⟩
  clear B1 hb h hlt
  go_enter Tryz.func8, Tryz.ntmps8
  go_wp2_with fail
  refine wp_region_sched (fun w' => ∃ p : CB b w0.heap[b]?, w' = p.u) [(0, true), (1, true), (2, true), (3, true), (4, true), (6, true), (7, true), (8, true), (9, true), (10, true), (5, false), (11, false), (12, true), (13, true)] rfl (by kernel_rfl) (by kernel_rfl) (by kernel_rfl) ⟨⟨w0.drew, rfl⟩, rfl⟩ ?_
  iterate 10 (refine sched_pure rfl (fun K hK => ?_); go_simp; refine hK _ ?_; clear hK K)
  refine sched_loud rfl (fun K hK => ?_)
  go_simp
  refine (P.out _ HT.out.drew).mono ?_
  rintro e u1 ⟨rfl, fs1, h1, m1⟩
  have m1' : Moved w0 u1 fs fs1 := (Moved.refl w0 fs).drew.trans m1
  obtain ⟨g1, g2, g3⟩ := HK.out u1 fs1 m1'
  refine hK _ _ ⟨⟨u1, g1⟩, rfl⟩ ?_
  clear hK K
  refine sched_loud rfl (fun K hK => ?_)
  go_simp
  refine (R.out _ fs1 h1).mono ?_
  rintro e u2 ⟨rfl, fs2, h2, m2⟩
  have m2' : Moved w0 u2 fs fs2 := m1'.trans m2
  obtain ⟨g4, g5, g6⟩ := HK.out u2 fs2 m2'
  refine hK _ _ ⟨⟨u2, g4⟩, rfl⟩ ?_
  clear hK K
  iterate 2 (refine sched_pure rfl (fun K hK => ?_); go_simp; refine hK _ ?_; clear hK K)
  refine sched_nil ?_
  go_wp2_with fail
  go_ret
  exact ⟨rfl, fs2, h2, HM.out.trans m2'⟩
set_option maxRecDepth 100000 in
set_option maxHeartbeats 4000000 in
theorem act_remove {w : World} {d r : Nat} {A A' : Ab} {Q Q' : RA} {fs : List Nat} {c : Int} (h : Two d r A Q fs w) (sa sb : ByteArray) (ao : Option Addr) (len cap : Nat) (n m : Int)
    (P : Hid (∀ w1, Two d r A Q fs w1 → Calls Tryz.prog 32 #[.pointer (some ⟨d, 0, none⟩), .string sa] w1 fun x w2 => x = .returned (.int .i64 c) ∧ ∃ fs2, Two d r A' Q fs2 w2 ∧ Moved w1 w2 fs fs2))
    (R : Hid (∀ w1 fs1, Two d r A' Q fs1 w1 → Calls Tryz.prog 33 #[.pointer (some ⟨r, 0, none⟩), .string sa] w1 fun x w2 => x = .returned (.int .i64 c) ∧ ∃ fs2, Two d r A' Q' fs2 w2 ∧ Moved w1 w2 fs1 fs2)) :
    Calls Tryz.prog 8 #[.pointer (some ⟨d, 0, none⟩), .pointer (some ⟨r, 0, none⟩), .agg #[.int .i64 4, .string sa, .string sb, .slice ao len cap, .int .i64 n, .int .i64 m]] w fun x w' => x = .returned (.bool true) ∧ ∃ fs', Two d r A' Q' fs' w' ∧ Moved w w' fs fs' := by
  obtain ⟨w0, hw0⟩ : ∃ w0, w.alloc (.cells #[.int .i64 4, .string sa, .string sb, .slice ao len cap, .int .i64 n, .int .i64 m] 31) = w0 := ⟨_, rfl⟩
  obtain ⟨b, hbb⟩ : ∃ b, w.heap.size = b := ⟨_, rfl⟩
  have B1 : Blk w0 b [.int .i64 4, .string sa, .string sb, .slice ao len cap, .int .i64 n, .int .i64 m] 31 := by rw [← hw0, ← hbb]; exact Blk.new w _ _
  have hb : b ∉ fs := fun hh => by have := h.lt b hh; omega
  have HT : Hid (Two d r A Q fs w0) := h.grown (by rw [← hw0]; exact World.grownBy_alloc w _ none)
  have HM : Hid (Moved w w0 fs fs) := by show Moved _ _ _ _; rw [← hw0]; exact Moved.alloc _ _
  have hlt : b < w0.heap.size := B1.lt
  have HK : Hid (∀ w2 fs2, Moved w0 w2 fs fs2 → w2.heap[b]? = w0.heap[b]? ∧ b ∉ fs2 ∧ b < w2.heap.size) := fun w2 fs2 hm => ⟨hm.kept b hlt hb, fun hh => by
    rcases hm.news b hh with h1 | h1
    · exact hb h1
    · omega, Nat.lt_of_lt_of_le hlt hm.size⟩
  have k0 := B1.cell 0 rfl
  have p1 : ∀ q : CB b w0.heap[b]?, q.u.cell? ⟨b, 1, none⟩ = some (.string sa) := fun q => q.cell rfl (B1.cell 1 rfl)
  have p2 : ∀ q : CB b w0.heap[b]?, q.u.cell? ⟨b, 2, none⟩ = some (.string sb) := fun q => q.cell rfl (B1.cell 2 rfl)
  have p4 : ∀ q : CB b w0.heap[b]?, q.u.cell? ⟨b, 4, none⟩ = some (.int .i64 n) := fun q => q.cell rfl (B1.cell 4 rfl)
  have p5 : ∀ q : CB b w0.heap[b]?, q.u.cell? ⟨b, 5, none⟩ = some (.int .i64 m) := fun q => q.cell rfl (B1.cell 5 rfl)
  haveI : Nonempty (CB b w0.heap[b]?) := ⟨⟨w0, rfl⟩⟩
  clear B1 hb h hlt
  go_enter Tryz.func8, Tryz.ntmps8
  go_wp2_with fail
  refine wp_region_sched (fun w' => ∃ p : CB b w0.heap[b]?, w' = p.u) [(0, true), (1, true), (2, true), (4, true), (5, true), (6, true), (3, false), (7, false), (8, true), (9, true)] rfl (by kernel_rfl) (by kernel_rfl) (by kernel_rfl) ⟨⟨w0.drew, rfl⟩, rfl⟩ ?_
  iterate 6 (refine sched_pure rfl (fun K hK => ?_); go_simp; refine hK _ ?_; clear hK K)
  refine sched_loud rfl (fun K hK => ?_)
  go_simp
  refine (P.out _ HT.out.drew).mono ?_
  rintro e u1 ⟨rfl, fs1, h1, m1⟩
  have m1' : Moved w0 u1 fs fs1 := (Moved.refl w0 fs).drew.trans m1
  obtain ⟨g1, g2, g3⟩ := HK.out u1 fs1 m1'
  refine hK _ _ ⟨⟨u1, g1⟩, rfl⟩ ?_
  clear hK K
  refine sched_loud rfl (fun K hK => ?_)
  go_simp
  refine (R.out _ fs1 h1).mono ?_
  rintro e u2 ⟨rfl, fs2, h2, m2⟩
  have m2' : Moved w0 u2 fs fs2 := m1'.trans m2
  obtain ⟨g4, g5, g6⟩ := HK.out u2 fs2 m2'
  refine hK _ _ ⟨⟨u2, g4⟩, rfl⟩ ?_
  clear hK K
  iterate 2 (refine sched_pure rfl (fun K hK => ?_); go_simp; refine hK _ ?_; clear hK K)
  refine sched_nil ?_
  go_wp2_with fail
  go_ret
  exact ⟨rfl, fs2, h2, HM.out.trans m2'⟩
set_option maxRecDepth 100000 in
set_option maxHeartbeats 4000000 in
theorem act_spoil {w : World} {d r : Nat} {A A' : Ab} {Q Q' : RA} {fs : List Nat} {c : Int} (h : Two d r A Q fs w) (sa sb : ByteArray) (ao : Option Addr) (len cap : Nat) (n m : Int)
    (P : Hid (∀ w1, Two d r A Q fs w1 → Calls Tryz.prog 36 #[.pointer (some ⟨d, 0, none⟩), .string sa, .int .i64 n, .int .i64 m] w1 fun x w2 => x = .returned (.int .i64 c) ∧ ∃ fs2, Two d r A' Q fs2 w2 ∧ Moved w1 w2 fs fs2))
    (R : Hid (∀ w1 fs1, Two d r A' Q fs1 w1 → Calls Tryz.prog 37 #[.pointer (some ⟨r, 0, none⟩), .string sa, .int .i64 n, .int .i64 m] w1 fun x w2 => x = .returned (.int .i64 c) ∧ ∃ fs2, Two d r A' Q' fs2 w2 ∧ Moved w1 w2 fs1 fs2)) :
    Calls Tryz.prog 8 #[.pointer (some ⟨d, 0, none⟩), .pointer (some ⟨r, 0, none⟩), .agg #[.int .i64 6, .string sa, .string sb, .slice ao len cap, .int .i64 n, .int .i64 m]] w fun x w' => x = .returned (.bool true) ∧ ∃ fs', Two d r A' Q' fs' w' ∧ Moved w w' fs fs' := by
  obtain ⟨w0, hw0⟩ : ∃ w0, w.alloc (.cells #[.int .i64 6, .string sa, .string sb, .slice ao len cap, .int .i64 n, .int .i64 m] 31) = w0 := ⟨_, rfl⟩
  obtain ⟨b, hbb⟩ : ∃ b, w.heap.size = b := ⟨_, rfl⟩
  have B1 : Blk w0 b [.int .i64 6, .string sa, .string sb, .slice ao len cap, .int .i64 n, .int .i64 m] 31 := by rw [← hw0, ← hbb]; exact Blk.new w _ _
  have hb : b ∉ fs := fun hh => by have := h.lt b hh; omega
  have HT : Hid (Two d r A Q fs w0) := h.grown (by rw [← hw0]; exact World.grownBy_alloc w _ none)
  have HM : Hid (Moved w w0 fs fs) := by show Moved _ _ _ _; rw [← hw0]; exact Moved.alloc _ _
  have hlt : b < w0.heap.size := B1.lt
  have HK : Hid (∀ w2 fs2, Moved w0 w2 fs fs2 → w2.heap[b]? = w0.heap[b]? ∧ b ∉ fs2 ∧ b < w2.heap.size) := fun w2 fs2 hm => ⟨hm.kept b hlt hb, fun hh => by
    rcases hm.news b hh with h1 | h1
    · exact hb h1
    · omega, Nat.lt_of_lt_of_le hlt hm.size⟩
  have k0 := B1.cell 0 rfl
  have p1 : ∀ q : CB b w0.heap[b]?, q.u.cell? ⟨b, 1, none⟩ = some (.string sa) := fun q => q.cell rfl (B1.cell 1 rfl)
  have p2 : ∀ q : CB b w0.heap[b]?, q.u.cell? ⟨b, 2, none⟩ = some (.string sb) := fun q => q.cell rfl (B1.cell 2 rfl)
  have p4 : ∀ q : CB b w0.heap[b]?, q.u.cell? ⟨b, 4, none⟩ = some (.int .i64 n) := fun q => q.cell rfl (B1.cell 4 rfl)
  have p5 : ∀ q : CB b w0.heap[b]?, q.u.cell? ⟨b, 5, none⟩ = some (.int .i64 m) := fun q => q.cell rfl (B1.cell 5 rfl)
  haveI : Nonempty (CB b w0.heap[b]?) := ⟨⟨w0, rfl⟩⟩
  clear B1 hb h hlt
  go_enter Tryz.func8, Tryz.ntmps8
  go_wp2_with fail
  refine wp_region_sched (fun w' => ∃ p : CB b w0.heap[b]?, w' = p.u) [(0, true), (1, true), (2, true), (3, true), (4, true), (5, true), (6, true), (8, true), (9, true), (10, true), (11, true), (12, true), (13, true), (14, true), (7, false), (15, false), (16, true), (17, true)] rfl (by kernel_rfl) (by kernel_rfl) (by kernel_rfl) ⟨⟨w0.drew, rfl⟩, rfl⟩ ?_
  iterate 14 (refine sched_pure rfl (fun K hK => ?_); go_simp; refine hK _ ?_; clear hK K)
  refine sched_loud rfl (fun K hK => ?_)
  go_simp
  refine (P.out _ HT.out.drew).mono ?_
  rintro e u1 ⟨rfl, fs1, h1, m1⟩
  have m1' : Moved w0 u1 fs fs1 := (Moved.refl w0 fs).drew.trans m1
  obtain ⟨g1, g2, g3⟩ := HK.out u1 fs1 m1'
  refine hK _ _ ⟨⟨u1, g1⟩, rfl⟩ ?_
  clear hK K
  refine sched_loud rfl (fun K hK => ?_)
  go_simp
  refine (R.out _ fs1 h1).mono ?_
  rintro e u2 ⟨rfl, fs2, h2, m2⟩
  have m2' : Moved w0 u2 fs fs2 := m1'.trans m2
  obtain ⟨g4, g5, g6⟩ := HK.out u2 fs2 m2'
  refine hK _ _ ⟨⟨u2, g4⟩, rfl⟩ ?_
  clear hK K
  iterate 2 (refine sched_pure rfl (fun K hK => ?_); go_simp; refine hK _ ?_; clear hK K)
  refine sched_nil ?_
  go_wp2_with fail
  go_ret
  exact ⟨rfl, fs2, h2, HM.out.trans m2'⟩
set_option maxRecDepth 100000 in
set_option maxHeartbeats 4000000 in
theorem act_arm {w : World} {d r : Nat} {A A' : Ab} {Q Q' : RA} {fs : List Nat} {c : Int} (h : Two d r A Q fs w) (sa sb : ByteArray) (ao : Option Addr) (len cap : Nat) (n m : Int)
    (P : Hid (∀ w1, Two d r A Q fs w1 → Calls Tryz.prog 38 #[.pointer (some ⟨d, 0, none⟩), .int .i64 n, .int .i64 m] w1 fun x w2 => x = .returned (.int .i64 c) ∧ ∃ fs2, Two d r A' Q fs2 w2 ∧ Moved w1 w2 fs fs2))
    (R : Hid (∀ w1 fs1, Two d r A' Q fs1 w1 → Calls Tryz.prog 39 #[.pointer (some ⟨r, 0, none⟩), .int .i64 n, .int .i64 m] w1 fun x w2 => x = .returned (.int .i64 c) ∧ ∃ fs2, Two d r A' Q' fs2 w2 ∧ Moved w1 w2 fs1 fs2)) :
    Calls Tryz.prog 8 #[.pointer (some ⟨d, 0, none⟩), .pointer (some ⟨r, 0, none⟩), .agg #[.int .i64 7, .string sa, .string sb, .slice ao len cap, .int .i64 n, .int .i64 m]] w fun x w' => x = .returned (.bool true) ∧ ∃ fs', Two d r A' Q' fs' w' ∧ Moved w w' fs fs' := by
  obtain ⟨w0, hw0⟩ : ∃ w0, w.alloc (.cells #[.int .i64 7, .string sa, .string sb, .slice ao len cap, .int .i64 n, .int .i64 m] 31) = w0 := ⟨_, rfl⟩
  obtain ⟨b, hbb⟩ : ∃ b, w.heap.size = b := ⟨_, rfl⟩
  have B1 : Blk w0 b [.int .i64 7, .string sa, .string sb, .slice ao len cap, .int .i64 n, .int .i64 m] 31 := by rw [← hw0, ← hbb]; exact Blk.new w _ _
  have hb : b ∉ fs := fun hh => by have := h.lt b hh; omega
  have HT : Hid (Two d r A Q fs w0) := h.grown (by rw [← hw0]; exact World.grownBy_alloc w _ none)
  have HM : Hid (Moved w w0 fs fs) := by show Moved _ _ _ _; rw [← hw0]; exact Moved.alloc _ _
  have hlt : b < w0.heap.size := B1.lt
  have HK : Hid (∀ w2 fs2, Moved w0 w2 fs fs2 → w2.heap[b]? = w0.heap[b]? ∧ b ∉ fs2 ∧ b < w2.heap.size) := fun w2 fs2 hm => ⟨hm.kept b hlt hb, fun hh => by
    rcases hm.news b hh with h1 | h1
    · exact hb h1
    · omega, Nat.lt_of_lt_of_le hlt hm.size⟩
  have k0 := B1.cell 0 rfl
  have p1 : ∀ q : CB b w0.heap[b]?, q.u.cell? ⟨b, 1, none⟩ = some (.string sa) := fun q => q.cell rfl (B1.cell 1 rfl)
  have p2 : ∀ q : CB b w0.heap[b]?, q.u.cell? ⟨b, 2, none⟩ = some (.string sb) := fun q => q.cell rfl (B1.cell 2 rfl)
  have p4 : ∀ q : CB b w0.heap[b]?, q.u.cell? ⟨b, 4, none⟩ = some (.int .i64 n) := fun q => q.cell rfl (B1.cell 4 rfl)
  have p5 : ∀ q : CB b w0.heap[b]?, q.u.cell? ⟨b, 5, none⟩ = some (.int .i64 m) := fun q => q.cell rfl (B1.cell 5 rfl)
  haveI : Nonempty (CB b w0.heap[b]?) := ⟨⟨w0, rfl⟩⟩
  clear B1 hb h hlt
  go_enter Tryz.func8, Tryz.ntmps8
  go_wp2_with fail
  refine wp_region_sched (fun w' => ∃ p : CB b w0.heap[b]?, w' = p.u) [(0, true), (1, true), (2, true), (3, true), (4, true), (6, true), (7, true), (8, true), (9, true), (10, true), (5, false), (11, false), (12, true), (13, true)] rfl (by kernel_rfl) (by kernel_rfl) (by kernel_rfl) ⟨⟨w0.drew, rfl⟩, rfl⟩ ?_
  iterate 10 (refine sched_pure rfl (fun K hK => ?_); go_simp; refine hK _ ?_; clear hK K)
  refine sched_loud rfl (fun K hK => ?_)
  go_simp
  refine (P.out _ HT.out.drew).mono ?_
  rintro e u1 ⟨rfl, fs1, h1, m1⟩
  have m1' : Moved w0 u1 fs fs1 := (Moved.refl w0 fs).drew.trans m1
  obtain ⟨g1, g2, g3⟩ := HK.out u1 fs1 m1'
  refine hK _ _ ⟨⟨u1, g1⟩, rfl⟩ ?_
  clear hK K
  refine sched_loud rfl (fun K hK => ?_)
  go_simp
  refine (R.out _ fs1 h1).mono ?_
  rintro e u2 ⟨rfl, fs2, h2, m2⟩
  have m2' : Moved w0 u2 fs fs2 := m1'.trans m2
  obtain ⟨g4, g5, g6⟩ := HK.out u2 fs2 m2'
  refine hK _ _ ⟨⟨u2, g4⟩, rfl⟩ ?_
  clear hK K
  iterate 2 (refine sched_pure rfl (fun K hK => ?_); go_simp; refine hK _ ?_; clear hK K)
  refine sched_nil ?_
  go_wp2_with fail
  go_ret
  exact ⟨rfl, fs2, h2, HM.out.trans m2'⟩
set_option maxRecDepth 100000 in
set_option maxHeartbeats 4000000 in
theorem act_crash {w : World} {d r : Nat} {A A' : Ab} {Q Q' : RA} {fs : List Nat} (h : Two d r A Q fs w) (sa sb : ByteArray) (ao : Option Addr) (len cap : Nat) (n m : Int)
    (P : Hid (∀ w1, Two d r A Q fs w1 → Calls Tryz.prog 21 #[.pointer (some ⟨d, 0, none⟩), .int .i64 n] w1 fun x w2 => x = .returned (.tuple #[]) ∧ ∃ fs2, Two d r A' Q fs2 w2 ∧ Moved w1 w2 fs fs2))
    (R : Hid (∀ w1 fs1, Two d r A' Q fs1 w1 → Calls Tryz.prog 40 #[.pointer (some ⟨r, 0, none⟩), .int .i64 n] w1 fun x w2 => x = .returned (.tuple #[]) ∧ ∃ fs2, Two d r A' Q' fs2 w2 ∧ Moved w1 w2 fs1 fs2)) :
    Calls Tryz.prog 8 #[.pointer (some ⟨d, 0, none⟩), .pointer (some ⟨r, 0, none⟩), .agg #[.int .i64 8, .string sa, .string sb, .slice ao len cap, .int .i64 n, .int .i64 m]] w fun x w' => x = .returned (.bool true) ∧ ∃ fs', Two d r A' Q' fs' w' ∧ Moved w w' fs fs' := by
  obtain ⟨w0, hw0⟩ : ∃ w0, w.alloc (.cells #[.int .i64 8, .string sa, .string sb, .slice ao len cap, .int .i64 n, .int .i64 m] 31) = w0 := ⟨_, rfl⟩
  obtain ⟨b, hbb⟩ : ∃ b, w.heap.size = b := ⟨_, rfl⟩
  have B1 : Blk w0 b [.int .i64 8, .string sa, .string sb, .slice ao len cap, .int .i64 n, .int .i64 m] 31 := by rw [← hw0, ← hbb]; exact Blk.new w _ _
  have hb : b ∉ fs := fun hh => by have := h.lt b hh; omega
  have HT : Hid (Two d r A Q fs w0) := h.grown (by rw [← hw0]; exact World.grownBy_alloc w _ none)
  have HM : Hid (Moved w w0 fs fs) := by show Moved _ _ _ _; rw [← hw0]; exact Moved.alloc _ _
  have hlt : b < w0.heap.size := B1.lt
  have HK : Hid (∀ w2 fs2, Moved w0 w2 fs fs2 → w2.heap[b]? = w0.heap[b]? ∧ b ∉ fs2 ∧ b < w2.heap.size) := fun w2 fs2 hm => ⟨hm.kept b hlt hb, fun hh => by
    rcases hm.news b hh with h1 | h1
    · exact hb h1
    · omega, Nat.lt_of_lt_of_le hlt hm.size⟩
  have k0 := B1.cell 0 rfl
  have k4 := B1.cell 4 rfl
  have HC : Hid (∀ u : World, u.heap[b]? = w0.heap[b]? → u.cell? ⟨b, 4, none⟩ = some (.int .i64 n)) := fun u hu => (World.cell?_of_block (a := ⟨b, 4, none⟩) hu).trans (B1.cell 4 rfl)
  clear B1 hb h hlt
  go_enter Tryz.func8, Tryz.ntmps8
  go_wp2_with (first
    | (go_at_call 21; go_fit (P.out _ HT.out); rintro x u1 ⟨rfl, fs1, h1, m1⟩; have g1 := (HK.out u1 fs1 m1).1; have j4 := HC.out u1 g1)
    | (go_at_call 40; go_fit (R.out _ fs1 h1); rintro x u2 ⟨rfl, fs2, h2, m2⟩))
  go_ret
  exact ⟨rfl, fs2, h2, HM.out.trans (m1.trans m2)⟩
set_option maxRecDepth 100000 in
set_option maxHeartbeats 4000000 in
theorem act_start {w : World} {d r : Nat} {A A' : Ab} {Q Q' : RA} {fs : List Nat} (h : Two d r A Q fs w) (sa sb : ByteArray) (ao : Option Addr) (len cap : Nat) (n m : Int)
    (P : Hid (∀ w1, Two d r A Q fs w1 → Calls Tryz.prog 22 #[.pointer (some ⟨d, 0, none⟩)] w1 fun x w2 => x = .returned (.tuple #[]) ∧ ∃ fs2, Two d r A' Q fs2 w2 ∧ Moved w1 w2 fs fs2))
    (R : Hid (∀ w1 fs1, Two d r A' Q fs1 w1 → Calls Tryz.prog 41 #[.pointer (some ⟨r, 0, none⟩)] w1 fun x w2 => x = .returned (.tuple #[]) ∧ ∃ fs2, Two d r A' Q' fs2 w2 ∧ Moved w1 w2 fs1 fs2)) :
    Calls Tryz.prog 8 #[.pointer (some ⟨d, 0, none⟩), .pointer (some ⟨r, 0, none⟩), .agg #[.int .i64 9, .string sa, .string sb, .slice ao len cap, .int .i64 n, .int .i64 m]] w fun x w' => x = .returned (.bool true) ∧ ∃ fs', Two d r A' Q' fs' w' ∧ Moved w w' fs fs' := by
  obtain ⟨w0, hw0⟩ : ∃ w0, w.alloc (.cells #[.int .i64 9, .string sa, .string sb, .slice ao len cap, .int .i64 n, .int .i64 m] 31) = w0 := ⟨_, rfl⟩
  obtain ⟨b, hbb⟩ : ∃ b, w.heap.size = b := ⟨_, rfl⟩
  have B1 : Blk w0 b [.int .i64 9, .string sa, .string sb, .slice ao len cap, .int .i64 n, .int .i64 m] 31 := by rw [← hw0, ← hbb]; exact Blk.new w _ _
  have hb : b ∉ fs := fun hh => by have := h.lt b hh; omega
  have HT : Hid (Two d r A Q fs w0) := h.grown (by rw [← hw0]; exact World.grownBy_alloc w _ none)
  have HM : Hid (Moved w w0 fs fs) := by show Moved _ _ _ _; rw [← hw0]; exact Moved.alloc _ _
  have hlt : b < w0.heap.size := B1.lt
  have HK : Hid (∀ w2 fs2, Moved w0 w2 fs fs2 → w2.heap[b]? = w0.heap[b]? ∧ b ∉ fs2 ∧ b < w2.heap.size) := fun w2 fs2 hm => ⟨hm.kept b hlt hb, fun hh => by
    rcases hm.news b hh with h1 | h1
    · exact hb h1
    · omega, Nat.lt_of_lt_of_le hlt hm.size⟩
  have k0 := B1.cell 0 rfl
  have k4 := B1.cell 4 rfl
  have HC : Hid (∀ u : World, u.heap[b]? = w0.heap[b]? → u.cell? ⟨b, 4, none⟩ = some (.int .i64 n)) := fun u hu => (World.cell?_of_block (a := ⟨b, 4, none⟩) hu).trans (B1.cell 4 rfl)
  clear B1 hb h hlt
  go_enter Tryz.func8, Tryz.ntmps8
  go_wp2_with (first
    | (go_at_call 22; go_fit (P.out _ HT.out); rintro x u1 ⟨rfl, fs1, h1, m1⟩; have g1 := (HK.out u1 fs1 m1).1; have j4 := HC.out u1 g1)
    | (go_at_call 41; go_fit (R.out _ fs1 h1); rintro x u2 ⟨rfl, fs2, h2, m2⟩))
  go_ret
  exact ⟨rfl, fs2, h2, HM.out.trans (m1.trans m2)⟩
end Go.Proofs.YtoeoioigelknnaaGreat
