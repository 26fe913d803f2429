/-
  CONTRACT: a record is written and made sure (write), where nothing of the disk is planned and its calls answer OK.
-/
import Derived.Test.YtabkgcmlfabmgaaGreatDoorWalLog
namespace Go.Proofs.YtabkgcmlfabmgaaGreatDoor
open Go.RowKit
attribute [local go_sem] Oper.pureAt Oper.pureUpon

/-- A log on a disk, the disk's blocks told. -/
def LgF (w0 : World) (d lb : Nat) (A : Ab) (n : Int) (ft : List Nat) (w : World) : Prop :=
  At d A ft w ∧ lb ∉ ft ∧ Blk w lb [.pointer (some ⟨d, 0, none⟩), .int .i64 n, .bool false] 56 ∧ (∀ i ∈ ft, w0.heap.size ≤ i) ∧ w0.heap.size ≤ lb ∧ Below w0.heap.size w0 w
theorem LgF.lg {w0 : World} {d lb : Nat} {A : Ab} {n : Int} {ft : List Nat} {w : World} (h : LgF w0 d lb A n ft w) : Lg w0 d lb A n w := ⟨ft, h⟩
theorem LgF.more {w0 : World} {d lb : Nat} {A : Ab} {n : Int} {ft : List Nat} {w u : World} (h : LgF w0 d lb A n ft w) (hb : Below w.heap.size w u) : LgF w0 d lb A n ft u := by
  obtain ⟨h1, h2, h3, h4, h5, h6⟩ := h
  exact ⟨h1.moved (moved_below (ft := []) hb) (by simp), h2, h3.carry (hb.block _ h3.lt), h4, h5, h6.trans (hb.mono h6.size)⟩
theorem lg_append {w0 : World} {d lb : Nat} {A : Ab} {n : Int} {ft : List Nat} {w : World} (h : LgF w0 d lb A n ft w) (s : ByteArray) (hs : s.size ≤ maxLen) (ao : Option Addr) (l : List UInt8) (c : Nat) (hb : Sees w ao l) (hne : ∀ a, ao = some a → 0 < l.length → a.block ∉ ft) (hF : A.Fine) (hl : A.left ≠ 1) (ho : A.ops ≤ 4611686018427387904) (hlm : A.left ≤ 9223372036854775807) (hnx : A.next ≤ 4611686018427387904) (hlen : ∀ t ∈ A.sp, t.bs.length + l.length ≤ 1099511627776) :
    Calls Tryz.prog 98 #[.pointer (some ⟨d, 0, none⟩), .string s, .slice ao l.length c] w fun x w' => x = .returned (.int .i64 (appendM A s l).1) ∧ Lg w0 d lb (appendM A s l).2 n w' := by
  obtain ⟨h1, h2, h3, h4, h5, h6⟩ := h
  exact (abx_append h1 s hs ao l c hb hne hF hl ho hlm hnx hlen).mono fun x w' ⟨hx, ft', ha, hm⟩ => ⟨hx, Lg.out h2 h3 h4 h5 h6 ha hm⟩
/-- Worlds in which a log says which disk and which segment it has. -/
structure LD (d lb : Nat) (n : Int) where
  u : World
  h : u.cell? ⟨lb, 0, none⟩ = some (.pointer (some ⟨d, 0, none⟩))
  k : u.cell? ⟨lb, 1, none⟩ = some (.int .i64 n)
theorem LD.of {w0 : World} {d lb : Nat} {A : Ab} {n : Int} {w : World} (h : Lg w0 d lb A n w) : ∃ p : LD d lb n, w = p.u := ⟨⟨w, h.blk.cell 0 rfl, h.blk.cell 1 rfl⟩, rfl⟩
set_option maxRecDepth 100000 in
set_option maxHeartbeats 1000000 in
theorem writeL_ok {w0 : World} {d lb : Nat} {A A1 A2 : Ab} {n : Int} {ft : List Nat} {w : World} (he : EnvW w0) (h : LgF w0 d lb A n ft w) (hn : okW n = true) (ao : Option Addr) (l : List UInt8) (c : Nat) (hb : Sees w ao l) (hne : ∀ a, ao = some a → 0 < l.length → a.block ∉ ft) (hF : A.Fine) (hl : A.left = 0) (ho : A.ops ≤ 1000000) (hnx : A.next ≤ 1000000) (hlen : ∀ t ∈ A.sp, t.bs.length + l.length ≤ 1099511627776)
    (h1 : appendM A (tB (nmW n)) l = (0, A1)) (hl1 : A1.left = 0) (ho1 : A1.ops ≤ 1000000) (h2 : syncM A1 (tB (nmW n)) = (0, A2)) :
    Calls Tryz.prog 57 #[.pointer (some ⟨lb, 0, none⟩), .slice ao l.length c] w fun x w' => x = .returned (.int .i64 0) ∧ Lg w0 d lb A2 n w' := by
  have hmm := okW_iff.1 hn
  have CN : Hid (∀ u, Below w0.heap.size w0 u → Calls Tryz.prog 18 #[.int .i64 n] u fun x w' => x = .returned (.string (tB (nmW n))) ∧ Below u.heap.size u w') := fun u hu => nameW_any n (by omega) (by omega) u (he.below hu (Nat.le_refl _))
  have hsz := tB_max (nmW n) (by have := nmW_len n; omega)
  have CC : Hid (∀ u, Below w.heap.size w u → Calls Tryz.prog 98 #[.pointer (some ⟨d, 0, none⟩), .string (tB (nmW n)), .slice ao l.length c] u fun x w' => x = .returned (.int .i64 0) ∧ Lg w0 d lb A1 n w') := fun u hu => by
    have := lg_append (h.more hu) (tB (nmW n)) hsz ao l c (hb.below hu (Nat.le_refl _)) hne hF (by omega) (by omega) (by omega) (by omega) hlen
    rw [h1] at this; exact this
  have CS : Hid (∀ u, Lg w0 d lb A1 n u → Calls Tryz.prog 99 #[.pointer (some ⟨d, 0, none⟩), .string (tB (nmW n))] u fun x w' => x = .returned (.int .i64 0) ∧ Lg w0 d lb A2 n w') := fun u hu => by
    have := lg_sync hu (tB (nmW n)) hsz (by omega) (by omega) (by omega)
    rw [h2] at this; exact this
  have c0 : ∀ q : LD d lb n, q.u.cell? ⟨lb, 0, none⟩ = some (.pointer (some ⟨d, 0, none⟩)) := fun q => q.h
  have c1 : ∀ q : LD d lb n, q.u.cell? ⟨lb, 1, none⟩ = some (.int .i64 n) := fun q => q.k
  obtain ⟨p0, hp0⟩ := LD.of h.lg
  haveI : Nonempty (LD d lb n) := ⟨p0⟩
  have HL : Hid (Lg w0 d lb A n w) := h.lg
  generalize tB (nmW n) = s at *
  clear h1 h2 hF hn h he hl ho hl1 ho1 hb hne hlen hnx hp0 p0
  go_enter Tryz.func57, Tryz.ntmps57
  go_wp2_with fail
  refine wp_region_sched (fun w' => ∃ p : LD d lb n, w' = p.u) [(0, true), (1, true), (2, true), (3, true), (4, true), (5, true), (6, true), (7, true), (9, true), (8, false), (10, false), (11, true)] rfl (by kernel_rfl) (by kernel_rfl) (by kernel_rfl) (LD.of HL.out.drew) ?_
  iterate 9 (refine sched_pure rfl (fun K hK => ?_); go_simp; refine hK _ ?_; clear hK K)
  refine sched_loud rfl (fun K hK => ?_)
  go_simp
  refine (CN.out _ HL.out.drew.bel).mono ?_
  rintro e u1 ⟨rfl, hu1⟩
  have hu1' : Below w.heap.size w u1 := (Below.refl _ _).drew.trans hu1
  refine hK _ _ (LD.of (HL.out.more hu1')) ?_
  clear hK K
  refine sched_loud rfl (fun K hK => ?_)
  go_simp
  refine (CC.out _ hu1').mono ?_
  rintro e u2 ⟨rfl, hu2⟩
  refine hK _ _ (LD.of hu2) ?_
  clear hK K
  refine sched_pure rfl (fun K hK => ?_)
  go_simp
  refine hK _ ?_
  clear hK K
  refine sched_nil ?_
  go_wp2_with fail
  refine wp_region_sched (fun w' => ∃ p : LD d lb n, w' = p.u) [(0, true), (1, true), (2, true), (3, true), (4, true), (5, true), (6, true), (7, true), (8, false), (9, false), (10, true)] rfl (by kernel_rfl) (by kernel_rfl) (by kernel_rfl) (LD.of hu2.drew) ?_
  iterate 8 (refine sched_pure rfl (fun K hK => ?_); go_simp; refine hK _ ?_; clear hK K)
  refine sched_loud rfl (fun K hK => ?_)
  go_simp
  refine (CN.out _ hu2.drew.bel).mono ?_
  rintro e u3 ⟨rfl, hu3⟩
  have hu3' := hu2.drew.more hu3
  refine hK _ _ (LD.of hu3') ?_
  clear hK K
  refine sched_loud rfl (fun K hK => ?_)
  go_simp
  refine (CS.out _ hu3').mono ?_
  rintro e u4 ⟨rfl, hu4⟩
  refine hK _ _ (LD.of hu4) ?_
  clear hK K
  refine sched_pure rfl (fun K hK => ?_)
  go_simp
  refine hK _ ?_
  clear hK K
  refine sched_nil ?_
  go_wp2_with fail
  go_ret
  exact ⟨rfl, hu4⟩
end Go.Proofs.YtabkgcmlfabmgaaGreatDoor
