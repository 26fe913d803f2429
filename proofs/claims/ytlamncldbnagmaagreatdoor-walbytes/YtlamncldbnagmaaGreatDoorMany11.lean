/-
  SEVERAL TEXTS IN ONE: WalLog, WalWrite, CellPlain.
-/
import Derived.Test.YtlamncldbnagmaaGreatDoorMany2
import Derived.Test.YtlamncldbnagmaaGreatDoorMany9
import Derived.Test.YtlamncldbnagmaaGreatDoorMany10
import Derived.Test.YtlamncldbnagmaaGreatDoorMany7
namespace Go.Proofs.YtlamncldbnagmaaGreatDoor
open Go.RowKit
attribute [local go_sem] Oper.pureAt Oper.pureUpon

/-- A log on a disk, all of it new since w0. -/
def Lg (w0 : World) (d lb : Nat) (A : Ab) (n : Int) (w : World) : Prop :=
  ∃ ft, At d A ft w ∧ lb ∉ ft ∧ Blk w lb [.pointer (some ⟨d, 0, none⟩), .int .i64 n, .bool false] 46 ∧ (∀ i ∈ ft, w0.heap.size ≤ i) ∧ w0.heap.size ≤ lb ∧ Below w0.heap.size w0 w
theorem Lg.bel {w0 : World} {d lb : Nat} {A : Ab} {n : Int} {w : World} (h : Lg w0 d lb A n w) : Below w0.heap.size w0 w := by
  obtain ⟨ft, _, _, _, _, _, h6⟩ := h; exact h6
theorem Lg.blk {w0 : World} {d lb : Nat} {A : Ab} {n : Int} {w : World} (h : Lg w0 d lb A n w) : Blk w lb [.pointer (some ⟨d, 0, none⟩), .int .i64 n, .bool false] 46 := by
  obtain ⟨ft, _, _, h3, _, _, _⟩ := h; exact h3
theorem moved_below {w u : World} {ft : List Nat} (h : Below w.heap.size w u) : Moved w u ft ft := ⟨h.os, h.tape, h.output, h.size, fun i hi _ => h.block i hi, fun _ hi => .inl hi⟩
theorem Lg.more {w0 : World} {d lb : Nat} {A : Ab} {n : Int} {w u : World} (h : Lg w0 d lb A n w) (hb : Below w.heap.size w u) : Lg w0 d lb A n u := by
  obtain ⟨ft, h1, h2, h3, h4, h5, h6⟩ := h
  exact ⟨ft, h1.moved (moved_below (ft := []) hb) (by simp), h2, h3.carry (hb.block _ h3.lt), h4, h5, h6.trans (hb.mono h6.size)⟩
theorem Lg.out {w0 : World} {d lb : Nat} {A' : Ab} {n : Int} {w w' : World} {ft ft' : List Nat} (h2 : lb ∉ ft) (h3 : Blk w lb [.pointer (some ⟨d, 0, none⟩), .int .i64 n, .bool false] 46) (h4 : ∀ i ∈ ft, w0.heap.size ≤ i) (h5 : w0.heap.size ≤ lb) (h6 : Below w0.heap.size w0 w) (ha : At d A' ft' w') (hm : Moved w w' ft ft') : Lg w0 d lb A' n w' := by
  have hs := h6.size
  refine ⟨ft', ha, fun hi => ?_, h3.carry (hm.kept lb h3.lt h2), fun i hi => ?_, h5, h6.trans ⟨hm.os, hm.tape, hm.output, hm.size, fun i hi => hm.kept i (by omega) fun h => ?_⟩⟩
  · rcases hm.news lb hi with h | h
    · exact h2 h
    · have := h3.lt; omega
  · rcases hm.news i hi with h | h
    · exact h4 i h
    · omega
  · have := h4 i h; omega
section
variable {w0 : World} {d lb : Nat} {A : Ab} {n : Int} {w : World} (h : Lg w0 d lb A n w) (s : ByteArray) (hs : s.size ≤ maxLen)
include h hs
theorem lg_create (hF : A.Fine) (hl : A.left ≠ 1) (ho : A.ops ≤ 4611686018427387904) (hlm : A.left ≤ 9223372036854775807) :
    Calls Tryz.prog 82 #[.pointer (some ⟨d, 0, none⟩), .string s] w fun x w' => x = .returned (.int .i64 (createM A s).1) ∧ Lg w0 d lb (createM A s).2 n w' := by
  obtain ⟨ft, h1, h2, h3, h4, h5, h6⟩ := h
  exact (abx_create h1 s hs hF hl ho hlm).mono fun x w' ⟨hx, ft', ha, hm⟩ => ⟨hx, Lg.out h2 h3 h4 h5 h6 ha hm⟩
theorem lg_sync (hl : A.left ≠ 1) (ho : A.ops ≤ 4611686018427387904) (hlm : A.left ≤ 9223372036854775807) :
    Calls Tryz.prog 83 #[.pointer (some ⟨d, 0, none⟩), .string s] w fun x w' => x = .returned (.int .i64 (syncM A s).1) ∧ Lg w0 d lb (syncM A s).2 n w' := by
  obtain ⟨ft, h1, h2, h3, h4, h5, h6⟩ := h
  exact (abx_sync h1 s hs hl ho hlm).mono fun x w' ⟨hx, ft', ha, hm⟩ => ⟨hx, Lg.out h2 h3 h4 h5 h6 ha hm⟩
theorem lg_remove (hl : A.left ≠ 1) (ho : A.ops ≤ 4611686018427387904) (hlm : A.left ≤ 9223372036854775807) :
    Calls Tryz.prog 50 #[.pointer (some ⟨d, 0, none⟩), .string s] w fun x w' => x = .returned (.int .i64 (removeM A s).1) ∧ Lg w0 d lb (removeM A s).2 n w' := by
  obtain ⟨ft, h1, h2, h3, h4, h5, h6⟩ := h
  exact (abx_remove h1 s hs hl ho hlm).mono fun x w' ⟨hx, ft', ha, hm⟩ => ⟨hx, Lg.out h2 h3 h4 h5 h6 ha hm⟩
end
theorem lg_set {w0 : World} {d lb : Nat} {A : Ab} {n : Int} {w : World} (h : Lg w0 d lb A n w) (m : Int) : Lg w0 d lb A m (w.setCell ⟨lb, 1, none⟩ (.int .i64 m)) := by
  obtain ⟨ft, h1, h2, h3, h4, h5, h6⟩ := h
  refine ⟨ft, h1.moved (a := [lb]) (b := [lb]) ⟨rfl, rfl, rfl, by rw [size_setCell]; exact Nat.le_refl _, fun i _ hi => Below.heap_setCell _ _ _ _ (by simpa using hi), fun _ hi => .inl hi⟩ (fun i hi e => by rw [List.mem_singleton] at e; subst e; exact h2 hi), h2, h3.setTo 1 _ _ rfl, h4, h5, h6.setCell (by exact h5) _⟩
set_option maxRecDepth 100000 in
theorem madeL_any {w0 : World} {d lb : Nat} {A : Ab} {n : Int} {w : World} (h : Lg w0 d lb A n w) (hn : 0 < n) : Calls Tryz.prog 51 #[.pointer (some ⟨lb, 0, none⟩)] w fun e w' => e = .returned (.bool true) ∧ w' = w := by
  have c1 := h.blk.cell 1 rfl
  have hq : (binOp BinOp.neq 47 (.pointer (some ⟨lb, 0, none⟩)) (.pointer none)).run Tryz.prog w = .ok (.bool true) w := by kernel_rfl
  clear h
  go_enter Tryz.func51, Tryz.ntmps51
  go_wp2_with fail
  go_ret
  exact ⟨rfl, rfl⟩
set_option maxRecDepth 100000 in
theorem noted_any (lb : Nat) (e : Int) (w : World) (he : e ≠ 9) : Calls Tryz.prog 46 #[.pointer (some ⟨lb, 0, none⟩), .int .i64 e] w fun x w' => x = .returned (.int .i64 e) ∧ w' = w := by
  go_enter Tryz.func46, Tryz.ntmps46
  go_wp2_with fail
  go_ret
  exact ⟨rfl, rfl⟩
set_option maxRecDepth 100000 in
theorem refusalL_any {w0 : World} {d lb : Nat} {A : Ab} {n : Int} {w : World} (h : Lg w0 d lb A n w) (hn : 0 < n) (hon : A.on = true) : Calls Tryz.prog 45 #[.pointer (some ⟨lb, 0, none⟩)] w fun e w' => e = .returned (.int .i64 0) ∧ w' = w := by
  have CM : Hid (Calls Tryz.prog 51 #[.pointer (some ⟨lb, 0, none⟩)] w fun e w' => e = .returned (.bool true) ∧ w' = w) := madeL_any h hn
  have CO : Hid (Calls Tryz.prog 81 #[.pointer (some ⟨d, 0, none⟩)] w fun e w' => e = .returned (.bool true) ∧ w' = w) := by
    obtain ⟨ft, ⟨bm, fs, hD, _, _⟩, _⟩ := h
    have := on_any hD
    rw [show (A.st fs).on = A.on from rfl, hon] at this
    exact this
  have c0 := h.blk.cell 0 rfl
  have c2 := h.blk.cell 2 rfl
  clear h
  go_enter Tryz.func45, Tryz.ntmps45
  go_wp2_with (go_at_call 51; refine CM.out.mono ?_; rintro e w1 ⟨rfl, rfl⟩)
  go_fit CO.out
  rintro e w2 ⟨rfl, rfl⟩
  go_wp2_with fail
  go_ret
  exact ⟨rfl, rfl⟩
/-- Worlds in which a log says which disk it has. -/
structure LC (d lb : Nat) where
  u : World
  h : u.cell? ⟨lb, 0, none⟩ = some (.pointer (some ⟨d, 0, none⟩))
theorem LC.of {w0 : World} {d lb : Nat} {A : Ab} {n : Int} {w : World} (h : Lg w0 d lb A n w) : ∃ p : LC d lb, w = p.u := ⟨⟨w, h.blk.cell 0 rfl⟩, rfl⟩
theorem Lg.drew {w0 : World} {d lb : Nat} {A : Ab} {n : Int} {w : World} (h : Lg w0 d lb A n w) : Lg w0 d lb A n w.drew := h.more (Below.refl _ _).drew
set_option maxRecDepth 100000 in
set_option maxHeartbeats 1000000 in
theorem beginL_ok {w0 : World} {d lb : Nat} {A A1 A2 : Ab} {n m : Int} {w : World} (he : EnvW w0) (h : Lg w0 d lb A n w) (hm : okW m = true) (hF : A.Fine) (hl : A.left = 0) (ho : A.ops ≤ 1000000) (h1 : createM A (tB (nmW m)) = (0, A1)) (hl1 : A1.left = 0) (ho1 : A1.ops ≤ 1000000) (h2 : syncM A1 (tB (nmW m)) = (0, A2)) :
    Calls Tryz.prog 47 #[.pointer (some ⟨lb, 0, none⟩), .int .i64 m] w fun x w' => x = .returned (.int .i64 0) ∧ Lg w0 d lb A2 m w' := by
  have hmm := okW_iff.1 hm
  have CP : Hid (∀ u, Calls Tryz.prog 42 #[.int .i64 m] u fun e w' => e = .returned (.bool true) ∧ w' = u) := fun u => by have := possible_any m u; rw [hm] at this; exact this
  have CN : Hid (∀ u A n, Lg w0 d lb A n u → Calls Tryz.prog 16 #[.int .i64 m] u fun x w' => x = .returned (.string (tB (nmW m))) ∧ Lg w0 d lb A n w') := fun u A n hu => (nameW_any m (by omega) (by omega) u (he.below hu.bel (Nat.le_refl _))).mono fun x w' ⟨hx, hb⟩ => ⟨hx, hu.more hb⟩
  have hsz := tB_max (nmW m) (by have := nmW_len m; omega)
  have CC : Hid (∀ u, Lg w0 d lb A n u → Calls Tryz.prog 82 #[.pointer (some ⟨d, 0, none⟩), .string (tB (nmW m))] u fun x w' => x = .returned (.int .i64 0) ∧ Lg w0 d lb A1 n w') := fun u hu => by
    have := lg_create hu (tB (nmW m)) hsz hF (by omega) (by omega) (by omega)
    rw [h1] at this; exact this
  have CS : Hid (∀ u, Lg w0 d lb A1 n u → Calls Tryz.prog 83 #[.pointer (some ⟨d, 0, none⟩), .string (tB (nmW m))] u fun x w' => x = .returned (.int .i64 0) ∧ Lg w0 d lb A2 n w') := fun u hu => by
    have := lg_sync hu (tB (nmW m)) hsz (by omega) (by omega) (by omega)
    rw [h2] at this; exact this
  have c0 : ∀ q : LC d lb, q.u.cell? ⟨lb, 0, none⟩ = some (.pointer (some ⟨d, 0, none⟩)) := fun q => q.h
  haveI : Nonempty (LC d lb) := ⟨⟨w, h.blk.cell 0 rfl⟩⟩
  have HL : Hid (Lg w0 d lb A n w) := h
  generalize tB (nmW m) = s at *
  clear h1 h2 hF hm h he hl ho hl1 ho1
  go_enter Tryz.func47, Tryz.ntmps47
  go_wp2_with (go_at_call 42; refine (CP.out _).mono ?_; rintro e w1 ⟨rfl, rfl⟩)
  refine wp_region_sched (fun w' => ∃ p : LC d lb, w' = p.u) [(0, true), (1, true), (2, true), (3, true), (4, true), (5, false), (6, false), (7, true)] rfl (by kernel_rfl) (by kernel_rfl) (by kernel_rfl) (LC.of HL.out.drew) ?_
  iterate 5 (refine sched_pure rfl (fun K hK => ?_); go_simp; refine hK _ ?_; clear hK K)
  refine sched_loud rfl (fun K hK => ?_)
  go_simp
  refine (CN.out _ A n HL.out.drew).mono ?_
  rintro e u1 ⟨rfl, hu1⟩
  refine hK _ _ (LC.of hu1) ?_
  clear hK K
  refine sched_loud rfl (fun K hK => ?_)
  go_simp
  refine (CC.out _ hu1).mono ?_
  rintro e u2 ⟨rfl, hu2⟩
  refine hK _ _ (LC.of hu2) ?_
  clear hK K
  refine sched_pure rfl (fun K hK => ?_)
  go_simp
  refine hK _ ?_
  clear hK K
  refine sched_nil ?_
  go_wp2_with fail
  refine wp_region_sched (fun w' => ∃ p : LC d lb, w' = p.u) [(0, true), (1, true), (2, true), (3, true), (4, true), (5, false), (6, false), (7, true)] rfl (by kernel_rfl) (by kernel_rfl) (by kernel_rfl) (LC.of hu2.drew) ?_
  iterate 5 (refine sched_pure rfl (fun K hK => ?_); go_simp; refine hK _ ?_; clear hK K)
  refine sched_loud rfl (fun K hK => ?_)
  go_simp
  refine (CN.out _ A1 n hu2.drew).mono ?_
  rintro e u3 ⟨rfl, hu3⟩
  refine hK _ _ (LC.of hu3) ?_
  clear hK K
  refine sched_loud rfl (fun K hK => ?_)
  go_simp
  refine (CS.out _ hu3).mono ?_
  rintro e u4 ⟨rfl, hu4⟩
  refine hK _ _ (LC.of hu4) ?_
  clear hK K
  refine sched_pure rfl (fun K hK => ?_)
  go_simp
  refine hK _ ?_
  clear hK K
  refine sched_nil ?_
  have d1 := hu4.blk.cell 1 rfl
  have f1 := hu4.blk.frozen 1
  go_wp2_with fail
  go_ret
  exact ⟨rfl, lg_set hu4 m⟩
end Go.Proofs.YtlamncldbnagmaaGreatDoor
namespace Go.Proofs.YtlamncldbnagmaaGreatDoor
open Go.RowKit
attribute [local go_sem] Oper.pureAt Oper.pureUpon

/-- A log on a disk, the disk's blocks told. -/
def LgF (w0 : World) (d lb : Nat) (A : Ab) (n : Int) (ft : List Nat) (w : World) : Prop :=
  At d A ft w ∧ lb ∉ ft ∧ Blk w lb [.pointer (some ⟨d, 0, none⟩), .int .i64 n, .bool false] 46 ∧ (∀ i ∈ ft, w0.heap.size ≤ i) ∧ w0.heap.size ≤ lb ∧ Below w0.heap.size w0 w
theorem LgF.lg {w0 : World} {d lb : Nat} {A : Ab} {n : Int} {ft : List Nat} {w : World} (h : LgF w0 d lb A n ft w) : Lg w0 d lb A n w := ⟨ft, h⟩
theorem LgF.more {w0 : World} {d lb : Nat} {A : Ab} {n : Int} {ft : List Nat} {w u : World} (h : LgF w0 d lb A n ft w) (hb : Below w.heap.size w u) : LgF w0 d lb A n ft u := by
  obtain ⟨h1, h2, h3, h4, h5, h6⟩ := h
  exact ⟨h1.moved (moved_below (ft := []) hb) (by simp), h2, h3.carry (hb.block _ h3.lt), h4, h5, h6.trans (hb.mono h6.size)⟩
theorem lg_append {w0 : World} {d lb : Nat} {A : Ab} {n : Int} {ft : List Nat} {w : World} (h : LgF w0 d lb A n ft w) (s : ByteArray) (hs : s.size ≤ maxLen) (ao : Option Addr) (l : List UInt8) (c : Nat) (hb : Sees w ao l) (hne : ∀ a, ao = some a → 0 < l.length → a.block ∉ ft) (hF : A.Fine) (hl : A.left ≠ 1) (ho : A.ops ≤ 4611686018427387904) (hlm : A.left ≤ 9223372036854775807) (hnx : A.next ≤ 4611686018427387904) (hlen : ∀ t ∈ A.sp, t.bs.length + l.length ≤ 1099511627776) :
    Calls Tryz.prog 84 #[.pointer (some ⟨d, 0, none⟩), .string s, .slice ao l.length c] w fun x w' => x = .returned (.int .i64 (appendM A s l).1) ∧ Lg w0 d lb (appendM A s l).2 n w' := by
  obtain ⟨h1, h2, h3, h4, h5, h6⟩ := h
  exact (abx_append h1 s hs ao l c hb hne hF hl ho hlm hnx hlen).mono fun x w' ⟨hx, ft', ha, hm⟩ => ⟨hx, Lg.out h2 h3 h4 h5 h6 ha hm⟩
/-- Worlds in which a log says which disk and which segment it has. -/
structure LD (d lb : Nat) (n : Int) where
  u : World
  h : u.cell? ⟨lb, 0, none⟩ = some (.pointer (some ⟨d, 0, none⟩))
  k : u.cell? ⟨lb, 1, none⟩ = some (.int .i64 n)
theorem LD.of {w0 : World} {d lb : Nat} {A : Ab} {n : Int} {w : World} (h : Lg w0 d lb A n w) : ∃ p : LD d lb n, w = p.u := ⟨⟨w, h.blk.cell 0 rfl, h.blk.cell 1 rfl⟩, rfl⟩
set_option maxRecDepth 100000 in
set_option maxHeartbeats 1000000 in
theorem writeL_ok {w0 : World} {d lb : Nat} {A A1 A2 : Ab} {n : Int} {ft : List Nat} {w : World} (he : EnvW w0) (h : LgF w0 d lb A n ft w) (hn : okW n = true) (ao : Option Addr) (l : List UInt8) (c : Nat) (hb : Sees w ao l) (hne : ∀ a, ao = some a → 0 < l.length → a.block ∉ ft) (hF : A.Fine) (hl : A.left = 0) (ho : A.ops ≤ 1000000) (hnx : A.next ≤ 1000000) (hlen : ∀ t ∈ A.sp, t.bs.length + l.length ≤ 1099511627776)
    (h1 : appendM A (tB (nmW n)) l = (0, A1)) (hl1 : A1.left = 0) (ho1 : A1.ops ≤ 1000000) (h2 : syncM A1 (tB (nmW n)) = (0, A2)) :
    Calls Tryz.prog 48 #[.pointer (some ⟨lb, 0, none⟩), .slice ao l.length c] w fun x w' => x = .returned (.int .i64 0) ∧ Lg w0 d lb A2 n w' := by
  have hmm := okW_iff.1 hn
  have CN : Hid (∀ u, Below w0.heap.size w0 u → Calls Tryz.prog 16 #[.int .i64 n] u fun x w' => x = .returned (.string (tB (nmW n))) ∧ Below u.heap.size u w') := fun u hu => nameW_any n (by omega) (by omega) u (he.below hu (Nat.le_refl _))
  have hsz := tB_max (nmW n) (by have := nmW_len n; omega)
  have CC : Hid (∀ u, Below w.heap.size w u → Calls Tryz.prog 84 #[.pointer (some ⟨d, 0, none⟩), .string (tB (nmW n)), .slice ao l.length c] u fun x w' => x = .returned (.int .i64 0) ∧ Lg w0 d lb A1 n w') := fun u hu => by
    have := lg_append (h.more hu) (tB (nmW n)) hsz ao l c (hb.below hu (Nat.le_refl _)) hne hF (by omega) (by omega) (by omega) (by omega) hlen
    rw [h1] at this; exact this
  have CS : Hid (∀ u, Lg w0 d lb A1 n u → Calls Tryz.prog 83 #[.pointer (some ⟨d, 0, none⟩), .string (tB (nmW n))] u fun x w' => x = .returned (.int .i64 0) ∧ Lg w0 d lb A2 n w') := fun u hu => by
    have := lg_sync hu (tB (nmW n)) hsz (by omega) (by omega) (by omega)
    rw [h2] at this; exact this
  have c0 : ∀ q : LD d lb n, q.u.cell? ⟨lb, 0, none⟩ = some (.pointer (some ⟨d, 0, none⟩)) := fun q => q.h
  have c1 : ∀ q : LD d lb n, q.u.cell? ⟨lb, 1, none⟩ = some (.int .i64 n) := fun q => q.k
  obtain ⟨p0, hp0⟩ := LD.of h.lg
  haveI : Nonempty (LD d lb n) := ⟨p0⟩
  have HL : Hid (Lg w0 d lb A n w) := h.lg
  generalize tB (nmW n) = s at *
  clear h1 h2 hF hn h he hl ho hl1 ho1 hb hne hlen hnx hp0 p0
  go_enter Tryz.func48, Tryz.ntmps48
  go_wp2_with fail
  refine wp_region_sched (fun w' => ∃ p : LD d lb n, w' = p.u) [(0, true), (1, true), (2, true), (3, true), (4, true), (5, true), (6, true), (7, true), (9, true), (8, false), (10, false), (11, true)] rfl (by kernel_rfl) (by kernel_rfl) (by kernel_rfl) (LD.of HL.out.drew) ?_
  iterate 9 (refine sched_pure rfl (fun K hK => ?_); go_simp; refine hK _ ?_; clear hK K)
  refine sched_loud rfl (fun K hK => ?_)
  go_simp
  refine (CN.out _ HL.out.drew.bel).mono ?_
  rintro e u1 ⟨rfl, hu1⟩
  have hu1' : Below w.heap.size w u1 := (Below.refl _ _).drew.trans hu1
  refine hK _ _ (LD.of (HL.out.more hu1')) ?_
  clear hK K
  refine sched_loud rfl (fun K hK => ?_)
  go_simp
  refine (CC.out _ hu1').mono ?_
  rintro e u2 ⟨rfl, hu2⟩
  refine hK _ _ (LD.of hu2) ?_
  clear hK K
  refine sched_pure rfl (fun K hK => ?_)
  go_simp
  refine hK _ ?_
  clear hK K
  refine sched_nil ?_
  go_wp2_with fail
  refine wp_region_sched (fun w' => ∃ p : LD d lb n, w' = p.u) [(0, true), (1, true), (2, true), (3, true), (4, true), (5, true), (6, true), (7, true), (8, false), (9, false), (10, true)] rfl (by kernel_rfl) (by kernel_rfl) (by kernel_rfl) (LD.of hu2.drew) ?_
  iterate 8 (refine sched_pure rfl (fun K hK => ?_); go_simp; refine hK _ ?_; clear hK K)
  refine sched_loud rfl (fun K hK => ?_)
  go_simp
  refine (CN.out _ hu2.drew.bel).mono ?_
  rintro e u3 ⟨rfl, hu3⟩
  have hu3' := hu2.drew.more hu3
  refine hK _ _ (LD.of hu3') ?_
  clear hK K
  refine sched_loud rfl (fun K hK => ?_)
  go_simp
  refine (CS.out _ hu3').mono ?_
  rintro e u4 ⟨rfl, hu4⟩
  refine hK _ _ (LD.of hu4) ?_
  clear hK K
  refine sched_pure rfl (fun K hK => ?_)
  go_simp
  refine hK _ ?_
  clear hK K
  refine sched_nil ?_
  go_wp2_with fail
  go_ret
  exact ⟨rfl, hu4⟩
end Go.Proofs.YtlamncldbnagmaaGreatDoor
namespace Go.Proofs.YtlamncldbnagmaaGreatDoor
open Go.RowKit

structure KeyV where
  table : ByteArray
  part : ByteArray
  row : Int
  col : ByteArray
structure ValV where
  kind : Int
  num : Int
  s : ByteArray
structure VerV where
  time : Int
  dead : Bool
  loc : Int
  val : ValV
structure CellV where
  key : KeyV
  ver : VerV

/-- A number that an int can hold. -/
def I64 (n : Int) : Prop := -9223372036854775808 ≤ n ∧ n ≤ 9223372036854775807
structure KeyV.Ok (k : KeyV) : Prop where
  row : I64 k.row
structure ValV.Ok (k : ValV) : Prop where
  kind : I64 k.kind
  num : I64 k.num
structure VerV.Ok (k : VerV) : Prop where
  time : I64 k.time
  loc : I64 k.loc
  val : k.val.Ok
structure CellV.Ok (c : CellV) : Prop where
  key : c.key.Ok
  ver : c.ver.Ok

def keyA (k : KeyV) : Array Value := #[.string k.table, .string k.part, .int .i64 k.row, .string k.col]
def valA (k : ValV) : Array Value := #[.int .i64 k.kind, .int .i64 k.num, .string k.s]
def verA (k : VerV) : Array Value := #[.int .i64 k.time, .bool k.dead, .int .i64 k.loc, .int .i64 k.val.kind, .int .i64 k.val.num, .string k.val.s]
def cellA (c : CellV) : Array Value := #[.string c.key.table, .string c.key.part, .int .i64 c.key.row, .string c.key.col, .int .i64 c.ver.time, .bool c.ver.dead, .int .i64 c.ver.loc, .int .i64 c.ver.val.kind, .int .i64 c.ver.val.num, .string c.ver.val.s]

/-- An int without a sign; the bits of an int. -/
def zigN (n : Int) : Nat := (zigZ n).toNat
theorem zigN_eq {n : Int} (h : I64 n) : zigZ n = (zigN n : Int) ∧ zigN n < 18446744073709551616 := by
  have := zigZ_bd n h.1 h.2
  unfold zigN
  omega
theorem zag_zigN {n : Int} (h : I64 n) : zagZ (zigN n : Int) = n := by rw [← (zigN_eq h).1, zag_zig]
def kindN (n : Int) : Nat := (n % 18446744073709551616).toNat
def kindZ (u : Nat) : Int := if u < 9223372036854775808 then (u : Int) else (u : Int) - 18446744073709551616
theorem kindN_lt (n : Int) : kindN n < 18446744073709551616 := by unfold kindN; omega
theorem kind_back {n : Int} (h : I64 n) : kindZ (kindN n) = n := by
  have h1 := h.1
  have h2 := h.2
  unfold kindZ kindN
  split <;> omega
theorem kindZ_ok {u : Nat} (h : u < 18446744073709551616) : I64 (kindZ u) := by
  unfold kindZ I64
  split <;> omega
theorem zagZ_ok {u : Nat} (h : u < 18446744073709551616) : I64 (zagZ u) := zagZ_bd _ (by omega) (by omega)

def strL (s : ByteArray) : List UInt8 := s.data.toList
theorem strL_length (s : ByteArray) : (strL s).length = s.size := by simp [strL]
def keyL (k : KeyV) : List UInt8 := txtL (strL k.table) ++ (txtL (strL k.part) ++ (numL (zigN k.row) ++ txtL (strL k.col)))
def valL (k : ValV) : List UInt8 := numL (kindN k.kind) ++ (numL (zigN k.num) ++ txtL (strL k.s))
def verL (k : VerV) : List UInt8 := numL (zigN k.time) ++ (if k.dead then 1 :: numL (zigN k.loc) else 0 :: valL k.val)
def cellL (c : CellV) : List UInt8 := keyL c.key ++ verL c.ver
def manyL (l : List CellV) : List UInt8 := l.flatMap cellL
def cellsL (l : List CellV) : List UInt8 := numL l.length ++ manyL l

theorem txtL_le (s : ByteArray) : (txtL (strL s)).length ≤ s.size + 10 := by
  have := (numL_length (strL s).length).2
  unfold txtL
  rw [List.length_append, strL_length] at *
  omega
theorem keyL_le (k : KeyV) : (keyL k).length ≤ k.table.size + k.part.size + k.col.size + 40 := by
  have h1 := txtL_le k.table
  have h2 := txtL_le k.part
  have h3 := txtL_le k.col
  have h4 := (numL_length (zigN k.row)).2
  unfold keyL
  simp only [List.length_append]
  omega
theorem valL_le (k : ValV) : (valL k).length ≤ k.s.size + 30 := by
  have h1 := txtL_le k.s
  have h4 := (numL_length (kindN k.kind)).2
  have h5 := (numL_length (zigN k.num)).2
  unfold valL
  simp only [List.length_append]
  omega
theorem verL_le (k : VerV) : (verL k).length ≤ k.val.s.size + 41 := by
  have h1 := valL_le k.val
  have h4 := (numL_length (zigN k.time)).2
  have h5 := (numL_length (zigN k.loc)).2
  unfold verL
  split <;> simp only [List.length_append, List.length_cons] <;> omega
/-- The bytes of a cell's texts. -/
def wtC (c : CellV) : Nat := c.key.table.size + c.key.part.size + c.key.col.size + c.ver.val.s.size
theorem cellL_le (c : CellV) : (cellL c).length ≤ wtC c + 81 := by
  have h1 := keyL_le c.key
  have h2 := verL_le c.ver
  unfold cellL wtC
  rw [List.length_append]
  omega
def wtL (l : List CellV) : Nat := (l.map wtC).sum
theorem manyL_le (l : List CellV) : (manyL l).length ≤ wtL l + 81 * l.length := by
  induction l with
  | nil => simp [manyL, wtL]
  | cons c l ih =>
    have h := cellL_le c
    unfold manyL wtL at *
    simp only [List.flatMap_cons, List.length_append, List.map_cons, List.sum_cons, List.length_cons]
    omega
/-- The bytes of a cell's texts that are written. -/
def wtV (k : VerV) : Nat := if k.dead then 0 else k.val.s.size
theorem verL_leD (k : VerV) : (verL k).length ≤ wtV k + 41 := by
  have h1 := valL_le k.val
  have h4 := (numL_length (zigN k.time)).2
  have h5 := (numL_length (zigN k.loc)).2
  unfold verL wtV
  split <;> simp only [List.length_append, List.length_cons] <;> omega
def wtD (c : CellV) : Nat := c.key.table.size + c.key.part.size + c.key.col.size + wtV c.ver
theorem cellL_leD (c : CellV) : (cellL c).length ≤ wtD c + 81 := by
  have h1 := keyL_le c.key
  have h2 := verL_leD c.ver
  unfold cellL wtD
  rw [List.length_append]
  omega
def wtLD (l : List CellV) : Nat := (l.map wtD).sum
theorem manyL_leD (l : List CellV) : (manyL l).length ≤ wtLD l + 81 * l.length := by
  induction l with
  | nil => simp [manyL, wtLD]
  | cons c l ih =>
    have h := cellL_leD c
    unfold manyL wtLD at *
    simp only [List.flatMap_cons, List.length_append, List.map_cons, List.sum_cons, List.length_cons]
    omega
theorem wtLD_le (l : List CellV) : wtLD l ≤ wtL l := by
  induction l with
  | nil => simp [wtLD, wtL]
  | cons c l ih =>
    have h : wtD c ≤ wtC c := by unfold wtD wtC wtV; split <;> omega
    unfold wtLD wtL at *
    simp only [List.map_cons, List.sum_cons]
    omega
theorem manyL_append (a b : List CellV) : manyL (a ++ b) = manyL a ++ manyL b := by unfold manyL; rw [List.flatMap_append]

/-! ### What bytes begin with. -/
def bytesOf (l : List UInt8) : ByteArray := ⟨l.toArray⟩
def signN (l : List UInt8) : Option (Int × List UInt8) := match getN 0 0 l with | none => none | some (v, r) => some (zagZ v, r)
def keyN (l : List UInt8) : Option (KeyV × List UInt8) :=
  match textN l with
  | none => none
  | some (t, r1) => match textN r1 with
    | none => none
    | some (p, r2) => match signN r2 with
      | none => none
      | some (n, r3) => match textN r3 with
        | none => none
        | some (c, r4) => some (⟨bytesOf t, bytesOf p, n, bytesOf c⟩, r4)
def valN (l : List UInt8) : Option (ValV × List UInt8) :=
  match getN 0 0 l with
  | none => none
  | some (k, r1) => match signN r1 with
    | none => none
    | some (n, r2) => match textN r2 with
      | none => none
      | some (s, r3) => some (⟨kindZ k, n, bytesOf s⟩, r3)
def noVal : ValV := ⟨0, 0, ⟨#[]⟩⟩
def verN (l : List UInt8) : Option (VerV × List UInt8) :=
  match signN l with
  | none => none
  | some (t, r1) => match r1 with
    | [] => none
    | m :: r2 =>
      if m = 0 then match valN r2 with | none => none | some (v, r3) => some (⟨t, false, 0, v⟩, r3)
      else if m = 1 then match signN r2 with | none => none | some (n, r3) => some (⟨t, true, n, noVal⟩, r3)
      else none
def cellN (l : List UInt8) : Option (CellV × List UInt8) :=
  match keyN l with
  | none => none
  | some (k, r1) => match verN r1 with | none => none | some (v, r2) => some (⟨k, v⟩, r2)
def manyN : Nat → List UInt8 → Option (List CellV × List UInt8)
  | 0, l => some ([], l)
  | n + 1, l => match cellN l with | none => none | some (c, r) => match manyN n r with | none => none | some (cs, r') => some (c :: cs, r')
def cellsN (l : List UInt8) : Option (List CellV) :=
  match getN 0 0 l with
  | none => none
  | some (n, r) => match manyN n r with | some (cs, []) => some cs | _ => none

/-! ### There and back. -/
theorem signN_back {n : Int} (h : I64 n) (r : List UInt8) : signN (numL (zigN n) ++ r) = some (n, r) := by
  unfold signN
  rw [get_back _ (zigN_eq h).2]
  simp only [zag_zigN h]
theorem bytesOf_strL (s : ByteArray) : bytesOf (strL s) = s := by cases s; simp [bytesOf, strL]
theorem txt_back (s : ByteArray) (h : s.size < 18446744073709551616) (r : List UInt8) : textN (txtL (strL s) ++ r) = some (strL s, r) := by
  unfold txtL
  rw [List.append_assoc]
  exact textN_back _ _ (by rw [strL_length]; exact h)
theorem keyN_back {k : KeyV} (h : k.Ok) (hs : k.table.size + k.part.size + k.col.size < 18446744073709551616) (r : List UInt8) : keyN (keyL k ++ r) = some (k, r) := by
  unfold keyN keyL
  simp only [List.append_assoc]
  rw [txt_back _ (by omega)]
  simp only []
  rw [txt_back _ (by omega)]
  simp only []
  rw [signN_back h.row]
  simp only []
  rw [txt_back _ (by omega)]
  simp only [bytesOf_strL]
theorem valN_back {k : ValV} (h : k.Ok) (hs : k.s.size < 18446744073709551616) (r : List UInt8) : valN (valL k ++ r) = some (k, r) := by
  unfold valN valL
  simp only [List.append_assoc]
  rw [get_back _ (kindN_lt _)]
  simp only []
  rw [signN_back h.num]
  simp only []
  rw [txt_back _ hs]
  simp only [bytesOf_strL, kind_back h.kind]
/-- What is told of a version: a deletion's value is not, nor another one's Local. -/
def plainV (v : VerV) : VerV := if v.dead then ⟨v.time, true, v.loc, noVal⟩ else ⟨v.time, false, 0, v.val⟩
def plainC (c : CellV) : CellV := ⟨c.key, plainV c.ver⟩
theorem verN_back {k : VerV} (h : k.Ok) (hs : k.val.s.size < 18446744073709551616) (r : List UInt8) : verN (verL k ++ r) = some (plainV k, r) := by
  unfold verN verL plainV
  simp only [List.append_assoc]
  rw [signN_back h.time]
  cases k.dead
  · simp only [Bool.false_eq_true, if_false, List.cons_append, if_true]
    rw [valN_back h.val hs]
  · simp only [if_true, List.cons_append, show ¬ ((1 : UInt8) = 0) by decide, if_false]
    rw [signN_back h.loc]
theorem cellN_back {c : CellV} (h : c.Ok) (hs : wtC c < 18446744073709551616) (r : List UInt8) : cellN (cellL c ++ r) = some (plainC c, r) := by
  unfold wtC at hs
  unfold cellN cellL plainC
  rw [List.append_assoc, keyN_back h.key (by omega)]
  simp only []
  rw [verN_back h.ver (by omega)]
theorem manyN_back : ∀ (l : List CellV) (r : List UInt8), (∀ c ∈ l, c.Ok ∧ wtC c < 18446744073709551616) → manyN l.length (manyL l ++ r) = some (l.map plainC, r) := by
  intro l
  induction l with
  | nil => intro r _; rfl
  | cons c l ih =>
    intro r h
    have h1 := h c (by simp)
    have e : manyL (c :: l) ++ r = cellL c ++ (manyL l ++ r) := by unfold manyL; simp
    rw [e, List.length_cons, manyN, cellN_back h1.1 h1.2]
    simp only []
    rw [ih r (fun x hx => h x (by simp [hx]))]
    rfl
theorem cellsN_back (l : List CellV) (h : ∀ c ∈ l, c.Ok ∧ wtC c < 18446744073709551616) (hl : l.length < 18446744073709551616) : cellsN (cellsL l) = some (l.map plainC) := by
  unfold cellsN cellsL
  rw [get_back _ hl]
  have := manyN_back l [] h
  rw [List.append_nil] at this
  simp only [this]
theorem cellsN_more (l : List CellV) (h : ∀ c ∈ l, c.Ok ∧ wtC c < 18446744073709551616) (hl : l.length < 18446744073709551616) (b : UInt8) : cellsN (cellsL l ++ [b]) = none := by
  unfold cellsN cellsL
  rw [List.append_assoc, get_back _ hl]
  simp only [manyN_back l [b] h]
end Go.Proofs.YtlamncldbnagmaaGreatDoor
