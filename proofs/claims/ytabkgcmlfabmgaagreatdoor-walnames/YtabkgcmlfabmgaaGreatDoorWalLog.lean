/-
  CONTRACTS: a log in memory: made, noted, refusal, begin, write, where nothing of the disk is planned and its calls answer OK.
-/
import Derived.Test.YtabkgcmlfabmgaaGreatDoorWalNum
import Derived.Test.YtabkgcmlfabmgaaGreatDoorDskModel
import Derived.Test.YtabkgcmlfabmgaaGreatDoorDskList
import Derived.Test.YtabkgcmlfabmgaaGreatDoorLoud
namespace Go.Proofs.YtabkgcmlfabmgaaGreatDoor
open Go.RowKit
attribute [local go_sem] Oper.pureAt Oper.pureUpon

/-- A log on a disk, all of it new since w0. -/
def Lg (w0 : World) (d lb : Nat) (A : Ab) (n : Int) (w : World) : Prop :=
  ∃ ft, At d A ft w ∧ lb ∉ ft ∧ Blk w lb [.pointer (some ⟨d, 0, none⟩), .int .i64 n, .bool false] 56 ∧ (∀ i ∈ ft, w0.heap.size ≤ i) ∧ w0.heap.size ≤ lb ∧ Below w0.heap.size w0 w
theorem Lg.bel {w0 : World} {d lb : Nat} {A : Ab} {n : Int} {w : World} (h : Lg w0 d lb A n w) : Below w0.heap.size w0 w := by
  obtain ⟨ft, _, _, _, _, _, h6⟩ := h; exact h6
theorem Lg.blk {w0 : World} {d lb : Nat} {A : Ab} {n : Int} {w : World} (h : Lg w0 d lb A n w) : Blk w lb [.pointer (some ⟨d, 0, none⟩), .int .i64 n, .bool false] 56 := by
  obtain ⟨ft, _, _, h3, _, _, _⟩ := h; exact h3
theorem moved_below {w u : World} {ft : List Nat} (h : Below w.heap.size w u) : Moved w u ft ft := ⟨h.os, h.tape, h.output, h.size, fun i hi _ => h.block i hi, fun _ hi => .inl hi⟩
theorem Lg.more {w0 : World} {d lb : Nat} {A : Ab} {n : Int} {w u : World} (h : Lg w0 d lb A n w) (hb : Below w.heap.size w u) : Lg w0 d lb A n u := by
  obtain ⟨ft, h1, h2, h3, h4, h5, h6⟩ := h
  exact ⟨ft, h1.moved (moved_below (ft := []) hb) (by simp), h2, h3.carry (hb.block _ h3.lt), h4, h5, h6.trans (hb.mono h6.size)⟩
theorem Lg.out {w0 : World} {d lb : Nat} {A' : Ab} {n : Int} {w w' : World} {ft ft' : List Nat} (h2 : lb ∉ ft) (h3 : Blk w lb [.pointer (some ⟨d, 0, none⟩), .int .i64 n, .bool false] 56) (h4 : ∀ i ∈ ft, w0.heap.size ≤ i) (h5 : w0.heap.size ≤ lb) (h6 : Below w0.heap.size w0 w) (ha : At d A' ft' w') (hm : Moved w w' ft ft') : Lg w0 d lb A' n w' := by
  have hs := h6.size
  refine ⟨ft', ha, fun hi => ?_, h3.carry (hm.kept lb h3.lt h2), fun i hi => ?_, h5, h6.trans ⟨hm.os, hm.tape, hm.output, hm.size, fun i hi => hm.kept i (by omega) fun h => ?_⟩⟩
  · rcases hm.news lb hi with h | h
    · exact h2 h
    · have := h3.lt; omega
  · rcases hm.news i hi with h | h
    · exact h4 i h
    · omega
  · have := h4 i h; omega
section
variable {w0 : World} {d lb : Nat} {A : Ab} {n : Int} {w : World} (h : Lg w0 d lb A n w) (s : ByteArray) (hs : s.size ≤ maxLen)
include h hs
theorem lg_create (hF : A.Fine) (hl : A.left ≠ 1) (ho : A.ops ≤ 4611686018427387904) (hlm : A.left ≤ 9223372036854775807) :
    Calls Tryz.prog 102 #[.pointer (some ⟨d, 0, none⟩), .string s] w fun x w' => x = .returned (.int .i64 (createM A s).1) ∧ Lg w0 d lb (createM A s).2 n w' := by
  obtain ⟨ft, h1, h2, h3, h4, h5, h6⟩ := h
  exact (abx_create h1 s hs hF hl ho hlm).mono fun x w' ⟨hx, ft', ha, hm⟩ => ⟨hx, Lg.out h2 h3 h4 h5 h6 ha hm⟩
theorem lg_sync (hl : A.left ≠ 1) (ho : A.ops ≤ 4611686018427387904) (hlm : A.left ≤ 9223372036854775807) :
    Calls Tryz.prog 99 #[.pointer (some ⟨d, 0, none⟩), .string s] w fun x w' => x = .returned (.int .i64 (syncM A s).1) ∧ Lg w0 d lb (syncM A s).2 n w' := by
  obtain ⟨ft, h1, h2, h3, h4, h5, h6⟩ := h
  exact (abx_sync h1 s hs hl ho hlm).mono fun x w' ⟨hx, ft', ha, hm⟩ => ⟨hx, Lg.out h2 h3 h4 h5 h6 ha hm⟩
theorem lg_remove (hl : A.left ≠ 1) (ho : A.ops ≤ 4611686018427387904) (hlm : A.left ≤ 9223372036854775807) :
    Calls Tryz.prog 63 #[.pointer (some ⟨d, 0, none⟩), .string s] w fun x w' => x = .returned (.int .i64 (removeM A s).1) ∧ Lg w0 d lb (removeM A s).2 n w' := by
  obtain ⟨ft, h1, h2, h3, h4, h5, h6⟩ := h
  exact (abx_remove h1 s hs hl ho hlm).mono fun x w' ⟨hx, ft', ha, hm⟩ => ⟨hx, Lg.out h2 h3 h4 h5 h6 ha hm⟩
end
theorem lg_set {w0 : World} {d lb : Nat} {A : Ab} {n : Int} {w : World} (h : Lg w0 d lb A n w) (m : Int) : Lg w0 d lb A m (w.setCell ⟨lb, 1, none⟩ (.int .i64 m)) := by
  obtain ⟨ft, h1, h2, h3, h4, h5, h6⟩ := h
  refine ⟨ft, h1.moved (a := [lb]) (b := [lb]) ⟨rfl, rfl, rfl, by rw [size_setCell]; exact Nat.le_refl _, fun i _ hi => Below.heap_setCell _ _ _ _ (by simpa using hi), fun _ hi => .inl hi⟩ (fun i hi e => by rw [List.mem_singleton] at e; subst e; exact h2 hi), h2, h3.setTo 1 _ _ rfl, h4, h5, h6.setCell (by exact h5) _⟩
set_option maxRecDepth 100000 in
theorem madeL_any {w0 : World} {d lb : Nat} {A : Ab} {n : Int} {w : World} (h : Lg w0 d lb A n w) (hn : 0 < n) : Calls Tryz.prog 64 #[.pointer (some ⟨lb, 0, none⟩)] w fun e w' => e = .returned (.bool true) ∧ w' = w := by
  have c1 := h.blk.cell 1 rfl
  have hq : (binOp BinOp.neq 47 (.pointer (some ⟨lb, 0, none⟩)) (.pointer none)).run Tryz.prog w = .ok (.bool true) w := by kernel_rfl
  clear h
  go_enter Tryz.func64, Tryz.ntmps64
  go_wp2_with fail
  go_ret
  exact ⟨rfl, rfl⟩
set_option maxRecDepth 100000 in
theorem noted_any (lb : Nat) (e : Int) (w : World) (he : e ≠ 9) : Calls Tryz.prog 56 #[.pointer (some ⟨lb, 0, none⟩), .int .i64 e] w fun x w' => x = .returned (.int .i64 e) ∧ w' = w := by
  go_enter Tryz.func56, Tryz.ntmps56
  go_wp2_with fail
  go_ret
  exact ⟨rfl, rfl⟩
set_option maxRecDepth 100000 in
theorem refusalL_any {w0 : World} {d lb : Nat} {A : Ab} {n : Int} {w : World} (h : Lg w0 d lb A n w) (hn : 0 < n) (hon : A.on = true) : Calls Tryz.prog 55 #[.pointer (some ⟨lb, 0, none⟩)] w fun e w' => e = .returned (.int .i64 0) ∧ w' = w := by
  have CM : Hid (Calls Tryz.prog 64 #[.pointer (some ⟨lb, 0, none⟩)] w fun e w' => e = .returned (.bool true) ∧ w' = w) := madeL_any h hn
  have CO : Hid (Calls Tryz.prog 24 #[.pointer (some ⟨d, 0, none⟩)] w fun e w' => e = .returned (.bool true) ∧ w' = w) := by
    obtain ⟨ft, ⟨bm, fs, hD, _, _⟩, _⟩ := h
    have := on_any hD
    rw [show (A.st fs).on = A.on from rfl, hon] at this
    exact this
  have c0 := h.blk.cell 0 rfl
  have c2 := h.blk.cell 2 rfl
  clear h
  go_enter Tryz.func55, Tryz.ntmps55
  go_wp2_with (go_at_call 64; refine CM.out.mono ?_; rintro e w1 ⟨rfl, rfl⟩)
  go_fit CO.out
  rintro e w2 ⟨rfl, rfl⟩
  go_wp2_with fail
  go_ret
  exact ⟨rfl, rfl⟩
/-- Worlds in which a log says which disk it has. -/
structure LC (d lb : Nat) where
  u : World
  h : u.cell? ⟨lb, 0, none⟩ = some (.pointer (some ⟨d, 0, none⟩))
theorem LC.of {w0 : World} {d lb : Nat} {A : Ab} {n : Int} {w : World} (h : Lg w0 d lb A n w) : ∃ p : LC d lb, w = p.u := ⟨⟨w, h.blk.cell 0 rfl⟩, rfl⟩
theorem tB_max (l : List UInt8) (h : l.length ≤ 1000) : (tB l).size ≤ maxLen := by rw [tB_size]; unfold maxLen; omega
theorem Lg.drew {w0 : World} {d lb : Nat} {A : Ab} {n : Int} {w : World} (h : Lg w0 d lb A n w) : Lg w0 d lb A n w.drew := h.more (Below.refl _ _).drew
set_option maxRecDepth 100000 in
set_option maxHeartbeats 1000000 in
theorem beginL_ok {w0 : World} {d lb : Nat} {A A1 A2 : Ab} {n m : Int} {w : World} (he : EnvW w0) (h : Lg w0 d lb A n w) (hm : okW m = true) (hF : A.Fine) (hl : A.left = 0) (ho : A.ops ≤ 1000000) (h1 : createM A (tB (nmW m)) = (0, A1)) (hl1 : A1.left = 0) (ho1 : A1.ops ≤ 1000000) (h2 : syncM A1 (tB (nmW m)) = (0, A2)) :
    Calls Tryz.prog 61 #[.pointer (some ⟨lb, 0, none⟩), .int .i64 m] w fun x w' => x = .returned (.int .i64 0) ∧ Lg w0 d lb A2 m w' := by
  have hmm := okW_iff.1 hm
  have CP : Hid (∀ u, Calls Tryz.prog 49 #[.int .i64 m] u fun e w' => e = .returned (.bool true) ∧ w' = u) := fun u => by have := possible_any m u; rw [hm] at this; exact this
  have CN : Hid (∀ u A n, Lg w0 d lb A n u → Calls Tryz.prog 18 #[.int .i64 m] u fun x w' => x = .returned (.string (tB (nmW m))) ∧ Lg w0 d lb A n w') := fun u A n hu => (nameW_any m (by omega) (by omega) u (he.below hu.bel (Nat.le_refl _))).mono fun x w' ⟨hx, hb⟩ => ⟨hx, hu.more hb⟩
  have hsz := tB_max (nmW m) (by have := nmW_len m; omega)
  have CC : Hid (∀ u, Lg w0 d lb A n u → Calls Tryz.prog 102 #[.pointer (some ⟨d, 0, none⟩), .string (tB (nmW m))] u fun x w' => x = .returned (.int .i64 0) ∧ Lg w0 d lb A1 n w') := fun u hu => by
    have := lg_create hu (tB (nmW m)) hsz hF (by omega) (by omega) (by omega)
    rw [h1] at this; exact this
  have CS : Hid (∀ u, Lg w0 d lb A1 n u → Calls Tryz.prog 99 #[.pointer (some ⟨d, 0, none⟩), .string (tB (nmW m))] u fun x w' => x = .returned (.int .i64 0) ∧ Lg w0 d lb A2 n w') := fun u hu => by
    have := lg_sync hu (tB (nmW m)) hsz (by omega) (by omega) (by omega)
    rw [h2] at this; exact this
  have c0 : ∀ q : LC d lb, q.u.cell? ⟨lb, 0, none⟩ = some (.pointer (some ⟨d, 0, none⟩)) := fun q => q.h
  haveI : Nonempty (LC d lb) := ⟨⟨w, h.blk.cell 0 rfl⟩⟩
  have HL : Hid (Lg w0 d lb A n w) := h
  generalize tB (nmW m) = s at *
  clear h1 h2 hF hm h he hl ho hl1 ho1
  go_enter Tryz.func61, Tryz.ntmps61
  go_wp2_with (go_at_call 49; refine (CP.out _).mono ?_; rintro e w1 ⟨rfl, rfl⟩)
  refine wp_region_sched (fun w' => ∃ p : LC d lb, w' = p.u) [(0, true), (1, true), (2, true), (3, true), (4, true), (5, false), (6, false), (7, true)] rfl (by kernel_rfl) (by kernel_rfl) (by kernel_rfl) (LC.of HL.out.drew) ?_
  iterate 5 (refine sched_pure rfl (fun K hK => ?_); go_simp; refine hK _ ?_; clear hK K)
  refine sched_loud rfl (fun K hK => ?_)
  go_simp
  refine (CN.out _ A n HL.out.drew).mono ?_
  rintro e u1 ⟨rfl, hu1⟩
  refine hK _ _ (LC.of hu1) ?_
  clear hK K
  refine sched_loud rfl (fun K hK => ?_)
  go_simp
  refine (CC.out _ hu1).mono ?_
  rintro e u2 ⟨rfl, hu2⟩
  refine hK _ _ (LC.of hu2) ?_
  clear hK K
  refine sched_pure rfl (fun K hK => ?_)
  go_simp
  refine hK _ ?_
  clear hK K
  refine sched_nil ?_
  go_wp2_with fail
  refine wp_region_sched (fun w' => ∃ p : LC d lb, w' = p.u) [(0, true), (1, true), (2, true), (3, true), (4, true), (5, false), (6, false), (7, true)] rfl (by kernel_rfl) (by kernel_rfl) (by kernel_rfl) (LC.of hu2.drew) ?_
  iterate 5 (refine sched_pure rfl (fun K hK => ?_); go_simp; refine hK _ ?_; clear hK K)
  refine sched_loud rfl (fun K hK => ?_)
  go_simp
  refine (CN.out _ A1 n hu2.drew).mono ?_
  rintro e u3 ⟨rfl, hu3⟩
  refine hK _ _ (LC.of hu3) ?_
  clear hK K
  refine sched_loud rfl (fun K hK => ?_)
  go_simp
  refine (CS.out _ hu3).mono ?_
  rintro e u4 ⟨rfl, hu4⟩
  refine hK _ _ (LC.of hu4) ?_
  clear hK K
  refine sched_pure rfl (fun K hK => ?_)
  go_simp
  refine hK _ ?_
  clear hK K
  refine sched_nil ?_
  have d1 := hu4.blk.cell 1 rfl
  have f1 := hu4.blk.frozen 1
  go_wp2_with fail
  go_ret
  exact ⟨rfl, lg_set hu4 m⟩
end Go.Proofs.YtabkgcmlfabmgaaGreatDoor
