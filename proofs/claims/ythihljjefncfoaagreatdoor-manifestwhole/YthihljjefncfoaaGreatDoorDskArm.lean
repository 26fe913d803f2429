/-
  CONTRACTS: a plan, for every disk in memory; the one function of all operations where the plan strikes.
-/
import Derived.Test.YthihljjefncfoaaGreatDoorDskMore
namespace Go.Proofs.YthihljjefncfoaaGreatDoor
open Go.RowKit Go.Maps

theorem arm_refused {w : World} {d bm : Nat} {S : St} (h : DiskAt w d bm S) (n m : Int) (hon : S.on = false) :
    Calls Tryz.prog 8 #[.pointer (some ⟨d, 0, none⟩), .int .i64 n, .int .i64 m] w fun x w' => x = .returned (.int .i64 9) ∧ w' = w := by
  have R := refusal_nil h
  rw [hon] at R
  have R : Hid (Calls Tryz.prog 27 #[.pointer (some ⟨d, 0, none⟩), .slice none 0 0] w fun x w' => x = .returned (.int .i64 9) ∧ w' = w) := R
  clear h
  go_enter Tryz.func8, Tryz.ntmps8
  go_wp2_with (go_at_call 27; go_fit R.out; rintro x w1 ⟨rfl, rfl⟩)
  go_ret
  exact ⟨rfl, rfl⟩
theorem arm_arg {w : World} {d bm : Nat} {S : St} (h : DiskAt w d bm S) (n m : Int) (hon : S.on = true) (hn : n < 0) :
    Calls Tryz.prog 8 #[.pointer (some ⟨d, 0, none⟩), .int .i64 n, .int .i64 m] w fun x w' => x = .returned (.int .i64 2) ∧ w' = w := by
  have R := refusal_nil h
  rw [hon] at R
  have R : Hid (Calls Tryz.prog 27 #[.pointer (some ⟨d, 0, none⟩), .slice none 0 0] w fun x w' => x = .returned (.int .i64 0) ∧ w' = w) := R
  clear h
  go_enter Tryz.func8, Tryz.ntmps8
  go_wp2_with (go_at_call 27; go_fit R.out; rintro x w1 ⟨rfl, rfl⟩)
  go_ret
  exact ⟨rfl, rfl⟩
theorem arm_ok {w : World} {d bm : Nat} {S : St} (h : DiskAt w d bm S) (n : Nat) (m : Int) (hon : S.on = true) :
    Calls Tryz.prog 8 #[.pointer (some ⟨d, 0, none⟩), .int .i64 (n : Int), .int .i64 m] w fun x w' => x = .returned (.int .i64 0) ∧ DiskAt w' d bm { S with left := n, keep := m } ∧ Moved w w' [d] [d] := by
  have R := refusal_nil h
  rw [hon] at R
  have R : Hid (Calls Tryz.prog 27 #[.pointer (some ⟨d, 0, none⟩), .slice none 0 0] w fun x w' => x = .returned (.int .i64 0) ∧ w' = w) := R
  have c5 := h.c5
  have c6 := h.c6
  have f5 := h.head.frozen 5
  have f6 := h.head.frozen 6
  have k1 := h.put (S' := { S with left := n }) rfl 5 (.int .i64 (n : Int)) rfl
  have HE : Hid (DiskAt ((w.setCell ⟨d, 5, none⟩ (.int .i64 (n : Int))).setCell ⟨d, 6, none⟩ (.int .i64 m)) d bm { S with left := n, keep := m }) := k1.put (S' := { S with left := n, keep := m }) rfl 6 (.int .i64 m) rfl
  clear h k1
  go_enter Tryz.func8, Tryz.ntmps8
  go_wp2_with (go_at_call 27; go_fit R.out; rintro x w1 ⟨rfl, rfl⟩)
  go_ret
  exact ⟨rfl, HE.out, (Moved.of_set d 5 _).trans (Moved.of_set d 6 _)⟩

/-- The plan strikes, and the operation does nothing. -/
theorem operate_cut {w : World} {d bm : Nat} {S : St} (h : DiskAt w d bm S) (hon : S.on = true) (hl : S.left = 1) (ho : S.ops ≤ 4611686018427387904) (hF : S.Fine) (hk : -9223372036854775808 ≤ S.keep ∧ S.keep ≤ 9223372036854775807) (v : Value) :
    Calls Tryz.prog 62 #[.pointer (some ⟨d, 0, none⟩), v, .func (.func 64) #[] #[]] w fun x w' => x = .returned (.int .i64 9) ∧ DiskAt w' d bm { S with on := false, ops := S.ops + 1, fs := S.fs.map fun e => loseE e (lineEndN S S.keep.toNat) } ∧ Moved w w' (foot d bm S.fs) (foot d bm S.fs) := by
  have c3 := h.c3
  have f3 := h.head.frozen 3
  have c5 := h.c5
  rw [hl] at c5
  have c6 := h.c6
  have h1 := h.put (S' := { S with ops := S.ops + 1 }) rfl 3 (.int .i64 ((S.ops + 1 : Nat) : Int)) rfl
  have hF1 : St.Fine { S with ops := S.ops + 1 } := ⟨hF.files, hF.room, hF.used, hF.dirty⟩
  have M : Moved w (w.setCell ⟨d, 3, none⟩ (.int .i64 ((S.ops + 1 : Nat) : Int))) (foot d bm S.fs) (foot d bm S.fs) := (Moved.of_set d 3 _).wider (fun i hi => .inl (by simp at hi; simp [foot, hi])) (fun i hi => .inl hi)
  have hc := crash_on h1 hon hF1 S.keep hk.1 hk.2
  have t1 := ops_text S.ops ho
  generalize hA : ((S.ops + 1 : Nat) : Int) = A at *
  have HC : Hid (Calls Tryz.prog 23 #[.pointer (some ⟨d, 0, none⟩), .int .i64 S.keep] (w.setCell ⟨d, 3, none⟩ (.int .i64 A)) fun x w' => x = .returned (.tuple #[]) ∧ DiskAt w' d bm { S with on := false, ops := S.ops + 1, fs := S.fs.map fun e => loseE e (lineEndN S S.keep.toNat) } ∧ Moved w w' (foot d bm S.fs) (foot d bm S.fs)) := hc.mono fun x w' hh => ⟨hh.1, hh.2.1, M.trans hh.2.2⟩
  have NO : Hid (∀ w, Calls Tryz.prog 64 #[] w fun e w' => e = .returned (.tuple #[]) ∧ w' = w) := nothing_any
  clear h h1 M hc ho hl hA hF hF1 hon
  go_enter Tryz.func62, Tryz.ntmps62
  go_wp2_with (first | (go_at_call 64; go_fit (NO.out _); rintro x w1 ⟨rfl, rfl⟩) | (go_at_call 23; go_fit HC.out; rintro x w2 ⟨rfl, hQ⟩))
  go_ret
  exact ⟨rfl, hQ⟩
end Go.Proofs.YthihljjefncfoaaGreatDoor
