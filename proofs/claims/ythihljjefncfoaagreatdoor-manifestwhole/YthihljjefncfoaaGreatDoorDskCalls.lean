/-
  CONTRACTS: the disk's calls, where nothing is planned, for every disk in memory.
-/
import Derived.Test.YthihljjefncfoaaGreatDoorDskOps
namespace Go.Proofs.YthihljjefncfoaaGreatDoor
open Go.RowKit Go.Maps

/-- A box lies beside the disk. -/
theorem box_new (w : World) (v : Value) (t : TypeId) : (w.alloc (.cells #[v] t)).cell? ⟨w.heap.size, 0, none⟩ = some v := (Blk.new w [v] t).cell 0 rfl
theorem cell_up {w w' : World} {a : Addr} {v : Value} {r : Option Nat} (h : w.cell? a = some v) (hg : w.grownBy w' r) (hr : some a.block ≠ r) : w'.cell? a = some v := hg.cell h hr

/-! ### Sync -/
section
variable {w : World} {d bm : Nat} {S : St} (h : DiskAt w d bm S) (s : ByteArray) (hs : s.size ≤ maxLen)
include h hs
theorem sync_refused {c : Int} (hc : refuse S.on [s] = c) (hc0 : c ≠ 0) :
    Calls Tryz.prog 37 #[.pointer (some ⟨d, 0, none⟩), .string s] w fun x w' => x = .returned (.int .i64 c) ∧ w.grownBy w' none := by
  have F : Hid (Calls Tryz.prog 65 #[.pointer (some ⟨d, 0, none⟩), .string s] w fun x w' => x = .returned (.tuple #[.pointer none, .int .i64 c]) ∧ w.grownBy w' none) := find_refused h s hs hc hc0
  have hcb : (c == 0) = false := by rw [beq_eq_false_iff_ne]; exact hc0
  clear h hs hc
  go_enter Tryz.func37, Tryz.ntmps37
  go_wp2_with (go_at_call 65; refine F.out.mono ?_; rintro x w1 ⟨rfl, hg⟩)
  go_ret
  exact ⟨rfl, ⟨hg.os, hg.tape, hg.output, Nat.le_trans hg.size (by simp), fun k hk hn => (Below.heap_alloc _ _ _ (Nat.lt_of_lt_of_le hk hg.size)).trans (hg.block k hk hn)⟩⟩
theorem sync_none (hc : refuse S.on [s] = 0) (hf : find S.fs (nameOf s) = none) :
    Calls Tryz.prog 37 #[.pointer (some ⟨d, 0, none⟩), .string s] w fun x w' => x = .returned (.int .i64 4) ∧ w.grownBy w' none := by
  have F : Hid (Calls Tryz.prog 65 #[.pointer (some ⟨d, 0, none⟩), .string s] w fun x w' => x = .returned (.tuple #[.pointer none, .int .i64 4]) ∧ w.grownBy w' none) := find_none h s hs hc hf
  clear h hs hc hf
  go_enter Tryz.func37, Tryz.ntmps37
  go_wp2_with (go_at_call 65; refine F.out.mono ?_; rintro x w1 ⟨rfl, hg⟩)
  go_ret
  exact ⟨rfl, ⟨hg.os, hg.tape, hg.output, Nat.le_trans hg.size (by simp), fun k hk hn => (Below.heap_alloc _ _ _ (Nat.lt_of_lt_of_le hk hg.size)).trans (hg.block k hk hn)⟩⟩
theorem sync_ok (hc : refuse S.on [s] = 0) {e : Ent} (hf : find S.fs (nameOf s) = some e) (hl : S.left ≠ 1) (ho : S.ops ≤ 4611686018427387904) (hlm : S.left ≤ 9223372036854775807) :
    Calls Tryz.prog 37 #[.pointer (some ⟨d, 0, none⟩), .string s] w fun x w' => x = .returned (.int .i64 0) ∧ DiskAt w' d bm { S with ops := S.ops + 1, left := S.left - 1, fs := swap S.fs e (endE e e.bs.length) } ∧ Moved w w' (foot d bm S.fs) (foot d bm (swap S.fs e (endE e e.bs.length))) := by
  have F : Hid (Calls Tryz.prog 65 #[.pointer (some ⟨d, 0, none⟩), .string s] w fun x w' => x = .returned (.tuple #[.pointer (some ⟨e.b, 0, none⟩), .int .i64 0]) ∧ w.grownBy w' none) := find_ok h s hs hc hf
  have he := (find_some hf).1
  have hmf : ∀ (fn : Fn) (first cap : Array Value) (w : World), (Instr.makeFunc fn first cap).run Tryz.prog w = .ok (.func fn first cap) w := fun _ _ _ _ => rfl
  have OP : Hid (∀ w1, w.grownBy w1 none → ∀ v, Calls Tryz.prog 62 #[.pointer (some ⟨d, 0, none⟩), .func (.func 69) #[] #[.pointer (some ⟨w1.heap.size, 0, none⟩)], v] (w1.alloc (.cells #[.pointer (some ⟨e.b, 0, none⟩)] 87)) fun x w2 => x = .returned (.int .i64 0) ∧ DiskAt w2 d bm { S with ops := S.ops + 1, left := S.left - 1, fs := swap S.fs e (endE e e.bs.length) } ∧ Moved w w2 (foot d bm S.fs) (foot d bm (swap S.fs e (endE e e.bs.length)))) := by
    intro w1 hg v
    have hD : DiskAt (w1.alloc (.cells #[.pointer (some ⟨e.b, 0, none⟩)] 87)) d bm S := (h.carry (w' := w1) fun i hi => hg.block i (h.lt i hi) (by simp)).alloc _
    have hM0 : Moved w (w1.alloc (.cells #[.pointer (some ⟨e.b, 0, none⟩)] 87)) (foot d bm S.fs) (foot d bm S.fs) := (Moved.none_of hg _).trans (Moved.alloc _ _)
    have hdl := h.head.lt
    refine operateSync hD hl ho hlm w1.heap.size v _ fun w2 hD2 hM2 => ?_
    have hcell : w2.cell? ⟨w1.heap.size, 0, none⟩ = some (.pointer (some ⟨e.b, 0, none⟩)) := by
      rw [World.cell?_of_block (a := ⟨w1.heap.size, 0, none⟩) (hM2.kept w1.heap.size (by simp) (by have := hg.size; simp; omega))]
      exact box_new _ _ _
    refine (sync1_any hD2 he hcell).mono ?_
    rintro x w3 ⟨rfl, hD3, hM3⟩
    exact ⟨rfl, hD3, (hM0.trans (hM2.wider (fun i hi => .inl (by simp at hi; simp [foot, hi])) (fun i hi => .inl hi))).trans hM3⟩
  clear h hs hc hf he
  go_enter Tryz.func37, Tryz.ntmps37
  go_wp2_with (first | (go_at_call 65; refine F.out.mono ?_; rintro x w1 ⟨rfl, hg⟩) | (go_at_call 62; go_fit (OP.out _ hg _); rintro x w2 ⟨rfl, hE⟩))
  go_ret
  exact ⟨rfl, hE⟩
end
end Go.Proofs.YthihljjefncfoaaGreatDoor
