/-
  SEVERAL TEXTS IN ONE: DskCalls, DskNew, DskRead, DskRemove, MurSum, KeyCmp.
-/
import Derived.Test.YtglaocghcgcghaaGreatDoorDskOps
import Derived.Test.YtglaocghcgcghaaGreatDoorDskShelf
import Derived.Test.YtglaocghcgcghaaGreatDoorMany6
import Derived.Test.YtglaocghcgcghaaGreatDoorMany5
import Derived.Test.YtglaocghcgcghaaGreatDoorChecked
import Derived.Test.YtglaocghcgcghaaGreatDoorMany2
import Derived.Test.YtglaocghcgcghaaGreatDoorOwn
import Derived.WalkKit
import Derived.Laws.Cover1
import Derived.StillTailTactics
namespace Go.Proofs.YtglaocghcgcghaaGreatDoor
open Go.RowKit Go.Maps

/-- A box lies beside the disk. -/
theorem box_new (w : World) (v : Value) (t : TypeId) : (w.alloc (.cells #[v] t)).cell? ⟨w.heap.size, 0, none⟩ = some v := (Blk.new w [v] t).cell 0 rfl
theorem cell_up {w w' : World} {a : Addr} {v : Value} {r : Option Nat} (h : w.cell? a = some v) (hg : w.grownBy w' r) (hr : some a.block ≠ r) : w'.cell? a = some v := hg.cell h hr

/-! ### Sync -/
section
variable {w : World} {d bm : Nat} {S : St} (h : DiskAt w d bm S) (s : ByteArray) (hs : s.size ≤ maxLen)
include h hs
theorem sync_refused {c : Int} (hc : refuse S.on [s] = c) (hc0 : c ≠ 0) :
    Calls Tryz.prog 51 #[.pointer (some ⟨d, 0, none⟩), .string s] w fun x w' => x = .returned (.int .i64 c) ∧ w.grownBy w' none := by
  have F : Hid (Calls Tryz.prog 43 #[.pointer (some ⟨d, 0, none⟩), .string s] w fun x w' => x = .returned (.tuple #[.pointer none, .int .i64 c]) ∧ w.grownBy w' none) := find_refused h s hs hc hc0
  have hcb : (c == 0) = false := by rw [beq_eq_false_iff_ne]; exact hc0
  clear h hs hc
  go_enter Tryz.func51, Tryz.ntmps51
  go_wp2_with (go_at_call 43; refine F.out.mono ?_; rintro x w1 ⟨rfl, hg⟩)
  go_ret
  exact ⟨rfl, ⟨hg.os, hg.tape, hg.output, Nat.le_trans hg.size (by simp), fun k hk hn => (Below.heap_alloc _ _ _ (Nat.lt_of_lt_of_le hk hg.size)).trans (hg.block k hk hn)⟩⟩
theorem sync_none (hc : refuse S.on [s] = 0) (hf : find S.fs (nameOf s) = none) :
    Calls Tryz.prog 51 #[.pointer (some ⟨d, 0, none⟩), .string s] w fun x w' => x = .returned (.int .i64 4) ∧ w.grownBy w' none := by
  have F : Hid (Calls Tryz.prog 43 #[.pointer (some ⟨d, 0, none⟩), .string s] w fun x w' => x = .returned (.tuple #[.pointer none, .int .i64 4]) ∧ w.grownBy w' none) := find_none h s hs hc hf
  clear h hs hc hf
  go_enter Tryz.func51, Tryz.ntmps51
  go_wp2_with (go_at_call 43; refine F.out.mono ?_; rintro x w1 ⟨rfl, hg⟩)
  go_ret
  exact ⟨rfl, ⟨hg.os, hg.tape, hg.output, Nat.le_trans hg.size (by simp), fun k hk hn => (Below.heap_alloc _ _ _ (Nat.lt_of_lt_of_le hk hg.size)).trans (hg.block k hk hn)⟩⟩
theorem sync_ok (hc : refuse S.on [s] = 0) {e : Ent} (hf : find S.fs (nameOf s) = some e) (hl : S.left ≠ 1) (ho : S.ops ≤ 4611686018427387904) (hlm : S.left ≤ 9223372036854775807) :
    Calls Tryz.prog 51 #[.pointer (some ⟨d, 0, none⟩), .string s] w fun x w' => x = .returned (.int .i64 0) ∧ DiskAt w' d bm { S with ops := S.ops + 1, left := S.left - 1, fs := swap S.fs e (endE e e.bs.length) } ∧ Moved w w' (foot d bm S.fs) (foot d bm (swap S.fs e (endE e e.bs.length))) := by
  have F : Hid (Calls Tryz.prog 43 #[.pointer (some ⟨d, 0, none⟩), .string s] w fun x w' => x = .returned (.tuple #[.pointer (some ⟨e.b, 0, none⟩), .int .i64 0]) ∧ w.grownBy w' none) := find_ok h s hs hc hf
  have he := (find_some hf).1
  have hmf : ∀ (fn : Fn) (first cap : Array Value) (w : World), (Instr.makeFunc fn first cap).run Tryz.prog w = .ok (.func fn first cap) w := fun _ _ _ _ => rfl
  have OP : Hid (∀ w1, w.grownBy w1 none → ∀ v, Calls Tryz.prog 62 #[.pointer (some ⟨d, 0, none⟩), .func (.func 80) #[] #[.pointer (some ⟨w1.heap.size, 0, none⟩)], v] (w1.alloc (.cells #[.pointer (some ⟨e.b, 0, none⟩)] 76)) fun x w2 => x = .returned (.int .i64 0) ∧ DiskAt w2 d bm { S with ops := S.ops + 1, left := S.left - 1, fs := swap S.fs e (endE e e.bs.length) } ∧ Moved w w2 (foot d bm S.fs) (foot d bm (swap S.fs e (endE e e.bs.length)))) := by
    intro w1 hg v
    have hD : DiskAt (w1.alloc (.cells #[.pointer (some ⟨e.b, 0, none⟩)] 76)) d bm S := (h.carry (w' := w1) fun i hi => hg.block i (h.lt i hi) (by simp)).alloc _
    have hM0 : Moved w (w1.alloc (.cells #[.pointer (some ⟨e.b, 0, none⟩)] 76)) (foot d bm S.fs) (foot d bm S.fs) := (Moved.none_of hg _).trans (Moved.alloc _ _)
    have hdl := h.head.lt
    refine operateSync hD hl ho hlm w1.heap.size v _ fun w2 hD2 hM2 => ?_
    have hcell : w2.cell? ⟨w1.heap.size, 0, none⟩ = some (.pointer (some ⟨e.b, 0, none⟩)) := by
      rw [World.cell?_of_block (a := ⟨w1.heap.size, 0, none⟩) (hM2.kept w1.heap.size (by simp) (by have := hg.size; simp; omega))]
      exact box_new _ _ _
    refine (sync1_any hD2 he hcell).mono ?_
    rintro x w3 ⟨rfl, hD3, hM3⟩
    exact ⟨rfl, hD3, (hM0.trans (hM2.wider (fun i hi => .inl (by simp at hi; simp [foot, hi])) (fun i hi => .inl hi))).trans hM3⟩
  clear h hs hc hf he
  go_enter Tryz.func51, Tryz.ntmps51
  go_wp2_with (first | (go_at_call 43; refine F.out.mono ?_; rintro x w1 ⟨rfl, hg⟩) | (go_at_call 62; go_fit (OP.out _ hg _); rintro x w2 ⟨rfl, hE⟩))
  go_ret
  exact ⟨rfl, hE⟩
end
end Go.Proofs.YtglaocghcgcghaaGreatDoor
namespace Go.Proofs.YtglaocghcgcghaaGreatDoor
open Go.RowKit Go.Maps

def newS (room : Nat) : St := ⟨[], room, true, 0, 0, 0, 0⟩
set_option maxRecDepth 100000 in
theorem new_ok (room : Nat) (hr : room ≤ 1073741824) (w : World) :
    Calls Tryz.prog 6 #[.int .i64 (room : Int)] w fun x w' => ∃ d bm, x = .returned (.pointer (some ⟨d, 0, none⟩)) ∧ DiskAt w' d bm (newS room) ∧ w.grownBy w' none ∧ w.heap.size ≤ d ∧ w.heap.size ≤ bm := by
  have hmm := @run_makeMap Tryz.prog
  have hri : (room : Int) ≤ 1073741824 := by omega
  go_enter Tryz.func6, Tryz.ntmps6
  go_wp2
  go_ret
  refine ⟨w.heap.size + 1, w.heap.size, by simp, ⟨?_, ?_, by simp [newS], ?_⟩, ?_, by omega, Nat.le_refl _⟩
  · have := Blk.new (w.alloc (.map #[] 0)) (headOf w.heap.size (newS room)) 61
    rw [World.size_alloc] at this
    exact this
  · exact map_carry (World.ownsMap_made w _ _ _) (Below.heap_alloc _ _ _ (by simp))
  · simp [foot, feet, newS]
  · exact ⟨rfl, rfl, rfl, by simp; omega, fun k hk _ => (Below.heap_alloc _ _ _ (by simp; omega)).trans (Below.heap_alloc _ _ _ hk)⟩

/-- Behind the boxes of a call: the disk is as it was, the boxes hold the disk and the name. -/
structure Boxed2 (w : World) (d bm : Nat) (S : St) (s : ByteArray) (w1 : World) : Prop where
  disk : DiskAt w1 d bm S
  moved : Moved w w1 (foot d bm S.fs) (foot d bm S.fs)
  k1 : w1.cell? ⟨w.heap.size, 0, none⟩ = some (.pointer (some ⟨d, 0, none⟩))
  k2 : w1.cell? ⟨w.heap.size + 1, 0, none⟩ = some (.string s)
  size : w.heap.size + 2 ≤ w1.heap.size
theorem Boxed2.start {w : World} {d bm : Nat} {S : St} (h : DiskAt w d bm S) (s : ByteArray) : Boxed2 w d bm S s ((w.alloc (.cells #[.pointer (some ⟨d, 0, none⟩)] 29)).alloc (.cells #[.string s] 9)) := by
  refine ⟨(h.alloc _).alloc _, (Moved.alloc _ _).trans (Moved.alloc _ _), ((Blk.new w [.pointer (some ⟨d, 0, none⟩)] 29).alloc _).cell 0 rfl, ?_, by simp⟩
  have := box_new (w.alloc (.cells #[.pointer (some ⟨d, 0, none⟩)] 29)) (.string s) 9
  rwa [World.size_alloc] at this
theorem Boxed2.grown {w : World} {d bm : Nat} {S : St} {s : ByteArray} {w1 w2 : World} (h : Boxed2 w d bm S s w1) (hg : w1.grownBy w2 none) : Boxed2 w d bm S s w2 :=
  ⟨h.disk.carry fun i hi => hg.block i (h.disk.lt i hi) (by simp), h.moved.trans (Moved.none_of hg _), hg.cell h.k1 (by simp), hg.cell h.k2 (by simp), Nat.le_trans h.size hg.size⟩
theorem Boxed2.drewN {w : World} {d bm : Nat} {S : St} {s : ByteArray} {w1 : World} (h : Boxed2 w d bm S s w1) (k : Nat) : Boxed2 w d bm S s (w1.drewN k) := ⟨h.disk.drewN k, h.moved.drewN k, h.k1, h.k2, h.size⟩
theorem refused_boxed {w : World} {d bm : Nat} {S : St} (h : DiskAt w d bm S) (s : ByteArray) (hs : s.size ≤ maxLen) :
    Calls Tryz.prog 24 #[.pointer (some ⟨d, 0, none⟩), .slice (some ⟨w.heap.size + 2, 0, none⟩) 1 1] (((w.alloc (.cells #[.pointer (some ⟨d, 0, none⟩)] 29)).alloc (.cells #[.string s] 9)).alloc (.cells #[.string s] 9)) fun x w1 => x = .returned (.int .i64 (refuse S.on [s])) ∧ Boxed2 w d bm S s w1 := by
  have hB := Boxed2.start h s
  have R := refused_one hB.disk s hs
  have hsz : ((w.alloc (.cells #[.pointer (some ⟨d, 0, none⟩)] 29)).alloc (.cells #[.string s] 9)).heap.size = w.heap.size + 2 := by simp
  rw [hsz] at R
  refine R.mono ?_
  rintro x w1 ⟨rfl, rfl⟩
  exact ⟨rfl, hB.grown (World.grownBy_alloc _ _ _)⟩
theorem Boxed2.len {w : World} {d bm : Nat} {S : St} {s : ByteArray} {w1 : World} (h : Boxed2 w d bm S s w1) (ty : TypeId) : (Builtin.len_ #[59] ty #[.map (some bm)]).run Tryz.prog w1 = .ok (.int .i64 (S.fs.length : Int)) w1 := by
  have := h.disk.map.len Tryz.underlying59 ty
  rwa [datum_size] at this

section
variable {w : World} {d bm : Nat} {S : St} (h : DiskAt w d bm S) (s : ByteArray) (hs : s.size ≤ maxLen)
include h hs
theorem create_operate (hl : S.left ≠ 1) (ho : S.ops ≤ 4611686018427387904) (hlm : S.left ≤ 9223372036854775807) (hn : S.fs.length < maxLen) {w1 : World} (hB : Boxed2 w d bm S s w1) (v : Value) :
    Calls Tryz.prog 62 #[.pointer (some ⟨d, 0, none⟩), .func (.func 89) #[] #[.pointer (some ⟨w.heap.size, 0, none⟩), .pointer (some ⟨w.heap.size + 1, 0, none⟩)], v] w1 fun x w' => x = .returned (.int .i64 0) ∧ ∃ b, DiskAt w' d bm { S with ops := S.ops + 1, left := S.left - 1, fs := putE S.fs (newE (nameOf s) b) } ∧ Moved w w' (foot d bm S.fs) (foot d bm (putE S.fs (newE (nameOf s) b))) := by
  have hdl := h.head.lt
  refine operateCreate hB.disk hl ho hlm w.heap.size (w.heap.size + 1) v _ fun w2 hD2 hM2 => ?_
  have hk : ∀ i, i < w1.heap.size → i ≠ d → w2.heap[i]? = w1.heap[i]? := fun i hi hne => hM2.kept i hi (by simpa using hne)
  have hz := hB.size
  have e1 : w2.cell? ⟨w.heap.size, 0, none⟩ = some (.pointer (some ⟨d, 0, none⟩)) := (World.cell?_of_block (a := ⟨w.heap.size, 0, none⟩) (hk w.heap.size (by omega) (by omega))).trans hB.k1
  have e2 : w2.cell? ⟨w.heap.size + 1, 0, none⟩ = some (.string s) := (World.cell?_of_block (a := ⟨w.heap.size + 1, 0, none⟩) (hk (w.heap.size + 1) (by omega) (by omega))).trans hB.k2
  refine (create1_any hD2 e1 e2 hs hn).mono ?_
  rintro x w3 ⟨rfl, b, hD3, hM3⟩
  exact ⟨rfl, b, hD3, (hB.moved.trans (hM2.wider (fun i hi => .inl (by simp at hi; simp [foot, hi])) (fun i hi => .inl hi))).trans hM3⟩
set_option maxRecDepth 100000 in
set_option maxHeartbeats 1000000 in
theorem create_new (hc : refuse S.on [s] = 0) (hf : find S.fs (nameOf s) = none) (hlen : S.fs.length < 48) (hu : sumUsed S.fs < S.room) (hr : S.room ≤ 1073741824) (hl : S.left ≠ 1) (ho : S.ops ≤ 4611686018427387904) (hlm : S.left ≤ 9223372036854775807) :
    Calls Tryz.prog 60 #[.pointer (some ⟨d, 0, none⟩), .string s] w fun x w' => x = .returned (.int .i64 0) ∧ ∃ b, DiskAt w' d bm { S with ops := S.ops + 1, left := S.left - 1, fs := putE S.fs (newE (nameOf s) b) } ∧ Moved w w' (foot d bm S.fs) (foot d bm (putE S.fs (newE (nameOf s) b))) := by
  have hmf : ∀ (fn : Fn) (first cap : Array Value) (w : World), (Instr.makeFunc fn first cap).run Tryz.prog w = .ok (.func fn first cap) w := fun _ _ _ _ => rfl
  have R := refused_boxed h s hs
  rw [hc] at R
  have R : Hid (Calls Tryz.prog 24 #[.pointer (some ⟨d, 0, none⟩), .slice (some ⟨w.heap.size + 2, 0, none⟩) 1 1] (((w.alloc (.cells #[.pointer (some ⟨d, 0, none⟩)] 29)).alloc (.cells #[.string s] 9)).alloc (.cells #[.string s] 9)) fun x w1 => x = .returned (.int .i64 0) ∧ Boxed2 w d bm S s w1) := R
  have F : Hid (∀ w1, Boxed2 w d bm S s w1 → Calls Tryz.prog 77 #[.pointer (some ⟨d, 0, none⟩)] w1 fun x w2 => x = .returned (.int .i64 ((S.room : Int) - (sumUsed S.fs : Int))) ∧ Boxed2 w d bm S s w2) := fun w1 hB => (free_any hB.disk (refuse_on hc) (by omega) hr).mono fun x w2 hh => ⟨hh.1, hB.grown hh.2⟩
  have LK : Hid (∀ w1, Boxed2 w d bm S s w1 → ∀ k, (Instr.lookup 59 (.map (some bm)) (.string s) false).run Tryz.prog (w1.drewN k) = .ok (.pointer none) (w1.drewN k)) := fun w1 hB k => look_none (hB.drewN k).disk.map hs hf
  have O : Hid (∀ w1, Boxed2 w d bm S s w1 → ∀ v k, Calls Tryz.prog 62 #[.pointer (some ⟨d, 0, none⟩), .func (.func 89) #[] #[.pointer (some ⟨w.heap.size, 0, none⟩), .pointer (some ⟨w.heap.size + 1, 0, none⟩)], v] (w1.drewN k) fun x w' => x = .returned (.int .i64 0) ∧ ∃ b, DiskAt w' d bm { S with ops := S.ops + 1, left := S.left - 1, fs := putE S.fs (newE (nameOf s) b) } ∧ Moved w w' (foot d bm S.fs) (foot d bm (putE S.fs (newE (nameOf s) b)))) := fun w1 hB v k => create_operate h s hs hl ho hlm (by unfold maxLen; omega) (hB.drewN k) v
  have hg1 : decide (48 ≤ (S.fs.length : Int)) = false := decide_eq_false (by omega)
  have hg2 : decide ((S.room : Int) - (sumUsed S.fs : Int) < 1) = false := decide_eq_false (by omega)
  have hlb : (S.fs.length : Int) < 48 := by omega
  clear h hs hc hf ho hlm hl hr hu hlen
  generalize (S.room : Int) - (sumUsed S.fs : Int) = fr at *
  go_enter Tryz.func60, Tryz.ntmps60
  go_wp2_with (first | (go_at_call 24; go_fit R.out; rintro x w1 ⟨rfl, hB⟩; have c0 := hB.disk.c0; have k1 := hB.k1; have k2 := hB.k2; have hln := hB.len) | (go_at_call 77; go_fit (F.out _ hB); rintro x w2 ⟨rfl, hB2⟩; have d0 := hB2.disk.c0; have e1 := hB2.k1; have e2 := hB2.k2; have lk := LK.out _ hB2))
  go_quiet (fail)
  go_wp2_with (go_at_call 62; go_fit (O.out _ hB2 _ _); rintro x w3 ⟨rfl, hE⟩)
  go_ret
  exact ⟨rfl, hE⟩
end
end Go.Proofs.YtglaocghcgcghaaGreatDoor
namespace Go.Proofs.YtglaocghcgcghaaGreatDoor
open Go.RowKit Go.Maps

theorem owns_base {w : World} {base base' e n : Nat} {v : Value} {xs : List Value} (h : w.ownsRow base e 1 v n xs) (hb : base' ≤ base) : w.ownsRow base' e 1 v n xs := by
  refine ⟨h.1, ?_⟩
  rcases h.2 with hn | ⟨g, cap, cur, rfl, h1, rest⟩
  · exact .inl hn
  · exact .inr ⟨g, cap, cur, rfl, Nat.le_trans hb h1, rest⟩
theorem B8_ints (l : List UInt8) : (l.map fun b => (b.toNat : Int)).map (Value.int .u8) = B8 l := by simp [B8, List.map_map]
/-- A copy of a file's bytes. -/
theorem clone_any {w : World} {e : Ent} (h : EntAt w e) (hl : e.bs.length ≤ 1099511627776) :
    Calls Tryz.prog 44 #[e.v1] w fun x w' => ∃ v, x = .returned v ∧ w'.ownsRow w.heap.size 5 1 v e.bs.length (B8 e.bs) ∧ w.grownBy w' none := by
  rcases h.row1.2 with ⟨hv, h0⟩ | ⟨g, cap, cur, hv, _⟩
  · rw [hv]
    refine (Tryz.bytes_Clone_nil 0 0 w).mono ?_
    rintro x w' ⟨rfl, rfl⟩
    have hz : e.bs = [] := List.eq_nil_of_length_eq_zero h0
    exact ⟨_, rfl, by rw [hz]; exact World.ownsRow_nil _ _ _ _, World.grownBy.refl _ _⟩
  · rw [hv]
    refine (Tryz.bytes_Clone_at ⟨g, 0, none⟩ e.bs.length cap (e.bs.map fun b => (b.toNat : Int)) w (List.length_map _) (by omega) ?_).mono ?_
    · intro i hi
      have := h.row1.cells (g := g) (by rw [hv]; rfl) i _ (B8_at e.bs i hi)
      rw [this]
      simp [List.getD, hi]
    · rintro x w' ⟨v', rfl, ho, _, hb⟩
      rw [B8_ints] at ho
      exact ⟨v', rfl, ho, ⟨hb.os, hb.tape, hb.output, hb.size, fun k hk _ => hb.block k hk⟩⟩
section
variable {w : World} {d bm : Nat} {S : St} (h : DiskAt w d bm S) (s : ByteArray) (hs : s.size ≤ maxLen)
include h hs
theorem read_ok (hc : refuse S.on [s] = 0) {e : Ent} (hf : find S.fs (nameOf s) = some e) (hl : e.bs.length ≤ 1099511627776) :
    Calls Tryz.prog 21 #[.pointer (some ⟨d, 0, none⟩), .string s] w fun x w' => ∃ v, x = .returned (.tuple #[v, .int .i64 0]) ∧ w'.ownsRow w.heap.size 5 1 v e.bs.length (B8 e.bs) ∧ w.grownBy w' none := by
  have F : Hid (Calls Tryz.prog 43 #[.pointer (some ⟨d, 0, none⟩), .string s] w fun x w' => x = .returned (.tuple #[.pointer (some ⟨e.b, 0, none⟩), .int .i64 0]) ∧ w.grownBy w' none) := find_ok h s hs hc hf
  have he := (find_some hf).1
  have C : Hid (∀ w1, w.grownBy w1 none → EntAt w1 e ∧ Calls Tryz.prog 44 #[e.v1] w1 fun x w' => ∃ v, x = .returned v ∧ w'.ownsRow w.heap.size 5 1 v e.bs.length (B8 e.bs) ∧ w.grownBy w' none) := by
    intro w1 hg
    have hE : EntAt w1 e := (h.ents e he).carry fun i hi => hg.block i ((h.ents e he).lt i hi) (by simp)
    refine ⟨hE, (clone_any hE hl).mono ?_⟩
    rintro x w' ⟨v, rfl, ho, hg2⟩
    exact ⟨v, rfl, owns_base ho hg.size, hg.andThen hg2 (fun j hj => by cases hj)⟩
  clear h hs hc hf he hl
  go_enter Tryz.func21, Tryz.ntmps21
  go_wp2_with (first | (go_at_call 43; refine F.out.mono ?_; rintro x w1 ⟨rfl, hg⟩; obtain ⟨hE, hC⟩ := C.out w1 hg; have c0 := hE.c0; have HC : Hid (Calls Tryz.prog 44 #[e.v1] w1 fun x w' => ∃ v, x = .returned v ∧ w'.ownsRow w.heap.size 5 1 v e.bs.length (B8 e.bs) ∧ w.grownBy w' none) := hC; clear hC hE) | (go_at_call 44; go_fit HC.out; rintro x w2 ⟨v, rfl, hv⟩))
  go_ret2
  exact ⟨v, rfl, hv⟩
end
end Go.Proofs.YtglaocghcgcghaaGreatDoor
namespace Go.Proofs.YtglaocghcgcghaaGreatDoor
open Go.RowKit Go.Maps

theorem remove_refused {w : World} {d bm : Nat} {S : St} (h : DiskAt w d bm S) (s : ByteArray) (hs : s.size ≤ maxLen) {c : Int} (hc : refuse S.on [s] = c) (hc0 : c ≠ 0) :
    Calls Tryz.prog 37 #[.pointer (some ⟨d, 0, none⟩), .string s] w fun x w' => x = .returned (.int .i64 c) ∧ w.grownBy w' none := by
  have F : Hid (Calls Tryz.prog 43 #[.pointer (some ⟨d, 0, none⟩), .string s] ((w.alloc (.cells #[.pointer (some ⟨d, 0, none⟩)] 29)).alloc (.cells #[.string s] 9)) fun x w' => x = .returned (.tuple #[.pointer none, .int .i64 c]) ∧ ((w.alloc (.cells #[.pointer (some ⟨d, 0, none⟩)] 29)).alloc (.cells #[.string s] 9)).grownBy w' none) := find_refused ((h.alloc _).alloc _) s hs hc hc0
  have hcb : (c == 0) = false := by rw [beq_eq_false_iff_ne]; exact hc0
  clear h hs hc
  go_enter Tryz.func37, Tryz.ntmps37
  go_wp2_with (go_at_call 43; go_fit F.out; rintro x w1 ⟨rfl, hg⟩)
  go_ret
  exact ⟨rfl, ((World.grownBy_alloc _ _ none).andThen (World.grownBy_alloc _ _ none) (fun j hj => by cases hj)).andThen hg (fun j hj => by cases hj)⟩
theorem remove_none {w : World} {d bm : Nat} {S : St} (h : DiskAt w d bm S) (s : ByteArray) (hs : s.size ≤ maxLen) (hc : refuse S.on [s] = 0) (hf : find S.fs (nameOf s) = none) :
    Calls Tryz.prog 37 #[.pointer (some ⟨d, 0, none⟩), .string s] w fun x w' => x = .returned (.int .i64 4) ∧ w.grownBy w' none := by
  have F : Hid (Calls Tryz.prog 43 #[.pointer (some ⟨d, 0, none⟩), .string s] ((w.alloc (.cells #[.pointer (some ⟨d, 0, none⟩)] 29)).alloc (.cells #[.string s] 9)) fun x w' => x = .returned (.tuple #[.pointer none, .int .i64 4]) ∧ ((w.alloc (.cells #[.pointer (some ⟨d, 0, none⟩)] 29)).alloc (.cells #[.string s] 9)).grownBy w' none) := find_none ((h.alloc _).alloc _) s hs hc hf
  clear h hs hc hf
  go_enter Tryz.func37, Tryz.ntmps37
  go_wp2_with (go_at_call 43; go_fit F.out; rintro x w1 ⟨rfl, hg⟩)
  go_ret
  exact ⟨rfl, ((World.grownBy_alloc _ _ none).andThen (World.grownBy_alloc _ _ none) (fun j hj => by cases hj)).andThen hg (fun j hj => by cases hj)⟩
theorem remove_ok {w : World} {d bm : Nat} {S : St} (h : DiskAt w d bm S) (s : ByteArray) (hs : s.size ≤ maxLen) (hc : refuse S.on [s] = 0) {e : Ent} (hf : find S.fs (nameOf s) = some e) (hl : S.left ≠ 1) (ho : S.ops ≤ 4611686018427387904) (hlm : S.left ≤ 9223372036854775807) :
    Calls Tryz.prog 37 #[.pointer (some ⟨d, 0, none⟩), .string s] w fun x w' => x = .returned (.int .i64 0) ∧ DiskAt w' d bm { S with ops := S.ops + 1, left := S.left - 1, fs := dropE S.fs (nameOf s) } ∧ Moved w w' (foot d bm S.fs) (foot d bm (dropE S.fs (nameOf s))) := by
  have hmf : ∀ (fn : Fn) (first cap : Array Value) (w : World), (Instr.makeFunc fn first cap).run Tryz.prog w = .ok (.func fn first cap) w := fun _ _ _ _ => rfl
  have hB := Boxed2.start h s
  have F : Hid (Calls Tryz.prog 43 #[.pointer (some ⟨d, 0, none⟩), .string s] ((w.alloc (.cells #[.pointer (some ⟨d, 0, none⟩)] 29)).alloc (.cells #[.string s] 9)) fun x w' => x = .returned (.tuple #[.pointer (some ⟨e.b, 0, none⟩), .int .i64 0]) ∧ Boxed2 w d bm S s w') := (find_ok hB.disk s hs hc hf).mono fun x w' hh => ⟨hh.1, hB.grown hh.2⟩
  have hdl := h.head.lt
  have O : Hid (∀ w1, Boxed2 w d bm S s w1 → ∀ v, Calls Tryz.prog 62 #[.pointer (some ⟨d, 0, none⟩), .func (.func 63) #[] #[.pointer (some ⟨w.heap.size, 0, none⟩), .pointer (some ⟨w.heap.size + 1, 0, none⟩)], v] w1 fun x w' => x = .returned (.int .i64 0) ∧ DiskAt w' d bm { S with ops := S.ops + 1, left := S.left - 1, fs := dropE S.fs (nameOf s) } ∧ Moved w w' (foot d bm S.fs) (foot d bm (dropE S.fs (nameOf s)))) := by
    intro w1 hB1 v
    refine operateRemove hB1.disk hl ho hlm w.heap.size (w.heap.size + 1) v _ fun w2 hD2 hM2 => ?_
    have hk : ∀ i, i < w1.heap.size → i ≠ d → w2.heap[i]? = w1.heap[i]? := fun i hi hne => hM2.kept i hi (by simpa using hne)
    have hz := hB1.size
    have e1 : w2.cell? ⟨w.heap.size, 0, none⟩ = some (.pointer (some ⟨d, 0, none⟩)) := (World.cell?_of_block (a := ⟨w.heap.size, 0, none⟩) (hk w.heap.size (by omega) (by omega))).trans hB1.k1
    have e2 : w2.cell? ⟨w.heap.size + 1, 0, none⟩ = some (.string s) := (World.cell?_of_block (a := ⟨w.heap.size + 1, 0, none⟩) (hk (w.heap.size + 1) (by omega) (by omega))).trans hB1.k2
    refine (remove1_any hD2 e1 e2 hs).mono ?_
    rintro x w3 ⟨rfl, hD3, hM3⟩
    exact ⟨rfl, hD3, (hB1.moved.trans (hM2.wider (fun i hi => .inl (by simp at hi; simp [foot, hi])) (fun i hi => .inl hi))).trans hM3⟩
  clear h hs hc hf hB
  go_enter Tryz.func37, Tryz.ntmps37
  go_wp2_with (first | (go_at_call 43; go_fit F.out; rintro x w1 ⟨rfl, hB1⟩; have k1 := hB1.k1) | (go_at_call 62; go_fit (O.out _ hB1 _); rintro x w2 ⟨rfl, hE⟩))
  go_ret
  exact ⟨rfl, hE⟩
end Go.Proofs.YtglaocghcgcghaaGreatDoor
namespace Go.Proofs.YtglaocghcgcghaaGreatDoor
open Go.RowKit

theorem sees_drop {w : World} {b off : Nat} {l : List UInt8} (h : Sees w (some ⟨b, off, none⟩) l) (k : Nat) : Sees w (some ⟨b, off + k, none⟩) (l.drop k) := by
  intro i hi
  rw [List.length_drop] at hi
  obtain ⟨a, e, hc⟩ := h (k + i) (by omega)
  obtain rfl := Option.some.inj e
  refine ⟨_, rfl, ?_⟩
  rw [Addr.add_lit] at hc ⊢
  rw [show off + k + i = off + (k + i) by omega, hc]
  simp [List.getD, List.getElem?_drop]

theorem slice_next (av : Option Addr) (n c k len cap : Nat) (h1 : n + 16 * k = len) (h2 : c + 16 * k = cap) :
    Value.slice av (n - 16) (c - 16) = .slice av (len - 16 * (k + 1)) (cap - 16 * (k + 1)) := by
  rw [show n - 16 = len - 16 * (k + 1) by omega, show c - 16 = cap - 16 * (k + 1) by omega]
theorem av_next (b off k n c len : Nat) (hnc : n ≤ c) (h1 : n + 16 * k = len) :
    16 * (k + 1) < len → ∀ b' off', (some ⟨b, off, none⟩ : Option Addr) = some ⟨b', off', none⟩ → (if c = 16 then some ⟨b, off + 16 * k, none⟩ else some ⟨b, off + 16 * k + 16, none⟩ : Option Addr) = some ⟨b', off' + 16 * (k + 1), none⟩ := by
  intro h b' off' e
  cases e
  rw [if_neg (by omega), show off + 16 * k + 16 = off + 16 * (k + 1) by omega]
def sliceLen : Value → Nat
  | .slice _ n _ => n
  | _ => 0
theorem sum_end (l : List UInt8) (seed : BitVec 64) (k : Nat) (h1 : 16 * k ≤ l.length) (h2 : l.length - 16 * k < 16) :
    sumB l seed = finishB (restB (l.drop (16 * k)) (blocksB l seed k)) (BitVec.ofNat 64 l.length) := by
  have e : l.length / 16 = k := by omega
  unfold sumB
  rw [e]
theorem grownBy_sees {w w' : World} {g b off : Nat} {l : List UInt8} (h : Sees w (some ⟨b, off, none⟩) l) (hg : w.grownBy w' (some g)) (hb : b < g) : Sees w' (some ⟨b, off, none⟩) l := by
  intro i hi
  obtain ⟨a, e, hc⟩ := h i hi
  obtain rfl := Option.some.inj e
  refine ⟨_, rfl, ?_⟩
  have hlt : b < w.heap.size := by
    have := World.block_lt_of_cell? _ _ hc
    rwa [Addr.add_block] at this
  have hbl : (Addr.add ⟨b, off, none⟩ i).block = b := Addr.add_block _ _
  have hblk : w'.heap[(Addr.add ⟨b, off, none⟩ i).block]? = w.heap[(Addr.add ⟨b, off, none⟩ i).block]? := by
    rw [hbl]
    exact hg.block b hlt (fun e => by have := Option.some.inj e; omega)
  rw [World.cell?_of_block hblk, hc]

end Go.Proofs.YtglaocghcgcghaaGreatDoor
namespace Go.Proofs.YtglaocghcgcghaaGreatDoor
open Go.RowKit

/-- A text's bytes. -/
def nb (s : ByteArray) : List UInt8 := s.data.toList
def strB (l : List UInt8) : ByteArray := ⟨l.toArray⟩
theorem strB_nb (s : ByteArray) : strB (nb s) = s := by obtain ⟨a⟩ := s; simp [strB, nb]
theorem nb_strB (l : List UInt8) : nb (strB l) = l := by simp [strB, nb]
theorem nb_size (s : ByteArray) : (nb s).length = s.size := by show s.data.toList.length = s.data.size; exact Array.length_toList
theorem nb_inj {a b : ByteArray} : nb a = nb b ↔ a = b := ⟨fun h => by rw [← strB_nb a, h, strB_nb], fun h => by rw [h]⟩
theorem ba_list (s : ByteArray) : s.toList = nb s := Go.ByteArray.toList_eq s
theorem ba_same (a b : ByteArray) : (a.toList == b.toList) = decide (a = b) := by
  rw [ba_list, ba_list]
  by_cases h : a = b
  · simp [h]
  · simp only [h, decide_false, beq_eq_false_iff_ne]; exact fun e => h (nb_inj.1 e)
theorem ba_less (a b : ByteArray) : Op.bytesLess a.toList b.toList = decide (cb (nb a) (nb b) = -1) := by
  rw [ba_list, ba_list]; exact less_cb _ _


/-! ### Of numbers, the first that is not 0 -/
def fu : List Int → Int
  | [] => 0
  | x :: l => th x (fu l)
theorem fu_skip : ∀ (k : Nat) (l : List Int), (∀ j, j < k → l.getD j 0 = 0) → fu l = fu (l.drop k)
  | 0, _, _ => rfl
  | k + 1, [], _ => rfl
  | k + 1, x :: l, h => by
    have h0 : x = 0 := by have := h 0 (by omega); simpa using this
    subst h0
    rw [fu, th_zero, List.drop_succ_cons]
    exact fu_skip k l fun j hj => by have := h (j + 1) (by omega); simpa using this
theorem fu_at (k : Nat) (l : List Int) (h : ∀ j, j < k → l.getD j 0 = 0) (hk : k < l.length) (hn : l.getD k 0 ≠ 0) : fu l = l.getD k 0 := by
  rw [fu_skip k l h, List.drop_eq_getElem_cons hk, fu]
  have : l.getD k 0 = l[k] := by simp [List.getD, hk]
  rw [this] at hn ⊢
  exact th_of hn _
theorem zero_snoc {l : List Int} {k : Nat} (h : ∀ j, j < k → l.getD j 0 = 0) (h0 : l.getD k 0 = 0) : ∀ j, j < k + 1 → l.getD j 0 = 0 := by
  intro j hj
  rcases Nat.lt_or_ge j k with g | g
  · exact h j g
  · have : j = k := by omega
    rw [this]; exact h0
/-! ### Keys in memory -/
structure Kb where
  t : ByteArray
  p : ByteArray
  r : Int
  c : ByteArray
def Kb.ky (k : Kb) : Ky := ⟨nb k.t, nb k.p, k.r, nb k.c⟩
def Kb.v (k : Kb) : Value := .agg #[.string k.t, .string k.p, .int .i64 k.r, .string k.c]
theorem Kb.ky_inj {a b : Kb} : a.ky = b.ky ↔ a = b := by
  constructor
  · intro h
    cases a; cases b
    simp only [Kb.ky, Ky.mk.injEq, nb_inj] at h
    obtain ⟨rfl, rfl, rfl, rfl⟩ := h; rfl
  · rintro rfl; rfl

theorem box_cells (w : World) (o : Obj) (t : TypeId) (cs : Array Value) (i : Nat) (v : Value) (h : cs[i]? = some v) : ((w.alloc (.cells cs t)).alloc o).cell? ⟨w.heap.size, i, none⟩ = some v ∧ (o = .cells cs t → ((w.alloc o).alloc (.cells cs t)).cell? ⟨w.heap.size + 1, i, none⟩ = some v) := by
  have h1 : ((w.alloc (.cells cs t)).alloc o).heap[w.heap.size]? = some (.cells cs t) := by
    rw [Below.heap_alloc _ _ _ (by rw [World.size_alloc]; omega)]; exact heap_alloc_new w _
  have h2 : ((w.alloc o).alloc (.cells cs t)).heap[w.heap.size + 1]? = some (.cells cs t) := by
    have := heap_alloc_new (w.alloc o) (.cells cs t); rwa [World.size_alloc] at this
  refine ⟨?_, fun _ => ?_⟩
  · simp only [World.cell?, h1]; simpa using h
  · simp only [World.cell?, h2]; simpa using h
theorem box_cells2 (w : World) (o : Obj) (t : TypeId) (cs : Array Value) (i : Nat) (v : Value) (h : cs[i]? = some v) : ((w.alloc o).alloc (.cells cs t)).cell? ⟨w.heap.size + 1, i, none⟩ = some v := by
  have h2 : ((w.alloc o).alloc (.cells cs t)).heap[w.heap.size + 1]? = some (.cells cs t) := by
    have := heap_alloc_new (w.alloc o) (.cells cs t); rwa [World.size_alloc] at this
  simp only [World.cell?, h2]; simpa using h
theorem kc_fu (t1 t2 p1 p2 c1 c2 : ByteArray) (r1 r2 : Int) : kc (Kb.ky ⟨t1, p1, r1, c1⟩) (Kb.ky ⟨t2, p2, r2, c2⟩) = fu [cb (nb t1) (nb t2), cb (nb p1) (nb p2), ci r1 r2, cb (nb c1) (nb c2)] := by
  show th _ (th _ (th _ _)) = th _ (th _ (th _ (th _ 0)))
  have : ∀ x, th x 0 = x := fun x => by unfold th; split <;> omega
  rw [this]; rfl

structure Kb.Ok (k : Kb) : Prop where
  t : k.t.size ≤ 5000
  p : k.p.size ≤ 5000
  c : k.c.size ≤ 5000
  r : InI k.r
structure Kb.Big (k : Kb) : Prop where
  t : k.t.size ≤ 2000000
  p : k.p.size ≤ 2000000
  c : k.c.size ≤ 2000000
  r : InI k.r
theorem Kb.Ok.big {k : Kb} (h : k.Ok) : k.Big := ⟨Nat.le_trans h.t (by decide), Nat.le_trans h.p (by decide), Nat.le_trans h.c (by decide), h.r⟩
end Go.Proofs.YtglaocghcgcghaaGreatDoor
