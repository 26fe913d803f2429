/-
  CONTRACTS: a new disk, a new file, for every disk in memory.
-/
import Derived.Test.YthihljjefncfoaaGreatDoorDskCalls
namespace Go.Proofs.YthihljjefncfoaaGreatDoor
open Go.RowKit Go.Maps

def newS (room : Nat) : St := ⟨[], room, true, 0, 0, 0, 0⟩
set_option maxRecDepth 100000 in
theorem new_ok (room : Nat) (hr : room ≤ 1073741824) (w : World) :
    Calls Tryz.prog 5 #[.int .i64 (room : Int)] w fun x w' => ∃ d bm, x = .returned (.pointer (some ⟨d, 0, none⟩)) ∧ DiskAt w' d bm (newS room) ∧ w.grownBy w' none ∧ w.heap.size ≤ d ∧ w.heap.size ≤ bm := by
  have hmm := @run_makeMap Tryz.prog
  have hri : (room : Int) ≤ 1073741824 := by omega
  go_enter Tryz.func5, Tryz.ntmps5
  go_wp2
  go_ret
  refine ⟨w.heap.size + 1, w.heap.size, by simp, ⟨?_, ?_, by simp [newS], ?_⟩, ?_, by omega, Nat.le_refl _⟩
  · have := Blk.new (w.alloc (.map #[] 0)) (headOf w.heap.size (newS room)) 61
    rw [World.size_alloc] at this
    exact this
  · exact map_carry (World.ownsMap_made w _ _ _) (Below.heap_alloc _ _ _ (by simp))
  · simp [foot, feet, newS]
  · exact ⟨rfl, rfl, rfl, by simp; omega, fun k hk _ => (Below.heap_alloc _ _ _ (by simp; omega)).trans (Below.heap_alloc _ _ _ hk)⟩

/-- Behind the boxes of a call: the disk is as it was, the boxes hold the disk and the name. -/
structure Boxed2 (w : World) (d bm : Nat) (S : St) (s : ByteArray) (w1 : World) : Prop where
  disk : DiskAt w1 d bm S
  moved : Moved w w1 (foot d bm S.fs) (foot d bm S.fs)
  k1 : w1.cell? ⟨w.heap.size, 0, none⟩ = some (.pointer (some ⟨d, 0, none⟩))
  k2 : w1.cell? ⟨w.heap.size + 1, 0, none⟩ = some (.string s)
  size : w.heap.size + 2 ≤ w1.heap.size
theorem Boxed2.start {w : World} {d bm : Nat} {S : St} (h : DiskAt w d bm S) (s : ByteArray) : Boxed2 w d bm S s ((w.alloc (.cells #[.pointer (some ⟨d, 0, none⟩)] 26)).alloc (.cells #[.string s] 9)) := by
  refine ⟨(h.alloc _).alloc _, (Moved.alloc _ _).trans (Moved.alloc _ _), ((Blk.new w [.pointer (some ⟨d, 0, none⟩)] 26).alloc _).cell 0 rfl, ?_, by simp⟩
  have := box_new (w.alloc (.cells #[.pointer (some ⟨d, 0, none⟩)] 26)) (.string s) 9
  rwa [World.size_alloc] at this
theorem Boxed2.grown {w : World} {d bm : Nat} {S : St} {s : ByteArray} {w1 w2 : World} (h : Boxed2 w d bm S s w1) (hg : w1.grownBy w2 none) : Boxed2 w d bm S s w2 :=
  ⟨h.disk.carry fun i hi => hg.block i (h.disk.lt i hi) (by simp), h.moved.trans (Moved.none_of hg _), hg.cell h.k1 (by simp), hg.cell h.k2 (by simp), Nat.le_trans h.size hg.size⟩
theorem Boxed2.drewN {w : World} {d bm : Nat} {S : St} {s : ByteArray} {w1 : World} (h : Boxed2 w d bm S s w1) (k : Nat) : Boxed2 w d bm S s (w1.drewN k) := ⟨h.disk.drewN k, h.moved.drewN k, h.k1, h.k2, h.size⟩
theorem refused_boxed {w : World} {d bm : Nat} {S : St} (h : DiskAt w d bm S) (s : ByteArray) (hs : s.size ≤ maxLen) :
    Calls Tryz.prog 27 #[.pointer (some ⟨d, 0, none⟩), .slice (some ⟨w.heap.size + 2, 0, none⟩) 1 1] (((w.alloc (.cells #[.pointer (some ⟨d, 0, none⟩)] 26)).alloc (.cells #[.string s] 9)).alloc (.cells #[.string s] 9)) fun x w1 => x = .returned (.int .i64 (refuse S.on [s])) ∧ Boxed2 w d bm S s w1 := by
  have hB := Boxed2.start h s
  have R := refused_one hB.disk s hs
  have hsz : ((w.alloc (.cells #[.pointer (some ⟨d, 0, none⟩)] 26)).alloc (.cells #[.string s] 9)).heap.size = w.heap.size + 2 := by simp
  rw [hsz] at R
  refine R.mono ?_
  rintro x w1 ⟨rfl, rfl⟩
  exact ⟨rfl, hB.grown (World.grownBy_alloc _ _ _)⟩
theorem Boxed2.len {w : World} {d bm : Nat} {S : St} {s : ByteArray} {w1 : World} (h : Boxed2 w d bm S s w1) (ty : TypeId) : (Builtin.len_ #[59] ty #[.map (some bm)]).run Tryz.prog w1 = .ok (.int .i64 (S.fs.length : Int)) w1 := by
  have := h.disk.map.len Tryz.underlying59 ty
  rwa [datum_size] at this

section
variable {w : World} {d bm : Nat} {S : St} (h : DiskAt w d bm S) (s : ByteArray) (hs : s.size ≤ maxLen)
include h hs
theorem create_operate (hl : S.left ≠ 1) (ho : S.ops ≤ 4611686018427387904) (hlm : S.left ≤ 9223372036854775807) (hn : S.fs.length < maxLen) {w1 : World} (hB : Boxed2 w d bm S s w1) (v : Value) :
    Calls Tryz.prog 62 #[.pointer (some ⟨d, 0, none⟩), .func (.func 63) #[] #[.pointer (some ⟨w.heap.size, 0, none⟩), .pointer (some ⟨w.heap.size + 1, 0, none⟩)], v] w1 fun x w' => x = .returned (.int .i64 0) ∧ ∃ b, DiskAt w' d bm { S with ops := S.ops + 1, left := S.left - 1, fs := putE S.fs (newE (nameOf s) b) } ∧ Moved w w' (foot d bm S.fs) (foot d bm (putE S.fs (newE (nameOf s) b))) := by
  have hdl := h.head.lt
  refine operateCreate hB.disk hl ho hlm w.heap.size (w.heap.size + 1) v _ fun w2 hD2 hM2 => ?_
  have hk : ∀ i, i < w1.heap.size → i ≠ d → w2.heap[i]? = w1.heap[i]? := fun i hi hne => hM2.kept i hi (by simpa using hne)
  have hz := hB.size
  have e1 : w2.cell? ⟨w.heap.size, 0, none⟩ = some (.pointer (some ⟨d, 0, none⟩)) := (World.cell?_of_block (a := ⟨w.heap.size, 0, none⟩) (hk w.heap.size (by omega) (by omega))).trans hB.k1
  have e2 : w2.cell? ⟨w.heap.size + 1, 0, none⟩ = some (.string s) := (World.cell?_of_block (a := ⟨w.heap.size + 1, 0, none⟩) (hk (w.heap.size + 1) (by omega) (by omega))).trans hB.k2
  refine (create1_any hD2 e1 e2 hs hn).mono ?_
  rintro x w3 ⟨rfl, b, hD3, hM3⟩
  exact ⟨rfl, b, hD3, (hB.moved.trans (hM2.wider (fun i hi => .inl (by simp at hi; simp [foot, hi])) (fun i hi => .inl hi))).trans hM3⟩
set_option maxRecDepth 100000 in
set_option maxHeartbeats 1000000 in
theorem create_new (hc : refuse S.on [s] = 0) (hf : find S.fs (nameOf s) = none) (hlen : S.fs.length < 48) (hu : sumUsed S.fs < S.room) (hr : S.room ≤ 1073741824) (hl : S.left ≠ 1) (ho : S.ops ≤ 4611686018427387904) (hlm : S.left ≤ 9223372036854775807) :
    Calls Tryz.prog 33 #[.pointer (some ⟨d, 0, none⟩), .string s] w fun x w' => x = .returned (.int .i64 0) ∧ ∃ b, DiskAt w' d bm { S with ops := S.ops + 1, left := S.left - 1, fs := putE S.fs (newE (nameOf s) b) } ∧ Moved w w' (foot d bm S.fs) (foot d bm (putE S.fs (newE (nameOf s) b))) := by
  have hmf : ∀ (fn : Fn) (first cap : Array Value) (w : World), (Instr.makeFunc fn first cap).run Tryz.prog w = .ok (.func fn first cap) w := fun _ _ _ _ => rfl
  have R := refused_boxed h s hs
  rw [hc] at R
  have R : Hid (Calls Tryz.prog 27 #[.pointer (some ⟨d, 0, none⟩), .slice (some ⟨w.heap.size + 2, 0, none⟩) 1 1] (((w.alloc (.cells #[.pointer (some ⟨d, 0, none⟩)] 26)).alloc (.cells #[.string s] 9)).alloc (.cells #[.string s] 9)) fun x w1 => x = .returned (.int .i64 0) ∧ Boxed2 w d bm S s w1) := R
  have F : Hid (∀ w1, Boxed2 w d bm S s w1 → Calls Tryz.prog 61 #[.pointer (some ⟨d, 0, none⟩)] w1 fun x w2 => x = .returned (.int .i64 ((S.room : Int) - (sumUsed S.fs : Int))) ∧ Boxed2 w d bm S s w2) := fun w1 hB => (free_any hB.disk (refuse_on hc) (by omega) hr).mono fun x w2 hh => ⟨hh.1, hB.grown hh.2⟩
  have LK : Hid (∀ w1, Boxed2 w d bm S s w1 → ∀ k, (Instr.lookup 59 (.map (some bm)) (.string s) false).run Tryz.prog (w1.drewN k) = .ok (.pointer none) (w1.drewN k)) := fun w1 hB k => look_none (hB.drewN k).disk.map hs hf
  have O : Hid (∀ w1, Boxed2 w d bm S s w1 → ∀ v k, Calls Tryz.prog 62 #[.pointer (some ⟨d, 0, none⟩), .func (.func 63) #[] #[.pointer (some ⟨w.heap.size, 0, none⟩), .pointer (some ⟨w.heap.size + 1, 0, none⟩)], v] (w1.drewN k) fun x w' => x = .returned (.int .i64 0) ∧ ∃ b, DiskAt w' d bm { S with ops := S.ops + 1, left := S.left - 1, fs := putE S.fs (newE (nameOf s) b) } ∧ Moved w w' (foot d bm S.fs) (foot d bm (putE S.fs (newE (nameOf s) b)))) := fun w1 hB v k => create_operate h s hs hl ho hlm (by unfold maxLen; omega) (hB.drewN k) v
  have hg1 : decide (48 ≤ (S.fs.length : Int)) = false := decide_eq_false (by omega)
  have hg2 : decide ((S.room : Int) - (sumUsed S.fs : Int) < 1) = false := decide_eq_false (by omega)
  have hlb : (S.fs.length : Int) < 48 := by omega
  clear h hs hc hf ho hlm hl hr hu hlen
  generalize (S.room : Int) - (sumUsed S.fs : Int) = fr at *
  go_enter Tryz.func33, Tryz.ntmps33
  go_wp2_with (first | (go_at_call 27; go_fit R.out; rintro x w1 ⟨rfl, hB⟩; have c0 := hB.disk.c0; have k1 := hB.k1; have k2 := hB.k2; have hln := hB.len) | (go_at_call 61; go_fit (F.out _ hB); rintro x w2 ⟨rfl, hB2⟩; have d0 := hB2.disk.c0; have e1 := hB2.k1; have e2 := hB2.k2; have lk := LK.out _ hB2))
  go_quiet (fail)
  go_wp2_with (go_at_call 62; go_fit (O.out _ hB2 _ _); rintro x w3 ⟨rfl, hE⟩)
  go_ret
  exact ⟨rfl, hE⟩
end
end Go.Proofs.YthihljjefncfoaaGreatDoor
