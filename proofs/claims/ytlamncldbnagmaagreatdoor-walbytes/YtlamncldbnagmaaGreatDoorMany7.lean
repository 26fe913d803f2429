/-
  SEVERAL TEXTS IN ONE: DskCalls, DskNew, DskRead, DskRemove, CodPut, NumPlain.
-/
import Derived.Test.YtlamncldbnagmaaGreatDoorDskOps
import Derived.Test.YtlamncldbnagmaaGreatDoorDskShelf
import Derived.Test.YtlamncldbnagmaaGreatDoorMany6
namespace Go.Proofs.YtlamncldbnagmaaGreatDoor
open Go.RowKit Go.Maps

/-- A box lies beside the disk. -/
theorem box_new (w : World) (v : Value) (t : TypeId) : (w.alloc (.cells #[v] t)).cell? ⟨w.heap.size, 0, none⟩ = some v := (Blk.new w [v] t).cell 0 rfl
theorem cell_up {w w' : World} {a : Addr} {v : Value} {r : Option Nat} (h : w.cell? a = some v) (hg : w.grownBy w' r) (hr : some a.block ≠ r) : w'.cell? a = some v := hg.cell h hr

/-! ### Sync -/
section
variable {w : World} {d bm : Nat} {S : St} (h : DiskAt w d bm S) (s : ByteArray) (hs : s.size ≤ maxLen)
include h hs
theorem sync_refused {c : Int} (hc : refuse S.on [s] = c) (hc0 : c ≠ 0) :
    Calls Tryz.prog 83 #[.pointer (some ⟨d, 0, none⟩), .string s] w fun x w' => x = .returned (.int .i64 c) ∧ w.grownBy w' none := by
  have F : Hid (Calls Tryz.prog 86 #[.pointer (some ⟨d, 0, none⟩), .string s] w fun x w' => x = .returned (.tuple #[.pointer none, .int .i64 c]) ∧ w.grownBy w' none) := find_refused h s hs hc hc0
  have hcb : (c == 0) = false := by rw [beq_eq_false_iff_ne]; exact hc0
  clear h hs hc
  go_enter Tryz.func83, Tryz.ntmps83
  go_wp2_with (go_at_call 86; refine F.out.mono ?_; rintro x w1 ⟨rfl, hg⟩)
  go_ret
  exact ⟨rfl, ⟨hg.os, hg.tape, hg.output, Nat.le_trans hg.size (by simp), fun k hk hn => (Below.heap_alloc _ _ _ (Nat.lt_of_lt_of_le hk hg.size)).trans (hg.block k hk hn)⟩⟩
theorem sync_none (hc : refuse S.on [s] = 0) (hf : find S.fs (nameOf s) = none) :
    Calls Tryz.prog 83 #[.pointer (some ⟨d, 0, none⟩), .string s] w fun x w' => x = .returned (.int .i64 4) ∧ w.grownBy w' none := by
  have F : Hid (Calls Tryz.prog 86 #[.pointer (some ⟨d, 0, none⟩), .string s] w fun x w' => x = .returned (.tuple #[.pointer none, .int .i64 4]) ∧ w.grownBy w' none) := find_none h s hs hc hf
  clear h hs hc hf
  go_enter Tryz.func83, Tryz.ntmps83
  go_wp2_with (go_at_call 86; refine F.out.mono ?_; rintro x w1 ⟨rfl, hg⟩)
  go_ret
  exact ⟨rfl, ⟨hg.os, hg.tape, hg.output, Nat.le_trans hg.size (by simp), fun k hk hn => (Below.heap_alloc _ _ _ (Nat.lt_of_lt_of_le hk hg.size)).trans (hg.block k hk hn)⟩⟩
theorem sync_ok (hc : refuse S.on [s] = 0) {e : Ent} (hf : find S.fs (nameOf s) = some e) (hl : S.left ≠ 1) (ho : S.ops ≤ 4611686018427387904) (hlm : S.left ≤ 9223372036854775807) :
    Calls Tryz.prog 83 #[.pointer (some ⟨d, 0, none⟩), .string s] w fun x w' => x = .returned (.int .i64 0) ∧ DiskAt w' d bm { S with ops := S.ops + 1, left := S.left - 1, fs := swap S.fs e (endE e e.bs.length) } ∧ Moved w w' (foot d bm S.fs) (foot d bm (swap S.fs e (endE e e.bs.length))) := by
  have F : Hid (Calls Tryz.prog 86 #[.pointer (some ⟨d, 0, none⟩), .string s] w fun x w' => x = .returned (.tuple #[.pointer (some ⟨e.b, 0, none⟩), .int .i64 0]) ∧ w.grownBy w' none) := find_ok h s hs hc hf
  have he := (find_some hf).1
  have hmf : ∀ (fn : Fn) (first cap : Array Value) (w : World), (Instr.makeFunc fn first cap).run Tryz.prog w = .ok (.func fn first cap) w := fun _ _ _ _ => rfl
  have OP : Hid (∀ w1, w.grownBy w1 none → ∀ v, Calls Tryz.prog 87 #[.pointer (some ⟨d, 0, none⟩), .func (.func 123) #[] #[.pointer (some ⟨w1.heap.size, 0, none⟩)], v] (w1.alloc (.cells #[.pointer (some ⟨e.b, 0, none⟩)] 108)) fun x w2 => x = .returned (.int .i64 0) ∧ DiskAt w2 d bm { S with ops := S.ops + 1, left := S.left - 1, fs := swap S.fs e (endE e e.bs.length) } ∧ Moved w w2 (foot d bm S.fs) (foot d bm (swap S.fs e (endE e e.bs.length)))) := by
    intro w1 hg v
    have hD : DiskAt (w1.alloc (.cells #[.pointer (some ⟨e.b, 0, none⟩)] 108)) d bm S := (h.carry (w' := w1) fun i hi => hg.block i (h.lt i hi) (by simp)).alloc _
    have hM0 : Moved w (w1.alloc (.cells #[.pointer (some ⟨e.b, 0, none⟩)] 108)) (foot d bm S.fs) (foot d bm S.fs) := (Moved.none_of hg _).trans (Moved.alloc _ _)
    have hdl := h.head.lt
    refine operateSync hD hl ho hlm w1.heap.size v _ fun w2 hD2 hM2 => ?_
    have hcell : w2.cell? ⟨w1.heap.size, 0, none⟩ = some (.pointer (some ⟨e.b, 0, none⟩)) := by
      rw [World.cell?_of_block (a := ⟨w1.heap.size, 0, none⟩) (hM2.kept w1.heap.size (by simp) (by have := hg.size; simp; omega))]
      exact box_new _ _ _
    refine (sync1_any hD2 he hcell).mono ?_
    rintro x w3 ⟨rfl, hD3, hM3⟩
    exact ⟨rfl, hD3, (hM0.trans (hM2.wider (fun i hi => .inl (by simp at hi; simp [foot, hi])) (fun i hi => .inl hi))).trans hM3⟩
  clear h hs hc hf he
  go_enter Tryz.func83, Tryz.ntmps83
  go_wp2_with (first | (go_at_call 86; refine F.out.mono ?_; rintro x w1 ⟨rfl, hg⟩) | (go_at_call 87; go_fit (OP.out _ hg _); rintro x w2 ⟨rfl, hE⟩))
  go_ret
  exact ⟨rfl, hE⟩
end
end Go.Proofs.YtlamncldbnagmaaGreatDoor
namespace Go.Proofs.YtlamncldbnagmaaGreatDoor
open Go.RowKit Go.Maps

def newS (room : Nat) : St := ⟨[], room, true, 0, 0, 0, 0⟩
set_option maxRecDepth 100000 in
theorem new_ok (room : Nat) (hr : room ≤ 1073741824) (w : World) :
    Calls Tryz.prog 25 #[.int .i64 (room : Int)] w fun x w' => ∃ d bm, x = .returned (.pointer (some ⟨d, 0, none⟩)) ∧ DiskAt w' d bm (newS room) ∧ w.grownBy w' none ∧ w.heap.size ≤ d ∧ w.heap.size ≤ bm := by
  have hmm := @run_makeMap Tryz.prog
  have hri : (room : Int) ≤ 1073741824 := by omega
  go_enter Tryz.func25, Tryz.ntmps25
  go_wp2
  go_ret
  refine ⟨w.heap.size + 1, w.heap.size, by simp, ⟨?_, ?_, by simp [newS], ?_⟩, ?_, by omega, Nat.le_refl _⟩
  · have := Blk.new (w.alloc (.map #[] 0)) (headOf w.heap.size (newS room)) 102
    rw [World.size_alloc] at this
    exact this
  · exact map_carry (World.ownsMap_made w _ _ _) (Below.heap_alloc _ _ _ (by simp))
  · simp [foot, feet, newS]
  · exact ⟨rfl, rfl, rfl, by simp; omega, fun k hk _ => (Below.heap_alloc _ _ _ (by simp; omega)).trans (Below.heap_alloc _ _ _ hk)⟩

/-- Behind the boxes of a call: the disk is as it was, the boxes hold the disk and the name. -/
structure Boxed2 (w : World) (d bm : Nat) (S : St) (s : ByteArray) (w1 : World) : Prop where
  disk : DiskAt w1 d bm S
  moved : Moved w w1 (foot d bm S.fs) (foot d bm S.fs)
  k1 : w1.cell? ⟨w.heap.size, 0, none⟩ = some (.pointer (some ⟨d, 0, none⟩))
  k2 : w1.cell? ⟨w.heap.size + 1, 0, none⟩ = some (.string s)
  size : w.heap.size + 2 ≤ w1.heap.size
theorem Boxed2.start {w : World} {d bm : Nat} {S : St} (h : DiskAt w d bm S) (s : ByteArray) : Boxed2 w d bm S s ((w.alloc (.cells #[.pointer (some ⟨d, 0, none⟩)] 44)).alloc (.cells #[.string s] 9)) := by
  refine ⟨(h.alloc _).alloc _, (Moved.alloc _ _).trans (Moved.alloc _ _), ((Blk.new w [.pointer (some ⟨d, 0, none⟩)] 44).alloc _).cell 0 rfl, ?_, by simp⟩
  have := box_new (w.alloc (.cells #[.pointer (some ⟨d, 0, none⟩)] 44)) (.string s) 9
  rwa [World.size_alloc] at this
theorem Boxed2.grown {w : World} {d bm : Nat} {S : St} {s : ByteArray} {w1 w2 : World} (h : Boxed2 w d bm S s w1) (hg : w1.grownBy w2 none) : Boxed2 w d bm S s w2 :=
  ⟨h.disk.carry fun i hi => hg.block i (h.disk.lt i hi) (by simp), h.moved.trans (Moved.none_of hg _), hg.cell h.k1 (by simp), hg.cell h.k2 (by simp), Nat.le_trans h.size hg.size⟩
theorem Boxed2.drewN {w : World} {d bm : Nat} {S : St} {s : ByteArray} {w1 : World} (h : Boxed2 w d bm S s w1) (k : Nat) : Boxed2 w d bm S s (w1.drewN k) := ⟨h.disk.drewN k, h.moved.drewN k, h.k1, h.k2, h.size⟩
theorem refused_boxed {w : World} {d bm : Nat} {S : St} (h : DiskAt w d bm S) (s : ByteArray) (hs : s.size ≤ maxLen) :
    Calls Tryz.prog 55 #[.pointer (some ⟨d, 0, none⟩), .slice (some ⟨w.heap.size + 2, 0, none⟩) 1 1] (((w.alloc (.cells #[.pointer (some ⟨d, 0, none⟩)] 44)).alloc (.cells #[.string s] 9)).alloc (.cells #[.string s] 9)) fun x w1 => x = .returned (.int .i64 (refuse S.on [s])) ∧ Boxed2 w d bm S s w1 := by
  have hB := Boxed2.start h s
  have R := refused_one hB.disk s hs
  have hsz : ((w.alloc (.cells #[.pointer (some ⟨d, 0, none⟩)] 44)).alloc (.cells #[.string s] 9)).heap.size = w.heap.size + 2 := by simp
  rw [hsz] at R
  refine R.mono ?_
  rintro x w1 ⟨rfl, rfl⟩
  exact ⟨rfl, hB.grown (World.grownBy_alloc _ _ _)⟩
theorem Boxed2.len {w : World} {d bm : Nat} {S : St} {s : ByteArray} {w1 : World} (h : Boxed2 w d bm S s w1) (ty : TypeId) : (Builtin.len_ #[100] ty #[.map (some bm)]).run Tryz.prog w1 = .ok (.int .i64 (S.fs.length : Int)) w1 := by
  have := h.disk.map.len Tryz.underlying100 ty
  rwa [datum_size] at this

section
variable {w : World} {d bm : Nat} {S : St} (h : DiskAt w d bm S) (s : ByteArray) (hs : s.size ≤ maxLen)
include h hs
theorem create_operate (hl : S.left ≠ 1) (ho : S.ops ≤ 4611686018427387904) (hlm : S.left ≤ 9223372036854775807) (hn : S.fs.length < maxLen) {w1 : World} (hB : Boxed2 w d bm S s w1) (v : Value) :
    Calls Tryz.prog 87 #[.pointer (some ⟨d, 0, none⟩), .func (.func 122) #[] #[.pointer (some ⟨w.heap.size, 0, none⟩), .pointer (some ⟨w.heap.size + 1, 0, none⟩)], v] w1 fun x w' => x = .returned (.int .i64 0) ∧ ∃ b, DiskAt w' d bm { S with ops := S.ops + 1, left := S.left - 1, fs := putE S.fs (newE (nameOf s) b) } ∧ Moved w w' (foot d bm S.fs) (foot d bm (putE S.fs (newE (nameOf s) b))) := by
  have hdl := h.head.lt
  refine operateCreate hB.disk hl ho hlm w.heap.size (w.heap.size + 1) v _ fun w2 hD2 hM2 => ?_
  have hk : ∀ i, i < w1.heap.size → i ≠ d → w2.heap[i]? = w1.heap[i]? := fun i hi hne => hM2.kept i hi (by simpa using hne)
  have hz := hB.size
  have e1 : w2.cell? ⟨w.heap.size, 0, none⟩ = some (.pointer (some ⟨d, 0, none⟩)) := (World.cell?_of_block (a := ⟨w.heap.size, 0, none⟩) (hk w.heap.size (by omega) (by omega))).trans hB.k1
  have e2 : w2.cell? ⟨w.heap.size + 1, 0, none⟩ = some (.string s) := (World.cell?_of_block (a := ⟨w.heap.size + 1, 0, none⟩) (hk (w.heap.size + 1) (by omega) (by omega))).trans hB.k2
  refine (create1_any hD2 e1 e2 hs hn).mono ?_
  rintro x w3 ⟨rfl, b, hD3, hM3⟩
  exact ⟨rfl, b, hD3, (hB.moved.trans (hM2.wider (fun i hi => .inl (by simp at hi; simp [foot, hi])) (fun i hi => .inl hi))).trans hM3⟩
set_option maxRecDepth 100000 in
set_option maxHeartbeats 1000000 in
theorem create_new (hc : refuse S.on [s] = 0) (hf : find S.fs (nameOf s) = none) (hlen : S.fs.length < 48) (hu : sumUsed S.fs < S.room) (hr : S.room ≤ 1073741824) (hl : S.left ≠ 1) (ho : S.ops ≤ 4611686018427387904) (hlm : S.left ≤ 9223372036854775807) :
    Calls Tryz.prog 82 #[.pointer (some ⟨d, 0, none⟩), .string s] w fun x w' => x = .returned (.int .i64 0) ∧ ∃ b, DiskAt w' d bm { S with ops := S.ops + 1, left := S.left - 1, fs := putE S.fs (newE (nameOf s) b) } ∧ Moved w w' (foot d bm S.fs) (foot d bm (putE S.fs (newE (nameOf s) b))) := by
  have hmf : ∀ (fn : Fn) (first cap : Array Value) (w : World), (Instr.makeFunc fn first cap).run Tryz.prog w = .ok (.func fn first cap) w := fun _ _ _ _ => rfl
  have R := refused_boxed h s hs
  rw [hc] at R
  have R : Hid (Calls Tryz.prog 55 #[.pointer (some ⟨d, 0, none⟩), .slice (some ⟨w.heap.size + 2, 0, none⟩) 1 1] (((w.alloc (.cells #[.pointer (some ⟨d, 0, none⟩)] 44)).alloc (.cells #[.string s] 9)).alloc (.cells #[.string s] 9)) fun x w1 => x = .returned (.int .i64 0) ∧ Boxed2 w d bm S s w1) := R
  have F : Hid (∀ w1, Boxed2 w d bm S s w1 → Calls Tryz.prog 121 #[.pointer (some ⟨d, 0, none⟩)] w1 fun x w2 => x = .returned (.int .i64 ((S.room : Int) - (sumUsed S.fs : Int))) ∧ Boxed2 w d bm S s w2) := fun w1 hB => (free_any hB.disk (refuse_on hc) (by omega) hr).mono fun x w2 hh => ⟨hh.1, hB.grown hh.2⟩
  have LK : Hid (∀ w1, Boxed2 w d bm S s w1 → ∀ k, (Instr.lookup 100 (.map (some bm)) (.string s) false).run Tryz.prog (w1.drewN k) = .ok (.pointer none) (w1.drewN k)) := fun w1 hB k => look_none (hB.drewN k).disk.map hs hf
  have O : Hid (∀ w1, Boxed2 w d bm S s w1 → ∀ v k, Calls Tryz.prog 87 #[.pointer (some ⟨d, 0, none⟩), .func (.func 122) #[] #[.pointer (some ⟨w.heap.size, 0, none⟩), .pointer (some ⟨w.heap.size + 1, 0, none⟩)], v] (w1.drewN k) fun x w' => x = .returned (.int .i64 0) ∧ ∃ b, DiskAt w' d bm { S with ops := S.ops + 1, left := S.left - 1, fs := putE S.fs (newE (nameOf s) b) } ∧ Moved w w' (foot d bm S.fs) (foot d bm (putE S.fs (newE (nameOf s) b)))) := fun w1 hB v k => create_operate h s hs hl ho hlm (by unfold maxLen; omega) (hB.drewN k) v
  have hg1 : decide (48 ≤ (S.fs.length : Int)) = false := decide_eq_false (by omega)
  have hg2 : decide ((S.room : Int) - (sumUsed S.fs : Int) < 1) = false := decide_eq_false (by omega)
  have hlb : (S.fs.length : Int) < 48 := by omega
  clear h hs hc hf ho hlm hl hr hu hlen
  generalize (S.room : Int) - (sumUsed S.fs : Int) = fr at *
  go_enter Tryz.func82, Tryz.ntmps82
  go_wp2_with (first | (go_at_call 55; go_fit R.out; rintro x w1 ⟨rfl, hB⟩; have c0 := hB.disk.c0; have k1 := hB.k1; have k2 := hB.k2; have hln := hB.len) | (go_at_call 121; go_fit (F.out _ hB); rintro x w2 ⟨rfl, hB2⟩; have d0 := hB2.disk.c0; have e1 := hB2.k1; have e2 := hB2.k2; have lk := LK.out _ hB2))
  go_quiet (fail)
  go_wp2_with (go_at_call 87; go_fit (O.out _ hB2 _ _); rintro x w3 ⟨rfl, hE⟩)
  go_ret
  exact ⟨rfl, hE⟩
end
end Go.Proofs.YtlamncldbnagmaaGreatDoor
namespace Go.Proofs.YtlamncldbnagmaaGreatDoor
open Go.RowKit Go.Maps

theorem owns_base {w : World} {base base' e n : Nat} {v : Value} {xs : List Value} (h : w.ownsRow base e 1 v n xs) (hb : base' ≤ base) : w.ownsRow base' e 1 v n xs := by
  refine ⟨h.1, ?_⟩
  rcases h.2 with hn | ⟨g, cap, cur, rfl, h1, rest⟩
  · exact .inl hn
  · exact .inr ⟨g, cap, cur, rfl, Nat.le_trans hb h1, rest⟩
theorem B8_ints (l : List UInt8) : (l.map fun b => (b.toNat : Int)).map (Value.int .u8) = B8 l := by simp [B8, List.map_map]
/-- A copy of a file's bytes. -/
theorem clone_any {w : World} {e : Ent} (h : EntAt w e) (hl : e.bs.length ≤ 1099511627776) :
    Calls Tryz.prog 90 #[e.v1] w fun x w' => ∃ v, x = .returned v ∧ w'.ownsRow w.heap.size 5 1 v e.bs.length (B8 e.bs) ∧ w.grownBy w' none := by
  rcases h.row1.2 with ⟨hv, h0⟩ | ⟨g, cap, cur, hv, _⟩
  · rw [hv]
    refine (Tryz.bytes_Clone_nil 0 0 w).mono ?_
    rintro x w' ⟨rfl, rfl⟩
    have hz : e.bs = [] := List.eq_nil_of_length_eq_zero h0
    exact ⟨_, rfl, by rw [hz]; exact World.ownsRow_nil _ _ _ _, World.grownBy.refl _ _⟩
  · rw [hv]
    refine (Tryz.bytes_Clone_at ⟨g, 0, none⟩ e.bs.length cap (e.bs.map fun b => (b.toNat : Int)) w (List.length_map _) (by omega) ?_).mono ?_
    · intro i hi
      have := h.row1.cells (g := g) (by rw [hv]; rfl) i _ (B8_at e.bs i hi)
      rw [this]
      simp [List.getD, hi]
    · rintro x w' ⟨v', rfl, ho, _, hb⟩
      rw [B8_ints] at ho
      exact ⟨v', rfl, ho, ⟨hb.os, hb.tape, hb.output, hb.size, fun k hk _ => hb.block k hk⟩⟩
section
variable {w : World} {d bm : Nat} {S : St} (h : DiskAt w d bm S) (s : ByteArray) (hs : s.size ≤ maxLen)
include h hs
theorem read_ok (hc : refuse S.on [s] = 0) {e : Ent} (hf : find S.fs (nameOf s) = some e) (hl : e.bs.length ≤ 1099511627776) :
    Calls Tryz.prog 52 #[.pointer (some ⟨d, 0, none⟩), .string s] w fun x w' => ∃ v, x = .returned (.tuple #[v, .int .i64 0]) ∧ w'.ownsRow w.heap.size 5 1 v e.bs.length (B8 e.bs) ∧ w.grownBy w' none := by
  have F : Hid (Calls Tryz.prog 86 #[.pointer (some ⟨d, 0, none⟩), .string s] w fun x w' => x = .returned (.tuple #[.pointer (some ⟨e.b, 0, none⟩), .int .i64 0]) ∧ w.grownBy w' none) := find_ok h s hs hc hf
  have he := (find_some hf).1
  have C : Hid (∀ w1, w.grownBy w1 none → EntAt w1 e ∧ Calls Tryz.prog 90 #[e.v1] w1 fun x w' => ∃ v, x = .returned v ∧ w'.ownsRow w.heap.size 5 1 v e.bs.length (B8 e.bs) ∧ w.grownBy w' none) := by
    intro w1 hg
    have hE : EntAt w1 e := (h.ents e he).carry fun i hi => hg.block i ((h.ents e he).lt i hi) (by simp)
    refine ⟨hE, (clone_any hE hl).mono ?_⟩
    rintro x w' ⟨v, rfl, ho, hg2⟩
    exact ⟨v, rfl, owns_base ho hg.size, hg.andThen hg2 (fun j hj => by cases hj)⟩
  clear h hs hc hf he hl
  go_enter Tryz.func52, Tryz.ntmps52
  go_wp2_with (first | (go_at_call 86; refine F.out.mono ?_; rintro x w1 ⟨rfl, hg⟩; obtain ⟨hE, hC⟩ := C.out w1 hg; have c0 := hE.c0; have HC : Hid (Calls Tryz.prog 90 #[e.v1] w1 fun x w' => ∃ v, x = .returned v ∧ w'.ownsRow w.heap.size 5 1 v e.bs.length (B8 e.bs) ∧ w.grownBy w' none) := hC; clear hC hE) | (go_at_call 90; go_fit HC.out; rintro x w2 ⟨v, rfl, hv⟩))
  go_ret2
  exact ⟨v, rfl, hv⟩
end
end Go.Proofs.YtlamncldbnagmaaGreatDoor
namespace Go.Proofs.YtlamncldbnagmaaGreatDoor
open Go.RowKit Go.Maps

theorem remove_refused {w : World} {d bm : Nat} {S : St} (h : DiskAt w d bm S) (s : ByteArray) (hs : s.size ≤ maxLen) {c : Int} (hc : refuse S.on [s] = c) (hc0 : c ≠ 0) :
    Calls Tryz.prog 50 #[.pointer (some ⟨d, 0, none⟩), .string s] w fun x w' => x = .returned (.int .i64 c) ∧ w.grownBy w' none := by
  have F : Hid (Calls Tryz.prog 86 #[.pointer (some ⟨d, 0, none⟩), .string s] ((w.alloc (.cells #[.pointer (some ⟨d, 0, none⟩)] 44)).alloc (.cells #[.string s] 9)) fun x w' => x = .returned (.tuple #[.pointer none, .int .i64 c]) ∧ ((w.alloc (.cells #[.pointer (some ⟨d, 0, none⟩)] 44)).alloc (.cells #[.string s] 9)).grownBy w' none) := find_refused ((h.alloc _).alloc _) s hs hc hc0
  have hcb : (c == 0) = false := by rw [beq_eq_false_iff_ne]; exact hc0
  clear h hs hc
  go_enter Tryz.func50, Tryz.ntmps50
  go_wp2_with (go_at_call 86; go_fit F.out; rintro x w1 ⟨rfl, hg⟩)
  go_ret
  exact ⟨rfl, ((World.grownBy_alloc _ _ none).andThen (World.grownBy_alloc _ _ none) (fun j hj => by cases hj)).andThen hg (fun j hj => by cases hj)⟩
theorem remove_none {w : World} {d bm : Nat} {S : St} (h : DiskAt w d bm S) (s : ByteArray) (hs : s.size ≤ maxLen) (hc : refuse S.on [s] = 0) (hf : find S.fs (nameOf s) = none) :
    Calls Tryz.prog 50 #[.pointer (some ⟨d, 0, none⟩), .string s] w fun x w' => x = .returned (.int .i64 4) ∧ w.grownBy w' none := by
  have F : Hid (Calls Tryz.prog 86 #[.pointer (some ⟨d, 0, none⟩), .string s] ((w.alloc (.cells #[.pointer (some ⟨d, 0, none⟩)] 44)).alloc (.cells #[.string s] 9)) fun x w' => x = .returned (.tuple #[.pointer none, .int .i64 4]) ∧ ((w.alloc (.cells #[.pointer (some ⟨d, 0, none⟩)] 44)).alloc (.cells #[.string s] 9)).grownBy w' none) := find_none ((h.alloc _).alloc _) s hs hc hf
  clear h hs hc hf
  go_enter Tryz.func50, Tryz.ntmps50
  go_wp2_with (go_at_call 86; go_fit F.out; rintro x w1 ⟨rfl, hg⟩)
  go_ret
  exact ⟨rfl, ((World.grownBy_alloc _ _ none).andThen (World.grownBy_alloc _ _ none) (fun j hj => by cases hj)).andThen hg (fun j hj => by cases hj)⟩
theorem remove_ok {w : World} {d bm : Nat} {S : St} (h : DiskAt w d bm S) (s : ByteArray) (hs : s.size ≤ maxLen) (hc : refuse S.on [s] = 0) {e : Ent} (hf : find S.fs (nameOf s) = some e) (hl : S.left ≠ 1) (ho : S.ops ≤ 4611686018427387904) (hlm : S.left ≤ 9223372036854775807) :
    Calls Tryz.prog 50 #[.pointer (some ⟨d, 0, none⟩), .string s] w fun x w' => x = .returned (.int .i64 0) ∧ DiskAt w' d bm { S with ops := S.ops + 1, left := S.left - 1, fs := dropE S.fs (nameOf s) } ∧ Moved w w' (foot d bm S.fs) (foot d bm (dropE S.fs (nameOf s))) := by
  have hmf : ∀ (fn : Fn) (first cap : Array Value) (w : World), (Instr.makeFunc fn first cap).run Tryz.prog w = .ok (.func fn first cap) w := fun _ _ _ _ => rfl
  have hB := Boxed2.start h s
  have F : Hid (Calls Tryz.prog 86 #[.pointer (some ⟨d, 0, none⟩), .string s] ((w.alloc (.cells #[.pointer (some ⟨d, 0, none⟩)] 44)).alloc (.cells #[.string s] 9)) fun x w' => x = .returned (.tuple #[.pointer (some ⟨e.b, 0, none⟩), .int .i64 0]) ∧ Boxed2 w d bm S s w') := (find_ok hB.disk s hs hc hf).mono fun x w' hh => ⟨hh.1, hB.grown hh.2⟩
  have hdl := h.head.lt
  have O : Hid (∀ w1, Boxed2 w d bm S s w1 → ∀ v, Calls Tryz.prog 87 #[.pointer (some ⟨d, 0, none⟩), .func (.func 88) #[] #[.pointer (some ⟨w.heap.size, 0, none⟩), .pointer (some ⟨w.heap.size + 1, 0, none⟩)], v] w1 fun x w' => x = .returned (.int .i64 0) ∧ DiskAt w' d bm { S with ops := S.ops + 1, left := S.left - 1, fs := dropE S.fs (nameOf s) } ∧ Moved w w' (foot d bm S.fs) (foot d bm (dropE S.fs (nameOf s)))) := by
    intro w1 hB1 v
    refine operateRemove hB1.disk hl ho hlm w.heap.size (w.heap.size + 1) v _ fun w2 hD2 hM2 => ?_
    have hk : ∀ i, i < w1.heap.size → i ≠ d → w2.heap[i]? = w1.heap[i]? := fun i hi hne => hM2.kept i hi (by simpa using hne)
    have hz := hB1.size
    have e1 : w2.cell? ⟨w.heap.size, 0, none⟩ = some (.pointer (some ⟨d, 0, none⟩)) := (World.cell?_of_block (a := ⟨w.heap.size, 0, none⟩) (hk w.heap.size (by omega) (by omega))).trans hB1.k1
    have e2 : w2.cell? ⟨w.heap.size + 1, 0, none⟩ = some (.string s) := (World.cell?_of_block (a := ⟨w.heap.size + 1, 0, none⟩) (hk (w.heap.size + 1) (by omega) (by omega))).trans hB1.k2
    refine (remove1_any hD2 e1 e2 hs).mono ?_
    rintro x w3 ⟨rfl, hD3, hM3⟩
    exact ⟨rfl, hD3, (hB1.moved.trans (hM2.wider (fun i hi => .inl (by simp at hi; simp [foot, hi])) (fun i hi => .inl hi))).trans hM3⟩
  clear h hs hc hf hB
  go_enter Tryz.func50, Tryz.ntmps50
  go_wp2_with (first | (go_at_call 86; go_fit F.out; rintro x w1 ⟨rfl, hB1⟩; have k1 := hB1.k1) | (go_at_call 87; go_fit (O.out _ hB1 _); rintro x w2 ⟨rfl, hE⟩))
  go_ret
  exact ⟨rfl, hE⟩
end Go.Proofs.YtlamncldbnagmaaGreatDoor
namespace Go.Proofs.YtlamncldbnagmaaGreatDoor
open Go.RowKit

/-- A text in bytes: its length, then it. -/
def txtL (s : List UInt8) : List UInt8 := numL s.length ++ s

set_option maxRecDepth 100000 in
set_option maxHeartbeats 400000 in
theorem addText_any (base : Nat) (v : Value) (n : Nat) (xs : List UInt8) (s : ByteArray) (w : World) (hown : w.ownsRow base 5 1 v n (B8 xs)) (hn : n + s.size ≤ 140737488354000) (hb : base ≤ w.heap.size) :
    Calls Tryz.prog 107 #[v, .string s] w fun e w' => ∃ v', e = .returned v' ∧ w'.ownsRow base 5 1 v' (n + (txtL s.data.toList).length) (B8 (xs ++ txtL s.data.toList)) ∧ Grew w w' v v' := by
  obtain ⟨i0, hi, hz0, hz1, hz2⟩ := info_parts info8
  have hnl := numL_length s.size
  have hsz : s.data.toList.length = s.size := by simp
  go_enter Tryz.func107, Tryz.ntmps107
  go_wp2_with (first
    | (go_at_call 63; go_must (refine (addNumber_any base v n xs s.size _ hown (by omega) (by omega) hb).mono ?_; rintro e w1 ⟨v1, rfl, ho1, hg1⟩))
    | (at_builtin; go_must (refine wpList_append_grew _ rfl _ _ 23 9 rfl base 5 i0 (.int .u8 0) 1 1 Tryz.underlying23 hi hz0 hz1 hz2 rfl _ _ _ rfl ho1 _ s.size (B8 s.data.toList) rfl (Src.ofString _ Tryz.underlying9 s) (by unfold maxLen; omega) (by omega) (Nat.le_trans hb hg1.rows.size) ?_; intro v' w' ho' hg')))
  go_ret
  refine ⟨v', rfl, ?_, hg1.trans hg'⟩
  unfold txtL
  rw [hsz, List.length_append, hsz, ← List.append_assoc, B8_append _ s.data.toList, ← Nat.add_assoc]
  exact ho'

theorem conv_sees {w : World} {ao : Option Addr} {l : List UInt8} (h : Sees w ao l) (hn : ao = none → l.length = 0) (cap : Nat) :
    (convert 23 9 (.slice ao l.length cap)).run Tryz.prog w = .ok (.string ⟨l.toArray⟩) w := by
  cases ao with
  | none =>
    obtain rfl : l = [] := List.eq_nil_of_length_eq_zero (hn rfl)
    rw [run_convert_bytes_string w 23 9 5 none _ cap Tryz.underlying23 Tryz.underlying5 Tryz.underlying9]
    rfl
  | some a =>
    refine run_convert_bytes_back w 23 9 5 a cap l Tryz.underlying23 Tryz.underlying5 Tryz.underlying9 fun j hj => ?_
    obtain ⟨a', e, hc⟩ := h j hj
    obtain rfl := Option.some.inj e
    rw [hc]; simp [List.getD, hj]

set_option maxHeartbeats 400000 in
theorem same_any (ao bo : Option Addr) (la lb : List UInt8) (ca cb : Nat) (w : World) (ha : Sees w ao la) (hb : Sees w bo lb) (hna : ao = none → la.length = 0) (hnb : bo = none → lb.length = 0) :
    Calls Tryz.prog 14 #[.slice ao la.length ca, .slice bo lb.length cb] w fun e w' => e = .returned (.bool (la == lb)) ∧ w' = w := by
  have c1 := conv_sees ha hna ca
  have c2 := conv_sees hb hnb cb
  go_enter Tryz.func14, Tryz.ntmps14
  go_wp2
  go_ret
  exact ⟨rfl, rfl⟩
end Go.Proofs.YtlamncldbnagmaaGreatDoor
namespace Go.Proofs.YtlamncldbnagmaaGreatDoor
open Go.RowKit

/-! ### The number that bytes begin with. -/
/-- i digits, which come to acc, are read; l is left. -/
def getN : Nat → Nat → List UInt8 → Option (Nat × List UInt8)
  | _, _, [] => none
  | i, acc, b :: r =>
    if (i = 9 ∧ 1 < b.toNat) ∨ (0 < i ∧ b.toNat = 0) then none
    else if b.toNat < 128 then some (acc + b.toNat % 128 * 2 ^ (7 * i), r)
    else getN (i + 1) (acc + b.toNat % 128 * 2 ^ (7 * i)) r

theorem digit_bd (i acc x : Nat) (h : acc < 2 ^ (7 * i)) : acc + x % 128 * 2 ^ (7 * i) < 2 ^ (7 * (i + 1)) := by
  have e : 2 ^ (7 * (i + 1)) = 128 * 2 ^ (7 * i) := by rw [show 7 * (i + 1) = 7 + 7 * i by omega, Nat.pow_add]
  have h1 : x % 128 * 2 ^ (7 * i) ≤ 127 * 2 ^ (7 * i) := Nat.mul_le_mul_right _ (by omega)
  rw [e]
  omega
/-- What a round of number's text reckons. -/
theorem or_text (i acc x : Nat) (h : acc < 2 ^ (7 * i)) (hi : i ≤ 9) (h9 : i = 9 → x ≤ 1) :
    bits BinOp.or IntKind.u64 (acc : Int) (IntKind.u64.wrap ((x : Int) % 128 * 2 ^ (7 * i))) = ((acc + x % 128 * 2 ^ (7 * i) : Nat) : Int) := by
  have hp : 2 ^ (7 * i) ≤ 2 ^ 63 := Nat.pow_le_pow_right (by omega) (by omega)
  have hy : x % 128 * 2 ^ (7 * i) < 18446744073709551616 := by
    rcases Nat.lt_or_ge i 9 with h1 | h1
    · have h2 : 2 ^ (7 * i) ≤ 2 ^ 56 := Nat.pow_le_pow_right (by omega) (by omega)
      have h3 : x % 128 * 2 ^ (7 * i) ≤ 127 * 2 ^ 56 := Nat.mul_le_mul (by omega) h2
      omega
    · have hx := h9 (by omega)
      have h3 : x % 128 * 2 ^ (7 * i) ≤ 1 * 2 ^ 63 := Nat.mul_le_mul (by omega) hp
      omega
  have e : (x : Int) % 128 * 2 ^ (7 * i) = ((x % 128 * 2 ^ (7 * i) : Nat) : Int) := by simp
  rw [e, IntWalk.u64_in _ ⟨by omega, by omega⟩, u64_or_nat _ _ (by omega) hy]
  have h4 := Nat.two_pow_add_eq_or_of_lt h (x % 128)
  rw [Nat.or_comm, Nat.mul_comm, ← h4, Nat.mul_comm, Nat.add_comm]
end Go.Proofs.YtlamncldbnagmaaGreatDoor
