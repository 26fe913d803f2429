/-
  SEVERAL TEXTS IN ONE: DskCalls, DskNew, DskRead, CodAdd, CodPut.
-/
import Derived.Test.YtoeoioigelknnaaGreatDskOps
import Derived.Test.YtoeoioigelknnaaGreatDskShelf
import Derived.Test.YtoeoioigelknnaaGreatMany6
namespace Go.Proofs.YtoeoioigelknnaaGreat
open Go.RowKit Go.Maps

/-- A box lies beside the disk. -/
theorem box_new (w : World) (v : Value) (t : TypeId) : (w.alloc (.cells #[v] t)).cell? ⟨w.heap.size, 0, none⟩ = some v := (Blk.new w [v] t).cell 0 rfl
theorem cell_up {w w' : World} {a : Addr} {v : Value} {r : Option Nat} (h : w.cell? a = some v) (hg : w.grownBy w' r) (hr : some a.block ≠ r) : w'.cell? a = some v := hg.cell h hr

/-! ### Sync -/
section
variable {w : World} {d bm : Nat} {S : St} (h : DiskAt w d bm S) (s : ByteArray) (hs : s.size ≤ maxLen)
include h hs
theorem sync_refused {c : Int} (hc : refuse S.on [s] = c) (hc0 : c ≠ 0) :
    Calls Tryz.prog 20 #[.pointer (some ⟨d, 0, none⟩), .string s] w fun x w' => x = .returned (.int .i64 c) ∧ w.grownBy w' none := by
  have F : Hid (Calls Tryz.prog 54 #[.pointer (some ⟨d, 0, none⟩), .string s] w fun x w' => x = .returned (.tuple #[.pointer none, .int .i64 c]) ∧ w.grownBy w' none) := find_refused h s hs hc hc0
  have hcb : (c == 0) = false := by rw [beq_eq_false_iff_ne]; exact hc0
  clear h hs hc
  go_enter Tryz.func20, Tryz.ntmps20
  go_wp2_with (go_at_call 54; refine F.out.mono ?_; rintro x w1 ⟨rfl, hg⟩)
  go_ret
  exact ⟨rfl, ⟨hg.os, hg.tape, hg.output, Nat.le_trans hg.size (by simp), fun k hk hn => (Below.heap_alloc _ _ _ (Nat.lt_of_lt_of_le hk hg.size)).trans (hg.block k hk hn)⟩⟩
theorem sync_none (hc : refuse S.on [s] = 0) (hf : find S.fs (nameOf s) = none) :
    Calls Tryz.prog 20 #[.pointer (some ⟨d, 0, none⟩), .string s] w fun x w' => x = .returned (.int .i64 4) ∧ w.grownBy w' none := by
  have F : Hid (Calls Tryz.prog 54 #[.pointer (some ⟨d, 0, none⟩), .string s] w fun x w' => x = .returned (.tuple #[.pointer none, .int .i64 4]) ∧ w.grownBy w' none) := find_none h s hs hc hf
  clear h hs hc hf
  go_enter Tryz.func20, Tryz.ntmps20
  go_wp2_with (go_at_call 54; refine F.out.mono ?_; rintro x w1 ⟨rfl, hg⟩)
  go_ret
  exact ⟨rfl, ⟨hg.os, hg.tape, hg.output, Nat.le_trans hg.size (by simp), fun k hk hn => (Below.heap_alloc _ _ _ (Nat.lt_of_lt_of_le hk hg.size)).trans (hg.block k hk hn)⟩⟩
theorem sync_ok (hc : refuse S.on [s] = 0) {e : Ent} (hf : find S.fs (nameOf s) = some e) (hl : S.left ≠ 1) (ho : S.ops ≤ 4611686018427387904) (hlm : S.left ≤ 9223372036854775807) :
    Calls Tryz.prog 20 #[.pointer (some ⟨d, 0, none⟩), .string s] w fun x w' => x = .returned (.int .i64 0) ∧ DiskAt w' d bm { S with ops := S.ops + 1, left := S.left - 1, fs := swap S.fs e (endE e e.bs.length) } ∧ Moved w w' (foot d bm S.fs) (foot d bm (swap S.fs e (endE e e.bs.length))) := by
  have F : Hid (Calls Tryz.prog 54 #[.pointer (some ⟨d, 0, none⟩), .string s] w fun x w' => x = .returned (.tuple #[.pointer (some ⟨e.b, 0, none⟩), .int .i64 0]) ∧ w.grownBy w' none) := find_ok h s hs hc hf
  have he := (find_some hf).1
  have hmf : ∀ (fn : Fn) (first cap : Array Value) (w : World), (Instr.makeFunc fn first cap).run Tryz.prog w = .ok (.func fn first cap) w := fun _ _ _ _ => rfl
  have OP : Hid (∀ w1, w.grownBy w1 none → ∀ v, Calls Tryz.prog 51 #[.pointer (some ⟨d, 0, none⟩), .func (.func 58) #[] #[.pointer (some ⟨w1.heap.size, 0, none⟩)], v] (w1.alloc (.cells #[.pointer (some ⟨e.b, 0, none⟩)] 70)) fun x w2 => x = .returned (.int .i64 0) ∧ DiskAt w2 d bm { S with ops := S.ops + 1, left := S.left - 1, fs := swap S.fs e (endE e e.bs.length) } ∧ Moved w w2 (foot d bm S.fs) (foot d bm (swap S.fs e (endE e e.bs.length)))) := by
    intro w1 hg v
    have hD : DiskAt (w1.alloc (.cells #[.pointer (some ⟨e.b, 0, none⟩)] 70)) d bm S := (h.carry (w' := w1) fun i hi => hg.block i (h.lt i hi) (by simp)).alloc _
    have hM0 : Moved w (w1.alloc (.cells #[.pointer (some ⟨e.b, 0, none⟩)] 70)) (foot d bm S.fs) (foot d bm S.fs) := (Moved.none_of hg _).trans (Moved.alloc _ _)
    have hdl := h.head.lt
    refine operateSync hD hl ho hlm w1.heap.size v _ fun w2 hD2 hM2 => ?_
    have hcell : w2.cell? ⟨w1.heap.size, 0, none⟩ = some (.pointer (some ⟨e.b, 0, none⟩)) := by
      rw [World.cell?_of_block (a := ⟨w1.heap.size, 0, none⟩) (hM2.kept w1.heap.size (by simp) (by have := hg.size; simp; omega))]
      exact box_new _ _ _
    refine (sync1_any hD2 he hcell).mono ?_
    rintro x w3 ⟨rfl, hD3, hM3⟩
    exact ⟨rfl, hD3, (hM0.trans (hM2.wider (fun i hi => .inl (by simp at hi; simp [foot, hi])) (fun i hi => .inl hi))).trans hM3⟩
  clear h hs hc hf he
  go_enter Tryz.func20, Tryz.ntmps20
  go_wp2_with (first | (go_at_call 54; refine F.out.mono ?_; rintro x w1 ⟨rfl, hg⟩) | (go_at_call 51; go_fit (OP.out _ hg _); rintro x w2 ⟨rfl, hE⟩))
  go_ret
  exact ⟨rfl, hE⟩
end
end Go.Proofs.YtoeoioigelknnaaGreat
namespace Go.Proofs.YtoeoioigelknnaaGreat
open Go.RowKit Go.Maps

def newS (room : Nat) : St := ⟨[], room, true, 0, 0, 0, 0⟩
set_option maxRecDepth 100000 in
theorem new_ok (room : Nat) (hr : room ≤ 1073741824) (w : World) :
    Calls Tryz.prog 4 #[.int .i64 (room : Int)] w fun x w' => ∃ d bm, x = .returned (.pointer (some ⟨d, 0, none⟩)) ∧ DiskAt w' d bm (newS room) ∧ w.grownBy w' none ∧ w.heap.size ≤ d ∧ w.heap.size ≤ bm := by
  have hmm := @run_makeMap Tryz.prog
  have hri : (room : Int) ≤ 1073741824 := by omega
  go_enter Tryz.func4, Tryz.ntmps4
  go_wp2
  go_ret
  refine ⟨w.heap.size + 1, w.heap.size, by simp, ⟨?_, ?_, by simp [newS], ?_⟩, ?_, by omega, Nat.le_refl _⟩
  · have := Blk.new (w.alloc (.map #[] 0)) (headOf w.heap.size (newS room)) 44
    rw [World.size_alloc] at this
    exact this
  · exact map_carry (World.ownsMap_made w _ _ _) (Below.heap_alloc _ _ _ (by simp))
  · simp [foot, feet, newS]
  · exact ⟨rfl, rfl, rfl, by simp; omega, fun k hk _ => (Below.heap_alloc _ _ _ (by simp; omega)).trans (Below.heap_alloc _ _ _ hk)⟩

/-- Behind the boxes of a call: the disk is as it was, the boxes hold the disk and the name. -/
structure Boxed2 (w : World) (d bm : Nat) (S : St) (s : ByteArray) (w1 : World) : Prop where
  disk : DiskAt w1 d bm S
  moved : Moved w w1 (foot d bm S.fs) (foot d bm S.fs)
  k1 : w1.cell? ⟨w.heap.size, 0, none⟩ = some (.pointer (some ⟨d, 0, none⟩))
  k2 : w1.cell? ⟨w.heap.size + 1, 0, none⟩ = some (.string s)
  size : w.heap.size + 2 ≤ w1.heap.size
theorem Boxed2.start {w : World} {d bm : Nat} {S : St} (h : DiskAt w d bm S) (s : ByteArray) : Boxed2 w d bm S s ((w.alloc (.cells #[.pointer (some ⟨d, 0, none⟩)] 23)).alloc (.cells #[.string s] 9)) := by
  refine ⟨(h.alloc _).alloc _, (Moved.alloc _ _).trans (Moved.alloc _ _), ((Blk.new w [.pointer (some ⟨d, 0, none⟩)] 23).alloc _).cell 0 rfl, ?_, by simp⟩
  have := box_new (w.alloc (.cells #[.pointer (some ⟨d, 0, none⟩)] 23)) (.string s) 9
  rwa [World.size_alloc] at this
theorem Boxed2.grown {w : World} {d bm : Nat} {S : St} {s : ByteArray} {w1 w2 : World} (h : Boxed2 w d bm S s w1) (hg : w1.grownBy w2 none) : Boxed2 w d bm S s w2 :=
  ⟨h.disk.carry fun i hi => hg.block i (h.disk.lt i hi) (by simp), h.moved.trans (Moved.none_of hg _), hg.cell h.k1 (by simp), hg.cell h.k2 (by simp), Nat.le_trans h.size hg.size⟩
theorem Boxed2.drewN {w : World} {d bm : Nat} {S : St} {s : ByteArray} {w1 : World} (h : Boxed2 w d bm S s w1) (k : Nat) : Boxed2 w d bm S s (w1.drewN k) := ⟨h.disk.drewN k, h.moved.drewN k, h.k1, h.k2, h.size⟩
theorem refused_boxed {w : World} {d bm : Nat} {S : St} (h : DiskAt w d bm S) (s : ByteArray) (hs : s.size ≤ maxLen) :
    Calls Tryz.prog 42 #[.pointer (some ⟨d, 0, none⟩), .slice (some ⟨w.heap.size + 2, 0, none⟩) 1 1] (((w.alloc (.cells #[.pointer (some ⟨d, 0, none⟩)] 23)).alloc (.cells #[.string s] 9)).alloc (.cells #[.string s] 9)) fun x w1 => x = .returned (.int .i64 (refuse S.on [s])) ∧ Boxed2 w d bm S s w1 := by
  have hB := Boxed2.start h s
  have R := refused_one hB.disk s hs
  have hsz : ((w.alloc (.cells #[.pointer (some ⟨d, 0, none⟩)] 23)).alloc (.cells #[.string s] 9)).heap.size = w.heap.size + 2 := by simp
  rw [hsz] at R
  refine R.mono ?_
  rintro x w1 ⟨rfl, rfl⟩
  exact ⟨rfl, hB.grown (World.grownBy_alloc _ _ _)⟩
theorem Boxed2.len {w : World} {d bm : Nat} {S : St} {s : ByteArray} {w1 : World} (h : Boxed2 w d bm S s w1) (ty : TypeId) : (Builtin.len_ #[42] ty #[.map (some bm)]).run Tryz.prog w1 = .ok (.int .i64 (S.fs.length : Int)) w1 := by
  have := h.disk.map.len Tryz.underlying42 ty
  rwa [datum_size] at this

section
variable {w : World} {d bm : Nat} {S : St} (h : DiskAt w d bm S) (s : ByteArray) (hs : s.size ≤ maxLen)
include h hs
theorem create_operate (hl : S.left ≠ 1) (ho : S.ops ≤ 4611686018427387904) (hlm : S.left ≤ 9223372036854775807) (hn : S.fs.length < maxLen) {w1 : World} (hB : Boxed2 w d bm S s w1) (v : Value) :
    Calls Tryz.prog 51 #[.pointer (some ⟨d, 0, none⟩), .func (.func 52) #[] #[.pointer (some ⟨w.heap.size, 0, none⟩), .pointer (some ⟨w.heap.size + 1, 0, none⟩)], v] w1 fun x w' => x = .returned (.int .i64 0) ∧ ∃ b, DiskAt w' d bm { S with ops := S.ops + 1, left := S.left - 1, fs := putE S.fs (newE (nameOf s) b) } ∧ Moved w w' (foot d bm S.fs) (foot d bm (putE S.fs (newE (nameOf s) b))) := by
  have hdl := h.head.lt
  refine operateCreate hB.disk hl ho hlm w.heap.size (w.heap.size + 1) v _ fun w2 hD2 hM2 => ?_
  have hk : ∀ i, i < w1.heap.size → i ≠ d → w2.heap[i]? = w1.heap[i]? := fun i hi hne => hM2.kept i hi (by simpa using hne)
  have hz := hB.size
  have e1 : w2.cell? ⟨w.heap.size, 0, none⟩ = some (.pointer (some ⟨d, 0, none⟩)) := (World.cell?_of_block (a := ⟨w.heap.size, 0, none⟩) (hk w.heap.size (by omega) (by omega))).trans hB.k1
  have e2 : w2.cell? ⟨w.heap.size + 1, 0, none⟩ = some (.string s) := (World.cell?_of_block (a := ⟨w.heap.size + 1, 0, none⟩) (hk (w.heap.size + 1) (by omega) (by omega))).trans hB.k2
  refine (create1_any hD2 e1 e2 hs hn).mono ?_
  rintro x w3 ⟨rfl, b, hD3, hM3⟩
  exact ⟨rfl, b, hD3, (hB.moved.trans (hM2.wider (fun i hi => .inl (by simp at hi; simp [foot, hi])) (fun i hi => .inl hi))).trans hM3⟩
set_option maxRecDepth 100000 in
set_option maxHeartbeats 1000000 in
theorem create_new (hc : refuse S.on [s] = 0) (hf : find S.fs (nameOf s) = none) (hlen : S.fs.length < 48) (hu : sumUsed S.fs < S.room) (hr : S.room ≤ 1073741824) (hl : S.left ≠ 1) (ho : S.ops ≤ 4611686018427387904) (hlm : S.left ≤ 9223372036854775807) :
    Calls Tryz.prog 18 #[.pointer (some ⟨d, 0, none⟩), .string s] w fun x w' => x = .returned (.int .i64 0) ∧ ∃ b, DiskAt w' d bm { S with ops := S.ops + 1, left := S.left - 1, fs := putE S.fs (newE (nameOf s) b) } ∧ Moved w w' (foot d bm S.fs) (foot d bm (putE S.fs (newE (nameOf s) b))) := by
  have hmf : ∀ (fn : Fn) (first cap : Array Value) (w : World), (Instr.makeFunc fn first cap).run Tryz.prog w = .ok (.func fn first cap) w := fun _ _ _ _ => rfl
  have R := refused_boxed h s hs
  rw [hc] at R
  have R : Hid (Calls Tryz.prog 42 #[.pointer (some ⟨d, 0, none⟩), .slice (some ⟨w.heap.size + 2, 0, none⟩) 1 1] (((w.alloc (.cells #[.pointer (some ⟨d, 0, none⟩)] 23)).alloc (.cells #[.string s] 9)).alloc (.cells #[.string s] 9)) fun x w1 => x = .returned (.int .i64 0) ∧ Boxed2 w d bm S s w1) := R
  have F : Hid (∀ w1, Boxed2 w d bm S s w1 → Calls Tryz.prog 50 #[.pointer (some ⟨d, 0, none⟩)] w1 fun x w2 => x = .returned (.int .i64 ((S.room : Int) - (sumUsed S.fs : Int))) ∧ Boxed2 w d bm S s w2) := fun w1 hB => (free_any hB.disk (refuse_on hc) (by omega) hr).mono fun x w2 hh => ⟨hh.1, hB.grown hh.2⟩
  have LK : Hid (∀ w1, Boxed2 w d bm S s w1 → ∀ k, (Instr.lookup 42 (.map (some bm)) (.string s) false).run Tryz.prog (w1.drewN k) = .ok (.pointer none) (w1.drewN k)) := fun w1 hB k => look_none (hB.drewN k).disk.map hs hf
  have O : Hid (∀ w1, Boxed2 w d bm S s w1 → ∀ v k, Calls Tryz.prog 51 #[.pointer (some ⟨d, 0, none⟩), .func (.func 52) #[] #[.pointer (some ⟨w.heap.size, 0, none⟩), .pointer (some ⟨w.heap.size + 1, 0, none⟩)], v] (w1.drewN k) fun x w' => x = .returned (.int .i64 0) ∧ ∃ b, DiskAt w' d bm { S with ops := S.ops + 1, left := S.left - 1, fs := putE S.fs (newE (nameOf s) b) } ∧ Moved w w' (foot d bm S.fs) (foot d bm (putE S.fs (newE (nameOf s) b)))) := fun w1 hB v k => create_operate h s hs hl ho hlm (by unfold maxLen; omega) (hB.drewN k) v
  have hg1 : decide (48 ≤ (S.fs.length : Int)) = false := decide_eq_false (by omega)
  have hg2 : decide ((S.room : Int) - (sumUsed S.fs : Int) < 1) = false := decide_eq_false (by omega)
  have hlb : (S.fs.length : Int) < 48 := by omega
  clear h hs hc hf ho hlm hl hr hu hlen
  generalize (S.room : Int) - (sumUsed S.fs : Int) = fr at *
  go_enter Tryz.func18, Tryz.ntmps18
  go_wp2_with (first | (go_at_call 42; go_fit R.out; rintro x w1 ⟨rfl, hB⟩; have c0 := hB.disk.c0; have k1 := hB.k1; have k2 := hB.k2; have hln := hB.len) | (go_at_call 50; go_fit (F.out _ hB); rintro x w2 ⟨rfl, hB2⟩; have d0 := hB2.disk.c0; have e1 := hB2.k1; have e2 := hB2.k2; have lk := LK.out _ hB2))
  go_quiet (fail)
  go_wp2_with (go_at_call 51; go_fit (O.out _ hB2 _ _); rintro x w3 ⟨rfl, hE⟩)
  go_ret
  exact ⟨rfl, hE⟩
end
end Go.Proofs.YtoeoioigelknnaaGreat
namespace Go.Proofs.YtoeoioigelknnaaGreat
open Go.RowKit Go.Maps

theorem owns_base {w : World} {base base' e n : Nat} {v : Value} {xs : List Value} (h : w.ownsRow base e 1 v n xs) (hb : base' ≤ base) : w.ownsRow base' e 1 v n xs := by
  refine ⟨h.1, ?_⟩
  rcases h.2 with hn | ⟨g, cap, cur, rfl, h1, rest⟩
  · exact .inl hn
  · exact .inr ⟨g, cap, cur, rfl, Nat.le_trans hb h1, rest⟩
theorem B8_ints (l : List UInt8) : (l.map fun b => (b.toNat : Int)).map (Value.int .u8) = B8 l := by simp [B8, List.map_map]
/-- A copy of a file's bytes. -/
theorem clone_any {w : World} {e : Ent} (h : EntAt w e) (hl : e.bs.length ≤ 1099511627776) :
    Calls Tryz.prog 62 #[e.v1] w fun x w' => ∃ v, x = .returned v ∧ w'.ownsRow w.heap.size 5 1 v e.bs.length (B8 e.bs) ∧ w.grownBy w' none := by
  rcases h.row1.2 with ⟨hv, h0⟩ | ⟨g, cap, cur, hv, _⟩
  · rw [hv]
    refine (Tryz.bytes_Clone_nil 0 0 w).mono ?_
    rintro x w' ⟨rfl, rfl⟩
    have hz : e.bs = [] := List.eq_nil_of_length_eq_zero h0
    exact ⟨_, rfl, by rw [hz]; exact World.ownsRow_nil _ _ _ _, World.grownBy.refl _ _⟩
  · rw [hv]
    refine (Tryz.bytes_Clone_at ⟨g, 0, none⟩ e.bs.length cap (e.bs.map fun b => (b.toNat : Int)) w (List.length_map _) (by omega) ?_).mono ?_
    · intro i hi
      have := h.row1.cells (g := g) (by rw [hv]; rfl) i _ (B8_at e.bs i hi)
      rw [this]
      simp [List.getD, hi]
    · rintro x w' ⟨v', rfl, ho, _, hb⟩
      rw [B8_ints] at ho
      exact ⟨v', rfl, ho, ⟨hb.os, hb.tape, hb.output, hb.size, fun k hk _ => hb.block k hk⟩⟩
section
variable {w : World} {d bm : Nat} {S : St} (h : DiskAt w d bm S) (s : ByteArray) (hs : s.size ≤ maxLen)
include h hs
theorem read_ok (hc : refuse S.on [s] = 0) {e : Ent} (hf : find S.fs (nameOf s) = some e) (hl : e.bs.length ≤ 1099511627776) :
    Calls Tryz.prog 23 #[.pointer (some ⟨d, 0, none⟩), .string s] w fun x w' => ∃ v, x = .returned (.tuple #[v, .int .i64 0]) ∧ w'.ownsRow w.heap.size 5 1 v e.bs.length (B8 e.bs) ∧ w.grownBy w' none := by
  have F : Hid (Calls Tryz.prog 54 #[.pointer (some ⟨d, 0, none⟩), .string s] w fun x w' => x = .returned (.tuple #[.pointer (some ⟨e.b, 0, none⟩), .int .i64 0]) ∧ w.grownBy w' none) := find_ok h s hs hc hf
  have he := (find_some hf).1
  have C : Hid (∀ w1, w.grownBy w1 none → EntAt w1 e ∧ Calls Tryz.prog 62 #[e.v1] w1 fun x w' => ∃ v, x = .returned v ∧ w'.ownsRow w.heap.size 5 1 v e.bs.length (B8 e.bs) ∧ w.grownBy w' none) := by
    intro w1 hg
    have hE : EntAt w1 e := (h.ents e he).carry fun i hi => hg.block i ((h.ents e he).lt i hi) (by simp)
    refine ⟨hE, (clone_any hE hl).mono ?_⟩
    rintro x w' ⟨v, rfl, ho, hg2⟩
    exact ⟨v, rfl, owns_base ho hg.size, hg.andThen hg2 (fun j hj => by cases hj)⟩
  clear h hs hc hf he hl
  go_enter Tryz.func23, Tryz.ntmps23
  go_wp2_with (first | (go_at_call 54; refine F.out.mono ?_; rintro x w1 ⟨rfl, hg⟩; obtain ⟨hE, hC⟩ := C.out w1 hg; have c0 := hE.c0; have HC : Hid (Calls Tryz.prog 62 #[e.v1] w1 fun x w' => ∃ v, x = .returned v ∧ w'.ownsRow w.heap.size 5 1 v e.bs.length (B8 e.bs) ∧ w.grownBy w' none) := hC; clear hC hE) | (go_at_call 62; go_fit HC.out; rintro x w2 ⟨v, rfl, hv⟩))
  go_ret2
  exact ⟨v, rfl, hv⟩
end
end Go.Proofs.YtoeoioigelknnaaGreat
namespace Go.Proofs.YtoeoioigelknnaaGreat
open Go.RowKit

theorem info8 : (Tryz.prog.info? 5).map (fun i => (i.zero, i.size, i.bytes)) = some (some (.int .u8 0), 1, 1) := by kernel_rfl

/-- One byte, laid in a block of its own, as a source. -/
theorem src_one (w : World) (z : Int) (b : UInt8) (h : (b.toNat : Int) = z) :
    Src Tryz.prog 1 29 (.slice (some ⟨w.heap.size, 0, none⟩) 1 1) 1 (B8 [b]) (w.alloc (.cells #[.int .u8 z] 5)) := by
  refine Src.ofSlice _ Tryz.underlying29 _ 1 1 _ (by simp [B8_length]) ?_ (B8_one _)
  intro j u hu
  match j, hu with
  | 0, hu => simp [B8] at hu; subst hu; simp [Addr.add, h]
  | j + 1, hu => simp [B8] at hu

end Go.Proofs.YtoeoioigelknnaaGreat
namespace Go.Proofs.YtoeoioigelknnaaGreat
open Go.RowKit

/-- A text in bytes: its length, then it. -/
def txtL (s : List UInt8) : List UInt8 := numL s.length ++ s

theorem conv_sees {w : World} {ao : Option Addr} {l : List UInt8} (h : Sees w ao l) (hn : ao = none → l.length = 0) (cap : Nat) :
    (convert 29 9 (.slice ao l.length cap)).run Tryz.prog w = .ok (.string ⟨l.toArray⟩) w := by
  cases ao with
  | none =>
    obtain rfl : l = [] := List.eq_nil_of_length_eq_zero (hn rfl)
    rw [run_convert_bytes_string w 29 9 5 none _ cap Tryz.underlying29 Tryz.underlying5 Tryz.underlying9]
    rfl
  | some a =>
    refine run_convert_bytes_back w 29 9 5 a cap l Tryz.underlying29 Tryz.underlying5 Tryz.underlying9 fun j hj => ?_
    obtain ⟨a', e, hc⟩ := h j hj
    obtain rfl := Option.some.inj e
    rw [hc]; simp [List.getD, hj]

set_option maxHeartbeats 400000 in
theorem same_any (ao bo : Option Addr) (la lb : List UInt8) (ca cb : Nat) (w : World) (ha : Sees w ao la) (hb : Sees w bo lb) (hna : ao = none → la.length = 0) (hnb : bo = none → lb.length = 0) :
    Calls Tryz.prog 35 #[.slice ao la.length ca, .slice bo lb.length cb] w fun e w' => e = .returned (.bool (la == lb)) ∧ w' = w := by
  have c1 := conv_sees ha hna ca
  have c2 := conv_sees hb hnb cb
  go_enter Tryz.func35, Tryz.ntmps35
  go_wp2
  go_ret
  exact ⟨rfl, rfl⟩
end Go.Proofs.YtoeoioigelknnaaGreat
