/-
  SEVERAL TEXTS IN ONE: DskCut, DskFull.
-/
import Derived.Test.YtgkdodcidancpaaGreatDoorMany16
import Derived.Test.YtgkdodcidancpaaGreatDoorDskRename
import Derived.Test.YtgkdodcidancpaaGreatDoorDskAppend
namespace Go.Proofs.YtgkdodcidancpaaGreatDoor
open Go.RowKit Go.Maps

/-- The power went within an operation that did nothing. -/
def Cut (w : World) (d bm : Nat) (S : St) (x : Ending) (w' : World) : Prop := x = .returned (.int .i64 9) ∧ DiskAt w' d bm { S with on := false, ops := S.ops + 1, fs := S.fs.map fun e => loseE e (lineEndN S S.keep.toNat) } ∧ Moved w w' (foot d bm S.fs) (foot d bm S.fs)
set_option maxRecDepth 100000 in
set_option maxHeartbeats 1000000 in
theorem create_new_cut {w : World} {d bm : Nat} {S : St} (h : DiskAt w d bm S) (s : ByteArray) (hs : s.size ≤ maxLen) (hc : refuse S.on [s] = 0) (hf : find S.fs (nameOf s) = none) (hlen : S.fs.length < 48) (hu : sumUsed S.fs < S.room) (hr : S.room ≤ 1073741824) (hl : S.left = 1) (ho : S.ops ≤ 4611686018427387904) (hF : S.Fine) (hkp : -9223372036854775808 ≤ S.keep ∧ S.keep ≤ 9223372036854775807) :
    Calls Tryz.prog 27 #[.pointer (some ⟨d, 0, none⟩), .string s] w (Cut w d bm S) := by
  have hmf : ∀ (fn : Fn) (first cap : Array Value) (w : World), (Instr.makeFunc fn first cap).run Tryz.prog w = .ok (.func fn first cap) w := fun _ _ _ _ => rfl
  have R := refused_boxed h s hs
  rw [hc] at R
  have R : Hid (Calls Tryz.prog 21 #[.pointer (some ⟨d, 0, none⟩), .slice (some ⟨w.heap.size + 2, 0, none⟩) 1 1] (((w.alloc (.cells #[.pointer (some ⟨d, 0, none⟩)] 26)).alloc (.cells #[.string s] 9)).alloc (.cells #[.string s] 9)) fun x w1 => x = .returned (.int .i64 0) ∧ Boxed2 w d bm S s w1) := R
  have F : Hid (∀ w1, Boxed2 w d bm S s w1 → Calls Tryz.prog 54 #[.pointer (some ⟨d, 0, none⟩)] w1 fun x w2 => x = .returned (.int .i64 ((S.room : Int) - (sumUsed S.fs : Int))) ∧ Boxed2 w d bm S s w2) := fun w1 hB => (free_any hB.disk (refuse_on hc) (by omega) hr).mono fun x w2 hh => ⟨hh.1, hB.grown hh.2⟩
  have LK : Hid (∀ w1, Boxed2 w d bm S s w1 → ∀ k, (Instr.lookup 55 (.map (some bm)) (.string s) false).run Tryz.prog (w1.drewN k) = .ok (.pointer none) (w1.drewN k)) := fun w1 hB k => look_none (hB.drewN k).disk.map hs hf
  have O : Hid (∀ w1, Boxed2 w d bm S s w1 → ∀ v k, Calls Tryz.prog 55 #[.pointer (some ⟨d, 0, none⟩), v, .func (.func 57) #[] #[]] (w1.drewN k) (Cut w d bm S)) := fun w1 hB v k => (operate_cut (hB.drewN k).disk (refuse_on hc) hl ho hF hkp v).mono fun x w' hh => ⟨hh.1, hh.2.1, (hB.drewN k).moved.trans hh.2.2⟩
  have hg1 : decide (48 ≤ (S.fs.length : Int)) = false := decide_eq_false (by omega)
  have hg2 : decide ((S.room : Int) - (sumUsed S.fs : Int) < 1) = false := decide_eq_false (by omega)
  have hlb : (S.fs.length : Int) < 48 := by omega
  clear h hs hc hf ho hl hr hu hlen hF hkp
  generalize (S.room : Int) - (sumUsed S.fs : Int) = fr at *
  go_enter Tryz.func27, Tryz.ntmps27
  go_wp2_with (first | (go_at_call 21; go_fit R.out; rintro x w1 ⟨rfl, hB⟩; have c0 := hB.disk.c0; have k1 := hB.k1; have k2 := hB.k2; have hln := hB.len) | (go_at_call 54; go_fit (F.out _ hB); rintro x w2 ⟨rfl, hB2⟩; have d0 := hB2.disk.c0; have e1 := hB2.k1; have e2 := hB2.k2; have lk := LK.out _ hB2))
  go_quiet (fail)
  go_wp2_with (go_at_call 55; go_fit (O.out _ hB2 _ _); rintro x w3 ⟨rfl, hE⟩)
  go_ret
  exact ⟨rfl, hE⟩
set_option maxRecDepth 100000 in
set_option maxHeartbeats 1000000 in
theorem create_again_cut {w : World} {d bm : Nat} {S : St} (h : DiskAt w d bm S) (s : ByteArray) (hs : s.size ≤ maxLen) (hc : refuse S.on [s] = 0) {e : Ent} (hf : find S.fs (nameOf s) = some e) (hlen : S.fs.length < 48) (hu0 : sumUsed S.fs ≤ 1099511627776) (hr : S.room ≤ 1073741824) (hl : S.left = 1) (ho : S.ops ≤ 4611686018427387904) (hF : S.Fine) (hkp : -9223372036854775808 ≤ S.keep ∧ S.keep ≤ 9223372036854775807) :
    Calls Tryz.prog 27 #[.pointer (some ⟨d, 0, none⟩), .string s] w (Cut w d bm S) := by
  have hmf : ∀ (fn : Fn) (first cap : Array Value) (w : World), (Instr.makeFunc fn first cap).run Tryz.prog w = .ok (.func fn first cap) w := fun _ _ _ _ => rfl
  have R := refused_boxed h s hs
  rw [hc] at R
  have R : Hid (Calls Tryz.prog 21 #[.pointer (some ⟨d, 0, none⟩), .slice (some ⟨w.heap.size + 2, 0, none⟩) 1 1] (((w.alloc (.cells #[.pointer (some ⟨d, 0, none⟩)] 26)).alloc (.cells #[.string s] 9)).alloc (.cells #[.string s] 9)) fun x w1 => x = .returned (.int .i64 0) ∧ Boxed2 w d bm S s w1) := R
  have LK : Hid (∀ w1, Boxed2 w d bm S s w1 → ∀ k, (Instr.lookup 55 (.map (some bm)) (.string s) false).run Tryz.prog (w1.drewN k) = .ok (.pointer (some ⟨e.b, 0, none⟩)) (w1.drewN k)) := fun w1 hB k => look_some (hB.drewN k).disk.map hs hf
  have F : Hid (∀ w1, Boxed2 w d bm S s w1 → Calls Tryz.prog 54 #[.pointer (some ⟨d, 0, none⟩)] w1 fun x w2 => x = .returned (.int .i64 ((S.room : Int) - (sumUsed S.fs : Int))) ∧ Boxed2 w d bm S s w2) := fun w1 hB => (free_any hB.disk (refuse_on hc) hu0 hr).mono fun x w2 hh => ⟨hh.1, hB.grown hh.2⟩
  have O : Hid (∀ w1, Boxed2 w d bm S s w1 → ∀ v k, Calls Tryz.prog 55 #[.pointer (some ⟨d, 0, none⟩), v, .func (.func 57) #[] #[]] (w1.drewN k) (Cut w d bm S)) := fun w1 hB v k => (operate_cut (hB.drewN k).disk (refuse_on hc) hl ho hF hkp v).mono fun x w' hh => ⟨hh.1, hh.2.1, (hB.drewN k).moved.trans hh.2.2⟩
  have hg1 : decide (48 ≤ (S.fs.length : Int)) = false := decide_eq_false (by omega)
  have hlb : (S.fs.length : Int) < 48 := by omega
  clear h hs hc hf hlen hr hu0 hl ho hF hkp
  generalize (S.room : Int) - (sumUsed S.fs : Int) = fr at *
  go_enter Tryz.func27, Tryz.ntmps27
  go_wp2_with (first | (go_at_call 21; go_fit R.out; rintro x w1 ⟨rfl, hB⟩; have c0 := hB.disk.c0; have k1 := hB.k1; have k2 := hB.k2; have hln := hB.len; have lk0 := LK.out _ hB) | (go_at_call 54; go_fit (F.out _ hB); rintro x w2 ⟨rfl, hB2⟩; have d0 := hB2.disk.c0; have e1 := hB2.k1; have e2 := hB2.k2; have lk := LK.out _ hB2))
  go_quiet (fail)
  go_wp2_with (go_at_call 55; go_fit (O.out _ hB2 _ _); rintro x w3 ⟨rfl, hE⟩)
  go_ret
  exact ⟨rfl, hE⟩
set_option maxRecDepth 100000 in
set_option maxHeartbeats 1000000 in
theorem create_again_many_cut {w : World} {d bm : Nat} {S : St} (h : DiskAt w d bm S) (s : ByteArray) (hs : s.size ≤ maxLen) (hc : refuse S.on [s] = 0) {e : Ent} (hf : find S.fs (nameOf s) = some e) (hlen : 48 ≤ S.fs.length) (hl : S.left = 1) (ho : S.ops ≤ 4611686018427387904) (hF : S.Fine) (hkp : -9223372036854775808 ≤ S.keep ∧ S.keep ≤ 9223372036854775807) :
    Calls Tryz.prog 27 #[.pointer (some ⟨d, 0, none⟩), .string s] w (Cut w d bm S) := by
  have hmf : ∀ (fn : Fn) (first cap : Array Value) (w : World), (Instr.makeFunc fn first cap).run Tryz.prog w = .ok (.func fn first cap) w := fun _ _ _ _ => rfl
  have R := refused_boxed h s hs
  rw [hc] at R
  have R : Hid (Calls Tryz.prog 21 #[.pointer (some ⟨d, 0, none⟩), .slice (some ⟨w.heap.size + 2, 0, none⟩) 1 1] (((w.alloc (.cells #[.pointer (some ⟨d, 0, none⟩)] 26)).alloc (.cells #[.string s] 9)).alloc (.cells #[.string s] 9)) fun x w1 => x = .returned (.int .i64 0) ∧ Boxed2 w d bm S s w1) := R
  have LK : Hid (∀ w1, Boxed2 w d bm S s w1 → ∀ k, (Instr.lookup 55 (.map (some bm)) (.string s) false).run Tryz.prog (w1.drewN k) = .ok (.pointer (some ⟨e.b, 0, none⟩)) (w1.drewN k)) := fun w1 hB k => look_some (hB.drewN k).disk.map hs hf
  have O : Hid (∀ w1, Boxed2 w d bm S s w1 → ∀ v k, Calls Tryz.prog 55 #[.pointer (some ⟨d, 0, none⟩), v, .func (.func 57) #[] #[]] (w1.drewN k) (Cut w d bm S)) := fun w1 hB v k => (operate_cut (hB.drewN k).disk (refuse_on hc) hl ho hF hkp v).mono fun x w' hh => ⟨hh.1, hh.2.1, (hB.drewN k).moved.trans hh.2.2⟩
  have hg1 : decide (48 ≤ (S.fs.length : Int)) = true := decide_eq_true (by omega)
  have hlb : (48 : Int) ≤ (S.fs.length : Int) := by omega
  clear h hs hc hf hlen hl ho hF hkp
  go_enter Tryz.func27, Tryz.ntmps27
  go_wp2_with (go_at_call 21; go_fit R.out; rintro x w1 ⟨rfl, hB⟩; have c0 := hB.disk.c0; have k1 := hB.k1; have k2 := hB.k2; have hln := hB.len; have lk0 := LK.out _ hB)
  go_quiet (fail)
  go_wp2_with (go_at_call 55; go_fit (O.out _ hB _ _); rintro x w3 ⟨rfl, hE⟩)
  go_ret
  exact ⟨rfl, hE⟩
set_option maxRecDepth 100000 in
set_option maxHeartbeats 1000000 in
theorem sync_cut {w : World} {d bm : Nat} {S : St} (h : DiskAt w d bm S) (s : ByteArray) (hs : s.size ≤ maxLen) (hc : refuse S.on [s] = 0) {e : Ent} (hf : find S.fs (nameOf s) = some e) (hl : S.left = 1) (ho : S.ops ≤ 4611686018427387904) (hF : S.Fine) (hkp : -9223372036854775808 ≤ S.keep ∧ S.keep ≤ 9223372036854775807) :
    Calls Tryz.prog 31 #[.pointer (some ⟨d, 0, none⟩), .string s] w (Cut w d bm S) := by
  have F : Hid (Calls Tryz.prog 58 #[.pointer (some ⟨d, 0, none⟩), .string s] w fun x w' => x = .returned (.tuple #[.pointer (some ⟨e.b, 0, none⟩), .int .i64 0]) ∧ w.grownBy w' none) := find_ok h s hs hc hf
  have hmf : ∀ (fn : Fn) (first cap : Array Value) (w : World), (Instr.makeFunc fn first cap).run Tryz.prog w = .ok (.func fn first cap) w := fun _ _ _ _ => rfl
  have OP : Hid (∀ w1, w.grownBy w1 none → ∀ v, Calls Tryz.prog 55 #[.pointer (some ⟨d, 0, none⟩), v, .func (.func 57) #[] #[]] (w1.alloc (.cells #[.pointer (some ⟨e.b, 0, none⟩)] 84)) (Cut w d bm S)) := fun w1 hg v => by
    have hD : DiskAt (w1.alloc (.cells #[.pointer (some ⟨e.b, 0, none⟩)] 84)) d bm S := (h.carry (w' := w1) fun i hi => hg.block i (h.lt i hi) (by simp)).alloc _
    have hM0 : Moved w (w1.alloc (.cells #[.pointer (some ⟨e.b, 0, none⟩)] 84)) (foot d bm S.fs) (foot d bm S.fs) := (Moved.none_of hg _).trans (Moved.alloc _ _)
    exact (operate_cut hD (refuse_on hc) hl ho hF hkp v).mono fun x w' hh => ⟨hh.1, hh.2.1, hM0.trans hh.2.2⟩
  clear h hs hc hf hF hkp
  go_enter Tryz.func31, Tryz.ntmps31
  go_wp2_with (first | (go_at_call 58; refine F.out.mono ?_; rintro x w1 ⟨rfl, hg⟩) | (go_at_call 55; go_fit (OP.out _ hg _); rintro x w2 ⟨rfl, hE⟩))
  go_ret
  exact ⟨rfl, hE⟩
set_option maxRecDepth 100000 in
set_option maxHeartbeats 1000000 in
theorem rename_cut {w : World} {d bm : Nat} {S : St} (h : DiskAt w d bm S) (s t : ByteArray) (hs : s.size ≤ maxLen) (ht : t.size ≤ maxLen) (hc : refuse S.on [s, t] = 0) (hc1 : refuse S.on [s] = 0) {e : Ent} (hf : find S.fs (nameOf s) = some e) (hl : S.left = 1) (ho : S.ops ≤ 4611686018427387904) (hF : S.Fine) (hkp : -9223372036854775808 ≤ S.keep ∧ S.keep ≤ 9223372036854775807) :
    Calls Tryz.prog 33 #[.pointer (some ⟨d, 0, none⟩), .string s, .string t] w (Cut w d bm S) := by
  have hmf : ∀ (fn : Fn) (first cap : Array Value) (w : World), (Instr.makeFunc fn first cap).run Tryz.prog w = .ok (.func fn first cap) w := fun _ _ _ _ => rfl
  have R := refused_two h s t hs ht
  rw [hc] at R
  have R : Hid (Calls Tryz.prog 21 #[.pointer (some ⟨d, 0, none⟩), .slice (some ⟨w.heap.size + 3, 0, none⟩) 2 2] ((((w.alloc (.cells #[.pointer (some ⟨d, 0, none⟩)] 26)).alloc (.cells #[.string s] 9)).alloc (.cells #[.string t] 9)).alloc (.cells #[.string s, .string t] 9)) fun x w1 => x = .returned (.int .i64 0) ∧ Boxed5 w d bm S s t w1) := R
  have F : Hid (∀ w1, Boxed5 w d bm S s t w1 → Calls Tryz.prog 58 #[.pointer (some ⟨d, 0, none⟩), .string s] w1 fun x w' => x = .returned (.tuple #[.pointer (some ⟨e.b, 0, none⟩), .int .i64 0]) ∧ Boxed5 w d bm S s t w') := fun w1 hB => (find_ok hB.disk s hs hc1 hf).mono fun x w' hh => ⟨hh.1, hB.grown hh.2⟩
  have O : Hid (∀ w1, Boxed5 w d bm S s t w1 → ∀ v, Calls Tryz.prog 55 #[.pointer (some ⟨d, 0, none⟩), v, .func (.func 57) #[] #[]] (w1.alloc (.cells #[.pointer (some ⟨e.b, 0, none⟩)] 84)) (Cut w d bm S)) := fun w1 hB1 v => by
    have hB2 := hB1.grown (World.grownBy_alloc w1 (.cells #[.pointer (some ⟨e.b, 0, none⟩)] 84) none)
    exact (operate_cut hB2.disk (refuse_on hc) hl ho hF hkp v).mono fun x w' hh => ⟨hh.1, hh.2.1, hB2.moved.trans hh.2.2⟩
  clear h hs ht hc hc1 hf hF hkp
  go_enter Tryz.func33, Tryz.ntmps33
  go_wp2_with (first | (go_at_call 21; go_fit R.out; rintro x w1 ⟨rfl, hB⟩; have k1 := hB.k1; have k2 := hB.k2) | (go_at_call 58; go_fit (F.out _ hB); rintro x w2 ⟨rfl, hB2⟩; have k1' := hB2.k1; have hzz : w.heap.size < w2.heap.size := by (have := hB2.size; omega)) | (go_at_call 55; go_fit (O.out _ hB2 _); rintro x w3 ⟨rfl, hE⟩))
  go_ret
  exact ⟨rfl, hE⟩

/-- The power went within an Append. -/
def CutApp (w : World) (d bm : Nat) (S : St) (e : Ent) (l : List UInt8) (x : Ending) (w' : World) : Prop := x = .returned (.int .i64 9) ∧ ∃ e', e'.nm = e.nm ∧ e'.b = e.b ∧ e'.bs = e.bs ++ l ∧ e'.wr = e.wr ∧ e'.pl = e.pl ++ List.range' S.next (growS e l) ∧
  ∃ S1 : St, S1 = { S with ops := S.ops + 1, next := S.next + growS e l, fs := swap S.fs e e' } ∧ DiskAt w' d bm { S1 with on := false, fs := S1.fs.map fun e => loseE e (lineEndN S1 S.keep.toNat) } ∧ Moved w w' (foot d bm S.fs) (foot d bm (S1.fs.map fun e => loseE e (lineEndN S1 S.keep.toNat)))
set_option maxRecDepth 100000 in
theorem operate_cutAppend {w : World} {d bm : Nat} {S : St} (h : DiskAt w d bm S) (hl : S.left = 1) (ho : S.ops ≤ 4611686018427387904) (p1 p2 p3 : Nat) (v : Value) (Q Q2 : World → Prop)
    (C : ∀ w1, DiskAt w1 d bm { S with ops := S.ops + 1 } → Moved w w1 [d] [d] → Calls Tryz.prog 60 #[.pointer (some ⟨p1, 0, none⟩), .pointer (some ⟨p2, 0, none⟩), .pointer (some ⟨p3, 0, none⟩)] w1 fun x w2 => x = .returned (.tuple #[]) ∧ w2.cell? ⟨d, 6, none⟩ = some (.int .i64 S.keep) ∧ Q w2)
    (C2 : ∀ w1, Q w1 → Calls Tryz.prog 97 #[.pointer (some ⟨d, 0, none⟩), .int .i64 S.keep] w1 fun x w2 => x = .returned (.tuple #[]) ∧ Q2 w2) :
    Calls Tryz.prog 55 #[.pointer (some ⟨d, 0, none⟩), v, .func (.func 60) #[] #[.pointer (some ⟨p1, 0, none⟩), .pointer (some ⟨p2, 0, none⟩), .pointer (some ⟨p3, 0, none⟩)]] w fun x w2 => x = .returned (.int .i64 9) ∧ Q2 w2 := by
  have c3 := h.c3
  have f3 := h.head.frozen 3
  have c5 := h.c5
  rw [hl] at c5
  have h1 := h.put (S' := { S with ops := S.ops + 1 }) rfl 3 (.int .i64 ((S.ops + 1 : Nat) : Int)) rfl
  have hc := C _ h1 (Moved.of_set d 3 _)
  have t1 := ops_text S.ops ho
  generalize hA : ((S.ops + 1 : Nat) : Int) = A at *
  have HC : Hid (Calls Tryz.prog 60 #[.pointer (some ⟨p1, 0, none⟩), .pointer (some ⟨p2, 0, none⟩), .pointer (some ⟨p3, 0, none⟩)] (w.setCell ⟨d, 3, none⟩ (.int .i64 A)) fun x w2 => x = .returned (.tuple #[]) ∧ w2.cell? ⟨d, 6, none⟩ = some (.int .i64 S.keep) ∧ Q w2) := hc
  have HC2 : Hid (∀ w1, Q w1 → Calls Tryz.prog 97 #[.pointer (some ⟨d, 0, none⟩), .int .i64 S.keep] w1 fun x w2 => x = .returned (.tuple #[]) ∧ Q2 w2) := C2
  clear h h1 C C2 hc ho hl hA
  go_enter Tryz.func55, Tryz.ntmps55
  go_wp2_with (first | (go_at_call 60; go_fit HC.out; rintro x w2 ⟨rfl, c6, hQ⟩) | (go_at_call 97; go_fit (HC2.out _ hQ); rintro x w3 ⟨rfl, hQ2⟩))
  go_ret
  exact ⟨rfl, hQ2⟩
set_option maxHeartbeats 1000000 in
theorem append_operate_cut {w : World} {d bm : Nat} {S : St} {e : Ent} {ao : Option Addr} {l : List UInt8} {c g : Nat} {w1 : World} (hB : Boxed3 w d bm S e ao l c g w1) (he : e ∈ S.fs) (hdw : ∀ i ∈ foot d bm S.fs, i < w.heap.size) (hne : ∀ a, ao = some a → 0 < l.length → a.block ∉ foot d bm S.fs) (hon : S.on = true) (hl : S.left = 1) (ho : S.ops ≤ 4611686018427387904) (hkp : -9223372036854775808 ≤ S.keep ∧ S.keep ≤ 9223372036854775807) (hF1 : ∀ e' : Ent, e'.nm = e.nm → e'.b = e.b → e'.bs = e.bs ++ l → e'.wr = e.wr → e'.pl = e.pl ++ List.range' S.next (growS e l) → St.Fine { S with ops := S.ops + 1, next := S.next + growS e l, fs := swap S.fs e e' })
    (hlen : e.bs.length + l.length ≤ 1099511627776) (hnx : S.next ≤ 4611686018427387904) (hpl : e.pl.length ≤ 1099511627776) (hwr : e.wr ≤ 1099511627776) (v : Value) :
    Calls Tryz.prog 55 #[.pointer (some ⟨d, 0, none⟩), v, .func (.func 60) #[] #[.pointer (some ⟨g, 0, none⟩), .pointer (some ⟨w.heap.size + 1, 0, none⟩), .pointer (some ⟨w.heap.size, 0, none⟩)]] w1 (CutApp w d bm S e l) := by
  have hd : d < w.heap.size := hdw d (by simp [foot])
  refine (operate_cutAppend hB.disk hl ho g (w.heap.size + 1) w.heap.size v (fun w2 => ∃ e', e'.nm = e.nm ∧ e'.b = e.b ∧ e'.bs = e.bs ++ l ∧ e'.wr = e.wr ∧ e'.pl = e.pl ++ List.range' S.next (growS e l) ∧ DiskAt w2 d bm { S with ops := S.ops + 1, next := S.next + growS e l, fs := swap S.fs e e' } ∧ Moved w w2 (foot d bm S.fs) (foot d bm (swap S.fs e e')))
    (fun w2 => ∃ e', e'.nm = e.nm ∧ e'.b = e.b ∧ e'.bs = e.bs ++ l ∧ e'.wr = e.wr ∧ e'.pl = e.pl ++ List.range' S.next (growS e l) ∧ ∃ S1 : St, S1 = { S with ops := S.ops + 1, next := S.next + growS e l, fs := swap S.fs e e' } ∧ DiskAt w2 d bm { S1 with on := false, fs := S1.fs.map fun e => loseE e (lineEndN S1 S.keep.toNat) } ∧ Moved w w2 (foot d bm S.fs) (foot d bm (S1.fs.map fun e => loseE e (lineEndN S1 S.keep.toNat)))) ?_ ?_)
  rotate_left
  · rintro w2 ⟨e', a1, a2, a3, a4, a5, a6, a7⟩
    refine (crash_on a6 hon (hF1 e' a1 a2 a3 a4 a5) S.keep hkp.1 hkp.2).mono ?_
    rintro x w3 ⟨rfl, b1, b2⟩
    refine ⟨rfl, e', a1, a2, a3, a4, a5, _, rfl, b1, a7.trans (b2.sub fun i hi => ?_)⟩
    simp only [foot, List.mem_cons] at hi ⊢
    refine hi.imp id fun h => h.imp id fun h => ?_
    obtain ⟨y, hy, hi⟩ := feet_mem.1 h
    obtain ⟨z, hz, rfl⟩ := List.mem_map.1 hy
    exact feet_mem.2 ⟨z, hz, lose_foot hi⟩
  intro w2 hD2 hM2
  have hk : ∀ i, i < w1.heap.size → i ≠ d → w2.heap[i]? = w1.heap[i]? := fun i hi hne => hM2.kept i hi (by simpa using hne)
  have hz := hB.size
  have z1 := World.block_lt_of_cell? _ _ hB.k1
  have z2 := World.block_lt_of_cell? _ _ hB.k2
  have z3 := World.block_lt_of_cell? _ _ hB.k3
  have e1 : w2.cell? ⟨w.heap.size, 0, none⟩ = some (.pointer (some ⟨d, 0, none⟩)) := (World.cell?_of_block (a := ⟨w.heap.size, 0, none⟩) (hk w.heap.size z1 (by omega))).trans hB.k1
  have e2 : w2.cell? ⟨w.heap.size + 1, 0, none⟩ = some (.slice ao l.length c) := (World.cell?_of_block (a := ⟨w.heap.size + 1, 0, none⟩) (hk (w.heap.size + 1) z2 (by omega))).trans hB.k2
  have e3 : w2.cell? ⟨g, 0, none⟩ = some (.pointer (some ⟨e.b, 0, none⟩)) := (World.cell?_of_block (a := ⟨g, 0, none⟩) (hk g z3 (by omega))).trans hB.k3
  have hs2 : Sees w2 ao l := hB.sees.kept fun a ha h0 => hk _ (hB.sees.lt ha h0) fun e => hne a ha h0 (by rw [e]; simp [foot])
  refine (append1_any hD2 he e3 e2 e1 hs2 hlen hnx hpl hwr ?_).mono ?_
  · intro hi
    have := hdw w.heap.size (by simp only [foot, List.mem_cons]; exact .inr (.inr (feet_mem.2 ⟨e, he, hi⟩)))
    omega
  · rintro x w3 ⟨rfl, e', a1, a2, a3, a4, a5, a6, a7⟩
    exact ⟨rfl, a6.c6, e', a1, a2, a3, a4, a5, a6, (hB.moved.trans (hM2.wider (fun i hi => .inl (by simp at hi; simp [foot, hi])) (fun i hi => .inl hi))).trans a7⟩
set_option maxRecDepth 100000 in
set_option maxHeartbeats 2000000 in
theorem append_cut {w : World} {d bm : Nat} {S : St} (h : DiskAt w d bm S) (s : ByteArray) (hs : s.size ≤ maxLen) (ao : Option Addr) (l : List UInt8) (c : Nat) (hb : Sees w ao l) (hc : refuse S.on [s] = 0) {e : Ent} (hf : find S.fs (nameOf s) = some e) (hne : ∀ a, ao = some a → 0 < l.length → a.block ∉ foot d bm S.fs) (hl : S.left = 1) (ho : S.ops ≤ 4611686018427387904) (hkp : -9223372036854775808 ≤ S.keep ∧ S.keep ≤ 9223372036854775807) (hF1 : ∀ e' : Ent, e'.nm = e.nm → e'.b = e.b → e'.bs = e.bs ++ l → e'.wr = e.wr → e'.pl = e.pl ++ List.range' S.next (growS e l) → St.Fine { S with ops := S.ops + 1, next := S.next + growS e l, fs := swap S.fs e e' })
    (hlen : e.bs.length + l.length ≤ 1099511627776) (hnx : S.next ≤ 4611686018427387904) (hpl : e.pl.length ≤ 1099511627776) (hwr : e.wr ≤ 1099511627776) (hr : S.room ≤ 1073741824) (hu : sumUsed S.fs ≤ 1099511627776) (hfull : decide ((S.room : Int) - (sumUsed S.fs : Int) < secI ((e.bs.length : Int) + (l.length : Int)) - secI (e.bs.length : Int)) = false) :
    Calls Tryz.prog 29 #[.pointer (some ⟨d, 0, none⟩), .string s, .slice ao l.length c] w (CutApp w d bm S e l) := by
  have hmf : ∀ (fn : Fn) (first cap : Array Value) (w : World), (Instr.makeFunc fn first cap).run Tryz.prog w = .ok (.func fn first cap) w := fun _ _ _ _ => rfl
  have he := (find_some hf).1
  have FN : Hid (Calls Tryz.prog 58 #[.pointer (some ⟨d, 0, none⟩), .string s] ((w.alloc (.cells #[.pointer (some ⟨d, 0, none⟩)] 26)).alloc (.cells #[.slice ao l.length c] 58)) fun x w' => x = .returned (.tuple #[.pointer (some ⟨e.b, 0, none⟩), .int .i64 0]) ∧ ((w.alloc (.cells #[.pointer (some ⟨d, 0, none⟩)] 26)).alloc (.cells #[.slice ao l.length c] 58)).grownBy w' none) := find_ok ((h.alloc _).alloc _) s hs hc hf
  have BX : Hid (∀ w1, ((w.alloc (.cells #[.pointer (some ⟨d, 0, none⟩)] 26)).alloc (.cells #[.slice ao l.length c] 58)).grownBy w1 none → Boxed3 w d bm S e ao l c w1.heap.size (w1.alloc (.cells #[.pointer (some ⟨e.b, 0, none⟩)] 84))) := fun w1 hg => boxes_two h c hb hg e
  have LC : Hid (∀ g w3, Boxed3 w d bm S e ao l c g w3 → ∀ k, Calls Tryz.prog 59 #[.pointer (some ⟨e.b, 0, none⟩), .int .i64 (l.length : Int)] (w3.drewN k) fun x w4 => x = .returned (.int .i64 (secI ((e.bs.length : Int) + (l.length : Int)) - secI (e.bs.length : Int))) ∧ Boxed3 w d bm S e ao l c g w4) := fun g w3 hB k => (lacks_any ((hB.drewN k).disk.ents e he) l.length (by omega)).mono fun x w4 hh => ⟨hh.1, by obtain ⟨k', hk'⟩ := hh.2; rw [hk']; exact (hB.drewN k).drewN k'⟩
  have FC : Hid (∀ g w3, Boxed3 w d bm S e ao l c g w3 → ∀ k, Calls Tryz.prog 54 #[.pointer (some ⟨d, 0, none⟩)] (w3.drewN k) fun x w4 => x = .returned (.int .i64 ((S.room : Int) - (sumUsed S.fs : Int))) ∧ Boxed3 w d bm S e ao l c g w4) := fun g w3 hB k => (free_any (hB.drewN k).disk (refuse_on hc) hu hr).mono fun x w4 hh => ⟨hh.1, (hB.drewN k).grown hh.2⟩
  have LP : Hid (∀ g w3, Boxed3 w d bm S e ao l c g w3 → Calls Tryz.prog 59 #[.pointer (some ⟨e.b, 0, none⟩), .int .i64 (l.length : Int)] w3 fun x w4 => x = .returned (.int .i64 (secI ((e.bs.length : Int) + (l.length : Int)) - secI (e.bs.length : Int))) ∧ Boxed3 w d bm S e ao l c g w4) := fun g w3 hB => LC.out g w3 hB 0
  have FP : Hid (∀ g w3, Boxed3 w d bm S e ao l c g w3 → Calls Tryz.prog 54 #[.pointer (some ⟨d, 0, none⟩)] w3 fun x w4 => x = .returned (.int .i64 ((S.room : Int) - (sumUsed S.fs : Int))) ∧ Boxed3 w d bm S e ao l c g w4) := fun g w3 hB => FC.out g w3 hB 0
  have O : Hid (∀ g w1, Boxed3 w d bm S e ao l c g w1 → ∀ v, Calls Tryz.prog 55 #[.pointer (some ⟨d, 0, none⟩), v, .func (.func 60) #[] #[.pointer (some ⟨g, 0, none⟩), .pointer (some ⟨w.heap.size + 1, 0, none⟩), .pointer (some ⟨w.heap.size, 0, none⟩)]] w1 (CutApp w d bm S e l)) := fun g w1 hB v => append_operate_cut hB he h.lt hne (refuse_on hc) hl ho hkp hF1 hlen hnx hpl hwr v
  have hd := h.head.lt
  have ha := secI_bd (x := (e.bs.length : Int) + (l.length : Int)) ⟨by omega, by omega⟩
  clear hb he hf hc hs hne hl ho hkp hF1 hnx hpl hwr hlen h
  generalize (S.room : Int) - (sumUsed S.fs : Int) = fr at *
  generalize secI ((e.bs.length : Int) + (l.length : Int)) - secI (e.bs.length : Int) = lk at *
  clear ha
  go_enter Tryz.func29, Tryz.ntmps29
  go_wp2_with (go_at_call 58; go_fit FN.out; rintro x w1 ⟨rfl, hg⟩)
  have hB := BX.out w1 hg
  have k1 := hB.k1
  have k2 := hB.k2
  have k3 := hB.k3
  generalize w1.alloc (.cells #[.pointer (some ⟨e.b, 0, none⟩)] 84) = wb at *
  generalize w1.heap.size = g at *
  clear hg FN BX
  go_region_law (first
    | (go_simp; go_at_call 59; first | (have hX := hBF; go_fit (LP.out g _ hBF); rintro x w5 ⟨rfl, hBL⟩) | (go_fit (LC.out g _ hB _); rintro x w5 ⟨rfl, hBL⟩; have m1 := hBL.k1; have m2 := hBL.k2; have m3 := hBL.k3))
    | (go_simp; go_at_call 54; first | (have hX := hBL; go_fit (FP.out g _ hBL); rintro x w6 ⟨rfl, hBF⟩) | (go_fit (FC.out g _ hB _); rintro x w6 ⟨rfl, hBF⟩; have n1 := hBF.k1; have n2 := hBF.k2; have n3 := hBF.k3)))
  all_goals
    have z1 := hBF.k1
    go_wp2_with (go_at_call 55; go_fit (O.out g _ hBF _); rintro x w7 ⟨rfl, hE⟩)
    go_ret
    exact ⟨rfl, hE⟩
end Go.Proofs.YtgkdodcidancpaaGreatDoor
namespace Go.Proofs.YtgkdodcidancpaaGreatDoor
open Go.RowKit Go.Maps

section
variable {w : World} {d bm : Nat} {S : St} (h : DiskAt w d bm S) (s : ByteArray) (hs : s.size ≤ maxLen) (ao : Option Addr) (l : List UInt8) (c : Nat) (hb : Sees w ao l)
include h hs hb
set_option maxRecDepth 100000 in
set_option maxHeartbeats 2000000 in
theorem append_full (hc : refuse S.on [s] = 0) {e : Ent} (hf : find S.fs (nameOf s) = some e) (hlen : e.bs.length + l.length ≤ 1099511627776) (hr : S.room ≤ 1073741824) (hu : sumUsed S.fs ≤ 1099511627776) (hfull : decide ((S.room : Int) - (sumUsed S.fs : Int) < secI ((e.bs.length : Int) + (l.length : Int)) - secI (e.bs.length : Int)) = true) :
    Calls Tryz.prog 29 #[.pointer (some ⟨d, 0, none⟩), .string s, .slice ao l.length c] w fun x w' => AppOut w d bm S e l true x w' := by
  have hmf : ∀ (fn : Fn) (first cap : Array Value) (w : World), (Instr.makeFunc fn first cap).run Tryz.prog w = .ok (.func fn first cap) w := fun _ _ _ _ => rfl
  have he := (find_some hf).1
  have FN : Hid (Calls Tryz.prog 58 #[.pointer (some ⟨d, 0, none⟩), .string s] ((w.alloc (.cells #[.pointer (some ⟨d, 0, none⟩)] 26)).alloc (.cells #[.slice ao l.length c] 58)) fun x w' => x = .returned (.tuple #[.pointer (some ⟨e.b, 0, none⟩), .int .i64 0]) ∧ ((w.alloc (.cells #[.pointer (some ⟨d, 0, none⟩)] 26)).alloc (.cells #[.slice ao l.length c] 58)).grownBy w' none) := find_ok ((h.alloc _).alloc _) s hs hc hf
  have BX : Hid (∀ w1, ((w.alloc (.cells #[.pointer (some ⟨d, 0, none⟩)] 26)).alloc (.cells #[.slice ao l.length c] 58)).grownBy w1 none → Boxed3 w d bm S e ao l c w1.heap.size (w1.alloc (.cells #[.pointer (some ⟨e.b, 0, none⟩)] 84))) := fun w1 hg => boxes_two h c hb hg e
  have LC : Hid (∀ g w3, Boxed3 w d bm S e ao l c g w3 → ∀ k, Calls Tryz.prog 59 #[.pointer (some ⟨e.b, 0, none⟩), .int .i64 (l.length : Int)] (w3.drewN k) fun x w4 => x = .returned (.int .i64 (secI ((e.bs.length : Int) + (l.length : Int)) - secI (e.bs.length : Int))) ∧ Boxed3 w d bm S e ao l c g w4) := fun g w3 hB k => (lacks_any ((hB.drewN k).disk.ents e he) l.length (by omega)).mono fun x w4 hh => ⟨hh.1, by obtain ⟨k', hk'⟩ := hh.2; rw [hk']; exact (hB.drewN k).drewN k'⟩
  have FC : Hid (∀ g w3, Boxed3 w d bm S e ao l c g w3 → ∀ k, Calls Tryz.prog 54 #[.pointer (some ⟨d, 0, none⟩)] (w3.drewN k) fun x w4 => x = .returned (.int .i64 ((S.room : Int) - (sumUsed S.fs : Int))) ∧ Boxed3 w d bm S e ao l c g w4) := fun g w3 hB k => (free_any (hB.drewN k).disk (refuse_on hc) hu hr).mono fun x w4 hh => ⟨hh.1, (hB.drewN k).grown hh.2⟩
  have LP : Hid (∀ g w3, Boxed3 w d bm S e ao l c g w3 → Calls Tryz.prog 59 #[.pointer (some ⟨e.b, 0, none⟩), .int .i64 (l.length : Int)] w3 fun x w4 => x = .returned (.int .i64 (secI ((e.bs.length : Int) + (l.length : Int)) - secI (e.bs.length : Int))) ∧ Boxed3 w d bm S e ao l c g w4) := fun g w3 hB => LC.out g w3 hB 0
  have FP : Hid (∀ g w3, Boxed3 w d bm S e ao l c g w3 → Calls Tryz.prog 54 #[.pointer (some ⟨d, 0, none⟩)] w3 fun x w4 => x = .returned (.int .i64 ((S.room : Int) - (sumUsed S.fs : Int))) ∧ Boxed3 w d bm S e ao l c g w4) := fun g w3 hB => FC.out g w3 hB 0
  have hd := h.head.lt
  have ha := secI_bd (x := (e.bs.length : Int) + (l.length : Int)) ⟨by omega, by omega⟩
  clear hb he hf hc hs hlen h
  generalize (S.room : Int) - (sumUsed S.fs : Int) = fr at *
  generalize secI ((e.bs.length : Int) + (l.length : Int)) - secI (e.bs.length : Int) = lk at *
  clear ha
  go_enter Tryz.func29, Tryz.ntmps29
  go_wp2_with (go_at_call 58; go_fit FN.out; rintro x w1 ⟨rfl, hg⟩)
  have hB := BX.out w1 hg
  have k1 := hB.k1
  have k2 := hB.k2
  have k3 := hB.k3
  generalize w1.alloc (.cells #[.pointer (some ⟨e.b, 0, none⟩)] 84) = wb at *
  generalize w1.heap.size = g at *
  clear hg FN BX
  go_region_law (first
    | (go_simp; go_at_call 59; first | (have hX := hBF; go_fit (LP.out g _ hBF); rintro x w5 ⟨rfl, hBL⟩) | (go_fit (LC.out g _ hB _); rintro x w5 ⟨rfl, hBL⟩; have m1 := hBL.k1; have m2 := hBL.k2; have m3 := hBL.k3))
    | (go_simp; go_at_call 54; first | (have hX := hBL; go_fit (FP.out g _ hBL); rintro x w6 ⟨rfl, hBF⟩) | (go_fit (FC.out g _ hB _); rintro x w6 ⟨rfl, hBF⟩; have n1 := hBF.k1; have n2 := hBF.k2; have n3 := hBF.k3)))
  all_goals
    have z1 := hBF.k1
    go_wp2
    go_ret
    exact ⟨rfl, hBF.disk, hBF.moved⟩
end
end Go.Proofs.YtgkdodcidancpaaGreatDoor
