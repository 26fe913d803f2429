/-
  SEVERAL TEXTS IN ONE: DskCut, DskList.
-/
import Derived.Test.YtglaocghcgcghaaGreatDoorMany10
import Derived.Test.YtglaocghcgcghaaGreatDoorDskRename
import Derived.Test.YtglaocghcgcghaaGreatDoorDskAppend
import Derived.Test.YtglaocghcgcghaaGreatDoorMany8
import Derived.Test.YtglaocghcgcghaaGreatDoorMany2
namespace Go.Proofs.YtglaocghcgcghaaGreatDoor
open Go.RowKit Go.Maps

/-- The power went within an operation that did nothing. -/
def Cut (w : World) (d bm : Nat) (S : St) (x : Ending) (w' : World) : Prop := x = .returned (.int .i64 9) ∧ DiskAt w' d bm { S with on := false, ops := S.ops + 1, fs := S.fs.map fun e => loseE e (lineEndN S S.keep.toNat) } ∧ Moved w w' (foot d bm S.fs) (foot d bm S.fs)
set_option maxRecDepth 100000 in
set_option maxHeartbeats 1000000 in
theorem create_new_cut {w : World} {d bm : Nat} {S : St} (h : DiskAt w d bm S) (s : ByteArray) (hs : s.size ≤ maxLen) (hc : refuse S.on [s] = 0) (hf : find S.fs (nameOf s) = none) (hlen : S.fs.length < 48) (hu : sumUsed S.fs < S.room) (hr : S.room ≤ 1073741824) (hl : S.left = 1) (ho : S.ops ≤ 4611686018427387904) (hF : S.Fine) (hkp : -9223372036854775808 ≤ S.keep ∧ S.keep ≤ 9223372036854775807) :
    Calls Tryz.prog 60 #[.pointer (some ⟨d, 0, none⟩), .string s] w (Cut w d bm S) := by
  have hmf : ∀ (fn : Fn) (first cap : Array Value) (w : World), (Instr.makeFunc fn first cap).run Tryz.prog w = .ok (.func fn first cap) w := fun _ _ _ _ => rfl
  have R := refused_boxed h s hs
  rw [hc] at R
  have R : Hid (Calls Tryz.prog 24 #[.pointer (some ⟨d, 0, none⟩), .slice (some ⟨w.heap.size + 2, 0, none⟩) 1 1] (((w.alloc (.cells #[.pointer (some ⟨d, 0, none⟩)] 29)).alloc (.cells #[.string s] 9)).alloc (.cells #[.string s] 9)) fun x w1 => x = .returned (.int .i64 0) ∧ Boxed2 w d bm S s w1) := R
  have F : Hid (∀ w1, Boxed2 w d bm S s w1 → Calls Tryz.prog 77 #[.pointer (some ⟨d, 0, none⟩)] w1 fun x w2 => x = .returned (.int .i64 ((S.room : Int) - (sumUsed S.fs : Int))) ∧ Boxed2 w d bm S s w2) := fun w1 hB => (free_any hB.disk (refuse_on hc) (by omega) hr).mono fun x w2 hh => ⟨hh.1, hB.grown hh.2⟩
  have LK : Hid (∀ w1, Boxed2 w d bm S s w1 → ∀ k, (Instr.lookup 59 (.map (some bm)) (.string s) false).run Tryz.prog (w1.drewN k) = .ok (.pointer none) (w1.drewN k)) := fun w1 hB k => look_none (hB.drewN k).disk.map hs hf
  have O : Hid (∀ w1, Boxed2 w d bm S s w1 → ∀ v k, Calls Tryz.prog 62 #[.pointer (some ⟨d, 0, none⟩), v, .func (.func 64) #[] #[]] (w1.drewN k) (Cut w d bm S)) := fun w1 hB v k => (operate_cut (hB.drewN k).disk (refuse_on hc) hl ho hF hkp v).mono fun x w' hh => ⟨hh.1, hh.2.1, (hB.drewN k).moved.trans hh.2.2⟩
  have hg1 : decide (48 ≤ (S.fs.length : Int)) = false := decide_eq_false (by omega)
  have hg2 : decide ((S.room : Int) - (sumUsed S.fs : Int) < 1) = false := decide_eq_false (by omega)
  have hlb : (S.fs.length : Int) < 48 := by omega
  clear h hs hc hf ho hl hr hu hlen hF hkp
  generalize (S.room : Int) - (sumUsed S.fs : Int) = fr at *
  go_enter Tryz.func60, Tryz.ntmps60
  go_wp2_with (first | (go_at_call 24; go_fit R.out; rintro x w1 ⟨rfl, hB⟩; have c0 := hB.disk.c0; have k1 := hB.k1; have k2 := hB.k2; have hln := hB.len) | (go_at_call 77; go_fit (F.out _ hB); rintro x w2 ⟨rfl, hB2⟩; have d0 := hB2.disk.c0; have e1 := hB2.k1; have e2 := hB2.k2; have lk := LK.out _ hB2))
  go_quiet (fail)
  go_wp2_with (go_at_call 62; go_fit (O.out _ hB2 _ _); rintro x w3 ⟨rfl, hE⟩)
  go_ret
  exact ⟨rfl, hE⟩
set_option maxRecDepth 100000 in
set_option maxHeartbeats 1000000 in
theorem create_again_cut {w : World} {d bm : Nat} {S : St} (h : DiskAt w d bm S) (s : ByteArray) (hs : s.size ≤ maxLen) (hc : refuse S.on [s] = 0) {e : Ent} (hf : find S.fs (nameOf s) = some e) (hlen : S.fs.length < 48) (hu0 : sumUsed S.fs ≤ 1099511627776) (hr : S.room ≤ 1073741824) (hl : S.left = 1) (ho : S.ops ≤ 4611686018427387904) (hF : S.Fine) (hkp : -9223372036854775808 ≤ S.keep ∧ S.keep ≤ 9223372036854775807) :
    Calls Tryz.prog 60 #[.pointer (some ⟨d, 0, none⟩), .string s] w (Cut w d bm S) := by
  have hmf : ∀ (fn : Fn) (first cap : Array Value) (w : World), (Instr.makeFunc fn first cap).run Tryz.prog w = .ok (.func fn first cap) w := fun _ _ _ _ => rfl
  have R := refused_boxed h s hs
  rw [hc] at R
  have R : Hid (Calls Tryz.prog 24 #[.pointer (some ⟨d, 0, none⟩), .slice (some ⟨w.heap.size + 2, 0, none⟩) 1 1] (((w.alloc (.cells #[.pointer (some ⟨d, 0, none⟩)] 29)).alloc (.cells #[.string s] 9)).alloc (.cells #[.string s] 9)) fun x w1 => x = .returned (.int .i64 0) ∧ Boxed2 w d bm S s w1) := R
  have LK : Hid (∀ w1, Boxed2 w d bm S s w1 → ∀ k, (Instr.lookup 59 (.map (some bm)) (.string s) false).run Tryz.prog (w1.drewN k) = .ok (.pointer (some ⟨e.b, 0, none⟩)) (w1.drewN k)) := fun w1 hB k => look_some (hB.drewN k).disk.map hs hf
  have F : Hid (∀ w1, Boxed2 w d bm S s w1 → Calls Tryz.prog 77 #[.pointer (some ⟨d, 0, none⟩)] w1 fun x w2 => x = .returned (.int .i64 ((S.room : Int) - (sumUsed S.fs : Int))) ∧ Boxed2 w d bm S s w2) := fun w1 hB => (free_any hB.disk (refuse_on hc) hu0 hr).mono fun x w2 hh => ⟨hh.1, hB.grown hh.2⟩
  have O : Hid (∀ w1, Boxed2 w d bm S s w1 → ∀ v k, Calls Tryz.prog 62 #[.pointer (some ⟨d, 0, none⟩), v, .func (.func 64) #[] #[]] (w1.drewN k) (Cut w d bm S)) := fun w1 hB v k => (operate_cut (hB.drewN k).disk (refuse_on hc) hl ho hF hkp v).mono fun x w' hh => ⟨hh.1, hh.2.1, (hB.drewN k).moved.trans hh.2.2⟩
  have hg1 : decide (48 ≤ (S.fs.length : Int)) = false := decide_eq_false (by omega)
  have hlb : (S.fs.length : Int) < 48 := by omega
  clear h hs hc hf hlen hr hu0 hl ho hF hkp
  generalize (S.room : Int) - (sumUsed S.fs : Int) = fr at *
  go_enter Tryz.func60, Tryz.ntmps60
  go_wp2_with (first | (go_at_call 24; go_fit R.out; rintro x w1 ⟨rfl, hB⟩; have c0 := hB.disk.c0; have k1 := hB.k1; have k2 := hB.k2; have hln := hB.len; have lk0 := LK.out _ hB) | (go_at_call 77; go_fit (F.out _ hB); rintro x w2 ⟨rfl, hB2⟩; have d0 := hB2.disk.c0; have e1 := hB2.k1; have e2 := hB2.k2; have lk := LK.out _ hB2))
  go_quiet (fail)
  go_wp2_with (go_at_call 62; go_fit (O.out _ hB2 _ _); rintro x w3 ⟨rfl, hE⟩)
  go_ret
  exact ⟨rfl, hE⟩
set_option maxRecDepth 100000 in
set_option maxHeartbeats 1000000 in
theorem create_again_many_cut {w : World} {d bm : Nat} {S : St} (h : DiskAt w d bm S) (s : ByteArray) (hs : s.size ≤ maxLen) (hc : refuse S.on [s] = 0) {e : Ent} (hf : find S.fs (nameOf s) = some e) (hlen : 48 ≤ S.fs.length) (hl : S.left = 1) (ho : S.ops ≤ 4611686018427387904) (hF : S.Fine) (hkp : -9223372036854775808 ≤ S.keep ∧ S.keep ≤ 9223372036854775807) :
    Calls Tryz.prog 60 #[.pointer (some ⟨d, 0, none⟩), .string s] w (Cut w d bm S) := by
  have hmf : ∀ (fn : Fn) (first cap : Array Value) (w : World), (Instr.makeFunc fn first cap).run Tryz.prog w = .ok (.func fn first cap) w := fun _ _ _ _ => rfl
  have R := refused_boxed h s hs
  rw [hc] at R
  have R : Hid (Calls Tryz.prog 24 #[.pointer (some ⟨d, 0, none⟩), .slice (some ⟨w.heap.size + 2, 0, none⟩) 1 1] (((w.alloc (.cells #[.pointer (some ⟨d, 0, none⟩)] 29)).alloc (.cells #[.string s] 9)).alloc (.cells #[.string s] 9)) fun x w1 => x = .returned (.int .i64 0) ∧ Boxed2 w d bm S s w1) := R
  have LK : Hid (∀ w1, Boxed2 w d bm S s w1 → ∀ k, (Instr.lookup 59 (.map (some bm)) (.string s) false).run Tryz.prog (w1.drewN k) = .ok (.pointer (some ⟨e.b, 0, none⟩)) (w1.drewN k)) := fun w1 hB k => look_some (hB.drewN k).disk.map hs hf
  have O : Hid (∀ w1, Boxed2 w d bm S s w1 → ∀ v k, Calls Tryz.prog 62 #[.pointer (some ⟨d, 0, none⟩), v, .func (.func 64) #[] #[]] (w1.drewN k) (Cut w d bm S)) := fun w1 hB v k => (operate_cut (hB.drewN k).disk (refuse_on hc) hl ho hF hkp v).mono fun x w' hh => ⟨hh.1, hh.2.1, (hB.drewN k).moved.trans hh.2.2⟩
  have hg1 : decide (48 ≤ (S.fs.length : Int)) = true := decide_eq_true (by omega)
  have hlb : (48 : Int) ≤ (S.fs.length : Int) := by omega
  clear h hs hc hf hlen hl ho hF hkp
  go_enter Tryz.func60, Tryz.ntmps60
  go_wp2_with (go_at_call 24; go_fit R.out; rintro x w1 ⟨rfl, hB⟩; have c0 := hB.disk.c0; have k1 := hB.k1; have k2 := hB.k2; have hln := hB.len; have lk0 := LK.out _ hB)
  go_quiet (fail)
  go_wp2_with (go_at_call 62; go_fit (O.out _ hB _ _); rintro x w3 ⟨rfl, hE⟩)
  go_ret
  exact ⟨rfl, hE⟩
set_option maxRecDepth 100000 in
set_option maxHeartbeats 1000000 in
theorem sync_cut {w : World} {d bm : Nat} {S : St} (h : DiskAt w d bm S) (s : ByteArray) (hs : s.size ≤ maxLen) (hc : refuse S.on [s] = 0) {e : Ent} (hf : find S.fs (nameOf s) = some e) (hl : S.left = 1) (ho : S.ops ≤ 4611686018427387904) (hF : S.Fine) (hkp : -9223372036854775808 ≤ S.keep ∧ S.keep ≤ 9223372036854775807) :
    Calls Tryz.prog 51 #[.pointer (some ⟨d, 0, none⟩), .string s] w (Cut w d bm S) := by
  have F : Hid (Calls Tryz.prog 43 #[.pointer (some ⟨d, 0, none⟩), .string s] w fun x w' => x = .returned (.tuple #[.pointer (some ⟨e.b, 0, none⟩), .int .i64 0]) ∧ w.grownBy w' none) := find_ok h s hs hc hf
  have hmf : ∀ (fn : Fn) (first cap : Array Value) (w : World), (Instr.makeFunc fn first cap).run Tryz.prog w = .ok (.func fn first cap) w := fun _ _ _ _ => rfl
  have OP : Hid (∀ w1, w.grownBy w1 none → ∀ v, Calls Tryz.prog 62 #[.pointer (some ⟨d, 0, none⟩), v, .func (.func 64) #[] #[]] (w1.alloc (.cells #[.pointer (some ⟨e.b, 0, none⟩)] 76)) (Cut w d bm S)) := fun w1 hg v => by
    have hD : DiskAt (w1.alloc (.cells #[.pointer (some ⟨e.b, 0, none⟩)] 76)) d bm S := (h.carry (w' := w1) fun i hi => hg.block i (h.lt i hi) (by simp)).alloc _
    have hM0 : Moved w (w1.alloc (.cells #[.pointer (some ⟨e.b, 0, none⟩)] 76)) (foot d bm S.fs) (foot d bm S.fs) := (Moved.none_of hg _).trans (Moved.alloc _ _)
    exact (operate_cut hD (refuse_on hc) hl ho hF hkp v).mono fun x w' hh => ⟨hh.1, hh.2.1, hM0.trans hh.2.2⟩
  clear h hs hc hf hF hkp
  go_enter Tryz.func51, Tryz.ntmps51
  go_wp2_with (first | (go_at_call 43; refine F.out.mono ?_; rintro x w1 ⟨rfl, hg⟩) | (go_at_call 62; go_fit (OP.out _ hg _); rintro x w2 ⟨rfl, hE⟩))
  go_ret
  exact ⟨rfl, hE⟩
set_option maxRecDepth 100000 in
set_option maxHeartbeats 1000000 in
theorem remove_cut {w : World} {d bm : Nat} {S : St} (h : DiskAt w d bm S) (s : ByteArray) (hs : s.size ≤ maxLen) (hc : refuse S.on [s] = 0) {e : Ent} (hf : find S.fs (nameOf s) = some e) (hl : S.left = 1) (ho : S.ops ≤ 4611686018427387904) (hF : S.Fine) (hkp : -9223372036854775808 ≤ S.keep ∧ S.keep ≤ 9223372036854775807) :
    Calls Tryz.prog 37 #[.pointer (some ⟨d, 0, none⟩), .string s] w (Cut w d bm S) := by
  have hmf : ∀ (fn : Fn) (first cap : Array Value) (w : World), (Instr.makeFunc fn first cap).run Tryz.prog w = .ok (.func fn first cap) w := fun _ _ _ _ => rfl
  have hB := Boxed2.start h s
  have F : Hid (Calls Tryz.prog 43 #[.pointer (some ⟨d, 0, none⟩), .string s] ((w.alloc (.cells #[.pointer (some ⟨d, 0, none⟩)] 29)).alloc (.cells #[.string s] 9)) fun x w' => x = .returned (.tuple #[.pointer (some ⟨e.b, 0, none⟩), .int .i64 0]) ∧ Boxed2 w d bm S s w') := (find_ok hB.disk s hs hc hf).mono fun x w' hh => ⟨hh.1, hB.grown hh.2⟩
  have O : Hid (∀ w1, Boxed2 w d bm S s w1 → ∀ v, Calls Tryz.prog 62 #[.pointer (some ⟨d, 0, none⟩), v, .func (.func 64) #[] #[]] w1 (Cut w d bm S)) := fun w1 hB v => (operate_cut hB.disk (refuse_on hc) hl ho hF hkp v).mono fun x w' hh => ⟨hh.1, hh.2.1, hB.moved.trans hh.2.2⟩
  clear h hs hc hf hB hF hkp
  go_enter Tryz.func37, Tryz.ntmps37
  go_wp2_with (first | (go_at_call 43; go_fit F.out; rintro x w1 ⟨rfl, hB1⟩; have k1 := hB1.k1) | (go_at_call 62; go_fit (O.out _ hB1 _); rintro x w2 ⟨rfl, hE⟩))
  go_ret
  exact ⟨rfl, hE⟩
set_option maxRecDepth 100000 in
set_option maxHeartbeats 1000000 in
theorem rename_cut {w : World} {d bm : Nat} {S : St} (h : DiskAt w d bm S) (s t : ByteArray) (hs : s.size ≤ maxLen) (ht : t.size ≤ maxLen) (hc : refuse S.on [s, t] = 0) (hc1 : refuse S.on [s] = 0) {e : Ent} (hf : find S.fs (nameOf s) = some e) (hl : S.left = 1) (ho : S.ops ≤ 4611686018427387904) (hF : S.Fine) (hkp : -9223372036854775808 ≤ S.keep ∧ S.keep ≤ 9223372036854775807) :
    Calls Tryz.prog 73 #[.pointer (some ⟨d, 0, none⟩), .string s, .string t] w (Cut w d bm S) := by
  have hmf : ∀ (fn : Fn) (first cap : Array Value) (w : World), (Instr.makeFunc fn first cap).run Tryz.prog w = .ok (.func fn first cap) w := fun _ _ _ _ => rfl
  have R := refused_two h s t hs ht
  rw [hc] at R
  have R : Hid (Calls Tryz.prog 24 #[.pointer (some ⟨d, 0, none⟩), .slice (some ⟨w.heap.size + 3, 0, none⟩) 2 2] ((((w.alloc (.cells #[.pointer (some ⟨d, 0, none⟩)] 29)).alloc (.cells #[.string s] 9)).alloc (.cells #[.string t] 9)).alloc (.cells #[.string s, .string t] 9)) fun x w1 => x = .returned (.int .i64 0) ∧ Boxed5 w d bm S s t w1) := R
  have F : Hid (∀ w1, Boxed5 w d bm S s t w1 → Calls Tryz.prog 43 #[.pointer (some ⟨d, 0, none⟩), .string s] w1 fun x w' => x = .returned (.tuple #[.pointer (some ⟨e.b, 0, none⟩), .int .i64 0]) ∧ Boxed5 w d bm S s t w') := fun w1 hB => (find_ok hB.disk s hs hc1 hf).mono fun x w' hh => ⟨hh.1, hB.grown hh.2⟩
  have O : Hid (∀ w1, Boxed5 w d bm S s t w1 → ∀ v, Calls Tryz.prog 62 #[.pointer (some ⟨d, 0, none⟩), v, .func (.func 64) #[] #[]] (w1.alloc (.cells #[.pointer (some ⟨e.b, 0, none⟩)] 76)) (Cut w d bm S)) := fun w1 hB1 v => by
    have hB2 := hB1.grown (World.grownBy_alloc w1 (.cells #[.pointer (some ⟨e.b, 0, none⟩)] 76) none)
    exact (operate_cut hB2.disk (refuse_on hc) hl ho hF hkp v).mono fun x w' hh => ⟨hh.1, hh.2.1, hB2.moved.trans hh.2.2⟩
  clear h hs ht hc hc1 hf hF hkp
  go_enter Tryz.func73, Tryz.ntmps73
  go_wp2_with (first | (go_at_call 24; go_fit R.out; rintro x w1 ⟨rfl, hB⟩; have k1 := hB.k1; have k2 := hB.k2) | (go_at_call 43; go_fit (F.out _ hB); rintro x w2 ⟨rfl, hB2⟩; have k1' := hB2.k1; have hzz : w.heap.size < w2.heap.size := by (have := hB2.size; omega)) | (go_at_call 62; go_fit (O.out _ hB2 _); rintro x w3 ⟨rfl, hE⟩))
  go_ret
  exact ⟨rfl, hE⟩

/-- The power went within an Append. -/
def CutApp (w : World) (d bm : Nat) (S : St) (e : Ent) (l : List UInt8) (x : Ending) (w' : World) : Prop := x = .returned (.int .i64 9) ∧ ∃ e', e'.nm = e.nm ∧ e'.b = e.b ∧ e'.bs = e.bs ++ l ∧ e'.wr = e.wr ∧ e'.pl = e.pl ++ List.range' S.next (growS e l) ∧
  ∃ S1 : St, S1 = { S with ops := S.ops + 1, next := S.next + growS e l, fs := swap S.fs e e' } ∧ DiskAt w' d bm { S1 with on := false, fs := S1.fs.map fun e => loseE e (lineEndN S1 S.keep.toNat) } ∧ Moved w w' (foot d bm S.fs) (foot d bm (S1.fs.map fun e => loseE e (lineEndN S1 S.keep.toNat)))
set_option maxRecDepth 100000 in
theorem operate_cutAppend {w : World} {d bm : Nat} {S : St} (h : DiskAt w d bm S) (hl : S.left = 1) (ho : S.ops ≤ 4611686018427387904) (p1 p2 p3 : Nat) (v : Value) (Q Q2 : World → Prop)
    (C : ∀ w1, DiskAt w1 d bm { S with ops := S.ops + 1 } → Moved w w1 [d] [d] → Calls Tryz.prog 78 #[.pointer (some ⟨p1, 0, none⟩), .pointer (some ⟨p2, 0, none⟩), .pointer (some ⟨p3, 0, none⟩)] w1 fun x w2 => x = .returned (.tuple #[]) ∧ w2.cell? ⟨d, 6, none⟩ = some (.int .i64 S.keep) ∧ Q w2)
    (C2 : ∀ w1, Q w1 → Calls Tryz.prog 12 #[.pointer (some ⟨d, 0, none⟩), .int .i64 S.keep] w1 fun x w2 => x = .returned (.tuple #[]) ∧ Q2 w2) :
    Calls Tryz.prog 62 #[.pointer (some ⟨d, 0, none⟩), v, .func (.func 78) #[] #[.pointer (some ⟨p1, 0, none⟩), .pointer (some ⟨p2, 0, none⟩), .pointer (some ⟨p3, 0, none⟩)]] w fun x w2 => x = .returned (.int .i64 9) ∧ Q2 w2 := by
  have c3 := h.c3
  have f3 := h.head.frozen 3
  have c5 := h.c5
  rw [hl] at c5
  have h1 := h.put (S' := { S with ops := S.ops + 1 }) rfl 3 (.int .i64 ((S.ops + 1 : Nat) : Int)) rfl
  have hc := C _ h1 (Moved.of_set d 3 _)
  have t1 := ops_text S.ops ho
  generalize hA : ((S.ops + 1 : Nat) : Int) = A at *
  have HC : Hid (Calls Tryz.prog 78 #[.pointer (some ⟨p1, 0, none⟩), .pointer (some ⟨p2, 0, none⟩), .pointer (some ⟨p3, 0, none⟩)] (w.setCell ⟨d, 3, none⟩ (.int .i64 A)) fun x w2 => x = .returned (.tuple #[]) ∧ w2.cell? ⟨d, 6, none⟩ = some (.int .i64 S.keep) ∧ Q w2) := hc
  have HC2 : Hid (∀ w1, Q w1 → Calls Tryz.prog 12 #[.pointer (some ⟨d, 0, none⟩), .int .i64 S.keep] w1 fun x w2 => x = .returned (.tuple #[]) ∧ Q2 w2) := C2
  clear h h1 C C2 hc ho hl hA
  go_enter Tryz.func62, Tryz.ntmps62
  go_wp2_with (first | (go_at_call 78; go_fit HC.out; rintro x w2 ⟨rfl, c6, hQ⟩) | (go_at_call 12; go_fit (HC2.out _ hQ); rintro x w3 ⟨rfl, hQ2⟩))
  go_ret
  exact ⟨rfl, hQ2⟩
set_option maxHeartbeats 1000000 in
theorem append_operate_cut {w : World} {d bm : Nat} {S : St} {e : Ent} {ao : Option Addr} {l : List UInt8} {c g : Nat} {w1 : World} (hB : Boxed3 w d bm S e ao l c g w1) (he : e ∈ S.fs) (hdw : ∀ i ∈ foot d bm S.fs, i < w.heap.size) (hne : ∀ a, ao = some a → 0 < l.length → a.block ∉ foot d bm S.fs) (hon : S.on = true) (hl : S.left = 1) (ho : S.ops ≤ 4611686018427387904) (hkp : -9223372036854775808 ≤ S.keep ∧ S.keep ≤ 9223372036854775807) (hF1 : ∀ e' : Ent, e'.nm = e.nm → e'.b = e.b → e'.bs = e.bs ++ l → e'.wr = e.wr → e'.pl = e.pl ++ List.range' S.next (growS e l) → St.Fine { S with ops := S.ops + 1, next := S.next + growS e l, fs := swap S.fs e e' })
    (hlen : e.bs.length + l.length ≤ 1099511627776) (hnx : S.next ≤ 4611686018427387904) (hpl : e.pl.length ≤ 1099511627776) (hwr : e.wr ≤ 1099511627776) (v : Value) :
    Calls Tryz.prog 62 #[.pointer (some ⟨d, 0, none⟩), v, .func (.func 78) #[] #[.pointer (some ⟨g, 0, none⟩), .pointer (some ⟨w.heap.size + 1, 0, none⟩), .pointer (some ⟨w.heap.size, 0, none⟩)]] w1 (CutApp w d bm S e l) := by
  have hd : d < w.heap.size := hdw d (by simp [foot])
  refine (operate_cutAppend hB.disk hl ho g (w.heap.size + 1) w.heap.size v (fun w2 => ∃ e', e'.nm = e.nm ∧ e'.b = e.b ∧ e'.bs = e.bs ++ l ∧ e'.wr = e.wr ∧ e'.pl = e.pl ++ List.range' S.next (growS e l) ∧ DiskAt w2 d bm { S with ops := S.ops + 1, next := S.next + growS e l, fs := swap S.fs e e' } ∧ Moved w w2 (foot d bm S.fs) (foot d bm (swap S.fs e e')))
    (fun w2 => ∃ e', e'.nm = e.nm ∧ e'.b = e.b ∧ e'.bs = e.bs ++ l ∧ e'.wr = e.wr ∧ e'.pl = e.pl ++ List.range' S.next (growS e l) ∧ ∃ S1 : St, S1 = { S with ops := S.ops + 1, next := S.next + growS e l, fs := swap S.fs e e' } ∧ DiskAt w2 d bm { S1 with on := false, fs := S1.fs.map fun e => loseE e (lineEndN S1 S.keep.toNat) } ∧ Moved w w2 (foot d bm S.fs) (foot d bm (S1.fs.map fun e => loseE e (lineEndN S1 S.keep.toNat)))) ?_ ?_)
  rotate_left
  · rintro w2 ⟨e', a1, a2, a3, a4, a5, a6, a7⟩
    refine (crash_on a6 hon (hF1 e' a1 a2 a3 a4 a5) S.keep hkp.1 hkp.2).mono ?_
    rintro x w3 ⟨rfl, b1, b2⟩
    refine ⟨rfl, e', a1, a2, a3, a4, a5, _, rfl, b1, a7.trans (b2.sub fun i hi => ?_)⟩
    simp only [foot, List.mem_cons] at hi ⊢
    refine hi.imp id fun h => h.imp id fun h => ?_
    obtain ⟨y, hy, hi⟩ := feet_mem.1 h
    obtain ⟨z, hz, rfl⟩ := List.mem_map.1 hy
    exact feet_mem.2 ⟨z, hz, lose_foot hi⟩
  intro w2 hD2 hM2
  have hk : ∀ i, i < w1.heap.size → i ≠ d → w2.heap[i]? = w1.heap[i]? := fun i hi hne => hM2.kept i hi (by simpa using hne)
  have hz := hB.size
  have z1 := World.block_lt_of_cell? _ _ hB.k1
  have z2 := World.block_lt_of_cell? _ _ hB.k2
  have z3 := World.block_lt_of_cell? _ _ hB.k3
  have e1 : w2.cell? ⟨w.heap.size, 0, none⟩ = some (.pointer (some ⟨d, 0, none⟩)) := (World.cell?_of_block (a := ⟨w.heap.size, 0, none⟩) (hk w.heap.size z1 (by omega))).trans hB.k1
  have e2 : w2.cell? ⟨w.heap.size + 1, 0, none⟩ = some (.slice ao l.length c) := (World.cell?_of_block (a := ⟨w.heap.size + 1, 0, none⟩) (hk (w.heap.size + 1) z2 (by omega))).trans hB.k2
  have e3 : w2.cell? ⟨g, 0, none⟩ = some (.pointer (some ⟨e.b, 0, none⟩)) := (World.cell?_of_block (a := ⟨g, 0, none⟩) (hk g z3 (by omega))).trans hB.k3
  have hs2 : Sees w2 ao l := hB.sees.kept fun a ha h0 => hk _ (hB.sees.lt ha h0) fun e => hne a ha h0 (by rw [e]; simp [foot])
  refine (append1_any hD2 he e3 e2 e1 hs2 hlen hnx hpl hwr ?_).mono ?_
  · intro hi
    have := hdw w.heap.size (by simp only [foot, List.mem_cons]; exact .inr (.inr (feet_mem.2 ⟨e, he, hi⟩)))
    omega
  · rintro x w3 ⟨rfl, e', a1, a2, a3, a4, a5, a6, a7⟩
    exact ⟨rfl, a6.c6, e', a1, a2, a3, a4, a5, a6, (hB.moved.trans (hM2.wider (fun i hi => .inl (by simp at hi; simp [foot, hi])) (fun i hi => .inl hi))).trans a7⟩
set_option maxRecDepth 100000 in
set_option maxHeartbeats 2000000 in
theorem append_cut {w : World} {d bm : Nat} {S : St} (h : DiskAt w d bm S) (s : ByteArray) (hs : s.size ≤ maxLen) (ao : Option Addr) (l : List UInt8) (c : Nat) (hb : Sees w ao l) (hc : refuse S.on [s] = 0) {e : Ent} (hf : find S.fs (nameOf s) = some e) (hne : ∀ a, ao = some a → 0 < l.length → a.block ∉ foot d bm S.fs) (hl : S.left = 1) (ho : S.ops ≤ 4611686018427387904) (hkp : -9223372036854775808 ≤ S.keep ∧ S.keep ≤ 9223372036854775807) (hF1 : ∀ e' : Ent, e'.nm = e.nm → e'.b = e.b → e'.bs = e.bs ++ l → e'.wr = e.wr → e'.pl = e.pl ++ List.range' S.next (growS e l) → St.Fine { S with ops := S.ops + 1, next := S.next + growS e l, fs := swap S.fs e e' })
    (hlen : e.bs.length + l.length ≤ 1099511627776) (hnx : S.next ≤ 4611686018427387904) (hpl : e.pl.length ≤ 1099511627776) (hwr : e.wr ≤ 1099511627776) (hr : S.room ≤ 1073741824) (hu : sumUsed S.fs ≤ 1099511627776) (hfull : decide ((S.room : Int) - (sumUsed S.fs : Int) < secI ((e.bs.length : Int) + (l.length : Int)) - secI (e.bs.length : Int)) = false) :
    Calls Tryz.prog 50 #[.pointer (some ⟨d, 0, none⟩), .string s, .slice ao l.length c] w (CutApp w d bm S e l) := by
  have hmf : ∀ (fn : Fn) (first cap : Array Value) (w : World), (Instr.makeFunc fn first cap).run Tryz.prog w = .ok (.func fn first cap) w := fun _ _ _ _ => rfl
  have he := (find_some hf).1
  have FN : Hid (Calls Tryz.prog 43 #[.pointer (some ⟨d, 0, none⟩), .string s] ((w.alloc (.cells #[.pointer (some ⟨d, 0, none⟩)] 29)).alloc (.cells #[.slice ao l.length c] 37)) fun x w' => x = .returned (.tuple #[.pointer (some ⟨e.b, 0, none⟩), .int .i64 0]) ∧ ((w.alloc (.cells #[.pointer (some ⟨d, 0, none⟩)] 29)).alloc (.cells #[.slice ao l.length c] 37)).grownBy w' none) := find_ok ((h.alloc _).alloc _) s hs hc hf
  have BX : Hid (∀ w1, ((w.alloc (.cells #[.pointer (some ⟨d, 0, none⟩)] 29)).alloc (.cells #[.slice ao l.length c] 37)).grownBy w1 none → Boxed3 w d bm S e ao l c w1.heap.size (w1.alloc (.cells #[.pointer (some ⟨e.b, 0, none⟩)] 76))) := fun w1 hg => boxes_two h c hb hg e
  have LC : Hid (∀ g w3, Boxed3 w d bm S e ao l c g w3 → ∀ k, Calls Tryz.prog 76 #[.pointer (some ⟨e.b, 0, none⟩), .int .i64 (l.length : Int)] (w3.drewN k) fun x w4 => x = .returned (.int .i64 (secI ((e.bs.length : Int) + (l.length : Int)) - secI (e.bs.length : Int))) ∧ Boxed3 w d bm S e ao l c g w4) := fun g w3 hB k => (lacks_any ((hB.drewN k).disk.ents e he) l.length (by omega)).mono fun x w4 hh => ⟨hh.1, by obtain ⟨k', hk'⟩ := hh.2; rw [hk']; exact (hB.drewN k).drewN k'⟩
  have FC : Hid (∀ g w3, Boxed3 w d bm S e ao l c g w3 → ∀ k, Calls Tryz.prog 77 #[.pointer (some ⟨d, 0, none⟩)] (w3.drewN k) fun x w4 => x = .returned (.int .i64 ((S.room : Int) - (sumUsed S.fs : Int))) ∧ Boxed3 w d bm S e ao l c g w4) := fun g w3 hB k => (free_any (hB.drewN k).disk (refuse_on hc) hu hr).mono fun x w4 hh => ⟨hh.1, (hB.drewN k).grown hh.2⟩
  have LP : Hid (∀ g w3, Boxed3 w d bm S e ao l c g w3 → Calls Tryz.prog 76 #[.pointer (some ⟨e.b, 0, none⟩), .int .i64 (l.length : Int)] w3 fun x w4 => x = .returned (.int .i64 (secI ((e.bs.length : Int) + (l.length : Int)) - secI (e.bs.length : Int))) ∧ Boxed3 w d bm S e ao l c g w4) := fun g w3 hB => LC.out g w3 hB 0
  have FP : Hid (∀ g w3, Boxed3 w d bm S e ao l c g w3 → Calls Tryz.prog 77 #[.pointer (some ⟨d, 0, none⟩)] w3 fun x w4 => x = .returned (.int .i64 ((S.room : Int) - (sumUsed S.fs : Int))) ∧ Boxed3 w d bm S e ao l c g w4) := fun g w3 hB => FC.out g w3 hB 0
  have O : Hid (∀ g w1, Boxed3 w d bm S e ao l c g w1 → ∀ v, Calls Tryz.prog 62 #[.pointer (some ⟨d, 0, none⟩), v, .func (.func 78) #[] #[.pointer (some ⟨g, 0, none⟩), .pointer (some ⟨w.heap.size + 1, 0, none⟩), .pointer (some ⟨w.heap.size, 0, none⟩)]] w1 (CutApp w d bm S e l)) := fun g w1 hB v => append_operate_cut hB he h.lt hne (refuse_on hc) hl ho hkp hF1 hlen hnx hpl hwr v
  have hd := h.head.lt
  have ha := secI_bd (x := (e.bs.length : Int) + (l.length : Int)) ⟨by omega, by omega⟩
  clear hb he hf hc hs hne hl ho hkp hF1 hnx hpl hwr hlen h
  generalize (S.room : Int) - (sumUsed S.fs : Int) = fr at *
  generalize secI ((e.bs.length : Int) + (l.length : Int)) - secI (e.bs.length : Int) = lk at *
  clear ha
  go_enter Tryz.func50, Tryz.ntmps50
  go_wp2_with (go_at_call 43; go_fit FN.out; rintro x w1 ⟨rfl, hg⟩)
  have hB := BX.out w1 hg
  have k1 := hB.k1
  have k2 := hB.k2
  have k3 := hB.k3
  generalize w1.alloc (.cells #[.pointer (some ⟨e.b, 0, none⟩)] 76) = wb at *
  generalize w1.heap.size = g at *
  clear hg FN BX
  go_region_law (first
    | (go_simp; go_at_call 76; first | (have hX := hBF; go_fit (LP.out g _ hBF); rintro x w5 ⟨rfl, hBL⟩) | (go_fit (LC.out g _ hB _); rintro x w5 ⟨rfl, hBL⟩; have m1 := hBL.k1; have m2 := hBL.k2; have m3 := hBL.k3))
    | (go_simp; go_at_call 77; first | (have hX := hBL; go_fit (FP.out g _ hBL); rintro x w6 ⟨rfl, hBF⟩) | (go_fit (FC.out g _ hB _); rintro x w6 ⟨rfl, hBF⟩; have n1 := hBF.k1; have n2 := hBF.k2; have n3 := hBF.k3)))
  all_goals
    have z1 := hBF.k1
    go_wp2_with (go_at_call 62; go_fit (O.out g _ hBF _); rintro x w7 ⟨rfl, hE⟩)
    go_ret
    exact ⟨rfl, hE⟩
end Go.Proofs.YtglaocghcgcghaaGreatDoor
namespace Go.Proofs.YtglaocghcgcghaaGreatDoor
open Go.RowKit Go.Maps Go.Sort Go.Shelf

theorem keys_datum (fs : List Ent) : strKeys (datum fs) = fs.map Ent.nm := by
  unfold strKeys datum
  simp
  intro a _
  rfl
theorem size_datum (fs : List Ent) : Maps.size (datum fs) = fs.length := by
  unfold Maps.size datum
  simp
set_option maxHeartbeats 1000000 in
theorem list_on {w : World} {d bm : Nat} {S : St} (h : DiskAt w d bm S) (hon : S.on = true) (hn : S.fs.length ≤ 1000000) :
    Calls Tryz.prog 19 #[.pointer (some ⟨d, 0, none⟩)] w fun e w' => ∃ (v : Value) (ss : List (List UInt8)), e = .returned v ∧ ss.Perm (S.fs.map Ent.nm) ∧
      w'.ownsRow w.heap.size 9 1 v ss.length ((ss.mergeSort (fun x y => decide (x ≤ y))).map encStr) ∧ Below w.heap.size w w' := by
  have R := refusal_nil h
  rw [hon] at R
  have R : Hid (CallsIn Fence.wide 5 Tryz.prog 24 #[.pointer (some ⟨d, 0, none⟩), .slice none 0 0] w fun x w' => x = .returned (.int .i64 0) ∧ w' = w) := callsIn_wide.2 R
  have c0 := h.c0
  have hown := h.map
  have hz := size_datum S.fs
  have hmax : Maps.size (datum S.fs) ≤ maxLen := by rw [hz]; unfold maxLen; omega
  have hbytes : Maps.size (datum S.fs) * 16 ≤ 140737488355328 := by rw [hz]; omega
  clear h hz hon hn
  refine (callsIn_wide (n := 6)).1 ?_
  have hfR : Fence.wide.fn 24 := trivial
  have hfK : Fence.wide.fn 40 := trivial
  have hfS : Fence.wide.fn 39 := trivial
  refine callsIn_of_wp Tryz.func19 rfl trivial ?_ rfl
  simp only [Tryz.ntmps19, List.size_toArray, List.length_cons, List.length_nil, Nat.reduceAdd, Nat.reduceSub, Array.replicate_succ, Array.replicate_zero, List.push_toArray, List.append_toArray, List.nil_append, List.cons_append]
  gi_wp2_with (first
    | (gi_at_call 24; refine R.out.mono ?_; rintro e w1 ⟨rfl, rfl⟩)
    | (gi_at_call 40; refine (Tryz.maps_Keys_40 _ _).mono ?_; rintro e w' ⟨rfl, rfl⟩)
    | (gi_at_call 39; refine (Tryz.slices_Sorted_keys_39_40 bm S.fs.length (datum S.fs) ptrElem w1 hown hmax hbytes).mono ?_; rintro e w' ⟨v, ss, rfl, hS, hrow, hnil, hb⟩))
  go_ret
  rw [keys_datum] at hS
  exact ⟨v, ss, rfl, hS, ownsRow_base_a hrow (by simp), ((Below.refl _ w1).alloc (Nat.le_refl _) _).trans (hb.mono (by simp))⟩
theorem list_off {w : World} {d bm : Nat} {S : St} (h : DiskAt w d bm S) (hon : S.on = false) :
    Calls Tryz.prog 19 #[.pointer (some ⟨d, 0, none⟩)] w fun e w' => e = .returned (.slice none 0 0) ∧ w' = w := by
  have R := refusal_nil h
  rw [hon] at R
  have R : Hid (Calls Tryz.prog 24 #[.pointer (some ⟨d, 0, none⟩), .slice none 0 0] w fun x w' => x = .returned (.int .i64 9) ∧ w' = w) := R
  clear h hon
  go_enter Tryz.func19, Tryz.ntmps19
  go_wp2_with (go_at_call 24; refine R.out.mono ?_; rintro x w1 ⟨rfl, rfl⟩)
  go_ret
  exact ⟨rfl, rfl⟩
end Go.Proofs.YtglaocghcgcghaaGreatDoor
