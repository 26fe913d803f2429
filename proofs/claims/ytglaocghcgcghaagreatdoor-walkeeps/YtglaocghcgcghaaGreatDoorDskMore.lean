/-
  CONTRACTS: a new file, the ways that are not the plain one; calls to files that are not there; a plan.
-/
import Derived.Test.YtglaocghcgcghaaGreatDoorMany7
namespace Go.Proofs.YtglaocghcgcghaaGreatDoor
open Go.RowKit Go.Maps

set_option maxRecDepth 100000 in
set_option maxHeartbeats 1000000 in
theorem create_refused {w : World} {d bm : Nat} {S : St} (h : DiskAt w d bm S) (s : ByteArray) (hs : s.size ≤ maxLen) {c : Int} (hc : refuse S.on [s] = c) (hc0 : c ≠ 0) :
    Calls Tryz.prog 60 #[.pointer (some ⟨d, 0, none⟩), .string s] w fun x w' => x = .returned (.int .i64 c) ∧ DiskAt w' d bm S ∧ Moved w w' (foot d bm S.fs) (foot d bm S.fs) := by
  have hmf : ∀ (fn : Fn) (first cap : Array Value) (w : World), (Instr.makeFunc fn first cap).run Tryz.prog w = .ok (.func fn first cap) w := fun _ _ _ _ => rfl
  have R := refused_boxed h s hs
  rw [hc] at R
  have R : Hid (Calls Tryz.prog 24 #[.pointer (some ⟨d, 0, none⟩), .slice (some ⟨w.heap.size + 2, 0, none⟩) 1 1] (((w.alloc (.cells #[.pointer (some ⟨d, 0, none⟩)] 29)).alloc (.cells #[.string s] 9)).alloc (.cells #[.string s] 9)) fun x w1 => x = .returned (.int .i64 c) ∧ Boxed2 w d bm S s w1) := R
  have hcb : (c == 0) = false := by rw [beq_eq_false_iff_ne]; exact hc0
  clear h hs hc
  go_enter Tryz.func60, Tryz.ntmps60
  go_wp2_with (go_at_call 24; go_fit R.out; rintro x w1 ⟨rfl, hB⟩)
  go_ret
  exact ⟨rfl, hB.disk, hB.moved⟩
set_option maxRecDepth 100000 in
set_option maxHeartbeats 1000000 in
theorem create_many {w : World} {d bm : Nat} {S : St} (h : DiskAt w d bm S) (s : ByteArray) (hs : s.size ≤ maxLen) (hc : refuse S.on [s] = 0) (hf : find S.fs (nameOf s) = none) (hlen : 48 ≤ S.fs.length) :
    Calls Tryz.prog 60 #[.pointer (some ⟨d, 0, none⟩), .string s] w fun x w' => x = .returned (.int .i64 7) ∧ DiskAt w' d bm S ∧ Moved w w' (foot d bm S.fs) (foot d bm S.fs) := by
  have hmf : ∀ (fn : Fn) (first cap : Array Value) (w : World), (Instr.makeFunc fn first cap).run Tryz.prog w = .ok (.func fn first cap) w := fun _ _ _ _ => rfl
  have R := refused_boxed h s hs
  rw [hc] at R
  have R : Hid (Calls Tryz.prog 24 #[.pointer (some ⟨d, 0, none⟩), .slice (some ⟨w.heap.size + 2, 0, none⟩) 1 1] (((w.alloc (.cells #[.pointer (some ⟨d, 0, none⟩)] 29)).alloc (.cells #[.string s] 9)).alloc (.cells #[.string s] 9)) fun x w1 => x = .returned (.int .i64 0) ∧ Boxed2 w d bm S s w1) := R
  have LK : Hid (∀ w1, Boxed2 w d bm S s w1 → ∀ k, (Instr.lookup 59 (.map (some bm)) (.string s) false).run Tryz.prog (w1.drewN k) = .ok (.pointer none) (w1.drewN k)) := fun w1 hB k => look_none (hB.drewN k).disk.map hs hf
  have hg1 : decide (48 ≤ (S.fs.length : Int)) = true := decide_eq_true (by omega)
  have hlb : (48 : Int) ≤ (S.fs.length : Int) := by omega
  clear h hs hc hf hlen
  go_enter Tryz.func60, Tryz.ntmps60
  go_wp2_with (go_at_call 24; go_fit R.out; rintro x w1 ⟨rfl, hB⟩; have c0 := hB.disk.c0; have k1 := hB.k1; have k2 := hB.k2; have hln := hB.len; have lk0 := LK.out _ hB)
  go_quiet (fail)
  go_wp2
  go_ret
  exact ⟨rfl, (hB.drewN _).disk, (hB.drewN _).moved⟩
set_option maxRecDepth 100000 in
set_option maxHeartbeats 1000000 in
theorem create_full {w : World} {d bm : Nat} {S : St} (h : DiskAt w d bm S) (s : ByteArray) (hs : s.size ≤ maxLen) (hc : refuse S.on [s] = 0) (hf : find S.fs (nameOf s) = none) (hlen : S.fs.length < 48) (hu : S.room ≤ sumUsed S.fs) (hu0 : sumUsed S.fs ≤ 1099511627776) (hr : S.room ≤ 1073741824) :
    Calls Tryz.prog 60 #[.pointer (some ⟨d, 0, none⟩), .string s] w fun x w' => x = .returned (.int .i64 7) ∧ DiskAt w' d bm S ∧ Moved w w' (foot d bm S.fs) (foot d bm S.fs) := by
  have hmf : ∀ (fn : Fn) (first cap : Array Value) (w : World), (Instr.makeFunc fn first cap).run Tryz.prog w = .ok (.func fn first cap) w := fun _ _ _ _ => rfl
  have R := refused_boxed h s hs
  rw [hc] at R
  have R : Hid (Calls Tryz.prog 24 #[.pointer (some ⟨d, 0, none⟩), .slice (some ⟨w.heap.size + 2, 0, none⟩) 1 1] (((w.alloc (.cells #[.pointer (some ⟨d, 0, none⟩)] 29)).alloc (.cells #[.string s] 9)).alloc (.cells #[.string s] 9)) fun x w1 => x = .returned (.int .i64 0) ∧ Boxed2 w d bm S s w1) := R
  have LK : Hid (∀ w1, Boxed2 w d bm S s w1 → ∀ k, (Instr.lookup 59 (.map (some bm)) (.string s) false).run Tryz.prog (w1.drewN k) = .ok (.pointer none) (w1.drewN k)) := fun w1 hB k => look_none (hB.drewN k).disk.map hs hf
  have F : Hid (∀ w1, Boxed2 w d bm S s w1 → Calls Tryz.prog 77 #[.pointer (some ⟨d, 0, none⟩)] w1 fun x w2 => x = .returned (.int .i64 ((S.room : Int) - (sumUsed S.fs : Int))) ∧ Boxed2 w d bm S s w2) := fun w1 hB => (free_any hB.disk (refuse_on hc) hu0 hr).mono fun x w2 hh => ⟨hh.1, hB.grown hh.2⟩
  have hg1 : decide (48 ≤ (S.fs.length : Int)) = false := decide_eq_false (by omega)
  have hg2 : decide ((S.room : Int) - (sumUsed S.fs : Int) < 1) = true := decide_eq_true (by omega)
  have hlb : (S.fs.length : Int) < 48 := by omega
  clear h hs hc hf hlen hr hu hu0
  generalize (S.room : Int) - (sumUsed S.fs : Int) = fr at *
  go_enter Tryz.func60, Tryz.ntmps60
  go_wp2_with (first | (go_at_call 24; go_fit R.out; rintro x w1 ⟨rfl, hB⟩; have c0 := hB.disk.c0; have k1 := hB.k1; have k2 := hB.k2; have hln := hB.len; have lk0 := LK.out _ hB) | (go_at_call 77; go_fit (F.out _ hB); rintro x w2 ⟨rfl, hB2⟩; have d0 := hB2.disk.c0; have e1 := hB2.k1; have e2 := hB2.k2; have lk := LK.out _ hB2))
  go_quiet (fail)
  go_wp2
  go_ret
  exact ⟨rfl, (hB2.drewN _).disk, (hB2.drewN _).moved⟩
set_option maxRecDepth 100000 in
set_option maxHeartbeats 1000000 in
theorem create_again {w : World} {d bm : Nat} {S : St} (h : DiskAt w d bm S) (s : ByteArray) (hs : s.size ≤ maxLen) (hc : refuse S.on [s] = 0) {e : Ent} (hf : find S.fs (nameOf s) = some e) (hlen : S.fs.length < 48) (hu0 : sumUsed S.fs ≤ 1099511627776) (hr : S.room ≤ 1073741824) (hl : S.left ≠ 1) (ho : S.ops ≤ 4611686018427387904) (hlm : S.left ≤ 9223372036854775807) (hn : S.fs.length < maxLen) :
    Calls Tryz.prog 60 #[.pointer (some ⟨d, 0, none⟩), .string s] w fun x w' => x = .returned (.int .i64 0) ∧ ∃ b, DiskAt w' d bm { S with ops := S.ops + 1, left := S.left - 1, fs := putE S.fs (newE (nameOf s) b) } ∧ Moved w w' (foot d bm S.fs) (foot d bm (putE S.fs (newE (nameOf s) b))) := by
  have hmf : ∀ (fn : Fn) (first cap : Array Value) (w : World), (Instr.makeFunc fn first cap).run Tryz.prog w = .ok (.func fn first cap) w := fun _ _ _ _ => rfl
  have R := refused_boxed h s hs
  rw [hc] at R
  have R : Hid (Calls Tryz.prog 24 #[.pointer (some ⟨d, 0, none⟩), .slice (some ⟨w.heap.size + 2, 0, none⟩) 1 1] (((w.alloc (.cells #[.pointer (some ⟨d, 0, none⟩)] 29)).alloc (.cells #[.string s] 9)).alloc (.cells #[.string s] 9)) fun x w1 => x = .returned (.int .i64 0) ∧ Boxed2 w d bm S s w1) := R
  have LK : Hid (∀ w1, Boxed2 w d bm S s w1 → ∀ k, (Instr.lookup 59 (.map (some bm)) (.string s) false).run Tryz.prog (w1.drewN k) = .ok (.pointer (some ⟨e.b, 0, none⟩)) (w1.drewN k)) := fun w1 hB k => look_some (hB.drewN k).disk.map hs hf
  have F : Hid (∀ w1, Boxed2 w d bm S s w1 → Calls Tryz.prog 77 #[.pointer (some ⟨d, 0, none⟩)] w1 fun x w2 => x = .returned (.int .i64 ((S.room : Int) - (sumUsed S.fs : Int))) ∧ Boxed2 w d bm S s w2) := fun w1 hB => (free_any hB.disk (refuse_on hc) hu0 hr).mono fun x w2 hh => ⟨hh.1, hB.grown hh.2⟩
  have O : Hid (∀ w1, Boxed2 w d bm S s w1 → ∀ v k, Calls Tryz.prog 62 #[.pointer (some ⟨d, 0, none⟩), .func (.func 89) #[] #[.pointer (some ⟨w.heap.size, 0, none⟩), .pointer (some ⟨w.heap.size + 1, 0, none⟩)], v] (w1.drewN k) fun x w' => x = .returned (.int .i64 0) ∧ ∃ b, DiskAt w' d bm { S with ops := S.ops + 1, left := S.left - 1, fs := putE S.fs (newE (nameOf s) b) } ∧ Moved w w' (foot d bm S.fs) (foot d bm (putE S.fs (newE (nameOf s) b)))) := fun w1 hB v k => create_operate h s hs hl ho hlm hn (hB.drewN k) v
  have hg1 : decide (48 ≤ (S.fs.length : Int)) = false := decide_eq_false (by omega)
  have hlb : (S.fs.length : Int) < 48 := by omega
  clear h hs hc hf hlen hr hu0 hl ho hlm hn
  generalize (S.room : Int) - (sumUsed S.fs : Int) = fr at *
  go_enter Tryz.func60, Tryz.ntmps60
  go_wp2_with (first | (go_at_call 24; go_fit R.out; rintro x w1 ⟨rfl, hB⟩; have c0 := hB.disk.c0; have k1 := hB.k1; have k2 := hB.k2; have hln := hB.len; have lk0 := LK.out _ hB) | (go_at_call 77; go_fit (F.out _ hB); rintro x w2 ⟨rfl, hB2⟩; have d0 := hB2.disk.c0; have e1 := hB2.k1; have e2 := hB2.k2; have lk := LK.out _ hB2))
  go_quiet (fail)
  go_wp2_with (go_at_call 62; go_fit (O.out _ hB2 _ _); rintro x w3 ⟨rfl, hE⟩)
  go_ret
  exact ⟨rfl, hE⟩
set_option maxRecDepth 100000 in
set_option maxHeartbeats 1000000 in
theorem create_again_many {w : World} {d bm : Nat} {S : St} (h : DiskAt w d bm S) (s : ByteArray) (hs : s.size ≤ maxLen) (hc : refuse S.on [s] = 0) {e : Ent} (hf : find S.fs (nameOf s) = some e) (hlen : 48 ≤ S.fs.length) (hl : S.left ≠ 1) (ho : S.ops ≤ 4611686018427387904) (hlm : S.left ≤ 9223372036854775807) (hn : S.fs.length < maxLen) :
    Calls Tryz.prog 60 #[.pointer (some ⟨d, 0, none⟩), .string s] w fun x w' => x = .returned (.int .i64 0) ∧ ∃ b, DiskAt w' d bm { S with ops := S.ops + 1, left := S.left - 1, fs := putE S.fs (newE (nameOf s) b) } ∧ Moved w w' (foot d bm S.fs) (foot d bm (putE S.fs (newE (nameOf s) b))) := by
  have hmf : ∀ (fn : Fn) (first cap : Array Value) (w : World), (Instr.makeFunc fn first cap).run Tryz.prog w = .ok (.func fn first cap) w := fun _ _ _ _ => rfl
  have R := refused_boxed h s hs
  rw [hc] at R
  have R : Hid (Calls Tryz.prog 24 #[.pointer (some ⟨d, 0, none⟩), .slice (some ⟨w.heap.size + 2, 0, none⟩) 1 1] (((w.alloc (.cells #[.pointer (some ⟨d, 0, none⟩)] 29)).alloc (.cells #[.string s] 9)).alloc (.cells #[.string s] 9)) fun x w1 => x = .returned (.int .i64 0) ∧ Boxed2 w d bm S s w1) := R
  have LK : Hid (∀ w1, Boxed2 w d bm S s w1 → ∀ k, (Instr.lookup 59 (.map (some bm)) (.string s) false).run Tryz.prog (w1.drewN k) = .ok (.pointer (some ⟨e.b, 0, none⟩)) (w1.drewN k)) := fun w1 hB k => look_some (hB.drewN k).disk.map hs hf
  have O : Hid (∀ w1, Boxed2 w d bm S s w1 → ∀ v k, Calls Tryz.prog 62 #[.pointer (some ⟨d, 0, none⟩), .func (.func 89) #[] #[.pointer (some ⟨w.heap.size, 0, none⟩), .pointer (some ⟨w.heap.size + 1, 0, none⟩)], v] (w1.drewN k) fun x w' => x = .returned (.int .i64 0) ∧ ∃ b, DiskAt w' d bm { S with ops := S.ops + 1, left := S.left - 1, fs := putE S.fs (newE (nameOf s) b) } ∧ Moved w w' (foot d bm S.fs) (foot d bm (putE S.fs (newE (nameOf s) b)))) := fun w1 hB v k => create_operate h s hs hl ho hlm hn (hB.drewN k) v
  have hg1 : decide (48 ≤ (S.fs.length : Int)) = true := decide_eq_true (by omega)
  have hlb : (48 : Int) ≤ (S.fs.length : Int) := by omega
  clear h hs hc hf hlen hl ho hlm hn
  go_enter Tryz.func60, Tryz.ntmps60
  go_wp2_with (go_at_call 24; go_fit R.out; rintro x w1 ⟨rfl, hB⟩; have c0 := hB.disk.c0; have k1 := hB.k1; have k2 := hB.k2; have hln := hB.len; have lk0 := LK.out _ hB)
  go_quiet (fail)
  go_wp2_with (go_at_call 62; go_fit (O.out _ hB _ _); rintro x w3 ⟨rfl, hE⟩)
  go_ret
  exact ⟨rfl, hE⟩
theorem read_refused {w : World} {d bm : Nat} {S : St} (h : DiskAt w d bm S) (s : ByteArray) (hs : s.size ≤ maxLen) {c : Int} (hc : refuse S.on [s] = c) (hc0 : c ≠ 0) :
    Calls Tryz.prog 21 #[.pointer (some ⟨d, 0, none⟩), .string s] w fun x w' => x = .returned (.tuple #[.slice none 0 0, .int .i64 c]) ∧ w.grownBy w' none := by
  have F : Hid (Calls Tryz.prog 43 #[.pointer (some ⟨d, 0, none⟩), .string s] w fun x w' => x = .returned (.tuple #[.pointer none, .int .i64 c]) ∧ w.grownBy w' none) := find_refused h s hs hc hc0
  have hcb : (c == 0) = false := by rw [beq_eq_false_iff_ne]; exact hc0
  clear h hs
  go_enter Tryz.func21, Tryz.ntmps21
  go_wp2_with (go_at_call 43; go_fit F.out; rintro x w1 ⟨rfl, hg⟩)
  go_ret2
  exact ⟨rfl, hg⟩
theorem append_refused {w : World} {d bm : Nat} {S : St} (h : DiskAt w d bm S) (s : ByteArray) (hs : s.size ≤ maxLen) (ao : Option Addr) (n k : Nat) {c : Int} (hc : refuse S.on [s] = c) (hc0 : c ≠ 0) :
    Calls Tryz.prog 50 #[.pointer (some ⟨d, 0, none⟩), .string s, .slice ao n k] w fun x w' => x = .returned (.int .i64 c) ∧ w.grownBy w' none := by
  have F : Hid (Calls Tryz.prog 43 #[.pointer (some ⟨d, 0, none⟩), .string s] ((w.alloc (.cells #[.pointer (some ⟨d, 0, none⟩)] 29)).alloc (.cells #[.slice ao n k] 37)) fun x w' => x = .returned (.tuple #[.pointer none, .int .i64 c]) ∧ ((w.alloc (.cells #[.pointer (some ⟨d, 0, none⟩)] 29)).alloc (.cells #[.slice ao n k] 37)).grownBy w' none) := find_refused ((h.alloc _).alloc _) s hs hc hc0
  have hcb : (c == 0) = false := by rw [beq_eq_false_iff_ne]; exact hc0
  clear h hs
  go_enter Tryz.func50, Tryz.ntmps50
  go_wp2_with (go_at_call 43; go_fit F.out; rintro x w1 ⟨rfl, hg⟩)
  go_ret
  exact ⟨rfl, (((World.grownBy_alloc _ _ none).andThen (World.grownBy_alloc _ _ none) (fun j hj => by cases hj)).andThen hg (fun j hj => by cases hj)).andThen (World.grownBy_alloc _ _ none) (fun j hj => by cases hj)⟩
theorem read_none {w : World} {d bm : Nat} {S : St} (h : DiskAt w d bm S) (s : ByteArray) (hs : s.size ≤ maxLen) (hc : refuse S.on [s] = 0) (hf : find S.fs (nameOf s) = none) :
    Calls Tryz.prog 21 #[.pointer (some ⟨d, 0, none⟩), .string s] w fun x w' => x = .returned (.tuple #[.slice none 0 0, .int .i64 4]) ∧ w.grownBy w' none := by
  have F : Hid (Calls Tryz.prog 43 #[.pointer (some ⟨d, 0, none⟩), .string s] w fun x w' => x = .returned (.tuple #[.pointer none, .int .i64 4]) ∧ w.grownBy w' none) := find_none h s hs hc hf
  clear h hs
  go_enter Tryz.func21, Tryz.ntmps21
  go_wp2_with (go_at_call 43; go_fit F.out; rintro x w1 ⟨rfl, hg⟩)
  go_ret2
  exact ⟨rfl, hg⟩
theorem append_none {w : World} {d bm : Nat} {S : St} (h : DiskAt w d bm S) (s : ByteArray) (hs : s.size ≤ maxLen) (ao : Option Addr) (n k : Nat) (hc : refuse S.on [s] = 0) (hf : find S.fs (nameOf s) = none) :
    Calls Tryz.prog 50 #[.pointer (some ⟨d, 0, none⟩), .string s, .slice ao n k] w fun x w' => x = .returned (.int .i64 4) ∧ w.grownBy w' none := by
  have F : Hid (Calls Tryz.prog 43 #[.pointer (some ⟨d, 0, none⟩), .string s] ((w.alloc (.cells #[.pointer (some ⟨d, 0, none⟩)] 29)).alloc (.cells #[.slice ao n k] 37)) fun x w' => x = .returned (.tuple #[.pointer none, .int .i64 4]) ∧ ((w.alloc (.cells #[.pointer (some ⟨d, 0, none⟩)] 29)).alloc (.cells #[.slice ao n k] 37)).grownBy w' none) := find_none ((h.alloc _).alloc _) s hs hc hf
  clear h hs
  go_enter Tryz.func50, Tryz.ntmps50
  go_wp2_with (go_at_call 43; go_fit F.out; rintro x w1 ⟨rfl, hg⟩)
  go_ret
  exact ⟨rfl, (((World.grownBy_alloc _ _ none).andThen (World.grownBy_alloc _ _ none) (fun j hj => by cases hj)).andThen hg (fun j hj => by cases hj)).andThen (World.grownBy_alloc _ _ none) (fun j hj => by cases hj)⟩
end Go.Proofs.YtglaocghcgcghaaGreatDoor
