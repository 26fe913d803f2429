/-
  CONTRACTS: the one function through which all operations go, with each of its closures.
-/
import Derived.Test.YthihljjefncfoaaGreatDoorDskCrash
namespace Go.Proofs.YthihljjefncfoaaGreatDoor
open Go.RowKit Go.Maps

theorem ops_text (n : Nat) (h : n ≤ 4611686018427387904) : wrap64 ((n : Int) + 1) = ((n + 1 : Nat) : Int) := by rw [IntWalk.wrap64_in _ ⟨by omega, by omega⟩]; omega
theorem left_text (n : Nat) (h : n ≤ 9223372036854775807) : max 0 (wrap64 ((n : Int) - 1)) = ((n - 1 : Nat) : Int) := by rw [IntWalk.wrap64_in _ ⟨by omega, by omega⟩]; omega

set_option maxRecDepth 100000 in
theorem operateCreate {w : World} {d bm : Nat} {S : St} (h : DiskAt w d bm S) (hl : S.left ≠ 1) (ho : S.ops ≤ 4611686018427387904) (hlm : S.left ≤ 9223372036854775807) (p1 p2 : Nat) (v : Value) (Q : World → Prop)
    (C : ∀ w1, DiskAt w1 d bm { S with ops := S.ops + 1, left := S.left - 1 } → Moved w w1 [d] [d] → Calls Tryz.prog 63 #[.pointer (some ⟨p1, 0, none⟩), .pointer (some ⟨p2, 0, none⟩)] w1 fun x w2 => x = .returned (.tuple #[]) ∧ Q w2) :
    Calls Tryz.prog 62 #[.pointer (some ⟨d, 0, none⟩), .func (.func 63) #[] #[.pointer (some ⟨p1, 0, none⟩), .pointer (some ⟨p2, 0, none⟩)], v] w fun x w2 => x = .returned (.int .i64 0) ∧ Q w2 := by
  have c3 := h.c3
  have f3 := h.head.frozen 3
  have c5 := h.c5
  have f5 := h.head.frozen 5
  have h1 := h.put (S' := { S with ops := S.ops + 1 }) rfl 3 (.int .i64 ((S.ops + 1 : Nat) : Int)) rfl
  have h2 := h1.put (S' := { S with ops := S.ops + 1, left := S.left - 1 }) rfl 5 (.int .i64 ((S.left - 1 : Nat) : Int)) rfl
  have M : Moved w ((w.setCell ⟨d, 3, none⟩ (.int .i64 ((S.ops + 1 : Nat) : Int))).setCell ⟨d, 5, none⟩ (.int .i64 ((S.left - 1 : Nat) : Int))) [d] [d] := (Moved.of_set d 3 _).trans (Moved.of_set d 5 _)
  have hc := C _ h2 M
  have hlb : ((S.left : Int) == 1) = false := by rw [beq_eq_false_iff_ne]; omega
  have t1 := ops_text S.ops ho
  have t2 := left_text S.left hlm
  generalize hA : ((S.ops + 1 : Nat) : Int) = A at *
  generalize hB : ((S.left - 1 : Nat) : Int) = B at *
  have HC : Hid (Calls Tryz.prog 63 #[.pointer (some ⟨p1, 0, none⟩), .pointer (some ⟨p2, 0, none⟩)] ((w.setCell ⟨d, 3, none⟩ (.int .i64 A)).setCell ⟨d, 5, none⟩ (.int .i64 B)) fun x w2 => x = .returned (.tuple #[]) ∧ Q w2) := hc
  clear h h1 h2 M C hc ho hlm hl hA hB
  go_enter Tryz.func62, Tryz.ntmps62
  go_wp2_with (go_at_call 63; go_fit HC.out; rintro x w2 ⟨rfl, hQ⟩)
  go_ret
  exact ⟨rfl, hQ⟩

set_option maxRecDepth 100000 in
theorem operateAppend {w : World} {d bm : Nat} {S : St} (h : DiskAt w d bm S) (hl : S.left ≠ 1) (ho : S.ops ≤ 4611686018427387904) (hlm : S.left ≤ 9223372036854775807) (p1 p2 p3 : Nat) (v : Value) (Q : World → Prop)
    (C : ∀ w1, DiskAt w1 d bm { S with ops := S.ops + 1, left := S.left - 1 } → Moved w w1 [d] [d] → Calls Tryz.prog 67 #[.pointer (some ⟨p1, 0, none⟩), .pointer (some ⟨p2, 0, none⟩), .pointer (some ⟨p3, 0, none⟩)] w1 fun x w2 => x = .returned (.tuple #[]) ∧ Q w2) :
    Calls Tryz.prog 62 #[.pointer (some ⟨d, 0, none⟩), .func (.func 67) #[] #[.pointer (some ⟨p1, 0, none⟩), .pointer (some ⟨p2, 0, none⟩), .pointer (some ⟨p3, 0, none⟩)], v] w fun x w2 => x = .returned (.int .i64 0) ∧ Q w2 := by
  have c3 := h.c3
  have f3 := h.head.frozen 3
  have c5 := h.c5
  have f5 := h.head.frozen 5
  have h1 := h.put (S' := { S with ops := S.ops + 1 }) rfl 3 (.int .i64 ((S.ops + 1 : Nat) : Int)) rfl
  have h2 := h1.put (S' := { S with ops := S.ops + 1, left := S.left - 1 }) rfl 5 (.int .i64 ((S.left - 1 : Nat) : Int)) rfl
  have M : Moved w ((w.setCell ⟨d, 3, none⟩ (.int .i64 ((S.ops + 1 : Nat) : Int))).setCell ⟨d, 5, none⟩ (.int .i64 ((S.left - 1 : Nat) : Int))) [d] [d] := (Moved.of_set d 3 _).trans (Moved.of_set d 5 _)
  have hc := C _ h2 M
  have hlb : ((S.left : Int) == 1) = false := by rw [beq_eq_false_iff_ne]; omega
  have t1 := ops_text S.ops ho
  have t2 := left_text S.left hlm
  generalize hA : ((S.ops + 1 : Nat) : Int) = A at *
  generalize hB : ((S.left - 1 : Nat) : Int) = B at *
  have HC : Hid (Calls Tryz.prog 67 #[.pointer (some ⟨p1, 0, none⟩), .pointer (some ⟨p2, 0, none⟩), .pointer (some ⟨p3, 0, none⟩)] ((w.setCell ⟨d, 3, none⟩ (.int .i64 A)).setCell ⟨d, 5, none⟩ (.int .i64 B)) fun x w2 => x = .returned (.tuple #[]) ∧ Q w2) := hc
  clear h h1 h2 M C hc ho hlm hl hA hB
  go_enter Tryz.func62, Tryz.ntmps62
  go_wp2_with (go_at_call 67; go_fit HC.out; rintro x w2 ⟨rfl, hQ⟩)
  go_ret
  exact ⟨rfl, hQ⟩

set_option maxRecDepth 100000 in
theorem operateSync {w : World} {d bm : Nat} {S : St} (h : DiskAt w d bm S) (hl : S.left ≠ 1) (ho : S.ops ≤ 4611686018427387904) (hlm : S.left ≤ 9223372036854775807) (p1 : Nat) (v : Value) (Q : World → Prop)
    (C : ∀ w1, DiskAt w1 d bm { S with ops := S.ops + 1, left := S.left - 1 } → Moved w w1 [d] [d] → Calls Tryz.prog 69 #[.pointer (some ⟨p1, 0, none⟩)] w1 fun x w2 => x = .returned (.tuple #[]) ∧ Q w2) :
    Calls Tryz.prog 62 #[.pointer (some ⟨d, 0, none⟩), .func (.func 69) #[] #[.pointer (some ⟨p1, 0, none⟩)], v] w fun x w2 => x = .returned (.int .i64 0) ∧ Q w2 := by
  have c3 := h.c3
  have f3 := h.head.frozen 3
  have c5 := h.c5
  have f5 := h.head.frozen 5
  have h1 := h.put (S' := { S with ops := S.ops + 1 }) rfl 3 (.int .i64 ((S.ops + 1 : Nat) : Int)) rfl
  have h2 := h1.put (S' := { S with ops := S.ops + 1, left := S.left - 1 }) rfl 5 (.int .i64 ((S.left - 1 : Nat) : Int)) rfl
  have M : Moved w ((w.setCell ⟨d, 3, none⟩ (.int .i64 ((S.ops + 1 : Nat) : Int))).setCell ⟨d, 5, none⟩ (.int .i64 ((S.left - 1 : Nat) : Int))) [d] [d] := (Moved.of_set d 3 _).trans (Moved.of_set d 5 _)
  have hc := C _ h2 M
  have hlb : ((S.left : Int) == 1) = false := by rw [beq_eq_false_iff_ne]; omega
  have t1 := ops_text S.ops ho
  have t2 := left_text S.left hlm
  generalize hA : ((S.ops + 1 : Nat) : Int) = A at *
  generalize hB : ((S.left - 1 : Nat) : Int) = B at *
  have HC : Hid (Calls Tryz.prog 69 #[.pointer (some ⟨p1, 0, none⟩)] ((w.setCell ⟨d, 3, none⟩ (.int .i64 A)).setCell ⟨d, 5, none⟩ (.int .i64 B)) fun x w2 => x = .returned (.tuple #[]) ∧ Q w2) := hc
  clear h h1 h2 M C hc ho hlm hl hA hB
  go_enter Tryz.func62, Tryz.ntmps62
  go_wp2_with (go_at_call 69; go_fit HC.out; rintro x w2 ⟨rfl, hQ⟩)
  go_ret
  exact ⟨rfl, hQ⟩

set_option maxRecDepth 100000 in
theorem operateRename {w : World} {d bm : Nat} {S : St} (h : DiskAt w d bm S) (hl : S.left ≠ 1) (ho : S.ops ≤ 4611686018427387904) (hlm : S.left ≤ 9223372036854775807) (p1 p2 p3 p4 : Nat) (v : Value) (Q : World → Prop)
    (C : ∀ w1, DiskAt w1 d bm { S with ops := S.ops + 1, left := S.left - 1 } → Moved w w1 [d] [d] → Calls Tryz.prog 71 #[.pointer (some ⟨p1, 0, none⟩), .pointer (some ⟨p2, 0, none⟩), .pointer (some ⟨p3, 0, none⟩), .pointer (some ⟨p4, 0, none⟩)] w1 fun x w2 => x = .returned (.tuple #[]) ∧ Q w2) :
    Calls Tryz.prog 62 #[.pointer (some ⟨d, 0, none⟩), .func (.func 71) #[] #[.pointer (some ⟨p1, 0, none⟩), .pointer (some ⟨p2, 0, none⟩), .pointer (some ⟨p3, 0, none⟩), .pointer (some ⟨p4, 0, none⟩)], v] w fun x w2 => x = .returned (.int .i64 0) ∧ Q w2 := by
  have c3 := h.c3
  have f3 := h.head.frozen 3
  have c5 := h.c5
  have f5 := h.head.frozen 5
  have h1 := h.put (S' := { S with ops := S.ops + 1 }) rfl 3 (.int .i64 ((S.ops + 1 : Nat) : Int)) rfl
  have h2 := h1.put (S' := { S with ops := S.ops + 1, left := S.left - 1 }) rfl 5 (.int .i64 ((S.left - 1 : Nat) : Int)) rfl
  have M : Moved w ((w.setCell ⟨d, 3, none⟩ (.int .i64 ((S.ops + 1 : Nat) : Int))).setCell ⟨d, 5, none⟩ (.int .i64 ((S.left - 1 : Nat) : Int))) [d] [d] := (Moved.of_set d 3 _).trans (Moved.of_set d 5 _)
  have hc := C _ h2 M
  have hlb : ((S.left : Int) == 1) = false := by rw [beq_eq_false_iff_ne]; omega
  have t1 := ops_text S.ops ho
  have t2 := left_text S.left hlm
  generalize hA : ((S.ops + 1 : Nat) : Int) = A at *
  generalize hB : ((S.left - 1 : Nat) : Int) = B at *
  have HC : Hid (Calls Tryz.prog 71 #[.pointer (some ⟨p1, 0, none⟩), .pointer (some ⟨p2, 0, none⟩), .pointer (some ⟨p3, 0, none⟩), .pointer (some ⟨p4, 0, none⟩)] ((w.setCell ⟨d, 3, none⟩ (.int .i64 A)).setCell ⟨d, 5, none⟩ (.int .i64 B)) fun x w2 => x = .returned (.tuple #[]) ∧ Q w2) := hc
  clear h h1 h2 M C hc ho hlm hl hA hB
  go_enter Tryz.func62, Tryz.ntmps62
  go_wp2_with (go_at_call 71; go_fit HC.out; rintro x w2 ⟨rfl, hQ⟩)
  go_ret
  exact ⟨rfl, hQ⟩

end Go.Proofs.YthihljjefncfoaaGreatDoor
