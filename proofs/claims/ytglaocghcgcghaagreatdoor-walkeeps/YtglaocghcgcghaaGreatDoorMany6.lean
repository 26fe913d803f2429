/-
  SEVERAL TEXTS IN ONE: DskOper, KeyText, WalName, MurHalf, BlmMem.
-/
import Derived.Test.YtglaocghcgcghaaGreatDoorDskCrash
import Derived.Test.YtglaocghcgcghaaGreatDoorMany5
import Derived.Lib.Replace
import Derived.Lib.ItoaNum
import Derived.Test.YtglaocghcgcghaaGreatDoorDskShelf
import Derived.Test.YtglaocghcgcghaaGreatDoorOwn
import Derived.Test.YtglaocghcgcghaaGreatDoorMany2
import Derived.Lib.ItoaLen
import Derived.Lib.AtoiAll
import Derived.Deep.RegionWith
import Derived.Test.YtglaocghcgcghaaGreatDoorMany1
namespace Go.Proofs.YtglaocghcgcghaaGreatDoor
open Go.RowKit Go.Maps

theorem ops_text (n : Nat) (h : n ≤ 4611686018427387904) : wrap64 ((n : Int) + 1) = ((n + 1 : Nat) : Int) := by rw [IntWalk.wrap64_in _ ⟨by omega, by omega⟩]; omega
theorem left_text (n : Nat) (h : n ≤ 9223372036854775807) : max 0 (wrap64 ((n : Int) - 1)) = ((n - 1 : Nat) : Int) := by rw [IntWalk.wrap64_in _ ⟨by omega, by omega⟩]; omega

set_option maxRecDepth 100000 in
theorem operateCreate {w : World} {d bm : Nat} {S : St} (h : DiskAt w d bm S) (hl : S.left ≠ 1) (ho : S.ops ≤ 4611686018427387904) (hlm : S.left ≤ 9223372036854775807) (p1 p2 : Nat) (v : Value) (Q : World → Prop)
    (C : ∀ w1, DiskAt w1 d bm { S with ops := S.ops + 1, left := S.left - 1 } → Moved w w1 [d] [d] → Calls Tryz.prog 89 #[.pointer (some ⟨p1, 0, none⟩), .pointer (some ⟨p2, 0, none⟩)] w1 fun x w2 => x = .returned (.tuple #[]) ∧ Q w2) :
    Calls Tryz.prog 62 #[.pointer (some ⟨d, 0, none⟩), .func (.func 89) #[] #[.pointer (some ⟨p1, 0, none⟩), .pointer (some ⟨p2, 0, none⟩)], v] w fun x w2 => x = .returned (.int .i64 0) ∧ Q w2 := by
  have c3 := h.c3
  have f3 := h.head.frozen 3
  have c5 := h.c5
  have f5 := h.head.frozen 5
  have h1 := h.put (S' := { S with ops := S.ops + 1 }) rfl 3 (.int .i64 ((S.ops + 1 : Nat) : Int)) rfl
  have h2 := h1.put (S' := { S with ops := S.ops + 1, left := S.left - 1 }) rfl 5 (.int .i64 ((S.left - 1 : Nat) : Int)) rfl
  have M : Moved w ((w.setCell ⟨d, 3, none⟩ (.int .i64 ((S.ops + 1 : Nat) : Int))).setCell ⟨d, 5, none⟩ (.int .i64 ((S.left - 1 : Nat) : Int))) [d] [d] := (Moved.of_set d 3 _).trans (Moved.of_set d 5 _)
  have hc := C _ h2 M
  have hlb : ((S.left : Int) == 1) = false := by rw [beq_eq_false_iff_ne]; omega
  have t1 := ops_text S.ops ho
  have t2 := left_text S.left hlm
  generalize hA : ((S.ops + 1 : Nat) : Int) = A at *
  generalize hB : ((S.left - 1 : Nat) : Int) = B at *
  have HC : Hid (Calls Tryz.prog 89 #[.pointer (some ⟨p1, 0, none⟩), .pointer (some ⟨p2, 0, none⟩)] ((w.setCell ⟨d, 3, none⟩ (.int .i64 A)).setCell ⟨d, 5, none⟩ (.int .i64 B)) fun x w2 => x = .returned (.tuple #[]) ∧ Q w2) := hc
  clear h h1 h2 M C hc ho hlm hl hA hB
  go_enter Tryz.func62, Tryz.ntmps62
  go_wp2_with (go_at_call 89; go_fit HC.out; rintro x w2 ⟨rfl, hQ⟩)
  go_ret
  exact ⟨rfl, hQ⟩

set_option maxRecDepth 100000 in
theorem operateAppend {w : World} {d bm : Nat} {S : St} (h : DiskAt w d bm S) (hl : S.left ≠ 1) (ho : S.ops ≤ 4611686018427387904) (hlm : S.left ≤ 9223372036854775807) (p1 p2 p3 : Nat) (v : Value) (Q : World → Prop)
    (C : ∀ w1, DiskAt w1 d bm { S with ops := S.ops + 1, left := S.left - 1 } → Moved w w1 [d] [d] → Calls Tryz.prog 78 #[.pointer (some ⟨p1, 0, none⟩), .pointer (some ⟨p2, 0, none⟩), .pointer (some ⟨p3, 0, none⟩)] w1 fun x w2 => x = .returned (.tuple #[]) ∧ Q w2) :
    Calls Tryz.prog 62 #[.pointer (some ⟨d, 0, none⟩), .func (.func 78) #[] #[.pointer (some ⟨p1, 0, none⟩), .pointer (some ⟨p2, 0, none⟩), .pointer (some ⟨p3, 0, none⟩)], v] w fun x w2 => x = .returned (.int .i64 0) ∧ Q w2 := by
  have c3 := h.c3
  have f3 := h.head.frozen 3
  have c5 := h.c5
  have f5 := h.head.frozen 5
  have h1 := h.put (S' := { S with ops := S.ops + 1 }) rfl 3 (.int .i64 ((S.ops + 1 : Nat) : Int)) rfl
  have h2 := h1.put (S' := { S with ops := S.ops + 1, left := S.left - 1 }) rfl 5 (.int .i64 ((S.left - 1 : Nat) : Int)) rfl
  have M : Moved w ((w.setCell ⟨d, 3, none⟩ (.int .i64 ((S.ops + 1 : Nat) : Int))).setCell ⟨d, 5, none⟩ (.int .i64 ((S.left - 1 : Nat) : Int))) [d] [d] := (Moved.of_set d 3 _).trans (Moved.of_set d 5 _)
  have hc := C _ h2 M
  have hlb : ((S.left : Int) == 1) = false := by rw [beq_eq_false_iff_ne]; omega
  have t1 := ops_text S.ops ho
  have t2 := left_text S.left hlm
  generalize hA : ((S.ops + 1 : Nat) : Int) = A at *
  generalize hB : ((S.left - 1 : Nat) : Int) = B at *
  have HC : Hid (Calls Tryz.prog 78 #[.pointer (some ⟨p1, 0, none⟩), .pointer (some ⟨p2, 0, none⟩), .pointer (some ⟨p3, 0, none⟩)] ((w.setCell ⟨d, 3, none⟩ (.int .i64 A)).setCell ⟨d, 5, none⟩ (.int .i64 B)) fun x w2 => x = .returned (.tuple #[]) ∧ Q w2) := hc
  clear h h1 h2 M C hc ho hlm hl hA hB
  go_enter Tryz.func62, Tryz.ntmps62
  go_wp2_with (go_at_call 78; go_fit HC.out; rintro x w2 ⟨rfl, hQ⟩)
  go_ret
  exact ⟨rfl, hQ⟩

set_option maxRecDepth 100000 in
theorem operateSync {w : World} {d bm : Nat} {S : St} (h : DiskAt w d bm S) (hl : S.left ≠ 1) (ho : S.ops ≤ 4611686018427387904) (hlm : S.left ≤ 9223372036854775807) (p1 : Nat) (v : Value) (Q : World → Prop)
    (C : ∀ w1, DiskAt w1 d bm { S with ops := S.ops + 1, left := S.left - 1 } → Moved w w1 [d] [d] → Calls Tryz.prog 80 #[.pointer (some ⟨p1, 0, none⟩)] w1 fun x w2 => x = .returned (.tuple #[]) ∧ Q w2) :
    Calls Tryz.prog 62 #[.pointer (some ⟨d, 0, none⟩), .func (.func 80) #[] #[.pointer (some ⟨p1, 0, none⟩)], v] w fun x w2 => x = .returned (.int .i64 0) ∧ Q w2 := by
  have c3 := h.c3
  have f3 := h.head.frozen 3
  have c5 := h.c5
  have f5 := h.head.frozen 5
  have h1 := h.put (S' := { S with ops := S.ops + 1 }) rfl 3 (.int .i64 ((S.ops + 1 : Nat) : Int)) rfl
  have h2 := h1.put (S' := { S with ops := S.ops + 1, left := S.left - 1 }) rfl 5 (.int .i64 ((S.left - 1 : Nat) : Int)) rfl
  have M : Moved w ((w.setCell ⟨d, 3, none⟩ (.int .i64 ((S.ops + 1 : Nat) : Int))).setCell ⟨d, 5, none⟩ (.int .i64 ((S.left - 1 : Nat) : Int))) [d] [d] := (Moved.of_set d 3 _).trans (Moved.of_set d 5 _)
  have hc := C _ h2 M
  have hlb : ((S.left : Int) == 1) = false := by rw [beq_eq_false_iff_ne]; omega
  have t1 := ops_text S.ops ho
  have t2 := left_text S.left hlm
  generalize hA : ((S.ops + 1 : Nat) : Int) = A at *
  generalize hB : ((S.left - 1 : Nat) : Int) = B at *
  have HC : Hid (Calls Tryz.prog 80 #[.pointer (some ⟨p1, 0, none⟩)] ((w.setCell ⟨d, 3, none⟩ (.int .i64 A)).setCell ⟨d, 5, none⟩ (.int .i64 B)) fun x w2 => x = .returned (.tuple #[]) ∧ Q w2) := hc
  clear h h1 h2 M C hc ho hlm hl hA hB
  go_enter Tryz.func62, Tryz.ntmps62
  go_wp2_with (go_at_call 80; go_fit HC.out; rintro x w2 ⟨rfl, hQ⟩)
  go_ret
  exact ⟨rfl, hQ⟩

set_option maxRecDepth 100000 in
theorem operateRename {w : World} {d bm : Nat} {S : St} (h : DiskAt w d bm S) (hl : S.left ≠ 1) (ho : S.ops ≤ 4611686018427387904) (hlm : S.left ≤ 9223372036854775807) (p1 p2 p3 p4 : Nat) (v : Value) (Q : World → Prop)
    (C : ∀ w1, DiskAt w1 d bm { S with ops := S.ops + 1, left := S.left - 1 } → Moved w w1 [d] [d] → Calls Tryz.prog 99 #[.pointer (some ⟨p1, 0, none⟩), .pointer (some ⟨p2, 0, none⟩), .pointer (some ⟨p3, 0, none⟩), .pointer (some ⟨p4, 0, none⟩)] w1 fun x w2 => x = .returned (.tuple #[]) ∧ Q w2) :
    Calls Tryz.prog 62 #[.pointer (some ⟨d, 0, none⟩), .func (.func 99) #[] #[.pointer (some ⟨p1, 0, none⟩), .pointer (some ⟨p2, 0, none⟩), .pointer (some ⟨p3, 0, none⟩), .pointer (some ⟨p4, 0, none⟩)], v] w fun x w2 => x = .returned (.int .i64 0) ∧ Q w2 := by
  have c3 := h.c3
  have f3 := h.head.frozen 3
  have c5 := h.c5
  have f5 := h.head.frozen 5
  have h1 := h.put (S' := { S with ops := S.ops + 1 }) rfl 3 (.int .i64 ((S.ops + 1 : Nat) : Int)) rfl
  have h2 := h1.put (S' := { S with ops := S.ops + 1, left := S.left - 1 }) rfl 5 (.int .i64 ((S.left - 1 : Nat) : Int)) rfl
  have M : Moved w ((w.setCell ⟨d, 3, none⟩ (.int .i64 ((S.ops + 1 : Nat) : Int))).setCell ⟨d, 5, none⟩ (.int .i64 ((S.left - 1 : Nat) : Int))) [d] [d] := (Moved.of_set d 3 _).trans (Moved.of_set d 5 _)
  have hc := C _ h2 M
  have hlb : ((S.left : Int) == 1) = false := by rw [beq_eq_false_iff_ne]; omega
  have t1 := ops_text S.ops ho
  have t2 := left_text S.left hlm
  generalize hA : ((S.ops + 1 : Nat) : Int) = A at *
  generalize hB : ((S.left - 1 : Nat) : Int) = B at *
  have HC : Hid (Calls Tryz.prog 99 #[.pointer (some ⟨p1, 0, none⟩), .pointer (some ⟨p2, 0, none⟩), .pointer (some ⟨p3, 0, none⟩), .pointer (some ⟨p4, 0, none⟩)] ((w.setCell ⟨d, 3, none⟩ (.int .i64 A)).setCell ⟨d, 5, none⟩ (.int .i64 B)) fun x w2 => x = .returned (.tuple #[]) ∧ Q w2) := hc
  clear h h1 h2 M C hc ho hlm hl hA hB
  go_enter Tryz.func62, Tryz.ntmps62
  go_wp2_with (go_at_call 99; go_fit HC.out; rintro x w2 ⟨rfl, hQ⟩)
  go_ret
  exact ⟨rfl, hQ⟩

set_option maxRecDepth 100000 in
theorem operateRemove {w : World} {d bm : Nat} {S : St} (h : DiskAt w d bm S) (hl : S.left ≠ 1) (ho : S.ops ≤ 4611686018427387904) (hlm : S.left ≤ 9223372036854775807) (p1 p2 : Nat) (v : Value) (Q : World → Prop)
    (C : ∀ w1, DiskAt w1 d bm { S with ops := S.ops + 1, left := S.left - 1 } → Moved w w1 [d] [d] → Calls Tryz.prog 63 #[.pointer (some ⟨p1, 0, none⟩), .pointer (some ⟨p2, 0, none⟩)] w1 fun x w2 => x = .returned (.tuple #[]) ∧ Q w2) :
    Calls Tryz.prog 62 #[.pointer (some ⟨d, 0, none⟩), .func (.func 63) #[] #[.pointer (some ⟨p1, 0, none⟩), .pointer (some ⟨p2, 0, none⟩)], v] w fun x w2 => x = .returned (.int .i64 0) ∧ Q w2 := by
  have c3 := h.c3
  have f3 := h.head.frozen 3
  have c5 := h.c5
  have f5 := h.head.frozen 5
  have h1 := h.put (S' := { S with ops := S.ops + 1 }) rfl 3 (.int .i64 ((S.ops + 1 : Nat) : Int)) rfl
  have h2 := h1.put (S' := { S with ops := S.ops + 1, left := S.left - 1 }) rfl 5 (.int .i64 ((S.left - 1 : Nat) : Int)) rfl
  have M : Moved w ((w.setCell ⟨d, 3, none⟩ (.int .i64 ((S.ops + 1 : Nat) : Int))).setCell ⟨d, 5, none⟩ (.int .i64 ((S.left - 1 : Nat) : Int))) [d] [d] := (Moved.of_set d 3 _).trans (Moved.of_set d 5 _)
  have hc := C _ h2 M
  have hlb : ((S.left : Int) == 1) = false := by rw [beq_eq_false_iff_ne]; omega
  have t1 := ops_text S.ops ho
  have t2 := left_text S.left hlm
  generalize hA : ((S.ops + 1 : Nat) : Int) = A at *
  generalize hB : ((S.left - 1 : Nat) : Int) = B at *
  have HC : Hid (Calls Tryz.prog 63 #[.pointer (some ⟨p1, 0, none⟩), .pointer (some ⟨p2, 0, none⟩)] ((w.setCell ⟨d, 3, none⟩ (.int .i64 A)).setCell ⟨d, 5, none⟩ (.int .i64 B)) fun x w2 => x = .returned (.tuple #[]) ∧ Q w2) := hc
  clear h h1 h2 M C hc ho hlm hl hA hB
  go_enter Tryz.func62, Tryz.ntmps62
  go_wp2_with (go_at_call 63; go_fit HC.out; rintro x w2 ⟨rfl, hQ⟩)
  go_ret
  exact ⟨rfl, hQ⟩
end Go.Proofs.YtglaocghcgcghaaGreatDoor
namespace Go.Proofs.YtglaocghcgcghaaGreatDoor
open Go.RowKit

def m1 (b : UInt8) : List UInt8 := if b = 47 then [37, 50, 102] else if b = 37 then [37, 50, 53] else [b]
def msk (l : List UInt8) : List UInt8 := l.flatMap m1
theorem replace_one (c : UInt8) (new : List UInt8) : ∀ s : List UInt8, Lib.replaceK [c] new (Lib.count s [c]) s = s.flatMap fun b => if b = c then new else [b]
  | [] => by
    rw [Lib.count_miss (by rfl)]; rfl
  | b :: l => by
    have ih := replace_one c new l
    have hi : Lib.index (b :: l) [c] = if b = c then 0 else if Lib.index l [c] == -1 then -1 else Lib.index l [c] + 1 := by
      conv => lhs; unfold Lib.index
      by_cases h : b = c
      · subst h; simp
      · have h' : ¬ c = b := fun e => h e.symm
        simp [h, h']
    rw [List.flatMap_cons]
    by_cases h : b = c
    · rw [if_pos h] at hi
      have hi0 : Lib.index (b :: l) [c] = ((0 : Nat) : Int) := hi
      rw [Lib.count_hit (by simp) hi0, Nat.add_comm 1, Lib.replaceK_hit _ _ _ _ 0 hi0, if_pos h]
      simp only [List.take_zero, List.nil_append, Nat.zero_add, List.length_cons, List.length_nil, List.drop_succ_cons, List.drop_zero]
      rw [ih]
    · rw [if_neg h] at hi
      rw [if_neg h]
      by_cases hm : Lib.index l [c] = -1
      · rw [if_pos (by simp [hm])] at hi
        rw [Lib.count_miss hi]
        rw [Lib.count_miss hm] at ih
        rw [← ih]; rfl
      · have hge := Lib.index_ge l [c]
        obtain ⟨i, hl⟩ : ∃ i : Nat, Lib.index l [c] = i := ⟨(Lib.index l [c]).toNat, by omega⟩
        rw [if_neg (by simp [hm]), hl] at hi
        have hi1 : Lib.index (b :: l) [c] = ((i + 1 : Nat) : Int) := by rw [hi]; omega
        rw [Lib.count_hit (by simp) hi1, Nat.add_comm 1, Lib.replaceK_hit _ _ _ _ (i + 1) hi1]
        rw [Lib.count_hit (by simp) hl, Nat.add_comm 1, Lib.replaceK_hit _ _ _ _ i hl] at ih
        rw [← ih]
        simp
theorem replaceAll_one (c : UInt8) (new s : List UInt8) (h : ([c] == new) = false) : Lib.replaceAll s [c] new = s.flatMap fun b => if b = c then new else [b] := by
  unfold Lib.replaceAll Lib.replace Lib.replaceNum
  rw [h, if_neg (by simp), if_pos (Or.inl (by omega))]
  exact replace_one c new s
theorem mask_two (s : List UInt8) : Lib.replaceAll (Lib.replaceAll s [37] [37, 50, 53]) [47] [37, 50, 102] = msk s := by
  rw [replaceAll_one _ _ _ (by decide), replaceAll_one _ _ _ (by decide), List.flatMap_assoc]
  unfold msk
  congr 1
  funext b
  unfold m1
  by_cases h1 : b = 37
  · subst h1; rfl
  · by_cases h2 : b = 47
    · subst h2; rfl
    · simp [h1, h2]
theorem flat_len (c : UInt8) (new : List UInt8) (k : Nat) (hn : new.length ≤ k) (hk : 1 ≤ k) : ∀ s : List UInt8, (s.flatMap fun b => if b = c then new else [b]).length ≤ k * s.length
  | [] => by simp
  | b :: l => by
    have := flat_len c new k hn hk l
    rw [List.flatMap_cons, List.length_append, List.length_cons, Nat.mul_add]
    split
    · omega
    · simp only [List.length_cons, List.length_nil]; omega

theorem m1_no47 (b : UInt8) : (47 : UInt8) ∉ m1 b := by
  unfold m1
  split
  · decide
  · split
    · decide
    · rename_i h _; simp only [List.mem_singleton]; exact fun e => h e.symm
theorem msk_no47 (l : List UInt8) : (47 : UInt8) ∉ msk l := by
  unfold msk; rw [List.mem_flatMap]; rintro ⟨b, _, hb⟩; exact m1_no47 b hb
theorem msk_cons (b : UInt8) (l : List UInt8) : msk (b :: l) = m1 b ++ msk l := List.flatMap_cons
theorem msk_inj : ∀ {a b : List UInt8}, msk a = msk b → a = b
  | [], [], _ => rfl
  | [], y :: b, h => by
    rw [msk_cons] at h; unfold m1 at h
    split at h
    · simp [msk] at h
    · split at h <;> simp [msk] at h
  | x :: a, [], h => by
    rw [msk_cons] at h; unfold m1 at h
    split at h
    · simp [msk] at h
    · split at h <;> simp [msk] at h
  | x :: a, y :: b, h => by
    rw [msk_cons, msk_cons] at h
    unfold m1 at h
    by_cases x1 : x = 47
    · rw [if_pos x1] at h
      by_cases y1 : y = 47
      · rw [if_pos y1] at h
        have := msk_inj (List.append_cancel_left h); rw [x1, y1, this]
      · rw [if_neg y1] at h
        by_cases y2 : y = 37
        · rw [if_pos y2] at h; simp at h
        · rw [if_neg y2] at h; simp only [List.cons_append, List.cons.injEq] at h; exact absurd h.1.symm y2
    · rw [if_neg x1] at h
      by_cases x2 : x = 37
      · rw [if_pos x2] at h
        by_cases y1 : y = 47
        · rw [if_pos y1] at h; simp at h
        · rw [if_neg y1] at h
          by_cases y2 : y = 37
          · rw [if_pos y2] at h
            have := msk_inj (List.append_cancel_left h); rw [x2, y2, this]
          · rw [if_neg y2] at h; simp only [List.cons_append, List.cons.injEq] at h; exact absurd h.1.symm y2
      · rw [if_neg x2] at h
        by_cases y1 : y = 47
        · rw [if_pos y1] at h; simp only [List.cons_append, List.cons.injEq] at h; exact absurd h.1 x2
        · rw [if_neg y1] at h
          by_cases y2 : y = 37
          · rw [if_pos y2] at h; simp only [List.cons_append, List.cons.injEq] at h; exact absurd h.1 x2
          · rw [if_neg y2] at h
            simp only [List.cons_append, List.nil_append, List.cons.injEq] at h
            rw [h.1, msk_inj h.2]

/-! ### Digits -/
theorem dec_small {u : Nat} (h : u < 10) : Lib.decDigits u = [UInt8.ofNat (48 + u)] := by rw [Lib.decDigits, dif_pos h]
theorem dec_big {u : Nat} (h : 10 ≤ u) : Lib.decDigits u = Lib.decDigits (u / 10) ++ [UInt8.ofNat (48 + u % 10)] := by rw [Lib.decDigits, dif_neg (by omega)]
theorem dec_range : ∀ (n u : Nat), u < n → ∀ b ∈ Lib.decDigits u, 48 ≤ b.toNat ∧ b.toNat ≤ 57
  | 0, _, h => by omega
  | n + 1, u, h => by
    intro b hb
    by_cases hu : u < 10
    · rw [dec_small hu, List.mem_singleton] at hb
      rw [hb, UInt8.toNat_ofNat_of_lt' (by show _ < 256; omega)]; omega
    · rw [dec_big (by omega), List.mem_append, List.mem_singleton] at hb
      rcases hb with hb | hb
      · exact dec_range n (u / 10) (by omega) b hb
      · rw [hb, UInt8.toNat_ofNat_of_lt' (by show _ < 256; omega)]; omega
def valD (l : List UInt8) : Nat := l.foldl (fun u b => u * 10 + (b.toNat - 48)) 0
theorem val_dec : ∀ (n u : Nat), u < n → valD (Lib.decDigits u) = u
  | 0, _, h => by omega
  | n + 1, u, h => by
    by_cases hu : u < 10
    · rw [dec_small hu]; unfold valD
      rw [List.foldl_cons, List.foldl_nil, UInt8.toNat_ofNat_of_lt' (by show _ < 256; omega)]; omega
    · rw [dec_big (by omega)]; unfold valD
      rw [List.foldl_append, List.foldl_cons, List.foldl_nil, UInt8.toNat_ofNat_of_lt' (by show _ < 256; omega)]
      have := val_dec n (u / 10) (by omega)
      unfold valD at this; rw [this]; omega
theorem dec_inj {u v : Nat} (h : Lib.decDigits u = Lib.decDigits v) : u = v := by
  rw [← val_dec (u + 1) u (by omega), h, val_dec (v + 1) v (by omega)]
theorem itoa_inj {x y : Int} (h : Lib.itoa x = Lib.itoa y) : x = y := by
  have no45 : ∀ (u : Nat) (l : List UInt8), 45 :: l ≠ Lib.decDigits u := by
    intro u l e
    have := dec_range (u + 1) u (by omega) 45 (by rw [← e]; exact List.mem_cons_self ..)
    have h2 : (45 : UInt8).toNat = 45 := rfl
    omega
  unfold Lib.itoa at h
  split at h <;> split at h
  · have := dec_inj (List.cons.inj h).2; omega
  · exact absurd h (no45 _ _)
  · exact absurd h.symm (no45 _ _)
  · have := dec_inj h; omega
theorem itoa_no47 (x : Int) : (47 : UInt8) ∉ Lib.itoa x := by
  have no : ∀ u : Nat, (47 : UInt8) ∉ Lib.decDigits u := by
    intro u e
    have := dec_range (u + 1) u (by omega) 47 e
    have h2 : (47 : UInt8).toNat = 47 := rfl
    omega
  unfold Lib.itoa
  split
  · rw [List.mem_cons]; rintro (e | e)
    · exact absurd e (by decide)
    · exact no _ e
  · exact no _

/-! ### A key's text -/
def prK (k : Ky) : List UInt8 := msk k.t ++ (47 :: (msk k.p ++ (47 :: (Lib.itoa k.r ++ (47 :: msk k.c)))))
theorem cut47 : ∀ {x x' y y' : List UInt8}, 47 ∉ x → 47 ∉ x' → x ++ (47 :: y) = x' ++ (47 :: y') → x = x' ∧ y = y'
  | [], [], _, _, _, _, h => ⟨rfl, (List.cons.inj h).2⟩
  | [], b :: x', _, _, _, h', h => absurd (List.mem_cons.2 (Or.inl (List.cons.inj h).1)) h'
  | a :: x, [], _, _, h', _, h => absurd (List.mem_cons.2 (Or.inl (List.cons.inj h).1.symm)) h'
  | a :: x, b :: x', y, y', h1, h2, h => by
    obtain ⟨e1, e2⟩ := List.cons.inj h
    have := cut47 (fun hh => h1 (List.mem_cons_of_mem _ hh)) (fun hh => h2 (List.mem_cons_of_mem _ hh)) e2
    exact ⟨by rw [e1, this.1], this.2⟩
theorem prK_inj (a b : Ky) : prK a = prK b ↔ a = b := by
  constructor
  · intro h
    obtain ⟨h1, h⟩ := cut47 (msk_no47 _) (msk_no47 _) h
    obtain ⟨h2, h⟩ := cut47 (msk_no47 _) (msk_no47 _) h
    obtain ⟨h3, h4⟩ := cut47 (itoa_no47 _) (itoa_no47 _) h
    cases a; cases b
    simp only [Ky.mk.injEq]
    exact ⟨msk_inj h1, msk_inj h2, itoa_inj h3, msk_inj h4⟩
  · rintro rfl; rfl
end Go.Proofs.YtglaocghcgcghaaGreatDoor
namespace Go.Proofs.YtglaocghcgcghaaGreatDoor
open Go.RowKit

def preW : List UInt8 := [108, 111, 103, 45]
/-- May a segment have that number? -/
def okW (n : Int) : Bool := decide (1 ≤ n) && decide (n ≤ 999999999)
theorem okW_iff {n : Int} : okW n = true ↔ 1 ≤ n ∧ n ≤ 999999999 := by simp [okW]
/-- P7.1, a segment's name. -/
def nmW (n : Int) : List UInt8 := if okW n then preW ++ Lib.itoa n else []
/-- .. a name's number. -/
def numR (s : List UInt8) : Int × Bool := match Lib.atoiAll (Lib.trimPrefix s preW) with
  | .ok v => if nmW v = s then (v, true) else (0, false)
  | _ => (0, false)
theorem nmW_len (n : Int) : (nmW n).length ≤ 25 := by
  unfold nmW
  split
  · rename_i h
    rw [okW_iff] at h
    have := Lib.itoa_length_le n (by omega) (by omega)
    rw [List.length_append]; simp only [preW, List.length_cons, List.length_nil]; omega
  · simp
/-- What the library's variables hold. -/
structure EnvW (w : World) : Prop where
  tab : Lib.TabIs Tryz.prog w "internal/strconv.uint64pow10" .u64 Lib.pow10Tab
  syn : ∃ t p, w.cell? ⟨1, 0, none⟩ = some (.iface t p)
  rng : ∃ t p, w.cell? ⟨2, 0, none⟩ = some (.iface t p)
theorem gPowW : Tryz.prog.globalNamed "internal/strconv.uint64pow10" = some 3 := by kernel_rfl
theorem EnvW.keep {w w' : World} (h : EnvW w) (h1 : w'.heap[3]? = w.heap[3]?) (h2 : w'.heap[1]? = w.heap[1]?) (h3 : w'.heap[2]? = w.heap[2]?) : EnvW w' := by
  refine ⟨?_, ?_, ?_⟩
  · have ht := h.tab
    unfold Lib.TabIs World.var? at ht ⊢
    rw [gPowW] at ht ⊢
    simp only [Option.bind_some] at ht ⊢
    rw [h1]; exact ht
  · obtain ⟨t, p, hc⟩ := h.syn
    exact ⟨t, p, by rw [World.cell?_of_block (a := ⟨1, 0, none⟩) h2]; exact hc⟩
  · obtain ⟨t, p, hc⟩ := h.rng
    exact ⟨t, p, by rw [World.cell?_of_block (a := ⟨2, 0, none⟩) h3]; exact hc⟩
theorem EnvW.lt {w : World} (h : EnvW w) : 3 < w.heap.size ∧ 1 < w.heap.size ∧ 2 < w.heap.size := by
  refine ⟨?_, ?_, ?_⟩
  · have ht := h.tab
    unfold Lib.TabIs World.var? at ht
    rw [gPowW] at ht
    simp only [Option.bind_some] at ht
    rcases Nat.lt_or_ge 3 w.heap.size with g | g
    · exact g
    · rw [Array.getElem?_eq_none g] at ht; cases ht
  · obtain ⟨t, p, hc⟩ := h.syn; exact World.block_lt_of_cell? _ _ hc
  · obtain ⟨t, p, hc⟩ := h.rng; exact World.block_lt_of_cell? _ _ hc
theorem EnvW.below {w w' : World} (h : EnvW w) {B : Nat} (hb : Below B w w') (hB : w.heap.size ≤ B) : EnvW w' := by
  obtain ⟨l1, l2, l3⟩ := h.lt
  exact h.keep (hb.block _ (by omega)) (hb.block _ (by omega)) (hb.block _ (by omega))
set_option maxRecDepth 100000 in
theorem possible_any (n : Int) (w : World) : Calls Tryz.prog 22 #[.int .i64 n] w fun e w' => e = .returned (.bool (okW n)) ∧ w' = w := by
  have HO : Hid (okW n = (decide (1 ≤ n) && decide (n ≤ 999999999))) := rfl
  by_cases h1 : 1 ≤ n
  · by_cases h2 : n ≤ 999999999
    · go_enter Tryz.func22, Tryz.ntmps22
      go_wp2_with fail
      go_ret
      exact ⟨ret_bool (by rw [HO.out]; simp [h1, h2]), rfl⟩
    · go_enter Tryz.func22, Tryz.ntmps22
      go_wp2_with fail
      go_ret
      exact ⟨ret_bool (by rw [HO.out]; simp [h1, h2]; try omega), rfl⟩
  · go_enter Tryz.func22, Tryz.ntmps22
    go_wp2_with fail
    go_ret
    exact ⟨ret_bool (by rw [HO.out]; simp; try omega), rfl⟩
theorem itoaW_any (n : Int) (h0 : -9223372036854775808 ≤ n) (h1 : n ≤ 9223372036854775807) (w : World) (he : EnvW w) :
    Calls Tryz.prog 65 #[.int .i64 n] w fun x w' => x = .returned (.string (tB (Lib.itoa n))) ∧ Below w.heap.size w w' :=
  (Tryz.strconv_Itoa n h0 h1 w he.tab).mono fun x w' ⟨h1, k, os, h2⟩ => ⟨h1, by
    rw [h2]
    exact ⟨rfl, rfl, rfl, by show w.heap.size ≤ (w.heap ++ os).size; simp, fun j hj => by show (w.heap ++ os)[j]? = _; rw [Array.getElem?_append_left hj]⟩⟩
set_option maxRecDepth 100000 in
theorem nameW_any (n : Int) (h0 : -9223372036854775808 ≤ n) (h1 : n ≤ 9223372036854775807) (w : World) (he : EnvW w) :
    Calls Tryz.prog 38 #[.int .i64 n] w fun x w' => x = .returned (.string (tB (nmW n))) ∧ Below w.heap.size w w' := by
  have CP : Hid (∀ u, Calls Tryz.prog 22 #[.int .i64 n] u fun e w' => e = .returned (.bool (okW n)) ∧ w' = u) := possible_any n
  have CI : Hid (Calls Tryz.prog 65 #[.int .i64 n] w fun x w' => x = .returned (.string (tB (Lib.itoa n))) ∧ Below w.heap.size w w') := itoaW_any n h0 h1 w he
  have HN : Hid (nmW n = if okW n then preW ++ Lib.itoa n else []) := rfl
  clear he
  cases hok : okW n with
  | true =>
    have HR : Hid (⟨#[108, 111, 103, 45]⟩ ++ tB (Lib.itoa n) = tB (nmW n)) := by
      show _ = _
      rw [HN.out, if_pos hok, ← tB_app]; rfl
    rw [hok] at CP
    clear HN hok
    have hsz : (tB (Lib.itoa n)).size ≤ 21 := by rw [tB_size]; exact Lib.itoa_length_le n h0 h1
    generalize tB (Lib.itoa n) = s at *
    have hsz2 : ¬ 9223372036854775807 < 4 + s.size := by omega
    go_enter Tryz.func38, Tryz.ntmps38
    go_wp2_with (go_at_call 22; refine (CP.out _).mono ?_; rintro e w1 ⟨rfl, rfl⟩)
    go_fit CI.out
    rintro e w2 ⟨rfl, hB⟩
    go_wp2_with fail
    go_ret
    exact ⟨by rw [← HR.out]; rfl, hB⟩
  | false =>
    have HR : Hid (tB (nmW n) = ⟨#[]⟩) := by
      show _ = _
      rw [HN.out, if_neg (by rw [hok]; simp)]; rfl
    rw [hok] at CP
    clear HN hok CI h0 h1
    go_enter Tryz.func38, Tryz.ntmps38
    go_wp2_with (go_at_call 22; refine (CP.out _).mono ?_; rintro e w1 ⟨rfl, rfl⟩)
    go_ret
    exact ⟨by rw [HR.out]; rfl, Below.refl _ _⟩
end Go.Proofs.YtglaocghcgcghaaGreatDoor
namespace Go.Proofs.YtglaocghcgcghaaGreatDoor
open Go.RowKit

/-- A block that holds one word, and may be written. -/
def Half (w : World) (g : Nat) (h : BitVec 64) : Prop := w.heap[g]? = some (.cells #[.int .u64 (h.toNat : Int)] 104 (0, 0))
theorem Half.lt {w : World} {g : Nat} {h : BitVec 64} (k : Half w g h) : g < w.heap.size := (Array.getElem?_eq_some_iff.1 k).1
theorem Half.cell {w : World} {g : Nat} {h : BitVec 64} (k : Half w g h) : w.cell? ⟨g, 0, none⟩ = some (.int .u64 (h.toNat : Int)) := by
  unfold Half at k
  simp [World.cell?, k]
theorem Half.frozen {w : World} {g : Nat} {h : BitVec 64} (k : Half w g h) : w.frozen? ⟨g, 0, none⟩ = false := by
  unfold Half at k
  simp [World.frozen?, k]
theorem Half.grown {w w' : World} {g g' : Nat} {h : BitVec 64} (k : Half w g h) (hg : w.grownBy w' (some g')) (hne : g ≠ g') : Half w' g h := by
  unfold Half at k ⊢
  rw [hg.block g (Half.lt k) (fun e => hne (Option.some.inj e)), k]
/-- One store into a half. -/
theorem Half.put {w : World} {g : Nat} {h : BitVec 64} (k : Half w g h) (t : BitVec 64) : Half (w.setCell ⟨g, 0, none⟩ (.int .u64 (t.toNat : Int))).drew g t ∧ w.grownBy (w.setCell ⟨g, 0, none⟩ (.int .u64 (t.toNat : Int))).drew (some g) := by
  refine ⟨?_, rfl, rfl, rfl, by simp [World.setCell, World.drew], fun j hj hne => ?_⟩
  · unfold Half at k ⊢
    show (w.setCell ⟨g, 0, none⟩ (.int .u64 (t.toNat : Int))).heap[g]? = _
    simp only [World.setCell, Array.getElem?_modify, k]
    simp
  · exact Below.heap_setCell _ _ _ _ (fun e => hne (by rw [e]))
/-- One call of a turn, over plain numbers. -/
def Turns (f : FuncId) (k : IntKind) (r y z : Int) : Prop := ∀ w, Calls Tryz.prog f #[.int .u64 y, .int k r] w fun e w' => e = .returned (.int .u64 z) ∧ w' = w

end Go.Proofs.YtglaocghcgcghaaGreatDoor
namespace Go.Proofs.YtglaocghcgcghaaGreatDoor
open Go.RowKit

/-- Where a filter lies: its head, its bits, how many there is room for, and what stands behind them. -/
structure FM where
  d : Nat
  g : Nat
  cap : Nat
  rest : List Value
abbrev FM.v (m : FM) : Value := .pointer (some ⟨m.d, 0, none⟩)
/-- No call made it. -/
def FNo (w : World) (v : Value) : Prop := v = .pointer none ∨ ∃ d, v = .pointer (some ⟨d, 0, none⟩) ∧ w.cell? ⟨d, 1, none⟩ = some (.slice none 0 0)

end Go.Proofs.YtglaocghcgcghaaGreatDoor
