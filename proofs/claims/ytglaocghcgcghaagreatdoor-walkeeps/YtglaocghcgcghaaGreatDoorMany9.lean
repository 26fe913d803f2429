/-
  SEVERAL TEXTS IN ONE: KeyName, MrgZone.
-/
import Derived.Test.YtglaocghcgcghaaGreatDoorMany7
import Derived.Test.YtglaocghcgcghaaGreatDoorOwn
import Derived.RangeFuncNested
import Derived.RangeFuncBound
import Derived.RangeFuncCalls
import Derived.RangeFuncLeaves
import Derived.Shelf.Abstract
import Derived.Shelf.RegionOpen
import Derived.WalkKit
import Derived.OwnWalkIn
import Derived.TacticsInMore
import Derived.LoopNIn
import Derived.LoopIn
import Derived.Maps.AppendAt
namespace Go.Proofs.YtglaocghcgcghaaGreatDoor
open Go.RowKit

def isL (x : Int) : Bool := decide (97 ≤ x) && decide (x ≤ 122)
def isD (x : Int) : Bool := decide (48 ≤ x) && decide (x ≤ 57)
def okC (x : Int) : Bool := isL x || isD x || x == 95
def nameB (l : List UInt8) : Bool := decide (1 ≤ l.length) && decide (l.length ≤ 16) && isL ((l.getD 0 0).toNat : Int) && l.all fun b => okC (b.toNat : Int)
theorem name_iff (l : List UInt8) : nameB l = true ↔ 1 ≤ l.length ∧ l.length ≤ 16 ∧ isL ((l.getD 0 0).toNat : Int) = true ∧ ∀ j, j < l.length → okC ((l.getD j 0).toNat : Int) = true := by
  unfold nameB
  simp only [Bool.and_eq_true, decide_eq_true_eq, List.all_eq_true, and_assoc]
  constructor
  · rintro ⟨h1, h2, h3, h4⟩
    refine ⟨h1, h2, h3, fun j hj => ?_⟩
    have e : l.getD j 0 = l[j] := by simp [List.getD, hj]
    rw [e]; exact h4 _ (List.getElem_mem hj)
  · rintro ⟨h1, h2, h3, h4⟩
    refine ⟨h1, h2, h3, fun b hb => ?_⟩
    obtain ⟨j, hj, rfl⟩ := List.getElem_of_mem hb
    have e : l.getD j 0 = l[j] := by simp [List.getD, hj]
    have := h4 j hj
    rwa [e] at this
theorem letter_any (x : Int) (w : World) : Calls Tryz.prog 95 #[.int .u8 x] w fun e w' => e = .returned (.bool (isL x)) ∧ w' = w := by
  unfold isL
  by_cases h : 97 ≤ x
  · have d : decide (97 ≤ x) = true := decide_eq_true h
    go_enter Tryz.func95, Tryz.ntmps95
    go_wp2_with fail
    go_ret
    exact ⟨ret_bool (by first | rfl | (rw [d]; simp)), rfl⟩
  · have d : decide (97 ≤ x) = false := decide_eq_false h
    go_enter Tryz.func95, Tryz.ntmps95
    go_wp2_with fail
    go_ret
    exact ⟨ret_bool (by first | rfl | (rw [d]; simp)), rfl⟩
theorem digit_any (x : Int) (w : World) : Calls Tryz.prog 96 #[.int .u8 x] w fun e w' => e = .returned (.bool (isD x)) ∧ w' = w := by
  unfold isD
  by_cases h : 48 ≤ x
  · have d : decide (48 ≤ x) = true := decide_eq_true h
    go_enter Tryz.func96, Tryz.ntmps96
    go_wp2_with fail
    go_ret
    exact ⟨ret_bool (by first | rfl | (rw [d]; simp)), rfl⟩
  · have d : decide (48 ≤ x) = false := decide_eq_false h
    go_enter Tryz.func96, Tryz.ntmps96
    go_wp2_with fail
    go_ret
    exact ⟨ret_bool (by first | rfl | (rw [d]; simp)), rfl⟩

theorem at_nb (s : ByteArray) (k : Nat) (hk : k < s.size) : (nb s).getD k 0 = s[k] := by
  have : k < s.data.toList.length := by simpa using hk
  unfold nb
  rw [List.getD_eq_getElem?_getD, List.getElem?_eq_getElem this]
  rfl
theorem name_no {l : List UInt8} (h : ¬ (1 ≤ l.length ∧ l.length ≤ 16 ∧ isL ((l.getD 0 0).toNat : Int) = true ∧ ∀ j, j < l.length → okC ((l.getD j 0).toNat : Int) = true)) : nameB l = false := by
  cases hg : nameB l
  · rfl
  · exact absurd ((name_iff l).1 hg) h

set_option maxRecDepth 100000 in
set_option maxHeartbeats 1000000 in
theorem name_any (s : ByteArray) (w : World) (hs : s.size ≤ maxLen) :
    Calls Tryz.prog 69 #[.string s] w fun e w' => e = .returned (.bool (nameB (nb s))) ∧ w' = w := by
  have hsz : (s.size : Int) ≤ 9223372036854775807 := by unfold maxLen at hs; omega
  have Hi : Hid _ := name_iff (nb s)
  have Hn : Hid _ := @name_no (nb s)
  rw [nb_size] at Hi Hn
  have Hat : Hid _ := at_nb s
  have L : Hid (∀ (x : Int) (w : World), Calls Tryz.prog 95 #[.int .u8 x] w fun e w' => e = .returned (.bool (isL x)) ∧ w' = w) := letter_any
  have D : Hid (∀ (x : Int) (w : World), Calls Tryz.prog 96 #[.int .u8 x] w fun e w' => e = .returned (.bool (isD x)) ∧ w' = w) := digit_any
  clear hs
  by_cases h0 : s.size = 0
  · go_enter Tryz.func69, Tryz.ntmps69
    go_wp2_with fail
    go_ret
    exact ⟨ret_bool (Hn.out (by omega)).symm, rfl⟩
  by_cases h16 : 16 < s.size
  · go_enter Tryz.func69, Tryz.ntmps69
    go_wp2_with fail
    go_ret
    exact ⟨ret_bool (Hn.out (by omega)).symm, rfl⟩
  have hb1 : decide ((s.size : Int) < 1) = false := decide_eq_false (by omega)
  have hb2 : decide (16 < (s.size : Int)) = false := decide_eq_false (by omega)
  have hsi : (s.size : Int) ≤ 16 := by omega
  have hpos : 0 < s.size := by omega
  have Hsz : Hid (s.size ≤ 16) := by show s.size ≤ 16; omega
  clear h0 h16
  obtain ⟨x0, hx0⟩ : ∃ x, ((s[0].toNat : Nat) : Int) = x := ⟨_, rfl⟩
  cases hl0 : isL x0
  · have HF : Hid (nameB (nb s) = false) := Hn.out (fun hh => by have := hh.2.2.1; rw [Hat.out 0 hpos, hx0, hl0] at this; cases this)
    have L0 := L.out x0
    rw [hl0] at L0
    have L0' : Hid (∀ w : World, Calls Tryz.prog 95 #[.int .u8 x0] w fun e w' => e = .returned (.bool false) ∧ w' = w) := L0
    clear L0 L D
    go_enter Tryz.func69, Tryz.ntmps69
    go_wp2_with (go_at_call 95; go_fit (L0'.out _); rintro e w1 ⟨rfl, rfl⟩)
    go_ret
    exact ⟨ret_bool HF.out.symm, rfl⟩
  have HL0 : Hid (isL (((nb s).getD 0 0).toNat : Int) = true) := by show isL _ = true; rw [Hat.out 0 hpos, hx0, hl0]
  have L0 := L.out x0
  rw [hl0] at L0
  have L0' : Hid (∀ w : World, Calls Tryz.prog 95 #[.int .u8 x0] w fun e w' => e = .returned (.bool true) ∧ w' = w) := L0
  clear L0 hl0
  go_enter Tryz.func69, Tryz.ntmps69
  go_wp2_with (go_at_call 95; go_fit (L0'.out _); rintro e w1 ⟨rfl, rfl⟩)
  clear hx0 L0'
  go_loop [20] (fun i => ∃ k : Nat, k ≤ s.size ∧ i = .int .i64 k ∧ ∀ j, j < k → okC (((nb s).getD j 0).toNat : Int) = true) (fun i => s.size - (intOf i).toNat)
  case atStart => exact ⟨0, Nat.zero_le _, rfl, fun j hj => absurd hj (Nat.not_lt_zero _)⟩
  case round =>
    obtain ⟨k, hk, rfl, hall⟩ := hrel
    have HA : Hid (∀ j, j < k → okC (((nb s).getD j 0).toNat : Int) = true) := hall
    clear hall
    by_cases hlt : k < s.size
    · obtain ⟨x, hx⟩ : ∃ x, ((s[k].toNat : Nat) : Int) = x := ⟨_, rfl⟩
      have HB : Hid (okC x = false → nameB (nb s) = false) := fun h => Hn.out fun hh => by have := hh.2.2.2 k hlt; rw [Hat.out k hlt, hx, h] at this; cases this
      have HN : Hid (okC x = true → ∀ j, j < k + 1 → okC (((nb s).getD j 0).toNat : Int) = true) := fun h j hj => by
        by_cases e : j = k
        · subst e; rw [Hat.out j hlt, hx]; exact h
        · exact HA.out j (by omega)
      have L1 : Hid (∀ w : World, Calls Tryz.prog 95 #[.int .u8 x] w fun e w' => e = .returned (.bool (isL x)) ∧ w' = w) := L.out x
      have D1 : Hid (∀ w : World, Calls Tryz.prog 96 #[.int .u8 x] w fun e w' => e = .returned (.bool (isD x)) ∧ w' = w) := D.out x
      have HO : Hid (okC x = (isL x || isD x || x == 95)) := rfl
      generalize isL x = bl at *
      generalize isD x = bd at *
      generalize okC x = bo at *
      clear Hi Hn Hat HA HL0 L D
      cases bl
      · cases bd
        · by_cases h95 : x = 95
          · subst h95
            have HN' : Hid (∀ j, j < k + 1 → okC (((nb s).getD j 0).toNat : Int) = true) := HN.out (by rw [HO.out]; rfl)
            clear HN HB HO
            go_wp2_with (first | (go_at_call 95; go_fit (L1.out _); rintro e w1 ⟨rfl, rfl⟩) | (go_at_call 96; go_fit (D1.out _); rintro e w1 ⟨rfl, rfl⟩))
            go_round
            case rel => exact ⟨k + 1, by omega, by go_num, HN'.out⟩
            case measure => simp [intOf]; omega
          · have e95 : (x == 95) = false := by rw [beq_eq_false_iff_ne]; exact h95
            have HF : Hid (nameB (nb s) = false) := HB.out (by rw [HO.out, e95]; rfl)
            clear HN HB HO
            go_wp2_with (first | (go_at_call 95; go_fit (L1.out _); rintro e w1 ⟨rfl, rfl⟩) | (go_at_call 96; go_fit (D1.out _); rintro e w1 ⟨rfl, rfl⟩))
            go_ret
            exact ⟨ret_bool HF.out.symm, rfl⟩
        · have HN' : Hid (∀ j, j < k + 1 → okC (((nb s).getD j 0).toNat : Int) = true) := HN.out (by rw [HO.out]; rfl)
          clear HN HB HO
          go_wp2_with (first | (go_at_call 95; go_fit (L1.out _); rintro e w1 ⟨rfl, rfl⟩) | (go_at_call 96; go_fit (D1.out _); rintro e w1 ⟨rfl, rfl⟩))
          go_round
          case rel => exact ⟨k + 1, by omega, by go_num, HN'.out⟩
          case measure => simp [intOf]; omega
      · have HN' : Hid (∀ j, j < k + 1 → okC (((nb s).getD j 0).toNat : Int) = true) := HN.out (by rw [HO.out]; rfl)
        clear HN HB HO
        go_wp2_with (first | (go_at_call 95; go_fit (L1.out _); rintro e w1 ⟨rfl, rfl⟩) | (go_at_call 96; go_fit (D1.out _); rintro e w1 ⟨rfl, rfl⟩))
        go_round
        case rel => exact ⟨k + 1, by omega, by go_num, HN'.out⟩
        case measure => simp [intOf]; omega
    · obtain rfl : k = s.size := by omega
      have HT : Hid (nameB (nb s) = true) := Hi.out.2 ⟨hpos, Hsz.out, HL0.out, HA.out⟩
      clear Hi Hn HA
      go_wp2_with fail
      go_ret
      exact ⟨ret_bool HT.out.symm, rfl⟩
end Go.Proofs.YtglaocghcgcghaaGreatDoor
namespace Go.Proofs.YtglaocghcgcghaaGreatDoor
open Go.RowKit Go.Shelf

/-- All but the zone from a to z lies as it lay. -/
structure Zoned (a z : Nat) (W W' : World) : Prop where
  os : W'.os = W.os
  tape : W'.tape = W.tape
  output : W'.output = W.output
  size : W.heap.size ≤ W'.heap.size
  block : ∀ k, k < W.heap.size → (k < a ∨ z ≤ k) → W'.heap[k]? = W.heap[k]?
/-- All below z lies as it lay, but what the loop's owner may write. -/
structure Spared (Ex : Nat → Prop) (z : Nat) (W W' : World) : Prop where
  os : W'.os = W.os
  tape : W'.tape = W.tape
  output : W'.output = W.output
  size : W.heap.size ≤ W'.heap.size
  block : ∀ k, k < z → ¬ Ex k → W'.heap[k]? = W.heap[k]?
theorem Zoned.refl (a z : Nat) (W : World) : Zoned a z W W := ⟨rfl, rfl, rfl, Nat.le_refl _, fun _ _ _ => rfl⟩
theorem Zoned.trans {a z : Nat} {A B C : World} (h : Zoned a z A B) (g : Zoned a z B C) : Zoned a z A C :=
  ⟨g.os.trans h.os, g.tape.trans h.tape, g.output.trans h.output, Nat.le_trans h.size g.size, fun k hk hn => (g.block k (Nat.lt_of_lt_of_le hk h.size) hn).trans (h.block k hk hn)⟩
theorem Zoned.wide {a a' z z' : Nat} {A B : World} (h : Zoned a z A B) (ha : a' ≤ a) (hz : z ≤ z') : Zoned a' z' A B :=
  ⟨h.os, h.tape, h.output, h.size, fun k hk hn => h.block k hk (by omega)⟩
theorem Zoned.alloc {a z : Nat} {A B : World} (h : Zoned a z A B) (o : Obj) : Zoned a z A (B.alloc o) :=
  h.trans ⟨rfl, rfl, rfl, by simp, fun k hk _ => Below.heap_alloc _ _ _ hk⟩
/-- What turns one block of the zone, or none. -/
theorem Zoned.of_grown {a z : Nat} {A B : World} {row : Option Nat} (h : A.grownBy B row) (hr : ∀ k, row = some k → a ≤ k ∧ k < z) : Zoned a z A B :=
  ⟨h.os, h.tape, h.output, h.size, fun k hk hn => h.block k hk (fun e => by have := hr k e.symm; omega)⟩
theorem Zoned.of_below {n a z : Nat} {A B : World} (h : Below n A B) (hn : A.heap.size ≤ n) : Zoned a z A B :=
  ⟨h.os, h.tape, h.output, h.size, fun k hk _ => h.block k (Nat.lt_of_lt_of_le hk hn)⟩
theorem Zoned.drew {a z : Nat} {A B : World} (h : Zoned a z A B) : Zoned a z A B.drew := ⟨h.os, h.tape, h.output, h.size, h.block⟩
theorem Spared.drew {Ex : Nat → Prop} {z : Nat} {A B : World} (h : Spared Ex z A B) : Spared Ex z A B.drew := ⟨h.os, h.tape, h.output, h.size, h.block⟩
theorem Spared.refl (Ex : Nat → Prop) (z : Nat) (W : World) : Spared Ex z W W := ⟨rfl, rfl, rfl, Nat.le_refl _, fun _ _ _ => rfl⟩
theorem Spared.trans {Ex : Nat → Prop} {z : Nat} {A B C : World} (h : Spared Ex z A B) (g : Spared Ex z B C) : Spared Ex z A C :=
  ⟨g.os.trans h.os, g.tape.trans h.tape, g.output.trans h.output, Nat.le_trans h.size g.size, fun k hk hn => (g.block k hk hn).trans (h.block k hk hn)⟩
theorem Spared.of_below {Ex : Nat → Prop} {n z : Nat} {A B : World} (h : Below n A B) (hn : z ≤ n) : Spared Ex z A B :=
  ⟨h.os, h.tape, h.output, h.size, fun k hk _ => h.block k (Nat.lt_of_lt_of_le hk hn)⟩
theorem Spared.of_grown {Ex : Nat → Prop} {z : Nat} {A B : World} {row : Option Nat} (h : A.grownBy B row) (hz : z ≤ A.heap.size) (hr : ∀ k, row = some k → Ex k ∨ z ≤ k) : Spared Ex z A B :=
  ⟨h.os, h.tape, h.output, h.size, fun k hk hn => h.block k (Nat.lt_of_lt_of_le hk hz) (fun e => by rcases hr k e.symm with h | h; exact hn h; omega)⟩
theorem Spared.wide {Ex Ex' : Nat → Prop} {z : Nat} {A B : World} (h : Spared Ex z A B) (he : ∀ k, Ex k → Ex' k) : Spared Ex' z A B :=
  ⟨h.os, h.tape, h.output, h.size, fun k hk hn => h.block k hk (fun e => hn (he k e))⟩
/-- All lies as it lay, but what the loop's owner may write there. -/
structure SparedF (Fp : World → Nat → Prop) (W W' : World) : Prop where
  os : W'.os = W.os
  tape : W'.tape = W.tape
  output : W'.output = W.output
  size : W.heap.size ≤ W'.heap.size
  block : ∀ k, k < W.heap.size → ¬ Fp W k → W'.heap[k]? = W.heap[k]?
theorem SparedF.plain {Fp : World → Nat → Prop} {Ex : Nat → Prop} {z : Nat} {W W' : World} (h : SparedF Fp W W') (hz : z ≤ W.heap.size) (hF : ∀ k, Fp W k → (Ex k ∨ z ≤ k) ∧ k < W.heap.size) : Spared Ex z W W' :=
  ⟨h.os, h.tape, h.output, h.size, fun k hk hn => h.block k (by omega) fun e => by rcases (hF k e).1 with h | h; exact hn h; omega⟩
theorem SparedF.of_below {Fp : World → Nat → Prop} {n : Nat} {W W' : World} (h : Below n W W') (hn : W.heap.size ≤ n) : SparedF Fp W W' := ⟨h.os, h.tape, h.output, h.size, fun k hk _ => h.block k (Nat.lt_of_lt_of_le hk hn)⟩
theorem SparedF.of_grown {Fp : World → Nat → Prop} {W W' : World} {row : Option Nat} (h : W.grownBy W' row) (hr : ∀ k, row = some k → Fp W k ∨ W.heap.size ≤ k) : SparedF Fp W W' :=
  ⟨h.os, h.tape, h.output, h.size, fun k hk hn => h.block k hk (fun e => by rcases hr k e.symm with h | h; exact hn h; omega)⟩
theorem SparedF.trans {Fp : World → Nat → Prop} {A B C : World} (h : SparedF Fp A B) (g : SparedF Fp B C) (hB : ∀ k, k < A.heap.size → Fp B k → Fp A k) : SparedF Fp A C :=
  ⟨g.os.trans h.os, g.tape.trans h.tape, g.output.trans h.output, Nat.le_trans h.size g.size, fun k hk hn => (g.block k (Nat.lt_of_lt_of_le hk h.size) (fun e => hn (hB k hk e))).trans (h.block k hk hn)⟩
theorem SparedF.drew {Fp : World → Nat → Prop} {A B : World} (h : SparedF Fp A B) : SparedF Fp A B.drew := ⟨h.os, h.tape, h.output, h.size, h.block⟩
/-- What may be written is told by blocks of Ex alone. -/
def Told (Ex : Nat → Prop) (Fp : World → Nat → Prop) : Prop := ∀ X Y : World, (∀ k, Ex k → Y.heap[k]? = X.heap[k]?) → ∀ k, Fp Y k → Fp X k
/-- A block's own turn. -/
theorem zoned_put (a z : Nat) (W : World) (l : Nat) (o : Obj) (ha : a ≤ l) (hz : l < z) : Zoned a z W (W.putObj l o) := .of_grown (grownBy_putObj' W l o) (fun k e => by cases e; exact ⟨ha, hz⟩)

/-- **What a function that is ranged over owes.** -/
def SeqZ {α : Type} (F : Fence) (n : Nat) (P : Program) (g : Nat) (lb : Array Value) (encs : α → Array Value) (Ex : Nat → Prop) (Fp : World → Nat → Prop) (xs : List α) (w : World) : Prop :=
  ∀ (l : Nat) (J Jx : Nat → List α → World → Prop) (W : World), Below w.heap.size w W →
    (∀ z pre X Y, J z pre X → Zoned W.heap.size z X Y → J z pre Y) →
    (∀ z pre X Y, Jx z pre X → Zoned W.heap.size z X Y → Jx z pre Y) →
    (∀ W1, Below W.heap.size W W1 → J W1.heap.size [] W1) →
    (∀ z pre X, J z pre X → ∀ k, Fp X k → (Ex k ∨ z ≤ k) ∧ k < X.heap.size) →
    (∀ z pre x W1, J z pre W1 → W.heap.size ≤ z → z ≤ W1.heap.size → pre ++ [x] <+: xs → YieldAt F (n - 1) P l (encs x) W1 fun e W' =>
      (e = .returned (.bool true) ∧ J z (pre ++ [x]) W' ∧ SparedF Fp W1 W') ∨ (e = .returned (.bool false) ∧ Jx z (pre ++ [x]) W' ∧ Spared (fun k => k < W.heap.size) z W1 W')) →
    CallsIn F n P g (#[.func (.yield l) #[] #[]] ++ lb) W fun e W' => (∃ v, e = .returned v) ∧ ∃ z, W.heap.size ≤ z ∧ z ≤ W'.heap.size ∧ (J z xs W' ∨ ∃ pre, pre <+: xs ∧ Jx z pre W')

/-- How a round may be left. -/
def zPost {α : Type} (Fp : World → Nat → Prop) (b z : Nat) (I : Nat → List α → World → Prop) (Ix : Code → Nat → List α → World → Prop) (pre : List α) (W : World) : Exit → Act → World → Prop
  | .normal, _, W' => SparedF Fp W W' ∧ I z pre W'
  | .ret, _, W' => Spared (fun k => k < b) z W W' ∧ Ix .ret z pre W'
  | .exit id, _, W' => Spared (fun k => k < b) z W W' ∧ Ix (.exit id) z pre W'
  | .goto t, _, W' => Spared (fun k => k < b) z W W' ∧ Ix (.goto t) z pre W'
  | .panic _, _, _ => False
  | .outgrown, _, _ => False

variable {F : Fence} {n : Nat} {P : Program}
/-- **The statement.** -/
theorem range_zone {α : Type} {g : Operand} {ps : Array Tmp} {assign body : Code} {Q : Exit → Act → World → Prop} {a : Act} {w : World}
    (hro : F.round = none) (h1 : 1 ≤ n) {gf : Nat} {lb : Array Value} (hg : a.eval g = .func (.func gf) #[] lb) (hFg : F.fn gf) (eg : ∀ args w, (callFunc gf args).run P w = .ok (.enter gf args) w)
    {encs : α → Array Value} {Ex : Nat → Prop} {Fp : World → Nat → Prop} {xs : List α} (hseq : SeqZ F (n - 1) P gf lb encs Ex Fp xs w) (hEx : ∀ k, Ex k → k < w.heap.size) (hT : Told Ex Fp) (hps : ∀ x, (encs x).size = ps.size)
    (I : Nat → List α → World → Prop) (Ix : Code → Nat → List α → World → Prop)
    (hI : ∀ z pre X Y, I z pre X → Zoned w.heap.size z X Y → I z pre Y) (hIx : ∀ c z pre X Y, Ix c z pre X → Zoned w.heap.size z X Y → Ix c z pre Y)
    (hF : ∀ z pre X, I z pre X → ∀ k, Fp X k → (Ex k ∨ z ≤ k) ∧ k < X.heap.size)
    (h0 : ∀ W1, Below w.heap.size w W1 → w.heap.size + 2 ≤ W1.heap.size → I W1.heap.size [] W1)
    (hround : ∀ (l z : Nat) (pre : List α) (x : α) (W : World) (K : Act → World → Prop), w.heap.size + 2 ≤ z → z ≤ W.heap.size → I z pre W → pre ++ [x] <+: xs →
      (∀ a' W', Below W.heap.size W W' → (∀ W2, Zoned w.heap.size (w.heap.size + 2) W' W2 → W2.heap.size = W'.heap.size → body.wpIn (F.inRound l) (n - 1 - 1) P (zPost Fp w.heap.size z I Ix (pre ++ [x]) W2) a' W2) → K a' W') →
      assign.wpIn (F.inRound l) (n - 1 - 1) P (Exit.then K (fun _ _ _ => False)) { tmps := (ps.zip (encs x)).foldl (fun t (p, v) => t.setIfInBounds p v) a.tmps, defers := [] } W)
    (hdone : ∀ (z : Nat) (W : World), w.heap.size + 2 ≤ z → z ≤ W.heap.size → I z xs W → W.heap[w.heap.size]? = some (.deferred (some [])) → Q .normal { a with defers := { target := .collected w.heap.size, args := #[] } :: a.defers } W)
    (hstop : ∀ (z : Nat) (c : Code) (pre : List α) (W : World), w.heap.size + 2 ≤ z → z ≤ W.heap.size → pre <+: xs → Ix c z pre W → W.heap[w.heap.size]? = some (.deferred (some [])) → c.wpIn F n P Q { a with defers := { target := .collected w.heap.size, args := #[] } :: a.defers } W) :
    (Code.rangeFunc g ps assign body).wpIn F n P Q a w := by
  refine wpIn_rangeFunc fun fn hfn => ?_
  rw [hro]
  let R : LoopState → Option Code → Loop := fun st pe => { state := st, pending := pe, fn, tmps := a.tmps, params := ps, assign, body, defers := w.heap.size }
  obtain ⟨V, hV⟩ : ∃ V, V = (w.alloc (.deferred (some []))).alloc (.loop (R .ready none)) := ⟨_, rfl⟩
  have hVs : V.heap.size = w.heap.size + 2 := by rw [hV]; simp
  have hVb : Below w.heap.size w V := by rw [hV]; exact ((Below.refl _ w).alloc (Nat.le_refl _) _).alloc (by simp) _
  have hVl : V.heap[w.heap.size + 1]? = some (.loop (R .ready none)) := by
    have := World.alloc_heap_new (w.alloc (.deferred (some []))) (.loop (R .ready none))
    rw [World.size_alloc] at this; rw [hV]; exact this
  have hVd : V.heap[w.heap.size]? = some (.deferred (some [])) := by
    rw [hV]; exact (Below.heap_alloc _ _ _ (by simp)).trans (World.alloc_heap_new w _)
  refine ⟨w.heap.size + 1, [{ target := .collected w.heap.size, args := #[] }], V, { target := .fn (.func gf) lb, args := #[.func (.yield (w.heap.size + 1)) #[] #[]] }, V, gf, #[.func (.yield (w.heap.size + 1)) #[] #[]] ++ lb, V, ?_, ?_, ?_, ?_, fun _ => h1, ?_⟩
  · rw [hV]; exact run_enterLoop_outer _ _ _ _ _
  · simp only [resolve, hg]; simp [go_sem]
  · intro f' hf'; simp [Target.leads] at hf'; subst hf'; exact hFg
  · simp [invoke, go_sem, eg]
  have keepD : ∀ {z : Nat} {X Y : World} {k : Nat} {o : Obj}, k < w.heap.size + 2 → X.heap[k]? = some o → Zoned V.heap.size z X Y → Y.heap[k]? = some o := fun hk hX hz =>
    (hz.block _ (Array.getElem?_eq_some_iff.1 hX).1 (.inl (by omega))).trans hX
  refine (hseq (w.heap.size + 1)
    (fun z pre W => I z pre W ∧ W.heap[w.heap.size + 1]? = some (.loop (R .ready none)) ∧ W.heap[w.heap.size]? = some (.deferred (some [])))
    (fun z pre W => ∃ c, Ix c z pre W ∧ W.heap[w.heap.size + 1]? = some (.loop (R .done (some c))) ∧ W.heap[w.heap.size]? = some (.deferred (some [])))
    V hVb ?_ ?_ ?_ ?_ ?_).mono ?_
  · rintro z pre X Y ⟨hi, hl, hd⟩ hz
    exact ⟨hI z pre X Y hi (hz.wide (by omega) (Nat.le_refl _)), keepD (by omega) hl hz, keepD (by omega) hd hz⟩
  · rintro z pre X Y ⟨c, hi, hl, hd⟩ hz
    exact ⟨c, hIx c z pre X Y hi (hz.wide (by omega) (Nat.le_refl _)), keepD (by omega) hl hz, keepD (by omega) hd hz⟩
  · intro W1 hW1
    have hz : Zoned V.heap.size V.heap.size V W1 := .of_below hW1 (Nat.le_refl _)
    exact ⟨h0 W1 (hVb.trans (hW1.mono (by omega))) (by have := hW1.size; omega), keepD (by omega) hVl hz, keepD (by omega) hVd hz⟩
  · rintro z pre X ⟨hi, -, -⟩
    exact hF z pre X hi
  · rintro z pre x W ⟨hi, hl, hd⟩ hz1 hz2 hpre
    have hlt := (Array.getElem?_eq_some_iff.1 hl).1
    have hy := run_yield (P := P) (args := encs x) hl (hps x)
    refine ⟨fn, _, assign, body, hy, roundIn_of_wpIn hfn ?_⟩
    have hnE : ∀ k, w.heap.size ≤ k → ¬ Ex k := fun k hk e => by have := hEx k e; omega
    refine wpIn_mono (hround (w.heap.size + 1) z pre x W (fun a' W' => Below W.heap.size W W' ∧ ∀ W2, Zoned w.heap.size (w.heap.size + 2) W' W2 → W2.heap.size = W'.heap.size → body.wpIn (F.inRound (w.heap.size + 1)) (n - 1 - 1) P (zPost Fp w.heap.size z I Ix (pre ++ [x]) W2) a' W2) (by omega) hz2 hi hpre (fun _ _ h1 h2 => ⟨h1, h2⟩)) ?_
    rintro e a' W' he
    cases e with
    | normal =>
      obtain ⟨hs, hb⟩ := he
      have hl1 : W'.heap[w.heap.size + 1]? = some (.loop (R .ready none)) := (hs.block _ (by omega)).trans hl
      have hd1 : W'.heap[w.heap.size]? = some (.deferred (some [])) := (hs.block _ (by omega)).trans hd
      have hlt1 := (Array.getElem?_eq_some_iff.1 hl1).1
      refine ⟨_, run_beginRound hl1 rfl, ?_⟩
      refine wpIn_mono (hb _ (zoned_put _ _ W' _ _ (by omega) (by omega)) (by simp [World.putObj])) ?_
      have hl2 : (W'.putObj (w.heap.size + 1) (.loop { R .ready none with state := .busy })).heap[w.heap.size + 1]? = some (.loop { R .ready none with state := .busy }) := World.putObj_heap_same hlt1
      have hd2 : (W'.putObj (w.heap.size + 1) (.loop { R .ready none with state := .busy })).heap[w.heap.size]? = some (.deferred (some [])) := (World.putObj_heap_other (by omega)).trans hd1
      -- the record's own turns are none of the round's
      have hsp : ∀ {W3 : World} (o : Obj), SparedF Fp (W'.putObj (w.heap.size + 1) (.loop { R .ready none with state := .busy })) W3 → W3.heap[w.heap.size + 1]? ≠ none → W.heap[w.heap.size + 1]? = some o → SparedF Fp W (W3.putObj (w.heap.size + 1) o) := fun {W3} o h3 hne ho => by
        have hlt3 : w.heap.size + 1 < W3.heap.size := by
          by_cases h : w.heap.size + 1 < W3.heap.size
          · exact h
          · exact absurd (Array.getElem?_eq_none (by omega)) hne
        have hs2 : W'.heap.size = (W'.putObj (w.heap.size + 1) (.loop { R .ready none with state := .busy })).heap.size := by simp [World.putObj]
        refine ⟨h3.os.trans hs.os, h3.tape.trans hs.tape, h3.output.trans hs.output, ?_, fun k hk hn => ?_⟩
        · have := h3.size; have := hs.size; simp [World.putObj] at *; omega
        · by_cases e : k = w.heap.size + 1
          · subst e; rw [ho]; exact World.putObj_heap_same hlt3
          · have hn2 : ¬ Fp (W'.putObj (w.heap.size + 1) (.loop { R .ready none with state := .busy })) k := fun hf => hn (hT W _ (fun j hj => by
              have hj2 := hEx j hj
              rw [World.putObj_heap_other (by omega), hs.block j (by omega)]) k hf)
            rw [World.putObj_heap_other e, h3.block k (by have := hs.size; omega) hn2, World.putObj_heap_other e, hs.block k hk]
      have hFb : ∀ k, Fp (W'.putObj (w.heap.size + 1) (.loop { R .ready none with state := .busy })) k → (Ex k ∨ z ≤ k) ∧ k < (W'.putObj (w.heap.size + 1) (.loop { R .ready none with state := .busy })).heap.size := fun k hf => by
        have h1 := hF z pre W hi k (hT W _ (fun j hj => by
          have hj2 := hEx j hj
          rw [World.putObj_heap_other (by omega), hs.block j (by omega)]) k hf)
        exact ⟨h1.1, by have := hs.size; simp [World.putObj]; omega⟩
      have fin : ∀ (jump : Option Code) (W3 : World), Spared (fun k => k < w.heap.size) z (W'.putObj (w.heap.size + 1) (.loop { R .ready none with state := .busy })) W3 →
          (Instr.endRound (w.heap.size + 1) jump).run P W3 = .ok (.bool jump.isNone) (W3.putObj (w.heap.size + 1) (.loop (R (if jump.isNone then .ready else .done) jump))) ∧
          Zoned w.heap.size z W3 (W3.putObj (w.heap.size + 1) (.loop (R (if jump.isNone then .ready else .done) jump))) ∧ W3.heap[w.heap.size + 1]? ≠ none ∧
          (W3.putObj (w.heap.size + 1) (.loop (R (if jump.isNone then .ready else .done) jump))).heap[w.heap.size + 1]? = some (.loop (R (if jump.isNone then .ready else .done) jump)) ∧
          (W3.putObj (w.heap.size + 1) (.loop (R (if jump.isNone then .ready else .done) jump))).heap[w.heap.size]? = some (.deferred (some [])) ∧
          Spared (fun k => k < V.heap.size) z W (W3.putObj (w.heap.size + 1) (.loop (R (if jump.isNone then .ready else .done) jump))) := fun jump W3 h3 => by
        have hl3 := (h3.block _ (by omega) (by simp)).trans hl2
        have hd3 := (h3.block _ (by omega) (by simp)).trans hd2
        refine ⟨run_endRound (P := P) jump hl3, zoned_put _ _ _ _ _ (by omega) (by omega), by rw [hl3]; simp, World.putObj_heap_same (Array.getElem?_eq_some_iff.1 hl3).1, (World.putObj_heap_other (by omega)).trans hd3, ?_⟩
        refine ⟨h3.os.trans hs.os, h3.tape.trans hs.tape, h3.output.trans hs.output, ?_, fun k hk hn => ?_⟩
        · have := h3.size; have := hs.size; simp [World.putObj] at *; omega
        · have e : k ≠ w.heap.size + 1 := by omega
          rw [World.putObj_heap_other e, h3.block k hk (by omega), World.putObj_heap_other e, hs.block k (by omega)]
      rintro e a3 W3 hp
      cases e with
      | normal =>
        obtain ⟨h3, hi3⟩ := hp
        obtain ⟨hr, hz3, hne, hl4, hd4, -⟩ := fin none W3 (Spared.wide (h3.plain (by have := hs.size; simp [World.putObj]; omega) hFb) hEx)
        exact ⟨_, _, hr, .inl ⟨rfl, ⟨hI _ _ _ _ hi3 hz3, hl4, hd4⟩, hsp _ h3 hne hl⟩⟩
      | ret =>
        obtain ⟨h3, hi3⟩ := hp
        obtain ⟨hr, hz3, -, hl4, hd4, hs4⟩ := fin (some .ret) W3 h3
        exact ⟨_, _, hr, .inr ⟨rfl, ⟨.ret, hIx _ _ _ _ _ hi3 hz3, hl4, hd4⟩, hs4⟩⟩
      | exit id =>
        obtain ⟨h3, hi3⟩ := hp
        obtain ⟨hr, hz3, -, hl4, hd4, hs4⟩ := fin (some (.exit id)) W3 h3
        exact ⟨_, _, hr, .inr ⟨rfl, ⟨.exit id, hIx _ _ _ _ _ hi3 hz3, hl4, hd4⟩, hs4⟩⟩
      | goto t =>
        obtain ⟨h3, hi3⟩ := hp
        obtain ⟨hr, hz3, -, hl4, hd4, hs4⟩ := fin (some (.goto t)) W3 h3
        exact ⟨_, _, hr, .inr ⟨rfl, ⟨.goto t, hIx _ _ _ _ _ hi3 hz3, hl4, hd4⟩, hs4⟩⟩
      | panic ch => exact hp.elim
      | outgrown => exact hp.elim
    | ret => exact he.elim
    | exit id => exact he.elim
    | goto t => exact he.elim
    | panic ch => exact he.elim
    | outgrown => exact he.elim
  · rintro e W2 ⟨⟨v, rfl⟩, z, hz1, hz2, (⟨hi, hl, hd⟩ | ⟨pre, hpre, c, hi, hl, hd⟩)⟩
    · exact ⟨none, _, run_endLoop (P := P) hl (by simp [R]), hdone z _ (by omega) (by simpa [World.putObj] using hz2) (hI _ _ _ _ hi (zoned_put _ _ _ _ _ (by omega) (by omega))) ((World.putObj_heap_other (by omega)).trans hd)⟩
    · exact ⟨some c, _, run_endLoop (P := P) hl (by simp [R]), hstop z c pre _ (by omega) (by simpa [World.putObj] using hz2) hpre (hIx _ _ _ _ _ hi (zoned_put _ _ _ _ _ (by omega) (by omega))) ((World.putObj_heap_other (by omega)).trans hd)⟩
end Go.Proofs.YtglaocghcgcghaaGreatDoor
