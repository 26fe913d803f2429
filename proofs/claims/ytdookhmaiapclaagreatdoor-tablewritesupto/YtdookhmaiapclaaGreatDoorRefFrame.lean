/-
  CONTRACTS: the document's Frame, for every argument.
-/
import Derived.Test.YtdookhmaiapclaaGreatDoorCodUnframe
namespace Go.Proofs.YtdookhmaiapclaaGreatDoor
open Go.RowKit

theorem refFrame_long (ao : Option Addr) (n cap : Nat) (w : World) (h : 262144 < n) (hn : n ≤ 140737488355328) :
    Calls Tryz.prog 28 #[.slice ao n cap] w fun e w' => e = .returned (.slice none 0 0) ∧ w' = w := by
  go_enter Tryz.func28, Tryz.ntmps28
  go_wp2
  go_ret
  exact ⟨rfl, rfl⟩

/-- A row that was just laid. -/
theorem owns_lit (w : World) (l : List UInt8) (base : Nat) (hb : base ≤ w.heap.size) (hm : l.length ≤ maxLen) : (w.alloc (.cells (B8 l).toArray 5)).ownsRow base 5 1 (.slice (some ⟨w.heap.size, 0, none⟩) l.length l.length) l.length (B8 l) := by
  have := World.ownsRow_lit (e := 5) (size := 1) w (B8 l).toArray l.length hb hm (by simp [B8_length])
  simpa using this
theorem src_owns {w : World} {base n : Nat} {l : List UInt8} {v : Value} (h : w.ownsRow base 5 1 v n (B8 l)) : Src Tryz.prog 1 29 v n (B8 l) w := by
  obtain ⟨ao, cap, rfl, hs, hl, hn⟩ := owns_sees h
  have := src_sees (P := Tryz.prog) Tryz.underlying29 hs (fun e => by have := (hn e).1; omega) cap
  rwa [hl] at this
theorem owns_grew {w w' : World} {base : Nat} {e : TypeId} {size : Nat} {v : Value} {n : Nat} {xs : List Value} (h : w.ownsRow base e size v n xs) {u u' : Value} (hg : Grew w w' u u') (hne : ∀ k, v.ownBlock = some k → u.ownBlock ≠ some k) : w'.ownsRow base e size v n xs :=
  owns_heap h fun k hk => hg.rows.block k (h.lt k hk).2 (fun e => hne k hk e.symm)

set_option maxRecDepth 100000 in
set_option maxHeartbeats 1600000 in
theorem refFrame_any (ao : Option Addr) (l : List UInt8) (cap : Nat) (w : World) (hl : l.length ≤ 262144) (hs : Sees w ao l) (hnone : ao = none → l.length = 0) :
    Calls Tryz.prog 28 #[.slice ao l.length cap] w fun e w' => ∃ v', e = .returned v' ∧ w'.ownsRow w.heap.size 5 1 v' (l.length + 8) (B8 (frameL l)) ∧ Below w.heap.size w w' := by
  obtain ⟨i0, hi, hz0, hz1, hz2⟩ := info_parts info8
  have Hnone : Hid _ := hnone
  clear hnone
  have Hf1 : Hid _ := four_any l.length w (by omega)
  have o1 := owns_lit w (fourL l.length) w.heap.size (Nat.le_refl _) (by rw [fourL_length]; decide)
  have b1 : Below w.heap.size w (w.alloc (.cells (B8 (fourL l.length)).toArray 5)) := (Below.refl _ _).alloc (Nat.le_refl _) _
  have z1 : w.heap.size + 1 ≤ (w.alloc (.cells (B8 (fourL l.length)).toArray 5)).heap.size := by rw [World.size_alloc]; omega
  go_enter Tryz.func28, Tryz.ntmps28
  go_wp2_with fail
  refine Calls.mono (Hid.out Hf1) ?_
  rintro e w1 ⟨rfl, hw1⟩
  rw [← hw1] at o1 b1 z1
  clear hw1 Hf1
  have n2 := owns_none w1
  have o2 := o1.alloc (.cells #[] 5)
  have s2 := src_owns o2
  have bs1 := hs.below b1 (Nat.le_refl _)
  go_wp2_with (first
    | ((with_reducible (show wpList _ _ _ (Oper.mk _ (Op.call ⟨Callee.builtin Builtin.append, #[.tmp 12, .tmp 13], _⟩) _ _ _ _ :: _) _ _)); go_must (refine wpList_append_grew _ rfl (.tmp 12) (.tmp 13) 29 29 rfl w1.heap.size 5 i0 (.int .u8 0) 1 1 Tryz.underlying29 hi hz0 hz1 hz2 rfl _ 0 _ rfl n2 _ 4 (B8 (fourL l.length)) rfl s2 (by unfold maxLen; omega) (by omega) (by rw [World.size_alloc]; omega) ?_; intro v3 w3 ho3 hg3; have bs3 := hs.below (b1.trans ((below_none hg3).mono (by omega))) (Nat.le_refl _); have s3 := src_sees (P := Tryz.prog) Tryz.underlying29 bs3 Hnone.out cap; have hw3 := (below_none hg3).size))
    | ((with_reducible (show wpList _ _ _ (Oper.mk _ (Op.call ⟨Callee.builtin Builtin.append, #[.tmp 14, .tmp 15], _⟩) _ _ _ _ :: _) _ _)); go_must (refine wpList_append_grew _ rfl (.tmp 14) (.tmp 15) 29 29 rfl w1.heap.size 5 i0 (.int .u8 0) 1 1 Tryz.underlying29 hi hz0 hz1 hz2 rfl _ (0 + 4) _ rfl ho3 _ l.length (B8 l) rfl s3 (by unfold maxLen; omega) (by omega) (by omega) ?_; intro v4 w4 ho4 hg4)))
  have ho4' : w4.ownsRow w1.heap.size 5 1 v4 (4 + l.length) (B8 (fourL l.length ++ l)) := by rw [B8_append]; simpa using ho4
  obtain ⟨ao4, cap4, rfl, s4, l4, n4⟩ := owns_sees ho4'
  have g4 := hg3.trans hg4
  have b4 : Below w1.heap.size w1 w4 := below_none g4
  have o4 : w4.ownsRow w.heap.size 5 1 (.slice (some ⟨w.heap.size, 0, none⟩) 4 4) 4 (B8 (fourL l.length)) := owns_heap o1 (fun k hk => by cases hk; exact b4.block w.heap.size (by omega))
  have b4w : Below w.heap.size w w4 := b1.trans (b4.mono (by omega))
  have Hsum : Hid _ := refSum_any ao4 (fourL l.length ++ l) cap4 w4 s4 (by rw [l4]; omega)
  rw [l4] at Hsum
  clear ho3 ho4 ho4' hg3 hg4 g4 n2 o2 s2 bs1 o1 b1 hw3 s3 bs3 s4 n4
  refine Calls.mono (Hid.out Hsum) ?_
  rintro e w' ⟨rfl, rfl⟩
  obtain ⟨S, hS⟩ := Int.eq_ofNat_of_zero_le (sumZ_bd (fourL l.length ++ l)).1
  have hS32 : S < 4294967296 := by have := (sumZ_bd (fourL l.length ++ l)).2; omega
  have Hfin : Hid (frameL l = fourL l.length ++ (fourL S ++ l)) := by show _ = _; unfold frameL; rw [hS, Int.toNat_natCast]
  rw [hS]
  clear hS Hsum
  have Hf2 : Hid _ := four_any S w' hS32
  have o5 := owns_lit w' (fourL S) w'.heap.size (Nat.le_refl _) (by rw [fourL_length]; decide)
  have n5 := o4.alloc (.cells (B8 (fourL S)).toArray 5)
  have b5 : Below w.heap.size w (w'.alloc (.cells (B8 (fourL S)).toArray 5)) := b4w.alloc b4w.size _
  go_wp2_with fail
  refine Calls.mono (Hid.out Hf2) ?_
  rintro e w5 ⟨rfl, hw5⟩
  rw [← hw5] at o5 n5 b5
  clear hw5 Hf2
  have s5 := src_owns o5
  go_wp2_with (first
    | ((with_reducible (show wpList _ _ _ (Oper.mk _ (Op.call ⟨Callee.builtin Builtin.append, #[.tmp 18, .tmp 20], _⟩) _ _ _ _ :: _) _ _)); go_must (refine wpList_append_grew _ rfl (.tmp 18) (.tmp 20) 29 29 rfl w.heap.size 5 i0 (.int .u8 0) 1 1 Tryz.underlying29 hi hz0 hz1 hz2 rfl _ 4 _ rfl n5 _ 4 (B8 (fourL S)) rfl s5 (by unfold maxLen; omega) (by omega) (b5.size) ?_; intro v6 w6 ho6 hg6; have b6 := b5.trans (hg6.below b5.size (fun k hk => by cases hk; exact Nat.le_refl _)); have s6 := src_sees (P := Tryz.prog) Tryz.underlying29 (hs.below b6 (Nat.le_refl _)) Hnone.out cap))
    | ((with_reducible (show wpList _ _ _ (Oper.mk _ (Op.call ⟨Callee.builtin Builtin.append, #[.tmp 21, .tmp 22], _⟩) _ _ _ _ :: _) _ _)); go_must (refine wpList_append_grew _ rfl (.tmp 21) (.tmp 22) 29 29 rfl w.heap.size 5 i0 (.int .u8 0) 1 1 Tryz.underlying29 hi hz0 hz1 hz2 rfl _ (4 + 4) _ rfl ho6 _ l.length (B8 l) rfl s6 (by unfold maxLen; omega) (by omega) (b6.size) ?_; intro v7 w7 ho7 hg7)))
  go_ret
  refine ⟨v7, rfl, ?_, b6.trans (hg7.below b6.size (fun k hk => (ho6.lt k hk).1))⟩
  rw [Hfin.out, ← List.append_assoc, B8_append, B8_append, show l.length + 8 = 4 + 4 + l.length by omega]
  exact ho7
end Go.Proofs.YtdookhmaiapclaaGreatDoor
