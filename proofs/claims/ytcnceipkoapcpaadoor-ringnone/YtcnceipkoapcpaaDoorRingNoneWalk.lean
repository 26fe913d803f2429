/-
  THE LAW RingNone: the walk.
-/
import Derived.Test.YtcnceipkoapcpaaDoorRngLives
namespace Go.Proofs.YtcnceipkoapcpaaDoor.ringNone
open Go.RowKit

set_option maxRecDepth 100000 in
set_option maxHeartbeats 4000000 in
theorem walk (t : Int) (s : ByteArray) (w : World) (_ht : -9223372036854775808 ≤ t ∧ t ≤ 9223372036854775807) (_hs : s.size ≤ 140737488351232) :
    Calls Tryd.prog 6 #[.int .i64 t, .string s] w fun e w' => e = .returned (.bool true) ∧ Below w.heap.size w w' := by
  have L : Hid (∀ u : World, Calls Tryd.prog 10 #[] u fun e w' => e = .returned (.bool true) ∧ Below u.heap.size u w') := lives15_any
  obtain ⟨w1, hw1⟩ : ∃ w1, w1 = w.alloc (.cells #[.slice none 0 0, .int .i64 0] 48) := ⟨_, rfl⟩
  have hB1 : Below w.heap.size w w1 := by rw [hw1]; exact (Below.refl _ _).alloc (Nat.le_refl _) _
  have hb1 : NoRg w1 (some ⟨w.heap.size, 0, none⟩) := .inr ⟨w.heap.size, rfl, by rw [hw1]; exact Blk.new w _ _⟩
  have hn1 : NoRg w1 none := .inl rfl
  have HE : Hid (w.alloc (.cells #[.slice none 0 0, .int .i64 0] 48) = w1) := hw1.symm
  by_cases h10 : 10000 < s.size
  · have h10z : (10000 : Int) < (s.size : Int) := by omega
    go_enter Tryd.func6, Tryd.ntmps6
    go_upto_region 2 with fail
    rw [HE.out]
    clear HE hw1
    go_wp2_with (go_at_call 10; refine (L.out _).mono ?_; rintro e w2 ⟨rfl, b2⟩)
    go_ret
    exact ⟨rfl, hB1.trans (b2.mono hB1.size)⟩
  · have h10z : ¬ (10000 : Int) < (s.size : Int) := by omega
    have CP : Hid (∀ (u : World) (p : Option Addr), NoRg u p → Calls Tryd.prog 11 #[.pointer p] u fun e w' => e = .returned (.slice none 0 0) ∧ w' = u) := fun u p h => pointsR_no h
    have CC : Hid (∀ (u : World) (p : Option Addr), NoRg u p → Calls Tryd.prog 12 #[.pointer p] u fun e w' => e = .returned (.int .i64 0) ∧ w' = u) := fun u p h => copiesR_no h
    have CQ : Hid (∀ (u : World) (p : Option Addr), NoRg u p → Calls Tryd.prog 16 #[.pointer p, .int .i64 0] u fun e w' => e = .returned (.slice none 0 0) ∧ w' = u) := fun u p h => replicasR_no h 0
    have CG : Hid (∀ (u : World) (p : Option Addr), NoRg u p → Calls Tryd.prog 18 #[.pointer p, .int .i64 1] u fun e w' => e = .returned (.slice none 0 0) ∧ w' = u) := fun u p h => rangesR_no h 1
    have CR : Hid (∀ (u : World) (p : Option Addr), NoRg u p → Calls Tryd.prog 13 #[.pointer p, .int .i64 t] u fun e w' => e = .returned (.int .i64 (-1)) ∧ Below u.heap.size u w') := fun u p h => rangeR_no h t
    have CO : Hid (∀ (u : World) (p : Option Addr), NoRg u p → Calls Tryd.prog 22 #[.pointer p, .string s] u fun e w' => e = .returned (.int .i64 (-1)) ∧ Below u.heap.size u w') := fun u p h => ofR_no h s (by omega)
    have CH : Hid (∀ (u : World) (p : Option Addr), NoRg u p → Calls Tryd.prog 20 #[.pointer p, .int .i64 0, .int .i64 1] u fun e w' => e = .returned (.bool false) ∧ w' = u) := fun u p h => hasR_no h 0 1
    go_enter Tryd.func6, Tryd.ntmps6
    go_upto_region 2 with fail
    rw [HE.out]
    clear HE hw1
    go_wp2_with fail
    go_loopw [13] (fun s13 wr => ∃ j : Nat, j ≤ 2 ∧ s13 = .int .i64 (j : Int) ∧ NoRg wr (some ⟨w.heap.size, 0, none⟩) ∧ Below w.heap.size w wr) (fun s13 _ => 2 - (intOf s13).toNat)
    case atStart => exact ⟨0, by omega, rfl, hb1, hB1⟩
    case round =>
      obtain ⟨j, hj, rfl, hz, hB⟩ := hrel
      rcases Nat.lt_or_ge j 2 with hlt | hge
      · obtain ⟨p, hp, hix⟩ : ∃ p, NoRg wr p ∧ ∀ u : World, (Instr.index 49 (.agg #[.pointer none, .pointer (some ⟨w.heap.size, 0, none⟩)]) (.int .i64 (j : Nat))).run Tryd.prog u = .ok (.pointer p) u := by
          match j, hlt with
          | 0, _ => exact ⟨none, .inl rfl, fun u => by kernel_rfl⟩
          | 1, _ => exact ⟨some ⟨w.heap.size, 0, none⟩, hz, fun u => by kernel_rfl⟩
        have hltz : (j : Int) < 2 := by omega
        have hjz : (0 : Int) ≤ (j : Int) := by omega
        clear L hb1 hB1
        go_wp2_with (first | (go_at_call 11; refine (CP.out wr p hp).mono ?_; rintro e _ ⟨rfl, hw⟩; obtain rfl := hw.symm; clear hw) | (go_at_call 12; refine (CC.out _ _ hp).mono ?_; rintro e _ ⟨rfl, hw⟩; obtain rfl := hw.symm; clear hw) | (go_at_call 16; refine (CQ.out _ _ hp).mono ?_; rintro e _ ⟨rfl, hw⟩; obtain rfl := hw.symm; clear hw) | (go_at_call 18; refine (CG.out _ _ hp).mono ?_; rintro e _ ⟨rfl, hw⟩; obtain rfl := hw.symm; clear hw) | (go_at_call 13; refine (CR.out _ _ hp).mono ?_; rintro e w2 ⟨rfl, b2⟩; have hp2 := hp.to b2; have hz2 := hz.to b2; have B2 := hB.trans (b2.mono hB.size)) | (go_at_call 22; refine (CO.out _ _ hp2).mono ?_; rintro e w3 ⟨rfl, b3⟩; have hp3 := hp2.to b3; have hz3 := hz2.to b3; have B3 := B2.trans (b3.mono B2.size)) | (go_at_call 20; refine (CH.out _ _ hp3).mono ?_; rintro e _ ⟨rfl, hw⟩; obtain rfl := hw.symm; clear hw))
        go_roundw
        case rel => exact ⟨j + 1, by omega, by go_num, hz3, B3⟩
        case measure => (simp [intOf]; try omega)
      · obtain rfl : j = 2 := by omega
        clear CP CC CQ CG CR CO CH hb1 hB1
        go_wp2_with (go_at_call 10; refine (L.out _).mono ?_; rintro e w2 ⟨rfl, b2⟩)
        go_ret
        exact ⟨rfl, hB.trans (b2.mono hB.size)⟩
end Go.Proofs.YtcnceipkoapcpaaDoor.ringNone
