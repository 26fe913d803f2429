/-
  THE LAW WalNone, walked.
-/
import Derived.Test.YtlamncldbnagmaaGreatDoorMany19
namespace Go.Proofs.YtlamncldbnagmaaGreatDoor.walNone
open Go.RowKit Go.Proofs.YtlamncldbnagmaaGreatDoor

set_option maxRecDepth 100000 in
set_option maxHeartbeats 4000000 in
theorem walk (ao : Option Addr) (len cap : Nat) (n : Int) (w0 : World) (he : EnvW w0) (ht : Tab w0) (_hn : -9223372036854775808 ≤ n ∧ n ≤ 9223372036854775807) :
    Calls Tryz.prog 5 #[.slice ao len cap, .int .i64 n] w0 fun e w' => e = .returned (.bool true) ∧ Below w0.heap.size w0 w' := by
  obtain ⟨w, hw⟩ : ∃ w, w = w0.alloc (.cells #[.pointer none, .int .i64 0, .bool false] 46) := ⟨_, rfl⟩
  have hb0 : Below w0.heap.size w0 w := by rw [hw]; exact (Below.refl _ _).alloc (Nat.le_refl _) _
  have hZ : Blk w w0.heap.size [.pointer none, .int .i64 0, .bool false] 46 := by rw [hw]; exact Blk.new w0 _ _
  have HN : Hid (NoL (some ⟨w0.heap.size, 0, none⟩) w) := .inr ⟨_, rfl, hZ.cell 1 rfl⟩
  have HO : Hid (∀ u : World, NoL none u) := fun u => .inl rfl
  have LV : Hid (∀ u, Below w.heap.size w u → Calls Tryz.prog 7 #[] u fun x w' => x = .returned (.bool true) ∧ Below w0.heap.size w0 w') := fun u hu => by
    have hb := hb0.trans (hu.mono hb0.size)
    exact (lives07_any u (he.below hb (Nat.le_refl _)) (ht.below hb (Nat.le_refl _))).mono fun x w' ⟨hx, h⟩ => ⟨hx, hb.trans (h.mono hb.size)⟩
  have CR : Hid (∀ p, NoL p w → Calls Tryz.prog 18 #[.pointer p] w fun e w' => e = .returned (.tuple #[.int .i64 0, .int .i64 1]) ∧ w' = w) := fun p h => rollL_no h
  have CA : Hid (∀ p, NoL p w → Calls Tryz.prog 19 #[.pointer p, .slice ao len cap] w fun e w' => e = .returned (.int .i64 1) ∧ w' = w) := fun p h => appendL_no h ao len cap
  have CT : Hid (∀ p, NoL p w → Calls Tryz.prog 20 #[.pointer p, .int .i64 n] w fun e w' => e = .returned (.int .i64 1) ∧ w' = w) := fun p h => retireL_no h n
  have CL : Hid (∀ p, NoL p w → Calls Tryz.prog 21 #[.pointer p] w fun e w' => e = .returned (.int .i64 0) ∧ w' = w) := fun p h => lastL_no h
  have CS : Hid (∀ p, NoL p w → Calls Tryz.prog 22 #[.pointer p] w fun e w' => e = .returned (.slice none 0 0) ∧ w' = w) := fun p h => segmentsL_no h
  have CO : Hid (Calls Tryz.prog 23 #[.pointer none, .int .i64 n] w fun e w' => e = .returned (.tuple #[.pointer none, .slice none 0 0, .int .i64 1]) ∧ Below w.heap.size w w') := openW_none n w
  have CM : Hid (∀ u, Calls Tryz.prog 24 #[.slice none 0 0] u fun e w' => e = .returned (.slice none 0 0) ∧ Below u.heap.size u w') := refNorm_none
  clear hZ hb0 he ht
  go_enter Tryz.func5, Tryz.ntmps5
  go_wp2_with fail
  rw [← hw]
  clear hw
  go_loopw [14] (fun s wr => ∃ j : Nat, j ≤ 2 ∧ s = .int .i64 j ∧ wr = w) (fun s _ => 2 - (intOf s).toNat)
  case atStart => exact ⟨0, by omega, rfl, rfl⟩
  case round =>
    obtain ⟨j, hj, rfl, rfl⟩ := hrel
    rcases Nat.lt_or_ge j 2 with hlt | hge
    · obtain ⟨p, hp, hix⟩ : ∃ p, NoL p wr ∧ ∀ u : World, (Instr.index 48 (.agg #[.pointer none, .pointer (some ⟨w0.heap.size, 0, none⟩)]) (.int .i64 (j : Nat))).run Tryz.prog u = .ok (.pointer p) u := by
        match j, hlt with
        | 0, _ => exact ⟨_, HO.out _, fun u => by kernel_rfl⟩
        | 1, _ => exact ⟨_, HN.out, fun u => by kernel_rfl⟩
      have K1 := CR.out p hp
      have K2 := CA.out p hp
      have K3 := CT.out p hp
      have K4 := CL.out p hp
      have K5 := CS.out p hp
      clear CR CA CT CL CS HN HO hp
      have hltz : (j : Int) < 2 := by omega
      go_wp2_with (first
        | (go_at_call 18; go_fit K1; rintro x w1 ⟨rfl, rfl⟩)
        | (go_at_call 19; go_fit K2; rintro x w1 ⟨rfl, rfl⟩)
        | (go_at_call 20; go_fit K3; rintro x w1 ⟨rfl, rfl⟩)
        | (go_at_call 21; go_fit K4; rintro x w1 ⟨rfl, rfl⟩)
        | (go_at_call 22; go_fit K5; rintro x w1 ⟨rfl, rfl⟩))
      go_roundw
      case rel => exact ⟨j + 1, by omega, by go_num, by first | rfl | trivial⟩
      case measure => (simp [intOf]; try omega)
    · obtain rfl : j = 2 := by omega
      clear CR CA CT CL CS HN HO hge
      go_wp2_with fail
      go_fit CO.out
      rintro e w1 ⟨rfl, hB1⟩
      have C1 := CM.out w1
      go_wp2_with fail
      go_fit C1
      rintro e w2 ⟨rfl, hB2⟩
      have C2 := LV.out w2 (hB1.trans (hB2.mono hB1.size))
      clear C1 hB1 hB2
      go_wp2_with fail
      go_fit C2
      rintro e w3 ⟨rfl, hB3⟩
      go_wp2_with fail
      go_ret
      exact ⟨rfl, hB3⟩
end Go.Proofs.YtlamncldbnagmaaGreatDoor.walNone
