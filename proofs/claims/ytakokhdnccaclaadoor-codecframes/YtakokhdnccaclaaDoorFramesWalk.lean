/-
  THE WALK of the law CodecFrames.
-/
import Derived.Test.YtakokhdnccaclaaDoorRefUnframe
namespace Go.Proofs.YtakokhdnccaclaaDoor.codecFrames
open Go.RowKit

set_option maxRecDepth 100000 in
set_option maxHeartbeats 1600000 in
theorem walk (ao : Option Addr) (l : List UInt8) (cap : Nat) (w : World) (hs : Sees w ao l) (hnone : ao = none → l.length = 0) (hl : l.length ≤ maxLen) (hcap : l.length ≤ cap) (ht : Tab w) :
    Calls Tryd.prog 3 #[.slice ao l.length cap] w fun e w' => e = .returned (.bool true) ∧ Below w.heap.size w w' := by
  unfold maxLen at hl
  have Hnone : Hid _ := hnone
  clear hnone
  by_cases hlen : 300000 < l.length
  · go_enter Tryd.func3, Tryd.ntmps3
    go_wp2_with fail
    refine (lives_any _ ht).mono ?_
    rintro e w1 ⟨rfl, hb1⟩
    go_wp2_with fail
    go_ret
    exact ⟨rfl, hb1⟩
  -- what the two frames come to
  have Hfr : Hid (∀ (w3 : World), Sees w3 (some ⟨w.heap.size, 1, none⟩) l → Tab w3 → Calls Tryd.prog 16 #[.slice (some ⟨w.heap.size, 1, none⟩) l.length (l.length + 1)] w3 fun e w' => ∃ v', e = .returned v' ∧ w'.ownsRow w3.heap.size 5 1 v' (if 262144 < l.length then [] else frameL l).length (B8 (if 262144 < l.length then [] else frameL l)) ∧ Below w3.heap.size w3 w') := by
    intro w3 s3 t3
    by_cases h : 262144 < l.length
    · rw [if_pos h]
      refine (frame_long _ _ _ w3 h (by omega)).mono ?_
      rintro e w' ⟨rfl, rfl⟩
      exact ⟨_, rfl, World.ownsRow_nil _ _ _ _, Below.refl _ _⟩
    · rw [if_neg h]
      refine (frame_any _ l _ w3 (by omega) s3 (fun h => by cases h) t3).mono ?_
      rintro e w' ⟨rfl, hr, hb⟩
      have ho := hr.owns (base := w3.heap.size) (Nat.le_refl _) (by rw [frameL_length]; unfold maxLen; omega)
      rw [frameL_length] at ho ⊢
      exact ⟨_, rfl, ho, hb⟩
  have Hrf : Hid (∀ (w3 : World), Sees w3 ao l → Calls Tryd.prog 17 #[.slice ao l.length cap] w3 fun e w' => ∃ v', e = .returned v' ∧ w'.ownsRow w3.heap.size 5 1 v' (if 262144 < l.length then [] else frameL l).length (B8 (if 262144 < l.length then [] else frameL l)) ∧ Below w3.heap.size w3 w') := by
    intro w3 s3
    by_cases h : 262144 < l.length
    · rw [if_pos h]
      refine (refFrame_long _ _ _ w3 h (by omega)).mono ?_
      rintro e w' ⟨rfl, rfl⟩
      exact ⟨_, rfl, World.ownsRow_nil _ _ _ _, Below.refl _ _⟩
    · rw [if_neg h]
      refine (refFrame_any _ l _ w3 (by omega) s3 Hnone.out).mono ?_
      rintro e w' ⟨v, rfl, ho, hb⟩
      rw [frameL_length]
      exact ⟨_, rfl, ho, hb⟩
  generalize (if 262144 < l.length then [] else frameL l) = F at *
  go_enter Tryd.func3, Tryd.ntmps3
  go_wp2_with fail
  refine (lend_any ao l cap _ hs (by omega)).mono ?_
  rintro e w1 ⟨rfl, hr1, hb1⟩
  have hg1 := hr1.lt
  have so1 := lent_sees hr1
  have t1 := ht.below hb1 (Nat.le_refl _)
  go_wp2_with fail
  refine (unframe_any _ l _ _ so1 (by omega) (by omega) (by omega) t1).mono ?_
  rintro e w2 ⟨v2, rfl, ho2, hb2⟩
  have hb2w : Below w.heap.size w w2 := hb1.trans (hb2.mono hb1.size)
  have s2 := hs.below hb2w (Nat.le_refl _)
  have so2 := so1.below hb2 (Nat.le_refl _)
  have hr2 := hr1.below hb2 hg1
  clear hs so1 hr1 t1 hb1 hb2
  go_wp2_with fail
  refine (refUnframe_any ao l cap _ s2 (by omega) hcap).mono ?_
  rintro e w3 ⟨v3, rfl, ho3, hb3⟩
  have hg2 := hr2.lt
  have hb3w : Below w.heap.size w w3 := hb2w.trans (hb3.mono hb2w.size)
  have s3 := s2.below hb3 (Nat.le_refl _)
  have so3 := so2.below hb3 (Nat.le_refl _)
  have hr3 := hr2.below hb3 hg2
  have o23 := owns_heap (w' := w3) ho2 (fun k hk => hb3.block k (ho2.lt k hk).2)
  have t3 := ht.below hb3w (Nat.le_refl _)
  clear s2 so2 hr2 hb2w ho2 hb3
  go_wp2_with fail
  refine (sum_any _ l _ _ (by unfold maxLen; omega) t3 so3).mono ?_
  rintro e w' ⟨rfl, rfl⟩
  go_wp2_with fail
  refine (refSum_any ao l cap _ s3 (by omega)).mono ?_
  rintro e w' ⟨rfl, rfl⟩
  go_wp2_with fail
  refine (Hfr.out _ so3 t3).mono ?_
  rintro e w4 ⟨v4, rfl, ho4, hb4⟩
  have hg3 := hr3.lt
  have hb4w : Below w.heap.size w w4 := hb3w.trans (hb4.mono hb3w.size)
  have s4 := s3.below hb4 (Nat.le_refl _)
  have hr4 := hr3.below hb4 hg3
  have o24 := owns_heap (w' := w4) o23 (fun k hk => hb4.block k (o23.lt k hk).2)
  have o34 := owns_heap (w' := w4) ho3 (fun k hk => hb4.block k (ho3.lt k hk).2)
  clear s3 so3 hr3 hb3w ho3 o23 hb4 t3
  go_wp2_with fail
  refine (Hrf.out _ s4).mono ?_
  rintro e w5 ⟨v5, rfl, ho5, hb5⟩
  have hg4 := hr4.lt
  have hb5w : Below w.heap.size w w5 := hb4w.trans (hb5.mono hb4w.size)
  have s5 := s4.below hb5 (Nat.le_refl _)
  have hr5 := hr4.below hb5 hg4
  have o25 := owns_heap (w' := w5) o24 (fun k hk => hb5.block k (o24.lt k hk).2)
  have o35 := owns_heap (w' := w5) o34 (fun k hk => hb5.block k (o34.lt k hk).2)
  have o45 := owns_heap (w' := w5) ho4 (fun k hk => hb5.block k (ho4.lt k hk).2)
  have t5 := ht.below hb5w (Nat.le_refl _)
  obtain ⟨a2, c2, rfl, q2, _, n2⟩ := owns_sees o25
  obtain ⟨a3, c3, rfl, q3, _, n3⟩ := owns_sees o35
  obtain ⟨a4, c4, rfl, q4, _, n4⟩ := owns_sees o45
  obtain ⟨a5, c5, rfl, q5, _, n5⟩ := owns_sees ho5
  have Hsame1 : Hid _ := same_any a4 a5 F F c4 c5 w5 q4 q5 (fun h => (n4 h).1) (fun h => (n5 h).1)
  have Hsame2 : Hid _ := same_any a2 a3 (unfB l) (unfB l) c2 c3 w5 q2 q3 (fun h => (n2 h).1) (fun h => (n3 h).1)
  have e1 : (F == F) = true := by simp
  have e2 : (unfB l == unfB l) = true := by simp
  rw [e1] at Hsame1
  rw [e2] at Hsame2
  clear s4 hr4 hb4w ho4 o24 o34 o25 o35 o45 ho5 hb5 q2 q3 q4 q5 n2 n3 n4 n5 e1 e2
  go_wp2_with fail
  refine Calls.mono (Hid.out Hsame1) ?_
  rintro e w' ⟨rfl, rfl⟩
  go_wp2_with fail
  refine Calls.mono (Hid.out Hsame2) ?_
  rintro e w' ⟨rfl, rfl⟩
  go_wp2_with fail
  refine (kept_any _ _ ao l cap _ s5 Hnone.out (by omega) hr5 (Nat.le_refl _)).mono ?_
  rintro e w' ⟨rfl, k, rfl⟩
  go_wp2_with fail
  refine (lives_any _ (by exact t5)).mono ?_
  rintro e w6 ⟨rfl, hb6⟩
  go_wp2_with fail
  go_ret
  exact ⟨rfl, (below_drewN hb5w k).trans (hb6.mono hb5w.size)⟩
end Go.Proofs.YtakokhdnccaclaaDoor.codecFrames
