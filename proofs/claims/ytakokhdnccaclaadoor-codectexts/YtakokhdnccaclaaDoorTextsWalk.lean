/-
  THE WALK of the law CodecTexts.
-/
import Derived.Test.YtakokhdnccaclaaDoorRefText
namespace Go.Proofs.YtakokhdnccaclaaDoor.codecTexts
open Go.RowKit

set_option maxRecDepth 100000 in
set_option maxHeartbeats 1600000 in
theorem walk (ao : Option Addr) (l : List UInt8) (cap : Nat) (s : ByteArray) (w : World) (hs : Sees w ao l) (hnone : ao = none → l.length = 0) (hl : l.length ≤ 140737488351232) (hcap : l.length ≤ cap) (hsl : s.size ≤ 140737488351232) (ht : Tab w) (ue : TypeId) (pv : Value) (he : Err w ue pv) :
    Calls Tryd.prog 5 #[.slice ao l.length cap, .string s] w fun e w' => e = .returned (.bool true) ∧ Below w.heap.size w w' := by
  have Hnone : Hid _ := hnone
  clear hnone
  by_cases hlen : 10000 < l.length + s.size
  · go_enter Tryd.func5, Tryd.ntmps5
    go_wp2_with fail
    refine (lives_any _ ht).mono ?_
    rintro e w1 ⟨rfl, hb1⟩
    go_wp2_with fail
    go_ret
    exact ⟨rfl, hb1⟩
  · go_enter Tryd.func5, Tryd.ntmps5
    go_wp2_with fail
    refine (lend_any ao l cap _ hs (by omega)).mono ?_
    rintro e w1 ⟨rfl, hr1, hb1⟩
    have hg1 := hr1.lt
    have so1 := lent_sees hr1
    have he1 := he.below hb1 (Nat.le_refl _)
    go_wp2_with fail
    refine (getText_any _ l _ _ ue pv so1 (by omega) (by omega) he1).mono ?_
    rintro e w2 ⟨rfl, hb2⟩
    have hb2w : Below w.heap.size w w2 := hb1.trans (hb2.mono hb1.size)
    have s2 := hs.below hb2w (Nat.le_refl _)
    have so2 := so1.below hb2 (Nat.le_refl _)
    have hr2 := hr1.below hb2 hg1
    clear hs so1 hr1 he1 hb1 hb2
    go_wp2_with fail
    refine (refGetText_any ao l cap _ s2 hcap (by omega)).mono ?_
    rintro e w' ⟨rfl, rfl⟩
    go_wp2_with fail
    refine (putText_any _ l _ s _ so2 (fun h => by cases h) (by omega)).mono ?_
    rintro e w3 ⟨v3, rfl, ho3, hb3⟩
    obtain ⟨ao3, cap3, rfl, s3, hl3, hn3⟩ := owns_sees ho3
    have hg2 := hr2.lt
    have s2' := s2.below hb3 (Nat.le_refl _)
    have hr3 := hr2.below hb3 hg2
    have hb3w : Below w.heap.size w w3 := hb2w.trans (hb3.mono hb2w.size)
    clear s2 so2 hr2 hb3 ho3 hb2w
    go_wp2_with fail
    refine (refPutText_any ao l cap s _ s2' Hnone.out (by omega)).mono ?_
    rintro e w4 ⟨v4, rfl, ho4, hb4⟩
    obtain ⟨ao4, cap4, rfl, s4, hl4, hn4⟩ := owns_sees ho4
    have hg3 := hr3.lt
    have s3' := s3.below hb4 (Nat.le_refl _)
    have s2'' := s2'.below hb4 (Nat.le_refl _)
    have hr4 := hr3.below hb4 hg3
    have hb4w : Below w.heap.size w w4 := hb3w.trans (hb4.mono hb3w.size)
    have Hsame : Hid _ := same_any ao3 ao4 (l ++ txtL s.data.toList) (l ++ txtL s.data.toList) cap3 cap4 w4 s3' s4 (fun h => by have := (hn3 h).1; omega) (fun h => by have := (hn4 h).1; omega)
    rw [hl3] at Hsame
    have hsame : ((l ++ txtL s.data.toList) == (l ++ txtL s.data.toList)) = true := by simp
    rw [hsame] at Hsame
    have ht4 := ht.below hb4w (Nat.le_refl _)
    clear hn3 hn4 s3 hr3 hb4 ho4 s4 hb3w s2' s3' hsame
    go_wp2_with fail
    refine Calls.mono (Hid.out Hsame) ?_
    rintro e w' ⟨rfl, rfl⟩
    go_wp2_with fail
    refine (kept_any _ _ ao l cap _ s2'' Hnone.out (by omega) hr4 (Nat.le_refl _)).mono ?_
    rintro e w' ⟨rfl, k, rfl⟩
    go_wp2_with fail
    refine (lives_any _ (by exact ht4)).mono ?_
    rintro e w5 ⟨rfl, hb5⟩
    go_wp2_with fail
    go_ret
    exact ⟨rfl, (below_drewN hb4w k).trans (hb5.mono hb4w.size)⟩
end Go.Proofs.YtakokhdnccaclaaDoor.codecTexts
