/-
  CONTRACTS: the codec's Unframe, for every argument.
-/
import Derived.Test.YthihljjefncfoaaDoorRefSum
import Derived.Test.YthihljjefncfoaaDoorCodText
namespace Go.Proofs.YthihljjefncfoaaDoor
open Go.RowKit

/-- The count, the error, how many bytes, and the content of the frame that bytes begin with. -/
def unfC (l : List UInt8) : Nat := wordL (l.take 4)
def unfE (l : List UInt8) : Nat :=
  if l.length < 8 then 10 else if 262144 < unfC l then 6 else if l.length < 8 + unfC l then 10
  else if (wordL ((l.drop 4).take 4) : Int) ≠ sumZ (l.take 4 ++ (l.drop 8).take (unfC l)) then 8 else 0
def unfN (l : List UInt8) : Nat := if unfE l = 0 then 8 + unfC l else 0
def unfB (l : List UInt8) : List UInt8 := if unfE l = 0 then (l.drop 8).take (unfC l) else []
theorem unf_bad (l : List UInt8) {e : Nat} (h : unfE l = e) (he : e ≠ 0) : unfN l = 0 ∧ unfB l = [] := by
  unfold unfN unfB
  rw [if_neg (by omega), if_neg (by omega)]
  exact ⟨rfl, rfl⟩

theorem sees_take {w : World} {b off : Nat} {l : List UInt8} (h : Sees w (some ⟨b, off, none⟩) l) (v : Nat) (hv : v ≤ l.length) : Sees w (some ⟨b, off, none⟩) (l.take v) := by
  have := sees_cut h 0 v (by omega)
  simpa using this

set_option maxRecDepth 100000 in
set_option maxHeartbeats 1600000 in
theorem unframe_any (ao : Option Addr) (l : List UInt8) (cap : Nat) (w : World) (hs : Sees w ao l) (hl : l.length ≤ 140737488354000) (hcap : l.length ≤ cap) (hcm : cap ≤ 9223372036854775807) (ht : Tab w) :
    Calls Tryd.prog 28 #[.slice ao l.length cap] w fun e w' => ∃ v', e = .returned (.tuple #[v', .int .i64 (unfN l), .int .i64 (unfE l)]) ∧ w'.ownsRow w.heap.size 5 1 v' (unfB l).length (B8 (unfB l)) ∧ Below w.heap.size w w' := by
  by_cases h8 : l.length < 8
  · have hE : unfE l = 10 := by unfold unfE; rw [if_pos h8]
    obtain ⟨hN, hB⟩ := unf_bad l hE (by decide)
    rw [hE, hN, hB]
    clear hE hN hB
    go_enter Tryd.func28, Tryd.ntmps28
    go_wp2
    go_ret3
    exact ⟨_, rfl, World.ownsRow_nil _ _ _ _, Below.refl _ _⟩
  obtain ⟨b, off, rfl, _⟩ := sees_at hs (n := 0) (by omega)
  have Hw1 : Hid _ := word_any b off l.length cap (l.take 4) w (by omega) (by omega) (by simp; omega) (sees_take hs 4 (by omega))
  have hC4 : unfC l < 4294967296 := wordL_lt _ (by simp; omega)
  by_cases hbig : 262144 < unfC l
  · have hE : unfE l = 6 := by unfold unfE; rw [if_neg h8, if_pos hbig]
    obtain ⟨hN, hB⟩ := unf_bad l hE (by decide)
    rw [hE, hN, hB]
    clear hE hN hB
    have e : wordL (l.take 4) = unfC l := rfl
    rw [e] at Hw1
    clear e
    generalize unfC l = C at *
    go_enter Tryd.func28, Tryd.ntmps28
    go_wp2_with fail
    refine Calls.mono (Hid.out Hw1) ?_
    rintro e w' ⟨rfl, rfl⟩
    go_wp2_with fail
    go_ret3
    exact ⟨_, rfl, World.ownsRow_nil _ _ _ _, Below.refl _ _⟩
  by_cases hshort : l.length < 8 + unfC l
  · have hE : unfE l = 10 := by unfold unfE; rw [if_neg h8, if_neg hbig, if_pos hshort]
    obtain ⟨hN, hB⟩ := unf_bad l hE (by decide)
    rw [hE, hN, hB]
    clear hE hN hB
    have e : wordL (l.take 4) = unfC l := rfl
    rw [e] at Hw1
    clear e
    generalize unfC l = C at *
    go_enter Tryd.func28, Tryd.ntmps28
    go_wp2_with fail
    refine Calls.mono (Hid.out Hw1) ?_
    rintro e w' ⟨rfl, rfl⟩
    go_wp2_with fail
    go_ret3
    exact ⟨_, rfl, World.ownsRow_nil _ _ _ _, Below.refl _ _⟩
  have Hw2 : Hid _ := word_any b (off + 4) (l.length - 4) (cap - 4) ((l.drop 4).take 4) w (by omega) (by omega) (by simp; omega) (sees_cut hs 4 4 (by omega))
  obtain ⟨S, hS⟩ : ∃ S, sumZ (l.take 4 ++ (l.drop 8).take (unfC l)) = S := ⟨_, rfl⟩
  obtain ⟨co, hco, hcs, hcn, hcc⟩ : ∃ co : Option Addr, (cap = 8 → co = some ⟨b, off, none⟩) ∧ Sees w co ((l.drop 8).take (unfC l)) ∧ (co = none → ((l.drop 8).take (unfC l)).length = 0) ∧ (cap ≠ 8 → co = some ⟨b, off + 8, none⟩) := by
    by_cases hc8 : cap = 8
    · have h0 : unfC l = 0 := by omega
      refine ⟨some ⟨b, off, none⟩, fun _ => rfl, ?_, (fun h => by cases h), fun h => absurd hc8 h⟩
      rw [h0]
      exact Sees.nil _ _
    · exact ⟨some ⟨b, off + 8, none⟩, fun h => absurd h hc8, sees_cut hs 8 _ (by omega), (fun h => by cases h), fun _ => rfl⟩
  have hclen : ((l.drop 8).take (unfC l)).length = unfC l := by simp; omega
  have Hfs : Hid _ := frameSum_any b off l.length cap (l.take 4) co ((l.drop 8).take (unfC l)) (cap - 8) w (by omega) hcap (by omega) (by simp; omega) (sees_take hs 4 (by omega)) hcs (by omega) ht
  have Hcp : Hid _ := copyWithRoom_any co ((l.drop 8).take (unfC l)) (cap - 8) 0 w hcs hcn (by omega)
  rw [hclen] at Hfs Hcp
  rw [hS] at Hfs
  have e4 : wordL (l.take 4) = unfC l := rfl
  rw [e4] at Hw1
  have hWl : wordL ((l.drop 4).take 4) < 4294967296 := wordL_lt _ (by simp; omega)
  obtain ⟨V, hV⟩ : ∃ V, wordL ((l.drop 4).take 4) = V := ⟨_, rfl⟩
  rw [hV] at Hw2 hWl
  by_cases hne : (V : Int) ≠ S
  · have hE : unfE l = 8 := by unfold unfE; rw [if_neg h8, if_neg hbig, if_neg hshort, if_pos (by rw [hV, hS]; exact hne)]
    obtain ⟨hN, hB⟩ := unf_bad l hE (by decide)
    rw [hE, hN, hB]
    have hneb : ((V : Int) != S) = true := by simpa using hne
    clear hE hN hB e4 hV hS hclen Hcp hcn hcs hne
    generalize unfC l = C at *
    by_cases hc8 : cap = 8
    · obtain rfl := hco hc8
      obtain rfl : C = 0 := by omega
      subst hc8
      clear hco hcc
      go_enter Tryd.func28, Tryd.ntmps28
      go_wp2_with fail
      refine Calls.mono (Hid.out Hw1) ?_
      rintro e w' ⟨rfl, rfl⟩
      go_wp2_with fail
      refine Calls.mono (Hid.out Hw2) ?_
      rintro e w' ⟨rfl, rfl⟩
      go_wp2_with fail
      refine Calls.mono (Hid.out Hfs) ?_
      rintro e w' ⟨rfl, rfl⟩
      go_wp2_with fail
      go_ret3
      exact ⟨_, rfl, World.ownsRow_nil _ _ _ _, Below.refl _ _⟩
    · obtain rfl := hcc hc8
      clear hco hcc
      go_enter Tryd.func28, Tryd.ntmps28
      go_wp2_with fail
      refine Calls.mono (Hid.out Hw1) ?_
      rintro e w' ⟨rfl, rfl⟩
      go_wp2_with fail
      refine Calls.mono (Hid.out Hw2) ?_
      rintro e w' ⟨rfl, rfl⟩
      go_wp2_with fail
      refine Calls.mono (Hid.out Hfs) ?_
      rintro e w' ⟨rfl, rfl⟩
      go_wp2_with fail
      go_ret3
      exact ⟨_, rfl, World.ownsRow_nil _ _ _ _, Below.refl _ _⟩
  · obtain rfl : (V : Int) = S := by omega
    have hE : unfE l = 0 := by unfold unfE; rw [if_neg h8, if_neg hbig, if_neg hshort, if_neg (by rw [hV, hS]; exact hne)]
    have hN : unfN l = 8 + unfC l := by unfold unfN; rw [if_pos hE]
    have hB : unfB l = (l.drop 8).take (unfC l) := by unfold unfB; rw [if_pos hE]
    rw [hE, hN, hB, hclen]
    have hneb : ((V : Int) != (V : Int)) = false := by simp
    clear hE hN hB e4 hV hS hclen hcn hcs hne
    generalize (l.drop 8).take (unfC l) = D at *
    generalize unfC l = C at *
    by_cases hc8 : cap = 8
    · obtain rfl := hco hc8
      obtain rfl : C = 0 := by omega
      subst hc8
      clear hco hcc
      go_enter Tryd.func28, Tryd.ntmps28
      go_wp2_with fail
      refine Calls.mono (Hid.out Hw1) ?_
      rintro e w' ⟨rfl, rfl⟩
      go_wp2_with fail
      refine Calls.mono (Hid.out Hw2) ?_
      rintro e w' ⟨rfl, rfl⟩
      go_wp2_with fail
      refine Calls.mono (Hid.out Hfs) ?_
      rintro e w' ⟨rfl, rfl⟩
      go_wp2_with fail
      refine Calls.mono (Hid.out Hcp) ?_
      rintro e w1 ⟨v1, rfl, ho1, hb1⟩
      go_wp2_with fail
      go_ret3
      exact ⟨_, rfl, ho1, hb1⟩
    · obtain rfl := hcc hc8
      clear hco hcc
      go_enter Tryd.func28, Tryd.ntmps28
      go_wp2_with fail
      refine Calls.mono (Hid.out Hw1) ?_
      rintro e w' ⟨rfl, rfl⟩
      go_wp2_with fail
      refine Calls.mono (Hid.out Hw2) ?_
      rintro e w' ⟨rfl, rfl⟩
      go_wp2_with fail
      refine Calls.mono (Hid.out Hfs) ?_
      rintro e w' ⟨rfl, rfl⟩
      go_wp2_with fail
      refine Calls.mono (Hid.out Hcp) ?_
      rintro e w1 ⟨v1, rfl, ho1, hb1⟩
      go_wp2_with fail
      go_ret3
      exact ⟨_, rfl, ho1, hb1⟩
end Go.Proofs.YthihljjefncfoaaDoor
