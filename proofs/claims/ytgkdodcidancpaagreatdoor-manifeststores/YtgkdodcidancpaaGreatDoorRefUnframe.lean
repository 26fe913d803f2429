/-
  CONTRACTS: the document's Unframe, for every argument.
-/
import Derived.Test.YtgkdodcidancpaaGreatDoorMany21
import Derived.Deep.RegionLaw
import Derived.Test.YtgkdodcidancpaaGreatDoorMany4
namespace Go.Proofs.YtgkdodcidancpaaGreatDoor
open Go.RowKit

theorem Grew.ofDrew {w w' : World} {v v' : Value} (h : Grew w.drew w' v v') : Grew w w' v v' := ⟨⟨h.rows.os, h.rows.tape, h.rows.output, h.rows.size, h.rows.block⟩, h.own⟩

set_option maxRecDepth 100000 in
set_option maxHeartbeats 1600000 in
theorem refUnframe_any (ao : Option Addr) (l : List UInt8) (cap : Nat) (w : World) (hs : Sees w ao l) (hl : l.length ≤ 140737488354000) (hcap : l.length ≤ cap) :
    Calls Tryz.prog 82 #[.slice ao l.length cap] w fun e w' => ∃ v', e = .returned (.tuple #[v', .int .i64 (unfN l), .int .i64 (unfE l)]) ∧ w'.ownsRow w.heap.size 5 1 v' (unfB l).length (B8 (unfB l)) ∧ Below w.heap.size w w' := by
  obtain ⟨i0, hi, hz0, hz1, hz2⟩ := info_parts info8
  by_cases h8 : l.length < 8
  · have hE : unfE l = 10 := by unfold unfE; rw [if_pos h8]
    obtain ⟨hN, hB⟩ := unf_bad l hE (by decide)
    rw [hE, hN, hB]
    clear hE hN hB
    go_enter Tryz.func82, Tryz.ntmps82
    go_wp2
    go_ret3
    exact ⟨_, rfl, World.ownsRow_nil _ _ _ _, Below.refl _ _⟩
  obtain ⟨b, off, rfl, _⟩ := sees_at hs (n := 0) (by omega)
  have Hw1 : Hid _ := fourth_any b off l.length cap (l.take 4) w (by omega) (by omega) (by simp; omega) (sees_take hs 4 (by omega))
  have hC4 : unfC l < 4294967296 := wordL_lt _ (by simp; omega)
  by_cases hbig : 262144 < unfC l
  · have hE : unfE l = 6 := by unfold unfE; rw [if_neg h8, if_pos hbig]
    obtain ⟨hN, hB⟩ := unf_bad l hE (by decide)
    rw [hE, hN, hB]
    clear hE hN hB
    have e : wordL (l.take 4) = unfC l := rfl
    rw [e] at Hw1
    clear e
    generalize unfC l = C at *
    go_enter Tryz.func82, Tryz.ntmps82
    go_wp2_with fail
    refine Calls.mono (Hid.out Hw1) ?_
    rintro e w' ⟨rfl, k, rfl⟩
    go_wp2_with fail
    go_ret3
    exact ⟨_, rfl, World.ownsRow_nil _ _ _ _, below_drewN (Below.refl _ _) k⟩
  by_cases hshort : l.length < 8 + unfC l
  · have hE : unfE l = 10 := by unfold unfE; rw [if_neg h8, if_neg hbig, if_pos hshort]
    obtain ⟨hN, hB⟩ := unf_bad l hE (by decide)
    rw [hE, hN, hB]
    clear hE hN hB
    have e : wordL (l.take 4) = unfC l := rfl
    rw [e] at Hw1
    clear e
    generalize unfC l = C at *
    go_enter Tryz.func82, Tryz.ntmps82
    go_wp2_with fail
    refine Calls.mono (Hid.out Hw1) ?_
    rintro e w' ⟨rfl, k, rfl⟩
    go_wp2_with fail
    go_ret3
    exact ⟨_, rfl, World.ownsRow_nil _ _ _ _, below_drewN (Below.refl _ _) k⟩
  obtain ⟨co, cc, hco, hcs, hcn, hcc⟩ : ∃ (co : Option Addr) (cc : Nat), (cap = 8 → co = some ⟨b, off, none⟩ ∧ cc = 0) ∧ Sees w co ((l.drop 8).take (unfC l)) ∧ (co = none → ((l.drop 8).take (unfC l)).length = 0) ∧ (cap ≠ 8 → co = some ⟨b, off + 8, none⟩ ∧ cc = cap - 8) := by
    by_cases hc8 : cap = 8
    · have h0 : unfC l = 0 := by omega
      refine ⟨some ⟨b, off, none⟩, 0, fun _ => ⟨rfl, rfl⟩, ?_, (fun h => by cases h), fun h => absurd hc8 h⟩
      rw [h0]
      exact Sees.nil _ _
    · exact ⟨some ⟨b, off + 8, none⟩, cap - 8, fun h => absurd h hc8, sees_cut hs 8 _ (by omega), (fun h => by cases h), fun _ => ⟨rfl, rfl⟩⟩
  have hclen : ((l.drop 8).take (unfC l)).length = unfC l := by simp; omega
  have e4 : wordL (l.take 4) = unfC l := rfl
  rw [e4] at Hw1
  obtain ⟨V, hV⟩ : ∃ V, wordL ((l.drop 4).take 4) = V := ⟨_, rfl⟩
  have hVl : V < 4294967296 := hV ▸ wordL_lt _ (by simp; omega)
  obtain ⟨S, hS⟩ : ∃ S, sumZ (l.take 4 ++ (l.drop 8).take (unfC l)) = S := ⟨_, rfl⟩
  have t4 : (l.take 4).length = 4 := by simp; omega
  have t44 : ((l.drop 4).take 4).length = 4 := by simp; omega
  have s4 := sees_take hs 4 (by omega)
  have s44 := sees_cut hs 4 4 (by omega)
  have HE : Hid (unfE l = if (V : Int) ≠ S then 8 else 0) := by show _ = _; unfold unfE; rw [if_neg h8, if_neg hbig, if_neg hshort, hV, hS]
  have Hok : Hid (unfE l = 0 → unfN l = 8 + unfC l ∧ unfB l = (l.drop 8).take (unfC l)) := fun h0 => ⟨by unfold unfN; rw [if_pos h0], by unfold unfB; rw [if_pos h0]⟩
  have Hbad : Hid (unfE l = 8 → unfN l = 0 ∧ unfB l = []) := fun h => unf_bad l h (by decide)
  clear e4 hs
  generalize (l.drop 8).take (unfC l) = D at *
  generalize (l.drop 4).take 4 = q at *
  generalize l.take 4 = p at *
  generalize unfC l = C at *
  generalize unfE l = ee at *
  generalize unfN l = nn at *
  generalize unfB l = bb at *
  have HV : Hid (wordL q = V) := hV
  have HS : Hid (sumZ (p ++ D) = S) := hS
  clear hV hS
  have hne : ((S != (V : Int)) = true ∧ ee = 8 ∧ nn = 0 ∧ bb = []) ∨ ((S != (V : Int)) = false ∧ ee = 0 ∧ nn = 8 + C ∧ bb = D) := by
    by_cases h : (V : Int) ≠ S
    · have h1 := HE.out
      rw [if_pos h] at h1
      have h2 := Hbad.out h1
      exact .inl ⟨by simp; omega, h1, h2.1, h2.2⟩
    · have h1 := HE.out
      rw [if_neg h] at h1
      have h2 := Hok.out h1
      exact .inr ⟨by simp; omega, h1, h2.1, h2.2⟩
  clear HE Hok Hbad
  by_cases hc8 : cap = 8
  · obtain ⟨rfl, rfl⟩ := hco hc8
    obtain rfl : C = 0 := by omega
    subst hc8
    obtain rfl : D = [] := List.eq_nil_of_length_eq_zero hclen
    clear hco hcc
    have n1 := fun k : Nat => owns_none (w.drewN k)
    have s1 := fun k : Nat => src_sees (P := Tryz.prog) Tryz.underlying58 (Sees.below (w := w.drewN k) (w' := (w.drewN k).alloc (.cells #[] 5)) hcs ((Below.refl _ _).alloc (Nat.le_refl _) _) (Nat.le_refl _)) (fun h => by cases h) 0
    have s1' : ∀ k : Nat, Src Tryz.prog 1 58 (.slice (some ⟨b, off, none⟩) 0 0) 0 (B8 []) ((w.drewN k).alloc (.cells #[] 5)) := s1
    clear s1
    go_enter Tryz.func82, Tryz.ntmps82
    go_wp2_with fail
    refine Calls.mono (Hid.out Hw1) ?_
    rintro e w' ⟨rfl, k, rfl⟩
    go_wp2_with (at_builtin; go_must (refine wpList_append_grew _ rfl (.tmp 22) (.tmp 26) 58 58 rfl w.heap.size 5 i0 (.int .u8 0) 1 1 Tryz.underlying58 hi hz0 hz1 hz2 rfl _ 0 _ rfl (n1 k) (.slice (some ⟨b, off, none⟩) 0 0) 0 (B8 ([] : List UInt8)) rfl (s1' k) (by unfold maxLen; omega) (by omega) (by rw [World.size_alloc]; exact Nat.le_succ _) ?_; intro v6 w6 ho6 hg6))
    have ho6' : w6.ownsRow w.heap.size 5 1 v6 0 (B8 ([] : List UInt8)) := by simpa using ho6
    have b6 : Below w.heap.size w w6 := (below_drewN (Below.refl _ _) k).trans (below_none hg6)
    clear ho6 hg6 n1 s1'
    obtain ⟨ao6, cap6, rfl, sD6, _, nD6⟩ := owns_sees ho6'
    have i4 : (4 : Int) ≤ (8 : Int) := by omega
    have i8 : (8 : Int) ≤ (8 : Int) := by omega
    have c4 : ¬ 8 = 4 := by omega
    have n6 := owns_none w6
    have bn6 : Below w6.heap.size w6 (w6.alloc (.cells #[] 5)).drew := ((Below.refl _ _).alloc (Nat.le_refl _) _).drew
    have sp6 : Src Tryz.prog 1 58 (.slice (some ⟨b, off, none⟩) 4 8) 4 (B8 p) (w6.alloc (.cells #[] 5)).drew := by
      have := src_sees (P := Tryz.prog) Tryz.underlying58 ((s4.below b6 (Nat.le_refl _)).below bn6 (Nat.le_refl _)) (fun h => by cases h) 8
      rwa [t4] at this
    have sq6 := s44.below b6 (Nat.le_refl _)
    have T4 : Hid (p.length = 4) := t4
    have T44 : Hid (q.length = 4) := t44
    have HD : Hid ((([] : List UInt8)).length = 0) := hclen
    have ho6w := ho6'.lt
    clear t4 t44 hclen hcs hcn Hw1
    go_region_law (first
      | (refine step_append_grew rfl (.tmp 28) (.tmp 30) 58 58 rfl w6.heap.size 5 i0 (.int .u8 0) 1 1 Tryz.underlying58 hi hz0 hz1 hz2 rfl _ 0 _ rfl (by exact n6) _ 4 (B8 p) rfl (by exact sp6) (by unfold maxLen; omega) (by omega) (by exact bn6.size) ?_; intro v7 w7 ho7 hg7; have g7 : Grew (w6.alloc (.cells #[] 5)) w7 (.slice (some ⟨w6.heap.size, 0, none⟩) 0 0) v7 := Grew.ofDrew hg7; have b7 := below_none g7; have sD7 := src_sees (P := Tryz.prog) Tryz.underlying58 (sD6.below b7 (Nat.le_refl _)) (fun e => HD.out.trans (nD6 e).1) cap6)
      | (refine step_append_grew rfl (.tmp 31) (.tmp 32) 58 58 rfl w6.heap.size 5 i0 (.int .u8 0) 1 1 Tryz.underlying58 hi hz0 hz1 hz2 rfl _ (0 + 4) _ rfl ho7 _ 0 (B8 ([] : List UInt8)) rfl (by rw [HD.out] at sD7; exact sD7) (by unfold maxLen; omega) (by omega) b7.size ?_; intro v8 w8 ho8 hg8; obtain ⟨ao8, cap8, rfl, s8, l8, n8⟩ := owns_sees (n := 4) (l := p ++ ([] : List UInt8)) (by rw [B8_append]; simpa using ho8); have b8 := b7.trans (hg8.below b7.size (fun g hg => (ho7.lt g hg).1)); have Hs8 : Hid _ := refSum_any ao8 (p ++ ([] : List UInt8)) cap8 w8 s8 (by rw [l8]; omega); rw [l8, HS.out] at Hs8; have Hf8 : Hid _ := fourth_any b (off + 4) 4 (8 - 4) q w8 (by omega) (by omega) T44.out (sq6.below b8 (Nat.le_refl _)); rw [HV.out] at Hf8)
      | (go_simp; go_at_call 100; refine Calls.mono (Hid.out Hs8) ?_; rintro e w9 ⟨rfl, rfl⟩)
      | (go_simp; go_at_call 109; refine Calls.mono (Hid.out Hf8) ?_; rintro e w9 ⟨rfl, k9, rfl⟩))
    have b8w := b6.trans (b8.mono b6.size)
    have o8 := owns_heap (w' := w9) ho6' (fun g hg => b8.block g (ho6w g hg).2)
    rcases hne with ⟨h1, rfl, rfl, rfl⟩ | ⟨h1, rfl, rfl, rfl⟩
    · clear hg7 g7 hg8 ho7 ho8 sp6 sD7 Hs8 Hf8 s8 n6 bn6 ho6'
      go_wp2
      go_ret3
      exact ⟨_, rfl, World.ownsRow_nil _ _ _ _, below_drewN b8w _⟩
    · clear hg7 g7 hg8 ho7 ho8 sp6 sD7 Hs8 Hf8 s8 n6 bn6 ho6'
      go_wp2
      go_ret3
      refine ⟨.slice ao6 0 cap6, rfl, ?_, below_drewN b8w _⟩
      exact o8
  · obtain ⟨rfl, rfl⟩ := hcc hc8
    clear hco hcc
    have n1 := fun k : Nat => owns_none (w.drewN k)
    have s1 := fun k : Nat => src_sees (P := Tryz.prog) Tryz.underlying58 (Sees.below (w := w.drewN k) (w' := (w.drewN k).alloc (.cells #[] 5)) hcs ((Below.refl _ _).alloc (Nat.le_refl _) _) (Nat.le_refl _)) (fun h => by cases h) (cap - 8)
    rw [hclen] at s1
    have s1' : ∀ k : Nat, Src Tryz.prog 1 58 (.slice (some ⟨b, off + 8, none⟩) (8 + C - 8) (cap - 8)) C (B8 D) ((w.drewN k).alloc (.cells #[] 5)) := fun k => by rw [Nat.add_sub_cancel_left]; exact s1 k
    clear s1
    go_enter Tryz.func82, Tryz.ntmps82
    go_wp2_with fail
    refine Calls.mono (Hid.out Hw1) ?_
    rintro e w' ⟨rfl, k, rfl⟩
    go_wp2_with (at_builtin; go_must (refine wpList_append_grew _ rfl (.tmp 22) (.tmp 26) 58 58 rfl w.heap.size 5 i0 (.int .u8 0) 1 1 Tryz.underlying58 hi hz0 hz1 hz2 rfl _ 0 _ rfl (n1 k) (.slice (some ⟨b, off + 8, none⟩) (8 + C - 8) (cap - 8)) C (B8 D) rfl (s1' k) (by unfold maxLen; omega) (by omega) (by rw [World.size_alloc]; exact Nat.le_succ _) ?_; intro v6 w6 ho6 hg6))
    have ho6' : w6.ownsRow w.heap.size 5 1 v6 C (B8 D) := by simpa using ho6
    have b6 : Below w.heap.size w w6 := (below_drewN (Below.refl _ _) k).trans (below_none hg6)
    clear ho6 hg6 n1 s1'
    obtain ⟨ao6, cap6, rfl, sD6, _, nD6⟩ := owns_sees ho6'
    have i4 : (4 : Int) ≤ (cap : Int) := by omega
    have i8 : (8 : Int) ≤ (cap : Int) := by omega
    have c4 : ¬ cap = 4 := by omega
    have n6 := owns_none w6
    have bn6 : Below w6.heap.size w6 (w6.alloc (.cells #[] 5)).drew := ((Below.refl _ _).alloc (Nat.le_refl _) _).drew
    have sp6 : Src Tryz.prog 1 58 (.slice (some ⟨b, off, none⟩) 4 cap) 4 (B8 p) (w6.alloc (.cells #[] 5)).drew := by
      have := src_sees (P := Tryz.prog) Tryz.underlying58 ((s4.below b6 (Nat.le_refl _)).below bn6 (Nat.le_refl _)) (fun h => by cases h) cap
      rwa [t4] at this
    have sq6 := s44.below b6 (Nat.le_refl _)
    have T4 : Hid (p.length = 4) := t4
    have T44 : Hid (q.length = 4) := t44
    have HD : Hid ((D).length = C) := hclen
    have ho6w := ho6'.lt
    clear t4 t44 hclen hcs hcn Hw1
    go_region_law (first
      | (refine step_append_grew rfl (.tmp 28) (.tmp 30) 58 58 rfl w6.heap.size 5 i0 (.int .u8 0) 1 1 Tryz.underlying58 hi hz0 hz1 hz2 rfl _ 0 _ rfl (by exact n6) _ 4 (B8 p) rfl (by exact sp6) (by unfold maxLen; omega) (by omega) (by exact bn6.size) ?_; intro v7 w7 ho7 hg7; have g7 : Grew (w6.alloc (.cells #[] 5)) w7 (.slice (some ⟨w6.heap.size, 0, none⟩) 0 0) v7 := Grew.ofDrew hg7; have b7 := below_none g7; have sD7 := src_sees (P := Tryz.prog) Tryz.underlying58 (sD6.below b7 (Nat.le_refl _)) (fun e => HD.out.trans (nD6 e).1) cap6)
      | (refine step_append_grew rfl (.tmp 31) (.tmp 32) 58 58 rfl w6.heap.size 5 i0 (.int .u8 0) 1 1 Tryz.underlying58 hi hz0 hz1 hz2 rfl _ (0 + 4) _ rfl ho7 _ C (B8 D) rfl (by rw [HD.out] at sD7; exact sD7) (by unfold maxLen; omega) (by omega) b7.size ?_; intro v8 w8 ho8 hg8; obtain ⟨ao8, cap8, rfl, s8, l8, n8⟩ := owns_sees (n := 4 + C) (l := p ++ D) (by rw [B8_append]; simpa using ho8); have b8 := b7.trans (hg8.below b7.size (fun g hg => (ho7.lt g hg).1)); have Hs8 : Hid _ := refSum_any ao8 (p ++ D) cap8 w8 s8 (by rw [l8]; omega); rw [l8, HS.out] at Hs8; have Hf8 : Hid _ := fourth_any b (off + 4) 4 (cap - 4) q w8 (by omega) (by omega) T44.out (sq6.below b8 (Nat.le_refl _)); rw [HV.out] at Hf8)
      | (go_simp; go_at_call 100; refine Calls.mono (Hid.out Hs8) ?_; rintro e w9 ⟨rfl, rfl⟩)
      | (go_simp; go_at_call 109; refine Calls.mono (Hid.out Hf8) ?_; rintro e w9 ⟨rfl, k9, rfl⟩))
    have b8w := b6.trans (b8.mono b6.size)
    have o8 := owns_heap (w' := w9) ho6' (fun g hg => b8.block g (ho6w g hg).2)
    rcases hne with ⟨h1, rfl, rfl, rfl⟩ | ⟨h1, rfl, rfl, rfl⟩
    · clear hg7 g7 hg8 ho7 ho8 sp6 sD7 Hs8 Hf8 s8 n6 bn6 ho6'
      go_wp2
      go_ret3
      exact ⟨_, rfl, World.ownsRow_nil _ _ _ _, below_drewN b8w _⟩
    · clear hg7 g7 hg8 ho7 ho8 sp6 sD7 Hs8 Hf8 s8 n6 bn6 ho6'
      go_wp2
      go_ret3
      refine ⟨.slice ao6 C cap6, by simp; omega, ?_, below_drewN b8w _⟩
      rw [HD.out]
      exact o8
end Go.Proofs.YtgkdodcidancpaaGreatDoor
