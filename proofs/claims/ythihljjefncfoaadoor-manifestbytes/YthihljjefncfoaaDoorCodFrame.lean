/-
  CONTRACTS: the codec's setWord, frameSum and Frame, each for every argument.
-/
import Derived.Test.YthihljjefncfoaaDoorCodPut
import Derived.Laws.CopyOwn
import Derived.Deep.RegionWith
namespace Go.Proofs.YthihljjefncfoaaDoor
open Go.RowKit

set_option maxRecDepth 100000 in
set_option maxHeartbeats 400000 in
theorem setWord_any (g off len cap : Nat) (l : List UInt8) (x : Nat) (w : World) (hx : x < 4294967296) (h4 : 4 ≤ len) (hlen : len ≤ 140737488355000) (hr : Row w g l) (hl : off + 4 ≤ l.length) :
    Calls Tryd.prog 44 #[.slice (some ⟨g, off, none⟩) len cap, .int .u32 x] w fun e w' => e = .returned (.tuple #[]) ∧ Row w' g (layL l off x 4) ∧ w.grownBy w' (some g) ∧ w'.heap.size = w.heap.size := by
  go_enter Tryd.func44, Tryd.ntmps44
  go_wp2
  go_loopw [5] (fun i wr => ∃ k : Nat, k ≤ 4 ∧ i = .int .i64 k ∧ Row wr g (layL l off x k) ∧ w.grownBy wr (some g) ∧ wr.heap.size = w.heap.size) (fun i _ => 4 - (intOf i).toNat)
  case atStart => exact ⟨0, Nat.zero_le _, rfl, by rw [layL_zero]; exact hr, World.grownBy.refl _ _, rfl⟩
  case round =>
    obtain ⟨k, hk, rfl, hrow, hg, hsz⟩ := hrel
    by_cases hlt : k < 4
    · have hcell := hrow.cell (off + k) (by rw [layL_length _ _ _ _ (by omega) (by omega)]; omega)
      have hfr := hrow.frozen (off + k)
      rcases (show k = 0 ∨ k = 1 ∨ k = 2 ∨ k = 3 by omega) with rfl | rfl | rfl | rfl
      all_goals
        try simp only [Nat.add_zero] at hcell hfr
        go_wp2
        go_roundw
        case rel =>
          refine ⟨_ + 1, by omega, rfl, ?_, grownBy_setCell hg, (size_setCell _ _ _).trans hsz⟩
          rw [← layL_step l off x _ (by omega) (by omega)]
          refine hrow.setZ _ _ _ ?_
          simp [fourL]
          try omega
        case measure => simp [intOf]
    · go_wp2
      go_end0
      obtain rfl : k = 4 := by omega
      exact ⟨rfl, hrow, hg, hsz⟩

set_option maxRecDepth 100000 in
set_option maxHeartbeats 400000 in
theorem frameSum_any (b off hn hcap : Nat) (h4 : List UInt8) (co : Option Addr) (l : List UInt8) (cap : Nat) (w : World) (h1 : 4 ≤ hn) (h2 : hn ≤ hcap) (hcm : hcap ≤ 9223372036854775807) (h3 : h4.length = 4) (hs : Sees w (some ⟨b, off, none⟩) h4) (hc : Sees w co l) (hl : l.length ≤ 140737488355000) (ht : Tab w) :
    Calls Tryd.prog 45 #[.slice (some ⟨b, off, none⟩) hn hcap, .slice co l.length cap] w fun e w' => e = .returned (.int .u32 (sumZ (h4 ++ l))) ∧ w' = w := by
  have hb4 := sumOnZ_bd 4294967295 h4 ⟨by decide, by decide⟩
  have hbd := sumOnZ_bd 4294967295 (h4 ++ l) ⟨by decide, by decide⟩
  have hn := not_u32 _ hbd.1 hbd.2
  have he : Hid (sumZ (h4 ++ l) = 4294967295 - sumOnZ 4294967295 (h4 ++ l)) := rfl
  rw [sumOnZ_append] at hn hbd he
  go_enter Tryd.func45, Tryd.ntmps45
  go_wp2_with fail
  refine (sumOn_len 4294967295 (some ⟨b, off, none⟩) h4 4 hcap _ ⟨by decide, by decide⟩ h3 (by decide) ht hs).mono ?_
  rintro e w' ⟨rfl, rfl⟩
  go_wp2_with fail
  refine (sumOn_any _ co l cap _ hb4 (by unfold maxLen; omega) ht hc).mono ?_
  rintro e w' ⟨rfl, rfl⟩
  go_wp2_with fail
  go_ret
  exact ⟨ret_int he.out.symm, rfl⟩

theorem Tab.below {w w' : World} (h : Tab w) {B : Nat} (hb : Below B w w') (hB : w.heap.size ≤ B) : Tab w' := by
  intro j hj
  have h1 := h j hj
  have hlt := World.block_lt_of_cell? _ _ h1
  rw [hb.cell (p := ⟨0, j, none⟩) (by omega), h1]

theorem made8 (m : Nat) : (madeCells (Value.int .u8 0).cells (m * 1)).toList = B8 (List.replicate m 0) := by
  have h : (Value.int .u8 0).cells = #[.int .u8 0] := rfl
  rw [h, Nat.mul_one]
  apply List.ext_getElem
  · simp [madeCells, B8]
  · intro i h1 h2
    simp [madeCells, B8, Nat.mod_one]

theorem frame_bytes (l : List UInt8) (n S : Nat) (hn : n = l.length) : splice (B8 (layL (layL (List.replicate (n + 8) 0) 0 n 4) 4 S 4)) 8 (B8 l) = B8 (fourL n ++ (fourL S ++ l)) := by
  have e : layL (layL (List.replicate (n + 8) 0) 0 n 4) 4 S 4 = fourL n ++ (fourL S ++ List.replicate n 0) := by
    simp [layL, fourL, Nat.add_sub_cancel]
  rw [e]
  have h1 : (B8 (fourL n ++ (fourL S ++ List.replicate n 0))).take 8 = B8 (fourL n ++ fourL S) := by simp [B8, fourL]
  have h2 : (B8 (fourL n ++ (fourL S ++ List.replicate n 0))).drop (8 + l.length) = [] := by
    rw [List.drop_eq_nil_of_le]
    rw [B8_length]
    simp [fourL]
    omega
  unfold splice
  rw [B8_length, h1, h2, ← List.append_assoc (fourL n), B8_append (fourL n ++ fourL S)]
  simp

theorem sees_cells {w : World} {ao : Option Addr} {l : List UInt8} (h : Sees w ao l) (hp : 0 < l.length) : ∃ ad, ao = some ad ∧ ∀ j v, (B8 l)[j]? = some v → w.cell? (ad.add j) = some v := by
  obtain ⟨a, rfl, _⟩ := h 0 hp
  exact ⟨a, rfl, h.cells⟩

/-- Too long for a frame. -/
theorem frame_long (ao : Option Addr) (n cap : Nat) (w : World) (h : 262144 < n) (hn : n ≤ 140737488355328) :
    Calls Tryd.prog 25 #[.slice ao n cap] w fun e w' => e = .returned (.slice none 0 0) ∧ w' = w := by
  go_enter Tryd.func25, Tryd.ntmps25
  go_wp2
  go_ret
  exact ⟨rfl, rfl⟩

set_option maxRecDepth 100000 in
set_option maxHeartbeats 800000 in
theorem frame_any (ao : Option Addr) (l : List UInt8) (cap : Nat) (w : World) (hl : l.length ≤ 262144) (hs : Sees w ao l) (hnone : ao = none → l.length = 0) (ht : Tab w) :
    Calls Tryd.prog 25 #[.slice ao l.length cap] w fun e w' => e = .returned (.slice (some ⟨w.heap.size, 0, none⟩) (l.length + 8) (l.length + 8)) ∧ Row w' w.heap.size (frameL l) ∧ Below w.heap.size w w' := by
  obtain ⟨i0, hi, hz0, hz1, hz2⟩ := info_parts info8
  have Hnone : Hid (ao = none → l.length = 0) := hnone
  clear hnone
  go_enter Tryd.func25, Tryd.ntmps25
  go_wp2_with (at_make; go_must (refine wpList_make_full _ rfl _ _ 25 rfl w.heap.size 5 i0 (.int .u8 0) 1 Tryd.underlying25 hi hz0 hz1 .i64 .i64 _ _ (l.length + 8) rfl rfl (by omega) (by omega) (by rw [hz2]; omega) (by unfold maxLen; omega) (Nat.le_refl _) ?_; intro w1 ho1 hg1))
  rw [made8] at ho1
  obtain ⟨hr1, hl1, _⟩ := Row.of_owns ho1
  have hb1 : Below w.heap.size w w1 := (Below.refl _ _).grown hg1 (Nat.le_refl _) (fun k hk => by cases hk)
  clear ho1
  refine (setWord_any w.heap.size 0 _ _ _ l.length _ (by omega) (by omega) (by omega) hr1 (by simp)).mono ?_
  rintro e w2 ⟨rfl, hr2, hg2, hsz2⟩
  have hb2 : Below w.heap.size w w2 := hb1.grown hg2 hb1.size (fun k hk => by cases hk; exact Nat.le_refl _)
  have hlen2 : (layL (List.replicate (l.length + 8) 0) 0 l.length 4).length = l.length + 8 := by rw [layL_length _ _ _ _ (by omega) (by simp)]; simp
  have hs4 : Sees w2 (some ⟨w.heap.size, 0, none⟩) (fourL l.length) := by
    have := hr2.sees 0 4 (by omega)
    simpa [layL, fourL] using this
  obtain ⟨S, hS⟩ := Int.eq_ofNat_of_zero_le (sumZ_bd (fourL l.length ++ l)).1
  have hS32 : S < 4294967296 := by have := (sumZ_bd (fourL l.length ++ l)).2; omega
  have HS : Hid (sumZ (fourL l.length ++ l) = (S : Int)) := hS
  clear hS
  have hs2 := hs.below hb2 (Nat.le_refl _)
  have ht2 := ht.below hb2 (Nat.le_refl _)
  go_wp2_with fail
  go_region_with (first
    | (go_at_call 45; go_must (refine (frameSum_any w.heap.size 0 (l.length + 8) (l.length + 8) (fourL l.length) ao l cap _ (by omega) (by omega) (by omega) rfl (by exact hs4) (by exact hs2) (by omega) (by exact ht2)).mono ?_; rintro e w' ⟨rfl, rfl⟩; rw [HS.out]))
    | (go_at_call 44; go_must (refine (setWord_any w.heap.size 4 _ _ (layL (List.replicate (l.length + 8) 0) 0 l.length 4) S _ hS32 (by omega) (by omega) (by exact hr2) (by omega)).mono ?_; rintro e w3 ⟨rfl, hr3, hg3, hsz3⟩)))
  all_goals
    have hb3 : Below w.heap.size w w3 := hb2.drew.grown hg3 hb2.size (fun k hk => by cases hk; exact Nat.le_refl _)
    have hs3 := hs.below hb3 (Nat.le_refl _)
    have hlen3 : (layL (layL (List.replicate (l.length + 8) 0) 0 l.length 4) 4 S 4).length = l.length + 8 := by rw [layL_length _ _ _ _ (by omega) (by omega)]; exact hlen2
    have hfin : Hid (splice (B8 (layL (layL (List.replicate (l.length + 8) 0) 0 l.length 4) 4 S 4)) 8 (B8 l) = B8 (frameL l)) := by
      unfold frameL
      rw [HS.out, Int.toNat_natCast]
      exact frame_bytes l l.length S rfl
    generalize layL (layL (List.replicate (l.length + 8) 0) 0 l.length 4) 4 S 4 = L3 at *
    clear hr1 hr2 hg1 hg2 hb1 hb2 hs2 ht2 hs4 hsz2 hlen2 hg3 hsz3 HS
    by_cases h0 : l.length = 0
    · go_wp2_with ((with_reducible (show wpList _ _ _ (Oper.mk _ (Op.call ⟨Callee.builtin Builtin.copy, _, _⟩) _ _ _ _ :: _) _ _)); go_must (refine wpList_copy_splice rfl _ _ 25 25 rfl 5 Tryd.underlying25 (by rw [hi]; simp [hz1]) _ _ _ _ _ _ rfl rfl w.heap.size 8 (B8 L3) 5 (by exact hr3) (B8 l) (by rw [B8_length, h0]; rfl) (fun h => by rw [B8_length] at h; omega) (by rw [B8_length, B8_length]; omega) (B8_one _) w.heap.size w hb3 (Nat.le_refl _) ?_; intro w4 hr4 hb4))
      go_ret
      refine ⟨by rw [h0]; rfl, ?_, hb4⟩
      unfold Row
      rw [hr4.out, hfin.out]
    · go_wp2_with ((with_reducible (show wpList _ _ _ (Oper.mk _ (Op.call ⟨Callee.builtin Builtin.copy, _, _⟩) _ _ _ _ :: _) _ _)); go_must (refine wpList_copy_splice rfl _ _ 25 25 rfl 5 Tryd.underlying25 (by rw [hi]; simp [hz1]) _ _ _ _ _ _ rfl rfl w.heap.size 8 (B8 L3) 5 (by exact hr3) (B8 l) (by rw [B8_length]; simp) (fun h => ⟨rfl, sees_cells hs3 (by omega)⟩) (by rw [B8_length, B8_length]; omega) (B8_one _) w.heap.size w hb3 (Nat.le_refl _) ?_; intro w4 hr4 hb4))
      go_ret
      refine ⟨rfl, ?_, hb4⟩
      unfold Row
      rw [hr4.out, hfin.out]
end Go.Proofs.YthihljjefncfoaaDoor
