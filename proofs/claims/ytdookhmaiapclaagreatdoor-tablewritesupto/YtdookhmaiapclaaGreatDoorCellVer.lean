/-
  CONTRACTS: the codec writes a version, for every argument.
-/
import Derived.Test.YtdookhmaiapclaaGreatDoorCellWrite
import Derived.Test.YtdookhmaiapclaaGreatDoorSteps
import Derived.Test.YtdookhmaiapclaaGreatDoorRefUnframe
namespace Go.Proofs.YtdookhmaiapclaaGreatDoor
open Go.RowKit

/-- One byte that lies at the head of a block, as a source. -/
theorem src_head {w : World} {g : Nat} (b : UInt8) (h : w.cell? ⟨g, 0, none⟩ = some (.int .u8 (b.toNat : Int))) : Src Tryz.prog 1 29 (.slice (some ⟨g, 0, none⟩) 1 1) 1 (B8 [b]) w := by
  refine Src.ofSlice _ Tryz.underlying29 _ 1 1 _ (by simp [B8_length]) ?_ (B8_one _)
  intro j u hu
  match j, hu with
  | 0, hu => simp [B8] at hu; subst hu; simpa [Addr.add] using h
  | j + 1, hu => simp [B8] at hu

/-- Draws do not matter. -/
theorem Grew.like {u w w' : World} {v v' : Value} (h : Grew u w' v v') (h1 : u.heap = w.heap) (h2 : u.os = w.os) (h3 : u.tape = w.tape) (h4 : u.output = w.output) : Grew w w' v v' :=
  ⟨⟨h.rows.os.trans h2, h.rows.tape.trans h3, h.rows.output.trans h4, by rw [← h1]; exact h.rows.size, by rw [← h1]; exact h.rows.block⟩, by rw [← h1]; exact h.own⟩

set_option maxRecDepth 100000 in
set_option maxHeartbeats 1600000 in
theorem addVersion_any (base : Nat) (v : Value) (n : Nat) (xs : List UInt8) (k : VerV) (w : World) (hown : w.ownsRow base 5 1 v n (B8 xs)) (hk : k.Ok) (hn : n + wtV k ≤ 140737488340000) (hb : base ≤ w.heap.size) :
    Calls Tryz.prog 119 #[v, .agg (verA k)] w (Wrote base v n xs (verL k) w) := by
  obtain ⟨i0, hi, hz0, hz1, hz2⟩ := info_parts info8
  obtain ⟨time, dead, loc, kind, num, s⟩ := k
  have hk1 : I64 time := hk.time
  have hk2 : I64 loc := hk.loc
  have hk3 : ValV.Ok ⟨kind, num, s⟩ := hk.val
  have hn0 : n ≤ 140737488340000 := by omega
  have hs : Hid (dead = false → n + s.size ≤ 140737488340000) := fun h => by
    have := hn
    unfold wtV at this
    simp only [h] at this
    simpa using this
  have Hne : Hid (v.ownBlock ≠ some w.heap.size) := owns_ne_new hown
  have hl1 := (numL_length (zigN time)).2
  have hl2 := (numL_length (zigN loc)).2
  have hl3 := valL_le ⟨kind, num, s⟩
  have Hc1 : Hid _ := addNumber_any base v n xs (zigN time) (w.alloc (.cells (verA ⟨time, dead, loc, kind, num, s⟩) 48)) (hown.alloc _) (zigN_eq hk1).2 (by omega) (by rw [World.size_alloc]; omega)
  have HB : Hid (Box _ _ _ _) := Box.new w (verA ⟨time, dead, loc, kind, num, s⟩) 48
  clear hk hn hown
  unfold verA at *
  go_enter Tryz.func119, Tryz.ntmps119
  go_wp2_with fail
  refine Calls.mono (zig_nat time _ hk1) ?_
  rintro e w1' ⟨rfl, rfl⟩
  go_wp2_with fail
  refine Calls.mono (Hid.out Hc1) ?_
  rintro e w1 ⟨v1, rfl, ho1, hg1⟩
  have HB1 : Hid (Box _ _ _ _) := HB.out.grew hg1 Hne.out
  have Hne1 : Hid (v1.ownBlock ≠ some w.heap.size) := hg1.ne Hne.out HB.out.lt
  have c1 := HB1.out.cell 1
  have c2 := HB1.out.cell 2
  have c3 := HB1.out.cell 3
  have c4 := HB1.out.cell 4
  have c5 := HB1.out.cell 5
  have hlt1 : w.heap.size < w1.heap.size := HB1.out.lt
  have hb1 : base ≤ w1.heap.size := Nat.le_trans hb (Nat.le_of_lt hlt1)
  clear Hc1
  cases dead
  · have hs' := hs.out rfl
    go_wp2_with fail
    go_region_law (first
      | (refine step_append_grew rfl (.tmp 19) (.tmp 20) 29 29 rfl base 5 i0 (.int .u8 0) 1 1 Tryz.underlying29 hi hz0 hz1 hz2 rfl _ _ _ rfl (by exact ho1.alloc _) _ 1 (B8 [0]) rfl (src_head 0 (by simp [go_sem])) (by unfold maxLen; omega) (by omega) (by simp; omega) ?_; intro v2 w2 ho2 hg2; rw [← B8_append] at ho2; have g2 : Grew w1 w2 v1 v2 := Grew.alloc (w := w1) (o := .cells #[.int .u8 0] 5) (hg2.like rfl rfl rfl rfl); have d3 := (HB1.out.grew g2 Hne1.out).cell 3; have d4 := (HB1.out.grew g2 Hne1.out).cell 4; have d5 := (HB1.out.grew g2 Hne1.out).cell 5; have hb2 : base ≤ w2.heap.size := Nat.le_trans hb1 g2.rows.size)
      | (go_simp; go_at_call 142; refine Calls.mono (addValue_any base v2 _ _ ⟨kind, num, s⟩ _ (by exact ho2) hk3 (by simp; omega) (by exact hb2)) ?_; rintro e w4 ⟨v4, rfl, ho4, hg4⟩))
    all_goals
      clear hg2
      go_wp2
      go_ret
      refine ⟨v4, rfl, ?_, (hg1.trans (g2.trans (hg4.like rfl rfl rfl rfl))).alloc⟩
      unfold verL
      simpa [List.append_assoc, Nat.add_assoc, Nat.add_comm 1] using ho4
  · go_wp2_with fail
    go_region_law (first
      | (refine step_append_grew rfl (.tmp 12) (.tmp 13) 29 29 rfl base 5 i0 (.int .u8 0) 1 1 Tryz.underlying29 hi hz0 hz1 hz2 rfl _ _ _ rfl (by exact ho1.alloc _) _ 1 (B8 [1]) rfl (src_head 1 (by simp [go_sem])) (by unfold maxLen; omega) (by omega) (by simp; omega) ?_; intro v2 w2 ho2 hg2; rw [← B8_append] at ho2; have g2 : Grew w1 w2 v1 v2 := Grew.alloc (w := w1) (o := .cells #[.int .u8 1] 5) (hg2.like rfl rfl rfl rfl); have d2 := (HB1.out.grew g2 Hne1.out).cell 2; have hb2 : base ≤ w2.heap.size := Nat.le_trans hb1 g2.rows.size)
      | (go_simp; go_at_call 141; refine Calls.mono (zig_nat loc _ hk2) ?_; rintro e w' ⟨rfl, rfl⟩)
      | (go_simp; go_at_call 118; refine Calls.mono (addNumber_any base v2 _ _ (zigN loc) _ (by exact ho2) (zigN_eq hk2).2 (by omega) (by exact hb2)) ?_; rintro e w4 ⟨v4, rfl, ho4, hg4⟩))
    all_goals
      clear hg2
      go_wp2
      go_ret
      refine ⟨v4, rfl, ?_, (hg1.trans (g2.trans (hg4.like rfl rfl rfl rfl))).alloc⟩
      unfold verL
      simpa [List.append_assoc, Nat.add_assoc, Nat.add_comm 1] using ho4
end Go.Proofs.YtdookhmaiapclaaGreatDoor
