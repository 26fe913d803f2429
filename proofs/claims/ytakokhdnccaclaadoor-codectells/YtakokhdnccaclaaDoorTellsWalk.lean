/-
  THE WALK of the law CodecTells.
-/
import Derived.Test.YtakokhdnccaclaaDoorTellsPlain
import Derived.Test.YtakokhdnccaclaaDoorRefFrame
namespace Go.Proofs.YtakokhdnccaclaaDoor.codecTells
open Go.RowKit

theorem owns_cap {w : World} {base : Nat} {e : TypeId} {size : Nat} {ao : Option Addr} {n m cap : Nat} {xs : List Value} (h : w.ownsRow base e size (.slice ao n cap) m xs) : n ≤ cap ∧ cap ≤ maxLen := by
  rcases h.2 with ⟨hv, _⟩ | ⟨g, c, cur, hv, _, _, hn, hm, _, _⟩
  · cases hv; exact ⟨Nat.le_refl _, Nat.zero_le _⟩
  · cases hv; exact ⟨hn, hm⟩

set_option maxRecDepth 100000 in
set_option maxHeartbeats 1600000 in
theorem walk (ao : Option Addr) (l : List UInt8) (cap cut bit : Nat) (w : World) (hs : Sees w ao l) (hnone : ao = none → l.length = 0) (hl : l.length ≤ 140737488351232) (_hcap : l.length ≤ cap) (hcut : cut < 18446744073709551616) (hbit : bit < 18446744073709551616) (ht : Tab w) :
    Calls Tryd.prog 8 #[.slice ao l.length cap, .int .u64 cut, .int .u64 bit] w fun e w' => e = .returned (.bool true) ∧ Below w.heap.size w w' := by
  obtain ⟨i0, hi, hz0, hz1, hz2⟩ := info_parts info8
  have hcuti : (cut : Int) ≤ 18446744073709551615 := by omega
  have hbiti : (bit : Int) ≤ 18446744073709551615 := by omega
  clear hcut hbit
  by_cases hbig : 262144 < l.length
  · have Hf : Hid _ := frame_long ao l.length cap w hbig (by omega)
    go_enter Tryd.func8, Tryd.ntmps8
    go_wp2_with fail
    refine Calls.mono (Hid.out Hf) ?_
    rintro e w' ⟨rfl, rfl⟩
    go_wp2_with fail
    refine (lives_any _ ht).mono ?_
    rintro e w1 ⟨rfl, hb1⟩
    go_wp2_with fail
    go_ret
    exact ⟨rfl, hb1⟩
  have Hf : Hid _ := frame_any ao l cap w (by omega) hs hnone ht
  have Hnone : Hid _ := hnone
  clear hnone
  have hfl := frameL_length l
  go_enter Tryd.func8, Tryd.ntmps8
  go_wp2_with fail
  refine Calls.mono (Hid.out Hf) ?_
  rintro e w1 ⟨rfl, hr1, hb1⟩
  clear Hf
  obtain ⟨m, hm⟩ : ∃ m, cut % (l.length + 8) = m := ⟨_, rfl⟩
  have hml : m < l.length + 8 := hm ▸ Nat.mod_lt _ (by omega)
  have s1 : Sees w1 (some ⟨w.heap.size, 0, none⟩) (frameL l) := by
    have := hr1.sees 0 (l.length + 8) (by omega)
    rw [List.drop_zero, List.take_of_length_le (by omega)] at this
    exact this
  have t1 := ht.below hb1 (Nat.le_refl _)
  have Hu1 : Hid _ := unframe_any (some ⟨w.heap.size, 0, none⟩) ((frameL l).take m) (l.length + 8) w1 (sees_take s1 m (by omega)) (by rw [List.length_take]; omega) (by rw [List.length_take]; omega) (by omega) t1
  rw [tells_cut l (by omega) m hml, List.length_take, Nat.min_eq_left (by omega)] at Hu1
  rw [← hm] at Hu1
  have hmi : 0 ≤ (cut : Int) % ((l.length : Int) + 8) ∧ (cut : Int) % ((l.length : Int) + 8) ≤ (l.length : Int) + 8 := ⟨Int.emod_nonneg _ (by omega), Int.le_of_lt (Int.emod_lt_of_pos _ (by omega))⟩
  clear hm hml
  go_wp2_with fail
  refine Calls.mono (Hid.out Hu1) ?_
  rintro e w2 ⟨v2, rfl, _, hb2⟩
  have hg1 := hr1.lt
  have hr2 := hr1.below hb2 hg1
  have s2 := s1.below hb2 (Nat.le_refl _)
  have hb2w : Below w.heap.size w w2 := hb1.trans (hb2.mono hb1.size)
  have hg2 : w.heap.size < w2.heap.size := hr2.lt
  have n3 := owns_none w2
  have q3 := src_sees (P := Tryd.prog) Tryd.underlying22 (s2.below ((Below.refl _ _).alloc (Nat.le_refl _) (.cells #[] 5)) (Nat.le_refl _)) (fun h => by cases h) (l.length + 8)
  rw [hfl] at q3
  have Hfl : Hid _ := hfl
  clear Hu1 hr1 s1 t1 hb1 hb2 hmi hfl
  go_wp2_with (first
    | ((with_reducible (show wpList _ _ _ (Oper.mk _ (Op.call ⟨Callee.builtin Builtin.append, #[.tmp 45, .tmp 46], _⟩) _ _ _ _ :: _) _ _)); go_must (refine wpList_append_grew _ rfl (.tmp 45) (.tmp 46) 22 22 rfl w2.heap.size 5 i0 (.int .u8 0) 1 1 Tryd.underlying22 hi hz0 hz1 hz2 rfl _ 0 _ rfl n3 _ (l.length + 8) (B8 (frameL l)) rfl q3 (by unfold maxLen; omega) (by omega) (by rw [World.size_alloc]; omega) ?_; intro v3 w3 ho3 hg3; have hw3 := (below_none hg3).size))
    | ((with_reducible (show wpList _ _ _ (Oper.mk _ (Op.call ⟨Callee.builtin Builtin.append, #[.tmp 47, .tmp 48], _⟩) _ _ _ _ :: _) _ _)); go_must (refine wpList_append_grew _ rfl (.tmp 47) (.tmp 48) 22 22 rfl w2.heap.size 5 i0 (.int .u8 0) 1 1 Tryd.underlying22 hi hz0 hz1 hz2 rfl _ (0 + (l.length + 8)) _ rfl (ho3.alloc _) _ 2 (B8 [1, 2]) rfl (src_sees Tryd.underlying22 (sees_lit w3 [1, 2] (0, 0)) (fun h => by cases h) 2) (by unfold maxLen; omega) (by omega) (by rw [World.size_alloc]; omega) ?_; intro v5 w5 ho5 hg5)))
  have ho5' : w5.ownsRow w2.heap.size 5 1 v5 (l.length + 8 + 2) (B8 (frameL l ++ [1, 2])) := by rw [B8_append]; simpa using ho5
  obtain ⟨ao5, cap5, rfl, s5, l5, _⟩ := owns_sees ho5'
  obtain ⟨hc5, hm5⟩ := owns_cap ho5'
  unfold maxLen at hm5
  have g35 : Grew (w2.alloc (.cells #[] 5)) w5 _ _ := hg3.trans hg5.alloc
  have hb5 : Below w2.heap.size w2 w5 := below_none g35
  have hb5w : Below w.heap.size w w5 := hb2w.trans (hb5.mono hb2w.size)
  have hr5 := hr2.below hb5 hg2
  have t5 := ht.below hb5w (Nat.le_refl _)
  obtain ⟨hE, hN, hB⟩ := tells_whole l (by omega) [1, 2]
  have Hu5 : Hid _ := unframe_any ao5 (frameL l ++ [1, 2]) cap5 w5 s5 (by rw [l5]; omega) (by rw [l5]; exact hc5) (by omega) t5
  rw [hE, hN, hB, l5] at Hu5
  clear ho5 ho5' hg5 hg3 ho3 hw3 g35 n3 q3 hr2 s2 s5 l5 hc5 hm5 hE hN hB hb5 t5 hb2w
  refine Calls.mono (Hid.out Hu5) ?_
  rintro e w6 ⟨v6, rfl, ho6, hb6⟩
  obtain ⟨ao6, cap6, rfl, s6, _, n6⟩ := owns_sees ho6
  have hb6w : Below w.heap.size w w6 := hb5w.trans (hb6.mono hb5w.size)
  have hr6 := hr5.below hb6 hr5.lt
  have Hsame : Hid _ := same_any ao6 ao l l cap6 cap w6 s6 (hs.below hb6w (Nat.le_refl _)) (fun h => (n6 h).1) Hnone.out
  have e1 : (l == l) = true := by simp
  rw [e1] at Hsame
  clear e1 ho6 hb6 hr5 hb5w s6 n6 Hu5
  go_wp2_with fail
  refine Calls.mono (Hid.out Hsame) ?_
  rintro e w' ⟨rfl, rfl⟩
  obtain ⟨k, hk⟩ : ∃ k : Nat, (bit : Int) % (8 * ((l.length : Int) + 4)) = (k : Int) := Int.eq_ofNat_of_zero_le (Int.emod_nonneg _ (by omega))
  have hkl : k < 8 * (l.length + 4) := by have := Int.emod_lt_of_pos (bit : Int) (show 0 < 8 * ((l.length : Int) + 4) by omega); omega
  have hc6 := hr6.cell (4 + k / 8) (by rw [Hfl.out]; omega)
  have hf6 := hr6.frozen (4 + k / 8)
  have hx6 := ((frameL l).getD (4 + k / 8) 0).toNat_lt
  obtain ⟨x, hx⟩ : ∃ x, (frameL l).getD (4 + k / 8) 0 = x := ⟨_, rfl⟩
  rw [hx] at hc6 hx6
  have Hx : Hid _ := hx
  obtain ⟨y, hy, hyx⟩ := flip_text x (k % 8) (by omega)
  have hr7 := hr6.setZ (4 + k / 8) y _ hy
  have hb7w : Below w.heap.size w (w'.setCell ⟨w.heap.size, 4 + k / 8, none⟩ (.int .u8 (bits BinOp.xor IntKind.u8 (x.toNat : Int) (2 ^ (k % 8) % 256)))) := hb6w.setCell (Nat.le_refl _) _
  have t7 := ht.below hb7w (Nat.le_refl _)
  have s7 : Sees (w'.setCell ⟨w.heap.size, 4 + k / 8, none⟩ (.int .u8 (bits BinOp.xor IntKind.u8 (x.toNat : Int) (2 ^ (k % 8) % 256)))) (some ⟨w.heap.size, 0, none⟩) ((frameL l).set (4 + k / 8) y) := by
    have := hr7.sees 0 (l.length + 8) (by rw [List.length_set, Hfl.out]; omega)
    rw [List.drop_zero, List.take_of_length_le (by rw [List.length_set, Hfl.out]; omega)] at this
    exact this
  have Hu7 : Hid _ := unframe_any _ _ (l.length + 8) _ s7 (by rw [List.length_set, Hfl.out]; omega) (by rw [List.length_set, Hfl.out]; omega) (by omega) t7
  rw [tells_turned l (by omega) (4 + k / 8) (by omega) (by omega) y (by rw [Hx.out]; exact hyx), List.length_set, Hfl.out] at Hu7
  clear hx Hsame hr7 s7 hy
  go_wp2_with fail
  refine Calls.mono (Hid.out Hu7) ?_
  rintro e w8 ⟨v8, rfl, _, hb8⟩
  have hb8w := hb7w.trans (hb8.mono hb7w.size)
  have t8 := ht.below hb8w (Nat.le_refl _)
  clear Hu7 hb8 hb7w t7 hr6 hb6w
  go_wp2_with fail
  refine (lives_any _ t8).mono ?_
  rintro e w9 ⟨rfl, hb9⟩
  go_wp2_with fail
  go_ret
  exact ⟨rfl, hb8w.trans (hb9.mono hb8w.size)⟩
end Go.Proofs.YtakokhdnccaclaaDoor.codecTells
