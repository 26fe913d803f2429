/-
  PROVED HERE: the law CodecShort answers true for every number of 64 bits (the table of the sum and the error that readers panic with being as the program's text lays them): a number has one byte for each seven bits; a longer one is never read, nor one that ends too early.
-/
import Derived.Test.YtakokhdnccaclabDoorCodGot
import Derived.Test.YtakokhdnccaclabDoorShortPlain
namespace Go.Proofs.YtakokhdnccaclabDoor.codecShort
open Go.RowKit

set_option maxRecDepth 100000 in
set_option maxHeartbeats 1600000 in
theorem walk (u : Nat) (w : World) (hu : u < 18446744073709551616) (ht : Tab w) (ue : TypeId) (pv : Value) (he : Err w ue pv) :
    Calls Tryd.prog 3 #[.int .u64 u] w fun e w' => e = .returned (.bool true) ∧ Below w.heap.size w w' := by
  obtain ⟨i0, hi, hz0, hz1, hz2⟩ := info_parts info8
  have hN := numL_length u
  have Hback : Hid _ := get_back u hu [255, 1]
  have Hearly : Hid _ := get_early u hu
  have Hlong : Hid _ := get_longer u hu
  have Hstart : Hid _ := NumAt.start hu
  have Hput : Hid _ := put_any none [] 0 u w (Sees.nil _ _) (fun _ => rfl) (by decide) hu
  have hui : (u : Int) ≤ 18446744073709551615 := by omega
  obtain ⟨N, hNe⟩ : ∃ N, (numL u).length = N := ⟨_, rfl⟩
  rw [hNe] at hN Hearly Hlong
  have HNe : Hid ((numL u).length = N) := hNe
  clear hu hNe
  go_enter Tryd.func3, Tryd.ntmps3
  go_wp2_with fail
  refine Calls.mono (Hid.out Hput) ?_
  rintro e w1 ⟨v1, rfl, ho, hb1⟩
  have ho1 : w1.ownsRow w.heap.size 5 1 v1 N (B8 (numL u)) := by rw [← HNe.out]; simpa using ho
  obtain ⟨g, cap, rfl, hg, hcap⟩ : ∃ g cap, v1 = .slice (some ⟨g, 0, none⟩) N cap ∧ w.heap.size ≤ g ∧ N ≤ cap := by
    rcases ho1.2 with ⟨_, h0⟩ | ⟨g, cap, cur, hv, hg, _, hc, _⟩
    · omega
    · exact ⟨g, cap, hv, hg, hc⟩
  have hgl := (ho1.lt g rfl).2
  clear Hput ho
  go_wp2_with fail
  go_loop [4, 5] (fun s4 s5 => ∃ (x : Nat) (d : List UInt8), NumAt u d x ∧ s4 = .int .i64 ((d.length + 1 : Nat) : Int) ∧ s5 = .int .u64 ((x / 128 : Nat) : Int)) (fun _ s5 => (intOf s5).toNat)
  case atStart => exact ⟨u, [], Hstart.out, rfl, by go_num⟩
  case round =>
    obtain ⟨x, d, hd, rfl, rfl⟩ := hrel
    have hxb := hd.bd
    have hdl := hd.len
    by_cases hx : 128 ≤ x
    · have Hst : Hid _ := hd.step hx
      go_wp2
      go_round
      case rel => exact ⟨x / 128, _, Hst.out, by simp, by go_num⟩
      case measure => simp [intOf]; omega
    · have Hend : Hid (numL u = d ++ [UInt8.ofNat x]) := hd.done (by omega)
      have hlen : d.length + 1 = N := by rw [← HNe.out, Hend.out]; simp
      have hlast : (B8 (numL u))[d.length]? = some (.int .u8 (x : Int)) := by rw [Hend.out]; simp [B8]; omega
      generalize hD : d.length = D at *
      subst hlen
      have hc1 : Hid _ := (ho1.cellAt D (by omega)).trans hlast
      have hs1 : Sees w1 (some ⟨g, 0, none⟩) (numL u) := by
        obtain ⟨ao, c, e, h, _⟩ := owns_sees ho1
        cases e
        exact h
      have e0 : (w1.alloc (.cells #[] 5)).ownsRow w1.heap.size 5 1 (.slice (some ⟨w1.heap.size, 0, none⟩) 0 0) 0 [] := World.ownsRow_made w1 #[] 0 (Nat.le_refl _) (by decide) rfl
      have s1 : Src Tryd.prog 1 23 (.slice (some ⟨g, 0, none⟩) (D + 1) cap) (D + 1) (B8 (numL u)) (w1.alloc (.cells #[] 5)) := by
        have := src_sees (P := Tryd.prog) Tryd.underlying23 (hs1.below ((Below.refl _ _).alloc (Nat.le_refl _) (.cells #[] 5)) (Nat.le_refl _)) (fun h => by cases h) cap
        rwa [HNe.out] at this
      clear hd hlast hD Hend Hstart
      have hg1 : Below w.heap.size w (w1.alloc (.cells #[] 5)) := hb1.alloc hb1.size _
      go_wp2_with (first
        | ((with_reducible (show wpList _ _ _ (Oper.mk _ (Op.call ⟨Callee.builtin Builtin.append, #[.tmp 21, .tmp 22], _⟩) _ _ _ _ :: _) _ _)); go_must (refine wpList_append_grew _ rfl (.tmp 21) (.tmp 22) 23 23 rfl w1.heap.size 5 i0 (.int .u8 0) 1 1 Tryd.underlying23 hi hz0 hz1 hz2 rfl _ 0 [] rfl e0 _ (D + 1) (B8 (numL u)) rfl s1 (by unfold maxLen; omega) (by omega) (by rw [World.size_alloc]; omega) ?_; intro v3 w3 ho3 hg3; have hw3 : w1.heap.size ≤ w3.heap.size := Nat.le_trans (by rw [World.size_alloc]; omega) hg3.rows.size))
        | ((with_reducible (show wpList _ _ _ (Oper.mk _ (Op.call ⟨Callee.builtin Builtin.append, #[.tmp 23, .tmp 24], _⟩) _ _ _ _ :: _) _ _)); go_must (refine wpList_append_grew _ rfl (.tmp 23) (.tmp 24) 23 23 rfl w1.heap.size 5 i0 (.int .u8 0) 1 1 Tryd.underlying23 hi hz0 hz1 hz2 rfl _ (0 + (D + 1)) _ rfl (ho3.alloc _) _ 2 (B8 [255, 1]) rfl (src_sees Tryd.underlying23 (sees_lit w3 [255, 1] (0, 0)) (fun h => by cases h) 2) (by unfold maxLen; omega) (by omega) (by rw [World.size_alloc]; omega) ?_; intro v5 w5 ho5 hg5)))
      have ho5' : w5.ownsRow w1.heap.size 5 1 v5 (D + 1 + 2) (B8 (numL u ++ [255, 1])) := by rw [B8_append]; simpa using ho5
      obtain ⟨ao5, cap5, rfl, hs5, hl5, _⟩ := owns_sees ho5'
      have g35 : Grew (w1.alloc (.cells #[] 5)) w5 _ _ := hg3.trans hg5.alloc
      have hb5 : Below w1.heap.size w1 w5 := ((Below.refl _ _).alloc (Nat.le_refl _) _).trans (g35.below (by rw [World.size_alloc]; omega) (fun k hk => by cases hk; exact Nat.le_refl _))
      have hb5w : Below w.heap.size w w5 := hb1.trans (hb5.mono hb1.size)
      clear ho5 ho5' hg5 hg3 ho3 hw3 g35 e0 s1 hg1
      refine (get_ok_at ao5 (numL u ++ [255, 1]) _ cap5 _ u (D + 1) [255, 1] hl5 (by simp) hs5 (by omega) Hback.out).mono ?_
      rintro e w6 ⟨rfl, hb6⟩
      have hb6' : Below w1.heap.size w1 w6 := hb5.trans (hb6.mono hb5.size)
      have hb6w : Below w.heap.size w w6 := hb1.trans (hb6'.mono hb1.size)
      have ho6 : w6.ownsRow w.heap.size 5 1 (.slice (some ⟨g, 0, none⟩) (D + 1) cap) (D + 1) (B8 (numL u)) := owns_heap ho1 (fun k hk => by cases hk; exact hb6'.block g hgl)
      have hs6 : Sees w6 (some ⟨g, 0, none⟩) ((numL u).take D) := by
        intro j hj
        rw [List.length_take] at hj
        have hs1' := hs1.below hb6' (Nat.le_refl _)
        obtain ⟨a, e, h⟩ := hs1' j (by omega)
        refine ⟨a, e, h.trans ?_⟩
        have : j < D := by omega
        simp [List.getD, this]
      have he6 := he.below hb6w (Nat.le_refl _)
      clear hb5 hb5w hb6 hs5 hl5
      go_wp2_with fail
      refine (get_no_at _ ((numL u).take D) D cap _ ue pv (by rw [List.length_take, HNe.out]; omega) hs6 (by omega) Hearly.out he6).mono ?_
      rintro e w7 ⟨rfl, hb7⟩
      have hgl6 := (ho6.lt g rfl).2
      have ho7 : w7.ownsRow w.heap.size 5 1 (.slice (some ⟨g, 0, none⟩) (D + 1) cap) (D + 1) (B8 (numL u)) := owns_heap ho6 (fun k hk => by cases hk; exact hb7.block g hgl6)
      have hb7w : Below w.heap.size w w7 := hb6w.trans (hb7.mono hb6w.size)
      have hc7 : w7.cell? ⟨g, D, none⟩ = some (.int .u8 x) := by
        rw [hb7.cell (p := ⟨g, D, none⟩) hgl6, hb6'.cell (p := ⟨g, D, none⟩) hgl]
        exact hc1.out
      have hf7 := ho7.frozenAt D
      have hor : bits BinOp.or IntKind.u8 (x : Int) 128 = (x : Int) + 128 := or128 x (by omega)
      have ho8 : (w7.setCell ⟨g, D, none⟩ (.int .u8 ((x : Int) + 128))).ownsRow w.heap.size 5 1 (.slice (some ⟨g, 0, none⟩) (D + 1) cap) (D + 1) (B8 ((numL u).set D (UInt8.ofNat (x + 128)))) := by
        have h := (ho7.stored D (.int .u8 ((x : Int) + 128))).1
        have e : (B8 (numL u)).set D (.int .u8 ((x : Int) + 128)) = B8 ((numL u).set D (UInt8.ofNat (x + 128))) := by
          unfold B8
          rw [List.map_set, byte_val (x + 128) (by omega)]
          simp
        rwa [e] at h
      have hb8w : Below w.heap.size w (w7.setCell ⟨g, D, none⟩ (.int .u8 ((x : Int) + 128))) := hb7w.setCell hg _
      have s9 : Src Tryd.prog 1 23 (.slice (some ⟨w7.heap.size, 0, none⟩) 1 1) 1 (B8 [0]) ((w7.setCell ⟨g, D, none⟩ (.int .u8 ((x : Int) + 128))).alloc (.cells #[.int .u8 0] 5)) := by
        have := src_one (w7.setCell ⟨g, D, none⟩ (.int .u8 ((x : Int) + 128))) 0 0 rfl
        rwa [size_setCell] at this
      clear ho7 hb7 ho6 hb6' hb6w hs6 he6 ho1 hs1 hc1
      go_wp2_with (at_builtin; go_must (refine wpList_append_grew _ rfl _ _ 23 23 rfl w.heap.size 5 i0 (.int .u8 0) 1 1 Tryd.underlying23 hi hz0 hz1 hz2 rfl _ (D + 1) _ rfl (ho8.alloc _) _ 1 (B8 [0]) rfl s9 (by unfold maxLen; omega) (by omega) (by rw [World.size_alloc]; have := hb8w.size; omega) ?_; intro v9 w9 ho9 hg9))
      have ho9' : w9.ownsRow w.heap.size 5 1 v9 (D + 1 + 1) (B8 ((numL u).set D (UInt8.ofNat (x + 128)) ++ [0])) := by rw [B8_append]; exact ho9
      obtain ⟨ao9, cap9, rfl, hs9, hl9, _⟩ := owns_sees ho9'
      have hb9w : Below w.heap.size w w9 := hb8w.trans (hg9.alloc.below hb8w.size (fun k hk => by cases hk; exact hg))
      have he9 := he.below hb9w (Nat.le_refl _)
      clear ho9 ho9' hg9 ho8 hb8w hc7 hf7 hor hb7w s9
      refine (get_no_at ao9 _ _ cap9 _ ue pv hl9 hs9 (by omega) (Hlong.out _ (by rw [ofNat_toNat8 _ (by omega)]; omega)) he9).mono ?_
      rintro e w10 ⟨rfl, hb10⟩
      have hb10w : Below w.heap.size w w10 := hb9w.trans (hb10.mono hb9w.size)
      have ht10 := ht.below hb10w (Nat.le_refl _)
      clear hb9w hb10 he9 hs9 hl9
      go_wp2_with fail
      refine (lives_any _ ht10).mono ?_
      rintro e w11 ⟨rfl, hb11⟩
      go_wp2_with fail
      go_ret
      exact ⟨rfl, hb10w.trans (hb11.mono hb10w.size)⟩
end Go.Proofs.YtakokhdnccaclabDoor.codecShort
