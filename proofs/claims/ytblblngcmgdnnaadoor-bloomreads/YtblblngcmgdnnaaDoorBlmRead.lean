/-
  CONTRACTS: slices.Clone at bytes; Read of what Bytes tells.
-/
import Derived.Test.YtblblngcmgdnnaaDoorBlmBytes
import Derived.Test.YtblblngcmgdnnaaDoorBlmNew
import Derived.Test.YtblblngcmgdnnaaDoorCodGot
import Derived.Test.YtblblngcmgdnnaaDoorShortPlain
import Derived.Test.YtblblngcmgdnnaaDoorMurSum
namespace Go.Proofs.YtblblngcmgdnnaaDoor
open Go.RowKit

set_option maxRecDepth 100000 in
set_option maxHeartbeats 400000 in
theorem clone_any (a : Addr) (l : List UInt8) (cap : Nat) (w : World) (hs : Sees w (some a) l) (hl : l.length ≤ 140737488354000) :
    Calls Tryd.prog 22 #[.slice (some a) l.length cap] w fun e w' => ∃ v, e = .returned v ∧ w'.ownsRow w.heap.size 5 1 v l.length (B8 l) ∧ Below w.heap.size w w' := by
  obtain ⟨i0, hi, hz0, hz1, hz2⟩ := info_parts info8
  have hown : (w.alloc (.cells #[] 5)).ownsRow w.heap.size 5 1 (.slice (some ⟨w.heap.size, 0, none⟩) 0 0) 0 (B8 []) := by
    have h : Row (w.alloc (.cells #[] 5)) w.heap.size [] := heap_alloc_new w _
    exact h.owns (Nat.le_refl _) (by simp)
  have hs2 : Sees (w.alloc (.cells #[] 5)) (some a) l := hs.below ((Below.refl w.heap.size w).alloc (Nat.le_refl _) _) (Nat.le_refl _)
  have NE : ∀ w, (binOp BinOp.eql 22 (.slice (some a) l.length cap) (.slice none 0 0)).run Tryd.prog w = .ok (.bool false) w := fun w => by kernel_rfl
  go_enter Tryd.func22, Tryd.ntmps22
  go_wp2_with (at_builtin; go_must (refine wpList_append_grew _ rfl _ _ 22 22 rfl w.heap.size 5 i0 (.int .u8 0) 1 1 Tryd.underlying22 hi hz0 hz1 hz2 rfl _ 0 _ rfl hown _ l.length (B8 l) rfl (src_sees Tryd.underlying22 hs2 (fun e => by cases e) _) (by unfold maxLen; omega) (by omega) (by rw [World.size_alloc]; omega) ?_; intro v3 w3 ho3 hG3))
  go_ret
  refine ⟨_, rfl, ?_, ?_⟩
  · rw [Nat.zero_add] at ho3
    exact ho3
  · exact ((Below.refl w.heap.size w).alloc (Nat.le_refl _) _).trans (hG3.below (by rw [World.size_alloc]; omega) (fun g hg => (hown.lt g hg).1))
theorem owns_fat {w : World} {base : Nat} {v : Value} {l : List UInt8} (h : w.ownsRow base 5 1 v l.length (B8 l)) (hl : 0 < l.length) : ∃ g cap rest, v = .slice (some ⟨g, 0, none⟩) l.length cap ∧ base ≤ g ∧ Blk w g (B8 l ++ rest) 5 ∧ l.length ≤ cap := by
  rcases h.2 with ⟨_, h2⟩ | ⟨g, cap, cur, rfl, hb, hg, hn, hm, hs, ht⟩
  · omega
  · refine ⟨g, cap, cur.toList.drop l.length, rfl, hb, ?_, hn⟩
    unfold Blk
    rw [hg, ← ht, Nat.mul_one, List.take_append_drop]
set_option maxRecDepth 100000 in
set_option maxHeartbeats 1000000 in
theorem read_core (b off k p q N : Nat) (B r l : List UInt8) (cap : Nat) (w : World) (hs : Sees w (some ⟨b, off, none⟩) B) (hN : B.length = N) (hcap : N ≤ cap) (hcm : cap ≤ 9223372036854775807) (hbm : N ≤ 140737488354000) (g1 : getN 0 0 B = some (k, r)) (g2 : getN 0 0 r = some (l.length, l))
    (hp : N - r.length = p) (hr : r.length < N) (hq : r.length - l.length = q) (hlr : l.length < r.length) (d1 : B.drop p = r) (d2 : r.drop q = l) (hk1 : 1 ≤ k) (hk2 : k ≤ 16) (hl1 : 0 < l.length) (hl2 : l.length ≤ 400000) :
    Calls Tryd.prog 7 #[.slice (some ⟨b, off, none⟩) N cap] w fun e w' => ∃ m : FM, e = .returned (.tuple #[m.v, .int .i64 0]) ∧ FAt w' m k l ∧ w.heap.size ≤ m.d ∧ w.heap.size ≤ m.g ∧ Below w.heap.size w w' := by
  have s1 : Sees w (some ⟨b, off + p, none⟩) r := by have := sees_drop hs p; rwa [d1] at this
  have s2 : Sees w (some ⟨b, off + (p + q), none⟩) l := by have := sees_drop s1 q; rwa [d2, Nat.add_assoc] at this
  have G1 : Hid (Calls Tryd.prog 21 #[.slice (some ⟨b, off, none⟩) N cap] w fun e w' => e = .returned (.tuple #[.int .u64 (k : Int), .int .i64 (p : Int)]) ∧ Below w.heap.size w w') := get_ok_at _ B _ cap w k _ _ hN hp hs (by omega) g1
  have G2 : Hid (∀ w1, Below w.heap.size w w1 → ∀ c, Calls Tryd.prog 21 #[.slice (some ⟨b, off + p, none⟩) (N - p) c] w1 fun e w' => e = .returned (.tuple #[.int .u64 (l.length : Int), .int .i64 (q : Int)]) ∧ Below w1.heap.size w1 w') := fun w1 hb c => get_ok_at _ r _ c w1 l.length q l (by omega) (by omega) (s1.below hb (Nat.le_refl _)) (by omega) g2
  have G3 : Hid (∀ w1, Below w.heap.size w w1 → ∀ c, Calls Tryd.prog 22 #[.slice (some ⟨b, off + (p + q), none⟩) l.length c] w1 fun e w' => ∃ v, e = .returned v ∧ w'.ownsRow w1.heap.size 5 1 v l.length (B8 l) ∧ Below w1.heap.size w1 w') := fun w1 hb c => clone_any ⟨b, off + (p + q), none⟩ l c w1 (s2.below hb (Nat.le_refl _)) (by omega)
  have hnl : N - (p + q) = l.length := by omega
  have hpq : p + q + l.length = N := by omega
  have hp0 : 0 < p := by omega
  have hq0 : 0 < q := by omega
  clear g1 g2 d1 d2 s1 s2 hs hlr hN hp hr hq
  go_enter Tryd.func7, Tryd.ntmps7
  go_wp2_with fail
  refine G1.out.mono ?_
  rintro e w1 ⟨rfl, hB1⟩
  go_wp2_with fail
  refine (G2.out _ hB1 _).mono ?_
  rintro e w2 ⟨rfl, hB2⟩
  have hB02 : Below w.heap.size w w2 := hB1.trans (hB2.mono hB1.size)
  go_wp2_with fail
  refine (G3.out _ hB02 _).mono ?_
  rintro e w3 ⟨v, rfl, ho, hB3⟩
  have hB03 : Below w.heap.size w w3 := hB02.trans (hB3.mono hB02.size)
  obtain ⟨g, cp, rest, rfl, hg, hblk, hcp⟩ := owns_fat ho hl1
  go_wp2_with fail
  go_ret2
  have hs2 := hB02.size
  have hs3 := hB3.size
  have hgl := hblk.lt
  refine ⟨⟨w3.heap.size, g, cp, rest⟩, rfl, ⟨Blk.new w3 [.int .i64 (k : Int), .slice (some ⟨g, 0, none⟩) l.length cp] 51, hblk.alloc _, by show w3.heap.size ≠ g; omega, hl1, hl2, hk1, hk2⟩, by show w.heap.size ≤ w3.heap.size; omega, by show w.heap.size ≤ g; omega, hB03.alloc (by omega) _⟩
theorem read_back (b off k : Nat) (l : List UInt8) (cap : Nat) (w : World) (hs : Sees w (some ⟨b, off, none⟩) (encF k l)) (hcap : (encF k l).length ≤ cap) (hcm : cap ≤ 9223372036854775807) (hk1 : 1 ≤ k) (hk2 : k ≤ 16) (hl1 : 0 < l.length) (hl2 : l.length ≤ 400000) :
    Calls Tryd.prog 7 #[.slice (some ⟨b, off, none⟩) (encF k l).length cap] w fun e w' => ∃ m : FM, e = .returned (.tuple #[m.v, .int .i64 0]) ∧ FAt w' m k l ∧ w.heap.size ≤ m.d ∧ w.heap.size ≤ m.g ∧ Below w.heap.size w w' := by
  have n1 := numL_length k
  have n2 := numL_length l.length
  have e0 : encF k l = numL k ++ (numL l.length ++ l) := by unfold encF; rw [List.append_assoc]
  have e1 : (encF k l).length = (numL k).length + (numL l.length ++ l).length := by rw [e0, List.length_append]
  have e2 : (numL l.length ++ l).length = (numL l.length).length + l.length := List.length_append
  refine read_core b off k (numL k).length (numL l.length).length _ (encF k l) (numL l.length ++ l) l cap w hs rfl hcap hcm (by omega) ?_ (get_back _ (by omega) _) (by omega) (by omega) (by omega) (by omega) ?_ List.drop_left hk1 hk2 hl1 hl2
  · rw [e0]; exact get_back k (by omega) _
  · rw [e0]; exact List.drop_left
end Go.Proofs.YtblblngcmgdnnaaDoor
