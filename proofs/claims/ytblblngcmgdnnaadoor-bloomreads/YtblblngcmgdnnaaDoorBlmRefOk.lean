/-
  CONTRACT: the document's Read of bytes that are a filter.
-/
import Derived.Test.YtblblngcmgdnnaaDoorBlmRead
import Derived.Test.YtblblngcmgdnnaaDoorBlmCanon
import Derived.Test.YtblblngcmgdnnaaDoorBlmRef
import Derived.Test.YtblblngcmgdnnaaDoorRefLend
namespace Go.Proofs.YtblblngcmgdnnaaDoor
open Go.RowKit

theorem toHidF {p : Prop} (h : p) : Hid p := h
set_option maxRecDepth 100000 in
set_option maxHeartbeats 2000000 in
theorem refRead_ok (b off k p q N : Nat) (l : List UInt8) (cap : Nat) (w : World) (hcap : N ≤ cap) (hbm : N ≤ 140737488354000) (hp0 : 0 < p) (hq0 : 0 < q) (hk1 : 1 ≤ k) (hk2 : k ≤ 16) (hl1 : 0 < l.length) (hl2 : l.length ≤ 400000) (hpq : p + q + l.length = N)
    (G1 : Calls Tryd.prog 23 #[.slice (some ⟨b, off, none⟩) N cap] w fun e w' => e = .returned (.tuple #[.int .u64 (k : Int), .int .i64 (p : Int)]) ∧ w' = w)
    (G2 : ∀ c, Calls Tryd.prog 23 #[.slice (some ⟨b, off + p, none⟩) (N - p) c] w fun e w' => e = .returned (.tuple #[.int .u64 (l.length : Int), .int .i64 (q : Int)]) ∧ w' = w)
    (hs : Sees w (some ⟨b, off + (p + q), none⟩) l) :
    Calls Tryd.prog 8 #[.slice (some ⟨b, off, none⟩) N cap] w fun e w' => ∃ m : FM, e = .returned (.tuple #[m.v, .int .i64 0]) ∧ RAt w' m k l ∧ w.heap.size ≤ m.d ∧ w.heap.size ≤ m.g ∧ Below w.heap.size w w' := by
  obtain ⟨i0, hi, hz0, hz1, hz2⟩ := info_parts info8
  have H1 := toHidF G1
  have H2 := toHidF G2
  clear G1 G2
  have hpb : ((p : Int) == 0) = false := by simp; omega
  have hqb : ((q : Int) == 0) = false := by simp; omega
  have hne : ((N : Int) - (p : Int) - (q : Int) != (l.length : Int)) = false := by simp; omega
  have hnl : N - (p + q) = l.length := by omega
  have hown : (w.alloc (.cells #[] 5)).ownsRow w.heap.size 5 1 (.slice (some ⟨w.heap.size, 0, none⟩) 0 0) 0 (B8 []) := by
    have h : Row (w.alloc (.cells #[] 5)) w.heap.size [] := heap_alloc_new w _
    exact h.owns (Nat.le_refl _) (by simp)
  have hs2 : Sees (w.alloc (.cells #[] 5)) (some ⟨b, off + (p + q), none⟩) l := hs.below ((Below.refl w.heap.size w).alloc (Nat.le_refl _) _) (Nat.le_refl _)
  go_enter Tryd.func8, Tryd.ntmps8
  go_wp2_with fail
  refine (Hid.out H1).mono ?_
  rintro e w1 ⟨rfl, rfl⟩
  go_wp2_with fail
  refine (Hid.out H2 _).mono ?_
  rintro e w2 ⟨rfl, rfl⟩
  go_wp2_with (at_builtin; go_must (refine wpList_append_grew _ rfl _ _ 22 22 rfl w2.heap.size 5 i0 (.int .u8 0) 1 1 Tryd.underlying22 hi hz0 hz1 hz2 rfl _ 0 _ rfl hown (.slice (some ⟨b, off + (p + q), none⟩) l.length (cap - (p + q))) l.length (B8 l) (by go_simp) (src_sees Tryd.underlying22 hs2 (fun e => by cases e) _) (by unfold maxLen; omega) (by omega) (by rw [World.size_alloc]; omega) ?_; intro v3 w3 ho3 hG3; rw [Nat.zero_add] at ho3; obtain ⟨g, cp, rest, rfl, hg, hblk, hcp⟩ := owns_fat (l := l) ho3 hl1))
  have hB3 : Below w2.heap.size w2 w3 := ((Below.refl w2.heap.size w2).alloc (Nat.le_refl _) _).trans (hG3.below (by rw [World.size_alloc]; omega) (fun g hg => (hown.lt g hg).1))
  go_ret2
  have hs3 := hB3.size
  have hgl := hblk.lt
  refine ⟨⟨w3.heap.size, g, cp, rest⟩, rfl, ⟨Blk.new w3 [.int .i64 (k : Int), .slice (some ⟨g, 0, none⟩) l.length cp] 53, hblk.alloc _, by show w3.heap.size ≠ g; omega, hl1, hl2, hk1, hk2⟩, by show w2.heap.size ≤ w3.heap.size; omega, by show w2.heap.size ≤ g; omega, hB3.alloc (by omega) _⟩
end Go.Proofs.YtblblngcmgdnnaaDoor
