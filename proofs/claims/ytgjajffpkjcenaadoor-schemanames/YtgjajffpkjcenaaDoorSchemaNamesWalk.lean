/-
  THE LAW SchemaNames: the walk.
-/
import Derived.Test.YtgjajffpkjcenaaDoorSchLives
namespace Go.Proofs.YtgjajffpkjcenaaDoor.schemaNames
open Go.RowKit

set_option maxRecDepth 100000 in
set_option maxHeartbeats 1000000 in
theorem walk (s : ByteArray) (w : World) (hs : s.size ≤ 140737488351232) (hS : SpT w) :
    Calls Tryd.prog 3 #[.string s] w fun e w' => e = .returned (.bool true) ∧ Below w.heap.size w w' := by
  have L : Hid (∀ wr, Below w.heap.size w wr → Calls Tryd.prog 8 #[] wr fun e w' => e = .returned (.bool true) ∧ Below w.heap.size w w') := fun wr hb => (lives17_any wr (hS.below hb hS.lt)).mono fun e w' h => ⟨h.1, hb.trans (h.2.mono hb.size)⟩
  have hm : s.size ≤ maxLen := by unfold maxLen; omega
  have N := name17_any s w hm hS
  have R : Hid (∀ wr, Calls Tryd.prog 10 #[.string s] wr fun e w' => e = .returned (.bool (nm17 s)) ∧ w' = wr) := fun wr => refName17_any s wr hm
  clear hS hm
  generalize nm17 s = b at *
  by_cases hbig : 10000 < s.size
  · have i1 : (10000 : Int) < (s.size : Int) := by omega
    clear N R hs hbig
    go_enter Tryd.func3, Tryd.ntmps3
    go_wp2_with (go_at_call 8; refine (L.out _ (Below.refl _ _)).mono ?_; rintro e w1 ⟨rfl, hb1⟩)
    go_ret
    exact ⟨rfl, hb1⟩
  · have i1 : ¬ (10000 : Int) < (s.size : Int) := by omega
    clear hs hbig
    have hbb : (b == b) = true := by simp
    go_enter Tryd.func3, Tryd.ntmps3
    go_wp2_with fail
    refine N.mono ?_
    rintro e w1 ⟨rfl, hb1⟩
    go_wp2_with fail
    refine (R.out w1).mono ?_
    rintro e w2 ⟨rfl, hw2⟩
    obtain rfl := hw2.symm
    clear hw2
    have L1 := L.out _ hb1
    go_wp2_with fail
    refine L1.mono ?_
    rintro e w3 ⟨rfl, hb3⟩
    go_wp2_with fail
    go_ret
    exact ⟨rfl, hb3⟩
end Go.Proofs.YtgjajffpkjcenaaDoor.schemaNames
