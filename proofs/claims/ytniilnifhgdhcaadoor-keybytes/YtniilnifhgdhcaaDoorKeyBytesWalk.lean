/-
  THE LAW KeyBytes: the walk.
-/
import Derived.Test.YtniilnifhgdhcaaDoorKeyRefBytes
import Derived.Test.YtniilnifhgdhcaaDoorKeyRefRead
namespace Go.Proofs.YtniilnifhgdhcaaDoor.keyBytes
open Go.RowKit

theorem same_true (la : List UInt8) (ao1 ao2 : Option Addr) (c1 c2 : Nat) (u : World) (h1 : Sees u ao1 la) (h2 : Sees u ao2 la) (n1 : ao1 = none → la.length = 0) (n2 : ao2 = none → la.length = 0) :
    Calls Tryd.prog 23 #[.slice ao1 la.length c1, .slice ao2 la.length c2] u fun e w' => e = .returned (.bool true) ∧ w' = u :=
  (same_any ao1 ao2 la la c1 c2 u h1 h2 n1 n2).mono fun _ _ ⟨e1, e2⟩ => ⟨by rw [e1]; simp, e2⟩

set_option maxRecDepth 100000 in
set_option maxHeartbeats 4000000 in
theorem walk (k : Kb) (ao : Option Addr) (l : List UInt8) (cap : Nat) (w : World) (fk : k.Fits) (hs : Sees w ao l) (hn : ao = none → l.length = 0) (hl : l.length ≤ 140737488351232) (hc : l.length ≤ cap) (he : Env w) :
    Calls Tryd.prog 5 #[k.v, .slice ao l.length cap] w fun e w' => e = .returned (.bool true) ∧ Below w.heap.size w w' := by
  obtain ⟨t1, p1, r1, c1⟩ := k
  obtain ⟨wa, hwa⟩ : ∃ wa, wa = w.alloc (.cells #[.string t1, .string p1, .int .i64 r1, .string c1] 23) := ⟨_, rfl⟩
  have ka : KAt wa w.heap.size ⟨t1, p1, r1, c1⟩ := by rw [hwa]; exact KAt.new w ⟨t1, p1, r1, c1⟩ _
  have hB : Below w.heap.size w wa := by rw [hwa]; exact (Below.refl _ _).alloc (Nat.le_refl _) _
  have L : Hid (∀ w' : World, Below w.heap.size w w' → Calls Tryd.prog 10 #[] w' fun e w'' => e = .returned (.bool true) ∧ Below w'.heap.size w' w'') := fun w' h => lives_any w' (he.below h)
  have g1 := fun w => great_any ⟨t1, p1, r1, c1⟩ w (by have := fk.t; omega) (by have := fk.p; omega) (by have := fk.c; omega)
  have ra := fk.r
  simp only [Kb.v] at g1 ra ⊢
  have hli : (l.length : Int) ≤ 140737488351232 := by omega
  have k0 := ka.t
  have k1 := ka.p
  have k2 := ka.r
  have k3 := ka.c
  have KA : Hid (KAt wa w.heap.size ⟨t1, p1, r1, c1⟩) := ka
  have HW : Hid (Below w.heap.size w wa) := hB
  have HS : Hid (Sees w ao l) := hs
  have HN : Hid (ao = none → l.length = 0) := hn
  clear ka hB he fk hs hn
  by_cases h1 : 5000 < t1.size + p1.size + c1.size
  · have G1 : Hid (∀ w : World, Calls Tryd.prog 9 #[.agg #[.string t1, .string p1, .int .i64 r1, .string c1]] w fun e w' => e = .returned (.bool true) ∧ Below w.heap.size w w') := fun w => (decide_eq_true h1) ▸ g1 w
    clear g1 h1
    go_enter Tryd.func5, Tryd.ntmps5
    go_wp2_with fail
    rw [← hwa]
    clear hwa
    refine (G1.out _).mono ?_
    rintro e w1 ⟨rfl, hb1⟩
    have hb1' : Below w.heap.size w w1 := HW.out.trans (hb1.mono HW.out.size)
    clear k0 k1 k2 k3 hb1
    go_wp2_with fail
    refine (L.out w1 hb1').mono ?_
    rintro e w2 ⟨rfl, hb2⟩
    go_wp2_with fail
    go_ret
    exact ⟨rfl, hb1'.trans (hb2.mono hb1'.size)⟩
  have G1 : Hid (∀ w : World, Calls Tryd.prog 9 #[.agg #[.string t1, .string p1, .int .i64 r1, .string c1]] w fun e w' => e = .returned (.bool false) ∧ Below w.heap.size w w') := fun w => (decide_eq_false h1) ▸ g1 w
  by_cases h2 : 5000 < l.length
  · have d2 : decide (5000 < (l.length : Int)) = true := decide_eq_true (by omega)
    clear g1 h1 h2
    go_enter Tryd.func5, Tryd.ntmps5
    go_wp2_with fail
    rw [← hwa]
    clear hwa
    refine (G1.out _).mono ?_
    rintro e w1 ⟨rfl, hb1⟩
    have hb1' : Below w.heap.size w w1 := HW.out.trans (hb1.mono HW.out.size)
    clear k0 k1 k2 k3 hb1
    go_wp2_with fail
    refine (L.out w1 hb1').mono ?_
    rintro e w2 ⟨rfl, hb2⟩
    go_wp2_with fail
    go_ret
    exact ⟨rfl, hb1'.trans (hb2.mono hb1'.size)⟩
  have d2 : decide (5000 < (l.length : Int)) = false := decide_eq_false (by omega)
  have hok : Kb.Ok ⟨t1, p1, r1, c1⟩ := ⟨by show t1.size ≤ 5000; omega, by show p1.size ≤ 5000; omega, by show c1.size ≤ 5000; omega, ra⟩
  obtain ⟨la, hla⟩ : ∃ la, la = encK (Kb.ky ⟨t1, p1, r1, c1⟩) := ⟨_, rfl⟩
  have B1 : Hid (∀ w : World, Calls Tryd.prog 24 #[.agg #[.string t1, .string p1, .int .i64 r1, .string c1]] w fun e w' => ∃ v, e = .returned v ∧ Aw w w' v la) := fun w => hla ▸ bytes_any ⟨t1, p1, r1, c1⟩ w hok
  have B2 : Hid (∀ w : World, Calls Tryd.prog 25 #[.agg #[.string t1, .string p1, .int .i64 r1, .string c1]] w fun e w' => ∃ v, e = .returned v ∧ Aw w w' v la) := fun w => hla ▸ refBytes_any ⟨t1, p1, r1, c1⟩ w hok
  obtain ⟨kx, okb, hkx⟩ : ∃ kx okb, rdRes l = (kx, okb) := ⟨_, _, rfl⟩
  obtain ⟨tx, px, rx, cx⟩ := kx
  have RD1 : Hid (∀ w' : World, Below w.heap.size w w' → Calls Tryd.prog 21 #[.slice ao l.length cap] w' fun e w'' => e = .returned (.tuple #[.agg #[.string tx, .string px, .int .i64 rx, .string cx], .bool okb]) ∧ Below w'.heap.size w' w'') := fun w' h => by
    have := read_any ao l cap w' (HS.out.below h (Nat.le_refl _)) HN.out hc (by omega)
    rw [hkx] at this; exact this
  have RD2 : Hid (∀ w' : World, Below w.heap.size w w' → Calls Tryd.prog 22 #[.slice ao l.length cap] w' fun e w'' => e = .returned (.tuple #[.agg #[.string tx, .string px, .int .i64 rx, .string cx], .bool okb]) ∧ Below w'.heap.size w' w'') := fun w' h => by
    have := refRead_any ao l cap w' (HS.out.below h (Nat.le_refl _)) HN.out hc (by omega)
    rw [hkx] at this; exact this
  clear g1 h1 h2 ra hok hla hkx hc HS HN hl
  go_enter Tryd.func5, Tryd.ntmps5
  go_wp2_with fail
  rw [← hwa]
  clear hwa
  refine (G1.out _).mono ?_
  rintro e w1 ⟨rfl, hb1⟩
  have ka1 := KA.out.below hb1 KA.out.lt
  have hw1 : Below w.heap.size w w1 := HW.out.trans (hb1.mono HW.out.size)
  have KA1 : Hid (KAt w1 w.heap.size ⟨t1, p1, r1, c1⟩) := ka1
  clear k0 k1 k2 k3 hb1 ka1 KA HW G1
  go_wp2_with fail
  refine (RD1.out w1 hw1).mono ?_
  rintro e w2 ⟨rfl, hb2⟩
  obtain ⟨W2, hW2⟩ : ∃ W2, W2 = w2.alloc (.cells #[.string tx, .string px, .int .i64 rx, .string cx] 23) := ⟨_, rfl⟩
  have hb2' : Below w1.heap.size w1 W2 := by rw [hW2]; exact hb2.alloc hb2.size _
  have ka2 := KA1.out.below hb2' KA1.out.lt
  have kx2 : KAt W2 w2.heap.size ⟨tx, px, rx, cx⟩ := by rw [hW2]; exact KAt.new w2 ⟨tx, px, rx, cx⟩ _
  have hw2 : Below w.heap.size w W2 := hw1.trans (hb2'.mono hw1.size)
  have HW2 : Hid (W2 = w2.alloc (.cells #[.string tx, .string px, .int .i64 rx, .string cx] 23)) := hW2
  clear hW2 hb2 hb2' KA1 hw1
  go_wp2_with fail
  rw [← HW2.out]
  clear HW2
  refine (RD2.out W2 hw2).mono ?_
  rintro e w3 ⟨rfl, hb3⟩
  obtain ⟨W3, hW3⟩ : ∃ W3, W3 = w3.alloc (.cells #[.string tx, .string px, .int .i64 rx, .string cx] 23) := ⟨_, rfl⟩
  have hb3' : Below W2.heap.size W2 W3 := by rw [hW3]; exact hb3.alloc hb3.size _
  have ka3 := ka2.below hb3' ka2.lt
  have kx3 := kx2.below hb3' kx2.lt
  have ky3 : KAt W3 w3.heap.size ⟨tx, px, rx, cx⟩ := by rw [hW3]; exact KAt.new w3 ⟨tx, px, rx, cx⟩ _
  have hw3 : Below w.heap.size w W3 := hw2.trans (hb3'.mono hw2.size)
  have HW3 : Hid (W3 = w3.alloc (.cells #[.string tx, .string px, .int .i64 rx, .string cx] 23)) := hW3
  clear hW3 hb3 hb3' ka2 kx2 hw2 RD1 RD2
  go_wp2_with fail
  rw [← HW3.out]
  clear HW3
  have HF : Hid (∀ u : World, Below W3.heap.size W3 u → (KAt u w.heap.size ⟨t1, p1, r1, c1⟩ ∧ KAt u w2.heap.size ⟨tx, px, rx, cx⟩ ∧ KAt u w3.heap.size ⟨tx, px, rx, cx⟩) ∧ Below w.heap.size w u) := fun u hu => ⟨⟨ka3.below hu ka3.lt, kx3.below hu kx3.lt, ky3.below hu ky3.lt⟩, hw3.trans (hu.mono hw3.size)⟩
  have x0 := ka3.t
  have x1 := ka3.p
  have x2 := ka3.r
  have x3 := ka3.c
  have HD0 : Hid (Below W3.heap.size W3 W3.drew) := (Below.refl _ _).drew
  clear ka3 kx3 ky3 hw3
  go_region_law (first
    | (go_simp; go_at_call 24; refine (B1.out _).mono ?_; rintro e u1 ⟨v1, rfl, A1⟩; obtain ⟨ao1, cap1, rfl, hs1, -, hn1⟩ := owns_sees A1.own; have hu1 := HD0.out.trans A1.bel; have kk1 := (HF.out u1 hu1).1.1; have y0 := kk1.t; have y1 := kk1.p; have y2 := kk1.r; have y3 := kk1.c)
    | (go_simp; go_at_call 25; refine (B2.out _).mono ?_; rintro e u2 ⟨v2, rfl, A2⟩; obtain ⟨ao2, cap2, rfl, hs2, -, hn2⟩ := owns_sees A2.own; have hu2 := hu1.trans (A2.bel.mono hu1.size); have S2 := same_true la ao1 ao2 cap1 cap2 u2 (hs1.below A2.bel (Nat.le_refl _)) hs2 (fun h => (hn1 h).1) (fun h => (hn2 h).1); have kf := HF.out u2 hu2; have q0 := kf.1.2.1.t; have q1 := kf.1.2.1.p; have q2 := kf.1.2.1.r; have q3 := kf.1.2.1.c; have m0 := kf.1.2.2.t; have m1 := kf.1.2.2.p; have m2 := kf.1.2.2.r; have m3 := kf.1.2.2.c)
    | (go_simp; go_at_call 23; refine S2.mono ?_; rintro e u3 ⟨rfl, rfl⟩)
    | (go_simp; go_at_call 10; refine (L.out _ kf.2).mono ?_; rintro e u4 ⟨rfl, hb9⟩))
  all_goals
    go_wp2_with fail
    go_ret
    exact ⟨rfl, kf.2.trans (hb9.mono kf.2.size)⟩
end Go.Proofs.YtniilnifhgdhcaaDoor.keyBytes
