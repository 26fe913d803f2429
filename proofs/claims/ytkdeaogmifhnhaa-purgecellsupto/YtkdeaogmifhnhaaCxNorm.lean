/-
  CONTRACT: cells by keys, each once (Norm).
-/
import Derived.Test.YtkdeaogmifhnhaaCxRuns
import Derived.Test.YtkdeaogmifhnhaaSrtStable
import Derived.Test.YtkdeaogmifhnhaaSrtClone
namespace Go.Proofs.Ytkdeaogmifhnhaa
open Go.RowKit

theorem stableNone_any (v : Value) (w : World) :
    Calls Try.prog 46 #[v, .int .i64 0, .func (.func 34) #[] #[]] w fun e w' => e = .returned (.tuple #[]) ∧ w' = w := by
  have C : Hid (∀ w : World, Calls Try.prog 55 #[v, .int .i64 0, .int .i64 0, .func (.func 34) #[] #[]] w fun e w' => e = .returned (.tuple #[]) ∧ w' = w) := fun w => insertNone_any v _ 0 0 w (by omega) (by omega)
  go_enter Try.func46, Try.ntmps46
  go_wp2_with fail
  go_loop [7, 8] (fun s7 s8 => s7 = .int .i64 0 ∧ s8 = .int .i64 20) (fun _ _ => 0)
  case atStart => exact ⟨rfl, rfl⟩
  case round =>
    obtain ⟨rfl, rfl⟩ := hrel
    go_wp2_with fail
    refine (C.out _).mono ?_
    rintro e w1 ⟨rfl, rfl⟩
    go_wp2_with fail
    go_loop [6] (fun s6 => s6 = .int .i64 20) (fun _ => 0)
    case atStart => rfl
    case round =>
      subst hrel
      go_wp2_with fail
      go_end0
      exact ⟨rfl, rfl⟩
set_option maxHeartbeats 1000000 in
theorem sortStable_any (B : Nat) (v : Value) (L : List Cx) (w : World) (ho : w.ownsRow B 35 10 v L.length (L.flatMap xs10)) (hL : L.length ≤ 1000000) :
    Calls Try.prog 33 #[v, .func (.func 34) #[] #[]] w fun e w' => e = .returned (.tuple #[]) ∧ (∃ S, St L S ∧ Up S ∧ w'.ownsRow B 35 10 v S.length (S.flatMap xs10)) ∧ w.grownBy w' v.ownBlock := by
  have hlz : (L.length : Int) ≤ 1000000 := by omega
  rcases ho.2 with ⟨rfl, hn⟩ | ⟨g, cap, cur, hv, _⟩
  · obtain rfl : L = [] := List.eq_nil_of_length_eq_zero hn
    have C : Hid (∀ w : World, Calls Try.prog 46 #[.slice none 0 0, .int .i64 0, .func (.func 34) #[] #[]] w fun e w' => e = .returned (.tuple #[]) ∧ w' = w) := fun w => stableNone_any _ w
    have HF : Hid (∃ S, St ([] : List Cx) S ∧ Up S ∧ w.ownsRow B 35 10 (.slice none 0 0) S.length (S.flatMap xs10)) := ⟨[], St.refl _, by simp [Up], ho⟩
    clear ho
    go_enter Try.func33, Try.ntmps33
    go_wp2_with fail
    refine (C.out _).mono ?_
    rintro e w1 ⟨rfl, rfl⟩
    go_wp2_with fail
    go_end0
    exact ⟨rfl, HF.out, ⟨rfl, rfl, rfl, Nat.le_refl _, fun _ _ _ => rfl⟩⟩
  · subst hv
    obtain ⟨N, hN⟩ : ∃ N, L.length = N := ⟨_, rfl⟩
    have ho' : Rx w B g cap L := ho
    rw [hN]
    have C : Hid (Calls Try.prog 46 #[.slice (some ⟨g, 0, none⟩) N cap, .int .i64 (N : Nat), .func (.func 34) #[] #[]] w fun e w' => e = .returned (.tuple #[]) ∧ (∃ L', St L L' ∧ Up L' ∧ Rx w' B g cap L') ∧ w.grownBy w' (some g)) := stable_any B g cap N L w ho' hN (by omega)
    have HN : Hid (L.length = N) := hN
    clear ho ho' hlz hN
    go_enter Try.func33, Try.ntmps33
    go_wp2_with fail
    refine C.out.mono ?_
    rintro e w1 ⟨rfl, ⟨S, s1, u1, r1⟩, g1⟩
    have HF : Hid (∃ S, St L S ∧ Up S ∧ w1.ownsRow B 35 10 (.slice (some ⟨g, 0, none⟩) N cap) S.length (S.flatMap xs10)) := ⟨S, s1, u1, by
      have r2 : w1.ownsRow B 35 10 (.slice (some ⟨g, 0, none⟩) S.length cap) S.length (S.flatMap xs10) := r1
      have e1 : S.length = N := s1.len.trans HN.out
      rw [e1] at r2 ⊢; exact r2⟩
    clear s1 u1 r1
    go_wp2_with fail
    go_end0
    exact ⟨rfl, HF.out, g1⟩
set_option maxRecDepth 100000 in
set_option maxHeartbeats 1000000 in
theorem norm_any (ao : Option Addr) (l : List Cx) (cap : Nat) (w : World) (hs : XSees w ao l) (hn : ao = none → l.length = 0) (hl : l.length ≤ 1000000) :
    Calls Try.prog 24 #[.slice ao l.length cap] w fun e w' => ∃ v, e = .returned v ∧ w'.ownsRow w.heap.size 35 10 v (nrm l).length ((nrm l).flatMap xs10) ∧ Below w.heap.size w w' := by
  have C : Hid (Calls Try.prog 32 #[.slice ao l.length cap] w fun e w' => ∃ v, e = .returned v ∧ w'.ownsRow w.heap.size 35 10 v l.length (l.flatMap xs10) ∧ Below w.heap.size w w') := cloneX_any ao l cap w hs hn hl
  have HL : Hid (l.length ≤ 1000000) := hl
  clear hs hn hl
  go_enter Try.func24, Try.ntmps24
  go_wp2_with fail
  refine C.out.mono ?_
  rintro e w1 ⟨v, rfl, ho1, hb1⟩
  have S1 : Hid (Calls Try.prog 33 #[v, .func (.func 34) #[] #[]] w1 fun e w' => e = .returned (.tuple #[]) ∧ (∃ S, St l S ∧ Up S ∧ w'.ownsRow w.heap.size 35 10 v S.length (S.flatMap xs10)) ∧ w1.grownBy w' v.ownBlock) := sortStable_any w.heap.size v l w1 ho1 HL.out
  have HO : Hid (∀ g, v.ownBlock = some g → w.heap.size ≤ g) := fun g hg => (ho1.lt g hg).1
  have HB1 : Hid (Below w.heap.size w w1) := hb1
  clear ho1 hb1 C
  go_wp2_with fail
  refine S1.out.mono ?_
  rintro e w2 ⟨rfl, ⟨S, s1, u1, r1⟩, g1⟩
  obtain ⟨ao2, cap2, hv, hx, -⟩ := owns_xsees r1
  have J1 : Hid (Calls Try.prog 35 #[.slice ao2 S.length cap2, .func (.func 34) #[] #[], .func (.func 36) #[] #[]] w2 fun e w' => ∃ v, e = .returned v ∧ w'.ownsRow w2.heap.size 35 10 v (jr S).length ((jr S).flatMap xs10) ∧ Below w2.heap.size w2 w') := joinRuns_any ao2 S cap2 w2 hx (by rw [s1.len]; exact HL.out)
  have HB2 : Hid (Below w.heap.size w w2) := HB1.out.trans ⟨g1.os, g1.tape, g1.output, g1.size, fun k hk => g1.block k (Nat.lt_of_lt_of_le hk HB1.out.size) (fun e => by have := HO.out k e.symm; omega)⟩
  have HE : Hid (jr S = nrm l) := jr_nrm s1 u1
  rw [hv]
  clear hv r1 s1 u1 g1 hx S1 HO HB1
  go_wp2_with fail
  refine J1.out.mono ?_
  rintro e w3 ⟨v3, rfl, o3, b3⟩
  rw [HE.out] at o3
  have HF : Hid (w3.ownsRow w.heap.size 35 10 v3 (nrm l).length ((nrm l).flatMap xs10) ∧ Below w.heap.size w w3) := by
    refine ⟨?_, HB2.out.trans (b3.mono HB2.out.size)⟩
    obtain ⟨h1, h2⟩ := o3
    refine ⟨h1, ?_⟩
    rcases h2 with h2 | ⟨g', cap', cur, h2, h3, h4⟩
    · exact .inl h2
    · exact .inr ⟨g', cap', cur, h2, Nat.le_trans HB2.out.size h3, h4⟩
  clear o3 b3
  go_wp2_with fail
  go_ret
  exact ⟨_, rfl, HF.out.1, HF.out.2⟩
end Go.Proofs.Ytkdeaogmifhnhaa
