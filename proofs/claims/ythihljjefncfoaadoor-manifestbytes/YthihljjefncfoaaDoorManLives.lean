/-
  CONTRACTS: the law's plain and same, the document's examples of layer 13 (lives).
-/
import Derived.Test.YthihljjefncfoaaDoorManLoad
import Derived.Test.YthihljjefncfoaaDoorManM1
namespace Go.Proofs.YthihljjefncfoaaDoor
open Go.RowKit Go.Maps

set_option maxRecDepth 100000 in
theorem plainM_any (ao : Option Addr) (cap : Nat) (m : Mf) (w : World) : Calls Tryd.prog 9 #[mval ao cap m] w fun e w' => e = .returned (mval ao cap m) ∧ Below w.heap.size w w' := by
  obtain ⟨ts, nx, fr⟩ := m
  unfold mval
  dsimp only
  have k0 := Blk.new w [.slice ao ts.length cap, .int .i64 nx, .int .i64 fr] 24
  have c0 := (k0.alloc (.cells #[.slice none 0 0, .int .i64 0, .int .i64 0] 32)).cell 0 rfl
  have c1 := (k0.alloc (.cells #[.slice none 0 0, .int .i64 0, .int .i64 0] 32)).cell 1 rfl
  have c2 := (k0.alloc (.cells #[.slice none 0 0, .int .i64 0, .int .i64 0] 32)).cell 2 rfl
  have hB : Hid (Below w.heap.size w ((w.alloc (.cells #[.slice ao ts.length cap, .int .i64 nx, .int .i64 fr] 24)).alloc (.cells #[.slice ao ts.length cap, .int .i64 nx, .int .i64 fr] 32))) := ((Below.refl _ _).alloc (Nat.le_refl _) _).alloc (by simp) _
  have hg : Hid (∀ o : Obj, ((w.alloc (.cells #[.slice ao ts.length cap, .int .i64 nx, .int .i64 fr] 24)).alloc o).heap[w.heap.size + 1]? = some o) := fun o => by
    have := heap_alloc_new (w.alloc (.cells #[.slice ao ts.length cap, .int .i64 nx, .int .i64 fr] 24)) o
    rwa [World.size_alloc] at this
  clear k0
  go_enter Tryd.func9, Tryd.ntmps9
  go_wp2_with fail
  refine bodyPost_ret (v := .agg #[.slice ao ts.length cap, .int .i64 nx, .int .i64 fr]) (results_cell_row Tryd.results9 _ _ (w.heap.size + 1) 32 _ _ _ rfl (hg.out _) Tryd.underlying32 rfl (by kernel_rfl)) rfl ?_
  exact ⟨rfl, hB.out⟩
/-- Are two manifests the very same? -/
def sameB (a b : Mf) : Bool := a.nx == b.nx && (a.fr == b.fr && decide (a.ts = b.ts))
theorem sameB_self (a : Mf) : sameB a a = true := by simp [sameB]
set_option maxRecDepth 100000 in
set_option maxHeartbeats 1000000 in
theorem sameM_any (ao bo : Option Addr) (ca cb : Nat) (a b : Mf) (w : World) (ha : ISees w ao a.ts) (hb : ISees w bo b.ts) (hl : a.ts.length ≤ 1000000) (hm : b.ts.length ≤ 1000000) :
    Calls Tryd.prog 15 #[mval ao ca a, mval bo cb b] w fun e w' => e = .returned (.bool (sameB a b)) ∧ Below w.heap.size w w' := by
  obtain ⟨ta, na, fa⟩ := a
  obtain ⟨tb, nb, fb⟩ := b
  unfold mval
  dsimp only at *
  have hB : Below w.heap.size w ((w.alloc (.cells #[.slice ao ta.length ca, .int .i64 na, .int .i64 fa] 24)).alloc (.cells #[.slice bo tb.length cb, .int .i64 nb, .int .i64 fb] 32)) := ((Below.refl _ _).alloc (Nat.le_refl _) _).alloc (by simp) _
  have k0 := (Blk.new w [.slice ao ta.length ca, .int .i64 na, .int .i64 fa] 24).alloc (.cells #[.slice bo tb.length cb, .int .i64 nb, .int .i64 fb] 32)
  have k1 := Blk.new (w.alloc (.cells #[.slice ao ta.length ca, .int .i64 na, .int .i64 fa] 24)) [.slice bo tb.length cb, .int .i64 nb, .int .i64 fb] 32
  rw [World.size_alloc] at k1
  have CI : Hid (Calls Tryd.prog 35 #[.slice ao ta.length ca, .slice bo tb.length cb] ((w.alloc (.cells #[.slice ao ta.length ca, .int .i64 na, .int .i64 fa] 24)).alloc (.cells #[.slice bo tb.length cb, .int .i64 nb, .int .i64 fb] 32)) fun e w' => e = .returned (.bool (decide (ta = tb))) ∧ Below w.heap.size w w') := (ints_any ao bo ta tb ca cb _ (ha.below hB (Nat.le_refl _)) (hb.below hB (Nat.le_refl _)) hl hm).mono fun e w' hh => ⟨hh.1, hB.trans (hh.2.mono hB.size)⟩
  have a0 := k0.cell 0 rfl
  have a1 := k0.cell 1 rfl
  have a2 := k0.cell 2 rfl
  have b0 := k1.cell 0 rfl
  have b1 := k1.cell 1 rfl
  have b2 := k1.cell 2 rfl
  have HB : Hid (Below w.heap.size w ((w.alloc (.cells #[.slice ao ta.length ca, .int .i64 na, .int .i64 fa] 24)).alloc (.cells #[.slice bo tb.length cb, .int .i64 nb, .int .i64 fb] 32))) := hB
  have HS : Hid (sameB ⟨ta, na, fa⟩ ⟨tb, nb, fb⟩ = (na == nb && (fa == fb && decide (ta = tb)))) := rfl
  clear ha hb hl hm hB k0 k1
  generalize decide (ta = tb) = q at *
  by_cases h1 : na = nb
  · by_cases h2 : fa = fb
    · subst h1 h2
      go_enter Tryd.func15, Tryd.ntmps15
      go_wp2_with fail
      go_fit CI.out
      rintro e w2 ⟨rfl, hB2⟩
      have HB2 : Hid (Below w.heap.size w w2) := hB2
      clear hB2
      go_wp2_with fail
      go_ret
      exact ⟨ret_bool (by rw [HS.out]; simp), HB2.out⟩
    · have h2' : (fa == fb) = false := by rw [beq_eq_false_iff_ne]; exact h2
      subst h1
      clear CI
      go_enter Tryd.func15, Tryd.ntmps15
      go_wp2_with fail
      go_ret
      exact ⟨ret_bool (by rw [HS.out, h2']; simp), HB.out⟩
  · have h1' : (na == nb) = false := by rw [beq_eq_false_iff_ne]; exact h1
    clear CI
    go_enter Tryd.func15, Tryd.ntmps15
    go_wp2_with fail
    go_ret
    exact ⟨ret_bool (by rw [HS.out, h1']; simp), HB.out⟩
theorem tab7 : tB (flM 7) = ⟨#[116, 97, 98, 45, 55]⟩ := by decide +kernel
theorem bad11 : goodM ⟨[1, 1], 3, 1⟩ = false := by decide
set_option maxRecDepth 100000 in
set_option maxHeartbeats 1000000 in
theorem lives13_any (w : World) (he : EnvM w) : Calls Tryd.prog 6 #[] w fun e w' => e = .returned (.bool true) ∧ Below w.heap.size w w' := by
  have CN : Hid (Calls Tryd.prog 21 #[.int .i64 1000] w fun x w' => ∃ d, x = .returned (.pointer (some ⟨d, 0, none⟩)) ∧ (∃ bm, DiskAt w' d bm (newS 1000)) ∧ w.grownBy w' none) := (new_ok 1000 (by omega) w).mono fun x w' ⟨d, bm, h1, h2, h3, _, _⟩ => ⟨d, h1, ⟨bm, h2⟩, h3⟩
  have CL : Hid (∀ u d, (∃ bm, DiskAt u d bm (newS 1000)) → w.grownBy u none → Calls Tryd.prog 22 #[.pointer (some ⟨d, 0, none⟩)] u fun e w' => e = .returned (.tuple #[.agg #[.slice none 0 0, .int .i64 1, .int .i64 1], .int .i64 0]) ∧ w.grownBy w' none) := fun u d ⟨bm, h1⟩ h2 => (load_none h1 rfl rfl).mono fun e w' hh => ⟨hh.1, h2.andThen hh.2 (fun j hj => by cases hj)⟩
  have CB : Hid (∀ u, w.grownBy u none → Calls Tryd.prog 7 #[.agg #[.slice (some ⟨u.heap.size + 1, 0, none⟩) 2 2, .int .i64 3, .int .i64 1]] ((u.alloc (.cells #[.slice none 0 0, .int .i64 1, .int .i64 1] 24)).alloc (.cells #[.int .i64 1, .int .i64 1] 3)) fun e w' => e = .returned (.tuple #[.slice none 0 0, .int .i64 2]) ∧ Below w.heap.size w w' ∧ Blk w' u.heap.size [.slice none 0 0, .int .i64 1, .int .i64 1] 24) := fun u hu => by
    have k0 := (Blk.new u [.slice none 0 0, .int .i64 1, .int .i64 1] 24).alloc (.cells #[.int .i64 1, .int .i64 1] 3)
    have k1 := Blk.new (u.alloc (.cells #[.slice none 0 0, .int .i64 1, .int .i64 1] 24)) [.int .i64 1, .int .i64 1] 3
    rw [World.size_alloc] at k1
    have hB : Below w.heap.size w u := (Below.refl _ _).grown hu (Nat.le_refl _) (fun k hk => by cases hk)
    have hB2 : Below w.heap.size w ((u.alloc (.cells #[.slice none 0 0, .int .i64 1, .int .i64 1] 24)).alloc (.cells #[.int .i64 1, .int .i64 1] 3)) := (hB.alloc hB.size _).alloc (by have := hB.size; simp; omega) _
    refine (bytesM_bad (some ⟨u.heap.size + 1, 0, none⟩) 2 ⟨[1, 1], 3, 1⟩ _ ⟨fun i x hx => ?_, fun e => (by cases e), Nat.le_refl _⟩ (by show 2 ≤ _; omega) (by omega) bad11).mono fun e w' hh => ⟨hh.1, hB2.trans (hh.2.mono hB2.size), k0.carry (hh.2.block _ k0.lt)⟩
    have hi : i < 2 := (List.getElem?_eq_some_iff.1 hx).1
    refine ⟨_, _, rfl, k1.cell (0 + i) ?_⟩
    rw [Nat.zero_add]
    rcases (show i = 0 ∨ i = 1 by omega) with rfl | rfl <;> (simp at hx; subst hx; rfl)
  have CF : Hid (∀ u, Below w.heap.size w u → Calls Tryd.prog 16 #[.int .i64 7] u fun x w' => x = .returned (.string ⟨#[116, 97, 98, 45, 55]⟩) ∧ Below w.heap.size w w') := fun u hu => by
    have := fileM_any 7 (by omega) (by omega) u (he.below hu (Nat.le_refl _))
    rw [tab7] at this
    exact this.mono fun e w' hh => ⟨hh.1, hu.trans (hh.2.mono hu.size)⟩
  clear he
  go_enter Tryd.func6, Tryd.ntmps6
  go_wp2_with fail
  go_fit CN.out
  rintro e w1 ⟨d, rfl, hD, hg1⟩
  have C1 := CL.out w1 d hD hg1
  clear hD hg1
  go_wp2_with fail
  go_fit C1
  rintro e w2 ⟨rfl, hg2⟩
  have C2 := CB.out w2 hg2
  clear hg2 C1
  go_wp2_with fail
  go_fit C2
  rintro e w3 ⟨rfl, hB3, hk3⟩
  have c0 := hk3.cell 0 rfl
  have c1 := hk3.cell 1 rfl
  have c2 := hk3.cell 2 rfl
  have C3 := CF.out w3 hB3
  clear C2 hk3 hB3
  go_wp2_with fail
  go_fit C3
  rintro e w4 ⟨rfl, hB4⟩
  have HB4 : Hid (Below w.heap.size w w4) := hB4
  clear hB4 C3
  go_wp2_with fail
  go_ret
  exact ⟨rfl, HB4.out⟩
end Go.Proofs.YthihljjefncfoaaDoor
