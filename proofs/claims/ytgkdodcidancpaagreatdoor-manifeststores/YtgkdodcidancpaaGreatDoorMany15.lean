/-
  SEVERAL TEXTS IN ONE: ManLoad, ManLives, DskLives, DskLive, DskSpoil, DskSpoilE.
-/
import Derived.Test.YtgkdodcidancpaaGreatDoorMany10
import Derived.Test.YtgkdodcidancpaaGreatDoorDskMore
import Derived.Test.YtgkdodcidancpaaGreatDoorMany14
import Derived.Test.YtgkdodcidancpaaGreatDoorDskAppend
namespace Go.Proofs.YtgkdodcidancpaaGreatDoor
open Go.RowKit Go.Maps

def begM : Mf := ⟨[], 1, 1⟩
def nmM : ByteArray := ⟨#[109, 97, 110, 105, 102, 101, 115, 116]⟩
theorem nmM_size : nmM.size ≤ maxLen := by show 8 ≤ maxLen; unfold maxLen; omega
theorem nmM_good : refuse true [nmM] = 0 := by decide
set_option maxRecDepth 100000 in
theorem beginM_any (w : World) : Calls Tryz.prog 39 #[] w fun e w' => e = .returned (.agg #[.slice none 0 0, .int .i64 1, .int .i64 1]) ∧ w.grownBy w' none := by
  have hg : Hid (∀ o : Obj, (w.alloc o).heap[w.heap.size]? = some o) := fun o => heap_alloc_new w o
  go_enter Tryz.func39, Tryz.ntmps39
  go_wp2_with fail
  refine bodyPost_ret (v := .agg #[.slice none 0 0, .int .i64 1, .int .i64 1]) (results_cell_row Tryz.results39 _ _ w.heap.size 36 _ _ _ rfl (hg.out _) Tryz.underlying36 rfl (by kernel_rfl)) rfl ?_
  exact ⟨rfl, World.grownBy_alloc _ _ _⟩
set_option maxRecDepth 100000 in
set_option maxHeartbeats 1000000 in
theorem load_none {w : World} {d bm : Nat} {S : St} (h : DiskAt w d bm S) (hon : S.on = true) (hf : find S.fs (nameOf nmM) = none) :
    Calls Tryz.prog 12 #[.pointer (some ⟨d, 0, none⟩)] w fun e w' => e = .returned (.tuple #[.agg #[.slice none 0 0, .int .i64 1, .int .i64 1], .int .i64 0]) ∧ w.grownBy w' none := by
  have k0 := Blk.new w [.slice none 0 0, .int .i64 0, .int .i64 0] 36
  have hG0 : w.grownBy (w.alloc (.cells #[.slice none 0 0, .int .i64 0, .int .i64 0] 36)) none := World.grownBy_alloc _ _ _
  have CR : Hid (Calls Tryz.prog 37 #[.pointer (some ⟨d, 0, none⟩), .string ⟨#[109, 97, 110, 105, 102, 101, 115, 116]⟩] (w.alloc (.cells #[.slice none 0 0, .int .i64 0, .int .i64 0] 36)) fun x w' => x = .returned (.tuple #[.slice none 0 0, .int .i64 4]) ∧ w.grownBy w' none ∧ Blk w' w.heap.size [.slice none 0 0, .int .i64 0, .int .i64 0] 36) :=
    (read_none (h.alloc _) nmM nmM_size (by rw [hon]; exact nmM_good) hf).mono fun x w' hh => ⟨hh.1, hG0.andThen hh.2 (fun j hj => by cases hj), k0.carry (hh.2.block _ k0.lt (by simp))⟩
  have CB : Hid (∀ u, w.grownBy u none → Blk u w.heap.size [.slice none 0 0, .int .i64 0, .int .i64 0] 36 → Calls Tryz.prog 39 #[] u fun e w' => e = .returned (.agg #[.slice none 0 0, .int .i64 1, .int .i64 1]) ∧ w.grownBy w' none ∧ Blk w' w.heap.size [.slice none 0 0, .int .i64 0, .int .i64 0] 36) := fun u hu hk => (beginM_any u).mono fun e w' hh => ⟨hh.1, hu.andThen hh.2 (fun j hj => by cases hj), hk.carry (hh.2.block _ hk.lt (by simp))⟩
  clear h hon hf k0 hG0
  go_enter Tryz.func12, Tryz.ntmps12
  go_wp2_with fail
  go_fit CR.out
  rintro e w2 ⟨rfl, hg2, hk2⟩
  have C2 := CB.out w2 hg2 hk2
  clear hg2 hk2
  go_wp2_with fail
  go_fit C2
  rintro e w5 ⟨rfl, hg5, hk5⟩
  have f0 := hk5.frozen 0
  have f1 := hk5.frozen 1
  have f2 := hk5.frozen 2
  have n0 := hk5.cell 0 rfl
  have n1 := hk5.cell 1 rfl
  have n2 := hk5.cell 2 rfl
  have HK : Hid (Blk (((w5.setCell ⟨w.heap.size, 0, none⟩ (.slice none 0 0)).setCell ⟨w.heap.size, 1, none⟩ (.int .i64 1)).setCell ⟨w.heap.size, 2, none⟩ (.int .i64 1)) w.heap.size [.slice none 0 0, .int .i64 1, .int .i64 1] 36) := ((hk5.setTo 0 _ _ rfl).setTo 1 _ _ rfl).setTo 2 _ _ rfl
  have HG : Hid (w.grownBy (((w5.setCell ⟨w.heap.size, 0, none⟩ (.slice none 0 0)).setCell ⟨w.heap.size, 1, none⟩ (.int .i64 1)).setCell ⟨w.heap.size, 2, none⟩ (.int .i64 1)) none) := grownBy_setNew (grownBy_setNew (grownBy_setNew hg5 (Nat.le_refl _)) (Nat.le_refl _)) (Nat.le_refl _)
  clear hk5 hg5 C2
  go_wp2_with fail
  refine bodyPost_ret (v := .tuple #[.agg #[.slice none 0 0, .int .i64 1, .int .i64 1], .int .i64 0]) (results_row_tmpM Tryz.results12 _ _ w.heap.size 36 _ _ _ _ rfl rfl HK.out Tryz.underlying36 rfl (by kernel_rfl)) rfl ?_
  exact ⟨rfl, HG.out⟩
end Go.Proofs.YtgkdodcidancpaaGreatDoor
namespace Go.Proofs.YtgkdodcidancpaaGreatDoor
open Go.RowKit Go.Maps

set_option maxRecDepth 100000 in
theorem plainM_any (ao : Option Addr) (cap : Nat) (m : Mf) (w : World) : Calls Tryz.prog 11 #[mval ao cap m] w fun e w' => e = .returned (mval ao cap m) ∧ Below w.heap.size w w' := by
  obtain ⟨ts, nx, fr⟩ := m
  unfold mval
  dsimp only
  have k0 := Blk.new w [.slice ao ts.length cap, .int .i64 nx, .int .i64 fr] 36
  have c0 := (k0.alloc (.cells #[.slice none 0 0, .int .i64 0, .int .i64 0] 39)).cell 0 rfl
  have c1 := (k0.alloc (.cells #[.slice none 0 0, .int .i64 0, .int .i64 0] 39)).cell 1 rfl
  have c2 := (k0.alloc (.cells #[.slice none 0 0, .int .i64 0, .int .i64 0] 39)).cell 2 rfl
  have hB : Hid (Below w.heap.size w ((w.alloc (.cells #[.slice ao ts.length cap, .int .i64 nx, .int .i64 fr] 36)).alloc (.cells #[.slice ao ts.length cap, .int .i64 nx, .int .i64 fr] 39))) := ((Below.refl _ _).alloc (Nat.le_refl _) _).alloc (by simp) _
  have hg : Hid (∀ o : Obj, ((w.alloc (.cells #[.slice ao ts.length cap, .int .i64 nx, .int .i64 fr] 36)).alloc o).heap[w.heap.size + 1]? = some o) := fun o => by
    have := heap_alloc_new (w.alloc (.cells #[.slice ao ts.length cap, .int .i64 nx, .int .i64 fr] 36)) o
    rwa [World.size_alloc] at this
  clear k0
  go_enter Tryz.func11, Tryz.ntmps11
  go_wp2_with fail
  refine bodyPost_ret (v := .agg #[.slice ao ts.length cap, .int .i64 nx, .int .i64 fr]) (results_cell_row Tryz.results11 _ _ (w.heap.size + 1) 39 _ _ _ rfl (hg.out _) Tryz.underlying39 rfl (by kernel_rfl)) rfl ?_
  exact ⟨rfl, hB.out⟩
/-- Are two manifests the very same? -/
def sameB (a b : Mf) : Bool := a.nx == b.nx && (a.fr == b.fr && decide (a.ts = b.ts))
theorem sameB_self (a : Mf) : sameB a a = true := by simp [sameB]
set_option maxRecDepth 100000 in
set_option maxHeartbeats 1000000 in
theorem sameM_any (ao bo : Option Addr) (ca cb : Nat) (a b : Mf) (w : World) (ha : ISees w ao a.ts) (hb : ISees w bo b.ts) (hl : a.ts.length ≤ 1000000) (hm : b.ts.length ≤ 1000000) :
    Calls Tryz.prog 14 #[mval ao ca a, mval bo cb b] w fun e w' => e = .returned (.bool (sameB a b)) ∧ Below w.heap.size w w' := by
  obtain ⟨ta, na, fa⟩ := a
  obtain ⟨tb, nb, fb⟩ := b
  unfold mval
  dsimp only at *
  have hB : Below w.heap.size w ((w.alloc (.cells #[.slice ao ta.length ca, .int .i64 na, .int .i64 fa] 36)).alloc (.cells #[.slice bo tb.length cb, .int .i64 nb, .int .i64 fb] 39)) := ((Below.refl _ _).alloc (Nat.le_refl _) _).alloc (by simp) _
  have k0 := (Blk.new w [.slice ao ta.length ca, .int .i64 na, .int .i64 fa] 36).alloc (.cells #[.slice bo tb.length cb, .int .i64 nb, .int .i64 fb] 39)
  have k1 := Blk.new (w.alloc (.cells #[.slice ao ta.length ca, .int .i64 na, .int .i64 fa] 36)) [.slice bo tb.length cb, .int .i64 nb, .int .i64 fb] 39
  rw [World.size_alloc] at k1
  have CI : Hid (Calls Tryz.prog 43 #[.slice ao ta.length ca, .slice bo tb.length cb] ((w.alloc (.cells #[.slice ao ta.length ca, .int .i64 na, .int .i64 fa] 36)).alloc (.cells #[.slice bo tb.length cb, .int .i64 nb, .int .i64 fb] 39)) fun e w' => e = .returned (.bool (decide (ta = tb))) ∧ Below w.heap.size w w') := (ints_any ao bo ta tb ca cb _ (ha.below hB (Nat.le_refl _)) (hb.below hB (Nat.le_refl _)) hl hm).mono fun e w' hh => ⟨hh.1, hB.trans (hh.2.mono hB.size)⟩
  have a0 := k0.cell 0 rfl
  have a1 := k0.cell 1 rfl
  have a2 := k0.cell 2 rfl
  have b0 := k1.cell 0 rfl
  have b1 := k1.cell 1 rfl
  have b2 := k1.cell 2 rfl
  have HB : Hid (Below w.heap.size w ((w.alloc (.cells #[.slice ao ta.length ca, .int .i64 na, .int .i64 fa] 36)).alloc (.cells #[.slice bo tb.length cb, .int .i64 nb, .int .i64 fb] 39))) := hB
  have HS : Hid (sameB ⟨ta, na, fa⟩ ⟨tb, nb, fb⟩ = (na == nb && (fa == fb && decide (ta = tb)))) := rfl
  clear ha hb hl hm hB k0 k1
  generalize decide (ta = tb) = q at *
  by_cases h1 : na = nb
  · by_cases h2 : fa = fb
    · subst h1 h2
      go_enter Tryz.func14, Tryz.ntmps14
      go_wp2_with fail
      go_fit CI.out
      rintro e w2 ⟨rfl, hB2⟩
      have HB2 : Hid (Below w.heap.size w w2) := hB2
      clear hB2
      go_wp2_with fail
      go_ret
      exact ⟨ret_bool (by rw [HS.out]; simp), HB2.out⟩
    · have h2' : (fa == fb) = false := by rw [beq_eq_false_iff_ne]; exact h2
      subst h1
      clear CI
      go_enter Tryz.func14, Tryz.ntmps14
      go_wp2_with fail
      go_ret
      exact ⟨ret_bool (by rw [HS.out, h2']; simp), HB.out⟩
  · have h1' : (na == nb) = false := by rw [beq_eq_false_iff_ne]; exact h1
    clear CI
    go_enter Tryz.func14, Tryz.ntmps14
    go_wp2_with fail
    go_ret
    exact ⟨ret_bool (by rw [HS.out, h1']; simp), HB.out⟩
theorem tab7 : tB (flM 7) = ⟨#[116, 97, 98, 45, 55]⟩ := by decide +kernel
theorem bad11 : goodM ⟨[1, 1], 3, 1⟩ = false := by decide
set_option maxRecDepth 100000 in
set_option maxHeartbeats 1000000 in
theorem lives13_any (w : World) (he : EnvM w) : Calls Tryz.prog 6 #[] w fun e w' => e = .returned (.bool true) ∧ Below w.heap.size w w' := by
  have CN : Hid (Calls Tryz.prog 4 #[.int .i64 1000] w fun x w' => ∃ d, x = .returned (.pointer (some ⟨d, 0, none⟩)) ∧ (∃ bm, DiskAt w' d bm (newS 1000)) ∧ w.grownBy w' none) := (new_ok 1000 (by omega) w).mono fun x w' ⟨d, bm, h1, h2, h3, _, _⟩ => ⟨d, h1, ⟨bm, h2⟩, h3⟩
  have CL : Hid (∀ u d, (∃ bm, DiskAt u d bm (newS 1000)) → w.grownBy u none → Calls Tryz.prog 12 #[.pointer (some ⟨d, 0, none⟩)] u fun e w' => e = .returned (.tuple #[.agg #[.slice none 0 0, .int .i64 1, .int .i64 1], .int .i64 0]) ∧ w.grownBy w' none) := fun u d ⟨bm, h1⟩ h2 => (load_none h1 rfl rfl).mono fun e w' hh => ⟨hh.1, h2.andThen hh.2 (fun j hj => by cases hj)⟩
  have CB : Hid (∀ u, w.grownBy u none → Calls Tryz.prog 19 #[.agg #[.slice (some ⟨u.heap.size + 1, 0, none⟩) 2 2, .int .i64 3, .int .i64 1]] ((u.alloc (.cells #[.slice none 0 0, .int .i64 1, .int .i64 1] 36)).alloc (.cells #[.int .i64 1, .int .i64 1] 3)) fun e w' => e = .returned (.tuple #[.slice none 0 0, .int .i64 2]) ∧ Below w.heap.size w w' ∧ Blk w' u.heap.size [.slice none 0 0, .int .i64 1, .int .i64 1] 36) := fun u hu => by
    have k0 := (Blk.new u [.slice none 0 0, .int .i64 1, .int .i64 1] 36).alloc (.cells #[.int .i64 1, .int .i64 1] 3)
    have k1 := Blk.new (u.alloc (.cells #[.slice none 0 0, .int .i64 1, .int .i64 1] 36)) [.int .i64 1, .int .i64 1] 3
    rw [World.size_alloc] at k1
    have hB : Below w.heap.size w u := (Below.refl _ _).grown hu (Nat.le_refl _) (fun k hk => by cases hk)
    have hB2 : Below w.heap.size w ((u.alloc (.cells #[.slice none 0 0, .int .i64 1, .int .i64 1] 36)).alloc (.cells #[.int .i64 1, .int .i64 1] 3)) := (hB.alloc hB.size _).alloc (by have := hB.size; simp; omega) _
    refine (bytesM_bad (some ⟨u.heap.size + 1, 0, none⟩) 2 ⟨[1, 1], 3, 1⟩ _ ⟨fun i x hx => ?_, fun e => (by cases e), Nat.le_refl _⟩ (by show 2 ≤ _; omega) (by omega) bad11).mono fun e w' hh => ⟨hh.1, hB2.trans (hh.2.mono hB2.size), k0.carry (hh.2.block _ k0.lt)⟩
    have hi : i < 2 := (List.getElem?_eq_some_iff.1 hx).1
    refine ⟨_, _, rfl, k1.cell (0 + i) ?_⟩
    rw [Nat.zero_add]
    rcases (show i = 0 ∨ i = 1 by omega) with rfl | rfl <;> (simp at hx; subst hx; rfl)
  have CF : Hid (∀ u, Below w.heap.size w u → Calls Tryz.prog 20 #[.int .i64 7] u fun x w' => x = .returned (.string ⟨#[116, 97, 98, 45, 55]⟩) ∧ Below w.heap.size w w') := fun u hu => by
    have := fileM_any 7 (by omega) (by omega) u (he.below hu (Nat.le_refl _))
    rw [tab7] at this
    exact this.mono fun e w' hh => ⟨hh.1, hu.trans (hh.2.mono hu.size)⟩
  clear he
  go_enter Tryz.func6, Tryz.ntmps6
  go_wp2_with fail
  go_fit CN.out
  rintro e w1 ⟨d, rfl, hD, hg1⟩
  have C1 := CL.out w1 d hD hg1
  clear hD hg1
  go_wp2_with fail
  go_fit C1
  rintro e w2 ⟨rfl, hg2⟩
  have C2 := CB.out w2 hg2
  clear hg2 C1
  go_wp2_with fail
  go_fit C2
  rintro e w3 ⟨rfl, hB3, hk3⟩
  have c0 := hk3.cell 0 rfl
  have c1 := hk3.cell 1 rfl
  have c2 := hk3.cell 2 rfl
  have C3 := CF.out w3 hB3
  clear C2 hk3 hB3
  go_wp2_with fail
  go_fit C3
  rintro e w4 ⟨rfl, hB4⟩
  have HB4 : Hid (Below w.heap.size w w4) := hB4
  clear hB4 C3
  go_wp2_with fail
  go_ret
  exact ⟨rfl, HB4.out⟩
end Go.Proofs.YtgkdodcidancpaaGreatDoor
namespace Go.Proofs.YtgkdodcidancpaaGreatDoor
open Go.RowKit Go.Maps

theorem made8D (m : Nat) : (madeCells (Value.int .u8 0).cells (m * 1)).toList = B8 (List.replicate m 0) := by
  have h : (Value.int .u8 0).cells = #[.int .u8 0] := rfl
  rw [h, Nat.mul_one]
  apply List.ext_getElem
  · simp [madeCells, B8]
  · intro i h1 h2
    simp [madeCells, B8, Nat.mod_one]
theorem make_bytes (n : Nat) (hn : n ≤ 1099511627776) : ∃ f : World → World, ∀ w, (Instr.makeSlice 58 (.int .i64 (n : Int)) (.int .i64 (n : Int))).run Tryz.prog w = .ok (.slice (some ⟨w.heap.size, 0, none⟩) n n) (f w) ∧ (f w).ownsRow w.heap.size 5 1 (.slice (some ⟨w.heap.size, 0, none⟩) n n) n (B8 (List.replicate n 0)) ∧ w.grownBy (f w) none := by
  obtain ⟨i0, hi, hz0, hz1, hz2⟩ := info_parts info8D
  have h : ∀ w : World, ∃ w', (Instr.makeSlice 58 (.int .i64 (n : Int)) (.int .i64 (n : Int))).run Tryz.prog w = .ok (.slice (some ⟨w.heap.size, 0, none⟩) n n) w' ∧ w'.ownsRow w.heap.size 5 1 (.slice (some ⟨w.heap.size, 0, none⟩) n n) n (B8 (List.replicate n 0)) ∧ w.grownBy w' none := fun w => by
    have := run_make_full (P := Tryz.prog) w w.heap.size 58 5 i0 (.int .u8 0) 1 Tryz.underlying58 hi hz0 hz1 .i64 .i64 n (by rw [hz2]; omega) (by unfold maxLen; omega) (Nat.le_refl _)
    rwa [made8D] at this
  exact ⟨fun w => Classical.choose (h w), fun w => Classical.choose_spec (h w)⟩

def nmA : ByteArray := ⟨#[97]⟩
/-- The example's disk: one file. -/
def Lv (w : World) (d : Nat) (on : Bool) (ops next : Nat) (bs : List UInt8) (wr : Nat) (pl : List Nat) (w1 : World) : Prop :=
  ∃ bm e, DiskAt w1 d bm ⟨[e], 10, on, ops, next, 0, 0⟩ ∧ e.nm = [97] ∧ e.bs = bs ∧ e.wr = wr ∧ e.pl = pl ∧ Moved w w1 [] (foot d bm [e])
def Nv (w : World) (d : Nat) (w1 : World) : Prop := ∃ bm, DiskAt w1 d bm (newS 10) ∧ Moved w w1 [] (foot d bm [])
theorem nmA_size : nmA.size ≤ maxLen := by show 1 ≤ maxLen; unfold maxLen; omega
theorem nmA_good : refuse true [nmA] = 0 := by decide
theorem find_one {e : Ent} (h : e.nm = [97]) : find [e] (nameOf nmA) = some e := by
  unfold find
  rw [List.find?_cons, h]
  rfl
theorem swap_one (e e' : Ent) : swap [e] e e' = [e'] := by simp [swap]
theorem moved_nil {w w1 w2 : World} {a b : List Nat} (h : Moved w w1 [] a) (k : Moved w1 w2 a b) : Moved w w2 [] b := h.trans k

theorem lv_new (w : World) : Calls Tryz.prog 4 #[.int .i64 10] w fun x w1 => ∃ d, x = .returned (.pointer (some ⟨d, 0, none⟩)) ∧ Nv w d w1 := by
  refine (new_ok 10 (by omega) w).mono ?_
  rintro x w1 ⟨d, bm, rfl, hD, hg, h1, h2⟩
  refine ⟨d, rfl, bm, hD, (Moved.of_grown hg).wider (by simp) (fun i hi => .inr (.inr ?_))⟩
  simp [foot, feet] at hi
  rcases hi with rfl | rfl <;> assumption
theorem lv_create {w w1 : World} {d : Nat} (h : Nv w d w1) : Calls Tryz.prog 27 #[.pointer (some ⟨d, 0, none⟩), .string nmA] w1 fun x w2 => x = .returned (.int .i64 0) ∧ Lv w d true 1 0 [] 0 [] w2 := by
  obtain ⟨bm, hD, hM⟩ := h
  refine (create_new hD nmA nmA_size nmA_good rfl (by simp [newS]) (by simp [newS, sumUsed]) (by simp [newS]) (by simp [newS]) (by simp [newS]) (by simp [newS])).mono ?_
  rintro x w2 ⟨rfl, b, hD2, hM2⟩
  exact ⟨rfl, bm, newE (nameOf nmA) b, hD2, rfl, rfl, rfl, rfl, moved_nil hM hM2⟩
theorem lv_append {w w1 : World} {d ops next wr : Nat} {bs : List UInt8} {pl : List Nat} (h : Lv w d true ops next bs wr pl w1) (n g : Nat) (hn : 0 < n) (f : World → World) (hf : (f w1).ownsRow w1.heap.size 5 1 (.slice (some ⟨w1.heap.size, 0, none⟩) n n) n (B8 (List.replicate n 0)) ∧ w1.grownBy (f w1) none)
    (ho : ops ≤ 100) (hnx : next ≤ 100) (hlen : bs.length + n ≤ 1000) (hpl : pl.length ≤ 100) (hwr : wr ≤ 1000) (hg : growN (bs.length + n) wr pl.length = g) (full : Bool) (hfull : decide ((10 : Int) - ((1 + (bs.length + 15) / 16 : Nat) : Int) < secI ((bs.length : Int) + (n : Int)) - secI (bs.length : Int)) = full) :
    Calls Tryz.prog 29 #[.pointer (some ⟨d, 0, none⟩), .string nmA, .slice (some ⟨w1.heap.size, 0, none⟩) n n] (f w1) fun x w2 => match full with | true => x = .returned (.int .i64 7) ∧ Lv w d true ops next bs wr pl w2 | false => x = .returned (.int .i64 0) ∧ Lv w d true (ops + 1) (next + g) (bs ++ List.replicate n 0) wr (pl ++ List.range' next g) w2 := by
  obtain ⟨bm, e, hD, e1, rfl, rfl, rfl, hM⟩ := h
  have hD2 : DiskAt (f w1) d bm ⟨[e], 10, true, ops, next, 0, 0⟩ := hD.carry fun i hi => hf.2.block i (hD.lt i hi) (by simp)
  have hM2 : Moved w (f w1) [] (foot d bm [e]) := moved_nil hM (Moved.none_of hf.2 _)
  obtain ⟨ao, cap, hv, hsee, hll, _⟩ := owns_sees hf.1
  cases hv
  have hsum : sumUsed [e] = 1 + (e.bs.length + 15) / 16 := by simp [sumUsed]
  have hgr : growS e (List.replicate n 0) = g := by
    unfold growS
    rw [if_neg (by intro h0; have := congrArg List.length h0; simp at this; omega), List.length_replicate, hg]
  have A := append_ok hD2 nmA nmA_size (some ⟨w1.heap.size, 0, none⟩) (List.replicate n 0) n hsee nmA_good (find_one e1) (fun a ha _ hi => by cases ha; exact absurd (hD.lt _ hi) (Nat.lt_irrefl _)) (by simp) (show ops ≤ _ by omega) (by simp) (by rw [List.length_replicate]; omega) (show next ≤ _ by omega) (by omega) (by omega) (by simp) (by rw [hsum]; omega) full (by rw [← hfull, List.length_replicate]; show decide ((10 : Int) - ((sumUsed [e] : Nat) : Int) < _) = _; rw [hsum])
  rw [List.length_replicate] at A
  refine A.mono ?_
  cases full
  · rintro x w2 ⟨rfl, e', a1, a2, a3, a4, a5, a6, a7⟩
    rw [swap_one] at a6 a7
    rw [hgr] at a5 a6
    exact ⟨rfl, bm, e', a6, a1.trans e1, a3, a4, a5, moved_nil hM2 a7⟩
  · rintro x w2 ⟨rfl, a6, a7⟩
    exact ⟨rfl, bm, e, a6, e1, rfl, rfl, rfl, moved_nil hM2 a7⟩
theorem lv_sync {w w1 : World} {d ops next wr : Nat} {bs : List UInt8} {pl : List Nat} (h : Lv w d true ops next bs wr pl w1) (ho : ops ≤ 100) : Calls Tryz.prog 31 #[.pointer (some ⟨d, 0, none⟩), .string nmA] w1 fun x w2 => x = .returned (.int .i64 0) ∧ Lv w d true (ops + 1) next bs bs.length [] w2 := by
  obtain ⟨bm, e, hD, e1, rfl, rfl, rfl, hM⟩ := h
  refine (sync_ok hD nmA nmA_size nmA_good (find_one e1) (by simp) (show ops ≤ _ by omega) (by simp)).mono ?_
  rintro x w2 ⟨rfl, a6, a7⟩
  rw [swap_one] at a6 a7
  exact ⟨rfl, bm, _, a6, e1, by simp [endE], rfl, rfl, moved_nil hM a7⟩
theorem lv_used {w w1 : World} {d ops next wr : Nat} {bs : List UInt8} {pl : List Nat} (h : Lv w d true ops next bs wr pl w1) (hb : bs.length ≤ 1000) : Calls Tryz.prog 96 #[.pointer (some ⟨d, 0, none⟩)] w1 fun x w2 => x = .returned (.int .i64 ((1 + (bs.length + 15) / 16 : Nat) : Int)) ∧ Lv w d true ops next bs wr pl w2 := by
  obtain ⟨bm, e, hD, e1, rfl, rfl, rfl, hM⟩ := h
  have hs : sumUsed [e] = 1 + (e.bs.length + 15) / 16 := by simp [sumUsed]
  refine (used_any hD rfl (by rw [hs]; omega)).mono ?_
  rintro x w2 ⟨rfl, hg⟩
  exact ⟨by rw [hs], bm, e, hD.carry (fun i hi => hg.block i (hD.lt i hi) (by simp)), e1, rfl, rfl, rfl, moved_nil hM (Moved.none_of hg _)⟩
theorem lv_read {w w1 : World} {d ops next wr : Nat} {bs : List UInt8} {pl : List Nat} (h : Lv w d true ops next bs wr pl w1) (hb : bs.length ≤ 1000) : Calls Tryz.prog 37 #[.pointer (some ⟨d, 0, none⟩), .string nmA] w1 fun x w2 => ∃ ao cap, x = .returned (.tuple #[.slice ao bs.length cap, .int .i64 0]) ∧ Lv w d true ops next bs wr pl w2 := by
  obtain ⟨bm, e, hD, e1, rfl, rfl, rfl, hM⟩ := h
  refine (read_ok hD nmA nmA_size nmA_good (find_one e1) (by omega)).mono ?_
  rintro x w2 ⟨v, rfl, ho, hg⟩
  obtain ⟨ao, cap, rfl, _⟩ := owns_form ho
  exact ⟨ao, cap, rfl, bm, e, hD.carry (fun i hi => hg.block i (hD.lt i hi) (by simp)), e1, rfl, rfl, rfl, moved_nil hM (Moved.none_of hg _)⟩
theorem lv_crash {w w1 : World} {d ops : Nat} {bs : List UInt8} (h : Lv w d true ops 5 bs 20 [2, 3, 4] w1) (hb : bs.length = 50) : Calls Tryz.prog 97 #[.pointer (some ⟨d, 0, none⟩), .int .i64 1] w1 fun x w2 => x = .returned (.tuple #[]) ∧ Lv w d false ops 5 (bs.take 32) 32 [] w2 := by
  obtain ⟨bm, e, hD, e1, rfl, e3, e4, hM⟩ := h
  have hs : sumUsed [e] = 1 + (e.bs.length + 15) / 16 := by simp [sumUsed]
  have hs2 : sumDirty [e] = 3 := by simp [sumDirty, e4]
  have hfine : St.Fine ⟨[e], 10, true, ops, 5, 0, 0⟩ := by
    refine ⟨fun x hx => ?_, by simp, by show sumUsed [e] ≤ _; rw [hs]; omega, by show sumDirty [e] ≤ _; rw [hs2]; omega⟩
    have : x = e := by simpa using hx
    subst this
    exact ⟨by omega, by omega, by rw [e4]; simp, by rw [e4]; decide, by rw [e4]; intro p hp; simp at hp; show p < 5; omega⟩
  have hln : lineEndN ⟨[e], 10, true, ops, 5, 0, 0⟩ (1 : Int).toNat = 3 := by
    have hl : linesOf [e] = [2, 3, 4] := by simp [linesOf, e4]
    have hm : ([2, 3, 4] : List Nat).mergeSort (fun a b => decide (a ≤ b)) = [2, 3, 4] := List.mergeSort_of_pairwise (by decide)
    unfold lineEndN
    simp only [hl, hm]
    rfl
  have hlost : lostAt e 3 = 32 := by
    have hk : keptN e 3 = 1 := by unfold keptN; rw [e4]; rfl
    unfold lostAt
    rw [hk, e3, hb]
    rfl
  refine (crash_on hD rfl hfine 1 (by omega) (by omega)).mono ?_
  rintro x w2 ⟨rfl, a6, a7⟩
  rw [hln] at a6
  refine ⟨rfl, bm, loseE e 3, a6, e1, by show e.bs.take (lostAt e 3) = _; rw [hlost], hlost, rfl, moved_nil hM (a7.sub fun i hi => ?_)⟩
  simp only [foot, feet, List.flatMap_cons, List.flatMap_nil, List.append_nil, List.mem_cons] at hi ⊢
  exact hi.imp id fun h => h.imp id lose_foot
end Go.Proofs.YtgkdodcidancpaaGreatDoor
namespace Go.Proofs.YtgkdodcidancpaaGreatDoor
open Go.RowKit Go.Maps

theorem Lv.below {w w1 : World} {d ops next wr : Nat} {on : Bool} {bs : List UInt8} {pl : List Nat} (h : Lv w d on ops next bs wr pl w1) : Below w.heap.size w w1 := by
  obtain ⟨bm, e, _, _, _, _, _, hM⟩ := h
  exact hM.below (Nat.le_refl _) (by simp)
def b20 : List UInt8 := List.replicate 20 0
def b50 : List UInt8 := b20 ++ List.replicate 30 0
def b32 : List UInt8 := b50.take 32
end Go.Proofs.YtgkdodcidancpaaGreatDoor
namespace Go.Proofs.YtgkdodcidancpaaGreatDoor
open Go.RowKit Go.Maps

/-- A byte with one bit turned. -/
def flipB (b : UInt8) (k : Nat) : UInt8 := b ^^^ UInt8.ofNat (2 ^ k)
/-- The file e with one bit turned: it lies in memory so. -/
theorem ent_flip {w : World} {e : Ent} (h : EntAt w e) {g cap : Nat} (hv : e.v1 = .slice (some ⟨g, 0, none⟩) e.bs.length cap) (i : Nat) (b : UInt8) (y : Int) (hy : (b.toNat : Int) = y) :
    EntAt (w.setCell ⟨g, i, none⟩ (.int .u8 y)).drew { e with bs := e.bs.set i b } ∧ Moved w (w.setCell ⟨g, i, none⟩ (.int .u8 y)).drew e.foot e.foot := by
  subst hy
  have hap := h.apart
  simp only [Ent.foot, List.nodup_cons, List.mem_append, not_or, List.nodup_append] at hap
  have hog : e.v1.ownBlock = some g := by rw [hv]; rfl
  have hk : ∀ j, j ≠ g → (w.setCell ⟨g, i, none⟩ (.int .u8 (b.toNat : Int))).drew.heap[j]? = w.heap[j]? := fun j hj => Below.heap_setCell _ _ _ _ hj
  refine ⟨⟨h.head.carry (hk _ fun e1 => hap.1.1 (mem_own.2 (e1 ▸ hog))), ?_, owns_carry h.row2 fun j hj => hk j fun e1 => hap.2.2.2 g (mem_own.2 hog) j (mem_own.2 hj) e1.symm, h.apart⟩, ((Moved.of_set g i _).drew).wider (fun j hj => .inl (by simp at hj; subst hj; simp only [Ent.foot, List.mem_cons, List.mem_append]; exact .inr (.inl (mem_own.2 hog)))) (fun j hj => .inl hj)⟩
  show World.ownsRow _ 0 5 1 e.v1 (e.bs.set i b).length (B8 (e.bs.set i b))
  have hr := h.row1
  rw [hv] at hr ⊢
  have := hr.stored i (.int .u8 (b.toNat : Int))
  rw [List.length_set]
  have hB : B8 (e.bs.set i b) = (B8 e.bs).set i (.int .u8 (b.toNat : Int)) := by simp [B8, List.map_set]
  rw [hB]
  exact this.1
theorem flip_text0 : ∀ n : Nat, n < 256 → bits BinOp.xor IntKind.u8 (n : Int) 1 = ((flipB (UInt8.ofNat n) 0).toNat : Int) := by decide +kernel
theorem flip_text1 : ∀ n : Nat, n < 256 → bits BinOp.xor IntKind.u8 (n : Int) 2 = ((flipB (UInt8.ofNat n) 1).toNat : Int) := by decide +kernel
theorem flip_text2 : ∀ n : Nat, n < 256 → bits BinOp.xor IntKind.u8 (n : Int) 4 = ((flipB (UInt8.ofNat n) 2).toNat : Int) := by decide +kernel
theorem flip_text3 : ∀ n : Nat, n < 256 → bits BinOp.xor IntKind.u8 (n : Int) 8 = ((flipB (UInt8.ofNat n) 3).toNat : Int) := by decide +kernel
theorem flip_text4 : ∀ n : Nat, n < 256 → bits BinOp.xor IntKind.u8 (n : Int) 16 = ((flipB (UInt8.ofNat n) 4).toNat : Int) := by decide +kernel
theorem flip_text5 : ∀ n : Nat, n < 256 → bits BinOp.xor IntKind.u8 (n : Int) 32 = ((flipB (UInt8.ofNat n) 5).toNat : Int) := by decide +kernel
theorem flip_text6 : ∀ n : Nat, n < 256 → bits BinOp.xor IntKind.u8 (n : Int) 64 = ((flipB (UInt8.ofNat n) 6).toNat : Int) := by decide +kernel
theorem flip_text7 : ∀ n : Nat, n < 256 → bits BinOp.xor IntKind.u8 (n : Int) 128 = ((flipB (UInt8.ofNat n) 7).toNat : Int) := by decide +kernel
end Go.Proofs.YtgkdodcidancpaaGreatDoor
namespace Go.Proofs.YtgkdodcidancpaaGreatDoor
open Go.RowKit Go.Maps

end Go.Proofs.YtgkdodcidancpaaGreatDoor
