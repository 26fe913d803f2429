/-
  SEVERAL TEXTS IN ONE: DskLives, DskLive, CodFrame, CodLives.
-/
import Derived.Test.YtoeoioigelknnaaGreatDskAppend
import Derived.Test.YtoeoioigelknnaaGreatMany7
import Derived.Laws.CopyOwn
import Derived.Deep.RegionWith
import Derived.Lib.SlBytesConst
namespace Go.Proofs.YtoeoioigelknnaaGreat
open Go.RowKit Go.Maps

theorem made8D (m : Nat) : (madeCells (Value.int .u8 0).cells (m * 1)).toList = B8 (List.replicate m 0) := by
  have h : (Value.int .u8 0).cells = #[.int .u8 0] := rfl
  rw [h, Nat.mul_one]
  apply List.ext_getElem
  · simp [madeCells, B8]
  · intro i h1 h2
    simp [madeCells, B8, Nat.mod_one]
theorem make_bytes (n : Nat) (hn : n ≤ 1099511627776) : ∃ f : World → World, ∀ w, (Instr.makeSlice 29 (.int .i64 (n : Int)) (.int .i64 (n : Int))).run Tryz.prog w = .ok (.slice (some ⟨w.heap.size, 0, none⟩) n n) (f w) ∧ (f w).ownsRow w.heap.size 5 1 (.slice (some ⟨w.heap.size, 0, none⟩) n n) n (B8 (List.replicate n 0)) ∧ w.grownBy (f w) none := by
  obtain ⟨i0, hi, hz0, hz1, hz2⟩ := info_parts info8D
  have h : ∀ w : World, ∃ w', (Instr.makeSlice 29 (.int .i64 (n : Int)) (.int .i64 (n : Int))).run Tryz.prog w = .ok (.slice (some ⟨w.heap.size, 0, none⟩) n n) w' ∧ w'.ownsRow w.heap.size 5 1 (.slice (some ⟨w.heap.size, 0, none⟩) n n) n (B8 (List.replicate n 0)) ∧ w.grownBy w' none := fun w => by
    have := run_make_full (P := Tryz.prog) w w.heap.size 29 5 i0 (.int .u8 0) 1 Tryz.underlying29 hi hz0 hz1 .i64 .i64 n (by rw [hz2]; omega) (by unfold maxLen; omega) (Nat.le_refl _)
    rwa [made8D] at this
  exact ⟨fun w => Classical.choose (h w), fun w => Classical.choose_spec (h w)⟩

def nmA : ByteArray := ⟨#[97]⟩
/-- The example's disk: one file. -/
def Lv (w : World) (d : Nat) (on : Bool) (ops next : Nat) (bs : List UInt8) (wr : Nat) (pl : List Nat) (w1 : World) : Prop :=
  ∃ bm e, DiskAt w1 d bm ⟨[e], 10, on, ops, next, 0, 0⟩ ∧ e.nm = [97] ∧ e.bs = bs ∧ e.wr = wr ∧ e.pl = pl ∧ Moved w w1 [] (foot d bm [e])
def Nv (w : World) (d : Nat) (w1 : World) : Prop := ∃ bm, DiskAt w1 d bm (newS 10) ∧ Moved w w1 [] (foot d bm [])
theorem nmA_size : nmA.size ≤ maxLen := by show 1 ≤ maxLen; unfold maxLen; omega
theorem nmA_good : refuse true [nmA] = 0 := by decide
theorem find_one {e : Ent} (h : e.nm = [97]) : find [e] (nameOf nmA) = some e := by
  unfold find
  rw [List.find?_cons, h]
  rfl
theorem swap_one (e e' : Ent) : swap [e] e e' = [e'] := by simp [swap]
theorem moved_nil {w w1 w2 : World} {a b : List Nat} (h : Moved w w1 [] a) (k : Moved w1 w2 a b) : Moved w w2 [] b := h.trans k

theorem lv_new (w : World) : Calls Tryz.prog 4 #[.int .i64 10] w fun x w1 => ∃ d, x = .returned (.pointer (some ⟨d, 0, none⟩)) ∧ Nv w d w1 := by
  refine (new_ok 10 (by omega) w).mono ?_
  rintro x w1 ⟨d, bm, rfl, hD, hg, h1, h2⟩
  refine ⟨d, rfl, bm, hD, (Moved.of_grown hg).wider (by simp) (fun i hi => .inr (.inr ?_))⟩
  simp [foot, feet] at hi
  rcases hi with rfl | rfl <;> assumption
theorem lv_create {w w1 : World} {d : Nat} (h : Nv w d w1) : Calls Tryz.prog 18 #[.pointer (some ⟨d, 0, none⟩), .string nmA] w1 fun x w2 => x = .returned (.int .i64 0) ∧ Lv w d true 1 0 [] 0 [] w2 := by
  obtain ⟨bm, hD, hM⟩ := h
  refine (create_new hD nmA nmA_size nmA_good rfl (by simp [newS]) (by simp [newS, sumUsed]) (by simp [newS]) (by simp [newS]) (by simp [newS]) (by simp [newS])).mono ?_
  rintro x w2 ⟨rfl, b, hD2, hM2⟩
  exact ⟨rfl, bm, newE (nameOf nmA) b, hD2, rfl, rfl, rfl, rfl, moved_nil hM hM2⟩
theorem lv_append {w w1 : World} {d ops next wr : Nat} {bs : List UInt8} {pl : List Nat} (h : Lv w d true ops next bs wr pl w1) (n g : Nat) (hn : 0 < n) (f : World → World) (hf : (f w1).ownsRow w1.heap.size 5 1 (.slice (some ⟨w1.heap.size, 0, none⟩) n n) n (B8 (List.replicate n 0)) ∧ w1.grownBy (f w1) none)
    (ho : ops ≤ 100) (hnx : next ≤ 100) (hlen : bs.length + n ≤ 1000) (hpl : pl.length ≤ 100) (hwr : wr ≤ 1000) (hg : growN (bs.length + n) wr pl.length = g) (full : Bool) (hfull : decide ((10 : Int) - ((1 + (bs.length + 15) / 16 : Nat) : Int) < secI ((bs.length : Int) + (n : Int)) - secI (bs.length : Int)) = full) :
    Calls Tryz.prog 19 #[.pointer (some ⟨d, 0, none⟩), .string nmA, .slice (some ⟨w1.heap.size, 0, none⟩) n n] (f w1) fun x w2 => match full with | true => x = .returned (.int .i64 7) ∧ Lv w d true ops next bs wr pl w2 | false => x = .returned (.int .i64 0) ∧ Lv w d true (ops + 1) (next + g) (bs ++ List.replicate n 0) wr (pl ++ List.range' next g) w2 := by
  obtain ⟨bm, e, hD, e1, rfl, rfl, rfl, hM⟩ := h
  have hD2 : DiskAt (f w1) d bm ⟨[e], 10, true, ops, next, 0, 0⟩ := hD.carry fun i hi => hf.2.block i (hD.lt i hi) (by simp)
  have hM2 : Moved w (f w1) [] (foot d bm [e]) := moved_nil hM (Moved.none_of hf.2 _)
  obtain ⟨ao, cap, hv, hsee, hll, _⟩ := owns_sees hf.1
  cases hv
  have hsum : sumUsed [e] = 1 + (e.bs.length + 15) / 16 := by simp [sumUsed]
  have hgr : growS e (List.replicate n 0) = g := by
    unfold growS
    rw [if_neg (by intro h0; have := congrArg List.length h0; simp at this; omega), List.length_replicate, hg]
  have A := append_ok hD2 nmA nmA_size (some ⟨w1.heap.size, 0, none⟩) (List.replicate n 0) n hsee nmA_good (find_one e1) (fun a ha _ hi => by cases ha; exact absurd (hD.lt _ hi) (Nat.lt_irrefl _)) (by simp) (show ops ≤ _ by omega) (by simp) (by rw [List.length_replicate]; omega) (show next ≤ _ by omega) (by omega) (by omega) (by simp) (by rw [hsum]; omega) full (by rw [← hfull, List.length_replicate]; show decide ((10 : Int) - ((sumUsed [e] : Nat) : Int) < _) = _; rw [hsum])
  rw [List.length_replicate] at A
  refine A.mono ?_
  cases full
  · rintro x w2 ⟨rfl, e', a1, a2, a3, a4, a5, a6, a7⟩
    rw [swap_one] at a6 a7
    rw [hgr] at a5 a6
    exact ⟨rfl, bm, e', a6, a1.trans e1, a3, a4, a5, moved_nil hM2 a7⟩
  · rintro x w2 ⟨rfl, a6, a7⟩
    exact ⟨rfl, bm, e, a6, e1, rfl, rfl, rfl, moved_nil hM2 a7⟩
theorem lv_sync {w w1 : World} {d ops next wr : Nat} {bs : List UInt8} {pl : List Nat} (h : Lv w d true ops next bs wr pl w1) (ho : ops ≤ 100) : Calls Tryz.prog 20 #[.pointer (some ⟨d, 0, none⟩), .string nmA] w1 fun x w2 => x = .returned (.int .i64 0) ∧ Lv w d true (ops + 1) next bs bs.length [] w2 := by
  obtain ⟨bm, e, hD, e1, rfl, rfl, rfl, hM⟩ := h
  refine (sync_ok hD nmA nmA_size nmA_good (find_one e1) (by simp) (show ops ≤ _ by omega) (by simp)).mono ?_
  rintro x w2 ⟨rfl, a6, a7⟩
  rw [swap_one] at a6 a7
  exact ⟨rfl, bm, _, a6, e1, by simp [endE], rfl, rfl, moved_nil hM a7⟩
theorem lv_dirty {w w1 : World} {d ops next wr : Nat} {bs : List UInt8} {pl : List Nat} (h : Lv w d true ops next bs wr pl w1) (hb : pl.length ≤ 100) : Calls Tryz.prog 14 #[.pointer (some ⟨d, 0, none⟩)] w1 fun x w2 => x = .returned (.int .i64 (pl.length : Int)) ∧ Lv w d true ops next bs wr pl w2 := by
  obtain ⟨bm, e, hD, e1, rfl, rfl, rfl, hM⟩ := h
  have hs : sumDirty [e] = e.pl.length := by simp [sumDirty]
  refine (dirty_any hD rfl (by rw [hs]; omega)).mono ?_
  rintro x w2 ⟨rfl, hg⟩
  exact ⟨by rw [hs], bm, e, hD.carry (fun i hi => hg.block i (hD.lt i hi) (by simp)), e1, rfl, rfl, rfl, moved_nil hM (Moved.none_of hg _)⟩
theorem lv_used {w w1 : World} {d ops next wr : Nat} {bs : List UInt8} {pl : List Nat} (h : Lv w d true ops next bs wr pl w1) (hb : bs.length ≤ 1000) : Calls Tryz.prog 12 #[.pointer (some ⟨d, 0, none⟩)] w1 fun x w2 => x = .returned (.int .i64 ((1 + (bs.length + 15) / 16 : Nat) : Int)) ∧ Lv w d true ops next bs wr pl w2 := by
  obtain ⟨bm, e, hD, e1, rfl, rfl, rfl, hM⟩ := h
  have hs : sumUsed [e] = 1 + (e.bs.length + 15) / 16 := by simp [sumUsed]
  refine (used_any hD rfl (by rw [hs]; omega)).mono ?_
  rintro x w2 ⟨rfl, hg⟩
  exact ⟨by rw [hs], bm, e, hD.carry (fun i hi => hg.block i (hD.lt i hi) (by simp)), e1, rfl, rfl, rfl, moved_nil hM (Moved.none_of hg _)⟩
theorem lv_start {w w1 : World} {d ops next wr : Nat} {on : Bool} {bs : List UInt8} {pl : List Nat} (h : Lv w d on ops next bs wr pl w1) : Calls Tryz.prog 22 #[.pointer (some ⟨d, 0, none⟩)] w1 fun x w2 => x = .returned (.tuple #[]) ∧ Lv w d true ops next bs wr pl w2 := by
  obtain ⟨bm, e, hD, e1, rfl, rfl, rfl, hM⟩ := h
  refine (start_any hD).mono ?_
  rintro x w2 ⟨rfl, a6, a7⟩
  exact ⟨rfl, bm, e, a6, e1, rfl, rfl, rfl, moved_nil hM (a7.wider (fun i hi => .inl (by simp at hi; simp [foot, hi])) (fun i hi => .inl hi))⟩
theorem lv_read {w w1 : World} {d ops next wr : Nat} {bs : List UInt8} {pl : List Nat} (h : Lv w d true ops next bs wr pl w1) (hb : bs.length ≤ 1000) : Calls Tryz.prog 23 #[.pointer (some ⟨d, 0, none⟩), .string nmA] w1 fun x w2 => ∃ ao cap, x = .returned (.tuple #[.slice ao bs.length cap, .int .i64 0]) ∧ Lv w d true ops next bs wr pl w2 := by
  obtain ⟨bm, e, hD, e1, rfl, rfl, rfl, hM⟩ := h
  refine (read_ok hD nmA nmA_size nmA_good (find_one e1) (by omega)).mono ?_
  rintro x w2 ⟨v, rfl, ho, hg⟩
  obtain ⟨ao, cap, rfl, _⟩ := owns_form ho
  exact ⟨ao, cap, rfl, bm, e, hD.carry (fun i hi => hg.block i (hD.lt i hi) (by simp)), e1, rfl, rfl, rfl, moved_nil hM (Moved.none_of hg _)⟩
theorem lv_crash {w w1 : World} {d ops : Nat} {bs : List UInt8} (h : Lv w d true ops 5 bs 20 [2, 3, 4] w1) (hb : bs.length = 50) : Calls Tryz.prog 21 #[.pointer (some ⟨d, 0, none⟩), .int .i64 1] w1 fun x w2 => x = .returned (.tuple #[]) ∧ Lv w d false ops 5 (bs.take 32) 32 [] w2 := by
  obtain ⟨bm, e, hD, e1, rfl, e3, e4, hM⟩ := h
  have hs : sumUsed [e] = 1 + (e.bs.length + 15) / 16 := by simp [sumUsed]
  have hs2 : sumDirty [e] = 3 := by simp [sumDirty, e4]
  have hfine : St.Fine ⟨[e], 10, true, ops, 5, 0, 0⟩ := by
    refine ⟨fun x hx => ?_, by simp, by show sumUsed [e] ≤ _; rw [hs]; omega, by show sumDirty [e] ≤ _; rw [hs2]; omega⟩
    have : x = e := by simpa using hx
    subst this
    exact ⟨by omega, by omega, by rw [e4]; simp, by rw [e4]; decide, by rw [e4]; intro p hp; simp at hp; show p < 5; omega⟩
  have hln : lineEndN ⟨[e], 10, true, ops, 5, 0, 0⟩ (1 : Int).toNat = 3 := by
    have hl : linesOf [e] = [2, 3, 4] := by simp [linesOf, e4]
    have hm : ([2, 3, 4] : List Nat).mergeSort (fun a b => decide (a ≤ b)) = [2, 3, 4] := List.mergeSort_of_pairwise (by decide)
    unfold lineEndN
    simp only [hl, hm]
    rfl
  have hlost : lostAt e 3 = 32 := by
    have hk : keptN e 3 = 1 := by unfold keptN; rw [e4]; rfl
    unfold lostAt
    rw [hk, e3, hb]
    rfl
  refine (crash_on hD rfl hfine 1 (by omega) (by omega)).mono ?_
  rintro x w2 ⟨rfl, a6, a7⟩
  rw [hln] at a6
  refine ⟨rfl, bm, loseE e 3, a6, e1, by show e.bs.take (lostAt e 3) = _; rw [hlost], hlost, rfl, moved_nil hM (a7.sub fun i hi => ?_)⟩
  simp only [foot, feet, List.flatMap_cons, List.flatMap_nil, List.append_nil, List.mem_cons] at hi ⊢
  exact hi.imp id fun h => h.imp id lose_foot
end Go.Proofs.YtoeoioigelknnaaGreat
namespace Go.Proofs.YtoeoioigelknnaaGreat
open Go.RowKit Go.Maps

theorem Lv.below {w w1 : World} {d ops next wr : Nat} {on : Bool} {bs : List UInt8} {pl : List Nat} (h : Lv w d on ops next bs wr pl w1) : Below w.heap.size w w1 := by
  obtain ⟨bm, e, _, _, _, _, _, hM⟩ := h
  exact hM.below (Nat.le_refl _) (by simp)
def b20 : List UInt8 := List.replicate 20 0
def b50 : List UInt8 := b20 ++ List.replicate 30 0
def b32 : List UInt8 := b50.take 32
set_option maxRecDepth 100000 in
set_option maxHeartbeats 2000000 in
theorem lives_any (w : World) : Calls Tryz.prog 7 #[] w fun x w' => x = .returned (.bool true) ∧ Below w.heap.size w w' := by
  obtain ⟨f20, h20⟩ := make_bytes 20 (by omega)
  obtain ⟨f30, h30⟩ := make_bytes 30 (by omega)
  obtain ⟨f200, h200⟩ := make_bytes 200 (by omega)
  have m20 : ∀ w, (Instr.makeSlice 29 (.int .i64 20) (.int .i64 20)).run Tryz.prog w = .ok (.slice (some ⟨w.heap.size, 0, none⟩) 20 20) (f20 w) := fun w => (h20 w).1
  have m30 : ∀ w, (Instr.makeSlice 29 (.int .i64 30) (.int .i64 30)).run Tryz.prog w = .ok (.slice (some ⟨w.heap.size, 0, none⟩) 30 30) (f30 w) := fun w => (h30 w).1
  have m200 : ∀ w, (Instr.makeSlice 29 (.int .i64 200) (.int .i64 200)).run Tryz.prog w = .ok (.slice (some ⟨w.heap.size, 0, none⟩) 200 200) (f200 w) := fun w => (h200 w).1
  have N : Hid (Calls Tryz.prog 4 #[.int .i64 10] w fun x w1 => ∃ d, x = .returned (.pointer (some ⟨d, 0, none⟩)) ∧ Nv w d w1) := lv_new w
  have C1 : Hid (∀ d w1, Nv w d w1 → Calls Tryz.prog 18 #[.pointer (some ⟨d, 0, none⟩), .string ⟨#[97]⟩] w1 fun x w2 => x = .returned (.int .i64 0) ∧ Lv w d true 1 0 [] 0 [] w2) := fun d w1 h => lv_create h
  have A20 : Hid (∀ d w1, Lv w d true 1 0 [] 0 [] w1 → Calls Tryz.prog 19 #[.pointer (some ⟨d, 0, none⟩), .string ⟨#[97]⟩, .slice (some ⟨w1.heap.size, 0, none⟩) 20 20] (f20 w1) fun x w2 => x = .returned (.int .i64 0) ∧ Lv w d true 2 2 b20 0 [0, 1] w2) := fun d w1 h => lv_append h 20 2 (by omega) f20 (h20 w1).2 (by omega) (by omega) (by simp) (by simp) (by omega) (by decide) false (by decide)
  have Sy : Hid (∀ d w1, Lv w d true 2 2 b20 0 [0, 1] w1 → Calls Tryz.prog 20 #[.pointer (some ⟨d, 0, none⟩), .string ⟨#[97]⟩] w1 fun x w2 => x = .returned (.int .i64 0) ∧ Lv w d true 3 2 b20 20 [] w2) := fun d w1 h => lv_sync h (by omega)
  have A30 : Hid (∀ d w1, Lv w d true 3 2 b20 20 [] w1 → Calls Tryz.prog 19 #[.pointer (some ⟨d, 0, none⟩), .string ⟨#[97]⟩, .slice (some ⟨w1.heap.size, 0, none⟩) 30 30] (f30 w1) fun x w2 => x = .returned (.int .i64 0) ∧ Lv w d true 4 5 b50 20 [2, 3, 4] w2) := fun d w1 h => lv_append h 30 3 (by omega) f30 (h30 w1).2 (by omega) (by omega) (by decide) (by simp) (by omega) (by decide) false (by decide)
  have Di : Hid (∀ d w1, Lv w d true 4 5 b50 20 [2, 3, 4] w1 → Calls Tryz.prog 14 #[.pointer (some ⟨d, 0, none⟩)] w1 fun x w2 => x = .returned (.int .i64 3) ∧ Lv w d true 4 5 b50 20 [2, 3, 4] w2) := fun d w1 h => lv_dirty h (by simp)
  have Cr : Hid (∀ d w1, Lv w d true 4 5 b50 20 [2, 3, 4] w1 → Calls Tryz.prog 21 #[.pointer (some ⟨d, 0, none⟩), .int .i64 1] w1 fun x w2 => x = .returned (.tuple #[]) ∧ Lv w d false 4 5 b32 32 [] w2) := fun d w1 h => lv_crash h (by decide)
  have St : Hid (∀ d w1, Lv w d false 4 5 b32 32 [] w1 → Calls Tryz.prog 22 #[.pointer (some ⟨d, 0, none⟩)] w1 fun x w2 => x = .returned (.tuple #[]) ∧ Lv w d true 4 5 b32 32 [] w2) := fun d w1 h => lv_start h
  have Re : Hid (∀ d w1, Lv w d true 4 5 b32 32 [] w1 → Calls Tryz.prog 23 #[.pointer (some ⟨d, 0, none⟩), .string ⟨#[97]⟩] w1 fun x w2 => ∃ ao cap, x = .returned (.tuple #[.slice ao 32 cap, .int .i64 0]) ∧ Lv w d true 4 5 b32 32 [] w2) := fun d w1 h => lv_read h (by decide)
  have Us : Hid (∀ d w1, Lv w d true 4 5 b32 32 [] w1 → Calls Tryz.prog 12 #[.pointer (some ⟨d, 0, none⟩)] w1 fun x w2 => x = .returned (.int .i64 3) ∧ Lv w d true 4 5 b32 32 [] w2) := fun d w1 h => lv_used h (by decide)
  have A200 : Hid (∀ d w1, Lv w d true 4 5 b32 32 [] w1 → Calls Tryz.prog 19 #[.pointer (some ⟨d, 0, none⟩), .string ⟨#[97]⟩, .slice (some ⟨w1.heap.size, 0, none⟩) 200 200] (f200 w1) fun x w2 => x = .returned (.int .i64 7) ∧ Lv w d true 4 5 b32 32 [] w2) := fun d w1 h => lv_append h 200 _ (by omega) f200 (h200 w1).2 (by omega) (by omega) (by decide) (by simp) (by omega) rfl true (by decide)
  have Se : Hid (∀ w, Calls Tryz.prog 24 #[.int .i64 17] w fun x' w' => x' = .returned (.int .i64 2) ∧ w' = w) := fun w => sectors_in 17 w ⟨by omega, by omega⟩
  clear h20 h30 h200
  go_enter Tryz.func7, Tryz.ntmps7
  go_wp2_with (first
    | (go_at_call 4; go_fit N.out; rintro x w1 ⟨d, rfl, l1⟩)
    | (go_at_call 18; go_fit (C1.out _ _ l1); rintro x w2 ⟨rfl, l2⟩)
    | (go_at_call 19; first | (go_fit (A20.out _ _ l2); rintro x w3 ⟨rfl, l3⟩) | (go_fit (A30.out _ _ l4); rintro x w5 ⟨rfl, l5⟩) | (go_fit (A200.out _ _ l10); rintro x w11 ⟨rfl, l11⟩))
    | (go_at_call 20; go_fit (Sy.out _ _ l3); rintro x w4 ⟨rfl, l4⟩)
    | (go_at_call 14; go_fit (Di.out _ _ l5); rintro x w6 ⟨rfl, l6⟩)
    | (go_at_call 21; go_fit (Cr.out _ _ l6); rintro x w7 ⟨rfl, l7⟩)
    | (go_at_call 22; go_fit (St.out _ _ l7); rintro x w8 ⟨rfl, l8⟩)
    | (go_at_call 23; go_fit (Re.out _ _ l8); rintro x w9 ⟨ao9, cap9, rfl, l9⟩)
    | (go_at_call 12; go_fit (Us.out _ _ l9); rintro x w10 ⟨rfl, l10⟩)
    | (go_at_call 24; go_fit (Se.out _); rintro x w12 ⟨rfl, rfl⟩))
  go_ret
  exact ⟨rfl, l11.below⟩
end Go.Proofs.YtoeoioigelknnaaGreat
namespace Go.Proofs.YtoeoioigelknnaaGreat
open Go.RowKit

theorem made8 (m : Nat) : (madeCells (Value.int .u8 0).cells (m * 1)).toList = B8 (List.replicate m 0) := by
  have h : (Value.int .u8 0).cells = #[.int .u8 0] := rfl
  rw [h, Nat.mul_one]
  apply List.ext_getElem
  · simp [madeCells, B8]
  · intro i h1 h2
    simp [madeCells, B8, Nat.mod_one]

theorem frame_bytes (l : List UInt8) (n S : Nat) (hn : n = l.length) : splice (B8 (layL (layL (List.replicate (n + 8) 0) 0 n 4) 4 S 4)) 8 (B8 l) = B8 (fourL n ++ (fourL S ++ l)) := by
  have e : layL (layL (List.replicate (n + 8) 0) 0 n 4) 4 S 4 = fourL n ++ (fourL S ++ List.replicate n 0) := by
    simp [layL, fourL, Nat.add_sub_cancel]
  rw [e]
  have h1 : (B8 (fourL n ++ (fourL S ++ List.replicate n 0))).take 8 = B8 (fourL n ++ fourL S) := by simp [B8, fourL]
  have h2 : (B8 (fourL n ++ (fourL S ++ List.replicate n 0))).drop (8 + l.length) = [] := by
    rw [List.drop_eq_nil_of_le]
    rw [B8_length]
    simp [fourL]
    omega
  unfold splice
  rw [B8_length, h1, h2, ← List.append_assoc (fourL n), B8_append (fourL n ++ fourL S)]
  simp

theorem sees_cells {w : World} {ao : Option Addr} {l : List UInt8} (h : Sees w ao l) (hp : 0 < l.length) : ∃ ad, ao = some ad ∧ ∀ j v, (B8 l)[j]? = some v → w.cell? (ad.add j) = some v := by
  obtain ⟨a, rfl, _⟩ := h 0 hp
  exact ⟨a, rfl, h.cells⟩

end Go.Proofs.YtoeoioigelknnaaGreat
namespace Go.Proofs.YtoeoioigelknnaaGreat
open Go.RowKit

theorem sees_lit (w : World) (l : List UInt8) (pr : Nat × Nat) : Sees (w.alloc (.cells (B8 l).toArray 5 pr)) (some ⟨w.heap.size, 0, none⟩) l := by
  intro i hi
  refine ⟨_, rfl, ?_⟩
  have h : (w.alloc (.cells (B8 l).toArray 5 pr)).heap[w.heap.size]? = some (.cells (B8 l).toArray 5 pr) := heap_alloc_new w _
  have e := B8_at l i hi
  rw [Addr.add_lit, Nat.zero_add]
  simp only [World.cell?, h]
  simpa using e

end Go.Proofs.YtoeoioigelknnaaGreat
