/-
  CONTRACT: the document's example is as it says, from whatever memory.
-/
import Derived.Test.YthihljjefncfoaaGreatDoorDskAppend
import Derived.Test.YthihljjefncfoaaGreatDoorDskRead
namespace Go.Proofs.YthihljjefncfoaaGreatDoor
open Go.RowKit Go.Maps

theorem made8D (m : Nat) : (madeCells (Value.int .u8 0).cells (m * 1)).toList = B8 (List.replicate m 0) := by
  have h : (Value.int .u8 0).cells = #[.int .u8 0] := rfl
  rw [h, Nat.mul_one]
  apply List.ext_getElem
  · simp [madeCells, B8]
  · intro i h1 h2
    simp [madeCells, B8, Nat.mod_one]
theorem make_bytes (n : Nat) (hn : n ≤ 1099511627776) : ∃ f : World → World, ∀ w, (Instr.makeSlice 62 (.int .i64 (n : Int)) (.int .i64 (n : Int))).run Tryz.prog w = .ok (.slice (some ⟨w.heap.size, 0, none⟩) n n) (f w) ∧ (f w).ownsRow w.heap.size 5 1 (.slice (some ⟨w.heap.size, 0, none⟩) n n) n (B8 (List.replicate n 0)) ∧ w.grownBy (f w) none := by
  obtain ⟨i0, hi, hz0, hz1, hz2⟩ := info_parts info8D
  have h : ∀ w : World, ∃ w', (Instr.makeSlice 62 (.int .i64 (n : Int)) (.int .i64 (n : Int))).run Tryz.prog w = .ok (.slice (some ⟨w.heap.size, 0, none⟩) n n) w' ∧ w'.ownsRow w.heap.size 5 1 (.slice (some ⟨w.heap.size, 0, none⟩) n n) n (B8 (List.replicate n 0)) ∧ w.grownBy w' none := fun w => by
    have := run_make_full (P := Tryz.prog) w w.heap.size 62 5 i0 (.int .u8 0) 1 Tryz.underlying62 hi hz0 hz1 .i64 .i64 n (by rw [hz2]; omega) (by unfold maxLen; omega) (Nat.le_refl _)
    rwa [made8D] at this
  exact ⟨fun w => Classical.choose (h w), fun w => Classical.choose_spec (h w)⟩

def nmA : ByteArray := ⟨#[97]⟩
/-- The example's disk: one file. -/
def Lv (w : World) (d : Nat) (on : Bool) (ops next : Nat) (bs : List UInt8) (wr : Nat) (pl : List Nat) (w1 : World) : Prop :=
  ∃ bm e, DiskAt w1 d bm ⟨[e], 10, on, ops, next, 0, 0⟩ ∧ e.nm = [97] ∧ e.bs = bs ∧ e.wr = wr ∧ e.pl = pl ∧ Moved w w1 [] (foot d bm [e])
def Nv (w : World) (d : Nat) (w1 : World) : Prop := ∃ bm, DiskAt w1 d bm (newS 10) ∧ Moved w w1 [] (foot d bm [])
theorem nmA_size : nmA.size ≤ maxLen := by show 1 ≤ maxLen; unfold maxLen; omega
theorem nmA_good : refuse true [nmA] = 0 := by decide
theorem find_one {e : Ent} (h : e.nm = [97]) : find [e] (nameOf nmA) = some e := by
  unfold find
  rw [List.find?_cons, h]
  rfl
theorem swap_one (e e' : Ent) : swap [e] e e' = [e'] := by simp [swap]
theorem moved_nil {w w1 w2 : World} {a b : List Nat} (h : Moved w w1 [] a) (k : Moved w1 w2 a b) : Moved w w2 [] b := h.trans k

theorem lv_new (w : World) : Calls Tryz.prog 5 #[.int .i64 10] w fun x w1 => ∃ d, x = .returned (.pointer (some ⟨d, 0, none⟩)) ∧ Nv w d w1 := by
  refine (new_ok 10 (by omega) w).mono ?_
  rintro x w1 ⟨d, bm, rfl, hD, hg, h1, h2⟩
  refine ⟨d, rfl, bm, hD, (Moved.of_grown hg).wider (by simp) (fun i hi => .inr (.inr ?_))⟩
  simp [foot, feet] at hi
  rcases hi with rfl | rfl <;> assumption
theorem lv_create {w w1 : World} {d : Nat} (h : Nv w d w1) : Calls Tryz.prog 33 #[.pointer (some ⟨d, 0, none⟩), .string nmA] w1 fun x w2 => x = .returned (.int .i64 0) ∧ Lv w d true 1 0 [] 0 [] w2 := by
  obtain ⟨bm, hD, hM⟩ := h
  refine (create_new hD nmA nmA_size nmA_good rfl (by simp [newS]) (by simp [newS, sumUsed]) (by simp [newS]) (by simp [newS]) (by simp [newS]) (by simp [newS])).mono ?_
  rintro x w2 ⟨rfl, b, hD2, hM2⟩
  exact ⟨rfl, bm, newE (nameOf nmA) b, hD2, rfl, rfl, rfl, rfl, moved_nil hM hM2⟩
theorem lv_append {w w1 : World} {d ops next wr : Nat} {bs : List UInt8} {pl : List Nat} (h : Lv w d true ops next bs wr pl w1) (n g : Nat) (hn : 0 < n) (f : World → World) (hf : (f w1).ownsRow w1.heap.size 5 1 (.slice (some ⟨w1.heap.size, 0, none⟩) n n) n (B8 (List.replicate n 0)) ∧ w1.grownBy (f w1) none)
    (ho : ops ≤ 100) (hnx : next ≤ 100) (hlen : bs.length + n ≤ 1000) (hpl : pl.length ≤ 100) (hwr : wr ≤ 1000) (hg : growN (bs.length + n) wr pl.length = g) (full : Bool) (hfull : decide ((10 : Int) - ((1 + (bs.length + 15) / 16 : Nat) : Int) < secI ((bs.length : Int) + (n : Int)) - secI (bs.length : Int)) = full) :
    Calls Tryz.prog 35 #[.pointer (some ⟨d, 0, none⟩), .string nmA, .slice (some ⟨w1.heap.size, 0, none⟩) n n] (f w1) fun x w2 => match full with | true => x = .returned (.int .i64 7) ∧ Lv w d true ops next bs wr pl w2 | false => x = .returned (.int .i64 0) ∧ Lv w d true (ops + 1) (next + g) (bs ++ List.replicate n 0) wr (pl ++ List.range' next g) w2 := by
  obtain ⟨bm, e, hD, e1, rfl, rfl, rfl, hM⟩ := h
  have hD2 : DiskAt (f w1) d bm ⟨[e], 10, true, ops, next, 0, 0⟩ := hD.carry fun i hi => hf.2.block i (hD.lt i hi) (by simp)
  have hM2 : Moved w (f w1) [] (foot d bm [e]) := moved_nil hM (Moved.none_of hf.2 _)
  obtain ⟨ao, cap, hv, hsee, hll, _⟩ := owns_sees hf.1
  cases hv
  have hsum : sumUsed [e] = 1 + (e.bs.length + 15) / 16 := by simp [sumUsed]
  have hgr : growS e (List.replicate n 0) = g := by
    unfold growS
    rw [if_neg (by intro h0; have := congrArg List.length h0; simp at this; omega), List.length_replicate, hg]
  have A := append_ok hD2 nmA nmA_size (some ⟨w1.heap.size, 0, none⟩) (List.replicate n 0) n hsee nmA_good (find_one e1) (fun a ha _ hi => by cases ha; exact absurd (hD.lt _ hi) (Nat.lt_irrefl _)) (by simp) (show ops ≤ _ by omega) (by simp) (by rw [List.length_replicate]; omega) (show next ≤ _ by omega) (by omega) (by omega) (by simp) (by rw [hsum]; omega) full (by rw [← hfull, List.length_replicate]; show decide ((10 : Int) - ((sumUsed [e] : Nat) : Int) < _) = _; rw [hsum])
  rw [List.length_replicate] at A
  refine A.mono ?_
  cases full
  · rintro x w2 ⟨rfl, e', a1, a2, a3, a4, a5, a6, a7⟩
    rw [swap_one] at a6 a7
    rw [hgr] at a5 a6
    exact ⟨rfl, bm, e', a6, a1.trans e1, a3, a4, a5, moved_nil hM2 a7⟩
  · rintro x w2 ⟨rfl, a6, a7⟩
    exact ⟨rfl, bm, e, a6, e1, rfl, rfl, rfl, moved_nil hM2 a7⟩
theorem lv_sync {w w1 : World} {d ops next wr : Nat} {bs : List UInt8} {pl : List Nat} (h : Lv w d true ops next bs wr pl w1) (ho : ops ≤ 100) : Calls Tryz.prog 37 #[.pointer (some ⟨d, 0, none⟩), .string nmA] w1 fun x w2 => x = .returned (.int .i64 0) ∧ Lv w d true (ops + 1) next bs bs.length [] w2 := by
  obtain ⟨bm, e, hD, e1, rfl, rfl, rfl, hM⟩ := h
  refine (sync_ok hD nmA nmA_size nmA_good (find_one e1) (by simp) (show ops ≤ _ by omega) (by simp)).mono ?_
  rintro x w2 ⟨rfl, a6, a7⟩
  rw [swap_one] at a6 a7
  exact ⟨rfl, bm, _, a6, e1, by simp [endE], rfl, rfl, moved_nil hM a7⟩
theorem lv_used {w w1 : World} {d ops next wr : Nat} {bs : List UInt8} {pl : List Nat} (h : Lv w d true ops next bs wr pl w1) (hb : bs.length ≤ 1000) : Calls Tryz.prog 105 #[.pointer (some ⟨d, 0, none⟩)] w1 fun x w2 => x = .returned (.int .i64 ((1 + (bs.length + 15) / 16 : Nat) : Int)) ∧ Lv w d true ops next bs wr pl w2 := by
  obtain ⟨bm, e, hD, e1, rfl, rfl, rfl, hM⟩ := h
  have hs : sumUsed [e] = 1 + (e.bs.length + 15) / 16 := by simp [sumUsed]
  refine (used_any hD rfl (by rw [hs]; omega)).mono ?_
  rintro x w2 ⟨rfl, hg⟩
  exact ⟨by rw [hs], bm, e, hD.carry (fun i hi => hg.block i (hD.lt i hi) (by simp)), e1, rfl, rfl, rfl, moved_nil hM (Moved.none_of hg _)⟩
theorem lv_start {w w1 : World} {d ops next wr : Nat} {on : Bool} {bs : List UInt8} {pl : List Nat} (h : Lv w d on ops next bs wr pl w1) : Calls Tryz.prog 24 #[.pointer (some ⟨d, 0, none⟩)] w1 fun x w2 => x = .returned (.tuple #[]) ∧ Lv w d true ops next bs wr pl w2 := by
  obtain ⟨bm, e, hD, e1, rfl, rfl, rfl, hM⟩ := h
  refine (start_any hD).mono ?_
  rintro x w2 ⟨rfl, a6, a7⟩
  exact ⟨rfl, bm, e, a6, e1, rfl, rfl, rfl, moved_nil hM (a7.wider (fun i hi => .inl (by simp at hi; simp [foot, hi])) (fun i hi => .inl hi))⟩
theorem lv_read {w w1 : World} {d ops next wr : Nat} {bs : List UInt8} {pl : List Nat} (h : Lv w d true ops next bs wr pl w1) (hb : bs.length ≤ 1000) : Calls Tryz.prog 43 #[.pointer (some ⟨d, 0, none⟩), .string nmA] w1 fun x w2 => ∃ ao cap, x = .returned (.tuple #[.slice ao bs.length cap, .int .i64 0]) ∧ Lv w d true ops next bs wr pl w2 := by
  obtain ⟨bm, e, hD, e1, rfl, rfl, rfl, hM⟩ := h
  refine (read_ok hD nmA nmA_size nmA_good (find_one e1) (by omega)).mono ?_
  rintro x w2 ⟨v, rfl, ho, hg⟩
  obtain ⟨ao, cap, rfl, _⟩ := owns_form ho
  exact ⟨ao, cap, rfl, bm, e, hD.carry (fun i hi => hg.block i (hD.lt i hi) (by simp)), e1, rfl, rfl, rfl, moved_nil hM (Moved.none_of hg _)⟩
theorem lv_crash {w w1 : World} {d ops : Nat} {bs : List UInt8} (h : Lv w d true ops 5 bs 20 [2, 3, 4] w1) (hb : bs.length = 50) : Calls Tryz.prog 23 #[.pointer (some ⟨d, 0, none⟩), .int .i64 1] w1 fun x w2 => x = .returned (.tuple #[]) ∧ Lv w d false ops 5 (bs.take 32) 32 [] w2 := by
  obtain ⟨bm, e, hD, e1, rfl, e3, e4, hM⟩ := h
  have hs : sumUsed [e] = 1 + (e.bs.length + 15) / 16 := by simp [sumUsed]
  have hs2 : sumDirty [e] = 3 := by simp [sumDirty, e4]
  have hfine : St.Fine ⟨[e], 10, true, ops, 5, 0, 0⟩ := by
    refine ⟨fun x hx => ?_, by simp, by show sumUsed [e] ≤ _; rw [hs]; omega, by show sumDirty [e] ≤ _; rw [hs2]; omega⟩
    have : x = e := by simpa using hx
    subst this
    exact ⟨by omega, by omega, by rw [e4]; simp, by rw [e4]; decide, by rw [e4]; intro p hp; simp at hp; show p < 5; omega⟩
  have hln : lineEndN ⟨[e], 10, true, ops, 5, 0, 0⟩ (1 : Int).toNat = 3 := by
    have hl : linesOf [e] = [2, 3, 4] := by simp [linesOf, e4]
    have hm : ([2, 3, 4] : List Nat).mergeSort (fun a b => decide (a ≤ b)) = [2, 3, 4] := List.mergeSort_of_pairwise (by decide)
    unfold lineEndN
    simp only [hl, hm]
    rfl
  have hlost : lostAt e 3 = 32 := by
    have hk : keptN e 3 = 1 := by unfold keptN; rw [e4]; rfl
    unfold lostAt
    rw [hk, e3, hb]
    rfl
  refine (crash_on hD rfl hfine 1 (by omega) (by omega)).mono ?_
  rintro x w2 ⟨rfl, a6, a7⟩
  rw [hln] at a6
  refine ⟨rfl, bm, loseE e 3, a6, e1, by show e.bs.take (lostAt e 3) = _; rw [hlost], hlost, rfl, moved_nil hM (a7.sub fun i hi => ?_)⟩
  simp only [foot, feet, List.flatMap_cons, List.flatMap_nil, List.append_nil, List.mem_cons] at hi ⊢
  exact hi.imp id fun h => h.imp id lose_foot
end Go.Proofs.YthihljjefncfoaaGreatDoor
