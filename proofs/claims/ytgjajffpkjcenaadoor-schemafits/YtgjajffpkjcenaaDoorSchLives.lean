/-
  CONTRACT: the document's examples are as it says (lives).
-/
import Derived.Test.YtgjajffpkjcenaaDoorSchTab
import Derived.Test.YtgjajffpkjcenaaDoorSchOrd
namespace Go.Proofs.YtgjajffpkjcenaaDoor
open Go.RowKit Go.Maps

set_option maxRecDepth 100000 in
set_option maxHeartbeats 1000000 in
/-- Texts of the same list. -/
theorem texts17_any (ao bo : Option Addr) (l : List ByteArray) (c c' : Nat) (w : World) (h1 : NSee w ao l) (h2 : NSee w bo l) (hl : l.length ≤ 1000000) :
    Calls Tryd.prog 17 #[.slice ao l.length c, .slice bo l.length c'] w fun e w' => e = .returned (.bool true) ∧ Below w.heap.size w w' := by
  have hlz : (l.length : Int) ≤ 1000000 := by omega
  go_enter Tryd.func17, Tryd.ntmps17
  go_wp2_with fail
  go_loopw [13] (fun s13 wr => ∃ i : Nat, i ≤ l.length ∧ s13 = .int .i64 (i : Int) ∧ Below w.heap.size w wr) (fun s13 _ => l.length - (intOf s13).toNat)
  case atStart => exact ⟨0, by omega, rfl, Below.refl _ _⟩
  case round =>
    obtain ⟨i, hi, rfl, hbr⟩ := hrel
    rcases Nat.lt_or_ge i l.length with hlt | hge
    · have hc : l[i]? = some l[i] := List.getElem?_eq_getElem hlt
      obtain ⟨b, o1, rfl, k1⟩ := h1 i _ hc
      obtain ⟨b', o2, rfl, k2⟩ := h2 i _ hc
      generalize l[i] = s at *
      have q0 : ∀ z : Cl wr.heap.size wr, z.u.cell? ⟨b, o1 + i, none⟩ = some (.string s) := fun z => by
        have e : wr.cell? ⟨b, o1 + i, none⟩ = some (.string s) := by rw [hbr.cell (World.block_lt_of_cell? _ _ k1)]; exact k1
        exact z.cell (World.block_lt_of_cell? _ _ e) e
      have q1 : ∀ z : Cl wr.heap.size wr, z.u.cell? ⟨b', o2 + i, none⟩ = some (.string s) := fun z => by
        have e : wr.cell? ⟨b', o2 + i, none⟩ = some (.string s) := by rw [hbr.cell (World.block_lt_of_cell? _ _ k2)]; exact k2
        exact z.cell (World.block_lt_of_cell? _ _ e) e
      have HE : Hid (∀ w', Below wr.heap.size wr w' → Below w.heap.size w w') := fun w' h => hbr.trans (h.mono hbr.size)
      have hiz : (i : Int) < (l.length : Int) := by omega
      clear h1 h2 hbr hc k1 k2
      haveI := Cl.inh wr.heap.size wr
      go_wp2_with fail
      refine wp_region_cl wr.heap.size (by kernel_rfl) (by kernel_rfl) ?_
      repeat quiet_step (fail)
      refine wpQuiet_nil ?_
      rintro w0 ⟨z, rfl⟩
      have hz := HE.out _ z.h
      go_wp2_with fail
      go_roundw
      case rel => exact ⟨i + 1, by omega, by go_num, hz⟩
      case measure => (simp [intOf]; try omega)
    · obtain rfl : i = l.length := by omega
      clear h1 h2
      have hiz : ¬ (l.length : Int) < (l.length : Int) := by omega
      go_wp2_with fail
      go_ret
      exact ⟨rfl, hbr⟩
def sB (l : List UInt8) : ByteArray := ⟨l.toArray⟩
def tab1 : Tb := ⟨⟨#[116]⟩, ⟨#[107]⟩, ⟨#[114]⟩, [⟨⟨#[97]⟩, 1⟩, ⟨⟨#[97]⟩, 2⟩]⟩
def tab2 : Tb := ⟨⟨#[116]⟩, ⟨#[107]⟩, ⟨#[114]⟩, [⟨⟨#[97]⟩, 1⟩, ⟨⟨#[98]⟩, 2⟩]⟩
theorem tab1_e : tabE tab1 = 5 := by decide +kernel
theorem tab2_e : tabE tab2 = 0 := by decide +kernel
theorem tab2_o : ordR [⟨#[98]⟩, ⟨#[97]⟩, ⟨#[98]⟩] (nmC tab2) = [⟨#[97]⟩, ⟨#[98]⟩] ∧ allIn [⟨#[98]⟩, ⟨#[97]⟩, ⟨#[98]⟩] (nmC tab2) = true := by
  have h : allIn [⟨#[98]⟩, ⟨#[97]⟩, ⟨#[98]⟩] (nmC tab2) = true := by decide +kernel
  refine ⟨?_, h⟩
  unfold ordR
  rw [if_pos h]
  rfl
theorem sel_no : nm17 ⟨#[115, 101, 108, 101, 99, 116]⟩ = false := by decide +kernel
theorem tab_ok (T : Tb) (h : T = tab1 ∨ T = tab2) : T.Ok := by
  have hm : ∀ n, n ≤ 10 → n ≤ maxLen := fun n hn => by unfold maxLen; omega
  rcases h with rfl | rfl
  all_goals
    refine ⟨hm _ (by decide +kernel), hm _ (by decide +kernel), hm _ (by decide +kernel), fun c hc => ?_, by decide⟩
    rcases List.mem_cons.1 hc with rfl | hc
    · exact hm _ (by decide +kernel)
    · rw [List.mem_singleton.1 hc]; exact hm _ (by decide +kernel)
theorem csee2 {w : World} {b : Nat} {x y : ByteArray} {k j : Int} {t : TypeId} (h : Blk w b [.string x, .int .i64 k, .string y, .int .i64 j] t) : CSee w (some ⟨b, 0, none⟩) [⟨x, k⟩, ⟨y, j⟩] := fun i c hc => by
  match i, hc with
  | 0, hc => cases hc; exact ⟨b, 0, rfl, h.cell 0 rfl, h.cell 1 rfl⟩
  | 1, hc => cases hc; exact ⟨b, 0, rfl, h.cell 2 rfl, h.cell 3 rfl⟩
  | i + 2, hc => cases hc
theorem nsee_blk {w : World} {b : Nat} {l : List ByteArray} {t : TypeId} (h : Blk w b (sV l) t) : NSee w (some ⟨b, 0, none⟩) l := fun i s hs => ⟨b, 0, rfl, by rw [Nat.zero_add]; exact h.cell i (by unfold sV; rw [List.getElem?_map, hs]; rfl)⟩
set_option maxRecDepth 100000 in
theorem lives_boxes (w : World) : ∃ w5, w5 = (((((w.alloc (.cells #[.string ⟨#[97]⟩, .int .i64 1, .string ⟨#[97]⟩, .int .i64 2] 29)).alloc (.cells #[.string ⟨#[116]⟩, .string ⟨#[107]⟩, .string ⟨#[114]⟩, .slice (some ⟨w.heap.size, 0, none⟩) 2 2] 26)).alloc (.cells #[.string ⟨#[97]⟩, .int .i64 1, .string ⟨#[98]⟩, .int .i64 2] 29)).alloc (.cells #[.string ⟨#[116]⟩, .string ⟨#[107]⟩, .string ⟨#[114]⟩, .slice (some ⟨w.heap.size + 1 + 1, 0, none⟩) 2 2] 26)).alloc (.cells #[.string ⟨#[98]⟩, .string ⟨#[97]⟩, .string ⟨#[98]⟩] 9)) ∧ Below w.heap.size w w5 ∧ Blk w5 (w.heap.size) [.string ⟨#[97]⟩, .int .i64 1, .string ⟨#[97]⟩, .int .i64 2] 29 ∧ Blk w5 (w.heap.size + 1) [.string ⟨#[116]⟩, .string ⟨#[107]⟩, .string ⟨#[114]⟩, .slice (some ⟨w.heap.size, 0, none⟩) 2 2] 26 ∧ Blk w5 (w.heap.size + 1 + 1) [.string ⟨#[97]⟩, .int .i64 1, .string ⟨#[98]⟩, .int .i64 2] 29 ∧ Blk w5 (w.heap.size + 1 + 1 + 1) [.string ⟨#[116]⟩, .string ⟨#[107]⟩, .string ⟨#[114]⟩, .slice (some ⟨w.heap.size + 1 + 1, 0, none⟩) 2 2] 26 ∧ Blk w5 (w.heap.size + 1 + 1 + 1 + 1) [.string ⟨#[98]⟩, .string ⟨#[97]⟩, .string ⟨#[98]⟩] 9 := by
  have h0 := Blk.new w [.string ⟨#[97]⟩, .int .i64 1, .string ⟨#[97]⟩, .int .i64 2] 29
  have h1 := Blk.new (w.alloc (.cells #[.string ⟨#[97]⟩, .int .i64 1, .string ⟨#[97]⟩, .int .i64 2] 29)) [.string ⟨#[116]⟩, .string ⟨#[107]⟩, .string ⟨#[114]⟩, .slice (some ⟨w.heap.size, 0, none⟩) 2 2] 26
  simp only [World.size_alloc] at h1
  have h2 := Blk.new ((w.alloc (.cells #[.string ⟨#[97]⟩, .int .i64 1, .string ⟨#[97]⟩, .int .i64 2] 29)).alloc (.cells #[.string ⟨#[116]⟩, .string ⟨#[107]⟩, .string ⟨#[114]⟩, .slice (some ⟨w.heap.size, 0, none⟩) 2 2] 26)) [.string ⟨#[97]⟩, .int .i64 1, .string ⟨#[98]⟩, .int .i64 2] 29
  simp only [World.size_alloc] at h2
  have h3 := Blk.new (((w.alloc (.cells #[.string ⟨#[97]⟩, .int .i64 1, .string ⟨#[97]⟩, .int .i64 2] 29)).alloc (.cells #[.string ⟨#[116]⟩, .string ⟨#[107]⟩, .string ⟨#[114]⟩, .slice (some ⟨w.heap.size, 0, none⟩) 2 2] 26)).alloc (.cells #[.string ⟨#[97]⟩, .int .i64 1, .string ⟨#[98]⟩, .int .i64 2] 29)) [.string ⟨#[116]⟩, .string ⟨#[107]⟩, .string ⟨#[114]⟩, .slice (some ⟨w.heap.size + 1 + 1, 0, none⟩) 2 2] 26
  simp only [World.size_alloc] at h3
  have h4 := Blk.new ((((w.alloc (.cells #[.string ⟨#[97]⟩, .int .i64 1, .string ⟨#[97]⟩, .int .i64 2] 29)).alloc (.cells #[.string ⟨#[116]⟩, .string ⟨#[107]⟩, .string ⟨#[114]⟩, .slice (some ⟨w.heap.size, 0, none⟩) 2 2] 26)).alloc (.cells #[.string ⟨#[97]⟩, .int .i64 1, .string ⟨#[98]⟩, .int .i64 2] 29)).alloc (.cells #[.string ⟨#[116]⟩, .string ⟨#[107]⟩, .string ⟨#[114]⟩, .slice (some ⟨w.heap.size + 1 + 1, 0, none⟩) 2 2] 26)) [.string ⟨#[98]⟩, .string ⟨#[97]⟩, .string ⟨#[98]⟩] 9
  simp only [World.size_alloc] at h4
  refine ⟨_, rfl, (((((Below.refl _ _).alloc (Nat.le_refl _) _).alloc (by simp only [World.size_alloc]; omega) _).alloc (by simp only [World.size_alloc]; omega) _).alloc (by simp only [World.size_alloc]; omega) _).alloc (by simp only [World.size_alloc]; omega) _, (((h0.alloc _).alloc _).alloc _).alloc _, ((h1.alloc _).alloc _).alloc _, (h2.alloc _).alloc _, h3.alloc _, h4⟩
set_option maxRecDepth 100000 in
set_option maxHeartbeats 4000000 in
theorem lives17_any (w : World) (hS : SpT w) : Calls Tryd.prog 8 #[] w fun e w' => e = .returned (.bool true) ∧ Below w.heap.size w w' := by
  obtain ⟨w5, hw5, hB5, b0, b1, b2, b3, b4⟩ := lives_boxes w
  have HS : Hid (∀ wr, Below w5.heap.size w5 wr → SpT wr ∧ Below w.heap.size w wr ∧ Blk wr w.heap.size [.string ⟨#[97]⟩, .int .i64 1, .string ⟨#[97]⟩, .int .i64 2] 29 ∧ Blk wr (w.heap.size + 1) [.string ⟨#[116]⟩, .string ⟨#[107]⟩, .string ⟨#[114]⟩, .slice (some ⟨w.heap.size, 0, none⟩) 2 2] 26 ∧ Blk wr (w.heap.size + 1 + 1) [.string ⟨#[97]⟩, .int .i64 1, .string ⟨#[98]⟩, .int .i64 2] 29 ∧ Blk wr (w.heap.size + 1 + 1 + 1) [.string ⟨#[116]⟩, .string ⟨#[107]⟩, .string ⟨#[114]⟩, .slice (some ⟨w.heap.size + 1 + 1, 0, none⟩) 2 2] 26) := fun wr hb =>
    ⟨hS.below (hB5.trans (hb.mono hB5.size)) hS.lt, hB5.trans (hb.mono hB5.size), b0.carry (hb.block _ b0.lt), b1.carry (hb.block _ b1.lt), b2.carry (hb.block _ b2.lt), b3.carry (hb.block _ b3.lt)⟩
  have CO : Calls Tryd.prog 13 #[.agg #[.string ⟨#[116]⟩, .string ⟨#[107]⟩, .string ⟨#[114]⟩, .slice (some ⟨w.heap.size + 1 + 1, 0, none⟩) 2 2], .slice (some ⟨w.heap.size + 1 + 1 + 1 + 1, 0, none⟩) 3 3] w5 fun e w' => ∃ ao c, e = .returned (.tuple #[.slice ao 2 c, .bool true]) ∧ NSee w' ao [⟨#[97]⟩, ⟨#[98]⟩] ∧ Below w5.heap.size w5 w' := by
    have h := order_any tab2 (some ⟨w.heap.size + 1 + 1, 0, none⟩) 2 [⟨#[98]⟩, ⟨#[97]⟩, ⟨#[98]⟩] (some ⟨w.heap.size + 1 + 1 + 1 + 1, 0, none⟩) 3 w5 (csee2 b2) (tab_ok _ (.inr rfl)) (by decide) (nsee_blk b4) (by decide) (fun s hs => by
      have hm : ∀ n, n ≤ 10 → n ≤ maxLen := fun n hn => by unfold maxLen; omega
      simp only [List.mem_cons, List.not_mem_nil, or_false] at hs
      rcases hs with rfl | rfl | rfl <;> exact hm _ (by decide +kernel))
    rw [tab2_o.1, tab2_o.2] at h
    refine h.mono ?_
    rintro e w' ⟨v, rfl, ho, hb⟩
    obtain ⟨ao, c, rfl, hs⟩ := owns_see ho rfl
    exact ⟨ao, c, rfl, hs, hb⟩
  have C1 : Hid (∀ wr, Below w5.heap.size w5 wr → Calls Tryd.prog 15 #[.agg #[.string ⟨#[116]⟩, .string ⟨#[107]⟩, .string ⟨#[114]⟩, .slice (some ⟨w.heap.size, 0, none⟩) 2 2]] wr fun e w' => e = .returned (.int .i64 5) ∧ Below wr.heap.size wr w') := fun wr hb => by
    obtain ⟨s, -, x0, -, -, -⟩ := HS.out wr hb
    have h := table_any tab1 (some ⟨w.heap.size, 0, none⟩) 2 wr (csee2 x0) (tab_ok _ (.inl rfl)) s
    rw [tab1_e] at h
    exact h
  have C2 : Hid (∀ wr, Below w5.heap.size w5 wr → Calls Tryd.prog 15 #[.agg #[.string ⟨#[116]⟩, .string ⟨#[107]⟩, .string ⟨#[114]⟩, .slice (some ⟨w.heap.size + 1 + 1, 0, none⟩) 2 2]] wr fun e w' => e = .returned (.int .i64 0) ∧ Below wr.heap.size wr w') := fun wr hb => by
    obtain ⟨s, -, -, -, x2, -⟩ := HS.out wr hb
    have h := table_any tab2 (some ⟨w.heap.size + 1 + 1, 0, none⟩) 2 wr (csee2 x2) (tab_ok _ (.inr rfl)) s
    rw [tab2_e] at h
    exact h
  have C3 : Hid (∀ wr, Below w5.heap.size w5 wr → Calls Tryd.prog 9 #[.string ⟨#[115, 101, 108, 101, 99, 116]⟩] wr fun e w' => e = .returned (.bool false) ∧ Below wr.heap.size wr w') := fun wr hb => by
    have hz : (⟨#[115, 101, 108, 101, 99, 116]⟩ : ByteArray).size ≤ 10 := by decide +kernel
    have h := name17_any ⟨#[115, 101, 108, 101, 99, 116]⟩ wr (Nat.le_trans hz (by unfold maxLen; omega)) (HS.out wr hb).1
    rw [sel_no] at h
    exact h
  clear b0 b1 b2 b3 b4 hB5 hS
  go_enter Tryd.func8, Tryd.ntmps8
  go_wp2_with fail
  rw [← hw5]
  clear hw5
  refine CO.mono ?_
  rintro e w6 ⟨ao, c, rfl, hN, hb6⟩
  obtain ⟨-, -, -, y1, -, y3⟩ := HS.out w6 hb6
  have a0 := y1.cell 0 rfl
  have a1 := y1.cell 1 rfl
  have a2 := y1.cell 2 rfl
  have a3 := y1.cell 3 rfl
  clear CO y1 y3
  go_wp2_with fail
  refine (C1.out w6 hb6).mono ?_
  rintro e w7 ⟨rfl, hb7⟩
  have hb7' := hb6.trans (hb7.mono hb6.size)
  obtain ⟨-, -, -, -, -, y3⟩ := HS.out w7 hb7'
  have d0 := y3.cell 0 rfl
  have d1 := y3.cell 1 rfl
  have d2 := y3.cell 2 rfl
  have d3 := y3.cell 3 rfl
  clear C1 a0 a1 a2 a3 y3
  go_wp2_with fail
  refine (C2.out w7 hb7').mono ?_
  rintro e w8 ⟨rfl, hb8⟩
  have hb8' := hb7'.trans (hb8.mono hb7'.size)
  clear C2 d0 d1 d2 d3
  go_wp2_with fail
  refine (C3.out w8 hb8').mono ?_
  rintro e w9 ⟨rfl, hb9⟩
  have hb9' := hb8'.trans (hb9.mono hb8'.size)
  have hN9 : NSee w9 ao [⟨#[97]⟩, ⟨#[98]⟩] := hN.below ((hb7.trans (hb8.mono hb7.size)).trans (hb9.mono (Nat.le_trans hb7.size hb8.size)))
  have hb10 : Below w9.heap.size w9 (w9.alloc (.cells #[.string ⟨#[97]⟩, .string ⟨#[98]⟩] 9)) := (Below.refl _ _).alloc (Nat.le_refl _) _
  have C4 := texts17_any ao (some ⟨w9.heap.size, 0, none⟩) [⟨#[97]⟩, ⟨#[98]⟩] c 2 (w9.alloc (.cells #[.string ⟨#[97]⟩, .string ⟨#[98]⟩] 9)) (hN9.below hb10) (nsee_blk (Blk.new w9 [.string ⟨#[97]⟩, .string ⟨#[98]⟩] 9)) (by decide)
  simp only [List.length_cons, List.length_nil, Nat.zero_add, Nat.reduceAdd] at C4
  have HF : Hid (∀ w', Below (w9.alloc (.cells #[.string ⟨#[97]⟩, .string ⟨#[98]⟩] 9)).heap.size (w9.alloc (.cells #[.string ⟨#[97]⟩, .string ⟨#[98]⟩] 9)) w' → Below w.heap.size w w') := fun w' h => (HS.out w' (hb9'.trans ((hb10.trans (h.mono hb10.size)).mono hb9'.size))).2.1
  clear C3 hN hN9 hb10 hb9 hb8 hb7 hb6
  go_wp2_with fail
  refine C4.mono ?_
  rintro e w10 ⟨rfl, h10⟩
  have hF := HF.out _ h10
  clear C4
  go_wp2_with fail
  go_ret
  exact ⟨rfl, hF⟩
end Go.Proofs.YtgjajffpkjcenaaDoor
