/-
  CONTRACT: a word or a name (word).
-/
import Derived.Test.YtajebjkpmbehgaaGreatDoorLexWord
import Derived.Test.YtajebjkpmbehgaaGreatDoorRegCl
import Derived.Test.YtajebjkpmbehgaaGreatDoorLoud
namespace Go.Proofs.YtajebjkpmbehgaaGreatDoor
open Go.RowKit

attribute [local go_sem] Oper.pureAt Oper.pureUpon
/-- Worlds in which a place stands in block n. -/
structure Bp (n : Nat) (s : ByteArray) (p : Int) where
  u : World
  h0 : u.cell? ⟨n, 0, none⟩ = some (.string s)
  h1 : u.cell? ⟨n, 1, none⟩ = some (.int .i64 p)
theorem set7_other {w : World} {g n i : Nat} (h : n ≠ g) (v0 v1 v2 v3 v4 v5 v6 : Value) :
    (((((((w.setCell ⟨g, 0, none⟩ v0).setCell ⟨g, 1, none⟩ v1).setCell ⟨g, 2, none⟩ v2).setCell ⟨g, 3, none⟩ v3).setCell ⟨g, 4, none⟩ v4).setCell ⟨g, 5, none⟩ v5).setCell ⟨g, 6, none⟩ v6).cell? ⟨n, i, none⟩ = w.cell? ⟨n, i, none⟩ := by
  have hb : ∀ (x : World) (j : Nat) (v : Value), (x.setCell ⟨g, j, none⟩ v).heap[n]? = x.heap[n]? := fun x j v => Below.heap_setCell _ _ _ _ h
  exact World.cell?_of_block (a := ⟨n, i, none⟩) (by rw [hb, hb, hb, hb, hb, hb, hb])
theorem wd_low {l : List UInt8} (h : ∀ b ∈ l, wdB b = true) (t : ByteArray) (ht : t.data.toList = l) : ∀ (j : Nat) (b : UInt8), t.data.toList[j]? = some b → b.toNat < 128 := by
  intro j b hb
  rw [ht] at hb
  have := h b (List.mem_of_getElem? hb)
  simp only [wdB, ltB, dgB, Bool.or_eq_true, decide_eq_true_eq] at this
  omega
set_option maxRecDepth 100000 in
set_option maxHeartbeats 2000000 in
theorem word_any (s : ByteArray) (p : Nat) (w : World) (hp : p ≤ s.size) (hs : s.size ≤ 600) (he : EnvL w) :
    Calls Tryz.prog 23 #[.agg #[.string s, .int .i64 (p : Int)]] w fun e w' => e = .returned (resT (wdT (s.data.toList.drop p)) p) ∧ Below w.heap.size w w' := by
  have hlen : (s.data.toList.drop p).length = s.size - p := by rw [List.length_drop]; simp
  have hwl := wdN_le (s.data.toList.drop p)
  rw [hlen] at hwl
  obtain ⟨l, hl⟩ : ∃ l, (s.data.toList.drop p).take (wdN (s.data.toList.drop p)) = l := ⟨_, rfl⟩
  obtain ⟨N, hN⟩ : ∃ N, wdN (s.data.toList.drop p) = N := ⟨_, rfl⟩
  have hll : l.length = N := by rw [← hl, List.length_take, hlen, hN]; omega
  obtain ⟨t, ht⟩ : ∃ t, s.extract p (p + N) = t := ⟨_, rfl⟩
  have htl : t.data.toList = l := by rw [← ht, ext_list, Nat.add_sub_cancel_left, ← hl, hN]
  have hts : t.size = N := by rw [← hll, ← htl]; simp
  have hlow := wd_low (l := l) (by rw [← hl]; exact wdN_all _) t htl
  have hT : wdT (s.data.toList.drop p) = if isWd l then (some ⟨2, Lib.toUpperA l, 0, 0, [], 0, l.length⟩, 0) else if nameB (Lib.toLowerA l) then (some ⟨3, Lib.toLowerA l, 0, 0, [], 0, l.length⟩, 0) else (none, 0) := by
    unfold wdT
    simp only [hl]
  have CE : ∀ wr, Calls Tryz.prog 42 #[.string s, .int .i64 (p : Int)] wr fun e w' => e = .returned (.int .i64 ((p + N : Nat) : Int)) ∧ Below wr.heap.size wr w' := fun wr => by
    have := wordEnd_any s p wr hp hs
    rw [hN] at this
    exact this
  have CWd : Hid (∀ wr, Below w.heap.size w wr → Calls Tryz.prog 14 #[.string t] wr fun e w' => e = .returned (.bool (isWd l)) ∧ w' = wr) := fun wr hb => by
    have := wordL_any t wr (by omega) hlow (he.below hb).wds
    rw [htl] at this
    exact this
  have CUp : Hid (∀ wr, Calls Tryz.prog 43 #[.string t] wr fun e w' => e = .returned (.string (xB (Lib.toUpperA l))) ∧ Below wr.heap.size wr w') := fun wr => by
    have := Tryz.strings_ToUpper_ascii t wr (by omega) hlow
    rw [htl] at this
    exact this
  have CLo : Hid (∀ wr, Calls Tryz.prog 44 #[.string t] wr fun e w' => e = .returned (.string (xB (Lib.toLowerA l))) ∧ Below wr.heap.size wr w') := fun wr => by
    have := Tryz.strings_ToLower_ascii t wr (by omega) hlow
    rw [htl] at this
    exact this
  have hlo : (Lib.toLowerA l).length = N := by unfold Lib.toLowerA; rw [List.length_map, hll]
  have CNm : Hid (∀ wr, Calls Tryz.prog 45 #[.string (xB (Lib.toLowerA l))] wr fun e w' => e = .returned (.bool (nameB (Lib.toLowerA l))) ∧ w' = wr) := fun wr => name_any (xB (Lib.toLowerA l)) wr (by rw [xB_size, hlo]; unfold maxLen; omega)
  have CW : Hid _ := fun wr => wrongT_any (p : Int) wr
  have CU : Hid (∀ (k : Int) (u : ByteArray) wr, Calls Tryz.prog 40 #[.agg #[.string s, .int .i64 (p : Int)], .int .i64 ((p : Int) + (t.size : Int)), .agg #[.int .i64 k, .string u, .int .i64 0, .int .i64 0, .string ⟨#[]⟩, .int .i64 0, .int .i64 0]] wr fun e w' =>
      e = .returned (.tuple #[.agg #[.int .i64 k, .string u, .int .i64 0, .int .i64 0, .string ⟨#[]⟩, .int .i64 (p : Int), .int .i64 ((p : Int) + (t.size : Int))], .int .i64 0, .int .i64 0]) ∧ Below wr.heap.size wr w') := fun k u wr => upTo_any s p ((p : Int) + (t.size : Int)) k 0 0 0 0 u ⟨#[]⟩ wr
  have i1 : (p : Int) ≤ ((p + N : Nat) : Int) := by omega
  have i2 : ((p + N : Nat) : Int) ≤ (s.size : Int) := by omega
  have i3 : (p : Int) ≤ 600 := by omega
  have i4 : (t.size : Int) ≤ 600 := by omega
  have HT2 : Hid (((p : Int) + (t.size : Int)) = ((l.length + p : Nat) : Int)) := by show _ = _; rw [hll, hts]; omega
  obtain ⟨E, hE⟩ : ∃ E, p + N = E := ⟨_, rfl⟩
  rw [hE] at CE i1 i2 ht
  have HF : Hid (∀ w1, Pr w s p w1 → ∀ v0 v1 v2 v3 v4 v5 v6 : Value, (((((((w1.setCell ⟨w.heap.size + 1, 0, none⟩ v0).setCell ⟨w.heap.size + 1, 1, none⟩ v1).setCell ⟨w.heap.size + 1, 2, none⟩ v2).setCell ⟨w.heap.size + 1, 3, none⟩ v3).setCell ⟨w.heap.size + 1, 4, none⟩ v4).setCell ⟨w.heap.size + 1, 5, none⟩ v5).setCell ⟨w.heap.size + 1, 6, none⟩ v6).heap[w.heap.size + 1]? = some (.cells #[v0, v1, v2, v3, v4, v5, v6] 25 (0, 0)) ∧
    Below w.heap.size w (((((((w1.setCell ⟨w.heap.size + 1, 0, none⟩ v0).setCell ⟨w.heap.size + 1, 1, none⟩ v1).setCell ⟨w.heap.size + 1, 2, none⟩ v2).setCell ⟨w.heap.size + 1, 3, none⟩ v3).setCell ⟨w.heap.size + 1, 4, none⟩ v4).setCell ⟨w.heap.size + 1, 5, none⟩ v5).setCell ⟨w.heap.size + 1, 6, none⟩ v6)) := fun w1 h => h.fin
  obtain ⟨wa, hwa⟩ : ∃ wa, wa = (w.alloc (.cells #[.string s, .int .i64 (p : Int)] 43)).alloc (.cells #[.int .i64 0, .string ⟨#[]⟩, .int .i64 0, .int .i64 0, .string ⟨#[]⟩, .int .i64 0, .int .i64 0] 25) := ⟨_, rfl⟩
  have HPr : Hid (∀ w1, Below wa.heap.size wa w1 → Pr w s p w1) := fun w1 hb => by rw [hwa] at hb; exact pair_all w s p w1 hb
  have k0 : ∀ q : Cl wa.heap.size wa, q.u.cell? ⟨w.heap.size, 0, none⟩ = some (.string s) := fun q => (HPr.out q.u q.h).q0
  have k1 : ∀ q : Cl wa.heap.size wa, q.u.cell? ⟨w.heap.size, 1, none⟩ = some (.int .i64 (p : Int)) := fun q => (HPr.out q.u q.h).q1
  have CEq : Hid (∀ q : Cl wa.heap.size wa, Calls Tryz.prog 42 #[.string s, .int .i64 (p : Int)] q.u fun e w'' => e = .returned (.int .i64 (E : Int)) ∧ ∃ q' : Cl wa.heap.size wa, w'' = q'.u) := fun q => Cl.calls (Nat.le_refl _) (CE q.u)
  clear CE hlow htl hl hlen hwl he hN hll hts hlo hE hs hp
  go_enter Tryz.func23, Tryz.ntmps23
  go_wp2_with fail
  rw [← hwa]
  clear hwa
  haveI := Cl.inh wa.heap.size wa
  refine wp_region_cl wa.heap.size (by kernel_rfl) (by kernel_rfl) ?_
  repeat (quiet_step (first | (go_at_call 42; exact CEq.out _)))
  refine wpQuiet_nil ?_
  rintro _ ⟨q, rfl⟩
  have HP1 := HPr.out q.u q.h
  clear k0 k1 CEq
  generalize q.u = w1 at *
  clear q HPr
  have r0 := HP1.q0
  have r1 := HP1.q1
  cases hW : isWd l
  · rw [hW] at CWd
    rw [hW, if_neg (by decide)] at hT
    cases hM : nameB (Lib.toLowerA l)
    · rw [hM] at CNm
      rw [hM, if_neg (by decide)] at hT
      have HR : Hid (resT (wdT (s.data.toList.drop p)) p = .tuple #[.agg #[.int .i64 0, .string ⟨#[]⟩, .int .i64 0, .int .i64 0, .string ⟨#[]⟩, .int .i64 0, .int .i64 0], .int .i64 (p : Int), .int .i64 11]) := by
        show resT _ _ = _
        rw [hT, resT_no]
        simp
      clear hT hW hM
      go_wp2_with (first | (go_at_call 14; with_reducible (refine (CWd.out _ HP1.below).mono ?_); rintro e _ ⟨rfl, hw⟩; obtain rfl := hw.symm; clear hw) | (go_at_call 44; with_reducible (refine (CLo.out _).mono ?_); rintro e w2 ⟨rfl, hb2⟩; have HP2 := HP1.to hb2; clear hb2 r0 r1; have r0 := HP2.q0; have r1 := HP2.q1) | (go_at_call 45; with_reducible (refine (CNm.out _).mono ?_); rintro e _ ⟨rfl, hw⟩; obtain rfl := hw.symm; clear hw) | (go_at_call 39; with_reducible (refine (CW.out _).mono ?_); rintro e w4 ⟨rfl, hb4⟩; have HP4 := HP2.to hb4; obtain ⟨fz, e0, e1, e2, e3, e4, e5, e6⟩ := HP4.fro; have f0 := fz 0; have f1 := fz 1; have f2 := fz 2; have f3 := fz 3; have f4 := fz 4; have f5 := fz 5; have f6 := fz 6; clear fz))
      refine bodyPost_ret (v := .tuple #[.agg #[.int .i64 0, .string ⟨#[]⟩, .int .i64 0, .int .i64 0, .string ⟨#[]⟩, .int .i64 0, .int .i64 0], .int .i64 (p : Int), .int .i64 11]) (results_row_two Tryz.results23 _ _ (w.heap.size + 1) 25 _ _ _ _ _ rfl rfl rfl (HF.out _ HP4 _ _ _ _ _ _ _).1 Tryz.underlying25 rfl (by kernel_rfl)) rfl ?_
      exact ⟨by rw [HR.out], (HF.out _ HP4 _ _ _ _ _ _ _).2⟩
    · rw [hM] at CNm
      rw [hM, if_pos rfl] at hT
      have HR : Hid (resT (wdT (s.data.toList.drop p)) p = .tuple #[.agg #[.int .i64 3, .string (xB (Lib.toLowerA l)), .int .i64 0, .int .i64 0, .string ⟨#[]⟩, .int .i64 (p : Int), .int .i64 ((p : Int) + (t.size : Int))], .int .i64 0, .int .i64 0]) := by
        show resT _ _ = _
        rw [hT, resT_at, HT2.out]
        rfl
      have CU3 : Hid _ := CU.out 3 (xB (Lib.toLowerA l))
      clear hT hW hM
      go_wp2_with (first | (go_at_call 14; with_reducible (refine (CWd.out _ HP1.below).mono ?_); rintro e _ ⟨rfl, hw⟩; obtain rfl := hw.symm; clear hw) | (go_at_call 44; with_reducible (refine (CLo.out _).mono ?_); rintro e w2 ⟨rfl, hb2⟩; have HP2 := HP1.to hb2; clear hb2 r0 r1; have r0 := HP2.q0; have r1 := HP2.q1) | (go_at_call 45; with_reducible (refine (CNm.out _).mono ?_); rintro e _ ⟨rfl, hw⟩; obtain rfl := hw.symm; clear hw) | (go_at_call 40; with_reducible (refine (CU3.out _).mono ?_); rintro e w4 ⟨rfl, hb4⟩; have HP4 := HP2.to hb4; obtain ⟨fz, e0, e1, e2, e3, e4, e5, e6⟩ := HP4.fro; have f0 := fz 0; have f1 := fz 1; have f2 := fz 2; have f3 := fz 3; have f4 := fz 4; have f5 := fz 5; have f6 := fz 6; clear fz))
      refine bodyPost_ret (v := .tuple #[.agg #[.int .i64 3, .string (xB (Lib.toLowerA l)), .int .i64 0, .int .i64 0, .string ⟨#[]⟩, .int .i64 (p : Int), .int .i64 ((p : Int) + (t.size : Int))], .int .i64 0, .int .i64 0]) (results_row_two Tryz.results23 _ _ (w.heap.size + 1) 25 _ _ _ _ _ rfl rfl rfl (HF.out _ HP4 _ _ _ _ _ _ _).1 Tryz.underlying25 rfl (by kernel_rfl)) rfl ?_
      exact ⟨by rw [HR.out], (HF.out _ HP4 _ _ _ _ _ _ _).2⟩
  · rw [hW] at CWd
    rw [hW, if_pos rfl] at hT
    have HR : Hid (resT (wdT (s.data.toList.drop p)) p = .tuple #[.agg #[.int .i64 2, .string (xB (Lib.toUpperA l)), .int .i64 0, .int .i64 0, .string ⟨#[]⟩, .int .i64 (p : Int), .int .i64 ((p : Int) + (t.size : Int))], .int .i64 0, .int .i64 0]) := by
      show resT _ _ = _
      rw [hT, resT_at, HT2.out]
      rfl
    have CU2 : Hid _ := CU.out 2 (xB (Lib.toUpperA l))
    clear hT hW CLo CNm CW
    go_wp2_with (go_at_call 14; with_reducible (refine (CWd.out _ HP1.below).mono ?_); rintro e _ ⟨rfl, hw⟩; obtain rfl := hw.symm; clear hw)
    have HP : Hid (∀ u, u.cell? ⟨w.heap.size, 0, none⟩ = some (.string s) → u.cell? ⟨w.heap.size, 1, none⟩ = some (.int .i64 (p : Int)) → ∃ z : Bp w.heap.size s p, u = z.u) := fun u h0 h1 => ⟨⟨u, h0, h1⟩, rfl⟩
    have k0 : ∀ q : Bp w.heap.size s p, q.u.cell? ⟨w.heap.size, 0, none⟩ = some (.string s) := fun q => q.h0
    have k1 : ∀ q : Bp w.heap.size s p, q.u.cell? ⟨w.heap.size, 1, none⟩ = some (.int .i64 (p : Int)) := fun q => q.h1
    haveI : Nonempty (Bp w.heap.size s p) := ⟨⟨w1, HP1.q0, HP1.q1⟩⟩
    clear r0 r1 CWd
    refine wp_region_C (fun u => ∃ z : Bp w.heap.size s p, u = z.u) 11 _ (by kernel_rfl) ?_ (fun _ _ h => h)
    have HP1 : Pr w s p w1.drew := HP1.to ((Below.refl _ _).drew)
    generalize w1.drew = w1 at *
    refine anyC_pure 0 rfl (by kernel_rfl) (by kernel_rfl) (by kernel_rfl) (HP.out _ HP1.q0 HP1.q1) (fun K hK => ?_)
    go_simp
    refine hK _ ?_
    clear hK K
    refine anyC_pure 1 rfl (by kernel_rfl) (by kernel_rfl) (by kernel_rfl) (HP.out _ HP1.q0 HP1.q1) (fun K hK => ?_)
    go_simp
    refine hK _ ?_
    clear hK K
    refine anyC_pure 2 rfl (by kernel_rfl) (by kernel_rfl) (by kernel_rfl) (HP.out _ HP1.q0 HP1.q1) (fun K hK => ?_)
    go_simp
    refine hK _ ?_
    clear hK K
    refine anyC_loud 3 (by kernel_rfl) ?_
    refine lou_of rfl (fun K hK => ?_)
    go_simp
    refine (CUp.out _).mono ?_
    rintro e w2 ⟨rfl, hb2⟩
    have HP2 := HP1.to hb2
    refine hK _ _ ⟨fun _ => HP.out _ HP2.q0 HP2.q1, ?_⟩
    clear hK K
    refine anyC_pure 4 rfl (by kernel_rfl) (by kernel_rfl) (by kernel_rfl) (HP.out _ HP2.q0 HP2.q1) (fun K hK => ?_)
    go_simp
    refine hK _ ?_
    clear hK K
    refine anyC_loud 5 (by kernel_rfl) ?_
    refine lou_of rfl (fun K hK => ?_)
    go_simp
    refine (CU2.out _).mono ?_
    rintro e w4 ⟨rfl, hb4⟩
    have HP4 := HP2.to hb4
    refine hK _ _ ⟨fun _ => HP.out _ HP4.q0 HP4.q1, ?_⟩
    clear hK K
    refine anyC_pure 6 rfl (by kernel_rfl) (by kernel_rfl) (by kernel_rfl) (HP.out _ HP4.q0 HP4.q1) (fun K hK => ?_)
    go_simp
    refine hK _ ?_
    clear hK K
    refine anyC_pure 7 rfl (by kernel_rfl) (by kernel_rfl) (by kernel_rfl) (HP.out _ HP4.q0 HP4.q1) (fun K hK => ?_)
    go_simp
    refine hK _ ?_
    clear hK K
    refine anyC_pure 8 rfl (by kernel_rfl) (by kernel_rfl) (by kernel_rfl) (HP.out _ HP4.q0 HP4.q1) (fun K hK => ?_)
    go_simp
    refine hK _ ?_
    clear hK K
    obtain ⟨fz, e0, e1, e2, e3, e4, e5, e6⟩ := HP4.fro
    have f0 := fz 0
    have f1 := fz 1
    have f2 := fz 2
    have f3 := fz 3
    have f4 := fz 4
    have f5 := fz 5
    have f6 := fz 6
    clear fz
    refine anyC_loud 9 (by kernel_rfl) ?_
    refine lou_of rfl (fun K hK => ?_)
    go_simp
    have HG : Hid _ := HF.out _ HP4 (.int .i64 2) (.string (xB (Lib.toUpperA l))) (.int .i64 0) (.int .i64 0) (.string ⟨#[]⟩) (.int .i64 (p : Int)) (.int .i64 ((p : Int) + (t.size : Int)))
    have X0 := (set7_other (w := w4) (g := w.heap.size + 1) (i := 0) (show w.heap.size ≠ w.heap.size + 1 by omega) (.int .i64 2) (.string (xB (Lib.toUpperA l))) (.int .i64 0) (.int .i64 0) (.string ⟨#[]⟩) (.int .i64 (p : Int)) (.int .i64 ((p : Int) + (t.size : Int)))).trans HP4.q0
    have X1 := (set7_other (w := w4) (g := w.heap.size + 1) (i := 1) (show w.heap.size ≠ w.heap.size + 1 by omega) (.int .i64 2) (.string (xB (Lib.toUpperA l))) (.int .i64 0) (.int .i64 0) (.string ⟨#[]⟩) (.int .i64 (p : Int)) (.int .i64 ((p : Int) + (t.size : Int)))).trans HP4.q1
    generalize (((((((w4.setCell ⟨w.heap.size + 1, 0, none⟩ (.int .i64 2)).setCell ⟨w.heap.size + 1, 1, none⟩ (.string (xB (Lib.toUpperA l)))).setCell ⟨w.heap.size + 1, 2, none⟩ (.int .i64 0)).setCell ⟨w.heap.size + 1, 3, none⟩ (.int .i64 0)).setCell ⟨w.heap.size + 1, 4, none⟩ (.string ⟨#[]⟩)).setCell ⟨w.heap.size + 1, 5, none⟩ (.int .i64 (p : Int))).setCell ⟨w.heap.size + 1, 6, none⟩ (.int .i64 ((p : Int) + (t.size : Int)))) = w5 at *
    refine hK _ _ ⟨fun _ => HP.out _ X0 X1, ?_⟩
    clear hK K e0 e1 e2 e3 e4 e5 e6 f0 f1 f2 f3 f4 f5 f6
    refine anyC_loud 10 (by kernel_rfl) ?_
    refine lou_of rfl (fun K hK => ?_)
    go_simp
    refine hK _ _ ⟨fun _ => HP.out _ X0 X1, ?_⟩
    clear hK K
    refine anyC_loud 11 (by kernel_rfl) ?_
    refine lou_of rfl (fun K hK => ?_)
    go_simp
    refine hK _ _ ⟨fun h => absurd rfl h, ?_⟩
    clear hK K
    refine anyC_done (by kernel_rfl) ?_
    clear k0 k1
    go_wp2_with fail
    refine bodyPost_ret (v := .tuple #[.agg #[.int .i64 2, .string (xB (Lib.toUpperA l)), .int .i64 0, .int .i64 0, .string ⟨#[]⟩, .int .i64 (p : Int), .int .i64 ((p : Int) + (t.size : Int))], .int .i64 0, .int .i64 0]) (results_row_two Tryz.results23 _ _ (w.heap.size + 1) 25 _ _ _ _ _ rfl rfl rfl HG.out.1 Tryz.underlying25 rfl (by kernel_rfl)) rfl ?_
    exact ⟨by rw [HR.out], HG.out.2⟩
end Go.Proofs.YtajebjkpmbehgaaGreatDoor
