/-
  CONTRACT: a number (number).
-/
import Derived.Test.YtajebjkpmbehgaaGreatDoorLexOp
import Derived.Test.YtajebjkpmbehgaaGreatDoorKeyText
namespace Go.Proofs.YtajebjkpmbehgaaGreatDoor
open Go.RowKit

/-- The program's words, as they lie. -/
def WdsV (w : World) : Prop := ∀ i, i < 23 → w.cell? ⟨0, i, none⟩ = some (.string (xB (wordsU.getD i [])))
theorem WdsV.below {w w' : World} (h : WdsV w) (hb : Below w.heap.size w w') : WdsV w' := by
  intro i hi
  have hl : 0 < w.heap.size := World.block_lt_of_cell? _ _ (h 0 (by omega))
  exact (World.cell?_of_block (a := ⟨0, i, none⟩) (hb.block 0 hl)).trans (h i hi)
/-- What the variables hold. -/
structure EnvL (w : World) : Prop where
  len : ∃ m : Int, w.cell? ⟨9, 0, none⟩ = some (.int .i64 m)
  syn : ∃ te pe, w.cell? ⟨7, 0, none⟩ = some (.iface te pe)
  rng : ∃ te pe, w.cell? ⟨8, 0, none⟩ = some (.iface te pe)
  ops : OpsV w
  wds : WdsV w
theorem EnvL.below {w w' : World} (h : EnvL w) (hb : Below w.heap.size w w') : EnvL w' := by
  refine ⟨?_, ?_, ?_, h.ops.below hb, h.wds.below hb⟩
  · obtain ⟨m, hm⟩ := h.len
    exact ⟨m, by rw [hb.cell (World.block_lt_of_cell? _ _ hm), hm]⟩
  · obtain ⟨m, k, hm⟩ := h.syn
    exact ⟨m, k, by rw [hb.cell (World.block_lt_of_cell? _ _ hm), hm]⟩
  · obtain ⟨m, k, hm⟩ := h.rng
    exact ⟨m, k, by rw [hb.cell (World.block_lt_of_cell? _ _ hm), hm]⟩
theorem atoi_inL {l : List UInt8} {v : Int} (h : Lib.atoiAll l = .ok v) : -9223372036854775808 ≤ v ∧ v ≤ 9223372036854775807 := by
  unfold Lib.atoiAll at h
  cases l with
  | nil => cases h
  | cons c r =>
    simp only at h
    split at h
    · cases h
    · cases h
    · rename_i u hu
      split at h
      · cases h
      · rename_i h1
        split at h
        · cases h
        · rename_i h2
          injection h with h
          by_cases hc : c.toNat = 45
          · rw [if_pos hc] at h
            have h3 : ¬ 9223372036854775808 < u := fun h4 => h2 ⟨hc, h4⟩
            omega
          · rw [if_neg hc] at h
            have h3 : ¬ 9223372036854775808 ≤ u := fun h4 => h1 ⟨hc, h4⟩
            omega
theorem not_nilL (N : Nat) (w : World) : (binOp BinOp.neq 63 (.iface 98 (.pointer (some ⟨N, 0, none⟩))) .nilIface).run Tryz.prog w = .ok (.bool true) w := by kernel_rfl
theorem flat_filter (l : List UInt8) : (l.flatMap fun b => if b = 95 then [] else [b]) = l.filter (fun b => !decide (b.toNat = 95)) := by
  induction l with
  | nil => rfl
  | cons b l ih =>
    rw [List.flatMap_cons, List.filter_cons, ih]
    by_cases h : b = 95
    · subst h; rfl
    · have h2 : ¬ b.toNat = 95 := fun e => h (UInt8.toNat_inj.1 e)
      rw [if_neg h, decide_eq_false h2]
      rfl
/-- The digits' text without its bars. -/
theorem bars_any (s : ByteArray) (p E : Nat) (w : World) (he : EnvL w) (hE : E ≤ s.size) (hs : s.size ≤ 600) :
    Calls Tryz.prog 38 #[.string (s.extract p E), .string ⟨#[95]⟩, .string ⟨#[]⟩] w fun e w' => e = .returned (.string (xB (((s.data.toList.drop p).take (E - p)).filter (fun b => !decide (b.toNat = 95))))) ∧ Below w.heap.size w w' := by
  obtain ⟨m, hm⟩ := he.len
  have hz : (s.extract p E).size ≤ 600 := by simp; omega
  have := Tryz.strings_ReplaceAll (s.extract p E) ⟨#[95]⟩ ⟨#[]⟩ m w (by omega) hm (by decide) (by show (s.extract p E).size + _ * 0 ≤ _; omega)
  refine this.mono fun e w' ⟨h1, h2⟩ => ⟨h1.trans ?_, h2⟩
  have e1 : (⟨#[95]⟩ : ByteArray).data.toList = [95] := rfl
  have e2 : (⟨#[]⟩ : ByteArray).data.toList = [] := rfl
  rw [e1, e2, replaceAll_one _ _ _ (by decide), flat_filter, ext_list]
  rfl
theorem atoiL_ok (t : List UInt8) (ht : t.length ≤ 600) (v : Int) (h : Lib.atoiAll t = .ok v) (w : World) : Calls Tryz.prog 37 #[.string (xB t)] w fun e w' => e = .returned (.tuple #[.int .i64 v, .nilIface]) ∧ Below w.heap.size w w' :=
  (Tryz.strconv_Atoi_ok (xB t) (by rw [xB_size]; omega) v h w).mono fun e w' ⟨h1, h2⟩ => ⟨h1, by
    rcases h2 with rfl | ⟨t, rfl⟩
    · exact Below.refl _ _
    · exact ⟨rfl, rfl, rfl, by rw [Lib.bytesWorld_size]; omega, fun j hj => Lib.bytesWorld_at_old _ _ _ _ hj⟩⟩
theorem atoiL_no (t : List UInt8) (ht : t.length ≤ 600) (h : ∀ v, Lib.atoiAll t ≠ .ok v) (w : World) (he : EnvL w) : Calls Tryz.prog 37 #[.string (xB t)] w fun e w' => ∃ (x : Int) (N : Nat), e = .returned (.tuple #[.int .i64 x, .iface 98 (.pointer (some ⟨N, 0, none⟩))]) ∧ Below w.heap.size w w' := by
  cases hA : Lib.atoiAll t with
  | ok v => exact absurd hA (h v)
  | «syntax» =>
    obtain ⟨te, pe, hv⟩ := he.syn
    exact (Tryz.strconv_Atoi_syntax (xB t) (by rw [xB_size]; omega) hA _ w hv (.inr ⟨te, pe, rfl⟩)).mono fun e w' ⟨N, h1, h2, h3, h4⟩ => ⟨_, N, h1, h4⟩
  | range =>
    obtain ⟨te, pe, hv⟩ := he.rng
    exact (Tryz.strconv_Atoi_range (xB t) (by rw [xB_size]; omega) hA _ w hv (.inr ⟨te, pe, rfl⟩)).mono fun e w' ⟨N, h1, h2, h3, h4⟩ => ⟨_, N, h1, h4⟩
set_option maxRecDepth 100000 in
set_option maxHeartbeats 2000000 in
theorem number_any (s : ByteArray) (p : Nat) (w : World) (hp : p < s.size) (hs : s.size ≤ 600) (he : EnvL w) :
    Calls Tryz.prog 20 #[.agg #[.string s, .int .i64 (p : Int)]] w fun e w' => e = .returned (resT (numT (s.data.toList.drop p)) p) ∧ Below w.heap.size w w' := by
  obtain ⟨b, hb⟩ : ∃ b, s[p]'hp = b := ⟨_, rfl⟩
  have hcons := drop_consB s p hp
  rw [hb] at hcons
  have hpz : (p : Int) < (s.size : Int) := by omega
  have hpz2 : (p : Int) ≤ 600 := by omega
  have hlen : (s.data.toList.drop p).length = s.size - p := by rw [List.length_drop]; simp
  obtain ⟨f, hf⟩ : ∃ f, (if dash (s.data.toList.drop p) then 1 else 0) = f := ⟨_, rfl⟩
  have hf1 : f = if b.toNat = 45 then 1 else 0 := by
    rw [← hf, hcons]
    show (if decide (b.toNat = 45) = true then 1 else 0) = _
    simp only [decide_eq_true_eq]
  obtain ⟨N, hN⟩ : ∃ N, f + dgN false ((s.data.toList.drop p).drop f) = N := ⟨_, rfl⟩
  have hNl : N ≤ s.size - p := by
    have h1 := dgN_le false ((s.data.toList.drop p).drop f)
    rw [List.length_drop, hlen] at h1
    have : f ≤ 1 := by rw [hf1]; split <;> omega
    omega
  have hT : numT (s.data.toList.drop p) = match Lib.atoiAll (((s.data.toList.drop p).take N).filter (fun b => !decide (b.toNat = 95))) with
      | .ok v => (some ⟨4, [], 1, v, [], 0, N⟩, 0)
      | _ => (none, 0) := by
    unfold numT
    simp only [hf, hN]
    rfl
  have CD : Hid (∀ wr, Calls Tryz.prog 36 #[.string s, .int .i64 ((p : Int) + (f : Int))] wr fun e w' => e = .returned (.int .i64 ((p + N : Nat) : Int)) ∧ Below wr.heap.size wr w') := fun wr => by
    have h1 := digitsEnd_any s (p + f) wr (by rw [hf1]; split <;> omega) hs
    rw [← List.drop_drop] at h1
    have e1 : p + f + dgN false ((s.data.toList.drop p).drop f) = p + N := by omega
    have e2 : ((p + f : Nat) : Int) = (p : Int) + (f : Int) := by omega
    rw [e1, e2] at h1
    exact h1
  have CR : Hid (∀ wr, EnvL wr → Calls Tryz.prog 38 #[.string (s.extract p (p + N)), .string ⟨#[95]⟩, .string ⟨#[]⟩] wr fun e w' => e = .returned (.string (xB (((s.data.toList.drop p).take N).filter (fun b => !decide (b.toNat = 95))))) ∧ Below wr.heap.size wr w') := fun wr h => by
    have := bars_any s p (p + N) wr h (by omega) hs
    rw [Nat.add_sub_cancel_left] at this
    exact this
  obtain ⟨F, hF⟩ : ∃ F, ((s.data.toList.drop p).take N).filter (fun b => !decide (b.toNat = 95)) = F := ⟨_, rfl⟩
  have hFl : F.length ≤ 600 := by
    rw [← hF]
    refine Nat.le_trans (List.length_filter_le _ _) ?_
    rw [List.length_take]
    omega
  rw [hF] at hT CR
  have HE : Hid (∀ wr, Below w.heap.size w wr → EnvL wr) := fun wr h => he.below h
  have CW : Hid _ := fun wr => wrongT_any (p : Int) wr
  have hNz : (p : Int) + (N : Int) ≤ (s.size : Int) := by omega
  have hex : ((p + N : Nat) : Int) = (p : Int) + (N : Int) := by omega
  have hNz0 : (p : Int) ≤ ((p + N : Nat) : Int) := by omega
  have hNz1 : ((p + N : Nat) : Int) ≤ (s.size : Int) := by omega
  have HP0 : Hid (∀ w1, _ → Pr w s p w1) := pair_all w s p
  have HF : Hid (∀ w1, Pr w s p w1 → ∀ v0 v1 v2 v3 v4 v5 v6 : Value, (((((((w1.setCell ⟨w.heap.size + 1, 0, none⟩ v0).setCell ⟨w.heap.size + 1, 1, none⟩ v1).setCell ⟨w.heap.size + 1, 2, none⟩ v2).setCell ⟨w.heap.size + 1, 3, none⟩ v3).setCell ⟨w.heap.size + 1, 4, none⟩ v4).setCell ⟨w.heap.size + 1, 5, none⟩ v5).setCell ⟨w.heap.size + 1, 6, none⟩ v6).heap[w.heap.size + 1]? = some (.cells #[v0, v1, v2, v3, v4, v5, v6] 25 (0, 0)) ∧
    Below w.heap.size w (((((((w1.setCell ⟨w.heap.size + 1, 0, none⟩ v0).setCell ⟨w.heap.size + 1, 1, none⟩ v1).setCell ⟨w.heap.size + 1, 2, none⟩ v2).setCell ⟨w.heap.size + 1, 3, none⟩ v3).setCell ⟨w.heap.size + 1, 4, none⟩ v4).setCell ⟨w.heap.size + 1, 5, none⟩ v5).setCell ⟨w.heap.size + 1, 6, none⟩ v6)) := fun w1 h => h.fin
  obtain ⟨E, hE⟩ : ∃ E, p + N = E := ⟨_, rfl⟩
  rw [hE] at CD CR hNz0 hNz1 hex
  by_cases hA : ∃ v, Lib.atoiAll F = .ok v
  · obtain ⟨v, hA⟩ := hA
    rw [hA] at hT
    simp only at hT
    have HR : Hid (resT (numT (s.data.toList.drop p)) p = .tuple #[.agg #[.int .i64 4, .string ⟨#[]⟩, .int .i64 1, .int .i64 v, .string ⟨#[]⟩, .int .i64 (p : Int), .int .i64 (E : Int)], .int .i64 0, .int .i64 0]) := by
      show resT _ _ = _
      rw [hT, resT_at, Nat.add_comm, hE]
      rfl
    have CA : Hid (∀ wr, Calls Tryz.prog 37 #[.string (xB F)] wr fun e w' => e = .returned (.tuple #[.int .i64 v, .nilIface]) ∧ Below wr.heap.size wr w') := fun wr => atoiL_ok F hFl v hA wr
    have CU : Hid (∀ wr, Calls Tryz.prog 40 #[.agg #[.string s, .int .i64 (p : Int)], .int .i64 (E : Int), .agg #[.int .i64 4, .string ⟨#[]⟩, .int .i64 1, .int .i64 v, .string ⟨#[]⟩, .int .i64 0, .int .i64 0]] wr fun e w' =>
        e = .returned (.tuple #[.agg #[.int .i64 4, .string ⟨#[]⟩, .int .i64 1, .int .i64 v, .string ⟨#[]⟩, .int .i64 (p : Int), .int .i64 (E : Int)], .int .i64 0, .int .i64 0]) ∧ Below wr.heap.size wr w') := fun wr => upTo_any s p E 4 1 v 0 0 ⟨#[]⟩ ⟨#[]⟩ wr
    obtain ⟨hv0, hv1⟩ := atoi_inL hA
    clear hcons hT hA hFl hN hNl hlen hF hf he hE hex CW hNz
    by_cases h45 : b.toNat = 45
    · rw [if_pos h45] at hf1
      subst hf1
      have CD' : Hid (∀ wr, Calls Tryz.prog 36 #[.string s, .int .i64 ((p : Int) + 1)] wr fun e w' => e = .returned (.int .i64 (E : Int)) ∧ Below wr.heap.size wr w') := CD
      have h45z : (b.toNat : Int) = 45 := by omega
      clear CD h45
      go_enter Tryz.func20, Tryz.ntmps20
      go_wp2_with (first | (go_at_call 36; with_reducible (refine (CD'.out _).mono ?_); rintro e w1 ⟨rfl, hb1⟩; have HP1 := HP0.out _ hb1; have r0 := HP1.q0; have r1 := HP1.q1; clear hb1) | (go_at_call 38; with_reducible (refine (CR.out _ (HE.out _ HP1.below)).mono ?_); rintro e w2 ⟨rfl, hb2⟩; have HP2 := HP1.to hb2; clear hb2 r0 r1) | (go_at_call 37; with_reducible (refine (CA.out _).mono ?_); rintro e w3 ⟨rfl, hb3⟩; have HP3 := HP2.to hb3; have r0 := HP3.q0; have r1 := HP3.q1; clear hb3) | (go_at_call 40; with_reducible (refine (CU.out _).mono ?_); rintro e w4 ⟨rfl, hb4⟩; have HP4 := HP3.to hb4; obtain ⟨fz, e0, e1, e2, e3, e4, e5, e6⟩ := HP4.fro; have f0 := fz 0; have f1 := fz 1; have f2 := fz 2; have f3 := fz 3; have f4 := fz 4; have f5 := fz 5; have f6 := fz 6; clear hb4 fz r0 r1))
      refine bodyPost_ret (v := .tuple #[.agg #[.int .i64 4, .string ⟨#[]⟩, .int .i64 1, .int .i64 v, .string ⟨#[]⟩, .int .i64 (p : Int), .int .i64 (E : Int)], .int .i64 0, .int .i64 0]) (results_row_two Tryz.results20 _ _ (w.heap.size + 1) 25 _ _ _ _ _ rfl rfl rfl (HF.out _ HP4 _ _ _ _ _ _ _).1 Tryz.underlying25 rfl (by kernel_rfl)) rfl ?_
      exact ⟨by rw [HR.out], (HF.out _ HP4 _ _ _ _ _ _ _).2⟩
    · rw [if_neg h45] at hf1
      subst hf1
      have CD' : Hid (∀ wr, Calls Tryz.prog 36 #[.string s, .int .i64 (p : Int)] wr fun e w' => e = .returned (.int .i64 (E : Int)) ∧ Below wr.heap.size wr w') := fun wr => by
        have := CD.out wr
        rw [show ((p : Int) + ((0 : Nat) : Int)) = (p : Int) by omega] at this
        exact this
      have h45z : ¬ (b.toNat : Int) = 45 := by omega
      have h45b : ((b.toNat : Int) == 45) = false := beq_false_of_ne h45z
      clear CD h45
      go_enter Tryz.func20, Tryz.ntmps20
      go_wp2_with (first | (go_at_call 36; with_reducible (refine (CD'.out _).mono ?_); rintro e w1 ⟨rfl, hb1⟩; have HP1 := HP0.out _ hb1; have r0 := HP1.q0; have r1 := HP1.q1; clear hb1) | (go_at_call 38; with_reducible (refine (CR.out _ (HE.out _ HP1.below)).mono ?_); rintro e w2 ⟨rfl, hb2⟩; have HP2 := HP1.to hb2; clear hb2 r0 r1) | (go_at_call 37; with_reducible (refine (CA.out _).mono ?_); rintro e w3 ⟨rfl, hb3⟩; have HP3 := HP2.to hb3; have r0 := HP3.q0; have r1 := HP3.q1; clear hb3) | (go_at_call 40; with_reducible (refine (CU.out _).mono ?_); rintro e w4 ⟨rfl, hb4⟩; have HP4 := HP3.to hb4; obtain ⟨fz, e0, e1, e2, e3, e4, e5, e6⟩ := HP4.fro; have f0 := fz 0; have f1 := fz 1; have f2 := fz 2; have f3 := fz 3; have f4 := fz 4; have f5 := fz 5; have f6 := fz 6; clear hb4 fz r0 r1))
      refine bodyPost_ret (v := .tuple #[.agg #[.int .i64 4, .string ⟨#[]⟩, .int .i64 1, .int .i64 v, .string ⟨#[]⟩, .int .i64 (p : Int), .int .i64 (E : Int)], .int .i64 0, .int .i64 0]) (results_row_two Tryz.results20 _ _ (w.heap.size + 1) 25 _ _ _ _ _ rfl rfl rfl (HF.out _ HP4 _ _ _ _ _ _ _).1 Tryz.underlying25 rfl (by kernel_rfl)) rfl ?_
      exact ⟨by rw [HR.out], (HF.out _ HP4 _ _ _ _ _ _ _).2⟩
  · have hT2 : numT (s.data.toList.drop p) = (none, 0) := by
      rw [hT]
      split
      · rename_i v hv; exact absurd ⟨v, hv⟩ hA
      · rfl
    have HR : Hid (resT (numT (s.data.toList.drop p)) p = .tuple #[.agg #[.int .i64 0, .string ⟨#[]⟩, .int .i64 0, .int .i64 0, .string ⟨#[]⟩, .int .i64 0, .int .i64 0], .int .i64 (p : Int), .int .i64 11]) := by
      show resT _ _ = _
      rw [hT2, resT_no]
      simp
    have CA : Hid (∀ wr, EnvL wr → Calls Tryz.prog 37 #[.string (xB F)] wr fun e w' => ∃ (x : Int) (N : Nat), e = .returned (.tuple #[.int .i64 x, .iface 98 (.pointer (some ⟨N, 0, none⟩))]) ∧ Below wr.heap.size wr w') := fun wr h => atoiL_no F hFl (fun v hv => hA ⟨v, hv⟩) wr h
    have hnn := fun N w => not_nilL N w
    clear hcons hT hT2 hA hFl hN hNl hlen hF hf he hE hex hNz
    by_cases h45 : b.toNat = 45
    · rw [if_pos h45] at hf1
      subst hf1
      have CD' : Hid (∀ wr, Calls Tryz.prog 36 #[.string s, .int .i64 ((p : Int) + 1)] wr fun e w' => e = .returned (.int .i64 (E : Int)) ∧ Below wr.heap.size wr w') := CD
      have h45z : (b.toNat : Int) = 45 := by omega
      clear CD h45
      go_enter Tryz.func20, Tryz.ntmps20
      go_wp2_with (first | (go_at_call 36; with_reducible (refine (CD'.out _).mono ?_); rintro e w1 ⟨rfl, hb1⟩; have HP1 := HP0.out _ hb1; have r0 := HP1.q0; have r1 := HP1.q1; clear hb1) | (go_at_call 38; with_reducible (refine (CR.out _ (HE.out _ HP1.below)).mono ?_); rintro e w2 ⟨rfl, hb2⟩; have HP2 := HP1.to hb2; clear hb2 r0 r1) | (go_at_call 37; with_reducible (refine (CA.out _ (HE.out _ HP2.below)).mono ?_); rintro e w3 ⟨ev, en, rfl, hb3⟩; have HP3 := HP2.to hb3; have r0 := HP3.q0; have r1 := HP3.q1; clear hb3) | (go_at_call 39; with_reducible (refine (CW.out _).mono ?_); rintro e w4 ⟨rfl, hb4⟩; have HP4 := HP3.to hb4; obtain ⟨fz, e0, e1, e2, e3, e4, e5, e6⟩ := HP4.fro; have f0 := fz 0; have f1 := fz 1; have f2 := fz 2; have f3 := fz 3; have f4 := fz 4; have f5 := fz 5; have f6 := fz 6; clear hb4 fz r0 r1))
      refine bodyPost_ret (v := .tuple #[.agg #[.int .i64 0, .string ⟨#[]⟩, .int .i64 0, .int .i64 0, .string ⟨#[]⟩, .int .i64 0, .int .i64 0], .int .i64 (p : Int), .int .i64 11]) (results_row_two Tryz.results20 _ _ (w.heap.size + 1) 25 _ _ _ _ _ rfl rfl rfl (HF.out _ HP4 _ _ _ _ _ _ _).1 Tryz.underlying25 rfl (by kernel_rfl)) rfl ?_
      exact ⟨by rw [HR.out], (HF.out _ HP4 _ _ _ _ _ _ _).2⟩
    · rw [if_neg h45] at hf1
      subst hf1
      have CD' : Hid (∀ wr, Calls Tryz.prog 36 #[.string s, .int .i64 (p : Int)] wr fun e w' => e = .returned (.int .i64 (E : Int)) ∧ Below wr.heap.size wr w') := fun wr => by
        have := CD.out wr
        rw [show ((p : Int) + ((0 : Nat) : Int)) = (p : Int) by omega] at this
        exact this
      have h45z : ¬ (b.toNat : Int) = 45 := by omega
      have h45b : ((b.toNat : Int) == 45) = false := beq_false_of_ne h45z
      clear CD h45
      go_enter Tryz.func20, Tryz.ntmps20
      go_wp2_with (first | (go_at_call 36; with_reducible (refine (CD'.out _).mono ?_); rintro e w1 ⟨rfl, hb1⟩; have HP1 := HP0.out _ hb1; have r0 := HP1.q0; have r1 := HP1.q1; clear hb1) | (go_at_call 38; with_reducible (refine (CR.out _ (HE.out _ HP1.below)).mono ?_); rintro e w2 ⟨rfl, hb2⟩; have HP2 := HP1.to hb2; clear hb2 r0 r1) | (go_at_call 37; with_reducible (refine (CA.out _ (HE.out _ HP2.below)).mono ?_); rintro e w3 ⟨ev, en, rfl, hb3⟩; have HP3 := HP2.to hb3; have r0 := HP3.q0; have r1 := HP3.q1; clear hb3) | (go_at_call 39; with_reducible (refine (CW.out _).mono ?_); rintro e w4 ⟨rfl, hb4⟩; have HP4 := HP3.to hb4; obtain ⟨fz, e0, e1, e2, e3, e4, e5, e6⟩ := HP4.fro; have f0 := fz 0; have f1 := fz 1; have f2 := fz 2; have f3 := fz 3; have f4 := fz 4; have f5 := fz 5; have f6 := fz 6; clear hb4 fz r0 r1))
      refine bodyPost_ret (v := .tuple #[.agg #[.int .i64 0, .string ⟨#[]⟩, .int .i64 0, .int .i64 0, .string ⟨#[]⟩, .int .i64 0, .int .i64 0], .int .i64 (p : Int), .int .i64 11]) (results_row_two Tryz.results20 _ _ (w.heap.size + 1) 25 _ _ _ _ _ rfl rfl rfl (HF.out _ HP4 _ _ _ _ _ _ _).1 Tryz.underlying25 rfl (by kernel_rfl)) rfl ?_
      exact ⟨by rw [HR.out], (HF.out _ HP4 _ _ _ _ _ _ _).2⟩
end Go.Proofs.YtajebjkpmbehgaaGreatDoor
