/-
  THE WALK: the digits of a number, with noughts ahead of them, and with bars between.
-/
import Derived.Test.YtajebjkpmbehgaaDoorLexerJoinsWalk
import Derived.Test.YtajebjkpmbehgaaDoorLexNums
import Derived.Test.YtajebjkpmbehgaaDoorLexDig
namespace Go.Proofs.YtajebjkpmbehgaaDoor
open Go.RowKit

/-- What is read of two tokens, the first of them a number. -/
theorem lex_two (s : ByteArray) (w : World) (he : EnvL w) (n : Int) (hx : lexT s.data.toList = (some (numTs n s.size), 0, 0)) : Calls Tryd.prog 7 #[.string s] w fun x w' => ∃ g cap, x = .returned (.tuple #[.slice (some ⟨g, 0, none⟩) 2 cap, .int .i64 0, .int .i64 0]) ∧ (w'.cell? ⟨g, 0, none⟩ = some (.int .i64 4) ∧ w'.cell? ⟨g, 2, none⟩ = some (.int .i64 1) ∧ w'.cell? ⟨g, 3, none⟩ = some (.int .i64 n) ∧ w'.cell? ⟨g, 4, none⟩ = some (.string ⟨#[]⟩) ∧ w'.cell? ⟨g, 6, none⟩ = some (.int .i64 (s.size : Int))) ∧ Below w.heap.size w w' := by
  refine (lex_some s w he hx).mono ?_
  rintro x w' ⟨ao, cap, rfl, hT, hB⟩
  obtain ⟨g, rfl, h0⟩ := hT 0 _ rfl
  exact ⟨g, cap, rfl, ⟨h0 0 _ rfl, h0 2 _ rfl, h0 3 _ rfl, h0 4 _ rfl, h0 6 _ rfl⟩, hB⟩
theorem brk_len (f : Nat → Bool) : ∀ (l : List UInt8) (i : Nat), (brk f i l).length ≤ 2 * l.length
  | [], _ => by simp [brk]
  | c :: r, i => by
    have := brk_len f r (i + 1)
    simp only [brk, List.length_cons]
    split <;> simp only [List.length_cons] <;> omega
theorem xB_app (a b : List UInt8) : xB a ++ xB b = xB (a ++ b) := by
  have h1 : (xB a ++ xB b).data.toList = a ++ b := by simp [xB]
  have h2 : ∀ s : ByteArray, s = xB s.data.toList := fun s => rfl
  rw [h2 (xB a ++ xB b), h1]
theorem cells_keep {w w1 wx : World} {g : Nat} {a b c : Value} (h1 : Below w.heap.size w w1) (h2 : Below w1.heap.size w1 wx) (c2 : wx.cell? ⟨g, 2, none⟩ = some a) (c3 : wx.cell? ⟨g, 3, none⟩ = some b) (c4 : wx.cell? ⟨g, 4, none⟩ = some c) : ∀ wr, Below wx.heap.size wx wr → (wr.cell? ⟨g, 2, none⟩ = some a ∧ wr.cell? ⟨g, 3, none⟩ = some b ∧ wr.cell? ⟨g, 4, none⟩ = some c) ∧ Below w.heap.size w wr := fun wr h => by
  have k : ∀ (j : Nat) (v : Value), wx.cell? ⟨g, j, none⟩ = some v → wr.cell? ⟨g, j, none⟩ = some v := fun j v h2 => (h.cell (p := ⟨g, j, none⟩) (World.block_lt_of_cell? _ _ h2)).trans h2
  have hx := h1.trans (h2.mono h1.size)
  exact ⟨⟨k _ _ c2, k _ _ c3, k _ _ c4⟩, hx.trans (h.mono hx.size)⟩
namespace lexerNumbers
set_option maxRecDepth 100000 in
set_option maxHeartbeats 4000000 in
theorem walk (n : Int) (zeros bars : Nat) (w : World) (hn : -9223372036854775808 ≤ n ∧ n ≤ 9223372036854775807) (hz : zeros ≤ 18446744073709551615) (_hbars : bars ≤ 18446744073709551615) (he : EnvL w) :
    Calls Tryd.prog 5 #[.int .i64 n, .int .u64 (zeros : Int), .int .u64 (bars : Int)] w fun e w' => e = .returned (.bool true) ∧ Below w.heap.size w w' := by
  have L : Hid (∀ wr, Below w.heap.size w wr → Calls Tryd.prog 8 #[] wr fun e w' => e = .returned (.bool true) ∧ Below wr.heap.size wr w') := fun wr hb => lives18_any wr (he.below hb)
  have D : Hid (∀ wr, Calls Tryd.prog 9 #[.int .i64 n] wr fun e w' => e = .returned (.string (xB (Lib.itoa n))) ∧ Below wr.heap.size wr w') := fun wr => digitsX_any n hn wr
  have L1 : Hid (∀ wr, Below w.heap.size w wr → Calls Tryd.prog 7 #[.string (xB (Lib.itoa n))] wr fun x w' => ∃ g cap, x = .returned (.tuple #[.slice (some ⟨g, 0, none⟩) 2 cap, .int .i64 0, .int .i64 0]) ∧ (w'.cell? ⟨g, 0, none⟩ = some (.int .i64 4) ∧ w'.cell? ⟨g, 2, none⟩ = some (.int .i64 1) ∧ w'.cell? ⟨g, 3, none⟩ = some (.int .i64 n) ∧ w'.cell? ⟨g, 4, none⟩ = some (.string ⟨#[]⟩) ∧ w'.cell? ⟨g, 6, none⟩ = some (.int .i64 ((xB (Lib.itoa n)).size : Int))) ∧ Below wr.heap.size wr w') := fun wr hb => lex_two (xB (Lib.itoa n)) wr (he.below hb) n (lex_itoa n hn)
  have hzm : ((zeros : Int)).tmod 40 = ((zeros % 40 : Nat) : Int) := by rw [Int.tmod_eq_emod_of_nonneg (by omega)]; omega
  have hlD : (Lib.decDigits n.natAbs).length ≤ 20 := dec_max 20 n.natAbs (by omega) (by omega)
  have hsD : (if n < 0 then (xB (Lib.itoa n)).extract 1 (xB (Lib.itoa n)).size else xB (Lib.itoa n)) = xB (Lib.decDigits n.natAbs) := by
    have h0 := itoa_sgn n
    by_cases h : n < 0
    · rw [if_pos h]
      have h1 : sgn n = [45] := by unfold sgn; rw [decide_eq_true h]; rfl
      have h2 : ((xB (Lib.itoa n)).extract 1 (xB (Lib.itoa n)).size).data.toList = Lib.decDigits n.natAbs := by
        rw [ext_end, xB_list, h0, h1]
        rfl
      rw [← h2]
      rfl
    · rw [if_neg h]
      have h1 : sgn n = [] := by unfold sgn; rw [decide_eq_false h]; rfl
      rw [h0, h1]
      rfl
  have hpos : 1 ≤ (xB (Lib.itoa n)).size := by
    rw [xB_size, itoa_sgn, List.length_append]
    have := (dec_dg (n.natAbs + 1) n.natAbs (Nat.lt_succ_self _)).1
    have h3 : (Lib.decDigits n.natAbs).length ≠ 0 := fun h => this (List.eq_nil_of_length_eq_zero h)
    omega
  have hsg : xB (sgn n) = if n < 0 then ⟨#[45]⟩ else ⟨#[]⟩ := by
    unfold sgn
    by_cases h : n < 0
    · rw [decide_eq_true h, if_pos h]; rfl
    · rw [decide_eq_false h, if_neg h]; rfl
  obtain ⟨q, hq⟩ : ∃ q, xB (Lib.itoa n) = q := ⟨_, rfl⟩
  rw [hq] at D L1 hsD hpos
  have hposz : (1 : Int) ≤ (q.size : Int) := by omega
  -- behind the first two loops
  have H8 : Hid (∀ (Z : Nat), Z < 40 → ∀ f : Nat → Bool, f 0 = false → lexT (sgn n ++ brk f 0 (List.replicate Z 48 ++ Lib.decDigits n.natAbs)) = (some (numTs n (sgn n ++ brk f 0 (List.replicate Z 48 ++ Lib.decDigits n.natAbs)).length), 0, 0)) := fun Z hZ f hf => lex_digits n hn Z hZ f hf
  by_cases hneg : n < 0
  · rw [if_pos hneg] at hsD hsg
    clear hq
    go_enter Tryd.func5, Tryd.ntmps5
    go_wp2_with (first
      | (go_at_call 9; refine (D.out _).mono ?_; rintro x w1 ⟨rfl, hb1⟩)
      | (go_at_call 7; refine (L1.out _ hb1).mono ?_; rintro x w2 ⟨g1, cap1, rfl, ⟨c0, c2, c3, c4, c6⟩, hb2⟩; have hb12 := hb1.trans (hb2.mono hb1.size)))
    go_quiet (fail)
    go_wp2_with fail
    have HC : Hid (∀ wr, Below (w2.drewN nq).heap.size (w2.drewN nq) wr → (wr.cell? ⟨g1, 2, none⟩ = some (.int .i64 1) ∧ wr.cell? ⟨g1, 3, none⟩ = some (.int .i64 n) ∧ wr.cell? ⟨g1, 4, none⟩ = some (.string ⟨#[]⟩)) ∧ Below w.heap.size w wr) := fun wr h => by
      have k : ∀ (j : Nat) (v : Value), w2.cell? ⟨g1, j, none⟩ = some v → wr.cell? ⟨g1, j, none⟩ = some v := fun j v h2 => (h.cell (p := ⟨g1, j, none⟩) (World.block_lt_of_cell? _ _ h2)).trans h2
      have hx : Below w.heap.size w (w2.drewN nq) := ⟨hb12.os, hb12.tape, hb12.output, hb12.size, hb12.block⟩
      exact ⟨⟨k _ _ c2, k _ _ c3, k _ _ c4⟩, hx.trans (h.mono hx.size)⟩
    clear c0 c2 c3 c4 c6 hb1 hb2 hb12
    generalize w2.drewN nq = wx at *
    obtain ⟨Z, hZ⟩ : ∃ Z, zeros % 40 = Z := ⟨_, rfl⟩
    rw [hZ] at hzm
    have hZ40 : Z < 40 := by omega
    obtain ⟨dl, hdl⟩ : ∃ dl, Lib.decDigits n.natAbs = dl := ⟨_, rfl⟩
    rw [hdl] at hlD H8
    go_loopw [7, 12] (fun s7 s12 wr => wr = wx ∧ ∃ k : Nat, k ≤ Z ∧ s12 = .int .u64 (k : Int) ∧ s7 = .string (xB (List.replicate k 48 ++ dl))) (fun _ s12 _ => Z - (intOf s12).toNat)
    case atStart => exact ⟨rfl, 0, Nat.zero_le _, rfl, by rw [hdl]; rfl⟩
    case round =>
      obtain ⟨rfl, k, hk, rfl, rfl⟩ := hrel
      have hcat : (⟨#[48]⟩ : ByteArray) ++ xB (List.replicate k 48 ++ dl) = xB (List.replicate (k + 1) 48 ++ dl) := by
        have h1 : ((⟨#[48]⟩ : ByteArray) ++ xB (List.replicate k 48 ++ dl)).data.toList = List.replicate (k + 1) 48 ++ dl := by
          rw [List.replicate_succ]
          simp [xB]
        rw [← h1]
        rfl
      have hbs : (xB (List.replicate k 48 ++ dl)).size ≤ 60 := by rw [xB_size, List.length_append, List.length_replicate]; omega
      rcases Nat.lt_or_ge k Z with hlt | hge
      · have hkz : (k : Int) < (Z : Int) := by omega
        have hy : ¬ (9223372036854775807 < 1 + (xB (List.replicate k 48 ++ dl)).size) := by omega
        go_wp2_with fail
        go_roundw
        case rel => exact ⟨trivial, k + 1, by omega, by go_num, rfl⟩
        case measure => simp [intOf]; omega
      · obtain rfl : k = Z := by omega
        clear hcat
        have h8 := H8.out k hZ40
        obtain ⟨SS, hSS⟩ : ∃ SS, List.replicate k 48 ++ dl = SS := ⟨_, rfl⟩
        rw [hSS] at h8 hbs
        have hSS2 : Hid (List.replicate k 48 ++ dl = SS) := hSS
        have H9 : Hid (∀ f : Nat → Bool, f 0 = false → lexT (sgn n ++ brk f 0 SS) = (some (numTs n (sgn n ++ brk f 0 SS).length), 0, 0)) := h8
        obtain ⟨f, hf⟩ : ∃ f : Nat → Bool, ∀ i, f i = (decide (0 < i) && (bits BinOp.and IntKind.u64 ((bars : Int) / 2 ^ (i % 60)) 1 == 1)) := ⟨_, fun _ => rfl⟩
        have HF : Hid (∀ i, f i = (decide (0 < i) && (bits BinOp.and IntKind.u64 ((bars : Int) / 2 ^ (i % 60)) 1 == 1))) := hf
        have HBl : Hid (∀ l : List UInt8, (brk f 0 l).length ≤ 2 * l.length) := fun l => brk_len f l 0
        have HSl : Hid ((xB SS).size = SS.length) := rfl
        have hsl2 : SS.length ≤ 60 := by rw [← xB_size]; exact hbs
        clear h8 H8 hf hSS
        go_wp2_with fail
        rw [hSS2.out]
        go_loopw [11, 13] (fun s11 s13 w5 => w5 = wr ∧ ∃ i : Nat, i ≤ SS.length ∧ s13 = .int .i64 (i : Int) ∧ s11 = .string (xB (sgn n ++ brk f 0 (SS.take i)))) (fun _ s13 _ => SS.length - (intOf s13).toNat)
        case atStart => exact ⟨rfl, 0, Nat.zero_le _, rfl, by rw [List.take_zero]; show _ = Value.string (xB (sgn n ++ [])); rw [List.append_nil, hsg]⟩
        case round =>
          obtain ⟨rfl, i, hi, rfl, rfl⟩ := hrel
          rcases Nat.lt_or_ge i SS.length with hlt | hge
          · obtain ⟨c, hc⟩ : ∃ c, SS[i]? = some c := ⟨_, List.getElem?_eq_getElem hlt⟩
            have htk : SS.take (i + 1) = SS.take i ++ [c] := by rw [List.take_add_one, hc]; rfl
            have hex : (xB SS).extract i (i + 1) = xB [c] := by
              have h1 : ((xB SS).extract i (i + 1)).data.toList = [c] := by
                rw [ext_list, xB_list, Nat.add_sub_cancel_left]
                have := List.drop_eq_getElem_cons hlt
                rw [this]
                rw [List.getElem?_eq_getElem hlt] at hc
                cases hc
                rfl
              rw [← h1]
              rfl
            have HT : Hid (sgn n ++ brk f 0 (SS.take (i + 1)) = (sgn n ++ brk f 0 (SS.take i)) ++ (if f i then [95, c] else [c])) := by
              show _ = _
              rw [htk, brk_snoc, List.length_take, Nat.min_eq_left (by omega), Nat.zero_add, List.append_assoc]
            have hiz : (i : Int) < ((xB SS).size : Int) := by rw [HSl.out]; omega
            have hi60 : (i : Int) ≤ 60 := by omega
            have hTl : (xB (sgn n ++ brk f 0 (SS.take i))).size ≤ 200 := by
              have h1 := HBl.out (SS.take i)
              have h2 : (sgn n).length ≤ 1 := by unfold sgn; split <;> simp
              rw [xB_size, List.length_append]
              rw [List.length_take] at h1
              omega
            have hc1 : (xB [c]).size = 1 := rfl
            have HFi := HF.out i
            obtain ⟨T, hTT⟩ : ∃ T, sgn n ++ brk f 0 (SS.take i) = T := ⟨_, rfl⟩
            rw [hTT] at HT hTl ⊢
            have y1 : ¬ (9223372036854775807 < (xB T).size + 1) := by omega
            have y2 : ¬ (9223372036854775807 < (xB T).size + 1 + (xB [c]).size) := by omega
            have y3 : ¬ (9223372036854775807 < (xB T).size + (xB [c]).size) := by omega
            by_cases h0 : 0 < i
            · have hrem : ((i : Int)).tmod 60 = ((i % 60 : Nat) : Int) := by rw [Int.tmod_eq_emod_of_nonneg (by omega)]; omega
              have h0z : (0 : Int) < (i : Int) := by omega
              have hm60 : i % 60 < 60 := Nat.mod_lt _ (by omega)
              rw [decide_eq_true h0, Bool.true_and] at HFi
              cases hB : (bits BinOp.and IntKind.u64 ((bars : Int) / 2 ^ (i % 60)) 1 == 1)
              · rw [hB] at HFi
                rw [HFi, if_neg (by decide)] at HT
                have HT2 : Hid (xB T ++ xB [c] = xB (sgn n ++ brk f 0 (SS.take (i + 1)))) := by
                  show _ = _
                  rw [HT.out]
                  exact xB_app T [c]
                clear htk hc hTT HFi HT
                generalize i % 60 = j at *
                go_wp2_with fail
                go_roundw
                case rel => exact ⟨trivial, i + 1, by omega, by go_num, congrArg Value.string HT2.out⟩
                case measure => simp [intOf]; omega
              · rw [hB] at HFi
                rw [HFi, if_pos rfl] at HT
                have HT2 : Hid (xB T ++ ⟨#[95]⟩ ++ xB [c] = xB (sgn n ++ brk f 0 (SS.take (i + 1)))) := by
                  show _ = _
                  rw [HT.out]
                  have h1 : xB T ++ (⟨#[95]⟩ : ByteArray) = xB (T ++ [95]) := xB_app T [95]
                  rw [h1, xB_app, List.append_assoc]
                  rfl
                clear htk hc hTT HFi HT
                generalize i % 60 = j at *
                go_wp2_with fail
                go_roundw
                case rel => exact ⟨trivial, i + 1, by omega, by go_num, congrArg Value.string HT2.out⟩
                case measure => simp [intOf]; omega
            · obtain rfl : i = 0 := by omega
              have hB0 : f 0 = false := HFi
              rw [hB0, if_neg (by decide)] at HT
              have HT2 : Hid (xB T ++ xB [c] = xB (sgn n ++ brk f 0 (SS.take (0 + 1)))) := by
                show _ = _
                rw [HT.out]
                exact xB_app T [c]
              clear htk hc hTT HFi HT
              go_wp2_with fail
              go_roundw
              case rel => exact ⟨trivial, 1, by omega, by first | rfl | go_num, congrArg Value.string HT2.out⟩
              case measure => simp [intOf]; omega
          · obtain rfl : i = SS.length := by omega
            rw [List.take_of_length_le (Nat.le_refl _)]
            obtain ⟨X, hX⟩ : ∃ X, sgn n ++ brk f 0 SS = X := ⟨_, rfl⟩
            have hXl := H9.out f (by rw [HF.out]; rfl)
            rw [hX] at hXl ⊢
            have L2 : Hid (∀ wr, Below w.heap.size w wr → Calls Tryd.prog 7 #[.string (xB X)] wr fun x w' => ∃ g cap, x = .returned (.tuple #[.slice (some ⟨g, 0, none⟩) 2 cap, .int .i64 0, .int .i64 0]) ∧ (w'.cell? ⟨g, 0, none⟩ = some (.int .i64 4) ∧ w'.cell? ⟨g, 2, none⟩ = some (.int .i64 1) ∧ w'.cell? ⟨g, 3, none⟩ = some (.int .i64 n) ∧ w'.cell? ⟨g, 4, none⟩ = some (.string ⟨#[]⟩) ∧ w'.cell? ⟨g, 6, none⟩ = some (.int .i64 ((xB X).size : Int))) ∧ Below wr.heap.size wr w') := fun wr hb => lex_two (xB X) wr (he.below hb) n hXl
            clear hX hXl H9 HF HBl
            have hiz : ¬ (SS.length : Int) < ((xB SS).size : Int) := by rw [HSl.out]; omega
            go_wp2_with (go_at_call 7; refine (L2.out _ (HC.out _ (Below.refl _ _)).2).mono ?_; rintro x w3 ⟨g2, cap2, rfl, hcs, hb3⟩)
            obtain ⟨d0, d2, d3, d4, d6⟩ := hcs
            obtain ⟨⟨e2, e3, e4⟩, hbw⟩ := HC.out w3 hb3
            have kk : ∀ (g j : Nat) (v : Value), w3.cell? ⟨g, j, none⟩ = some v → ∀ q : Cl w3.heap.size w3, q.u.cell? ⟨g, j, none⟩ = some v := fun g j v h q => q.cell (World.block_lt_of_cell? _ _ h) h
            have k1 := kk _ _ _ e2
            have k2 := kk _ _ _ e3
            have k3 := kk _ _ _ e4
            have k4 := kk _ _ _ d2
            have k5 := kk _ _ _ d3
            have k6 := kk _ _ _ d4
            have k7 := kk _ _ _ d6
            have HLq : Hid (∀ q : Cl w3.heap.size w3, Calls Tryd.prog 8 #[] q.u fun e w'' => e = .returned (.bool true) ∧ ∃ q' : Cl w3.heap.size w3, w'' = q'.u) := fun q => Cl.calls (Nat.le_refl _) (L.out q.u (hbw.trans (q.h.mono hbw.size)))
            have HE : Hid (∀ q : Cl w3.heap.size w3, Below w.heap.size w q.u) := fun q => hbw.trans (q.h.mono hbw.size)
            clear kk d0 d2 d3 d4 d6 e2 e3 e4 hbw hb3
            haveI := Cl.inh w3.heap.size w3
            refine wp_region_cl w3.heap.size (by kernel_rfl) (by kernel_rfl) ?_
            repeat (quiet_step (first | (go_at_call 8; exact HLq.out _)))
            refine wpQuiet_nil ?_
            rintro _ ⟨q9, rfl⟩
            go_wp2_with fail
            go_ret
            exact ⟨rfl, HE.out q9⟩
  · rw [if_neg hneg] at hsD hsg
    clear hq
    rw [hsD] at D L1 hpos hposz
    clear hsD
    go_enter Tryd.func5, Tryd.ntmps5
    go_wp2_with (first
      | (go_at_call 9; refine (D.out _).mono ?_; rintro x w1 ⟨rfl, hb1⟩)
      | (go_at_call 7; refine (L1.out _ hb1).mono ?_; rintro x wx ⟨g1, cap1, rfl, ⟨c0, c2, c3, c4, c6⟩, hb2⟩; have HC : ∀ wr, Below wx.heap.size wx wr → (wr.cell? ⟨g1, 2, none⟩ = some (.int .i64 1) ∧ wr.cell? ⟨g1, 3, none⟩ = some (.int .i64 n) ∧ wr.cell? ⟨g1, 4, none⟩ = some (.string ⟨#[]⟩)) ∧ Below w.heap.size w wr := cells_keep hb1 hb2 c2 c3 c4))
    have HC : Hid (∀ wr, Below wx.heap.size wx wr → (wr.cell? ⟨g1, 2, none⟩ = some (.int .i64 1) ∧ wr.cell? ⟨g1, 3, none⟩ = some (.int .i64 n) ∧ wr.cell? ⟨g1, 4, none⟩ = some (.string ⟨#[]⟩)) ∧ Below w.heap.size w wr) := HC
    clear c0 c2 c3 c4 c6 hb1 hb2
    obtain ⟨Z, hZ⟩ : ∃ Z, zeros % 40 = Z := ⟨_, rfl⟩
    rw [hZ] at hzm
    have hZ40 : Z < 40 := by omega
    obtain ⟨dl, hdl⟩ : ∃ dl, Lib.decDigits n.natAbs = dl := ⟨_, rfl⟩
    rw [hdl] at hlD H8
    go_loopw [7, 12] (fun s7 s12 wr => wr = wx ∧ ∃ k : Nat, k ≤ Z ∧ s12 = .int .u64 (k : Int) ∧ s7 = .string (xB (List.replicate k 48 ++ dl))) (fun _ s12 _ => Z - (intOf s12).toNat)
    case atStart => exact ⟨rfl, 0, Nat.zero_le _, rfl, by rw [hdl]; rfl⟩
    case round =>
      obtain ⟨rfl, k, hk, rfl, rfl⟩ := hrel
      have hcat : (⟨#[48]⟩ : ByteArray) ++ xB (List.replicate k 48 ++ dl) = xB (List.replicate (k + 1) 48 ++ dl) := by
        have h1 : ((⟨#[48]⟩ : ByteArray) ++ xB (List.replicate k 48 ++ dl)).data.toList = List.replicate (k + 1) 48 ++ dl := by
          rw [List.replicate_succ]
          simp [xB]
        rw [← h1]
        rfl
      have hbs : (xB (List.replicate k 48 ++ dl)).size ≤ 60 := by rw [xB_size, List.length_append, List.length_replicate]; omega
      rcases Nat.lt_or_ge k Z with hlt | hge
      · have hkz : (k : Int) < (Z : Int) := by omega
        have hy : ¬ (9223372036854775807 < 1 + (xB (List.replicate k 48 ++ dl)).size) := by omega
        go_wp2_with fail
        go_roundw
        case rel => exact ⟨trivial, k + 1, by omega, by go_num, rfl⟩
        case measure => simp [intOf]; omega
      · obtain rfl : k = Z := by omega
        clear hcat
        have h8 := H8.out k hZ40
        obtain ⟨SS, hSS⟩ : ∃ SS, List.replicate k 48 ++ dl = SS := ⟨_, rfl⟩
        rw [hSS] at h8 hbs
        have hSS2 : Hid (List.replicate k 48 ++ dl = SS) := hSS
        have H9 : Hid (∀ f : Nat → Bool, f 0 = false → lexT (sgn n ++ brk f 0 SS) = (some (numTs n (sgn n ++ brk f 0 SS).length), 0, 0)) := h8
        obtain ⟨f, hf⟩ : ∃ f : Nat → Bool, ∀ i, f i = (decide (0 < i) && (bits BinOp.and IntKind.u64 ((bars : Int) / 2 ^ (i % 60)) 1 == 1)) := ⟨_, fun _ => rfl⟩
        have HF : Hid (∀ i, f i = (decide (0 < i) && (bits BinOp.and IntKind.u64 ((bars : Int) / 2 ^ (i % 60)) 1 == 1))) := hf
        have HBl : Hid (∀ l : List UInt8, (brk f 0 l).length ≤ 2 * l.length) := fun l => brk_len f l 0
        have HSl : Hid ((xB SS).size = SS.length) := rfl
        have hsl2 : SS.length ≤ 60 := by rw [← xB_size]; exact hbs
        clear h8 H8 hf hSS
        go_wp2_with fail
        rw [hSS2.out]
        go_loopw [11, 13] (fun s11 s13 w5 => w5 = wr ∧ ∃ i : Nat, i ≤ SS.length ∧ s13 = .int .i64 (i : Int) ∧ s11 = .string (xB (sgn n ++ brk f 0 (SS.take i)))) (fun _ s13 _ => SS.length - (intOf s13).toNat)
        case atStart => exact ⟨rfl, 0, Nat.zero_le _, rfl, by rw [List.take_zero]; show _ = Value.string (xB (sgn n ++ [])); rw [List.append_nil, hsg]⟩
        case round =>
          obtain ⟨rfl, i, hi, rfl, rfl⟩ := hrel
          rcases Nat.lt_or_ge i SS.length with hlt | hge
          · obtain ⟨c, hc⟩ : ∃ c, SS[i]? = some c := ⟨_, List.getElem?_eq_getElem hlt⟩
            have htk : SS.take (i + 1) = SS.take i ++ [c] := by rw [List.take_add_one, hc]; rfl
            have hex : (xB SS).extract i (i + 1) = xB [c] := by
              have h1 : ((xB SS).extract i (i + 1)).data.toList = [c] := by
                rw [ext_list, xB_list, Nat.add_sub_cancel_left]
                have := List.drop_eq_getElem_cons hlt
                rw [this]
                rw [List.getElem?_eq_getElem hlt] at hc
                cases hc
                rfl
              rw [← h1]
              rfl
            have HT : Hid (sgn n ++ brk f 0 (SS.take (i + 1)) = (sgn n ++ brk f 0 (SS.take i)) ++ (if f i then [95, c] else [c])) := by
              show _ = _
              rw [htk, brk_snoc, List.length_take, Nat.min_eq_left (by omega), Nat.zero_add, List.append_assoc]
            have hiz : (i : Int) < ((xB SS).size : Int) := by rw [HSl.out]; omega
            have hi60 : (i : Int) ≤ 60 := by omega
            have hTl : (xB (sgn n ++ brk f 0 (SS.take i))).size ≤ 200 := by
              have h1 := HBl.out (SS.take i)
              have h2 : (sgn n).length ≤ 1 := by unfold sgn; split <;> simp
              rw [xB_size, List.length_append]
              rw [List.length_take] at h1
              omega
            have hc1 : (xB [c]).size = 1 := rfl
            have HFi := HF.out i
            obtain ⟨T, hTT⟩ : ∃ T, sgn n ++ brk f 0 (SS.take i) = T := ⟨_, rfl⟩
            rw [hTT] at HT hTl ⊢
            have y1 : ¬ (9223372036854775807 < (xB T).size + 1) := by omega
            have y2 : ¬ (9223372036854775807 < (xB T).size + 1 + (xB [c]).size) := by omega
            have y3 : ¬ (9223372036854775807 < (xB T).size + (xB [c]).size) := by omega
            by_cases h0 : 0 < i
            · have hrem : ((i : Int)).tmod 60 = ((i % 60 : Nat) : Int) := by rw [Int.tmod_eq_emod_of_nonneg (by omega)]; omega
              have h0z : (0 : Int) < (i : Int) := by omega
              have hm60 : i % 60 < 60 := Nat.mod_lt _ (by omega)
              rw [decide_eq_true h0, Bool.true_and] at HFi
              cases hB : (bits BinOp.and IntKind.u64 ((bars : Int) / 2 ^ (i % 60)) 1 == 1)
              · rw [hB] at HFi
                rw [HFi, if_neg (by decide)] at HT
                have HT2 : Hid (xB T ++ xB [c] = xB (sgn n ++ brk f 0 (SS.take (i + 1)))) := by
                  show _ = _
                  rw [HT.out]
                  exact xB_app T [c]
                clear htk hc hTT HFi HT
                generalize i % 60 = j at *
                go_wp2_with fail
                go_roundw
                case rel => exact ⟨trivial, i + 1, by omega, by go_num, congrArg Value.string HT2.out⟩
                case measure => simp [intOf]; omega
              · rw [hB] at HFi
                rw [HFi, if_pos rfl] at HT
                have HT2 : Hid (xB T ++ ⟨#[95]⟩ ++ xB [c] = xB (sgn n ++ brk f 0 (SS.take (i + 1)))) := by
                  show _ = _
                  rw [HT.out]
                  have h1 : xB T ++ (⟨#[95]⟩ : ByteArray) = xB (T ++ [95]) := xB_app T [95]
                  rw [h1, xB_app, List.append_assoc]
                  rfl
                clear htk hc hTT HFi HT
                generalize i % 60 = j at *
                go_wp2_with fail
                go_roundw
                case rel => exact ⟨trivial, i + 1, by omega, by go_num, congrArg Value.string HT2.out⟩
                case measure => simp [intOf]; omega
            · obtain rfl : i = 0 := by omega
              have hB0 : f 0 = false := HFi
              rw [hB0, if_neg (by decide)] at HT
              have HT2 : Hid (xB T ++ xB [c] = xB (sgn n ++ brk f 0 (SS.take (0 + 1)))) := by
                show _ = _
                rw [HT.out]
                exact xB_app T [c]
              clear htk hc hTT HFi HT
              go_wp2_with fail
              go_roundw
              case rel => exact ⟨trivial, 1, by omega, by first | rfl | go_num, congrArg Value.string HT2.out⟩
              case measure => simp [intOf]; omega
          · obtain rfl : i = SS.length := by omega
            rw [List.take_of_length_le (Nat.le_refl _)]
            obtain ⟨X, hX⟩ : ∃ X, sgn n ++ brk f 0 SS = X := ⟨_, rfl⟩
            have hXl := H9.out f (by rw [HF.out]; rfl)
            rw [hX] at hXl ⊢
            have L2 : Hid (∀ wr, Below w.heap.size w wr → Calls Tryd.prog 7 #[.string (xB X)] wr fun x w' => ∃ g cap, x = .returned (.tuple #[.slice (some ⟨g, 0, none⟩) 2 cap, .int .i64 0, .int .i64 0]) ∧ (w'.cell? ⟨g, 0, none⟩ = some (.int .i64 4) ∧ w'.cell? ⟨g, 2, none⟩ = some (.int .i64 1) ∧ w'.cell? ⟨g, 3, none⟩ = some (.int .i64 n) ∧ w'.cell? ⟨g, 4, none⟩ = some (.string ⟨#[]⟩) ∧ w'.cell? ⟨g, 6, none⟩ = some (.int .i64 ((xB X).size : Int))) ∧ Below wr.heap.size wr w') := fun wr hb => lex_two (xB X) wr (he.below hb) n hXl
            clear hX hXl H9 HF HBl
            have hiz : ¬ (SS.length : Int) < ((xB SS).size : Int) := by rw [HSl.out]; omega
            go_wp2_with (go_at_call 7; refine (L2.out _ (HC.out _ (Below.refl _ _)).2).mono ?_; rintro x w3 ⟨g2, cap2, rfl, hcs, hb3⟩)
            obtain ⟨d0, d2, d3, d4, d6⟩ := hcs
            obtain ⟨⟨e2, e3, e4⟩, hbw⟩ := HC.out w3 hb3
            have kk : ∀ (g j : Nat) (v : Value), w3.cell? ⟨g, j, none⟩ = some v → ∀ q : Cl w3.heap.size w3, q.u.cell? ⟨g, j, none⟩ = some v := fun g j v h q => q.cell (World.block_lt_of_cell? _ _ h) h
            have k1 := kk _ _ _ e2
            have k2 := kk _ _ _ e3
            have k3 := kk _ _ _ e4
            have k4 := kk _ _ _ d2
            have k5 := kk _ _ _ d3
            have k6 := kk _ _ _ d4
            have k7 := kk _ _ _ d6
            have HLq : Hid (∀ q : Cl w3.heap.size w3, Calls Tryd.prog 8 #[] q.u fun e w'' => e = .returned (.bool true) ∧ ∃ q' : Cl w3.heap.size w3, w'' = q'.u) := fun q => Cl.calls (Nat.le_refl _) (L.out q.u (hbw.trans (q.h.mono hbw.size)))
            have HE : Hid (∀ q : Cl w3.heap.size w3, Below w.heap.size w q.u) := fun q => hbw.trans (q.h.mono hbw.size)
            clear kk d0 d2 d3 d4 d6 e2 e3 e4 hbw hb3
            haveI := Cl.inh w3.heap.size w3
            refine wp_region_cl w3.heap.size (by kernel_rfl) (by kernel_rfl) ?_
            repeat (quiet_step (first | (go_at_call 8; exact HLq.out _)))
            refine wpQuiet_nil ?_
            rintro _ ⟨q9, rfl⟩
            go_wp2_with fail
            go_ret
            exact ⟨rfl, HE.out q9⟩
end lexerNumbers
end Go.Proofs.YtajebjkpmbehgaaDoor
