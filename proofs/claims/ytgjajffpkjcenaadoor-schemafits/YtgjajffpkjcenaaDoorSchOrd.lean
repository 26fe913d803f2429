/-
  CONTRACT: columns in a table's order (Order, by the program).
-/
import Derived.Test.YtgjajffpkjcenaaDoorSchOrdP
namespace Go.Proofs.YtgjajffpkjcenaaDoor
open Go.RowKit Go.Maps Go.WideMaps

theorem owns_base17 {w : World} {b b' : Nat} {e : TypeId} {s n : Nat} {v : Value} {xs : List Value} (h : w.ownsRow b e s v n xs) (hb : b' ≤ b) : w.ownsRow b' e s v n xs := by
  refine ⟨h.1, ?_⟩
  rcases h.2 with hn | ⟨g, cap, cur, rfl, hg, rest⟩
  · exact .inl hn
  · exact .inr ⟨g, cap, cur, rfl, Nat.le_trans hb hg, rest⟩
theorem owns_see {w : World} {b n : Nat} {v : Value} {L : List ByteArray} (h : w.ownsRow b 9 1 v n (sV L)) (hn : n = L.length) : ∃ ao c, v = .slice ao n c ∧ NSee w ao L := by
  subst hn
  have h0 := h
  rcases h.2 with ⟨rfl, hz⟩ | ⟨g, cap, cur, rfl, hg, hh, hle, hm, hs, ht⟩
  · obtain rfl : L = [] := List.eq_nil_of_length_eq_zero hz
    exact ⟨none, 0, rfl, fun i s hi => by cases hi⟩
  · refine ⟨_, cap, rfl, fun i s hi => ⟨g, 0, rfl, ?_⟩⟩
    have hc := h0.cells (g := g) rfl i (.string s) (by unfold sV; rw [List.getElem?_map, hi]; rfl)
    have e : (({ block := g, off := 0 } : Addr).add i) = ⟨g, 0 + i, none⟩ := by unfold Addr.add; simp; omega
    rwa [e] at hc
set_option maxRecDepth 100000 in
set_option maxHeartbeats 4000000 in
theorem order_any (T : Tb) (ao : Option Addr) (cap : Nat) (C : List ByteArray) (co : Option Addr) (cc : Nat) (w : World) (hC : CSee w ao T.cs) (hT : T.Ok) (hl : T.cs.length ≤ 1000000) (hN : NSee w co C) (hCl : C.length ≤ 1000000) (hCs : ∀ s ∈ C, s.size ≤ maxLen) :
    Calls Tryd.prog 13 #[T.v ao cap, .slice co C.length cc] w fun e w' => ∃ v, e = .returned (.tuple #[v, .bool (allIn C (nmC T))]) ∧ w'.ownsRow w.heap.size 9 1 v (ordR C (nmC T)).length (sV (ordR C (nmC T))) ∧ Below w.heap.size w w' := by
  obtain ⟨i0, hinf, hq0, hq1, hq2⟩ := info_of17 infoStr17
  obtain ⟨w0, hw0⟩ : ∃ w0, w0 = w.alloc (.cells #[.string T.t, .string T.p, .string T.r, .slice ao T.cs.length cap] 26) := ⟨_, rfl⟩
  have hB : Below w.heap.size w w0 := by rw [hw0]; exact (Below.refl _ _).alloc (Nat.le_refl _) _
  have hsz : w0.heap.size = w.heap.size + 1 := by rw [hw0, World.size_alloc]
  have hX : Blk w0 w.heap.size [.string T.t, .string T.p, .string T.r, .slice ao T.cs.length cap] 26 := by rw [hw0]; exact Blk.new w [.string T.t, .string T.p, .string T.r, .slice ao T.cs.length cap] _
  have e0 := hX.cell 0 rfl
  have e1 := hX.cell 1 rfl
  have e2 := hX.cell 2 rfl
  have e3 := hX.cell 3 rfl
  have hnl : (nmC T).length = T.cs.length := by simp [nmC]
  have hns : ∀ s ∈ nmC T, s.size ≤ maxLen := fun s hs => nmC_size hT s (List.mem_cons_of_mem _ (List.mem_cons_of_mem _ hs))
  have CN := columnNames_any T ao cap w0 (hC.below hB) hT.l
  have HB0 : Hid (Below w.heap.size w w0) := hB
  rw [hw0] at e0 e1 e2 e3
  have HC : Hid (∀ wr, Below w.heap.size w wr → NSee wr co C) := fun wr hb => hN.below hb
  have HCs : Hid (∀ s ∈ C, s.size ≤ maxLen) := hCs
  have HNs : Hid (∀ s ∈ nmC T, s.size ≤ maxLen) := hns
  have HHas : Hid (∀ D : DataW Unit, FP D ((nmC T).map nb) → (C.all fun s => Maps.has D (.string (nb s))) = allIn C (nmC T)) := fun D hF => by
    show _ = _
    unfold allIn
    congr 1
    funext s
    exact hF.has (nb s)
  have hnz : (T.cs.length : Int) ≤ 1000000 := by omega
  have hcz : (C.length : Int) ≤ 1000000 := by omega
  have HL : Hid (T.cs.length ≤ 1000000 ∧ C.length ≤ 1000000) := ⟨hl, hCl⟩
  clear hC hT hl hN hCl hCs hB hX hns
  rw [← hnl] at *
  simp only [Tb.v, Tb.a]
  generalize nmC T = N at *
  obtain ⟨m, hm⟩ : ∃ m, C.length = m := ⟨_, rfl⟩
  have Hm : Hid (C.length = m) := hm
  rw [hm] at hcz ⊢
  clear hm
  go_enter Tryd.func13, Tryd.ntmps13
  go_wp2_with fail
  rw [← hw0]
  clear hw0 e0 e1 e2 e3
  refine CN.mono ?_
  rintro e w1 ⟨v1, rfl, ho1, hb1⟩
  obtain ⟨ao1, c1, rfl, hN1⟩ := owns_see ho1 rfl
  have HN1 : Hid (∀ wr, Below w1.heap.size w1 wr → NSee wr ao1 N) := fun wr hb => hN1.below hb
  have hbw1 : Below w.heap.size w w1 := HB0.out.trans (hb1.mono HB0.out.size)
  have F1 := firstPlaces_any ao1 N c1 w1 hN1 HL.out.1 HNs.out
  clear CN ho1 hb1 HB0 hN1
  go_wp2_with fail
  refine F1.mono ?_
  rintro e w2 ⟨D1, rfl, hM1, hF1, hb2⟩
  have hbw2 : Below w.heap.size w w2 := hbw1.trans (hb2.mono hbw1.size)
  have F2 := firstPlaces_any co C cc w2 (HC.out w2 hbw2) HL.out.2 HCs.out
  rw [Hm.out] at F2
  have HM1 : Hid (∀ wr, Below w2.heap.size w2 wr → MAt wr w1.heap.size N.length D1 ∧ NSee wr ao1 N) := fun wr hb => ⟨hM1.below hb, HN1.out wr (hb2.trans (hb.mono hb2.size))⟩
  have HF1 : Hid (FP D1 (N.map nb)) := hF1
  clear F1 hM1 hF1 hb2
  go_wp2_with fail
  refine F2.mono ?_
  rintro e w3 ⟨D2, rfl, hM2, hF2, hb3⟩
  have hbw3 : Below w.heap.size w w3 := hbw2.trans (hb3.mono hbw2.size)
  have hgt : w.heap.size ≤ w3.heap.size := hbw3.size
  -- the box of the first map
  obtain ⟨wb, hwb⟩ : ∃ wb, wb = w3.alloc (.cells #[.map (some w1.heap.size)] 55) := ⟨_, rfl⟩
  have hbb : Below w3.heap.size w3 wb := by rw [hwb]; exact (Below.refl _ _).alloc (Nat.le_refl _) _
  have hY : Blk wb w3.heap.size [.map (some w1.heap.size)] 55 := by rw [hwb]; exact Blk.new w3 [.map (some w1.heap.size)] _
  have hbw : Below w.heap.size w wb := hbw3.trans (hbb.mono hbw3.size)
  obtain ⟨hM1b, hN1b⟩ := HM1.out wb (hb3.trans (hbb.mono hb3.size))
  have hM2b : MAt wb w2.heap.size m D2 := hM2.below hbb
  have E := everyHas_any w3.heap.size w1.heap.size N.length D1 co C cc wb (hY.cell 0 rfl) hM1b (HC.out wb hbw) (by have := HL.out.2; omega) HCs.out
  rw [HHas.out D1 HF1.out, Hm.out] at E
  -- the map of those that are wanted
  have HWt : Hid (∃ B2 n2 D, (m = 0 → B2 = w1.heap.size) ∧ (m ≠ 0 → B2 = w2.heap.size) ∧ MAt wb B2 n2 D ∧ ∀ s ∈ N, Maps.has D (.string (nb s)) = wantB C s) := by
    show ∃ B2 n2 D, _
    rw [← Hm.out]
    by_cases h0 : C.length = 0
    · refine ⟨_, _, D1, fun _ => rfl, fun h => absurd h0 h, hM1b, fun s hs => ?_⟩
      obtain rfl : C = [] := List.eq_nil_of_length_eq_zero h0
      rw [HF1.out.has, decide_eq_true (List.mem_map_of_mem hs)]; rfl
    · refine ⟨_, _, D2, fun h => absurd h h0, fun _ => rfl, hM2b, fun s _ => ?_⟩
      rw [hF2.has]
      unfold wantB
      cases C with
      | nil => exact absurd rfl h0
      | cons a C => rfl
  have HY0 := hY.cell 0 rfl
  have HBW : Hid (Below w.heap.size w wb) := hbw
  have HM : Hid (∀ wr, Below wb.heap.size wb wr → MAt wr w1.heap.size N.length D1 ∧ NSee wr ao1 N ∧ wr.cell? ⟨w3.heap.size, 0, none⟩ = some (.map (some w1.heap.size)) ∧ Below w.heap.size w wr) := fun wr hb =>
    ⟨hM1b.below hb, hN1b.below hb, (hY.carry (hb.block _ hY.lt)).cell 0 rfl, hbw.trans (hb.mono hbw.size)⟩
  have k7 : wb.cell? ⟨w3.heap.size, 0, none⟩ = some (.map (some w1.heap.size)) := hY.cell 0 rfl
  have HLt : Hid (w.heap.size ≤ wb.heap.size) := hbw.size
  clear F2 hM2 hF2 hb3 hbw3 hbw2 hbw1 hbb hbw hM1b hN1b hM2b hY HM1 HC HCs HHas HN1 hgt HY0
  obtain ⟨B2, n2, D, h0, h1, hMD, hDw⟩ := HWt.out
  have HD : Hid (∀ wr, Below wb.heap.size wb wr → MAt wr B2 n2 D) := fun wr hb => hMD.below hb
  have HDw : Hid (∀ s ∈ N, Maps.has D (.string (nb s)) = wantB C s) := hDw
  clear HWt hMD hDw
  by_cases hc0 : m = 0
  all_goals
    first
      | (obtain rfl := h0 hc0
         subst hc0
         have hcz0 : True := trivial)
      | (obtain rfl := h1 hc0
         have hcz0 : ¬ (m : Int) = 0 := by omega)
    clear h0 h1
    cases hall : allIn C N
    · have HA : Hid (ordR C N = []) := by show _ = _; unfold ordR; rw [hall]; rfl
      rw [hall] at E
      clear HM HD HDw HF1 HNs HL
      go_wp2_with fail
      rw [← hwb]
      refine E.mono ?_
      rintro e w4 ⟨rfl, hw4⟩
      obtain rfl := hw4.symm
      clear hw4 E k7 hwb
      go_wp2_with fail
      go_ret2
      exact ⟨.slice none 0 0, by rw [hall]; rfl, by rw [HA.out]; exact World.ownsRow_nil _ _ _ _, HBW.out⟩
    · have HA : Hid (ordR C N = ordL C N) := by show _ = _; unfold ordR; rw [hall]; rfl
      rw [hall] at E
      go_wp2_with fail
      rw [← hwb]
      refine E.mono ?_
      rintro e w4 ⟨rfl, hw4⟩
      obtain rfl := hw4.symm
      clear hw4 E k7 hwb
      have HBL : Hid (∀ wr, Below wb.heap.size wb wr → Below wr.heap.size wr wr) := fun wr _ => Below.refl _ _
      go_wp2_with fail
      go_loopw [9, 28] (fun s9 s28 wr => ∃ k : Nat, k ≤ N.length ∧ s28 = .int .i64 (k : Int) ∧ Below wb.heap.size wb wr ∧ wr.ownsRow wb.heap.size 9 1 s9 (ordL C (N.take k)).length (sV (ordL C (N.take k)))) (fun _ s28 _ => N.length - (intOf s28).toNat)
      case atStart => exact ⟨0, Nat.zero_le _, rfl, Below.refl _ _, World.ownsRow_nil _ _ _ _⟩
      case round =>
        obtain ⟨k, hk, rfl, hb, ho⟩ := hrel
        rcases Nat.lt_or_ge k N.length with hlt | hge
        · have hcs : N[k]? = some N[k] := List.getElem?_eq_getElem hlt
          have hmem : N[k] ∈ N := List.getElem_mem hlt
          have hcs2 : (N.map nb)[k]? = some (nb N[k]) := by rw [List.getElem?_map, hcs]; rfl
          obtain ⟨hM1, hN1, k7, -⟩ := HM.out wr hb
          have hMD := HD.out wr hb
          obtain ⟨b, off, rfl, k0⟩ := hN1 k _ hcs
          have hkz : (k : Int) < (N.length : Int) := by omega
          have hsk := HNs.out _ hmem
          have hkey : keyOf Tryd.prog 9 (.string N[k]) = some (.string (nb N[k])) := keyOf_string_mk Tryd.underlying9 hsk
          have hat0 := HF1.out.at_ (nb N[k]) (.lit (.int .i64 0)) (List.mem_map_of_mem hmem)
          obtain ⟨f, hf⟩ : ∃ f, (N.map nb).idxOf (nb N[k]) = f := ⟨_, rfl⟩
          rw [hf] at hat0
          have hfi := idx_first hcs2
          rw [hf, ← List.map_take] at hfi
          have HI : Hid (∀ c : Int, D1.atKey (.string (nb N[k])) (.lit (.int .i64 0)) = .lit (.int .i64 c) → c = (f : Int)) := fun c hc => by rw [hat0] at hc; cases hc; rfl
          have Hs := has_any _ n2 D N[k] wr hMD hsk
          rw [HDw.out _ hmem] at Hs
          have HB : Hid (Below wb.heap.size wb wr) := hb
          have hln : (ordL C (N.take k)).length ≤ 1000000 := by have h1 := ordL_len C (N.take k); rw [List.length_take] at h1; have := HL.out.1; omega
          have H3 : Hid (∀ w1 : World, Below wr.heap.size wr w1 → w1.ownsRow wb.heap.size 9 1 u9 (ordL C (N.take k)).length (sV (ordL C (N.take k)))) := fun w1 hh => owns_keep ho hh (Nat.le_refl _)
          by_cases hfk : f = k
          · have hnew := hfi.2.1 hfk
            subst hfk
            cases hw : wantB C N[f]
            · have HS : Hid (ordL C (N.take (f + 1)) = ordL C (N.take f)) := step_no hcs (.inr hw)
              have HO : Hid (wr.ownsRow wb.heap.size 9 1 u9 (ordL C (N.take f)).length (sV (ordL C (N.take f)))) := ho
              rw [hw] at Hs
              generalize N[f] = s at *
              generalize ordL C (N.take f) = O at *
              clear hcs hmem hcs2 hN1 hMD hat0 hf hfi hnew hw hb H3 ho hln
              go_wp2_with (first | (at_lookup; refine wpList_lookup_own_int _ rfl _ _ 55 rfl 9 3 .i64 lawS Tryd.underlying55 Tryd.underlying3 (zeroI _) w1.heap.size N.length D1 rfl hM1 _ _ rfl hkey ?_; intro c hat hwc; obtain rfl := HI.out c hat; clear hat hwc) | (go_at_call 30; refine Hs.mono ?_; rintro e w5 ⟨rfl, hw5⟩; obtain rfl := hw5.symm; clear hw5))
              go_roundw
              case rel => exact ⟨f + 1, by omega, by go_num, HB.out, by rw [HS.out]; exact HO.out⟩
              case measure => simp [intOf]; omega
            · have HS : Hid (ordL C (N.take (f + 1)) = ordL C (N.take f) ++ [N[f]]) := step_yes hcs hnew hw
              have hst : ∀ O : List ByteArray, ∀ s, sV (O ++ [s]) = sV O ++ [.string s] := fun O s => by unfold sV; rw [List.map_append]; rfl
              have HST : Hid (∀ O : List ByteArray, ∀ s, sV (O ++ [s]) = sV O ++ [.string s]) := hst
              have HZ : Hid (wb.heap.size ≤ wr.heap.size) := hb.size
              have HE : Hid (∀ (o1 : Obj) (w2 : World) v', Grew (wr.alloc o1) w2 u9 v' → Below wb.heap.size wb w2) := fun o1 w2 v' hgr =>
                (hb.alloc hb.size o1).trans (hgr.below (by rw [World.size_alloc]; have := hb.size; omega) (fun g hg => (ho.lt g hg).1))
              rw [hw] at Hs
              generalize N[f] = s at *
              generalize ordL C (N.take f) = O at *
              have hm1 : O.length + 1 ≤ maxLen := by unfold maxLen; omega
              have hm2 : (O.length + 1) * 16 ≤ 140737488355328 := by omega
              clear hcs hmem hcs2 hN1 hMD hat0 hf hfi hnew hw hb ho hst
              go_wp2_with (first | (at_lookup; refine wpList_lookup_own_int _ rfl _ _ 55 rfl 9 3 .i64 lawS Tryd.underlying55 Tryd.underlying3 (zeroI _) w1.heap.size N.length D1 rfl hM1 _ _ rfl hkey ?_; intro c hat hwc; obtain rfl := HI.out c hat; clear hat hwc) | (go_at_call 30; refine Hs.mono ?_; rintro e w5 ⟨rfl, hw5⟩; obtain rfl := hw5.symm; clear hw5) | (at_builtin; go_must (refine wpList_append_grew _ rfl (.tmp 43) (.tmp 45) 27 27 rfl wb.heap.size 9 i0 (.string ⟨#[]⟩) 1 16 Tryd.underlying27 hinf hq0 hq1 hq2 rfl u9 O.length _ rfl (H3.out _ ((Below.refl _ _).alloc (Nat.le_refl _) _)) (.slice (some ⟨wr.heap.size, 0, none⟩) 1 1) 1 [.string s] rfl (src_one17 wr s) hm1 hm2 (by have := HZ.out; simp; omega) ?_; intro v' w' ho' hg'; have hX := HE.out _ _ _ hg')))
              go_roundw
              case rel => exact ⟨f + 1, by omega, by go_num, hX, by rw [HS.out, List.length_append, HST.out]; exact ho'⟩
              case measure => simp [intOf]; omega
          · have hold : nb N[k] ∈ (N.take k).map nb := Classical.byContradiction fun h => hfk (hfi.2.2 h)
            have HS : Hid (ordL C (N.take (k + 1)) = ordL C (N.take k)) := step_no hcs (.inl hold)
            have HO : Hid (wr.ownsRow wb.heap.size 9 1 u9 (ordL C (N.take k)).length (sV (ordL C (N.take k)))) := ho
            have hfz : ¬ (f : Int) = (k : Int) := by omega
            have hfb : ((f : Int) == (k : Int)) = false := beq_false_of_ne hfz
            generalize N[k] = s at *
            generalize ordL C (N.take k) = O at *
            clear hcs hmem hcs2 hN1 hMD hat0 hf hfi hold hb H3 ho hln Hs
            go_wp2_with (at_lookup; refine wpList_lookup_own_int _ rfl _ _ 55 rfl 9 3 .i64 lawS Tryd.underlying55 Tryd.underlying3 (zeroI _) w1.heap.size N.length D1 rfl hM1 _ _ rfl hkey ?_; intro c hat hwc; obtain rfl := HI.out c hat; clear hat hwc)
            go_roundw
            case rel => exact ⟨k + 1, by omega, by go_num, HB.out, by rw [HS.out]; exact HO.out⟩
            case measure => simp [intOf]; omega
        · obtain rfl : k = N.length := by omega
          rw [List.take_length] at ho
          have hW := (HM.out wr hb).2.2.2
          have hO : wr.ownsRow w.heap.size 9 1 u9 (ordR C N).length (sV (ordR C N)) := by rw [HA.out]; exact owns_base17 ho HLt.out
          clear HM HD HDw HF1 HNs HL ho
          go_wp2_with fail
          go_ret2
          exact ⟨u9, by rw [hall]; rfl, hO, hW⟩
end Go.Proofs.YtgjajffpkjcenaaDoor
