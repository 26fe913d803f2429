/-
  The law DiskRoom.
-/
import Derived.Test.YtbabepnoncpdlaaDskRoomP
import Derived.Test.YtbabepnoncpdlaaDskActV
namespace Go.Proofs.Ytbabepnoncpdlaa
open Go.RowKit Go.Maps

theorem size_okR {c : ActV} {w : World} (h : c.Ok w) : c.sa.size ≤ maxLen ∧ c.sb.size ≤ maxLen := by
  have := h.big
  unfold maxLen
  omega
/-- A box of the round. -/
theorem box_six {w w' : World} (c : ActV) (t : TypeId) (hg : (w.alloc (.cells (actA c) t)).grownBy w' none) : SixAt w' w.heap.size 0 c := by
  have hB : Blk (w.alloc (.cells (actA c) t)) w.heap.size (actA c).toList t := Blk.new w (actA c).toList t
  exact ⟨hg.cell (hB.cell 0 rfl) (by simp), hg.cell (hB.cell 1 rfl) (by simp), hg.cell (hB.cell 2 rfl) (by simp), hg.cell (hB.cell 3 rfl) (by simp), hg.cell (hB.cell 4 rfl) (by simp), hg.cell (hB.cell 5 rfl) (by simp)⟩
/-- The first loop's state. -/
def RmA (w0 : World) (d n k : Nat) (w1 : World) : Prop := ∃ A, A.Inv k ∧ A.Gd ∧ A.room = n ∧ Kp w0 d A w1
set_option maxRecDepth 100000 in
set_option maxHeartbeats 8000000 in
theorem diskRoom.walk (u : Nat) (po : Option Addr) (l : List ActV) (cap : Nat) (w : World) (hu : u < 18446744073709551616) (ha : ASees w po l) (hl : l.length ≤ 140737488355328) (hok : ∀ c ∈ l, c.Ok w) :
    Calls Try.prog 5 #[.int .u64 (u : Int), .slice po l.length cap] w fun e w' => e = .returned (.bool true) ∧ Below w.heap.size w w' := by
  have L : Hid (∀ w, Calls Try.prog 8 #[] w fun x w' => x = .returned (.bool true) ∧ Below w.heap.size w w') := lives_any
  obtain ⟨n, hn⟩ : ∃ n, u % 40 = n := ⟨_, rfl⟩
  have hn40 : n < 40 := by omega
  have hnz : (u : Int) % 40 = (n : Int) := by omega
  have hn40z : (n : Int) < 40 := by omega
  have N0 : Hid (Calls Try.prog 13 #[.int .i64 (n : Int)] w fun x w' => ∃ d, x = .returned (.pointer (some ⟨d, 0, none⟩)) ∧ Kp w d (newA n) w') := kp_new n (by omega) w
  have NL : Hid (∀ w1, Below w.heap.size w w1 → Calls Try.prog 22 #[.slice po l.length cap] w1 fun e w' => (∃ z : Bool, e = .returned (.bool z) ∧ (z = true → hvL l ≤ 250)) ∧ Below w1.heap.size w1 w') := fun w1 hb => light_any po l cap w1 (ha.below hb (Nat.le_refl _)) hl (fun c hc => (hok c hc).big)
  have HA : Hid (ASees w po l) := ha
  have HO : Hid (∀ c ∈ l, c.Ok w) := hok
  have hlz : (l.length : Int) ≤ 140737488355328 := by omega
  have hi0 : (newA n).Inv 0 := newA_inv n (by omega)
  have HI0 : Hid ((newA n).Inv 0) := hi0
  clear ha hok hi0 hn
  go_enter Try.func5, Try.ntmps5
  go_wp2_with (first
    | (go_at_call 13; go_fit N0.out; rintro x w1 ⟨d, rfl, n0⟩)
    | (go_at_call 22; go_fit (NL.out _ n0.below); rintro x w4 ⟨⟨z, rfl, hzv⟩, hb4⟩; have n4 := n0.grown (grown_of_below hb4); have HZ : Hid (z = true → hvL l ≤ 250) := hzv; clear hzv; cases z)
    | (go_at_call 8; go_fit (L.out _); rintro x w7 ⟨rfl, hb7⟩))
  · go_ret
    exact ⟨rfl, n4.below.trans (hb7.mono n4.below.size)⟩
  · have HV : Hid (hvL l ≤ 250) := by first | exact HZ.out rfl | exact HZ.out trivial
    have S1 : Hid (RmA w d n 0 w4) := ⟨newA n, HI0.out, (fun t ht => by cases ht), rfl, n4⟩
    clear n4 n0 HZ hb4 HI0
    go_loopw [34] (fun s34 wr => ∃ i : Nat, i ≤ l.length ∧ s34 = .int .i64 (i : Int) ∧ RmA w d n i wr) (fun s34 _ => l.length - (intOf s34).toNat)
    case atStart => exact ⟨0, by omega, rfl, S1.out⟩
    case round =>
      obtain ⟨i, hi, rfl, A, hInv, hGd, hRoom, hK⟩ := hrel
      clear S1
      have hil := hvL_len l
      have hv := HV.out
      have hi2 : i ≤ 250 := by omega
      have hiz : (i : Int) ≤ 250 := by omega
      rcases Nat.lt_or_ge i l.length with hlt | hge
      · have hc : l[i]? = some l[i] := List.getElem?_eq_getElem hlt
        have hco := HO.out l[i] (List.getElem_mem hlt)
        have hcv := hvL_mem (List.getElem_mem hlt)
        obtain ⟨b1, o1, rfl, h1⟩ := (HA.out.below hK.below (Nat.le_refl _)).six hc
        generalize l[i] = c at *
        have hsz := size_okR hco
        have hdl : c.data.length ≤ 1000000000 := by unfold hvA at hcv; omega
        have HK : Hid (∀ o, Kp w d A (wr.alloc o)) := fun o => hK.grown (World.grownBy_alloc _ _ _)
        have BX : Hid (∀ w', (wr.alloc (.cells (actA c) 44)).grownBy w' none → SixAt w' wr.heap.size 0 c) := fun w' hg => box_six c _ hg
        have HMore : Hid (∀ o, RmA w d n (i + 1) (wr.alloc o)) := fun o => ⟨A, hInv.more (by omega), hGd, hRoom, HK.out o⟩
        obtain ⟨kind, sa, sb, ao', dat, cp, nn, m⟩ := c
        obtain ⟨k0, k1, k2, k3, k4, k5⟩ := h1
        simp only at k0 k1 k2 k3 k4 k5 hsz hdl
        have hk1 : i ≤ 1000 := by omega
        have M0 : Hid (∀ w1, Kp w d A w1 → Calls Try.prog 14 #[.pointer (some ⟨d, 0, none⟩), .string sa] w1 (RmOut w d A i)) := fun w1 h => rm_create h hInv hGd hk1 sa hsz.1
        have M1 : Hid (∀ w1, Kp w d A w1 → Calls Try.prog 15 #[.pointer (some ⟨d, 0, none⟩), .string sa, .slice ao' dat.length cp] w1 (RmOut w d A i)) := fun w1 h => rm_append h hInv hGd hk1 sa hsz.1 ao' dat cp hco.sees hdl
        have M2 : Hid (∀ w1, Kp w d A w1 → Calls Try.prog 16 #[.pointer (some ⟨d, 0, none⟩), .string sa] w1 (RmOut w d A i)) := fun w1 h => rm_sync h hInv hGd hk1 sa hsz.1
        have M3 : Hid (∀ w1, Kp w d A w1 → Calls Try.prog 25 #[.pointer (some ⟨d, 0, none⟩), .string sa, .string sb] w1 (RmOut w d A i)) := fun w1 h => rm_rename h hInv hGd hk1 sa hsz.1 sb hsz.2
        have M4 : Hid (∀ w1, Kp w d A w1 → Calls Try.prog 26 #[.pointer (some ⟨d, 0, none⟩), .string sa] w1 (RmOut w d A i)) := fun w1 h => rm_remove h hInv hGd hk1 sa hsz.1
        have NU : Hid (∀ (A' : Ab) k' w1, A'.Inv k' → Kp w d A' w1 → Calls Try.prog 23 #[.pointer (some ⟨d, 0, none⟩)] w1 fun x w' => x = .returned (.int .i64 (usedT A'.sp : Int)) ∧ w1.grownBy w' none ∧ Kp w d A' w') := fun A' k' w1 hi h => rm_used h hi
        have ND : Hid (∀ (A' : Ab) k' w1, A'.Inv k' → Kp w d A' w1 → Calls Try.prog 21 #[.pointer (some ⟨d, 0, none⟩)] w1 fun x w' => x = .returned (.int .i64 (dirtyT A'.sp : Int)) ∧ w1.grownBy w' none ∧ Kp w d A' w') := fun A' k' w1 hi h => rm_dirty h hi
        have NO : Hid (∀ (A' : Ab) w1, Kp w d A' w1 → Calls Try.prog 24 #[.pointer (some ⟨d, 0, none⟩)] w1 fun x w' => x = .returned (.int .i64 (A'.ops : Int)) ∧ w' = w1) := fun A' w1 h => rm_ops h
        have HInv : Hid (A.Inv i) := hInv
        have hops : (A.ops : Int) ≤ 1000 := by have := hInv.ops; omega
        clear hK hco hcv hc hdl hsz hInv hGd
        by_cases hkind : kind < 0 ∨ 4 < kind
        · rcases hkind with hkind | hkind
          · go_wp2_with fail
            all_goals exact ⟨⟨i + 1, by omega, by go_num, HMore.out _⟩, by simp [intOf]; omega⟩
          · have : ¬ kind < 0 := by omega
            go_wp2_with fail
            all_goals exact ⟨⟨i + 1, by omega, by go_num, HMore.out _⟩, by simp [intOf]; omega⟩
        have hkd0 : ¬ kind < 0 := by omega
        have hkd4 : ¬ 4 < kind := by omega
        clear hkind
        have DI : Hid (∀ c (A6 : Ab), Did A i (c, A6) → Hid (A6.Inv (i + 1)) ∧ ¬ ((n : Int) < (usedT A6.sp : Int)) ∧ Hid (∀ w', Kp w d A6 w' → RmA w d n (i + 1) w')) := fun c A6 hd => by
          have h1 := hd.inv.used
          have h2 := hd.room
          simp only at h1 h2
          exact ⟨hd.inv, by omega, fun w' h => ⟨A6, hd.inv, hd.gd, h2.trans hRoom, h⟩⟩
        clear hRoom
        go_wp2_with (first
          | (go_at_call 23; first | (go_fit (NU.out _ _ _ HI6.out n7); rintro x w8 ⟨rfl, g8, n8⟩) | (go_fit (NU.out _ _ _ HI6.out n6); rintro x w7 ⟨rfl, g7, n7⟩) | (go_fit (NU.out _ _ _ HInv.out (HK.out _)); rintro x w2 ⟨rfl, g2, n2⟩; obtain ⟨q0, q1, q2, q3, q4, q5⟩ := BX.out _ g2))
          | (go_at_call 21; first | (go_fit (ND.out _ _ _ HI6.out n8); rintro x w9 ⟨rfl, g9, n9⟩) | (go_fit (ND.out _ _ _ HInv.out n2); rintro x w3 ⟨rfl, g3, n3⟩; have g23 := g2.andThen g3 (fun j hj => by cases hj); obtain ⟨q0, q1, q2, q3, q4, q5⟩ := BX.out _ g23))
          | (go_at_call 24; first | (go_fit (NO.out _ _ n9); rintro x w10 ⟨rfl, rfl⟩) | (go_fit (NO.out _ _ n7); rintro x w10 ⟨rfl, rfl⟩) | (go_fit (NO.out _ _ n3); rintro x w5 ⟨rfl, rfl⟩))
          | (go_at_call 14; go_fit (M0.out _ n3); rintro x w6 ⟨c6, A6, rfl, did6, n6⟩; obtain ⟨HI6, hu6, HD6⟩ := DI.out _ _ did6; by_cases hc6 : c6 = 0; all_goals first | (have e6 := did6.yes hc6; simp only at e6; subst hc6; clear did6; have e6z : (A6.ops : Int) = (A.ops : Int) + 1 := by omega) | (have hcb : (c6 == 0) = false := (by rw [beq_eq_false_iff_ne]; exact hc6); have e6 := did6.no hc6; simp only at e6; subst e6; clear did6))
          | (go_at_call 15; go_fit (M1.out _ n3); rintro x w6 ⟨c6, A6, rfl, did6, n6⟩; obtain ⟨HI6, hu6, HD6⟩ := DI.out _ _ did6; by_cases hc6 : c6 = 0; all_goals first | (have e6 := did6.yes hc6; simp only at e6; subst hc6; clear did6; have e6z : (A6.ops : Int) = (A.ops : Int) + 1 := by omega) | (have hcb : (c6 == 0) = false := (by rw [beq_eq_false_iff_ne]; exact hc6); have e6 := did6.no hc6; simp only at e6; subst e6; clear did6))
          | (go_at_call 16; go_fit (M2.out _ n3); rintro x w6 ⟨c6, A6, rfl, did6, n6⟩; obtain ⟨HI6, hu6, HD6⟩ := DI.out _ _ did6; by_cases hc6 : c6 = 0; all_goals first | (have e6 := did6.yes hc6; simp only at e6; subst hc6; clear did6; have e6z : (A6.ops : Int) = (A.ops : Int) + 1 := by omega) | (have hcb : (c6 == 0) = false := (by rw [beq_eq_false_iff_ne]; exact hc6); have e6 := did6.no hc6; simp only at e6; subst e6; clear did6))
          | (go_at_call 25; go_fit (M3.out _ n3); rintro x w6 ⟨c6, A6, rfl, did6, n6⟩; obtain ⟨HI6, hu6, HD6⟩ := DI.out _ _ did6; by_cases hc6 : c6 = 0; all_goals first | (have e6 := did6.yes hc6; simp only at e6; subst hc6; clear did6; have e6z : (A6.ops : Int) = (A.ops : Int) + 1 := by omega) | (have hcb : (c6 == 0) = false := (by rw [beq_eq_false_iff_ne]; exact hc6); have e6 := did6.no hc6; simp only at e6; subst e6; clear did6))
          | (go_at_call 26; go_fit (M4.out _ n3); rintro x w6 ⟨c6, A6, rfl, did6, n6⟩; obtain ⟨HI6, hu6, HD6⟩ := DI.out _ _ did6; by_cases hc6 : c6 = 0; all_goals first | (have e6 := did6.yes hc6; simp only at e6; subst hc6; clear did6; have e6z : (A6.ops : Int) = (A.ops : Int) + 1 := by omega) | (have hcb : (c6 == 0) = false := (by rw [beq_eq_false_iff_ne]; exact hc6); have e6 := did6.no hc6; simp only at e6; subst e6; clear did6)))
        all_goals first
          | exact ⟨⟨i + 1, by omega, by go_num, HD6.out _ n9⟩, by simp [intOf]; omega⟩
          | exact ⟨⟨i + 1, by omega, by go_num, HD6.out _ n7⟩, by simp [intOf]; omega⟩
          | (exfalso; simp only [bne_iff_ne, ne_eq] at *; omega)
      · obtain rfl : i = l.length := by omega
        have NLs : Hid (Calls Try.prog 27 #[.pointer (some ⟨d, 0, none⟩)] wr fun x w' => ∃ ao c nl, x = .returned (.slice ao nl.length c) ∧ Rx w d A (.slice ao nl.length c) nl w' ∧ Left A l.length nl 0 ∧ nl.length ≤ A.room) := rx_list hK hInv hGd (by omega)
        have NR : Hid (∀ (A' : Ab) k v nl j w1, Rx w d A' v nl w1 → Left A' k nl j → j < nl.length → k ≤ 1000 → Calls Try.prog 26 #[.pointer (some ⟨d, 0, none⟩), .string (strB (nl.getD j []))] w1 fun x w' => x = .returned (.int .i64 0) ∧ ∃ A2, Rx w d A2 v nl w' ∧ Left A2 (k + 1) nl (j + 1)) := fun A' k v nl j w1 h1 h2 h3 h4 => rx_remove h1 h2 h3 h4
        have NU : Hid (∀ (A' : Ab) k nl v w1, Rx w d A' v nl w1 → Left A' k nl nl.length → Calls Try.prog 23 #[.pointer (some ⟨d, 0, none⟩)] w1 fun x w' => x = .returned (.int .i64 0) ∧ Kp w d A' w') := fun A' k nl v w1 h1 h2 => rx_used h1 h2
        have ND : Hid (∀ (A' : Ab) k nl w1, Kp w d A' w1 → Left A' k nl nl.length → Calls Try.prog 21 #[.pointer (some ⟨d, 0, none⟩)] w1 fun x w' => x = .returned (.int .i64 0) ∧ Kp w d A' w') := fun A' k nl w1 h1 h2 => rx_dirty h1 h2
        have HRm : Hid (A.room = n) := hRoom
        clear hK hInv hGd hRoom
        go_wp2_with (go_at_call 27; go_fit NLs.out; rintro x w2 ⟨ao2, c2, nl, rfl, r2, L2, hnl⟩)
        have hnl2 : nl.length < 40 := by have := HRm.out; omega
        have hnlz : (nl.length : Int) < 40 := by omega
        have S2 : Hid (Rx w d A (.slice ao2 nl.length c2) nl w2 ∧ Left A l.length nl 0) := ⟨r2, L2⟩
        clear r2 L2 hnl NLs
        go_loopw [129] (fun s129 wr2 => ∃ j : Nat, j ≤ nl.length ∧ s129 = .int .i64 (j : Int) ∧ ∃ A', Rx w d A' (.slice ao2 nl.length c2) nl wr2 ∧ Left A' (l.length + j) nl j) (fun s129 _ => nl.length - (intOf s129).toNat)
        case atStart => exact ⟨0, by omega, rfl, A, S2.out.1, S2.out.2⟩
        case round =>
          obtain ⟨j, hj, rfl, A', hR, hL⟩ := hrel
          clear S2
          rcases Nat.lt_or_ge j nl.length with hlt | hge2
          · obtain ⟨g, rfl, hcell⟩ := rx_cell hR hlt
            have M : Hid (Calls Try.prog 26 #[.pointer (some ⟨d, 0, none⟩), .string (strB (nl.getD j []))] wr fun x w' => x = .returned (.int .i64 0) ∧ ∃ A2, Rx w d A2 (.slice (some ⟨g, 0, none⟩) nl.length c2) nl w' ∧ Left A2 (l.length + j + 1) nl (j + 1)) := NR.out _ _ _ _ _ _ hR hL hlt (by omega)
            generalize strB (nl.getD j []) = sj at *
            clear hR hL
            go_wp2_with (go_at_call 26; go_fit M.out; rintro x w3 ⟨rfl, A2, r3, L3⟩)
            exact ⟨⟨j + 1, by omega, by go_num, A2, r3, L3⟩, by simp [intOf]; omega⟩
          · obtain rfl : j = nl.length := by omega
            go_wp2_with (first
              | (go_at_call 23; go_fit (NU.out _ _ _ _ _ hR hL); rintro x w3 ⟨rfl, n3⟩)
              | (go_at_call 21; go_fit (ND.out _ _ _ _ n3 hL); rintro x w4 ⟨rfl, n4⟩)
              | (go_at_call 8; go_fit (L.out _); rintro x w7 ⟨rfl, hb7⟩))
            go_ret
            exact ⟨rfl, n4.below.trans (hb7.mono n4.below.size)⟩
end Go.Proofs.Ytbabepnoncpdlaa
