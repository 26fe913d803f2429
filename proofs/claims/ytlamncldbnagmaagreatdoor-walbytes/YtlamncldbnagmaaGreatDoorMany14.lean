/-
  SEVERAL TEXTS IN ONE: RefSum, CodText, CodUnframe, RefFrame, CodGetT.
-/
import Derived.Test.YtlamncldbnagmaaGreatDoorMany13
import Derived.Test.YtlamncldbnagmaaGreatDoorMany10
namespace Go.Proofs.YtlamncldbnagmaaGreatDoor
open Go.RowKit

set_option maxRecDepth 100000 in
set_option maxHeartbeats 1600000 in
theorem refSum_any (ao : Option Addr) (l : List UInt8) (cap : Nat) (w : World) (hs : Sees w ao l) (hl : l.length ≤ 140737488354000) :
    Calls Tryz.prog 71 #[.slice ao l.length cap] w fun e w' => e = .returned (.int .u32 (sumZ l)) ∧ w' = w := by
  have hn : ∀ a : Int, 0 ≤ a → a ≤ 4294967295 → bits BinOp.xor IntKind.u32 a 4294967295 = 4294967295 - a := fun a h0 h1 => by
    have := not_u32 a h0 h1
    rw [← this, u32_xor _ _ (by omega) (by omega) (by omega) (by omega)]
    show _ = bits BinOp.xor IntKind.u32 4294967295 a
    rw [u32_xor _ _ (by omega) (by omega) (by omega) (by omega), Nat.xor_comm]
  have Hn : Hid _ := hn
  clear hn
  go_enter Tryz.func71, Tryz.ntmps71
  go_wp2
  go_loop [3, 10] (fun t i => ∃ k : Nat, k ≤ l.length ∧ i = .int .i64 k ∧ t = .int .u32 (sumOnZ 4294967295 (l.take k))) (fun _ i => l.length - (intOf i).toNat)
  case atStart => exact ⟨0, Nat.zero_le _, rfl, rfl⟩
  case round =>
    obtain ⟨k, hk, rfl, rfl⟩ := hrel
    have hbd := sumOnZ_bd 4294967295 (l.take k) ⟨by decide, by decide⟩
    by_cases hlt : k < l.length
    · have hst : Hid (sumOnZ 4294967295 (l.take (k + 1)) = byteZ (sumOnZ 4294967295 (l.take k)) ((l.getD k 0).toNat : Int)) := sumOnZ_take 4294967295 l k hlt
      obtain ⟨b, off, rfl, hc⟩ := sees_at hs hlt
      have hx := (l.getD k 0).toNat_lt
      generalize hS : sumOnZ 4294967295 (l.take k) = S at *
      generalize (l.getD k 0).toNat = x at *
      clear hS
      obtain ⟨c, rfl⟩ := Int.eq_ofNat_of_zero_le hbd.1
      have hcl : c < 4294967296 := by omega
      have Hfin : Hid (sumOnZ 4294967295 (l.take (k + 1)) = ((crcSs c x 8 : Nat) : Int)) := hst.out.trans (byteZ_nat c x hcl (by omega))
      have Hs : Hid _ := hs
      clear hst hs
      go_wp2
      go_loop [3, 6] (fun t i => ∃ j : Nat, j ≤ 8 ∧ i = .int .i64 j ∧ t = .int .u32 (crcSs c x j)) (fun _ i => 8 - (intOf i).toNat)
      case atStart => exact ⟨0, Nat.zero_le _, rfl, rfl⟩
      case round =>
        obtain ⟨j, hj, rfl, rfl⟩ := hrel
        have hd := crcSs_lt c x hcl j
        by_cases hj8 : j < 8
        · have hbt := bit_text2 (crcSs c x j) x j hd (by omega)
          have Hstep : Hid (crcSs c x (j + 1) = crcS (crcSs c x j) x j) := rfl
          generalize crcSs c x j = d at *
          rcases Nat.mod_two_eq_zero_or_one (d + x / 2 ^ j) with h2 | h2
          · have Hno : Hid _ := crcS_no d x j h2
            rw [h2] at hbt
            clear h2
            go_wp2
            go_round
            case rel => exact ⟨j + 1, by omega, by go_num, by rw [Hstep.out, ← Hno.out]⟩
            case measure => simp [intOf]; omega
          · have Hyes : Hid _ := crcS_yes d x j hd h2
            rw [h2] at hbt
            clear h2
            go_wp2
            go_round
            case rel => exact ⟨j + 1, by omega, by go_num, by rw [Hstep.out, ← Hyes.out]⟩
            case measure => simp [intOf]; omega
        · obtain rfl : j = 8 := by omega
          go_wp2
          go_round
          case rel => exact ⟨k + 1, by omega, by go_num, by rw [Hfin.out]⟩
          case measure => simp [intOf]; omega
    · go_wp2
      go_ret
      refine ⟨ret_int ?_, rfl⟩
      rw [Hn.out _ hbd.1 hbd.2, List.take_of_length_le (by omega)]
      rfl

theorem four_any (x : Nat) (w : World) (hx : x < 4294967296) :
    Calls Tryz.prog 70 #[.int .u32 x] w fun e w' => e = .returned (.slice (some ⟨w.heap.size, 0, none⟩) 4 4) ∧ w' = w.alloc (.cells (B8 (fourL x)).toArray 5) := by
  have h0 : B8 (fourL x) = [.int .u8 ((x : Int) / 16777216), .int .u8 ((x : Int) / 65536 % 256), .int .u8 ((x : Int) / 256 % 256), .int .u8 ((x : Int) % 256)] := by
    simp [B8, fourL]
    omega
  rw [h0]
  clear h0
  go_enter Tryz.func70, Tryz.ntmps70
  go_wp2
  go_ret
  exact ⟨rfl, rfl⟩

set_option maxRecDepth 100000 in
set_option maxHeartbeats 800000 in
theorem word_any (b off n cap : Nat) (h4 : List UInt8) (w : World) (hn : 4 ≤ n) (hnm : n ≤ 140737488355328) (hl : h4.length = 4) (hs : Sees w (some ⟨b, off, none⟩) h4) :
    Calls Tryz.prog 143 #[.slice (some ⟨b, off, none⟩) n cap] w fun e w' => e = .returned (.int .u32 (wordL h4)) ∧ w' = w := by
  go_enter Tryz.func143, Tryz.ntmps143
  go_wp2
  go_loop [3, 5] (fun t i => ∃ k : Nat, k ≤ 4 ∧ i = .int .i64 k ∧ t = .int .u32 (wordL (h4.take k))) (fun _ i => 4 - (intOf i).toNat)
  case atStart => exact ⟨0, Nat.zero_le _, rfl, rfl⟩
  case round =>
    obtain ⟨k, hk, rfl, rfl⟩ := hrel
    by_cases hlt : k < 4
    · obtain ⟨b', off', e, hc⟩ := sees_at hs (n := k) (by omega)
      cases e
      have hst : Hid (wordL (h4.take (k + 1)) = wordL (h4.take k) * 256 + (h4.getD k 0).toNat) := by
        show _ = _
        rw [take_snoc h4 k (by omega)]
        unfold wordL
        rw [List.foldl_append]
        rfl
      have hw : wordL (h4.take k) < 16777216 := wordL_lt3 _ (by simp; omega)
      have hx := (h4.getD k 0).toNat_lt
      have Hor : Hid _ := or_byte (wordL (h4.take k)) (h4.getD k 0).toNat hw hx
      generalize wordL (h4.take k) = a at *
      generalize (h4.getD k 0).toNat = x at *
      go_wp2
      go_round
      case rel => exact ⟨k + 1, by omega, by go_num, by rw [hst.out, ← Hor.out]⟩
      case measure => simp [intOf]; omega
    · go_wp2
      go_ret
      exact ⟨ret_int (by rw [List.take_of_length_le (by omega)]), rfl⟩

set_option maxRecDepth 100000 in
set_option maxHeartbeats 800000 in
theorem fourth_any (b off n cap : Nat) (h4 : List UInt8) (w : World) (hn : 4 ≤ n) (hnm : n ≤ 140737488355328) (hl : h4.length = 4) (hs : Sees w (some ⟨b, off, none⟩) h4) :
    Calls Tryz.prog 74 #[.slice (some ⟨b, off, none⟩) n cap] w fun e w' => e = .returned (.int .u32 (wordL h4)) ∧ ∃ k, w' = w.drewN k := by
  match h4, hl with
  | [a, b1, c, d], _ =>
    obtain ⟨b', off', e, c0⟩ := sees_at hs (n := 0) (by simp)
    cases e
    obtain ⟨b', off', e, c1⟩ := sees_at hs (n := 1) (by simp)
    cases e
    obtain ⟨b', off', e, c2⟩ := sees_at hs (n := 2) (by simp)
    cases e
    obtain ⟨b', off', e, c3⟩ := sees_at hs (n := 3) (by simp)
    cases e
    simp only [List.getD_cons_zero, List.getD_cons_succ, Nat.add_zero] at c0 c1 c2 c3
    have Hw : Hid (((wordL [a, b1, c, d] : Nat) : Int) = (a.toNat : Int) * 16777216 + (b1.toNat : Int) * 65536 + (c.toNat : Int) * 256 + (d.toNat : Int)) := by
      show _ = _
      simp [wordL]
      omega
    have ha := a.toNat_lt
    have hb := b1.toNat_lt
    have hcc := c.toNat_lt
    have hd := d.toNat_lt
    clear hs
    go_enter Tryz.func74, Tryz.ntmps74
    go_wp2
    go_quiet (fail)
    go_wp2
    go_ret
    refine ⟨ret_int ?_, nq, rfl⟩
    rw [Hw.out]
    exact fourth_text _ _ _ _ ha hb hcc hd
end Go.Proofs.YtlamncldbnagmaaGreatDoor
namespace Go.Proofs.YtlamncldbnagmaaGreatDoor
open Go.RowKit

theorem conv_zero (w : World) (ao : Option Addr) (c : Nat) : (convert 23 9 (.slice ao 0 c)).run Tryz.prog w = .ok (.string ⟨#[]⟩) w := by
  have := conv_sees (w := w) (ao := ao) (l := []) (Sees.nil _ _) (fun _ => rfl) c
  exact this

theorem sees_cut {w : World} {b off : Nat} {l : List UInt8} (h : Sees w (some ⟨b, off, none⟩) l) (m v : Nat) (hv : m + v ≤ l.length) : Sees w (some ⟨b, off + m, none⟩) ((l.drop m).take v) := by
  intro i hi
  rw [List.length_take, List.length_drop] at hi
  obtain ⟨a, e, hc⟩ := h (m + i) (by omega)
  obtain rfl := Option.some.inj e
  refine ⟨_, rfl, ?_⟩
  rw [Addr.add_lit] at hc ⊢
  rw [Nat.add_assoc, hc]
  have : i < v := by omega
  simp [List.getD, this]

set_option maxRecDepth 100000 in
set_option maxHeartbeats 800000 in
theorem text_ok (R : Nat) (ao : Option Addr) (l : List UInt8) (cap n : Nat) (w : World) (s r : List UInt8) (h : Rd w R ao l cap n) (hcap : l.length ≤ cap) (hg : textN (l.drop n) = some (s, r)) :
    Calls Tryz.prog 203 #[.pointer (some ⟨R, 0, none⟩)] w fun e w' => e = .returned (.string ⟨s.toArray⟩) ∧ ∃ m, Rd w' R ao l cap m ∧ l.drop m = r ∧ n < m ∧ w.grownBy w' (some R) := by
  obtain ⟨v, r1, hg1, hv, hs, hr⟩ := textN_some hg
  have hvb := (get_bd hg1).1
  have Hc : Hid _ := number_ok R ao l cap n w v r1 h hg1
  have hvi : (v : Int) ≤ 18446744073709551615 := by omega
  have hll := h.max
  clear hg hg1 hvb h
  go_enter Tryz.func203, Tryz.ntmps203
  go_wp2_with fail
  refine Calls.mono (Hid.out Hc) ?_
  rintro e w1 ⟨rfl, m, hR1, hd, hm, hg1⟩
  have c0 := hR1.c0
  have c1 := hR1.c1
  have f1 := hR1.f1
  have hle := hR1.le
  have hvl : v + m ≤ l.length := by
    have := congrArg List.length hd
    rw [List.length_drop] at this
    omega
  have Hs : Hid (((l.drop m).take v) = s) := by rw [hd]; exact hs
  have Hr : Hid (l.drop (v + m) = r) := by show _ = _; rw [Nat.add_comm, ← List.drop_drop, hd]; exact hr
  clear hs hr hd Hc hv
  go_wp2_with fail
  go_quiet (fail)
  go_wp2_with fail
  have hR2 : Rd ((w1.drewN nq).setCell ⟨R, 1, none⟩ (.int .i64 ((m : Int) + (v : Int)))) R ao l cap (v + m) := (hR1.drewN nq).set (by omega) _ (by omega)
  have hg2 : w.grownBy ((w1.drewN nq).setCell ⟨R, 1, none⟩ (.int .i64 ((m : Int) + (v : Int)))) (some R) := grownBy_setCell (grownBy_drewN hg1 nq)
  generalize (w1.drewN nq).setCell ⟨R, 1, none⟩ (.int .i64 ((m : Int) + (v : Int))) = W2 at *
  have d0 := hR2.c0
  have d1 := hR2.c1
  clear c0 c1 f1 hR1 hg1
  by_cases hv0 : v = 0
  · subst hv0
    have hcv := conv_zero
    by_cases hcm : cap = m
    · subst hcm
      go_quiet (fail)
      go_wp2
      go_ret
      exact ⟨by rw [← Hs.out]; rfl, cap, by simpa using hR2.drewN nq, by simpa using Hr.out, hm, grownBy_drewN hg2 _⟩
    · go_quiet (fail)
      all_goals go_wp2
      all_goals go_ret
      all_goals exact ⟨by rw [← Hs.out]; rfl, m, by simpa using hR2.drewN nq, by simpa using Hr.out, hm, grownBy_drewN hg2 _⟩
  · obtain ⟨b, off, rfl, hc⟩ := sees_at hR2.sees (n := m) (by omega)
    have hsl := sees_cut hR2.sees m v (by omega)
    have hcv := fun k : Nat => conv_sees (w := W2.drewN k) hsl (fun h => by cases h) (cap - m)
    have hlen : ((l.drop m).take v).length = v := by simp; omega
    rw [hlen] at hcv
    rw [Hs.out] at hcv
    have hcm : ¬ cap = m := by omega
    clear hsl hc hlen
    go_quiet (fail)
    go_wp2
    go_ret
    exact ⟨rfl, v + m, hR2.drewN nq, Hr.out, by omega, grownBy_drewN hg2 _⟩

theorem err_grown {w w' : World} {u : TypeId} {pv : Value} {R : Nat} (he : Err w u pv) (hg : w.grownBy w' (some R)) (hER : R ≠ 3) : Err w' u pv := by
  unfold Err at he ⊢
  rw [World.cell?_of_block (hg.block _ (World.block_lt_of_cell? _ _ he) (fun e => hER (Option.some.inj e).symm)), he]

set_option maxRecDepth 100000 in
set_option maxHeartbeats 800000 in
theorem text_no (R : Nat) (ao : Option Addr) (l : List UInt8) (cap n : Nat) (w : World) (u : TypeId) (pv : Value) (h : Rd w R ao l cap n) (hg : textN (l.drop n) = none) (he : Err w u pv) (hER : R ≠ 3) :
    Calls Tryz.prog 203 #[.pointer (some ⟨R, 0, none⟩)] w fun e w' => e = .panicked [{ v := .iface u pv, recovered := false }] ∧ ∃ m, Rd w' R ao l cap m ∧ w.grownBy w' (some R) := by
  rcases textN_none hg with hg0 | ⟨v, r1, hg1, hv⟩
  · have Hc : Hid _ := number_no R ao l cap n w u pv h hg0 he hER
    clear hg hg0
    go_enter Tryz.func203, Tryz.ntmps203
    go_wp2_with fail
    refine Calls.mono (Hid.out Hc) ?_
    rintro e w1 ⟨rfl, m, hR1, hg1⟩
    go_wp2_with fail
    exact ⟨rfl, rfl, m, hR1, hg1⟩
  · have hvb := (get_bd hg1).1
    have Hc : Hid _ := number_ok R ao l cap n w v r1 h hg1
    have hvi : (v : Int) ≤ 18446744073709551615 := by omega
    have hll := h.max
    clear hg hg1 hvb h
    go_enter Tryz.func203, Tryz.ntmps203
    go_wp2_with fail
    refine Calls.mono (Hid.out Hc) ?_
    rintro e w1 ⟨rfl, m, hR1, hd, hm, hg1⟩
    have c0 := hR1.c0
    have c1 := hR1.c1
    have hle := hR1.le
    have hvl : l.length < v + m := by
      have := congrArg List.length hd
      rw [List.length_drop] at this
      omega
    have he1 := err_grown he hg1 hER
    unfold Err at he1
    clear hd Hc hv
    go_wp2_with fail
    go_quiet (fail)
    go_wp2_with fail
    exact ⟨rfl, rfl, m, hR1.drewN _, grownBy_drewN hg1 _⟩
end Go.Proofs.YtlamncldbnagmaaGreatDoor
namespace Go.Proofs.YtlamncldbnagmaaGreatDoor
open Go.RowKit

/-- The count, the error, how many bytes, and the content of the frame that bytes begin with. -/
def unfC (l : List UInt8) : Nat := wordL (l.take 4)
def unfE (l : List UInt8) : Nat :=
  if l.length < 8 then 10 else if 262144 < unfC l then 6 else if l.length < 8 + unfC l then 10
  else if (wordL ((l.drop 4).take 4) : Int) ≠ sumZ (l.take 4 ++ (l.drop 8).take (unfC l)) then 8 else 0
def unfN (l : List UInt8) : Nat := if unfE l = 0 then 8 + unfC l else 0
def unfB (l : List UInt8) : List UInt8 := if unfE l = 0 then (l.drop 8).take (unfC l) else []
theorem unf_bad (l : List UInt8) {e : Nat} (h : unfE l = e) (he : e ≠ 0) : unfN l = 0 ∧ unfB l = [] := by
  unfold unfN unfB
  rw [if_neg (by omega), if_neg (by omega)]
  exact ⟨rfl, rfl⟩

theorem sees_take {w : World} {b off : Nat} {l : List UInt8} (h : Sees w (some ⟨b, off, none⟩) l) (v : Nat) (hv : v ≤ l.length) : Sees w (some ⟨b, off, none⟩) (l.take v) := by
  have := sees_cut h 0 v (by omega)
  simpa using this

set_option maxRecDepth 100000 in
set_option maxHeartbeats 1600000 in
theorem unframe_any (ao : Option Addr) (l : List UInt8) (cap : Nat) (w : World) (hs : Sees w ao l) (hl : l.length ≤ 140737488354000) (hcap : l.length ≤ cap) (hcm : cap ≤ 9223372036854775807) (ht : Tab w) :
    Calls Tryz.prog 109 #[.slice ao l.length cap] w fun e w' => ∃ v', e = .returned (.tuple #[v', .int .i64 (unfN l), .int .i64 (unfE l)]) ∧ w'.ownsRow w.heap.size 5 1 v' (unfB l).length (B8 (unfB l)) ∧ Below w.heap.size w w' := by
  by_cases h8 : l.length < 8
  · have hE : unfE l = 10 := by unfold unfE; rw [if_pos h8]
    obtain ⟨hN, hB⟩ := unf_bad l hE (by decide)
    rw [hE, hN, hB]
    clear hE hN hB
    go_enter Tryz.func109, Tryz.ntmps109
    go_wp2
    go_ret3
    exact ⟨_, rfl, World.ownsRow_nil _ _ _ _, Below.refl _ _⟩
  obtain ⟨b, off, rfl, _⟩ := sees_at hs (n := 0) (by omega)
  have Hw1 : Hid _ := word_any b off l.length cap (l.take 4) w (by omega) (by omega) (by simp; omega) (sees_take hs 4 (by omega))
  have hC4 : unfC l < 4294967296 := wordL_lt _ (by simp; omega)
  by_cases hbig : 262144 < unfC l
  · have hE : unfE l = 6 := by unfold unfE; rw [if_neg h8, if_pos hbig]
    obtain ⟨hN, hB⟩ := unf_bad l hE (by decide)
    rw [hE, hN, hB]
    clear hE hN hB
    have e : wordL (l.take 4) = unfC l := rfl
    rw [e] at Hw1
    clear e
    generalize unfC l = C at *
    go_enter Tryz.func109, Tryz.ntmps109
    go_wp2_with fail
    refine Calls.mono (Hid.out Hw1) ?_
    rintro e w' ⟨rfl, rfl⟩
    go_wp2_with fail
    go_ret3
    exact ⟨_, rfl, World.ownsRow_nil _ _ _ _, Below.refl _ _⟩
  by_cases hshort : l.length < 8 + unfC l
  · have hE : unfE l = 10 := by unfold unfE; rw [if_neg h8, if_neg hbig, if_pos hshort]
    obtain ⟨hN, hB⟩ := unf_bad l hE (by decide)
    rw [hE, hN, hB]
    clear hE hN hB
    have e : wordL (l.take 4) = unfC l := rfl
    rw [e] at Hw1
    clear e
    generalize unfC l = C at *
    go_enter Tryz.func109, Tryz.ntmps109
    go_wp2_with fail
    refine Calls.mono (Hid.out Hw1) ?_
    rintro e w' ⟨rfl, rfl⟩
    go_wp2_with fail
    go_ret3
    exact ⟨_, rfl, World.ownsRow_nil _ _ _ _, Below.refl _ _⟩
  have Hw2 : Hid _ := word_any b (off + 4) (l.length - 4) (cap - 4) ((l.drop 4).take 4) w (by omega) (by omega) (by simp; omega) (sees_cut hs 4 4 (by omega))
  obtain ⟨S, hS⟩ : ∃ S, sumZ (l.take 4 ++ (l.drop 8).take (unfC l)) = S := ⟨_, rfl⟩
  obtain ⟨co, hco, hcs, hcn, hcc⟩ : ∃ co : Option Addr, (cap = 8 → co = some ⟨b, off, none⟩) ∧ Sees w co ((l.drop 8).take (unfC l)) ∧ (co = none → ((l.drop 8).take (unfC l)).length = 0) ∧ (cap ≠ 8 → co = some ⟨b, off + 8, none⟩) := by
    by_cases hc8 : cap = 8
    · have h0 : unfC l = 0 := by omega
      refine ⟨some ⟨b, off, none⟩, fun _ => rfl, ?_, (fun h => by cases h), fun h => absurd hc8 h⟩
      rw [h0]
      exact Sees.nil _ _
    · exact ⟨some ⟨b, off + 8, none⟩, fun h => absurd h hc8, sees_cut hs 8 _ (by omega), (fun h => by cases h), fun _ => rfl⟩
  have hclen : ((l.drop 8).take (unfC l)).length = unfC l := by simp; omega
  have Hfs : Hid _ := frameSum_any b off l.length cap (l.take 4) co ((l.drop 8).take (unfC l)) (cap - 8) w (by omega) hcap (by omega) (by simp; omega) (sees_take hs 4 (by omega)) hcs (by omega) ht
  have Hcp : Hid _ := copyWithRoom_any co ((l.drop 8).take (unfC l)) (cap - 8) 0 w hcs hcn (by omega)
  rw [hclen] at Hfs Hcp
  rw [hS] at Hfs
  have e4 : wordL (l.take 4) = unfC l := rfl
  rw [e4] at Hw1
  have hWl : wordL ((l.drop 4).take 4) < 4294967296 := wordL_lt _ (by simp; omega)
  obtain ⟨V, hV⟩ : ∃ V, wordL ((l.drop 4).take 4) = V := ⟨_, rfl⟩
  rw [hV] at Hw2 hWl
  by_cases hne : (V : Int) ≠ S
  · have hE : unfE l = 8 := by unfold unfE; rw [if_neg h8, if_neg hbig, if_neg hshort, if_pos (by rw [hV, hS]; exact hne)]
    obtain ⟨hN, hB⟩ := unf_bad l hE (by decide)
    rw [hE, hN, hB]
    have hneb : ((V : Int) != S) = true := by simpa using hne
    clear hE hN hB e4 hV hS hclen Hcp hcn hcs hne
    generalize unfC l = C at *
    by_cases hc8 : cap = 8
    · obtain rfl := hco hc8
      obtain rfl : C = 0 := by omega
      subst hc8
      clear hco hcc
      go_enter Tryz.func109, Tryz.ntmps109
      go_wp2_with fail
      refine Calls.mono (Hid.out Hw1) ?_
      rintro e w' ⟨rfl, rfl⟩
      go_wp2_with fail
      refine Calls.mono (Hid.out Hw2) ?_
      rintro e w' ⟨rfl, rfl⟩
      go_wp2_with fail
      refine Calls.mono (Hid.out Hfs) ?_
      rintro e w' ⟨rfl, rfl⟩
      go_wp2_with fail
      go_ret3
      exact ⟨_, rfl, World.ownsRow_nil _ _ _ _, Below.refl _ _⟩
    · obtain rfl := hcc hc8
      clear hco hcc
      go_enter Tryz.func109, Tryz.ntmps109
      go_wp2_with fail
      refine Calls.mono (Hid.out Hw1) ?_
      rintro e w' ⟨rfl, rfl⟩
      go_wp2_with fail
      refine Calls.mono (Hid.out Hw2) ?_
      rintro e w' ⟨rfl, rfl⟩
      go_wp2_with fail
      refine Calls.mono (Hid.out Hfs) ?_
      rintro e w' ⟨rfl, rfl⟩
      go_wp2_with fail
      go_ret3
      exact ⟨_, rfl, World.ownsRow_nil _ _ _ _, Below.refl _ _⟩
  · obtain rfl : (V : Int) = S := by omega
    have hE : unfE l = 0 := by unfold unfE; rw [if_neg h8, if_neg hbig, if_neg hshort, if_neg (by rw [hV, hS]; exact hne)]
    have hN : unfN l = 8 + unfC l := by unfold unfN; rw [if_pos hE]
    have hB : unfB l = (l.drop 8).take (unfC l) := by unfold unfB; rw [if_pos hE]
    rw [hE, hN, hB, hclen]
    have hneb : ((V : Int) != (V : Int)) = false := by simp
    clear hE hN hB e4 hV hS hclen hcn hcs hne
    generalize (l.drop 8).take (unfC l) = D at *
    generalize unfC l = C at *
    by_cases hc8 : cap = 8
    · obtain rfl := hco hc8
      obtain rfl : C = 0 := by omega
      subst hc8
      clear hco hcc
      go_enter Tryz.func109, Tryz.ntmps109
      go_wp2_with fail
      refine Calls.mono (Hid.out Hw1) ?_
      rintro e w' ⟨rfl, rfl⟩
      go_wp2_with fail
      refine Calls.mono (Hid.out Hw2) ?_
      rintro e w' ⟨rfl, rfl⟩
      go_wp2_with fail
      refine Calls.mono (Hid.out Hfs) ?_
      rintro e w' ⟨rfl, rfl⟩
      go_wp2_with fail
      refine Calls.mono (Hid.out Hcp) ?_
      rintro e w1 ⟨v1, rfl, ho1, hb1⟩
      go_wp2_with fail
      go_ret3
      exact ⟨_, rfl, ho1, hb1⟩
    · obtain rfl := hcc hc8
      clear hco hcc
      go_enter Tryz.func109, Tryz.ntmps109
      go_wp2_with fail
      refine Calls.mono (Hid.out Hw1) ?_
      rintro e w' ⟨rfl, rfl⟩
      go_wp2_with fail
      refine Calls.mono (Hid.out Hw2) ?_
      rintro e w' ⟨rfl, rfl⟩
      go_wp2_with fail
      refine Calls.mono (Hid.out Hfs) ?_
      rintro e w' ⟨rfl, rfl⟩
      go_wp2_with fail
      refine Calls.mono (Hid.out Hcp) ?_
      rintro e w1 ⟨v1, rfl, ho1, hb1⟩
      go_wp2_with fail
      go_ret3
      exact ⟨_, rfl, ho1, hb1⟩
end Go.Proofs.YtlamncldbnagmaaGreatDoor
namespace Go.Proofs.YtlamncldbnagmaaGreatDoor
open Go.RowKit

theorem refFrame_long (ao : Option Addr) (n cap : Nat) (w : World) (h : 262144 < n) (hn : n ≤ 140737488355328) :
    Calls Tryz.prog 35 #[.slice ao n cap] w fun e w' => e = .returned (.slice none 0 0) ∧ w' = w := by
  go_enter Tryz.func35, Tryz.ntmps35
  go_wp2
  go_ret
  exact ⟨rfl, rfl⟩

/-- A row that was just laid. -/
theorem owns_lit (w : World) (l : List UInt8) (base : Nat) (hb : base ≤ w.heap.size) (hm : l.length ≤ maxLen) : (w.alloc (.cells (B8 l).toArray 5)).ownsRow base 5 1 (.slice (some ⟨w.heap.size, 0, none⟩) l.length l.length) l.length (B8 l) := by
  have := World.ownsRow_lit (e := 5) (size := 1) w (B8 l).toArray l.length hb hm (by simp [B8_length])
  simpa using this
theorem src_owns {w : World} {base n : Nat} {l : List UInt8} {v : Value} (h : w.ownsRow base 5 1 v n (B8 l)) : Src Tryz.prog 1 23 v n (B8 l) w := by
  obtain ⟨ao, cap, rfl, hs, hl, hn⟩ := owns_sees h
  have := src_sees (P := Tryz.prog) Tryz.underlying23 hs (fun e => by have := (hn e).1; omega) cap
  rwa [hl] at this
theorem owns_grew {w w' : World} {base : Nat} {e : TypeId} {size : Nat} {v : Value} {n : Nat} {xs : List Value} (h : w.ownsRow base e size v n xs) {u u' : Value} (hg : Grew w w' u u') (hne : ∀ k, v.ownBlock = some k → u.ownBlock ≠ some k) : w'.ownsRow base e size v n xs :=
  owns_heap h fun k hk => hg.rows.block k (h.lt k hk).2 (fun e => hne k hk e.symm)

set_option maxRecDepth 100000 in
set_option maxHeartbeats 1600000 in
theorem refFrame_any (ao : Option Addr) (l : List UInt8) (cap : Nat) (w : World) (hl : l.length ≤ 262144) (hs : Sees w ao l) (hnone : ao = none → l.length = 0) :
    Calls Tryz.prog 35 #[.slice ao l.length cap] w fun e w' => ∃ v', e = .returned v' ∧ w'.ownsRow w.heap.size 5 1 v' (l.length + 8) (B8 (frameL l)) ∧ Below w.heap.size w w' := by
  obtain ⟨i0, hi, hz0, hz1, hz2⟩ := info_parts info8
  have Hnone : Hid _ := hnone
  clear hnone
  have Hf1 : Hid _ := four_any l.length w (by omega)
  have o1 := owns_lit w (fourL l.length) w.heap.size (Nat.le_refl _) (by rw [fourL_length]; decide)
  have b1 : Below w.heap.size w (w.alloc (.cells (B8 (fourL l.length)).toArray 5)) := (Below.refl _ _).alloc (Nat.le_refl _) _
  have z1 : w.heap.size + 1 ≤ (w.alloc (.cells (B8 (fourL l.length)).toArray 5)).heap.size := by rw [World.size_alloc]; omega
  go_enter Tryz.func35, Tryz.ntmps35
  go_wp2_with fail
  refine Calls.mono (Hid.out Hf1) ?_
  rintro e w1 ⟨rfl, hw1⟩
  rw [← hw1] at o1 b1 z1
  clear hw1 Hf1
  have n2 := owns_none w1
  have o2 := o1.alloc (.cells #[] 5)
  have s2 := src_owns o2
  have bs1 := hs.below b1 (Nat.le_refl _)
  go_wp2_with (first
    | ((with_reducible (show wpList _ _ _ (Oper.mk _ (Op.call ⟨Callee.builtin Builtin.append, #[.tmp 12, .tmp 13], _⟩) _ _ _ _ :: _) _ _)); go_must (refine wpList_append_grew _ rfl (.tmp 12) (.tmp 13) 23 23 rfl w1.heap.size 5 i0 (.int .u8 0) 1 1 Tryz.underlying23 hi hz0 hz1 hz2 rfl _ 0 _ rfl n2 _ 4 (B8 (fourL l.length)) rfl s2 (by unfold maxLen; omega) (by omega) (by rw [World.size_alloc]; omega) ?_; intro v3 w3 ho3 hg3; have bs3 := hs.below (b1.trans ((below_none hg3).mono (by omega))) (Nat.le_refl _); have s3 := src_sees (P := Tryz.prog) Tryz.underlying23 bs3 Hnone.out cap; have hw3 := (below_none hg3).size))
    | ((with_reducible (show wpList _ _ _ (Oper.mk _ (Op.call ⟨Callee.builtin Builtin.append, #[.tmp 14, .tmp 15], _⟩) _ _ _ _ :: _) _ _)); go_must (refine wpList_append_grew _ rfl (.tmp 14) (.tmp 15) 23 23 rfl w1.heap.size 5 i0 (.int .u8 0) 1 1 Tryz.underlying23 hi hz0 hz1 hz2 rfl _ (0 + 4) _ rfl ho3 _ l.length (B8 l) rfl s3 (by unfold maxLen; omega) (by omega) (by omega) ?_; intro v4 w4 ho4 hg4)))
  have ho4' : w4.ownsRow w1.heap.size 5 1 v4 (4 + l.length) (B8 (fourL l.length ++ l)) := by rw [B8_append]; simpa using ho4
  obtain ⟨ao4, cap4, rfl, s4, l4, n4⟩ := owns_sees ho4'
  have g4 := hg3.trans hg4
  have b4 : Below w1.heap.size w1 w4 := below_none g4
  have o4 : w4.ownsRow w.heap.size 5 1 (.slice (some ⟨w.heap.size, 0, none⟩) 4 4) 4 (B8 (fourL l.length)) := owns_heap o1 (fun k hk => by cases hk; exact b4.block w.heap.size (by omega))
  have b4w : Below w.heap.size w w4 := b1.trans (b4.mono (by omega))
  have Hsum : Hid _ := refSum_any ao4 (fourL l.length ++ l) cap4 w4 s4 (by rw [l4]; omega)
  rw [l4] at Hsum
  clear ho3 ho4 ho4' hg3 hg4 g4 n2 o2 s2 bs1 o1 b1 hw3 s3 bs3 s4 n4
  refine Calls.mono (Hid.out Hsum) ?_
  rintro e w' ⟨rfl, rfl⟩
  obtain ⟨S, hS⟩ := Int.eq_ofNat_of_zero_le (sumZ_bd (fourL l.length ++ l)).1
  have hS32 : S < 4294967296 := by have := (sumZ_bd (fourL l.length ++ l)).2; omega
  have Hfin : Hid (frameL l = fourL l.length ++ (fourL S ++ l)) := by show _ = _; unfold frameL; rw [hS, Int.toNat_natCast]
  rw [hS]
  clear hS Hsum
  have Hf2 : Hid _ := four_any S w' hS32
  have o5 := owns_lit w' (fourL S) w'.heap.size (Nat.le_refl _) (by rw [fourL_length]; decide)
  have n5 := o4.alloc (.cells (B8 (fourL S)).toArray 5)
  have b5 : Below w.heap.size w (w'.alloc (.cells (B8 (fourL S)).toArray 5)) := b4w.alloc b4w.size _
  go_wp2_with fail
  refine Calls.mono (Hid.out Hf2) ?_
  rintro e w5 ⟨rfl, hw5⟩
  rw [← hw5] at o5 n5 b5
  clear hw5 Hf2
  have s5 := src_owns o5
  go_wp2_with (first
    | ((with_reducible (show wpList _ _ _ (Oper.mk _ (Op.call ⟨Callee.builtin Builtin.append, #[.tmp 18, .tmp 20], _⟩) _ _ _ _ :: _) _ _)); go_must (refine wpList_append_grew _ rfl (.tmp 18) (.tmp 20) 23 23 rfl w.heap.size 5 i0 (.int .u8 0) 1 1 Tryz.underlying23 hi hz0 hz1 hz2 rfl _ 4 _ rfl n5 _ 4 (B8 (fourL S)) rfl s5 (by unfold maxLen; omega) (by omega) (b5.size) ?_; intro v6 w6 ho6 hg6; have b6 := b5.trans (hg6.below b5.size (fun k hk => by cases hk; exact Nat.le_refl _)); have s6 := src_sees (P := Tryz.prog) Tryz.underlying23 (hs.below b6 (Nat.le_refl _)) Hnone.out cap))
    | ((with_reducible (show wpList _ _ _ (Oper.mk _ (Op.call ⟨Callee.builtin Builtin.append, #[.tmp 21, .tmp 22], _⟩) _ _ _ _ :: _) _ _)); go_must (refine wpList_append_grew _ rfl (.tmp 21) (.tmp 22) 23 23 rfl w.heap.size 5 i0 (.int .u8 0) 1 1 Tryz.underlying23 hi hz0 hz1 hz2 rfl _ (4 + 4) _ rfl ho6 _ l.length (B8 l) rfl s6 (by unfold maxLen; omega) (by omega) (b6.size) ?_; intro v7 w7 ho7 hg7)))
  go_ret
  refine ⟨v7, rfl, ?_, b6.trans (hg7.below b6.size (fun k hk => (ho6.lt k hk).1))⟩
  rw [Hfin.out, ← List.append_assoc, B8_append, B8_append, show l.length + 8 = 4 + 4 + l.length by omega]
  exact ho7
end Go.Proofs.YtlamncldbnagmaaGreatDoor
namespace Go.Proofs.YtlamncldbnagmaaGreatDoor
open Go.RowKit

/-- What GetText tells of bytes: the text, and how many bytes it has. -/
def txtS (l : List UInt8) : List UInt8 := match textN l with | some (s, _) => s | none => []
def txtK (l : List UInt8) : Nat := match textN l with | some (_, r) => l.length - r.length | none => 0
end Go.Proofs.YtlamncldbnagmaaGreatDoor
