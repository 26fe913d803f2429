/-
  CONTRACT: bytes at a file's end, for every file in memory.
-/
import Derived.Test.YtglaocghcgcghaaGreatDoorMany3
namespace Go.Proofs.YtglaocghcgcghaaGreatDoor
open Go.RowKit Go.Maps

set_option maxRecDepth 100000 in
set_option maxHeartbeats 800000 in
theorem lay_any {w : World} {e : Ent} (h : EntAt w e) (ao : Option Addr) (l : List UInt8) (c next : Nat) (hs : Sees w ao l) (hl : 0 < l.length) (hlen : e.bs.length + l.length ≤ 1099511627776) (hnx : next ≤ 4611686018427387904) (hpl : e.pl.length ≤ 1099511627776) (hwr : e.wr ≤ 1099511627776) :
    Calls Tryz.prog 79 #[.pointer (some ⟨e.b, 0, none⟩), .slice ao l.length c, .int .i64 (next : Int)] w fun x w' =>
      x = .returned (.int .i64 ((next + growN (e.bs.length + l.length) e.wr e.pl.length : Nat) : Int)) ∧ ∃ e', EntAt w' e' ∧ e'.nm = e.nm ∧ e'.b = e.b ∧ e'.bs = e.bs ++ l ∧ e'.wr = e.wr ∧ e'.pl = e.pl ++ List.range' next (growN (e.bs.length + l.length) e.wr e.pl.length) ∧ Moved w w' e.foot e'.foot := by
  have c0 := h.c0
  obtain ⟨i0, hi, hz0, hz1, hz2⟩ := info_parts info8D
  have hsrc := src_sees (P := Tryz.prog) Tryz.underlying37 hs (by intro e; subst e; obtain ⟨a, h, _⟩ := hs 0 hl; cases h) c
  have hlz : ((l.length : Int) == 0) = false := by rw [beq_eq_false_iff_ne]; omega
  have K : Hid (EntAt w e) := h
  have S1 : Hid (∀ (x : Int) (w : World), InR x → Calls Tryz.prog 100 #[.int .i64 x] w fun x' w' => x' = .returned (.int .i64 (secI x)) ∧ w' = w) := sectors_in
  have hbl : e.b < w.heap.size := h.head.lt
  clear hs h
  go_enter Tryz.func79, Tryz.ntmps79
  go_wp2_with (at_builtin; go_must (refine wpList_append_grew _ rfl _ _ 37 37 rfl 0 5 i0 (.int .u8 0) 1 1 Tryz.underlying37 hi hz0 hz1 hz2 rfl _ _ _ rfl K.out.row1 _ l.length (B8 l) rfl hsrc (by unfold maxLen; omega) (by omega) (Nat.zero_le _) ?_; intro v1 w1 ho1 hg1; obtain ⟨ao1, cap1, rfl, hc1, hm1⟩ := owns_form ho1; have d0 := (ent_heads K.out hg1 (.inl rfl)).cell 0 rfl; have g0 := (ent_heads K.out hg1 (.inl rfl)).frozen 0))
  have E1 := ent_row1 K.out (by rw [List.length_append]) (B8_append _ _ ▸ ho1) hg1
  generalize w1.setCell ⟨e.b, 0, none⟩ (.slice ao1 (e.bs.length + l.length) cap1) = w2 at *
  obtain ⟨E1, M1⟩ := E1
  have b0 := E1.c0
  have b1 := E1.c1
  have b2 := E1.c2
  dsimp only at b0 b1 b2
  obtain ⟨ao3, cap3, hv2, _⟩ := owns_form E1.row2
  dsimp only at hv2
  rw [hv2] at b2
  have KE : Hid _ := E1
  have KM : Hid _ := M1
  clear E1 M1 d0 g0 hg1 ho1 c0 hsrc hv2 hbl
  have r1 : InR (((e.bs.length + l.length : Nat) : Int)) := ⟨by omega, by omega⟩
  have hsec := secI_nat (e.bs.length + l.length)
  have hcast : ((e.bs.length + l.length : Nat) : Int) = (e.bs.length : Int) + (l.length : Int) := by omega
  have hb1 := secI_bd r1
  have hw1 : wrap64 (secI ((e.bs.length : Int) + (l.length : Int)) - (e.wr : Int) / 16) = secI ((e.bs.length : Int) + (l.length : Int)) - (e.wr : Int) / 16 := IntWalk.wrap64_in _ ⟨by rw [← hcast]; omega, by rw [← hcast]; omega⟩
  have hw2 : wrap64 (secI ((e.bs.length : Int) + (l.length : Int)) - (e.wr : Int) / 16 - (e.pl.length : Int)) = secI ((e.bs.length : Int) + (l.length : Int)) - (e.wr : Int) / 16 - (e.pl.length : Int) := IntWalk.wrap64_in _ ⟨by rw [← hcast]; omega, by rw [← hcast]; omega⟩
  obtain ⟨D, hD⟩ : ∃ D, secI ((e.bs.length : Int) + (l.length : Int)) - (e.wr : Int) / 16 - (e.pl.length : Int) = D := ⟨_, rfl⟩
  have HG : Hid (growN (e.bs.length + l.length) e.wr e.pl.length = D.toNat) := by
    show growN _ _ _ = _
    unfold growN
    rw [← hD, ← hcast, hsec]
    omega
  have hDm : D ≤ 1099511627776 := by
    rw [← hD, ← hcast, hsec]
    omega
  rw [hD] at hw2
  have hnx' : Hid (next + D.toNat ≤ 4611687117939015680) := by show _ ≤ _; omega
  have hpl' : Hid (e.pl.length + D.toNat ≤ 2199023255552) := by show _ ≤ _; omega
  clear hb1 hsec hcast
  obtain ⟨i1, hi1, hy0, hy1, hy2⟩ := info_parts infoI
  go_quiet ((go_at_call 100; exact Calls.quiet_of_same (S1.out _ _ r1)))
  go_wp2
  clear hD hw1 hw2 b0 b1 b2 r1
  go_loopw [2, 40] (fun z i wr => ∃ (k : Nat) (ek : Ent), k ≤ D.toNat ∧ z = .int .i64 ((next + k : Nat) : Int) ∧ i = .int .i64 (k : Int) ∧ EntAt wr ek ∧ ek.nm = e.nm ∧ ek.b = e.b ∧ ek.bs = e.bs ++ l ∧ ek.wr = e.wr ∧ ek.pl = e.pl ++ List.range' next k ∧ Moved w wr e.foot ek.foot) (fun _ i _ => D.toNat - (intOf i).toNat)
  case atStart => exact ⟨0, _, Nat.zero_le _, rfl, rfl, KE.out.carry (fun _ _ => rfl), rfl, rfl, rfl, rfl, by simp, KM.out.drewN _⟩
  case round =>
    obtain ⟨k, ek, hk, rfl, rfl, hE, n1, n2, n3, n4, n5, hM⟩ := hrel
    have KK : Hid (EntAt wr ek) := hE
    have KM2 : Hid (Moved w wr e.foot ek.foot) := hM
    have HN : Hid (ek.nm = e.nm ∧ ek.bs = e.bs ++ l ∧ ek.wr = e.wr ∧ ek.pl = e.pl ++ List.range' next k) := ⟨n1, n3, n4, n5⟩
    have x2 := hE.c2
    obtain ⟨ao4, cap4, hv4, _⟩ := owns_form hE.row2
    have hpl4 : Hid (ek.pl.length = e.pl.length + k) := by show _ = _; rw [n5]; simp
    have hbl : e.b < wr.heap.size := n2 ▸ hE.head.lt
    rw [n2] at x2
    have hb2 : Hid (ek.b = e.b) := n2
    clear hE hM n1 n2 n3 n4 n5 KM KE hv4
    by_cases hlt : (k : Int) < D
    · have HL : Hid (k + 1 ≤ D.toNat) := by show _ ≤ _; omega
      have hz : wrap64 ((next : Int) + (k : Int) + 1) = ((next + (k + 1) : Nat) : Int) := by have := hnx'.out; rw [IntWalk.wrap64_in _ ⟨by omega, by omega⟩]; omega
      have hsr := src_int wr ((next : Int) + (k : Int))
      have hro := KK.out.row2.alloc (.cells #[.int .i64 ((next : Int) + (k : Int))] 3)
      have hl1 : ek.pl.length + 1 ≤ maxLen := by have := hpl4.out; have := hpl'.out; unfold maxLen; omega
      have hl2 : (ek.pl.length + 1) * 8 ≤ 140737488355328 := by have := hpl4.out; have := hpl'.out; omega
      go_wp2_with (at_builtin; go_must (refine wpList_append_shape _ rfl _ _ 78 78 rfl 0 3 i1 (.int .i64 0) 8 Tryz.underlying78 hi1 hy0 hy1 hy2 rfl ek.v2 ek.pl.length (I64D ek.pl) rfl hro _ 1 [.int .i64 ((next : Int) + (k : Int))] rfl hsr hl1 hl2 (Nat.zero_le _) ?_; intro ao5 cap5 w5 ho5 hg5; obtain ⟨d2, g2⟩ := ent_cells2 KK.out (Grew.alloc hg5) hb2.out))
      have E5 := ent_row2 KK.out (pl' := ek.pl ++ [next + k]) (by rw [List.length_append]) (by rw [I64_snoc]; exact ho5) (Grew.alloc hg5)
      rw [hb2.out] at E5
      go_round
      case rel =>
        refine ⟨k + 1, _, HL.out, congrArg (Value.int .i64) hz, by go_num, E5.1, HN.out.1, rfl, HN.out.2.1, HN.out.2.2.1, ?_, KM2.out.trans E5.2⟩
        show ek.pl ++ [next + k] = _
        rw [HN.out.2.2.2, List.append_assoc, List.range'_concat]
        simp
      case measure => have := HL.out; simp [intOf]; omega
    · have hkD : k = D.toNat := by omega
      go_wp2
      go_ret
      refine ⟨ret_int (by rw [HG.out]; omega), ek, KK.out, HN.out.1, hb2.out, HN.out.2.1, HN.out.2.2.1, by rw [HN.out.2.2.2, HG.out, hkD], KM2.out⟩
end Go.Proofs.YtglaocghcgcghaaGreatDoor
