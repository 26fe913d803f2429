/-
  THE LAW CodecBack, walked.
-/
import Derived.Test.YtakokhdnccaclaaDoorCellLike
namespace Go.Proofs.YtakokhdnccaclaaDoor
open Go.RowKit

theorem owns_seesC {w : World} {base n : Nat} {l : List UInt8} {v : Value} (h : w.ownsRow base 5 1 v n (B8 l)) : ∃ ao cap, v = .slice ao n cap ∧ Sees w ao l ∧ l.length = n ∧ n ≤ cap ∧ (ao = none → n = 0) := by
  obtain ⟨ao, cap, rfl, h1, h2, h3⟩ := owns_sees h
  refine ⟨ao, cap, rfl, h1, h2, ?_, fun e => (h3 e).1⟩
  rcases h.2 with ⟨e, h0⟩ | ⟨g, cap', cur, e, _, _, hn, _⟩
  · omega
  · cases e
    exact hn
theorem owns_below {w w' : World} {base : Nat} {e : TypeId} {size : Nat} {v : Value} {n : Nat} {xs : List Value} (h : w.ownsRow base e size v n xs) (hb : Below w.heap.size w w') : w'.ownsRow base e size v n xs :=
  owns_heap h (fun k hk => hb.block k (h.lt k hk).2)
theorem below_drewN {w w' : World} {B : Nat} (h : Below B w w') (k : Nat) : Below B w (w'.drewN k) := ⟨h.os, h.tape, h.output, h.size, h.block⟩
end Go.Proofs.YtakokhdnccaclaaDoor
namespace Go.Proofs.YtakokhdnccaclaaDoor.codecBack
open Go.RowKit

set_option maxRecDepth 100000 in
set_option maxHeartbeats 3200000 in
theorem walk (u : Nat) (s : ByteArray) (ao : Option Addr) (l : List CellV) (cap : Nat) (w : World) (hu : u < 18446744073709551616) (_hss : s.size ≤ maxLen) (hs : CSees w ao l) (hok : ∀ c ∈ l, c.Ok) (hl : l.length ≤ 140737488355328) (hw : ∀ c ∈ l, wtC c ≤ 562949953421312) (ht : Tab w) (ue : TypeId) (pv : Value) (he : Err w ue pv) :
    Calls Tryd.prog 7 #[.int .u64 u, .string s, .slice ao l.length cap] w fun e w' => e = .returned (.bool true) ∧ Below w.heap.size w w' := by
  obtain ⟨i0, hi, hz0, hz1, hz2⟩ := info_parts info8
  obtain ⟨i1, hi1, hy0, hy1, hy2⟩ := info_parts infoCell
  have Hu : Hid (u < 18446744073709551616) := hu
  have hui : (u : Int) ≤ 18446744073709551615 := by omega
  have hkz := kindZ_wrap hu
  have Hlive : Hid _ := lives_any w ht
  by_cases hbig : 10000 < s.size
  · have hbigI : (10000 : Int) < (s.size : Int) := by omega
    clear hu
    go_enter Tryd.func7, Tryd.ntmps7
    go_wp2_with fail
    refine Calls.mono (Hid.out Hlive) ?_
    rintro e w1 ⟨rfl, hb1⟩
    go_wp2_with fail
    go_ret
    exact ⟨rfl, hb1⟩
  have hbigI : ¬ (10000 : Int) < (s.size : Int) := by omega
  have hsI : (s.size : Int) ≤ 10000 := by omega
  have Hwe : Hid _ := weigh_any ao l cap w hs hl hw
  clear hu Hlive
  go_enter Tryd.func7, Tryd.ntmps7
  go_wp2_with fail
  refine Calls.mono (Hid.out Hwe) ?_
  rintro e w1 ⟨⟨z, rfl, hz⟩, hb1⟩
  clear Hwe
  by_cases hz5 : 500 < z
  · have hz5I : (500 : Int) < (z : Int) := by omega
    have ht1 := ht.below hb1 (Nat.le_refl _)
    clear hz
    go_wp2_with fail
    refine (lives_any _ ht1).mono ?_
    rintro e w2 ⟨rfl, hb2⟩
    go_wp2_with fail
    go_ret
    exact ⟨rfl, hb1.trans (hb2.mono hb1.size)⟩
  have hz5I : ¬ (500 : Int) < (z : Int) := by omega
  obtain ⟨hl5, hwl⟩ := hz (by omega)
  clear hz
  have hnu := numL_length u
  go_wp2_with fail
  refine Calls.mono (put_any none [] 0 u _ (Sees.nil _ _) (fun _ => rfl) (by simp) Hu.out) ?_
  rintro e w2 ⟨v2, rfl, ho2, hb2⟩
  have ho2' : w2.ownsRow w1.heap.size 5 1 v2 (numL u).length (B8 (numL u)) := by simpa using ho2
  have hbw2 : Below w.heap.size w w2 := hb1.trans (hb2.mono hb1.size)
  clear ho2
  generalize hNu : (numL u).length = N at *
  go_wp2_with (at_builtin; go_must (refine wpList_append_grew _ rfl _ _ 22 22 rfl w1.heap.size 5 i0 (.int .u8 0) 1 1 Tryd.underlying22 hi hz0 hz1 hz2 rfl _ N _ rfl (ho2'.alloc _) _ 2 (B8 [7, 7]) rfl (src_sees Tryd.underlying22 (sees_lit w2 [7, 7] (0, 0)) (fun h => by cases h) 2) (by unfold maxLen; omega) (by omega) (by rw [World.size_alloc]; have := hb2.size; omega) ?_; intro v3 w3 ho3 hg3))
  have g3 := hg3.alloc
  have hbw3 : Below w.heap.size w w3 := hbw2.trans (g3.below hbw2.size (fun k hk => Nat.le_trans hb1.size (ho2'.lt k hk).1))
  rw [← B8_append] at ho3
  obtain ⟨ao3, cap3, rfl, hs3, hl3, hc3, hn3⟩ := owns_seesC ho3
  clear hg3 ho3 g3 ho2'
  refine Calls.mono (get_ok_at ao3 (numL u ++ [7, 7]) _ cap3 _ u N [7, 7] hl3 (by simp) hs3 (by omega) (get_back u Hu.out [7, 7])) ?_
  rintro e w4 ⟨rfl, hb4⟩
  have hbw4 : Below w.heap.size w w4 := hbw3.trans (hb4.mono hbw3.size)
  clear hs3 hl3 hn3 hb4 hbw3 hbw2 hb2
  have hnt := txtL_le s
  have hT1 := numL_length (strL s).length
  go_wp2_with fail
  refine Calls.mono (putText_any none [] 0 s _ (Sees.nil _ _) (fun _ => rfl) (by simp; omega)) ?_
  rintro e w5 ⟨v5, rfl, ho5, hb5⟩
  have ho5' : w5.ownsRow w4.heap.size 5 1 v5 (txtL (strL s)).length (B8 (txtL (strL s))) := by simpa [strL] using ho5
  have hbw5 : Below w.heap.size w w5 := hbw4.trans (hb5.mono hbw4.size)
  clear ho5
  generalize hNt : (txtL (strL s)).length = M at *
  go_wp2_with (at_builtin; go_must (refine wpList_append_grew _ rfl _ _ 22 22 rfl w4.heap.size 5 i0 (.int .u8 0) 1 1 Tryd.underlying22 hi hz0 hz1 hz2 rfl _ M _ rfl (ho5'.alloc _) _ 1 (B8 [0]) rfl (src_one _ _ _ rfl) (by unfold maxLen; omega) (by omega) (by rw [World.size_alloc]; have := hb5.size; omega) ?_; intro v6 w6 ho6 hg6))
  have g6 := hg6.alloc
  have hbw6 : Below w.heap.size w w6 := hbw5.trans (g6.below hbw5.size (fun k hk => Nat.le_trans hbw4.size (ho5'.lt k hk).1))
  rw [← B8_append] at ho6
  obtain ⟨ao6, cap6, rfl, hs6, hl6, hc6, hn6⟩ := owns_seesC ho6
  clear hg6 ho6 g6 ho5'
  have hgt : textN (txtL (strL s) ++ [0]) = some (strL s, [0]) := txt_back s (by omega) [0]
  have Hgt : Hid _ := getText_ok ao6 (txtL (strL s) ++ [0]) cap6 w6 (strL s) [0] hs6 (by omega) (by omega) hgt
  have hMe : (txtL (strL s) ++ [0]).length - [(0 : UInt8)].length = M := by simp [hNt]
  rw [hl6] at Hgt
  rw [hl6] at hMe
  rw [hMe] at Hgt
  have hse : (⟨(strL s).toArray⟩ : ByteArray) = s := bytesOf_strL s
  rw [hse] at Hgt
  clear hgt hMe hse hs6 hl6 hn6
  refine Calls.mono (Hid.out Hgt) ?_
  rintro e w7 ⟨rfl, hb7⟩
  have hbw7 : Below w.heap.size w w7 := hbw6.trans (hb7.mono hbw6.size)
  clear Hgt hb7 hbw6 hbw5 hb5 hbw4
  go_wp2_with fail
  refine Calls.mono (put_any none [] 0 u _ (Sees.nil _ _) (fun _ => rfl) (by simp) Hu.out) ?_
  rintro e w8 ⟨v8, rfl, ho8, hb8⟩
  obtain ⟨ao8, cap8, rfl, _, _, _, _⟩ := owns_seesC (n := N) (l := numL u) (by simpa [hNu] using ho8)
  have hbw8 : Below w.heap.size w w8 := hbw7.trans (hb8.mono hbw7.size)
  clear ho8 hb8 hbw7
  go_wp2_with fail
  refine Calls.mono (putText_any none [] 0 s _ (Sees.nil _ _) (fun _ => rfl) (by simp; omega)) ?_
  rintro e w9 ⟨v9, rfl, ho9, hb9⟩
  obtain ⟨ao9, cap9, rfl, _, _, _, _⟩ := owns_seesC (n := M) (l := txtL (strL s)) (by have : (txtL s.data.toList).length = M := hNt; simpa [strL, this] using ho9)
  have hbw9 : Below w.heap.size w w9 := hbw8.trans (hb9.mono hbw8.size)
  clear ho9 hb9 hbw8
  have hko := kindZ_ok Hu.out
  have HK : Hid (zagZ (zigN (kindZ u) : Int) = kindZ u) := zag_zigN hko
  have Hko : Hid (I64 (kindZ u)) := hko
  clear hko
  go_wp2_with fail
  refine Calls.mono (zig_nat (kindZ u) _ Hko.out) ?_
  rintro e w10 ⟨rfl, rfl⟩
  go_wp2_with fail
  have Hza := zag_nat (zigN (kindZ u)) w10 (zigN_eq Hko.out).2
  rw [HK.out] at Hza
  refine Calls.mono Hza ?_
  rintro e w11 ⟨rfl, rfl⟩
  clear Hza
  have hs11 := hs.below hbw9 (Nat.le_refl _)
  go_wp2_with fail
  go_loopw [11, 77] (fun s11 s77 wr => ∃ i : Nat, i ≤ l.length ∧ s77 = .int .i64 i ∧ wr.ownsRow w.heap.size 63 10 s11 i (C10 ((l.take i).map plainC)) ∧ Below w.heap.size w wr) (fun _ s77 _ => l.length - (intOf s77).toNat)
  case atStart => exact ⟨0, by omega, rfl, by simpa [C10] using World.ownsRow_nil _ _ _ _, hbw9⟩
  case round =>
    obtain ⟨i, hil, rfl, ho, hbr⟩ := hrel
    rcases Nat.lt_or_ge i l.length with hlt | hge
    · have hc : l[i]? = some l[i] := List.getElem?_eq_getElem hlt
      have hst : (l.take (i + 1)).map plainC = (l.take i).map plainC ++ [plainC l[i]] := by rw [take_succ_of hc, List.map_append]; rfl
      obtain ⟨b1, o1, rfl, h1⟩ := (hs.below hbr (Nat.le_refl _)).ten hc
      generalize l[i] = c at *
      obtain ⟨⟨table, part, row, col⟩, ⟨time, dead, loc, kind, num, str⟩⟩ := c
      obtain ⟨k0, k1, k2, k3, k4, k5, k6, k7, k8, k9⟩ := h1
      simp only at k0 k1 k2 k3 k4 k5 k6 k7 k8 k9
      have Hst : Hid _ := hst
      have Hok : Hid _ := hok
      have Hw : Hid _ := hw
      clear hc hs hs11 hst hok hw
      cases dead
      · go_wp2_with (at_builtin; go_must (refine wpList_append_grew _ rfl (.tmp 89) (.tmp 91) 47 47 rfl w.heap.size 63 i1 _ 10 112 Tryd.underlying47 hi1 hy0 hy1 hy2 rfl _ i _ rfl ((ho.alloc _).alloc _) _ 1 (C10 [⟨⟨table, part, row, col⟩, ⟨time, false, 0, kind, num, str⟩⟩]) rfl (src_cell ⟨⟨table, part, row, col⟩, ⟨time, false, 0, kind, num, str⟩⟩ (heap_alloc2_new _ _ _)) (by unfold maxLen; omega) (by omega) (by have := hbr.size; simp; omega) ?_; intro v4 w4 ho4 hg4))
        have g4 := hg4.alloc.alloc
        clear hg4 k0 k1 k2 k3 k4 k5 k6 k7 k8 k9
        go_wp2
        go_roundw
        case rel =>
          refine ⟨i + 1, by omega, by go_num, ?_, hbr.trans (g4.below hbr.size (fun k hk => (ho.lt k hk).1))⟩
          rw [Hst.out, C10_append]
          exact ho4
        case measure => simp [intOf]; omega
      · go_wp2_with (at_builtin; go_must (refine wpList_append_grew _ rfl (.tmp 89) (.tmp 91) 47 47 rfl w.heap.size 63 i1 _ 10 112 Tryd.underlying47 hi1 hy0 hy1 hy2 rfl _ i _ rfl ((ho.alloc _).alloc _) _ 1 (C10 [⟨⟨table, part, row, col⟩, ⟨time, true, loc, noVal⟩⟩]) rfl (src_cell ⟨⟨table, part, row, col⟩, ⟨time, true, loc, noVal⟩⟩ (heap_alloc2_new _ _ _)) (by unfold maxLen; omega) (by omega) (by have := hbr.size; simp; omega) ?_; intro v4 w4 ho4 hg4))
        have g4 := hg4.alloc.alloc
        clear hg4 k0 k1 k2 k3 k4 k5 k6 k7 k8 k9
        go_wp2
        go_roundw
        case rel =>
          refine ⟨i + 1, by omega, by go_num, ?_, hbr.trans (g4.below hbr.size (fun k hk => (ho.lt k hk).1))⟩
          rw [Hst.out, C10_append]
          exact ho4
        case measure => simp [intOf]; omega
    · obtain rfl : i = l.length := by omega
      rw [List.take_length] at ho
      have hsr := hs.below hbr (Nat.le_refl _)
      have Hce : Hid _ := cells_any ao l cap wr hsr hok (by omega)
      have hcl : (cellsL l).length ≤ 60000 := by
        have h1 := manyL_le l
        have h2 := (numL_length l.length).2
        unfold cellsL
        rw [List.length_append]
        omega
      have hall : ∀ c ∈ l, c.Ok ∧ wtC c < 18446744073709551616 := fun c hc => ⟨hok c hc, by have := hw c hc; omega⟩
      have HC : Hid (redC (cellsL l) = l.map plainC) := by show _ = _; unfold redC; rw [cellsN_back l hall (by omega)]; rfl
      have HE : Hid (redE (cellsL l) = 0) := by show _ = _; unfold redE; rw [cellsN_back l hall (by omega)]
      have HM : Hid (redE (cellsL l ++ [0]) = 8) := by show _ = _; unfold redE; rw [cellsN_more l hall (by omega)]
      have her := he.below hbr (Nat.le_refl _)
      have hpl : (l.map plainC).length = l.length := by simp
      have HP : Hid ((l.map plainC).length = l.length) := hpl
      clear hs hs11 hok hw hall hge hil hpl
      go_wp2_with fail
      refine Calls.mono (Hid.out Hce) ?_
      rintro e x1 ⟨b1, rfl, hob, hbx1⟩
      have hbX1 : Below w.heap.size w x1 := hbr.trans (hbx1.mono hbr.size)
      have ho1 := owns_below ho hbx1
      obtain ⟨ab, capb, rfl, hsb, _, hcb, hnb⟩ := owns_seesC hob
      have Hrd : Hid _ := readCells_any ab (cellsL l) capb x1 ue pv hsb hcb (by omega) (he.below hbX1 (Nat.le_refl _))
      rw [HC.out, HE.out, HP.out] at Hrd
      clear Hce hob
      generalize hCL : (cellsL l).length = CL at *
      go_wp2_with fail
      refine Calls.mono (Hid.out Hrd) ?_
      rintro e x2 ⟨b2, rfl, ho2, hbx2⟩
      have hbX2 : Below w.heap.size w x2 := hbX1.trans (hbx2.mono hbX1.size)
      have ho1b := owns_below ho1 hbx2
      have hsb2 := hsb.below hbx2 (Nat.le_refl _)
      have e0 := owns_none x2
      have s1 := src_sees (P := Tryd.prog) Tryd.underlying22 (hsb2.below ((Below.refl _ _).alloc (Nat.le_refl _) (.cells #[] 5)) (Nat.le_refl _)) (fun e => hCL.trans (hnb e)) capb
      rw [hCL] at s1
      clear Hrd
      go_wp2_with (first
        | ((with_reducible (show wpList _ _ _ (Oper.mk _ (Op.call ⟨Callee.builtin Builtin.append, #[.tmp 102, .tmp 103], _⟩) _ _ _ _ :: _) _ _)); go_must (refine wpList_append_grew _ rfl (.tmp 102) (.tmp 103) 22 22 rfl x2.heap.size 5 i0 (.int .u8 0) 1 1 Tryd.underlying22 hi hz0 hz1 hz2 rfl _ 0 [] rfl e0 _ CL (B8 (cellsL l)) rfl s1 (by unfold maxLen; omega) (by omega) (by rw [World.size_alloc]; omega) ?_; intro v3 x3 ho3 hg3; have hx3 : x2.heap.size ≤ x3.heap.size := Nat.le_trans (by rw [World.size_alloc]; omega) hg3.rows.size))
        | ((with_reducible (show wpList _ _ _ (Oper.mk _ (Op.call ⟨Callee.builtin Builtin.append, #[.tmp 104, .tmp 105], _⟩) _ _ _ _ :: _) _ _)); go_must (refine wpList_append_grew _ rfl (.tmp 104) (.tmp 105) 22 22 rfl x2.heap.size 5 i0 (.int .u8 0) 1 1 Tryd.underlying22 hi hz0 hz1 hz2 rfl _ (0 + CL) _ rfl (ho3.alloc _) _ 1 (B8 [0]) rfl (src_one _ _ _ rfl) (by unfold maxLen; omega) (by omega) (by rw [World.size_alloc]; omega) ?_; intro v5 x5 ho5 hg5)))
      have ho5' : x5.ownsRow x2.heap.size 5 1 v5 (CL + 1) (B8 (cellsL l ++ [0])) := by rw [B8_append]; simpa using ho5
      have g35 : Grew (x2.alloc (.cells #[] 5)) x5 _ _ := hg3.trans hg5.alloc
      have hbx5 := below_none g35
      have hbX5 : Below w.heap.size w x5 := hbX2.trans (hbx5.mono hbX2.size)
      obtain ⟨a5, cap5, rfl, hs5, hl5', hc5, _⟩ := owns_seesC ho5'
      have Hrd : Hid _ := readCells_any a5 (cellsL l ++ [0]) cap5 x5 ue pv hs5 (by omega) (by omega) (he.below hbX5 (Nat.le_refl _))
      rw [HM.out, hl5'] at Hrd
      have ho1c := owns_below ho1b hbx5
      have ho2c := owns_below ho2 hbx5
      clear ho5 ho5' hg5 hg3 ho3 hx3 g35 e0 s1 hs5 hl5' hsb hsb2
      refine Calls.mono (Hid.out Hrd) ?_
      rintro e x6 ⟨b6, rfl, _, hbx6⟩
      have hbX6 : Below w.heap.size w x6 := hbX5.trans (hbx6.mono hbX5.size)
      obtain ⟨ap, capp, rfl, hsp, _, _⟩ := owns_csees (owns_below ho1c hbx6)
      obtain ⟨ax, capx, rfl, hsx, _, _⟩ := owns_csees (owns_below ho2c hbx6)
      have Hli : Hid _ := like_same ax ap (l.map plainC) capx capp x6 hsx hsp (by rw [HP.out]; omega)
      rw [HP.out] at Hli
      have ht6 := ht.below hbX6 (Nat.le_refl _)
      clear Hrd ho1 ho1b ho1c ho2 ho2c hsp hsx ho
      go_wp2_with fail
      refine Calls.mono (Hid.out Hli) ?_
      rintro e x7 ⟨rfl, k7, rfl⟩
      have hbX7 : Below w.heap.size w (x6.drewN k7) := below_drewN hbX6 k7
      go_wp2_with fail
      refine (lives_any _ (ht.below hbX7 (Nat.le_refl _))).mono ?_
      rintro e x8 ⟨rfl, hbx8⟩
      go_wp2_with fail
      go_ret
      exact ⟨rfl, hbX7.trans (hbx8.mono hbX7.size)⟩
end Go.Proofs.YtakokhdnccaclaaDoor.codecBack
