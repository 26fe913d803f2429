/-
  CONTRACT: the document's buckets.
-/
import Derived.Test.YtdeobmihkcfofaaTirRefP
namespace Go.Proofs.Ytdeobmihkcfofaa
open Go.RowKit

theorem drewN_owns {w : World} {B n : Nat} {e : TypeId} {k m : Nat} {v : Value} {xs : List Value} (h : w.ownsRow B e k v m xs) : (w.drewN n).ownsRow B e k v m xs := owns_keepT h fun _ _ => rfl
theorem zs_set (L : List Nat) (k x : Nat) : (zs L).set k (x : Int) = zs (L.set k x) := by simp [zs, List.map_set]
set_option maxRecDepth 100000 in
set_option maxHeartbeats 4000000 in
theorem rbuckets_any (ao : Option Addr) (l : List Int) (cap : Nat) (w : World) (hs : ISees w ao l) (hl : l.length ≤ 500) :
    Calls Try.prog 9 #[.slice ao l.length cap] w fun e w' => ∃ bo vs bcap, e = .returned (.slice bo vs.length bcap) ∧ BSees w' bo vs ∧ vs.map Iv.l = bkts l ∧ Below w.heap.size w w' := by
  obtain ⟨i1, hi1, hy0, hy1, hy2⟩ := infoXT infoInt
  obtain ⟨i2, hi2, hx0, hx1, hx2⟩ := infoXT infoSl
  have hlz : (l.length : Int) ≤ 500 := by omega
  have HS : Hid (∀ u, Below w.heap.size w u → ISees u ao l) := fun u hu => hs.below hu (Nat.le_refl _)
  have CZ : Hid (∀ (x : Int) (w : World), Calls Try.prog 16 #[.int .i64 x] w fun e w' => e = .returned (.int .i64 (cz x : Int)) ∧ w' = w) := size12_any
  have H0 : Hid (w.ownsRow w.heap.size 3 1 (.slice none 0 0) 0 (vI (zs (ordN l 0)))) := by
    have e : ordN l 0 = [] := by simp [ordN]
    rw [e]; exact World.ownsRow_nil _ _ _ _
  clear hs
  go_enter Try.func9, Try.ntmps9
  go_wp2_with fail
  go_loopw [3, 18] (fun s3 s18 wr => ∃ i : Nat, i ≤ l.length ∧ s18 = .int .i64 (i : Int) ∧ wr.ownsRow w.heap.size 3 1 s3 i (vI (zs (ordN l i))) ∧ Below w.heap.size w wr) (fun _ s18 _ => l.length - (intOf s18).toNat)
  case atStart => exact ⟨0, by omega, rfl, H0.out, Below.refl _ _⟩
  case round =>
    obtain ⟨i, hi, rfl, hown, hbr⟩ := hrel
    clear H0
    obtain ⟨a3, c3, rfl⟩ := owns_shapeT hown
    have hbs : w.heap.size ≤ wr.heap.size := hbr.size
    rcases Nat.lt_or_ge i l.length with hlt | hge
    · have hltz : (i : Int) < (l.length : Int) := by omega
      have hli : (ordN l i).length = i := ordN_len l i
      have HG : Hid (∀ w3 v3, Grew (wr.alloc (.cells #[.int .i64 (i : Int)] 3)) w3 (.slice a3 i c3) v3 → Below w.heap.size w w3) := fun w3 v3 g3 => hbr.trans (((Below.refl _ _).alloc hbs _).trans (g3.below (by rw [World.size_alloc]; omega) fun g hg => (hown.lt g hg).1))
      have HOW : Hid (wr.ownsRow w.heap.size 3 1 (.slice a3 i c3) i (vI (zs (ordN l i)))) := hown
      have HE : Hid (vI (zs (ordN l i)) ++ [.int .i64 (i : Int)] = vI (zs (insK (ordN l i) i i))) := by
        show _ = _
        have : insK (ordN l i) i i = ordN l i ++ [i] := by have := insK_end (ordN l i) i; rw [hli] at this; exact this
        rw [this, zs_append, vI_append]; rfl
      have hy : l[i]? = some l[i] := List.getElem?_eq_getElem hlt
      have hfi : cs l i = cz l[i] := by simp [cs, List.getD, hy]
      generalize l[i] = yi at hy hfi
      have HYI : Hid (l[i]? = some yi) := hy
      have HFI : Hid (cs l i = cz yi) := hfi
      clear hown hbr hy hfi hli
      go_wp2_with (at_builtin; go_must (refine wpList_append_grew _ rfl _ _ 22 22 rfl w.heap.size 3 i1 _ 1 8 Try.underlying22 hi1 hy0 hy1 hy2 rfl _ i (vI (zs (ordN l i))) rfl (HOW.out.alloc _) _ 1 [.int .i64 (i : Int)] rfl (src_oneV Try.underlying22 wr _ 3 rfl) (by unfold maxLen; omega) (by omega) (by rw [World.size_alloc]; omega) ?_; intro v3 w3 ho3 g3; obtain ⟨g, c4, rfl, hgB⟩ := row_spot ho3 (by omega)))
      rw [HE.out] at ho3
      have hb3 := HG.out w3 _ g3
      have HP : Hid (w3.ownsRow w.heap.size 3 1 (.slice (some ⟨g, 0, none⟩) (i + 1) c4) (i + 1) (vI (zs (insK (ordN l i) i i))) ∧ Below w.heap.size w w3) := ⟨ho3, hb3⟩
      clear ho3 g3 hb3 HG HOW HE
      go_loopw [5] (fun s5 wx => ∃ k y : Nat, k ≤ i ∧ s5 = .int .i64 (k : Int) ∧ wx.ownsRow w.heap.size 3 1 (.slice (some ⟨g, 0, none⟩) (i + 1) c4) (i + 1) (vI (zs (insK (ordN l i) k y))) ∧ (∀ j ∈ (ordN l i).drop k, cs l i < cs l j) ∧ Below w.heap.size w wx) (fun s5 _ => (intOf s5).toNat)
      case atStart => exact ⟨i, i, Nat.le_refl _, rfl, HP.out.1, (fun j hj => by rw [List.drop_of_length_le (by rw [ordN_len]; omega)] at hj; cases hj), HP.out.2⟩
      case round =>
        obtain ⟨k, y, hk, rfl, hown, hgt, hbr⟩ := hrel
        clear HP
        have hki : (k : Int) ≤ (i : Int) := by omega
        have HOWN : Hid (wr.ownsRow w.heap.size 3 1 (.slice (some ⟨g, 0, none⟩) (i + 1) c4) (i + 1) (vI (zs (insK (ordN l i) k y)))) := hown
        have HBR : Hid (Below w.heap.size w wr) := hbr
        have HGT : Hid (∀ j ∈ (ordN l i).drop k, cs l i < cs l j) := hgt
        rcases Nat.eq_zero_or_pos k with h0 | h0
        · subst h0
          have HD : Hid (insK (ordN l i) 0 i = ordN l (i + 1)) := ordN_put (fun j hj => by simp at hj) hgt
          clear hown hgt hbr HGT
          go_wp2_with fail
          go_quiet (fail)
          have HO2 : Hid ((wr.drewN nq).ownsRow w.heap.size 3 1 (.slice (some ⟨g, 0, none⟩) (i + 1) c4) (i + 1) (vI (zs (insK (ordN l i) 0 y)))) := drewN_owns HOWN.out
          have HB2 : Hid (Below w.heap.size w (wr.drewN nq)) := ⟨HBR.out.os, HBR.out.tape, HBR.out.output, HBR.out.size, HBR.out.block⟩
          generalize wr.drewN nq = wq at *
          clear HOWN HBR
          have q1 : wq.cell? ⟨g, 0, none⟩ = some (.int .i64 (y : Int)) := by rw [HO2.out.cellAt 0 (by omega)]; exact vI_at (zs_at (insK_at (Nat.zero_le _)))
          have q2 : wq.frozen? ⟨g, 0, none⟩ = false := HO2.out.frozenAt 0
          go_wp2_with fail
          have HN : Hid ((wq.setCell ⟨g, 0, none⟩ (.int .i64 (i : Int))).ownsRow w.heap.size 3 1 (.slice (some ⟨g, 0, none⟩) (i + 1) c4) (i + 1) (vI (zs (ordN l (i + 1)))) ∧ Below w.heap.size w (wq.setCell ⟨g, 0, none⟩ (.int .i64 (i : Int)))) := by
            refine ⟨?_, HB2.out.setCell (by exact hgB) _⟩
            have := (HO2.out.stored 0 (.int .i64 (i : Int))).1
            rw [vI_set, zs_set, insK_set (Nat.zero_le _), HD.out] at this
            exact this
          go_roundw
          case rel => exact ⟨i + 1, by omega, by go_num, HN.out⟩
          case measure => (simp [intOf]; try omega)
        · obtain ⟨kp, rfl⟩ : ∃ kp, k = kp + 1 := ⟨k - 1, by omega⟩
          have hkz : (0 : Int) < ((kp + 1 : Nat) : Int) := by omega
          obtain ⟨p, hp⟩ : ∃ p, (ordN l i)[kp]? = some p := ⟨_, List.getElem?_eq_getElem (by rw [ordN_len]; omega)⟩
          have hpl : p < i := ordN_lt (List.mem_of_getElem? hp)
          have hpz : (p : Int) < (l.length : Int) := by omega
          have hpl2 : p < l.length := by omega
          have hy : l[p]? = some l[p] := List.getElem?_eq_getElem hpl2
          have hfp : cs l p = cz l[p] := by simp [cs, List.getD, hy]
          generalize l[p] = yp at hy hfp
          obtain ⟨b, o, rfl, d1⟩ := HS.out wr hbr i _ HYI.out
          have d2 : wr.cell? ⟨b, o + p, none⟩ = some (.int .i64 yp) := by obtain ⟨b', o', e, h⟩ := HS.out wr hbr p _ hy; cases e; exact h
          have d3 : wr.cell? ⟨g, kp, none⟩ = some (.int .i64 (p : Int)) := by rw [hown.cellAt kp (by omega)]; exact vI_at (zs_at (insK_prev hp))
          have CI : Hid (∀ u, Calls Try.prog 16 #[.int .i64 yi] u fun e w' => e = .returned (.int .i64 (cz yi : Int)) ∧ w' = u) := size12_any yi
          have CP : Hid (∀ u, Calls Try.prog 16 #[.int .i64 yp] u fun e w' => e = .returned (.int .i64 (cz yp : Int)) ∧ w' = u) := size12_any yp
          have HFP : Hid (cs l p = cz yp) := hfp
          have HPP : Hid ((ordN l i)[kp]? = some p) := hp
          have HC : Hid (cz yi < cz yp ∨ ∀ j ∈ (ordN l i).take (kp + 1), cs l j ≤ cs l i) := by
            rcases Nat.lt_or_ge (cz yi) (cz yp) with h | h
            · exact .inl h
            · refine .inr fun j hj => ?_
              have := take_le (R := fun a b => cs l a ≤ cs l b) ((ordN_sorted l i).imp fun h => leT_le h) hp (Nat.le_refl _) j hj
              have h2 := HFI.out
              omega
          have HFI2 : Hid (cs l i = cz yi) := HFI.out
          clear hown hgt hbr hy hfp hp
          by_cases hcmp : cz yi < cz yp
          · have HG2 : Hid (∀ j ∈ (ordN l i).drop kp, cs l i < cs l j) := fun j hj => by
              rw [drop1 HPP.out] at hj
              rcases List.mem_cons.1 hj with e | hj
              · subst e; rw [HFI2.out, HFP.out]; exact hcmp
              · exact HGT.out j hj
            have hcz : (cz yi : Int) < (cz yp : Int) := by omega
            clear HC HFI2 HFP HGT
            generalize cz yi = zi at *
            generalize cz yp = zp at *
            go_wp2_with fail
            go_quiet (first | (go_at_call 16; exact Calls.quiet_of_same (CI.out _)) | (go_at_call 16; exact Calls.quiet_of_same (CP.out _)))
            have HO2 : Hid ((wr.drewN nq).ownsRow w.heap.size 3 1 (.slice (some ⟨g, 0, none⟩) (i + 1) c4) (i + 1) (vI (zs (insK (ordN l i) (kp + 1) y)))) := drewN_owns HOWN.out
            have HB2 : Hid (Below w.heap.size w (wr.drewN nq)) := ⟨HBR.out.os, HBR.out.tape, HBR.out.output, HBR.out.size, HBR.out.block⟩
            clear d1 d2 d3
            generalize wr.drewN nq = wq at *
            clear HOWN HBR
            have q0 : wq.cell? ⟨g, kp, none⟩ = some (.int .i64 (p : Int)) := by rw [HO2.out.cellAt kp (by omega)]; exact vI_at (zs_at (insK_prev HPP.out))
            have q1 : wq.cell? ⟨g, kp + 1, none⟩ = some (.int .i64 (y : Int)) := by rw [HO2.out.cellAt (kp + 1) (by omega)]; exact vI_at (zs_at (insK_at (by rw [ordN_len]; omega)))
            have q2 : wq.frozen? ⟨g, kp + 1, none⟩ = false := HO2.out.frozenAt (kp + 1)
            go_wp2_with fail
            have HN : Hid ((wq.setCell ⟨g, kp + 1, none⟩ (.int .i64 (p : Int))).ownsRow w.heap.size 3 1 (.slice (some ⟨g, 0, none⟩) (i + 1) c4) (i + 1) (vI (zs (insK (ordN l i) kp p))) ∧ Below w.heap.size w (wq.setCell ⟨g, kp + 1, none⟩ (.int .i64 (p : Int)))) := by
              refine ⟨?_, HB2.out.setCell (by exact hgB) _⟩
              have := (HO2.out.stored (kp + 1) (.int .i64 (p : Int))).1
              rw [vI_set, zs_set, insK_set (by rw [ordN_len]; omega), insK_down HPP.out] at this
              exact this
            go_roundw
            case rel => exact ⟨kp, p, by omega, by go_num, HN.out.1, HG2.out, HN.out.2⟩
            case measure => (simp [intOf]; try omega)
          · have HD : Hid (insK (ordN l i) (kp + 1) i = ordN l (i + 1)) := ordN_put (by rcases HC.out with h | h; exact absurd h hcmp; exact h) HGT.out
            have hcz : ¬ (cz yi : Int) < (cz yp : Int) := by omega
            clear HC HFI2 HFP HGT HPP
            generalize cz yi = zi at *
            generalize cz yp = zp at *
            go_wp2_with fail
            go_quiet (first | (go_at_call 16; exact Calls.quiet_of_same (CI.out _)) | (go_at_call 16; exact Calls.quiet_of_same (CP.out _)))
            have HO2 : Hid ((wr.drewN nq).ownsRow w.heap.size 3 1 (.slice (some ⟨g, 0, none⟩) (i + 1) c4) (i + 1) (vI (zs (insK (ordN l i) (kp + 1) y)))) := drewN_owns HOWN.out
            have HB2 : Hid (Below w.heap.size w (wr.drewN nq)) := ⟨HBR.out.os, HBR.out.tape, HBR.out.output, HBR.out.size, HBR.out.block⟩
            clear d1 d2 d3
            generalize wr.drewN nq = wq at *
            clear HOWN HBR
            have q1 : wq.cell? ⟨g, kp + 1, none⟩ = some (.int .i64 (y : Int)) := by rw [HO2.out.cellAt (kp + 1) (by omega)]; exact vI_at (zs_at (insK_at (by rw [ordN_len]; omega)))
            have q2 : wq.frozen? ⟨g, kp + 1, none⟩ = false := HO2.out.frozenAt (kp + 1)
            go_wp2_with fail
            have HN : Hid ((wq.setCell ⟨g, kp + 1, none⟩ (.int .i64 (i : Int))).ownsRow w.heap.size 3 1 (.slice (some ⟨g, 0, none⟩) (i + 1) c4) (i + 1) (vI (zs (ordN l (i + 1)))) ∧ Below w.heap.size w (wq.setCell ⟨g, kp + 1, none⟩ (.int .i64 (i : Int)))) := by
              refine ⟨?_, HB2.out.setCell (by exact hgB) _⟩
              have := (HO2.out.stored (kp + 1) (.int .i64 (i : Int))).1
              rw [vI_set, zs_set, insK_set (by rw [ordN_len]; omega), HD.out] at this
              exact this
            go_roundw
            case rel => exact ⟨i + 1, by omega, by go_num, HN.out⟩
            case measure => (simp [intOf]; try omega)
    · obtain rfl : i = l.length := by omega
      have hgez : ¬ (l.length : Int) < (l.length : Int) := by omega
      rw [show ordN l l.length = ordr l from rfl] at hown
      obtain ⟨O, hO⟩ : ∃ O, O = ordr l := ⟨_, rfl⟩
      have HO : Hid (O = ordr l) := hO
      have hOl : O.length = l.length := by rw [hO, ordr_len]
      have hOin : ∀ x ∈ O, x < l.length := fun x hx => ordN_lt (s := l) (n := l.length) (by rw [hO] at hx; exact hx)
      rw [← hO] at hown
      obtain ⟨wB, hwB⟩ : ∃ wB, wB = wr := ⟨_, rfl⟩
      rw [← hwB] at hown hbr hbs ⊢
      have HOS : Hid (∀ u, Below wB.heap.size wB u → ISees u a3 (zs O)) := fun u hu => by
        obtain ⟨a', c', e, h⟩ := owns_isees hown
        obtain ⟨rfl, _⟩ : a3 = a' ∧ c3 = c' := by injection e with e1 e2 e3; exact ⟨e1, e3⟩
        exact h.below hu (Nat.le_refl _)
      have HSS : Hid (∀ u, Below wB.heap.size wB u → ISees u ao l) := fun u hu => HS.out u (hbr.trans (hu.mono hbr.size))
      have HBB : Hid (∀ u, Below wB.heap.size wB u → Below w.heap.size w u) := fun u hu => hbr.trans (hu.mono hbr.size)
      have HIN : Hid (∀ x ∈ O, x < l.length) := hOin
      have HG0 : Hid (GAt wB.heap.size wB (.slice none 0 0) [] []) := GAt.nil _ _
      have HOL : Hid (O.length = l.length) := hOl
      clear hown hbr hbs hO hOin hwB HS hOl
      go_wp2_with fail
      go_loopw [6, 7, 63] (fun s6 s7 s63 wx => ∃ (i : Nat) (vs : List Value) (G : List (List Nat)) (sm : Nat), i ≤ l.length ∧ s63 = .int .i64 (i : Int) ∧ s7 = .int .i64 (sm : Int) ∧ GAt wB.heap.size wx s6 vs G ∧ ((i = 0 ∧ G = [] ∧ sm = 0) ∨ ∃ D cur, 0 < i ∧ G = D ++ [cur] ∧ Gp (cs l) O i D cur ∧ sm = sumF (cs l) cur) ∧ Below wB.heap.size wB wx) (fun _ _ s63 _ => l.length - (intOf s63).toNat)
      case atStart => exact ⟨0, [], [], 0, by omega, rfl, rfl, HG0.out, .inl ⟨rfl, rfl, rfl⟩, Below.refl _ _⟩
      case round =>
        obtain ⟨i, vs, G, sm, hi, rfl, rfl, hG, hst, hbx⟩ := hrel
        clear HG0
        rcases Nat.lt_or_ge i l.length with hlt | hge
        · have hltz : (i : Int) < (l.length : Int) := by omega
          obtain ⟨x, hx⟩ : ∃ x, O[i]? = some x := ⟨_, List.getElem?_eq_getElem (by rw [HOL.out]; exact hlt)⟩
          have hxl : x < l.length := HIN.out x (List.mem_of_getElem? hx)
          have hxz : (x : Int) < (l.length : Int) := by omega
          have hy : l[x]? = some l[x] := List.getElem?_eq_getElem hxl
          have hfx : cs l x = cz l[x] := by simp [cs, List.getD, hy]
          generalize l[x] = y at hy hfx
          obtain ⟨b3, o3, rfl, d1⟩ := HOS.out wr hbx i _ (zs_at hx)
          obtain ⟨b, o, rfl, d2⟩ := HSS.out wr hbx x _ hy
          have CY : Hid (∀ u, Calls Try.prog 16 #[.int .i64 y] u fun e w' => e = .returned (.int .i64 (cz y : Int)) ∧ w' = u) := size12_any y
          have hz := cz_le y
          have hzz : (cz y : Int) ≤ 1099511627776 := by omega
          have hBs : wB.heap.size ≤ wr.heap.size := hbx.size
          have HBX : Hid (Below wB.heap.size wB wr) := hbx
          have HGG : Hid (GAt wB.heap.size wr u6 vs G) := hG
          have hvs : vs.length ≤ 500 := by
            rw [hG.len]
            rcases hst with ⟨_, rfl, _⟩ | ⟨D, cur, _, rfl, hgp, _⟩
            · simp
            · have h1 : grps (cs l) O = D ++ grp (cs l) cur.length (sumF (cs l) cur) cur (O.drop i) := hgp.eq
              rw [grp_eq] at h1
              have h2 := congrArg List.length h1
              have h3 := bkts_len l
              unfold bkts at h3
              rw [List.length_map, ← HO.out] at h3
              simp only [List.length_append, List.length_cons, List.length_nil] at h2 ⊢
              omega
          have HPUT : Hid (∀ w3 so3, w3.ownsRow wB.heap.size 22 1 so3 (vs.length + 1) (vs ++ [.slice (some ⟨wr.heap.size, 0, none⟩) 1 1]) → Grew ((wr.alloc (.cells #[.int .i64 (x : Int)] 3)).alloc (.cells #[.slice (some ⟨wr.heap.size, 0, none⟩) 1 1] 22)) w3 u6 so3 → GAt wB.heap.size w3 so3 (vs ++ [.slice (some ⟨wr.heap.size, 0, none⟩) 1 1]) (G ++ [[x]]) ∧ Below wB.heap.size wB w3) := fun w3 so3 ho hg =>
            ⟨HGG.out.put hBs ho hg, HBX.out.trans ((((Below.refl _ _).alloc hBs _).alloc (by rw [World.size_alloc]; omega) _).trans (hg.below (by simp; omega) fun g e => (HGG.out.out.lt g e).1))⟩
          have HOUT : Hid (((wr.alloc (.cells #[.int .i64 (x : Int)] 3)).alloc (.cells #[.slice (some ⟨wr.heap.size, 0, none⟩) 1 1] 22)).ownsRow wB.heap.size 22 1 u6 vs.length vs) := (HGG.out.out.alloc _).alloc _
          have hsz2 : wB.heap.size ≤ ((wr.alloc (.cells #[.int .i64 (x : Int)] 3)).alloc (.cells #[.slice (some ⟨wr.heap.size, 0, none⟩) 1 1] 22)).heap.size := by simp; omega
          have HSR : Hid (Src Try.prog 1 24 (.slice (some ⟨wr.heap.size + 1, 0, none⟩) 1 1) 1 [.slice (some ⟨wr.heap.size, 0, none⟩) 1 1] ((wr.alloc (.cells #[.int .i64 (x : Int)] 3)).alloc (.cells #[.slice (some ⟨wr.heap.size, 0, none⟩) 1 1] 22))) := by
            have := src_oneV Try.underlying24 (wr.alloc (.cells #[.int .i64 (x : Int)] 3)) (.slice (some ⟨wr.heap.size, 0, none⟩) 1 1) 22 rfl
            rw [World.size_alloc] at this; exact this
          have HFX : Hid (cs l x = cz y) := hfx
          have HXX : Hid (O[i]? = some x) := hx
          clear hx hy hfx hbx hG
          rcases hst with ⟨rfl, rfl, rfl⟩ | ⟨D, cur, hi0, rfl, hgp, hsm⟩
          · have hv0 : (vs.length : Int) ≤ 0 := by have := HGG.out.len; simp only [List.length_nil] at this; omega
            have hv1 : ¬ (0 : Int) ≤ (vs.length : Int) - 1 := by omega
            obtain ⟨a6, c6, rfl⟩ := owns_shapeT HGG.out.out
            rw [Nat.add_zero] at d1
            have HFI : Hid (Gp (cs l) O 1 [] [x] ∧ sumF (cs l) [x] = cz y) := ⟨Gp.first HXX.out, by simp [sumF, HFX.out]⟩
            have hou := HOUT.out
            clear HGG HFX HXX
            generalize cz y = z at *
            go_wp2_with (first
              | (go_at_call 16; refine (CY.out _).mono ?_; rintro e w1 ⟨rfl, rfl⟩)
              | (at_builtin; go_must (refine wpList_append_grew _ rfl _ _ 24 24 rfl wB.heap.size 22 i2 _ 1 24 Try.underlying24 hi2 hx0 hx1 hx2 rfl _ vs.length vs rfl hou _ 1 [.slice (some ⟨w1.heap.size, 0, none⟩) 1 1] rfl HSR.out (by unfold maxLen; omega) (by omega) hsz2 ?_; intro v3 w3 ho3 g3)))
            have hP := HPUT.out w3 v3 ho3 g3
            have HP : Hid (GAt wB.heap.size w3 v3 (vs ++ [.slice (some ⟨w1.heap.size, 0, none⟩) 1 1]) ([] ++ [[x]]) ∧ Below wB.heap.size wB w3) := hP
            clear hP ho3 g3 hou
            go_roundw
            case rel => exact ⟨1, _, _, z, by omega, by go_num, by trivial, HP.out.1, .inr ⟨[], [x], by omega, rfl, HFI.out.1, HFI.out.2.symm⟩, HP.out.2⟩
            case measure => (simp [intOf]; try omega)
          · obtain ⟨dl, hdl⟩ : ∃ dl, dl = D.length := ⟨_, rfl⟩
            obtain ⟨cl, hcl⟩ : ∃ cl, cl = cur.length := ⟨_, rfl⟩
            have hvl : vs.length = dl + 1 := by rw [HGG.out.len, hdl]; simp
            have hcur : (D ++ [cur])[dl]? = some cur := by rw [hdl]; simp
            obtain ⟨v, hv, hrow0⟩ := HGG.out.at1 hcur
            obtain ⟨og, oc, rfl⟩ := HGG.out.spot (fun e => by rw [e] at hvl; simp at hvl)
            have hc0 : 0 < cl := by rw [hcl]; exact List.length_pos_iff.2 hgp.ne
            rw [← hcl] at hrow0
            obtain ⟨gv, cv, rfl, hgv⟩ := row_spot hrow0 hc0
            have e1 : wr.cell? ⟨og, dl, none⟩ = some (.slice (some ⟨gv, 0, none⟩) cl cv) := by rw [HGG.out.out.cellAt dl (by omega)]; exact hv
            have hgo : gv ≠ og := fun e => HGG.out.aout _ (List.mem_of_getElem? hv) gv rfl (by rw [e]; rfl)
            have hogl : og < wr.heap.size := (HGG.out.out.lt og rfl).2
            have hclb : cl ≤ 500 := by
              have h1 := congrArg List.length hgp.flat
              rw [List.length_append, List.length_take] at h1
              omega
            have hsmb : sm ≤ 549755813888000 := by
              have h1 := sumF_le (f := cs l) (x := 1099511627776) (l := cur) fun i _ => cs_le l i
              rw [← hsm, ← hcl] at h1
              have h2 : cl * 1099511627776 ≤ 500 * 1099511627776 := Nat.mul_le_mul_right _ hclb
              omega
            obtain ⟨q, hq⟩ : ∃ q, q = sm / cl := ⟨_, rfl⟩
            have hqs : q ≤ sm := by rw [hq]; exact Nat.div_le_self _ _
            have hqz : (sm : Int) / (cl : Int) = (q : Int) := by rw [hq, Int.natCast_ediv]
            have hclz : 0 < (cl : Int) := by omega
            have hsm0 : (sm : Int) ≤ 549755813888000 := by omega
            have hqz2 : (q : Int) ≤ 549755813888000 := by omega
            have HSTP : Hid (stp cur.length (sumF (cs l) cur) (cs l x) = decide (4 < cz y ∧ 2 * q < cz y)) := by
              show _ = _
              rw [← hcl, ← hsm, HFX.out, stp_iff hc0, ← hq]
            have HQ : Hid (∀ w3 v3, Grew (wr.alloc (.cells #[.int .i64 (x : Int)] 3)) w3 (.slice (some ⟨gv, 0, none⟩) cl cv) v3 → w3.cell? ⟨og, dl, none⟩ = some (.slice (some ⟨gv, 0, none⟩) cl cv) ∧ w3.frozen? ⟨og, dl, none⟩ = false) := fun w3 v3 hg => by
              have hb : w3.heap[og]? = wr.heap[og]? := by
                rw [hg.rows.block og (by rw [World.size_alloc]; omega) (fun e => hgo (Option.some.inj e).symm), Below.heap_alloc _ _ _ hogl]
              exact ⟨by rw [World.cell?_of_block (a := ⟨og, dl, none⟩) hb]; exact e1, by rw [World.frozen?_of_block (a := ⟨og, dl, none⟩) hb]; exact HGG.out.out.frozenAt dl⟩
            have HGR : Hid (∀ w3 v3, w3.ownsRow wB.heap.size 3 1 v3 (cl + 1) (vI (zs cur) ++ [.int .i64 (x : Int)]) → Grew (wr.alloc (.cells #[.int .i64 (x : Int)] 3)) w3 (.slice (some ⟨gv, 0, none⟩) cl cv) v3 → GAt wB.heap.size (w3.setCell ⟨og, dl, none⟩ v3) (.slice (some ⟨og, 0, none⟩) (dl + 1) oc) (vs.set dl v3) (D ++ [cur ++ [x]]) ∧ Below wB.heap.size wB (w3.setCell ⟨og, dl, none⟩ v3)) := fun w3 v3 ho hg => by
              have h1 := HGG.out.grow hv hcur (by rw [← hcl]; exact ho) hg
              have e2 : (D ++ [cur]).set dl (cur ++ [x]) = D ++ [cur ++ [x]] := by rw [hdl, List.set_append_right _ _ (by omega), Nat.sub_self]; rfl
              rw [e2, hvl] at h1
              refine ⟨h1, (HBX.out.trans (((Below.refl _ _).alloc hBs _).trans (hg.below (by rw [World.size_alloc]; omega) fun g e => by cases e; exact hgv))).setCell (by exact (HGG.out.out.lt og rfl).1) _⟩
            have hrow : (wr.alloc (.cells #[.int .i64 (x : Int)] 3)).ownsRow wB.heap.size 3 1 (.slice (some ⟨gv, 0, none⟩) cl cv) cl (vI (zs cur)) := hrow0.alloc _
            have hsz1 : wB.heap.size ≤ (wr.alloc (.cells #[.int .i64 (x : Int)] 3)).heap.size := by rw [World.size_alloc]; omega
            have HGP : Hid (Gp (cs l) O i D cur) := hgp
            have HSM : Hid (sm = sumF (cs l) cur) := hsm
            have hou := HOUT.out
            rw [hvl] at HPUT hou hvs ⊢
            by_cases hfit : 4 < cz y ∧ 2 * q < cz y
            · have HNX : Hid (Gp (cs l) O (i + 1) (D ++ [cur]) [x] ∧ sumF (cs l) [x] = cz y) := ⟨HGP.out.next HXX.out (by rw [HSTP.out]; exact decide_eq_true hfit), by simp [sumF, HFX.out]⟩
              have hf1 : ¬ (cz y : Int) ≤ 4 := by omega
              have hf2 : ¬ (cz y : Int) ≤ 2 * (q : Int) := by omega
              clear hfit HGG HFX HXX HGP HSM hsm hgp hcur hv hrow0 hrow HGR HQ HSTP hq hdl hcl hvl HOUT
              generalize cz y = z at *
              go_wp2_with (first
                | (go_at_call 16; refine (CY.out _).mono ?_; rintro e w1 ⟨rfl, rfl⟩)
                | (at_builtin; go_must (refine wpList_append_grew _ rfl _ _ 24 24 rfl wB.heap.size 22 i2 _ 1 24 Try.underlying24 hi2 hx0 hx1 hx2 rfl _ (dl + 1) vs rfl hou _ 1 [.slice (some ⟨w1.heap.size, 0, none⟩) 1 1] rfl HSR.out (by unfold maxLen; omega) (by omega) hsz2 ?_; intro v3 w3 ho3 g3)))
              have hP := HPUT.out w3 v3 ho3 g3
              have HP : Hid (GAt wB.heap.size w3 v3 (vs ++ [.slice (some ⟨w1.heap.size, 0, none⟩) 1 1]) (D ++ [cur] ++ [[x]]) ∧ Below wB.heap.size wB w3) := hP
              clear hP ho3 g3 hou
              go_roundw
              case rel => exact ⟨i + 1, _, _, z, by omega, by go_num, by trivial, HP.out.1, .inr ⟨D ++ [cur], [x], by omega, rfl, HNX.out.1, HNX.out.2.symm⟩, HP.out.2⟩
              case measure => (simp [intOf]; try omega)
            · have HFT : Hid (Gp (cs l) O (i + 1) D (cur ++ [x]) ∧ sm + cz y = sumF (cs l) (cur ++ [x])) := ⟨HGP.out.more HXX.out (by rw [HSTP.out]; exact decide_eq_false hfit), by rw [sumF_append, ← HSM.out, HFX.out]⟩
              have hf : ((cz y : Int) ≤ 2 * (q : Int)) ∨ (¬ (cz y : Int) ≤ 2 * (q : Int) ∧ (cz y : Int) ≤ 4) := by omega
              clear hfit HGG HFX HXX HGP HSM hsm hgp hcur hv hrow0 HPUT HSTP hq hdl hcl hvl HOUT HSR hsz2 hou
              generalize cz y = z at *
              rcases hf with hf1 | ⟨hf1, hf2⟩
              · go_wp2_with (first
                  | (go_at_call 16; refine (CY.out _).mono ?_; rintro e w1 ⟨rfl, rfl⟩)
                  | (at_builtin; go_must (refine wpList_append_grew _ rfl _ _ 22 22 rfl wB.heap.size 3 i1 _ 1 8 Try.underlying22 hi1 hy0 hy1 hy2 rfl _ cl (vI (zs cur)) rfl hrow _ 1 [.int .i64 (x : Int)] rfl (src_oneV Try.underlying22 w1 _ 3 rfl) (by unfold maxLen; omega) (by omega) hsz1 ?_; intro v3 w3 ho3 g3; obtain ⟨a4, c4, rfl⟩ := owns_shapeT ho3; obtain ⟨e3, f3⟩ := HQ.out w3 _ g3)))
                have hP := HGR.out w3 (.slice a4 (cl + 1) c4) ho3 g3
                have HP : Hid (GAt wB.heap.size (w3.setCell ⟨og, dl, none⟩ (.slice a4 (cl + 1) c4)) (.slice (some ⟨og, 0, none⟩) (dl + 1) oc) (vs.set dl (.slice a4 (cl + 1) c4)) (D ++ [cur ++ [x]]) ∧ Below wB.heap.size wB (w3.setCell ⟨og, dl, none⟩ (.slice a4 (cl + 1) c4))) := hP
                clear hP ho3 g3 e3 f3
                go_roundw
                case rel => exact ⟨i + 1, _, _, sm + z, by omega, by go_num, by go_num, HP.out.1, .inr ⟨D, cur ++ [x], by omega, rfl, HFT.out.1, HFT.out.2⟩, HP.out.2⟩
                case measure => (simp [intOf]; try omega)
              · go_wp2_with (first
                  | (go_at_call 16; refine (CY.out _).mono ?_; rintro e w1 ⟨rfl, rfl⟩)
                  | (at_builtin; go_must (refine wpList_append_grew _ rfl _ _ 22 22 rfl wB.heap.size 3 i1 _ 1 8 Try.underlying22 hi1 hy0 hy1 hy2 rfl _ cl (vI (zs cur)) rfl hrow _ 1 [.int .i64 (x : Int)] rfl (src_oneV Try.underlying22 w1 _ 3 rfl) (by unfold maxLen; omega) (by omega) hsz1 ?_; intro v3 w3 ho3 g3; obtain ⟨a4, c4, rfl⟩ := owns_shapeT ho3; obtain ⟨e3, f3⟩ := HQ.out w3 _ g3)))
                have hP := HGR.out w3 (.slice a4 (cl + 1) c4) ho3 g3
                have HP : Hid (GAt wB.heap.size (w3.setCell ⟨og, dl, none⟩ (.slice a4 (cl + 1) c4)) (.slice (some ⟨og, 0, none⟩) (dl + 1) oc) (vs.set dl (.slice a4 (cl + 1) c4)) (D ++ [cur ++ [x]]) ∧ Below wB.heap.size wB (w3.setCell ⟨og, dl, none⟩ (.slice a4 (cl + 1) c4))) := hP
                clear hP ho3 g3 e3 f3
                go_roundw
                case rel => exact ⟨i + 1, _, _, sm + z, by omega, by go_num, by go_num, HP.out.1, .inr ⟨D, cur ++ [x], by omega, rfl, HFT.out.1, HFT.out.2⟩, HP.out.2⟩
                case measure => (simp [intOf]; try omega)
        · obtain rfl : i = l.length := by omega
          have hGE : G = grps (cs l) O := by
            rcases hst with ⟨h1, rfl, _⟩ | ⟨D, cur, _, rfl, hgp, _⟩
            · have : O = [] := List.eq_nil_of_length_eq_zero (by rw [HOL.out]; exact h1)
              rw [this]; rfl
            · rw [← HOL.out] at hgp
              exact hgp.last.symm
          have HGE : Hid (G = grps (cs l) O) := hGE
          have hGne : ∀ b ∈ G, b ≠ [] := by rw [hGE]; exact grps_ne _ _
          have hGlen : ∀ b ∈ G, b.length ≤ 500 := fun b hb => by
            have h1 := mem_len hb
            rw [hGE, grps_flat, HOL.out] at h1; omega
          have hvs : vs.length ≤ 500 := by
            have h1 := bkts_len l
            unfold bkts at h1
            rw [List.length_map, ← HO.out, ← hGE] at h1
            rw [hG.len]; omega
          obtain ⟨a6, c6, rfl⟩ := owns_shapeT hG.out
          have HGN : Hid (∀ b ∈ G, b ≠ [] ∧ b.length ≤ 500) := fun b hb => ⟨hGne b hb, hGlen b hb⟩
          have hgez2 : ¬ (l.length : Int) < (l.length : Int) := by omega
          have hvz : (vs.length : Int) ≤ 500 := by omega
          have HL0 : Hid (GAt wB.heap.size wr (.slice a6 vs.length c6) vs (srtG G 0) ∧ Below wB.heap.size wB wr) := ⟨by rw [srtG_zero]; exact hG, hbx⟩
          have HLN : Hid (vs.length = G.length) := hG.len
          clear hst hGE hGne hGlen hG hbx HOS HSS HIN
          go_wp2_with fail
          go_loopw [115] (fun s115 wx => ∃ i : Nat, i ≤ vs.length ∧ s115 = .int .i64 (i : Int) ∧ GAt wB.heap.size wx (.slice a6 vs.length c6) vs (srtG G i) ∧ Below wB.heap.size wB wx) (fun s115 _ => vs.length - (intOf s115).toNat)
          case atStart => exact ⟨0, by omega, rfl, HL0.out⟩
          case round =>
            obtain ⟨i, hi, rfl, hG, hbx⟩ := hrel
            clear HL0
            rcases Nat.lt_or_ge i vs.length with hlt | hge
            · have hltz : (i : Int) < (vs.length : Int) := by omega
              obtain ⟨b, hb⟩ : ∃ b, G[i]? = some b := ⟨_, List.getElem?_eq_getElem (by rw [← HLN.out]; exact hlt)⟩
              have hb2 : (srtG G i)[i]? = some b := srtG_at hb
              obtain ⟨hbne, hbl⟩ := HGN.out b (List.mem_of_getElem? hb)
              obtain ⟨v, hv, hrow0⟩ := hG.at1 hb2
              obtain ⟨bl, hbl'⟩ : ∃ bl, bl = b.length := ⟨_, rfl⟩
              have hbl0 : 0 < bl := by rw [hbl']; exact List.length_pos_iff.2 hbne
              rw [← hbl'] at hrow0 hbl
              obtain ⟨gv, cv, rfl, hgv⟩ := row_spot hrow0 hbl0
              obtain ⟨og, oc, hso⟩ := hG.spot (fun e => by rw [e] at hlt; cases hlt)
              have ha6 : a6 = some ⟨og, 0, none⟩ := by injection hso
              subst ha6
              have e1 : wr.cell? ⟨og, i, none⟩ = some (.slice (some ⟨gv, 0, none⟩) bl cv) := by rw [hG.out.cellAt i (by omega)]; exact hv
              obtain ⟨w4, hw4⟩ : ∃ w4, w4 = wr := ⟨_, rfl⟩
              have HT : Hid (∀ wx, w4.grownBy wx (some gv) → wx.ownsRow wB.heap.size 3 1 (.slice (some ⟨gv, 0, none⟩) bl cv) bl (vI (zs (srtN b))) → GAt wB.heap.size wx (.slice (some ⟨og, 0, none⟩) vs.length c6) vs (srtG G (i + 1)) ∧ Below wB.heap.size wB wx) := fun wx hg ho => by
                rw [hw4] at hg
                refine ⟨?_, hbx.trans ⟨hg.os, hg.tape, hg.output, hg.size, fun k hk => hg.block k (by have := hbx.size; omega) fun e => by cases e; omega⟩⟩
                have h1 := hG.turn hv hb2 (g := gv) rfl (c := srtN b) (by rw [srtN_len, ← hbl']; exact ho) hg
                rw [srtG_step hb] at h1; exact h1
              have HR0 : Hid (wr.ownsRow wB.heap.size 3 1 (.slice (some ⟨gv, 0, none⟩) bl cv) bl (vI (zs (srtN (b.take 0) ++ b.drop 0))) ∧ w4.grownBy wr (some gv)) := ⟨by rw [show srtN (b.take 0) ++ b.drop 0 = b by simp [srtN]]; exact hrow0, by rw [hw4]; exact ⟨rfl, rfl, rfl, Nat.le_refl _, fun _ _ _ => rfl⟩⟩
              have HBL : Hid (bl = b.length) := hbl'
              have hblz : (bl : Int) ≤ 500 := by omega
              clear hG hbx hb hb2 hv hrow0 hso hw4 hbne hbl'
              go_wp2_with fail
              go_loopw [121] (fun s121 wx => ∃ j : Nat, j ≤ bl ∧ s121 = .int .i64 (j : Int) ∧ wx.ownsRow wB.heap.size 3 1 (.slice (some ⟨gv, 0, none⟩) bl cv) bl (vI (zs (srtN (b.take j) ++ b.drop j))) ∧ w4.grownBy wx (some gv)) (fun s121 _ => bl - (intOf s121).toNat)
              case atStart => exact ⟨0, by omega, rfl, HR0.out⟩
              case round =>
                obtain ⟨j, hj, rfl, hown, hgr⟩ := hrel
                clear HR0
                rcases Nat.lt_or_ge j bl with hjt | hjg
                · have hjz : (j : Int) < (bl : Int) := by omega
                  obtain ⟨x, hx⟩ : ∃ x, b[j]? = some x := ⟨_, List.getElem?_eq_getElem (by rw [← HBL.out]; exact hjt)⟩
                  have HX : Hid (b[j]? = some x) := hx
                  obtain ⟨S, hS⟩ : ∃ S, S = srtN (b.take j) := ⟨_, rfl⟩
                  have hSl : S.length = j := by rw [hS, srtN_len, List.length_take, ← HBL.out]; omega
                  have HK0 : Hid (wr.ownsRow wB.heap.size 3 1 (.slice (some ⟨gv, 0, none⟩) bl cv) bl (vI (zs (insK S j x ++ b.drop (j + 1)))) ∧ w4.grownBy wr (some gv)) := by
                    refine ⟨?_, hgr⟩
                    have e : insK S j x ++ b.drop (j + 1) = srtN (b.take j) ++ b.drop j := by
                      have := insK_end S x
                      rw [hSl] at this
                      rw [this, hS, drop1 hx]; simp
                    rw [e]; exact hown
                  have HSS : Hid (S = srtN (b.take j)) := hS
                  have HSL : Hid (S.length = j) := hSl
                  have HSO : Hid (S.Pairwise (· ≤ ·)) := by rw [hS]; exact srtN_sorted _
                  clear hown hgr hx hS hSl
                  go_wp2_with fail
                  go_loopw [15] (fun s15 wx => ∃ k : Nat, k ≤ j ∧ s15 = .int .i64 (k : Int) ∧ wx.ownsRow wB.heap.size 3 1 (.slice (some ⟨gv, 0, none⟩) bl cv) bl (vI (zs (insK S k x ++ b.drop (j + 1)))) ∧ (∀ y ∈ S.drop k, x < y) ∧ w4.grownBy wx (some gv)) (fun s15 _ => (intOf s15).toNat)
                  case atStart => exact ⟨j, Nat.le_refl _, rfl, HK0.out.1, (fun y hy => by rw [List.drop_of_length_le (by rw [HSL.out]; omega)] at hy; cases hy), HK0.out.2⟩
                  case round =>
                    obtain ⟨k, hk, rfl, hown, hgt, hgr⟩ := hrel
                    clear HK0
                    have HOWN : Hid (wr.ownsRow wB.heap.size 3 1 (.slice (some ⟨gv, 0, none⟩) bl cv) bl (vI (zs (insK S k x ++ b.drop (j + 1))))) := hown
                    have HGR : Hid (w4.grownBy wr (some gv)) := hgr
                    have HGT : Hid (∀ y ∈ S.drop k, x < y) := hgt
                    rcases Nat.eq_zero_or_pos k with h0 | h0
                    · subst h0
                      have HD : Hid (insK S 0 x = srtN (b.take (j + 1))) := by
                        show _ = _
                        rw [HSS.out] at hgt ⊢
                        exact srt_put HX.out (fun y hy => by simp at hy) hgt
                      clear hown hgt hgr HGT
                      go_wp2_with fail
                      go_quiet (fail)
                      have HN : Hid ((wr.drewN nq).ownsRow wB.heap.size 3 1 (.slice (some ⟨gv, 0, none⟩) bl cv) bl (vI (zs (srtN (b.take (j + 1)) ++ b.drop (j + 1)))) ∧ w4.grownBy (wr.drewN nq) (some gv)) := by
                        rw [← HD.out]
                        exact ⟨drewN_owns HOWN.out, HGR.out.os, HGR.out.tape, HGR.out.output, HGR.out.size, HGR.out.block⟩
                      generalize wr.drewN nq = wq at *
                      clear HOWN HGR
                      go_wp2_with fail
                      go_roundw
                      case rel => exact ⟨j + 1, by omega, by go_num, HN.out⟩
                      case measure => (simp [intOf]; try omega)
                    · obtain ⟨kp, rfl⟩ : ∃ kp, k = kp + 1 := ⟨k - 1, by omega⟩
                      have hkz : (0 : Int) < ((kp + 1 : Nat) : Int) := by omega
                      obtain ⟨p, hp⟩ : ∃ p, S[kp]? = some p := ⟨_, List.getElem?_eq_getElem (by rw [HSL.out]; omega)⟩
                      have hkS : kp + 1 ≤ S.length := by rw [HSL.out]; omega
                      have hz1 : (insK S (kp + 1) x ++ b.drop (j + 1))[kp]? = some p := by rw [List.getElem?_append_left (by rw [insK_len]; omega)]; exact insK_prev hp
                      have hz2 : (insK S (kp + 1) x ++ b.drop (j + 1))[kp + 1]? = some x := by rw [List.getElem?_append_left (by rw [insK_len]; omega)]; exact insK_at hkS
                      have HZ : Hid (∀ wq : World, wq.ownsRow wB.heap.size 3 1 (.slice (some ⟨gv, 0, none⟩) bl cv) bl (vI (zs (insK S (kp + 1) x ++ b.drop (j + 1)))) → wq.cell? ⟨gv, kp, none⟩ = some (.int .i64 (p : Int)) ∧ wq.cell? ⟨gv, kp + 1, none⟩ = some (.int .i64 (x : Int)) ∧ wq.frozen? ⟨gv, kp, none⟩ = false ∧ wq.frozen? ⟨gv, kp + 1, none⟩ = false) := fun wq hq =>
                        ⟨by rw [hq.cellAt kp (by omega)]; exact vI_at (zs_at hz1), by rw [hq.cellAt (kp + 1) (by omega)]; exact vI_at (zs_at hz2), hq.frozenAt _, hq.frozenAt _⟩
                      obtain ⟨d1, d2, -, -⟩ := HZ.out wr hown
                      have HPP : Hid (S[kp]? = some p) := hp
                      have HKS : Hid (kp + 1 ≤ S.length) := hkS
                      clear hown hgt hgr hz1 hz2 hp
                      by_cases hcmp : x < p
                      · have hcz : (x : Int) < (p : Int) := by omega
                        have HG2 : Hid (∀ y ∈ S.drop kp, x < y) := fun y hy => by
                          rw [drop1 HPP.out] at hy
                          rcases List.mem_cons.1 hy with e | hy
                          · subst e; exact hcmp
                          · exact HGT.out y hy
                        go_wp2_with fail
                        go_quiet (fail)
                        have HO2 : Hid ((wr.drewN nq).ownsRow wB.heap.size 3 1 (.slice (some ⟨gv, 0, none⟩) bl cv) bl (vI (zs (insK S (kp + 1) x ++ b.drop (j + 1))))) := drewN_owns HOWN.out
                        have HG3 : Hid (w4.grownBy (wr.drewN nq) (some gv)) := ⟨HGR.out.os, HGR.out.tape, HGR.out.output, HGR.out.size, HGR.out.block⟩
                        clear d1 d2
                        generalize wr.drewN nq = wq at *
                        clear HOWN HGR
                        obtain ⟨d1, d2, f1, f2⟩ := HZ.out wq HO2.out
                        go_wp2_with fail
                        go_region
                        have HN : Hid (((wq.setCell ⟨gv, kp, none⟩ (.int .i64 (x : Int))).setCell ⟨gv, kp + 1, none⟩ (.int .i64 (p : Int))).drew.ownsRow wB.heap.size 3 1 (.slice (some ⟨gv, 0, none⟩) bl cv) bl (vI (zs (insK S kp x ++ b.drop (j + 1)))) ∧ w4.grownBy ((wq.setCell ⟨gv, kp, none⟩ (.int .i64 (x : Int))).setCell ⟨gv, kp + 1, none⟩ (.int .i64 (p : Int))).drew (some gv)) := by
                          have h1 := (HO2.out.stored kp (.int .i64 (x : Int))).1
                          have h2 := (h1.stored (kp + 1) (.int .i64 (p : Int))).1
                          rw [vI_set, vI_set, zs_set, zs_set, List.set_append_left _ _ (by rw [insK_len]; have := HKS.out; omega), List.set_append_left _ _ (by rw [List.length_set, insK_len]; have := HKS.out; omega), insK_swap HPP.out] at h2
                          have h3 : w4.grownBy ((wq.setCell ⟨gv, kp, none⟩ (.int .i64 (x : Int))).setCell ⟨gv, kp + 1, none⟩ (.int .i64 (p : Int))) (some gv) := grownBy_setCell (grownBy_setCell HG3.out)
                          exact ⟨owns_keepT h2 fun _ _ => rfl, h3.os, h3.tape, h3.output, h3.size, h3.block⟩
                        generalize ((wq.setCell ⟨gv, kp, none⟩ (.int .i64 (x : Int))).setCell ⟨gv, kp + 1, none⟩ (.int .i64 (p : Int))).drew = wz at *
                        clear d1 d2 f1 f2 HO2 HG3
                        go_wp2_with fail
                        go_roundw
                        case rel => exact ⟨kp, by omega, by go_num, HN.out.1, HG2.out, HN.out.2⟩
                        case measure => (simp [intOf]; try omega)
                      · have hcz : ¬ (x : Int) < (p : Int) := by omega
                        have HD : Hid (insK S (kp + 1) x = srtN (b.take (j + 1))) := by
                          show _ = _
                          have h1 : ∀ y ∈ S.take (kp + 1), y ≤ x := fun y hy => by
                            have := take_le HSO.out HPP.out (Nat.le_refl _) y hy
                            omega
                          have h2 := HGT.out
                          rw [HSS.out] at h1 h2 ⊢
                          exact srt_put HX.out h1 h2
                        go_wp2_with fail
                        go_quiet (fail)
                        have HN : Hid ((wr.drewN nq).ownsRow wB.heap.size 3 1 (.slice (some ⟨gv, 0, none⟩) bl cv) bl (vI (zs (srtN (b.take (j + 1)) ++ b.drop (j + 1)))) ∧ w4.grownBy (wr.drewN nq) (some gv)) := by
                          rw [← HD.out]
                          exact ⟨drewN_owns HOWN.out, HGR.out.os, HGR.out.tape, HGR.out.output, HGR.out.size, HGR.out.block⟩
                        clear d1 d2
                        generalize wr.drewN nq = wq at *
                        clear HOWN HGR
                        go_wp2_with fail
                        go_roundw
                        case rel => exact ⟨j + 1, by omega, by go_num, HN.out⟩
                        case measure => (simp [intOf]; try omega)
                · obtain rfl : j = bl := by omega
                  have hjz : ¬ (j : Int) < (j : Int) := by omega
                  have hF := HT.out wr hgr (by
                    have e : srtN (b.take j) ++ b.drop j = srtN b := by
                      rw [List.take_of_length_le (by rw [← HBL.out]; omega), List.drop_of_length_le (by rw [← HBL.out]; omega), List.append_nil]
                    rw [← e]; exact hown)
                  have HF : Hid (GAt wB.heap.size wr (.slice (some ⟨og, 0, none⟩) vs.length c6) vs (srtG G (i + 1)) ∧ Below wB.heap.size wB wr) := hF
                  clear hF hown hgr
                  go_wp2_with fail
                  go_roundw
                  case rel => exact ⟨i + 1, by omega, by go_num, HF.out⟩
                  case measure => (simp [intOf]; try omega)
            · obtain rfl : i = vs.length := by omega
              have hgez3 : ¬ (vs.length : Int) < (vs.length : Int) := by omega
              have hall : srtG G vs.length = bkts l := by
                rw [HLN.out, srtG_all, HGE.out, HO.out]; rfl
              rw [hall] at hG
              obtain ⟨ws, hws1, hws2, hws3⟩ : ∃ ws : List Iv, ws.map Iv.s = vs ∧ ws.map Iv.l = bkts l ∧ ∀ v ∈ ws, ISees wr v.ao (zs v.l) := hG.lists
              have hwl : ws.length = vs.length := by rw [← hws1, List.length_map]
              have HF : Hid (BSees wr a6 ws ∧ ws.map Iv.l = bkts l ∧ Below w.heap.size w wr) := by
                refine ⟨⟨fun i v hv => ?_, hws3⟩, hws2, HBB.out wr hbx⟩
                have hlt : i < vs.length := by rw [← hwl]; exact (List.getElem?_eq_some_iff.1 hv).1
                obtain ⟨og, oc, hso⟩ := hG.spot (fun e => by rw [e] at hlt; cases hlt)
                have ha6 : a6 = some ⟨og, 0, none⟩ := by injection hso
                subst ha6
                refine ⟨og, 0, rfl, ?_⟩
                rw [Nat.zero_add, hG.out.cellAt i (by omega), ← hws1, List.getElem?_map, hv]; rfl
              have HWL : Hid (ws.length = vs.length) := hwl
              clear hG hbx hall hws1 hws2 hws3 hge hi hwl
              go_wp2_with fail
              go_ret
              exact ⟨a6, ws, ⟨c6, by rw [HWL.out]; rfl⟩, HF.out.1, HF.out.2.1, HF.out.2.2⟩
end Go.Proofs.Ytdeobmihkcfofaa
