/-
  SEVERAL TEXTS IN ONE: WalRefS, KeyRefText, WalRefN, WalBytesWalk, WalBytesIn.
-/
import Derived.Test.YtlamncldbnagmaaGreatDoorMany29
import Derived.Test.YtlamncldbnagmaaGreatDoorMany2
import Derived.Test.YtlamncldbnagmaaGreatDoorWalLives
import Derived.Test.YtlamncldbnagmaaGreatDoorMany9
import Derived.Test.YtlamncldbnagmaaGreatDoorWalLaidB
namespace Go.Proofs.YtlamncldbnagmaaGreatDoor
open Go.RowKit
attribute [local irreducible] wpQuiet

set_option maxRecDepth 100000 in
set_option maxHeartbeats 4000000 in
theorem refScan_any (b off : Nat) (L : List UInt8) (cap : Nat) (w : World) (hs : Sees w (some ⟨b, off, none⟩) L) (hL : L.length ≤ 10000) (hcap : L.length ≤ cap) :
    Calls Tryz.prog 11 #[.slice (some ⟨b, off, none⟩) L.length cap] w fun e w' => ∃ (v : Value) (xs : List Yl) (n : Nat), e = .returned (.tuple #[v, .int .i64 (n : Int)]) ∧ ToldW L (xs.map Yl.r) n ∧ w'.ownsRow w.heap.size 22 1 v xs.length (xs.map Yl.v) ∧ (∀ x ∈ xs, YIn w.heap.size x w') ∧ Below w.heap.size w w' := by
  obtain ⟨iL, hiL, hl0, hl1, hl2⟩ := info_parts infoLs
  have hLz : (L.length : Int) ≤ 10000 := by omega
  have HS : Hid (Sees w (some ⟨b, off, none⟩) L) := hs
  clear hs
  go_enter Tryz.func11, Tryz.ntmps11
  go_wp2_with fail
  go_loopw [4, 5] (fun s4 s5 wr => ∃ (xs : List Yl) (v : Value), v = s4 ∧ s5 = .int .i64 (endW L xs.length : Int) ∧ RsP w L xs v wr) (fun _ s5 _ => L.length - (intOf s5).toNat)
  case atStart => exact ⟨[], _, rfl, rfl, Came.nil _, World.ownsRow_nil _ _ _ _, fun x hx => (by cases hx), Below.refl _ _⟩
  case round =>
    obtain ⟨xs, v, rfl, rfl, hP⟩ := hrel
    have hE := endW_le L xs.length
    have hM := endW_many hP.came.2
    obtain ⟨E, hEe⟩ : ∃ E, E = endW L xs.length := ⟨_, rfl⟩
    rw [← hEe] at hE hM ⊢
    have HEe : Hid (E = endW L xs.length) := hEe
    have HP : Hid (RsP w L xs v wr) := hP
    obtain ⟨D, hD⟩ : ∃ D, D = L.drop E := ⟨_, rfl⟩
    have hDl : D.length = L.length - E := by rw [hD, List.length_drop]
    have HD : Hid (D = L.drop E) := hD
    have HSD : Hid (∀ u, Below wr.heap.size wr u → Sees u (some ⟨b, off, none⟩) L ∧ Sees u (some ⟨b, off + E, none⟩) D) := fun u hu => by
      have h1 := HS.out.below (hP.low.trans (hu.mono hP.low.size)) (Nat.le_refl _)
      exact ⟨h1, by rw [hD]; exact sees_dropW h1 E hE⟩
    obtain ⟨av, cv, rfl⟩ : ∃ av cv, v = .slice av xs.length cv := by
      rcases hP.row.2 with ⟨e, h⟩ | ⟨g, c2, _, e, _⟩
      · exact ⟨none, 0, by rw [e, h]⟩
      · exact ⟨_, c2, e⟩
    have CU : Hid (∀ a' c', (a' = some ⟨b, off + E, none⟩ ∨ E = L.length) → L.length - E ≤ c' → Calls Tryz.prog 37 #[.slice a' (L.length - E) c'] wr fun e w' => ∃ v', e = .returned (.tuple #[v', .int .i64 (unfN D), .int .i64 (unfE D)]) ∧ w'.ownsRow wr.heap.size 5 1 v' (unfB D).length (B8 (unfB D)) ∧ Below wr.heap.size wr w') := fun a' c' ha hc => by
      have hsd : Sees wr a' D := by
        rcases ha with rfl | h
        · exact (HSD.out wr (Below.refl _ _)).2
        · intro i hi
          omega
      have := refUnframe_any a' D c' wr hsd (by omega) (by omega)
      rw [hDl] at this
      exact this
    have HRET : Hid ((fstW D).2 = 0 → ∀ u, Below wr.heap.size wr u → ∃ (v : Value) (xs' : List Yl) (n : Nat), Ending.returned (.tuple #[.slice av xs.length cv, .int .i64 (E : Int)]) = .returned (.tuple #[v, .int .i64 (n : Int)]) ∧ ToldW L (xs'.map Yl.r) n ∧ u.ownsRow w.heap.size 22 1 v xs'.length (xs'.map Yl.v) ∧ (∀ x ∈ xs', YIn w.heap.size x u) ∧ Below w.heap.size w u) := fun h0 u hu => by
      have hQ := HP.out.below hu
      refine ⟨_, xs, E, rfl, ?_, hQ.row, hQ.ins, hQ.low⟩
      rw [HEe.out]
      exact hQ.came.told (by rw [← HEe.out, ← HD.out]; exact h0)
    have hDE : E = L.length → unfE D = 10 := fun h => by unfold unfE; rw [if_pos (by omega)]
    have HF0 : Hid (unfE D ≠ 0 → (fstW D).2 = 0) := fun h => by rw [fstW_no fun hc => h hc.1]
    clear hP hEe hD
    by_cases hce : cap = E
    · have hu := hDE (by omega)
      have C1 := CU.out (some ⟨b, off, none⟩) 0 (.inr (by omega)) (by omega)
      have C1' : Hid (Calls Tryz.prog 37 #[.slice (some ⟨b, off, none⟩) (L.length - E) 0] wr fun e w' => ∃ v', e = .returned (.tuple #[v', .int .i64 (unfN D), .int .i64 10]) ∧ Below wr.heap.size wr w') := by
        rw [hu] at C1
        exact C1.mono fun e w' ⟨v', h1, _, h3⟩ => ⟨v', h1, h3⟩
      have hr := HRET.out (HF0.out (by rw [hu]; decide))
      clear C1 CU HF0 HRET hu hDE HSD
      have HR : Hid (∀ u, Below wr.heap.size wr u → ∃ (v : Value) (xs' : List Yl) (n : Nat), Ending.returned (.tuple #[.slice av xs.length cv, .int .i64 (E : Int)]) = .returned (.tuple #[v, .int .i64 (n : Int)]) ∧ ToldW L (xs'.map Yl.r) n ∧ u.ownsRow w.heap.size 22 1 v xs'.length (xs'.map Yl.v) ∧ (∀ x ∈ xs', YIn w.heap.size x u) ∧ Below w.heap.size w u) := hr
      clear hr
      generalize unfN D = N at *
      go_wp2_with fail
      go_fit C1'.out
      rintro e w1 ⟨v1, rfl, hB1⟩
      go_wp2_with fail
      go_ret2
      exact HR.out w1 hB1
    · have C1 : Hid (Calls Tryz.prog 37 #[.slice (some ⟨b, off + E, none⟩) (L.length - E) (cap - E)] wr fun e w' => ∃ v', e = .returned (.tuple #[v', .int .i64 (unfN D), .int .i64 (unfE D)]) ∧ w'.ownsRow wr.heap.size 5 1 v' (unfB D).length (B8 (unfB D)) ∧ Below wr.heap.size wr w') := CU.out _ _ (.inl rfl) (by omega)
      clear CU hDE
      by_cases hu : unfE D = 0
      · have hub : (unfB D).length ≤ 10000 := by rcases unfB_le D with h | h <;> omega
        have hnl := (unfN_of hu).2.1
        have CR : Hid (∀ (u : World) (a1 : Option Addr) (c1 : Nat), Sees u a1 (unfB D) → (a1 = none → (unfB D).length = 0) → (unfB D).length ≤ c1 → Calls Tryz.prog 38 #[.slice a1 (unfB D).length c1] u fun e w' => ∃ v, e = .returned (.tuple #[v, .int .i64 (redE (unfB D))]) ∧ w'.ownsRow u.heap.size 67 10 v (redC (unfB D)).length (C10 (redC (unfB D))) ∧ Below u.heap.size u w') := fun u a1 c1 h1 h2 h3 => refReadCells_any a1 (unfB D) c1 u h1 h2 h3 (by omega)
        rw [hu] at C1
        by_cases hr : redE (unfB D) = 0
        · obtain ⟨X, hX⟩ : ∃ X, X = (redC (unfB D)).map ofC := ⟨_, rfl⟩
          have hXl : (redC (unfB D)).length = X.length := by rw [hX, List.length_map]
          have hXc : C10 (redC (unfB D)) = X.flatMap xs10 := by rw [hX]; exact C10_ofC _
          have hXf : 7 * X.length ≤ (unfB D).length ∧ ∀ c ∈ X, ReadX (unfB D).length c := by
            have hr' := hr
            unfold redE at hr'
            split at hr'
            · rename_i cs hcs
              have hrr : redC (unfB D) = cs := by unfold redC; rw [hcs]; rfl
              have := cellsN_facts hcs
              rw [hX, hrr]
              refine ⟨by rw [List.length_map]; exact this.1, fun c hc => ?_⟩
              obtain ⟨x, hx, rfl⟩ := List.mem_map.1 hc
              exact this.2 x hx
            · exact absurd hr' (by decide)
          have CD : Hid (∀ (u : World) (a2 : Option Addr) (c2 : Nat), XSees u a2 X → Calls Tryz.prog 9 #[.slice a2 X.length c2] u fun e w' => ∃ v, e = .returned (.tuple #[v, .int .i64 (rrE X)]) ∧ w'.ownsRow u.heap.size 5 1 v (rrB X).length (B8 (rrB X)) ∧ Below u.heap.size u w') := fun u a2 c2 h => refRecord_any a2 X c2 u h (by omega) (fun c hc => by
            have := hXf.2 c hc
            have hm : (10000 : Nat) ≤ maxLen := by decide
            exact ⟨Nat.le_trans this.t (by omega), Nat.le_trans this.p (by omega), Nat.le_trans this.c (by omega), Nat.le_trans this.s (by omega)⟩) fun c hc => (hXf.2 c hc).num
          rw [hr, hXl, hXc] at CR
          have HFX : Hid (recB X = true → fstW D = (X, unfN D)) := fun hb => by rw [fstW_yes ⟨hu, hr, by rw [← hX]; exact hb⟩, hX]
          have HFN : Hid (recB X = false → (fstW D).2 = 0) := fun hb => by rw [fstW_no fun hc => by rw [← hX, hb] at hc; exact absurd hc.2.2 (by decide)]
          have hXs : X.length ≤ 10000 := by omega
          clear hX hXl hXc hXf hr hu HF0 hub
          cases hB : recB X with
          | false =>
            have hr2 := HRET.out (HFN.out hB)
            have e1 : rrE X = 2 := by unfold rrE; rw [hB]; rfl
            rw [e1] at CD
            have HR : Hid (∀ u, Below wr.heap.size wr u → ∃ (v : Value) (xs' : List Yl) (n : Nat), Ending.returned (.tuple #[.slice av xs.length cv, .int .i64 (E : Int)]) = .returned (.tuple #[v, .int .i64 (n : Int)]) ∧ ToldW L (xs'.map Yl.r) n ∧ u.ownsRow w.heap.size 22 1 v xs'.length (xs'.map Yl.v) ∧ (∀ x ∈ xs', YIn w.heap.size x u) ∧ Below w.heap.size w u) := hr2
            clear hr2 HRET HFN HFX hB e1 HSD
            generalize unfN D = N at *
            generalize unfB D = U at *
            generalize rrB X = RB at *
            go_wp2_with fail
            go_fit C1.out
            rintro e w1 ⟨v1, rfl, ho1, hB1⟩
            obtain ⟨a1, c1, rfl, hs1, -, hn1⟩ := owns_sees ho1
            have C2 := CR.out w1 a1 c1 hs1 (fun e => (hn1 e).1) (owns_capW ho1)
            clear C1 CR ho1 hs1 hn1
            go_wp2_with fail
            go_fit C2
            rintro e w2 ⟨v2, rfl, ho2, hB2⟩
            obtain ⟨a2, c2, rfl, hs2, -⟩ := owns_xsees ho2
            have C3 := CD.out w2 a2 c2 hs2
            have h12 := hB1.trans (hB2.mono hB1.size)
            clear C2 CD ho2 hs2 hB1 hB2
            go_wp2_with fail
            go_fit C3
            rintro e w3 ⟨v3, rfl, ho3, hB3⟩
            have h13 := h12.trans (hB3.mono h12.size)
            obtain ⟨a3, c3, rfl, -, -, -⟩ := owns_sees ho3
            clear C3 ho3 hB3 h12
            have HZ : Hid (∀ z : Cl w3.heap.size w3, Below wr.heap.size wr z.u) := fun z => h13.trans (z.h.mono h13.size)
            clear h13
            haveI := Cl.inh w3.heap.size w3
            go_wp2_with fail
            refine wp_region_cl w3.heap.size (by kernel_rfl) (by kernel_rfl) ?_
            repeat quiet_step (fail)
            refine wpQuiet_nil ?_
            rintro w4 ⟨z, rfl⟩
            have hz := HZ.out z
            go_wp2_with fail
            go_ret2
            exact HR.out z.u hz
          | true =>
            have hF := HFX.out hB
            have e1 : rrE X = 0 := by unfold rrE; rw [hB]; rfl
            have e2 : rrB X = recL X := by unfold rrB; rw [hB]; rfl
            have hN8 : unfN D ≠ 0 := by
              have h8 := (unfN_of (show unfE D = 0 from by by_cases h : unfE D = 0; exact h; exact absurd hF (by rw [fstW_no fun hc => h hc.1]; intro hq; have := congrArg (fun p => p.1.length) hq; simp at this; have := (recB_good hB).1.1; omega))).1
              omega
            have hcan := fst_canon (b := D) (by rw [hF]; exact hN8)
            rw [hF] at hcan
            have hX0 := (recB_good hB).1.1
            rw [e1, e2] at CD
            have HCM : Hid ((fstW (L.drop (endW L xs.length))).2 ≠ 0 ∧ X = recW L xs.length ∧ E + unfN D = endW L (xs.length + 1)) := by
              refine ⟨?_, ?_, ?_⟩
              · rw [← HEe.out, ← HD.out, hF]; exact hN8
              · unfold recW; rw [← HEe.out, ← HD.out, hF]
              · show E + unfN D = endW L xs.length + _
                rw [← HEe.out, ← HD.out, hF]
            have HSB : Hid (∀ u, Below wr.heap.size wr u → Sees u (some ⟨b, off + E, none⟩) (recL X)) := fun u hu => by
              rw [hcan.1]
              intro i hi
              rw [List.length_take] at hi
              obtain ⟨a, e, hc⟩ := (HSD.out u hu).2 i (by omega)
              refine ⟨a, e, ?_⟩
              rw [hc, List.getD_eq_getElem?_getD, List.getD_eq_getElem?_getD, List.getElem?_take, if_pos (by omega)]
            have hRl := hcan.2
            clear HRET HFN HFX hB e1 e2 HSD hcan hF
            obtain ⟨N, hN⟩ : ∃ N, N = unfN D := ⟨_, rfl⟩
            rw [← hN] at C1 HCM hRl hN8 hnl
            generalize unfB D = U at *
            clear hN
            have hENl : E + N ≤ L.length := by omega
            have hENz : (E : Int) + (N : Int) ≤ 10000 := by omega
            have hcz : (E : Int) + (N : Int) ≤ (cap : Int) := by omega
            have hwr : IntKind.i64.wrap ((E : Int) + (N : Int)) = ((E + N : Nat) : Int) := by rw [IntKind.wrap_i64]; omega
            have hp1 : (0 : Int) ≤ (E : Int) + (N : Int) := by omega
            have hp2 : E ≤ ((E : Int) + (N : Int)).toNat := by omega
            have hp3 : ((E : Int) + (N : Int)).toNat - E = N := by omega
            go_wp2_with fail
            go_fit C1.out
            rintro e w1 ⟨v1, rfl, ho1, hB1⟩
            obtain ⟨a1, c1, rfl, hs1, -, hn1⟩ := owns_sees ho1
            have C2 := CR.out w1 a1 c1 hs1 (fun e => (hn1 e).1) (owns_capW ho1)
            clear C1 CR ho1 hs1 hn1
            go_wp2_with fail
            go_fit C2
            rintro e w2 ⟨v2, rfl, ho2, hB2⟩
            obtain ⟨g2, c2, rfl⟩ : ∃ g2 c2, v2 = .slice (some ⟨g2, 0, none⟩) X.length c2 := by
              rcases ho2.2 with ⟨_, h⟩ | ⟨g, c2, _, h, _⟩
              · omega
              · exact ⟨g, c2, h⟩
            obtain ⟨a2', c2', e2, hs2, -⟩ := owns_xsees ho2
            simp only [Value.slice.injEq] at e2
            obtain ⟨rfl, -, rfl⟩ := e2
            have C3 := CD.out w2 _ c2 hs2
            have h12 := hB1.trans (hB2.mono hB1.size)
            clear C2 CD hs2
            go_wp2_with fail
            go_fit C3
            rintro e w3 ⟨v3, rfl, ho3, hB3⟩
            have h13 := h12.trans (hB3.mono h12.size)
            obtain ⟨a3, c3, rfl, hs3, -, hn3⟩ := owns_sees ho3
            have hx3 : YIn w.heap.size ⟨some ⟨g2, 0, none⟩, c2, X, E + N⟩ w3 := ⟨owMono (owBelow ho2 hB3) (by have := HP.out.low.size; have := hB1.size; omega), hX0, by show E + N ≤ 1000000000; omega⟩
            have HX3 : Hid (YIn w.heap.size ⟨some ⟨g2, 0, none⟩, c2, X, E + N⟩ w3 ∧ RsP w L xs (.slice av xs.length cv) w3) := ⟨hx3, HP.out.below h13⟩
            have q1 : ∀ z : Cl w3.heap.size w3, (convert 23 9 (.slice a3 N c3)).run Tryz.prog z.u = .ok (.string ⟨(recL X).toArray⟩) z.u := fun z => by
              have := conv_sees (hs3.below z.h (Nat.le_refl _)) (fun e => (hn3 e).1) c3
              rw [hRl] at this; exact this
            have q2 : ∀ z : Cl w3.heap.size w3, (convert 23 9 (.slice (some ⟨b, off + E, none⟩) N (cap - E))).run Tryz.prog z.u = .ok (.string ⟨(recL X).toArray⟩) z.u := fun z => by
              have := conv_sees (HSB.out z.u (h13.trans (z.h.mono h13.size))) (fun e => by cases e) (cap - E)
              rw [hRl] at this; exact this
            rw [hRl]
            generalize (⟨(recL X).toArray⟩ : ByteArray) = SB at *
            clear C3 ho3 hB3 h12 ho2 hB1 hB2 hs3 hn3 HSB hx3 hRl h13
            haveI := Cl.inh w3.heap.size w3
            go_wp2_with fail
            refine wp_region_cl w3.heap.size (by kernel_rfl) (by kernel_rfl) ?_
            repeat quiet_step (fail)
            refine wpQuiet_nil ?_
            rintro w4 ⟨z, rfl⟩
            have HX4 : Hid (YIn w.heap.size ⟨some ⟨g2, 0, none⟩, c2, X, E + N⟩ z.u ∧ RsP w L xs (.slice av xs.length cv) z.u) := ⟨⟨owBelow HX3.out.1.1 z.h, HX3.out.1.2⟩, HX3.out.2.below z.h⟩
            have hls := HX4.out.2.low.size
            clear q1 q2 HX3
            generalize z.u = w5 at *
            go_wp2_with (at_builtin; refine wpList_append_grew _ rfl _ _ 33 33 rfl w.heap.size 22 iL (.slice none 0 0) 1 24 Tryz.underlying33 hiL hl0 hl1 hl2 rfl _ xs.length (xs.map Yl.v) rfl (owns_cells HX4.out.2.row fun g cs fr => rw_alloc _) _ 1 [.slice (some ⟨g2, 0, none⟩) X.length c2] rfl (src_oneS w5 _ rfl) (by unfold maxLen; omega) (by omega) (by rw [World.size_alloc]; omega) ?_; intro v8 w8 ho8 hg8; have HP8 := rs_more HX4.out.2 HX4.out.1 HCM.out.1 HCM.out.2.1 HCM.out.2.2 ho8 hg8; obtain ⟨g8, c8, rfl⟩ := ownsRow_succ ho8)
            go_roundw
            case rel => exact ⟨_, _, rfl, by rw [List.length_append, List.length_singleton, ← HCM.out.2.2]; simp, HP8⟩
            case measure => (simp [intOf]; try omega)
        · have hr8 : redE (unfB D) = 8 := by
            unfold redE at hr ⊢
            split
            · rename_i cs hcs; rw [hcs] at hr; exact absurd rfl hr
            · rfl
          have hr2 := HRET.out (by rw [fstW_no fun hc => hr hc.2.1])
          rw [hr8] at CR
          have HR : Hid (∀ u, Below wr.heap.size wr u → ∃ (v : Value) (xs' : List Yl) (n : Nat), Ending.returned (.tuple #[.slice av xs.length cv, .int .i64 (E : Int)]) = .returned (.tuple #[v, .int .i64 (n : Int)]) ∧ ToldW L (xs'.map Yl.r) n ∧ u.ownsRow w.heap.size 22 1 v xs'.length (xs'.map Yl.v) ∧ (∀ x ∈ xs', YIn w.heap.size x u) ∧ Below w.heap.size w u) := hr2
          clear hr2 HRET HSD HF0 hr hr8 hu
          generalize unfN D = N at *
          generalize unfB D = U at *
          go_wp2_with fail
          go_fit C1.out
          rintro e w1 ⟨v1, rfl, ho1, hB1⟩
          obtain ⟨a1, c1, rfl, hs1, -, hn1⟩ := owns_sees ho1
          have C2 := (CR.out w1 a1 c1 hs1 (fun e => (hn1 e).1) (owns_capW ho1))
          clear C1 CR ho1 hs1 hn1
          go_wp2_with fail
          go_fit C2
          rintro e w2 ⟨v2, rfl, -, hB2⟩
          have h12 := hB1.trans (hB2.mono hB1.size)
          clear C2 hB1 hB2
          go_wp2_with fail
          go_ret2
          exact HR.out w2 h12
      · have hr := HRET.out (HF0.out hu)
        have HR : Hid (∀ u, Below wr.heap.size wr u → ∃ (v : Value) (xs' : List Yl) (n : Nat), Ending.returned (.tuple #[.slice av xs.length cv, .int .i64 (E : Int)]) = .returned (.tuple #[v, .int .i64 (n : Int)]) ∧ ToldW L (xs'.map Yl.r) n ∧ u.ownsRow w.heap.size 22 1 v xs'.length (xs'.map Yl.v) ∧ (∀ x ∈ xs', YIn w.heap.size x u) ∧ Below w.heap.size w u) := hr
        have hz : ¬ (unfE D : Int) = 0 := by omega
        clear hr HRET HF0 HSD
        generalize unfE D = F at *
        generalize unfN D = N at *
        generalize unfB D = U at *
        go_wp2_with fail
        go_fit C1.out
        rintro e w1 ⟨v1, rfl, -, hB1⟩
        go_wp2_with fail
        go_ret2
        exact HR.out w1 hB1
end Go.Proofs.YtlamncldbnagmaaGreatDoor
namespace Go.Proofs.YtlamncldbnagmaaGreatDoor
open Go.RowKit

theorem msk_succ (l : List UInt8) (k : Nat) (hk : k < l.length) : msk (l.take (k + 1)) = msk (l.take k) ++ m1 (l.getD k 0) := by
  have e : l.getD k 0 = l[k] := by simp [List.getD, hk]
  rw [List.take_succ_eq_append_getElem hk, e]
  unfold msk
  rw [List.flatMap_append]
  simp
theorem strB_app (a b : List UInt8) : strB a ++ strB b = strB (a ++ b) := by
  rw [← nb_inj, nb_app, nb_strB, nb_strB, nb_strB]
theorem extract_one (s : ByteArray) (k : Nat) (hk : k < s.size) : s.extract k (k + 1) = strB [s[k]] := by
  rw [← nb_inj, nb_strB]
  show (s.extract k (k + 1)).data.toList = _
  rw [ByteArray.data_extract, Array.toList_extract, List.extract_eq_take_drop]
  have hk' : k < s.data.toList.length := by simpa using hk
  rw [List.drop_eq_getElem_cons hk', Nat.add_sub_cancel_left]
  rfl
theorem dec_len (n : Int) (hn : -9223372036854775808 ≤ n ∧ n ≤ 9223372036854775807) : (Lib.decDigits n.natAbs).length ≤ 21 := by
  have := Lib.itoa_length_le n hn.1 hn.2
  unfold Lib.itoa at this
  split at this
  · rw [List.length_cons] at this; omega
  · rename_i h
    have e : n.toNat = n.natAbs := by omega
    rwa [e] at this
theorem tmod_pos (x : Int) (h : 0 ≤ x) : x.tmod 10 = ((x.natAbs % 10 : Nat) : Int) ∧ x.tdiv 10 = ((x.natAbs / 10 : Nat) : Int) := by
  rw [Int.tmod_eq_emod_of_nonneg h, Int.tdiv_eq_ediv_of_nonneg h]; omega
theorem tmod_neg (x : Int) (h : x < 0) : x.tmod 10 = -((x.natAbs % 10 : Nat) : Int) ∧ x.tdiv 10 = -((x.natAbs / 10 : Nat) : Int) := by
  have e : x = - (-x) := by omega
  rw [e, Int.neg_tmod, Int.neg_tdiv]
  have := tmod_pos (-x) (by omega)
  rw [this.1, this.2]
  simp
set_option maxRecDepth 100000 in
set_option maxHeartbeats 1000000 in
theorem digits_any (n : Int) (hn : InI n) (w : World) :
    Calls Tryz.prog 44 #[.int .i64 n] w fun e w' => e = .returned (.string (strB (Lib.itoa n))) ∧ Below w.heap.size w w' := by
  unfold InI at hn
  go_enter Tryz.func44, Tryz.ntmps44
  go_wp2_with fail
  go_loopw [0, 3] (fun s0 s3 wr => ∃ (x : Int) (T : List UInt8), s0 = .int .i64 x ∧ s3 = .string (strB T) ∧ (0 ≤ n → 0 ≤ x) ∧ (n < 0 → x ≤ 0) ∧ x.natAbs ≤ n.natAbs ∧ Lib.decDigits n.natAbs = Lib.decDigits x.natAbs ++ T ∧ Below w.heap.size w wr) (fun s0 _ _ => (intOf s0).natAbs)
  case atStart => exact ⟨n, [], rfl, rfl, id, fun h => by omega, Nat.le_refl _, by simp, Below.refl _ _⟩
  case round =>
    obtain ⟨x, T, rfl, rfl, h1, h2, h3, h4, hb⟩ := hrel
    obtain ⟨d, hd⟩ : ∃ d, d = x.natAbs % 10 := ⟨_, rfl⟩
    have hd9 : d < 10 := by omega
    obtain ⟨b, hbb⟩ : ∃ b : UInt8, b = UInt8.ofNat (48 + d) := ⟨_, rfl⟩
    have hbv : (b.toNat : Int) = 48 + (d : Int) := by rw [hbb, UInt8.toNat_ofNat_of_lt' (by show _ < 256; omega)]; omega
    have hconv : Sem.run Tryz.prog (convert 23 9 (.slice (some ⟨wr.heap.size, 0, none⟩) 1 1)) (wr.alloc (.cells #[.int .u8 (48 + (d : Int))] 5)) = .ok (.string (strB [b])) (wr.alloc (.cells #[.int .u8 (48 + (d : Int))] 5)) := by
      have := conv_seesK (l := [b]) (sees_litK wr [b] (0, 0)) (fun h => by cases h) 1
      simp only [B8, List.map_cons, List.map_nil, hbv] at this
      exact this
    have z1 : (strB [b]).size = 1 := by rw [strB_size]; rfl
    have z2 : (strB T).size ≤ 21 := by
      have e1 := dec_len n hn
      rw [h4, List.length_append] at e1
      rw [strB_size]; omega
    have hcat : strB [b] ++ strB T = strB (b :: T) := strB_app [b] T
    have hdig : Lib.decDigits x.natAbs = (if x.natAbs < 10 then [] else Lib.decDigits (x.natAbs / 10)) ++ [b] := by
      split <;> rename_i h
      · rw [dec_small h, hbb, hd, Nat.mod_eq_of_lt h]; rfl
      · rw [dec_big (by omega), hbb, hd]
    have HX : Hid (x.natAbs < 10 → Lib.decDigits n.natAbs = b :: T) := fun h => by rw [h4, hdig, if_pos h]; rfl
    have HY : Hid (10 ≤ x.natAbs → Lib.decDigits n.natAbs = Lib.decDigits (x.natAbs / 10) ++ b :: T) := fun h => by rw [h4, hdig, if_neg (by omega)]; simp
    have hbx : Hid (∀ o : Obj, Below w.heap.size w (wr.alloc o)) := fun o => hb.alloc hb.size o
    have hcat2 : ¬ (9223372036854775807 < (strB [b]).size + (strB T).size) := by omega
    have hdi : (d : Int) ≤ 9 := by omega
    obtain ⟨z, hzd⟩ : ∃ z, z = x.tdiv 10 := ⟨_, rfl⟩
    by_cases hneg : x < 0 ∧ 0 < d
    · obtain ⟨e1, e2⟩ := tmod_neg x hneg.1
      rw [← hzd] at e2
      have hm : x.tmod 10 = -(d : Int) := by rw [hd]; exact e1
      have hq : x.tdiv 10 = z := hzd.symm
      have hlt : decide (-(d : Int) < 0) = true := decide_eq_true (by omega)
      have hdp : 0 < d := hneg.2
      have hdp2 : decide (0 < d) = true := decide_eq_true hneg.2
      clear hzd hd hbb hbv hdig h4 e1 hb
      by_cases hz : x.natAbs < 10
      · obtain rfl : z = 0 := by omega
        clear e2 hneg
        by_cases hn0 : n < 0
        · have dn : decide (n < 0) = true := decide_eq_true hn0
          have HR : Hid (⟨#[45]⟩ ++ strB (b :: T) = strB (Lib.itoa n)) := by
            show _ = _
            unfold Lib.itoa
            rw [if_pos hn0, HX.out hz]
            exact strB_app [45] (b :: T)
          have z4 : (strB (b :: T)).size ≤ 30 := by rw [strB_size, List.length_cons]; rw [strB_size] at z2; omega
          clear HX HY hz hn h1 h2 h3
          go_wp2_with fail
          go_ret
          exact ⟨ret_str HR.out, hbx.out _⟩
        · have dn : decide (n < 0) = false := decide_eq_false hn0
          have HR : Hid (strB (b :: T) = strB (Lib.itoa n)) := by
            show _ = _
            unfold Lib.itoa
            rw [if_neg hn0]
            have e : n.toNat = n.natAbs := by omega
            rw [e, HX.out hz]
          clear HX HY hz hn h1 h2 h3
          go_wp2_with fail
          go_ret
          exact ⟨ret_str HR.out, hbx.out _⟩
      · have hz1 : 10 ≤ x.natAbs := by omega
        have HR := HY.out (by omega)
        have HRR : Hid (Lib.decDigits n.natAbs = Lib.decDigits (x.natAbs / 10) ++ b :: T) := HR
        have HS : Hid (0 ≤ n → 0 ≤ z) := fun h => by have := h1 h; omega
        have HS2 : Hid (n < 0 → z ≤ 0) := fun h => by have := h2 h; omega
        have HS3 : Hid (z.natAbs ≤ n.natAbs) := by show z.natAbs ≤ n.natAbs; omega
        have HS4 : Hid (z.natAbs = x.natAbs / 10) := by show z.natAbs = x.natAbs / 10; omega
        have HS5 : Hid (z.natAbs < x.natAbs) := by show z.natAbs < x.natAbs; omega
        have zz : (z == 0) = false := by rw [beq_eq_false_iff_ne]; omega
        have zb : -922337203685477581 ≤ z ∧ z ≤ 922337203685477581 := by omega
        clear HX HY hz hz1 hn h1 h2 h3 HR e2 hneg
        obtain ⟨zb1, zb2⟩ := zb
        go_wp2_with fail
        exact ⟨⟨z, b :: T, rfl, rfl, HS.out, HS2.out, HS3.out, by rw [HS4.out]; exact HRR.out, hbx.out _⟩, by simp [intOf]; exact HS5.out⟩
    · have hm : x.tmod 10 = (d : Int) := by
        by_cases hx0 : x < 0
        · have e1 := (tmod_neg x hx0).1
          have : d = 0 := by omega
          rw [e1, ← hd, this]; rfl
        · have e1 := (tmod_pos x (by omega)).1
          rw [e1, ← hd]
      have e2 : (0 ≤ x → z = ((x.natAbs / 10 : Nat) : Int)) ∧ (x < 0 → z = -((x.natAbs / 10 : Nat) : Int)) := ⟨fun h => hzd.trans (tmod_pos x h).2, fun h => hzd.trans (tmod_neg x h).2⟩
      have hq : x.tdiv 10 = z := hzd.symm
      have hlt : decide ((d : Int) < 0) = false := decide_eq_false (by omega)
      clear hzd hd hbb hbv hdig h4 hb hneg
      by_cases hz : x.natAbs < 10
      · obtain rfl : z = 0 := by have := e2.1; have := e2.2; omega
        clear e2
        by_cases hn0 : n < 0
        · have dn : decide (n < 0) = true := decide_eq_true hn0
          have HR : Hid (⟨#[45]⟩ ++ strB (b :: T) = strB (Lib.itoa n)) := by
            show _ = _
            unfold Lib.itoa
            rw [if_pos hn0, HX.out hz]
            exact strB_app [45] (b :: T)
          have z4 : (strB (b :: T)).size ≤ 30 := by rw [strB_size, List.length_cons]; rw [strB_size] at z2; omega
          clear HX HY hz hn h1 h2 h3
          go_wp2_with fail
          go_ret
          exact ⟨ret_str HR.out, hbx.out _⟩
        · have dn : decide (n < 0) = false := decide_eq_false hn0
          have HR : Hid (strB (b :: T) = strB (Lib.itoa n)) := by
            show _ = _
            unfold Lib.itoa
            rw [if_neg hn0]
            have e : n.toNat = n.natAbs := by omega
            rw [e, HX.out hz]
          clear HX HY hz hn h1 h2 h3
          go_wp2_with fail
          go_ret
          exact ⟨ret_str HR.out, hbx.out _⟩
      · have hz1 : 10 ≤ x.natAbs := by omega
        have e3 := e2.1
        have e4 := e2.2
        clear e2
        have HR := HY.out (by omega)
        have HRR : Hid (Lib.decDigits n.natAbs = Lib.decDigits (x.natAbs / 10) ++ b :: T) := HR
        have HS : Hid (0 ≤ n → 0 ≤ z) := fun h => by have := h1 h; omega
        have HS2 : Hid (n < 0 → z ≤ 0) := fun h => by have := h2 h; omega
        have HS3 : Hid (z.natAbs ≤ n.natAbs) := by show z.natAbs ≤ n.natAbs; omega
        have HS4 : Hid (z.natAbs = x.natAbs / 10) := by show z.natAbs = x.natAbs / 10; omega
        have HS5 : Hid (z.natAbs < x.natAbs) := by show z.natAbs < x.natAbs; omega
        have zz : (z == 0) = false := by rw [beq_eq_false_iff_ne]; omega
        have zb : -922337203685477581 ≤ z ∧ z ≤ 922337203685477581 := by omega
        clear HX HY hz hz1 hn h1 h2 h3 HR e3 e4
        obtain ⟨zb1, zb2⟩ := zb
        go_wp2_with fail
        exact ⟨⟨z, b :: T, rfl, rfl, HS.out, HS2.out, HS3.out, by rw [HS4.out]; exact HRR.out, hbx.out _⟩, by simp [intOf]; exact HS5.out⟩
end Go.Proofs.YtlamncldbnagmaaGreatDoor
namespace Go.Proofs.YtlamncldbnagmaaGreatDoor
open Go.RowKit

theorem nm_shapeR {n : Int} (h : okW n = true) : nmW n = preW ++ Lib.decDigits n.toNat := by
  have h1 := okW_iff.1 h
  unfold nmW Lib.itoa
  rw [if_pos h, if_neg (by omega)]
theorem nm_noR {n : Int} (h : okW n = false) : nmW n = [] := by unfold nmW; rw [if_neg (by rw [h]; simp)]
set_option maxRecDepth 100000 in
theorem refNameW_any (n : Int) (h0 : -9223372036854775808 ≤ n) (h1 : n ≤ 9223372036854775807) (w : World) :
    Calls Tryz.prog 17 #[.int .i64 n] w fun x w' => x = .returned (.string (tB (nmW n))) ∧ Below w.heap.size w w' := by
  cases hok : okW n with
  | true =>
    have hb := okW_iff.1 hok
    have CI : Hid (Calls Tryz.prog 44 #[.int .i64 n] w fun x w' => x = .returned (.string (tB (Lib.itoa n))) ∧ Below w.heap.size w w') := digits_any n ⟨h0, h1⟩ w
    have HR : Hid (⟨#[108, 111, 103, 45]⟩ ++ tB (Lib.itoa n) = tB (nmW n)) := by
      show _ = _
      unfold nmW
      rw [if_pos hok, ← tB_app]; rfl
    have hsz : (tB (Lib.itoa n)).size ≤ 21 := by rw [tB_size]; exact Lib.itoa_length_le n h0 h1
    have q1 : ¬ n < 1 := by omega
    have q2 : ¬ (999999999 : Int) < n := by omega
    clear hok hb
    generalize tB (Lib.itoa n) = s at *
    have hsz2 : ¬ 9223372036854775807 < 4 + s.size := by omega
    go_enter Tryz.func17, Tryz.ntmps17
    go_wp2_with fail
    go_fit CI.out
    rintro e w2 ⟨rfl, hB⟩
    go_wp2_with fail
    go_ret
    exact ⟨by rw [← HR.out]; rfl, hB⟩
  | false =>
    have hq : n < 1 ∨ (¬ n < 1 ∧ 999999999 < n) := by
      have : ¬ (1 ≤ n ∧ n ≤ 999999999) := fun h => by rw [okW_iff.2 h] at hok; cases hok
      omega
    rw [nm_noR hok]
    clear hok
    rcases hq with h | ⟨h, h'⟩
    · go_enter Tryz.func17, Tryz.ntmps17
      go_wp2_with fail
      go_ret
      exact ⟨rfl, Below.refl _ _⟩
    · go_enter Tryz.func17, Tryz.ntmps17
      go_wp2_with fail
      go_ret
      exact ⟨rfl, Below.refl _ _⟩
/-- What a name is, if it is one. -/
theorem num_cases (s : List UInt8) : (∃ n, okW n = true ∧ s = nmW n ∧ numR s = (n, true)) ∨ (numR s = (0, false) ∧ ∀ n, okW n = true → s ≠ nmW n) := by
  cases h : (numR s).2 with
  | true =>
    have h1 := num_ok h
    cases hk : okW (numR s).1 with
    | true => exact .inl ⟨_, hk, h1.symm, by rw [← h]⟩
    | false =>
      rw [nm_noR hk] at h1
      rw [← h1] at h
      exact absurd h (by decide)
  | false =>
    have h1 := num_no h
    refine .inr ⟨by rw [← h1, ← h], fun n hn e => ?_⟩
    rw [e, num_name hn] at h
    cases h
theorem dec_lenW : ∀ (k u : Nat), u < 10 ^ k → 0 < k → (Lib.decDigits u).length ≤ k
  | 0, _, _, h => by omega
  | 1, u, h, _ => by rw [dec_small (by omega)]; simp
  | k + 2, u, h, _ => by
    rcases Nat.lt_or_ge u 10 with h' | h'
    · rw [dec_small h']; simp
    · rw [dec_big h', List.length_append, List.length_singleton]
      have := dec_lenW (k + 1) (u / 10) (by rw [Nat.pow_succ] at h; omega) (by omega)
      omega
theorem nm_facts {n : Int} (h : okW n = true) : 5 ≤ (nmW n).length ∧ (nmW n).length ≤ 13 ∧ (nmW n).take 4 = preW ∧ (∀ c ∈ (nmW n).drop 4, 48 ≤ c.toNat ∧ c.toNat ≤ 57) ∧ (valD ((nmW n).drop 4) : Int) = n := by
  have h1 := okW_iff.1 h
  have hr := dec_range (n.toNat + 1) n.toNat (by omega)
  have hv := val_dec (n.toNat + 1) n.toNat (by omega)
  have hne := dec_ne n.toNat
  have hl : (Lib.decDigits n.toNat).length ≤ 9 := dec_lenW 9 n.toNat (by omega) (by omega)
  have hp : 0 < (Lib.decDigits n.toNat).length := List.length_pos_iff.2 hne
  rw [nm_shapeR h]
  have h4 : preW.length = 4 := rfl
  refine ⟨by rw [List.length_append]; omega, by rw [List.length_append]; omega, ?_, ?_, ?_⟩
  · rw [← h4, List.take_left]
  · rw [← h4, List.drop_left]; exact hr
  · rw [← h4, List.drop_left, hv]; omega
theorem valD_snoc (l : List UInt8) (c : UInt8) : valD (l ++ [c]) = valD l * 10 + (c.toNat - 48) := by unfold valD; rw [List.foldl_append, List.foldl_cons, List.foldl_nil]
theorem bytes_ne {a b : ByteArray} (h : a ≠ b) : (a.toList == b.toList) = false := by
  rw [beq_eq_false_iff_ne, Go.ByteArray.toList_eq, Go.ByteArray.toList_eq]
  intro e
  apply h
  obtain ⟨x⟩ := a
  obtain ⟨y⟩ := b
  congr 1
  exact Array.toList_inj.1 e
set_option maxRecDepth 100000 in
set_option maxHeartbeats 2000000 in
theorem refNumberW_any (s : ByteArray) (hs : s.size ≤ 140737488355328) (w : World) :
    Calls Tryz.prog 13 #[.string s] w fun x w' => x = .returned (.tuple #[.int .i64 (numR s.data.toList).1, .bool (numR s.data.toList).2]) ∧ Below w.heap.size w w' := by
  have hsz : (s.size : Int) ≤ 140737488355328 := by omega
  obtain ⟨S, hS⟩ : ∃ S, S = s.data.toList := ⟨_, rfl⟩
  have hSl : S.length = s.size := by rw [hS]; simp
  have hat : ∀ k (hk : k < s.size), S[k]? = some s[k] := fun k hk => by
    rw [hS]
    have : k < s.data.toList.length := by simpa using hk
    rw [List.getElem?_eq_getElem this]
    rfl
  have hno : (∀ n, okW n = true → S ≠ nmW n) → numR S = (0, false) := fun h => by
    rcases num_cases S with ⟨n, hn, e, _⟩ | ⟨e, _⟩
    · exact absurd e (h n hn)
    · exact e
  rw [← hS]
  by_cases h5 : s.size < 5
  · rw [hno fun n hn e => by have := (nm_facts hn).1; rw [← e] at this; omega]
    have q : (s.size : Int) < 5 := by omega
    clear hno hat hS hSl hs
    go_enter Tryz.func13, Tryz.ntmps13
    go_wp2_with fail
    go_ret2
    exact ⟨rfl, Below.refl _ _⟩
  by_cases h13 : 13 < s.size
  · rw [hno fun n hn e => by have := (nm_facts hn).2.1; rw [← e] at this; omega]
    have q : ¬ (s.size : Int) < 5 := by omega
    have q2 : (13 : Int) < (s.size : Int) := by omega
    clear hno hat hS hSl hs
    go_enter Tryz.func13, Tryz.ntmps13
    go_wp2_with fail
    go_ret2
    exact ⟨rfl, Below.refl _ _⟩
  have q1 : ¬ (s.size : Int) < 5 := by omega
  have q2 : ¬ (13 : Int) < (s.size : Int) := by omega
  have ex4 : (s.extract 0 4).data.toList = S.take 4 := by
    rw [ByteArray.data_extract, Array.toList_extract, List.extract_eq_take_drop, hS]
    simp
  by_cases hp : S.take 4 = preW
  · have hx4 : s.extract 0 4 = ⟨#[108, 111, 103, 45]⟩ := by
      have : (s.extract 0 4).data.toList = [108, 111, 103, 45] := by rw [ex4, hp]; rfl
      obtain ⟨x, hx⟩ : ∃ x, x = s.extract 0 4 := ⟨_, rfl⟩
      rw [← hx] at this ⊢
      obtain ⟨y⟩ := x
      congr 1
      exact Array.toList_inj.1 this
    have HNO : Hid ((∀ n, okW n = true → S ≠ nmW n) → numR S = (0, false)) := hno
    have HAT : Hid (∀ k (hk : k < s.size), S[k]? = some s[k]) := hat
    have HSS : Hid (S = s.data.toList) := hS
    have HNC : Hid (∀ n : Int, -9223372036854775808 ≤ n → n ≤ 9223372036854775807 → ∀ u, Calls Tryz.prog 17 #[.int .i64 n] u fun x w' => x = .returned (.string (tB (nmW n))) ∧ Below u.heap.size u w') := fun n h1 h2 u => refNameW_any n h1 h2 u
    clear hno hat hS ex4 hp hs
    go_enter Tryz.func13, Tryz.ntmps13
    go_wp2_with fail
    go_loopw [4, 5] (fun s4 s5 wr => ∃ k u : Nat, 4 ≤ k ∧ k ≤ s.size ∧ s5 = .int .i64 (k : Int) ∧ s4 = .int .i64 (u : Int) ∧ u = valD ((S.drop 4).take (k - 4)) ∧ u < 10 ^ (k - 4) ∧ (∀ c ∈ (S.drop 4).take (k - 4), 48 ≤ c.toNat ∧ c.toNat ≤ 57) ∧ wr = w) (fun _ s5 _ => s.size - (intOf s5).toNat)
    case atStart => exact ⟨4, 0, by omega, by omega, rfl, rfl, rfl, by decide, fun c hc => by simp at hc, rfl⟩
    case round =>
      obtain ⟨k, u, h4, hk, rfl, rfl, hu, hup, hdg, rfl⟩ := hrel
      have HU : Hid (u = valD ((S.drop 4).take (k - 4)) ∧ u < 10 ^ (k - 4) ∧ ∀ c ∈ (S.drop 4).take (k - 4), 48 ≤ c.toNat ∧ c.toNat ≤ 57) := ⟨hu, hup, hdg⟩
      have hu9 : u < 1000000000 := by
        have : 10 ^ (k - 4) ≤ 10 ^ 9 := Nat.pow_le_pow_right (by omega) (by omega)
        omega
      clear hu hup hdg
      by_cases hlt : k < s.size
      · have hkS := HAT.out k hlt
        have HT : Hid ((S.drop 4).take (k + 1 - 4) = (S.drop 4).take (k - 4) ++ [s[k]]) := by
          show _ = _
          have e : k + 1 - 4 = (k - 4) + 1 := by omega
          have hd : (S.drop 4)[k - 4]? = some s[k] := by rw [List.getElem?_drop, show 4 + (k - 4) = k by omega]; exact hkS
          rw [e, List.take_add_one, hd]
          rfl
        have HM : Hid (s[k] ∈ S.drop 4) := by
          have hd : (S.drop 4)[k - 4]? = some s[k] := by rw [List.getElem?_drop, show 4 + (k - 4) = k by omega]; exact hkS
          exact List.mem_of_getElem? hd
        clear hkS
        obtain ⟨c, hc⟩ : ∃ c, c = s[k] := ⟨_, rfl⟩
        have hcx : ((s[k].toNat : Nat) : Int) = (c.toNat : Int) := by rw [hc]
        have HC : Hid (c = s[k]) := hc
        have hc256 := c.toNat_lt
        clear hc
        obtain ⟨x, hx⟩ : ∃ x, x = c.toNat := ⟨_, rfl⟩
        rw [← hx] at hcx
        by_cases hd : 48 ≤ x ∧ x ≤ 57
        · have d1 : ¬ (x : Int) < 48 := by omega
          have d2 : ¬ (57 : Int) < (x : Int) := by omega
          have HN : Hid (10 * u + (x - 48) = valD ((S.drop 4).take (k + 1 - 4)) ∧ 10 * u + (x - 48) < 10 ^ (k + 1 - 4) ∧ ∀ c ∈ (S.drop 4).take (k + 1 - 4), 48 ≤ c.toNat ∧ c.toNat ≤ 57) := by
            refine ⟨?_, ?_, ?_⟩
            · rw [HT.out, valD_snoc, ← HU.out.1, ← HC.out, ← hx]; omega
            · have e : k + 1 - 4 = (k - 4) + 1 := by omega
              rw [e, Nat.pow_succ]
              have := HU.out.2.1
              omega
            · intro y hy
              rw [HT.out, List.mem_append, List.mem_singleton] at hy
              rcases hy with hy | hy
              · exact HU.out.2.2 y hy
              · rw [hy, ← HC.out, ← hx]; exact hd
          clear HT HM HU HC hx HNO HNC HSS HAT
          go_wp2_with fail
          go_roundw
          case rel => exact ⟨k + 1, 10 * u + (x - 48), by omega, by omega, by go_num, by congr 1; omega, HN.out.1, HN.out.2.1, HN.out.2.2, by first | rfl | trivial⟩
          case measure => (simp [intOf]; try omega)
        · have hnr := HNO.out fun n hn e => by
            have h1 := (nm_facts hn).2.2.2.1
            rw [← e] at h1
            have h2 := h1 _ HM.out
            rw [← HC.out, ← hx] at h2
            exact hd h2
          have HNR : Hid (numR S = (0, false)) := hnr
          clear hnr HT HM HU HC hx HNO HNC HSS HAT
          rcases Nat.lt_or_ge x 48 with h | h
          · have d1 : (x : Int) < 48 := by omega
            go_wp2_with fail
            go_ret2
            exact ⟨by rw [HNR.out]; rfl, Below.refl _ _⟩
          · have d1 : ¬ (x : Int) < 48 := by omega
            have d2 : (57 : Int) < (x : Int) := by omega
            go_wp2_with fail
            go_ret2
            exact ⟨by rw [HNR.out]; rfl, Below.refl _ _⟩
      · obtain rfl : k = s.size := by omega
        have hdr : (S.drop 4).take (s.size - 4) = S.drop 4 := List.take_of_length_le (by rw [List.length_drop]; omega)
        rw [hdr] at HU
        have C1 := HNC.out (u : Int) (by omega) (by omega) wr
        by_cases hEq : tB (nmW (u : Int)) = s
        · rw [hEq] at C1
          have hSe : nmW (u : Int) = S := by rw [HSS.out, ← hEq]; exact (tB_list _).symm
          have hnr : numR S = ((u : Int), true) := by
            cases hok : okW (u : Int) with
            | true => rw [← hSe]; exact num_name hok
            | false =>
              rw [nm_noR hok] at hSe
              rw [← hSe] at hSl
              simp at hSl
              omega
          have HNR : Hid (numR S = ((u : Int), true)) := hnr
          have C2 : Hid (Calls Tryz.prog 17 #[.int .i64 (u : Int)] wr fun x w' => x = .returned (.string s) ∧ Below wr.heap.size wr w') := C1
          clear C1 hEq hSe hnr HU HNO HAT HSS HNC hdr
          go_wp2_with fail
          go_fit C2.out
          rintro e w2 ⟨rfl, hB⟩
          go_wp2_with fail
          go_ret2
          exact ⟨by rw [HNR.out]; rfl, hB⟩
        · have hne := bytes_ne hEq
          have hnr := HNO.out fun n hn e => by
            have h1 := (nm_facts hn).2.2.2.2
            rw [← e, ← HU.out.1] at h1
            apply hEq
            rw [h1, ← e, HSS.out]
            exact tB_of s
          have HNR : Hid (numR S = (0, false)) := hnr
          have C2 : Hid (Calls Tryz.prog 17 #[.int .i64 (u : Int)] wr fun x w' => x = .returned (.string (tB (nmW (u : Int)))) ∧ Below wr.heap.size wr w') := C1
          generalize tB (nmW (u : Int)) = NM at *
          clear C1 hEq hnr HU HNO HAT HSS HNC hdr
          go_wp2_with fail
          go_fit C2.out
          rintro e w2 ⟨rfl, hB⟩
          go_wp2_with fail
          go_ret2
          exact ⟨by rw [HNR.out]; rfl, hB⟩
  · rw [hno fun n hn e => hp (by rw [e]; exact (nm_facts hn).2.2.1)]
    have hx4 : ((s.extract 0 4).toList == (⟨#[108, 111, 103, 45]⟩ : ByteArray).toList) = false := bytes_ne fun e => hp (by rw [← ex4, e]; rfl)
    have hx5 : ((s.extract 0 4).toList == [108, 111, 103, 45]) = false := by
      have : (⟨#[108, 111, 103, 45]⟩ : ByteArray).toList = [108, 111, 103, 45] := by rw [Go.ByteArray.toList_eq]
      rw [← this]; exact hx4
    clear hno hat hS hSl hs ex4 hp
    go_enter Tryz.func13, Tryz.ntmps13
    go_wp2_with fail
    go_ret2
    exact ⟨rfl, Below.refl _ _⟩
end Go.Proofs.YtlamncldbnagmaaGreatDoor
namespace Go.Proofs.YtlamncldbnagmaaGreatDoor.walBytes
open Go.RowKit Go.Proofs.YtlamncldbnagmaaGreatDoor
attribute [local irreducible] wpQuiet

theorem recordW_any (ao : Option Addr) (l : List Cx) (cap : Nat) (w : World) (hs : XSees w ao l) (hl : l.length ≤ 140737488355328) (hc : ∀ c ∈ l, CxMax c) (hn : ∀ c ∈ l, c.Nums) (ht : Tab w) :
    Calls Tryz.prog 8 #[.slice ao l.length cap] w fun e w' => ∃ a c, e = .returned (.tuple #[.slice a (rrB l).length c, .int .i64 (rrE l)]) ∧ Sees w' a (rrB l) ∧ (a = none → (rrB l).length = 0) ∧ Below w.heap.size w w' := by
  cases hr : recB l with
  | true =>
    have e1 : rrB l = recL l := by unfold rrB; rw [hr]; rfl
    have e2 : rrE l = 0 := by unfold rrE; rw [hr]; rfl
    rw [e1, e2]
    refine (recordW_good ao l cap w hs hn hr ht).mono ?_
    rintro e w' ⟨g, rfl, _, hrow, hB⟩
    refine ⟨_, _, rfl, ?_, fun e => (by cases e), hB⟩
    have := hrow.sees 0 (recL l).length (by omega)
    simpa using this
  | false =>
    have e1 : rrB l = [] := by unfold rrB; rw [hr]; rfl
    have e2 : rrE l = 2 := by unfold rrE; rw [hr]; rfl
    rw [e1, e2]
    refine (recordW_bad ao l cap w hs hl hc hr).mono ?_
    rintro e w' ⟨rfl, hB⟩
    exact ⟨_, _, rfl, Sees.nil _ _, fun _ => rfl, hB⟩
/-- Records that were told, as lists in memory. -/
def TlIn (W : World) (v : Value) (vs : List Lvx) : Prop := ∃ a c, v = .slice a vs.length c ∧ LSees W a vs ∧ ∀ x ∈ vs, XSees W x.ao x.l
theorem TlIn.below {W W' : World} {v : Value} {vs : List Lvx} (h : TlIn W v vs) (hb : Below W.heap.size W W') : TlIn W' v vs := by
  obtain ⟨a, c, e, h1, h2⟩ := h
  exact ⟨a, c, e, h1.below hb (Nat.le_refl _), fun x hx => (h2 x hx).below hb (Nat.le_refl _)⟩
theorem told_in {W : World} {n0 : Nat} {v : Value} {xs : List Yl} (hrow : W.ownsRow n0 22 1 v xs.length (xs.map Yl.v)) (hin : ∀ x ∈ xs, YIn n0 x W) : TlIn W v (xs.map fun x => (⟨x.a, x.c, x.r⟩ : Lvx)) := by
  have em : xs.map Yl.v = (xs.map fun x => (⟨x.a, x.c, x.r⟩ : Lvx)).map Lvx.s := by rw [List.map_map]; rfl
  have el : xs.length = (xs.map fun x => (⟨x.a, x.c, x.r⟩ : Lvx)).length := by rw [List.length_map]
  rw [em, el] at hrow
  obtain ⟨a, c, rfl, h1, -, -⟩ := rows_lists hrow
  refine ⟨a, c, rfl, h1, fun y hy => ?_⟩
  obtain ⟨x, hx, rfl⟩ := List.mem_map.1 hy
  obtain ⟨a2, c2, e2, h2, -⟩ := owns_xsees (hin x hx).1
  unfold Yl.v at e2
  simp only [Value.slice.injEq] at e2
  rw [← e2.1] at h2
  exact h2
theorem told_l (xs : List Yl) : (xs.map fun x => (⟨x.a, x.c, x.r⟩ : Lvx)).map Lvx.l = xs.map Yl.r := by rw [List.map_map]; rfl
/-- Scan, where what bytes tell is known. -/
theorem scanP {ao : Option Addr} {L : List UInt8} {cap : Nat} {w : World} (hs : Sees w ao L) (hli : Lies w.heap.size ao L.length) (hL : L.length ≤ 10000) (hcap : L.length ≤ cap) (hcm : cap ≤ 9223372036854775807) (ht : Tab w) {ue : TypeId} {pv : Value} (he : Err w ue pv) {rs : List (List Cx)} {n : Nat} (hT : ToldW L rs n) :
    Calls Tryz.prog 10 #[.slice ao L.length cap] w fun e w' => ∃ (v : Value) (vs : List Lvx), e = .returned (.tuple #[v, .int .i64 (n : Int)]) ∧ vs.map Lvx.l = rs ∧ TlIn w' v vs ∧ Below w.heap.size w w' := by
  refine (scanW_any ao L cap w hs hli (by omega) hcap hcm ht ue pv he).mono ?_
  rintro e w' ⟨v, xs, m, rfl, hT', hrow, hin, hB⟩
  obtain ⟨e1, rfl⟩ := hT'.uniq hT
  exact ⟨v, _, rfl, (told_l xs).trans e1, told_in hrow hin, hB⟩
/-- The document's Scan. -/
theorem scanD {ao : Option Addr} {L : List UInt8} {cap : Nat} {w : World} (hs : Sees w ao L) (hL : L.length ≤ 10000) (hcap : L.length ≤ cap) (hcm : cap ≤ 9223372036854775807) {rs : List (List Cx)} {n : Nat} (hT : ToldW L rs n) :
    Calls Tryz.prog 11 #[.slice ao L.length cap] w fun e w' => ∃ (v : Value) (vs : List Lvx), e = .returned (.tuple #[v, .int .i64 (n : Int)]) ∧ vs.map Lvx.l = rs ∧ TlIn w' v vs ∧ Below w.heap.size w w' := by
  by_cases h0 : L.length = 0
  · have hnil : L = [] := List.eq_nil_of_length_eq_zero h0
    subst hnil
    have hT0 : ToldW [] [] 0 := toldW_nil (by rw [fstW_no fun hc => absurd hc.1 (by decide)])
    obtain ⟨rfl, rfl⟩ := hT.uniq hT0
    refine (refScan_nil ao cap w hcm).mono ?_
    rintro e w' ⟨rfl, hB⟩
    exact ⟨_, [], rfl, rfl, ⟨none, 0, rfl, fun i v hv => by simp at hv, fun x hx => by cases hx⟩, hB⟩
  · obtain ⟨b, off, rfl, _⟩ := sees_at hs (n := 0) (by omega)
    refine (refScan_any b off L cap w hs hL hcap).mono ?_
    rintro e w' ⟨v, xs, m, rfl, hT', hrow, hin, hB⟩
    obtain ⟨e1, rfl⟩ := hT'.uniq hT
    exact ⟨v, _, rfl, (told_l xs).trans e1, told_in hrow hin, hB⟩
set_option maxRecDepth 100000 in
set_option maxHeartbeats 8000000 in
theorem walk0 (ao : Option Addr) (l : List Cx) (cap : Nat) (bo : Option Addr) (L : List UInt8) (bcap : Nat) (n : Int) (s : ByteArray) (w : World) (he : EnvW w) (ht : Tab w) (ue : TypeId) (pv : Value) (hE : Err w ue pv)
    (hX : XSees w ao l) (hl : l.length ≤ 140737488355328) (hmx : ∀ c ∈ l, CxMax c) (hnum : ∀ c ∈ l, c.Nums) (hwt : ∀ c ∈ l, wtX c ≤ 562949953421312) (hS : Sees w bo L) (hLl : L.length ≤ 140737488351232) (hbc : L.length ≤ bcap) (hbm : bcap ≤ 9223372036854775807) (hn : -9223372036854775808 ≤ n ∧ n ≤ 9223372036854775807) (hs : s.size ≤ 140737488355328) :
    Calls Tryz.prog 3 #[.slice ao l.length cap, .slice bo L.length bcap, .agg #[.int .i64 n, .string s]] w fun e w' => e = .returned (.bool true) ∧ Below w.heap.size w w' := by
  obtain ⟨w0, hw0⟩ : ∃ w0, w0 = w.alloc (.cells #[.int .i64 n, .string s] 25) := ⟨_, rfl⟩
  have hb0 : Below w.heap.size w w0 := by rw [hw0]; exact (Below.refl _ _).alloc (Nat.le_refl _) _
  have hK : Blk w0 w.heap.size [.int .i64 n, .string s] 25 := by rw [hw0]; exact Blk.new w _ _
  have HB : Hid (∀ u, Below w0.heap.size w0 u → Below w.heap.size w u) := fun u hu => hb0.trans (hu.mono hb0.size)
  have HK : Hid (∀ u, Below w0.heap.size w0 u → u.cell? ⟨w.heap.size, 0, none⟩ = some (.int .i64 n) ∧ u.cell? ⟨w.heap.size, 1, none⟩ = some (.string s)) := fun u hu => ⟨(hK.carry (hu.block _ hK.lt)).cell 0 rfl, (hK.carry (hu.block _ hK.lt)).cell 1 rfl⟩
  have LV : Hid (∀ u, Below w0.heap.size w0 u → Calls Tryz.prog 7 #[] u fun x w' => x = .returned (.bool true) ∧ Below u.heap.size u w') := fun u hu => by
    have hb := HB.out u hu
    exact lives07_any u (he.below hb (Nat.le_refl _)) (ht.below hb (Nat.le_refl _))
  have WG : Hid (Calls Tryz.prog 6 #[.slice ao l.length cap, .int .i64 500] w0 fun e w' => (∃ z : Nat, e = .returned (.int .i64 z) ∧ z ≤ 1000000000000000) ∧ Below w0.heap.size w0 w') := (weigh07_any ao l cap 500 w0 (hX.below hb0 (Nat.le_refl _)) (by omega) hl hwt).mono fun e w' ⟨⟨z, h1, h2, _⟩, h3⟩ => ⟨⟨z, h1, h2⟩, h3⟩
  have C1 : Hid (∀ u, Below w0.heap.size w0 u → Calls Tryz.prog 8 #[.slice ao l.length cap] u fun e w' => ∃ a c, e = .returned (.tuple #[.slice a (rrB l).length c, .int .i64 (rrE l)]) ∧ Sees w' a (rrB l) ∧ (a = none → (rrB l).length = 0) ∧ Below u.heap.size u w') := fun u hu => recordW_any ao l cap u (hX.below (HB.out u hu) (Nat.le_refl _)) hl hmx hnum (ht.below (HB.out u hu) (Nat.le_refl _))
  have C2 : Hid (∀ u, Below w0.heap.size w0 u → Calls Tryz.prog 9 #[.slice ao l.length cap] u fun e w' => ∃ a c, e = .returned (.tuple #[.slice a (rrB l).length c, .int .i64 (rrE l)]) ∧ Sees w' a (rrB l) ∧ (a = none → (rrB l).length = 0) ∧ Below u.heap.size u w') := fun u hu => by
    refine (refRecord_any ao l cap u (hX.below (HB.out u hu) (Nat.le_refl _)) hl hmx hnum).mono ?_
    rintro e w' ⟨v, rfl, ho, hB⟩
    obtain ⟨a, c, rfl, h1, _, h3⟩ := owns_sees ho
    exact ⟨a, c, rfl, h1, fun e => (h3 e).1, hB⟩
  obtain ⟨rs, N, hT⟩ := toldW_ex L.length L (Nat.le_refl _)
  have hTl := hT.le
  have hli : ∀ u, Below w0.heap.size w0 u → Lies u.heap.size bo L.length := fun u hu => by
    by_cases h0 : L.length = 0
    · exact .inl h0
    · obtain ⟨b, off, rfl, hc⟩ := sees_at hS (n := 0) (by omega)
      exact .inr ⟨b, off, rfl, Nat.lt_of_lt_of_le (World.block_lt_of_cell? _ _ hc) (HB.out u hu).size⟩
  have C3 : Hid (L.length ≤ 10000 → ∀ u, Below w0.heap.size w0 u → Calls Tryz.prog 10 #[.slice bo L.length bcap] u fun e w' => ∃ (v : Value) (vs : List Lvx), e = .returned (.tuple #[v, .int .i64 (N : Int)]) ∧ vs.map Lvx.l = rs ∧ TlIn w' v vs ∧ Below u.heap.size u w') := fun h u hu => scanP (hS.below (HB.out u hu) (Nat.le_refl _)) (hli u hu) h hbc hbm (ht.below (HB.out u hu) (Nat.le_refl _)) (hE.below (HB.out u hu) (Nat.le_refl _)) hT
  have C4 : Hid (L.length ≤ 10000 → ∀ u, Below w0.heap.size w0 u → Calls Tryz.prog 11 #[.slice bo L.length bcap] u fun e w' => ∃ (v : Value) (vs : List Lvx), e = .returned (.tuple #[v, .int .i64 (N : Int)]) ∧ vs.map Lvx.l = rs ∧ TlIn w' v vs ∧ Below u.heap.size u w') := fun h u hu => scanD (hS.below (HB.out u hu) (Nat.le_refl _)) h hbc hbm hT
  obtain ⟨⟨k, ok⟩, hkr⟩ : ∃ p, numR s.data.toList = p := ⟨_, rfl⟩
  have C5 : Hid (∀ u, Below w0.heap.size w0 u → Calls Tryz.prog 12 #[.string s] u fun x w' => x = .returned (.tuple #[.int .i64 k, .bool ok]) ∧ Below u.heap.size u w') := fun u hu => by
    have := numberW_any s hs u (he.below (HB.out u hu) (Nat.le_refl _))
    rw [hkr] at this; exact this
  have C6 : Hid (∀ u, Calls Tryz.prog 13 #[.string s] u fun x w' => x = .returned (.tuple #[.int .i64 k, .bool ok]) ∧ Below u.heap.size u w') := fun u => by
    have := refNumberW_any s hs u
    rw [hkr] at this; exact this
  have C7 : Hid (∀ u, Below w0.heap.size w0 u → Calls Tryz.prog 16 #[.int .i64 n] u fun x w' => x = .returned (.string (tB (nmW n))) ∧ Below u.heap.size u w') := fun u hu => nameW_any n hn.1 hn.2 u (he.below (HB.out u hu) (Nat.le_refl _))
  have C8 : Hid (∀ u, Calls Tryz.prog 17 #[.int .i64 n] u fun x w' => x = .returned (.string (tB (nmW n))) ∧ Below u.heap.size u w') := fun u => refNameW_any n hn.1 hn.2 u
  have HRS : Hid (∀ r ∈ rs, r.length ≤ 400) := fun r hr => by
    rw [hT.recs] at hr
    obtain ⟨i, hi, rfl⟩ := List.mem_map.1 hr
    rw [List.mem_range] at hi
    exact (recB_good (fstW_pos (hT.more i hi)).2).1.2
  have HRL : Hid (rs.length ≤ L.length) := hTl.2
  have hLz : (L.length : Int) ≤ 140737488351232 := by omega
  have HSM : Hid (∀ (u : World) a c b d, Sees u a (rrB l) → (a = none → (rrB l).length = 0) → Sees u b (rrB l) → (b = none → (rrB l).length = 0) → Calls Tryz.prog 14 #[.slice a (rrB l).length c, .slice b (rrB l).length d] u fun e w' => e = .returned (.bool true) ∧ Below u.heap.size u w') := fun u a c b d h1 h2 h3 h4 => (same_anyD a b (rrB l) (rrB l) c d u h1 h3 h2 h4).mono fun e w' ⟨h, h'⟩ => ⟨by rw [h]; simp, by rw [h']; exact Below.refl _ _⟩
  have hNz : (N : Int) ≤ 140737488351232 := by omega
  have hkz : True := trivial
  generalize rrB l = RB at *
  generalize rrE l = RE at *
  generalize tB (nmW n) = NM at *
  clear hK hb0 he ht hE hX hmx hnum hwt hS hli hkr hT hTl hs
  go_enter Tryz.func3, Tryz.ntmps3
  go_wp2_with fail
  rw [← hw0]
  clear hw0
  go_fit WG.out
  rintro e w1 ⟨⟨z, rfl, hz⟩, hB1⟩
  clear WG
  by_cases hq : 500 < z
  · have hq1 : (500 : Int) < (z : Int) := by omega
    have D := LV.out w1 hB1
    clear C1 C2 C3 C4 C5 C6 C7 C8 HSM
    go_wp2_with fail
    go_fit D
    rintro e w2 ⟨rfl, hB2⟩
    go_wp2_with fail
    go_ret
    exact ⟨rfl, HB.out w2 (hB1.trans (hB2.mono hB1.size))⟩
  have hq1 : ¬ (500 : Int) < (z : Int) := by omega
  by_cases hb : 10000 < L.length
  · have hq2 : (10000 : Int) < (L.length : Int) := by omega
    have D := LV.out w1 hB1
    clear C1 C2 C3 C4 C5 C6 C7 C8 HSM
    go_wp2_with fail
    go_fit D
    rintro e w2 ⟨rfl, hB2⟩
    go_wp2_with fail
    go_ret
    exact ⟨rfl, HB.out w2 (hB1.trans (hB2.mono hB1.size))⟩
  have hq2 : ¬ (10000 : Int) < (L.length : Int) := by omega
  have hLe : L.length ≤ 10000 := by omega
  have D1 := C1.out w1 hB1
  go_wp2_with fail
  go_fit D1
  rintro e w2 ⟨a1, c1, rfl, s1, n1, hB2⟩
  have h02 := hB1.trans (hB2.mono hB1.size)
  have D2 := C2.out w2 h02
  clear C1 C2 D1
  go_wp2_with fail
  go_fit D2
  rintro e w3 ⟨a2, c2, rfl, s2, n2, hB3⟩
  have h03 := h02.trans (hB3.mono h02.size)
  have D3 := C3.out hLe w3 h03
  have s1' := s1.below hB3 (Nat.le_refl _)
  clear C3 D2 s1 hB2 hB3
  go_wp2_with fail
  go_fit D3
  rintro e w4 ⟨v3, vs3, rfl, e3, t3, hB4⟩
  have h04 := h03.trans (hB4.mono h03.size)
  have D4 := C4.out hLe w4 h04
  have s1 := s1'.below hB4 (Nat.le_refl _)
  have s2' := s2.below hB4 (Nat.le_refl _)
  have t3' := t3
  obtain ⟨a3, d3, rfl, -, -⟩ := t3'
  clear C4 D3 s1' s2 hB4 h03
  go_wp2_with fail
  go_fit D4
  rintro e w5 ⟨v4, vs4, rfl, e4, t4, hB5⟩
  have h05 := h04.trans (hB5.mono h04.size)
  have k5 := (HK.out w5 h05).2
  have D5 := C5.out w5 h05
  have s1' := s1.below hB5 (Nat.le_refl _)
  have s2 := s2'.below hB5 (Nat.le_refl _)
  have t3' := t3.below hB5
  have t4' := t4
  obtain ⟨a4, d4, rfl, -, -⟩ := t4'
  clear C5 D4 s1 s2' t3 hB5 h04
  go_wp2_with fail
  go_fit D5
  rintro e w6 ⟨rfl, hB6⟩
  have h06 := h05.trans (hB6.mono h05.size)
  have k6 := (HK.out w6 h06).2
  have D6 := C6.out w6
  clear C6 D5 k5
  go_wp2_with fail
  go_fit D6
  rintro e w7 ⟨rfl, hB7⟩
  have h57 := hB6.trans (hB7.mono hB6.size)
  have h07 := h05.trans (h57.mono h05.size)
  have HZ : ∀ y : Cl w7.heap.size w7, Below w0.heap.size w0 y.u := fun y => h07.trans (y.h.mono h07.size)
  have H57 : ∀ y : Cl w7.heap.size w7, Below w5.heap.size w5 y.u := fun y => h57.trans (y.h.mono h57.size)
  have r0 : ∀ y : Cl w7.heap.size w7, y.u.cell? ⟨w.heap.size, 0, none⟩ = some (.int .i64 n) := fun y => (HK.out y.u (HZ y)).1
  have SM : Hid (∀ y : Cl w7.heap.size w7, Calls Tryz.prog 14 #[.slice a1 RB.length c1, .slice a2 RB.length c2] y.u fun e w' => e = .returned (.bool true) ∧ Below y.u.heap.size y.u w') := fun y => HSM.out y.u a1 c1 a2 c2 (s1'.below (H57 y) (Nat.le_refl _)) n1 (s2.below (H57 y) (Nat.le_refl _)) n2
  have RC : Hid (∀ y : Cl w7.heap.size w7, Calls Tryz.prog 15 #[.slice a3 vs3.length d3, .slice a4 vs4.length d4] y.u fun e w' => e = .returned (.bool true) ∧ Below y.u.heap.size y.u w') := fun y => by
    obtain ⟨a3', d3', f3, g3, x3⟩ := t3'.below (H57 y)
    obtain ⟨a4', d4', f4, g4, x4⟩ := t4.below (H57 y)
    simp only [Value.slice.injEq] at f3 f4
    obtain ⟨rfl, -, rfl⟩ := f3
    obtain ⟨rfl, -, rfl⟩ := f4
    refine recordsL_same a3 a4 vs3 vs4 d3 d4 y.u (e3.trans e4.symm) g3 g4 x3 x4 ?_ fun v hv => ?_
    · have := congrArg List.length e3
      rw [List.length_map] at this
      have := HRL.out
      omega
    · have hm : v.l ∈ rs := by rw [← e3]; exact List.mem_map_of_mem hv
      have := HRS.out _ hm
      omega
  have NA : Hid (∀ y : Cl w7.heap.size w7, Calls Tryz.prog 16 #[.int .i64 n] y.u fun x w' => x = .returned (.string NM) ∧ Below y.u.heap.size y.u w') := fun y => C7.out y.u (HZ y)
  have NB : Hid (∀ y : Cl w7.heap.size w7, Calls Tryz.prog 17 #[.int .i64 n] y.u fun x w' => x = .returned (.string NM) ∧ Below y.u.heap.size y.u w') := fun y => C8.out y.u
  have LZ : Hid (∀ y : Cl w7.heap.size w7, Calls Tryz.prog 7 #[] y.u fun x w' => x = .returned (.bool true) ∧ Below y.u.heap.size y.u w') := fun y => LV.out y.u (HZ y)
  have HF : Hid (∀ y : Cl w7.heap.size w7, Below w.heap.size w y.u) := fun y => HB.out y.u (HZ y)
  clear HSM C7 C8 LV HB HK s1' s2 t3' t4 HZ H57 h07 h57 hB7 hB6 h06 h05 D6 k6 e3 e4 n1 n2 HRS HRL hB1 h02
  haveI := Cl.inh w7.heap.size w7
  go_wp2_with fail
  refine wp_region_cl w7.heap.size (by kernel_rfl) (by kernel_rfl) ?_
  repeat (quiet_step (first
    | (go_at_call 14; exact Cl.calls (Nat.le_refl _) (SM.out _))
    | (go_at_call 15; exact Cl.calls (Nat.le_refl _) (RC.out _))
    | (go_at_call 16; exact Cl.calls (Nat.le_refl _) (NA.out _))
    | (go_at_call 17; exact Cl.calls (Nat.le_refl _) (NB.out _))
    | (go_at_call 7; exact Cl.calls (Nat.le_refl _) (LZ.out _))))
  refine wpQuiet_nil ?_
  rintro w8 ⟨y, rfl⟩
  have hy := HF.out y
  go_wp2_with fail
  go_ret
  exact ⟨rfl, hy⟩
end Go.Proofs.YtlamncldbnagmaaGreatDoor.walBytes
namespace Go.Proofs.YtlamncldbnagmaaGreatDoor.walBytes
open Go.RowKit Go.Proofs.YtlamncldbnagmaaGreatDoor

theorem walk (ao : Option Addr) (l : List Cx) (cap : Nat) (bo : Option Addr) (L : List UInt8) (bcap : Nat) (n : Int) (s : ByteArray) (w : World) (he : EnvW w) (ht : Tab w) (ue : TypeId) (pv : Value) (hE : Err w ue pv)
    (hX : XSees w ao l) (hF : l.length ≤ 140737488355328 ∧ ∀ c ∈ l, c.In ∧ wtX c ≤ 562949953421312) (hS : Sees w bo L) (hLl : L.length ≤ 140737488351232) (hbc : L.length ≤ bcap) (hbm : bcap ≤ 9223372036854775807) (hn : -9223372036854775808 ≤ n ∧ n ≤ 9223372036854775807) (hs : s.size ≤ 140737488355328) :
    Calls Tryz.prog 3 #[.slice ao l.length cap, .slice bo L.length bcap, .agg #[.int .i64 n, .string s]] w fun e w' => e = .returned (.bool true) ∧ Below w.heap.size w w' :=
  walk0 ao l cap bo L bcap n s w he ht ue pv hE hX hF.1 (fun c hc => wt_max (hF.2 c hc).2) (fun c hc => ⟨(hF.2 c hc).1.1, (hF.2 c hc).1.2⟩) (fun c hc => (hF.2 c hc).2) hS hLl hbc hbm hn hs
end Go.Proofs.YtlamncldbnagmaaGreatDoor.walBytes
