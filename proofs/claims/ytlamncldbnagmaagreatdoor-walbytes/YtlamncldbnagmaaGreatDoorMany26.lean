/-
  SEVERAL TEXTS IN ONE: CxRefMore, WalFirst, MrgLow.
-/
import Derived.Test.YtlamncldbnagmaaGreatDoorCxRefNorm
import Derived.Test.YtlamncldbnagmaaGreatDoorMany19
import Derived.Test.YtlamncldbnagmaaGreatDoorMany22
import Derived.Test.YtlamncldbnagmaaGreatDoorMany24
import Derived.Test.YtlamncldbnagmaaGreatDoorMany16
import Derived.Test.YtlamncldbnagmaaGreatDoorMany17
import Derived.Test.YtlamncldbnagmaaGreatDoorMany10
import Derived.Test.YtlamncldbnagmaaGreatDoorMany25
import Derived.Test.YtlamncldbnagmaaGreatDoorMany4
import Derived.Test.YtlamncldbnagmaaGreatDoorMany21
import Derived.WalkSmall
namespace Go.Proofs.YtlamncldbnagmaaGreatDoor
open Go.RowKit

theorem owMono {w : World} {b b' : Nat} {e : TypeId} {size : Nat} {v : Value} {n : Nat} {xs : List Value} (h : w.ownsRow b e size v n xs) (hb : b' ≤ b) : w.ownsRow b' e size v n xs := by
  refine ⟨h.1, ?_⟩
  rcases h.2 with hn | ⟨g, cap, cur, rfl, hg, r⟩
  · exact .inl hn
  · exact .inr ⟨g, cap, cur, rfl, Nat.le_trans hb hg, r⟩
theorem nrm_len (l : List Cx) : (nrm l).length ≤ l.length := by
  refine snoc_ind (P := fun l => (nrm l).length ≤ l.length) (by simp [nrm]) (fun l x h => ?_) l
  rw [nrm_snoc, List.length_append, List.length_singleton]
  have := addC_len (nrm l) x
  omega
set_option maxRecDepth 100000 in
set_option maxHeartbeats 1000000 in
theorem refNorm_any (ao : Option Addr) (l : List Cx) (cap : Nat) (w : World) (hs : XSees w ao l) (hl : l.length ≤ 1000000) :
    Calls Tryz.prog 24 #[.slice ao l.length cap] w fun e w' => ∃ v, e = .returned v ∧ w'.ownsRow w.heap.size 67 10 v (nrm l).length ((nrm l).flatMap xs10) ∧ Below w.heap.size w w' := by
  have hlz : (l.length : Int) ≤ 1000000 := by omega
  have HS : Hid (XSees w ao l) := hs
  clear hs
  go_enter Tryz.func24, Tryz.ntmps24
  go_wp2_with fail
  go_loopw [3, 8] (fun s3 s8 wr => ∃ i : Nat, i ≤ l.length ∧ s8 = .int .i64 i ∧ wr.ownsRow w.heap.size 67 10 s3 (nrm (l.take i)).length ((nrm (l.take i)).flatMap xs10) ∧ Below w.heap.size w wr) (fun _ s8 _ => l.length - (intOf s8).toNat)
  case atStart => exact ⟨0, by omega, rfl, World.ownsRow_nil _ _ _ _, Below.refl _ _⟩
  case round =>
    obtain ⟨i, hi, rfl, ho, hbr⟩ := hrel
    rcases Nat.lt_or_ge i l.length with hlt | hge
    · have hc : l[i]? = some l[i] := List.getElem?_eq_getElem hlt
      obtain ⟨b, off, rfl, t⟩ := (HS.out.below hbr (Nat.le_refl _)) i _ hc
      have hsn : nrm (l.take (i + 1)) = addC (nrm (l.take i)) l[i] := by rw [takeX_succ hc, nrm_snoc]
      generalize l[i] = x at *
      obtain ⟨wv, hwv⟩ : ∃ wv, wv = wr.alloc (.cells x.a 67) := ⟨_, rfl⟩
      have hBr : Below wr.heap.size wr wv := by rw [hwv]; exact (Below.refl _ _).alloc (Nat.le_refl _) _
      have hBv : Below w.heap.size w wv := hbr.trans (hBr.mono hbr.size)
      obtain ⟨ao', cap', hv, hx, -⟩ := owns_xsees (owBelow ho hBr)
      have hnl : (nrm (l.take i)).length ≤ 1000000 := by have := nrm_len (l.take i); rw [List.length_take] at this; omega
      have C : Hid (Calls Tryz.prog 54 #[.slice ao' (nrm (l.take i)).length cap', x.val] wv fun e w' => ∃ v, e = .returned v ∧ w'.ownsRow wv.heap.size 67 10 v (addC (nrm (l.take i)) x).length ((addC (nrm (l.take i)) x).flatMap xs10) ∧ Below wv.heap.size wv w') := refAdd_any ao' _ cap' x wv hx (nrm_rising _) hnl
      rw [← hsn] at C
      have HBv : Hid (Below w.heap.size w wv) := hBv
      have hltz : (i : Int) < (l.length : Int) := by omega
      have tv := TenX.new wr x 67
      subst hv
      clear hc hsn hBr hBv hx ho hbr
      obtain ⟨⟨xa, xp, xr, xc⟩, ⟨xt, xd, xl, xk, xn, xs⟩⟩ := x
      simp only [Cx.a, Cx.val] at hwv C tv
      obtain ⟨x0, x1, x2, x3, x4, x5, x6, x7, x8, x9⟩ := t
      obtain ⟨z0, z1, z2, z3, z4, z5, z6, z7, z8, z9⟩ := tv
      simp only [Nat.zero_add] at x0 x1 x2 x3 x4 x5 x6 x7 x8 x9 z0 z1 z2 z3 z4 z5 z6 z7 z8 z9
      go_wp2_with fail
      rw [← hwv]
      clear hwv x0 x1 x2 x3 x4 x5 x6 x7 x8 x9 z0 z1 z2 z3 z4 z5 z6 z7 z8 z9
      refine C.out.mono ?_
      rintro e w2 ⟨v2, rfl, ho2, hb2⟩
      have HF : Hid (w2.ownsRow w.heap.size 67 10 v2 (nrm (l.take (i + 1))).length ((nrm (l.take (i + 1))).flatMap xs10) ∧ Below w.heap.size w w2) := ⟨owMono ho2 HBv.out.size, HBv.out.trans (hb2.mono HBv.out.size)⟩
      clear ho2 hb2 C
      go_wp2_with fail
      go_roundw
      case rel => exact ⟨i + 1, by omega, by go_num, HF.out.1, HF.out.2⟩
      case measure => (simp [intOf]; try omega)
    · have hgez : ¬ (i : Int) < (l.length : Int) := by omega
      rw [List.take_of_length_le (by omega)] at ho
      go_wp2_with fail
      go_ret
      exact ⟨_, rfl, ho, hbr⟩
attribute [local irreducible] wpQuiet
set_option maxRecDepth 100000 in
set_option maxHeartbeats 1000000 in
theorem likeX_same (ao bo : Option Addr) (l : List Cx) (ca cb : Nat) (w : World) (ha : XSees w ao l) (hb : XSees w bo l) (hl : l.length ≤ 1000000) :
    Calls Tryz.prog 41 #[.slice ao l.length ca, .slice bo l.length cb] w fun e w' => e = .returned (.bool true) ∧ Below w.heap.size w w' := by
  have hlz : (l.length : Int) ≤ 1000000 := by omega
  go_enter Tryz.func41, Tryz.ntmps41
  go_wp2_with fail
  go_loopw [13] (fun s13 wr => ∃ i : Nat, i ≤ l.length ∧ s13 = .int .i64 i ∧ Below w.heap.size w wr) (fun s13 _ => l.length - (intOf s13).toNat)
  case atStart => exact ⟨0, by omega, rfl, Below.refl _ _⟩
  case round =>
    obtain ⟨i, hi, rfl, hbr⟩ := hrel
    rcases Nat.lt_or_ge i l.length with hlt | hge
    · have hc : l[i]? = some l[i] := List.getElem?_eq_getElem hlt
      obtain ⟨b, off, rfl, tx⟩ := (ha.below hbr (Nat.le_refl _)) i _ hc
      obtain ⟨b', off', rfl, ty⟩ := (hb.below hbr (Nat.le_refl _)) i _ hc
      generalize l[i] = x at *
      obtain ⟨⟨xa, xp, xr, xc⟩, ⟨xt, xd, xl, xk, xn, xs⟩⟩ := x
      have qa0 : ∀ z : Cl wr.heap.size wr, z.u.cell? ⟨b, off + i * 10, none⟩ = some (.string xa) := fun z => (tx.below z.h tx.lt).c0
      have qa1 : ∀ z : Cl wr.heap.size wr, z.u.cell? ⟨b, off + i * 10 + 1, none⟩ = some (.string xp) := fun z => (tx.below z.h tx.lt).c1
      have qa2 : ∀ z : Cl wr.heap.size wr, z.u.cell? ⟨b, off + i * 10 + 2, none⟩ = some (.int .i64 xr) := fun z => (tx.below z.h tx.lt).c2
      have qa3 : ∀ z : Cl wr.heap.size wr, z.u.cell? ⟨b, off + i * 10 + 3, none⟩ = some (.string xc) := fun z => (tx.below z.h tx.lt).c3
      have qa4 : ∀ z : Cl wr.heap.size wr, z.u.cell? ⟨b, off + i * 10 + 4, none⟩ = some (.int .i64 xt) := fun z => (tx.below z.h tx.lt).c4
      have qa5 : ∀ z : Cl wr.heap.size wr, z.u.cell? ⟨b, off + i * 10 + 5, none⟩ = some (.bool xd) := fun z => (tx.below z.h tx.lt).c5
      have qa6 : ∀ z : Cl wr.heap.size wr, z.u.cell? ⟨b, off + i * 10 + 6, none⟩ = some (.int .i64 xl) := fun z => (tx.below z.h tx.lt).c6
      have qa7 : ∀ z : Cl wr.heap.size wr, z.u.cell? ⟨b, off + i * 10 + 7, none⟩ = some (.int .i64 xk) := fun z => (tx.below z.h tx.lt).c7
      have qa8 : ∀ z : Cl wr.heap.size wr, z.u.cell? ⟨b, off + i * 10 + 8, none⟩ = some (.int .i64 xn) := fun z => (tx.below z.h tx.lt).c8
      have qa9 : ∀ z : Cl wr.heap.size wr, z.u.cell? ⟨b, off + i * 10 + 9, none⟩ = some (.string xs) := fun z => (tx.below z.h tx.lt).c9
      have qb0 : ∀ z : Cl wr.heap.size wr, z.u.cell? ⟨b', off' + i * 10, none⟩ = some (.string xa) := fun z => (ty.below z.h ty.lt).c0
      have qb1 : ∀ z : Cl wr.heap.size wr, z.u.cell? ⟨b', off' + i * 10 + 1, none⟩ = some (.string xp) := fun z => (ty.below z.h ty.lt).c1
      have qb2 : ∀ z : Cl wr.heap.size wr, z.u.cell? ⟨b', off' + i * 10 + 2, none⟩ = some (.int .i64 xr) := fun z => (ty.below z.h ty.lt).c2
      have qb3 : ∀ z : Cl wr.heap.size wr, z.u.cell? ⟨b', off' + i * 10 + 3, none⟩ = some (.string xc) := fun z => (ty.below z.h ty.lt).c3
      have qb4 : ∀ z : Cl wr.heap.size wr, z.u.cell? ⟨b', off' + i * 10 + 4, none⟩ = some (.int .i64 xt) := fun z => (ty.below z.h ty.lt).c4
      have qb5 : ∀ z : Cl wr.heap.size wr, z.u.cell? ⟨b', off' + i * 10 + 5, none⟩ = some (.bool xd) := fun z => (ty.below z.h ty.lt).c5
      have qb6 : ∀ z : Cl wr.heap.size wr, z.u.cell? ⟨b', off' + i * 10 + 6, none⟩ = some (.int .i64 xl) := fun z => (ty.below z.h ty.lt).c6
      have qb7 : ∀ z : Cl wr.heap.size wr, z.u.cell? ⟨b', off' + i * 10 + 7, none⟩ = some (.int .i64 xk) := fun z => (ty.below z.h ty.lt).c7
      have qb8 : ∀ z : Cl wr.heap.size wr, z.u.cell? ⟨b', off' + i * 10 + 8, none⟩ = some (.int .i64 xn) := fun z => (ty.below z.h ty.lt).c8
      have qb9 : ∀ z : Cl wr.heap.size wr, z.u.cell? ⟨b', off' + i * 10 + 9, none⟩ = some (.string xs) := fun z => (ty.below z.h ty.lt).c9
      have HE : Hid (∀ w', Below wr.heap.size wr w' → Below w.heap.size w w') := fun w' h => hbr.trans (h.mono hbr.size)
      have hltz : (i : Int) < (l.length : Int) := by omega
      clear ha hb hc tx ty hbr
      haveI := Cl.inh wr.heap.size wr
      go_wp2_with fail
      refine wp_region_cl wr.heap.size (by kernel_rfl) (by kernel_rfl) ?_
      repeat quiet_step (fail)
      refine wpQuiet_nil ?_
      rintro w0 ⟨z, rfl⟩
      have hz := HE.out _ z.h
      go_wp2_with fail
      go_roundw
      case rel => exact ⟨i + 1, by omega, by go_num, hz⟩
      case measure => (simp [intOf]; try omega)
    · have hgez : ¬ (i : Int) < (l.length : Int) := by omega
      clear ha hb
      go_wp2_with fail
      go_ret
      exact ⟨rfl, hbr⟩
end Go.Proofs.YtlamncldbnagmaaGreatDoor
namespace Go.Proofs.YtlamncldbnagmaaGreatDoor
open Go.RowKit

theorem owns_capW {w : World} {base n size : Nat} {e : TypeId} {a : Option Addr} {c : Nat} {xs : List Value} (h : w.ownsRow base e size (.slice a n c) n xs) : n ≤ c := by
  rcases h.2 with ⟨e, h0⟩ | ⟨g, cap', cur, e, _, _, hn, _⟩
  · omega
  · cases e; exact hn
set_option maxRecDepth 100000 in
set_option maxHeartbeats 1000000 in
theorem firstW_any (ao : Option Addr) (b : List UInt8) (cap : Nat) (w : World) (ue : TypeId) (pv : Value) (hs : Sees w ao b) (hl : b.length ≤ 1000000000) (hcap : b.length ≤ cap) (hcm : cap ≤ 9223372036854775807) (ht : Tab w) (he : Err w ue pv) :
    Calls Tryz.prog 73 #[.slice ao b.length cap] w fun e w' => ∃ v, e = .returned (.tuple #[v, .int .i64 ((fstW b).2 : Int)]) ∧ w'.ownsRow w.heap.size 67 10 v (fstW b).1.length ((fstW b).1.flatMap xs10) ∧ Below w.heap.size w w' := by
  have CU : Hid (Calls Tryz.prog 109 #[.slice ao b.length cap] w fun e w' => ∃ v', e = .returned (.tuple #[v', .int .i64 (unfN b), .int .i64 (unfE b)]) ∧ w'.ownsRow w.heap.size 5 1 v' (unfB b).length (B8 (unfB b)) ∧ Below w.heap.size w w') := unframe_any ao b cap w hs (by omega) hcap hcm ht
  by_cases hE : unfE b = 0
  · have hub : (unfB b).length ≤ 1000000000 := by rcases unfB_le b with h | h <;> omega
    have CR : Hid (∀ (u : World) (a1 : Option Addr) (c1 : Nat), Below w.heap.size w u → Sees u a1 (unfB b) → (unfB b).length ≤ c1 → Calls Tryz.prog 110 #[.slice a1 (unfB b).length c1] u fun e w' => ∃ v, e = .returned (.tuple #[v, .int .i64 (redE (unfB b))]) ∧ w'.ownsRow u.heap.size 67 10 v (redC (unfB b)).length (C10 (redC (unfB b))) ∧ Below u.heap.size u w') := fun u a1 c1 hu h1 h2 => readCells_any a1 (unfB b) c1 u ue pv h1 h2 hub (he.below hu (Nat.le_refl _))
    by_cases hR : redE (unfB b) = 0
    · obtain ⟨X, hX⟩ : ∃ X, X = (redC (unfB b)).map ofC := ⟨_, rfl⟩
      have hXl : (redC (unfB b)).length = X.length := by rw [hX, List.length_map]
      have hXc : C10 (redC (unfB b)) = X.flatMap xs10 := by rw [hX]; exact C10_ofC _
      have hXf : 7 * X.length ≤ (unfB b).length ∧ ∀ c ∈ X, ReadX (unfB b).length c := by
        unfold redE at hR
        split at hR
        · rename_i cs hcs
          have hr : redC (unfB b) = cs := by unfold redC; rw [hcs]; rfl
          have := cellsN_facts hcs
          rw [hX, hr]
          refine ⟨by rw [List.length_map]; exact this.1, fun c hc => ?_⟩
          obtain ⟨x, hx, rfl⟩ := List.mem_map.1 hc
          exact this.2 x hx
        · exact absurd hR (by decide)
      have CG : Hid (∀ (u : World) (a2 : Option Addr) (c2 : Nat), XSees u a2 X → Calls Tryz.prog 30 #[.slice a2 X.length c2] u fun e w' => e = .returned (.bool (recB X)) ∧ Below u.heap.size u w') := fun u a2 c2 h => recordable_any a2 X c2 u h (by omega) fun c hc => by
        have := hXf.2 c hc
        have hm : (1000000000 : Nat) ≤ maxLen := by decide
        exact ⟨Nat.le_trans this.t (by omega), Nat.le_trans this.p (by omega), Nat.le_trans this.c (by omega), Nat.le_trans this.s (by omega)⟩
      cases hB : recB X with
      | true =>
        have hF : fstW b = (X, unfN b) := by rw [fstW_yes ⟨hE, hR, by rw [← hX]; exact hB⟩, hX]
        rw [hF]
        rw [hB] at CG
        rw [hE] at CU
        rw [hR, hXl, hXc] at CR
        clear hF hB hXf hXl hXc hX hR hE hs ht he
        generalize unfB b = U at *
        generalize unfN b = N at *
        go_enter Tryz.func73, Tryz.ntmps73
        go_wp2_with fail
        go_fit CU.out
        rintro e w1 ⟨v1, rfl, ho1, hB1⟩
        obtain ⟨a1, c1, rfl, hs1, hk1, -⟩ := owns_sees ho1
        have C1 : Hid (Calls Tryz.prog 110 #[.slice a1 U.length c1] w1 fun e w' => ∃ v, e = .returned (.tuple #[v, .int .i64 0]) ∧ w'.ownsRow w1.heap.size 67 10 v X.length (X.flatMap xs10) ∧ Below w1.heap.size w1 w') := CR.out w1 a1 c1 hB1 hs1 (owns_capW ho1)
        clear CR CU ho1 hs1 hk1
        go_wp2_with fail
        go_fit C1.out
        rintro e w2 ⟨v2, rfl, ho2, hB2⟩
        obtain ⟨a2, c2, rfl, hs2, -⟩ := owns_xsees ho2
        have C2 : Hid (Calls Tryz.prog 30 #[.slice a2 X.length c2] w2 fun e w' => e = .returned (.bool true) ∧ Below w2.heap.size w2 w') := CG.out w2 a2 c2 hs2
        clear CG C1 hs2
        go_wp2_with fail
        go_fit C2.out
        rintro e w3 ⟨rfl, hB3⟩
        have HF : Hid (w3.ownsRow w.heap.size 67 10 (.slice a2 X.length c2) X.length (X.flatMap xs10) ∧ Below w.heap.size w w3) := by
          have h12 := hB1.trans (hB2.mono hB1.size)
          exact ⟨owMono (owBelow ho2 hB3) hB1.size, h12.trans (hB3.mono h12.size)⟩
        clear C2 hB1 hB2 hB3 ho2
        go_wp2_with fail
        go_ret2
        exact ⟨_, rfl, HF.out.1, HF.out.2⟩
      | false =>
        have hF : fstW b = ([], 0) := fstW_no fun hc => by rw [← hX] at hc; rw [hB] at hc; exact absurd hc.2.2 (by decide)
        rw [hF]
        rw [hB] at CG
        rw [hE] at CU
        rw [hR, hXl, hXc] at CR
        clear hF hB hXf hXl hXc hX hR hE hs ht he
        generalize unfB b = U at *
        generalize unfN b = N at *
        go_enter Tryz.func73, Tryz.ntmps73
        go_wp2_with fail
        go_fit CU.out
        rintro e w1 ⟨v1, rfl, ho1, hB1⟩
        obtain ⟨a1, c1, rfl, hs1, hk1, -⟩ := owns_sees ho1
        have C1 : Hid (Calls Tryz.prog 110 #[.slice a1 U.length c1] w1 fun e w' => ∃ v, e = .returned (.tuple #[v, .int .i64 0]) ∧ w'.ownsRow w1.heap.size 67 10 v X.length (X.flatMap xs10) ∧ Below w1.heap.size w1 w') := CR.out w1 a1 c1 hB1 hs1 (owns_capW ho1)
        clear CR CU ho1 hs1 hk1
        go_wp2_with fail
        go_fit C1.out
        rintro e w2 ⟨v2, rfl, ho2, hB2⟩
        obtain ⟨a2, c2, rfl, hs2, -⟩ := owns_xsees ho2
        have C2 : Hid (Calls Tryz.prog 30 #[.slice a2 X.length c2] w2 fun e w' => e = .returned (.bool false) ∧ Below w2.heap.size w2 w') := CG.out w2 a2 c2 hs2
        clear CG C1 hs2
        go_wp2_with fail
        go_fit C2.out
        rintro e w3 ⟨rfl, hB3⟩
        have HF : Hid (Below w.heap.size w w3) := by
          have h12 := hB1.trans (hB2.mono hB1.size)
          exact h12.trans (hB3.mono h12.size)
        clear C2 hB1 hB2 hB3 ho2
        go_wp2_with fail
        go_ret2
        exact ⟨_, rfl, World.ownsRow_nil _ _ _ _, HF.out⟩
    · have hF : fstW b = ([], 0) := fstW_no fun hc => hR hc.2.1
      rw [hF]
      have hR8 : redE (unfB b) = 8 := by
        unfold redE at hR ⊢
        split
        · rename_i cs hcs; rw [hcs] at hR; exact absurd rfl hR
        · rfl
      rw [hR8] at CR
      rw [hE] at CU
      clear hF hR hR8 hE hs ht he
      generalize unfB b = U at *
      generalize unfN b = N at *
      go_enter Tryz.func73, Tryz.ntmps73
      go_wp2_with fail
      go_fit CU.out
      rintro e w1 ⟨v1, rfl, ho1, hB1⟩
      obtain ⟨a1, c1, rfl, hs1, hk1, -⟩ := owns_sees ho1
      have C1 : Hid (Calls Tryz.prog 110 #[.slice a1 U.length c1] w1 fun e w' => ∃ v, e = .returned (.tuple #[v, .int .i64 8]) ∧ Below w1.heap.size w1 w') := (CR.out w1 a1 c1 hB1 hs1 (owns_capW ho1)).mono fun e w' ⟨v, h1, _, h3⟩ => ⟨v, h1, h3⟩
      clear CR CU ho1 hs1 hk1
      go_wp2_with fail
      go_fit C1.out
      rintro e w2 ⟨v2, rfl, hB2⟩
      have HF : Hid (Below w.heap.size w w2) := hB1.trans (hB2.mono hB1.size)
      clear C1 hB1 hB2
      go_wp2_with fail
      go_ret2
      exact ⟨_, rfl, World.ownsRow_nil _ _ _ _, HF.out⟩
  · have hF : fstW b = ([], 0) := fstW_no fun hc => hE hc.1
    rw [hF]
    have hEz : ¬ (unfE b : Int) = 0 := by omega
    clear hF hE hs ht he
    generalize unfE b = E at *
    generalize unfB b = U at *
    generalize unfN b = N at *
    go_enter Tryz.func73, Tryz.ntmps73
    go_wp2_with fail
    go_fit CU.out
    rintro e w1 ⟨v1, rfl, ho1, hB1⟩
    clear CU ho1
    go_wp2_with fail
    go_ret2
    exact ⟨_, rfl, World.ownsRow_nil _ _ _ _, hB1⟩
set_option maxRecDepth 100000 in
theorem recordW_bad (ao : Option Addr) (l : List Cx) (cap : Nat) (w : World) (hs : XSees w ao l) (hl : l.length ≤ 140737488355328) (hc : ∀ c ∈ l, CxMax c) (hr : recB l = false) :
    Calls Tryz.prog 8 #[.slice ao l.length cap] w fun e w' => e = .returned (.tuple #[.slice none 0 0, .int .i64 2]) ∧ Below w.heap.size w w' := by
  have CR : Hid (Calls Tryz.prog 30 #[.slice ao l.length cap] w fun e w' => e = .returned (.bool false) ∧ Below w.heap.size w w') := by
    have := recordable_any ao l cap w hs hl hc
    rw [hr] at this; exact this
  clear hs hc hr
  go_enter Tryz.func8, Tryz.ntmps8
  go_wp2_with fail
  go_fit CR.out
  rintro e w1 ⟨rfl, hB1⟩
  go_wp2_with fail
  go_ret2
  exact ⟨rfl, hB1⟩
theorem recordW_good (ao : Option Addr) (l : List Cx) (cap : Nat) (w : World) (hs : XSees w ao l) (hn : ∀ c ∈ l, c.Nums) (hr : recB l = true) (ht : Tab w) :
    Calls Tryz.prog 8 #[.slice ao l.length cap] w fun e w' => ∃ g, e = .returned (.tuple #[.slice (some ⟨g, 0, none⟩) (recL l).length (recL l).length, .int .i64 0]) ∧ w.heap.size ≤ g ∧ Row w' g (recL l) ∧ Below w.heap.size w w' := by
  have h1 := recB_good hr
  have hsm : ∀ c ∈ l, SmallX c := fun c hc => good_small (h1.2 c hc)
  have hw := wtYs_small hsm
  have hm : (1000 : Nat) ≤ maxLen := by decide
  refine record_ok ao l cap w hs h1.1.2 (fun c hc => ?_) (fun c hc => ?_) ?_ (rec_bytes hr) hr ht
  · have := hsm c hc
    have a1 := this.t
    have a2 := this.p
    have a3 := this.c
    have a4 := this.s
    exact ⟨by omega, by omega, by omega, by omega⟩
  · obtain ⟨x, hx, rfl⟩ := List.mem_map.1 hc
    exact (hn x hx).ok
  · rw [wtL_toC, List.length_map]
    omega
end Go.Proofs.YtlamncldbnagmaaGreatDoor
namespace Go.Proofs.YtlamncldbnagmaaGreatDoor
open Go.RowKit

attribute [local go_sem] Oper.pureAt Oper.pureUpon
def Hd.a (h : Hd) : Array Value := #[.slice h.ao (h.r.length + 1) h.cap, .int .i64 h.pl]
def hv2 (h : Hd) : List Value := [.slice h.ao (h.r.length + 1) h.cap, .int .i64 h.pl]
theorem hv2_len (h : Hd) : (hv2 h).length = 2 := rfl
def Hd.In (w : World) (h : Hd) : Prop := XSees w h.ao (h.c :: h.r)
theorem Hd.In.ten {w : World} {h : Hd} (hi : h.In w) : ∃ b o, h.ao = some ⟨b, o, none⟩ ∧ TenX w b o h.c := by
  obtain ⟨b, o, e, t⟩ := hi 0 h.c rfl
  exact ⟨b, o, e, by simpa using t⟩
end Go.Proofs.YtlamncldbnagmaaGreatDoor
namespace Go.Proofs.YtlamncldbnagmaaGreatDoor
open Go.RowKit

def set2 (w : World) (g o : Nat) (x : Hd) : World := (w.setCell ⟨g, o, none⟩ (.slice x.ao (x.r.length + 1) x.cap)).setCell ⟨g, o + 1, none⟩ (.int .i64 x.pl)
/-- The lists lie in blocks that are Ok. -/
def HIn (w : World) (Ok : Nat → Prop) (L : List Hd) : Prop := ∀ x ∈ L, x.In w ∧ (∀ a, x.ao = some a → Ok a.block) ∧ x.r.length + 1 ≤ x.cap
theorem Hd.In.below {w w' : World} {B : Nat} {x : Hd} (h : x.In w) (hl : ∀ a, x.ao = some a → a.block < B) (hb : Below B w w') : x.In w' := fun i c hc => by
  obtain ⟨b, o, e, t⟩ := h i c hc
  exact ⟨b, o, e, t.below hb (hl _ e)⟩
theorem HIn.below {w w' : World} {B : Nat} {Ok : Nat → Prop} {L : List Hd} (h : HIn w Ok L) (hOk : ∀ k, Ok k → k < B) (hb : Below B w w') : HIn w' Ok L := fun x hx => ⟨(h x hx).1.below (fun a e => hOk _ ((h x hx).2.1 a e)) hb, (h x hx).2⟩
theorem HIn.perm {w : World} {Ok : Nat → Prop} {L M : List Hd} (h : HIn w Ok L) (hp : M.Perm L) : HIn w Ok M := fun x hx => h x (hp.subset hx)
theorem Zoned.below {a z B : Nat} {w w' : World} (h : Zoned a z w w') (hB : B ≤ a) (hw : B ≤ w.heap.size) : Below B w w' := ⟨h.os, h.tape, h.output, h.size, fun k hk => h.block k (by omega) (.inl (by omega))⟩
/-- The least of an entry and those below it, as far as they were looked at. -/
structure Fst (M : List Hd) (p f b : Nat) : Prop where
  bs : b = 2 * p + 1 ∨ b = 2 * p + 2 ∨ b = 2 * p + 3
  fs : f = p ∨ ((f = 2 * p + 1 ∨ f = 2 * p + 2) ∧ f < M.length)
  mn : ∀ c x y, (c = 2 * p + 1 ∨ c = 2 * p + 2) → c < b → M[c]? = some x → M[f]? = some y → hc y x ≤ 0
  up : ∀ x y, M[p]? = some x → M[f]? = some y → hc y x ≤ 0
theorem Fst.start (M : List Hd) (p : Nat) : Fst M p p (2 * p + 1) := ⟨.inl rfl, .inl rfl, fun c x y h1 h2 => by omega, fun x y hx hy => by rw [hx] at hy; cases hy; exact Int.le_of_eq (pc_self _)⟩
theorem Fst.keep {M : List Hd} {p f b : Nat} {x y : Hd} (h : Fst M p f b) (hb : b ≤ 2 * p + 2) (hx : M[b]? = some x) (hy : M[f]? = some y) (hn : ¬ hc x y < 0) : Fst M p f (b + 1) := by
  refine ⟨by have := h.bs; omega, h.fs, fun c u v hc hcb hu hv => ?_, h.up⟩
  by_cases e : c = b
  · subst e; rw [hx] at hu; cases hu; rw [hy] at hv; cases hv
    have := hc_n y x; omega
  · exact h.mn c u v hc (by omega) hu hv
theorem Fst.take {M : List Hd} {p f b : Nat} {x y : Hd} (h : Fst M p f b) (hb : b ≤ 2 * p + 2) (hx : M[b]? = some x) (hy : M[f]? = some y) (hn : hc x y < 0) : Fst M p b (b + 1) := by
  have hbl := (List.getElem?_eq_some_iff.1 hx).1
  have hbs := h.bs
  refine ⟨by omega, .inr ⟨by omega, hbl⟩, fun c u v hc hcb hu hv => ?_, fun u v hu hv => ?_⟩
  · rw [hx] at hv; cases hv
    by_cases e : c = b
    · subst e; rw [hx] at hu; cases hu; exact Int.le_of_eq (pc_self _)
    · exact hc_t (Int.le_of_lt hn) (h.mn c u y hc (by omega) hu hy)
  · rw [hx] at hv; cases hv
    exact hc_t (Int.le_of_lt hn) (h.up u y hu hy)
theorem Fst.all {M : List Hd} {p f b : Nat} {y : Hd} (h : Fst M p f b) (hb : 2 * p + 2 < b ∨ M.length ≤ b) (hy : M[f]? = some y) : ∀ c z, (c = 2 * p + 1 ∨ c = 2 * p + 2) → M[c]? = some z → hc y z ≤ 0 := fun c z hc hz => by
  have := (List.getElem?_eq_some_iff.1 hz).1
  exact h.mn c z y hc (by omega) hz hy
end Go.Proofs.YtlamncldbnagmaaGreatDoor
namespace Go.Proofs.YtlamncldbnagmaaGreatDoor
open Go.RowKit

theorem hfrom_set {a b : Hd} {T : List Hd} (h : HFrom (a :: T) 0) : HFrom (b :: T) 1 := fun j hj c x y hc hx hy => by
  obtain ⟨j, rfl⟩ : ∃ k, j = k + 1 := ⟨j - 1, by omega⟩
  obtain ⟨c, rfl⟩ : ∃ k, c = k + 1 := ⟨c - 1, by omega⟩
  exact h (j + 1) (Nat.zero_le _) (c + 1) x y hc (by simpa using hx) (by simpa using hy)
theorem hfrom_pop {a z : Hd} {T : List Hd} (h : HFrom (a :: (T ++ [z])) 0) : HFrom (z :: T) 1 := fun j hj c x y hc hx hy => by
  obtain ⟨j, rfl⟩ : ∃ k, j = k + 1 := ⟨j - 1, by omega⟩
  obtain ⟨c, rfl⟩ : ∃ k, c = k + 1 := ⟨c - 1, by omega⟩
  have hx' : T[c]? = some x := by simpa using hx
  have hy' : T[j]? = some y := by simpa using hy
  have h1 := (List.getElem?_eq_some_iff.1 hx').1
  have h2 := (List.getElem?_eq_some_iff.1 hy').1
  exact h (j + 1) (Nat.zero_le _) (c + 1) x y hc (by simp [List.getElem?_append_left h1, hx']) (by simp [List.getElem?_append_left h2, hy'])
theorem Hd.In.tail {w : World} {b o cap k : Nat} {c d : Cx} {r : List Cx} {p p' : Nat} (h : Hd.In w ⟨some ⟨b, o, none⟩, cap, c, d :: r, p⟩) : Hd.In w ⟨some ⟨b, o + 10, none⟩, k, d, r, p'⟩ := fun i x hx => by
  obtain ⟨b', o', e, t⟩ := h (i + 1) x (by simpa using hx)
  injection e with e
  injection e with e1 e2
  subst e1 e2
  refine ⟨b, o + 10, rfl, ?_⟩
  have : o + 10 + i * 10 = o + (i + 1) * 10 := by omega
  rw [this]; exact t
end Go.Proofs.YtlamncldbnagmaaGreatDoor
namespace Go.Proofs.YtlamncldbnagmaaGreatDoor
open Go.RowKit

/-- A list of cells in memory. -/
structure Lvx where
  ao : Option Addr
  cap : Nat
  l : List Cx
def Lvx.s (v : Lvx) : Value := .slice v.ao v.l.length v.cap
def Lvx.At (w : World) (Ok : Nat → Prop) (v : Lvx) : Prop := XSees w v.ao v.l ∧ (∀ a, v.ao = some a → Ok a.block) ∧ v.l.length ≤ v.cap
theorem Lvx.At.below {w w' : World} {B : Nat} {Ok : Nat → Prop} {v : Lvx} (h : v.At w Ok) (hOk : ∀ k, Ok k → k < B) (hb : Below B w w') : v.At w' Ok :=
  ⟨fun i c hc => by obtain ⟨b, o, e, t⟩ := h.1 i c hc; exact ⟨b, o, e, t.below hb (hOk _ (h.2.1 _ e))⟩, h.2⟩
/-- Many of them. -/
def LSees (w : World) (lo : Option Addr) (vs : List Lvx) : Prop := ∀ i v, vs[i]? = some v → ∃ b off, lo = some ⟨b, off, none⟩ ∧ w.cell? ⟨b, off + i, none⟩ = some v.s
theorem LSees.below {w w' : World} {lo : Option Addr} {vs : List Lvx} (h : LSees w lo vs) {B : Nat} (hb : Below B w w') (hB : w.heap.size ≤ B) : LSees w' lo vs := fun i v hv => by
  obtain ⟨b, off, e, hc⟩ := h i v hv
  have := World.block_lt_of_cell? _ _ hc
  exact ⟨b, off, e, (hb.cell (p := ⟨b, off + i, none⟩) (Nat.lt_of_lt_of_le this hB)).trans hc⟩
theorem hv2_one (h : Hd) : ∀ u ∈ hv2 h, u.oneCell' = true := by
  intro u hu
  simp only [hv2, List.mem_cons, List.not_mem_nil, or_false] at hu
  rcases hu with rfl | rfl <;> rfl
theorem prs_snoc (L : List Hd) (h : Hd) : prs (L ++ [h]) = prs L ++ h.all := by unfold prs; simp
end Go.Proofs.YtlamncldbnagmaaGreatDoor
