/-
  CONTRACTS: the document's Norm, Sorted and Digest at cells; Like of the same cells.
-/
import Derived.Test.YtkdeaogmifhnhaaCxRefNorm
import Derived.Test.YtkdeaogmifhnhaaCxSorted
namespace Go.Proofs.Ytkdeaogmifhnhaa
open Go.RowKit

theorem owMono {w : World} {b b' : Nat} {e : TypeId} {size : Nat} {v : Value} {n : Nat} {xs : List Value} (h : w.ownsRow b e size v n xs) (hb : b' ≤ b) : w.ownsRow b' e size v n xs := by
  refine ⟨h.1, ?_⟩
  rcases h.2 with hn | ⟨g, cap, cur, rfl, hg, r⟩
  · exact .inl hn
  · exact .inr ⟨g, cap, cur, rfl, Nat.le_trans hb hg, r⟩
theorem nrm_len (l : List Cx) : (nrm l).length ≤ l.length := by
  refine snoc_ind (P := fun l => (nrm l).length ≤ l.length) (by simp [nrm]) (fun l x h => ?_) l
  rw [nrm_snoc, List.length_append, List.length_singleton]
  have := addC_len (nrm l) x
  omega
set_option maxRecDepth 100000 in
set_option maxHeartbeats 1000000 in
theorem refNorm_any (ao : Option Addr) (l : List Cx) (cap : Nat) (w : World) (hs : XSees w ao l) (hl : l.length ≤ 1000000) :
    Calls Try.prog 20 #[.slice ao l.length cap] w fun e w' => ∃ v, e = .returned v ∧ w'.ownsRow w.heap.size 35 10 v (nrm l).length ((nrm l).flatMap xs10) ∧ Below w.heap.size w w' := by
  have hlz : (l.length : Int) ≤ 1000000 := by omega
  have HS : Hid (XSees w ao l) := hs
  clear hs
  go_enter Try.func20, Try.ntmps20
  go_wp2_with fail
  go_loopw [3, 8] (fun s3 s8 wr => ∃ i : Nat, i ≤ l.length ∧ s8 = .int .i64 i ∧ wr.ownsRow w.heap.size 35 10 s3 (nrm (l.take i)).length ((nrm (l.take i)).flatMap xs10) ∧ Below w.heap.size w wr) (fun _ s8 _ => l.length - (intOf s8).toNat)
  case atStart => exact ⟨0, by omega, rfl, World.ownsRow_nil _ _ _ _, Below.refl _ _⟩
  case round =>
    obtain ⟨i, hi, rfl, ho, hbr⟩ := hrel
    rcases Nat.lt_or_ge i l.length with hlt | hge
    · have hc : l[i]? = some l[i] := List.getElem?_eq_getElem hlt
      obtain ⟨b, off, rfl, t⟩ := (HS.out.below hbr (Nat.le_refl _)) i _ hc
      have hsn : nrm (l.take (i + 1)) = addC (nrm (l.take i)) l[i] := by rw [takeX_succ hc, nrm_snoc]
      generalize l[i] = x at *
      obtain ⟨wv, hwv⟩ : ∃ wv, wv = wr.alloc (.cells x.a 35) := ⟨_, rfl⟩
      have hBr : Below wr.heap.size wr wv := by rw [hwv]; exact (Below.refl _ _).alloc (Nat.le_refl _) _
      have hBv : Below w.heap.size w wv := hbr.trans (hBr.mono hbr.size)
      obtain ⟨ao', cap', hv, hx, -⟩ := owns_xsees (owBelow ho hBr)
      have hnl : (nrm (l.take i)).length ≤ 1000000 := by have := nrm_len (l.take i); rw [List.length_take] at this; omega
      have C : Hid (Calls Try.prog 28 #[.slice ao' (nrm (l.take i)).length cap', x.val] wv fun e w' => ∃ v, e = .returned v ∧ w'.ownsRow wv.heap.size 35 10 v (addC (nrm (l.take i)) x).length ((addC (nrm (l.take i)) x).flatMap xs10) ∧ Below wv.heap.size wv w') := refAdd_any ao' _ cap' x wv hx (nrm_rising _) hnl
      rw [← hsn] at C
      have HBv : Hid (Below w.heap.size w wv) := hBv
      have hltz : (i : Int) < (l.length : Int) := by omega
      have tv := TenX.new wr x 35
      subst hv
      clear hc hsn hBr hBv hx ho hbr
      obtain ⟨⟨xa, xp, xr, xc⟩, ⟨xt, xd, xl, xk, xn, xs⟩⟩ := x
      simp only [Cx.a, Cx.val] at hwv C tv
      obtain ⟨x0, x1, x2, x3, x4, x5, x6, x7, x8, x9⟩ := t
      obtain ⟨z0, z1, z2, z3, z4, z5, z6, z7, z8, z9⟩ := tv
      simp only [Nat.zero_add] at x0 x1 x2 x3 x4 x5 x6 x7 x8 x9 z0 z1 z2 z3 z4 z5 z6 z7 z8 z9
      go_wp2_with fail
      rw [← hwv]
      clear hwv x0 x1 x2 x3 x4 x5 x6 x7 x8 x9 z0 z1 z2 z3 z4 z5 z6 z7 z8 z9
      refine C.out.mono ?_
      rintro e w2 ⟨v2, rfl, ho2, hb2⟩
      have HF : Hid (w2.ownsRow w.heap.size 35 10 v2 (nrm (l.take (i + 1))).length ((nrm (l.take (i + 1))).flatMap xs10) ∧ Below w.heap.size w w2) := ⟨owMono ho2 HBv.out.size, HBv.out.trans (hb2.mono HBv.out.size)⟩
      clear ho2 hb2 C
      go_wp2_with fail
      go_roundw
      case rel => exact ⟨i + 1, by omega, by go_num, HF.out.1, HF.out.2⟩
      case measure => (simp [intOf]; try omega)
    · have hgez : ¬ (i : Int) < (l.length : Int) := by omega
      rw [List.take_of_length_le (by omega)] at ho
      go_wp2_with fail
      go_ret
      exact ⟨_, rfl, ho, hbr⟩
attribute [local irreducible] wpQuiet
set_option maxRecDepth 100000 in
set_option maxHeartbeats 1000000 in
theorem likeX_same (ao bo : Option Addr) (l : List Cx) (ca cb : Nat) (w : World) (ha : XSees w ao l) (hb : XSees w bo l) (hl : l.length ≤ 1000000) :
    Calls Try.prog 10 #[.slice ao l.length ca, .slice bo l.length cb] w fun e w' => e = .returned (.bool true) ∧ Below w.heap.size w w' := by
  have hlz : (l.length : Int) ≤ 1000000 := by omega
  go_enter Try.func10, Try.ntmps10
  go_wp2_with fail
  go_loopw [13] (fun s13 wr => ∃ i : Nat, i ≤ l.length ∧ s13 = .int .i64 i ∧ Below w.heap.size w wr) (fun s13 _ => l.length - (intOf s13).toNat)
  case atStart => exact ⟨0, by omega, rfl, Below.refl _ _⟩
  case round =>
    obtain ⟨i, hi, rfl, hbr⟩ := hrel
    rcases Nat.lt_or_ge i l.length with hlt | hge
    · have hc : l[i]? = some l[i] := List.getElem?_eq_getElem hlt
      obtain ⟨b, off, rfl, tx⟩ := (ha.below hbr (Nat.le_refl _)) i _ hc
      obtain ⟨b', off', rfl, ty⟩ := (hb.below hbr (Nat.le_refl _)) i _ hc
      generalize l[i] = x at *
      obtain ⟨⟨xa, xp, xr, xc⟩, ⟨xt, xd, xl, xk, xn, xs⟩⟩ := x
      have qa0 : ∀ z : Cl wr.heap.size wr, z.u.cell? ⟨b, off + i * 10, none⟩ = some (.string xa) := fun z => (tx.below z.h tx.lt).c0
      have qa1 : ∀ z : Cl wr.heap.size wr, z.u.cell? ⟨b, off + i * 10 + 1, none⟩ = some (.string xp) := fun z => (tx.below z.h tx.lt).c1
      have qa2 : ∀ z : Cl wr.heap.size wr, z.u.cell? ⟨b, off + i * 10 + 2, none⟩ = some (.int .i64 xr) := fun z => (tx.below z.h tx.lt).c2
      have qa3 : ∀ z : Cl wr.heap.size wr, z.u.cell? ⟨b, off + i * 10 + 3, none⟩ = some (.string xc) := fun z => (tx.below z.h tx.lt).c3
      have qa4 : ∀ z : Cl wr.heap.size wr, z.u.cell? ⟨b, off + i * 10 + 4, none⟩ = some (.int .i64 xt) := fun z => (tx.below z.h tx.lt).c4
      have qa5 : ∀ z : Cl wr.heap.size wr, z.u.cell? ⟨b, off + i * 10 + 5, none⟩ = some (.bool xd) := fun z => (tx.below z.h tx.lt).c5
      have qa6 : ∀ z : Cl wr.heap.size wr, z.u.cell? ⟨b, off + i * 10 + 6, none⟩ = some (.int .i64 xl) := fun z => (tx.below z.h tx.lt).c6
      have qa7 : ∀ z : Cl wr.heap.size wr, z.u.cell? ⟨b, off + i * 10 + 7, none⟩ = some (.int .i64 xk) := fun z => (tx.below z.h tx.lt).c7
      have qa8 : ∀ z : Cl wr.heap.size wr, z.u.cell? ⟨b, off + i * 10 + 8, none⟩ = some (.int .i64 xn) := fun z => (tx.below z.h tx.lt).c8
      have qa9 : ∀ z : Cl wr.heap.size wr, z.u.cell? ⟨b, off + i * 10 + 9, none⟩ = some (.string xs) := fun z => (tx.below z.h tx.lt).c9
      have qb0 : ∀ z : Cl wr.heap.size wr, z.u.cell? ⟨b', off' + i * 10, none⟩ = some (.string xa) := fun z => (ty.below z.h ty.lt).c0
      have qb1 : ∀ z : Cl wr.heap.size wr, z.u.cell? ⟨b', off' + i * 10 + 1, none⟩ = some (.string xp) := fun z => (ty.below z.h ty.lt).c1
      have qb2 : ∀ z : Cl wr.heap.size wr, z.u.cell? ⟨b', off' + i * 10 + 2, none⟩ = some (.int .i64 xr) := fun z => (ty.below z.h ty.lt).c2
      have qb3 : ∀ z : Cl wr.heap.size wr, z.u.cell? ⟨b', off' + i * 10 + 3, none⟩ = some (.string xc) := fun z => (ty.below z.h ty.lt).c3
      have qb4 : ∀ z : Cl wr.heap.size wr, z.u.cell? ⟨b', off' + i * 10 + 4, none⟩ = some (.int .i64 xt) := fun z => (ty.below z.h ty.lt).c4
      have qb5 : ∀ z : Cl wr.heap.size wr, z.u.cell? ⟨b', off' + i * 10 + 5, none⟩ = some (.bool xd) := fun z => (ty.below z.h ty.lt).c5
      have qb6 : ∀ z : Cl wr.heap.size wr, z.u.cell? ⟨b', off' + i * 10 + 6, none⟩ = some (.int .i64 xl) := fun z => (ty.below z.h ty.lt).c6
      have qb7 : ∀ z : Cl wr.heap.size wr, z.u.cell? ⟨b', off' + i * 10 + 7, none⟩ = some (.int .i64 xk) := fun z => (ty.below z.h ty.lt).c7
      have qb8 : ∀ z : Cl wr.heap.size wr, z.u.cell? ⟨b', off' + i * 10 + 8, none⟩ = some (.int .i64 xn) := fun z => (ty.below z.h ty.lt).c8
      have qb9 : ∀ z : Cl wr.heap.size wr, z.u.cell? ⟨b', off' + i * 10 + 9, none⟩ = some (.string xs) := fun z => (ty.below z.h ty.lt).c9
      have HE : Hid (∀ w', Below wr.heap.size wr w' → Below w.heap.size w w') := fun w' h => hbr.trans (h.mono hbr.size)
      have hltz : (i : Int) < (l.length : Int) := by omega
      clear ha hb hc tx ty hbr
      haveI := Cl.inh wr.heap.size wr
      go_wp2_with fail
      refine wp_region_cl wr.heap.size (by kernel_rfl) (by kernel_rfl) ?_
      repeat quiet_step (fail)
      refine wpQuiet_nil ?_
      rintro w0 ⟨z, rfl⟩
      have hz := HE.out _ z.h
      go_wp2_with fail
      go_roundw
      case rel => exact ⟨i + 1, by omega, by go_num, hz⟩
      case measure => (simp [intOf]; try omega)
    · have hgez : ¬ (i : Int) < (l.length : Int) := by omega
      clear ha hb
      go_wp2_with fail
      go_ret
      exact ⟨rfl, hbr⟩
end Go.Proofs.Ytkdeaogmifhnhaa
