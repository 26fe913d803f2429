/-
  CONTRACT: are two lists the same, cell for cell? (Like)
-/
import Derived.Test.YtdpglmgnbhpneaaMrgMend
namespace Go.Proofs.Ytdpglmgnbhpneaa
open Go.RowKit

attribute [local irreducible] wpQuiet
set_option maxRecDepth 100000 in
set_option maxHeartbeats 1000000 in
theorem likeX_diff (ao bo : Option Addr) (la lb : List Cx) (ca cb : Nat) (w : World) (ha : XSees w ao la) (hb : XSees w bo lb) (hl : la.length ≤ 1000000) (hne : la ≠ lb) :
    Calls Try.prog 14 #[.slice ao la.length ca, .slice bo lb.length cb] w fun e w' => e = .returned (.bool false) ∧ Below w.heap.size w w' := by
  have hlz : (la.length : Int) ≤ 1000000 := by omega
  by_cases hlen : la.length = lb.length
  · rw [← hlen]
    have HL : Hid (la.length = lb.length) := hlen
    clear hlen
    go_enter Try.func14, Try.ntmps14
    go_wp2_with fail
    go_loopw [13] (fun s13 wr => ∃ i : Nat, i ≤ la.length ∧ s13 = .int .i64 i ∧ (∀ j, j < i → la[j]? = lb[j]?) ∧ Below w.heap.size w wr) (fun s13 _ => la.length - (intOf s13).toNat)
    case atStart => exact ⟨0, by omega, rfl, fun j hj => by omega, Below.refl _ _⟩
    case round =>
      obtain ⟨i, hi, rfl, hsm, hbr⟩ := hrel
      rcases Nat.lt_or_ge i la.length with hlt | hge
      · obtain ⟨x, hx⟩ : ∃ x, la[i]? = some x := ⟨_, List.getElem?_eq_getElem hlt⟩
        obtain ⟨y, hy⟩ : ∃ y, lb[i]? = some y := ⟨_, List.getElem?_eq_getElem (by have := HL.out; omega)⟩
        obtain ⟨b, off, rfl, tx⟩ := (ha.below hbr (Nat.le_refl _)) i _ hx
        obtain ⟨b', off', rfl, ty⟩ := (hb.below hbr (Nat.le_refl _)) i _ hy
        have hltz : (i : Int) < (la.length : Int) := by omega
        have HE : Hid (∀ w', Below wr.heap.size wr w' → Below w.heap.size w w') := fun w' h => hbr.trans (h.mono hbr.size)
        by_cases hxy : x = y
        · subst hxy
          have HS : Hid (∀ j, j < i + 1 → la[j]? = lb[j]?) := fun j hj => by
            by_cases e : j = i
            · subst e; rw [hx, hy]
            · exact hsm j (by omega)
          obtain ⟨⟨xa, xp, xr, xc⟩, ⟨xt, xd, xl, xk, xn, xs⟩⟩ := x
          have qa0 : ∀ z : Cl wr.heap.size wr, z.u.cell? ⟨b, off + i * 10, none⟩ = some (.string xa) := fun z => (tx.below z.h tx.lt).c0
          have qa1 : ∀ z : Cl wr.heap.size wr, z.u.cell? ⟨b, off + i * 10 + 1, none⟩ = some (.string xp) := fun z => (tx.below z.h tx.lt).c1
          have qa2 : ∀ z : Cl wr.heap.size wr, z.u.cell? ⟨b, off + i * 10 + 2, none⟩ = some (.int .i64 xr) := fun z => (tx.below z.h tx.lt).c2
          have qa3 : ∀ z : Cl wr.heap.size wr, z.u.cell? ⟨b, off + i * 10 + 3, none⟩ = some (.string xc) := fun z => (tx.below z.h tx.lt).c3
          have qa4 : ∀ z : Cl wr.heap.size wr, z.u.cell? ⟨b, off + i * 10 + 4, none⟩ = some (.int .i64 xt) := fun z => (tx.below z.h tx.lt).c4
          have qa5 : ∀ z : Cl wr.heap.size wr, z.u.cell? ⟨b, off + i * 10 + 5, none⟩ = some (.bool xd) := fun z => (tx.below z.h tx.lt).c5
          have qa6 : ∀ z : Cl wr.heap.size wr, z.u.cell? ⟨b, off + i * 10 + 6, none⟩ = some (.int .i64 xl) := fun z => (tx.below z.h tx.lt).c6
          have qa7 : ∀ z : Cl wr.heap.size wr, z.u.cell? ⟨b, off + i * 10 + 7, none⟩ = some (.int .i64 xk) := fun z => (tx.below z.h tx.lt).c7
          have qa8 : ∀ z : Cl wr.heap.size wr, z.u.cell? ⟨b, off + i * 10 + 8, none⟩ = some (.int .i64 xn) := fun z => (tx.below z.h tx.lt).c8
          have qa9 : ∀ z : Cl wr.heap.size wr, z.u.cell? ⟨b, off + i * 10 + 9, none⟩ = some (.string xs) := fun z => (tx.below z.h tx.lt).c9
          have qb0 : ∀ z : Cl wr.heap.size wr, z.u.cell? ⟨b', off' + i * 10, none⟩ = some (.string xa) := fun z => (ty.below z.h ty.lt).c0
          have qb1 : ∀ z : Cl wr.heap.size wr, z.u.cell? ⟨b', off' + i * 10 + 1, none⟩ = some (.string xp) := fun z => (ty.below z.h ty.lt).c1
          have qb2 : ∀ z : Cl wr.heap.size wr, z.u.cell? ⟨b', off' + i * 10 + 2, none⟩ = some (.int .i64 xr) := fun z => (ty.below z.h ty.lt).c2
          have qb3 : ∀ z : Cl wr.heap.size wr, z.u.cell? ⟨b', off' + i * 10 + 3, none⟩ = some (.string xc) := fun z => (ty.below z.h ty.lt).c3
          have qb4 : ∀ z : Cl wr.heap.size wr, z.u.cell? ⟨b', off' + i * 10 + 4, none⟩ = some (.int .i64 xt) := fun z => (ty.below z.h ty.lt).c4
          have qb5 : ∀ z : Cl wr.heap.size wr, z.u.cell? ⟨b', off' + i * 10 + 5, none⟩ = some (.bool xd) := fun z => (ty.below z.h ty.lt).c5
          have qb6 : ∀ z : Cl wr.heap.size wr, z.u.cell? ⟨b', off' + i * 10 + 6, none⟩ = some (.int .i64 xl) := fun z => (ty.below z.h ty.lt).c6
          have qb7 : ∀ z : Cl wr.heap.size wr, z.u.cell? ⟨b', off' + i * 10 + 7, none⟩ = some (.int .i64 xk) := fun z => (ty.below z.h ty.lt).c7
          have qb8 : ∀ z : Cl wr.heap.size wr, z.u.cell? ⟨b', off' + i * 10 + 8, none⟩ = some (.int .i64 xn) := fun z => (ty.below z.h ty.lt).c8
          have qb9 : ∀ z : Cl wr.heap.size wr, z.u.cell? ⟨b', off' + i * 10 + 9, none⟩ = some (.string xs) := fun z => (ty.below z.h ty.lt).c9
          clear ha hb hx hy tx ty hbr hsm hne HL
          haveI := Cl.inh wr.heap.size wr
          go_wp2_with fail
          refine wp_region_cl wr.heap.size (by kernel_rfl) (by kernel_rfl) ?_
          repeat quiet_step (fail)
          refine wpQuiet_nil ?_
          rintro w0 ⟨z, rfl⟩
          have hz := HE.out _ z.h
          go_wp2_with fail
          go_roundw
          case rel => exact ⟨i + 1, by omega, by go_num, HS.out, hz⟩
          case measure => (simp [intOf]; try omega)
        · have HN : Hid (x ≠ y) := hxy
          obtain ⟨⟨xa, xp, xr, xc⟩, ⟨xt, xd, xl, xk, xn, xs⟩⟩ := x
          obtain ⟨⟨ya, yp, yr, yc⟩, ⟨yt, yd, yl, yk, yn, ys⟩⟩ := y
          have qa0 : ∀ z : Cl wr.heap.size wr, z.u.cell? ⟨b, off + i * 10, none⟩ = some (.string xa) := fun z => (tx.below z.h tx.lt).c0
          have qa1 : ∀ z : Cl wr.heap.size wr, z.u.cell? ⟨b, off + i * 10 + 1, none⟩ = some (.string xp) := fun z => (tx.below z.h tx.lt).c1
          have qa2 : ∀ z : Cl wr.heap.size wr, z.u.cell? ⟨b, off + i * 10 + 2, none⟩ = some (.int .i64 xr) := fun z => (tx.below z.h tx.lt).c2
          have qa3 : ∀ z : Cl wr.heap.size wr, z.u.cell? ⟨b, off + i * 10 + 3, none⟩ = some (.string xc) := fun z => (tx.below z.h tx.lt).c3
          have qa4 : ∀ z : Cl wr.heap.size wr, z.u.cell? ⟨b, off + i * 10 + 4, none⟩ = some (.int .i64 xt) := fun z => (tx.below z.h tx.lt).c4
          have qa5 : ∀ z : Cl wr.heap.size wr, z.u.cell? ⟨b, off + i * 10 + 5, none⟩ = some (.bool xd) := fun z => (tx.below z.h tx.lt).c5
          have qa6 : ∀ z : Cl wr.heap.size wr, z.u.cell? ⟨b, off + i * 10 + 6, none⟩ = some (.int .i64 xl) := fun z => (tx.below z.h tx.lt).c6
          have qa7 : ∀ z : Cl wr.heap.size wr, z.u.cell? ⟨b, off + i * 10 + 7, none⟩ = some (.int .i64 xk) := fun z => (tx.below z.h tx.lt).c7
          have qa8 : ∀ z : Cl wr.heap.size wr, z.u.cell? ⟨b, off + i * 10 + 8, none⟩ = some (.int .i64 xn) := fun z => (tx.below z.h tx.lt).c8
          have qa9 : ∀ z : Cl wr.heap.size wr, z.u.cell? ⟨b, off + i * 10 + 9, none⟩ = some (.string xs) := fun z => (tx.below z.h tx.lt).c9
          have qb0 : ∀ z : Cl wr.heap.size wr, z.u.cell? ⟨b', off' + i * 10, none⟩ = some (.string ya) := fun z => (ty.below z.h ty.lt).c0
          have qb1 : ∀ z : Cl wr.heap.size wr, z.u.cell? ⟨b', off' + i * 10 + 1, none⟩ = some (.string yp) := fun z => (ty.below z.h ty.lt).c1
          have qb2 : ∀ z : Cl wr.heap.size wr, z.u.cell? ⟨b', off' + i * 10 + 2, none⟩ = some (.int .i64 yr) := fun z => (ty.below z.h ty.lt).c2
          have qb3 : ∀ z : Cl wr.heap.size wr, z.u.cell? ⟨b', off' + i * 10 + 3, none⟩ = some (.string yc) := fun z => (ty.below z.h ty.lt).c3
          have qb4 : ∀ z : Cl wr.heap.size wr, z.u.cell? ⟨b', off' + i * 10 + 4, none⟩ = some (.int .i64 yt) := fun z => (ty.below z.h ty.lt).c4
          have qb5 : ∀ z : Cl wr.heap.size wr, z.u.cell? ⟨b', off' + i * 10 + 5, none⟩ = some (.bool yd) := fun z => (ty.below z.h ty.lt).c5
          have qb6 : ∀ z : Cl wr.heap.size wr, z.u.cell? ⟨b', off' + i * 10 + 6, none⟩ = some (.int .i64 yl) := fun z => (ty.below z.h ty.lt).c6
          have qb7 : ∀ z : Cl wr.heap.size wr, z.u.cell? ⟨b', off' + i * 10 + 7, none⟩ = some (.int .i64 yk) := fun z => (ty.below z.h ty.lt).c7
          have qb8 : ∀ z : Cl wr.heap.size wr, z.u.cell? ⟨b', off' + i * 10 + 8, none⟩ = some (.int .i64 yn) := fun z => (ty.below z.h ty.lt).c8
          have qb9 : ∀ z : Cl wr.heap.size wr, z.u.cell? ⟨b', off' + i * 10 + 9, none⟩ = some (.string ys) := fun z => (ty.below z.h ty.lt).c9
          clear ha hb hx hy tx ty hbr hsm hne HL hxy
          haveI := Cl.inh wr.heap.size wr
          go_wp2_with fail
          refine wp_region_cl wr.heap.size (by kernel_rfl) (by kernel_rfl) ?_
          iterate 8 quiet_step (fail)
          refine wpQuiet_step (fun K hK => ?_)
          go_simp
          refine ⟨.bool true, fun q => ?_, hK _ ?_⟩
          · clear hK K
            by_cases e0 : xa.toList = ya.toList
            case neg => simp [e0]
            rw [if_pos e0]
            by_cases e1 : xp.toList = yp.toList
            case neg => simp [e1]
            rw [if_pos e1]
            by_cases e2 : xr = yr
            case neg => simp [e2]
            rw [if_pos e2]
            by_cases e3 : xc.toList = yc.toList
            case neg => simp [e3]
            rw [if_pos e3]
            by_cases e4 : xt = yt
            case neg => simp [e4]
            rw [if_pos e4]
            by_cases e5 : xd = yd
            case neg => simp [e5]
            rw [if_pos e5]
            by_cases e6 : xl = yl
            case neg => simp [e6]
            rw [if_pos e6]
            by_cases e7 : xk = yk
            case neg => simp [e7]
            rw [if_pos e7]
            by_cases e8 : xn = yn
            case neg => simp [e8]
            rw [if_pos e8]
            by_cases e9 : xs.toList = ys.toList
            case neg => simp [e9]
            rw [if_pos e9]
            rw [ba_list, ba_list, nb_inj] at e0 e1 e3 e9
            exact absurd (by rw [e0, e1, e2, e3, e4, e5, e6, e7, e8, e9]) HN.out
          clear hK K
          refine wpQuiet_nil ?_
          rintro w0 ⟨z, rfl⟩
          have hz := HE.out _ z.h
          go_wp2_with fail
          go_ret
          exact ⟨rfl, hz⟩
      · exfalso
        refine hne (List.ext_getElem? fun j => ?_)
        rcases Nat.lt_or_ge j la.length with h | h
        · exact hsm j (by omega)
        · rw [List.getElem?_eq_none h, List.getElem?_eq_none (by have := HL.out; omega)]
  · have hz : ¬ (la.length : Int) = (lb.length : Int) := by omega
    clear ha hb hne
    go_enter Try.func14, Try.ntmps14
    go_wp2_with fail
    go_ret
    exact ⟨rfl, Below.refl _ _⟩
theorem likeX_any (ao bo : Option Addr) (la lb : List Cx) (ca cb : Nat) (w : World) (ha : XSees w ao la) (hb : XSees w bo lb) (hl : la.length ≤ 1000000) :
    Calls Try.prog 14 #[.slice ao la.length ca, .slice bo lb.length cb] w fun e w' => (∃ b, e = .returned (.bool b) ∧ (b = true ↔ la = lb)) ∧ Below w.heap.size w w' := by
  by_cases h : la = lb
  · subst h
    exact (likeX_same ao bo la ca cb w ha hb hl).mono fun e w' ⟨h1, h2⟩ => ⟨⟨true, h1, by simp⟩, h2⟩
  · exact (likeX_diff ao bo la lb ca cb w ha hb hl h).mono fun e w' ⟨h1, h2⟩ => ⟨⟨false, h1, by simp [h]⟩, h2⟩
end Go.Proofs.Ytdpglmgnbhpneaa
