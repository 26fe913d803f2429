/-
  CONTRACTS: the document's Norm, Sorted and Digest at cells; Like of the same cells.
-/
import Derived.Test.YtlhojbgpmjcjlaaCxRefNorm
import Derived.Test.YtlhojbgpmjcjlaaCxSorted
namespace Go.Proofs.Ytlhojbgpmjcjlaa
open Go.RowKit

theorem owMono {w : World} {b b' : Nat} {e : TypeId} {size : Nat} {v : Value} {n : Nat} {xs : List Value} (h : w.ownsRow b e size v n xs) (hb : b' ≤ b) : w.ownsRow b' e size v n xs := by
  refine ⟨h.1, ?_⟩
  rcases h.2 with hn | ⟨g, cap, cur, rfl, hg, r⟩
  · exact .inl hn
  · exact .inr ⟨g, cap, cur, rfl, Nat.le_trans hb hg, r⟩
theorem nrm_len (l : List Cx) : (nrm l).length ≤ l.length := by
  refine snoc_ind (P := fun l => (nrm l).length ≤ l.length) (by simp [nrm]) (fun l x h => ?_) l
  rw [nrm_snoc, List.length_append, List.length_singleton]
  have := addC_len (nrm l) x
  omega
attribute [local irreducible] wpQuiet
set_option maxRecDepth 100000 in
set_option maxHeartbeats 1000000 in
theorem likeX_same (ao bo : Option Addr) (l : List Cx) (ca cb : Nat) (w : World) (ha : XSees w ao l) (hb : XSees w bo l) (hl : l.length ≤ 1000000) :
    Calls Try.prog 15 #[.slice ao l.length ca, .slice bo l.length cb] w fun e w' => e = .returned (.bool true) ∧ Below w.heap.size w w' := by
  have hlz : (l.length : Int) ≤ 1000000 := by omega
  go_enter Try.func15, Try.ntmps15
  go_wp2_with fail
  go_loopw [13] (fun s13 wr => ∃ i : Nat, i ≤ l.length ∧ s13 = .int .i64 i ∧ Below w.heap.size w wr) (fun s13 _ => l.length - (intOf s13).toNat)
  case atStart => exact ⟨0, by omega, rfl, Below.refl _ _⟩
  case round =>
    obtain ⟨i, hi, rfl, hbr⟩ := hrel
    rcases Nat.lt_or_ge i l.length with hlt | hge
    · have hc : l[i]? = some l[i] := List.getElem?_eq_getElem hlt
      obtain ⟨b, off, rfl, tx⟩ := (ha.below hbr (Nat.le_refl _)) i _ hc
      obtain ⟨b', off', rfl, ty⟩ := (hb.below hbr (Nat.le_refl _)) i _ hc
      generalize l[i] = x at *
      obtain ⟨⟨xa, xp, xr, xc⟩, ⟨xt, xd, xl, xk, xn, xs⟩⟩ := x
      have qa0 : ∀ z : Cl wr.heap.size wr, z.u.cell? ⟨b, off + i * 10, none⟩ = some (.string xa) := fun z => (tx.below z.h tx.lt).c0
      have qa1 : ∀ z : Cl wr.heap.size wr, z.u.cell? ⟨b, off + i * 10 + 1, none⟩ = some (.string xp) := fun z => (tx.below z.h tx.lt).c1
      have qa2 : ∀ z : Cl wr.heap.size wr, z.u.cell? ⟨b, off + i * 10 + 2, none⟩ = some (.int .i64 xr) := fun z => (tx.below z.h tx.lt).c2
      have qa3 : ∀ z : Cl wr.heap.size wr, z.u.cell? ⟨b, off + i * 10 + 3, none⟩ = some (.string xc) := fun z => (tx.below z.h tx.lt).c3
      have qa4 : ∀ z : Cl wr.heap.size wr, z.u.cell? ⟨b, off + i * 10 + 4, none⟩ = some (.int .i64 xt) := fun z => (tx.below z.h tx.lt).c4
      have qa5 : ∀ z : Cl wr.heap.size wr, z.u.cell? ⟨b, off + i * 10 + 5, none⟩ = some (.bool xd) := fun z => (tx.below z.h tx.lt).c5
      have qa6 : ∀ z : Cl wr.heap.size wr, z.u.cell? ⟨b, off + i * 10 + 6, none⟩ = some (.int .i64 xl) := fun z => (tx.below z.h tx.lt).c6
      have qa7 : ∀ z : Cl wr.heap.size wr, z.u.cell? ⟨b, off + i * 10 + 7, none⟩ = some (.int .i64 xk) := fun z => (tx.below z.h tx.lt).c7
      have qa8 : ∀ z : Cl wr.heap.size wr, z.u.cell? ⟨b, off + i * 10 + 8, none⟩ = some (.int .i64 xn) := fun z => (tx.below z.h tx.lt).c8
      have qa9 : ∀ z : Cl wr.heap.size wr, z.u.cell? ⟨b, off + i * 10 + 9, none⟩ = some (.string xs) := fun z => (tx.below z.h tx.lt).c9
      have qb0 : ∀ z : Cl wr.heap.size wr, z.u.cell? ⟨b', off' + i * 10, none⟩ = some (.string xa) := fun z => (ty.below z.h ty.lt).c0
      have qb1 : ∀ z : Cl wr.heap.size wr, z.u.cell? ⟨b', off' + i * 10 + 1, none⟩ = some (.string xp) := fun z => (ty.below z.h ty.lt).c1
      have qb2 : ∀ z : Cl wr.heap.size wr, z.u.cell? ⟨b', off' + i * 10 + 2, none⟩ = some (.int .i64 xr) := fun z => (ty.below z.h ty.lt).c2
      have qb3 : ∀ z : Cl wr.heap.size wr, z.u.cell? ⟨b', off' + i * 10 + 3, none⟩ = some (.string xc) := fun z => (ty.below z.h ty.lt).c3
      have qb4 : ∀ z : Cl wr.heap.size wr, z.u.cell? ⟨b', off' + i * 10 + 4, none⟩ = some (.int .i64 xt) := fun z => (ty.below z.h ty.lt).c4
      have qb5 : ∀ z : Cl wr.heap.size wr, z.u.cell? ⟨b', off' + i * 10 + 5, none⟩ = some (.bool xd) := fun z => (ty.below z.h ty.lt).c5
      have qb6 : ∀ z : Cl wr.heap.size wr, z.u.cell? ⟨b', off' + i * 10 + 6, none⟩ = some (.int .i64 xl) := fun z => (ty.below z.h ty.lt).c6
      have qb7 : ∀ z : Cl wr.heap.size wr, z.u.cell? ⟨b', off' + i * 10 + 7, none⟩ = some (.int .i64 xk) := fun z => (ty.below z.h ty.lt).c7
      have qb8 : ∀ z : Cl wr.heap.size wr, z.u.cell? ⟨b', off' + i * 10 + 8, none⟩ = some (.int .i64 xn) := fun z => (ty.below z.h ty.lt).c8
      have qb9 : ∀ z : Cl wr.heap.size wr, z.u.cell? ⟨b', off' + i * 10 + 9, none⟩ = some (.string xs) := fun z => (ty.below z.h ty.lt).c9
      have HE : Hid (∀ w', Below wr.heap.size wr w' → Below w.heap.size w w') := fun w' h => hbr.trans (h.mono hbr.size)
      have hltz : (i : Int) < (l.length : Int) := by omega
      clear ha hb hc tx ty hbr
      haveI := Cl.inh wr.heap.size wr
      go_wp2_with fail
      refine wp_region_cl wr.heap.size (by kernel_rfl) (by kernel_rfl) ?_
      repeat quiet_step (fail)
      refine wpQuiet_nil ?_
      rintro w0 ⟨z, rfl⟩
      have hz := HE.out _ z.h
      go_wp2_with fail
      go_roundw
      case rel => exact ⟨i + 1, by omega, by go_num, hz⟩
      case measure => (simp [intOf]; try omega)
    · have hgez : ¬ (i : Int) < (l.length : Int) := by omega
      clear ha hb
      go_wp2_with fail
      go_ret
      exact ⟨rfl, hbr⟩
end Go.Proofs.Ytlhojbgpmjcjlaa
