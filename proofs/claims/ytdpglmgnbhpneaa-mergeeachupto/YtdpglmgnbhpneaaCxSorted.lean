/-
  CONTRACTS: how two cells stand by their keys; are cells sorted?
-/
import Derived.Test.YtdpglmgnbhpneaaCxRow
namespace Go.Proofs.Ytdpglmgnbhpneaa
open Go.RowKit

set_option maxHeartbeats 800000 in
theorem cmpKeys_any (a b : Cx) (w : World) : Calls Try.prog 39 #[a.val, b.val] w fun x w' => x = .returned (.int .i64 (kc a.k.ky b.k.ky)) ∧ Below w.heap.size w w' := by
  have C : Hid (∀ w : World, Calls Try.prog 31 #[a.k.v, b.k.v] w fun x w' => x = .returned (.int .i64 (kc a.k.ky b.k.ky)) ∧ Below w.heap.size w w') := fun w => cmp_any a.k b.k w
  have hB : Hid (∀ o1 o2 : Obj, Below w.heap.size w ((w.alloc o1).alloc o2)) := fun o1 o2 => ((Below.refl _ _).alloc (Nat.le_refl _) _).alloc (by simp) _
  generalize kc a.k.ky b.k.ky = R at *
  obtain ⟨⟨a1, p1, r1, c1⟩, ⟨t1, d1, l1, k1, n1, s1⟩⟩ := a
  obtain ⟨⟨a2, p2, r2, c2⟩, ⟨t2, d2, l2, k2, n2, s2⟩⟩ := b
  simp only [Cx.val, Cx.a, Kb.v] at *
  go_enter Try.func39, Try.ntmps39
  go_wp2_with fail
  refine (C.out _).mono ?_
  rintro x w1 ⟨rfl, hb1⟩
  go_wp2_with fail
  go_ret
  exact ⟨rfl, (hB.out _ _).trans (hb1.mono (hB.out _ _).size)⟩

/-- The keys rise up to the place i. -/
def Rise (l : List Cx) (i : Nat) : Prop := ∀ j x y, j + 1 < i → l[j]? = some x → l[j + 1]? = some y → kc x.k.ky y.k.ky < 0
noncomputable def srtB (l : List Cx) : Bool := @decide (Rise l l.length) (Classical.propDecidable _)
theorem srtB_true {l : List Cx} (h : Rise l l.length) : srtB l = true := @decide_eq_true _ (Classical.propDecidable _) h
theorem srtB_false {l : List Cx} (h : ¬ Rise l l.length) : srtB l = false := @decide_eq_false _ (Classical.propDecidable _) h
theorem Rise.step {l : List Cx} {i : Nat} {x y : Cx} (h : Rise l i) (hx : l[i - 1]? = some x) (hy : l[i]? = some y) (hc : kc x.k.ky y.k.ky < 0) : Rise l (i + 1) := by
  intro j u v hj hu hv
  rcases Nat.lt_or_ge (j + 1) i with g | g
  · exact h j u v g hu hv
  · have e : j + 1 = i := by omega
    have e2 : j = i - 1 := by omega
    rw [e, hy] at hv
    rw [e2, hx] at hu
    obtain rfl := Option.some.inj hu
    obtain rfl := Option.some.inj hv
    exact hc
attribute [local irreducible] wpQuiet
set_option maxRecDepth 100000 in
set_option maxHeartbeats 2000000 in
theorem sorted_any (ao : Option Addr) (l : List Cx) (cap : Nat) (w : World) (hs : XSees w ao l) (hl : l.length ≤ 1000000) :
    Calls Try.prog 24 #[.slice ao l.length cap] w fun e w' => e = .returned (.bool (srtB l)) ∧ Below w.heap.size w w' := by
  have hlz : (l.length : Int) ≤ 1000000 := by omega
  go_enter Try.func24, Try.ntmps24
  go_wp2_with fail
  go_loopw [3] (fun s3 wr => ∃ i : Nat, 1 ≤ i ∧ i ≤ l.length + 1 ∧ s3 = .int .i64 i ∧ Rise l i ∧ Below w.heap.size w wr) (fun s3 _ => l.length + 1 - (intOf s3).toNat)
  case atStart => exact ⟨1, by omega, by omega, rfl, fun j x y h => by omega, Below.refl _ _⟩
  case round =>
    obtain ⟨i, h1, hi, rfl, hr, hbr⟩ := hrel
    rcases Nat.lt_or_ge i l.length with hlt | hge
    · obtain ⟨p, rfl⟩ : ∃ p, i = p + 1 := ⟨i - 1, by omega⟩
      obtain ⟨x, hx⟩ : ∃ x, l[p]? = some x := ⟨_, List.getElem?_eq_getElem (by omega)⟩
      obtain ⟨y, hy⟩ : ∃ y, l[p + 1]? = some y := ⟨_, List.getElem?_eq_getElem (by omega)⟩
      obtain ⟨b, off, rfl, tx⟩ := (hs.below hbr (Nat.le_refl _)) _ _ hx
      obtain ⟨b', off', e, ty⟩ := (hs.below hbr (Nat.le_refl _)) _ _ hy
      injection e with e
      injection e with e1 e2
      subst e1
      subst e2
      have hyes : Hid (kc x.k.ky y.k.ky < 0 → Rise l (p + 1 + 1)) := fun h => hr.step hx hy h
      have hno : Hid (¬ kc x.k.ky y.k.ky < 0 → srtB l = false) := fun h => srtB_false (fun g => h (g p x y (by omega) hx hy))
      have C : Hid (∀ w : World, Calls Try.prog 39 #[x.val, y.val] w fun e w' => e = .returned (.int .i64 (kc x.k.ky y.k.ky)) ∧ Below w.heap.size w w') := fun w => cmpKeys_any x y w
      generalize kc x.k.ky y.k.ky = R at *
      obtain ⟨⟨xa, xp, xr, xc⟩, ⟨xt, xd, xl, xk, xn, xs⟩⟩ := x
      obtain ⟨⟨ya, yp, yr, yc⟩, ⟨yt, yd, yl, yk, yn, ys⟩⟩ := y
      simp only [Cx.val, Cx.a] at C
      have HE : Hid (∀ w', Below wr.heap.size wr w' → Below w.heap.size w w') := fun w' h => hbr.trans (h.mono hbr.size)
      have qx0 : ∀ q : Cl wr.heap.size wr, q.u.cell? ⟨b, off + p * 10, none⟩ = some (.string xa) := fun q => (tx.below q.h tx.lt).c0
      have qx1 : ∀ q : Cl wr.heap.size wr, q.u.cell? ⟨b, off + p * 10 + 1, none⟩ = some (.string xp) := fun q => (tx.below q.h tx.lt).c1
      have qx2 : ∀ q : Cl wr.heap.size wr, q.u.cell? ⟨b, off + p * 10 + 2, none⟩ = some (.int .i64 xr) := fun q => (tx.below q.h tx.lt).c2
      have qx3 : ∀ q : Cl wr.heap.size wr, q.u.cell? ⟨b, off + p * 10 + 3, none⟩ = some (.string xc) := fun q => (tx.below q.h tx.lt).c3
      have qx4 : ∀ q : Cl wr.heap.size wr, q.u.cell? ⟨b, off + p * 10 + 4, none⟩ = some (.int .i64 xt) := fun q => (tx.below q.h tx.lt).c4
      have qx5 : ∀ q : Cl wr.heap.size wr, q.u.cell? ⟨b, off + p * 10 + 5, none⟩ = some (.bool xd) := fun q => (tx.below q.h tx.lt).c5
      have qx6 : ∀ q : Cl wr.heap.size wr, q.u.cell? ⟨b, off + p * 10 + 6, none⟩ = some (.int .i64 xl) := fun q => (tx.below q.h tx.lt).c6
      have qx7 : ∀ q : Cl wr.heap.size wr, q.u.cell? ⟨b, off + p * 10 + 7, none⟩ = some (.int .i64 xk) := fun q => (tx.below q.h tx.lt).c7
      have qx8 : ∀ q : Cl wr.heap.size wr, q.u.cell? ⟨b, off + p * 10 + 8, none⟩ = some (.int .i64 xn) := fun q => (tx.below q.h tx.lt).c8
      have qx9 : ∀ q : Cl wr.heap.size wr, q.u.cell? ⟨b, off + p * 10 + 9, none⟩ = some (.string xs) := fun q => (tx.below q.h tx.lt).c9
      have qy0 : ∀ q : Cl wr.heap.size wr, q.u.cell? ⟨b, off + (p + 1) * 10, none⟩ = some (.string ya) := fun q => (ty.below q.h ty.lt).c0
      have qy1 : ∀ q : Cl wr.heap.size wr, q.u.cell? ⟨b, off + (p + 1) * 10 + 1, none⟩ = some (.string yp) := fun q => (ty.below q.h ty.lt).c1
      have qy2 : ∀ q : Cl wr.heap.size wr, q.u.cell? ⟨b, off + (p + 1) * 10 + 2, none⟩ = some (.int .i64 yr) := fun q => (ty.below q.h ty.lt).c2
      have qy3 : ∀ q : Cl wr.heap.size wr, q.u.cell? ⟨b, off + (p + 1) * 10 + 3, none⟩ = some (.string yc) := fun q => (ty.below q.h ty.lt).c3
      have qy4 : ∀ q : Cl wr.heap.size wr, q.u.cell? ⟨b, off + (p + 1) * 10 + 4, none⟩ = some (.int .i64 yt) := fun q => (ty.below q.h ty.lt).c4
      have qy5 : ∀ q : Cl wr.heap.size wr, q.u.cell? ⟨b, off + (p + 1) * 10 + 5, none⟩ = some (.bool yd) := fun q => (ty.below q.h ty.lt).c5
      have qy6 : ∀ q : Cl wr.heap.size wr, q.u.cell? ⟨b, off + (p + 1) * 10 + 6, none⟩ = some (.int .i64 yl) := fun q => (ty.below q.h ty.lt).c6
      have qy7 : ∀ q : Cl wr.heap.size wr, q.u.cell? ⟨b, off + (p + 1) * 10 + 7, none⟩ = some (.int .i64 yk) := fun q => (ty.below q.h ty.lt).c7
      have qy8 : ∀ q : Cl wr.heap.size wr, q.u.cell? ⟨b, off + (p + 1) * 10 + 8, none⟩ = some (.int .i64 yn) := fun q => (ty.below q.h ty.lt).c8
      have qy9 : ∀ q : Cl wr.heap.size wr, q.u.cell? ⟨b, off + (p + 1) * 10 + 9, none⟩ = some (.string ys) := fun q => (ty.below q.h ty.lt).c9
      clear tx ty hx hy hs hr hbr
      haveI := Cl.inh wr.heap.size wr
      have hpz : (p : Int) + 1 < (l.length : Int) := by omega
      have hpz2 : (p : Int) < (l.length : Int) := by omega
      have hwp : IntKind.i64.wrap (p : Int) = (p : Int) := by rw [IntKind.wrap_i64]; omega
      have p0 : (0 : Int) ≤ (p : Int) + 1 := by omega
      have e0 : ((p : Int) + 1).toNat = p + 1 := by omega
      by_cases hR : R < 0
      · have hR' := hyes.out hR
        have d : decide (0 ≤ R) = false := decide_eq_false (by omega)
        have HR : Hid (Rise l (p + 1 + 1)) := hR'
        clear hR' hyes hno hR
        go_wp2_with fail
        refine wp_region_cl wr.heap.size (by kernel_rfl) (by kernel_rfl) ?_
        repeat (quiet_step (first | (go_at_call 39; exact Cl.calls (Nat.le_refl _) (C.out _))))
        refine wpQuiet_nil ?_
        rintro w0 ⟨q, rfl⟩
        have hq := HE.out _ q.h
        go_wp2_with fail
        go_roundw
        case rel => exact ⟨p + 1 + 1, by omega, by omega, by go_num, HR.out, hq⟩
        case measure => simp [intOf]; omega
      · have hR' : Hid (srtB l = false) := hno.out hR
        have d : decide (0 ≤ R) = true := decide_eq_true (by omega)
        clear hyes hno hR
        go_wp2_with fail
        refine wp_region_cl wr.heap.size (by kernel_rfl) (by kernel_rfl) ?_
        repeat (quiet_step (first | (go_at_call 39; exact Cl.calls (Nat.le_refl _) (C.out _))))
        refine wpQuiet_nil ?_
        rintro w0 ⟨q, rfl⟩
        have hq := HE.out _ q.h
        go_wp2_with fail
        go_ret
        exact ⟨ret_bool hR'.out.symm, hq⟩
    · have hR' : Hid (srtB l = true) := srtB_true (fun j x y hj hx hy => hr j x y (by omega) hx hy)
      clear hs hr
      have hge' : ¬ (i : Int) < (l.length : Int) := by omega
      go_wp2_with fail
      go_ret
      exact ⟨ret_bool hR'.out.symm, hbr⟩
end Go.Proofs.Ytdpglmgnbhpneaa
