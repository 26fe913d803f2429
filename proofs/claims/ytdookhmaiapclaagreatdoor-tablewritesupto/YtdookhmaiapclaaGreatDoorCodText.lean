/-
  CONTRACTS: the codec's reader reads a text, in every state.
-/
import Derived.Test.YtdookhmaiapclaaGreatDoorCodGot
import Derived.Test.YtdookhmaiapclaaGreatDoorTextPlain
namespace Go.Proofs.YtdookhmaiapclaaGreatDoor
open Go.RowKit

theorem conv_zero (w : World) (ao : Option Addr) (c : Nat) : (convert 29 9 (.slice ao 0 c)).run Tryz.prog w = .ok (.string ⟨#[]⟩) w := by
  have := conv_sees (w := w) (ao := ao) (l := []) (Sees.nil _ _) (fun _ => rfl) c
  exact this

theorem sees_cut {w : World} {b off : Nat} {l : List UInt8} (h : Sees w (some ⟨b, off, none⟩) l) (m v : Nat) (hv : m + v ≤ l.length) : Sees w (some ⟨b, off + m, none⟩) ((l.drop m).take v) := by
  intro i hi
  rw [List.length_take, List.length_drop] at hi
  obtain ⟨a, e, hc⟩ := h (m + i) (by omega)
  obtain rfl := Option.some.inj e
  refine ⟨_, rfl, ?_⟩
  rw [Addr.add_lit] at hc ⊢
  rw [Nat.add_assoc, hc]
  have : i < v := by omega
  simp [List.getD, this]

set_option maxRecDepth 100000 in
set_option maxHeartbeats 800000 in
theorem text_ok (R : Nat) (ao : Option Addr) (l : List UInt8) (cap n : Nat) (w : World) (s r : List UInt8) (h : Rd w R ao l cap n) (hcap : l.length ≤ cap) (hg : textN (l.drop n) = some (s, r)) :
    Calls Tryz.prog 150 #[.pointer (some ⟨R, 0, none⟩)] w fun e w' => e = .returned (.string ⟨s.toArray⟩) ∧ ∃ m, Rd w' R ao l cap m ∧ l.drop m = r ∧ n < m ∧ w.grownBy w' (some R) := by
  obtain ⟨v, r1, hg1, hv, hs, hr⟩ := textN_some hg
  have hvb := (get_bd hg1).1
  have Hc : Hid _ := number_ok R ao l cap n w v r1 h hg1
  have hvi : (v : Int) ≤ 18446744073709551615 := by omega
  have hll := h.max
  clear hg hg1 hvb h
  go_enter Tryz.func150, Tryz.ntmps150
  go_wp2_with fail
  refine Calls.mono (Hid.out Hc) ?_
  rintro e w1 ⟨rfl, m, hR1, hd, hm, hg1⟩
  have c0 := hR1.c0
  have c1 := hR1.c1
  have f1 := hR1.f1
  have hle := hR1.le
  have hvl : v + m ≤ l.length := by
    have := congrArg List.length hd
    rw [List.length_drop] at this
    omega
  have Hs : Hid (((l.drop m).take v) = s) := by rw [hd]; exact hs
  have Hr : Hid (l.drop (v + m) = r) := by show _ = _; rw [Nat.add_comm, ← List.drop_drop, hd]; exact hr
  clear hs hr hd Hc hv
  go_wp2_with fail
  go_quiet (fail)
  go_wp2_with fail
  have hR2 : Rd ((w1.drewN nq).setCell ⟨R, 1, none⟩ (.int .i64 ((m : Int) + (v : Int)))) R ao l cap (v + m) := (hR1.drewN nq).set (by omega) _ (by omega)
  have hg2 : w.grownBy ((w1.drewN nq).setCell ⟨R, 1, none⟩ (.int .i64 ((m : Int) + (v : Int)))) (some R) := grownBy_setCell (grownBy_drewN hg1 nq)
  generalize (w1.drewN nq).setCell ⟨R, 1, none⟩ (.int .i64 ((m : Int) + (v : Int))) = W2 at *
  have d0 := hR2.c0
  have d1 := hR2.c1
  clear c0 c1 f1 hR1 hg1
  by_cases hv0 : v = 0
  · subst hv0
    have hcv := conv_zero
    by_cases hcm : cap = m
    · subst hcm
      go_quiet (fail)
      go_wp2
      go_ret
      exact ⟨by rw [← Hs.out]; rfl, cap, by simpa using hR2.drewN nq, by simpa using Hr.out, hm, grownBy_drewN hg2 _⟩
    · go_quiet (fail)
      all_goals go_wp2
      all_goals go_ret
      all_goals exact ⟨by rw [← Hs.out]; rfl, m, by simpa using hR2.drewN nq, by simpa using Hr.out, hm, grownBy_drewN hg2 _⟩
  · obtain ⟨b, off, rfl, hc⟩ := sees_at hR2.sees (n := m) (by omega)
    have hsl := sees_cut hR2.sees m v (by omega)
    have hcv := fun k : Nat => conv_sees (w := W2.drewN k) hsl (fun h => by cases h) (cap - m)
    have hlen : ((l.drop m).take v).length = v := by simp; omega
    rw [hlen] at hcv
    rw [Hs.out] at hcv
    have hcm : ¬ cap = m := by omega
    clear hsl hc hlen
    go_quiet (fail)
    go_wp2
    go_ret
    exact ⟨rfl, v + m, hR2.drewN nq, Hr.out, by omega, grownBy_drewN hg2 _⟩

theorem err_grown {w w' : World} {u : TypeId} {pv : Value} {R : Nat} (he : Err w u pv) (hg : w.grownBy w' (some R)) (hER : R ≠ 1) : Err w' u pv := by
  unfold Err at he ⊢
  rw [World.cell?_of_block (hg.block _ (World.block_lt_of_cell? _ _ he) (fun e => hER (Option.some.inj e).symm)), he]

set_option maxRecDepth 100000 in
set_option maxHeartbeats 800000 in
theorem text_no (R : Nat) (ao : Option Addr) (l : List UInt8) (cap n : Nat) (w : World) (u : TypeId) (pv : Value) (h : Rd w R ao l cap n) (hg : textN (l.drop n) = none) (he : Err w u pv) (hER : R ≠ 1) :
    Calls Tryz.prog 150 #[.pointer (some ⟨R, 0, none⟩)] w fun e w' => e = .panicked [{ v := .iface u pv, recovered := false }] ∧ ∃ m, Rd w' R ao l cap m ∧ w.grownBy w' (some R) := by
  rcases textN_none hg with hg0 | ⟨v, r1, hg1, hv⟩
  · have Hc : Hid _ := number_no R ao l cap n w u pv h hg0 he hER
    clear hg hg0
    go_enter Tryz.func150, Tryz.ntmps150
    go_wp2_with fail
    refine Calls.mono (Hid.out Hc) ?_
    rintro e w1 ⟨rfl, m, hR1, hg1⟩
    go_wp2_with fail
    exact ⟨rfl, rfl, m, hR1, hg1⟩
  · have hvb := (get_bd hg1).1
    have Hc : Hid _ := number_ok R ao l cap n w v r1 h hg1
    have hvi : (v : Int) ≤ 18446744073709551615 := by omega
    have hll := h.max
    clear hg hg1 hvb h
    go_enter Tryz.func150, Tryz.ntmps150
    go_wp2_with fail
    refine Calls.mono (Hid.out Hc) ?_
    rintro e w1 ⟨rfl, m, hR1, hd, hm, hg1⟩
    have c0 := hR1.c0
    have c1 := hR1.c1
    have hle := hR1.le
    have hvl : l.length < v + m := by
      have := congrArg List.length hd
      rw [List.length_drop] at this
      omega
    have he1 := err_grown he hg1 hER
    unfold Err at he1
    clear hd Hc hv
    go_wp2_with fail
    go_quiet (fail)
    go_wp2_with fail
    exact ⟨rfl, rfl, m, hR1.drewN _, grownBy_drewN hg1 _⟩
end Go.Proofs.YtdookhmaiapclaaGreatDoor
