/-
  CONTRACTS: the codec's reader reads a version, in every state.
-/
import Derived.Test.YtdookhmaiapclaaGreatDoorCellRead
namespace Go.Proofs.YtdookhmaiapclaaGreatDoor
open Go.RowKit

def octN (l : List UInt8) : Option (UInt8 × List UInt8) := match l with | [] => none | b :: r => some (b, r)
theorem octet_any (R : Nat) (ao : Option Addr) (l : List UInt8) (cap n : Nat) (w : World) (u : TypeId) (pv : Value) (h : Ready w u pv R ao l cap n) :
    Calls Tryz.prog 135 #[.pointer (some ⟨R, 0, none⟩)] w (Reads (octN (l.drop n)) (fun b : UInt8 => .int .u8 (b.toNat : Int)) u pv w R ao l cap n) := by
  rcases Nat.lt_or_ge n l.length with hlt | hge
  · rw [List.drop_eq_getElem_cons hlt]
    have hb : l.getD n 0 = l[n] := by simp [List.getD, hlt]
    refine (octet_ok R ao l cap n w h.rd hlt).mono ?_
    rintro e w' ⟨rfl, hr, hg⟩
    exact ⟨by rw [hb], n + 1, hr, rfl, by omega, hg⟩
  · rw [List.drop_eq_nil_of_le hge]
    have := h.rd.le
    refine (octet_end R ao l cap n w u pv h.rd (by omega) h.err).mono ?_
    rintro e w' ⟨rfl, k, rfl⟩
    exact ⟨rfl, n, h.rd.drewN k, grownBy_drewN (World.grownBy.refl _ _) k⟩

def verZ : Array Value := #[.int .i64 0, .bool false, .int .i64 0, .int .i64 0, .int .i64 0, .string ⟨#[]⟩]
set_option maxRecDepth 100000 in
set_option maxHeartbeats 1600000 in
theorem version_any (R : Nat) (ao : Option Addr) (l : List UInt8) (cap n : Nat) (w : World) (u : TypeId) (pv : Value) (h : Ready w u pv R ao l cap n) :
    Calls Tryz.prog 138 #[.pointer (some ⟨R, 0, none⟩)] w (Reads (verN (l.drop n)) (fun k : VerV => .agg (verA k)) u pv w R ao l cap n) := by
  have H0 : Hid (Mid _ _ _ _ _ _ _ _ _ _ _ _) := Mid.start h 48 verZ
  have HR : Hid (R < w.heap.size) := h.rd.lt
  have Hr : Hid (Ready _ _ _ _ _ _ _ _) := h
  clear h
  unfold verZ at *
  go_enter Tryz.func138, Tryz.ntmps138
  go_wp2_with fail
  have Hc : Hid _ := signed_any R ao l cap n _ u pv H0.out.ready
  cases h1 : signN (l.drop n) with
  | none =>
    have hp : verN (l.drop n) = none := by unfold verN; simp only [h1]
    rw [h1] at Hc
    refine Calls.mono (Hid.out Hc) ?_
    rintro e w1 ⟨rfl, m, hR1, hg1⟩
    clear h1
    have HM := H0.out.call HR.out hR1 hg1
    go_wp2_with fail
    rw [hp]
    exact ⟨rfl, rfl, m, hR1, HM.grown⟩
  | some x1 =>
  obtain ⟨s1, r1⟩ := x1
  rw [h1] at Hc
  refine Calls.mono (Hid.out Hc) ?_
  rintro e w1 ⟨rfl, m1, hR1, hd1, hm1, hg1⟩
  have H1a : Hid (Mid _ _ _ _ _ _ _ _ _ _ _ _) := H0.out.call HR.out hR1 hg1
  have p0 := H1a.out.box.cell 0
  have q0 := H1a.out.box.frozen 0
  have Hh1 : Hid _ := h1
  have H1 : Hid (Mid _ _ _ _ _ _ _ _ _ _ _ _) := H1a.out.set Hr.out 0 (.int .i64 s1)
  clear Hc h1 hR1 hg1
  go_wp2_with fail
  clear p0 q0
  have Hc : Hid _ := octet_any R ao l cap m1 _ u pv H1.out.ready
  rw [hd1] at Hc
  cases r1 with
  | nil =>
    have hp : verN (l.drop n) = none := by unfold verN; simp only [Hid.out Hh1]
    refine Calls.mono (Hid.out Hc) ?_
    rintro e w2 ⟨rfl, m, hR2, hg2⟩
    have HM := H1.out.call HR.out hR2 hg2
    go_wp2_with fail
    rw [hp]
    exact ⟨rfl, rfl, m, hR2, HM.grown⟩
  | cons b r2 =>
  refine Calls.mono (Hid.out Hc) ?_
  rintro e w2 ⟨rfl, m2, hR2, hd2, hm2, hg2⟩
  have H2 : Hid (Mid _ _ _ _ _ _ _ _ _ _ _ _) := H1.out.call HR.out hR2 hg2
  clear Hc hR2 hg2
  by_cases hb0 : b = 0
  · subst hb0
    go_wp2_with fail
    have Hc : Hid _ := value_any R ao l cap m2 _ u pv H2.out.ready
    cases h3 : valN (l.drop m2) with
    | none =>
      have hp : verN (l.drop n) = none := by unfold verN; simp only [Hid.out Hh1, if_true, ← hd2, h3]
      rw [h3] at Hc
      refine Calls.mono (Hid.out Hc) ?_
      rintro e w3 ⟨rfl, m, hR3, hg3⟩
      clear h3
      have HM := H2.out.call HR.out hR3 hg3
      go_wp2_with fail
      rw [hp]
      exact ⟨rfl, rfl, m, hR3, HM.grown⟩
    | some x3 =>
    obtain ⟨⟨kind, num, s⟩, r3⟩ := x3
    rw [h3] at Hc
    refine Calls.mono (Hid.out Hc) ?_
    rintro e w3 ⟨rfl, m3, hR3, hd3, hm3, hg3⟩
    have H3a : Hid (Mid _ _ _ _ _ _ _ _ _ _ _ _) := H2.out.call HR.out hR3 hg3
    have p3 := H3a.out.box.cell 3
    have p4 := H3a.out.box.cell 4
    have p5 := H3a.out.box.cell 5
    have q3 := H3a.out.box.frozen 3
    have q4 := H3a.out.box.frozen 4
    have q5 := H3a.out.box.frozen 5
    have Hh3 : Hid _ := h3
    have H3 : Hid (Mid _ _ _ _ _ _ _ _ _ _ _ _) := ((H3a.out.set Hr.out 3 (.int .i64 kind)).set Hr.out 4 (.int .i64 num)).set Hr.out 5 (.string s)
    clear Hc h3 hR3 hg3
    have z0 := H3.out.res.cell 0
    have z1 := H3.out.res.cell 1
    have z2 := H3.out.res.cell 2
    have z3 := H3.out.res.cell 3
    have z4 := H3.out.res.cell 4
    have z5 := H3.out.res.cell 5
    have y0 := H3.out.res.frozen 0
    have y1 := H3.out.res.frozen 1
    have y2 := H3.out.res.frozen 2
    have y3 := H3.out.res.frozen 3
    have y4 := H3.out.res.frozen 4
    have y5 := H3.out.res.frozen 5
    have x0 := H3.out.box.cell 0
    have x1 := H3.out.box.cell 1
    have x2 := H3.out.box.cell 2
    have x3 := H3.out.box.cell 3
    have x4 := H3.out.box.cell 4
    have x5 := H3.out.box.cell 5
    unfold valA
    go_wp2_with fail
    have HF : Mid _ _ _ _ _ _ _ _ _ _ _ _ := (((((H3.out.put Hr.out 0 (.int .i64 s1)).put Hr.out 1 (.bool false)).put Hr.out 2 (.int .i64 0)).put Hr.out 3 (.int .i64 kind)).put Hr.out 4 (.int .i64 num)).put Hr.out 5 (.string s)
    have hp : verN (l.drop n) = some (⟨s1, false, 0, kind, num, s⟩, r3) := by unfold verN; simp only [Hid.out Hh1, if_true, ← hd2, Hid.out Hh3]
    rw [hp]
    refine bodyPost_ret (v := .agg (verA ⟨s1, false, 0, kind, num, s⟩)) (results_cell_row Tryz.results138 _ _ w.heap.size 48 _ _ _ rfl (by exact HF.res.heap) Tryz.underlying48 rfl (by kernel_rfl)) rfl ?_
    exact ⟨rfl, m3, HF.ready.rd, hd3, by omega, HF.grown⟩
  by_cases hb1 : b = 1
  · subst hb1
    have p1 := H2.out.box.cell 1
    have q1 := H2.out.box.frozen 1
    have H2b : Hid (Mid _ _ _ _ _ _ _ _ _ _ _ _) := H2.out.set Hr.out 1 (.bool true)
    go_wp2_with fail
    clear p1 q1
    have Hc : Hid _ := signed_any R ao l cap m2 _ u pv H2b.out.ready
    cases h3 : signN (l.drop m2) with
    | none =>
      have hp : verN (l.drop n) = none := by unfold verN; simp only [Hid.out Hh1, hb0, if_true, if_false, ← hd2, h3]
      rw [h3] at Hc
      refine Calls.mono (Hid.out Hc) ?_
      rintro e w3 ⟨rfl, m, hR3, hg3⟩
      clear h3
      have HM := H2b.out.call HR.out hR3 hg3
      go_wp2_with fail
      rw [hp]
      exact ⟨rfl, rfl, m, hR3, HM.grown⟩
    | some x3 =>
    obtain ⟨s3, r3⟩ := x3
    rw [h3] at Hc
    refine Calls.mono (Hid.out Hc) ?_
    rintro e w3 ⟨rfl, m3, hR3, hd3, hm3, hg3⟩
    have H3a : Hid (Mid _ _ _ _ _ _ _ _ _ _ _ _) := H2b.out.call HR.out hR3 hg3
    have p2 := H3a.out.box.cell 2
    have q2 := H3a.out.box.frozen 2
    have Hh3 : Hid _ := h3
    have H3 : Hid (Mid _ _ _ _ _ _ _ _ _ _ _ _) := H3a.out.set Hr.out 2 (.int .i64 s3)
    clear Hc h3 hR3 hg3
    have z0 := H3.out.res.cell 0
    have z1 := H3.out.res.cell 1
    have z2 := H3.out.res.cell 2
    have z3 := H3.out.res.cell 3
    have z4 := H3.out.res.cell 4
    have z5 := H3.out.res.cell 5
    have y0 := H3.out.res.frozen 0
    have y1 := H3.out.res.frozen 1
    have y2 := H3.out.res.frozen 2
    have y3 := H3.out.res.frozen 3
    have y4 := H3.out.res.frozen 4
    have y5 := H3.out.res.frozen 5
    have x0 := H3.out.box.cell 0
    have x1 := H3.out.box.cell 1
    have x2 := H3.out.box.cell 2
    have x3 := H3.out.box.cell 3
    have x4 := H3.out.box.cell 4
    have x5 := H3.out.box.cell 5
    go_wp2_with fail
    have HF : Mid _ _ _ _ _ _ _ _ _ _ _ _ := (((((H3.out.put Hr.out 0 (.int .i64 s1)).put Hr.out 1 (.bool true)).put Hr.out 2 (.int .i64 s3)).put Hr.out 3 (.int .i64 0)).put Hr.out 4 (.int .i64 0)).put Hr.out 5 (.string ⟨#[]⟩)
    have hp : verN (l.drop n) = some (⟨s1, true, s3, noVal⟩, r3) := by unfold verN; simp only [Hid.out Hh1, hb0, if_true, if_false, ← hd2, Hid.out Hh3]
    rw [hp]
    refine bodyPost_ret (v := .agg (verA ⟨s1, true, s3, noVal⟩)) (results_cell_row Tryz.results138 _ _ w.heap.size 48 _ _ _ rfl (by exact HF.res.heap) Tryz.underlying48 rfl (by kernel_rfl)) rfl ?_
    exact ⟨rfl, m3, HF.ready.rd, hd3, by omega, HF.grown⟩
  · have hp : verN (l.drop n) = none := by unfold verN; simp only [Hid.out Hh1, hb0, hb1, if_false]
    have t0 : ((b.toNat : Int) == 0) = false := by
      simp only [beq_eq_false_iff_ne, ne_eq]
      intro e
      exact hb0 (UInt8.toNat_inj.1 (by simpa using e))
    have t1 : ((b.toNat : Int) == 1) = false := by
      simp only [beq_eq_false_iff_ne, ne_eq]
      intro e
      exact hb1 (UInt8.toNat_inj.1 (by have h2 : b.toNat = 1 := (by omega); simpa using h2))
    have he := H2.out.ready.err
    unfold Err at he
    clear hb0 hb1
    go_wp2_with fail
    rw [hp]
    exact ⟨rfl, rfl, m2, H2.out.ready.rd, H2.out.grown⟩
end Go.Proofs.YtdookhmaiapclaaGreatDoor
