/-
  SEVERAL TEXTS IN ONE: CellRead2, RefGet, RefLend, RefSum, CodUnframe, SrtPlain.
-/
import Derived.Test.YtglaocghcgcghaaGreatDoorMany23
import Derived.Test.YtglaocghcgcghaaGreatDoorMany21
namespace Go.Proofs.YtglaocghcgcghaaGreatDoor
open Go.RowKit

def octN (l : List UInt8) : Option (UInt8 × List UInt8) := match l with | [] => none | b :: r => some (b, r)
theorem octet_any (R : Nat) (ao : Option Addr) (l : List UInt8) (cap n : Nat) (w : World) (u : TypeId) (pv : Value) (h : Ready w u pv R ao l cap n) :
    Calls Tryz.prog 172 #[.pointer (some ⟨R, 0, none⟩)] w (Reads (octN (l.drop n)) (fun b : UInt8 => .int .u8 (b.toNat : Int)) u pv w R ao l cap n) := by
  rcases Nat.lt_or_ge n l.length with hlt | hge
  · rw [List.drop_eq_getElem_cons hlt]
    have hb : l.getD n 0 = l[n] := by simp [List.getD, hlt]
    refine (octet_ok R ao l cap n w h.rd hlt).mono ?_
    rintro e w' ⟨rfl, hr, hg⟩
    exact ⟨by rw [hb], n + 1, hr, rfl, by omega, hg⟩
  · rw [List.drop_eq_nil_of_le hge]
    have := h.rd.le
    refine (octet_end R ao l cap n w u pv h.rd (by omega) h.err).mono ?_
    rintro e w' ⟨rfl, k, rfl⟩
    exact ⟨rfl, n, h.rd.drewN k, grownBy_drewN (World.grownBy.refl _ _) k⟩

def verZ : Array Value := #[.int .i64 0, .bool false, .int .i64 0, .int .i64 0, .int .i64 0, .string ⟨#[]⟩]
set_option maxRecDepth 100000 in
set_option maxHeartbeats 1600000 in
theorem version_any (R : Nat) (ao : Option Addr) (l : List UInt8) (cap n : Nat) (w : World) (u : TypeId) (pv : Value) (h : Ready w u pv R ao l cap n) :
    Calls Tryz.prog 171 #[.pointer (some ⟨R, 0, none⟩)] w (Reads (verN (l.drop n)) (fun k : VerV => .agg (verA k)) u pv w R ao l cap n) := by
  have H0 : Hid (Mid _ _ _ _ _ _ _ _ _ _ _ _) := Mid.start h 48 verZ
  have HR : Hid (R < w.heap.size) := h.rd.lt
  have Hr : Hid (Ready _ _ _ _ _ _ _ _) := h
  clear h
  unfold verZ at *
  go_enter Tryz.func171, Tryz.ntmps171
  go_wp2_with fail
  have Hc : Hid _ := signed_any R ao l cap n _ u pv H0.out.ready
  cases h1 : signN (l.drop n) with
  | none =>
    have hp : verN (l.drop n) = none := by unfold verN; simp only [h1]
    rw [h1] at Hc
    refine Calls.mono (Hid.out Hc) ?_
    rintro e w1 ⟨rfl, m, hR1, hg1⟩
    clear h1
    have HM := H0.out.call HR.out hR1 hg1
    go_wp2_with fail
    rw [hp]
    exact ⟨rfl, rfl, m, hR1, HM.grown⟩
  | some x1 =>
  obtain ⟨s1, r1⟩ := x1
  rw [h1] at Hc
  refine Calls.mono (Hid.out Hc) ?_
  rintro e w1 ⟨rfl, m1, hR1, hd1, hm1, hg1⟩
  have H1a : Hid (Mid _ _ _ _ _ _ _ _ _ _ _ _) := H0.out.call HR.out hR1 hg1
  have p0 := H1a.out.box.cell 0
  have q0 := H1a.out.box.frozen 0
  have Hh1 : Hid _ := h1
  have H1 : Hid (Mid _ _ _ _ _ _ _ _ _ _ _ _) := H1a.out.set Hr.out 0 (.int .i64 s1)
  clear Hc h1 hR1 hg1
  go_wp2_with fail
  clear p0 q0
  have Hc : Hid _ := octet_any R ao l cap m1 _ u pv H1.out.ready
  rw [hd1] at Hc
  cases r1 with
  | nil =>
    have hp : verN (l.drop n) = none := by unfold verN; simp only [Hid.out Hh1]
    refine Calls.mono (Hid.out Hc) ?_
    rintro e w2 ⟨rfl, m, hR2, hg2⟩
    have HM := H1.out.call HR.out hR2 hg2
    go_wp2_with fail
    rw [hp]
    exact ⟨rfl, rfl, m, hR2, HM.grown⟩
  | cons b r2 =>
  refine Calls.mono (Hid.out Hc) ?_
  rintro e w2 ⟨rfl, m2, hR2, hd2, hm2, hg2⟩
  have H2 : Hid (Mid _ _ _ _ _ _ _ _ _ _ _ _) := H1.out.call HR.out hR2 hg2
  clear Hc hR2 hg2
  by_cases hb0 : b = 0
  · subst hb0
    go_wp2_with fail
    have Hc : Hid _ := value_any R ao l cap m2 _ u pv H2.out.ready
    cases h3 : valN (l.drop m2) with
    | none =>
      have hp : verN (l.drop n) = none := by unfold verN; simp only [Hid.out Hh1, if_true, ← hd2, h3]
      rw [h3] at Hc
      refine Calls.mono (Hid.out Hc) ?_
      rintro e w3 ⟨rfl, m, hR3, hg3⟩
      clear h3
      have HM := H2.out.call HR.out hR3 hg3
      go_wp2_with fail
      rw [hp]
      exact ⟨rfl, rfl, m, hR3, HM.grown⟩
    | some x3 =>
    obtain ⟨⟨kind, num, s⟩, r3⟩ := x3
    rw [h3] at Hc
    refine Calls.mono (Hid.out Hc) ?_
    rintro e w3 ⟨rfl, m3, hR3, hd3, hm3, hg3⟩
    have H3a : Hid (Mid _ _ _ _ _ _ _ _ _ _ _ _) := H2.out.call HR.out hR3 hg3
    have p3 := H3a.out.box.cell 3
    have p4 := H3a.out.box.cell 4
    have p5 := H3a.out.box.cell 5
    have q3 := H3a.out.box.frozen 3
    have q4 := H3a.out.box.frozen 4
    have q5 := H3a.out.box.frozen 5
    have Hh3 : Hid _ := h3
    have H3 : Hid (Mid _ _ _ _ _ _ _ _ _ _ _ _) := ((H3a.out.set Hr.out 3 (.int .i64 kind)).set Hr.out 4 (.int .i64 num)).set Hr.out 5 (.string s)
    clear Hc h3 hR3 hg3
    have z0 := H3.out.res.cell 0
    have z1 := H3.out.res.cell 1
    have z2 := H3.out.res.cell 2
    have z3 := H3.out.res.cell 3
    have z4 := H3.out.res.cell 4
    have z5 := H3.out.res.cell 5
    have y0 := H3.out.res.frozen 0
    have y1 := H3.out.res.frozen 1
    have y2 := H3.out.res.frozen 2
    have y3 := H3.out.res.frozen 3
    have y4 := H3.out.res.frozen 4
    have y5 := H3.out.res.frozen 5
    have x0 := H3.out.box.cell 0
    have x1 := H3.out.box.cell 1
    have x2 := H3.out.box.cell 2
    have x3 := H3.out.box.cell 3
    have x4 := H3.out.box.cell 4
    have x5 := H3.out.box.cell 5
    unfold valA
    go_wp2_with fail
    have HF : Mid _ _ _ _ _ _ _ _ _ _ _ _ := (((((H3.out.put Hr.out 0 (.int .i64 s1)).put Hr.out 1 (.bool false)).put Hr.out 2 (.int .i64 0)).put Hr.out 3 (.int .i64 kind)).put Hr.out 4 (.int .i64 num)).put Hr.out 5 (.string s)
    have hp : verN (l.drop n) = some (⟨s1, false, 0, kind, num, s⟩, r3) := by unfold verN; simp only [Hid.out Hh1, if_true, ← hd2, Hid.out Hh3]
    rw [hp]
    refine bodyPost_ret (v := .agg (verA ⟨s1, false, 0, kind, num, s⟩)) (results_cell_row Tryz.results171 _ _ w.heap.size 48 _ _ _ rfl (by exact HF.res.heap) Tryz.underlying48 rfl (by kernel_rfl)) rfl ?_
    exact ⟨rfl, m3, HF.ready.rd, hd3, by omega, HF.grown⟩
  by_cases hb1 : b = 1
  · subst hb1
    have p1 := H2.out.box.cell 1
    have q1 := H2.out.box.frozen 1
    have H2b : Hid (Mid _ _ _ _ _ _ _ _ _ _ _ _) := H2.out.set Hr.out 1 (.bool true)
    go_wp2_with fail
    clear p1 q1
    have Hc : Hid _ := signed_any R ao l cap m2 _ u pv H2b.out.ready
    cases h3 : signN (l.drop m2) with
    | none =>
      have hp : verN (l.drop n) = none := by unfold verN; simp only [Hid.out Hh1, hb0, if_true, if_false, ← hd2, h3]
      rw [h3] at Hc
      refine Calls.mono (Hid.out Hc) ?_
      rintro e w3 ⟨rfl, m, hR3, hg3⟩
      clear h3
      have HM := H2b.out.call HR.out hR3 hg3
      go_wp2_with fail
      rw [hp]
      exact ⟨rfl, rfl, m, hR3, HM.grown⟩
    | some x3 =>
    obtain ⟨s3, r3⟩ := x3
    rw [h3] at Hc
    refine Calls.mono (Hid.out Hc) ?_
    rintro e w3 ⟨rfl, m3, hR3, hd3, hm3, hg3⟩
    have H3a : Hid (Mid _ _ _ _ _ _ _ _ _ _ _ _) := H2b.out.call HR.out hR3 hg3
    have p2 := H3a.out.box.cell 2
    have q2 := H3a.out.box.frozen 2
    have Hh3 : Hid _ := h3
    have H3 : Hid (Mid _ _ _ _ _ _ _ _ _ _ _ _) := H3a.out.set Hr.out 2 (.int .i64 s3)
    clear Hc h3 hR3 hg3
    have z0 := H3.out.res.cell 0
    have z1 := H3.out.res.cell 1
    have z2 := H3.out.res.cell 2
    have z3 := H3.out.res.cell 3
    have z4 := H3.out.res.cell 4
    have z5 := H3.out.res.cell 5
    have y0 := H3.out.res.frozen 0
    have y1 := H3.out.res.frozen 1
    have y2 := H3.out.res.frozen 2
    have y3 := H3.out.res.frozen 3
    have y4 := H3.out.res.frozen 4
    have y5 := H3.out.res.frozen 5
    have x0 := H3.out.box.cell 0
    have x1 := H3.out.box.cell 1
    have x2 := H3.out.box.cell 2
    have x3 := H3.out.box.cell 3
    have x4 := H3.out.box.cell 4
    have x5 := H3.out.box.cell 5
    go_wp2_with fail
    have HF : Mid _ _ _ _ _ _ _ _ _ _ _ _ := (((((H3.out.put Hr.out 0 (.int .i64 s1)).put Hr.out 1 (.bool true)).put Hr.out 2 (.int .i64 s3)).put Hr.out 3 (.int .i64 0)).put Hr.out 4 (.int .i64 0)).put Hr.out 5 (.string ⟨#[]⟩)
    have hp : verN (l.drop n) = some (⟨s1, true, s3, noVal⟩, r3) := by unfold verN; simp only [Hid.out Hh1, hb0, if_true, if_false, ← hd2, Hid.out Hh3]
    rw [hp]
    refine bodyPost_ret (v := .agg (verA ⟨s1, true, s3, noVal⟩)) (results_cell_row Tryz.results171 _ _ w.heap.size 48 _ _ _ rfl (by exact HF.res.heap) Tryz.underlying48 rfl (by kernel_rfl)) rfl ?_
    exact ⟨rfl, m3, HF.ready.rd, hd3, by omega, HF.grown⟩
  · have hp : verN (l.drop n) = none := by unfold verN; simp only [Hid.out Hh1, hb0, hb1, if_false]
    have t0 : ((b.toNat : Int) == 0) = false := by
      simp only [beq_eq_false_iff_ne, ne_eq]
      intro e
      exact hb0 (UInt8.toNat_inj.1 (by simpa using e))
    have t1 : ((b.toNat : Int) == 1) = false := by
      simp only [beq_eq_false_iff_ne, ne_eq]
      intro e
      exact hb1 (UInt8.toNat_inj.1 (by have h2 : b.toNat = 1 := (by omega); simpa using h2))
    have he := H2.out.ready.err
    unfold Err at he
    clear hb0 hb1
    go_wp2_with fail
    rw [hp]
    exact ⟨rfl, rfl, m2, H2.out.ready.rd, H2.out.grown⟩
end Go.Proofs.YtglaocghcgcghaaGreatDoor
namespace Go.Proofs.YtglaocghcgcghaaGreatDoor
open Go.RowKit

/-- What a round of the document's Get reckons. -/
theorem sum_text (i acc x : Nat) (h : acc < 2 ^ (7 * i)) (hi : i ≤ 9) (h9 : i = 9 → x ≤ 1) :
    IntKind.u64.wrap ((acc : Int) + IntKind.u64.wrap ((x : Int) % 128 * 2 ^ (7 * i))) = ((acc + x % 128 * 2 ^ (7 * i) : Nat) : Int) := by
  have hp : 2 ^ (7 * i) ≤ 2 ^ 63 := Nat.pow_le_pow_right (by omega) (by omega)
  have hy : acc + x % 128 * 2 ^ (7 * i) < 18446744073709551616 := by
    rcases Nat.lt_or_ge i 9 with h1 | h1
    · have h2 : 2 ^ (7 * i) ≤ 2 ^ 56 := Nat.pow_le_pow_right (by omega) (by omega)
      have h3 : x % 128 * 2 ^ (7 * i) ≤ 127 * 2 ^ 56 := Nat.mul_le_mul (by omega) h2
      omega
    · have hx := h9 (by omega)
      have h3 : x % 128 * 2 ^ (7 * i) ≤ 1 * 2 ^ 63 := Nat.mul_le_mul (by omega) hp
      omega
  have e : (x : Int) % 128 * 2 ^ (7 * i) = ((x % 128 * 2 ^ (7 * i) : Nat) : Int) := by simp
  rw [e, IntWalk.u64_in (((x % 128 * 2 ^ (7 * i) : Nat) : Int)) ⟨by omega, by omega⟩, ← Int.natCast_add, IntWalk.u64_in _ ⟨by omega, by omega⟩]

/-- What Get tells of bytes: the number, and how many it has. -/
def getV (l : List UInt8) : Nat := match getN 0 0 l with | some (v, _) => v | none => 0
def getK (l : List UInt8) : Nat := match getN 0 0 l with | some (_, r) => l.length - r.length | none => 0

end Go.Proofs.YtglaocghcgcghaaGreatDoor
namespace Go.Proofs.YtglaocghcgcghaaGreatDoor
open Go.RowKit

/-- Memory that is lent out, the first k bytes laid. -/
def lentK (l : List UInt8) (k : Nat) : List UInt8 := (165 : UInt8) :: (l.take k ++ (List.replicate (l.length - k) 0 ++ [90]))
def lent (l : List UInt8) : List UInt8 := (165 : UInt8) :: (l ++ [90])
theorem lentK_length (l : List UInt8) (k : Nat) (h : k ≤ l.length) : (lentK l k).length = l.length + 2 := by simp [lentK]; omega
theorem take_snoc (l : List UInt8) (k : Nat) (h : k < l.length) : l.take (k + 1) = l.take k ++ [l.getD k 0] := by
  have e : l.getD k 0 = l[k] := by simp [List.getD, h]
  rw [e, ← List.take_succ_eq_append_getElem h]
theorem lentK_step (l : List UInt8) (k : Nat) (h : k < l.length) : (lentK l k).set (k + 1) (l.getD k 0) = lentK l (k + 1) := by
  unfold lentK
  have h1 : (l.take k).length = k := by simp; omega
  obtain ⟨m, hm⟩ : ∃ m, l.length - k = m + 1 := ⟨l.length - k - 1, by omega⟩
  have hm' : l.length - (k + 1) = m := by omega
  rw [List.set_cons_succ, List.set_append_right _ _ (by omega), h1, Nat.sub_self, hm, hm', List.replicate_succ, List.cons_append, List.set_cons_zero, take_snoc l k h, List.append_assoc]
  rfl
theorem lentK_start (l : List UInt8) : ((List.replicate (l.length + 2) (0 : UInt8)).set 0 165).set (l.length + 1) 90 = lentK l 0 := by
  unfold lentK
  rw [List.replicate_succ, List.set_cons_zero, List.set_cons_succ, List.replicate_succ', List.set_append_right _ _ (by simp)]
  simp
theorem lentK_end (l : List UInt8) : lentK l l.length = lent l := by simp [lentK, lent]

theorem lent_sees {w : World} {g : Nat} {l : List UInt8} (h : Row w g (lent l)) : Sees w (some ⟨g, 1, none⟩) l := by
  have hlen : (lent l).length = l.length + 2 := by simp [lent]
  have := h.sees 1 l.length (by omega)
  simpa [lent] using this

theorem Row.below {w w' : World} {g : Nat} {l : List UInt8} (h : Row w g l) {B : Nat} (hb : Below B w w') (hB : g < B) : Row w' g l := (hb.block g hB).trans h
end Go.Proofs.YtglaocghcgcghaaGreatDoor
namespace Go.Proofs.YtglaocghcgcghaaGreatDoor
open Go.RowKit

set_option maxRecDepth 100000 in
set_option maxHeartbeats 800000 in
theorem word_any (b off n cap : Nat) (h4 : List UInt8) (w : World) (hn : 4 ≤ n) (hnm : n ≤ 140737488355328) (hl : h4.length = 4) (hs : Sees w (some ⟨b, off, none⟩) h4) :
    Calls Tryz.prog 160 #[.slice (some ⟨b, off, none⟩) n cap] w fun e w' => e = .returned (.int .u32 (wordL h4)) ∧ w' = w := by
  go_enter Tryz.func160, Tryz.ntmps160
  go_wp2
  go_loop [3, 5] (fun t i => ∃ k : Nat, k ≤ 4 ∧ i = .int .i64 k ∧ t = .int .u32 (wordL (h4.take k))) (fun _ i => 4 - (intOf i).toNat)
  case atStart => exact ⟨0, Nat.zero_le _, rfl, rfl⟩
  case round =>
    obtain ⟨k, hk, rfl, rfl⟩ := hrel
    by_cases hlt : k < 4
    · obtain ⟨b', off', e, hc⟩ := sees_at hs (n := k) (by omega)
      cases e
      have hst : Hid (wordL (h4.take (k + 1)) = wordL (h4.take k) * 256 + (h4.getD k 0).toNat) := by
        show _ = _
        rw [take_snoc h4 k (by omega)]
        unfold wordL
        rw [List.foldl_append]
        rfl
      have hw : wordL (h4.take k) < 16777216 := wordL_lt3 _ (by simp; omega)
      have hx := (h4.getD k 0).toNat_lt
      have Hor : Hid _ := or_byte (wordL (h4.take k)) (h4.getD k 0).toNat hw hx
      generalize wordL (h4.take k) = a at *
      generalize (h4.getD k 0).toNat = x at *
      go_wp2
      go_round
      case rel => exact ⟨k + 1, by omega, by go_num, by rw [hst.out, ← Hor.out]⟩
      case measure => simp [intOf]; omega
    · go_wp2
      go_ret
      exact ⟨ret_int (by rw [List.take_of_length_le (by omega)]), rfl⟩

end Go.Proofs.YtglaocghcgcghaaGreatDoor
namespace Go.Proofs.YtglaocghcgcghaaGreatDoor
open Go.RowKit

/-- The count, the error, how many bytes, and the content of the frame that bytes begin with. -/
def unfC (l : List UInt8) : Nat := wordL (l.take 4)
def unfE (l : List UInt8) : Nat :=
  if l.length < 8 then 10 else if 262144 < unfC l then 6 else if l.length < 8 + unfC l then 10
  else if (wordL ((l.drop 4).take 4) : Int) ≠ sumZ (l.take 4 ++ (l.drop 8).take (unfC l)) then 8 else 0
def unfN (l : List UInt8) : Nat := if unfE l = 0 then 8 + unfC l else 0
def unfB (l : List UInt8) : List UInt8 := if unfE l = 0 then (l.drop 8).take (unfC l) else []
theorem unf_bad (l : List UInt8) {e : Nat} (h : unfE l = e) (he : e ≠ 0) : unfN l = 0 ∧ unfB l = [] := by
  unfold unfN unfB
  rw [if_neg (by omega), if_neg (by omega)]
  exact ⟨rfl, rfl⟩

theorem sees_take {w : World} {b off : Nat} {l : List UInt8} (h : Sees w (some ⟨b, off, none⟩) l) (v : Nat) (hv : v ≤ l.length) : Sees w (some ⟨b, off, none⟩) (l.take v) := by
  have := sees_cut h 0 v (by omega)
  simpa using this

set_option maxRecDepth 100000 in
set_option maxHeartbeats 1600000 in
theorem unframe_any (ao : Option Addr) (l : List UInt8) (cap : Nat) (w : World) (hs : Sees w ao l) (hl : l.length ≤ 140737488354000) (hcap : l.length ≤ cap) (hcm : cap ≤ 9223372036854775807) (ht : Tab w) :
    Calls Tryz.prog 149 #[.slice ao l.length cap] w fun e w' => ∃ v', e = .returned (.tuple #[v', .int .i64 (unfN l), .int .i64 (unfE l)]) ∧ w'.ownsRow w.heap.size 5 1 v' (unfB l).length (B8 (unfB l)) ∧ Below w.heap.size w w' := by
  by_cases h8 : l.length < 8
  · have hE : unfE l = 10 := by unfold unfE; rw [if_pos h8]
    obtain ⟨hN, hB⟩ := unf_bad l hE (by decide)
    rw [hE, hN, hB]
    clear hE hN hB
    go_enter Tryz.func149, Tryz.ntmps149
    go_wp2
    go_ret3
    exact ⟨_, rfl, World.ownsRow_nil _ _ _ _, Below.refl _ _⟩
  obtain ⟨b, off, rfl, _⟩ := sees_at hs (n := 0) (by omega)
  have Hw1 : Hid _ := word_any b off l.length cap (l.take 4) w (by omega) (by omega) (by simp; omega) (sees_take hs 4 (by omega))
  have hC4 : unfC l < 4294967296 := wordL_lt _ (by simp; omega)
  by_cases hbig : 262144 < unfC l
  · have hE : unfE l = 6 := by unfold unfE; rw [if_neg h8, if_pos hbig]
    obtain ⟨hN, hB⟩ := unf_bad l hE (by decide)
    rw [hE, hN, hB]
    clear hE hN hB
    have e : wordL (l.take 4) = unfC l := rfl
    rw [e] at Hw1
    clear e
    generalize unfC l = C at *
    go_enter Tryz.func149, Tryz.ntmps149
    go_wp2_with fail
    refine Calls.mono (Hid.out Hw1) ?_
    rintro e w' ⟨rfl, rfl⟩
    go_wp2_with fail
    go_ret3
    exact ⟨_, rfl, World.ownsRow_nil _ _ _ _, Below.refl _ _⟩
  by_cases hshort : l.length < 8 + unfC l
  · have hE : unfE l = 10 := by unfold unfE; rw [if_neg h8, if_neg hbig, if_pos hshort]
    obtain ⟨hN, hB⟩ := unf_bad l hE (by decide)
    rw [hE, hN, hB]
    clear hE hN hB
    have e : wordL (l.take 4) = unfC l := rfl
    rw [e] at Hw1
    clear e
    generalize unfC l = C at *
    go_enter Tryz.func149, Tryz.ntmps149
    go_wp2_with fail
    refine Calls.mono (Hid.out Hw1) ?_
    rintro e w' ⟨rfl, rfl⟩
    go_wp2_with fail
    go_ret3
    exact ⟨_, rfl, World.ownsRow_nil _ _ _ _, Below.refl _ _⟩
  have Hw2 : Hid _ := word_any b (off + 4) (l.length - 4) (cap - 4) ((l.drop 4).take 4) w (by omega) (by omega) (by simp; omega) (sees_cut hs 4 4 (by omega))
  obtain ⟨S, hS⟩ : ∃ S, sumZ (l.take 4 ++ (l.drop 8).take (unfC l)) = S := ⟨_, rfl⟩
  obtain ⟨co, hco, hcs, hcn, hcc⟩ : ∃ co : Option Addr, (cap = 8 → co = some ⟨b, off, none⟩) ∧ Sees w co ((l.drop 8).take (unfC l)) ∧ (co = none → ((l.drop 8).take (unfC l)).length = 0) ∧ (cap ≠ 8 → co = some ⟨b, off + 8, none⟩) := by
    by_cases hc8 : cap = 8
    · have h0 : unfC l = 0 := by omega
      refine ⟨some ⟨b, off, none⟩, fun _ => rfl, ?_, (fun h => by cases h), fun h => absurd hc8 h⟩
      rw [h0]
      exact Sees.nil _ _
    · exact ⟨some ⟨b, off + 8, none⟩, fun h => absurd h hc8, sees_cut hs 8 _ (by omega), (fun h => by cases h), fun _ => rfl⟩
  have hclen : ((l.drop 8).take (unfC l)).length = unfC l := by simp; omega
  have Hfs : Hid _ := frameSum_any b off l.length cap (l.take 4) co ((l.drop 8).take (unfC l)) (cap - 8) w (by omega) hcap (by omega) (by simp; omega) (sees_take hs 4 (by omega)) hcs (by omega) ht
  have Hcp : Hid _ := copyWithRoom_any co ((l.drop 8).take (unfC l)) (cap - 8) 0 w hcs hcn (by omega)
  rw [hclen] at Hfs Hcp
  rw [hS] at Hfs
  have e4 : wordL (l.take 4) = unfC l := rfl
  rw [e4] at Hw1
  have hWl : wordL ((l.drop 4).take 4) < 4294967296 := wordL_lt _ (by simp; omega)
  obtain ⟨V, hV⟩ : ∃ V, wordL ((l.drop 4).take 4) = V := ⟨_, rfl⟩
  rw [hV] at Hw2 hWl
  by_cases hne : (V : Int) ≠ S
  · have hE : unfE l = 8 := by unfold unfE; rw [if_neg h8, if_neg hbig, if_neg hshort, if_pos (by rw [hV, hS]; exact hne)]
    obtain ⟨hN, hB⟩ := unf_bad l hE (by decide)
    rw [hE, hN, hB]
    have hneb : ((V : Int) != S) = true := by simpa using hne
    clear hE hN hB e4 hV hS hclen Hcp hcn hcs hne
    generalize unfC l = C at *
    by_cases hc8 : cap = 8
    · obtain rfl := hco hc8
      obtain rfl : C = 0 := by omega
      subst hc8
      clear hco hcc
      go_enter Tryz.func149, Tryz.ntmps149
      go_wp2_with fail
      refine Calls.mono (Hid.out Hw1) ?_
      rintro e w' ⟨rfl, rfl⟩
      go_wp2_with fail
      refine Calls.mono (Hid.out Hw2) ?_
      rintro e w' ⟨rfl, rfl⟩
      go_wp2_with fail
      refine Calls.mono (Hid.out Hfs) ?_
      rintro e w' ⟨rfl, rfl⟩
      go_wp2_with fail
      go_ret3
      exact ⟨_, rfl, World.ownsRow_nil _ _ _ _, Below.refl _ _⟩
    · obtain rfl := hcc hc8
      clear hco hcc
      go_enter Tryz.func149, Tryz.ntmps149
      go_wp2_with fail
      refine Calls.mono (Hid.out Hw1) ?_
      rintro e w' ⟨rfl, rfl⟩
      go_wp2_with fail
      refine Calls.mono (Hid.out Hw2) ?_
      rintro e w' ⟨rfl, rfl⟩
      go_wp2_with fail
      refine Calls.mono (Hid.out Hfs) ?_
      rintro e w' ⟨rfl, rfl⟩
      go_wp2_with fail
      go_ret3
      exact ⟨_, rfl, World.ownsRow_nil _ _ _ _, Below.refl _ _⟩
  · obtain rfl : (V : Int) = S := by omega
    have hE : unfE l = 0 := by unfold unfE; rw [if_neg h8, if_neg hbig, if_neg hshort, if_neg (by rw [hV, hS]; exact hne)]
    have hN : unfN l = 8 + unfC l := by unfold unfN; rw [if_pos hE]
    have hB : unfB l = (l.drop 8).take (unfC l) := by unfold unfB; rw [if_pos hE]
    rw [hE, hN, hB, hclen]
    have hneb : ((V : Int) != (V : Int)) = false := by simp
    clear hE hN hB e4 hV hS hclen hcn hcs hne
    generalize (l.drop 8).take (unfC l) = D at *
    generalize unfC l = C at *
    by_cases hc8 : cap = 8
    · obtain rfl := hco hc8
      obtain rfl : C = 0 := by omega
      subst hc8
      clear hco hcc
      go_enter Tryz.func149, Tryz.ntmps149
      go_wp2_with fail
      refine Calls.mono (Hid.out Hw1) ?_
      rintro e w' ⟨rfl, rfl⟩
      go_wp2_with fail
      refine Calls.mono (Hid.out Hw2) ?_
      rintro e w' ⟨rfl, rfl⟩
      go_wp2_with fail
      refine Calls.mono (Hid.out Hfs) ?_
      rintro e w' ⟨rfl, rfl⟩
      go_wp2_with fail
      refine Calls.mono (Hid.out Hcp) ?_
      rintro e w1 ⟨v1, rfl, ho1, hb1⟩
      go_wp2_with fail
      go_ret3
      exact ⟨_, rfl, ho1, hb1⟩
    · obtain rfl := hcc hc8
      clear hco hcc
      go_enter Tryz.func149, Tryz.ntmps149
      go_wp2_with fail
      refine Calls.mono (Hid.out Hw1) ?_
      rintro e w' ⟨rfl, rfl⟩
      go_wp2_with fail
      refine Calls.mono (Hid.out Hw2) ?_
      rintro e w' ⟨rfl, rfl⟩
      go_wp2_with fail
      refine Calls.mono (Hid.out Hfs) ?_
      rintro e w' ⟨rfl, rfl⟩
      go_wp2_with fail
      refine Calls.mono (Hid.out Hcp) ?_
      rintro e w1 ⟨v1, rfl, ho1, hb1⟩
      go_wp2_with fail
      go_ret3
      exact ⟨_, rfl, ho1, hb1⟩
end Go.Proofs.YtglaocghcgcghaaGreatDoor
namespace Go.Proofs.YtglaocghcgcghaaGreatDoor
open Go.RowKit

/-- How two cells stand by their keys. -/
def kx (x y : Cx) : Int := kc x.k.ky y.k.ky
theorem kx_n (x y : Cx) : kx x y = - kx y x := kc_cmpr.n _ _
theorem kx_t {x y z : Cx} (h : kx x y ≤ 0) (g : kx y z ≤ 0) : kx x z ≤ 0 := kc_cmpr.t _ _ _ h g
theorem kx_z (x y : Cx) : kx x y = 0 ↔ x.k = y.k := (kc_cmpr.z _ _).trans Kb.ky_inj
theorem kx_self (x : Cx) : kx x x = 0 := (kx_z x x).2 rfl
theorem kx_ne {x y : Cx} (h : kx x y < 0) : x.k ≠ y.k := fun e => by have := (kx_z x y).2 e; omega
/-- The cells of one key, in their order. -/
noncomputable def ofK (κ : Kb) (L : List Cx) : List Cx := L.filter fun c => @decide (c.k = κ) (Classical.propDecidable _)
theorem ofK_append (κ : Kb) (A B : List Cx) : ofK κ (A ++ B) = ofK κ A ++ ofK κ B := List.filter_append ..
theorem ofK_nil {κ : Kb} {A : List Cx} (h : ∀ x ∈ A, x.k ≠ κ) : ofK κ A = [] := by
  unfold ofK
  rw [List.filter_eq_nil_iff]
  intro x hx
  simp only [decide_eq_true_eq]
  exact h x hx
theorem ofK_mem {κ : Kb} {A : List Cx} {x : Cx} : x ∈ ofK κ A ↔ x ∈ A ∧ x.k = κ := by
  unfold ofK
  rw [List.mem_filter]
  simp only [decide_eq_true_eq]
/-- Rearranged, so that the cells of each key stay in their order. -/
structure Sbl (L L' : List Cx) : Prop where
  len : L'.length = L.length
  same : ∀ κ, ofK κ L' = ofK κ L
theorem Sbl.refl (L : List Cx) : Sbl L L := ⟨rfl, fun _ => rfl⟩
theorem Sbl.trans {A B C : List Cx} (h : Sbl A B) (g : Sbl B C) : Sbl A C := ⟨g.len.trans h.len, fun κ => (g.same κ).trans (h.same κ)⟩
theorem Sbl.append {A A' B B' : List Cx} (h : Sbl A A') (g : Sbl B B') : Sbl (A ++ B) (A' ++ B') :=
  ⟨by rw [List.length_append, List.length_append, h.len, g.len], fun κ => by rw [ofK_append, ofK_append, h.same, g.same]⟩
theorem Sbl.mem {L L' : List Cx} (h : Sbl L L') {x : Cx} : x ∈ L' ↔ x ∈ L := by
  have h1 : x ∈ ofK x.k L' ↔ x ∈ ofK x.k L := by rw [h.same]
  rw [ofK_mem, ofK_mem] at h1
  simpa using h1
/-- Two ranges with no key in common change their places. -/
theorem Sbl.cross {X Y : List Cx} (h : ∀ x ∈ X, ∀ y ∈ Y, x.k ≠ y.k) : Sbl (X ++ Y) (Y ++ X) := by
  refine ⟨by rw [List.length_append, List.length_append]; omega, fun κ => ?_⟩
  rw [ofK_append, ofK_append]
  by_cases hx : ∃ x ∈ X, x.k = κ
  · obtain ⟨x, hm, hk⟩ := hx
    have : ofK κ Y = [] := ofK_nil fun y hy e => h x hm y hy (hk.trans e.symm)
    rw [this]; simp
  · have : ofK κ X = [] := ofK_nil fun x hm hk => hx ⟨x, hm, hk⟩
    rw [this]; simp
/-- The keys do not fall. -/
def Up (L : List Cx) : Prop := L.Pairwise fun x y => kx x y ≤ 0
theorem Up.append {A B : List Cx} (ha : Up A) (hb : Up B) (h : ∀ x ∈ A, ∀ y ∈ B, kx x y ≤ 0) : Up (A ++ B) := List.pairwise_append.2 ⟨ha, hb, h⟩
theorem Up.left {A B : List Cx} (h : Up (A ++ B)) : Up A := (List.pairwise_append.1 h).1
theorem Up.right {A B : List Cx} (h : Up (A ++ B)) : Up B := (List.pairwise_append.1 h).2.1
theorem Up.over {A B : List Cx} (h : Up (A ++ B)) : ∀ x ∈ A, ∀ y ∈ B, kx x y ≤ 0 := (List.pairwise_append.1 h).2.2
/-- One cell is put among sorted ones. -/
theorem Up.insert {U V : List Cx} {x : Cx} (h : Up (U ++ V)) (hu : ∀ u ∈ U, kx u x ≤ 0) (hv : ∀ v ∈ V, kx x v ≤ 0) : Up (U ++ x :: V) := by
  refine h.left.append (List.pairwise_cons.2 ⟨hv, h.right⟩) fun u hu' y hy => ?_
  rcases List.mem_cons.1 hy with rfl | hy
  · exact hu u hu'
  · exact h.over u hu' y hy
theorem Up.last {U : List Cx} {l x : Cx} (h : Up (U ++ [l])) (hx : kx l x ≤ 0) : ∀ u ∈ U ++ [l], kx u x ≤ 0 := fun u hu => by
  rcases List.mem_append.1 hu with hu | hu
  · exact kx_t (h.over u hu l (by simp)) hx
  · obtain rfl : u = l := by simpa using hu
    exact hx
/-- Two sorted halves A0 X and Y B1 in which X stands behind Y, and A0 ahead of B1: what the rotation leaves. -/
theorem turned {A0 X Y B1 S1 S2 : List Cx} (ha : Up (A0 ++ X)) (hb : Up (Y ++ B1)) (hxy : ∀ x ∈ X, ∀ y ∈ Y, kx y x < 0) (hab : ∀ a ∈ A0, ∀ b ∈ B1, kx a b ≤ 0)
    (h1 : Sbl (A0 ++ Y) S1) (h2 : Sbl (X ++ B1) S2) (u1 : Up S1) (u2 : Up S2) : Sbl (A0 ++ X ++ (Y ++ B1)) (S1 ++ S2) ∧ Up (S1 ++ S2) := by
  constructor
  · have c : Sbl (X ++ Y) (Y ++ X) := Sbl.cross fun x hx y hy e => kx_ne (hxy x hx y hy) e.symm
    have e : Sbl (A0 ++ X ++ (Y ++ B1)) (A0 ++ Y ++ (X ++ B1)) := by
      have := ((Sbl.refl A0).append c).append (Sbl.refl B1)
      simpa [List.append_assoc] using this
    exact e.trans (h1.append h2)
  · refine u1.append u2 fun s hs t ht => ?_
    rcases List.mem_append.1 (h1.mem.1 hs) with hs | hs
    · rcases List.mem_append.1 (h2.mem.1 ht) with ht | ht
      · exact ha.over s hs t ht
      · exact hab s hs t ht
    · rcases List.mem_append.1 (h2.mem.1 ht) with ht | ht
      · have := hxy t ht s hs; omega
      · exact hb.over s hs t ht
/-- One cell ahead of sorted ones goes behind those that are less. -/
theorem moved_right {a : Cx} {U V : List Cx} (hb : Up (U ++ V)) (hu : ∀ u ∈ U, kx u a < 0) (hv : ∀ v ∈ V, kx a v ≤ 0) : Sbl (a :: (U ++ V)) (U ++ a :: V) ∧ Up (U ++ a :: V) := by
  refine ⟨?_, hb.insert (fun u h => by have := hu u h; omega) hv⟩
  have c : Sbl ([a] ++ U) (U ++ [a]) := Sbl.cross fun x hx y hy e => by
    obtain rfl : x = a := by simpa using hx
    exact kx_ne (hu y hy) e.symm
  have := c.append (Sbl.refl V)
  simpa using this
/-- One cell behind sorted ones goes ahead of those that are greater. -/
theorem moved_left {b : Cx} {U V : List Cx} (ha : Up (U ++ V)) (hu : ∀ u ∈ U, kx u b ≤ 0) (hv : ∀ v ∈ V, kx b v < 0) : Sbl (U ++ V ++ [b]) (U ++ b :: V) ∧ Up (U ++ b :: V) := by
  refine ⟨?_, ha.insert hu (fun v h => by have := hv v h; omega)⟩
  have c : Sbl (V ++ [b]) ([b] ++ V) := Sbl.cross fun x hx y hy e => by
    obtain rfl : y = b := by simpa using hy
    exact kx_ne (hv x hx) e.symm
  have := (Sbl.refl U).append c
  simpa using this
end Go.Proofs.YtglaocghcgcghaaGreatDoor
