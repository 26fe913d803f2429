/-
  SEVERAL TEXTS IN ONE: CellRead2, TellsPlain, SrtSwap, SrtRange.
-/
import Derived.Test.YtlamncldbnagmaaGreatDoorMany20
import Derived.Test.YtlamncldbnagmaaGreatDoorMany14
import Derived.Test.YtlamncldbnagmaaGreatDoorMany19
namespace Go.Proofs.YtlamncldbnagmaaGreatDoor
open Go.RowKit

def octN (l : List UInt8) : Option (UInt8 × List UInt8) := match l with | [] => none | b :: r => some (b, r)
theorem octet_any (R : Nat) (ao : Option Addr) (l : List UInt8) (cap n : Nat) (w : World) (u : TypeId) (pv : Value) (h : Ready w u pv R ao l cap n) :
    Calls Tryz.prog 202 #[.pointer (some ⟨R, 0, none⟩)] w (Reads (octN (l.drop n)) (fun b : UInt8 => .int .u8 (b.toNat : Int)) u pv w R ao l cap n) := by
  rcases Nat.lt_or_ge n l.length with hlt | hge
  · rw [List.drop_eq_getElem_cons hlt]
    have hb : l.getD n 0 = l[n] := by simp [List.getD, hlt]
    refine (octet_ok R ao l cap n w h.rd hlt).mono ?_
    rintro e w' ⟨rfl, hr, hg⟩
    exact ⟨by rw [hb], n + 1, hr, rfl, by omega, hg⟩
  · rw [List.drop_eq_nil_of_le hge]
    have := h.rd.le
    refine (octet_end R ao l cap n w u pv h.rd (by omega) h.err).mono ?_
    rintro e w' ⟨rfl, k, rfl⟩
    exact ⟨rfl, n, h.rd.drewN k, grownBy_drewN (World.grownBy.refl _ _) k⟩

def verZ : Array Value := #[.int .i64 0, .bool false, .int .i64 0, .int .i64 0, .int .i64 0, .string ⟨#[]⟩]
set_option maxRecDepth 100000 in
set_option maxHeartbeats 1600000 in
theorem version_any (R : Nat) (ao : Option Addr) (l : List UInt8) (cap n : Nat) (w : World) (u : TypeId) (pv : Value) (h : Ready w u pv R ao l cap n) :
    Calls Tryz.prog 184 #[.pointer (some ⟨R, 0, none⟩)] w (Reads (verN (l.drop n)) (fun k : VerV => .agg (verA k)) u pv w R ao l cap n) := by
  have H0 : Hid (Mid _ _ _ _ _ _ _ _ _ _ _ _) := Mid.start h 65 verZ
  have HR : Hid (R < w.heap.size) := h.rd.lt
  have Hr : Hid (Ready _ _ _ _ _ _ _ _) := h
  clear h
  unfold verZ at *
  go_enter Tryz.func184, Tryz.ntmps184
  go_wp2_with fail
  have Hc : Hid _ := signed_any R ao l cap n _ u pv H0.out.ready
  cases h1 : signN (l.drop n) with
  | none =>
    have hp : verN (l.drop n) = none := by unfold verN; simp only [h1]
    rw [h1] at Hc
    refine Calls.mono (Hid.out Hc) ?_
    rintro e w1 ⟨rfl, m, hR1, hg1⟩
    clear h1
    have HM := H0.out.call HR.out hR1 hg1
    go_wp2_with fail
    rw [hp]
    exact ⟨rfl, rfl, m, hR1, HM.grown⟩
  | some x1 =>
  obtain ⟨s1, r1⟩ := x1
  rw [h1] at Hc
  refine Calls.mono (Hid.out Hc) ?_
  rintro e w1 ⟨rfl, m1, hR1, hd1, hm1, hg1⟩
  have H1a : Hid (Mid _ _ _ _ _ _ _ _ _ _ _ _) := H0.out.call HR.out hR1 hg1
  have p0 := H1a.out.box.cell 0
  have q0 := H1a.out.box.frozen 0
  have Hh1 : Hid _ := h1
  have H1 : Hid (Mid _ _ _ _ _ _ _ _ _ _ _ _) := H1a.out.set Hr.out 0 (.int .i64 s1)
  clear Hc h1 hR1 hg1
  go_wp2_with fail
  clear p0 q0
  have Hc : Hid _ := octet_any R ao l cap m1 _ u pv H1.out.ready
  rw [hd1] at Hc
  cases r1 with
  | nil =>
    have hp : verN (l.drop n) = none := by unfold verN; simp only [Hid.out Hh1]
    refine Calls.mono (Hid.out Hc) ?_
    rintro e w2 ⟨rfl, m, hR2, hg2⟩
    have HM := H1.out.call HR.out hR2 hg2
    go_wp2_with fail
    rw [hp]
    exact ⟨rfl, rfl, m, hR2, HM.grown⟩
  | cons b r2 =>
  refine Calls.mono (Hid.out Hc) ?_
  rintro e w2 ⟨rfl, m2, hR2, hd2, hm2, hg2⟩
  have H2 : Hid (Mid _ _ _ _ _ _ _ _ _ _ _ _) := H1.out.call HR.out hR2 hg2
  clear Hc hR2 hg2
  by_cases hb0 : b = 0
  · subst hb0
    go_wp2_with fail
    have Hc : Hid _ := value_any R ao l cap m2 _ u pv H2.out.ready
    cases h3 : valN (l.drop m2) with
    | none =>
      have hp : verN (l.drop n) = none := by unfold verN; simp only [Hid.out Hh1, if_true, ← hd2, h3]
      rw [h3] at Hc
      refine Calls.mono (Hid.out Hc) ?_
      rintro e w3 ⟨rfl, m, hR3, hg3⟩
      clear h3
      have HM := H2.out.call HR.out hR3 hg3
      go_wp2_with fail
      rw [hp]
      exact ⟨rfl, rfl, m, hR3, HM.grown⟩
    | some x3 =>
    obtain ⟨⟨kind, num, s⟩, r3⟩ := x3
    rw [h3] at Hc
    refine Calls.mono (Hid.out Hc) ?_
    rintro e w3 ⟨rfl, m3, hR3, hd3, hm3, hg3⟩
    have H3a : Hid (Mid _ _ _ _ _ _ _ _ _ _ _ _) := H2.out.call HR.out hR3 hg3
    have p3 := H3a.out.box.cell 3
    have p4 := H3a.out.box.cell 4
    have p5 := H3a.out.box.cell 5
    have q3 := H3a.out.box.frozen 3
    have q4 := H3a.out.box.frozen 4
    have q5 := H3a.out.box.frozen 5
    have Hh3 : Hid _ := h3
    have H3 : Hid (Mid _ _ _ _ _ _ _ _ _ _ _ _) := ((H3a.out.set Hr.out 3 (.int .i64 kind)).set Hr.out 4 (.int .i64 num)).set Hr.out 5 (.string s)
    clear Hc h3 hR3 hg3
    have z0 := H3.out.res.cell 0
    have z1 := H3.out.res.cell 1
    have z2 := H3.out.res.cell 2
    have z3 := H3.out.res.cell 3
    have z4 := H3.out.res.cell 4
    have z5 := H3.out.res.cell 5
    have y0 := H3.out.res.frozen 0
    have y1 := H3.out.res.frozen 1
    have y2 := H3.out.res.frozen 2
    have y3 := H3.out.res.frozen 3
    have y4 := H3.out.res.frozen 4
    have y5 := H3.out.res.frozen 5
    have x0 := H3.out.box.cell 0
    have x1 := H3.out.box.cell 1
    have x2 := H3.out.box.cell 2
    have x3 := H3.out.box.cell 3
    have x4 := H3.out.box.cell 4
    have x5 := H3.out.box.cell 5
    unfold valA
    go_wp2_with fail
    have HF : Mid _ _ _ _ _ _ _ _ _ _ _ _ := (((((H3.out.put Hr.out 0 (.int .i64 s1)).put Hr.out 1 (.bool false)).put Hr.out 2 (.int .i64 0)).put Hr.out 3 (.int .i64 kind)).put Hr.out 4 (.int .i64 num)).put Hr.out 5 (.string s)
    have hp : verN (l.drop n) = some (⟨s1, false, 0, kind, num, s⟩, r3) := by unfold verN; simp only [Hid.out Hh1, if_true, ← hd2, Hid.out Hh3]
    rw [hp]
    refine bodyPost_ret (v := .agg (verA ⟨s1, false, 0, kind, num, s⟩)) (results_cell_row Tryz.results184 _ _ w.heap.size 65 _ _ _ rfl (by exact HF.res.heap) Tryz.underlying65 rfl (by kernel_rfl)) rfl ?_
    exact ⟨rfl, m3, HF.ready.rd, hd3, by omega, HF.grown⟩
  by_cases hb1 : b = 1
  · subst hb1
    have p1 := H2.out.box.cell 1
    have q1 := H2.out.box.frozen 1
    have H2b : Hid (Mid _ _ _ _ _ _ _ _ _ _ _ _) := H2.out.set Hr.out 1 (.bool true)
    go_wp2_with fail
    clear p1 q1
    have Hc : Hid _ := signed_any R ao l cap m2 _ u pv H2b.out.ready
    cases h3 : signN (l.drop m2) with
    | none =>
      have hp : verN (l.drop n) = none := by unfold verN; simp only [Hid.out Hh1, hb0, if_true, if_false, ← hd2, h3]
      rw [h3] at Hc
      refine Calls.mono (Hid.out Hc) ?_
      rintro e w3 ⟨rfl, m, hR3, hg3⟩
      clear h3
      have HM := H2b.out.call HR.out hR3 hg3
      go_wp2_with fail
      rw [hp]
      exact ⟨rfl, rfl, m, hR3, HM.grown⟩
    | some x3 =>
    obtain ⟨s3, r3⟩ := x3
    rw [h3] at Hc
    refine Calls.mono (Hid.out Hc) ?_
    rintro e w3 ⟨rfl, m3, hR3, hd3, hm3, hg3⟩
    have H3a : Hid (Mid _ _ _ _ _ _ _ _ _ _ _ _) := H2b.out.call HR.out hR3 hg3
    have p2 := H3a.out.box.cell 2
    have q2 := H3a.out.box.frozen 2
    have Hh3 : Hid _ := h3
    have H3 : Hid (Mid _ _ _ _ _ _ _ _ _ _ _ _) := H3a.out.set Hr.out 2 (.int .i64 s3)
    clear Hc h3 hR3 hg3
    have z0 := H3.out.res.cell 0
    have z1 := H3.out.res.cell 1
    have z2 := H3.out.res.cell 2
    have z3 := H3.out.res.cell 3
    have z4 := H3.out.res.cell 4
    have z5 := H3.out.res.cell 5
    have y0 := H3.out.res.frozen 0
    have y1 := H3.out.res.frozen 1
    have y2 := H3.out.res.frozen 2
    have y3 := H3.out.res.frozen 3
    have y4 := H3.out.res.frozen 4
    have y5 := H3.out.res.frozen 5
    have x0 := H3.out.box.cell 0
    have x1 := H3.out.box.cell 1
    have x2 := H3.out.box.cell 2
    have x3 := H3.out.box.cell 3
    have x4 := H3.out.box.cell 4
    have x5 := H3.out.box.cell 5
    go_wp2_with fail
    have HF : Mid _ _ _ _ _ _ _ _ _ _ _ _ := (((((H3.out.put Hr.out 0 (.int .i64 s1)).put Hr.out 1 (.bool true)).put Hr.out 2 (.int .i64 s3)).put Hr.out 3 (.int .i64 0)).put Hr.out 4 (.int .i64 0)).put Hr.out 5 (.string ⟨#[]⟩)
    have hp : verN (l.drop n) = some (⟨s1, true, s3, noVal⟩, r3) := by unfold verN; simp only [Hid.out Hh1, hb0, if_true, if_false, ← hd2, Hid.out Hh3]
    rw [hp]
    refine bodyPost_ret (v := .agg (verA ⟨s1, true, s3, noVal⟩)) (results_cell_row Tryz.results184 _ _ w.heap.size 65 _ _ _ rfl (by exact HF.res.heap) Tryz.underlying65 rfl (by kernel_rfl)) rfl ?_
    exact ⟨rfl, m3, HF.ready.rd, hd3, by omega, HF.grown⟩
  · have hp : verN (l.drop n) = none := by unfold verN; simp only [Hid.out Hh1, hb0, hb1, if_false]
    have t0 : ((b.toNat : Int) == 0) = false := by
      simp only [beq_eq_false_iff_ne, ne_eq]
      intro e
      exact hb0 (UInt8.toNat_inj.1 (by simpa using e))
    have t1 : ((b.toNat : Int) == 1) = false := by
      simp only [beq_eq_false_iff_ne, ne_eq]
      intro e
      exact hb1 (UInt8.toNat_inj.1 (by have h2 : b.toNat = 1 := (by omega); simpa using h2))
    have he := H2.out.ready.err
    unfold Err at he
    clear hb0 hb1
    go_wp2_with fail
    rw [hp]
    exact ⟨rfl, rfl, m2, H2.out.ready.rd, H2.out.grown⟩
end Go.Proofs.YtlamncldbnagmaaGreatDoor
namespace Go.Proofs.YtlamncldbnagmaaGreatDoor
open Go.RowKit

theorem xor_cancel {a b c : Nat} (h : a ^^^ c = b ^^^ c) : a = b := by
  have : (a ^^^ c) ^^^ c = (b ^^^ c) ^^^ c := by rw [h]
  simpa [Nat.xor_assoc] using this
theorem crcF_inj {a b : Nat} (ha : a < 4294967296) (hb : b < 4294967296) (h : crcF a = crcF b) : a = b := by
  have top : ∀ c : Nat, c < 4294967296 → (crcF c).testBit 31 = decide (c % 2 = 1) := by
    intro c hc
    unfold crcF
    rw [Nat.testBit_xor, Nat.testBit_lt_two_pow (show c / 2 < 2 ^ 31 by omega)]
    split
    · rename_i h1; simp [h1]; decide
    · rename_i h1; simp [h1]
  have h1 := top a ha
  rw [h, top b hb] at h1
  have hp : a % 2 = b % 2 := by
    rcases Nat.mod_two_eq_zero_or_one a with h2 | h2 <;> rcases Nat.mod_two_eq_zero_or_one b with h3 | h3 <;> simp [h2, h3] at h1 <;> omega
  unfold crcF at h
  rw [hp] at h
  have := xor_cancel h
  omega
theorem rep_lt (c : Nat) (h : c < 4294967296) : ∀ j, Nat.repeat crcF j c < 4294967296
  | 0 => h
  | j + 1 => crcF_lt _ (rep_lt c h j)
theorem rep_inj {a b : Nat} (ha : a < 4294967296) (hb : b < 4294967296) : ∀ j, Nat.repeat crcF j a = Nat.repeat crcF j b → a = b
  | 0, h => h
  | j + 1, h => rep_inj ha hb j (crcF_inj (rep_lt a ha j) (rep_lt b hb j) h)
theorem crc8 (c x : Nat) (hx : x < 256) : crcSs c x 8 = Nat.repeat crcF 8 (c ^^^ x) := by
  have h8 := crcSs_xor c x 8
  rwa [show x / 2 ^ 8 = 0 by omega, Nat.xor_zero] at h8
theorem crc8_left {a b x : Nat} (ha : a < 4294967296) (hb : b < 4294967296) (hx : x < 256) (h : crcSs a x 8 = crcSs b x 8) : a = b := by
  rw [crc8 a x hx, crc8 b x hx] at h
  exact xor_cancel (rep_inj (Nat.xor_lt_two_pow (n := 32) ha (by omega)) (Nat.xor_lt_two_pow (n := 32) hb (by omega)) 8 h)
theorem crc8_right {c x y : Nat} (hc : c < 4294967296) (hx : x < 256) (hy : y < 256) (h : crcSs c x 8 = crcSs c y 8) : x = y := by
  rw [crc8 c x hx, crc8 c y hy] at h
  have h1 := rep_inj (Nat.xor_lt_two_pow (n := 32) hc (by omega)) (Nat.xor_lt_two_pow (n := 32) hc (by omega)) 8 h
  rw [Nat.xor_comm c x, Nat.xor_comm c y] at h1
  exact xor_cancel h1
/-- The sum, over Nat. -/
def sumN (c : Nat) (l : List UInt8) : Nat := l.foldl (fun c b => crcSs c b.toNat 8) c
theorem sumN_lt (l : List UInt8) : ∀ c, c < 4294967296 → sumN c l < 4294967296 := by
  induction l with
  | nil => intro c h; exact h
  | cons b l ih => intro c h; exact ih _ (crcSs_lt c _ h 8)
theorem sumOnZ_nat (l : List UInt8) : ∀ c : Nat, c < 4294967296 → sumOnZ (c : Int) l = ((sumN c l : Nat) : Int) := by
  induction l with
  | nil => intro c _; rfl
  | cons b l ih =>
    intro c h
    show sumOnZ (byteZ (c : Int) (b.toNat : Int)) l = _
    rw [byteZ_nat c b.toNat h b.toNat_lt, ih _ (crcSs_lt c _ h 8)]
    rfl
theorem sumN_inj (l : List UInt8) : ∀ a b, a < 4294967296 → b < 4294967296 → sumN a l = sumN b l → a = b := by
  induction l with
  | nil => intro a b _ _ h; exact h
  | cons x l ih =>
    intro a b ha hb h
    exact crc8_left ha hb x.toNat_lt (ih _ _ (crcSs_lt a _ ha 8) (crcSs_lt b _ hb 8) h)
theorem sumN_byte (a b : List UInt8) (x y : UInt8) (c : Nat) (hc : c < 4294967296) (h : sumN c (a ++ x :: b) = sumN c (a ++ y :: b)) : x = y := by
  unfold sumN at h
  rw [List.foldl_append, List.foldl_append, List.foldl_cons, List.foldl_cons] at h
  have hca := sumN_lt a c hc
  have h1 := sumN_inj b _ _ (crcSs_lt _ _ hca 8) (crcSs_lt _ _ hca 8) h
  have h2 := crc8_right hca x.toNat_lt y.toNat_lt h1
  exact UInt8.toNat_inj.1 h2
/-- A byte that was changed changes the sum. -/
theorem sumZ_byte (a b : List UInt8) (x y : UInt8) (h : sumZ (a ++ x :: b) = sumZ (a ++ y :: b)) : x = y := by
  unfold sumZ at h
  have e : (4294967295 : Int) = ((4294967295 : Nat) : Int) := rfl
  rw [e, sumOnZ_nat _ _ (by decide), sumOnZ_nat _ _ (by decide)] at h
  exact sumN_byte a b x y 4294967295 (by decide) (by omega)

theorem frame_count (l : List UInt8) (hl : l.length ≤ 262144) (r : List UInt8) : unfC (frameL l ++ r) = l.length := by
  unfold unfC
  have e : (frameL l ++ r).take 4 = fourL l.length := by simp [frameL, fourL]
  rw [e, wordL_four _ (by omega)]
/-- A beginning of a frame. -/
theorem tells_cut (l : List UInt8) (hl : l.length ≤ 262144) (m : Nat) (hm : m < l.length + 8) : unfE ((frameL l).take m) = 10 := by
  have hlen : ((frameL l).take m).length = m := by rw [List.length_take, frameL_length]; omega
  unfold unfE
  rw [hlen]
  by_cases h8 : m < 8
  · rw [if_pos h8]
  · have hc : unfC ((frameL l).take m) = l.length := by
      unfold unfC
      rw [List.take_take, Nat.min_eq_left (by omega)]
      have := frame_count l hl []
      unfold unfC at this
      simpa using this
    rw [if_neg h8, hc, if_neg (by omega), if_pos (by omega)]
theorem sum_nat (l : List UInt8) : ((sumZ l).toNat : Int) = sumZ l ∧ (sumZ l).toNat < 4294967296 := by
  have := sumZ_bd l
  omega
/-- A whole frame, whatever stands behind it. -/
theorem tells_whole (l : List UInt8) (hl : l.length ≤ 262144) (r : List UInt8) : unfE (frameL l ++ r) = 0 ∧ unfN (frameL l ++ r) = l.length + 8 ∧ unfB (frameL l ++ r) = l := by
  have hc := frame_count l hl r
  have hlen : (frameL l ++ r).length = l.length + 8 + r.length := by rw [List.length_append, frameL_length]
  have hn := sum_nat (fourL l.length ++ l)
  have h4 : (frameL l ++ r).take 4 = fourL l.length := by simp [frameL, fourL]
  have h44 : ((frameL l ++ r).drop 4).take 4 = fourL (sumZ (fourL l.length ++ l)).toNat := by simp [frameL, fourL]
  have h8 : ((frameL l ++ r).drop 8).take l.length = l := by simp [frameL, fourL]
  have hE : unfE (frameL l ++ r) = 0 := by
    unfold unfE
    rw [hlen, hc, if_neg (by omega), if_neg (by omega), if_neg (by omega), h44, wordL_four _ hn.2, h4, h8, if_neg]
    intro h
    exact h hn.1
  refine ⟨hE, ?_, ?_⟩
  · unfold unfN; rw [if_pos hE, hc]; omega
  · unfold unfB; rw [if_pos hE, hc, h8]
theorem wordL_inj {a b c d a' b' c' d' : UInt8} (h : wordL [a, b, c, d] = wordL [a', b', c', d']) : a = a' ∧ b = b' ∧ c = c' ∧ d = d' := by
  have q : ∀ x : UInt8, x.toNat < 256 := fun x => x.toNat_lt
  have := q a; have := q b; have := q c; have := q d; have := q a'; have := q b'; have := q c'; have := q d'
  simp [wordL] at h
  refine ⟨UInt8.toNat_inj.1 ?_, UInt8.toNat_inj.1 ?_, UInt8.toNat_inj.1 ?_, UInt8.toNat_inj.1 ?_⟩ <;> omega
theorem wordL_set (q : List UInt8) (hq : q.length = 4) (j : Nat) (hj : j < 4) (y : UInt8) (hy : y ≠ q.getD j 0) : wordL (q.set j y) ≠ wordL q := by
  match q, hq with
  | [a, b, c, d], _ =>
    intro h
    rcases (show j = 0 ∨ j = 1 ∨ j = 2 ∨ j = 3 by omega) with rfl | rfl | rfl | rfl
    · exact hy (wordL_inj h).1
    · exact hy (wordL_inj h).2.1
    · exact hy (wordL_inj h).2.2.1
    · exact hy (wordL_inj h).2.2.2
/-- A frame one byte of which behind its count was changed. -/
theorem tells_turned (l : List UInt8) (hl : l.length ≤ 262144) (i : Nat) (hi4 : 4 ≤ i) (hi : i < l.length + 8) (y : UInt8) (hy : y ≠ (frameL l).getD i 0) : unfE ((frameL l).set i y) = 8 := by
  have hn := sum_nat (fourL l.length ++ l)
  have hlen : ((frameL l).set i y).length = l.length + 8 := by rw [List.length_set, frameL_length]
  have hc : unfC ((frameL l).set i y) = l.length := by
    unfold unfC
    rw [List.take_set_of_le (by omega)]
    have := frame_count l hl []
    unfold unfC at this
    simpa using this
  have h4 : ((frameL l).set i y).take 4 = fourL l.length := by
    rw [List.take_set_of_le (by omega)]
    simp [frameL, fourL]
  unfold unfE
  rw [hlen, hc, if_neg (by omega), if_neg (by omega), if_neg (by omega), h4, if_pos]
  generalize hS : (sumZ (fourL l.length ++ l)).toNat = S at *
  have hf : frameL l = fourL l.length ++ (fourL S ++ l) := by unfold frameL; rw [hS]
  have hp4 : (fourL l.length).length = 4 := rfl
  have hq4 : (fourL S).length = 4 := rfl
  rw [hf] at hy ⊢
  generalize fourL l.length = p at *
  have hw := wordL_four S hn.2
  generalize fourL S = q at *
  by_cases h8 : i < 8
  · have e : (p ++ (q ++ l)).set i y = p ++ (q.set (i - 4) y ++ l) := by
      rw [List.set_append_right _ _ (by omega), hp4, List.set_append_left _ _ (by omega)]
    have e1 : ((p ++ (q.set (i - 4) y ++ l)).drop 4).take 4 = q.set (i - 4) y := by
      rw [List.drop_append_of_le_length (by omega), List.drop_of_length_le (by omega), List.nil_append, List.take_append_of_le_length (by rw [List.length_set]; omega), List.take_of_length_le (by rw [List.length_set]; omega)]
    have e2 : ((p ++ (q.set (i - 4) y ++ l)).drop 8).take l.length = l := by
      rw [← List.append_assoc, List.drop_append_of_le_length (by rw [List.length_append, List.length_set]; omega), List.drop_of_length_le (by rw [List.length_append, List.length_set]; omega), List.nil_append, List.take_of_length_le (Nat.le_refl _)]
    rw [e, e1, e2, ← hn.1]
    have hy' : y ≠ q.getD (i - 4) 0 := by
      intro h
      apply hy
      rw [h]
      simp only [List.getD_eq_getElem?_getD]
      rw [List.getElem?_append_right (by omega), hp4, List.getElem?_append_left (by omega)]
    have := wordL_set q hq4 (i - 4) (by omega) y hy'
    rw [hw] at this
    omega
  · obtain ⟨j, rfl⟩ : ∃ j, i = 8 + j := ⟨i - 8, by omega⟩
    have hj : j < l.length := by omega
    have e : (p ++ (q ++ l)).set (8 + j) y = p ++ (q ++ l.set j y) := by
      rw [List.set_append_right _ _ (by omega), hp4, List.set_append_right _ _ (by omega), hq4]
      congr 3
      omega
    have e1 : ((p ++ (q ++ l.set j y)).drop 4).take 4 = q := by
      rw [List.drop_append_of_le_length (by omega), List.drop_of_length_le (by omega), List.nil_append, List.take_append_of_le_length (by omega), List.take_of_length_le (by omega)]
    have e2 : ((p ++ (q ++ l.set j y)).drop 8).take l.length = l.set j y := by
      rw [← List.append_assoc, List.drop_append_of_le_length (by rw [List.length_append]; omega), List.drop_of_length_le (by rw [List.length_append]; omega), List.nil_append, List.take_of_length_le (by rw [List.length_set]; omega)]
    rw [e, e1, e2, hw, hn.1]
    intro h
    have hy' : y ≠ l[j] := by
      intro h'
      apply hy
      rw [h']
      simp only [List.getD_eq_getElem?_getD]
      rw [List.getElem?_append_right (by omega), hp4, List.getElem?_append_right (by omega), hq4, show 8 + j - 4 - 4 = j by omega, List.getElem?_eq_getElem hj]
      rfl
    apply hy'
    have s1 : l = l.take j ++ l[j] :: l.drop (j + 1) := by rw [← List.drop_eq_getElem_cons hj, List.take_append_drop]
    have s2 : l.set j y = l.take j ++ y :: l.drop (j + 1) := by rw [List.set_eq_take_append_cons_drop, if_pos hj]
    have h3 : sumZ ((p ++ l.take j) ++ y :: l.drop (j + 1)) = sumZ ((p ++ l.take j) ++ l[j] :: l.drop (j + 1)) := by
      rw [List.append_assoc, List.append_assoc, ← s2, ← s1, h]
    exact sumZ_byte _ _ _ _ h3
/-- A byte one bit of which was turned. -/
theorem flip_text (x : UInt8) (j : Nat) (hj : j < 8) : ∃ y : UInt8, (y.toNat : Int) = bits BinOp.xor IntKind.u8 (x.toNat : Int) (2 ^ j % 256) ∧ y ≠ x := by
  have hx : x.toNat < 256 := x.toNat_lt
  have h2 : 2 ^ j ≤ 2 ^ 7 := Nat.pow_le_pow_right (by omega) (by omega)
  have h2p : 0 < 2 ^ j := Nat.pow_pos (by omega)
  have e : (2 : Int) ^ j % 256 = ((2 ^ j : Nat) : Int) := by
    have e1 : (2 : Int) ^ j = ((2 ^ j : Nat) : Int) := by simp
    rw [e1]
    generalize 2 ^ j = q at *
    omega
  have hlt : x.toNat ^^^ 2 ^ j < 256 := Nat.xor_lt_two_pow (n := 8) hx (by omega)
  refine ⟨UInt8.ofNat (x.toNat ^^^ 2 ^ j), ?_, ?_⟩
  · rw [e, u8_xor_nat _ _ hx (by omega), byte_val _ hlt]
  · intro h
    have h3 := congrArg UInt8.toNat h
    have h4 : (UInt8.ofNat (x.toNat ^^^ 2 ^ j)).toNat = x.toNat ^^^ 2 ^ j := ofNat_toNat8 _ hlt
    rw [h4] at h3
    have h5 : (2 ^ j) ^^^ x.toNat = 0 ^^^ x.toNat := by rw [Nat.xor_comm, h3]; simp
    have := xor_cancel h5
    omega
end Go.Proofs.YtlamncldbnagmaaGreatDoor
namespace Go.Proofs.YtlamncldbnagmaaGreatDoor
open Go.RowKit

/-- Two records change their places. -/
def swL (L : List Cx) (i j : Nat) : List Cx := match L[i]?, L[j]? with | some x, some y => (L.set i y).set j x | _, _ => L
theorem swL_len (L : List Cx) (i j : Nat) : (swL L i j).length = L.length := by
  unfold swL; split <;> simp
theorem swL_eq {L : List Cx} {i j : Nat} {x y : Cx} (hx : L[i]? = some x) (hy : L[j]? = some y) : swL L i j = (L.set i y).set j x := by
  unfold swL; rw [hx, hy]
def swR (a b : Nat) (L : List Cx) : Nat → List Cx
  | 0 => L
  | i + 1 => swL (swR a b L i) (a + i) (b + i)
theorem swR_len (a b : Nat) (L : List Cx) : ∀ i, (swR a b L i).length = L.length
  | 0 => rfl
  | i + 1 => by rw [swR, swL_len]; exact swR_len a b L i
/-- A row of cells at the block g. -/
def Rx (w : World) (B g cap : Nat) (L : List Cx) : Prop := w.ownsRow B 67 10 (.slice (some ⟨g, 0, none⟩) L.length cap) L.length (L.flatMap xs10)
theorem Rx.ten {w : World} {B g cap : Nat} {L : List Cx} (h : Rx w B g cap L) {i : Nat} {c : Cx} (hc : L[i]? = some c) : TenX w g (i * 10) c := by
  obtain ⟨ao, cap', e, _, hT⟩ := owns_xsees h
  obtain ⟨g', rfl, _, t⟩ := hT i c hc
  injection e with e1 _ _
  injection e1 with e2
  injection e2 with e3
  rw [e3]; exact t
/-- Ten cells, stored one by one. -/
def set10 (w : World) (g o : Nat) (c : Cx) : World := (((((((((w.setCell ⟨g, o, none⟩ (.string c.k.t)).setCell ⟨g, o + 1, none⟩ (.string c.k.p)).setCell ⟨g, o + 2, none⟩ (.int .i64 c.k.r)).setCell ⟨g, o + 3, none⟩ (.string c.k.c)).setCell ⟨g, o + 4, none⟩ (.int .i64 c.v.time)).setCell ⟨g, o + 5, none⟩ (.bool c.v.dead)).setCell ⟨g, o + 6, none⟩ (.int .i64 c.v.loc)).setCell ⟨g, o + 7, none⟩ (.int .i64 c.v.kind)).setCell ⟨g, o + 8, none⟩ (.int .i64 c.v.num)).setCell ⟨g, o + 9, none⟩ (.string c.v.s)
theorem flat_put : ∀ (L : List Cx) (i : Nat) (a a' : Cx), L[i]? = some a → ((((((((((L.flatMap xs10).set (i * 10) (.string a'.k.t)).set (i * 10 + 1) (.string a'.k.p)).set (i * 10 + 2) (.int .i64 a'.k.r)).set (i * 10 + 3) (.string a'.k.c)).set (i * 10 + 4) (.int .i64 a'.v.time)).set (i * 10 + 5) (.bool a'.v.dead)).set (i * 10 + 6) (.int .i64 a'.v.loc)).set (i * 10 + 7) (.int .i64 a'.v.kind)).set (i * 10 + 8) (.int .i64 a'.v.num)).set (i * 10 + 9) (.string a'.v.s) = (L.set i a').flatMap xs10 := by
  intro L i a a' h
  have hi := (List.getElem?_eq_some_iff.1 h).1
  have g0 : ∀ (M : List Cx) (x y : Cx) (j : Nat) (v : Value), M[i]? = some x → j < 10 → xs10 y = (xs10 x).set j v → (M.flatMap xs10).set (i * 10 + j) v = (M.set i y).flatMap xs10 := fun M x y j v hM hj hy => flat_set xs10_len M i j x y v hM hj hy
  have at' : ∀ x : Cx, (L.set i x)[i]? = some x := fun x => by simp [hi]
  have e0 := g0 L a ⟨⟨a'.k.t, a.k.p, a.k.r, a.k.c⟩, ⟨a.v.time, a.v.dead, a.v.loc, a.v.kind, a.v.num, a.v.s⟩⟩ 0 (.string a'.k.t) h (by omega) rfl
  rw [Nat.add_zero] at e0
  rw [e0]
  rw [g0 (L.set i ⟨⟨a'.k.t, a.k.p, a.k.r, a.k.c⟩, ⟨a.v.time, a.v.dead, a.v.loc, a.v.kind, a.v.num, a.v.s⟩⟩) ⟨⟨a'.k.t, a.k.p, a.k.r, a.k.c⟩, ⟨a.v.time, a.v.dead, a.v.loc, a.v.kind, a.v.num, a.v.s⟩⟩ ⟨⟨a'.k.t, a'.k.p, a.k.r, a.k.c⟩, ⟨a.v.time, a.v.dead, a.v.loc, a.v.kind, a.v.num, a.v.s⟩⟩ 1 (.string a'.k.p) (at' _) (by omega) rfl, List.set_set]
  rw [g0 (L.set i ⟨⟨a'.k.t, a'.k.p, a.k.r, a.k.c⟩, ⟨a.v.time, a.v.dead, a.v.loc, a.v.kind, a.v.num, a.v.s⟩⟩) ⟨⟨a'.k.t, a'.k.p, a.k.r, a.k.c⟩, ⟨a.v.time, a.v.dead, a.v.loc, a.v.kind, a.v.num, a.v.s⟩⟩ ⟨⟨a'.k.t, a'.k.p, a'.k.r, a.k.c⟩, ⟨a.v.time, a.v.dead, a.v.loc, a.v.kind, a.v.num, a.v.s⟩⟩ 2 (.int .i64 a'.k.r) (at' _) (by omega) rfl, List.set_set]
  rw [g0 (L.set i ⟨⟨a'.k.t, a'.k.p, a'.k.r, a.k.c⟩, ⟨a.v.time, a.v.dead, a.v.loc, a.v.kind, a.v.num, a.v.s⟩⟩) ⟨⟨a'.k.t, a'.k.p, a'.k.r, a.k.c⟩, ⟨a.v.time, a.v.dead, a.v.loc, a.v.kind, a.v.num, a.v.s⟩⟩ ⟨⟨a'.k.t, a'.k.p, a'.k.r, a'.k.c⟩, ⟨a.v.time, a.v.dead, a.v.loc, a.v.kind, a.v.num, a.v.s⟩⟩ 3 (.string a'.k.c) (at' _) (by omega) rfl, List.set_set]
  rw [g0 (L.set i ⟨⟨a'.k.t, a'.k.p, a'.k.r, a'.k.c⟩, ⟨a.v.time, a.v.dead, a.v.loc, a.v.kind, a.v.num, a.v.s⟩⟩) ⟨⟨a'.k.t, a'.k.p, a'.k.r, a'.k.c⟩, ⟨a.v.time, a.v.dead, a.v.loc, a.v.kind, a.v.num, a.v.s⟩⟩ ⟨⟨a'.k.t, a'.k.p, a'.k.r, a'.k.c⟩, ⟨a'.v.time, a.v.dead, a.v.loc, a.v.kind, a.v.num, a.v.s⟩⟩ 4 (.int .i64 a'.v.time) (at' _) (by omega) rfl, List.set_set]
  rw [g0 (L.set i ⟨⟨a'.k.t, a'.k.p, a'.k.r, a'.k.c⟩, ⟨a'.v.time, a.v.dead, a.v.loc, a.v.kind, a.v.num, a.v.s⟩⟩) ⟨⟨a'.k.t, a'.k.p, a'.k.r, a'.k.c⟩, ⟨a'.v.time, a.v.dead, a.v.loc, a.v.kind, a.v.num, a.v.s⟩⟩ ⟨⟨a'.k.t, a'.k.p, a'.k.r, a'.k.c⟩, ⟨a'.v.time, a'.v.dead, a.v.loc, a.v.kind, a.v.num, a.v.s⟩⟩ 5 (.bool a'.v.dead) (at' _) (by omega) rfl, List.set_set]
  rw [g0 (L.set i ⟨⟨a'.k.t, a'.k.p, a'.k.r, a'.k.c⟩, ⟨a'.v.time, a'.v.dead, a.v.loc, a.v.kind, a.v.num, a.v.s⟩⟩) ⟨⟨a'.k.t, a'.k.p, a'.k.r, a'.k.c⟩, ⟨a'.v.time, a'.v.dead, a.v.loc, a.v.kind, a.v.num, a.v.s⟩⟩ ⟨⟨a'.k.t, a'.k.p, a'.k.r, a'.k.c⟩, ⟨a'.v.time, a'.v.dead, a'.v.loc, a.v.kind, a.v.num, a.v.s⟩⟩ 6 (.int .i64 a'.v.loc) (at' _) (by omega) rfl, List.set_set]
  rw [g0 (L.set i ⟨⟨a'.k.t, a'.k.p, a'.k.r, a'.k.c⟩, ⟨a'.v.time, a'.v.dead, a'.v.loc, a.v.kind, a.v.num, a.v.s⟩⟩) ⟨⟨a'.k.t, a'.k.p, a'.k.r, a'.k.c⟩, ⟨a'.v.time, a'.v.dead, a'.v.loc, a.v.kind, a.v.num, a.v.s⟩⟩ ⟨⟨a'.k.t, a'.k.p, a'.k.r, a'.k.c⟩, ⟨a'.v.time, a'.v.dead, a'.v.loc, a'.v.kind, a.v.num, a.v.s⟩⟩ 7 (.int .i64 a'.v.kind) (at' _) (by omega) rfl, List.set_set]
  rw [g0 (L.set i ⟨⟨a'.k.t, a'.k.p, a'.k.r, a'.k.c⟩, ⟨a'.v.time, a'.v.dead, a'.v.loc, a'.v.kind, a.v.num, a.v.s⟩⟩) ⟨⟨a'.k.t, a'.k.p, a'.k.r, a'.k.c⟩, ⟨a'.v.time, a'.v.dead, a'.v.loc, a'.v.kind, a.v.num, a.v.s⟩⟩ ⟨⟨a'.k.t, a'.k.p, a'.k.r, a'.k.c⟩, ⟨a'.v.time, a'.v.dead, a'.v.loc, a'.v.kind, a'.v.num, a.v.s⟩⟩ 8 (.int .i64 a'.v.num) (at' _) (by omega) rfl, List.set_set]
  rw [g0 (L.set i ⟨⟨a'.k.t, a'.k.p, a'.k.r, a'.k.c⟩, ⟨a'.v.time, a'.v.dead, a'.v.loc, a'.v.kind, a'.v.num, a.v.s⟩⟩) ⟨⟨a'.k.t, a'.k.p, a'.k.r, a'.k.c⟩, ⟨a'.v.time, a'.v.dead, a'.v.loc, a'.v.kind, a'.v.num, a.v.s⟩⟩ ⟨⟨a'.k.t, a'.k.p, a'.k.r, a'.k.c⟩, ⟨a'.v.time, a'.v.dead, a'.v.loc, a'.v.kind, a'.v.num, a'.v.s⟩⟩ 9 (.string a'.v.s) (at' _) (by omega) rfl, List.set_set]
theorem Rx.put {w : World} {B g cap : Nat} {L : List Cx} (h : Rx w B g cap L) {i : Nat} {a : Cx} (ha : L[i]? = some a) (a' : Cx) : Rx (set10 w g (i * 10) a') B g cap (L.set i a') ∧ w.grownBy (set10 w g (i * 10) a') (some g) := by
  have h0 : w.ownsRow B 67 10 (.slice (some ⟨g, 0, none⟩) L.length cap) L.length (L.flatMap xs10) := h
  have h1 := (((((((((h0.stored (i * 10) (.string a'.k.t)).1.stored (i * 10 + 1) (.string a'.k.p)).1.stored (i * 10 + 2) (.int .i64 a'.k.r)).1.stored (i * 10 + 3) (.string a'.k.c)).1.stored (i * 10 + 4) (.int .i64 a'.v.time)).1.stored (i * 10 + 5) (.bool a'.v.dead)).1.stored (i * 10 + 6) (.int .i64 a'.v.loc)).1.stored (i * 10 + 7) (.int .i64 a'.v.kind)).1.stored (i * 10 + 8) (.int .i64 a'.v.num)).1.stored (i * 10 + 9) (.string a'.v.s) |>.1
  rw [flat_put L i a a' ha] at h1
  refine ⟨?_, ?_⟩
  · unfold Rx
    rw [List.length_set]
    exact h1
  · exact grownBy_setCell (grownBy_setCell (grownBy_setCell (grownBy_setCell (grownBy_setCell (grownBy_setCell (grownBy_setCell (grownBy_setCell (grownBy_setCell (grownBy_setCell ⟨rfl, rfl, rfl, Nat.le_refl _, fun _ _ _ => rfl⟩)))))))))
end Go.Proofs.YtlamncldbnagmaaGreatDoor
namespace Go.Proofs.YtlamncldbnagmaaGreatDoor
open Go.RowKit

theorem Rx.drew {w : World} {B g cap : Nat} {L : List Cx} (h : Rx w B g cap L) : Rx w.drew B g cap L := h
theorem grown_drew {w w' : World} {r : Option Nat} (h : w.grownBy w' r) : w.grownBy w'.drew r := ⟨h.os, h.tape, h.output, h.size, h.block⟩
end Go.Proofs.YtlamncldbnagmaaGreatDoor
