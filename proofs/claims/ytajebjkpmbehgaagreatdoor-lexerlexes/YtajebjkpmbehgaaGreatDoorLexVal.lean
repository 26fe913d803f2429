/-
  PLAIN: what digits are worth; what is written as a number or a quoted text is one token.
-/
import Derived.Test.YtajebjkpmbehgaaGreatDoorLexJoin
import Derived.Lib.ItoaNum
namespace Go.Proofs.YtajebjkpmbehgaaGreatDoor
open Go.RowKit

/-- What digits are worth behind others. -/
def vS (acc : Nat) (c : UInt8) : Nat := acc * 10 + (c.toNat - 48)
def vN (acc : Nat) (l : List UInt8) : Nat := l.foldl vS acc
theorem vN_nil (a : Nat) : vN a [] = a := rfl
theorem vN_cons' (a : Nat) (c : UInt8) (r : List UInt8) : vN a (c :: r) = vN (vS a c) r := by unfold vN; rw [List.foldl_cons]
theorem vN_cons (a : Nat) (c : UInt8) (r : List UInt8) : vN a (c :: r) = vN (a * 10 + (c.toNat - 48)) r := by
  rw [vN_cons']
  unfold vS
  rfl
theorem vN_ge (l : List UInt8) : ∀ acc : Nat, acc ≤ vN acc l := by
  induction l with
  | nil => exact fun acc => Nat.le_refl _
  | cons c r ih =>
    intro acc
    rw [vN_cons]
    refine Nat.le_trans ?_ (ih _)
    generalize c.toNat - 48 = d
    omega
theorem vN_app : ∀ (a b : List UInt8) (acc : Nat), vN acc (a ++ b) = vN (vN acc a) b
  | [], _, _ => rfl
  | c :: r, b, acc => by rw [List.cons_append, vN_cons, vN_cons]; exact vN_app r b _
theorem dgB_iff (c : UInt8) : dgB c = true ↔ 48 ≤ c.toNat ∧ c.toNat ≤ 57 := by unfold dgB; rw [decide_eq_true_eq]
theorem parse_val : ∀ (l : List UInt8) (acc : Nat), acc < 18446744073709551616 → (∀ c ∈ l, dgB c = true) → Lib.parseUint10 acc l = if vN acc l < 18446744073709551616 then .ok (vN acc l) else .range
  | [], acc, ha, _ => by rw [vN_nil, if_pos ha]; rfl
  | c :: r, acc, ha, h => by
    have hc := (dgB_iff c).1 (h c (by simp))
    have hge := vN_ge r (acc * 10 + (c.toNat - 48))
    rw [vN_cons, Lib.parseUint10, if_pos hc]
    split
    · rw [if_neg (by omega)]
    · split
      · rw [if_neg (by omega)]
      · exact parse_val r _ (by omega) (fun c hc => h c (by simp [hc]))
/-- The number that digits tell, with a sign or without. -/
def valI (neg : Bool) (v : Nat) : Lib.NumEnd Int := if neg then (if v ≤ 9223372036854775808 then .ok (-(v : Int)) else .range) else if v < 9223372036854775808 then .ok v else .range
theorem atoi_pos (l : List UInt8) (hn : l ≠ []) (h : ∀ c ∈ l, dgB c = true) : Lib.atoiAll l = valI false (vN 0 l) := by
  cases l with
  | nil => exact absurd rfl hn
  | cons c r =>
    have hc := (dgB_iff c).1 (h c (by simp))
    simp only [Lib.atoiAll]
    rw [if_neg (show ¬ (c.toNat = 43 ∨ c.toNat = 45) by omega)]
    unfold Lib.parseMag
    rw [if_neg (by simp), parse_val (c :: r) 0 (by omega) h]
    generalize vN 0 (c :: r) = v
    unfold valI
    have h45 : ¬ c.toNat = 45 := by omega
    simp only [Bool.false_eq_true, if_false, h45, false_and, not_false_eq_true, true_and]
    by_cases h1 : v < 18446744073709551616
    · rw [if_pos h1]
      simp only
      by_cases h2 : v < 9223372036854775808
      · rw [if_neg (by omega), if_pos h2]
      · rw [if_pos (by omega), if_neg h2]
    · rw [if_neg h1, if_neg (by omega)]
theorem atoi_neg (l : List UInt8) (hn : l ≠ []) (h : ∀ c ∈ l, dgB c = true) : Lib.atoiAll (45 :: l) = valI true (vN 0 l) := by
  have e45 : (45 : UInt8).toNat = 45 := rfl
  simp only [Lib.atoiAll]
  rw [if_pos (show ((45 : UInt8).toNat = 43 ∨ (45 : UInt8).toNat = 45) by omega)]
  unfold Lib.parseMag
  rw [if_neg hn, parse_val l 0 (by omega) h]
  generalize vN 0 l = v
  unfold valI
  simp only [if_true, e45, not_true, false_and, if_false, true_and]
  by_cases h1 : v < 18446744073709551616
  · rw [if_pos h1]
    simp only
    by_cases h2 : v ≤ 9223372036854775808
    · rw [if_neg (by omega), if_pos h2]
    · rw [if_pos (by omega), if_neg h2]
  · rw [if_neg h1, if_neg (by omega)]
theorem vN_noughts (l : List UInt8) : ∀ z : Nat, vN 0 (List.replicate z 48 ++ l) = vN 0 l
  | 0 => rfl
  | z + 1 => by
    rw [List.replicate_succ, List.cons_append, vN_cons]
    exact vN_noughts l z
theorem dec_vN : ∀ (n u : Nat), u < n → vN 0 (Lib.decDigits u) = u
  | 0, _, h => absurd h (Nat.not_lt_zero _)
  | n + 1, u, h => by
    by_cases hs : u < 10
    · rw [Lib.decDigits, dif_pos hs, vN_cons, vN_nil, UInt8.toNat_ofNat']
      omega
    · rw [Lib.decDigits, dif_neg hs, vN_app, dec_vN n (u / 10) (by omega), vN_cons, vN_nil, UInt8.toNat_ofNat']
      omega
theorem dec_dg : ∀ (n u : Nat), u < n → Lib.decDigits u ≠ [] ∧ ∀ c ∈ Lib.decDigits u, dgB c = true
  | 0, _, h => absurd h (Nat.not_lt_zero _)
  | n + 1, u, h => by
    by_cases hs : u < 10
    · rw [Lib.decDigits, dif_pos hs]
      refine ⟨by simp, fun c hc => ?_⟩
      rw [List.mem_singleton] at hc
      subst hc
      rw [dgB_iff, UInt8.toNat_ofNat']
      omega
    · rw [Lib.decDigits, dif_neg hs]
      refine ⟨by simp, fun c hc => ?_⟩
      rw [List.mem_append, List.mem_singleton] at hc
      rcases hc with hc | rfl
      · exact (dec_dg n (u / 10) (by omega)).2 c hc
      · rw [dgB_iff, UInt8.toNat_ofNat']
        omega
/-- Digits with a _ ahead of some. -/
def brk (f : Nat → Bool) : Nat → List UInt8 → List UInt8
  | _, [] => []
  | i, c :: r => (if f i then 95 :: c :: brk f (i + 1) r else c :: brk f (i + 1) r)
theorem brk_ok (f : Nat → Bool) : ∀ (l : List UInt8) (i : Nat), (∀ c ∈ l, dgB c = true) → dgN true (brk f i l) = (brk f i l).length ∧ (brk f i l).filter (fun b => !decide (b.toNat = 95)) = l ∧ (brk f i l).length ≤ 2 * l.length
  | [], i, _ => by simp [brk, dgN]
  | c :: r, i, h => by
    obtain ⟨h1, h2, h3⟩ := brk_ok f r (i + 1) (fun c hc => h c (by simp [hc]))
    have hc := h c (by simp)
    have hcz := (dgB_iff c).1 hc
    have e95 : dgB 95 = false := rfl
    have c95 : decide (c.toNat = 95) = false := decide_eq_false (by omega)
    have hd : ∀ b, dgN b (c :: brk f (i + 1) r) = (brk f (i + 1) r).length + 1 := fun b => by rw [dgN, if_pos hc, h1]
    have hf : (c :: brk f (i + 1) r).filter (fun b => !decide (b.toNat = 95)) = c :: r := by
      rw [List.filter_cons, if_pos (by rw [c95]; rfl), h2]
    simp only [brk]
    split
    · refine ⟨?_, ?_, by simp only [List.length_cons]; omega⟩
      · rw [dgN, hd false, e95]
        simp
      · rw [List.filter_cons, if_neg (by simp), hf]
    · exact ⟨by rw [hd]; rfl, hf, by simp only [List.length_cons]; omega⟩
/-- One token that is the whole text. -/
theorem lex_one {l : List UInt8} {t : Tk} {m : Nat} (hl : l.length ≤ 600) (h : nxT l 0 = (some t, m)) (hk : t.kind ≠ 0) (he : t.e = l.length) : lexT l = (some [t, ⟨0, [], 0, 0, [], l.length, l.length⟩], 0, 0) := by
  have h2 : nxT l l.length = (some ⟨0, [], 0, 0, [], l.length, l.length⟩, 0) := by
    have h0 : l.drop l.length = [] := List.drop_eq_nil_of_le (Nat.le_refl _)
    unfold nxT
    simp only [h0, skB, Nat.add_zero, oneT, Option.map_some, Option.isSome_some, if_true]
    simp [Tk.at]
  have hpos : 0 < l.length := by
    have := ((nxT_ok l 0 (Nat.zero_le _)).1 t m h).1.more hk
    omega
  obtain ⟨n, hn⟩ : ∃ n, l.length = n + 1 := ⟨l.length - 1, by omega⟩
  unfold lexT
  rw [if_neg (by omega), show l.length + 1 = (n + 1) + 1 by omega]
  simp only [lxT]
  rw [h]
  simp only
  rw [if_neg hk, he, h2]
  simp
/-- A number's text, whole. -/
theorem lex_num (neg : Bool) (u : List UInt8) (c : UInt8) (r : List UInt8) (hu : u = c :: r) (hc : dgB c = true) (hd : dgN false u = u.length) (hl : u.length ≤ 599) {v : Int}
    (hv : Lib.atoiAll ((if neg then [45] else []) ++ u.filter (fun b => !decide (b.toNat = 95))) = .ok v) :
    lexT ((if neg then [45] else []) ++ u) = (some [⟨4, [], 1, v, [], 0, ((if neg then [45] else []) ++ u : List UInt8).length⟩, ⟨0, [], 0, 0, [], ((if neg then [45] else []) ++ u : List UInt8).length, ((if neg then [45] else []) ++ u : List UInt8).length⟩], 0, 0) := by
  have hcz := (dgB_iff c).1 hc
  have hb : blB c = false := decide_eq_false (by omega)
  have h45 : decide (c.toNat = 45) = false := decide_eq_false (by omega)
  have e45 : (45 : UInt8).toNat = 45 := rfl
  have b45 : blB 45 = false := rfl
  have hnum : numT ((if neg then [45] else []) ++ u) = (some ⟨4, [], 1, v, [], 0, ((if neg then [45] else []) ++ u : List UInt8).length⟩, 0) := by
    cases neg
    · simp only [Bool.false_eq_true, if_false, List.nil_append] at hv ⊢
      unfold numT
      have hds : dash u = false := by rw [hu]; exact h45
      simp only [hds, Bool.false_eq_true, if_false, List.drop_zero, hd, Nat.zero_add, List.take_length, hv]
    · simp only [if_true, List.singleton_append] at hv ⊢
      unfold numT
      have hds : dash (45 :: u) = true := rfl
      simp only [hds, if_true, List.drop_succ_cons, List.drop_zero, hd]
      have e1 : 1 + u.length = (45 :: u).length := by simp; omega
      rw [e1, List.take_length]
      have e2 : (45 :: u).filter (fun b => !decide (b.toNat = 95)) = 45 :: u.filter (fun b => !decide (b.toNat = 95)) := by
        rw [List.filter_cons, if_pos (by simp)]
      rw [e2, hv]
  refine lex_one (by cases neg <;> simp <;> omega) (m := 0) ?_ (by simp) rfl
  have hone : oneT ((if neg then [45] else []) ++ u) = numT ((if neg then [45] else []) ++ u) := by
    cases neg
    · simp only [Bool.false_eq_true, if_false, List.nil_append]
      rw [hu]
      simp only [oneT, hc, Bool.true_or, if_true]
    · simp only [if_true, List.singleton_append, oneT, e45, decide_true, Bool.or_true]
  have hsk : skB false ((if neg then [45] else []) ++ u) = 0 := by
    cases neg
    · simp only [Bool.false_eq_true, if_false, List.nil_append]
      rw [hu]
      simp [skB, hb, h45]
    · have hds : dash u = false := by rw [hu]; exact h45
      simp [skB, b45, hds]
  unfold nxT
  simp only [List.drop_zero, Nat.zero_add, hsk, hone, hnum, Option.map_some, Option.isSome_some, if_true]
  simp [Tk.at]

/-! Quoted texts. -/
def hexU (n : Nat) : UInt8 := if n < 10 then UInt8.ofNat (48 + n) else UInt8.ofNat (55 + n)
def qB (b : UInt8) : List UInt8 := if plB b then [b] else [37, hexU (b.toNat / 16), hexU (b.toNat % 16)]
theorem hexB_U {n : Nat} (h : n < 16) : hexB (hexU n) = some n := by
  unfold hexB hexU
  split
  · rw [UInt8.toNat_ofNat', if_pos (by omega)]
    congr 1
    omega
  · rw [UInt8.toNat_ofNat', if_neg (by omega), if_pos (by omega)]
    congr 1
    omega
theorem plB_iff (b : UInt8) : plB b = true ↔ 32 ≤ b.toNat ∧ b.toNat ≤ 126 ∧ b.toNat ≠ 39 ∧ b.toNat ≠ 37 := by unfold plB; rw [decide_eq_true_eq]
theorem qtR_skip : ∀ (x t : List UInt8) (k : Nat), qtR x.length k (x ++ t) = ((qtR 0 k t).1, (qtR 0 k t).2 + x.length)
  | [], t, k => rfl
  | c :: x, t, k => by
    rw [List.cons_append, List.length_cons, qtR, qtR_skip x t k]
    simp only [Prod.mk.injEq, true_and]
    omega
theorem qtR_q (b : UInt8) (t : List UInt8) (k : Nat) : qtR 0 k (qB b ++ t) = if k = 64 then (none, 0) else ((qtR 0 (k + 1) t).1.map (b :: ·), (qtR 0 (k + 1) t).2 + (qB b).length) := by
  have hb := b.toNat_lt
  by_cases hp : plB b = true
  · have hpz := (plB_iff b).1 hp
    have hq : qB b = [b] := by unfold qB; rw [if_pos hp]
    rw [hq, List.singleton_append, qtR, if_neg hpz.2.2.1]
    simp only [chB, hp, if_true]
    rfl
  · have hq : qB b = [37, hexU (b.toNat / 16), hexU (b.toNat % 16)] := by unfold qB; rw [if_neg hp]
    have hch : chB (37 :: ([hexU (b.toNat / 16), hexU (b.toNat % 16)] ++ t)) = some (b, 3) := by
      simp only [chB, List.cons_append, List.nil_append]
      rw [if_neg (by decide), if_pos (show (37 : UInt8).toNat = 37 from rfl)]
      simp only [hexB_U (show b.toNat / 16 < 16 by omega), hexB_U (show b.toNat % 16 < 16 by omega)]
      congr 2
      rw [show 16 * (b.toNat / 16) + b.toNat % 16 = b.toNat by omega, UInt8.ofNat_toNat]
    rw [hq, List.cons_append, qtR, if_neg (by decide), hch]
    simp only
    split
    · rfl
    · have := qtR_skip [hexU (b.toNat / 16), hexU (b.toNat % 16)] t (k + 1)
      rw [show (3 - 1 : Nat) = [hexU (b.toNat / 16), hexU (b.toNat % 16)].length from rfl, this]
      simp
theorem qtR_text : ∀ (s : List UInt8) (k : Nat), k ≤ 64 → qtR 0 k (s.flatMap qB ++ [39]) = if k + s.length ≤ 64 then (some s, (s.flatMap qB).length + 1) else (none, ((s.take (64 - k)).flatMap qB).length)
  | [], k, h => by
    rw [if_pos (by simpa using h)]
    simp [qtR]
  | b :: r, k, h => by
    rw [List.flatMap_cons, List.append_assoc, qtR_q]
    by_cases hk : k = 64
    · rw [if_pos hk, if_neg (by simp; omega), hk]
      simp
    · rw [if_neg hk, qtR_text r (k + 1) (by omega)]
      simp only [List.length_cons, List.length_append]
      by_cases hl : k + 1 + r.length ≤ 64
      · rw [if_pos hl, if_pos (by omega)]
        simp only [Option.map_some, Prod.mk.injEq, true_and]
        omega
      · rw [if_neg hl, if_neg (by omega)]
        obtain ⟨m, hm⟩ : ∃ m, 64 - k = m + 1 := ⟨63 - k, by omega⟩
        have hm2 : 64 - (k + 1) = m := by omega
        rw [hm, hm2, List.take_succ_cons, List.flatMap_cons, List.length_append]
        simp only [Option.map_none, Prod.mk.injEq, true_and]
        omega
/-- A text as it is quoted. -/
def quT (s : List UInt8) : List UInt8 := 39 :: (s.flatMap qB ++ [39])
theorem qB_len (b : UInt8) : (qB b).length ≤ 3 := by unfold qB; split <;> simp
theorem quo_len : ∀ s : List UInt8, (s.flatMap qB).length ≤ 3 * s.length
  | [] => by simp
  | b :: r => by
    have h1 := quo_len r
    have h2 := qB_len b
    rw [List.flatMap_cons, List.length_append, List.length_cons]
    omega
theorem quT_len (s : List UInt8) : (quT s).length = (s.flatMap qB).length + 2 := by simp [quT]
theorem quT_nx (s : List UInt8) : nxT (quT s) 0 = if s.length ≤ 64 then (some ⟨4, [], 2, 0, s, 0, (quT s).length⟩, 0) else (none, 1 + ((s.take 64).flatMap qB).length) := by
  have hq := qtR_text s 0 (by omega)
  have hsk : skB false (quT s) = 0 := rfl
  have hone : oneT (quT s) = qtT (s.flatMap qB ++ [39]) := by
    unfold quT
    simp only [oneT]
    rw [if_neg (by decide), if_pos (show (39 : UInt8).toNat = 39 from rfl)]
  unfold nxT
  simp only [List.drop_zero, Nat.zero_add, hsk, hone]
  unfold qtT
  rw [hq, Nat.zero_add]
  by_cases h : s.length ≤ 64
  · rw [if_pos h, if_pos h]
    simp [Tk.at, quT_len]
  · rw [if_neg h, if_neg h]
    simp
    omega
theorem lex_quT (s : List UInt8) (h : s.length ≤ 64) : lexT (quT s) = (some [⟨4, [], 2, 0, s, 0, (quT s).length⟩, ⟨0, [], 0, 0, [], (quT s).length, (quT s).length⟩], 0, 0) := by
  have hf := quo_len s
  have hn := quT_nx s
  rw [if_pos h] at hn
  exact lex_one (by rw [quT_len]; omega) hn (by simp) rfl
theorem lex_quT_long (s : List UInt8) (h : 64 < s.length) (h2 : s.length ≤ 150) : lexT (quT s) = (none, 1 + ((s.take 64).flatMap qB).length, 11) := by
  have hf := quo_len s
  have hn := quT_nx s
  rw [if_neg (by omega)] at hn
  unfold lexT
  rw [if_neg (by rw [quT_len]; omega)]
  simp only [lxT]
  rw [hn]
end Go.Proofs.YtajebjkpmbehgaaGreatDoor
