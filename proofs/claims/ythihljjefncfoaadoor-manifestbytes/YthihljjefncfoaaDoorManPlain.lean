/-
  PLAIN: a manifest, its bytes, and the manifest that bytes tell; no program.
-/
import Derived.Test.YthihljjefncfoaaDoorBlmCanon
import Derived.Test.YthihljjefncfoaaDoorTellsPlain
namespace Go.Proofs.YthihljjefncfoaaDoor
open Go.RowKit

/-- A manifest, without its memory. -/
structure Mf where
  ts : List Int
  nx : Int
  fr : Int
def possZ (n : Int) : Bool := decide (1 ≤ n) && decide (n ≤ 999999999)
theorem possZ_iff {n : Int} : possZ n = true ↔ 1 ≤ n ∧ n ≤ 999999999 := by simp [possZ]
/-- May the i-th table be? -/
def okT (ts : List Int) (nx : Int) (i : Nat) : Bool := decide (1 ≤ ts.getD i 0) && decide (ts.getD i 0 < nx) && !((ts.take i).contains (ts.getD i 0))
/-- P13.1. -/
def goodM (m : Mf) : Bool := possZ m.nx && possZ m.fr && decide (m.ts.length ≤ 30) && (List.range m.ts.length).all (okT m.ts m.nx)
theorem goodM_iff {m : Mf} : goodM m = true ↔ (1 ≤ m.nx ∧ m.nx ≤ 999999999) ∧ (1 ≤ m.fr ∧ m.fr ≤ 999999999) ∧ m.ts.length ≤ 30 ∧ ∀ i, i < m.ts.length → okT m.ts m.nx i = true := by
  unfold goodM
  rw [Bool.and_eq_true, Bool.and_eq_true, Bool.and_eq_true, possZ_iff, possZ_iff, decide_eq_true_eq, List.all_eq_true]
  simp only [List.mem_range, and_assoc]
def listM (m : Mf) : List Int := m.nx :: m.fr :: (m.ts.length : Int) :: m.ts
def numsB (l : List Int) : List UInt8 := l.flatMap fun n => numL n.toNat
def contM (m : Mf) : List UInt8 := numsB (listM m)
/-- P13.2, a manifest in bytes. -/
def encM (m : Mf) : List UInt8 := frameL (contM m)
def Bdd (l : List Int) : Prop := ∀ n ∈ l, 0 ≤ n ∧ n ≤ 999999999
theorem Bdd.cons {n : Int} {l : List Int} (h : Bdd (n :: l)) : (0 ≤ n ∧ n ≤ 999999999) ∧ Bdd l := ⟨h n (by simp), fun x hx => h x (List.mem_cons_of_mem _ hx)⟩
theorem good_bdd {m : Mf} (h : goodM m = true) : Bdd (listM m) := by
  obtain ⟨h1, h2, h3, h4⟩ := goodM_iff.1 h
  intro n hn
  simp only [listM, List.mem_cons] at hn
  rcases hn with rfl | rfl | rfl | hn
  · omega
  · omega
  · omega
  · obtain ⟨i, hi, rfl⟩ := List.getElem_of_mem hn
    have := h4 i hi
    unfold okT at this
    rw [Bool.and_eq_true, Bool.and_eq_true, decide_eq_true_eq, decide_eq_true_eq, List.getD_eq_getElem?_getD, List.getElem?_eq_getElem hi] at this
    simp only [Option.getD_some] at this
    omega
theorem numsB_nil : numsB [] = [] := rfl
theorem numsB_cons (n : Int) (l : List Int) : numsB (n :: l) = numL n.toNat ++ numsB l := rfl
theorem numsB_app (a b : List Int) : numsB (a ++ b) = numsB a ++ numsB b := List.flatMap_append
theorem numsB_len (l : List Int) : (numsB l).length ≤ 10 * l.length := by
  induction l with
  | nil => simp [numsB]
  | cons n l ih =>
    have := numL_length n.toNat
    rw [numsB_cons, List.length_append, List.length_cons]; omega
theorem contM_len (m : Mf) : (contM m).length ≤ 10 * (m.ts.length + 3) := by
  have := numsB_len (listM m)
  simp only [listM, List.length_cons] at this
  unfold contM listM; omega
theorem good_len {m : Mf} (h : goodM m = true) : (contM m).length ≤ 330 := by
  obtain ⟨h1, h2, h3, h4⟩ := goodM_iff.1 h
  have := contM_len m
  omega
theorem encM_len (m : Mf) : (encM m).length = (contM m).length + 8 := frameL_length _
theorem numsB_ne {n : Int} {l : List Int} : numsB (n :: l) ≠ [] := fun e => by
  have := numL_length n.toNat
  rw [numsB_cons] at e
  have h2 := congrArg List.length e
  rw [List.length_append] at h2
  simp only [List.length_nil] at h2
  omega
theorem numsB_get {n : Int} (h : 0 ≤ n ∧ n ≤ 999999999) (r : List UInt8) : getN 0 0 (numL n.toNat ++ r) = some (n.toNat, r) := get_back n.toNat (by omega) r
/-- Numbers' bytes begin with the same numbers. -/
theorem numsB_pre : ∀ (l l' : List Int) (r : List UInt8), Bdd l → Bdd l' → numsB l ++ r = numsB l' → ∃ l'', l' = l ++ l'' ∧ r = numsB l''
  | [], l', r, _, _, h => ⟨l', rfl, h⟩
  | n :: l, [], r, _, _, h => by
    exfalso
    have h2 : numsB (n :: l) = [] := (List.append_eq_nil_iff.1 (by rw [numsB_nil] at h; exact h)).1
    exact numsB_ne h2
  | n :: l, n' :: l', r, hl, hl', h => by
    obtain ⟨hn, hl⟩ := hl.cons
    obtain ⟨hn', hl'⟩ := hl'.cons
    rw [numsB_cons, numsB_cons, List.append_assoc] at h
    have e1 := numsB_get hn (numsB l ++ r)
    rw [h, numsB_get hn'] at e1
    simp only [Option.some.injEq, Prod.mk.injEq] at e1
    obtain ⟨e1, e2⟩ := e1
    obtain ⟨l'', e3, e4⟩ := numsB_pre l l' r hl hl' e2.symm
    exact ⟨l'', by rw [e3, show n' = n by omega]; rfl, e4⟩
theorem numsB_inj {l l' : List Int} (hl : Bdd l) (hl' : Bdd l') (h : numsB l = numsB l') : l = l' := by
  obtain ⟨l'', e1, e2⟩ := numsB_pre l l' [] hl hl' (by rw [List.append_nil]; exact h)
  cases l'' with
  | nil => rw [e1, List.append_nil]
  | cons n t => exact absurd e2.symm numsB_ne
/-- What does not go on with a number ends no numbers' bytes. -/
theorem numsB_stop {l l' : List Int} {r : List UInt8} (hl : Bdd l) (hl' : Bdd l') (h : numsB l ++ r = numsB l') (hr : r ≠ []) : getK r ≠ 0 ∧ getV r ≤ 999999999 := by
  obtain ⟨l'', rfl, e2⟩ := numsB_pre l l' r hl hl' h
  cases l'' with
  | nil => exact absurd e2 hr
  | cons n t =>
    have hn : 0 ≤ n ∧ n ≤ 999999999 := hl' n (by simp)
    have hg := numsB_get hn (numsB t)
    rw [numsB_cons] at e2
    have := numL_length n.toNat
    rw [e2]
    unfold getK getV
    rw [hg]
    dsimp only
    rw [List.length_append]
    omega

/-! ### the program's reading -/
def tkV (c : List UInt8) : Nat := min (getV c) 1000000000
def tkR (c : List UInt8) : List UInt8 := c.drop (getK c)
def tks : Nat → List UInt8 → List Int
  | 0, _ => []
  | k + 1, c => (tkV c : Int) :: tks k (tkR c)
def tkRs : Nat → List UInt8 → List UInt8
  | 0, c => c
  | k + 1, c => tkRs k (tkR c)
theorem tks_len (k : Nat) : ∀ c, (tks k c).length = k := by
  induction k with
  | zero => intro c; rfl
  | succ k ih => intro c; simp [tks, ih]
theorem tks_snoc (k : Nat) : ∀ c, tks (k + 1) c = tks k c ++ [(tkV (tkRs k c) : Int)] ∧ tkRs (k + 1) c = tkR (tkRs k c) := by
  induction k with
  | zero => intro c; exact ⟨rfl, rfl⟩
  | succ k ih =>
    intro c
    have := ih (tkR c)
    refine ⟨?_, this.2⟩
    show (tkV c : Int) :: tks (k + 1) (tkR c) = _
    rw [this.1]; rfl
theorem tkR_len (c : List UInt8) : (tkR c).length ≤ c.length := by unfold tkR; rw [List.length_drop]; omega
theorem tkRs_len (k : Nat) : ∀ c, (tkRs k c).length ≤ c.length := by
  induction k with
  | zero => intro c; exact Nat.le_refl _
  | succ k ih => intro c; have := ih (tkR c); have := tkR_len c; show (tkRs k (tkR c)).length ≤ _; omega
def numM (c : List UInt8) : Mf := ⟨tks (min (tkV (tkR (tkR c))) 31) (tkR (tkR (tkR c))), (tkV c : Int), (tkV (tkR c) : Int)⟩
theorem tk_num {n : Int} (h : 0 ≤ n ∧ n ≤ 999999999) (r : List UInt8) : (tkV (numL n.toNat ++ r) : Int) = n ∧ tkR (numL n.toNat ++ r) = r := by
  have hg := numsB_get h r
  have h1 : getV (numL n.toNat ++ r) = n.toNat := by unfold getV; rw [hg]
  have h2 : getK (numL n.toNat ++ r) = (numL n.toNat).length := by unfold getK; rw [hg]; dsimp only; rw [List.length_append]; omega
  unfold tkV tkR
  rw [h1, h2, List.drop_left]
  refine ⟨by omega, rfl⟩
theorem tks_nums : ∀ (l : List Int) (r : List UInt8), Bdd l → tks l.length (numsB l ++ r) = l
  | [], _, _ => rfl
  | n :: l, r, h => by
    obtain ⟨hn, hl⟩ := h.cons
    rw [numsB_cons, List.append_assoc]
    obtain ⟨e1, e2⟩ := tk_num hn (numsB l ++ r)
    show (tkV _ : Int) :: tks l.length (tkR _) = _
    rw [e1, e2, tks_nums l r hl]
theorem numM_cont {m : Mf} (h : goodM m = true) : numM (contM m) = m := by
  have hb := good_bdd h
  obtain ⟨h1, h2, h3, h4⟩ := goodM_iff.1 h
  obtain ⟨ts, nx, fr⟩ := m
  dsimp only at h1 h2 h3
  obtain ⟨b1, hb⟩ := hb.cons
  obtain ⟨b2, hb⟩ := hb.cons
  obtain ⟨b3, hb⟩ := hb.cons
  have e : contM ⟨ts, nx, fr⟩ = numL nx.toNat ++ (numL fr.toNat ++ (numL (ts.length : Int).toNat ++ (numsB ts ++ []))) := by rw [List.append_nil]; rfl
  unfold numM
  rw [e, (tk_num b1 _).2, (tk_num b2 _).2, (tk_num b3 _).2, (tk_num b1 _).1, (tk_num b2 _).1]
  have h5 := (tk_num b3 (numsB ts ++ [])).1
  have h6 : min (tkV (numL (ts.length : Int).toNat ++ (numsB ts ++ []))) 31 = ts.length := by dsimp only at h5; omega
  rw [h6, tks_nums ts [] hb]
/-- P13.2, the manifest that bytes tell. -/
def rdM (b : List UInt8) : Option Mf := if unfE b = 0 ∧ goodM (numM (unfB b)) = true ∧ encM (numM (unfB b)) = b then some (numM (unfB b)) else none
theorem rdM_iff {b : List UInt8} {m : Mf} : rdM b = some m ↔ goodM m = true ∧ encM m = b := by
  constructor
  · intro h
    unfold rdM at h
    split at h
    · rename_i hc
      cases h
      exact ⟨hc.2.1, hc.2.2⟩
    · cases h
  · rintro ⟨hg, rfl⟩
    have hl := good_len hg
    obtain ⟨t1, t2, t3⟩ := tells_whole (contM m) (by omega) []
    rw [List.append_nil] at t1 t2 t3
    have e : unfB (encM m) = contM m := t3
    unfold rdM
    rw [e, numM_cont hg, if_pos ⟨t1, hg, rfl⟩]
theorem rdM_none {b : List UInt8} (h : ∀ m, goodM m = true → encM m ≠ b) : rdM b = none := by
  cases hr : rdM b with
  | none => rfl
  | some m =>
    obtain ⟨h1, h2⟩ := rdM_iff.1 hr
    exact absurd h2 (h m h1)
theorem rdM_enc {m : Mf} (h : goodM m = true) : rdM (encM m) = some m := rdM_iff.2 ⟨h, rfl⟩
theorem rdM_bad {b : List UInt8} (h : unfE b ≠ 0) : rdM b = none := by unfold rdM; rw [if_neg fun hh => h hh.1]
theorem rdM_more {b : List UInt8} (h : unfN b ≠ b.length) : rdM b = none := rdM_none fun m hg e => by
  subst e
  obtain ⟨t1, t2, t3⟩ := tells_whole (contM m) (by have := good_len hg; omega) []
  rw [List.append_nil] at t2
  exact h (by rw [encM_len]; exact t2)
theorem fourL_word {q : List UInt8} (hq : q.length = 4) : fourL (wordL q) = q := by
  match q, hq with
  | [a, b, c, d], _ =>
    have h := wordL_four (wordL [a, b, c, d]) (wordL_lt _ (by simp))
    obtain ⟨h1, h2, h3, h4⟩ := wordL_inj (show wordL [_, _, _, _] = wordL [a, b, c, d] from h)
    unfold fourL
    rw [h1, h2, h3, h4]
/-- Bytes that are one whole frame are the frame of what they hold. -/
theorem frame_back {b : List UInt8} (h : unfE b = 0) (hn : unfN b = b.length) : frameL (unfB b) = b ∧ (unfB b).length ≤ 262144 := by
  have hN : 8 + unfC b = b.length := by unfold unfN at hn; rw [if_pos h] at hn; exact hn
  have hB : unfB b = b.drop 8 := by unfold unfB; rw [if_pos h, List.take_of_length_le (by rw [List.length_drop]; omega)]
  have hl : (unfB b).length = unfC b := by rw [hB, List.length_drop]; omega
  unfold unfE at h
  split at h
  · cases h
  split at h
  · cases h
  split at h
  · cases h
  split at h
  · cases h
  rename_i h8 hbig _ hs
  have hs' : (wordL ((b.drop 4).take 4) : Int) = sumZ (b.take 4 ++ (b.drop 8).take (unfC b)) := Classical.not_not.1 hs
  have e4 : fourL (unfC b) = b.take 4 := fourL_word (by rw [List.length_take]; omega)
  have e8 : fourL (wordL ((b.drop 4).take 4)) = (b.drop 4).take 4 := fourL_word (by rw [List.length_take, List.length_drop]; omega)
  rw [List.take_of_length_le (l := b.drop 8) (by rw [List.length_drop]; omega)] at hs'
  refine ⟨?_, by omega⟩
  unfold frameL
  rw [hl, e4, hB, ← hs', Int.toNat_natCast, e8]
  have h1 : (b.drop 4).take 4 ++ b.drop 8 = b.drop 4 := by
    have := List.take_append_drop 4 (b.drop 4)
    rw [List.drop_drop] at this
    exact this
  rw [h1, List.take_append_drop]
end Go.Proofs.YthihljjefncfoaaDoor
