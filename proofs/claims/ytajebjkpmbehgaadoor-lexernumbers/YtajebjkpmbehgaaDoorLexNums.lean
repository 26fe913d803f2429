/-
  PLAIN: a number's digits, with noughts ahead and bars between.
-/
import Derived.Test.YtajebjkpmbehgaaDoorLexVal
namespace Go.Proofs.YtajebjkpmbehgaaDoor
open Go.RowKit

theorem dgN_all : ∀ (l : List UInt8) (b : Bool), (∀ c ∈ l, dgB c = true) → dgN b l = l.length
  | [], b, _ => by cases b <;> rfl
  | c :: r, b, h => by
    have h1 : dgN b (c :: r) = dgN true r + 1 := by cases b <;> simp [dgN, h c (by simp)]
    rw [h1, dgN_all r true (fun c hc => h c (by simp [hc]))]
    rfl
theorem filter_dg (l : List UInt8) (h : ∀ c ∈ l, dgB c = true) : l.filter (fun b => !decide (b.toNat = 95)) = l := by
  rw [List.filter_eq_self]
  intro c hc
  have := (dgB_iff c).1 (h c hc)
  have h2 : decide (c.toNat = 95) = false := decide_eq_false (by omega)
  rw [h2]
  rfl
theorem brk_snoc (f : Nat → Bool) : ∀ (l : List UInt8) (i : Nat) (c : UInt8), brk f i (l ++ [c]) = brk f i l ++ (if f (i + l.length) then [95, c] else [c])
  | [], i, c => by simp only [List.nil_append, brk, List.length_nil, Nat.add_zero]
  | x :: l, i, c => by
    have ih := brk_snoc f l (i + 1) c
    rw [show i + 1 + l.length = i + (l.length + 1) by omega] at ih
    rw [List.cons_append]
    simp only [brk, ih, List.length_cons]
    split <;> simp
/-- A sign, if there is one. -/
def sgn (n : Int) : List UInt8 := if decide (n < 0) then [45] else []
theorem itoa_sgn (n : Int) : Lib.itoa n = sgn n ++ Lib.decDigits n.natAbs := by
  unfold Lib.itoa sgn
  by_cases h : n < 0
  · rw [if_pos h, if_pos (decide_eq_true h)]
    rfl
  · rw [if_neg h, decide_eq_false h]
    have : n.toNat = n.natAbs := by omega
    rw [this]
    rfl
theorem dec_max : ∀ (k u : Nat), u < 10 ^ k → 0 < k → (Lib.decDigits u).length ≤ k
  | 0, _, _, h => absurd h (Nat.lt_irrefl _)
  | k + 1, u, h, _ => by
    by_cases hs : u < 10
    · rw [Lib.decDigits, dif_pos hs]
      simp
    · rw [Lib.decDigits, dif_neg hs, List.length_append, List.length_singleton]
      cases k with
      | zero => omega
      | succ k =>
        have := dec_max (k + 1) (u / 10) (by rw [Nat.pow_succ] at h; omega) (by omega)
        omega
/-- Its tokens. -/
def numTs (n : Int) (len : Nat) : List Tk := [⟨4, [], 1, n, [], 0, len⟩, ⟨0, [], 0, 0, [], len, len⟩]
theorem lex_digits (n : Int) (hn : -9223372036854775808 ≤ n ∧ n ≤ 9223372036854775807) (z : Nat) (hz : z < 40) (f : Nat → Bool) (hf : f 0 = false) :
    lexT (sgn n ++ brk f 0 (List.replicate z 48 ++ Lib.decDigits n.natAbs)) = (some (numTs n (sgn n ++ brk f 0 (List.replicate z 48 ++ Lib.decDigits n.natAbs)).length), 0, 0) := by
  obtain ⟨hne, hdg⟩ := dec_dg (n.natAbs + 1) n.natAbs (Nat.lt_succ_self _)
  have hall : ∀ c ∈ List.replicate z 48 ++ Lib.decDigits n.natAbs, dgB c = true := fun c hc => by
    rcases List.mem_append.1 hc with h | h
    · rw [(List.mem_replicate.1 h).2]; rfl
    · exact hdg c h
  have hSne : List.replicate z 48 ++ Lib.decDigits n.natAbs ≠ [] := by simp [hne]
  have hSl : (List.replicate z 48 ++ Lib.decDigits n.natAbs).length ≤ 59 := by
    rw [List.length_append, List.length_replicate]
    have := dec_max 20 n.natAbs (by omega) (by omega)
    omega
  have hval := vN_noughts (Lib.decDigits n.natAbs) z
  rw [dec_vN (n.natAbs + 1) n.natAbs (Nat.lt_succ_self _)] at hval
  have hat := atoi_pos _ hSne hall
  have han := atoi_neg _ hSne hall
  rw [hval] at hat han
  cases hS : List.replicate z 48 ++ Lib.decDigits n.natAbs with
  | nil => exact absurd hS hSne
  | cons c r =>
    rw [hS] at hall hat han hSl
    obtain ⟨h1, h2, h3⟩ := brk_ok f r 1 (fun x hx => hall x (by simp [hx]))
    have hb : brk f 0 (c :: r) = c :: brk f 1 r := by simp only [brk, hf]; rfl
    have hc := hall c (by simp)
    have hcz := (dgB_iff c).1 hc
    have hfil : (c :: brk f 1 r).filter (fun b => !decide (b.toNat = 95)) = c :: r := by
      have hc2 : decide (c.toNat = 95) = false := decide_eq_false (by omega)
      rw [List.filter_cons, hc2, h2]
      rfl
    have hdN : dgN false (c :: brk f 1 r) = (c :: brk f 1 r).length := by
      have : dgN false (c :: brk f 1 r) = dgN true (brk f 1 r) + 1 := by simp [dgN, hc]
      rw [this, h1]
      rfl
    rw [hb]
    have hl : (c :: brk f 1 r).length ≤ 599 := by
      rw [List.length_cons] at hSl ⊢
      omega
    refine lex_num (decide (n < 0)) (c :: brk f 1 r) c (brk f 1 r) rfl hc hdN hl (v := n) ?_
    rw [hfil]
    by_cases hneg : n < 0
    · rw [decide_eq_true hneg, if_pos rfl, List.singleton_append, han]
      unfold valI
      rw [if_pos rfl, if_pos (by omega)]
      congr 1
      omega
    · rw [decide_eq_false hneg, if_neg (by decide), List.nil_append, hat]
      unfold valI
      rw [if_neg (by decide), if_pos (by omega)]
      congr 1
      omega
theorem brk_none (l : List UInt8) : ∀ i, brk (fun _ => false) i l = l := by
  induction l with
  | nil => intro i; rfl
  | cons c r ih => intro i; simp [brk, ih]
theorem lex_itoa (n : Int) (hn : -9223372036854775808 ≤ n ∧ n ≤ 9223372036854775807) : lexT (Lib.itoa n) = (some (numTs n (Lib.itoa n).length), 0, 0) := by
  have := lex_digits n hn 0 (by omega) (fun _ => false) rfl
  rw [brk_none, List.replicate_zero, List.nil_append, ← itoa_sgn] at this
  exact this
end Go.Proofs.YtajebjkpmbehgaaDoor
