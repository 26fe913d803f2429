/-
  PLAIN: versions, how they compare, how they are joined; no program.
-/
import Derived.Test.YtgjajffpkjcenaaDoorKeyGood
namespace Go.Proofs.YtgjajffpkjcenaaDoor
open Go.RowKit

/-- A version: its texts as they lie in memory. -/
structure Vr where
  time : Int
  dead : Bool
  loc : Int
  kind : Int
  num : Int
  s : ByteArray
def Vr.v (a : Vr) : Value := .agg #[.int .i64 a.time, .bool a.dead, .int .i64 a.loc, .int .i64 a.kind, .int .i64 a.num, .string a.s]
/-- What of a version is looked at. -/
def b01 (b : Bool) : Int := if b then 1 else 0
def Vr.see (a : Vr) : Int × (Int × (Int × (Int × (Int × List UInt8)))) := if a.dead then (a.time, 1, a.loc, 0, 0, []) else (a.time, 0, 0, a.kind, a.num, nb a.s)
def vl : (Int × (Int × (Int × (Int × (Int × List UInt8))))) → (Int × (Int × (Int × (Int × (Int × List UInt8))))) → Int := lex ci (lex ci (lex ci (lex ci (lex ci cb))))
theorem vl_cmpr : Cmpr vl := ci_cmpr.lex (ci_cmpr.lex (ci_cmpr.lex (ci_cmpr.lex (ci_cmpr.lex cb_cmpr))))
def cv (a b : Vr) : Int := vl a.see b.see
theorem cv_self (a : Vr) : cv a a = 0 := (vl_cmpr.z _ _).2 rfl
theorem cv_n (a b : Vr) : cv a b = - cv b a := vl_cmpr.n _ _
theorem cv_r (a b : Vr) : cv a b = -1 ∨ cv a b = 0 ∨ cv a b = 1 := vl_cmpr.r _ _
theorem cv_t (a b c : Vr) (h : cv a b ≤ 0) (g : cv b c ≤ 0) : cv a c ≤ 0 := vl_cmpr.t _ _ _ h g
theorem ci_self (a : Int) : ci a a = 0 := (ci_cmpr.z a a).2 rfl
theorem ci_ne {a b : Int} (h : a ≠ b) : ci a b ≠ 0 := fun e => h ((ci_cmpr.z a b).1 e)
theorem cv_time {a b : Vr} (h : a.time ≠ b.time) : cv a b = ci a.time b.time := by
  unfold cv vl lex Vr.see
  split <;> split <;> exact th_of (ci_ne h) _
theorem cv_dead {a b : Vr} (h : a.time = b.time) (ha : a.dead = true) (hb : b.dead = true) : cv a b = ci a.loc b.loc := by
  unfold cv vl lex Vr.see
  rw [ha, hb, h]
  simp only [if_true]
  rw [ci_self, th_zero, ci_self, th_zero]
  show th _ (th (ci 0 0) (th (ci 0 0) (cb [] []))) = _
  rw [ci_self, th_zero, th_zero, cb_nil_nil]
  unfold th; split <;> omega
theorem cv_left {a b : Vr} (h : a.time = b.time) (ha : a.dead = true) (hb : b.dead = false) : cv a b = 1 := by
  unfold cv vl lex Vr.see
  rw [ha, hb, h]
  simp only [if_true, Bool.false_eq_true, if_false]
  rw [ci_self, th_zero]
  exact th_of (by decide) _
theorem cv_right {a b : Vr} (h : a.time = b.time) (ha : a.dead = false) (hb : b.dead = true) : cv a b = -1 := by
  have := cv_left h.symm hb ha
  have := cv_n a b
  omega
theorem cv_live {a b : Vr} (h : a.time = b.time) (ha : a.dead = false) (hb : b.dead = false) : cv a b = fu [ci a.kind b.kind, ci a.num b.num, cb (nb a.s) (nb b.s)] := by
  unfold cv vl lex Vr.see
  rw [ha, hb, h]
  simp only [Bool.false_eq_true, if_false]
  rw [ci_self, th_zero, ci_self, th_zero, th_zero]
  show th _ (th _ _) = th _ (th _ (th _ 0))
  have : ∀ x, th x 0 = x := fun x => by unfold th; split <;> omega
  rw [this]
/-- Two versions are one, as the walk spells it. -/
def eqV (a b : Vr) : Bool := a.time == b.time && (a.dead == b.dead && (a.loc == b.loc && (a.kind == b.kind && (a.num == b.num && a.s.toList == b.s.toList))))
theorem eqV_iff (a b : Vr) : eqV a b = true ↔ a = b := by
  unfold eqV
  rw [ba_same]
  cases a; cases b
  simp only [Bool.and_eq_true, decide_eq_true_eq, beq_iff_eq, Vr.mk.injEq]
theorem eqV_self (a : Vr) : eqV a a = true := (eqV_iff a a).2 rfl
/-- The greater one. -/
def jn (a b : Vr) : Vr := if cv a b < 0 then b else a
theorem jn_or (a b : Vr) : jn a b = a ∨ jn a b = b := by unfold jn; split <;> simp
theorem jn_ge (a b : Vr) : 0 ≤ cv (jn a b) a ∧ 0 ≤ cv (jn a b) b := by
  have h1 := cv_self a; have h2 := cv_self b; have h3 := cv_n a b
  unfold jn; split <;> constructor <;> omega
theorem jn_self (a : Vr) : jn a a = a := by unfold jn; split <;> rfl

/-! ### Good cells -/
def zeroVal (a : Vr) : Bool := a.kind == 0 && (a.num == 0 && decide (a.s.size = 0))
def goodV (mark : Bool) (a : Vr) : Bool :=
  if a.dead then zeroVal a
  else a.loc == 0 && (if mark then zeroVal a else (a.kind == 1 && decide (a.s.size = 0)) || (a.kind == 2 && (a.num == 0 && decide (a.s.size ≤ 64))))
theorem size0 {s : ByteArray} (h : s.size = 0) : s = ⟨#[]⟩ := by
  have := (nb_empty s).2 h
  have h2 : nb (⟨#[]⟩ : ByteArray) = [] := rfl
  rw [← h2] at this; exact nb_inj.1 this
/-- Of good versions only those that are the same are alike. -/
theorem good_inj {m : Bool} {a b : Vr} (ha : goodV m a = true) (hb : goodV m b = true) (h : cv a b = 0) : a = b := by
  have h := (vl_cmpr.z _ _).1 h
  obtain ⟨ta, da, la, ka, na, sa⟩ := a
  obtain ⟨tb, db, lb, kb, nb', sb⟩ := b
  cases da <;> cases db <;> simp [Vr.see, goodV, zeroVal] at h ha hb ⊢
  · obtain ⟨rfl, rfl, rfl, hs⟩ := h
    exact ⟨rfl, by omega, rfl, rfl, nb_inj.1 hs⟩
  · obtain ⟨rfl, rfl⟩ := h
    exact ⟨rfl, rfl, by omega, by omega, ha.2.2.trans hb.2.2.symm⟩
theorem cv_lt_trans {a b c : Vr} (h : cv a b < 0) (g : cv b c < 0) : cv a c < 0 := vl_cmpr.strict h g
theorem jn_comm {m : Bool} {a b : Vr} (ha : goodV m a = true) (hb : goodV m b = true) : jn a b = jn b a := by
  have h3 := cv_n a b
  unfold jn
  split <;> split
  · omega
  · rfl
  · rfl
  · exact good_inj ha hb (by omega)
theorem jn_good {m : Bool} {a b : Vr} (ha : goodV m a = true) (hb : goodV m b = true) : goodV m (jn a b) = true := by
  rcases jn_or a b with h | h <;> rw [h] <;> assumption
theorem cv_le_lt {a b c : Vr} (h : cv a b ≤ 0) (g : cv b c < 0) : cv a c < 0 := by
  have h1 := cv_t a b c h (by omega)
  by_cases e : cv a c = 0
  · have h2 := cv_n a c
    have h3 := cv_t c a b (by omega) h
    have h4 := cv_n b c
    omega
  · omega
theorem cv_lt_le {a b c : Vr} (h : cv a b < 0) (g : cv b c ≤ 0) : cv a c < 0 := by
  have h1 := cv_t a b c (by omega) g
  by_cases e : cv a c = 0
  · have h2 := cv_n a c
    have h3 := cv_t b c a g (by omega)
    have h4 := cv_n a b
    omega
  · omega
theorem jn_assoc (a b c : Vr) : jn (jn a b) c = jn a (jn b c) := by
  have n1 := cv_n a b
  have n2 := cv_n b c
  have n3 := cv_n a c
  by_cases h1 : cv a b < 0
  · have e1 : jn a b = b := by unfold jn; rw [if_pos h1]
    rw [e1]
    by_cases h2 : cv b c < 0
    · have e2 : jn b c = c := by unfold jn; rw [if_pos h2]
      have h3 := cv_lt_trans h1 h2
      rw [e2]; unfold jn; rw [if_pos h3]
    · have e2 : jn b c = b := by unfold jn; rw [if_neg h2]
      rw [e2, e1]
  · have e1 : jn a b = a := by unfold jn; rw [if_neg h1]
    rw [e1]
    by_cases h2 : cv b c < 0
    · have e2 : jn b c = c := by unfold jn; rw [if_pos h2]
      rw [e2]
    · have e2 : jn b c = b := by unfold jn; rw [if_neg h2]
      have h3 : ¬ cv a c < 0 := fun h => by
        have := cv_lt_le (a := a) (b := c) (c := b) h (by omega)
        omega
      rw [e2, e1]; unfold jn; rw [if_neg h3]
/-- How two versions compare, how they are joined, of their parts. -/
def Vr.Ok (a : Vr) : Prop := InI a.time ∧ InI a.loc ∧ InI a.kind ∧ InI a.num ∧ a.s.size ≤ maxLen
end Go.Proofs.YtgjajffpkjcenaaDoor
