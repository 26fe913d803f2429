/-
  SEVERAL TEXTS IN ONE: KeyPlain, KeyShelf, KeyCmp, KeyName, KeyAdd, KeyRow, KeyBytes, KeyText, KeyEnv, KeyPrint, KeyGood, KeyLives, KeyAt, KeyRefText.
-/
import Derived.WalkKit
import Derived.PlainAid
import Derived.OpenShut
import Derived.Lib.Bytealg
import Derived.Lib.Small
import Derived.Test.YthihljjefncfoaaDoorDskShelf
import Derived.Test.YthihljjefncfoaaDoorChecked
import Derived.Test.YthihljjefncfoaaDoorOwn
import Derived.Laws.Cover1
import Derived.StillTailTactics
import Derived.Lib.Replace
import Derived.Lib.ItoaNum
import Derived.Test.YthihljjefncfoaaDoorRegCl
import Derived.Lib.ItoaLen
import Derived.Laws.BytesString
import Derived.Lib.SlBytesConst
namespace Go.Proofs.YthihljjefncfoaaDoor
open Go.RowKit

/-! ### Comparisons -/
/-- The first, unless it tells nothing. -/
def th (x y : Int) : Int := if x ≠ 0 then x else y
theorem th_zero (y : Int) : th 0 y = y := by simp [th]
theorem th_of {x : Int} (h : x ≠ 0) (y : Int) : th x y = x := by simp [th, h]

structure Cmpr {α : Type} (f : α → α → Int) : Prop where
  z : ∀ a b, f a b = 0 ↔ a = b
  n : ∀ a b, f a b = - f b a
  t : ∀ a b c, f a b ≤ 0 → f b c ≤ 0 → f a c ≤ 0
  r : ∀ a b, f a b = -1 ∨ f a b = 0 ∨ f a b = 1

theorem Cmpr.strict {α : Type} {f : α → α → Int} (F : Cmpr f) {a b c : α} (h : f a b < 0) (g : f b c < 0) : f a c < 0 := by
  have := F.t a b c (by omega) (by omega)
  by_cases e : f a c = 0
  · have := (F.z a c).1 e; subst this
    have := F.n a b; omega
  · omega

def lex {α β : Type} (f : α → α → Int) (g : β → β → Int) (a b : α × β) : Int := th (f a.1 b.1) (g a.2 b.2)
theorem Cmpr.lex {α β : Type} {f : α → α → Int} {g : β → β → Int} (F : Cmpr f) (G : Cmpr g) : Cmpr (lex f g) where
  z := by
    rintro ⟨a, x⟩ ⟨b, y⟩
    unfold Go.Proofs.YthihljjefncfoaaDoor.lex th
    have := F.z a b; have := G.z x y
    split <;> rename_i h
    · constructor
      · intro e; exact absurd e h
      · intro e; exact absurd ((F.z a b).2 (congrArg Prod.fst e)) h
    · have h0 : f a b = 0 := by simpa using h
      have := (F.z a b).1 h0; subst this
      constructor
      · intro e; rw [(G.z x y).1 e]
      · intro e; exact (G.z x y).2 (congrArg Prod.snd e)
  n := by
    rintro ⟨a, x⟩ ⟨b, y⟩
    unfold Go.Proofs.YthihljjefncfoaaDoor.lex th
    have h1 := F.n a b; have h2 := G.n x y
    dsimp only
    by_cases e : f a b = 0
    · have e' : f b a = 0 := by omega
      simp only [e, e', ne_eq, not_true, if_false]; exact h2
    · have e' : f b a ≠ 0 := by omega
      simp only [ne_eq, e, e', not_false_eq_true, if_true]; exact h1
  t := by
    rintro ⟨a, x⟩ ⟨b, y⟩ ⟨c, z⟩
    unfold Go.Proofs.YthihljjefncfoaaDoor.lex th
    dsimp only
    intro h1 h2
    by_cases e1 : f a b = 0
    · have := (F.z a b).1 e1; subst this
      rw [if_neg (by simp [e1])] at h1
      by_cases e2 : f a c = 0
      · rw [if_neg (by simp [e2])] at h2 ⊢
        exact G.t _ _ _ h1 h2
      · rw [if_pos e2] at h2 ⊢; exact h2
    · rw [if_pos e1] at h1
      by_cases e2 : f b c = 0
      · have := (F.z b c).1 e2; subst this
        rw [if_pos e1]; exact h1
      · rw [if_pos e2] at h2
        have := F.strict (a := a) (b := b) (c := c) (by omega) (by omega)
        rw [if_pos (by omega)]; omega
  r := by
    rintro ⟨a, x⟩ ⟨b, y⟩
    unfold Go.Proofs.YthihljjefncfoaaDoor.lex th
    split
    · exact F.r a b
    · exact G.r x y

/-! ### Texts -/
def cb (a b : List UInt8) : Int := Lib.compareBytes a b
theorem cb_self : ∀ a : List UInt8, cb a a = 0
  | [] => rfl
  | a :: r => by show Lib.compareBytes _ _ = _; unfold Lib.compareBytes; simp only [UInt8.lt_irrefl, if_false]; exact cb_self r
theorem u8_tri (a b : UInt8) : a < b ∨ a = b ∨ b < a := by
  rcases Nat.lt_trichotomy a.toNat b.toNat with h | h | h
  · exact Or.inl (UInt8.lt_iff_toNat_lt.2 h)
  · exact Or.inr (Or.inl (UInt8.toNat_inj.1 h))
  · exact Or.inr (Or.inr (UInt8.lt_iff_toNat_lt.2 h))
theorem u8_asymm {a b : UInt8} (h : a < b) : ¬ b < a := by
  rw [UInt8.lt_iff_toNat_lt] at h ⊢; omega
theorem cb_lt {a b : UInt8} (h : a < b) (r s : List UInt8) : cb (a :: r) (b :: s) = -1 := by
  show Lib.compareBytes _ _ = _; unfold Lib.compareBytes; rw [if_pos h]
theorem cb_gt {a b : UInt8} (h : b < a) (r s : List UInt8) : cb (a :: r) (b :: s) = 1 := by
  show Lib.compareBytes _ _ = _; unfold Lib.compareBytes; rw [if_neg (u8_asymm h), if_pos h]
theorem cb_eq (a : UInt8) (r s : List UInt8) : cb (a :: r) (a :: s) = cb r s := by
  show Lib.compareBytes _ _ = _; conv => lhs; unfold Lib.compareBytes
  rw [if_neg (UInt8.lt_irrefl a), if_neg (UInt8.lt_irrefl a)]; rfl
theorem cb_nil_cons (b : UInt8) (s : List UInt8) : cb [] (b :: s) = -1 := rfl
theorem cb_cons_nil (b : UInt8) (s : List UInt8) : cb (b :: s) [] = 1 := rfl
theorem cb_nil_nil : cb [] [] = 0 := rfl
theorem cb_nil_le (s : List UInt8) : cb [] s ≤ 0 := by cases s with | nil => exact Int.le_refl _ | cons => rw [cb_nil_cons]; omega

theorem cb_cmpr : Cmpr cb where
  z := by
    intro a b
    constructor
    · induction a generalizing b with
      | nil => cases b with | nil => intro _; rfl | cons => intro h; rw [cb_nil_cons] at h; omega
      | cons x a ih =>
        cases b with
        | nil => intro h; rw [cb_cons_nil] at h; omega
        | cons y b =>
          rcases u8_tri x y with h | h | h
          · rw [cb_lt h]; omega
          · subst h; rw [cb_eq]; intro e; rw [ih b e]
          · rw [cb_gt h]; omega
    · rintro rfl; exact cb_self a
  n := by
    intro a
    induction a with
    | nil => intro b; cases b with | nil => rfl | cons => rfl
    | cons x a ih =>
      intro b
      cases b with
      | nil => rfl
      | cons y b =>
        rcases u8_tri x y with h | h | h
        · rw [cb_lt h, cb_gt h]; 
        · subst h; rw [cb_eq, cb_eq]; exact ih b
        · rw [cb_gt h, cb_lt h]; rfl
  t := by
    intro a
    induction a with
    | nil => intro b c _ _; exact cb_nil_le c
    | cons x a ih =>
      intro b c h g
      cases b with
      | nil => rw [cb_cons_nil] at h; omega
      | cons y b =>
        cases c with
        | nil => rw [cb_cons_nil] at g; omega
        | cons z c =>
          rcases u8_tri x y with h1 | h1 | h1
          · rcases u8_tri y z with h2 | h2 | h2
            · have : x < z := by rw [UInt8.lt_iff_toNat_lt] at *; omega
              rw [cb_lt this]; omega
            · subst h2; rw [cb_lt h1]; omega
            · rw [cb_gt h2] at g; omega
          · subst h1
            rw [cb_eq] at h
            rcases u8_tri x z with h2 | h2 | h2
            · rw [cb_lt h2]; omega
            · subst h2; rw [cb_eq] at g ⊢; exact ih b c h g
            · rw [cb_gt h2] at g; omega
          · rw [cb_gt h1] at h; omega
  r := by
    intro a
    induction a with
    | nil => intro b; cases b with | nil => exact Or.inr (Or.inl rfl) | cons => exact Or.inl rfl
    | cons x a ih =>
      intro b
      cases b with
      | nil => exact Or.inr (Or.inr rfl)
      | cons y b =>
        rcases u8_tri x y with h | h | h
        · exact Or.inl (cb_lt h _ _)
        · subst h; rw [cb_eq]; exact ih b
        · exact Or.inr (Or.inr (cb_gt h _ _))

theorem less_cb : ∀ a b : List UInt8, Op.bytesLess a b = decide (cb a b = -1)
  | [], [] => rfl
  | [], _ :: _ => rfl
  | _ :: _, [] => rfl
  | a :: r, b :: s => by
    rcases u8_tri a b with h | h | h
    · rw [cb_lt h]; simp [Op.bytesLess, h]
    · subst h; rw [cb_eq]; simp [Op.bytesLess, less_cb r s]
    · rw [cb_gt h]
      have h1 := u8_asymm h
      have h2 : ¬ a = b := by rintro rfl; exact UInt8.lt_irrefl _ h
      simp [Op.bytesLess, h1, h2]

/-! ### Numbers -/
def ci (x y : Int) : Int := if x < y then -1 else if x > y then 1 else 0
theorem ci_cmpr : Cmpr ci where
  z := by intro a b; unfold ci; split; · omega
          split <;> omega
  n := by intro a b; unfold ci; split <;> split <;> (try split) <;> omega
  t := by intro a b c; unfold ci; split <;> split <;> split <;> (try split) <;> (try split) <;> (try split) <;> omega
  r := by intro a b; unfold ci; split; · omega
          split <;> omega

/-! ### Keys -/
structure Ky where
  t : List UInt8
  p : List UInt8
  r : Int
  c : List UInt8
def kc (a b : Ky) : Int := th (cb a.t b.t) (th (cb a.p b.p) (th (ci a.r b.r) (cb a.c b.c)))
def Ky.tup (k : Ky) : List UInt8 × List UInt8 × Int × List UInt8 := (k.t, k.p, k.r, k.c)
theorem kc_cmpr : Cmpr kc := by
  have F := cb_cmpr.lex (cb_cmpr.lex (ci_cmpr.lex cb_cmpr))
  have e : ∀ a b : Ky, kc a b = lex cb (lex cb (lex ci cb)) a.tup b.tup := fun a b => rfl
  refine ⟨fun a b => ?_, fun a b => ?_, fun a b c h g => ?_, fun a b => ?_⟩
  · rw [e, F.z]
    constructor
    · intro h
      cases a; cases b
      simp only [Ky.tup, Prod.mk.injEq] at h
      obtain ⟨rfl, rfl, rfl, rfl⟩ := h; rfl
    · rintro rfl; rfl
  · rw [e, e]; exact F.n _ _
  · rw [e] at *; exact F.t _ _ _ h g
  · rw [e]; exact F.r _ _

def Ky.mark (k : Ky) : Ky := { k with c := [] }
theorem mark_le (k : Ky) : kc k.mark k ≤ 0 := by
  unfold kc Ky.mark; rw [cb_self, th_zero, cb_self, th_zero, (ci_cmpr.z _ _).2 rfl, th_zero]; exact cb_nil_le _
theorem mark_zero (k : Ky) : kc k.mark k = 0 ↔ k.c = [] := by
  rw [kc_cmpr.z]
  cases k; simp only [Ky.mark, Ky.mk.injEq, true_and]; exact ⟨Eq.symm, Eq.symm⟩
theorem mark_mark (k : Ky) : k.mark.mark = k.mark := rfl
theorem row_lt {a b : Ky} (h1 : a.t = b.t) (h2 : a.p = b.p) (h : a.r < b.r) : kc a b = -1 := by
  unfold kc; rw [h1, h2, cb_self, th_zero, cb_self, th_zero]
  have : ci a.r b.r = -1 := by unfold ci; rw [if_pos h]
  rw [this, th_of (by omega)]
theorem between {a b c : Ky} (h1 : a.t = b.t) (h2 : a.p = b.p) (g : kc a c ≤ 0) (g' : kc c b ≤ 0) : c.t = a.t ∧ c.p = a.p ∧ (a.r = b.r → c.r = a.r) := by
  have part : ∀ {α : Type} {f : α → α → Int} (F : Cmpr f) {x y : α} {u v : Int}, th (f x y) u ≤ 0 → th (f y x) v ≤ 0 → y = x ∧ u ≤ 0 ∧ v ≤ 0 := by
    intro α f F x y u v h g
    have n := F.n x y
    unfold th at h g
    by_cases e : f x y = 0
    · have e' : f y x = 0 := by omega
      rw [if_neg (by simp [e])] at h; rw [if_neg (by simp [e'])] at g
      exact ⟨((F.z _ _).1 e').symm ▸ rfl, h, g⟩
    · have e' : f y x ≠ 0 := by omega
      rw [if_pos e] at h; rw [if_pos e'] at g
      omega
  unfold kc at g g'
  rw [← h1, ← h2] at g'
  obtain ⟨e1, g, g'⟩ := part cb_cmpr g g'
  obtain ⟨e2, g, g'⟩ := part cb_cmpr g g'
  refine ⟨e1, e2, fun hr => ?_⟩
  rw [← hr] at g'
  exact (part ci_cmpr g g').1

/-! ### Bytes -/
def esc : List UInt8 → List UInt8
  | [] => []
  | b :: l => if b = 0 then 0 :: 255 :: esc l else b :: esc l
def encT (s : List UInt8) : List UInt8 := esc s ++ [0, 0]
theorem esc_append (a b : List UInt8) : esc (a ++ b) = esc a ++ esc b := by
  induction a with
  | nil => rfl
  | cons x a ih => simp only [List.cons_append, esc, ih]; split <;> rfl
theorem u8_pos {b : UInt8} (h : b ≠ 0) : (0 : UInt8) < b := by
  rcases u8_tri 0 b with g | g | g
  · exact g
  · exact absurd g.symm h
  · rw [UInt8.lt_iff_toNat_lt] at g; simp at g
theorem cb_encT : ∀ (s t x y : List UInt8), cb (encT s ++ x) (encT t ++ y) = th (cb s t) (cb x y)
  | [], [], x, y => by simp only [encT, esc, List.nil_append, List.cons_append]; rw [cb_eq, cb_eq, cb_nil_nil, th_zero]
  | [], b :: t, x, y => by
    rw [cb_nil_cons, th_of (by omega)]
    by_cases h : b = 0
    · simp only [encT, esc, h, if_true, List.nil_append, List.cons_append]; rw [cb_eq, cb_lt (by decide)]
    · simp only [encT, esc, h, if_false, List.nil_append, List.cons_append]; rw [cb_lt (u8_pos h)]
  | a :: s, [], x, y => by
    rw [cb_cons_nil, th_of (by omega)]
    by_cases h : a = 0
    · simp only [encT, esc, h, if_true, List.nil_append, List.cons_append]; rw [cb_eq, cb_gt (by decide)]
    · simp only [encT, esc, h, if_false, List.nil_append, List.cons_append]; rw [cb_gt (u8_pos h)]
  | a :: s, b :: t, x, y => by
    have ih := cb_encT s t x y
    have e : ∀ (c : UInt8) (l z : List UInt8), encT (c :: l) ++ z = if c = 0 then 0 :: 255 :: (encT l ++ z) else c :: (encT l ++ z) := by
      intro c l z; simp only [encT, esc]; split <;> simp
    rcases u8_tri a b with h | h | h
    · rw [cb_lt h, th_of (by omega), e, e, if_neg (c := b = 0) (by rintro rfl; rw [UInt8.lt_iff_toNat_lt] at h; simp at h)]
      split
      · rename_i g; rw [← g, cb_lt h]
      · rw [cb_lt h]
    · subst h
      rw [cb_eq, e, e]
      split
      · rw [cb_eq, cb_eq]; exact ih
      · rw [cb_eq]; exact ih
    · rw [cb_gt h, th_of (by omega), e, e, if_neg (c := a = 0) (by rintro rfl; rw [UInt8.lt_iff_toNat_lt] at h; simp at h)]
      split
      · rename_i g; rw [← g, cb_gt h]
      · rw [cb_gt h]

/-- The n lowest bytes of u, the highest first. -/
def be : Nat → Nat → List UInt8
  | 0, _ => []
  | n + 1, u => UInt8.ofNat (u / 256 ^ n % 256) :: be n u
theorem be_length : ∀ n u, (be n u).length = n
  | 0, _ => rfl
  | n + 1, u => by simp [be, be_length n u]
theorem ofNat_lt {a b : Nat} (hb : b < 256) (h : a < b) : UInt8.ofNat a < UInt8.ofNat b := by
  rw [UInt8.lt_iff_toNat_lt, UInt8.toNat_ofNat_of_lt' (by show a < 256; omega), UInt8.toNat_ofNat_of_lt' hb]; exact h
theorem cb_be : ∀ (n u v : Nat) (x y : List UInt8), cb (be n u ++ x) (be n v ++ y) = th (ci ((u % 256 ^ n : Nat) : Int) ((v % 256 ^ n : Nat) : Int)) (cb x y)
  | 0, u, v, x, y => by
    simp only [be, List.nil_append, Nat.pow_zero, Nat.mod_one]
    rw [(ci_cmpr.z _ _).2 rfl, th_zero]
  | n + 1, u, v, x, y => by
    have ih := cb_be n u v x y
    have hu := Nat.mod_pow_succ (b := 256) (k := n) (x := u)
    have hv := Nat.mod_pow_succ (b := 256) (k := n) (x := v)
    have lu : u / 256 ^ n % 256 < 256 := Nat.mod_lt _ (by decide)
    have lv : v / 256 ^ n % 256 < 256 := Nat.mod_lt _ (by decide)
    have p : 0 < 256 ^ n := Nat.pow_pos (by decide)
    have mu : u % 256 ^ n < 256 ^ n := Nat.mod_lt _ p
    have mv : v % 256 ^ n < 256 ^ n := Nat.mod_lt _ p
    simp only [be, List.cons_append]
    generalize u / 256 ^ n % 256 = a at *
    generalize v / 256 ^ n % 256 = b at *
    have key : ∀ {a b c d m : Nat}, a < b → c < m → m * a + c < m * b + d := by
      intro a b c d m h hc
      have : m * (a + 1) ≤ m * b := Nat.mul_le_mul_left m h
      rw [Nat.mul_add] at this; omega
    rcases Nat.lt_trichotomy a b with h | h | h
    · have hlt : u % 256 ^ (n + 1) < v % 256 ^ (n + 1) := by
        rw [hu, hv]; have := key (d := v % 256 ^ n) h mu; omega
      rw [cb_lt (ofNat_lt lv h)]
      have : ci ((u % 256 ^ (n + 1) : Nat) : Int) ((v % 256 ^ (n + 1) : Nat) : Int) = -1 := by unfold ci; rw [if_pos (by omega)]
      rw [this, th_of (by omega)]
    · subst h
      rw [cb_eq, ih, hu, hv]
      congr 1
      unfold ci
      split <;> split <;> (try split) <;> (try split) <;> omega
    · have hlt : v % 256 ^ (n + 1) < u % 256 ^ (n + 1) := by
        rw [hu, hv]; have := key (d := u % 256 ^ n) h mv; omega
      rw [cb_gt (ofNat_lt lu h)]
      have : ci ((u % 256 ^ (n + 1) : Nat) : Int) ((v % 256 ^ (n + 1) : Nat) : Int) = 1 := by unfold ci; rw [if_neg (by omega), if_pos (by omega)]
      rw [this, th_of (by omega)]

def two63 : Int := 9223372036854775808
def InI (r : Int) : Prop := -9223372036854775808 ≤ r ∧ r ≤ 9223372036854775807
def encR (r : Int) : List UInt8 := be 8 (r + 9223372036854775808).toNat
def encK (k : Ky) : List UInt8 := encT k.t ++ (encT k.p ++ (encR k.r ++ encT k.c))
theorem cb_encK (a b : Ky) (ha : InI a.r) (hb : InI b.r) : cb (encK a) (encK b) = kc a b := by
  unfold encK kc
  rw [cb_encT, cb_encT]
  congr 2
  unfold encR
  rw [cb_be]
  congr 1
  · unfold InI at ha hb
    rw [Nat.mod_eq_of_lt (by show _ < 18446744073709551616; omega), Nat.mod_eq_of_lt (by show _ < 18446744073709551616; omega)]
    unfold ci
    split <;> split <;> (try split) <;> (try split) <;> omega
  · have := cb_encT a.c b.c [] []
    rw [List.append_nil, List.append_nil, cb_nil_nil] at this
    rw [this]; unfold th; split <;> omega

/-! ### Reading -/
/-- The text that bytes begin with, and what is behind it. -/
def tk : List UInt8 → Option (List UInt8 × List UInt8)
  | [] => none
  | [_] => none
  | b :: d :: l => if b ≠ 0 then (tk (d :: l)).map fun q => (b :: q.1, q.2) else if d = 0 then some ([], l) else if d = 255 then (tk l).map fun q => (0 :: q.1, q.2) else none
theorem tk_encT : ∀ (s x : List UInt8), tk (encT s ++ x) = some (s, x)
  | [], x => by simp [encT, esc, tk]
  | b :: s, x => by
    have ih := tk_encT s x
    by_cases h : b = 0
    · have e : encT (b :: s) ++ x = 0 :: 255 :: (encT s ++ x) := by simp [encT, esc, h]
      rw [e, h]; unfold tk; rw [ih]; simp
    · have e : encT (b :: s) ++ x = b :: (encT s ++ x) := by simp [encT, esc, h]
      rw [e]
      obtain ⟨d, l, hd⟩ : ∃ d l, encT s ++ x = d :: l := by
        cases hh : encT s ++ x with
        | nil => simp [encT] at hh
        | cons d l => exact ⟨d, l, rfl⟩
      rw [hd] at ih ⊢; unfold tk; rw [ih]; simp [h]
def unbe (l : List UInt8) : Nat := l.foldl (fun u b => u * 256 + b.toNat) 0
theorem unbe_go : ∀ (n u a : Nat), (be n u).foldl (fun u b => u * 256 + b.toNat) a = a * 256 ^ n + u % 256 ^ n
  | 0, u, a => by simp [be, Nat.mod_one]
  | n + 1, u, a => by
    rw [be, List.foldl_cons, unbe_go n u, Nat.mod_pow_succ, UInt8.toNat_ofNat_of_lt' (Nat.mod_lt _ (by decide)), Nat.pow_succ, Nat.add_mul]
    have : a * 256 * 256 ^ n = a * (256 ^ n * 256) := by rw [Nat.mul_assoc, Nat.mul_comm 256]
    rw [this, Nat.mul_comm (u / 256 ^ n % 256)]; omega
def decR (l : List UInt8) : Int := (unbe l : Int) - 9223372036854775808
theorem decR_encR (r : Int) (h : InI r) : decR (encR r) = r := by
  unfold decR encR unbe; rw [unbe_go, Nat.mod_eq_of_lt (by unfold InI at h; show _ < 18446744073709551616; omega)]
  unfold InI at h; omega
theorem unbe_lt : ∀ (l : List UInt8) (a : Nat), l.foldl (fun u b => u * 256 + b.toNat) a < (a + 1) * 256 ^ l.length
  | [], a => by simp
  | b :: l, a => by
    rw [List.foldl_cons, List.length_cons, Nat.pow_succ]
    have := unbe_lt l (a * 256 + b.toNat)
    have hb : b.toNat < 256 := b.toNat_lt
    have h2 : (a * 256 + b.toNat + 1) * 256 ^ l.length ≤ ((a + 1) * 256) * 256 ^ l.length := Nat.mul_le_mul_right _ (by omega)
    have h3 : (a + 1) * 256 * 256 ^ l.length = (a + 1) * (256 ^ l.length * 256) := by rw [Nat.mul_assoc, Nat.mul_comm 256]
    omega
def rd (l : List UInt8) : Option Ky :=
  match tk l with
  | none => none
  | some (t, l1) => match tk l1 with
    | none => none
    | some (p, l2) => if l2.length < 8 then none else match tk (l2.drop 8) with
      | none => none
      | some (c, l3) => if l3 = [] then some ⟨t, p, decR (l2.take 8), c⟩ else none
theorem rd_enc (k : Ky) (x : List UInt8) (h : InI k.r) : rd (encK k ++ x) = if x = [] then some k else none := by
  unfold rd encK
  simp only [List.append_assoc]
  rw [tk_encT]; dsimp only
  rw [tk_encT]; dsimp only
  have hl : (encR k.r).length = 8 := be_length _ _
  rw [if_neg (by rw [List.length_append]; omega), List.drop_left' hl, List.take_left' hl, tk_encT]
  dsimp only
  rw [decR_encR k.r h]
end Go.Proofs.YthihljjefncfoaaDoor
namespace Go.Proofs.YthihljjefncfoaaDoor
open Go.RowKit

/-- A text's bytes. -/
def nb (s : ByteArray) : List UInt8 := s.data.toList
def strB (l : List UInt8) : ByteArray := ⟨l.toArray⟩
theorem strB_nb (s : ByteArray) : strB (nb s) = s := by obtain ⟨a⟩ := s; simp [strB, nb]
theorem nb_strB (l : List UInt8) : nb (strB l) = l := by simp [strB, nb]
theorem nb_size (s : ByteArray) : (nb s).length = s.size := by show s.data.toList.length = s.data.size; exact Array.length_toList
theorem nb_inj {a b : ByteArray} : nb a = nb b ↔ a = b := ⟨fun h => by rw [← strB_nb a, h, strB_nb], fun h => by rw [h]⟩
theorem ba_list (s : ByteArray) : s.toList = nb s := Go.ByteArray.toList_eq s
theorem ba_same (a b : ByteArray) : (a.toList == b.toList) = decide (a = b) := by
  rw [ba_list, ba_list]
  by_cases h : a = b
  · simp [h]
  · simp only [h, decide_false, beq_eq_false_iff_ne]; exact fun e => h (nb_inj.1 e)
theorem ba_less (a b : ByteArray) : Op.bytesLess a.toList b.toList = decide (cb (nb a) (nb b) = -1) := by
  rw [ba_list, ba_list]; exact less_cb _ _


/-! ### Of numbers, the first that is not 0 -/
def fu : List Int → Int
  | [] => 0
  | x :: l => th x (fu l)
theorem fu_skip : ∀ (k : Nat) (l : List Int), (∀ j, j < k → l.getD j 0 = 0) → fu l = fu (l.drop k)
  | 0, _, _ => rfl
  | k + 1, [], _ => rfl
  | k + 1, x :: l, h => by
    have h0 : x = 0 := by have := h 0 (by omega); simpa using this
    subst h0
    rw [fu, th_zero, List.drop_succ_cons]
    exact fu_skip k l fun j hj => by have := h (j + 1) (by omega); simpa using this
theorem fu_at (k : Nat) (l : List Int) (h : ∀ j, j < k → l.getD j 0 = 0) (hk : k < l.length) (hn : l.getD k 0 ≠ 0) : fu l = l.getD k 0 := by
  rw [fu_skip k l h, List.drop_eq_getElem_cons hk, fu]
  have : l.getD k 0 = l[k] := by simp [List.getD, hk]
  rw [this] at hn ⊢
  exact th_of hn _
theorem zero_snoc {l : List Int} {k : Nat} (h : ∀ j, j < k → l.getD j 0 = 0) (h0 : l.getD k 0 = 0) : ∀ j, j < k + 1 → l.getD j 0 = 0 := by
  intro j hj
  rcases Nat.lt_or_ge j k with g | g
  · exact h j g
  · have : j = k := by omega
    rw [this]; exact h0
/-! ### Keys in memory -/
structure Kb where
  t : ByteArray
  p : ByteArray
  r : Int
  c : ByteArray
def Kb.ky (k : Kb) : Ky := ⟨nb k.t, nb k.p, k.r, nb k.c⟩
def Kb.v (k : Kb) : Value := .agg #[.string k.t, .string k.p, .int .i64 k.r, .string k.c]
theorem Kb.ky_inj {a b : Kb} : a.ky = b.ky ↔ a = b := by
  constructor
  · intro h
    cases a; cases b
    simp only [Kb.ky, Ky.mk.injEq, nb_inj] at h
    obtain ⟨rfl, rfl, rfl, rfl⟩ := h; rfl
  · rintro rfl; rfl

theorem box_cells (w : World) (o : Obj) (t : TypeId) (cs : Array Value) (i : Nat) (v : Value) (h : cs[i]? = some v) : ((w.alloc (.cells cs t)).alloc o).cell? ⟨w.heap.size, i, none⟩ = some v ∧ (o = .cells cs t → ((w.alloc o).alloc (.cells cs t)).cell? ⟨w.heap.size + 1, i, none⟩ = some v) := by
  have h1 : ((w.alloc (.cells cs t)).alloc o).heap[w.heap.size]? = some (.cells cs t) := by
    rw [Below.heap_alloc _ _ _ (by rw [World.size_alloc]; omega)]; exact heap_alloc_new w _
  have h2 : ((w.alloc o).alloc (.cells cs t)).heap[w.heap.size + 1]? = some (.cells cs t) := by
    have := heap_alloc_new (w.alloc o) (.cells cs t); rwa [World.size_alloc] at this
  refine ⟨?_, fun _ => ?_⟩
  · simp only [World.cell?, h1]; simpa using h
  · simp only [World.cell?, h2]; simpa using h
theorem box_cells2 (w : World) (o : Obj) (t : TypeId) (cs : Array Value) (i : Nat) (v : Value) (h : cs[i]? = some v) : ((w.alloc o).alloc (.cells cs t)).cell? ⟨w.heap.size + 1, i, none⟩ = some v := by
  have h2 : ((w.alloc o).alloc (.cells cs t)).heap[w.heap.size + 1]? = some (.cells cs t) := by
    have := heap_alloc_new (w.alloc o) (.cells cs t); rwa [World.size_alloc] at this
  simp only [World.cell?, h2]; simpa using h
theorem kc_fu (t1 t2 p1 p2 c1 c2 : ByteArray) (r1 r2 : Int) : kc (Kb.ky ⟨t1, p1, r1, c1⟩) (Kb.ky ⟨t2, p2, r2, c2⟩) = fu [cb (nb t1) (nb t2), cb (nb p1) (nb p2), ci r1 r2, cb (nb c1) (nb c2)] := by
  show th _ (th _ (th _ _)) = th _ (th _ (th _ (th _ 0)))
  have : ∀ x, th x 0 = x := fun x => by unfold th; split <;> omega
  rw [this]; rfl

structure Kb.Ok (k : Kb) : Prop where
  t : k.t.size ≤ 5000
  p : k.p.size ≤ 5000
  c : k.c.size ≤ 5000
  r : InI k.r
structure Kb.Big (k : Kb) : Prop where
  t : k.t.size ≤ 2000000
  p : k.p.size ≤ 2000000
  c : k.c.size ≤ 2000000
  r : InI k.r
theorem Kb.Ok.big {k : Kb} (h : k.Ok) : k.Big := ⟨Nat.le_trans h.t (by decide), Nat.le_trans h.p (by decide), Nat.le_trans h.c (by decide), h.r⟩
end Go.Proofs.YthihljjefncfoaaDoor
namespace Go.Proofs.YthihljjefncfoaaDoor
open Go.RowKit

def isL (x : Int) : Bool := decide (97 ≤ x) && decide (x ≤ 122)
def isD (x : Int) : Bool := decide (48 ≤ x) && decide (x ≤ 57)
def okC (x : Int) : Bool := isL x || isD x || x == 95
def nameB (l : List UInt8) : Bool := decide (1 ≤ l.length) && decide (l.length ≤ 16) && isL ((l.getD 0 0).toNat : Int) && l.all fun b => okC (b.toNat : Int)
theorem name_iff (l : List UInt8) : nameB l = true ↔ 1 ≤ l.length ∧ l.length ≤ 16 ∧ isL ((l.getD 0 0).toNat : Int) = true ∧ ∀ j, j < l.length → okC ((l.getD j 0).toNat : Int) = true := by
  unfold nameB
  simp only [Bool.and_eq_true, decide_eq_true_eq, List.all_eq_true, and_assoc]
  constructor
  · rintro ⟨h1, h2, h3, h4⟩
    refine ⟨h1, h2, h3, fun j hj => ?_⟩
    have e : l.getD j 0 = l[j] := by simp [List.getD, hj]
    rw [e]; exact h4 _ (List.getElem_mem hj)
  · rintro ⟨h1, h2, h3, h4⟩
    refine ⟨h1, h2, h3, fun b hb => ?_⟩
    obtain ⟨j, hj, rfl⟩ := List.getElem_of_mem hb
    have e : l.getD j 0 = l[j] := by simp [List.getD, hj]
    have := h4 j hj
    rwa [e] at this
theorem at_nb (s : ByteArray) (k : Nat) (hk : k < s.size) : (nb s).getD k 0 = s[k] := by
  have : k < s.data.toList.length := by simpa using hk
  unfold nb
  rw [List.getD_eq_getElem?_getD, List.getElem?_eq_getElem this]
  rfl
theorem name_no {l : List UInt8} (h : ¬ (1 ≤ l.length ∧ l.length ≤ 16 ∧ isL ((l.getD 0 0).toNat : Int) = true ∧ ∀ j, j < l.length → okC ((l.getD j 0).toNat : Int) = true)) : nameB l = false := by
  cases hg : nameB l
  · rfl
  · exact absurd ((name_iff l).1 hg) h

end Go.Proofs.YthihljjefncfoaaDoor
namespace Go.Proofs.YthihljjefncfoaaDoor
open Go.RowKit

theorem info8K : (Tryd.prog.info? 5).map (fun i => (i.zero, i.size, i.bytes)) = some (some (.int .u8 0), 1, 1) := by kernel_rfl
/-- One byte, laid in a block of its own, as a source. -/
theorem src_oneK (w : World) (z : Int) (b : UInt8) (h : (b.toNat : Int) = z) :
    Src Tryd.prog 1 25 (.slice (some ⟨w.heap.size, 0, none⟩) 1 1) 1 (B8 [b]) (w.alloc (.cells #[.int .u8 z] 5)) := by
  refine Src.ofSlice _ Tryd.underlying25 _ 1 1 _ (by simp [B8_length]) ?_ (B8_one _)
  intro j u hu
  match j, hu with
  | 0, hu => simp [B8] at hu; subst hu; simp [Addr.add, h]
  | j + 1, hu => simp [B8] at hu
theorem sees_litK (w : World) (l : List UInt8) (pr : Nat × Nat) : Sees (w.alloc (.cells (B8 l).toArray 5 pr)) (some ⟨w.heap.size, 0, none⟩) l := by
  intro i hi
  refine ⟨_, rfl, ?_⟩
  have h : (w.alloc (.cells (B8 l).toArray 5 pr)).heap[w.heap.size]? = some (.cells (B8 l).toArray 5 pr) := heap_alloc_new w _
  have e := B8_at l i hi
  rw [Addr.add_lit, Nat.zero_add]
  simp only [World.cell?, h]
  simpa using e
theorem esc_len : ∀ l : List UInt8, (esc l).length ≤ 2 * l.length
  | [] => by simp [esc]
  | b :: l => by have := esc_len l; simp only [esc]; split <;> simp only [List.length_cons] <;> omega
theorem esc_succ (l : List UInt8) (k : Nat) (hk : k < l.length) : esc (l.take (k + 1)) = esc (l.take k) ++ (if l.getD k 0 = 0 then [0, 255] else [l.getD k 0]) := by
  have e : l.getD k 0 = l[k] := by simp [List.getD, hk]
  rw [List.take_succ_eq_append_getElem hk, esc_append, e]
  simp only [esc]
theorem encT_len (l : List UInt8) : (encT l).length = (esc l).length + 2 := by simp [encT]

end Go.Proofs.YthihljjefncfoaaDoor
namespace Go.Proofs.YthihljjefncfoaaDoor
open Go.RowKit

theorem be_succ (u : Nat) : ∀ (n k : Nat), k < n → (be n u).take (k + 1) = (be n u).take k ++ [UInt8.ofNat (u / 256 ^ (n - 1 - k) % 256)]
  | 0, k, h => by omega
  | n + 1, 0, _ => by simp [be]
  | n + 1, k + 1, h => by
    have := be_succ u n k (by omega)
    simp only [be, List.take_succ_cons, List.cons_append]
    rw [this]
    have e : n - 1 - k = n + 1 - 1 - (k + 1) := by omega
    rw [e]
theorem xor_top (a : Nat) (h : a < 18446744073709551616) : a ^^^ 9223372036854775808 = if a < 9223372036854775808 then a + 9223372036854775808 else a - 9223372036854775808 := by
  have h1 : (a ^^^ 2 ^ 63) % 2 ^ 63 = a % 2 ^ 63 := by rw [Nat.xor_mod_two_pow]; simp
  have h2 : (a ^^^ 2 ^ 63) / 2 ^ 63 = (a / 2 ^ 63) ^^^ 1 := by rw [Nat.xor_div_two_pow]
  have h3 := Nat.div_add_mod (a ^^^ 2 ^ 63) (2 ^ 63)
  have h4 := Nat.div_add_mod a (2 ^ 63)
  have e : (2 : Nat) ^ 63 = 9223372036854775808 := by decide
  rw [h1, h2] at h3
  rw [e] at h3 h4
  split
  · have h5 : a / 9223372036854775808 = 0 := by omega
    rw [h5] at h3 h4
    have : (0 ^^^ 1 : Nat) = 1 := rfl
    rw [this] at h3; omega
  · have h5 : a / 9223372036854775808 = 1 := by omega
    rw [h5] at h3 h4
    have : (1 ^^^ 1 : Nat) = 0 := rfl
    rw [this] at h3; omega
theorem row_bits (r : Int) (h : InI r) : bits BinOp.xor IntKind.u64 (IntKind.u64.wrap r) 9223372036854775808 = (((r + 9223372036854775808).toNat : Nat) : Int) := by
  unfold InI at h
  have e : IntKind.u64.wrap r = (((r % 18446744073709551616).toNat : Nat) : Int) := by rw [IntKind.wrap_u64]; omega
  have e2 : (9223372036854775808 : Int) = ((9223372036854775808 : Nat) : Int) := rfl
  rw [e, e2, u64_xor_nat _ _ (by omega) (by decide), xor_top _ (by omega)]
  split <;> omega
end Go.Proofs.YthihljjefncfoaaDoor
namespace Go.Proofs.YthihljjefncfoaaDoor
open Go.RowKit

/-- The bytes l in a row that is new since wa; all that was there is as it was. -/
structure Aw (wa : World) (w1 : World) (v : Value) (l : List UInt8) : Prop where
  own : w1.ownsRow wa.heap.size 5 1 v l.length (B8 l)
  bel : Below wa.heap.size wa w1
theorem Aw.cell {wa w1 : World} {v : Value} {l : List UInt8} (h : Aw wa w1 v l) {a : Addr} {u : Value} (hc : wa.cell? a = some u) : w1.cell? a = some u := by
  rw [h.bel.cell (World.block_lt_of_cell? _ _ hc), hc]
theorem Aw.start {wa w : World} (hB : Below w.heap.size w wa) {w1 : World} {v : Value} {l : List UInt8} (h : Aw wa w1 v l) : Aw w w1 v l :=
  ⟨⟨h.own.1, h.own.2.imp id fun ⟨g, cap, cur, a, b, c⟩ => ⟨g, cap, cur, a, Nat.le_trans hB.size b, c⟩⟩, hB.trans (h.bel.mono hB.size)⟩
theorem encT_le (s : ByteArray) (h : s.size ≤ 2000000) : (encT (nb s)).length ≤ 4000002 := by
  rw [encT_len]; have := esc_len (nb s); rw [nb_size] at this; omega

end Go.Proofs.YthihljjefncfoaaDoor
namespace Go.Proofs.YthihljjefncfoaaDoor
open Go.RowKit

def m1 (b : UInt8) : List UInt8 := if b = 47 then [37, 50, 102] else if b = 37 then [37, 50, 53] else [b]
def msk (l : List UInt8) : List UInt8 := l.flatMap m1
theorem replace_one (c : UInt8) (new : List UInt8) : ∀ s : List UInt8, Lib.replaceK [c] new (Lib.count s [c]) s = s.flatMap fun b => if b = c then new else [b]
  | [] => by
    rw [Lib.count_miss (by rfl)]; rfl
  | b :: l => by
    have ih := replace_one c new l
    have hi : Lib.index (b :: l) [c] = if b = c then 0 else if Lib.index l [c] == -1 then -1 else Lib.index l [c] + 1 := by
      conv => lhs; unfold Lib.index
      by_cases h : b = c
      · subst h; simp
      · have h' : ¬ c = b := fun e => h e.symm
        simp [h, h']
    rw [List.flatMap_cons]
    by_cases h : b = c
    · rw [if_pos h] at hi
      have hi0 : Lib.index (b :: l) [c] = ((0 : Nat) : Int) := hi
      rw [Lib.count_hit (by simp) hi0, Nat.add_comm 1, Lib.replaceK_hit _ _ _ _ 0 hi0, if_pos h]
      simp only [List.take_zero, List.nil_append, Nat.zero_add, List.length_cons, List.length_nil, List.drop_succ_cons, List.drop_zero]
      rw [ih]
    · rw [if_neg h] at hi
      rw [if_neg h]
      by_cases hm : Lib.index l [c] = -1
      · rw [if_pos (by simp [hm])] at hi
        rw [Lib.count_miss hi]
        rw [Lib.count_miss hm] at ih
        rw [← ih]; rfl
      · have hge := Lib.index_ge l [c]
        obtain ⟨i, hl⟩ : ∃ i : Nat, Lib.index l [c] = i := ⟨(Lib.index l [c]).toNat, by omega⟩
        rw [if_neg (by simp [hm]), hl] at hi
        have hi1 : Lib.index (b :: l) [c] = ((i + 1 : Nat) : Int) := by rw [hi]; omega
        rw [Lib.count_hit (by simp) hi1, Nat.add_comm 1, Lib.replaceK_hit _ _ _ _ (i + 1) hi1]
        rw [Lib.count_hit (by simp) hl, Nat.add_comm 1, Lib.replaceK_hit _ _ _ _ i hl] at ih
        rw [← ih]
        simp
theorem replaceAll_one (c : UInt8) (new s : List UInt8) (h : ([c] == new) = false) : Lib.replaceAll s [c] new = s.flatMap fun b => if b = c then new else [b] := by
  unfold Lib.replaceAll Lib.replace Lib.replaceNum
  rw [h, if_neg (by simp), if_pos (Or.inl (by omega))]
  exact replace_one c new s
theorem mask_two (s : List UInt8) : Lib.replaceAll (Lib.replaceAll s [37] [37, 50, 53]) [47] [37, 50, 102] = msk s := by
  rw [replaceAll_one _ _ _ (by decide), replaceAll_one _ _ _ (by decide), List.flatMap_assoc]
  unfold msk
  congr 1
  funext b
  unfold m1
  by_cases h1 : b = 37
  · subst h1; rfl
  · by_cases h2 : b = 47
    · subst h2; rfl
    · simp [h1, h2]
theorem flat_len (c : UInt8) (new : List UInt8) (k : Nat) (hn : new.length ≤ k) (hk : 1 ≤ k) : ∀ s : List UInt8, (s.flatMap fun b => if b = c then new else [b]).length ≤ k * s.length
  | [] => by simp
  | b :: l => by
    have := flat_len c new k hn hk l
    rw [List.flatMap_cons, List.length_append, List.length_cons, Nat.mul_add]
    split
    · omega
    · simp only [List.length_cons, List.length_nil]; omega

theorem m1_no47 (b : UInt8) : (47 : UInt8) ∉ m1 b := by
  unfold m1
  split
  · decide
  · split
    · decide
    · rename_i h _; simp only [List.mem_singleton]; exact fun e => h e.symm
theorem msk_no47 (l : List UInt8) : (47 : UInt8) ∉ msk l := by
  unfold msk; rw [List.mem_flatMap]; rintro ⟨b, _, hb⟩; exact m1_no47 b hb
theorem msk_cons (b : UInt8) (l : List UInt8) : msk (b :: l) = m1 b ++ msk l := List.flatMap_cons
theorem msk_inj : ∀ {a b : List UInt8}, msk a = msk b → a = b
  | [], [], _ => rfl
  | [], y :: b, h => by
    rw [msk_cons] at h; unfold m1 at h
    split at h
    · simp [msk] at h
    · split at h <;> simp [msk] at h
  | x :: a, [], h => by
    rw [msk_cons] at h; unfold m1 at h
    split at h
    · simp [msk] at h
    · split at h <;> simp [msk] at h
  | x :: a, y :: b, h => by
    rw [msk_cons, msk_cons] at h
    unfold m1 at h
    by_cases x1 : x = 47
    · rw [if_pos x1] at h
      by_cases y1 : y = 47
      · rw [if_pos y1] at h
        have := msk_inj (List.append_cancel_left h); rw [x1, y1, this]
      · rw [if_neg y1] at h
        by_cases y2 : y = 37
        · rw [if_pos y2] at h; simp at h
        · rw [if_neg y2] at h; simp only [List.cons_append, List.cons.injEq] at h; exact absurd h.1.symm y2
    · rw [if_neg x1] at h
      by_cases x2 : x = 37
      · rw [if_pos x2] at h
        by_cases y1 : y = 47
        · rw [if_pos y1] at h; simp at h
        · rw [if_neg y1] at h
          by_cases y2 : y = 37
          · rw [if_pos y2] at h
            have := msk_inj (List.append_cancel_left h); rw [x2, y2, this]
          · rw [if_neg y2] at h; simp only [List.cons_append, List.cons.injEq] at h; exact absurd h.1.symm y2
      · rw [if_neg x2] at h
        by_cases y1 : y = 47
        · rw [if_pos y1] at h; simp only [List.cons_append, List.cons.injEq] at h; exact absurd h.1 x2
        · rw [if_neg y1] at h
          by_cases y2 : y = 37
          · rw [if_pos y2] at h; simp only [List.cons_append, List.cons.injEq] at h; exact absurd h.1 x2
          · rw [if_neg y2] at h
            simp only [List.cons_append, List.nil_append, List.cons.injEq] at h
            rw [h.1, msk_inj h.2]

/-! ### Digits -/
theorem dec_small {u : Nat} (h : u < 10) : Lib.decDigits u = [UInt8.ofNat (48 + u)] := by rw [Lib.decDigits, dif_pos h]
theorem dec_big {u : Nat} (h : 10 ≤ u) : Lib.decDigits u = Lib.decDigits (u / 10) ++ [UInt8.ofNat (48 + u % 10)] := by rw [Lib.decDigits, dif_neg (by omega)]
theorem dec_range : ∀ (n u : Nat), u < n → ∀ b ∈ Lib.decDigits u, 48 ≤ b.toNat ∧ b.toNat ≤ 57
  | 0, _, h => by omega
  | n + 1, u, h => by
    intro b hb
    by_cases hu : u < 10
    · rw [dec_small hu, List.mem_singleton] at hb
      rw [hb, UInt8.toNat_ofNat_of_lt' (by show _ < 256; omega)]; omega
    · rw [dec_big (by omega), List.mem_append, List.mem_singleton] at hb
      rcases hb with hb | hb
      · exact dec_range n (u / 10) (by omega) b hb
      · rw [hb, UInt8.toNat_ofNat_of_lt' (by show _ < 256; omega)]; omega
def valD (l : List UInt8) : Nat := l.foldl (fun u b => u * 10 + (b.toNat - 48)) 0
theorem val_dec : ∀ (n u : Nat), u < n → valD (Lib.decDigits u) = u
  | 0, _, h => by omega
  | n + 1, u, h => by
    by_cases hu : u < 10
    · rw [dec_small hu]; unfold valD
      rw [List.foldl_cons, List.foldl_nil, UInt8.toNat_ofNat_of_lt' (by show _ < 256; omega)]; omega
    · rw [dec_big (by omega)]; unfold valD
      rw [List.foldl_append, List.foldl_cons, List.foldl_nil, UInt8.toNat_ofNat_of_lt' (by show _ < 256; omega)]
      have := val_dec n (u / 10) (by omega)
      unfold valD at this; rw [this]; omega
theorem dec_inj {u v : Nat} (h : Lib.decDigits u = Lib.decDigits v) : u = v := by
  rw [← val_dec (u + 1) u (by omega), h, val_dec (v + 1) v (by omega)]
theorem itoa_inj {x y : Int} (h : Lib.itoa x = Lib.itoa y) : x = y := by
  have no45 : ∀ (u : Nat) (l : List UInt8), 45 :: l ≠ Lib.decDigits u := by
    intro u l e
    have := dec_range (u + 1) u (by omega) 45 (by rw [← e]; exact List.mem_cons_self ..)
    have h2 : (45 : UInt8).toNat = 45 := rfl
    omega
  unfold Lib.itoa at h
  split at h <;> split at h
  · have := dec_inj (List.cons.inj h).2; omega
  · exact absurd h (no45 _ _)
  · exact absurd h.symm (no45 _ _)
  · have := dec_inj h; omega
theorem itoa_no47 (x : Int) : (47 : UInt8) ∉ Lib.itoa x := by
  have no : ∀ u : Nat, (47 : UInt8) ∉ Lib.decDigits u := by
    intro u e
    have := dec_range (u + 1) u (by omega) 47 e
    have h2 : (47 : UInt8).toNat = 47 := rfl
    omega
  unfold Lib.itoa
  split
  · rw [List.mem_cons]; rintro (e | e)
    · exact absurd e (by decide)
    · exact no _ e
  · exact no _

/-! ### A key's text -/
def prK (k : Ky) : List UInt8 := msk k.t ++ (47 :: (msk k.p ++ (47 :: (Lib.itoa k.r ++ (47 :: msk k.c)))))
theorem cut47 : ∀ {x x' y y' : List UInt8}, 47 ∉ x → 47 ∉ x' → x ++ (47 :: y) = x' ++ (47 :: y') → x = x' ∧ y = y'
  | [], [], _, _, _, _, h => ⟨rfl, (List.cons.inj h).2⟩
  | [], b :: x', _, _, _, h', h => absurd (List.mem_cons.2 (Or.inl (List.cons.inj h).1)) h'
  | a :: x, [], _, _, h', _, h => absurd (List.mem_cons.2 (Or.inl (List.cons.inj h).1.symm)) h'
  | a :: x, b :: x', y, y', h1, h2, h => by
    obtain ⟨e1, e2⟩ := List.cons.inj h
    have := cut47 (fun hh => h1 (List.mem_cons_of_mem _ hh)) (fun hh => h2 (List.mem_cons_of_mem _ hh)) e2
    exact ⟨by rw [e1, this.1], this.2⟩
theorem prK_inj (a b : Ky) : prK a = prK b ↔ a = b := by
  constructor
  · intro h
    obtain ⟨h1, h⟩ := cut47 (msk_no47 _) (msk_no47 _) h
    obtain ⟨h2, h⟩ := cut47 (msk_no47 _) (msk_no47 _) h
    obtain ⟨h3, h4⟩ := cut47 (itoa_no47 _) (itoa_no47 _) h
    cases a; cases b
    simp only [Ky.mk.injEq]
    exact ⟨msk_inj h1, msk_inj h2, itoa_inj h3, msk_inj h4⟩
  · rintro rfl; rfl
end Go.Proofs.YthihljjefncfoaaDoor
namespace Go.Proofs.YthihljjefncfoaaDoor
open Go.RowKit

/-- What a key that came in is like. -/
structure Kb.Fits (k : Kb) : Prop where
  r : InI k.r
  t : k.t.size ≤ 140737488351232
  p : k.p.size ≤ 140737488351232
  c : k.c.size ≤ 140737488351232
theorem gPow : Tryd.prog.globalNamed "internal/strconv.uint64pow10" = some 2 := by kernel_rfl
theorem countB_le (s : ByteArray) (c : ByteArray) : Lib.countB s c ≤ s.size + 1 := by
  have := Lib.count_le (nb s) (nb c)
  rw [nb_size] at this
  exact this
theorem strB_size (l : List UInt8) : (strB l).size = l.length := by show l.toArray.size = _; simp
theorem ret_str {a b : ByteArray} (h : a = b) : Ending.returned (.string a) = .returned (.string b) := by rw [h]

end Go.Proofs.YthihljjefncfoaaDoor
namespace Go.Proofs.YthihljjefncfoaaDoor
open Go.RowKit

/-- The texts that hang together. -/
def catP (a b c d : ByteArray) : ByteArray := a ++ ⟨#[47]⟩ ++ b ++ ⟨#[47]⟩ ++ c ++ ⟨#[47]⟩ ++ d
theorem nb_app (a b : ByteArray) : nb (a ++ b) = nb a ++ nb b := by
  show (a ++ b).data.toList = a.data.toList ++ b.data.toList
  rw [ByteArray.data_append, Array.toList_append]
theorem catP_eq (a b c d : List UInt8) : catP (strB a) (strB b) (strB c) (strB d) = strB (a ++ (47 :: (b ++ (47 :: (c ++ (47 :: d)))))) := by
  rw [← nb_inj]
  unfold catP
  simp only [nb_app, nb_strB]
  simp [nb]

theorem msk_size (s : ByteArray) (h : s.size ≤ 5000) : (strB (msk (nb s))).size ≤ 15000 := by
  have l1 : ∀ b, (m1 b).length ≤ 3 := fun b => by unfold m1; split; · decide
                                                  split; · decide
                                                  simp
  have l2 : ∀ l : List UInt8, (msk l).length ≤ 3 * l.length := by
    intro l
    induction l with
    | nil => simp [msk]
    | cons b l ih => rw [msk_cons, List.length_append, List.length_cons]; have := l1 b; omega
  rw [strB_size]; have := l2 (nb s); rw [nb_size] at this; omega

end Go.Proofs.YthihljjefncfoaaDoor
namespace Go.Proofs.YthihljjefncfoaaDoor
open Go.RowKit

def goodK (k : Ky) : Bool := nameB k.t && decide (1 ≤ k.p.length) && decide (k.p.length ≤ 64) && (k.c == [] || nameB k.c)
def emptyB : ByteArray := ⟨#[]⟩
theorem nb_empty (s : ByteArray) : nb s = [] ↔ s.size = 0 := by
  rw [← nb_size]; exact List.length_eq_zero_iff.symm

theorem ba_isEmpty (c : ByteArray) : c.toList.isEmpty = decide (c.size = 0) := by
  rw [ba_list]
  by_cases h : c.size = 0
  · rw [(nb_empty c).2 h]; simp [h]
  · have := fun e => h ((nb_empty c).1 e)
    simp only [h, decide_false]; cases hn : nb c with | nil => exact absurd hn this | cons => rfl
end Go.Proofs.YthihljjefncfoaaDoor
namespace Go.Proofs.YthihljjefncfoaaDoor
open Go.RowKit

theorem conv_seesK {w : World} {ao : Option Addr} {l : List UInt8} (h : Sees w ao l) (hn : ao = none → l.length = 0) (cap : Nat) :
    (convert 25 9 (.slice ao l.length cap)).run Tryd.prog w = .ok (.string ⟨l.toArray⟩) w := by
  cases ao with
  | none =>
    obtain rfl : l = [] := List.eq_nil_of_length_eq_zero (hn rfl)
    rw [run_convert_bytes_string w 25 9 5 none _ cap Tryd.underlying25 Tryd.underlying5 Tryd.underlying9]
    rfl
  | some a =>
    refine run_convert_bytes_back w 25 9 5 a cap l Tryd.underlying25 Tryd.underlying5 Tryd.underlying9 fun j hj => ?_
    obtain ⟨a', e, hc⟩ := h j hj
    obtain rfl := Option.some.inj e
    rw [hc]; simp [List.getD, hj]
set_option maxHeartbeats 400000 in
theorem same_anyK (ao bo : Option Addr) (la lb : List UInt8) (ca cb : Nat) (w : World) (ha : Sees w ao la) (hb : Sees w bo lb) (hna : ao = none → la.length = 0) (hnb : bo = none → lb.length = 0) :
    Calls Tryd.prog 14 #[.slice ao la.length ca, .slice bo lb.length cb] w fun e w' => e = .returned (.bool (la == lb)) ∧ w' = w := by
  have c1 := conv_seesK ha hna ca
  have c2 := conv_seesK hb hnb cb
  go_enter Tryd.func14, Tryd.ntmps14
  go_wp2
  go_ret
  exact ⟨rfl, rfl⟩

def kA : Kb := ⟨⟨#[116]⟩, ⟨#[97]⟩, 1, ⟨#[120]⟩⟩
def kB : Kb := ⟨⟨#[116]⟩, ⟨#[97]⟩, 2, ⟨#[98]⟩⟩
def kP : Kb := ⟨⟨#[116]⟩, ⟨#[97, 47, 98]⟩, -3, ⟨#[120]⟩⟩
def kT : Kb := ⟨⟨#[116]⟩, ⟨#[97]⟩, 0, ⟨#[]⟩⟩
theorem kA_cmp : kc kA.ky kB.ky = -1 := by decide
theorem kA_good : goodK kA.ky = true := by decide
theorem kP_print : strB (prK kP.ky) = ⟨#[116, 47, 97, 37, 50, 102, 98, 47, 45, 51, 47, 120]⟩ := by
  have e : Lib.itoa (-3) = [45, 51] := by
    unfold Lib.itoa; rw [if_pos (by decide)]
    rw [dec_small (by decide)]; rfl
  have : prK kP.ky = [116, 47, 97, 37, 50, 102, 98, 47, 45, 51, 47, 120] := by
    show msk [116] ++ (47 :: (msk [97, 47, 98] ++ (47 :: (Lib.itoa (-3) ++ (47 :: msk [120]))))) = _
    rw [e]; decide
  rw [this]; rfl
def bT : List UInt8 := [116, 0, 0, 97, 0, 0, 128, 0, 0, 0, 0, 0, 0, 0, 0, 0]
theorem kT_bytes : encK kT.ky = bT := by decide
theorem ok_small (k : Kb) (h1 : k.t.size ≤ 5000) (h2 : k.p.size ≤ 5000) (h3 : k.c.size ≤ 5000) (h : InI k.r) : k.Ok := ⟨h1, h2, h3, h⟩

end Go.Proofs.YthihljjefncfoaaDoor
namespace Go.Proofs.YthihljjefncfoaaDoor
open Go.RowKit

structure KAt (w : World) (g : Nat) (k : Kb) : Prop where
  t : w.cell? ⟨g, 0, none⟩ = some (.string k.t)
  p : w.cell? ⟨g, 1, none⟩ = some (.string k.p)
  r : w.cell? ⟨g, 2, none⟩ = some (.int .i64 k.r)
  c : w.cell? ⟨g, 3, none⟩ = some (.string k.c)
theorem KAt.below {w w' : World} {g : Nat} {k : Kb} (h : KAt w g k) {B : Nat} (hb : Below B w w') (hg : g < B) : KAt w' g k :=
  ⟨by rw [hb.cell hg, h.t], by rw [hb.cell hg, h.p], by rw [hb.cell hg, h.r], by rw [hb.cell hg, h.c]⟩
theorem KAt.of {w : World} {g : Nat} {k : Kb} {ty : TypeId} {z : Nat × Nat} (h : w.heap[g]? = some (.cells #[.string k.t, .string k.p, .int .i64 k.r, .string k.c] ty z)) : KAt w g k :=
  ⟨by simp [World.cell?, h], by simp [World.cell?, h], by simp [World.cell?, h], by simp [World.cell?, h]⟩
theorem KAt.lt {w : World} {g : Nat} {k : Kb} (h : KAt w g k) : g < w.heap.size := World.block_lt_of_cell? _ _ h.t
theorem KAt.new (w : World) (k : Kb) (ty : TypeId) : KAt (w.alloc (.cells #[.string k.t, .string k.p, .int .i64 k.r, .string k.c] ty)) w.heap.size k := KAt.of (heap_alloc_new w _)
theorem KAt.alloc {w : World} {g : Nat} {k : Kb} (h : KAt w g k) (o : Obj) : KAt (w.alloc o) g k := h.below ((Below.refl w.heap.size w).alloc (Nat.le_refl _) o) h.lt
theorem KAt.setOther {w : World} {g : Nat} {k : Kb} (h : KAt w g k) {a : Addr} (u : Value) (hne : g ≠ a.block) : KAt (w.setCell a u) g k := by
  have e : ∀ i, (w.setCell a u).cell? ⟨g, i, none⟩ = w.cell? ⟨g, i, none⟩ := fun i => World.cell?_of_block (Below.heap_setCell w a u g hne)
  exact ⟨by rw [e, h.t], by rw [e, h.p], by rw [e, h.r], by rw [e, h.c]⟩
/-- A key whose block is known whole, with two texts set. -/
theorem set_two {w : World} {g : Nat} {t2 p2 c2 : ByteArray} {r2 : Int} {ty : TypeId} {z : Nat × Nat} (h : w.heap[g]? = some (.cells #[.string t2, .string p2, .int .i64 r2, .string c2] ty z)) (t1 p1 : ByteArray) :
    KAt ((w.setCell ⟨g, 0, none⟩ (.string t1)).setCell ⟨g, 1, none⟩ (.string p1)) g ⟨t1, p1, r2, c2⟩ := by
  refine KAt.of (ty := ty) (z := z) ?_
  simp only [World.setCell, Array.getElem?_modify, h]
  simp
theorem set_two' {w : World} {g : Nat} {t2 p2 c2 : ByteArray} {r2 : Int} {ty : TypeId} {z : Nat × Nat} (h : w.heap[g]? = some (.cells #[.string t2, .string p2, .int .i64 r2, .string c2] ty z)) (t1 p1 : ByteArray) :
    KAt ((w.setCell ⟨g, 1, none⟩ (.string p1)).setCell ⟨g, 0, none⟩ (.string t1)) g ⟨t1, p1, r2, c2⟩ := by
  refine KAt.of (ty := ty) (z := z) ?_
  simp only [World.setCell, Array.getElem?_modify, h]
  simp
theorem frozen_of {w : World} {g : Nat} {cs : Array Value} {ty : TypeId} (h : w.heap[g]? = some (.cells cs ty)) (i : Nat) : w.frozen? ⟨g, i, none⟩ = false := by simp [World.frozen?, h]
/-- Two keys are one, as the walk spells it. -/
def eqK (a b : Kb) : Bool := a.t.toList == b.t.toList && (a.p.toList == b.p.toList && (a.r == b.r && a.c.toList == b.c.toList))
theorem eqK_iff (a b : Kb) : eqK a b = true ↔ a = b := by
  unfold eqK
  rw [ba_same, ba_same, ba_same]
  cases a; cases b
  simp only [Bool.and_eq_true, decide_eq_true_eq, beq_iff_eq, Kb.mk.injEq]
theorem eqK_kc (a b : Kb) : (kc a.ky b.ky == 0) = eqK a b := by
  rw [Bool.eq_iff_iff, beq_iff_eq, eqK_iff, kc_cmpr.z, Kb.ky_inj]
/-- How two keys compare, of their parts. -/
def kcB (t1 p1 : ByteArray) (r1 : Int) (c1 t2 p2 : ByteArray) (r2 : Int) (c2 : ByteArray) : Int := kc (Kb.ky ⟨t1, p1, r1, c1⟩) (Kb.ky ⟨t2, p2, r2, c2⟩)
end Go.Proofs.YthihljjefncfoaaDoor
namespace Go.Proofs.YthihljjefncfoaaDoor
open Go.RowKit

theorem msk_succ (l : List UInt8) (k : Nat) (hk : k < l.length) : msk (l.take (k + 1)) = msk (l.take k) ++ m1 (l.getD k 0) := by
  have e : l.getD k 0 = l[k] := by simp [List.getD, hk]
  rw [List.take_succ_eq_append_getElem hk, e]
  unfold msk
  rw [List.flatMap_append]
  simp
theorem strB_app (a b : List UInt8) : strB a ++ strB b = strB (a ++ b) := by
  rw [← nb_inj, nb_app, nb_strB, nb_strB, nb_strB]
theorem extract_one (s : ByteArray) (k : Nat) (hk : k < s.size) : s.extract k (k + 1) = strB [s[k]] := by
  rw [← nb_inj, nb_strB]
  show (s.extract k (k + 1)).data.toList = _
  rw [ByteArray.data_extract, Array.toList_extract, List.extract_eq_take_drop]
  have hk' : k < s.data.toList.length := by simpa using hk
  rw [List.drop_eq_getElem_cons hk', Nat.add_sub_cancel_left]
  rfl
theorem dec_len (n : Int) (hn : -9223372036854775808 ≤ n ∧ n ≤ 9223372036854775807) : (Lib.decDigits n.natAbs).length ≤ 21 := by
  have := Lib.itoa_length_le n hn.1 hn.2
  unfold Lib.itoa at this
  split at this
  · rw [List.length_cons] at this; omega
  · rename_i h
    have e : n.toNat = n.natAbs := by omega
    rwa [e] at this
theorem tmod_pos (x : Int) (h : 0 ≤ x) : x.tmod 10 = ((x.natAbs % 10 : Nat) : Int) ∧ x.tdiv 10 = ((x.natAbs / 10 : Nat) : Int) := by
  rw [Int.tmod_eq_emod_of_nonneg h, Int.tdiv_eq_ediv_of_nonneg h]; omega
theorem tmod_neg (x : Int) (h : x < 0) : x.tmod 10 = -((x.natAbs % 10 : Nat) : Int) ∧ x.tdiv 10 = -((x.natAbs / 10 : Nat) : Int) := by
  have e : x = - (-x) := by omega
  rw [e, Int.neg_tmod, Int.neg_tdiv]
  have := tmod_pos (-x) (by omega)
  rw [this.1, this.2]
  simp
set_option maxRecDepth 100000 in
set_option maxHeartbeats 1000000 in
theorem digits_any (n : Int) (hn : InI n) (w : World) :
    Calls Tryd.prog 37 #[.int .i64 n] w fun e w' => e = .returned (.string (strB (Lib.itoa n))) ∧ Below w.heap.size w w' := by
  unfold InI at hn
  go_enter Tryd.func37, Tryd.ntmps37
  go_wp2_with fail
  go_loopw [0, 3] (fun s0 s3 wr => ∃ (x : Int) (T : List UInt8), s0 = .int .i64 x ∧ s3 = .string (strB T) ∧ (0 ≤ n → 0 ≤ x) ∧ (n < 0 → x ≤ 0) ∧ x.natAbs ≤ n.natAbs ∧ Lib.decDigits n.natAbs = Lib.decDigits x.natAbs ++ T ∧ Below w.heap.size w wr) (fun s0 _ _ => (intOf s0).natAbs)
  case atStart => exact ⟨n, [], rfl, rfl, id, fun h => by omega, Nat.le_refl _, by simp, Below.refl _ _⟩
  case round =>
    obtain ⟨x, T, rfl, rfl, h1, h2, h3, h4, hb⟩ := hrel
    obtain ⟨d, hd⟩ : ∃ d, d = x.natAbs % 10 := ⟨_, rfl⟩
    have hd9 : d < 10 := by omega
    obtain ⟨b, hbb⟩ : ∃ b : UInt8, b = UInt8.ofNat (48 + d) := ⟨_, rfl⟩
    have hbv : (b.toNat : Int) = 48 + (d : Int) := by rw [hbb, UInt8.toNat_ofNat_of_lt' (by show _ < 256; omega)]; omega
    have hconv : Sem.run Tryd.prog (convert 25 9 (.slice (some ⟨wr.heap.size, 0, none⟩) 1 1)) (wr.alloc (.cells #[.int .u8 (48 + (d : Int))] 5)) = .ok (.string (strB [b])) (wr.alloc (.cells #[.int .u8 (48 + (d : Int))] 5)) := by
      have := conv_seesK (l := [b]) (sees_litK wr [b] (0, 0)) (fun h => by cases h) 1
      simp only [B8, List.map_cons, List.map_nil, hbv] at this
      exact this
    have z1 : (strB [b]).size = 1 := by rw [strB_size]; rfl
    have z2 : (strB T).size ≤ 21 := by
      have e1 := dec_len n hn
      rw [h4, List.length_append] at e1
      rw [strB_size]; omega
    have hcat : strB [b] ++ strB T = strB (b :: T) := strB_app [b] T
    have hdig : Lib.decDigits x.natAbs = (if x.natAbs < 10 then [] else Lib.decDigits (x.natAbs / 10)) ++ [b] := by
      split <;> rename_i h
      · rw [dec_small h, hbb, hd, Nat.mod_eq_of_lt h]; rfl
      · rw [dec_big (by omega), hbb, hd]
    have HX : Hid (x.natAbs < 10 → Lib.decDigits n.natAbs = b :: T) := fun h => by rw [h4, hdig, if_pos h]; rfl
    have HY : Hid (10 ≤ x.natAbs → Lib.decDigits n.natAbs = Lib.decDigits (x.natAbs / 10) ++ b :: T) := fun h => by rw [h4, hdig, if_neg (by omega)]; simp
    have hbx : Hid (∀ o : Obj, Below w.heap.size w (wr.alloc o)) := fun o => hb.alloc hb.size o
    have hcat2 : ¬ (9223372036854775807 < (strB [b]).size + (strB T).size) := by omega
    have hdi : (d : Int) ≤ 9 := by omega
    obtain ⟨z, hzd⟩ : ∃ z, z = x.tdiv 10 := ⟨_, rfl⟩
    by_cases hneg : x < 0 ∧ 0 < d
    · obtain ⟨e1, e2⟩ := tmod_neg x hneg.1
      rw [← hzd] at e2
      have hm : x.tmod 10 = -(d : Int) := by rw [hd]; exact e1
      have hq : x.tdiv 10 = z := hzd.symm
      have hlt : decide (-(d : Int) < 0) = true := decide_eq_true (by omega)
      have hdp : 0 < d := hneg.2
      have hdp2 : decide (0 < d) = true := decide_eq_true hneg.2
      clear hzd hd hbb hbv hdig h4 e1 hb
      by_cases hz : x.natAbs < 10
      · obtain rfl : z = 0 := by omega
        clear e2 hneg
        by_cases hn0 : n < 0
        · have dn : decide (n < 0) = true := decide_eq_true hn0
          have HR : Hid (⟨#[45]⟩ ++ strB (b :: T) = strB (Lib.itoa n)) := by
            show _ = _
            unfold Lib.itoa
            rw [if_pos hn0, HX.out hz]
            exact strB_app [45] (b :: T)
          have z4 : (strB (b :: T)).size ≤ 30 := by rw [strB_size, List.length_cons]; rw [strB_size] at z2; omega
          clear HX HY hz hn h1 h2 h3
          go_wp2_with fail
          go_ret
          exact ⟨ret_str HR.out, hbx.out _⟩
        · have dn : decide (n < 0) = false := decide_eq_false hn0
          have HR : Hid (strB (b :: T) = strB (Lib.itoa n)) := by
            show _ = _
            unfold Lib.itoa
            rw [if_neg hn0]
            have e : n.toNat = n.natAbs := by omega
            rw [e, HX.out hz]
          clear HX HY hz hn h1 h2 h3
          go_wp2_with fail
          go_ret
          exact ⟨ret_str HR.out, hbx.out _⟩
      · have hz1 : 10 ≤ x.natAbs := by omega
        have HR := HY.out (by omega)
        have HRR : Hid (Lib.decDigits n.natAbs = Lib.decDigits (x.natAbs / 10) ++ b :: T) := HR
        have HS : Hid (0 ≤ n → 0 ≤ z) := fun h => by have := h1 h; omega
        have HS2 : Hid (n < 0 → z ≤ 0) := fun h => by have := h2 h; omega
        have HS3 : Hid (z.natAbs ≤ n.natAbs) := by show z.natAbs ≤ n.natAbs; omega
        have HS4 : Hid (z.natAbs = x.natAbs / 10) := by show z.natAbs = x.natAbs / 10; omega
        have HS5 : Hid (z.natAbs < x.natAbs) := by show z.natAbs < x.natAbs; omega
        have zz : (z == 0) = false := by rw [beq_eq_false_iff_ne]; omega
        have zb : -922337203685477581 ≤ z ∧ z ≤ 922337203685477581 := by omega
        clear HX HY hz hz1 hn h1 h2 h3 HR e2 hneg
        obtain ⟨zb1, zb2⟩ := zb
        go_wp2_with fail
        exact ⟨⟨z, b :: T, rfl, rfl, HS.out, HS2.out, HS3.out, by rw [HS4.out]; exact HRR.out, hbx.out _⟩, by simp [intOf]; exact HS5.out⟩
    · have hm : x.tmod 10 = (d : Int) := by
        by_cases hx0 : x < 0
        · have e1 := (tmod_neg x hx0).1
          have : d = 0 := by omega
          rw [e1, ← hd, this]; rfl
        · have e1 := (tmod_pos x (by omega)).1
          rw [e1, ← hd]
      have e2 : (0 ≤ x → z = ((x.natAbs / 10 : Nat) : Int)) ∧ (x < 0 → z = -((x.natAbs / 10 : Nat) : Int)) := ⟨fun h => hzd.trans (tmod_pos x h).2, fun h => hzd.trans (tmod_neg x h).2⟩
      have hq : x.tdiv 10 = z := hzd.symm
      have hlt : decide ((d : Int) < 0) = false := decide_eq_false (by omega)
      clear hzd hd hbb hbv hdig h4 hb hneg
      by_cases hz : x.natAbs < 10
      · obtain rfl : z = 0 := by have := e2.1; have := e2.2; omega
        clear e2
        by_cases hn0 : n < 0
        · have dn : decide (n < 0) = true := decide_eq_true hn0
          have HR : Hid (⟨#[45]⟩ ++ strB (b :: T) = strB (Lib.itoa n)) := by
            show _ = _
            unfold Lib.itoa
            rw [if_pos hn0, HX.out hz]
            exact strB_app [45] (b :: T)
          have z4 : (strB (b :: T)).size ≤ 30 := by rw [strB_size, List.length_cons]; rw [strB_size] at z2; omega
          clear HX HY hz hn h1 h2 h3
          go_wp2_with fail
          go_ret
          exact ⟨ret_str HR.out, hbx.out _⟩
        · have dn : decide (n < 0) = false := decide_eq_false hn0
          have HR : Hid (strB (b :: T) = strB (Lib.itoa n)) := by
            show _ = _
            unfold Lib.itoa
            rw [if_neg hn0]
            have e : n.toNat = n.natAbs := by omega
            rw [e, HX.out hz]
          clear HX HY hz hn h1 h2 h3
          go_wp2_with fail
          go_ret
          exact ⟨ret_str HR.out, hbx.out _⟩
      · have hz1 : 10 ≤ x.natAbs := by omega
        have e3 := e2.1
        have e4 := e2.2
        clear e2
        have HR := HY.out (by omega)
        have HRR : Hid (Lib.decDigits n.natAbs = Lib.decDigits (x.natAbs / 10) ++ b :: T) := HR
        have HS : Hid (0 ≤ n → 0 ≤ z) := fun h => by have := h1 h; omega
        have HS2 : Hid (n < 0 → z ≤ 0) := fun h => by have := h2 h; omega
        have HS3 : Hid (z.natAbs ≤ n.natAbs) := by show z.natAbs ≤ n.natAbs; omega
        have HS4 : Hid (z.natAbs = x.natAbs / 10) := by show z.natAbs = x.natAbs / 10; omega
        have HS5 : Hid (z.natAbs < x.natAbs) := by show z.natAbs < x.natAbs; omega
        have zz : (z == 0) = false := by rw [beq_eq_false_iff_ne]; omega
        have zb : -922337203685477581 ≤ z ∧ z ≤ 922337203685477581 := by omega
        clear HX HY hz hz1 hn h1 h2 h3 HR e3 e4
        obtain ⟨zb1, zb2⟩ := zb
        go_wp2_with fail
        exact ⟨⟨z, b :: T, rfl, rfl, HS.out, HS2.out, HS3.out, by rw [HS4.out]; exact HRR.out, hbx.out _⟩, by simp [intOf]; exact HS5.out⟩
end Go.Proofs.YthihljjefncfoaaDoor
