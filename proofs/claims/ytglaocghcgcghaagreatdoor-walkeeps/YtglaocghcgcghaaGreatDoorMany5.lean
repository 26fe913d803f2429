/-
  SEVERAL TEXTS IN ONE: DskLose, KeyPlain, IntRow, MurWord.
-/
import Derived.Test.YtglaocghcgcghaaGreatDoorMany3
import Derived.Test.YtglaocghcgcghaaGreatDoorDskShelf
import Derived.Deep.DeepFit
import Derived.WalkKit
import Derived.PlainAid
import Derived.OpenShut
import Derived.Lib.Bytealg
import Derived.Lib.Small
import Derived.Test.YtglaocghcgcghaaGreatDoorChecked
import Derived.Test.YtglaocghcgcghaaGreatDoorMany2
import Derived.Test.YtglaocghcgcghaaGreatDoorOwn
namespace Go.Proofs.YtglaocghcgcghaaGreatDoor
open Go.RowKit Go.Maps

/-- How many of a file's places are ahead of the end. -/
def keptN (e : Ent) (x : Nat) : Nat := e.pl.countP (· < x)
/-- How many bytes a file has behind a failure. -/
def lostAt (e : Ent) (x : Nat) : Nat := if keptN e x = 0 then e.wr else min e.bs.length ((e.wr / 16 + keptN e x) * 16)
/-- What a file is behind a failure. -/
def loseE (e : Ent) (x : Nat) : Ent := endE e (lostAt e x)
theorem lostAt_le {e : Ent} (h : e.wr ≤ e.bs.length) (x : Nat) : lostAt e x ≤ e.bs.length := by unfold lostAt; split <;> omega
theorem I64_at (l : List Nat) (i : Nat) (h : i < l.length) : (I64D l)[i]? = some (.int .i64 ((l.getD i 0 : Nat) : Int)) := by simp [I64D, h]
theorem count_cast (l : List Nat) (x : Nat) : (l.map fun n : Nat => (n : Int)).countP (· < (x : Int)) = l.countP (· < x) := by
  rw [List.countP_map]
  congr 1
  funext n
  simp
theorem search_any {w : World} {e : Ent} (h : EntAt w e) (hp : e.pl.Pairwise (· < ·)) (hm : e.pl.length ≤ 1099511627776) (x : Nat) :
    ∃ b, Calls Tryz.prog 45 #[e.v2, .int .i64 (x : Int)] w fun z w' => z = .returned (.tuple #[.int .i64 (keptN e x : Int), .bool b]) ∧ ∃ q, w' = w.drewN q := by
  rcases h.row2.2 with ⟨hv, hl⟩ | ⟨g, cap, cur, hv, _⟩
  · rw [hv]
    have hz : e.pl = [] := List.eq_nil_of_length_eq_zero hl
    refine ⟨false, (Tryz.slices_BinarySearch_int_empty none 0 x w).mono ?_⟩
    rintro z w' ⟨rfl, rfl⟩
    refine ⟨?_, 0, rfl⟩
    simp [keptN, hz]
  · rw [hv]
    refine ⟨((e.pl.map fun n : Nat => (n : Int)).take e.pl.length).contains (x : Int), (Tryz.slices_BinarySearch_int g 0 e.pl.length cap (e.pl.map fun n : Nat => (n : Int)) x w (by simp) (by omega) ?_ ?_).mono ?_⟩
    · intro j hj
      rw [List.length_map] at hj
      have := h.row2.cells (g := g) (by rw [hv]; rfl) j _ (I64_at e.pl j hj)
      rw [Addr.add_lit] at this
      rw [this]
      simp [List.getD, hj]
    · rw [List.take_of_length_le (by simp), List.pairwise_map]
      exact hp.imp fun h => by omega
    · rintro z w' ⟨rfl, q, rfl⟩
      refine ⟨?_, q, rfl⟩
      rw [List.take_of_length_le (by simp), count_cast]
      rfl

set_option maxRecDepth 100000 in
set_option maxHeartbeats 4000000 in
theorem lose_any {w : World} {e : Ent} (h : EntAt w e) (hp : e.pl.Pairwise (· < ·)) (hm : e.pl.length ≤ 1099511627776) (hw : e.wr ≤ e.bs.length) (hl : e.bs.length ≤ 1099511627776) (x : Nat) :
    Calls Tryz.prog 33 #[.pointer (some ⟨e.b, 0, none⟩), .int .i64 (x : Int)] w fun z w' => z = .returned (.tuple #[]) ∧ EntAt w' (loseE e x) ∧ Moved w w' e.foot (loseE e x).foot := by
  obtain ⟨bb, B⟩ := search_any h hp hm x
  have hk : keptN e x ≤ e.pl.length := List.countP_le_length
  have B : Hid (Calls Tryz.prog 45 #[e.v2, .int .i64 (x : Int)] w fun z w' => z = .returned (.tuple #[.int .i64 (keptN e x : Int), .bool bb]) ∧ ∃ q, w' = w.drewN q) := B
  have c0 := h.c0
  have c1 := h.c1
  have c2 := h.c2
  obtain ⟨ao, cap, hv, _⟩ := owns_form h.row1
  rw [hv] at c0
  clear hv hp
  by_cases hz : keptN e x = 0
  · have E : Hid (∀ q, Calls Tryz.prog 59 #[.pointer (some ⟨e.b, 0, none⟩), .int .i64 (e.wr : Int)] (w.drewN q) fun z w' => z = .returned (.tuple #[]) ∧ EntAt w' (endE e e.wr) ∧ Moved (w.drewN q) w' e.foot (endE e e.wr).foot) := fun q => endAt_any (h.carry (w' := w.drewN q) fun _ _ => rfl) e.wr hw
    have HL : Hid (lostAt e x = e.wr) := by show _ = _; unfold lostAt; rw [if_pos hz]
    rw [hz] at B
    clear h hz hk
    go_enter Tryz.func33, Tryz.ntmps33
    go_wp2_with (first | (go_at_call 45; refine B.out.mono ?_; rintro z w1 ⟨rfl, q, rfl⟩) | (go_at_call 59; refine (E.out _).mono ?_; rintro z w2 ⟨rfl, hE⟩))
    refine bodyPost_ret (results_none rfl _ _ _) rfl ?_
    obtain ⟨a1, a7⟩ := hE
    unfold loseE
    rw [HL.out]
    exact ⟨rfl, a1, ⟨a7.os, a7.tape, a7.output, a7.size, a7.kept, a7.news⟩⟩
  · have hzb : ((keptN e x : Int) == 0) = false := by rw [beq_eq_false_iff_ne]; omega
    have E : Hid (∀ n : Nat, n ≤ e.bs.length → ∀ q, Calls Tryz.prog 59 #[.pointer (some ⟨e.b, 0, none⟩), .int .i64 (n : Int)] (w.drewN q) fun z w' => z = .returned (.tuple #[]) ∧ EntAt w' (endE e n) ∧ Moved (w.drewN q) w' e.foot (endE e n).foot) := fun n hn q => endAt_any (h.carry (w' := w.drewN q) fun _ _ => rfl) n hn
    have HL : lostAt e x = min e.bs.length ((e.wr / 16 + keptN e x) * 16) := by unfold lostAt; rw [if_neg hz]
    have hval : min (e.bs.length : Int) (IntKind.i64.wrap (IntKind.i64.wrap (IntKind.i64.wrap ((e.wr : Int) / 16) + (keptN e x : Int)) * 16)) = ((lostAt e x : Nat) : Int) := by
      rw [HL, i64_wrap (x := (e.wr : Int) / 16) (by omega) (by omega), i64_wrap (x := (e.wr : Int) / 16 + (keptN e x : Int)) (by omega) (by omega), i64_wrap (by omega) (by omega)]
      omega
    have HE : Hid (∀ q, Calls Tryz.prog 59 #[.pointer (some ⟨e.b, 0, none⟩), .int .i64 (min (e.bs.length : Int) (IntKind.i64.wrap (IntKind.i64.wrap (IntKind.i64.wrap ((e.wr : Int) / 16) + (keptN e x : Int)) * 16)))] (w.drewN q) fun z w' => z = .returned (.tuple #[]) ∧ EntAt w' (endE e (lostAt e x)) ∧ Moved (w.drewN q) w' e.foot (endE e (lostAt e x)).foot) := by
      intro q
      rw [hval]
      exact E.out _ (lostAt_le hw x) q
    clear h hz hk E hval HL
    generalize keptN e x = kn at *
    go_enter Tryz.func33, Tryz.ntmps33
    go_wp2_with (go_at_call 45; refine B.out.mono ?_; rintro z w1 ⟨rfl, q, rfl⟩)
    go_region_with (go_at_call 59; refine (HE.out _).mono ?_; rintro z w2 ⟨rfl, hE⟩)
    all_goals
      go_end0
      obtain ⟨a1, a7⟩ := hE
      exact ⟨rfl, a1, ⟨a7.os, a7.tape, a7.output, a7.size, a7.kept, a7.news⟩⟩
end Go.Proofs.YtglaocghcgcghaaGreatDoor
namespace Go.Proofs.YtglaocghcgcghaaGreatDoor
open Go.RowKit

/-! ### Comparisons -/
/-- The first, unless it tells nothing. -/
def th (x y : Int) : Int := if x ≠ 0 then x else y
theorem th_zero (y : Int) : th 0 y = y := by simp [th]
theorem th_of {x : Int} (h : x ≠ 0) (y : Int) : th x y = x := by simp [th, h]

structure Cmpr {α : Type} (f : α → α → Int) : Prop where
  z : ∀ a b, f a b = 0 ↔ a = b
  n : ∀ a b, f a b = - f b a
  t : ∀ a b c, f a b ≤ 0 → f b c ≤ 0 → f a c ≤ 0
  r : ∀ a b, f a b = -1 ∨ f a b = 0 ∨ f a b = 1

theorem Cmpr.strict {α : Type} {f : α → α → Int} (F : Cmpr f) {a b c : α} (h : f a b < 0) (g : f b c < 0) : f a c < 0 := by
  have := F.t a b c (by omega) (by omega)
  by_cases e : f a c = 0
  · have := (F.z a c).1 e; subst this
    have := F.n a b; omega
  · omega

def lex {α β : Type} (f : α → α → Int) (g : β → β → Int) (a b : α × β) : Int := th (f a.1 b.1) (g a.2 b.2)
theorem Cmpr.lex {α β : Type} {f : α → α → Int} {g : β → β → Int} (F : Cmpr f) (G : Cmpr g) : Cmpr (lex f g) where
  z := by
    rintro ⟨a, x⟩ ⟨b, y⟩
    unfold Go.Proofs.YtglaocghcgcghaaGreatDoor.lex th
    have := F.z a b; have := G.z x y
    split <;> rename_i h
    · constructor
      · intro e; exact absurd e h
      · intro e; exact absurd ((F.z a b).2 (congrArg Prod.fst e)) h
    · have h0 : f a b = 0 := by simpa using h
      have := (F.z a b).1 h0; subst this
      constructor
      · intro e; rw [(G.z x y).1 e]
      · intro e; exact (G.z x y).2 (congrArg Prod.snd e)
  n := by
    rintro ⟨a, x⟩ ⟨b, y⟩
    unfold Go.Proofs.YtglaocghcgcghaaGreatDoor.lex th
    have h1 := F.n a b; have h2 := G.n x y
    dsimp only
    by_cases e : f a b = 0
    · have e' : f b a = 0 := by omega
      simp only [e, e', ne_eq, not_true, if_false]; exact h2
    · have e' : f b a ≠ 0 := by omega
      simp only [ne_eq, e, e', not_false_eq_true, if_true]; exact h1
  t := by
    rintro ⟨a, x⟩ ⟨b, y⟩ ⟨c, z⟩
    unfold Go.Proofs.YtglaocghcgcghaaGreatDoor.lex th
    dsimp only
    intro h1 h2
    by_cases e1 : f a b = 0
    · have := (F.z a b).1 e1; subst this
      rw [if_neg (by simp [e1])] at h1
      by_cases e2 : f a c = 0
      · rw [if_neg (by simp [e2])] at h2 ⊢
        exact G.t _ _ _ h1 h2
      · rw [if_pos e2] at h2 ⊢; exact h2
    · rw [if_pos e1] at h1
      by_cases e2 : f b c = 0
      · have := (F.z b c).1 e2; subst this
        rw [if_pos e1]; exact h1
      · rw [if_pos e2] at h2
        have := F.strict (a := a) (b := b) (c := c) (by omega) (by omega)
        rw [if_pos (by omega)]; omega
  r := by
    rintro ⟨a, x⟩ ⟨b, y⟩
    unfold Go.Proofs.YtglaocghcgcghaaGreatDoor.lex th
    split
    · exact F.r a b
    · exact G.r x y

/-! ### Texts -/
def cb (a b : List UInt8) : Int := Lib.compareBytes a b
theorem cb_self : ∀ a : List UInt8, cb a a = 0
  | [] => rfl
  | a :: r => by show Lib.compareBytes _ _ = _; unfold Lib.compareBytes; simp only [UInt8.lt_irrefl, if_false]; exact cb_self r
theorem u8_tri (a b : UInt8) : a < b ∨ a = b ∨ b < a := by
  rcases Nat.lt_trichotomy a.toNat b.toNat with h | h | h
  · exact Or.inl (UInt8.lt_iff_toNat_lt.2 h)
  · exact Or.inr (Or.inl (UInt8.toNat_inj.1 h))
  · exact Or.inr (Or.inr (UInt8.lt_iff_toNat_lt.2 h))
theorem u8_asymm {a b : UInt8} (h : a < b) : ¬ b < a := by
  rw [UInt8.lt_iff_toNat_lt] at h ⊢; omega
theorem cb_lt {a b : UInt8} (h : a < b) (r s : List UInt8) : cb (a :: r) (b :: s) = -1 := by
  show Lib.compareBytes _ _ = _; unfold Lib.compareBytes; rw [if_pos h]
theorem cb_gt {a b : UInt8} (h : b < a) (r s : List UInt8) : cb (a :: r) (b :: s) = 1 := by
  show Lib.compareBytes _ _ = _; unfold Lib.compareBytes; rw [if_neg (u8_asymm h), if_pos h]
theorem cb_eq (a : UInt8) (r s : List UInt8) : cb (a :: r) (a :: s) = cb r s := by
  show Lib.compareBytes _ _ = _; conv => lhs; unfold Lib.compareBytes
  rw [if_neg (UInt8.lt_irrefl a), if_neg (UInt8.lt_irrefl a)]; rfl
theorem cb_nil_cons (b : UInt8) (s : List UInt8) : cb [] (b :: s) = -1 := rfl
theorem cb_cons_nil (b : UInt8) (s : List UInt8) : cb (b :: s) [] = 1 := rfl
theorem cb_nil_nil : cb [] [] = 0 := rfl
theorem cb_nil_le (s : List UInt8) : cb [] s ≤ 0 := by cases s with | nil => exact Int.le_refl _ | cons => rw [cb_nil_cons]; omega

theorem cb_cmpr : Cmpr cb where
  z := by
    intro a b
    constructor
    · induction a generalizing b with
      | nil => cases b with | nil => intro _; rfl | cons => intro h; rw [cb_nil_cons] at h; omega
      | cons x a ih =>
        cases b with
        | nil => intro h; rw [cb_cons_nil] at h; omega
        | cons y b =>
          rcases u8_tri x y with h | h | h
          · rw [cb_lt h]; omega
          · subst h; rw [cb_eq]; intro e; rw [ih b e]
          · rw [cb_gt h]; omega
    · rintro rfl; exact cb_self a
  n := by
    intro a
    induction a with
    | nil => intro b; cases b with | nil => rfl | cons => rfl
    | cons x a ih =>
      intro b
      cases b with
      | nil => rfl
      | cons y b =>
        rcases u8_tri x y with h | h | h
        · rw [cb_lt h, cb_gt h]; 
        · subst h; rw [cb_eq, cb_eq]; exact ih b
        · rw [cb_gt h, cb_lt h]; rfl
  t := by
    intro a
    induction a with
    | nil => intro b c _ _; exact cb_nil_le c
    | cons x a ih =>
      intro b c h g
      cases b with
      | nil => rw [cb_cons_nil] at h; omega
      | cons y b =>
        cases c with
        | nil => rw [cb_cons_nil] at g; omega
        | cons z c =>
          rcases u8_tri x y with h1 | h1 | h1
          · rcases u8_tri y z with h2 | h2 | h2
            · have : x < z := by rw [UInt8.lt_iff_toNat_lt] at *; omega
              rw [cb_lt this]; omega
            · subst h2; rw [cb_lt h1]; omega
            · rw [cb_gt h2] at g; omega
          · subst h1
            rw [cb_eq] at h
            rcases u8_tri x z with h2 | h2 | h2
            · rw [cb_lt h2]; omega
            · subst h2; rw [cb_eq] at g ⊢; exact ih b c h g
            · rw [cb_gt h2] at g; omega
          · rw [cb_gt h1] at h; omega
  r := by
    intro a
    induction a with
    | nil => intro b; cases b with | nil => exact Or.inr (Or.inl rfl) | cons => exact Or.inl rfl
    | cons x a ih =>
      intro b
      cases b with
      | nil => exact Or.inr (Or.inr rfl)
      | cons y b =>
        rcases u8_tri x y with h | h | h
        · exact Or.inl (cb_lt h _ _)
        · subst h; rw [cb_eq]; exact ih b
        · exact Or.inr (Or.inr (cb_gt h _ _))

theorem less_cb : ∀ a b : List UInt8, Op.bytesLess a b = decide (cb a b = -1)
  | [], [] => rfl
  | [], _ :: _ => rfl
  | _ :: _, [] => rfl
  | a :: r, b :: s => by
    rcases u8_tri a b with h | h | h
    · rw [cb_lt h]; simp [Op.bytesLess, h]
    · subst h; rw [cb_eq]; simp [Op.bytesLess, less_cb r s]
    · rw [cb_gt h]
      have h1 := u8_asymm h
      have h2 : ¬ a = b := by rintro rfl; exact UInt8.lt_irrefl _ h
      simp [Op.bytesLess, h1, h2]

/-! ### Numbers -/
def ci (x y : Int) : Int := if x < y then -1 else if x > y then 1 else 0
theorem ci_cmpr : Cmpr ci where
  z := by intro a b; unfold ci; split; · omega
          split <;> omega
  n := by intro a b; unfold ci; split <;> split <;> (try split) <;> omega
  t := by intro a b c; unfold ci; split <;> split <;> split <;> (try split) <;> (try split) <;> (try split) <;> omega
  r := by intro a b; unfold ci; split; · omega
          split <;> omega

/-! ### Keys -/
structure Ky where
  t : List UInt8
  p : List UInt8
  r : Int
  c : List UInt8
def kc (a b : Ky) : Int := th (cb a.t b.t) (th (cb a.p b.p) (th (ci a.r b.r) (cb a.c b.c)))
def Ky.tup (k : Ky) : List UInt8 × List UInt8 × Int × List UInt8 := (k.t, k.p, k.r, k.c)
theorem kc_cmpr : Cmpr kc := by
  have F := cb_cmpr.lex (cb_cmpr.lex (ci_cmpr.lex cb_cmpr))
  have e : ∀ a b : Ky, kc a b = lex cb (lex cb (lex ci cb)) a.tup b.tup := fun a b => rfl
  refine ⟨fun a b => ?_, fun a b => ?_, fun a b c h g => ?_, fun a b => ?_⟩
  · rw [e, F.z]
    constructor
    · intro h
      cases a; cases b
      simp only [Ky.tup, Prod.mk.injEq] at h
      obtain ⟨rfl, rfl, rfl, rfl⟩ := h; rfl
    · rintro rfl; rfl
  · rw [e, e]; exact F.n _ _
  · rw [e] at *; exact F.t _ _ _ h g
  · rw [e]; exact F.r _ _

def Ky.mark (k : Ky) : Ky := { k with c := [] }
theorem mark_le (k : Ky) : kc k.mark k ≤ 0 := by
  unfold kc Ky.mark; rw [cb_self, th_zero, cb_self, th_zero, (ci_cmpr.z _ _).2 rfl, th_zero]; exact cb_nil_le _
theorem mark_zero (k : Ky) : kc k.mark k = 0 ↔ k.c = [] := by
  rw [kc_cmpr.z]
  cases k; simp only [Ky.mark, Ky.mk.injEq, true_and]; exact ⟨Eq.symm, Eq.symm⟩
theorem mark_mark (k : Ky) : k.mark.mark = k.mark := rfl
theorem row_lt {a b : Ky} (h1 : a.t = b.t) (h2 : a.p = b.p) (h : a.r < b.r) : kc a b = -1 := by
  unfold kc; rw [h1, h2, cb_self, th_zero, cb_self, th_zero]
  have : ci a.r b.r = -1 := by unfold ci; rw [if_pos h]
  rw [this, th_of (by omega)]
theorem between {a b c : Ky} (h1 : a.t = b.t) (h2 : a.p = b.p) (g : kc a c ≤ 0) (g' : kc c b ≤ 0) : c.t = a.t ∧ c.p = a.p ∧ (a.r = b.r → c.r = a.r) := by
  have part : ∀ {α : Type} {f : α → α → Int} (F : Cmpr f) {x y : α} {u v : Int}, th (f x y) u ≤ 0 → th (f y x) v ≤ 0 → y = x ∧ u ≤ 0 ∧ v ≤ 0 := by
    intro α f F x y u v h g
    have n := F.n x y
    unfold th at h g
    by_cases e : f x y = 0
    · have e' : f y x = 0 := by omega
      rw [if_neg (by simp [e])] at h; rw [if_neg (by simp [e'])] at g
      exact ⟨((F.z _ _).1 e').symm ▸ rfl, h, g⟩
    · have e' : f y x ≠ 0 := by omega
      rw [if_pos e] at h; rw [if_pos e'] at g
      omega
  unfold kc at g g'
  rw [← h1, ← h2] at g'
  obtain ⟨e1, g, g'⟩ := part cb_cmpr g g'
  obtain ⟨e2, g, g'⟩ := part cb_cmpr g g'
  refine ⟨e1, e2, fun hr => ?_⟩
  rw [← hr] at g'
  exact (part ci_cmpr g g').1

/-! ### Bytes -/
def esc : List UInt8 → List UInt8
  | [] => []
  | b :: l => if b = 0 then 0 :: 255 :: esc l else b :: esc l
def encT (s : List UInt8) : List UInt8 := esc s ++ [0, 0]
theorem esc_append (a b : List UInt8) : esc (a ++ b) = esc a ++ esc b := by
  induction a with
  | nil => rfl
  | cons x a ih => simp only [List.cons_append, esc, ih]; split <;> rfl
theorem u8_pos {b : UInt8} (h : b ≠ 0) : (0 : UInt8) < b := by
  rcases u8_tri 0 b with g | g | g
  · exact g
  · exact absurd g.symm h
  · rw [UInt8.lt_iff_toNat_lt] at g; simp at g
theorem cb_encT : ∀ (s t x y : List UInt8), cb (encT s ++ x) (encT t ++ y) = th (cb s t) (cb x y)
  | [], [], x, y => by simp only [encT, esc, List.nil_append, List.cons_append]; rw [cb_eq, cb_eq, cb_nil_nil, th_zero]
  | [], b :: t, x, y => by
    rw [cb_nil_cons, th_of (by omega)]
    by_cases h : b = 0
    · simp only [encT, esc, h, if_true, List.nil_append, List.cons_append]; rw [cb_eq, cb_lt (by decide)]
    · simp only [encT, esc, h, if_false, List.nil_append, List.cons_append]; rw [cb_lt (u8_pos h)]
  | a :: s, [], x, y => by
    rw [cb_cons_nil, th_of (by omega)]
    by_cases h : a = 0
    · simp only [encT, esc, h, if_true, List.nil_append, List.cons_append]; rw [cb_eq, cb_gt (by decide)]
    · simp only [encT, esc, h, if_false, List.nil_append, List.cons_append]; rw [cb_gt (u8_pos h)]
  | a :: s, b :: t, x, y => by
    have ih := cb_encT s t x y
    have e : ∀ (c : UInt8) (l z : List UInt8), encT (c :: l) ++ z = if c = 0 then 0 :: 255 :: (encT l ++ z) else c :: (encT l ++ z) := by
      intro c l z; simp only [encT, esc]; split <;> simp
    rcases u8_tri a b with h | h | h
    · rw [cb_lt h, th_of (by omega), e, e, if_neg (c := b = 0) (by rintro rfl; rw [UInt8.lt_iff_toNat_lt] at h; simp at h)]
      split
      · rename_i g; rw [← g, cb_lt h]
      · rw [cb_lt h]
    · subst h
      rw [cb_eq, e, e]
      split
      · rw [cb_eq, cb_eq]; exact ih
      · rw [cb_eq]; exact ih
    · rw [cb_gt h, th_of (by omega), e, e, if_neg (c := a = 0) (by rintro rfl; rw [UInt8.lt_iff_toNat_lt] at h; simp at h)]
      split
      · rename_i g; rw [← g, cb_gt h]
      · rw [cb_gt h]

/-- The n lowest bytes of u, the highest first. -/
def be : Nat → Nat → List UInt8
  | 0, _ => []
  | n + 1, u => UInt8.ofNat (u / 256 ^ n % 256) :: be n u
theorem be_length : ∀ n u, (be n u).length = n
  | 0, _ => rfl
  | n + 1, u => by simp [be, be_length n u]
theorem ofNat_lt {a b : Nat} (hb : b < 256) (h : a < b) : UInt8.ofNat a < UInt8.ofNat b := by
  rw [UInt8.lt_iff_toNat_lt, UInt8.toNat_ofNat_of_lt' (by show a < 256; omega), UInt8.toNat_ofNat_of_lt' hb]; exact h
theorem cb_be : ∀ (n u v : Nat) (x y : List UInt8), cb (be n u ++ x) (be n v ++ y) = th (ci ((u % 256 ^ n : Nat) : Int) ((v % 256 ^ n : Nat) : Int)) (cb x y)
  | 0, u, v, x, y => by
    simp only [be, List.nil_append, Nat.pow_zero, Nat.mod_one]
    rw [(ci_cmpr.z _ _).2 rfl, th_zero]
  | n + 1, u, v, x, y => by
    have ih := cb_be n u v x y
    have hu := Nat.mod_pow_succ (b := 256) (k := n) (x := u)
    have hv := Nat.mod_pow_succ (b := 256) (k := n) (x := v)
    have lu : u / 256 ^ n % 256 < 256 := Nat.mod_lt _ (by decide)
    have lv : v / 256 ^ n % 256 < 256 := Nat.mod_lt _ (by decide)
    have p : 0 < 256 ^ n := Nat.pow_pos (by decide)
    have mu : u % 256 ^ n < 256 ^ n := Nat.mod_lt _ p
    have mv : v % 256 ^ n < 256 ^ n := Nat.mod_lt _ p
    simp only [be, List.cons_append]
    generalize u / 256 ^ n % 256 = a at *
    generalize v / 256 ^ n % 256 = b at *
    have key : ∀ {a b c d m : Nat}, a < b → c < m → m * a + c < m * b + d := by
      intro a b c d m h hc
      have : m * (a + 1) ≤ m * b := Nat.mul_le_mul_left m h
      rw [Nat.mul_add] at this; omega
    rcases Nat.lt_trichotomy a b with h | h | h
    · have hlt : u % 256 ^ (n + 1) < v % 256 ^ (n + 1) := by
        rw [hu, hv]; have := key (d := v % 256 ^ n) h mu; omega
      rw [cb_lt (ofNat_lt lv h)]
      have : ci ((u % 256 ^ (n + 1) : Nat) : Int) ((v % 256 ^ (n + 1) : Nat) : Int) = -1 := by unfold ci; rw [if_pos (by omega)]
      rw [this, th_of (by omega)]
    · subst h
      rw [cb_eq, ih, hu, hv]
      congr 1
      unfold ci
      split <;> split <;> (try split) <;> (try split) <;> omega
    · have hlt : v % 256 ^ (n + 1) < u % 256 ^ (n + 1) := by
        rw [hu, hv]; have := key (d := u % 256 ^ n) h mv; omega
      rw [cb_gt (ofNat_lt lu h)]
      have : ci ((u % 256 ^ (n + 1) : Nat) : Int) ((v % 256 ^ (n + 1) : Nat) : Int) = 1 := by unfold ci; rw [if_neg (by omega), if_pos (by omega)]
      rw [this, th_of (by omega)]

def two63 : Int := 9223372036854775808
def InI (r : Int) : Prop := -9223372036854775808 ≤ r ∧ r ≤ 9223372036854775807
def encR (r : Int) : List UInt8 := be 8 (r + 9223372036854775808).toNat
def encK (k : Ky) : List UInt8 := encT k.t ++ (encT k.p ++ (encR k.r ++ encT k.c))
theorem cb_encK (a b : Ky) (ha : InI a.r) (hb : InI b.r) : cb (encK a) (encK b) = kc a b := by
  unfold encK kc
  rw [cb_encT, cb_encT]
  congr 2
  unfold encR
  rw [cb_be]
  congr 1
  · unfold InI at ha hb
    rw [Nat.mod_eq_of_lt (by show _ < 18446744073709551616; omega), Nat.mod_eq_of_lt (by show _ < 18446744073709551616; omega)]
    unfold ci
    split <;> split <;> (try split) <;> (try split) <;> omega
  · have := cb_encT a.c b.c [] []
    rw [List.append_nil, List.append_nil, cb_nil_nil] at this
    rw [this]; unfold th; split <;> omega

/-! ### Reading -/
/-- The text that bytes begin with, and what is behind it. -/
def tk : List UInt8 → Option (List UInt8 × List UInt8)
  | [] => none
  | [_] => none
  | b :: d :: l => if b ≠ 0 then (tk (d :: l)).map fun q => (b :: q.1, q.2) else if d = 0 then some ([], l) else if d = 255 then (tk l).map fun q => (0 :: q.1, q.2) else none
theorem tk_encT : ∀ (s x : List UInt8), tk (encT s ++ x) = some (s, x)
  | [], x => by simp [encT, esc, tk]
  | b :: s, x => by
    have ih := tk_encT s x
    by_cases h : b = 0
    · have e : encT (b :: s) ++ x = 0 :: 255 :: (encT s ++ x) := by simp [encT, esc, h]
      rw [e, h]; unfold tk; rw [ih]; simp
    · have e : encT (b :: s) ++ x = b :: (encT s ++ x) := by simp [encT, esc, h]
      rw [e]
      obtain ⟨d, l, hd⟩ : ∃ d l, encT s ++ x = d :: l := by
        cases hh : encT s ++ x with
        | nil => simp [encT] at hh
        | cons d l => exact ⟨d, l, rfl⟩
      rw [hd] at ih ⊢; unfold tk; rw [ih]; simp [h]
def unbe (l : List UInt8) : Nat := l.foldl (fun u b => u * 256 + b.toNat) 0
theorem unbe_go : ∀ (n u a : Nat), (be n u).foldl (fun u b => u * 256 + b.toNat) a = a * 256 ^ n + u % 256 ^ n
  | 0, u, a => by simp [be, Nat.mod_one]
  | n + 1, u, a => by
    rw [be, List.foldl_cons, unbe_go n u, Nat.mod_pow_succ, UInt8.toNat_ofNat_of_lt' (Nat.mod_lt _ (by decide)), Nat.pow_succ, Nat.add_mul]
    have : a * 256 * 256 ^ n = a * (256 ^ n * 256) := by rw [Nat.mul_assoc, Nat.mul_comm 256]
    rw [this, Nat.mul_comm (u / 256 ^ n % 256)]; omega
def decR (l : List UInt8) : Int := (unbe l : Int) - 9223372036854775808
theorem decR_encR (r : Int) (h : InI r) : decR (encR r) = r := by
  unfold decR encR unbe; rw [unbe_go, Nat.mod_eq_of_lt (by unfold InI at h; show _ < 18446744073709551616; omega)]
  unfold InI at h; omega
theorem unbe_lt : ∀ (l : List UInt8) (a : Nat), l.foldl (fun u b => u * 256 + b.toNat) a < (a + 1) * 256 ^ l.length
  | [], a => by simp
  | b :: l, a => by
    rw [List.foldl_cons, List.length_cons, Nat.pow_succ]
    have := unbe_lt l (a * 256 + b.toNat)
    have hb : b.toNat < 256 := b.toNat_lt
    have h2 : (a * 256 + b.toNat + 1) * 256 ^ l.length ≤ ((a + 1) * 256) * 256 ^ l.length := Nat.mul_le_mul_right _ (by omega)
    have h3 : (a + 1) * 256 * 256 ^ l.length = (a + 1) * (256 ^ l.length * 256) := by rw [Nat.mul_assoc, Nat.mul_comm 256]
    omega
def rd (l : List UInt8) : Option Ky :=
  match tk l with
  | none => none
  | some (t, l1) => match tk l1 with
    | none => none
    | some (p, l2) => if l2.length < 8 then none else match tk (l2.drop 8) with
      | none => none
      | some (c, l3) => if l3 = [] then some ⟨t, p, decR (l2.take 8), c⟩ else none
theorem rd_enc (k : Ky) (x : List UInt8) (h : InI k.r) : rd (encK k ++ x) = if x = [] then some k else none := by
  unfold rd encK
  simp only [List.append_assoc]
  rw [tk_encT]; dsimp only
  rw [tk_encT]; dsimp only
  have hl : (encR k.r).length = 8 := be_length _ _
  rw [if_neg (by rw [List.length_append]; omega), List.drop_left' hl, List.take_left' hl, tk_encT]
  dsimp only
  rw [decR_encR k.r h]
end Go.Proofs.YtglaocghcgcghaaGreatDoor
namespace Go.Proofs.YtglaocghcgcghaaGreatDoor
open Go.RowKit

def vI (l : List Int) : List Value := l.map fun x => Value.int .i64 x
theorem vI_len (l : List Int) : (vI l).length = l.length := List.length_map _
theorem vI_one (l : List Int) : ∀ u ∈ vI l, u.oneCell' = true := by
  intro u hu
  obtain ⟨_, _, rfl⟩ := List.mem_map.1 hu
  rfl
theorem vI_at {l : List Int} {i : Nat} {x : Int} (h : l[i]? = some x) : (vI l)[i]? = some (.int .i64 x) := by simp [vI, h]
/-- The ints l can be read from the address on. -/
def ISees (w : World) (ao : Option Addr) (l : List Int) : Prop := ∀ i x, l[i]? = some x → ∃ b off, ao = some ⟨b, off, none⟩ ∧ w.cell? ⟨b, off + i, none⟩ = some (.int .i64 x)
theorem ISees.below {w w' : World} {ao : Option Addr} {l : List Int} (h : ISees w ao l) {B : Nat} (hb : Below B w w') (hB : w.heap.size ≤ B) : ISees w' ao l := by
  intro i x hx
  obtain ⟨b, off, e, hc⟩ := h i x hx
  have := World.block_lt_of_cell? _ _ hc
  exact ⟨b, off, e, by rw [hb.cell (show b < B from Nat.lt_of_lt_of_le this hB)]; exact hc⟩
theorem src_ints {w : World} {ao : Option Addr} {l : List Int} (h : ISees w ao l) (hn : ao = none → l.length = 0) (cap : Nat) : Src Tryz.prog 1 78 (.slice ao l.length cap) l.length (vI l) w := by
  cases ao with
  | none =>
    obtain rfl : l = [] := List.eq_nil_of_length_eq_zero (hn rfl)
    exact Src.ofNil w Tryz.underlying78 cap
  | some a =>
    refine Src.ofSlice w Tryz.underlying78 a _ cap _ (by rw [vI_len, Nat.mul_one]) (fun j u hu => ?_) (vI_one l)
    have hj : j < l.length := by have := (List.getElem?_eq_some_iff.1 hu).1; rwa [vI_len] at this
    have hx : l[j]? = some l[j] := List.getElem?_eq_getElem hj
    obtain ⟨b, off, e, hc⟩ := h j _ hx
    obtain rfl := Option.some.inj e
    rw [vI_at hx] at hu
    obtain rfl := Option.some.inj hu
    rw [Addr.add_lit]; exact hc
theorem infoInt : (Tryz.prog.info? 3).map (fun i => (i.zero, i.size, i.bytes)) = some (some (.int .i64 0), 1, 8) := by kernel_rfl
theorem isNilI (cap : Nat) (w : World) : (binOp BinOp.eql 78 (.slice none 0 cap) (.slice none 0 0)).run Tryz.prog w = .ok (.bool true) w := by kernel_rfl
theorem notNilI (a : Addr) (n cap : Nat) (w : World) : (binOp BinOp.eql 78 (.slice (some a) n cap) (.slice none 0 0)).run Tryz.prog w = .ok (.bool false) w := by kernel_rfl
theorem owns_noneI (w : World) (base : Nat) (hb : base ≤ w.heap.size) : (w.alloc (.cells #[] 3)).ownsRow base 3 1 (.slice (some ⟨w.heap.size, 0, none⟩) 0 0) 0 [] :=
  ⟨rfl, .inr ⟨w.heap.size, 0, #[], rfl, hb, heap_alloc_new w _, Nat.le_refl _, Nat.zero_le _, rfl, rfl⟩⟩
theorem owns_isees {w : World} {base : Nat} {v : Value} {l : List Int} {n : Nat} (h : w.ownsRow base 3 1 v n (vI l)) : ∃ ao cap, v = .slice ao l.length cap ∧ ISees w ao l := by
  have hl : l.length = n := by have := h.1; rwa [vI_len, Nat.mul_one] at this
  have h0 := h
  rcases h.2 with ⟨rfl, rfl⟩ | ⟨g, cap, cur, rfl, hg, hh, hn, hm, hs, ht⟩
  · exact ⟨none, 0, by rw [hl], fun i x hx => by have := (List.getElem?_eq_some_iff.1 hx).1; omega⟩
  · refine ⟨some ⟨g, 0, none⟩, cap, by rw [hl], fun i x hx => ⟨g, 0, rfl, ?_⟩⟩
    have := h0.cells (g := g) rfl _ _ (vI_at hx)
    rw [Addr.add_lit] at this; exact this
end Go.Proofs.YtglaocghcgcghaaGreatDoor
namespace Go.Proofs.YtglaocghcgcghaaGreatDoor
open Go.RowKit

/-- An element's cell. -/
theorem sees_atM {w : World} {ao : Option Addr} {l : List UInt8} (h : Sees w ao l) {n : Nat} (hn : n < l.length) : ∃ b off, ao = some ⟨b, off, none⟩ ∧ w.cell? ⟨b, off + n, none⟩ = some (.int .u8 ((l.getD n 0).toNat : Int)) := by
  obtain ⟨a, rfl, hc⟩ := h n hn
  obtain ⟨a', e, hc0⟩ := h 0 (by omega)
  obtain rfl := Option.some.inj e
  obtain ⟨b, off, spot⟩ := a
  have hspot : spot = none := by simpa [Addr.add] using World.cell?_spot hc0
  subst hspot
  exact ⟨b, off, rfl, by rw [Addr.add_lit] at hc; exact hc⟩
/-- What a round of word's text reckons. -/
theorem or_textM (k x : Nat) (acc : BitVec 64) (hx : x < 256) :
    bits BinOp.or IntKind.u64 (acc.toNat : Int) (IntKind.u64.wrap ((x : Int) * 2 ^ (8 * k))) = ((acc ||| (BitVec.ofNat 64 x <<< (8 * k))).toNat : Int) := by
  have e : ((x : Int) * 2 ^ (8 * k)) = ((BitVec.ofNat 64 x).toNat : Int) * ((2 ^ (8 * k) : Nat) : Int) := by
    rw [← u_lit x (by omega)]
    simp
  rw [e, u_shl, u_or]

end Go.Proofs.YtglaocghcgcghaaGreatDoor
