/-
  PLAIN: where tokens stand.
-/
import Derived.Test.YtajebjkpmbehgaaGreatDoorLexPlain
namespace Go.Proofs.YtajebjkpmbehgaaGreatDoor
open Go.RowKit

theorem atoi_nil : Lib.atoiAll [] = .«syntax» := rfl
theorem qtR_le : ∀ (j k : Nat) (l : List UInt8), (qtR j k l).2 ≤ l.length
  | _, _, [] => by simp [qtR]
  | j + 1, k, b :: r => by have := qtR_le j k r; simp only [qtR, List.length_cons]; omega
  | 0, k, b :: r => by
    simp only [qtR]
    split
    · simp
    · split
      · simp
      · rename_i c m _
        split
        · simp
        · have := qtR_le (m - 1) (k + 1) r; simp only [List.length_cons]; omega
/-- What a token that begins here is like. -/
structure TkOk (l : List UInt8) (t : Tk) : Prop where
  b : t.b = 0
  pos : 0 < t.e
  le : t.e ≤ l.length
  kind : t.kind ≠ 0
  op : t.kind = 1 → l.take t.e = t.s
theorem numT_ok (l : List UInt8) : (∀ t, (numT l).1 = some t → TkOk l t) ∧ (numT l).2 = 0 := by
  unfold numT
  simp only
  obtain ⟨f, hf⟩ : ∃ f, (if dash l = true then 1 else 0) = f := ⟨_, rfl⟩
  have hfl : f ≤ l.length := by
    subst hf
    cases l with
    | nil => simp [dash]
    | cons b r => simp only [List.length_cons]; split <;> omega
  rw [hf]
  have h1 := dgN_le false (l.drop f)
  rw [List.length_drop] at h1
  generalize hn : f + dgN false (l.drop f) = n at *
  split
  · rename_i v hv
    refine ⟨fun t ht => ?_, rfl⟩
    cases ht
    refine ⟨rfl, ?_, by show n ≤ _; omega, by simp, by simp⟩
    show 0 < n
    by_cases h : n = 0
    · rw [h, List.take_zero, List.filter_nil, atoi_nil] at hv; cases hv
    · omega
  · exact ⟨fun t ht => (by cases ht), rfl⟩
theorem qtT_ok (b : UInt8) (r : List UInt8) : (∀ t, (qtT r).1 = some t → TkOk (b :: r) t) ∧ (qtT r).2 ≤ (b :: r).length := by
  have h := qtR_le 0 0 r
  unfold qtT
  split
  · rename_i t n hq
    rw [hq] at h
    refine ⟨fun t ht => ?_, by simp⟩
    cases ht
    exact ⟨rfl, by show 0 < n + 1; omega, by simp only [List.length_cons]; have : n ≤ r.length := h; omega, by simp, by simp⟩
  · rename_i n hq
    rw [hq] at h
    exact ⟨fun t ht => (by cases ht), by simp only [List.length_cons]; have : n ≤ r.length := h; omega⟩
theorem wdT_ok (b : UInt8) (r : List UInt8) (hb : ltB b = true) : (∀ t, (wdT (b :: r)).1 = some t → TkOk (b :: r) t) ∧ (wdT (b :: r)).2 = 0 := by
  have h1 := wdN_le (b :: r)
  have h2 : 0 < wdN (b :: r) := by simp [wdN, wdB, hb]
  have h3 : ((b :: r).take (wdN (b :: r))).length = wdN (b :: r) := by rw [List.length_take]; omega
  unfold wdT
  simp only
  split
  · refine ⟨fun t ht => ?_, rfl⟩
    cases ht
    exact ⟨rfl, by show 0 < _; rw [h3]; exact h2, by show _ ≤ _; rw [h3]; exact h1, by simp, by simp⟩
  · split
    · refine ⟨fun t ht => ?_, rfl⟩
      cases ht
      exact ⟨rfl, by show 0 < _; rw [h3]; exact h2, by show _ ≤ _; rw [h3]; exact h1, by simp, by simp⟩
    · exact ⟨fun t ht => (by cases ht), rfl⟩
theorem opN_le (l : List UInt8) : opN l ≤ l.length := by
  cases l with
  | nil => simp [opN]
  | cons b r =>
    simp only [opN, List.length_cons]
    split
    · cases r with
      | nil => simp
      | cons c r => simp only [List.length_cons]; split <;> omega
    · split <;> omega
theorem opT_ok (l : List UInt8) : (∀ t, (opT l).1 = some t → TkOk l t) ∧ (opT l).2 = 0 := by
  have h1 := opN_le l
  unfold opT
  split
  · exact ⟨fun t ht => (by cases ht), rfl⟩
  · refine ⟨fun t ht => ?_, rfl⟩
    cases ht
    exact ⟨rfl, by show 0 < opN l; omega, h1, by show (1 : Int) ≠ 0; decide, fun _ => rfl⟩
theorem oneT_ok (b : UInt8) (r : List UInt8) : (∀ t, (oneT (b :: r)).1 = some t → TkOk (b :: r) t) ∧ (oneT (b :: r)).2 ≤ (b :: r).length := by
  simp only [oneT]
  split
  · have := numT_ok (b :: r); exact ⟨this.1, by rw [this.2]; omega⟩
  · split
    · exact qtT_ok b r
    · split
      · rename_i h; have := wdT_ok b r h; exact ⟨this.1, by rw [this.2]; omega⟩
      · have := opT_ok (b :: r); exact ⟨this.1, by rw [this.2]; omega⟩
/-- What the first token from a byte on is like. -/
structure NxOk (l : List UInt8) (p : Nat) (t : Tk) : Prop where
  low : p ≤ t.b
  mid : t.b ≤ t.e
  high : t.e ≤ l.length
  fin : t.kind = 0 → t = ⟨0, [], 0, 0, [], l.length, l.length⟩
  more : t.kind ≠ 0 → t.b < t.e
  op : t.kind = 1 → (l.drop t.b).take (t.e - t.b) = t.s
theorem nxT_ok (l : List UInt8) (p : Nat) (hp : p ≤ l.length) : (∀ t m, nxT l p = (some t, m) → NxOk l p t ∧ m = 0) ∧ (∀ m, nxT l p = (none, m) → m ≤ l.length) := by
  have hs := skB_le false (l.drop p)
  rw [List.length_drop] at hs
  unfold nxT
  simp only
  generalize hq : p + skB false (l.drop p) = q at *
  have hql : q ≤ l.length := by omega
  cases hr : l.drop q with
  | nil =>
    have : q = l.length := by
      have := congrArg List.length hr
      rw [List.length_drop, List.length_nil] at this
      omega
    refine ⟨fun t m h => ?_, fun m h => ?_⟩
    · simp only [oneT, Option.map_some, Option.isSome_some, if_true, Prod.mk.injEq, Option.some.injEq, Tk.at] at h
      obtain ⟨rfl, rfl⟩ := h
      refine ⟨⟨by show p ≤ 0 + q; omega, by show 0 + q ≤ 0 + q; omega, by show 0 + q ≤ _; omega, fun _ => ?_, fun h => absurd rfl h, by simp⟩, rfl⟩
      simp [this]
    · simp [oneT] at h
  | cons b r =>
    have hlen : (b :: r).length = l.length - q := by rw [← hr, List.length_drop]
    obtain ⟨h1, h2⟩ := oneT_ok b r
    refine ⟨fun t m h => ?_, fun m h => ?_⟩
    · cases ho : (oneT (b :: r)).1 with
      | none => rw [ho] at h; simp at h
      | some t0 =>
        obtain ⟨a, c, d, e, f⟩ := h1 t0 ho
        rw [ho] at h
        simp only [Option.map_some, Option.isSome_some, if_true, Prod.mk.injEq, Option.some.injEq] at h
        obtain ⟨rfl, rfl⟩ := h
        refine ⟨⟨?_, ?_, ?_, fun h => absurd h e, fun _ => ?_, fun h => ?_⟩, rfl⟩
        · show p ≤ t0.b + q; omega
        · show t0.b + q ≤ t0.e + q; omega
        · show t0.e + q ≤ _; omega
        · show t0.b + q < t0.e + q; omega
        · show (l.drop (t0.b + q)).take (t0.e + q - (t0.b + q)) = t0.s
          rw [a, Nat.zero_add, hr, Nat.add_sub_cancel]
          exact f h
    · cases ho : (oneT (b :: r)).1 with
      | none =>
        rw [ho] at h
        simp only [Option.map_none, Option.isSome_none, Bool.false_eq_true, if_false, Prod.mk.injEq, true_and] at h
        omega
      | some t0 => rw [ho] at h; simp at h
/-- Tokens one behind the other, the End at the end. -/
def Ch (l : List UInt8) : Nat → List Tk → Prop
  | _, [] => False
  | p, t :: r => NxOk l p t ∧ ((t.kind = 0 ∧ r = []) ∨ (t.kind ≠ 0 ∧ Ch l t.e r))
theorem lxT_ok : ∀ (n : Nat) (l : List UInt8) (p : Nat), p ≤ l.length → l.length - p < n → (∀ ts m, lxT n l p = (some ts, m) → Ch l p ts) ∧ (∀ m, lxT n l p = (none, m) → m ≤ l.length)
  | 0, l, p, _, h => absurd h (Nat.not_lt_zero _)
  | n + 1, l, p, hp, hn => by
    obtain ⟨h1, h2⟩ := nxT_ok l p hp
    simp only [lxT]
    split
    · rename_i m hx
      exact ⟨fun ts m h => (by cases h), fun m' h => by cases h; exact h2 _ hx⟩
    · rename_i t m hx
      obtain ⟨ho, -⟩ := h1 t m hx
      split
      · rename_i hk
        exact ⟨fun ts m h => by cases h; exact ⟨ho, .inl ⟨hk, rfl⟩⟩, fun m' h => (by cases h)⟩
      · rename_i hk
        have := ho.more hk
        have := ho.low
        have := ho.high
        obtain ⟨i1, i2⟩ := lxT_ok n l t.e ho.high (by omega)
        cases hr : lxT n l t.e with
        | mk a c =>
          cases a with
          | none => exact ⟨fun ts m h => (by cases h), fun m' h => by cases h; exact i2 _ hr⟩
          | some ts => exact ⟨fun ts' m h => by cases h; exact ⟨ho, .inr ⟨hk, i1 _ _ hr⟩⟩, fun m' h => (by cases h)⟩
end Go.Proofs.YtajebjkpmbehgaaGreatDoor
