/-
  PLAIN: the tokens of two texts with a line feed between.
-/
import Derived.Test.YtajebjkpmbehgaaGreatDoorLexFacts
namespace Go.Proofs.YtajebjkpmbehgaaGreatDoor
open Go.RowKit

theorem dgN_nl (b : List UInt8) : ∀ (d : Bool) (l : List UInt8), dgN d (l ++ 10 :: b) = dgN d l
  | d, [] => by cases d <;> simp [dgN, dgB]
  | d, c :: r => by
    have h1 := dgN_nl b true r
    have h2 := dgN_nl b false r
    rw [List.cons_append]
    simp only [dgN, h1, h2]
theorem wdN_nl (b : List UInt8) : ∀ (l : List UInt8), wdN (l ++ 10 :: b) = wdN l
  | [] => by simp [wdN, wdB, ltB, dgB]
  | c :: r => by
    have h1 := wdN_nl b r
    rw [List.cons_append]
    simp only [wdN, h1]
theorem dash_nl (b : List UInt8) : ∀ (l : List UInt8), dash (l ++ 10 :: b) = dash l
  | [] => by simp [dash]
  | c :: r => rfl
theorem opN_nl (b : List UInt8) : ∀ (l : List UInt8), opN (l ++ 10 :: b) = opN l
  | [] => by simp [opN]
  | [c] => by simp [opN]
  | c :: d :: r => rfl
theorem skB_nl (b : List UInt8) : ∀ (n : Bool) (l : List UInt8), (skB n l = l.length → skB n (l ++ 10 :: b) = l.length + 1 + skB false b) ∧ (skB n l ≠ l.length → skB n (l ++ 10 :: b) = skB n l)
  | true, [] => by simp [skB]; omega
  | false, [] => by simp [skB, blB]; omega
  | true, c :: r => by
    obtain ⟨h1, h2⟩ := skB_nl b (!decide (c.toNat = 10)) r
    rw [List.cons_append]
    simp only [skB, List.length_cons]
    exact ⟨fun e => by rw [h1 (by omega)]; omega, fun e => by rw [h2 (by omega)]⟩
  | false, c :: r => by
    obtain ⟨h1, h2⟩ := skB_nl b false r
    obtain ⟨h3, h4⟩ := skB_nl b true r
    rw [List.cons_append]
    simp only [skB, List.length_cons, dash_nl]
    cases x : blB c
    · cases y : (decide (c.toNat = 45) && dash r)
      · exact ⟨fun e => (by simp at e), fun e => rfl⟩
      · simp only [Bool.false_eq_true, if_false, if_true]
        exact ⟨fun e => by rw [h3 (by omega)]; omega, fun e => by rw [h4 (by omega)]⟩
    · simp only [if_true]
      exact ⟨fun e => by rw [h1 (by omega)]; omega, fun e => by rw [h2 (by omega)]⟩
theorem chB_app (t : List UInt8) {l : List UInt8} {x : UInt8 × Nat} (h : chB l = some x) : chB (l ++ t) = some x := by
  cases l with
  | nil => simp [chB] at h
  | cons c r =>
    rw [List.cons_append]
    simp only [chB] at h ⊢
    split
    · rename_i hp; rw [if_pos hp] at h; exact h
    · rename_i hp
      rw [if_neg hp] at h
      split
      · rename_i hq
        rw [if_pos hq] at h
        match r, h with
        | [], h => simp at h
        | [_], h => simp at h
        | d :: e :: r, h => exact h
      · rename_i hq
        rw [if_neg hq] at h
        cases h
theorem qtR_app (t : List UInt8) : ∀ (j k : Nat) (l : List UInt8) (x : List UInt8), (qtR j k l).1 = some x → qtR j k (l ++ t) = qtR j k l
  | _, _, [], x, h => by simp [qtR] at h
  | j + 1, k, c :: r, x, h => by
    rw [List.cons_append]
    simp only [qtR] at h ⊢
    rw [qtR_app t j k r x h]
  | 0, k, c :: r, x, h => by
    rw [List.cons_append]
    simp only [qtR] at h ⊢
    split
    · rfl
    · rename_i hc
      rw [if_neg hc] at h
      cases hch : chB (c :: r) with
      | none => rw [hch] at h; cases h
      | some y =>
        obtain ⟨b, m⟩ := y
        have := chB_app t hch
        rw [List.cons_append] at this
        rw [this]
        rw [hch] at h
        simp only at h ⊢
        split
        · rfl
        · rename_i hk
          rw [if_neg hk] at h
          cases hq : (qtR (m - 1) (k + 1) r).1 with
          | none => rw [hq] at h; cases h
          | some z => rw [qtR_app t (m - 1) (k + 1) r z hq, hq]
theorem numT_nl (b l : List UInt8) : numT (l ++ 10 :: b) = numT l := by
  unfold numT
  simp only [dash_nl]
  obtain ⟨f, hf⟩ : ∃ f, (if dash l = true then 1 else 0) = f := ⟨_, rfl⟩
  have hfl : f ≤ l.length := by
    subst hf
    cases l with
    | nil => simp [dash]
    | cons b r => simp only [List.length_cons]; split <;> omega
  rw [hf]
  have h1 := dgN_le false (l.drop f)
  rw [List.length_drop] at h1
  rw [List.drop_append_of_le_length hfl, dgN_nl]
  rw [List.take_append_of_le_length (by omega)]
theorem wdT_nl (b l : List UInt8) : wdT (l ++ 10 :: b) = wdT l := by
  unfold wdT
  simp only [wdN_nl]
  rw [List.take_append_of_le_length (wdN_le l)]
theorem opT_nl (b l : List UInt8) : opT (l ++ 10 :: b) = opT l := by
  unfold opT
  simp only [opN_nl]
  rw [List.take_append_of_le_length (opN_le l)]
theorem oneT_nl (b : List UInt8) (c : UInt8) (r : List UInt8) {t : Tk} (h : (oneT (c :: r)).1 = some t) : oneT (c :: r ++ 10 :: b) = oneT (c :: r) := by
  have h1 := numT_nl b (c :: r)
  have h2 := wdT_nl b (c :: r)
  have h3 := opT_nl b (c :: r)
  rw [List.cons_append] at h1 h2 h3 ⊢
  simp only [oneT, h1, h2, h3] at h ⊢
  split
  · rfl
  · rename_i hd
    rw [if_neg hd] at h
    split
    · rename_i hq
      rw [if_pos hq] at h
      unfold qtT at h ⊢
      cases hr : qtR 0 0 r with
      | mk x n =>
        cases x with
        | none => rw [hr] at h; cases h
        | some x => rw [qtR_app _ 0 0 r x (by rw [hr]), hr]
    · rfl
/-- A token of the first text is one of both. -/
theorem nxT_first (a b : List UInt8) (p : Nat) {t : Tk} {m : Nat} (hp : p ≤ a.length) (h : nxT a p = (some t, m)) (hk : t.kind ≠ 0) : nxT (a ++ 10 :: b) p = (some t, m) := by
  have hs := skB_le false (a.drop p)
  have hn := skB_nl b false (a.drop p)
  rw [List.length_drop] at hs hn
  unfold nxT at h ⊢
  simp only at h ⊢
  rw [List.drop_append_of_le_length hp]
  by_cases e : skB false (a.drop p) = a.length - p
  · exfalso
    rw [e, List.drop_eq_nil_of_le (by omega)] at h
    simp only [oneT, Option.map_some, Prod.mk.injEq, Option.some.injEq] at h
    obtain ⟨rfl, -⟩ := h
    exact hk rfl
  · rw [hn.2 e]
    generalize hq : p + skB false (a.drop p) = q at *
    rw [List.drop_append_of_le_length (by omega)]
    cases hr : a.drop q with
    | nil =>
      have := congrArg List.length hr
      rw [List.length_drop, List.length_nil] at this
      omega
    | cons c r =>
      rw [hr] at h
      cases ho : (oneT (c :: r)).1 with
      | none => rw [ho] at h; cases h
      | some t0 =>
        rw [oneT_nl b c r ho]
        exact h
/-- A token of a text that begins elsewhere. -/
theorem nxT_at (c b : List UInt8) (p : Nat) {t : Tk} {m : Nat} (h : nxT b p = (some t, m)) : nxT (c ++ b) (c.length + p) = (some (t.at c.length), m) := by
  unfold nxT at h ⊢
  simp only at h ⊢
  have hd : ∀ x, (c ++ b).drop (c.length + x) = b.drop x := fun x => by
    rw [← List.drop_drop, List.drop_left]
  rw [hd, Nat.add_assoc, hd]
  generalize p + skB false (b.drop p) = q at *
  cases ho : (oneT (b.drop q)).1 with
  | none => rw [ho] at h; cases h
  | some t0 =>
    rw [ho] at h
    simp only [Option.map_some, Option.isSome_some, if_true, Prod.mk.injEq, Option.some.injEq] at h ⊢
    obtain ⟨rfl, rfl⟩ := h
    refine ⟨?_, rfl⟩
    simp only [Tk.at, Tk.mk.injEq, true_and]
    omega
/-- Where the first text has no token more, the second one's first is next. -/
theorem nxT_end (a b : List UInt8) (p : Nat) {t : Tk} {m : Nat} (hp : p ≤ a.length) (h : nxT a p = (some t, m)) (hk : t.kind = 0) : nxT (a ++ 10 :: b) p = nxT (a ++ 10 :: b) (a.length + 1) := by
  have hs := skB_le false (a.drop p)
  have hn := skB_nl b false (a.drop p)
  rw [List.length_drop] at hs hn
  have e : skB false (a.drop p) = a.length - p := by
    unfold nxT at h
    simp only at h
    by_cases e : p + skB false (a.drop p) = a.length
    · omega
    · exfalso
      generalize hq : p + skB false (a.drop p) = q at *
      cases hr : a.drop q with
      | nil =>
        have := congrArg List.length hr
        rw [List.length_drop, List.length_nil] at this
        omega
      | cons c r =>
        rw [hr] at h
        cases ho : (oneT (c :: r)).1 with
        | none => rw [ho] at h; cases h
        | some t0 =>
          rw [ho] at h
          simp only [Option.map_some, Prod.mk.injEq, Option.some.injEq] at h
          obtain ⟨rfl, -⟩ := h
          exact ((oneT_ok c r).1 t0 ho).kind hk
  have hn := hn.1 e
  have hd : (a ++ 10 :: b).drop (a.length + 1) = b := by
    have : a ++ 10 :: b = (a ++ [10]) ++ b := by simp
    rw [this, List.drop_left' (by simp)]
  unfold nxT
  simp only
  rw [List.drop_append_of_le_length hp, hn, hd]
  have : p + (a.length - p + 1 + skB false b) = a.length + 1 + skB false b := by omega
  rw [this]
theorem lxT_snd : ∀ (n : Nat) (l : List UInt8) (p : Nat) {ts : List Tk} {m : Nat}, lxT n l p = (some ts, m) → m = 0 ∧ ts ≠ []
  | 0, _, _, _, _, h => by cases h
  | n + 1, l, p, ts, m, h => by
    simp only [lxT] at h
    split at h
    · cases h
    · rename_i t x hx
      split at h
      · cases h; exact ⟨rfl, by simp⟩
      · cases hr : lxT n l t.e with
        | mk a c =>
          rw [hr] at h
          cases a with
          | none => cases h
          | some ts' => cases h; exact ⟨(lxT_snd n l t.e hr).1, by simp⟩
theorem lxT_mono : ∀ (n : Nat) (l : List UInt8) (p : Nat) {ts : List Tk} {m : Nat} (k : Nat), lxT n l p = (some ts, m) → lxT (n + k) l p = (some ts, m)
  | 0, _, _, _, _, _, h => by cases h
  | n + 1, l, p, ts, m, k, h => by
    rw [Nat.add_right_comm]
    simp only [lxT] at h ⊢
    cases hx : nxT l p with
    | mk x y =>
      rw [hx] at h
      cases x with
      | none => cases h
      | some t =>
        simp only at h ⊢
        split
        · rename_i e; rw [if_pos e] at h; exact h
        · rename_i e
          rw [if_neg e] at h
          cases hr : lxT n l t.e with
          | mk a c =>
            rw [hr] at h
            cases a with
            | none => cases h
            | some ts' => rw [lxT_mono n l t.e k hr]; exact h
theorem lxT_at : ∀ (n : Nat) (c b : List UInt8) (p : Nat) {ts : List Tk} {m : Nat}, lxT n b p = (some ts, m) → lxT n (c ++ b) (c.length + p) = (some (ts.map (·.at c.length)), m)
  | 0, _, _, _, _, _, h => by cases h
  | n + 1, c, b, p, ts, m, h => by
    simp only [lxT] at h ⊢
    cases hx : nxT b p with
    | mk x y =>
      rw [hx] at h
      cases x with
      | none => cases h
      | some t =>
        rw [nxT_at c b p hx]
        simp only at h ⊢
        have hk : (t.at c.length).kind = t.kind := rfl
        have he : (t.at c.length).e = c.length + t.e := Nat.add_comm _ _
        rw [hk, he]
        split
        · rename_i e; rw [if_pos e] at h; cases h; rfl
        · rename_i e
          rw [if_neg e] at h
          cases hr : lxT n b t.e with
          | mk a d =>
            rw [hr] at h
            cases a with
            | none => cases h
            | some ts' => rw [lxT_at n c b t.e hr]; cases h; rfl
theorem lxT_join : ∀ (n k : Nat) (a b : List UInt8) (p : Nat) {l m : List Tk} {x y : Nat}, p ≤ a.length → lxT n a p = (some l, x) → lxT k b 0 = (some m, y) → lxT (n + k) (a ++ 10 :: b) p = (some (l.dropLast ++ m.map (·.at (a.length + 1))), 0)
  | 0, _, _, _, _, _, _, _, _, _, h, _ => by cases h
  | n + 1, k, a, b, p, l, m, x, y, hp, h, hb => by
    have hs := lxT_snd (n + 1) a p h
    cases hx : nxT a p with
    | mk u v =>
      have h0 := h
      simp only [lxT] at h
      rw [hx] at h
      cases u with
      | none => cases h
      | some t =>
        simp only at h
        have hok := ((nxT_ok a p hp).1 t v hx).1
        by_cases e : t.kind = 0
        · rw [if_pos e] at h
          cases h
          have h2 := lxT_at (n + 1 + k) (a ++ [10]) b 0 (by rw [Nat.add_comm]; exact lxT_mono k b 0 (n + 1) hb)
          have h3 := (lxT_snd k b 0 hb).1
          subst h3
          have h4 : a ++ [10] ++ b = a ++ 10 :: b := by simp
          have h5 : (a ++ [(10 : UInt8)]).length = a.length + 1 := by simp
          rw [h4, h5, Nat.add_zero] at h2
          have h6 := nxT_end a b p hp hx e
          rw [Nat.add_right_comm] at h2 ⊢
          simp only [lxT] at h2 ⊢
          rw [h6, h2]
          rfl
        · rw [if_neg e] at h
          rw [Nat.add_right_comm]
          simp only [lxT]
          rw [nxT_first a b p hp hx e]
          simp only
          rw [if_neg e]
          cases hr : lxT n a t.e with
          | mk c d =>
            rw [hr] at h
            cases c with
            | none => cases h
            | some ts =>
              cases h
              rw [lxT_join n k a b t.e hok.high hr hb]
              have hne := (lxT_snd n a t.e hr).2
              cases ts with
              | nil => exact absurd rfl hne
              | cons t' ts => rfl
theorem lexT_join (a b : List UInt8) {l m : List Tk} {x y : Nat} (ha : lexT a = (some l, x, 0)) (hb : lexT b = (some m, y, 0)) (hl : a.length + b.length + 1 ≤ 600) : lexT (a ++ 10 :: b) = (some (l.dropLast ++ m.map (·.at (a.length + 1))), 0, 0) := by
  unfold lexT at ha hb ⊢
  rw [if_neg (by omega)] at ha hb
  have hlen : (a ++ 10 :: b).length = a.length + b.length + 1 := by simp; omega
  rw [hlen, if_neg (by omega)]
  cases h1 : lxT (a.length + 1) a 0 with
  | mk u v =>
    cases h2 : lxT (b.length + 1) b 0 with
    | mk u' v' =>
      rw [h1] at ha
      rw [h2] at hb
      cases u with
      | none => cases ha
      | some l' =>
        cases u' with
        | none => cases hb
        | some m' =>
          cases ha
          cases hb
          have h3 := lxT_join (a.length + 1) (b.length + 1) a b 0 (Nat.zero_le _) h1 h2
          have h4 : a.length + 1 + (b.length + 1) = a.length + b.length + 1 + 1 := by omega
          rw [h4] at h3
          rw [h3]
end Go.Proofs.YtajebjkpmbehgaaGreatDoor
