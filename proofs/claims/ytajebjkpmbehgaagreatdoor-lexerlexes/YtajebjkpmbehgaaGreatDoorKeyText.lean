/-
  PLAIN: a key's text: / and % in other words, a number's digits; unlike keys have unlike texts.
-/
import Derived.Test.YtajebjkpmbehgaaGreatDoorKeyPlain
import Derived.Lib.Replace
import Derived.Lib.ItoaNum
namespace Go.Proofs.YtajebjkpmbehgaaGreatDoor
open Go.RowKit

def m1 (b : UInt8) : List UInt8 := if b = 47 then [37, 50, 102] else if b = 37 then [37, 50, 53] else [b]
def msk (l : List UInt8) : List UInt8 := l.flatMap m1
theorem replace_one (c : UInt8) (new : List UInt8) : ∀ s : List UInt8, Lib.replaceK [c] new (Lib.count s [c]) s = s.flatMap fun b => if b = c then new else [b]
  | [] => by
    rw [Lib.count_miss (by rfl)]; rfl
  | b :: l => by
    have ih := replace_one c new l
    have hi : Lib.index (b :: l) [c] = if b = c then 0 else if Lib.index l [c] == -1 then -1 else Lib.index l [c] + 1 := by
      conv => lhs; unfold Lib.index
      by_cases h : b = c
      · subst h; simp
      · have h' : ¬ c = b := fun e => h e.symm
        simp [h, h']
    rw [List.flatMap_cons]
    by_cases h : b = c
    · rw [if_pos h] at hi
      have hi0 : Lib.index (b :: l) [c] = ((0 : Nat) : Int) := hi
      rw [Lib.count_hit (by simp) hi0, Nat.add_comm 1, Lib.replaceK_hit _ _ _ _ 0 hi0, if_pos h]
      simp only [List.take_zero, List.nil_append, Nat.zero_add, List.length_cons, List.length_nil, List.drop_succ_cons, List.drop_zero]
      rw [ih]
    · rw [if_neg h] at hi
      rw [if_neg h]
      by_cases hm : Lib.index l [c] = -1
      · rw [if_pos (by simp [hm])] at hi
        rw [Lib.count_miss hi]
        rw [Lib.count_miss hm] at ih
        rw [← ih]; rfl
      · have hge := Lib.index_ge l [c]
        obtain ⟨i, hl⟩ : ∃ i : Nat, Lib.index l [c] = i := ⟨(Lib.index l [c]).toNat, by omega⟩
        rw [if_neg (by simp [hm]), hl] at hi
        have hi1 : Lib.index (b :: l) [c] = ((i + 1 : Nat) : Int) := by rw [hi]; omega
        rw [Lib.count_hit (by simp) hi1, Nat.add_comm 1, Lib.replaceK_hit _ _ _ _ (i + 1) hi1]
        rw [Lib.count_hit (by simp) hl, Nat.add_comm 1, Lib.replaceK_hit _ _ _ _ i hl] at ih
        rw [← ih]
        simp
theorem replaceAll_one (c : UInt8) (new s : List UInt8) (h : ([c] == new) = false) : Lib.replaceAll s [c] new = s.flatMap fun b => if b = c then new else [b] := by
  unfold Lib.replaceAll Lib.replace Lib.replaceNum
  rw [h, if_neg (by simp), if_pos (Or.inl (by omega))]
  exact replace_one c new s
theorem mask_two (s : List UInt8) : Lib.replaceAll (Lib.replaceAll s [37] [37, 50, 53]) [47] [37, 50, 102] = msk s := by
  rw [replaceAll_one _ _ _ (by decide), replaceAll_one _ _ _ (by decide), List.flatMap_assoc]
  unfold msk
  congr 1
  funext b
  unfold m1
  by_cases h1 : b = 37
  · subst h1; rfl
  · by_cases h2 : b = 47
    · subst h2; rfl
    · simp [h1, h2]
theorem flat_len (c : UInt8) (new : List UInt8) (k : Nat) (hn : new.length ≤ k) (hk : 1 ≤ k) : ∀ s : List UInt8, (s.flatMap fun b => if b = c then new else [b]).length ≤ k * s.length
  | [] => by simp
  | b :: l => by
    have := flat_len c new k hn hk l
    rw [List.flatMap_cons, List.length_append, List.length_cons, Nat.mul_add]
    split
    · omega
    · simp only [List.length_cons, List.length_nil]; omega

theorem m1_no47 (b : UInt8) : (47 : UInt8) ∉ m1 b := by
  unfold m1
  split
  · decide
  · split
    · decide
    · rename_i h _; simp only [List.mem_singleton]; exact fun e => h e.symm
theorem msk_no47 (l : List UInt8) : (47 : UInt8) ∉ msk l := by
  unfold msk; rw [List.mem_flatMap]; rintro ⟨b, _, hb⟩; exact m1_no47 b hb
theorem msk_cons (b : UInt8) (l : List UInt8) : msk (b :: l) = m1 b ++ msk l := List.flatMap_cons
theorem msk_inj : ∀ {a b : List UInt8}, msk a = msk b → a = b
  | [], [], _ => rfl
  | [], y :: b, h => by
    rw [msk_cons] at h; unfold m1 at h
    split at h
    · simp [msk] at h
    · split at h <;> simp [msk] at h
  | x :: a, [], h => by
    rw [msk_cons] at h; unfold m1 at h
    split at h
    · simp [msk] at h
    · split at h <;> simp [msk] at h
  | x :: a, y :: b, h => by
    rw [msk_cons, msk_cons] at h
    unfold m1 at h
    by_cases x1 : x = 47
    · rw [if_pos x1] at h
      by_cases y1 : y = 47
      · rw [if_pos y1] at h
        have := msk_inj (List.append_cancel_left h); rw [x1, y1, this]
      · rw [if_neg y1] at h
        by_cases y2 : y = 37
        · rw [if_pos y2] at h; simp at h
        · rw [if_neg y2] at h; simp only [List.cons_append, List.cons.injEq] at h; exact absurd h.1.symm y2
    · rw [if_neg x1] at h
      by_cases x2 : x = 37
      · rw [if_pos x2] at h
        by_cases y1 : y = 47
        · rw [if_pos y1] at h; simp at h
        · rw [if_neg y1] at h
          by_cases y2 : y = 37
          · rw [if_pos y2] at h
            have := msk_inj (List.append_cancel_left h); rw [x2, y2, this]
          · rw [if_neg y2] at h; simp only [List.cons_append, List.cons.injEq] at h; exact absurd h.1.symm y2
      · rw [if_neg x2] at h
        by_cases y1 : y = 47
        · rw [if_pos y1] at h; simp only [List.cons_append, List.cons.injEq] at h; exact absurd h.1 x2
        · rw [if_neg y1] at h
          by_cases y2 : y = 37
          · rw [if_pos y2] at h; simp only [List.cons_append, List.cons.injEq] at h; exact absurd h.1 x2
          · rw [if_neg y2] at h
            simp only [List.cons_append, List.nil_append, List.cons.injEq] at h
            rw [h.1, msk_inj h.2]

/-! ### Digits -/
theorem dec_small {u : Nat} (h : u < 10) : Lib.decDigits u = [UInt8.ofNat (48 + u)] := by rw [Lib.decDigits, dif_pos h]
theorem dec_big {u : Nat} (h : 10 ≤ u) : Lib.decDigits u = Lib.decDigits (u / 10) ++ [UInt8.ofNat (48 + u % 10)] := by rw [Lib.decDigits, dif_neg (by omega)]
theorem dec_range : ∀ (n u : Nat), u < n → ∀ b ∈ Lib.decDigits u, 48 ≤ b.toNat ∧ b.toNat ≤ 57
  | 0, _, h => by omega
  | n + 1, u, h => by
    intro b hb
    by_cases hu : u < 10
    · rw [dec_small hu, List.mem_singleton] at hb
      rw [hb, UInt8.toNat_ofNat_of_lt' (by show _ < 256; omega)]; omega
    · rw [dec_big (by omega), List.mem_append, List.mem_singleton] at hb
      rcases hb with hb | hb
      · exact dec_range n (u / 10) (by omega) b hb
      · rw [hb, UInt8.toNat_ofNat_of_lt' (by show _ < 256; omega)]; omega
def valD (l : List UInt8) : Nat := l.foldl (fun u b => u * 10 + (b.toNat - 48)) 0
theorem val_dec : ∀ (n u : Nat), u < n → valD (Lib.decDigits u) = u
  | 0, _, h => by omega
  | n + 1, u, h => by
    by_cases hu : u < 10
    · rw [dec_small hu]; unfold valD
      rw [List.foldl_cons, List.foldl_nil, UInt8.toNat_ofNat_of_lt' (by show _ < 256; omega)]; omega
    · rw [dec_big (by omega)]; unfold valD
      rw [List.foldl_append, List.foldl_cons, List.foldl_nil, UInt8.toNat_ofNat_of_lt' (by show _ < 256; omega)]
      have := val_dec n (u / 10) (by omega)
      unfold valD at this; rw [this]; omega
theorem dec_inj {u v : Nat} (h : Lib.decDigits u = Lib.decDigits v) : u = v := by
  rw [← val_dec (u + 1) u (by omega), h, val_dec (v + 1) v (by omega)]
theorem itoa_inj {x y : Int} (h : Lib.itoa x = Lib.itoa y) : x = y := by
  have no45 : ∀ (u : Nat) (l : List UInt8), 45 :: l ≠ Lib.decDigits u := by
    intro u l e
    have := dec_range (u + 1) u (by omega) 45 (by rw [← e]; exact List.mem_cons_self ..)
    have h2 : (45 : UInt8).toNat = 45 := rfl
    omega
  unfold Lib.itoa at h
  split at h <;> split at h
  · have := dec_inj (List.cons.inj h).2; omega
  · exact absurd h (no45 _ _)
  · exact absurd h.symm (no45 _ _)
  · have := dec_inj h; omega
theorem itoa_no47 (x : Int) : (47 : UInt8) ∉ Lib.itoa x := by
  have no : ∀ u : Nat, (47 : UInt8) ∉ Lib.decDigits u := by
    intro u e
    have := dec_range (u + 1) u (by omega) 47 e
    have h2 : (47 : UInt8).toNat = 47 := rfl
    omega
  unfold Lib.itoa
  split
  · rw [List.mem_cons]; rintro (e | e)
    · exact absurd e (by decide)
    · exact no _ e
  · exact no _

/-! ### A key's text -/
def prK (k : Ky) : List UInt8 := msk k.t ++ (47 :: (msk k.p ++ (47 :: (Lib.itoa k.r ++ (47 :: msk k.c)))))
theorem cut47 : ∀ {x x' y y' : List UInt8}, 47 ∉ x → 47 ∉ x' → x ++ (47 :: y) = x' ++ (47 :: y') → x = x' ∧ y = y'
  | [], [], _, _, _, _, h => ⟨rfl, (List.cons.inj h).2⟩
  | [], b :: x', _, _, _, h', h => absurd (List.mem_cons.2 (Or.inl (List.cons.inj h).1)) h'
  | a :: x, [], _, _, h', _, h => absurd (List.mem_cons.2 (Or.inl (List.cons.inj h).1.symm)) h'
  | a :: x, b :: x', y, y', h1, h2, h => by
    obtain ⟨e1, e2⟩ := List.cons.inj h
    have := cut47 (fun hh => h1 (List.mem_cons_of_mem _ hh)) (fun hh => h2 (List.mem_cons_of_mem _ hh)) e2
    exact ⟨by rw [e1, this.1], this.2⟩
theorem prK_inj (a b : Ky) : prK a = prK b ↔ a = b := by
  constructor
  · intro h
    obtain ⟨h1, h⟩ := cut47 (msk_no47 _) (msk_no47 _) h
    obtain ⟨h2, h⟩ := cut47 (msk_no47 _) (msk_no47 _) h
    obtain ⟨h3, h4⟩ := cut47 (itoa_no47 _) (itoa_no47 _) h
    cases a; cases b
    simp only [Ky.mk.injEq]
    exact ⟨msk_inj h1, msk_inj h2, itoa_inj h3, msk_inj h4⟩
  · rintro rfl; rfl
end Go.Proofs.YtajebjkpmbehgaaGreatDoor
