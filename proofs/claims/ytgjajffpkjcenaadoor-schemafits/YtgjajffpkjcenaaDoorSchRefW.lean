/-
  CONTRACTS: is a name one of the words? The document's Word; names, by the program and by the document.
-/
import Derived.Test.YtgjajffpkjcenaaDoorSchIs
import Derived.Test.YtgjajffpkjcenaaDoorKeyRefGood
namespace Go.Proofs.YtgjajffpkjcenaaDoor
open Go.RowKit

/-- The document's text of the words, between blanks. -/
def wordsP : ByteArray := ⟨(([32, 99, 114, 101, 97, 116, 101, 32, 116, 97, 98, 108, 101, 32, 112, 114, 105, 109, 97, 114, 121, 32, 107, 101, 121, 32, 105, 110, 115, 101, 114, 116, 32, 105, 110].append [116, 111, 32, 118, 97, 108, 117, 101, 115, 32, 117, 115, 105, 110, 103, 32, 116, 105, 109, 101, 115, 116, 97, 109, 112, 32, 99, 111, 110, 115, 105, 115, 116, 101, 110, 99]).append ([121, 32, 117, 112, 100, 97, 116, 101, 32, 115, 101, 116, 32, 119, 104, 101, 114, 101, 32, 97, 110, 100, 32, 100, 101, 108, 101, 116, 101, 32, 102, 114, 111, 109, 32, 115].append [101, 108, 101, 99, 116, 32, 108, 105, 109, 105, 116, 32, 111, 110, 101, 32, 113, 117, 111, 114, 117, 109, 32, 97, 108, 108, 32, 116, 101, 120, 116, 32, 105, 110, 116, 32])).toArray⟩
/-- A word stands there, with a blank ahead of it and one behind it. -/
def mtP (p s : List UInt8) (j : Nat) : Prop := (p.getD j 0).toNat = 32 ∧ (p.drop (j + 1)).take s.length = s ∧ (p.getD (j + 1 + s.length) 0).toNat = 32
def hitB (p : List UInt8) (L : List (List UInt8)) (j n : Nat) : Bool := !(p.getD j 0 == 32 && p.getD (j + 1 + n) 0 == 32 && ((p.drop (j + 1)).take n).all (fun x => x != 32)) || L.contains ((p.drop (j + 1)).take n)
set_option maxRecDepth 100000 in
theorem mt_hit1 : ((List.range 142).all fun j => (List.range 17).all fun n => n == 0 || hitB (nb wordsP) (wordsL.map nb) j n) = true := by decide +kernel
theorem mt_hit0 (j : Nat) (hj : j < 142) (n : Nat) (hn : n < 17) (h1 : 1 ≤ n) (a : ((nb wordsP).getD j 0).toNat = 32) (c : ((nb wordsP).getD (j + 1 + n) 0).toNat = 32) (h : (((nb wordsP).drop (j + 1)).take n).all (fun x => x != 32) = true) : ((nb wordsP).drop (j + 1)).take n ∈ wordsL.map nb := by
  have := List.all_eq_true.1 (List.all_eq_true.1 mt_hit1 j (List.mem_range.2 hj)) n (List.mem_range.2 hn)
  have hn0 : (n == 0) = false := by rw [beq_eq_false_iff_ne]; omega
  have e32 : ∀ x : UInt8, x.toNat = 32 → (x == 32) = true := fun x hx => by rw [beq_iff_eq, ← UInt8.toNat_inj, hx]; rfl
  rw [hn0, Bool.false_or] at this
  unfold hitB at this
  rw [e32 _ a, e32 _ c, h] at this
  simpa using this
set_option maxRecDepth 100000 in
theorem mt_mis0 : ∀ x ∈ wordsL.map nb, ∃ j, j < 142 ∧ j + x.length < 142 ∧ ((nb wordsP).getD j 0).toNat = 32 ∧ ((nb wordsP).drop (j + 1)).take x.length = x ∧ ((nb wordsP).getD (j + 1 + x.length) 0).toNat = 32 := by decide +kernel
theorem mt_hit {s : ByteArray} {j : Nat} (h : mtP (nb wordsP) (nb s) j) (hj : j + s.size < 142) (h1 : 1 ≤ s.size) (h16 : s.size ≤ 16) (hs : ∀ k (h : k < s.size), (s[k]'h).toNat ≠ 32) : isW s = true := by
  obtain ⟨a, b, c⟩ := h
  rw [nb_size] at b c
  have := mt_hit0 j (by omega) s.size (by omega) h1 a c (by
    rw [b, List.all_eq_true]
    intro x hx
    obtain ⟨i, hi, rfl⟩ := List.getElem_of_mem hx
    rw [nb_size] at hi
    have e := hs i hi
    show ((s[i]'hi) != 32) = true
    rw [bne_iff_ne]
    intro e2
    exact e (by rw [e2]; rfl))
  rw [b] at this
  exact decide_eq_true this
theorem mt_mis {s : ByteArray} (h : ∀ j, j + s.size < 142 → ¬ mtP (nb wordsP) (nb s) j) : isW s = false := by
  refine decide_eq_false fun hm => ?_
  obtain ⟨j, -, h2, h3, h4, h5⟩ := mt_mis0 _ hm
  rw [nb_size] at h2
  exact h j h2 ⟨h3, h4, h5⟩
theorem ext_nb (P : ByteArray) (a n : Nat) : (P.extract a (a + n)).toList = ((nb P).drop a).take n := by
  rw [Go.ByteArray.toList_eq, ByteArray.data_extract, Array.toList_extract]
  simp [List.extract, nb]
set_option maxRecDepth 100000 in
set_option maxHeartbeats 1000000 in
theorem refWord_any (s : ByteArray) (w : World) (hn : nameB (nb s) = true) :
    Calls Tryd.prog 25 #[.string s] w fun e w' => e = .returned (.bool (isW s)) ∧ w' = w := by
  obtain ⟨h1, h16, -, hok⟩ := (name_iff _).1 hn
  rw [nb_size] at h1 h16 hok
  have HO : Hid (∀ k (h : k < s.size), (s[k]'h).toNat ≠ 32) := fun k h => by
    have := hok k h
    rw [at_nb s k h] at this
    intro e
    rw [e] at this
    revert this
    decide
  clear hok hn
  have h1z : (1 : Int) ≤ (s.size : Int) := by omega
  have h16z : (s.size : Int) ≤ 16 := by omega
  go_enter Tryd.func25, Tryd.ntmps25
  obtain ⟨P, hP⟩ : ∃ P, wordsP = P := ⟨_, rfl⟩
  rw [show (⟨(([32, 99, 114, 101, 97, 116, 101, 32, 116, 97, 98, 108, 101, 32, 112, 114, 105, 109, 97, 114, 121, 32, 107, 101, 121, 32, 105, 110, 115, 101, 114, 116, 32, 105, 110].append [116, 111, 32, 118, 97, 108, 117, 101, 115, 32, 117, 115, 105, 110, 103, 32, 116, 105, 109, 101, 115, 116, 97, 109, 112, 32, 99, 111, 110, 115, 105, 115, 116, 101, 110, 99]).append ([121, 32, 117, 112, 100, 97, 116, 101, 32, 115, 101, 116, 32, 119, 104, 101, 114, 101, 32, 97, 110, 100, 32, 100, 101, 108, 101, 116, 101, 32, 102, 114, 111, 109, 32, 115].append [101, 108, 101, 99, 116, 32, 108, 105, 109, 105, 116, 32, 111, 110, 101, 32, 113, 117, 111, 114, 117, 109, 32, 97, 108, 108, 32, 116, 101, 120, 116, 32, 105, 110, 116, 32])).toArray⟩ : ByteArray) = P from hP]
  have hPs : P.size = 143 := by rw [← hP]; decide +kernel
  have HH : Hid (∀ j, j + s.size < 142 → mtP (nb P) (nb s) j → isW s = true) := fun j hj h => by rw [← hP] at h; exact mt_hit h hj h1 h16 HO.out
  have HM : Hid ((∀ j, j + s.size < 142 → ¬ mtP (nb P) (nb s) j) → isW s = false) := fun h => mt_mis (by rw [hP]; exact h)
  have HE : Hid (∀ j, (P.extract (j + 1) (j + 1 + s.size)).toList = s.toList ↔ ((nb P).drop (j + 1)).take (nb s).length = nb s) := fun j => by rw [ext_nb, nb_size, Go.ByteArray.toList_eq]; exact Iff.rfl
  have HA : Hid (∀ j (h : j < P.size), ((nb P).getD j 0) = P[j]'h) := fun j h => at_nb P j h
  clear hP
  go_wp2_with fail
  go_loop [3] (fun i => ∃ k : Nat, k ≤ s.size ∧ i = .int .i64 k) (fun i => s.size - (intOf i).toNat)
  case atStart => exact ⟨0, Nat.zero_le _, rfl⟩
  case round =>
    obtain ⟨k, hk, rfl⟩ := hrel
    by_cases hlt : k < s.size
    · have hkz : (k : Int) < (s.size : Int) := by omega
      obtain ⟨c, hc⟩ : ∃ c : Nat, (s[k]'hlt).toNat = c := ⟨_, rfl⟩
      have hne : ¬ (c : Int) = 32 := by have := HO.out k hlt; omega
      clear HO
      go_wp2_with fail
      go_round
      case rel => exact ⟨k + 1, by omega, by simp⟩
      case measure => simp [intOf]; omega
    · obtain rfl : k = s.size := by omega
      go_wp2_with fail
      go_loop [4] (fun i => ∃ k : Nat, k ≤ 142 - s.size ∧ i = .int .i64 k ∧ ∀ j, j < k → ¬ mtP (nb P) (nb s) j) (fun i => 142 - s.size - (intOf i).toNat)
      case atStart => exact ⟨0, Nat.zero_le _, rfl, fun j hj => absurd hj (Nat.not_lt_zero _)⟩
      case round =>
        obtain ⟨k, hk, rfl, hno⟩ := hrel
        have HN : Hid (∀ j, j < k → ¬ mtP (nb P) (nb s) j) := hno
        have HS : Hid (¬ mtP (nb P) (nb s) k → ∀ j, j < k + 1 → ¬ mtP (nb P) (nb s) j) := fun h j hj => by
          by_cases e : j = k
          · rw [e]; exact h
          · exact hno j (by omega)
        clear hno
        by_cases hlt : k + s.size < 142
        · have hkz : (k : Int) + (s.size : Int) < 142 := by omega
          have hb1 : k < P.size := by omega
          have hb2 : (k : Int) < (P.size : Int) := by omega
          have hb3 : k + 1 + s.size < P.size := by omega
          obtain ⟨c, hc⟩ : ∃ c : Nat, (P[k]'hb1).toNat = c := ⟨_, rfl⟩
          obtain ⟨d, hd⟩ : ∃ d : Nat, (P[k + 1 + s.size]'hb3).toNat = d := ⟨_, rfl⟩
          have HT : Hid (mtP (nb P) (nb s) k ↔ c = 32 ∧ (P.extract (k + 1) (k + 1 + s.size)).toList = s.toList ∧ d = 32) := by
            show mtP (nb P) (nb s) k ↔ _
            unfold mtP
            rw [HE.out k, nb_size, HA.out k hb1, hc, HA.out _ hb3, hd]
          have h0n : (0 : Int) < (s.size : Int) := by omega
          have h0m : 0 < s.size := by omega
          clear HM HE HA
          by_cases hc32 : c = 32
          · subst hc32
            by_cases he : (P.extract (k + 1) (k + 1 + s.size)).toList = s.toList
            · by_cases hd32 : d = 32
              · subst hd32
                have HR : Hid (isW s = true) := HH.out k hlt (HT.out.2 ⟨rfl, he, rfl⟩)
                clear HH HT HS HN
                go_wp2_with fail
                go_ret
                exact ⟨ret_bool HR.out.symm, rfl⟩
              · have hdz : ¬ (d : Int) = 32 := by omega
                have hdb : ((d : Int) == 32) = false := beq_false_of_ne hdz
                have HR : Hid (∀ j, j < k + 1 → ¬ mtP (nb P) (nb s) j) := HS.out fun h => hd32 (HT.out.1 h).2.2
                clear HH HT HS HN
                go_wp2_with fail
                go_round
                case rel => exact ⟨k + 1, by omega, by simp, HR.out⟩
                case measure => simp [intOf]; omega
            · have HR : Hid (∀ j, j < k + 1 → ¬ mtP (nb P) (nb s) j) := HS.out fun h => he (HT.out.1 h).2.1
              clear HH HT HS HN
              go_wp2_with fail
              go_round
              case rel => exact ⟨k + 1, by omega, by simp, HR.out⟩
              case measure => simp [intOf]; omega
          · have hcz : ¬ (c : Int) = 32 := by omega
            have HR : Hid (∀ j, j < k + 1 → ¬ mtP (nb P) (nb s) j) := HS.out fun h => hc32 (HT.out.1 h).1
            clear HH HT HS HN
            go_wp2_with fail
            go_round
            case rel => exact ⟨k + 1, by omega, by simp, HR.out⟩
            case measure => simp [intOf]; omega
        · have hkz : ¬ (k : Int) + (s.size : Int) < 142 := by omega
          have hkz2 : ¬ (k : Int) + (s.size : Int) + 1 < 143 := by omega
          have HR : Hid (isW s = false) := HM.out fun j hj => HN.out j (by omega)
          clear HH HM HS HN HE HA
          go_wp2_with fail
          go_ret
          exact ⟨ret_bool HR.out.symm, rfl⟩
/-- Is it a name of a schema? -/
def nm17 (s : ByteArray) : Bool := nameB (nb s) && !isW s
theorem name17_any (s : ByteArray) (w : World) (hs : s.size ≤ maxLen) (hS : SpT w) :
    Calls Tryd.prog 9 #[.string s] w fun e w' => e = .returned (.bool (nm17 s)) ∧ Below w.heap.size w w' := by
  have N := name_any s w hs
  have I := isWord_any s w hS
  unfold nm17
  clear hS hs
  cases hn : nameB (nb s)
  · rw [hn] at N
    clear I
    go_enter Tryd.func9, Tryd.ntmps9
    go_wp2_with (go_at_call 22; refine N.mono ?_; rintro e w1 ⟨rfl, rfl⟩)
    go_ret
    exact ⟨rfl, Below.refl _ _⟩
  · rw [hn] at N
    generalize isW s = b at *
    go_enter Tryd.func9, Tryd.ntmps9
    go_wp2_with (first | (go_at_call 22; refine N.mono ?_; rintro e w1 ⟨rfl, rfl⟩) | (go_at_call 23; refine I.mono ?_; rintro e w1 ⟨rfl, hb1⟩))
    go_ret
    exact ⟨by simp, hb1⟩
theorem refName17_any (s : ByteArray) (w : World) (hs : s.size ≤ maxLen) :
    Calls Tryd.prog 10 #[.string s] w fun e w' => e = .returned (.bool (nm17 s)) ∧ w' = w := by
  have N := refName_any s w hs
  have I := refWord_any s w
  unfold nm17
  clear hs
  cases hn : nameB (nb s)
  · rw [hn] at N
    clear I
    go_enter Tryd.func10, Tryd.ntmps10
    go_wp2_with (go_at_call 24; refine N.mono ?_; rintro e w1 ⟨rfl, rfl⟩)
    go_ret
    exact ⟨rfl, rfl⟩
  · rw [hn] at N
    have I2 := I hn
    clear I
    generalize isW s = b at *
    go_enter Tryd.func10, Tryd.ntmps10
    go_wp2_with (first | (go_at_call 24; refine N.mono ?_; rintro e w1 ⟨rfl, rfl⟩) | (go_at_call 25; refine I2.mono ?_; rintro e w1 ⟨rfl, rfl⟩))
    go_ret
    exact ⟨by simp, rfl⟩
end Go.Proofs.YtgjajffpkjcenaaDoor
