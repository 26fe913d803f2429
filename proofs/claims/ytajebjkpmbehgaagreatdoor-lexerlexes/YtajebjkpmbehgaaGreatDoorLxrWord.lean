/-
  CONTRACT: the document's Word: of a text of small letters, of any text of a word's bytes.
-/
import Derived.Test.YtajebjkpmbehgaaGreatDoorLxrUp
namespace Go.Proofs.YtajebjkpmbehgaaGreatDoor
open Go.RowKit

def wordsLo : List (List UInt8) := wordsU.map Lib.toLowerA
def isLo (s : ByteArray) : Bool := decide (nb s ∈ wordsLo)
/-- The document's text of the words, between blanks. -/
def wordsP : ByteArray := ⟨(([32, 99, 114, 101, 97, 116, 101, 32, 116, 97, 98, 108, 101, 32, 112, 114, 105, 109, 97, 114, 121, 32, 107, 101, 121, 32, 105, 110, 115, 101, 114, 116, 32, 105, 110].append [116, 111, 32, 118, 97, 108, 117, 101, 115, 32, 117, 115, 105, 110, 103, 32, 116, 105, 109, 101, 115, 116, 97, 109, 112, 32, 99, 111, 110, 115, 105, 115, 116, 101, 110, 99]).append ([121, 32, 117, 112, 100, 97, 116, 101, 32, 115, 101, 116, 32, 119, 104, 101, 114, 101, 32, 97, 110, 100, 32, 100, 101, 108, 101, 116, 101, 32, 102, 114, 111, 109, 32, 115].append [101, 108, 101, 99, 116, 32, 108, 105, 109, 105, 116, 32, 111, 110, 101, 32, 113, 117, 111, 114, 117, 109, 32, 97, 108, 108, 32, 116, 101, 120, 116, 32, 105, 110, 116, 32])).toArray⟩
/-- A word stands there, with a blank ahead of it and one behind it. -/
def mtP (p s : List UInt8) (j : Nat) : Prop := (p.getD j 0).toNat = 32 ∧ (p.drop (j + 1)).take s.length = s ∧ (p.getD (j + 1 + s.length) 0).toNat = 32
def hitB (p : List UInt8) (L : List (List UInt8)) (j n : Nat) : Bool := !(p.getD j 0 == 32 && p.getD (j + 1 + n) 0 == 32 && ((p.drop (j + 1)).take n).all (fun x => x != 32)) || L.contains ((p.drop (j + 1)).take n)
set_option maxRecDepth 100000 in
theorem mt_hit1 : ((List.range 142).all fun j => (List.range 17).all fun n => n == 0 || hitB (nb wordsP) (wordsLo) j n) = true := by decide +kernel
theorem mt_hit0 (j : Nat) (hj : j < 142) (n : Nat) (hn : n < 17) (h1 : 1 ≤ n) (a : ((nb wordsP).getD j 0).toNat = 32) (c : ((nb wordsP).getD (j + 1 + n) 0).toNat = 32) (h : (((nb wordsP).drop (j + 1)).take n).all (fun x => x != 32) = true) : ((nb wordsP).drop (j + 1)).take n ∈ wordsLo := by
  have := List.all_eq_true.1 (List.all_eq_true.1 mt_hit1 j (List.mem_range.2 hj)) n (List.mem_range.2 hn)
  have hn0 : (n == 0) = false := by rw [beq_eq_false_iff_ne]; omega
  have e32 : ∀ x : UInt8, x.toNat = 32 → (x == 32) = true := fun x hx => by rw [beq_iff_eq, ← UInt8.toNat_inj, hx]; rfl
  rw [hn0, Bool.false_or] at this
  unfold hitB at this
  rw [e32 _ a, e32 _ c, h] at this
  simpa using this
set_option maxRecDepth 100000 in
theorem mt_mis0 : ∀ x ∈ wordsLo, ∃ j, j < 142 ∧ j + x.length < 142 ∧ ((nb wordsP).getD j 0).toNat = 32 ∧ ((nb wordsP).drop (j + 1)).take x.length = x ∧ ((nb wordsP).getD (j + 1 + x.length) 0).toNat = 32 := by decide +kernel
set_option maxRecDepth 100000 in
theorem mt_far : ((List.range 143).all fun j => decide (j + 18 > 143) || !((((nb wordsP).drop (j + 1)).take 17).all (fun x => x != 32))) = true := by decide +kernel
theorem mt_hit {s : ByteArray} {j : Nat} (h : mtP (nb wordsP) (nb s) j) (hj : j + s.size < 142) (h1 : 1 ≤ s.size) (hs : ∀ k (h : k < s.size), (s[k]'h).toNat ≠ 32) : isLo s = true := by
  obtain ⟨a, b, c⟩ := h
  rw [nb_size] at b c
  have hall : (nb s).all (fun x => x != 32) = true := by
    rw [List.all_eq_true]
    intro x hx
    obtain ⟨i, hi, rfl⟩ := List.getElem_of_mem hx
    rw [nb_size] at hi
    have e := hs i hi
    show ((s[i]'hi) != 32) = true
    rw [bne_iff_ne]
    intro e2
    exact e (by rw [e2]; rfl)
  by_cases h16 : s.size ≤ 16
  · have := mt_hit0 j (by omega) s.size (by omega) h1 a c (by rw [b]; exact hall)
    rw [b] at this
    exact decide_eq_true this
  · have := List.all_eq_true.1 mt_far j (List.mem_range.2 (by omega))
    rw [decide_eq_false (by omega), Bool.false_or] at this
    have e : ((nb wordsP).drop (j + 1)).take 17 = (nb s).take 17 := by rw [← b, List.take_take, Nat.min_eq_left (by omega)]
    rw [e] at this
    have h2 : ((nb s).take 17).all (fun x => x != 32) = true := by
      rw [List.all_eq_true] at hall ⊢
      exact fun x hx => hall x (List.mem_of_mem_take hx)
    rw [h2] at this
    cases this
theorem mt_mis {s : ByteArray} (h : ∀ j, j + s.size < 142 → ¬ mtP (nb wordsP) (nb s) j) : isLo s = false := by
  refine decide_eq_false fun hm => ?_
  obtain ⟨j, -, h2, h3, h4, h5⟩ := mt_mis0 _ hm
  rw [nb_size] at h2
  exact h j h2 ⟨h3, h4, h5⟩
theorem ext_nb (P : ByteArray) (a n : Nat) : (P.extract a (a + n)).toList = ((nb P).drop a).take n := by
  rw [Go.ByteArray.toList_eq, ByteArray.data_extract, Array.toList_extract]
  simp [List.extract, nb]
set_option maxRecDepth 100000 in
set_option maxHeartbeats 1000000 in
theorem refWord_any (s : ByteArray) (w : World) (h1 : 1 ≤ s.size) (hs : s.size ≤ 10000) (hb : ∀ b ∈ s.data.toList, wdB b = true) :
    Calls Tryz.prog 66 #[.string s] w fun e w' => e = .returned (.bool (isLo s)) ∧ w' = w := by
  have HO : Hid (∀ k (h : k < s.size), (s[k]'h).toNat ≠ 32) := fun k h => by
    have := hb (s[k]'h) (by
      have e : s.data.toList[k]? = some (s[k]'h) := by
        rw [Array.getElem?_toList]
        exact Array.getElem?_eq_getElem h
      exact List.mem_of_getElem? e)
    intro e
    simp only [wdB, ltB, dgB, e] at this
    revert this
    decide
  clear hb
  have h1z : (1 : Int) ≤ (s.size : Int) := by omega
  have h16z : (s.size : Int) ≤ 10000 := by omega
  go_enter Tryz.func66, Tryz.ntmps66
  obtain ⟨P, hP⟩ : ∃ P, wordsP = P := ⟨_, rfl⟩
  rw [show (⟨(([32, 99, 114, 101, 97, 116, 101, 32, 116, 97, 98, 108, 101, 32, 112, 114, 105, 109, 97, 114, 121, 32, 107, 101, 121, 32, 105, 110, 115, 101, 114, 116, 32, 105, 110].append [116, 111, 32, 118, 97, 108, 117, 101, 115, 32, 117, 115, 105, 110, 103, 32, 116, 105, 109, 101, 115, 116, 97, 109, 112, 32, 99, 111, 110, 115, 105, 115, 116, 101, 110, 99]).append ([121, 32, 117, 112, 100, 97, 116, 101, 32, 115, 101, 116, 32, 119, 104, 101, 114, 101, 32, 97, 110, 100, 32, 100, 101, 108, 101, 116, 101, 32, 102, 114, 111, 109, 32, 115].append [101, 108, 101, 99, 116, 32, 108, 105, 109, 105, 116, 32, 111, 110, 101, 32, 113, 117, 111, 114, 117, 109, 32, 97, 108, 108, 32, 116, 101, 120, 116, 32, 105, 110, 116, 32])).toArray⟩ : ByteArray) = P from hP]
  have hPs : P.size = 143 := by rw [← hP]; decide +kernel
  have HH : Hid (∀ j, j + s.size < 142 → mtP (nb P) (nb s) j → isLo s = true) := fun j hj h => by rw [← hP] at h; exact mt_hit h hj h1 HO.out
  have HM : Hid ((∀ j, j + s.size < 142 → ¬ mtP (nb P) (nb s) j) → isLo s = false) := fun h => mt_mis (by rw [hP]; exact h)
  have HE : Hid (∀ j, (P.extract (j + 1) (j + 1 + s.size)).toList = s.toList ↔ ((nb P).drop (j + 1)).take (nb s).length = nb s) := fun j => by rw [ext_nb, nb_size, Go.ByteArray.toList_eq]; exact Iff.rfl
  have HA : Hid (∀ j (h : j < P.size), ((nb P).getD j 0) = P[j]'h) := fun j h => at_nb P j h
  clear hP
  go_wp2_with fail
  go_loop [3] (fun i => ∃ k : Nat, k ≤ s.size ∧ i = .int .i64 k) (fun i => s.size - (intOf i).toNat)
  case atStart => exact ⟨0, Nat.zero_le _, rfl⟩
  case round =>
    obtain ⟨k, hk, rfl⟩ := hrel
    by_cases hlt : k < s.size
    · have hkz : (k : Int) < (s.size : Int) := by omega
      obtain ⟨c, hc⟩ : ∃ c : Nat, (s[k]'hlt).toNat = c := ⟨_, rfl⟩
      have hne : ¬ (c : Int) = 32 := by have := HO.out k hlt; omega
      clear HO
      go_wp2_with fail
      go_round
      case rel => exact ⟨k + 1, by omega, by simp⟩
      case measure => simp [intOf]; omega
    · obtain rfl : k = s.size := by omega
      go_wp2_with fail
      go_loop [4] (fun i => ∃ k : Nat, k ≤ 142 - s.size ∧ i = .int .i64 k ∧ ∀ j, j < k → ¬ mtP (nb P) (nb s) j) (fun i => 142 - s.size - (intOf i).toNat)
      case atStart => exact ⟨0, Nat.zero_le _, rfl, fun j hj => absurd hj (Nat.not_lt_zero _)⟩
      case round =>
        obtain ⟨k, hk, rfl, hno⟩ := hrel
        have HN : Hid (∀ j, j < k → ¬ mtP (nb P) (nb s) j) := hno
        have HS : Hid (¬ mtP (nb P) (nb s) k → ∀ j, j < k + 1 → ¬ mtP (nb P) (nb s) j) := fun h j hj => by
          by_cases e : j = k
          · rw [e]; exact h
          · exact hno j (by omega)
        clear hno
        by_cases hlt : k + s.size < 142
        · have hkz : (k : Int) + (s.size : Int) < 142 := by omega
          have hb1 : k < P.size := by omega
          have hb2 : (k : Int) < (P.size : Int) := by omega
          have hb3 : k + 1 + s.size < P.size := by omega
          obtain ⟨c, hc⟩ : ∃ c : Nat, (P[k]'hb1).toNat = c := ⟨_, rfl⟩
          obtain ⟨d, hd⟩ : ∃ d : Nat, (P[k + 1 + s.size]'hb3).toNat = d := ⟨_, rfl⟩
          have HT : Hid (mtP (nb P) (nb s) k ↔ c = 32 ∧ (P.extract (k + 1) (k + 1 + s.size)).toList = s.toList ∧ d = 32) := by
            show mtP (nb P) (nb s) k ↔ _
            unfold mtP
            rw [HE.out k, nb_size, HA.out k hb1, hc, HA.out _ hb3, hd]
          have h0n : (0 : Int) < (s.size : Int) := by omega
          have h0m : 0 < s.size := by omega
          clear HM HE HA
          by_cases hc32 : c = 32
          · subst hc32
            by_cases he : (P.extract (k + 1) (k + 1 + s.size)).toList = s.toList
            · by_cases hd32 : d = 32
              · subst hd32
                have HR : Hid (isLo s = true) := HH.out k hlt (HT.out.2 ⟨rfl, he, rfl⟩)
                clear HH HT HS HN
                go_wp2_with fail
                go_ret
                exact ⟨ret_bool HR.out.symm, rfl⟩
              · have hdz : ¬ (d : Int) = 32 := by omega
                have hdb : ((d : Int) == 32) = false := beq_false_of_ne hdz
                have HR : Hid (∀ j, j < k + 1 → ¬ mtP (nb P) (nb s) j) := HS.out fun h => hd32 (HT.out.1 h).2.2
                clear HH HT HS HN
                go_wp2_with fail
                go_round
                case rel => exact ⟨k + 1, by omega, by simp, HR.out⟩
                case measure => simp [intOf]; omega
            · have HR : Hid (∀ j, j < k + 1 → ¬ mtP (nb P) (nb s) j) := HS.out fun h => he (HT.out.1 h).2.1
              clear HH HT HS HN
              go_wp2_with fail
              go_round
              case rel => exact ⟨k + 1, by omega, by simp, HR.out⟩
              case measure => simp [intOf]; omega
          · have hcz : ¬ (c : Int) = 32 := by omega
            have HR : Hid (∀ j, j < k + 1 → ¬ mtP (nb P) (nb s) j) := HS.out fun h => hc32 (HT.out.1 h).1
            clear HH HT HS HN
            go_wp2_with fail
            go_round
            case rel => exact ⟨k + 1, by omega, by simp, HR.out⟩
            case measure => simp [intOf]; omega
        · have hkz : ¬ (k : Int) + (s.size : Int) < 142 := by omega
          have hkz2 : ¬ (k : Int) + (s.size : Int) + 1 < 143 := by omega
          have HR : Hid (isLo s = false) := HM.out fun j hj => HN.out j (by omega)
          clear HH HM HS HN HE HA
          go_wp2_with fail
          go_ret
          exact ⟨ret_bool HR.out.symm, rfl⟩
theorem lo_up (l : List UInt8) : Lib.toLowerA (Lib.toUpperA l) = Lib.toLowerA l := by
  have key : ∀ c : Fin 256, Lib.lowerB (Lib.upperB (UInt8.ofNat c.val)) = Lib.lowerB (UInt8.ofNat c.val) := by decide +kernel
  unfold Lib.toLowerA Lib.toUpperA
  rw [List.map_map]
  exact List.map_congr_left fun b _ => by simpa using key ⟨b.toNat, b.toNat_lt⟩
theorem up_lo (l : List UInt8) : Lib.toUpperA (Lib.toLowerA l) = Lib.toUpperA l := by
  have key : ∀ c : Fin 256, Lib.upperB (Lib.lowerB (UInt8.ofNat c.val)) = Lib.upperB (UInt8.ofNat c.val) := by decide +kernel
  unfold Lib.toLowerA Lib.toUpperA
  rw [List.map_map]
  exact List.map_congr_left fun b _ => by simpa using key ⟨b.toNat, b.toNat_lt⟩
theorem words_back : ∀ u ∈ wordsU, Lib.toUpperA (Lib.toLowerA u) = u := by decide +kernel
theorem isLo_wd (l : List UInt8) : isLo (xB (Lib.toLowerA l)) = isWd l := by
  unfold isLo isWd
  rw [List.contains_eq_mem]
  refine decide_eq_decide.2 ⟨fun h => ?_, fun h => ?_⟩
  · obtain ⟨u, hu, e⟩ := List.mem_map.1 h
    have e2 : Lib.toLowerA u = Lib.toLowerA l := e
    have := congrArg Lib.toUpperA e2
    rw [words_back u hu, up_lo] at this
    rw [← this]
    exact hu
  · refine List.mem_map.2 ⟨_, h, ?_⟩
    rw [lo_up]
    rfl
theorem lo_wdB {l : List UInt8} (h : ∀ b ∈ l, wdB b = true) : ∀ b ∈ Lib.toLowerA l, wdB b = true := by
  have key : ∀ c : Fin 256, wdB (UInt8.ofNat c.val) = true → wdB (Lib.lowerB (UInt8.ofNat c.val)) = true := by decide +kernel
  intro b hb
  obtain ⟨c, hc, rfl⟩ := List.mem_map.1 hb
  simpa using key ⟨c.toNat, c.toNat_lt⟩ (by simpa using h c hc)
set_option maxRecDepth 100000 in
theorem wordR_any (s : ByteArray) (w : World) (h1 : 1 ≤ s.size) (hs : s.size ≤ 10000) (hb : ∀ b ∈ s.data.toList, wdB b = true) :
    Calls Tryz.prog 48 #[.string s] w fun e w' => e = .returned (.bool (isWd s.data.toList)) ∧ Below w.heap.size w w' := by
  have CL : Hid _ := fun wr => loR_any s wr hs
  have hl : (xB (Lib.toLowerA s.data.toList)).size = s.size := by rw [xB_size]; unfold Lib.toLowerA; rw [List.length_map]; simp
  have CW : Hid _ := fun wr => refWord_any (xB (Lib.toLowerA s.data.toList)) wr (by rw [hl]; exact h1) (by rw [hl]; exact hs) (lo_wdB hb)
  rw [isLo_wd] at CW
  clear hb hl h1 hs
  generalize isWd s.data.toList = R at *
  go_enter Tryz.func48, Tryz.ntmps48
  go_wp2_with (first | (go_at_call 51; with_reducible (refine (CL.out _).mono ?_); rintro e w1 ⟨rfl, hb1⟩) | (go_at_call 66; with_reducible (refine (CW.out _).mono ?_); rintro e _ ⟨rfl, hw⟩; obtain rfl := hw.symm; clear hw))
  go_ret
  exact ⟨ret_bool rfl, hb1⟩
end Go.Proofs.YtajebjkpmbehgaaGreatDoor
