/-
  CONTRACTS: the disk's small functions, each for every input.
-/
import Derived.Test.YthihljjefncfoaaDoorDskMem
namespace Go.Proofs.YthihljjefncfoaaDoor
open Go.RowKit Go.Maps

theorem i64_wrap {x : Int} (h1 : -9223372036854775808 ≤ x) (h2 : x < 9223372036854775808) : IntKind.i64.wrap x = x := by
  simp [IntKind.wrap, IntKind.signed, IntKind.bits]
  omega
/-- How many sectors so many bytes need. -/
def secI (x : Int) : Int := if x < 1 then 0 else (x - 1) / 16 + 1
def letterI (c : Int) : Bool := decide (97 ≤ c) && decide (c ≤ 122)
theorem letterD_any (c : Int) (w : World) :
    Calls Tryd.prog 38 #[.int .u8 c] w fun e w' => e = .returned (.bool (letterI c)) ∧ w' = w := by
  have H : Hid (letterI c = (decide (97 ≤ c) && decide (c ≤ 122))) := rfl
  go_enter Tryd.func38, Tryd.ntmps38
  go_wp2
  all_goals go_ret
  · exact ⟨ret_bool (by rw [H.out]; simp [*]), rfl⟩
  · exact ⟨ret_bool (by rw [H.out, decide_eq_false (by omega : ¬ 97 ≤ c)]; rfl), rfl⟩
def allowedI (c : Int) : Bool := letterI c || (decide (48 ≤ c) && decide (c ≤ 57)) || c == 46 || c == 45
theorem allowed_any (c : Int) (w : World) :
    Calls Tryd.prog 39 #[.int .u8 c] w fun e w' => e = .returned (.bool (allowedI c)) ∧ w' = w := by
  have H : Hid (allowedI c = (letterI c || (decide (48 ≤ c) && decide (c ≤ 57)) || c == 46 || c == 45)) := rfl
  have L : Hid (∀ w, Calls Tryd.prog 38 #[.int .u8 c] w fun e w' => e = .returned (.bool (letterI c)) ∧ w' = w) := letterD_any c
  go_enter Tryd.func39, Tryd.ntmps39
  go_wp2_with (go_at_call 38; refine (L.out _).mono ?_; rintro e w1 ⟨rfl, rfl⟩)
  all_goals go_ret
  all_goals refine ⟨ret_bool ?_, rfl⟩
  all_goals first | (rw [H.out]; simp [*]; done) | (unfold allowedI; simp [*]; done) | skip
  · rename_i h1 h2 h3
    rw [H.out, Bool.eq_false_iff.2 h1, decide_eq_false (by omega : ¬ (48 : Int) ≤ c)]
    rfl
theorem ne_map (bm : Nat) (w : World) : (binOp BinOp.neq 68 (.map (some bm)) (.map none)).run Tryd.prog w = .ok (.bool true) w := by kernel_rfl
theorem ne_nomap (w : World) : (binOp BinOp.neq 68 (.map none) (.map none)).run Tryd.prog w = .ok (.bool false) w := by kernel_rfl
theorem made_any (d bm : Nat) (w : World) (h : w.cell? ⟨d, 0, none⟩ = some (.map (some bm))) :
    Calls Tryd.prog 67 #[.pointer (some ⟨d, 0, none⟩)] w fun e w' => e = .returned (.bool true) ∧ w' = w := by
  have hq := ne_map
  go_enter Tryd.func67, Tryd.ntmps67
  go_wp2
  go_ret
  exact ⟨rfl, rfl⟩
theorem made_zero (d : Nat) (w : World) (h : w.cell? ⟨d, 0, none⟩ = some (.map none)) :
    Calls Tryd.prog 67 #[.pointer (some ⟨d, 0, none⟩)] w fun e w' => e = .returned (.bool false) ∧ w' = w := by
  have hq := ne_nomap
  go_enter Tryd.func67, Tryd.ntmps67
  go_wp2
  go_ret
  exact ⟨rfl, rfl⟩
theorem made_nil (w : World) :
    Calls Tryd.prog 67 #[.pointer none] w fun e w' => e = .returned (.bool false) ∧ w' = w := by
  go_enter Tryd.func67, Tryd.ntmps67
  go_wp2
  go_ret
  exact ⟨rfl, rfl⟩
/-- May a file be called so? -/
def goodB (l : List UInt8) : Bool := decide (0 < l.length) && decide (l.length ≤ 40) && letterI ((l.getD 0 0).toNat : Int) && l.all fun c => allowedI (c.toNat : Int)
theorem goodD_any (s : ByteArray) (w : World) (hs : s.size ≤ maxLen) :
    Calls Tryd.prog 20 #[.string s] w fun e w' => e = .returned (.bool (goodB s.data.toList)) ∧ w' = w := by
  have hsz : (s.size : Int) ≤ 9223372036854775807 := by unfold maxLen at hs; omega
  have H : Hid (goodB s.data.toList = (decide (0 < s.size) && decide (s.size ≤ 40) && letterI ((s.data.toList.getD 0 0).toNat : Int) && s.data.toList.all fun c => allowedI (c.toNat : Int))) := rfl
  have L : Hid (∀ c w, Calls Tryd.prog 38 #[.int .u8 c] w fun e w' => e = .returned (.bool (letterI c)) ∧ w' = w) := letterD_any
  have M : Hid (∀ c w, Calls Tryd.prog 39 #[.int .u8 c] w fun e w' => e = .returned (.bool (allowedI c)) ∧ w' = w) := allowed_any
  clear hs
  by_cases h0 : s.size = 0
  · go_enter Tryd.func20, Tryd.ntmps20
    go_wp2_with fail
    go_ret
    exact ⟨ret_bool (by rw [H.out, h0]; rfl), rfl⟩
  by_cases h40 : 40 < s.size
  · go_enter Tryd.func20, Tryd.ntmps20
    go_wp2_with fail
    go_ret
    exact ⟨ret_bool (by rw [H.out, decide_eq_false (by omega : ¬ s.size ≤ 40)]; simp), rfl⟩
  have hb0 : ((s.size : Int) == 0) = false := by rw [beq_eq_false_iff_ne]; omega
  have hb1 : decide (40 < (s.size : Int)) = false := decide_eq_false (by omega)
  have hsi : (s.size : Int) ≤ 40 := by omega
  have hpos : 0 < s.size := by omega
  have hat : ∀ k (hk : k < s.size), s.data.toList.getD k 0 = s[k] := by
    intro k hk
    have : k < s.data.toList.length := by simpa using hk
    rw [List.getD_eq_getElem?_getD, List.getElem?_eq_getElem this]
    rfl
  have H0 : Hid (decide (0 < s.size) = true ∧ decide (s.size ≤ 40) = true) := ⟨by simp; omega, by simp; omega⟩
  have Hat : Hid (∀ k (hk : k < s.size), s.data.toList.getD k 0 = s[k]) := hat
  have Hlen : Hid (s.data.toList.length = s.size) := by show _ = _; simp
  clear hat h0 h40
  cases hl : letterI ((s.data.toList.getD 0 0).toNat : Int)
  · have L0 : Hid (∀ w, Calls Tryd.prog 38 #[.int .u8 (s[0].toNat : Int)] w fun e w' => e = .returned (.bool false) ∧ w' = w) := by
      intro w
      rw [← hl, Hat.out 0 hpos]
      exact L.out _ w
    go_enter Tryd.func20, Tryd.ntmps20
    go_wp2_with (go_at_call 38; refine (L0.out _).mono ?_; rintro e w1 ⟨rfl, rfl⟩)
    go_ret
    exact ⟨ret_bool (by rw [H.out, hl]; simp), rfl⟩
  · have L0 : Hid (∀ w, Calls Tryd.prog 38 #[.int .u8 (s[0].toNat : Int)] w fun e w' => e = .returned (.bool true) ∧ w' = w) := by
      intro w
      rw [← hl, Hat.out 0 hpos]
      exact L.out _ w
    have HL : Hid (letterI ((s.data.toList.getD 0 0).toNat : Int) = true) := hl
    clear hl
    go_enter Tryd.func20, Tryd.ntmps20
    go_wp2_with (go_at_call 38; refine (L0.out _).mono ?_; rintro e w1 ⟨rfl, rfl⟩)
    go_loop [20] (fun i => ∃ k : Nat, k ≤ s.size ∧ i = .int .i64 k ∧ ∀ j, j < k → allowedI ((s.data.toList.getD j 0).toNat : Int) = true) (fun i => s.size - (intOf i).toNat)
    case atStart => exact ⟨0, Nat.zero_le _, rfl, fun j hj => absurd hj (Nat.not_lt_zero _)⟩
    case round =>
      obtain ⟨k, hk, rfl, hall⟩ := hrel
      have HA : Hid (∀ j, j < k → allowedI ((s.data.toList.getD j 0).toNat : Int) = true) := hall
      clear hall
      by_cases hlt : k < s.size
      · cases hak : allowedI (s[k].toNat : Int)
        · have M0 : Hid (∀ w, Calls Tryd.prog 39 #[.int .u8 (s[k].toNat : Int)] w fun e w' => e = .returned (.bool false) ∧ w' = w) := by
            intro w
            rw [← hak]
            exact M.out _ w
          have HK : Hid (allowedI (s[k].toNat : Int) = false) := hak
          clear hak
          go_wp2_with (go_at_call 39; refine (M0.out _).mono ?_; rintro e w2 ⟨rfl, rfl⟩)
          go_ret
          refine ⟨ret_bool ?_, rfl⟩
          rw [H.out]
          have : (s.data.toList.all fun c => allowedI (c.toNat : Int)) = false := by
            rw [List.all_eq_false]
            refine ⟨s.data.toList.getD k 0, ?_, ?_⟩
            · have hk' : k < s.data.toList.length := by rw [Hlen.out]; exact hlt
              rw [List.getD_eq_getElem?_getD, List.getElem?_eq_getElem hk']
              exact List.getElem_mem hk'
            · rw [Hat.out k hlt, HK.out]
              simp
          rw [this]
          simp
        · have M0 : Hid (∀ w, Calls Tryd.prog 39 #[.int .u8 (s[k].toNat : Int)] w fun e w' => e = .returned (.bool true) ∧ w' = w) := by
            intro w
            rw [← hak]
            exact M.out _ w
          have HK : Hid (allowedI (s[k].toNat : Int) = true) := hak
          clear hak
          go_wp2_with (go_at_call 39; refine (M0.out _).mono ?_; rintro e w2 ⟨rfl, rfl⟩)
          go_round
          case rel =>
            refine ⟨k + 1, by omega, by go_num, fun j hj => ?_⟩
            by_cases e : j = k
            · subst e
              rw [Hat.out j hlt]
              exact HK.out
            · exact HA.out j (by omega)
          case measure => simp [intOf]; omega
      · obtain rfl : k = s.size := by omega
        go_wp2_with fail
        go_ret
        refine ⟨ret_bool ?_, rfl⟩
        rw [H.out, H0.out.1, H0.out.2, HL.out]
        have : (s.data.toList.all fun c => allowedI (c.toNat : Int)) = true := by
          rw [List.all_eq_true]
          intro c hc
          obtain ⟨j, hj, rfl⟩ := List.getElem_of_mem hc
          have := HA.out j (by rw [← Hlen.out]; exact hj)
          rw [List.getD_eq_getElem?_getD, List.getElem?_eq_getElem hj] at this
          exact this
        rw [this]
        rfl

/-! ### what a disk tells of itself -/
section
variable {w : World} {d bm : Nat} {S : St}
end
end Go.Proofs.YthihljjefncfoaaDoor
