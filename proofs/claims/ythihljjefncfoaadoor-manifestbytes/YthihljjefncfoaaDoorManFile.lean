/-
  CONTRACTS: a table's file (possible, File); the library's Itoa.
-/
import Derived.Test.YthihljjefncfoaaDoorManPlain
import Derived.Test.YthihljjefncfoaaDoorDskShelf
import Derived.Test.YthihljjefncfoaaDoorTxtB
import Derived.Lib.ItoaLen
namespace Go.Proofs.YthihljjefncfoaaDoor
open Go.RowKit

def preM : List UInt8 := [116, 97, 98, 45]
/-- P13.1, a table's file. -/
def flM (n : Int) : List UInt8 := if possZ n then preM ++ Lib.itoa n else []
theorem flM_len (n : Int) : (flM n).length ≤ 25 := by
  unfold flM
  split
  · rename_i h
    rw [possZ_iff] at h
    have := Lib.itoa_length_le n (by omega) (by omega)
    rw [List.length_append]; simp only [preM, List.length_cons, List.length_nil]; omega
  · simp
/-- What the library's variables hold. -/
def EnvM (w : World) : Prop := Lib.TabIs Tryd.prog w "internal/strconv.uint64pow10" .u64 Lib.pow10Tab
theorem gPowM : Tryd.prog.globalNamed "internal/strconv.uint64pow10" = some 2 := by kernel_rfl
theorem EnvM.lt {w : World} (h : EnvM w) : 2 < w.heap.size := by
  unfold EnvM Lib.TabIs World.var? at h
  rw [gPowM] at h
  simp only [Option.bind_some] at h
  rcases Nat.lt_or_ge 2 w.heap.size with g | g
  · exact g
  · rw [Array.getElem?_eq_none g] at h; cases h
theorem EnvM.below {w w' : World} (h : EnvM w) {B : Nat} (hb : Below B w w') (hB : w.heap.size ≤ B) : EnvM w' := by
  have hl := h.lt
  unfold EnvM Lib.TabIs World.var? at h ⊢
  rw [gPowM] at h ⊢
  simp only [Option.bind_some] at h ⊢
  rw [hb.block _ (by omega)]; exact h
set_option maxRecDepth 100000 in
theorem possibleM_any (n : Int) (w : World) : Calls Tryd.prog 33 #[.int .i64 n] w fun e w' => e = .returned (.bool (possZ n)) ∧ w' = w := by
  have HO : Hid (possZ n = (decide (1 ≤ n) && decide (n ≤ 999999999))) := rfl
  by_cases h1 : 1 ≤ n
  · by_cases h2 : n ≤ 999999999
    · go_enter Tryd.func33, Tryd.ntmps33
      go_wp2_with fail
      go_ret
      exact ⟨ret_bool (by rw [HO.out]; simp [h1, h2]), rfl⟩
    · go_enter Tryd.func33, Tryd.ntmps33
      go_wp2_with fail
      go_ret
      exact ⟨ret_bool (by rw [HO.out]; simp [h1, h2]; try omega), rfl⟩
  · go_enter Tryd.func33, Tryd.ntmps33
    go_wp2_with fail
    go_ret
    exact ⟨ret_bool (by rw [HO.out]; simp; try omega), rfl⟩
theorem itoaM_any (n : Int) (h0 : -9223372036854775808 ≤ n) (h1 : n ≤ 9223372036854775807) (w : World) (he : EnvM w) :
    Calls Tryd.prog 36 #[.int .i64 n] w fun x w' => x = .returned (.string (tB (Lib.itoa n))) ∧ Below w.heap.size w w' :=
  (Tryd.strconv_Itoa n h0 h1 w he).mono fun x w' ⟨h1, k, os, h2⟩ => ⟨h1, by
    rw [h2]
    exact ⟨rfl, rfl, rfl, by show w.heap.size ≤ (w.heap ++ os).size; simp, fun j hj => by show (w.heap ++ os)[j]? = _; rw [Array.getElem?_append_left hj]⟩⟩
set_option maxRecDepth 100000 in
theorem fileM_any (n : Int) (h0 : -9223372036854775808 ≤ n) (h1 : n ≤ 9223372036854775807) (w : World) (he : EnvM w) :
    Calls Tryd.prog 16 #[.int .i64 n] w fun x w' => x = .returned (.string (tB (flM n))) ∧ Below w.heap.size w w' := by
  have CP : Hid (∀ u, Calls Tryd.prog 33 #[.int .i64 n] u fun e w' => e = .returned (.bool (possZ n)) ∧ w' = u) := possibleM_any n
  have CI : Hid (Calls Tryd.prog 36 #[.int .i64 n] w fun x w' => x = .returned (.string (tB (Lib.itoa n))) ∧ Below w.heap.size w w') := itoaM_any n h0 h1 w he
  have HN : Hid (flM n = if possZ n then preM ++ Lib.itoa n else []) := rfl
  clear he
  cases hok : possZ n with
  | true =>
    have HR : Hid (⟨#[116, 97, 98, 45]⟩ ++ tB (Lib.itoa n) = tB (flM n)) := by
      show _ = _
      rw [HN.out, if_pos hok, ← tB_app]; rfl
    rw [hok] at CP
    clear HN hok
    have hsz : (tB (Lib.itoa n)).size ≤ 21 := by rw [tB_size]; exact Lib.itoa_length_le n h0 h1
    generalize tB (Lib.itoa n) = s at *
    have hsz2 : ¬ 9223372036854775807 < 4 + s.size := by omega
    go_enter Tryd.func16, Tryd.ntmps16
    go_wp2_with (go_at_call 33; refine (CP.out _).mono ?_; rintro e w1 ⟨rfl, rfl⟩)
    go_fit CI.out
    rintro e w2 ⟨rfl, hB⟩
    go_wp2_with fail
    go_ret
    exact ⟨by rw [← HR.out]; rfl, hB⟩
  | false =>
    have HR : Hid (tB (flM n) = ⟨#[]⟩) := by
      show _ = _
      rw [HN.out, if_neg (by rw [hok]; simp)]; rfl
    rw [hok] at CP
    clear HN hok CI h0 h1
    go_enter Tryd.func16, Tryd.ntmps16
    go_wp2_with (go_at_call 33; refine (CP.out _).mono ?_; rintro e w1 ⟨rfl, rfl⟩)
    go_ret
    exact ⟨by rw [HR.out]; rfl, Below.refl _ _⟩
end Go.Proofs.YthihljjefncfoaaDoor
