/-
  PLAIN, AND CONTRACTS: a segment's name and its number (possible, Name, Number).
-/
import Derived.Test.YtabkgcmlfabmgaaGreatDoorKeyText
import Derived.Test.YtabkgcmlfabmgaaGreatDoorDskShelf
import Derived.Test.YtabkgcmlfabmgaaGreatDoorOwn
import Derived.Lib.ItoaLen
import Derived.Lib.AtoiAll
namespace Go.Proofs.YtabkgcmlfabmgaaGreatDoor
open Go.RowKit

def tB (l : List UInt8) : ByteArray := ⟨l.toArray⟩
theorem tB_list (l : List UInt8) : (tB l).data.toList = l := by simp [tB]
theorem tB_size (l : List UInt8) : (tB l).size = l.length := by show l.toArray.size = _; simp
theorem tB_of (s : ByteArray) : tB s.data.toList = s := by cases s; simp [tB]
theorem tB_inj {a b : List UInt8} (h : tB a = tB b) : a = b := by rw [← tB_list a, h, tB_list]
theorem tB_app (a b : List UInt8) : tB a ++ tB b = tB (a ++ b) := by
  have h : ∀ x y : ByteArray, x.data.toList = y.data.toList → x = y := fun x y e => by rw [← tB_of x, ← tB_of y, e]
  apply h
  rw [ByteArray.data_append, Array.toList_append, tB_list, tB_list, tB_list]
def preW : List UInt8 := [108, 111, 103, 45]
/-- May a segment have that number? -/
def okW (n : Int) : Bool := decide (1 ≤ n) && decide (n ≤ 999999999)
theorem okW_iff {n : Int} : okW n = true ↔ 1 ≤ n ∧ n ≤ 999999999 := by simp [okW]
/-- P7.1, a segment's name. -/
def nmW (n : Int) : List UInt8 := if okW n then preW ++ Lib.itoa n else []
/-- .. a name's number. -/
def numR (s : List UInt8) : Int × Bool := match Lib.atoiAll (Lib.trimPrefix s preW) with
  | .ok v => if nmW v = s then (v, true) else (0, false)
  | _ => (0, false)
theorem nmW_len (n : Int) : (nmW n).length ≤ 25 := by
  unfold nmW
  split
  · rename_i h
    rw [okW_iff] at h
    have := Lib.itoa_length_le n (by omega) (by omega)
    rw [List.length_append]; simp only [preW, List.length_cons, List.length_nil]; omega
  · simp
/-- What the library's variables hold. -/
structure EnvW (w : World) : Prop where
  tab : Lib.TabIs Tryz.prog w "internal/strconv.uint64pow10" .u64 Lib.pow10Tab
  syn : ∃ t p, w.cell? ⟨0, 0, none⟩ = some (.iface t p)
  rng : ∃ t p, w.cell? ⟨1, 0, none⟩ = some (.iface t p)
theorem gPowW : Tryz.prog.globalNamed "internal/strconv.uint64pow10" = some 4 := by kernel_rfl
theorem EnvW.keep {w w' : World} (h : EnvW w) (h1 : w'.heap[4]? = w.heap[4]?) (h2 : w'.heap[0]? = w.heap[0]?) (h3 : w'.heap[1]? = w.heap[1]?) : EnvW w' := by
  refine ⟨?_, ?_, ?_⟩
  · have ht := h.tab
    unfold Lib.TabIs World.var? at ht ⊢
    rw [gPowW] at ht ⊢
    simp only [Option.bind_some] at ht ⊢
    rw [h1]; exact ht
  · obtain ⟨t, p, hc⟩ := h.syn
    exact ⟨t, p, by rw [World.cell?_of_block (a := ⟨0, 0, none⟩) h2]; exact hc⟩
  · obtain ⟨t, p, hc⟩ := h.rng
    exact ⟨t, p, by rw [World.cell?_of_block (a := ⟨1, 0, none⟩) h3]; exact hc⟩
theorem EnvW.lt {w : World} (h : EnvW w) : 4 < w.heap.size ∧ 0 < w.heap.size ∧ 1 < w.heap.size := by
  refine ⟨?_, ?_, ?_⟩
  · have ht := h.tab
    unfold Lib.TabIs World.var? at ht
    rw [gPowW] at ht
    simp only [Option.bind_some] at ht
    rcases Nat.lt_or_ge 4 w.heap.size with g | g
    · exact g
    · rw [Array.getElem?_eq_none g] at ht; cases ht
  · obtain ⟨t, p, hc⟩ := h.syn; exact World.block_lt_of_cell? _ _ hc
  · obtain ⟨t, p, hc⟩ := h.rng; exact World.block_lt_of_cell? _ _ hc
theorem EnvW.below {w w' : World} (h : EnvW w) {B : Nat} (hb : Below B w w') (hB : w.heap.size ≤ B) : EnvW w' := by
  obtain ⟨l1, l2, l3⟩ := h.lt
  exact h.keep (hb.block _ (by omega)) (hb.block _ (by omega)) (hb.block _ (by omega))
set_option maxRecDepth 100000 in
theorem possible_any (n : Int) (w : World) : Calls Tryz.prog 49 #[.int .i64 n] w fun e w' => e = .returned (.bool (okW n)) ∧ w' = w := by
  have HO : Hid (okW n = (decide (1 ≤ n) && decide (n ≤ 999999999))) := rfl
  by_cases h1 : 1 ≤ n
  · by_cases h2 : n ≤ 999999999
    · go_enter Tryz.func49, Tryz.ntmps49
      go_wp2_with fail
      go_ret
      exact ⟨ret_bool (by rw [HO.out]; simp [h1, h2]), rfl⟩
    · go_enter Tryz.func49, Tryz.ntmps49
      go_wp2_with fail
      go_ret
      exact ⟨ret_bool (by rw [HO.out]; simp [h1, h2]; try omega), rfl⟩
  · go_enter Tryz.func49, Tryz.ntmps49
    go_wp2_with fail
    go_ret
    exact ⟨ret_bool (by rw [HO.out]; simp; try omega), rfl⟩
theorem itoaW_any (n : Int) (h0 : -9223372036854775808 ≤ n) (h1 : n ≤ 9223372036854775807) (w : World) (he : EnvW w) :
    Calls Tryz.prog 50 #[.int .i64 n] w fun x w' => x = .returned (.string (tB (Lib.itoa n))) ∧ Below w.heap.size w w' :=
  (Tryz.strconv_Itoa n h0 h1 w he.tab).mono fun x w' ⟨h1, k, os, h2⟩ => ⟨h1, by
    rw [h2]
    exact ⟨rfl, rfl, rfl, by show w.heap.size ≤ (w.heap ++ os).size; simp, fun j hj => by show (w.heap ++ os)[j]? = _; rw [Array.getElem?_append_left hj]⟩⟩
set_option maxRecDepth 100000 in
theorem nameW_any (n : Int) (h0 : -9223372036854775808 ≤ n) (h1 : n ≤ 9223372036854775807) (w : World) (he : EnvW w) :
    Calls Tryz.prog 18 #[.int .i64 n] w fun x w' => x = .returned (.string (tB (nmW n))) ∧ Below w.heap.size w w' := by
  have CP : Hid (∀ u, Calls Tryz.prog 49 #[.int .i64 n] u fun e w' => e = .returned (.bool (okW n)) ∧ w' = u) := possible_any n
  have CI : Hid (Calls Tryz.prog 50 #[.int .i64 n] w fun x w' => x = .returned (.string (tB (Lib.itoa n))) ∧ Below w.heap.size w w') := itoaW_any n h0 h1 w he
  have HN : Hid (nmW n = if okW n then preW ++ Lib.itoa n else []) := rfl
  clear he
  cases hok : okW n with
  | true =>
    have HR : Hid (⟨#[108, 111, 103, 45]⟩ ++ tB (Lib.itoa n) = tB (nmW n)) := by
      show _ = _
      rw [HN.out, if_pos hok, ← tB_app]; rfl
    rw [hok] at CP
    clear HN hok
    have hsz : (tB (Lib.itoa n)).size ≤ 21 := by rw [tB_size]; exact Lib.itoa_length_le n h0 h1
    generalize tB (Lib.itoa n) = s at *
    have hsz2 : ¬ 9223372036854775807 < 4 + s.size := by omega
    go_enter Tryz.func18, Tryz.ntmps18
    go_wp2_with (go_at_call 49; refine (CP.out _).mono ?_; rintro e w1 ⟨rfl, rfl⟩)
    go_fit CI.out
    rintro e w2 ⟨rfl, hB⟩
    go_wp2_with fail
    go_ret
    exact ⟨by rw [← HR.out]; rfl, hB⟩
  | false =>
    have HR : Hid (tB (nmW n) = ⟨#[]⟩) := by
      show _ = _
      rw [HN.out, if_neg (by rw [hok]; simp)]; rfl
    rw [hok] at CP
    clear HN hok CI h0 h1
    go_enter Tryz.func18, Tryz.ntmps18
    go_wp2_with (go_at_call 49; refine (CP.out _).mono ?_; rintro e w1 ⟨rfl, rfl⟩)
    go_ret
    exact ⟨by rw [HR.out]; rfl, Below.refl _ _⟩
end Go.Proofs.YtabkgcmlfabmgaaGreatDoor
