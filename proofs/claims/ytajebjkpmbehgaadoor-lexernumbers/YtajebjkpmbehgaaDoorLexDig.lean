/-
  CONTRACT: the document's Digits (as in KeyRefText, of this seat).
-/
import Derived.Test.YtajebjkpmbehgaaDoorLexQuo
import Derived.Lib.ItoaLen
import Derived.Test.YtajebjkpmbehgaaDoorKeyAdd
import Derived.Test.YtajebjkpmbehgaaDoorKeyText
namespace Go.Proofs.YtajebjkpmbehgaaDoor
open Go.RowKit

theorem strB_sizeX (l : List UInt8) : (strB l).size = l.length := by show l.toArray.size = _; simp
theorem ret_strX {a b : ByteArray} (h : a = b) : Ending.returned (.string a) = .returned (.string b) := by rw [h]
theorem strB_appX (a b : List UInt8) : strB a ++ strB b = strB (a ++ b) := by
  have h1 : (strB a ++ strB b).data.toList = a ++ b := by simp [strB]
  have h2 : ∀ s : ByteArray, s = strB s.data.toList := fun s => rfl
  rw [h2 (strB a ++ strB b), h1]
theorem dec_lenX (n : Int) (hn : -9223372036854775808 ≤ n ∧ n ≤ 9223372036854775807) : (Lib.decDigits n.natAbs).length ≤ 21 := by
  have := Lib.itoa_length_le n hn.1 hn.2
  unfold Lib.itoa at this
  split at this
  · rw [List.length_cons] at this; omega
  · rename_i h
    have e : n.toNat = n.natAbs := by omega
    rwa [e] at this
theorem tmod_posX (x : Int) (h : 0 ≤ x) : x.tmod 10 = ((x.natAbs % 10 : Nat) : Int) ∧ x.tdiv 10 = ((x.natAbs / 10 : Nat) : Int) := by
  rw [Int.tmod_eq_emod_of_nonneg h, Int.tdiv_eq_ediv_of_nonneg h]; omega
theorem tmod_negX (x : Int) (h : x < 0) : x.tmod 10 = -((x.natAbs % 10 : Nat) : Int) ∧ x.tdiv 10 = -((x.natAbs / 10 : Nat) : Int) := by
  have e : x = - (-x) := by omega
  rw [e, Int.neg_tmod, Int.neg_tdiv]
  have := tmod_posX (-x) (by omega)
  rw [this.1, this.2]
  simp
set_option maxRecDepth 100000 in
set_option maxHeartbeats 1000000 in
theorem digitsX_any (n : Int) (hn : InI n) (w : World) :
    Calls Tryd.prog 9 #[.int .i64 n] w fun e w' => e = .returned (.string (strB (Lib.itoa n))) ∧ Below w.heap.size w w' := by
  unfold InI at hn
  go_enter Tryd.func9, Tryd.ntmps9
  go_wp2_with fail
  go_loopw [0, 3] (fun s0 s3 wr => ∃ (x : Int) (T : List UInt8), s0 = .int .i64 x ∧ s3 = .string (strB T) ∧ (0 ≤ n → 0 ≤ x) ∧ (n < 0 → x ≤ 0) ∧ x.natAbs ≤ n.natAbs ∧ Lib.decDigits n.natAbs = Lib.decDigits x.natAbs ++ T ∧ Below w.heap.size w wr) (fun s0 _ _ => (intOf s0).natAbs)
  case atStart => exact ⟨n, [], rfl, rfl, id, fun h => by omega, Nat.le_refl _, by simp, Below.refl _ _⟩
  case round =>
    obtain ⟨x, T, rfl, rfl, h1, h2, h3, h4, hb⟩ := hrel
    obtain ⟨d, hd⟩ : ∃ d, d = x.natAbs % 10 := ⟨_, rfl⟩
    have hd9 : d < 10 := by omega
    obtain ⟨b, hbb⟩ : ∃ b : UInt8, b = UInt8.ofNat (48 + d) := ⟨_, rfl⟩
    have hbv : (b.toNat : Int) = 48 + (d : Int) := by rw [hbb, UInt8.toNat_ofNat_of_lt' (by show _ < 256; omega)]; omega
    have hconv : Sem.run Tryd.prog (convert 39 9 (.slice (some ⟨wr.heap.size, 0, none⟩) 1 1)) (wr.alloc (.cells #[.int .u8 (48 + (d : Int))] 5)) = .ok (.string (strB [b])) (wr.alloc (.cells #[.int .u8 (48 + (d : Int))] 5)) := by
      have := conv_seesL (l := [b]) (sees_litK wr [b] (0, 0)) (fun h => by cases h) 1
      simp only [B8, List.map_cons, List.map_nil, hbv] at this
      exact this
    have z1 : (strB [b]).size = 1 := by rw [strB_sizeX]; rfl
    have z2 : (strB T).size ≤ 21 := by
      have e1 := dec_lenX n hn
      rw [h4, List.length_append] at e1
      rw [strB_sizeX]; omega
    have hcat : strB [b] ++ strB T = strB (b :: T) := strB_appX [b] T
    have hdig : Lib.decDigits x.natAbs = (if x.natAbs < 10 then [] else Lib.decDigits (x.natAbs / 10)) ++ [b] := by
      split <;> rename_i h
      · rw [dec_small h, hbb, hd, Nat.mod_eq_of_lt h]; rfl
      · rw [dec_big (by omega), hbb, hd]
    have HX : Hid (x.natAbs < 10 → Lib.decDigits n.natAbs = b :: T) := fun h => by rw [h4, hdig, if_pos h]; rfl
    have HY : Hid (10 ≤ x.natAbs → Lib.decDigits n.natAbs = Lib.decDigits (x.natAbs / 10) ++ b :: T) := fun h => by rw [h4, hdig, if_neg (by omega)]; simp
    have hbx : Hid (∀ o : Obj, Below w.heap.size w (wr.alloc o)) := fun o => hb.alloc hb.size o
    have hcat2 : ¬ (9223372036854775807 < (strB [b]).size + (strB T).size) := by omega
    have hdi : (d : Int) ≤ 9 := by omega
    obtain ⟨z, hzd⟩ : ∃ z, z = x.tdiv 10 := ⟨_, rfl⟩
    by_cases hneg : x < 0 ∧ 0 < d
    · obtain ⟨e1, e2⟩ := tmod_negX x hneg.1
      rw [← hzd] at e2
      have hm : x.tmod 10 = -(d : Int) := by rw [hd]; exact e1
      have hq : x.tdiv 10 = z := hzd.symm
      have hlt : decide (-(d : Int) < 0) = true := decide_eq_true (by omega)
      have hdp : 0 < d := hneg.2
      have hdp2 : decide (0 < d) = true := decide_eq_true hneg.2
      clear hzd hd hbb hbv hdig h4 e1 hb
      by_cases hz : x.natAbs < 10
      · obtain rfl : z = 0 := by omega
        clear e2 hneg
        by_cases hn0 : n < 0
        · have dn : decide (n < 0) = true := decide_eq_true hn0
          have HR : Hid (⟨#[45]⟩ ++ strB (b :: T) = strB (Lib.itoa n)) := by
            show _ = _
            unfold Lib.itoa
            rw [if_pos hn0, HX.out hz]
            exact strB_appX [45] (b :: T)
          have z4 : (strB (b :: T)).size ≤ 30 := by rw [strB_sizeX, List.length_cons]; rw [strB_sizeX] at z2; omega
          clear HX HY hz hn h1 h2 h3
          go_wp2_with fail
          go_ret
          exact ⟨ret_strX HR.out, hbx.out _⟩
        · have dn : decide (n < 0) = false := decide_eq_false hn0
          have HR : Hid (strB (b :: T) = strB (Lib.itoa n)) := by
            show _ = _
            unfold Lib.itoa
            rw [if_neg hn0]
            have e : n.toNat = n.natAbs := by omega
            rw [e, HX.out hz]
          clear HX HY hz hn h1 h2 h3
          go_wp2_with fail
          go_ret
          exact ⟨ret_strX HR.out, hbx.out _⟩
      · have hz1 : 10 ≤ x.natAbs := by omega
        have HR := HY.out (by omega)
        have HRR : Hid (Lib.decDigits n.natAbs = Lib.decDigits (x.natAbs / 10) ++ b :: T) := HR
        have HS : Hid (0 ≤ n → 0 ≤ z) := fun h => by have := h1 h; omega
        have HS2 : Hid (n < 0 → z ≤ 0) := fun h => by have := h2 h; omega
        have HS3 : Hid (z.natAbs ≤ n.natAbs) := by show z.natAbs ≤ n.natAbs; omega
        have HS4 : Hid (z.natAbs = x.natAbs / 10) := by show z.natAbs = x.natAbs / 10; omega
        have HS5 : Hid (z.natAbs < x.natAbs) := by show z.natAbs < x.natAbs; omega
        have zz : (z == 0) = false := by rw [beq_eq_false_iff_ne]; omega
        have zb : -922337203685477581 ≤ z ∧ z ≤ 922337203685477581 := by omega
        clear HX HY hz hz1 hn h1 h2 h3 HR e2 hneg
        obtain ⟨zb1, zb2⟩ := zb
        go_wp2_with fail
        exact ⟨⟨z, b :: T, rfl, rfl, HS.out, HS2.out, HS3.out, by rw [HS4.out]; exact HRR.out, hbx.out _⟩, by simp [intOf]; exact HS5.out⟩
    · have hm : x.tmod 10 = (d : Int) := by
        by_cases hx0 : x < 0
        · have e1 := (tmod_negX x hx0).1
          have : d = 0 := by omega
          rw [e1, ← hd, this]; rfl
        · have e1 := (tmod_posX x (by omega)).1
          rw [e1, ← hd]
      have e2 : (0 ≤ x → z = ((x.natAbs / 10 : Nat) : Int)) ∧ (x < 0 → z = -((x.natAbs / 10 : Nat) : Int)) := ⟨fun h => hzd.trans (tmod_posX x h).2, fun h => hzd.trans (tmod_negX x h).2⟩
      have hq : x.tdiv 10 = z := hzd.symm
      have hlt : decide ((d : Int) < 0) = false := decide_eq_false (by omega)
      clear hzd hd hbb hbv hdig h4 hb hneg
      by_cases hz : x.natAbs < 10
      · obtain rfl : z = 0 := by have := e2.1; have := e2.2; omega
        clear e2
        by_cases hn0 : n < 0
        · have dn : decide (n < 0) = true := decide_eq_true hn0
          have HR : Hid (⟨#[45]⟩ ++ strB (b :: T) = strB (Lib.itoa n)) := by
            show _ = _
            unfold Lib.itoa
            rw [if_pos hn0, HX.out hz]
            exact strB_appX [45] (b :: T)
          have z4 : (strB (b :: T)).size ≤ 30 := by rw [strB_sizeX, List.length_cons]; rw [strB_sizeX] at z2; omega
          clear HX HY hz hn h1 h2 h3
          go_wp2_with fail
          go_ret
          exact ⟨ret_strX HR.out, hbx.out _⟩
        · have dn : decide (n < 0) = false := decide_eq_false hn0
          have HR : Hid (strB (b :: T) = strB (Lib.itoa n)) := by
            show _ = _
            unfold Lib.itoa
            rw [if_neg hn0]
            have e : n.toNat = n.natAbs := by omega
            rw [e, HX.out hz]
          clear HX HY hz hn h1 h2 h3
          go_wp2_with fail
          go_ret
          exact ⟨ret_strX HR.out, hbx.out _⟩
      · have hz1 : 10 ≤ x.natAbs := by omega
        have e3 := e2.1
        have e4 := e2.2
        clear e2
        have HR := HY.out (by omega)
        have HRR : Hid (Lib.decDigits n.natAbs = Lib.decDigits (x.natAbs / 10) ++ b :: T) := HR
        have HS : Hid (0 ≤ n → 0 ≤ z) := fun h => by have := h1 h; omega
        have HS2 : Hid (n < 0 → z ≤ 0) := fun h => by have := h2 h; omega
        have HS3 : Hid (z.natAbs ≤ n.natAbs) := by show z.natAbs ≤ n.natAbs; omega
        have HS4 : Hid (z.natAbs = x.natAbs / 10) := by show z.natAbs = x.natAbs / 10; omega
        have HS5 : Hid (z.natAbs < x.natAbs) := by show z.natAbs < x.natAbs; omega
        have zz : (z == 0) = false := by rw [beq_eq_false_iff_ne]; omega
        have zb : -922337203685477581 ≤ z ∧ z ≤ 922337203685477581 := by omega
        clear HX HY hz hz1 hn h1 h2 h3 HR e3 e4
        obtain ⟨zb1, zb2⟩ := zb
        go_wp2_with fail
        exact ⟨⟨z, b :: T, rfl, rfl, HS.out, HS2.out, HS3.out, by rw [HS4.out]; exact HRR.out, hbx.out _⟩, by simp [intOf]; exact HS5.out⟩
end Go.Proofs.YtajebjkpmbehgaaDoor
