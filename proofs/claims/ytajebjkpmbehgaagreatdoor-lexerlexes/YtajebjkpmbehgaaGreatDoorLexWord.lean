/-
  CONTRACT: is a text a word (Word)?
-/
import Derived.Test.YtajebjkpmbehgaaGreatDoorLexNum
namespace Go.Proofs.YtajebjkpmbehgaaGreatDoor
open Go.RowKit

theorem foldEq_up {x y : UInt8} (h1 : 65 ≤ y.toNat) (h2 : y.toNat ≤ 90) : Lib.foldEq x y = (Lib.upperB x == y) := by
  have key : ∀ (y x : Fin 256), 65 ≤ y.val → y.val ≤ 90 → Lib.foldEq (UInt8.ofNat x.val) (UInt8.ofNat y.val) = (Lib.upperB (UInt8.ofNat x.val) == UInt8.ofNat y.val) := by decide +kernel
  have := key ⟨y.toNat, y.toNat_lt⟩ ⟨x.toNat, x.toNat_lt⟩ h1 h2
  simpa using this
theorem fold_up : ∀ (l t : List UInt8), (∀ y ∈ t, 65 ≤ y.toNat ∧ y.toNat ≤ 90) → Lib.equalFold l t = decide (Lib.toUpperA l = t)
  | [], [], _ => rfl
  | [], _ :: _, _ => rfl
  | _ :: _, [], _ => by simp [Lib.equalFold, Lib.toUpperA]
  | x :: l, y :: t, h => by
    have ih := fold_up l t (fun y hy => h y (by simp [hy]))
    obtain ⟨h1, h2⟩ := h y (by simp)
    unfold Lib.toUpperA at ih ⊢
    rw [Lib.equalFold, ih, foldEq_up h1 h2, List.map_cons]
    by_cases e : Lib.upperB x = y
    · subst e
      simp
    · rw [beq_false_of_ne e]
      simp [e]
theorem words_caps : ∀ i, i < 23 → ∀ y ∈ wordsU.getD i [], 65 ≤ y.toNat ∧ y.toNat ≤ 90 := by decide
theorem words_len : ∀ i, i < 23 → (wordsU.getD i []).length ≤ 11 := by decide
theorem isWd_hit {l : List UInt8} {i : Nat} (hi : i < 23) (h : Lib.toUpperA l = wordsU.getD i []) : isWd l = true := by
  unfold isWd
  rw [h, List.contains_iff_mem]
  have : i < wordsU.length := hi
  rw [List.getD_eq_getElem?_getD, List.getElem?_eq_getElem this]
  exact List.getElem_mem this
theorem isWd_none {l : List UInt8} (h : ∀ i, i < 23 → Lib.toUpperA l ≠ wordsU.getD i []) : isWd l = false := by
  cases e : isWd l
  · rfl
  · exfalso
    unfold isWd at e
    rw [List.contains_iff_mem] at e
    obtain ⟨i, hi, he⟩ := List.getElem_of_mem e
    refine h i hi ?_
    rw [List.getD_eq_getElem?_getD, List.getElem?_eq_getElem hi]
    exact he.symm
/-! The walk. -/
def wordsV : Value := .agg ((List.range 23).map fun j => Value.string (xB (wordsU.getD j []))).toArray
theorem wordsV_at (w : World) : ∀ i : Nat, i < 23 → (Instr.index 58 wordsV (.int .i64 (i : Int))).run Tryz.prog w = .ok (.string (xB (wordsU.getD i []))) w
  | 0, _ => by kernel_rfl
  | 1, _ => by kernel_rfl
  | 2, _ => by kernel_rfl
  | 3, _ => by kernel_rfl
  | 4, _ => by kernel_rfl
  | 5, _ => by kernel_rfl
  | 6, _ => by kernel_rfl
  | 7, _ => by kernel_rfl
  | 8, _ => by kernel_rfl
  | 9, _ => by kernel_rfl
  | 10, _ => by kernel_rfl
  | 11, _ => by kernel_rfl
  | 12, _ => by kernel_rfl
  | 13, _ => by kernel_rfl
  | 14, _ => by kernel_rfl
  | 15, _ => by kernel_rfl
  | 16, _ => by kernel_rfl
  | 17, _ => by kernel_rfl
  | 18, _ => by kernel_rfl
  | 19, _ => by kernel_rfl
  | 20, _ => by kernel_rfl
  | 21, _ => by kernel_rfl
  | 22, _ => by kernel_rfl
  | n + 23, h => absurd h (by omega)
theorem load_words (w : World) (hW : WdsV w) : (Instr.loadAt 58 (.pointer (some ⟨0, 0, none⟩))).run Tryz.prog w = .ok wordsV w := by
  have hl := run_loadCells (P := Tryz.prog) w ⟨0, 0, none⟩ 23 (fun j => Value.string (xB (wordsU.getD j []))) (fun j hj => by
    have hadd : (⟨0, 0, none⟩ : Addr).add j = ⟨0, j, none⟩ := by unfold Addr.add; split <;> simp_all
    rw [hadd]; exact hW j hj)
  have hi0 : (Tryz.prog.info? 58).map (·.size) = some 23 := by kernel_rfl
  have hu := Tryz.underlying58
  have hagg : (isAgg 58).run Tryz.prog w = .ok true w := by
    unfold isAgg
    rw [Sem.run_bind, run_underlying hu w]
    rfl
  cases hq : Tryz.prog.info? 58 with
  | none => rw [hq] at hi0; cases hi0
  | some i =>
    have hs : i.size = 23 := by rw [hq] at hi0; exact Option.some.inj hi0
    simp only [Instr.loadAt, Instr.sureAddr, Sem.run_bind, Sem.run_pure, Result.andThen_ok, loadVar, hagg, if_true, sizeOf, typeInfo]
    simp [hq, hs, hl, wordsV]
theorem wpList_load_run {P : Program} (w : World) {ops : Array Oper} {rest : List Oper} {o : Oper} {a : Act} {Q : Exit → Act → World → Prop} (hgd : o.guard = none) (x : Operand) (t : TypeId) (ho : o.op = .load t x) (xv : Value) (hx : a.eval x = xv) {v : Value}
    (hr : (Instr.loadAt t xv).run P w = .ok v w) (h : wpList P ops Q rest (a.put o.dst v) w) : wpList P ops Q (o :: rest) a w := by
  refine wpList_plain hgd fun _ hK => ?_
  unfold Oper.wp execOp
  simp only [ho, Sem.run_bind, Sem.run_pure, Result.andThen_ok, hx, hr]
  exact hK _ _ h
set_option maxRecDepth 100000 in
set_option maxHeartbeats 4000000 in
theorem wordL_any (s : ByteArray) (w : World) (hs : s.size ≤ 600) (hascii : ∀ (j : Nat) (b : UInt8), s.data.toList[j]? = some b → b.toNat < 128) (hW : WdsV w) :
    Calls Tryz.prog 14 #[.string s] w fun e w' => e = .returned (.bool (isWd s.data.toList)) ∧ w' = w := by
  obtain ⟨f, hf⟩ : ∃ f : Nat → ByteArray, ∀ i, f i = xB (wordsU.getD i []) := ⟨fun i => xB (wordsU.getD i []), fun _ => rfl⟩
  have CF : Hid (∀ i : Nat, i < 23 → ∀ wr, Calls Tryz.prog 31 #[.string s, .string (f i)] wr fun e w' => e = .returned (.bool (decide (Lib.toUpperA s.data.toList = wordsU.getD i []))) ∧ w' = wr) := fun i hi wr => by
    have hc := words_caps i hi
    have := Tryz.strings_EqualFold s (xB (wordsU.getD i [])) wr (by omega) hascii (fun j b hb => by have := (hc b (List.mem_of_getElem? hb)).2; omega)
    rw [xB_list, fold_up _ _ hc, ← hf] at this
    exact this
  have HI : Hid (∀ (w : World) (i : Nat), i < 23 → (Instr.index 58 wordsV (.int .i64 (i : Int))).run Tryz.prog w = .ok (.string (f i)) w) := fun w i hi => (hf i).symm ▸ wordsV_at w i hi
  have HL : Hid (∀ i : Nat, i < 23 → (wordsU.getD i []).length ≤ 11) := words_len
  have HY : Hid (∀ i : Nat, i < 23 → Lib.toUpperA s.data.toList = wordsU.getD i [] → isWd s.data.toList = true) := fun i hi h => isWd_hit hi h
  have HN : Hid ((∀ i : Nat, i < 23 → Lib.toUpperA s.data.toList ≠ wordsU.getD i []) → isWd s.data.toList = false) := fun h => isWd_none h
  have hul : (Lib.toUpperA s.data.toList).length = s.size := by unfold Lib.toUpperA; rw [List.length_map]; simp
  have hld := load_words w hW
  generalize wordsV = V at *
  generalize isWd s.data.toList = R at *
  generalize Lib.toUpperA s.data.toList = L at *
  clear hascii hW
  go_enter Tryz.func14, Tryz.ntmps14
  go_wp2_with (refine wpList_load_run _ rfl (Operand.global 0) 58 rfl _ rfl hld ?_)
  clear hld
  go_loopw [6] (fun s6 wr => wr = w ∧ ∃ i : Nat, i ≤ 23 ∧ s6 = .int .i64 (i : Int) ∧ ∀ j, j < i → L ≠ wordsU.getD j []) (fun s6 _ => 23 - (intOf s6).toNat)
  case atStart => exact ⟨rfl, 0, by omega, rfl, fun j hj => by omega⟩
  case round =>
    obtain ⟨rfl, i, hi, rfl, hno⟩ := hrel
    have HNo : Hid (∀ j, j < i → L ≠ wordsU.getD j []) := hno
    clear hno
    by_cases h : i < 23
    · have hiz : (i : Int) < 23 := by omega
      have hix := fun w => HI.out w i h
      have hl := HL.out i h
      have hz0 : (f i).size = (wordsU.getD i []).length := by rw [hf]; rfl
      have C := CF.out i h
      by_cases hx : L = wordsU.getD i []
      · have HR : Hid (R = true) := HY.out i h hx
        rw [decide_eq_true hx] at C
        have CC : Hid _ := C
        have hsz : ((s.size : Int) == ((f i).size : Int)) = true := beq_iff_eq.2 (by rw [hz0, ← hx, hul])
        clear HI HL HY HN CF C hx hz0 hl hul hf
        generalize f i = t at *
        go_wp2_with (go_at_call 31; with_reducible (refine (CC.out _).mono ?_); rintro e _ ⟨rfl, hw⟩; obtain rfl := hw.symm; clear hw)
        go_ret
        exact ⟨ret_bool HR.out.symm, rfl⟩
      · rw [decide_eq_false hx] at C
        have CC : Hid _ := C
        have HNo2 : Hid (∀ j, j < i + 1 → L ≠ wordsU.getD j []) := fun j hj => by
          by_cases e : j = i
          · rw [e]; exact hx
          · exact HNo.out j (by omega)
        clear HI HL HY HN CF C hx HNo hul hl hf
        by_cases hsz0 : s.size = (f i).size
        · have hsz : ((s.size : Int) == ((f i).size : Int)) = true := beq_iff_eq.2 (by rw [hsz0])
          clear hsz0 hz0
          generalize f i = t at hsz hix CC
          go_wp2_with (go_at_call 31; with_reducible (refine (CC.out _).mono ?_); rintro e _ ⟨rfl, hw⟩; obtain rfl := hw.symm; clear hw)
          go_roundw
          case rel => exact ⟨trivial, i + 1, by omega, by go_num, HNo2.out⟩
          case measure => simp [intOf]; omega
        · have hsz : ((s.size : Int) == ((f i).size : Int)) = false := beq_false_of_ne (fun e => hsz0 (by omega))
          clear hsz0 hz0 CC
          generalize f i = t at hsz hix
          go_wp2_with fail
          go_roundw
          case rel => exact ⟨trivial, i + 1, by omega, by go_num, HNo2.out⟩
          case measure => simp [intOf]; omega
    · obtain rfl : i = 23 := by omega
      have HR : Hid (R = false) := HN.out HNo.out
      clear HI HL HY HN CF
      go_wp2_with fail
      go_ret
      exact ⟨ret_bool HR.out.symm, rfl⟩
end Go.Proofs.YtajebjkpmbehgaaGreatDoor
