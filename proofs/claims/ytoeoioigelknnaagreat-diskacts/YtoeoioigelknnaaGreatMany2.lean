/-
  SEVERAL TEXTS IN ONE: DskSmall, SrtNat, DskIter.
-/
import Derived.Test.YtoeoioigelknnaaGreatMany1
import Derived.Test.YtoeoioigelknnaaGreatChecked
import Derived.Shelf.SlIter.Nil
import Derived.Ground.GgzProg
import Derived.Test.YtoeoioigelknnaaGreatDskShelf
namespace Go.Proofs.YtoeoioigelknnaaGreat
open Go.RowKit Go.Maps

theorem i64_wrap {x : Int} (h1 : -9223372036854775808 ≤ x) (h2 : x < 9223372036854775808) : IntKind.i64.wrap x = x := by
  simp [IntKind.wrap, IntKind.signed, IntKind.bits]
  omega
/-- How many sectors so many bytes need. -/
def secI (x : Int) : Int := if x < 1 then 0 else (x - 1) / 16 + 1
theorem sectors_num (x : Int) (w : World) (h1 : -9223372036854775808 ≤ x) (h2 : x < 9223372036854775808) :
    Calls Tryz.prog 24 #[.int .i64 x] w fun e w' => e = .returned (.int .i64 (secI x)) ∧ w' = w := by
  have H : Hid (secI x = if x < 1 then 0 else (x - 1) / 16 + 1) := rfl
  go_enter Tryz.func24, Tryz.ntmps24
  go_wp2
  all_goals go_ret
  · exact ⟨ret_int (by rw [H.out, if_pos (by assumption)]), rfl⟩
  · exact ⟨ret_int (by rw [H.out, if_neg (by omega)]), rfl⟩
theorem refSectors_num (x : Int) (w : World) (h1 : -9223372036854775808 ≤ x) (h2 : x < 9223372036854775808) :
    Calls Tryz.prog 69 #[.int .i64 x] w fun e w' => e = .returned (.int .i64 (secI x)) ∧ w' = w := by
  have H : Hid (secI x = if x < 1 then 0 else (x - 1) / 16 + 1) := rfl
  go_enter Tryz.func69, Tryz.ntmps69
  go_wp2
  all_goals go_ret
  · exact ⟨ret_int (by rw [H.out, if_pos (by assumption)]), rfl⟩
  · exact ⟨ret_int (by rw [H.out, if_neg (by omega)]), rfl⟩
def letterI (c : Int) : Bool := decide (97 ≤ c) && decide (c ≤ 122)
theorem letterD_any (c : Int) (w : World) :
    Calls Tryz.prog 81 #[.int .u8 c] w fun e w' => e = .returned (.bool (letterI c)) ∧ w' = w := by
  have H : Hid (letterI c = (decide (97 ≤ c) && decide (c ≤ 122))) := rfl
  go_enter Tryz.func81, Tryz.ntmps81
  go_wp2
  all_goals go_ret
  · exact ⟨ret_bool (by rw [H.out]; simp [*]), rfl⟩
  · exact ⟨ret_bool (by rw [H.out, decide_eq_false (by omega : ¬ 97 ≤ c)]; rfl), rfl⟩
def allowedI (c : Int) : Bool := letterI c || (decide (48 ≤ c) && decide (c ≤ 57)) || c == 46 || c == 45
theorem allowed_any (c : Int) (w : World) :
    Calls Tryz.prog 82 #[.int .u8 c] w fun e w' => e = .returned (.bool (allowedI c)) ∧ w' = w := by
  have H : Hid (allowedI c = (letterI c || (decide (48 ≤ c) && decide (c ≤ 57)) || c == 46 || c == 45)) := rfl
  have L : Hid (∀ w, Calls Tryz.prog 81 #[.int .u8 c] w fun e w' => e = .returned (.bool (letterI c)) ∧ w' = w) := letterD_any c
  go_enter Tryz.func82, Tryz.ntmps82
  go_wp2_with (go_at_call 81; refine (L.out _).mono ?_; rintro e w1 ⟨rfl, rfl⟩)
  all_goals go_ret
  all_goals refine ⟨ret_bool ?_, rfl⟩
  all_goals first | (rw [H.out]; simp [*]; done) | (unfold allowedI; simp [*]; done) | skip
  · rename_i h1 h2 h3
    rw [H.out, Bool.eq_false_iff.2 h1, decide_eq_false (by omega : ¬ (48 : Int) ≤ c)]
    rfl
theorem ne_map (bm : Nat) (w : World) : (binOp BinOp.neq 42 (.map (some bm)) (.map none)).run Tryz.prog w = .ok (.bool true) w := by kernel_rfl
theorem ne_nomap (w : World) : (binOp BinOp.neq 42 (.map none) (.map none)).run Tryz.prog w = .ok (.bool false) w := by kernel_rfl
theorem made_any (d bm : Nat) (w : World) (h : w.cell? ⟨d, 0, none⟩ = some (.map (some bm))) :
    Calls Tryz.prog 49 #[.pointer (some ⟨d, 0, none⟩)] w fun e w' => e = .returned (.bool true) ∧ w' = w := by
  have hq := ne_map
  go_enter Tryz.func49, Tryz.ntmps49
  go_wp2
  go_ret
  exact ⟨rfl, rfl⟩
theorem made_zero (d : Nat) (w : World) (h : w.cell? ⟨d, 0, none⟩ = some (.map none)) :
    Calls Tryz.prog 49 #[.pointer (some ⟨d, 0, none⟩)] w fun e w' => e = .returned (.bool false) ∧ w' = w := by
  have hq := ne_nomap
  go_enter Tryz.func49, Tryz.ntmps49
  go_wp2
  go_ret
  exact ⟨rfl, rfl⟩
theorem made_nil (w : World) :
    Calls Tryz.prog 49 #[.pointer none] w fun e w' => e = .returned (.bool false) ∧ w' = w := by
  go_enter Tryz.func49, Tryz.ntmps49
  go_wp2
  go_ret
  exact ⟨rfl, rfl⟩
/-- May a file be called so? -/
def goodB (l : List UInt8) : Bool := decide (0 < l.length) && decide (l.length ≤ 40) && letterI ((l.getD 0 0).toNat : Int) && l.all fun c => allowedI (c.toNat : Int)
theorem goodD_any (s : ByteArray) (w : World) (hs : s.size ≤ maxLen) :
    Calls Tryz.prog 75 #[.string s] w fun e w' => e = .returned (.bool (goodB s.data.toList)) ∧ w' = w := by
  have hsz : (s.size : Int) ≤ 9223372036854775807 := by unfold maxLen at hs; omega
  have H : Hid (goodB s.data.toList = (decide (0 < s.size) && decide (s.size ≤ 40) && letterI ((s.data.toList.getD 0 0).toNat : Int) && s.data.toList.all fun c => allowedI (c.toNat : Int))) := rfl
  have L : Hid (∀ c w, Calls Tryz.prog 81 #[.int .u8 c] w fun e w' => e = .returned (.bool (letterI c)) ∧ w' = w) := letterD_any
  have M : Hid (∀ c w, Calls Tryz.prog 82 #[.int .u8 c] w fun e w' => e = .returned (.bool (allowedI c)) ∧ w' = w) := allowed_any
  clear hs
  by_cases h0 : s.size = 0
  · go_enter Tryz.func75, Tryz.ntmps75
    go_wp2_with fail
    go_ret
    exact ⟨ret_bool (by rw [H.out, h0]; rfl), rfl⟩
  by_cases h40 : 40 < s.size
  · go_enter Tryz.func75, Tryz.ntmps75
    go_wp2_with fail
    go_ret
    exact ⟨ret_bool (by rw [H.out, decide_eq_false (by omega : ¬ s.size ≤ 40)]; simp), rfl⟩
  have hb0 : ((s.size : Int) == 0) = false := by rw [beq_eq_false_iff_ne]; omega
  have hb1 : decide (40 < (s.size : Int)) = false := decide_eq_false (by omega)
  have hsi : (s.size : Int) ≤ 40 := by omega
  have hpos : 0 < s.size := by omega
  have hat : ∀ k (hk : k < s.size), s.data.toList.getD k 0 = s[k] := by
    intro k hk
    have : k < s.data.toList.length := by simpa using hk
    rw [List.getD_eq_getElem?_getD, List.getElem?_eq_getElem this]
    rfl
  have H0 : Hid (decide (0 < s.size) = true ∧ decide (s.size ≤ 40) = true) := ⟨by simp; omega, by simp; omega⟩
  have Hat : Hid (∀ k (hk : k < s.size), s.data.toList.getD k 0 = s[k]) := hat
  have Hlen : Hid (s.data.toList.length = s.size) := by show _ = _; simp
  clear hat h0 h40
  cases hl : letterI ((s.data.toList.getD 0 0).toNat : Int)
  · have L0 : Hid (∀ w, Calls Tryz.prog 81 #[.int .u8 (s[0].toNat : Int)] w fun e w' => e = .returned (.bool false) ∧ w' = w) := by
      intro w
      rw [← hl, Hat.out 0 hpos]
      exact L.out _ w
    go_enter Tryz.func75, Tryz.ntmps75
    go_wp2_with (go_at_call 81; refine (L0.out _).mono ?_; rintro e w1 ⟨rfl, rfl⟩)
    go_ret
    exact ⟨ret_bool (by rw [H.out, hl]; simp), rfl⟩
  · have L0 : Hid (∀ w, Calls Tryz.prog 81 #[.int .u8 (s[0].toNat : Int)] w fun e w' => e = .returned (.bool true) ∧ w' = w) := by
      intro w
      rw [← hl, Hat.out 0 hpos]
      exact L.out _ w
    have HL : Hid (letterI ((s.data.toList.getD 0 0).toNat : Int) = true) := hl
    clear hl
    go_enter Tryz.func75, Tryz.ntmps75
    go_wp2_with (go_at_call 81; refine (L0.out _).mono ?_; rintro e w1 ⟨rfl, rfl⟩)
    go_loop [20] (fun i => ∃ k : Nat, k ≤ s.size ∧ i = .int .i64 k ∧ ∀ j, j < k → allowedI ((s.data.toList.getD j 0).toNat : Int) = true) (fun i => s.size - (intOf i).toNat)
    case atStart => exact ⟨0, Nat.zero_le _, rfl, fun j hj => absurd hj (Nat.not_lt_zero _)⟩
    case round =>
      obtain ⟨k, hk, rfl, hall⟩ := hrel
      have HA : Hid (∀ j, j < k → allowedI ((s.data.toList.getD j 0).toNat : Int) = true) := hall
      clear hall
      by_cases hlt : k < s.size
      · cases hak : allowedI (s[k].toNat : Int)
        · have M0 : Hid (∀ w, Calls Tryz.prog 82 #[.int .u8 (s[k].toNat : Int)] w fun e w' => e = .returned (.bool false) ∧ w' = w) := by
            intro w
            rw [← hak]
            exact M.out _ w
          have HK : Hid (allowedI (s[k].toNat : Int) = false) := hak
          clear hak
          go_wp2_with (go_at_call 82; refine (M0.out _).mono ?_; rintro e w2 ⟨rfl, rfl⟩)
          go_ret
          refine ⟨ret_bool ?_, rfl⟩
          rw [H.out]
          have : (s.data.toList.all fun c => allowedI (c.toNat : Int)) = false := by
            rw [List.all_eq_false]
            refine ⟨s.data.toList.getD k 0, ?_, ?_⟩
            · have hk' : k < s.data.toList.length := by rw [Hlen.out]; exact hlt
              rw [List.getD_eq_getElem?_getD, List.getElem?_eq_getElem hk']
              exact List.getElem_mem hk'
            · rw [Hat.out k hlt, HK.out]
              simp
          rw [this]
          simp
        · have M0 : Hid (∀ w, Calls Tryz.prog 82 #[.int .u8 (s[k].toNat : Int)] w fun e w' => e = .returned (.bool true) ∧ w' = w) := by
            intro w
            rw [← hak]
            exact M.out _ w
          have HK : Hid (allowedI (s[k].toNat : Int) = true) := hak
          clear hak
          go_wp2_with (go_at_call 82; refine (M0.out _).mono ?_; rintro e w2 ⟨rfl, rfl⟩)
          go_round
          case rel =>
            refine ⟨k + 1, by omega, by go_num, fun j hj => ?_⟩
            by_cases e : j = k
            · subst e
              rw [Hat.out j hlt]
              exact HK.out
            · exact HA.out j (by omega)
          case measure => simp [intOf]; omega
      · obtain rfl : k = s.size := by omega
        go_wp2_with fail
        go_ret
        refine ⟨ret_bool ?_, rfl⟩
        rw [H.out, H0.out.1, H0.out.2, HL.out]
        have : (s.data.toList.all fun c => allowedI (c.toNat : Int)) = true := by
          rw [List.all_eq_true]
          intro c hc
          obtain ⟨j, hj, rfl⟩ := List.getElem_of_mem hc
          have := HA.out j (by rw [← Hlen.out]; exact hj)
          rw [List.getD_eq_getElem?_getD, List.getElem?_eq_getElem hj] at this
          exact this
        rw [this]
        rfl

/-! ### what a disk tells of itself -/
section
variable {w : World} {d bm : Nat} {S : St}
theorem on_any (h : DiskAt w d bm S) : Calls Tryz.prog 17 #[.pointer (some ⟨d, 0, none⟩)] w fun e w' => e = .returned (.bool S.on) ∧ w' = w := by
  have M : Hid (Calls Tryz.prog 49 #[.pointer (some ⟨d, 0, none⟩)] w fun e w' => e = .returned (.bool true) ∧ w' = w) := made_any d bm w h.c0
  have c2 := h.c2
  clear h
  go_enter Tryz.func17, Tryz.ntmps17
  go_wp2_with (go_at_call 49; refine M.out.mono ?_; rintro e w1 ⟨rfl, rfl⟩)
  go_ret
  exact ⟨rfl, rfl⟩
theorem ops_any (h : DiskAt w d bm S) : Calls Tryz.prog 16 #[.pointer (some ⟨d, 0, none⟩)] w fun e w' => e = .returned (.int .i64 (S.ops : Int)) ∧ w' = w := by
  have M : Hid (Calls Tryz.prog 49 #[.pointer (some ⟨d, 0, none⟩)] w fun e w' => e = .returned (.bool true) ∧ w' = w) := made_any d bm w h.c0
  have c3 := h.c3
  clear h
  go_enter Tryz.func16, Tryz.ntmps16
  go_wp2_with (go_at_call 49; refine M.out.mono ?_; rintro e w1 ⟨rfl, rfl⟩)
  go_ret
  exact ⟨rfl, rfl⟩
theorem start_any (h : DiskAt w d bm S) : Calls Tryz.prog 22 #[.pointer (some ⟨d, 0, none⟩)] w fun e w' => e = .returned (.tuple #[]) ∧ DiskAt w' d bm { S with on := true, left := 0 } ∧ Moved w w' [d] [d] := by
  have M : Hid (Calls Tryz.prog 49 #[.pointer (some ⟨d, 0, none⟩)] w fun e w' => e = .returned (.bool true) ∧ w' = w) := made_any d bm w h.c0
  have c2 := h.c2
  have c5 := h.c5
  have f2 := h.head.frozen 2
  have f5 := h.head.frozen 5
  have K : Hid (DiskAt w d bm S) := h
  clear h
  go_enter Tryz.func22, Tryz.ntmps22
  go_wp2_with (go_at_call 49; refine M.out.mono ?_; rintro e w1 ⟨rfl, rfl⟩)
  go_end0
  have k1 : DiskAt (w1.setCell ⟨d, 2, none⟩ (.bool true)) d bm { S with on := true } := K.out.put (S' := { S with on := true }) rfl 2 (.bool true) rfl
  exact ⟨rfl, k1.put (S' := { S with on := true, left := 0 }) rfl 5 (.int .i64 0) rfl, (Moved.of_set d 2 _).trans (Moved.of_set d 5 _)⟩
theorem nothing_any (w : World) : Calls Tryz.prog 53 #[] w fun e w' => e = .returned (.tuple #[]) ∧ w' = w := by
  go_enter Tryz.func53, Tryz.ntmps53
  go_wp2
  go_end0
  exact ⟨rfl, rfl⟩
end
end Go.Proofs.YtoeoioigelknnaaGreat
namespace Go.Proofs.YtoeoioigelknnaaGreat

theorem mergeSort_nat {l l' : List Nat} (h : l.Perm l') : l.mergeSort (fun a b => decide (a ≤ b)) = l'.mergeSort (fun a b => decide (a ≤ b)) := by
  have tr : ∀ a b c : Nat, decide (a ≤ b) = true → decide (b ≤ c) = true → decide (a ≤ c) = true := fun a b c h1 h2 => by simp at *; omega
  have to : ∀ a b : Nat, (decide (a ≤ b) || decide (b ≤ a)) = true := fun a b => by simp; omega
  refine List.Perm.eq_of_pairwise (le := fun a b => decide (a ≤ b) = true) (fun a b _ _ h1 h2 => by simp at h1 h2; omega) (List.pairwise_mergeSort tr to l) (List.pairwise_mergeSort tr to l') (((List.mergeSort_perm l _).trans h).trans (List.mergeSort_perm l' _).symm)
theorem mergeSort_cast (l : List Nat) : (l.map fun n : Nat => (n : Int)).mergeSort (fun x y => decide (x ≤ y)) = (l.mergeSort (fun a b => decide (a ≤ b))).map fun n : Nat => (n : Int) := by
  have tr : ∀ a b c : Int, decide (a ≤ b) = true → decide (b ≤ c) = true → decide (a ≤ c) = true := fun a b c h1 h2 => by simp at *; omega
  have to : ∀ a b : Int, (decide (a ≤ b) || decide (b ≤ a)) = true := fun a b => by simp; omega
  have trn : ∀ a b c : Nat, decide (a ≤ b) = true → decide (b ≤ c) = true → decide (a ≤ c) = true := fun a b c h1 h2 => by simp at *; omega
  have ton : ∀ a b : Nat, (decide (a ≤ b) || decide (b ≤ a)) = true := fun a b => by simp; omega
  refine List.Perm.eq_of_pairwise (le := fun a b : Int => decide (a ≤ b) = true) (fun a b _ _ h1 h2 => by simp at h1 h2; omega) (List.pairwise_mergeSort tr to _) ?_ ?_
  · rw [List.pairwise_map]
    exact (List.pairwise_mergeSort trn ton l).imp fun h => by simp at *; omega
  · exact (List.mergeSort_perm _ _).trans ((List.mergeSort_perm l _).symm.map _)
end Go.Proofs.YtoeoioigelknnaaGreat
namespace Go.Proofs
section
open Go.Shelf
def Tryz.keys44_ren : Go.Shelf.Ren := ⟨fun | 7 => 44 | 10 => 78 | n => n, fun | 23 => 42 | 26 => 9 | 3 => 70 | 28 => 68 | 0 => 0 | 27 => 67 | 33 => 83 | 4 => 4 | n => n, fun | n => n⟩
theorem Tryz.keys44 : Go.Proofs.SlLaysZ.n7 Tryz.prog Tryz.keys44_ren := {
  mixed := by kernel_rfl
  f7 := ⟨Tryz.f44.name, by decide, Tryz.func44.trans (congrArg some (by kernel_rfl))⟩
  f10 := ⟨Tryz.f78.name, by decide, Tryz.func78.trans (congrArg some (by kernel_rfl))⟩
  t0 := Tryz.underlying0
  a0 := Tryz.isAgg0
  z0 := Tryz.sizeOf0
  v0 := Tryz.zeroValue0
  t4 := Tryz.underlying4
  a4 := Tryz.isAgg4
  z4 := Tryz.sizeOf4
  v4 := Tryz.zeroValue4
  t23 := Tryz.underlying42
  a23 := Tryz.isAgg42
  z23 := Tryz.sizeOf42
  v23 := Tryz.zeroValue42
  t26 := Tryz.underlying9
  a26 := Tryz.isAgg9
  z26 := Tryz.sizeOf9
  v26 := Tryz.zeroValue9
  t27 := Tryz.underlying67
  a27 := Tryz.isAgg67
  z27 := Tryz.sizeOf67
  v27 := Tryz.zeroValue67
  t28 := Tryz.underlying68
  a28 := Tryz.isAgg68
  z28 := Tryz.sizeOf68
  v28 := Tryz.zeroValue68
  t33 := Tryz.underlying83
  a33 := Tryz.isAgg83
  z33 := Tryz.sizeOf83
  v33 := Tryz.zeroValue83 }
def Tryz.sorted43_ren : Go.Shelf.Ren := ⟨fun | 6 => 43 | 8 => 76 | 9 => 77 | 11 => 83 | 13 => 85 | 12 => 84 | 23 => 98 | 24 => 99 | 14 => 89 | 15 => 90 | 16 => 91 | 17 => 92 | 18 => 93 | 19 => 94 | 20 => 95 | 21 => 96 | 22 => 97 | 25 => 109 | 26 => 110 | 27 => 111 | 28 => 112 | 29 => 113 | 30 => 114 | 31 => 118 | n => n, fun | 26 => 9 | 28 => 68 | 24 => 34 | 0 => 0 | 3 => 3 | 37 => 89 | 48 => 110 | 50 => 112 | 4 => 4 | 40 => 103 | 39 => 102 | 45 => 92 | 5 => 5 | 9 => 9 | 51 => 118 | 55 => 122 | 57 => 126 | 58 => 127 | 33 => 83 | n => n, fun | n => n⟩
theorem Tryz.sorted43 : Go.Proofs.SlLaysZ.n6 Tryz.prog Tryz.sorted43_ren := {
  mixed := by kernel_rfl
  f6 := ⟨Tryz.f43.name, by decide, Tryz.func43.trans (congrArg some (by kernel_rfl))⟩
  f8 := ⟨Tryz.f76.name, by decide, Tryz.func76.trans (congrArg some (by kernel_rfl))⟩
  f11 := ⟨Tryz.f83.name, by decide, Tryz.func83.trans (congrArg some (by kernel_rfl))⟩
  t0 := Tryz.underlying0
  a0 := Tryz.isAgg0
  z0 := Tryz.sizeOf0
  v0 := Tryz.zeroValue0
  t24 := Tryz.underlying34
  a24 := Tryz.isAgg34
  z24 := Tryz.sizeOf34
  v24 := Tryz.zeroValue34
  t26 := Tryz.underlying9
  a26 := Tryz.isAgg9
  z26 := Tryz.sizeOf9
  v26 := Tryz.zeroValue9
  t28 := Tryz.underlying68
  a28 := Tryz.isAgg68
  z28 := Tryz.sizeOf68
  v28 := Tryz.zeroValue68
  i26 := by kernel_rfl }
end
section
open Go.RowKit Go.Maps Go.Sort Go.Shelf
theorem Tryz.sorts43 (m : Nat) : AnyZ.SortsIn Tryz.prog Tryz.sorted43_ren Fence.wide m :=
  ⟨fun blk off cap ss W hH hblk hsz => callsIn_wide.2 (Tryz.slices_Sort_string blk off cap ss W hH hblk hsz),
   fun p cap W => callsIn_wide.2 (Tryz.slices_Sort_string_none p cap W)⟩

theorem Tryz.maps_Keys_44 (mb : Option Nat) (W : World) : CallsIn Fence.wide 5 Tryz.prog 44 #[.map mb] W fun e w' => e = .returned (.func (.func 78) #[] #[.pointer (some ⟨W.heap.size, 0, none⟩)]) ∧ w' = W.alloc (.cells #[.map mb] 42) :=
  AnyZ.keys_in Tryz.keys44 Fence.wide 5 trivial rfl mb W

set_option maxHeartbeats 1000000 in
theorem Tryz.slices_Sorted_keys_43_44 {H : Type} (b nn : Nat) (D0 : DataW H) (R : Value → Option (DataW H × List MemPlace)) (w : World) (hown : w.ownsMap Tryz.prog 9 R b nn D0) (hmax : Maps.size D0 ≤ maxLen) (hbytes : Maps.size D0 * 16 ≤ 140737488355328) :
    CallsIn Fence.wide 5 Tryz.prog 43 #[.func (.func 78) #[] #[.pointer (some ⟨w.heap.size, 0, none⟩)]] (w.alloc (.cells #[.map (some b)] 42)) fun e w' => ∃ (v : Value) (ss : List (List UInt8)), e = .returned v ∧ ss.Perm (strKeys D0) ∧
      w'.ownsRow (w.alloc (.cells #[.map (some b)] 42)).heap.size 9 1 v ss.length ((ss.mergeSort (fun x y => decide (x ≤ y))).map encStr) ∧ (v = .slice none 0 0 ↔ ss = []) ∧ Below (w.alloc (.cells #[.map (some b)] 42)).heap.size (w.alloc (.cells #[.map (some b)] 42)) w' := by
  have hbl := hown.lt
  have hseq : SeqGives Fence.wide 2 Tryz.prog 78 #[.pointer (some ⟨w.heap.size, 0, none⟩)] encStr (fun ss => ss.Perm (strKeys D0)) (Maps.size D0) (w.alloc (.cells #[.map (some b)] 42)) :=
    AnyZ.keys_gives (ρ := Tryz.keys44_ren) { Tryz.keys44 with } Fence.wide _ trivial rfl (by omega) w.heap.size b nn D0 _ (by simp) (by simp) (by
      obtain ⟨es, clock, hb, Ft, hs, hD⟩ := hown
      exact ⟨es, clock, (Below.heap_alloc _ _ b hbl).trans hb, Ft, hs, hD⟩)
  exact AnyZ.sorted_in Tryz.sorted43 Fence.wide 5 trivial trivial trivial trivial rfl (by omega) (Tryz.sorts43 _) (enters_of Tryz.func77 (by kernel_rfl) rfl) 78 #[.pointer (some ⟨w.heap.size, 0, none⟩)] trivial (enters_of Tryz.func78 (by kernel_rfl) rfl) _ _ hmax hbytes _ hseq

set_option maxHeartbeats 1000000 in
theorem Tryz.slices_Sorted_keys_nil_43_44 (w : World) :
    CallsIn Fence.wide 5 Tryz.prog 43 #[.func (.func 78) #[] #[.pointer (some ⟨w.heap.size, 0, none⟩)]] (w.alloc (.cells #[.map none] 42)) fun e w' => ∃ (v : Value) (ss : List (List UInt8)), e = .returned v ∧ ss = [] ∧
      w'.ownsRow (w.alloc (.cells #[.map none] 42)).heap.size 9 1 v ss.length ((ss.mergeSort (fun x y => decide (x ≤ y))).map encStr) ∧ (v = .slice none 0 0 ↔ ss = []) ∧ Below (w.alloc (.cells #[.map none] 42)).heap.size (w.alloc (.cells #[.map none] 42)) w' := by
  have hseq : SeqGives Fence.wide 2 Tryz.prog 78 #[.pointer (some ⟨w.heap.size, 0, none⟩)] encStr (fun ss : List (List UInt8) => ss = []) 0 (w.alloc (.cells #[.map none] 42)) :=
    AnyZ.keys_gives_nil (ρ := Tryz.keys44_ren) { Tryz.keys44 with } Fence.wide _ trivial rfl w.heap.size _ (by simp) (by simp)
  exact AnyZ.sorted_in Tryz.sorted43 Fence.wide 5 trivial trivial trivial trivial rfl (by omega) (Tryz.sorts43 _) (enters_of Tryz.func77 (by kernel_rfl) rfl) 78 #[.pointer (some ⟨w.heap.size, 0, none⟩)] trivial (enters_of Tryz.func78 (by kernel_rfl) rfl) _ 0 (Nat.zero_le _) (by omega) _ hseq

end
end Go.Proofs
