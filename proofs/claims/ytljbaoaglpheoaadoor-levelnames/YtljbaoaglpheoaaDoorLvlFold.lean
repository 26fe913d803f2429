/-
  CONTRACT: strings.EqualFold, where the second text has great letters alone (no K, no S).
-/
import Derived.Test.YtljbaoaglpheoaaDoorLvlUp
import Derived.ScopeJumps
import Derived.WalkMore
import Derived.Laws.RangeAny
import Derived.Laws.Strings3
import Derived.Laws.BitsAllLaws
namespace Go.Proofs.YtljbaoaglpheoaaDoor
open Go.RowKit

/-- The library's table, as far as great letters go. -/
def FoldL (w : World) : Prop := ∀ c : Nat, 65 ≤ c → c ≤ 90 → c ≠ 75 → c ≠ 83 → w.cell? ⟨1, c, none⟩ = some (.int .u16 ((c : Int) + 32)) ∧ w.cell? ⟨1, c + 32, none⟩ = some (.int .u16 (c : Int))
theorem FoldL.below {w w' : World} (h : FoldL w) (hb : Below w.heap.size w w') : FoldL w' := by
  intro c h1 h2 h3 h4
  have hl : 1 < w.heap.size := World.block_lt_of_cell? _ _ (h 65 (by omega) (by omega) (by omega) (by omega)).1
  have e := fun i => World.cell?_of_block (a := ⟨1, i, none⟩) (hb.block 1 hl)
  exact ⟨(e c).trans (h c h1 h2 h3 h4).1, (e (c + 32)).trans (h c h1 h2 h3 h4).2⟩
set_option maxRecDepth 100000 in
theorem simple_any (c : Nat) (v : Int) (hc : c < 128) (w : World) (hv : w.cell? ⟨1, c, none⟩ = some (.int .u16 v)) (h0 : 0 ≤ v) (h1 : v ≤ 65535) : Calls Tryd.prog 22 #[.int .i32 (c : Int)] w fun e w' => e = .returned (.int .i32 v) ∧ w' = w := by
  go_enter Tryd.func22, Tryd.ntmps22
  go_wp2_with fail
  go_ret
  exact ⟨rfl, rfl⟩
set_option maxRecDepth 100000 in
theorem decode_one (s : ByteArray) (c : Nat) (hs : 0 < s.size) (hc : (s[0]'hs).toNat = c) (h : c < 128) (w : World) : Calls Tryd.prog 21 #[.string s] w fun e w' => e = .returned (.tuple #[.int .i32 (c : Int), .int .i64 1]) ∧ w' = w := by
  obtain ⟨x, hx⟩ : ∃ x : UInt8, s[0]'hs = x := ⟨_, rfl⟩
  rw [hx] at hc
  have hsz : (0 : Int) < (s.size : Int) := by omega
  have hn1 : ¬ s.toList = [] := by
    rw [Go.ByteArray.toList_eq]
    intro e
    have e2 := congrArg List.length e
    have e3 : s.data.toList.length = s.size := by simp
    rw [e3, List.length_nil] at e2
    omega
  have hn2 : s.toList.isEmpty = false := by simpa using hn1
  have hci : (c : Int) < 128 := by omega
  go_enter Tryd.func21, Tryd.ntmps21
  go_wp2_with fail
  go_ret2
  exact ⟨rfl, rfl⟩
theorem data_at (s : ByteArray) (i : Nat) (h : i < s.size) : s.data.toList[i]? = some (s[i]'h) := by
  rw [Array.getElem?_toList]
  exact Array.getElem?_eq_getElem h
/-- A frame of 123 slots. -/
def fr123 (y : Nat → Value) : Act := { tmps := #[y 0, y 1, y 2, y 3, y 4, y 5, y 6, y 7, y 8, y 9, y 10, y 11, y 12, y 13, y 14, y 15, y 16, y 17, y 18, y 19, y 20, y 21, y 22, y 23, y 24, y 25, y 26, y 27, y 28, y 29, y 30, y 31, y 32, y 33, y 34, y 35, y 36, y 37, y 38, y 39, y 40, y 41, y 42, y 43, y 44, y 45, y 46, y 47, y 48, y 49, y 50, y 51, y 52, y 53, y 54, y 55, y 56, y 57, y 58, y 59, y 60, y 61, y 62, y 63, y 64, y 65, y 66, y 67, y 68, y 69, y 70, y 71, y 72, y 73, y 74, y 75, y 76, y 77, y 78, y 79, y 80, y 81, y 82, y 83, y 84, y 85, y 86, y 87, y 88, y 89, y 90, y 91, y 92, y 93, y 94, y 95, y 96, y 97, y 98, y 99, y 100, y 101, y 102, y 103, y 104, y 105, y 106, y 107, y 108, y 109, y 110, y 111, y 112, y 113, y 114, y 115, y 116, y 117, y 118, y 119, y 120, y 121, y 122], defers := [] }
theorem fr123_of (a : Act) (hs : a.tmps.size = 123) (hd : a.defers = []) : a = fr123 fun j => a.tmps.getD j undef := by
  obtain ⟨tm, ds⟩ := a
  simp only at hs hd
  subst hd
  have e : tm = ((List.range 123).map fun j => tm.getD j undef).toArray := by
    apply Array.ext
    · simp [hs]
    · intro i h1 h2
      simp [Array.getD, h1]
  show Act.mk tm [] = Act.mk _ []
  congr 1
/-- The letters of a text, great, are those of the other one. -/
def foldQ (l t : List UInt8) : Bool := decide (l.map upB = t)
theorem fold_no {l t : List UInt8} {i : Nat} {x y : UInt8} (hx : l[i]? = some x) (hy : t[i]? = some y) (h : upB x ≠ y) : foldQ l t = false := by
  refine decide_eq_false fun e => h ?_
  have := congrArg (·[i]?) e
  simp only [List.getElem?_map, hx, hy, Option.map_some] at this
  exact Option.some.inj this
theorem upB_low {x : UInt8} (h : x.toNat < 97) : upB x = x := by unfold upB; rw [if_neg (by omega)]
theorem upB_high {x : UInt8} (h : 122 < x.toNat) : upB x = x := by unfold upB; rw [if_neg (by omega)]
theorem upB_mid {x y : UInt8} (h1 : 97 ≤ x.toNat) (h2 : x.toNat ≤ 122) : upB x = y ↔ x.toNat = y.toNat + 32 := by
  unfold upB
  rw [if_pos ⟨h1, h2⟩, ← UInt8.toNat_inj, UInt8.toNat_ofNat']
  omega
/-- When a byte's great letter is this one. -/
theorem upB_iff {x y : UInt8} (h1 : 65 ≤ y.toNat) (h2 : y.toNat ≤ 90) : upB x = y ↔ (x.toNat = y.toNat ∨ x.toNat = y.toNat + 32) := by
  by_cases a : 97 ≤ x.toNat
  · by_cases b : x.toNat ≤ 122
    · rw [upB_mid a b]; omega
    · rw [upB_high (by omega), ← UInt8.toNat_inj]; omega
  · rw [upB_low (by omega), ← UInt8.toNat_inj]; omega
theorem take_upB {l t : List UInt8} {i : Nat} {x y : UInt8} (h : (l.take i).map upB = t.take i) (hx : l[i]? = some x) (hy : t[i]? = some y) (he : upB x = y) : (l.take (i + 1)).map upB = t.take (i + 1) := by
  rw [List.take_add_one, List.take_add_one, hx, hy, List.map_append, h]
  simp [he]
set_option maxRecDepth 100000 in
set_option maxHeartbeats 2000000 in
theorem fold_any (s t : ByteArray) (w : World) (hs : s.size ≤ 10000) (ht : t.size ≤ 100) (htl : ∀ (j : Nat) b, t.data.toList[j]? = some b → 65 ≤ b.toNat ∧ b.toNat ≤ 90 ∧ b.toNat ≠ 75 ∧ b.toNat ≠ 83) (hF : FoldL w) :
    Calls Tryd.prog 20 #[.string s, .string t] w fun e w' => e = .returned (.bool (foldQ s.data.toList t.data.toList)) ∧ Below w.heap.size w w' := by
  have HT : Hid (∀ (j : Nat) b, t.data.toList[j]? = some b → 65 ≤ b.toNat ∧ b.toNat ≤ 90 ∧ b.toNat ≠ 75 ∧ b.toNat ≠ 83) := htl
  have HF : Hid (FoldL w) := hF
  clear htl hF
  go_enter Tryd.func20, Tryd.ntmps20
  go_wp2_with fail
  refine wp_scope_jumps 0 (fun a' w' => w' = w ∧ ∃ (i : Nat) (y : Nat → Value), a' = fr123 y ∧ y 0 = .string s ∧ y 1 = .string t ∧ y 5 = .int .i64 (i : Int) ∧ i < s.size ∧ i < t.size ∧ ∃ x : UInt8, s.data.toList[i]? = some x ∧ 128 ≤ x.toNat) (fun _ _ => 0) rfl ?_ ?_
  · have hcase : t.size < s.size ∨ ¬ t.size < s.size := by omega
    rcases hcase with hst | hst
    all_goals
      go_wp2_with fail
      go_loopw [5] (fun s5 wr => wr = w ∧ ∃ i : Nat, i ≤ s.size ∧ i ≤ t.size ∧ s5 = .int .i64 (i : Int) ∧ (s.data.toList.take i).map upB = t.data.toList.take i) (fun s5 _ => s.size - (intOf s5).toNat)
      case atStart => exact ⟨rfl, 0, by omega, by omega, rfl, by simp⟩
      case round =>
        obtain ⟨rfl, i, his, hit, rfl, hinv⟩ := hrel
        have HI : Hid ((s.data.toList.take i).map upB = t.data.toList.take i) := hinv
        clear hinv
        have hcase2 : (i < s.size ∧ i < t.size) ∨ ((i = s.size ∨ i = t.size) ∧ ¬ (i < s.size ∧ i < t.size)) := by omega
        rcases hcase2 with ⟨h1, h2⟩ | ⟨h1, h2⟩
        · obtain ⟨x, hx⟩ : ∃ x : UInt8, s[i]'h1 = x := ⟨_, rfl⟩
          obtain ⟨y, hy⟩ : ∃ y : UInt8, t[i]'h2 = y := ⟨_, rfl⟩
          have hxl : s.data.toList[i]? = some x := by rw [← hx]; exact Go.Proofs.YtljbaoaglpheoaaDoor.data_at s i h1
          have hyl : t.data.toList[i]? = some y := by rw [← hy]; exact Go.Proofs.YtljbaoaglpheoaaDoor.data_at t i h2
          have hT := HT.out i y hyl
          have hup := @upB_iff x y hT.1 hT.2.1
          have hx256 := x.toNat_lt
          have HX : Hid (s.data.toList[i]? = some x ∧ t.data.toList[i]? = some y) := ⟨hxl, hyl⟩
          clear hxl hyl
          have i1 : (i : Int) < (s.size : Int) := by omega
          have i2 : (i : Int) < (t.size : Int) := by omega
          have hor : bits .or .u8 (x.toNat : Int) (y.toNat : Int) = ((x.toNat ||| y.toNat : Nat) : Int) := u8_or_nat _ _ (by omega) (by omega)
          have hle : x.toNat ≤ x.toNat ||| y.toNat := Nat.left_le_or
          by_cases hh : 128 ≤ x.toNat
          · have hbig : 128 ≤ ((x.toNat ||| y.toNat : Nat) : Int) := by omega
            go_wp2_with fail
            go_step3
            exact ⟨rfl, rfl, i, _, fr123_of _ rfl rfl, rfl, rfl, rfl, h1, h2, x, HX.out.1, hh⟩
          · have hsm : ¬ 128 ≤ ((x.toNat ||| y.toNat : Nat) : Int) := by have := Nat.or_lt_two_pow (n := 7) (x := x.toNat) (y := y.toNat) (by omega) (by omega); omega
            generalize x.toNat ||| y.toNat = o at *
            go_wp2_with fail
            all_goals (try simp only [beq_iff_eq, beq_eq_false_iff_ne, ne_eq] at *)
            all_goals first
              | (go_roundw
                 case rel => exact ⟨trivial, i + 1, by omega, by omega, by first | rfl | simp, take_upB HI.out HX.out.1 HX.out.2 (hup.2 (by omega))⟩
                 case measure => simp [intOf]; omega)
              | (simp only [Exit.jump]
                 go_ret
                 exact ⟨ret_bool (by rw [fold_no HX.out.1 HX.out.2 (fun e => by have := hup.1 e; omega)]), Below.refl _ _⟩)
        · have hdec : foldQ s.data.toList t.data.toList = decide (s.size = t.size) := by
            have ls : s.data.toList.length = s.size := by simp
            have lt : t.data.toList.length = t.size := by simp
            have hI := HI.out
            unfold foldQ
            refine decide_eq_decide.2 ⟨fun e => ?_, fun e => ?_⟩
            · have := congrArg List.length e
              rw [List.length_map] at this
              omega
            · rw [List.take_of_length_le (by omega), List.take_of_length_le (by omega)] at hI
              exact hI
          by_cases he : s.size = t.size
          · have i1 : ((s.size : Int) == (t.size : Int)) = true := beq_iff_eq.2 (by omega)
            have i3 : ¬ (i : Int) < (t.size : Int) := by omega
            have i4 : ¬ (i : Int) < (s.size : Int) := by omega
            have HD : Hid (foldQ s.data.toList t.data.toList = true) := by show _ = _; rw [hdec, decide_eq_true he]
            clear hdec he
            go_wp2_with fail
            simp only [Exit.jump]
            go_ret
            exact ⟨ret_bool HD.out.symm, Below.refl _ _⟩
          · have i1 : ((s.size : Int) == (t.size : Int)) = false := beq_eq_false_iff_ne.2 (by omega)
            have i3 : ¬ (i : Int) < (if t.size < s.size then (t.size : Int) else (s.size : Int)) := by split <;> omega
            have HD : Hid (foldQ s.data.toList t.data.toList = false) := by show _ = _; rw [hdec, decide_eq_false he]
            clear hdec he
            go_wp2_with fail
            simp only [Exit.jump]
            go_ret
            exact ⟨ret_bool HD.out.symm, Below.refl _ _⟩
  · rintro a' w' ⟨rfl, i, yv, rfl, e0, e1, e5, h1, h2, x, hx, hx128⟩
    unfold fr123
    rw [e0, e1, e5]
    clear e0 e1 e5
    obtain ⟨S, hS⟩ : ∃ S, s.extract i s.size = S := ⟨_, rfl⟩
    obtain ⟨T, hT⟩ : ∃ T, t.extract i t.size = T := ⟨_, rfl⟩
    have zS : S.size = s.size - i := by rw [← hS]; simp
    have zT : T.size = t.size - i := by rw [← hT]; simp
    have pS : 0 < S.size := by omega
    have pT : 0 < T.size := by omega
    obtain ⟨y, hy⟩ : ∃ y : UInt8, t.data.toList[i]? = some y := ⟨_, data_at t i h2⟩
    have bS : S[0]'pS = x := by
      have := data_at s i h1
      rw [hx] at this
      rw [Option.some.inj this]
      subst hS
      simp [ByteArray.getElem_extract]
    have bT : T[0]'pT = y := by
      have := data_at t i h2
      rw [hy] at this
      rw [Option.some.inj this]
      subst hT
      simp [ByteArray.getElem_extract]
    have hl := HT.out i y hy
    have HN : Hid (foldQ s.data.toList t.data.toList = false) := by
      show _ = _
      refine fold_no hx hy fun e => ?_
      rw [upB_high (by omega)] at e
      subst e
      omega
    obtain ⟨c, hc⟩ : ∃ c, y.toNat = c := ⟨_, rfl⟩
    rw [hc] at hl
    have hi1 := decode_high S 0 pS (by rw [bS]; exact hx128)
    have hi2 := decode_le S 0
    have hnx := fun ty => run_next_any (P := Tryd.prog) w' S 0 ty pS
    obtain ⟨w2, hw2⟩ : ∃ w2, w'.iter S (0 + (Utf8.decode S 0).2) = w2 := ⟨_, rfl⟩
    rw [hw2] at hnx
    have HB : Hid (Below w'.heap.size w' w2) := by show Below _ _ _; rw [← hw2]; exact (Below.refl _ _).alloc (Nat.le_refl _) _
    have hF2 := (HF.out.below HB.out) c hl.1 hl.2.1 hl.2.2.1 hl.2.2.2
    have F1 : Hid (Calls Tryd.prog 22 #[.int .i32 (c : Int)] w2 fun e w' => e = .returned (.int .i32 ((c : Int) + 32)) ∧ w' = w2) := simple_any c _ (by omega) w2 hF2.1 (by omega) (by omega)
    have F2 : Hid (Calls Tryd.prog 22 #[.int .i32 ((c : Int) + 32)] w2 fun e w' => e = .returned (.int .i32 (c : Int)) ∧ w' = w2) := simple_any (c + 32) _ (by omega) w2 hF2.2 (by omega) (by omega)
    have D : Hid (Calls Tryd.prog 21 #[.string T] w2 fun e w' => e = .returned (.tuple #[.int .i32 (c : Int), .int .i64 1]) ∧ w' = w2) := decode_one T c pT (by rw [bT]; exact hc) (by omega) w2
    have r1 : (128 : Int) ≤ ((Utf8.decode S 0).1 : Int) := by omega
    have r2 : ((Utf8.decode S 0).1 : Int) ≤ 2147483647 := by omega
    generalize ((Utf8.decode S 0).1 : Int) = r at *
    have c1 : 65 ≤ (c : Int) := by omega
    have c2 : (c : Int) ≤ 90 := by omega
    have j1 : (i : Int) ≤ (s.size : Int) := by omega
    have j2 : (i : Int) ≤ (t.size : Int) := by omega
    have j3 : (0 : Int) < (T.size : Int) := by omega
    have j4 : (1 : Int) ≤ (T.size : Int) := by omega
    clear hw2 hi1 hi2 hF2 hx hy bS bT hc hl hx128 zS zT
    generalize (c : Int) = k at *
    go_wp2_with fail
    go_loopw [1] (fun s1 wr => s1 = .string T ∧ wr = w'.iter S 0) (fun _ _ => 0)
    case atStart => exact ⟨by rfl, rfl⟩
    case round =>
      obtain ⟨rfl, rfl⟩ := hrel
      have n1 : ¬ k = r := by omega
      have n2 : k < r := by omega
      have n3 : ¬ r < 128 := by omega
      have n4 : ¬ k + 32 = k := by omega
      have n5 : k + 32 < r := by omega
      go_wp2_with (first | (go_at_call 21; refine D.out.mono ?_; rintro e _ ⟨rfl, hw⟩; obtain rfl := hw.symm; clear hw) | (go_at_call 22; with_reducible (refine F1.out.mono ?_); rintro e _ ⟨rfl, hw⟩; obtain rfl := hw.symm; clear hw))
      go_loopw [13] (fun s13 wr => wr = w2 ∧ (s13 = .int .i32 (k + 32) ∨ s13 = .int .i32 k)) (fun s13 _ => (intOf s13).toNat)
      case atStart => exact ⟨rfl, .inl rfl⟩
      case round =>
        obtain ⟨rfl, hs13⟩ := hrel
        rcases hs13 with rfl | rfl
        · go_wp2_with (go_at_call 22; with_reducible (refine F2.out.mono ?_); rintro e _ ⟨rfl, hw⟩; obtain rfl := hw.symm; clear hw)
          go_roundw
          case rel => exact ⟨trivial, .inr rfl⟩
          case measure => simp [intOf]; omega
        · go_wp2_with fail
          simp only [Exit.jump]
          go_ret
          exact ⟨ret_bool HN.out.symm, HB.out⟩
end Go.Proofs.YtljbaoaglpheoaaDoor
