/-
  CONTRACT: a character of a quoted text (character).
-/
import Derived.Test.YtajebjkpmbehgaaGreatDoorLexNum
namespace Go.Proofs.YtajebjkpmbehgaaGreatDoor
open Go.RowKit

/-- The place of a digit to base 16 among those: below 0, none. -/
def ixH (c : UInt8) : Int := match hexB c with | some n => (n : Int) | none => -1
theorem ixH_low (c : UInt8) : -1 ≤ ixH c ∧ ixH c ≤ 15 := by
  unfold ixH hexB
  split
  · rename_i n h
    split at h
    · cases h; omega
    · split at h
      · cases h; omega
      · cases h
  · omega
theorem index_H (c : UInt8) : Lib.indexByte [48, 49, 50, 51, 52, 53, 54, 55, 56, 57, 65, 66, 67, 68, 69, 70] c = ixH c := by
  have key : ∀ c : Fin 256, Lib.indexByte [48, 49, 50, 51, 52, 53, 54, 55, 56, 57, 65, 66, 67, 68, 69, 70] (UInt8.ofNat c.val) = ixH (UInt8.ofNat c.val) := by decide +kernel
  have := key ⟨c.toNat, c.toNat_lt⟩
  simpa using this
/-- What character tells. -/
def chT (l : List UInt8) : Int × Int := match chB l with | some (b, m) => ((b.toNat : Int), (m : Int)) | none => (0, 0)
theorem chT_pl {b : UInt8} {l : List UInt8} (h : plB b = true) : chT (b :: l) = ((b.toNat : Int), 1) := by
  unfold chT
  simp only [chB, h, if_true]
  rfl
theorem chT_no {b : UInt8} {l : List UInt8} (h : plB b = false) (h2 : b.toNat ≠ 37) : chT (b :: l) = (0, 0) := by
  unfold chT
  simp [chB, h, h2]
theorem chT_short {b : UInt8} {l : List UInt8} (h : plB b = false) (h2 : l.length < 2) : chT (b :: l) = (0, 0) := by
  unfold chT
  match l, h2 with
  | [], _ => simp [chB, h]
  | [_], _ => simp [chB, h]
theorem chT_hex {b x y : UInt8} {l : List UInt8} (h : plB b = false) (h2 : b.toNat = 37) : chT (b :: x :: y :: l) = if ixH x < 0 ∨ ixH y < 0 then (0, 0) else (ixH x * 16 + ixH y, 3) := by
  have e : ∀ c, hexB c = none → ixH c = -1 := fun c hc => by unfold ixH; rw [hc]
  have e2 : ∀ c n, hexB c = some n → ixH c = (n : Int) := fun c n hc => by unfold ixH; rw [hc]
  have lo := ixH_low x
  have lo2 := ixH_low y
  unfold chT
  simp only [chB, h, h2, Bool.false_eq_true, if_false, if_true]
  cases hx : hexB x with
  | none => rw [e x hx]; simp
  | some n =>
    rw [e2 x n hx] at lo ⊢
    cases hy : hexB y with
    | none => rw [e y hy]; simp
    | some m =>
      rw [e2 y m hy] at lo2 ⊢
      rw [if_neg (by omega)]
      simp only [UInt8.toNat_ofNat', Prod.mk.injEq]
      refine ⟨?_, rfl⟩
      omega
set_option maxRecDepth 100000 in
set_option maxHeartbeats 2000000 in
theorem character_any (s : ByteArray) (b : UInt8) (l : List UInt8) (hl : s.data.toList = b :: l) (x : Int) (hx : 0 ≤ x ∧ x ≤ 2147483647) (hpl : plI x = plB b) (h37 : x = 37 ↔ b.toNat = 37) (hlow : plB b = true → x = (b.toNat : Int)) (hs : s.size ≤ 600) (w : World) :
    Calls Tryz.prog 41 #[.string s, .int .i32 x] w fun e w' => e = .returned (.tuple #[.int .u8 (chT (b :: l)).1, .int .i64 (chT (b :: l)).2]) ∧ Below w.heap.size w w' := by
  have hsz : s.size = l.length + 1 := by
    have : s.data.toList.length = s.size := by simp
    rw [hl, List.length_cons] at this
    omega
  have CP0 : Hid (∀ wr, Calls Tryz.prog 33 #[.int .i32 x] wr fun e w' => e = .returned (.bool (plB b)) ∧ w' = wr) := fun wr => by have := plain_any x wr; rw [hpl] at this; exact this
  obtain ⟨hx0, hx1⟩ := hx
  have hb256 := b.toNat_lt
  cases hp : plB b
  · rw [hp] at CP0
    by_cases h2 : b.toNat = 37
    · have hx37 := h37.2 h2
      by_cases h3 : s.size < 3
      · have HR : Hid (chT (b :: l) = (0, 0)) := chT_short hp (by omega)
        have h3z : (s.size : Int) < 3 := by omega
        clear hl hp hlow hpl h37 h2 hs hsz
        subst hx37
        generalize chT (b :: l) = R at *
        go_enter Tryz.func41, Tryz.ntmps41
        go_wp2_with (go_at_call 33; with_reducible (refine (CP0.out _).mono ?_); rintro e _ ⟨rfl, hw⟩; obtain rfl := hw.symm; clear hw)
        go_ret2
        exact ⟨by rw [HR.out]; rfl, Below.refl _ _⟩
      · match l, hl, hsz with
        | [], _, h => simp only [List.length_nil] at h; omega
        | [_], _, h => simp only [List.length_cons, List.length_nil] at h; omega
        | u :: v :: l, hl, hsz =>
          have i1 : 1 < s.size := by omega
          have i2 : 2 < s.size := by omega
          have i1z : (1 : Int) < (s.size : Int) := by omega
          have i2z : (2 : Int) < (s.size : Int) := by omega
          have hat : ∀ k (hk : k < s.size), s.data.toList[k]? = some (s[k]'hk) := fun k hk => by
            rw [Array.getElem?_toList]
            exact Array.getElem?_eq_getElem hk
          have hu : s[1]'i1 = u := by have := hat 1 i1; rw [hl] at this; simpa using this.symm
          have hv : s[2]'i2 = v := by have := hat 2 i2; rw [hl] at this; simpa using this.symm
          have CI : ∀ (c : UInt8) wr, Calls Tryz.prog 58 #[.string ⟨#[48, 49, 50, 51, 52, 53, 54, 55, 56, 57, 65, 66, 67, 68, 69, 70]⟩, .int .u8 (c.toNat : Int)] wr fun e w' => e = .returned (.int .i64 (ixH c)) ∧ w' = wr := fun c wr => by
            have := Tryz.strings_IndexByte ⟨#[48, 49, 50, 51, 52, 53, 54, 55, 56, 57, 65, 66, 67, 68, 69, 70]⟩ (c.toNat : Int) wr
            have e : ((c.toNat : Int).toNat).toUInt8 = c := by simp
            rw [e] at this
            rw [← index_H c]
            exact this
          have CU : Hid (∀ wr, Calls Tryz.prog 58 #[.string ⟨#[48, 49, 50, 51, 52, 53, 54, 55, 56, 57, 65, 66, 67, 68, 69, 70]⟩, .int .u8 (u.toNat : Int)] wr fun e w' => e = .returned (.int .i64 (ixH u)) ∧ w' = wr) := CI u
          have CV : Hid (∀ wr, Calls Tryz.prog 58 #[.string ⟨#[48, 49, 50, 51, 52, 53, 54, 55, 56, 57, 65, 66, 67, 68, 69, 70]⟩, .int .u8 (v.toNat : Int)] wr fun e w' => e = .returned (.int .i64 (ixH v)) ∧ w' = wr) := CI v
          have hR := chT_hex (x := u) (y := v) (l := l) hp h2
          obtain ⟨lo1, lo2⟩ := ixH_low u
          obtain ⟨lo3, lo4⟩ := ixH_low v
          have h3z : ¬ (s.size : Int) < 3 := by omega
          clear CI hat hl hp hlow hpl h37 h2 hs hsz h3
          subst hx37
          generalize chT (b :: u :: v :: l) = R at *
          generalize ixH u = iu at *
          generalize ixH v = iv at *
          go_enter Tryz.func41, Tryz.ntmps41
          go_wp2_with (go_at_call 33; with_reducible (refine (CP0.out _).mono ?_); rintro e _ ⟨rfl, hw⟩; obtain rfl := hw.symm; clear hw)
          go_quiet (first | (go_at_call 58; first | exact Calls.quiet_of_same (CU.out _) | exact Calls.quiet_of_same (CV.out _)))
          by_cases g1 : iu < 0
          · rw [if_pos (.inl g1)] at hR
            have HR : Hid (R = (0, 0)) := hR
            have g1d : decide (iu < 0) = true := decide_eq_true g1
            clear hR
            go_wp2_with fail
            go_ret2
            exact ⟨by rw [HR.out]; rfl, (⟨rfl, rfl, rfl, Nat.le_refl _, fun _ _ => rfl⟩ : Below w.heap.size w (w.drewN _))⟩
          · have g1d : decide (iu < 0) = false := decide_eq_false g1
            by_cases g2 : iv < 0
            · rw [if_pos (.inr g2)] at hR
              have HR : Hid (R = (0, 0)) := hR
              have g2d : decide (iv < 0) = true := decide_eq_true g2
              clear hR
              go_wp2_with fail
              go_ret2
              exact ⟨by rw [HR.out]; rfl, (⟨rfl, rfl, rfl, Nat.le_refl _, fun _ _ => rfl⟩ : Below w.heap.size w (w.drewN _))⟩
            · rw [if_neg (by omega)] at hR
              have HR : Hid (R = (iu * 16 + iv, 3)) := hR
              have g2d : decide (iv < 0) = false := decide_eq_false g2
              have k0 : 0 ≤ iu * 16 + iv := by omega
              have k1 : iu * 16 + iv ≤ 255 := by omega
              clear hR
              go_wp2_with fail
              go_ret2
              exact ⟨by rw [HR.out]; rfl, (⟨rfl, rfl, rfl, Nat.le_refl _, fun _ _ => rfl⟩ : Below w.heap.size w (w.drewN _))⟩
    · have HR : Hid (chT (b :: l) = (0, 0)) := chT_no hp h2
      have hx37 : ¬ x = 37 := fun e => h2 (h37.1 e)
      have hx37b : (x == 37) = false := beq_false_of_ne hx37
      clear hl hp hlow hpl h37 h2 hs hsz
      generalize chT (b :: l) = R at *
      go_enter Tryz.func41, Tryz.ntmps41
      go_wp2_with (go_at_call 33; with_reducible (refine (CP0.out _).mono ?_); rintro e _ ⟨rfl, hw⟩; obtain rfl := hw.symm; clear hw)
      go_ret2
      exact ⟨by rw [HR.out]; rfl, Below.refl _ _⟩
  · rw [hp] at CP0
    have HR : Hid (chT (b :: l) = ((b.toNat : Int), 1)) := chT_pl hp
    have hxb := hlow hp
    clear hl hp hlow hpl h37 hs hsz
    generalize chT (b :: l) = R at *
    have hb0 : 0 ≤ (b.toNat : Int) := by omega
    have hb1 : (b.toNat : Int) ≤ 255 := by omega
    generalize (b.toNat : Int) = y at *
    subst hxb
    go_enter Tryz.func41, Tryz.ntmps41
    go_wp2_with (go_at_call 33; with_reducible (refine (CP0.out _).mono ?_); rintro e _ ⟨rfl, hw⟩; obtain rfl := hw.symm; clear hw)
    go_ret2
    exact ⟨by rw [HR.out]; rfl, Below.refl _ _⟩
end Go.Proofs.YtajebjkpmbehgaaGreatDoor
