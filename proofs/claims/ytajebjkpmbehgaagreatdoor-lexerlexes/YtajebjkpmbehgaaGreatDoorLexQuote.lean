/-
  CONTRACT: a text, quoted (Quote).
-/
import Derived.Test.YtajebjkpmbehgaaGreatDoorLexBuild
namespace Go.Proofs.YtajebjkpmbehgaaGreatDoor
open Go.RowKit

theorem hexA : ∀ (h : Nat) (hh : h < (⟨#[48, 49, 50, 51, 52, 53, 54, 55, 56, 57, 65, 66, 67, 68, 69, 70]⟩ : ByteArray).size), (⟨#[48, 49, 50, 51, 52, 53, 54, 55, 56, 57, 65, 66, 67, 68, 69, 70]⟩ : ByteArray)[h]'hh = hexU h
  | 0, _ => rfl
  | 1, _ => rfl
  | 2, _ => rfl
  | 3, _ => rfl
  | 4, _ => rfl
  | 5, _ => rfl
  | 6, _ => rfl
  | 7, _ => rfl
  | 8, _ => rfl
  | 9, _ => rfl
  | 10, _ => rfl
  | 11, _ => rfl
  | 12, _ => rfl
  | 13, _ => rfl
  | 14, _ => rfl
  | 15, _ => rfl
  | n + 16, h => absurd h (by show ¬ n + 16 < 16; omega)
/-- The builder, with bytes. -/
def Bq (n : Nat) (w : World) (l : List UInt8) (wr : World) : Prop := Lib.IsBuilder 61 5 n n (Lib.byteCells l) wr ∧ Below n w wr ∧ n ≤ wr.heap.size
theorem Bq.next {n : Nat} {w : World} {l : List UInt8} {wr : World} (h : Bq n w l wr) (hl : l.length ≤ 100000) (c : UInt8) :
    Calls Tryz.prog 32 #[.pointer (some ⟨n, 0, none⟩), .int .u8 (c.toNat : Int)] wr fun e w' => e = .returned .nilIface ∧ Bq n w (l ++ [c]) w' := by
  refine (writeByte_any n n (Lib.byteCells l) (c.toNat : Int) wr h.1 (by rw [Lib.byteCells_length]; exact hl) h.2.2).mono ?_
  rintro e w' ⟨rfl, h1, h2⟩
  refine ⟨rfl, .inr ?_, h.2.1.trans h2, Nat.le_trans h.2.2 h2.size⟩
  have : Lib.byteCells (l ++ [c]) = Lib.byteCells l ++ [.int .u8 (c.toNat : Int)] := by unfold Lib.byteCells; rw [List.map_append]; rfl
  rw [this]
  exact h1
theorem Bq.nextZ {n : Nat} {w : World} {l : List UInt8} {wr : World} (h : Bq n w l wr) (hl : l.length ≤ 100000) (c : UInt8) (z : Int) (hz : (c.toNat : Int) = z) :
    Calls Tryz.prog 32 #[.pointer (some ⟨n, 0, none⟩), .int .u8 z] wr fun e w' => e = .returned .nilIface ∧ Bq n w (l ++ [c]) w' := by
  subst hz
  exact h.next hl c
theorem c39 : (((39 : UInt8).toNat : Nat) : Int) = 39 := by decide
theorem c37 : (((37 : UInt8).toNat : Nat) : Int) = 37 := by decide
set_option maxRecDepth 100000 in
set_option maxHeartbeats 2000000 in
theorem quote_any (s : ByteArray) (w : World) (hs : s.size ≤ 10000) : Calls Tryz.prog 15 #[.string s] w fun e w' => e = .returned (.string (xB (quT s.data.toList))) ∧ Below w.heap.size w w' := by
  have CP : Hid (∀ (x : Int) (w : World), Calls Tryz.prog 33 #[.int .i32 x] w fun e w' => e = .returned (.bool (plI x)) ∧ w' = w) := plain_any
  have hlen : s.data.toList.length = s.size := by simp
  have HF : Hid (∀ l : List UInt8, (l.flatMap qB).length ≤ 3 * l.length) := quo_len
  obtain ⟨n, hn⟩ : ∃ n, w.heap.size = n := ⟨_, rfl⟩
  have HB0 : Hid (Bq n w [] (w.alloc (.cells #[.pointer none, .slice none 0 0] 61))) := by
    rw [← hn]
    exact ⟨Lib.fresh_isBuilder _ _ w, (Below.refl _ _).alloc (Nat.le_refl _) _, by simp⟩
  rw [hn]
  go_enter Tryz.func15, Tryz.ntmps15
  go_wp2_with (go_at_call 32; refine (HB0.out.nextZ (by simp) 39 39 c39).mono ?_; rintro e w1 ⟨rfl, h1⟩)
  go_loopw [8] (fun s8 wr => ∃ i : Nat, i ≤ s.size ∧ s8 = .int .i64 (i : Int) ∧ Bq n w (39 :: (s.data.toList.take i).flatMap qB) wr) (fun s8 _ => s.size - (intOf s8).toNat)
  case atStart => exact ⟨0, by omega, rfl, h1⟩
  case round =>
    obtain ⟨i, hi, rfl, hb⟩ := hrel
    have htl : ((s.data.toList.take i).flatMap qB).length ≤ 30000 := by
      have := HF.out (s.data.toList.take i)
      rw [List.length_take] at this
      omega
    rcases Nat.lt_or_ge i s.size with h | h
    · obtain ⟨x, hx⟩ : ∃ x : UInt8, s[i]'h = x := ⟨_, rfl⟩
      have hiz : (i : Int) < (s.size : Int) := by omega
      have hi0 : (i : Int) ≤ 10000 := by omega
      have hx256 := x.toNat_lt
      have htk : s.data.toList.take (i + 1) = s.data.toList.take i ++ [x] := by
        have : s.data.toList[i]? = some x := by rw [← hx, Array.getElem?_toList]; exact Array.getElem?_eq_getElem h
        rw [List.take_add_one, this]
        rfl
      have HK : Hid (∀ wr, Bq n w ((39 :: (s.data.toList.take i).flatMap qB) ++ qB x) wr → Bq n w (39 :: (s.data.toList.take (i + 1)).flatMap qB) wr) := fun wr h => by
        rw [htk, List.flatMap_append, List.flatMap_singleton]
        exact h
      have C1 : Hid (∀ wr, Calls Tryz.prog 33 #[.int .i32 (x.toNat : Int)] wr fun e w' => e = .returned (.bool (plB x)) ∧ w' = wr) := fun wr => by have := CP.out (x.toNat : Int) wr; rw [plI_B] at this; exact this
      have Hb : Hid (Bq n w (39 :: (s.data.toList.take i).flatMap qB) wr) := hb
      have Hl : Hid ((39 :: (s.data.toList.take i).flatMap qB).length ≤ 30001) := by show _ ≤ _; rw [List.length_cons]; omega
      clear hb htk htl
      generalize 39 :: (s.data.toList.take i).flatMap qB = L at *
      cases hp : plB x
      · rw [hp] at C1
        have hq : qB x = [37, hexU (x.toNat / 16), hexU (x.toNat % 16)] := by unfold qB; rw [hp]; rfl
        rw [hq] at HK
        clear hq
        go_wp2_with (first | (go_at_call 33; with_reducible (refine (C1.out _).mono ?_); rintro e _ ⟨rfl, hw⟩; obtain rfl := hw.symm; clear hw) | (go_at_call 32; refine (Hb.out.nextZ (by have := Hl.out; omega) 37 37 c37).mono ?_))
        rintro e w2 ⟨rfl, h2⟩
        go_wp2_with (go_at_call 32; refine (h2.nextZ (by have := Hl.out; rw [List.length_append, List.length_singleton]; omega) (hexU (x.toNat / 16)) _ (by rw [hexA])).mono ?_)
        rintro e w3 ⟨rfl, h3⟩
        go_wp2_with (go_at_call 32; refine (h3.nextZ (by have := Hl.out; rw [List.length_append, List.length_append, List.length_singleton, List.length_singleton]; omega) (hexU (x.toNat % 16)) _ (by rw [hexA])).mono ?_)
        rintro e w4 ⟨rfl, h4⟩
        have h5 := HK.out w4 (by rw [List.append_assoc, List.append_assoc] at h4; exact h4)
        go_wp2_with fail
        go_roundw
        case rel => exact ⟨i + 1, by omega, by go_num, h5⟩
        case measure => simp [intOf]; omega
      · rw [hp] at C1
        have hq : qB x = [x] := by unfold qB; rw [hp]; rfl
        rw [hq] at HK
        go_wp2_with (first | (go_at_call 33; with_reducible (refine (C1.out _).mono ?_); rintro e _ ⟨rfl, hw⟩; obtain rfl := hw.symm; clear hw) | (go_at_call 32; refine (Hb.out.next (by have := Hl.out; omega) x).mono ?_; rintro e w2 ⟨rfl, h2⟩))
        go_roundw
        case rel => exact ⟨i + 1, by omega, by go_num, HK.out _ h2⟩
        case measure => simp [intOf]; omega
    · obtain rfl : i = s.size := by omega
      have Hb : Hid (Bq n w (39 :: s.data.toList.flatMap qB) wr) := by
        show Bq _ _ _ _
        rw [List.take_of_length_le (by omega)] at hb
        exact hb
      have Hl : Hid ((39 :: s.data.toList.flatMap qB).length ≤ 30001) := by
        show _ ≤ _
        have := HF.out s.data.toList
        rw [List.length_cons]
        omega
      clear hb htl
      have HR : Hid (39 :: s.data.toList.flatMap qB ++ [39] = quT s.data.toList) := rfl
      have HSt : Hid (∀ wr, Bq n w (39 :: s.data.toList.flatMap qB ++ [39]) wr → Calls Tryz.prog 34 #[.pointer (some ⟨n, 0, none⟩)] wr fun e w' => e = .returned (.string (xB (39 :: s.data.toList.flatMap qB ++ [39]))) ∧ Below n w w') := fun wr h =>
        (Tryz.Builder_String_any n n _ wr h.1 h.2.2).mono fun e w' ⟨h1, h2⟩ => ⟨h1, h.2.1.trans h2⟩
      generalize 39 :: s.data.toList.flatMap qB = L at *
      go_wp2_with (first | (go_at_call 32; refine (Hb.out.nextZ (by have := Hl.out; omega) 39 39 c39).mono ?_; rintro e w2 ⟨rfl, h2⟩) | (go_at_call 34; refine (HSt.out _ h2).mono ?_; rintro e w3 ⟨rfl, h3⟩))
      go_ret
      exact ⟨by rw [HR.out]; rfl, h3⟩
end Go.Proofs.YtajebjkpmbehgaaGreatDoor
