/-
  CONTRACT: the library's stable sort at cells: rotate.
-/
import Derived.Test.YtkdeaogmifhnhaaSrtRange
namespace Go.Proofs.Ytkdeaogmifhnhaa
open Go.RowKit

theorem swL_split (P M Q : List Cx) (x y : Cx) : swL (P ++ x :: (M ++ y :: Q)) P.length (P.length + 1 + M.length) = P ++ y :: (M ++ x :: Q) := by
  have hx : (P ++ x :: (M ++ y :: Q))[P.length]? = some x := by simp
  have hy : (P ++ x :: (M ++ y :: Q))[P.length + 1 + M.length]? = some y := by
    rw [List.getElem?_append_right (by omega)]
    have : P.length + 1 + M.length - P.length = M.length + 1 := by omega
    rw [this, List.getElem?_cons_succ, List.getElem?_append_right (Nat.le_refl _)]
    simp
  rw [swL_eq hx hy]
  rw [List.set_append_right _ _ (Nat.le_refl _), Nat.sub_self, List.set_cons_zero, List.set_append_right _ _ (by omega)]
  have : P.length + 1 + M.length - P.length = M.length + 1 := by omega
  rw [this, List.set_cons_succ, List.set_append_right _ _ (Nat.le_refl _), Nat.sub_self, List.set_cons_zero]
/-- Ranges of one length change their places. -/
theorem swR_split (P M Q : List Cx) : ∀ (n : Nat) (X Y X2 Y2 : List Cx), X.length = n → Y.length = n → swR P.length (P.length + (X ++ X2).length + M.length) (P ++ (X ++ X2) ++ M ++ (Y ++ Y2) ++ Q) n = P ++ (Y ++ X2) ++ M ++ (X ++ Y2) ++ Q
  | 0, X, Y, X2, Y2, hX, hY => by
    obtain rfl := List.eq_nil_of_length_eq_zero hX
    obtain rfl := List.eq_nil_of_length_eq_zero hY
    rfl
  | n + 1, X, Y, X2, Y2, hX, hY => by
    have eX : X ≠ [] := by rintro rfl; simp at hX
    have eY : Y ≠ [] := by rintro rfl; simp at hY
    obtain ⟨X1, x, rfl⟩ : ∃ X1 x, X = X1 ++ [x] := ⟨X.dropLast, X.getLast eX, (List.dropLast_concat_getLast eX).symm⟩
    obtain ⟨Y1, y, rfl⟩ : ∃ Y1 y, Y = Y1 ++ [y] := ⟨Y.dropLast, Y.getLast eY, (List.dropLast_concat_getLast eY).symm⟩
    have hX1 : X1.length = n := by simpa using hX
    have hY1 : Y1.length = n := by simpa using hY
    have ih := swR_split P M Q n X1 Y1 ([x] ++ X2) ([y] ++ Y2) hX1 hY1
    have e1 : P ++ (X1 ++ [x] ++ X2) ++ M ++ (Y1 ++ [y] ++ Y2) ++ Q = P ++ (X1 ++ ([x] ++ X2)) ++ M ++ (Y1 ++ ([y] ++ Y2)) ++ Q := by simp
    have e2 : (X1 ++ [x] ++ X2).length = (X1 ++ ([x] ++ X2)).length := by simp
    rw [swR, e1, e2, ih]
    have e3 : P ++ (Y1 ++ ([x] ++ X2)) ++ M ++ (X1 ++ ([y] ++ Y2)) ++ Q = (P ++ Y1) ++ x :: ((X2 ++ M ++ X1) ++ y :: (Y2 ++ Q)) := by simp
    have e4 : P.length + n = (P ++ Y1).length := by simp [hY1]
    have e5 : P.length + (X1 ++ ([x] ++ X2)).length + M.length + n = (P ++ Y1).length + 1 + (X2 ++ M ++ X1).length := by simp [hX1, hY1]; omega
    rw [e3, e4, e5, swL_split (P ++ Y1) (X2 ++ M ++ X1) (Y2 ++ Q) x y]
    simp
theorem swapN_any (B g cap a b n N : Nat) (L L' : List Cx) (fv : Value) (w : World) (ho : Rx w B g cap L) (hN : L.length = N) (hab : a + n ≤ b) (hb : b + n ≤ N) (hL : N ≤ 1000000) (he : swR a b L n = L') :
    Calls Try.prog 73 #[.slice (some ⟨g, 0, none⟩) N cap, .int .i64 a, .int .i64 b, .int .i64 n, fv] w fun e w' => e = .returned (.tuple #[]) ∧ Rx w' B g cap L' ∧ w.grownBy w' (some g) := by
  subst hN
  subst he
  exact swapRange_any B g cap a b n L fv w ho hab hb hL

set_option maxRecDepth 100000 in
set_option maxHeartbeats 2000000 in
theorem rotate_any (B g cap N : Nat) (P X Y Q : List Cx) (fv : Value) (w : World) (ho : Rx w B g cap (P ++ X ++ Y ++ Q)) (hN : (P ++ X ++ Y ++ Q).length = N) (hX : 1 ≤ X.length) (hY : 1 ≤ Y.length) (hL : N ≤ 1000000) :
    Calls Try.prog 67 #[.slice (some ⟨g, 0, none⟩) N cap, .int .i64 P.length, .int .i64 (P.length + X.length : Nat), .int .i64 (P.length + X.length + Y.length : Nat), fv] w fun e w' => e = .returned (.tuple #[]) ∧ Rx w' B g cap (P ++ Y ++ X ++ Q) ∧ w.grownBy w' (some g) := by
  obtain ⟨a, ha⟩ : ∃ a, a = P.length := ⟨_, rfl⟩
  obtain ⟨m, hm⟩ : ∃ m, m = P.length + X.length := ⟨_, rfl⟩
  obtain ⟨b, hb⟩ : ∃ b, b = P.length + X.length + Y.length := ⟨_, rfl⟩
  rw [← hb, ← hm, ← ha]
  have hmN : m + Y.length ≤ N := by simp only [List.length_append] at hN; omega
  have hmz : (m : Int) ≤ 1000000 := by omega
  have hbz : (b : Int) ≤ 1000000 := by omega
  have haz : (a : Int) ≤ 1000000 := by omega
  have e1 : (m : Int) - (a : Int) = (X.length : Int) := by omega
  have e2 : (b : Int) - (m : Int) = (Y.length : Int) := by omega
  clear hb
  have SW : Hid (∀ (a' b' n' : Nat) (R R' : List Cx) (w : World), Rx w B g cap R → R.length = N → a' + n' ≤ b' → b' + n' ≤ N → swR a' b' R n' = R' → Calls Try.prog 73 #[.slice (some ⟨g, 0, none⟩) N cap, .int .i64 a', .int .i64 b', .int .i64 n', fv] w fun e w' => e = .returned (.tuple #[]) ∧ Rx w' B g cap R' ∧ w.grownBy w' (some g)) :=
    fun a' b' n' R R' w h1 h2 h3 h4 h5 => swapN_any B g cap a' b' n' N R R' fv w h1 h2 h3 h4 hL h5
  have HM : Hid (P.length + X.length = m) := hm.symm
  clear hm ha
  go_enter Try.func67, Try.ntmps67
  go_wp2_with fail
  go_loopw [10, 11] (fun s10 s11 wr => ∃ P' X' Y' Q' : List Cx, s10 = .int .i64 X'.length ∧ s11 = .int .i64 Y'.length ∧ Rx wr B g cap (P' ++ X' ++ Y' ++ Q') ∧ w.grownBy wr (some g) ∧ P'.length + X'.length = m ∧ 1 ≤ X'.length ∧ 1 ≤ Y'.length ∧ (P' ++ X' ++ Y' ++ Q').length = N ∧ P' ++ Y' ++ X' ++ Q' = P ++ Y ++ X ++ Q) (fun s10 s11 _ => (intOf s10).toNat + (intOf s11).toNat)
  case atStart => exact ⟨P, X, Y, Q, by go_num, by go_num, ho, ⟨rfl, rfl, rfl, Nat.le_refl _, fun _ _ _ => rfl⟩, HM.out, hX, hY, hN, rfl⟩
  case round =>
    obtain ⟨P', X', Y', Q', rfl, rfl, hR, hG, hpm, hX1, hY1, hN1, hT⟩ := hrel
    have hNl := hN1
    simp only [List.length_append] at hNl
    obtain ⟨p, hp⟩ : ∃ p, p = P'.length := ⟨_, rfl⟩
    obtain ⟨x, hx⟩ : ∃ x, x = X'.length := ⟨_, rfl⟩
    obtain ⟨y, hy⟩ : ∃ y, y = Y'.length := ⟨_, rfl⟩
    have em : (m : Int) - (x : Int) = (p : Int) := by omega
    have hxz : (x : Int) ≤ 1000000 := by omega
    have hyz : (y : Int) ≤ 1000000 := by omega
    rw [← hx, ← hy]
    have HR : Hid (Rx wr B g cap (P' ++ X' ++ Y' ++ Q')) := hR
    have HG : Hid (w.grownBy wr (some g)) := hG
    have HT : Hid (P' ++ Y' ++ X' ++ Q' = P ++ Y ++ X ++ Q) := hT
    have HN : Hid ((P' ++ X' ++ Y' ++ Q').length = N) := hN1
    clear hR hG hT hN1 ho hN e1 e2 haz hbz
    rcases Nat.lt_trichotomy x y with hlt | heq | hgt
    · obtain ⟨Y1, Y2, rfl, hY2⟩ : ∃ Y1 Y2, Y' = Y1 ++ Y2 ∧ Y2.length = x := ⟨Y'.take (y - x), Y'.drop (y - x), (List.take_append_drop _ _).symm, by rw [List.length_drop]; omega⟩
      have hy1 : Y1.length = y - x := by rw [List.length_append] at hy; omega
      obtain ⟨q, hq⟩ : ∃ q, q = m + y - x := ⟨_, rfl⟩
      have eq1 : (m : Int) + (y : Int) - (x : Int) = (q : Int) := by omega
      have eq2 : (y : Int) - (x : Int) = (Y1.length : Int) := by omega
      have C1 : Hid (Calls Try.prog 73 #[.slice (some ⟨g, 0, none⟩) N cap, .int .i64 p, .int .i64 q, .int .i64 x, fv] wr fun e w' => e = .returned (.tuple #[]) ∧ Rx w' B g cap (P' ++ Y2 ++ Y1 ++ (X' ++ Q')) ∧ wr.grownBy w' (some g)) :=
        SW.out p q x _ _ wr HR.out HN.out (by omega) (by omega) (by
          have h := swR_split P' Y1 Q' x X' Y2 [] [] hx.symm hY2
          have h1 : P'.length + (X' ++ []).length + Y1.length = q := by simp; omega
          rw [h1, ← hp] at h
          simpa using h)
      have hne : ¬ (x : Int) = (y : Int) := by omega
      have hng : ¬ (y : Int) < (x : Int) := by omega
      have F1 : Hid (P'.length + Y2.length = m ∧ 1 ≤ Y2.length ∧ 1 ≤ Y1.length ∧ (P' ++ Y2 ++ Y1 ++ (X' ++ Q')).length = N ∧ x = Y2.length) := ⟨by omega, by omega, by omega, by rw [← HN.out]; simp; omega, by omega⟩
      clear hp hx hy SW hq hpm hNl hy1
      go_wp2_with fail
      go_fit C1.out
      rintro e w3 ⟨rfl, hR3, hG3⟩
      go_wp2_with fail
      go_roundw
      case rel => exact ⟨P', Y2, Y1, X' ++ Q', by rw [← F1.out.2.2.2.2], by rfl, hR3, HG.out.trans hG3, F1.out.1, F1.out.2.1, F1.out.2.2.1, F1.out.2.2.2.1, by rw [← HT.out]; simp⟩
      case measure => have f1 := F1.out.2.1; have f2 := F1.out.2.2.1; have f3 := F1.out.2.2.2.2; simp [intOf]; omega
    · subst heq
      have C1 : Hid (Calls Try.prog 73 #[.slice (some ⟨g, 0, none⟩) N cap, .int .i64 p, .int .i64 m, .int .i64 x, fv] wr fun e w' => e = .returned (.tuple #[]) ∧ Rx w' B g cap (P ++ Y ++ X ++ Q) ∧ wr.grownBy w' (some g)) :=
        SW.out p m x _ _ wr HR.out HN.out (by omega) (by omega) (by
          have h := swR_split P' [] Q' x X' Y' [] [] hx.symm hy.symm
          have h1 : P'.length + (X' ++ []).length + ([] : List Cx).length = m := by simp; omega
          rw [h1, ← hp] at h
          rw [← HT.out]
          simpa using h)
      clear hp hx hy SW
      go_wp2_with fail
      go_fit C1.out
      rintro e w3 ⟨rfl, hR3, hG3⟩
      go_wp2_with fail
      go_end0
      exact ⟨rfl, hR3, HG.out.trans hG3⟩
    · obtain ⟨X1, X2, rfl, hX2⟩ : ∃ X1 X2, X' = X1 ++ X2 ∧ X1.length = y := ⟨X'.take y, X'.drop y, (List.take_append_drop _ _).symm, by rw [List.length_take]; omega⟩
      have hx2 : X2.length = x - y := by rw [List.length_append] at hx; omega
      have eq2 : (x : Int) - (y : Int) = (X2.length : Int) := by omega
      have C1 : Hid (Calls Try.prog 73 #[.slice (some ⟨g, 0, none⟩) N cap, .int .i64 p, .int .i64 m, .int .i64 y, fv] wr fun e w' => e = .returned (.tuple #[]) ∧ Rx w' B g cap ((P' ++ Y') ++ X2 ++ X1 ++ Q') ∧ wr.grownBy w' (some g)) :=
        SW.out p m y _ _ wr HR.out HN.out (by omega) (by omega) (by
          have h := swR_split P' [] Q' y X1 Y' X2 [] hX2 hy.symm
          have h1 : P'.length + (X1 ++ X2).length + ([] : List Cx).length = m := by simp at hpm ⊢; omega
          rw [h1, ← hp] at h
          simpa using h)
      have hne : ¬ (x : Int) = (y : Int) := by omega
      have hng : (y : Int) < (x : Int) := by omega
      have F1 : Hid ((P' ++ Y').length + X2.length = m ∧ 1 ≤ X2.length ∧ 1 ≤ X1.length ∧ (P' ++ Y' ++ X2 ++ X1 ++ Q').length = N ∧ y = X1.length) := ⟨by rw [List.length_append] at *; omega, by omega, by omega, by rw [← HN.out]; simp; omega, by omega⟩
      clear hp hx hy SW hpm hNl hx2 hX2
      go_wp2_with fail
      go_fit C1.out
      rintro e w3 ⟨rfl, hR3, hG3⟩
      go_wp2_with fail
      go_roundw
      case rel => exact ⟨P' ++ Y', X2, X1, Q', by rfl, by rw [← F1.out.2.2.2.2], hR3, HG.out.trans hG3, F1.out.1, F1.out.2.1, F1.out.2.2.1, F1.out.2.2.2.1, by rw [← HT.out]; simp⟩
      case measure => have f1 := F1.out.2.1; have f2 := F1.out.2.2.1; have f3 := F1.out.2.2.2.2; simp [intOf]; omega
end Go.Proofs.Ytkdeaogmifhnhaa
