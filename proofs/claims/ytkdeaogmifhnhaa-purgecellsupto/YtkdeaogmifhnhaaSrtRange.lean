/-
  CONTRACTS: the library's stable sort at cells: two ranges change their places.
-/
import Derived.Test.YtkdeaogmifhnhaaSrtSwap
namespace Go.Proofs.Ytkdeaogmifhnhaa
open Go.RowKit

theorem Rx.drew {w : World} {B g cap : Nat} {L : List Cx} (h : Rx w B g cap L) : Rx w.drew B g cap L := h
theorem grown_drew {w w' : World} {r : Option Nat} (h : w.grownBy w' r) : w.grownBy w'.drew r := ⟨h.os, h.tape, h.output, h.size, h.block⟩
set_option maxRecDepth 100000 in
set_option maxHeartbeats 4000000 in
theorem swapRange_any (B g cap a b n : Nat) (L : List Cx) (fv : Value) (w : World) (ho : Rx w B g cap L) (hab : a + n ≤ b) (hb : b + n ≤ L.length) (hL : L.length ≤ 1000000) :
    Calls Try.prog 73 #[.slice (some ⟨g, 0, none⟩) L.length cap, .int .i64 a, .int .i64 b, .int .i64 n, fv] w fun e w' => e = .returned (.tuple #[]) ∧ Rx w' B g cap (swR a b L n) ∧ w.grownBy w' (some g) := by
  have hLz : (L.length : Int) ≤ 1000000 := by omega
  go_enter Try.func73, Try.ntmps73
  go_wp2_with fail
  go_loopw [10] (fun s10 wr => ∃ i : Nat, i ≤ n ∧ s10 = .int .i64 i ∧ Rx wr B g cap (swR a b L i) ∧ w.grownBy wr (some g)) (fun s10 _ => n - (intOf s10).toNat)
  case atStart => exact ⟨0, by omega, rfl, ho, ⟨rfl, rfl, rfl, Nat.le_refl _, fun _ _ _ => rfl⟩⟩
  case round =>
    obtain ⟨i, hi, rfl, hR, hG⟩ := hrel
    rcases Nat.lt_or_ge i n with hlt | hge
    · have hlen := swR_len a b L i
      obtain ⟨x, hx⟩ : ∃ x, (swR a b L i)[a + i]? = some x := ⟨_, List.getElem?_eq_getElem (by omega)⟩
      obtain ⟨y, hy⟩ : ∃ y, (swR a b L i)[b + i]? = some y := ⟨_, List.getElem?_eq_getElem (by omega)⟩
      have hsw : swR a b L (i + 1) = ((swR a b L i).set (a + i) y).set (b + i) x := by rw [swR]; exact swL_eq hx hy
      have hsw2 : swR a b L (i + 1) = ((swR a b L i).set (b + i) x).set (a + i) y := by rw [hsw]; exact List.set_comm _ _ (by omega)
      have tx := hR.ten hx
      have ty := hR.ten hy
      have h0 : wr.ownsRow B 35 10 (.slice (some ⟨g, 0, none⟩) (swR a b L i).length cap) (swR a b L i).length ((swR a b L i).flatMap xs10) := hR
      have fz : ∀ j, wr.frozen? ⟨g, j, none⟩ = false := fun j => h0.frozenAt j
      have P1 : Hid (Rx (set10 (set10 wr g ((a + i) * 10) y) g ((b + i) * 10) x) B g cap (swR a b L (i + 1)) ∧ w.grownBy (set10 (set10 wr g ((a + i) * 10) y) g ((b + i) * 10) x) (some g)) := by
        have p1 := hR.put hx y
        have p2 := p1.1.put (i := b + i) (a := y) (by rw [List.getElem?_set_ne (by omega)]; exact hy) x
        exact ⟨by rw [hsw]; exact p2.1, (hG.trans p1.2).trans p2.2⟩
      have P2 : Hid (Rx (set10 (set10 wr g ((b + i) * 10) x) g ((a + i) * 10) y) B g cap (swR a b L (i + 1)) ∧ w.grownBy (set10 (set10 wr g ((b + i) * 10) x) g ((a + i) * 10) y) (some g)) := by
        have p1 := hR.put hy x
        have p2 := p1.1.put (i := a + i) (a := x) (by rw [List.getElem?_set_ne (by omega)]; exact hx) y
        exact ⟨by rw [hsw2]; exact p2.1, (hG.trans p1.2).trans p2.2⟩
      have hp : (a : Int) + (i : Int) < (L.length : Int) := by omega
      have hq : (b : Int) + (i : Int) < (L.length : Int) := by omega
      have e1 : ((a : Int) + (i : Int)).toNat = a + i := by omega
      have e2 : ((b : Int) + (i : Int)).toNat = b + i := by omega
      have hne : a + i ≠ b + i := by omega
      clear hR h0 hx hy hsw hsw2 hlen
      obtain ⟨⟨xt, xp, xr, xc⟩, ⟨xm, xd, xl, xk, xn, xs⟩⟩ := x
      obtain ⟨⟨yt, yp, yr, yc⟩, ⟨ym, yd, yl, yk, yn, ys⟩⟩ := y
      obtain ⟨x0, x1, x2, x3, x4, x5, x6, x7, x8, x9⟩ := tx
      obtain ⟨y0, y1, y2, y3, y4, y5, y6, y7, y8, y9⟩ := ty
      simp only at x0 x1 x2 x3 x4 x5 x6 x7 x8 x9 y0 y1 y2 y3 y4 y5 y6 y7 y8 y9
      have fa0 := fz ((a + i) * 10)
      have fa1 := fz ((a + i) * 10 + 1)
      have fa2 := fz ((a + i) * 10 + 2)
      have fa3 := fz ((a + i) * 10 + 3)
      have fa4 := fz ((a + i) * 10 + 4)
      have fa5 := fz ((a + i) * 10 + 5)
      have fa6 := fz ((a + i) * 10 + 6)
      have fa7 := fz ((a + i) * 10 + 7)
      have fa8 := fz ((a + i) * 10 + 8)
      have fa9 := fz ((a + i) * 10 + 9)
      have fb0 := fz ((b + i) * 10)
      have fb1 := fz ((b + i) * 10 + 1)
      have fb2 := fz ((b + i) * 10 + 2)
      have fb3 := fz ((b + i) * 10 + 3)
      have fb4 := fz ((b + i) * 10 + 4)
      have fb5 := fz ((b + i) * 10 + 5)
      have fb6 := fz ((b + i) * 10 + 6)
      have fb7 := fz ((b + i) * 10 + 7)
      have fb8 := fz ((b + i) * 10 + 8)
      have fb9 := fz ((b + i) * 10 + 9)
      clear fz
      go_wp2_with fail
      go_region
      go_wp2_with fail
      go_roundw
      case rel => exact ⟨i + 1, by omega, by go_num, Rx.drew P1.out.1, grown_drew P1.out.2⟩
      case measure => simp [intOf]; omega
    · obtain rfl : i = n := by omega
      go_wp2_with fail
      go_end0
      exact ⟨rfl, hR, hG⟩
end Go.Proofs.Ytkdeaogmifhnhaa
