/-
  THE LAW TableOpens: the walk.
-/
import Derived.Test.YtdookhmaiapclaaGreatDoorTabM5
import Derived.Test.YtdookhmaiapclaaGreatDoorTabM3
import Derived.Test.YtdookhmaiapclaaGreatDoorRefLend
namespace Go.Proofs.YtdookhmaiapclaaGreatDoor.tableOpens
open Go.RowKit

attribute [local go_sem] Oper.pureAt Oper.pureUpon
set_option maxRecDepth 100000 in
set_option maxHeartbeats 4000000 in
theorem walk (ao : Option Addr) (l : List UInt8) (cap : Nat) (k f u : Kb) (w00 : World) (hs0 : Sees w00 ao l) (hn : ao = none → l.length = 0) (_hc : l.length ≤ cap) (_hz : l.length ≤ 140737488351232) (_hi : InI k.r ∧ InI f.r ∧ InI u.r) (hk : k.Big) (ht00 : Tab w00) (ue : TypeId) (pv : Value) (he00 : Err w00 ue pv) :
    Calls Tryz.prog 4 #[.slice ao l.length cap, askV k f u] w00 fun e w' => e = .returned (.bool true) ∧ Below w00.heap.size w00 w' := by
  obtain ⟨kt, kp, kr, kc⟩ := k
  obtain ⟨ft, fp, fr, fc⟩ := f
  obtain ⟨ut, up, ur, uc⟩ := u
  obtain ⟨w0, hw0⟩ : ∃ w0, w0 = w00.alloc (.cells #[.string kt, .string kp, .int .i64 kr, .string kc, .string ft, .string fp, .int .i64 fr, .string fc, .string ut, .string up, .int .i64 ur, .string uc] 26) := ⟨_, rfl⟩
  have hbx : Below w00.heap.size w00 w0 := by rw [hw0]; exact (Below.refl _ _).alloc (Nat.le_refl _) _
  have hAx : Blk w0 w00.heap.size [.string kt, .string kp, .int .i64 kr, .string kc, .string ft, .string fp, .int .i64 fr, .string fc, .string ut, .string up, .int .i64 ur, .string uc] 26 := by rw [hw0]; exact Blk.new w00 _ _
  have hs : Sees w0 ao l := hs0.below hbx (Nat.le_refl _)
  have hgT0 : 0 < w00.heap.size := World.block_lt_of_cell? _ _ (ht00 0 (by decide))
  have ht0 : Tab w0 := ht00.belowB hbx hgT0
  have he0 : Err w0 ue pv := he00.below hbx (Nat.le_refl _)
  have hgT : 0 < w0.heap.size := World.block_lt_of_cell? _ _ (ht0 0 (by decide))
  have HB : Hid (∀ x, Below w0.heap.size w0 x → Blk x w00.heap.size [.string kt, .string kp, .int .i64 kr, .string kc, .string ft, .string fp, .int .i64 fr, .string fc, .string ut, .string up, .int .i64 ur, .string uc] 26 ∧ Below w00.heap.size w00 x) := fun x hx => ⟨hAx.carry (hx.block _ hAx.lt), hbx.trans (hx.mono hbx.size)⟩
  have LV : Hid (∀ u, Below w0.heap.size w0 u → Calls Tryz.prog 7 #[] u fun x w' => x = .returned (.bool true) ∧ Below u.heap.size u w') := fun u hu =>
    lives9_any u (ht0.belowB hu hgT) ue pv (he0.below hu (Nat.le_refl _))
  have LD : Hid (l.length ≤ 8000 → Calls Tryz.prog 12 #[.slice ao l.length cap] w0 fun e w' => e = .returned (.tuple #[.slice (some ⟨w0.heap.size, 0, none⟩) (l.length + 2) (l.length + 2), .slice (some ⟨w0.heap.size, 1, none⟩) l.length (l.length + 1)]) ∧ Row w' w0.heap.size (lent l) ∧ Below w0.heap.size w0 w') := fun h8 => lend_any ao l cap w0 hs (by omega)
  have KP : Hid (l.length ≤ 8000 → ∀ x, Below w0.heap.size w0 x → Row x w0.heap.size (lent l) → Calls Tryz.prog 13 #[.slice (some ⟨w0.heap.size, 0, none⟩) (l.length + 2) (l.length + 2), .slice ao l.length cap] x fun e w' => e = .returned (.bool true) ∧ Below x.heap.size x w') := fun h8 x hx hr =>
    (kept_any w0.heap.size (l.length + 2) ao l cap x (hs.below hx (Nat.le_refl _)) hn (by omega) hr (Nat.le_refl _)).mono fun e w' ⟨h1, n, h2⟩ => ⟨h1, by rw [h2]; exact ⟨rfl, rfl, rfl, Nat.le_refl _, fun _ _ => rfl⟩⟩
  have TL : Hid (l.length ≤ 8000 → ∀ x, Below w0.heap.size w0 x → w0.heap.size < x.heap.size → Row x w0.heap.size (lent l) → Calls Tryz.prog 11 #[.slice (some ⟨w0.heap.size, 1, none⟩) l.length (l.length + 1), .agg #[.string kt, .string kp, .int .i64 kr, .string kc, .string ft, .string fp, .int .i64 fr, .string fc, .string ut, .string up, .int .i64 ur, .string uc]] x fun e w' => e = .returned (.bool true) ∧ Below x.heap.size x w') := fun h8 x hx hlt hr => by
    rcases Nat.eq_zero_or_pos l.length with h0 | h0
    · rw [h0]; exact tells_nil _ _ ⟨kt, kp, kr, kc⟩ ⟨ft, fp, fr, fc⟩ ⟨ut, up, ur, uc⟩ x
    · exact tells_some w0.heap.size 1 (l.length + 1) l ⟨kt, kp, kr, kc⟩ ⟨ft, fp, fr, fc⟩ ⟨ut, up, ur, uc⟩ x (lent_sees hr) h0 (by omega) (by omega) (by omega) hlt hk (ht0.belowB hx hgT) ue pv (he0.below hx (Nat.le_refl _))
  simp only [askV]
  clear hs hs0 hn hk ht0 ht00 he0 he00 hgT hgT0 hAx hbx
  go_enter Tryz.func4, Tryz.ntmps4
  by_cases h8 : l.length ≤ 8000
  · have h8z : (l.length : Int) ≤ 8000 := by omega
    go_wp2_with fail
    rw [← hw0]
    clear hw0
    refine (LD.out h8).mono ?_
    rintro e u1 ⟨rfl, hr1, hb1⟩
    have hlt : w0.heap.size < u1.heap.size := by
      rcases Nat.lt_or_ge w0.heap.size u1.heap.size with h | h
      · exact h
      · have h1 : u1.heap[w0.heap.size]? = none := Array.getElem?_eq_none_iff.2 h
        exact absurd ((h1.symm.trans hr1) : none = some _) (by simp)
    obtain ⟨b9, -⟩ := HB.out u1 hb1
    have m0 := b9.cell 0 rfl
    have m1 := b9.cell 1 rfl
    have m2 := b9.cell 2 rfl
    have m3 := b9.cell 3 rfl
    have m4 := b9.cell 4 rfl
    have m5 := b9.cell 5 rfl
    have m6 := b9.cell 6 rfl
    have m7 := b9.cell 7 rfl
    have m8 := b9.cell 8 rfl
    have m9 := b9.cell 9 rfl
    have m10 := b9.cell 10 rfl
    have m11 := b9.cell 11 rfl
    go_wp2_with fail
    clear b9 m0 m1 m2 m3 m4 m5 m6 m7 m8 m9 m10 m11
    refine (TL.out h8 u1 hb1 hlt hr1).mono ?_
    rintro e u2 ⟨rfl, hb2⟩
    have hb02 : Below w0.heap.size w0 u2 := hb1.trans (hb2.mono hb1.size)
    have hr2 : Row u2 w0.heap.size (lent l) := hr1.below hb2 hlt
    go_wp2_with fail
    refine (KP.out h8 u2 hb02 hr2).mono ?_
    rintro e u3 ⟨rfl, hb3⟩
    have hb03 : Below w0.heap.size w0 u3 := hb02.trans (hb3.mono hb02.size)
    go_wp2_with fail
    refine (LV.out u3 hb03).mono ?_
    rintro e u4 ⟨rfl, hb4⟩
    have hb04 := (HB.out u4 (hb03.trans (hb4.mono hb03.size))).2
    go_wp2_with fail
    go_ret
    exact ⟨rfl, hb04⟩
  · have h8z : 8000 < (l.length : Int) := by omega
    go_wp2_with fail
    rw [← hw0]
    clear hw0
    refine (LV.out w0 (Below.refl _ _)).mono ?_
    rintro e u1 ⟨rfl, hb1⟩
    have hb2 := (HB.out u1 hb1).2
    go_wp2_with fail
    go_ret
    exact ⟨rfl, hb2⟩
end Go.Proofs.YtdookhmaiapclaaGreatDoor.tableOpens
