/-
  THE LAW TableNone: the walk.
-/
import Derived.Test.YtdookhmaiapclaaGreatDoorTabM4
import Derived.Test.YtdookhmaiapclaaGreatDoorTabM3
namespace Go.Proofs.YtdookhmaiapclaaGreatDoor.tableNone
open Go.RowKit

set_option maxRecDepth 100000 in
set_option maxHeartbeats 4000000 in
theorem walk (k f u : Kb) (w0 : World) (_hi : InI k.r ∧ InI f.r ∧ InI u.r) (hk : k.Big) (ht0 : Tab w0) (ue : TypeId) (pv : Value) (he0 : Err w0 ue pv) :
    Calls Tryz.prog 5 #[askV k f u] w0 fun e w' => e = .returned (.bool true) ∧ Below w0.heap.size w0 w' := by
  obtain ⟨kt, kp, kr, kc⟩ := k
  obtain ⟨ft, fp, fr, fc⟩ := f
  obtain ⟨ut, up, ur, uc⟩ := u
  simp only [askV]
  obtain ⟨wx, hwx⟩ : ∃ wx, wx = w0.alloc (.cells #[.string kt, .string kp, .int .i64 kr, .string kc, .string ft, .string fp, .int .i64 fr, .string fc, .string ut, .string up, .int .i64 ur, .string uc] 26) := ⟨_, rfl⟩
  have hbx : Below w0.heap.size w0 wx := by rw [hwx]; exact (Below.refl _ _).alloc (Nat.le_refl _) _
  have hsx : wx.heap.size = w0.heap.size + 1 := by rw [hwx]; simp
  obtain ⟨w, hw⟩ : ∃ w, w = wx.alloc (.cells #[.slice none 0 0, .pointer none] 42) := ⟨_, rfl⟩
  have hbw : Below wx.heap.size wx w := by rw [hw]; exact (Below.refl _ _).alloc (Nat.le_refl _) _
  have hAx : Blk wx w0.heap.size [.string kt, .string kp, .int .i64 kr, .string kc, .string ft, .string fp, .int .i64 fr, .string fc, .string ut, .string up, .int .i64 ur, .string uc] 26 := by rw [hwx]; exact Blk.new w0 _ _
  have hA : Blk w w0.heap.size [.string kt, .string kp, .int .i64 kr, .string kc, .string ft, .string fp, .int .i64 fr, .string fc, .string ut, .string up, .int .i64 ur, .string uc] 26 := hAx.carry (hbw.block _ hAx.lt)
  have hZ : Blk w (w0.heap.size + 1) [.slice none 0 0, .pointer none] 42 := by rw [hw, ← hsx]; exact Blk.new wx _ _
  have hb0 : Below w0.heap.size w0 w := hbx.trans (hbw.mono hbx.size)
  have hgT : 0 < w0.heap.size := World.block_lt_of_cell? _ _ (ht0 0 (by decide))
  have HB : Hid (∀ u, Below w.heap.size w u → Blk u w0.heap.size [.string kt, .string kp, .int .i64 kr, .string kc, .string ft, .string fp, .int .i64 fr, .string fc, .string ut, .string up, .int .i64 ur, .string uc] 26 ∧ NoT u (.pointer (some ⟨w0.heap.size + 1, 0, none⟩)) ∧ Below w0.heap.size w0 u) := fun u hu =>
    ⟨hA.carry (hu.block _ hA.lt), .inr ⟨_, rfl, hZ.carry (hu.block _ hZ.lt)⟩, hb0.trans (hu.mono hb0.size)⟩
  have LV : Hid (∀ u, Below w.heap.size w u → Calls Tryz.prog 7 #[] u fun x w' => x = .returned (.bool true) ∧ Below u.heap.size u w') := fun u hu => by
    have hb := (HB.out u hu).2.2
    exact lives9_any u (ht0.belowB hb hgT) ue pv (he0.below hb (Nat.le_refl _))
  rw [hwx] at hw
  clear hbx hsx hwx hbw hAx hA hZ hb0 hgT ht0 he0
  go_enter Tryz.func5, Tryz.ntmps5
  go_wp2_with fail
  rw [← hw]
  clear hw
  go_loopw [12] (fun s12 wr => ∃ j : Nat, j ≤ 2 ∧ s12 = .int .i64 j ∧ Below w.heap.size w wr) (fun s12 _ => 2 - (intOf s12).toNat)
  case atStart => exact ⟨0, by omega, rfl, Below.refl _ _⟩
  case round =>
    obtain ⟨j, hj, rfl, hbr⟩ := hrel
    obtain rfl | rfl | rfl : j = 0 ∨ j = 1 ∨ j = 2 := by omega
    · have hix : ∀ u : World, (Instr.index 44 (.agg #[.pointer none, .pointer (some ⟨w0.heap.size + 1, 0, none⟩)]) (.int .i64 0)).run Tryz.prog u = .ok (.pointer none) u := fun u => by kernel_rfl
      have hN : Hid (∀ x : World, Below w.heap.size w x → NoT x (.pointer none)) := fun x _ => Or.inl rfl
      have b9 := (HB.out wr hbr).1
      have G : Hid (Calls Tryz.prog 14 #[(.pointer none), .agg #[.string kt, .string kp, .int .i64 kr, .string kc]] wr fun e w' => e = .returned (.tuple #[.agg #[.int .i64 0, .bool false, .int .i64 0, .int .i64 0, .int .i64 0, .string ⟨#[]⟩], .bool false]) ∧ Below wr.heap.size wr w') := getNo (hN.out wr hbr) ⟨kt, kp, kr, kc⟩
      have m0 := b9.cell 0 rfl
      have m1 := b9.cell 1 rfl
      have m2 := b9.cell 2 rfl
      have m3 := b9.cell 3 rfl
      have m4 := b9.cell 4 rfl
      have m5 := b9.cell 5 rfl
      have m6 := b9.cell 6 rfl
      have m7 := b9.cell 7 rfl
      have m8 := b9.cell 8 rfl
      have m9 := b9.cell 9 rfl
      have m10 := b9.cell 10 rfl
      have m11 := b9.cell 11 rfl
      go_wp2_with fail
      refine G.out.mono ?_
      rintro e u1 ⟨rfl, hu1⟩
      clear m0 m1 m2 m3 m4 m5 m6 m7 m8 m9 m10 m11
      have h1 : Below w.heap.size w (u1.alloc (.cells #[.int .i64 0, .bool false, .int .i64 0, .int .i64 0, .int .i64 0, .string ⟨#[]⟩] 48)) := by
        have h := hbr.trans (hu1.mono hbr.size)
        exact h.alloc h.size _
      have E : Hid (Calls Tryz.prog 15 #[(.pointer none)] (u1.alloc (.cells #[.int .i64 0, .bool false, .int .i64 0, .int .i64 0, .int .i64 0, .string ⟨#[]⟩] 48)) fun e w' => e = .returned (.tuple #[.agg #[.string ⟨#[]⟩, .string ⟨#[]⟩, .int .i64 0, .string ⟨#[]⟩], .agg #[.string ⟨#[]⟩, .string ⟨#[]⟩, .int .i64 0, .string ⟨#[]⟩], .bool false]) ∧ Below (u1.alloc (.cells #[.int .i64 0, .bool false, .int .i64 0, .int .i64 0, .int .i64 0, .string ⟨#[]⟩] 48)).heap.size (u1.alloc (.cells #[.int .i64 0, .bool false, .int .i64 0, .int .i64 0, .int .i64 0, .string ⟨#[]⟩] 48)) w') := endsN (hN.out _ h1)
      clear G b9
      go_wp2_with fail
      refine E.out.mono ?_
      rintro e u2 ⟨rfl, hu2⟩
      have h2 : Below w.heap.size w ((u2.alloc (.cells #[.string ⟨#[]⟩, .string ⟨#[]⟩, .int .i64 0, .string ⟨#[]⟩] 24)).alloc (.cells #[.string ⟨#[]⟩, .string ⟨#[]⟩, .int .i64 0, .string ⟨#[]⟩] 24)) := by
        have h := h1.trans (hu2.mono h1.size)
        have h' := h.alloc h.size (.cells #[.string ⟨#[]⟩, .string ⟨#[]⟩, .int .i64 0, .string ⟨#[]⟩] 24)
        exact h'.alloc h'.size _
      obtain ⟨x2, hx2⟩ : ∃ x2, x2 = (u2.alloc (.cells #[.string ⟨#[]⟩, .string ⟨#[]⟩, .int .i64 0, .string ⟨#[]⟩] 24)).alloc (.cells #[.string ⟨#[]⟩, .string ⟨#[]⟩, .int .i64 0, .string ⟨#[]⟩] 24) := ⟨_, rfl⟩
      have hb9 := (HB.out _ h2).1
      have b9 := hb9
      have M : Hid (Calls Tryz.prog 16 #[(.pointer none), .agg #[.string kt, .string kp, .int .i64 kr, .string kc]] ((u2.alloc (.cells #[.string ⟨#[]⟩, .string ⟨#[]⟩, .int .i64 0, .string ⟨#[]⟩] 24)).alloc (.cells #[.string ⟨#[]⟩, .string ⟨#[]⟩, .int .i64 0, .string ⟨#[]⟩] 24)) fun e w' => e = .returned (.bool false) ∧ Below ((u2.alloc (.cells #[.string ⟨#[]⟩, .string ⟨#[]⟩, .int .i64 0, .string ⟨#[]⟩] 24)).alloc (.cells #[.string ⟨#[]⟩, .string ⟨#[]⟩, .int .i64 0, .string ⟨#[]⟩] 24)).heap.size ((u2.alloc (.cells #[.string ⟨#[]⟩, .string ⟨#[]⟩, .int .i64 0, .string ⟨#[]⟩] 24)).alloc (.cells #[.string ⟨#[]⟩, .string ⟨#[]⟩, .int .i64 0, .string ⟨#[]⟩] 24)) w') := mayN (hN.out _ h2) ⟨kt, kp, kr, kc⟩ hk
      have m0 := b9.cell 0 rfl
      have m1 := b9.cell 1 rfl
      have m2 := b9.cell 2 rfl
      have m3 := b9.cell 3 rfl
      have m4 := b9.cell 4 rfl
      have m5 := b9.cell 5 rfl
      have m6 := b9.cell 6 rfl
      have m7 := b9.cell 7 rfl
      have m8 := b9.cell 8 rfl
      have m9 := b9.cell 9 rfl
      have m10 := b9.cell 10 rfl
      have m11 := b9.cell 11 rfl
      clear E hb9
      go_wp2_with fail
      refine M.out.mono ?_
      rintro e u3 ⟨rfl, hu3⟩
      clear m0 m1 m2 m3 m4 m5 m6 m7 m8 m9 m10 m11
      have h3 : Below w.heap.size w u3 := h2.trans (hu3.mono h2.size)
      have b9 := (HB.out u3 h3).1
      have SC : Hid (Calls Tryz.prog 17 #[(.pointer none), .agg #[.string ft, .string fp, .int .i64 fr, .string fc], .agg #[.string ut, .string up, .int .i64 ur, .string uc]] u3 fun e w' => (∃ ao cap, e = .returned (.slice ao 0 cap)) ∧ Below u3.heap.size u3 w') := scanN (hN.out u3 h3) ⟨ft, fp, fr, fc⟩ ⟨ut, up, ur, uc⟩
      have m0 := b9.cell 0 rfl
      have m1 := b9.cell 1 rfl
      have m2 := b9.cell 2 rfl
      have m3 := b9.cell 3 rfl
      have m4 := b9.cell 4 rfl
      have m5 := b9.cell 5 rfl
      have m6 := b9.cell 6 rfl
      have m7 := b9.cell 7 rfl
      have m8 := b9.cell 8 rfl
      have m9 := b9.cell 9 rfl
      have m10 := b9.cell 10 rfl
      have m11 := b9.cell 11 rfl
      clear M
      go_wp2_with fail
      refine SC.out.mono ?_
      rintro e u4 ⟨⟨a4, c4, rfl⟩, hu4⟩
      clear m0 m1 m2 m3 m4 m5 m6 m7 m8 m9 m10 m11
      have h4 : Below w.heap.size w u4 := h3.trans (hu4.mono h3.size)
      have AL : Hid (Calls Tryz.prog 18 #[(.pointer none)] u4 fun e w' => (∃ ao cap, e = .returned (.slice ao 0 cap)) ∧ Below u4.heap.size u4 w') := allN (hN.out u4 h4)
      clear SC b9
      go_wp2_with fail
      refine AL.out.mono ?_
      rintro e u5 ⟨⟨a5, c5, rfl⟩, hu5⟩
      have h5 : Below w.heap.size w u5 := h4.trans (hu5.mono h4.size)
      have LE : Hid (Calls Tryz.prog 19 #[(.pointer none)] u5 fun e w' => e = .returned (.int .i64 0) ∧ w' = u5) := lenN (hN.out u5 h5)
      have BL : Hid (Calls Tryz.prog 20 #[(.pointer none)] u5 fun e w' => e = .returned (.int .i64 0) ∧ w' = u5) := blocksN (hN.out u5 h5)
      clear AL
      go_wp2_with fail
      refine LE.out.mono ?_
      rintro e u6 ⟨rfl, e6⟩
      have e6' : u5 = u6 := e6.symm
      subst e6'
      clear e6 LE
      go_wp2_with fail
      refine BL.out.mono ?_
      rintro e u7 ⟨rfl, e7⟩
      have e7' : u5 = u7 := e7.symm
      subst e7'
      clear e7 BL
      go_wp2_with fail
      go_roundw
      case rel => exact ⟨0 + 1, by omega, by go_num, h5⟩
      case measure => simp [intOf]
    · have hix : ∀ u : World, (Instr.index 44 (.agg #[.pointer none, .pointer (some ⟨w0.heap.size + 1, 0, none⟩)]) (.int .i64 1)).run Tryz.prog u = .ok (.pointer (some ⟨w0.heap.size + 1, 0, none⟩)) u := fun u => by kernel_rfl
      have hN : Hid (∀ x : World, Below w.heap.size w x → NoT x (.pointer (some ⟨w0.heap.size + 1, 0, none⟩))) := fun x hx => (HB.out x hx).2.1
      have b9 := (HB.out wr hbr).1
      have G : Hid (Calls Tryz.prog 14 #[(.pointer (some ⟨w0.heap.size + 1, 0, none⟩)), .agg #[.string kt, .string kp, .int .i64 kr, .string kc]] wr fun e w' => e = .returned (.tuple #[.agg #[.int .i64 0, .bool false, .int .i64 0, .int .i64 0, .int .i64 0, .string ⟨#[]⟩], .bool false]) ∧ Below wr.heap.size wr w') := getNo (hN.out wr hbr) ⟨kt, kp, kr, kc⟩
      have m0 := b9.cell 0 rfl
      have m1 := b9.cell 1 rfl
      have m2 := b9.cell 2 rfl
      have m3 := b9.cell 3 rfl
      have m4 := b9.cell 4 rfl
      have m5 := b9.cell 5 rfl
      have m6 := b9.cell 6 rfl
      have m7 := b9.cell 7 rfl
      have m8 := b9.cell 8 rfl
      have m9 := b9.cell 9 rfl
      have m10 := b9.cell 10 rfl
      have m11 := b9.cell 11 rfl
      go_wp2_with fail
      refine G.out.mono ?_
      rintro e u1 ⟨rfl, hu1⟩
      clear m0 m1 m2 m3 m4 m5 m6 m7 m8 m9 m10 m11
      have h1 : Below w.heap.size w (u1.alloc (.cells #[.int .i64 0, .bool false, .int .i64 0, .int .i64 0, .int .i64 0, .string ⟨#[]⟩] 48)) := by
        have h := hbr.trans (hu1.mono hbr.size)
        exact h.alloc h.size _
      have E : Hid (Calls Tryz.prog 15 #[(.pointer (some ⟨w0.heap.size + 1, 0, none⟩))] (u1.alloc (.cells #[.int .i64 0, .bool false, .int .i64 0, .int .i64 0, .int .i64 0, .string ⟨#[]⟩] 48)) fun e w' => e = .returned (.tuple #[.agg #[.string ⟨#[]⟩, .string ⟨#[]⟩, .int .i64 0, .string ⟨#[]⟩], .agg #[.string ⟨#[]⟩, .string ⟨#[]⟩, .int .i64 0, .string ⟨#[]⟩], .bool false]) ∧ Below (u1.alloc (.cells #[.int .i64 0, .bool false, .int .i64 0, .int .i64 0, .int .i64 0, .string ⟨#[]⟩] 48)).heap.size (u1.alloc (.cells #[.int .i64 0, .bool false, .int .i64 0, .int .i64 0, .int .i64 0, .string ⟨#[]⟩] 48)) w') := endsN (hN.out _ h1)
      clear G b9
      go_wp2_with fail
      refine E.out.mono ?_
      rintro e u2 ⟨rfl, hu2⟩
      have h2 : Below w.heap.size w ((u2.alloc (.cells #[.string ⟨#[]⟩, .string ⟨#[]⟩, .int .i64 0, .string ⟨#[]⟩] 24)).alloc (.cells #[.string ⟨#[]⟩, .string ⟨#[]⟩, .int .i64 0, .string ⟨#[]⟩] 24)) := by
        have h := h1.trans (hu2.mono h1.size)
        have h' := h.alloc h.size (.cells #[.string ⟨#[]⟩, .string ⟨#[]⟩, .int .i64 0, .string ⟨#[]⟩] 24)
        exact h'.alloc h'.size _
      obtain ⟨x2, hx2⟩ : ∃ x2, x2 = (u2.alloc (.cells #[.string ⟨#[]⟩, .string ⟨#[]⟩, .int .i64 0, .string ⟨#[]⟩] 24)).alloc (.cells #[.string ⟨#[]⟩, .string ⟨#[]⟩, .int .i64 0, .string ⟨#[]⟩] 24) := ⟨_, rfl⟩
      have hb9 := (HB.out _ h2).1
      have b9 := hb9
      have M : Hid (Calls Tryz.prog 16 #[(.pointer (some ⟨w0.heap.size + 1, 0, none⟩)), .agg #[.string kt, .string kp, .int .i64 kr, .string kc]] ((u2.alloc (.cells #[.string ⟨#[]⟩, .string ⟨#[]⟩, .int .i64 0, .string ⟨#[]⟩] 24)).alloc (.cells #[.string ⟨#[]⟩, .string ⟨#[]⟩, .int .i64 0, .string ⟨#[]⟩] 24)) fun e w' => e = .returned (.bool false) ∧ Below ((u2.alloc (.cells #[.string ⟨#[]⟩, .string ⟨#[]⟩, .int .i64 0, .string ⟨#[]⟩] 24)).alloc (.cells #[.string ⟨#[]⟩, .string ⟨#[]⟩, .int .i64 0, .string ⟨#[]⟩] 24)).heap.size ((u2.alloc (.cells #[.string ⟨#[]⟩, .string ⟨#[]⟩, .int .i64 0, .string ⟨#[]⟩] 24)).alloc (.cells #[.string ⟨#[]⟩, .string ⟨#[]⟩, .int .i64 0, .string ⟨#[]⟩] 24)) w') := mayN (hN.out _ h2) ⟨kt, kp, kr, kc⟩ hk
      have m0 := b9.cell 0 rfl
      have m1 := b9.cell 1 rfl
      have m2 := b9.cell 2 rfl
      have m3 := b9.cell 3 rfl
      have m4 := b9.cell 4 rfl
      have m5 := b9.cell 5 rfl
      have m6 := b9.cell 6 rfl
      have m7 := b9.cell 7 rfl
      have m8 := b9.cell 8 rfl
      have m9 := b9.cell 9 rfl
      have m10 := b9.cell 10 rfl
      have m11 := b9.cell 11 rfl
      clear E hb9
      go_wp2_with fail
      refine M.out.mono ?_
      rintro e u3 ⟨rfl, hu3⟩
      clear m0 m1 m2 m3 m4 m5 m6 m7 m8 m9 m10 m11
      have h3 : Below w.heap.size w u3 := h2.trans (hu3.mono h2.size)
      have b9 := (HB.out u3 h3).1
      have SC : Hid (Calls Tryz.prog 17 #[(.pointer (some ⟨w0.heap.size + 1, 0, none⟩)), .agg #[.string ft, .string fp, .int .i64 fr, .string fc], .agg #[.string ut, .string up, .int .i64 ur, .string uc]] u3 fun e w' => (∃ ao cap, e = .returned (.slice ao 0 cap)) ∧ Below u3.heap.size u3 w') := scanN (hN.out u3 h3) ⟨ft, fp, fr, fc⟩ ⟨ut, up, ur, uc⟩
      have m0 := b9.cell 0 rfl
      have m1 := b9.cell 1 rfl
      have m2 := b9.cell 2 rfl
      have m3 := b9.cell 3 rfl
      have m4 := b9.cell 4 rfl
      have m5 := b9.cell 5 rfl
      have m6 := b9.cell 6 rfl
      have m7 := b9.cell 7 rfl
      have m8 := b9.cell 8 rfl
      have m9 := b9.cell 9 rfl
      have m10 := b9.cell 10 rfl
      have m11 := b9.cell 11 rfl
      clear M
      go_wp2_with fail
      refine SC.out.mono ?_
      rintro e u4 ⟨⟨a4, c4, rfl⟩, hu4⟩
      clear m0 m1 m2 m3 m4 m5 m6 m7 m8 m9 m10 m11
      have h4 : Below w.heap.size w u4 := h3.trans (hu4.mono h3.size)
      have AL : Hid (Calls Tryz.prog 18 #[(.pointer (some ⟨w0.heap.size + 1, 0, none⟩))] u4 fun e w' => (∃ ao cap, e = .returned (.slice ao 0 cap)) ∧ Below u4.heap.size u4 w') := allN (hN.out u4 h4)
      clear SC b9
      go_wp2_with fail
      refine AL.out.mono ?_
      rintro e u5 ⟨⟨a5, c5, rfl⟩, hu5⟩
      have h5 : Below w.heap.size w u5 := h4.trans (hu5.mono h4.size)
      have LE : Hid (Calls Tryz.prog 19 #[(.pointer (some ⟨w0.heap.size + 1, 0, none⟩))] u5 fun e w' => e = .returned (.int .i64 0) ∧ w' = u5) := lenN (hN.out u5 h5)
      have BL : Hid (Calls Tryz.prog 20 #[(.pointer (some ⟨w0.heap.size + 1, 0, none⟩))] u5 fun e w' => e = .returned (.int .i64 0) ∧ w' = u5) := blocksN (hN.out u5 h5)
      clear AL
      go_wp2_with fail
      refine LE.out.mono ?_
      rintro e u6 ⟨rfl, e6⟩
      have e6' : u5 = u6 := e6.symm
      subst e6'
      clear e6 LE
      go_wp2_with fail
      refine BL.out.mono ?_
      rintro e u7 ⟨rfl, e7⟩
      have e7' : u5 = u7 := e7.symm
      subst e7'
      clear e7 BL
      go_wp2_with fail
      go_roundw
      case rel => exact ⟨1 + 1, by omega, by go_num, h5⟩
      case measure => simp [intOf]
    · go_wp2_with fail
      refine (LV.out _ hbr).mono ?_
      rintro e u1 ⟨rfl, hu1⟩
      have h1 : Below w.heap.size w u1 := hbr.trans (hu1.mono hbr.size)
      go_wp2_with fail
      go_ret
      exact ⟨rfl, (HB.out u1 h1).2.2⟩
end Go.Proofs.YtdookhmaiapclaaGreatDoor.tableNone
