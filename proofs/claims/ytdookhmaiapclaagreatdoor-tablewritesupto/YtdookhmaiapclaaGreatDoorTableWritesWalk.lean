/-
  THE LAW TableWrites: the walk.
-/
import Derived.Test.YtdookhmaiapclaaGreatDoorTabM5
import Derived.Test.YtdookhmaiapclaaGreatDoorTabM3
import Derived.Test.YtdookhmaiapclaaGreatDoorTabM4
import Derived.Test.YtdookhmaiapclaaGreatDoorCodPut
namespace Go.Proofs.YtdookhmaiapclaaGreatDoor
section
open Go.ChangeShapes Go.WideShapes Go.ChangeAt Go.RowKit Go.Deep
/-- Cells that came in: their room. -/
theorem cells_cap {H : Type} {enc : TypeId × Value → H} {W : World} {ao : Option Addr} {len cap : Nat} {d : DataW H} {p : List MemPlace}
    (h : DataW.Trod enc Tryz.prog W 0 (fun _ => true) true 22 (Value.slice ao len cap) d p) : len ≤ cap := by
  obtain ⟨fuel, hf⟩ := h
  rcases open_slice Tryz.underlying22 hf with ⟨hcs, _⟩ | ⟨a, n, c, m, k, D, Pl, hcs, _, hle, _⟩
  · simp [Value.cells] at hcs
    omega
  · simp [Value.cells] at hcs
    obtain ⟨rfl, rfl, rfl⟩ := hcs
    exact hle
end
open Go.RowKit
theorem row9_of {w w' : World} {v : Value} {r : List UInt8} (h : w'.ownsRow w.heap.size 5 1 v r.length (B8 r)) (hp : 0 < r.length) : ∃ g cap, v = .slice (some ⟨g, 0, none⟩) r.length cap ∧ Row9 w' g r cap := by
  rcases h.2 with ⟨h1, h2⟩ | ⟨g2, cap2, cur2, e, hb2, hh, hn2, hm2, hcs, htk⟩
  · omega
  · exact ⟨g2, cap2, e, cur2, hh, hn2, hm2, by omega, by simpa using htk⟩
theorem bytes_few {l : List Cx} (h : Wrt l) (hl : l.length ≤ 400) (hw : wtXs l ≤ 20 * 400) : (encTb l).length ≤ 60000 := by
  have h1 := encTb_lenW h
  have h2 : nBk l.length ≤ 50 := by unfold nBk; omega
  have h3 : nOf l.length 10 ≤ 501 := by unfold nOf; omega
  omega
namespace tableWrites

attribute [local go_sem] Oper.pureAt Oper.pureUpon
set_option maxRecDepth 100000 in
set_option maxHeartbeats 4000000 in
theorem walk (ao : Option Addr) (l : List Cx) (cap : Nat) (k f u : Kb) (w00 : World) (hs0 : XSees w00 ao l) (_hn : ao = none → l.length = 0) (hl : l.length ≤ 140737488355328) (hc : ∀ c ∈ l, c.In ∧ wtX c ≤ 562949953421312) (hcap : l.length ≤ cap) (_hi : InI k.r ∧ InI f.r ∧ InI u.r) (hk : k.Big) (ht00 : Tab w00) (ue : TypeId) (pv : Value) (he00 : Err w00 ue pv) :
    Calls Tryz.prog 3 #[.slice ao l.length cap, askV k f u] w00 fun e w' => e = .returned (.bool true) ∧ Below w00.heap.size w00 w' := by
  obtain ⟨kt, kp, kr, kc⟩ := k
  obtain ⟨ft, fp, fr, fc⟩ := f
  obtain ⟨ut, up, ur, uc⟩ := u
  obtain ⟨w0, hw0⟩ : ∃ w0, w0 = w00.alloc (.cells #[.string kt, .string kp, .int .i64 kr, .string kc, .string ft, .string fp, .int .i64 fr, .string fc, .string ut, .string up, .int .i64 ur, .string uc] 26) := ⟨_, rfl⟩
  have hbx : Below w00.heap.size w00 w0 := by rw [hw0]; exact (Below.refl _ _).alloc (Nat.le_refl _) _
  have hAx : Blk w0 w00.heap.size [.string kt, .string kp, .int .i64 kr, .string kc, .string ft, .string fp, .int .i64 fr, .string fc, .string ut, .string up, .int .i64 ur, .string uc] 26 := by rw [hw0]; exact Blk.new w00 _ _
  have hs : XSees w0 ao l := hs0.below hbx (Nat.le_refl _)
  have hgT0 : 0 < w00.heap.size := World.block_lt_of_cell? _ _ (ht00 0 (by decide))
  have ht0 : Tab w0 := ht00.belowB hbx hgT0
  have he0 : Err w0 ue pv := he00.below hbx (Nat.le_refl _)
  have hgT : 0 < w0.heap.size := World.block_lt_of_cell? _ _ (ht0 0 (by decide))
  have HB : Hid (∀ x, Below w0.heap.size w0 x → Blk x w00.heap.size [.string kt, .string kp, .int .i64 kr, .string kc, .string ft, .string fp, .int .i64 fr, .string fc, .string ut, .string up, .int .i64 ur, .string uc] 26 ∧ Below w00.heap.size w00 x) := fun x hx => ⟨hAx.carry (hx.block _ hAx.lt), hbx.trans (hx.mono hbx.size)⟩
  have LV : Hid (∀ u, Below w0.heap.size w0 u → Calls Tryz.prog 7 #[] u fun x w' => x = .returned (.bool true) ∧ Below u.heap.size u w') := fun u hu =>
    lives9_any u (ht0.belowB hu hgT) ue pv (he0.below hu (Nat.le_refl _))
  have W1 : Hid (Calls Tryz.prog 6 #[.slice ao l.length cap, .int .i64 400] w0 fun e w' => (∃ z : Nat, e = .returned (.int .i64 z) ∧ z ≤ 1000000000000000 ∧ (z ≤ 400 → l.length ≤ 400 ∧ wtXs l ≤ 20 * 400)) ∧ Below w0.heap.size w0 w') :=
    weigh9_any ao l cap 400 w0 hs (by omega) hl (fun c h => (hc c h).2)
  have HS : Hid (∀ x, Below w0.heap.size w0 x → XSees x ao l) := fun x h => hs.below h (Nat.le_refl _)
  have HT : Hid (∀ x, Below w0.heap.size w0 x → Tab x ∧ Err x ue pv) := fun x hx => ⟨ht0.belowB hx hgT, he0.below hx (Nat.le_refl _)⟩
  have HNU : Hid (∀ c ∈ l, c.Nums) := fun c h => ⟨(hc c h).1.1, (hc c h).1.2⟩
  have HFI : Hid (wtXs l ≤ 20 * 400 → ∀ c ∈ l, c.Fit) := fun hw c h => by
    obtain ⟨a1, a2, a3, a4⟩ := wt_mem9 h hw
    exact ⟨by unfold maxLen; omega, by unfold maxLen; omega, by unfold maxLen; omega, by unfold maxLen; omega⟩
  have HK : Hid (Kb.Big ⟨kt, kp, kr, kc⟩) := hk
  simp only [askV]
  clear hs hs0 hk ht0 ht00 he0 he00 hgT hgT0 hAx hbx hc hl
  go_enter Tryz.func3, Tryz.ntmps3
  go_wp2_with fail
  rw [← hw0]
  clear hw0
  refine W1.out.mono ?_
  rintro e w1 ⟨⟨z, rfl, hz, hzm⟩, hb1⟩
  by_cases hbig : 400 < z
  · have hbz : (400 : Int) < (z : Int) := by omega
    clear hzm
    go_wp2_with fail
    refine (LV.out _ hb1).mono ?_
    rintro e w2 ⟨rfl, hb2⟩
    have hb3 := (HB.out w2 (hb1.trans (hb2.mono hb1.size))).2
    go_wp2_with fail
    go_ret
    exact ⟨rfl, hb3⟩
  have hbz : ¬ (400 : Int) < (z : Int) := by omega
  obtain ⟨hl4, hw4⟩ := hzm (by omega)
  have HW4 : Hid (wtXs l ≤ 20 * 400) := hw4
  clear hzm hbig hw4
  cases hwr : wrtB l with
  | false =>
    have WB : Hid (Calls Tryz.prog 8 #[.slice ao l.length cap] w1 fun e w' => e = .returned (.tuple #[.slice none 0 0, .int .i64 2]) ∧ Below w1.heap.size w1 w') := write_bad ao l cap w1 (HS.out w1 hb1) (by omega) (HFI.out HW4.out) hwr
    have RB : Hid (∀ x, Below w1.heap.size w1 x → Calls Tryz.prog 9 #[.slice ao l.length cap] x fun e w' => e = .returned (.tuple #[.slice none 0 0, .int .i64 2]) ∧ Below x.heap.size x w') := fun x hx => rwrite_bad ao l cap x (HS.out x (hb1.trans (hx.mono hb1.size))) (by omega) (HFI.out HW4.out) hwr
    have SM : Hid (∀ x : World, Calls Tryz.prog 10 #[.slice none 0 0, .slice none 0 0] x fun e w' => e = .returned (.bool true) ∧ w' = x) := fun x => same_any none none [] [] 0 0 x (Sees.nil _ _) (Sees.nil _ _) (fun _ => rfl) (fun _ => rfl)
    have TL : Hid (∀ x : World, Calls Tryz.prog 11 #[.slice none 0 0, .agg #[.string kt, .string kp, .int .i64 kr, .string kc, .string ft, .string fp, .int .i64 fr, .string fc, .string ut, .string up, .int .i64 ur, .string uc]] x fun e w' => e = .returned (.bool true) ∧ Below x.heap.size x w') := fun x => tells_nil none 0 ⟨kt, kp, kr, kc⟩ ⟨ft, fp, fr, fc⟩ ⟨ut, up, ur, uc⟩ x
    clear hwr HS HFI HNU
    go_wp2_with fail
    refine WB.out.mono ?_
    rintro e u1 ⟨rfl, g1⟩
    go_wp2_with fail
    refine (RB.out u1 g1).mono ?_
    rintro e u2 ⟨rfl, g2⟩
    go_wp2_with fail
    refine (SM.out u2).mono ?_
    rintro e u3 ⟨rfl, rfl⟩
    have hb2 : Below w0.heap.size w0 u3 := hb1.trans ((g1.trans (g2.mono g1.size)).mono hb1.size)
    obtain ⟨b9, -⟩ := HB.out u3 hb2
    have m0 := b9.cell 0 rfl
    have m1 := b9.cell 1 rfl
    have m2 := b9.cell 2 rfl
    have m3 := b9.cell 3 rfl
    have m4 := b9.cell 4 rfl
    have m5 := b9.cell 5 rfl
    have m6 := b9.cell 6 rfl
    have m7 := b9.cell 7 rfl
    have m8 := b9.cell 8 rfl
    have m9 := b9.cell 9 rfl
    have m10 := b9.cell 10 rfl
    have m11 := b9.cell 11 rfl
    go_wp2_with fail
    clear b9 m0 m1 m2 m3 m4 m5 m6 m7 m8 m9 m10 m11
    refine (TL.out u3).mono ?_
    rintro e u4 ⟨rfl, g4⟩
    have hb4 : Below w0.heap.size w0 u4 := hb2.trans (g4.mono hb2.size)
    go_wp2_with fail
    refine (LV.out u4 hb4).mono ?_
    rintro e u5 ⟨rfl, g5⟩
    have hb5 := (HB.out u5 (hb4.trans (g5.mono hb4.size))).2
    go_wp2_with fail
    go_ret
    exact ⟨rfl, hb5⟩
  | true =>
    have hp3 : 0 < l.length ∧ ∀ c ∈ l, goodC c = true := by
      unfold wrtB at hwr
      simp only [Bool.and_eq_true, decide_eq_true_eq, List.all_eq_true] at hwr
      exact ⟨by omega, fun c hc => by simp_all⟩
    have hWr : Wrt l := ⟨hp3.2, HNU.out, by omega⟩
    have hbl := bytes_few hWr hl4 HW4.out
    have hpos := encTb_pos l
    obtain ⟨b, off, rfl, x0⟩ := (HS.out w1 hb1) 0 _ (List.getElem?_eq_getElem hp3.1)
    have hbb : b < w1.heap.size := World.block_lt_of_cell? _ _ x0.c0
    clear x0
    have WA : Hid (Calls Tryz.prog 8 #[.slice (some ⟨b, off, none⟩) l.length cap] w1 fun e w' => ∃ g c, e = .returned (.tuple #[.slice (some ⟨g, 0, none⟩) (encTb l).length c, .int .i64 0]) ∧ Row9 w' g (encTb l) c ∧ Below w1.heap.size w1 w') :=
      (write_any b off cap l w1 (HS.out w1 hb1) (by omega) hcap hWr.fit HNU.out hbb (HT.out w1 hb1).1 hwr).mono fun e w' ⟨v, h1, h2, h3⟩ => by
        obtain ⟨g, c, rfl, h4⟩ := row9_of h2 hpos
        exact ⟨g, c, h1, h4, h3⟩
    have RA : Hid (∀ x, Below w1.heap.size w1 x → Calls Tryz.prog 9 #[.slice (some ⟨b, off, none⟩) l.length cap] x fun e w' => ∃ g c, e = .returned (.tuple #[.slice (some ⟨g, 0, none⟩) (encTb l).length c, .int .i64 0]) ∧ Row9 w' g (encTb l) c ∧ Below x.heap.size x w') := fun x hx =>
      (rwrite_any b off cap l x (HS.out x (hb1.trans (hx.mono hb1.size))) (by omega) hcap hWr.fit HNU.out hwr).mono fun e w' ⟨v, h1, h2⟩ => by
        obtain ⟨g, c, rfl, h4⟩ := row9_of h2.own hpos
        exact ⟨g, c, h1, h4, h2.bel⟩
    have SM : Hid (∀ (x : World) (g c g' c' : Nat), Row9 x g (encTb l) c → Row9 x g' (encTb l) c' → Calls Tryz.prog 10 #[.slice (some ⟨g, 0, none⟩) (encTb l).length c, .slice (some ⟨g', 0, none⟩) (encTb l).length c'] x fun e w' => e = .returned (.bool true) ∧ w' = x) := fun x g c g' c' h1 h2 => by
      have h := same_any (some ⟨g, 0, none⟩) (some ⟨g', 0, none⟩) (encTb l) (encTb l) c c' x h1.sees h2.sees (fun h => by cases h) (fun h => by cases h)
      rw [beq_self_eq_true] at h
      exact h
    have TL : Hid (∀ (x : World) (g c : Nat), Below w0.heap.size w0 x → Row9 x g (encTb l) c → Calls Tryz.prog 11 #[.slice (some ⟨g, 0, none⟩) (encTb l).length c, .agg #[.string kt, .string kp, .int .i64 kr, .string kc, .string ft, .string fp, .int .i64 fr, .string fc, .string ut, .string up, .int .i64 ur, .string uc]] x fun e w' => e = .returned (.bool true) ∧ Below x.heap.size x w') := fun x g c hx h1 => by
      have hcm : c ≤ 9223372036854775807 ∧ (encTb l).length ≤ c := by obtain ⟨cur, -, q1, q2, -⟩ := h1; unfold maxLen at q2; omega
      exact tells_some g 0 c (encTb l) ⟨kt, kp, kr, kc⟩ ⟨ft, fp, fr, fc⟩ ⟨ut, up, ur, uc⟩ x h1.sees hpos hbl hcm.2 hcm.1 h1.lt HK.out (HT.out x hx).1 ue pv (HT.out x hx).2
    generalize encTb l = r at *
    clear hwr HS HFI HNU hp3 hWr hbl hpos hbb HT HK W1
    go_wp2_with fail
    refine WA.out.mono ?_
    rintro e u1 ⟨p1, c1, rfl, r1, g1⟩
    go_wp2_with fail
    refine (RA.out u1 g1).mono ?_
    rintro e u2 ⟨p2, c2, rfl, r2, g2⟩
    have r1' := r1.carry (g2.block _ r1.lt)
    go_wp2_with fail
    refine (SM.out u2 p1 c1 p2 c2 r1' r2).mono ?_
    rintro e u3 ⟨rfl, rfl⟩
    have hb2 : Below w0.heap.size w0 u3 := hb1.trans ((g1.trans (g2.mono g1.size)).mono hb1.size)
    obtain ⟨b9, -⟩ := HB.out u3 hb2
    have m0 := b9.cell 0 rfl
    have m1 := b9.cell 1 rfl
    have m2 := b9.cell 2 rfl
    have m3 := b9.cell 3 rfl
    have m4 := b9.cell 4 rfl
    have m5 := b9.cell 5 rfl
    have m6 := b9.cell 6 rfl
    have m7 := b9.cell 7 rfl
    have m8 := b9.cell 8 rfl
    have m9 := b9.cell 9 rfl
    have m10 := b9.cell 10 rfl
    have m11 := b9.cell 11 rfl
    go_wp2_with fail
    clear b9 m0 m1 m2 m3 m4 m5 m6 m7 m8 m9 m10 m11
    refine (TL.out u3 p1 c1 hb2 r1').mono ?_
    rintro e u4 ⟨rfl, g4⟩
    have hb4 : Below w0.heap.size w0 u4 := hb2.trans (g4.mono hb2.size)
    go_wp2_with fail
    refine (LV.out u4 hb4).mono ?_
    rintro e u5 ⟨rfl, g5⟩
    have hb5 := (HB.out u5 (hb4.trans (g5.mono hb4.size))).2
    go_wp2_with fail
    go_ret
    exact ⟨rfl, hb5⟩
end tableWrites
end Go.Proofs.YtdookhmaiapclaaGreatDoor
