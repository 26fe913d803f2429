/-
  CONTRACTS: a manifest in bytes (Bytes).
-/
import Derived.Test.YthihljjefncfoaaDoorManGood
import Derived.Test.YthihljjefncfoaaDoorManCat
import Derived.Test.YthihljjefncfoaaDoorCodFrame
namespace Go.Proofs.YthihljjefncfoaaDoor
open Go.RowKit

theorem owns_baseI {w : World} {base base' e n : Nat} {v : Value} {xs : List Value} (h : w.ownsRow base e 1 v n xs) (hb : base' ≤ base) : w.ownsRow base' e 1 v n xs := by
  refine ⟨h.1, ?_⟩
  rcases h.2 with hn | ⟨g, cap, cur, rfl, h1, rest⟩
  · exact .inl hn
  · exact .inr ⟨g, cap, cur, rfl, Nat.le_trans hb h1, rest⟩
theorem numsB_take (l : List Int) (k : Nat) (h : k < l.length) : numsB (l.take (k + 1)) = numsB (l.take k) ++ numL (l.getD k 0).toNat := by
  rw [List.take_add_one, numsB_app, List.getElem?_eq_getElem h, List.getD_eq_getElem?_getD, List.getElem?_eq_getElem h]
  simp [numsB]
theorem numsB_lenT (l : List Int) (k : Nat) : (numsB (l.take k)).length ≤ 10 * l.length := by
  have := numsB_len (l.take k)
  rw [List.length_take] at this
  omega
set_option maxRecDepth 100000 in
set_option maxHeartbeats 1000000 in
theorem bytesM_bad (ao : Option Addr) (cap : Nat) (m : Mf) (w : World) (h : MSees w ao cap m) (hl : m.ts.length ≤ 1000000) (hc : cap ≤ 9223372036854775807) (hg : goodM m = false) :
    Calls Tryd.prog 7 #[mval ao cap m] w fun e w' => e = .returned (.tuple #[.slice none 0 0, .int .i64 2]) ∧ Below w.heap.size w w' := by
  have HB : Hid (Below w.heap.size w (w.alloc (.cells #[.slice ao m.ts.length cap, .int .i64 m.nx, .int .i64 m.fr] 24))) := (Below.refl _ _).alloc (Nat.le_refl _) _
  have hk := Blk.new w [.slice ao m.ts.length cap, .int .i64 m.nx, .int .i64 m.fr] 24
  have c0 := hk.cell 0 rfl
  have c1 := hk.cell 1 rfl
  have c2 := hk.cell 2 rfl
  have CG : Hid (Calls Tryd.prog 12 #[.agg #[.slice ao m.ts.length cap, .int .i64 m.nx, .int .i64 m.fr]] (w.alloc (.cells #[.slice ao m.ts.length cap, .int .i64 m.nx, .int .i64 m.fr] 24)) fun e w' => e = .returned (.bool false) ∧ Below w.heap.size w w') := by
    have := good_any ao cap m _ (h.below HB.out (Nat.le_refl _)) hl hc
    rw [hg] at this
    exact this.mono fun e w' hh => ⟨hh.1, HB.out.trans (hh.2.mono HB.out.size)⟩
  clear h hl hc hg hk
  unfold mval
  go_enter Tryd.func7, Tryd.ntmps7
  go_wp2_with fail
  go_fit CG.out
  rintro e w2 ⟨rfl, hB⟩
  have HB2 : Hid (Below w.heap.size w w2) := hB
  clear hB
  go_wp2_with fail
  go_ret2
  exact ⟨rfl, HB2.out⟩
set_option maxRecDepth 100000 in
set_option maxHeartbeats 2000000 in
theorem bytesM_ok (ao : Option Addr) (cap : Nat) (m : Mf) (w : World) (h : MSees w ao cap m) (hc : cap ≤ 9223372036854775807) (ht : Tab w) (hg : goodM m = true) :
    Calls Tryd.prog 7 #[mval ao cap m] w fun e w' => ∃ g, e = .returned (.tuple #[.slice (some ⟨g, 0, none⟩) (encM m).length (encM m).length, .int .i64 0]) ∧ w.heap.size ≤ g ∧ Row w' g (encM m) ∧ Below w.heap.size w w' := by
  have hl30 := (goodM_iff.1 hg).2.2.1
  have HB : Hid (Below w.heap.size w (w.alloc (.cells #[.slice ao m.ts.length cap, .int .i64 m.nx, .int .i64 m.fr] 24))) := (Below.refl _ _).alloc (Nat.le_refl _) _
  have hk := Blk.new w [.slice ao m.ts.length cap, .int .i64 m.nx, .int .i64 m.fr] 24
  have c0 := hk.cell 0 rfl
  have c1 := hk.cell 1 rfl
  have c2 := hk.cell 2 rfl
  have CG : Hid (Calls Tryd.prog 12 #[.agg #[.slice ao m.ts.length cap, .int .i64 m.nx, .int .i64 m.fr]] (w.alloc (.cells #[.slice ao m.ts.length cap, .int .i64 m.nx, .int .i64 m.fr] 24)) fun e w' => e = .returned (.bool true) ∧ Below w.heap.size w w' ∧ Blk w' w.heap.size [.slice ao m.ts.length cap, .int .i64 m.nx, .int .i64 m.fr] 24) := by
    have := good_any ao cap m _ (h.below HB.out (Nat.le_refl _)) (by omega) hc
    rw [hg] at this
    exact this.mono fun e w' hh => ⟨hh.1, HB.out.trans (hh.2.mono HB.out.size), hk.carry (hh.2.block _ hk.lt)⟩
  have CC : Hid (∀ w2, Below w.heap.size w w2 → Calls Tryd.prog 23 #[.slice (some ⟨w2.heap.size + 1, 0, none⟩) 2 2] ((w2.alloc (.cells #[.int .i64 m.nx, .int .i64 m.fr, .int .i64 (m.ts.length : Int)] 3)).alloc (.cells #[.slice (some ⟨w2.heap.size, 0, none⟩) 3 3, .slice ao m.ts.length cap] 22)) fun e w' => ∃ b off cp, e = .returned (.slice (some ⟨b, off, none⟩) (listM m).length cp) ∧ (∀ j, j < (listM m).length → w'.cell? ⟨b, off + j, none⟩ = some (.int .i64 ((listM m).getD j 0))) ∧ Below w.heap.size w w') := by
    intro w2 hb2
    have k1 := Blk.new w2 [.int .i64 m.nx, .int .i64 m.fr, .int .i64 (m.ts.length : Int)] 3
    have hb3 : Below w.heap.size w (w2.alloc (.cells #[.int .i64 m.nx, .int .i64 m.fr, .int .i64 (m.ts.length : Int)] 3)) := hb2.alloc hb2.size _
    have k2 := Blk.new (w2.alloc (.cells #[.int .i64 m.nx, .int .i64 m.fr, .int .i64 (m.ts.length : Int)] 3)) [.slice (some ⟨w2.heap.size, 0, none⟩) 3 3, .slice ao m.ts.length cap] 22
    rw [World.size_alloc] at k2
    have k1' := k1.alloc (.cells #[.slice (some ⟨w2.heap.size, 0, none⟩) 3 3, .slice ao m.ts.length cap] 22)
    have hb4 : Below w.heap.size w ((w2.alloc (.cells #[.int .i64 m.nx, .int .i64 m.fr, .int .i64 (m.ts.length : Int)] 3)).alloc (.cells #[.slice (some ⟨w2.heap.size, 0, none⟩) 3 3, .slice ao m.ts.length cap] 22)) := hb3.alloc hb3.size _
    have hm := h.see.below hb4 (Nat.le_refl _)
    have hsz := hb4.size
    generalize ((w2.alloc (.cells #[.int .i64 m.nx, .int .i64 m.fr, .int .i64 (m.ts.length : Int)] 3)).alloc (.cells #[.slice (some ⟨w2.heap.size, 0, none⟩) 3 3, .slice ao m.ts.length cap] 22)) = w4 at *
    have C := concatI_any (w2.heap.size + 1) 2 (fun k => if k = 0 then [m.nx, m.fr, (m.ts.length : Int)] else m.ts) (fun k => if k = 0 then some ⟨w2.heap.size, 0, none⟩ else ao) (fun k => if k = 0 then 3 else cap) (fun k => if k = 0 then [] else if k = 1 then [m.nx, m.fr, (m.ts.length : Int)] else listM m) w4 rfl
      (fun k hk => by
        rcases (show k = 0 ∨ k = 1 by omega) with rfl | rfl
        · rfl
        · rfl)
      (fun k hk => by
        rcases (show k = 0 ∨ k = 1 ∨ k = 2 by omega) with rfl | rfl | rfl
        · simp
        · simp
        · simp [listM]; omega)
      (by simp [listM]) (by omega)
      (fun k hk => by
        rcases (show k = 0 ∨ k = 1 by omega) with rfl | rfl
        · exact k2.cell 0 rfl
        · exact k2.cell 1 rfl)
      (fun k hk => by
        rcases (show k = 0 ∨ k = 1 by omega) with rfl | rfl
        · intro i x hx
          refine ⟨w2.heap.size, 0, rfl, ?_⟩
          have hi : i < 3 := (List.getElem?_eq_some_iff.1 hx).1
          refine k1'.cell (0 + i) ?_
          rw [Nat.zero_add]
          rcases (show i = 0 ∨ i = 1 ∨ i = 2 by omega) with rfl | rfl | rfl <;> (simp at hx; subst hx; rfl)
        · exact hm)
      (fun k hk => by
        rcases (show k = 0 ∨ k = 1 by omega) with rfl | rfl
        · intro e; cases e
        · exact h.nil)
    refine C.mono ?_
    rintro e w5 ⟨v, rfl, ho, hb5⟩
    have ho' : w5.ownsRow w4.heap.size 3 1 v (listM m).length (vI (listM m)) := ho
    obtain ⟨a5, cp, rfl, hs5⟩ := owns_isees ho'
    obtain ⟨b, off, rfl, hcs⟩ := isees_at hs5 (by simp [listM])
    exact ⟨b, off, cp, rfl, hcs, hb4.trans (hb5.mono hsz)⟩
  have hbd := good_bdd hg
  have hLl : (listM m).length ≤ 33 := by simp [listM]; omega
  have HT : Hid (∀ k, k < (listM m).length → ∃ u : Nat, u ≤ 999999999 ∧ (listM m).getD k 0 = (u : Int) ∧ numsB ((listM m).take (k + 1)) = numsB ((listM m).take k) ++ numL u) := fun k hk => by
    have hmem : (listM m).getD k 0 ∈ listM m := by rw [List.getD_eq_getElem?_getD, List.getElem?_eq_getElem hk]; exact List.getElem_mem hk
    have := hbd _ hmem
    exact ⟨((listM m).getD k 0).toNat, by omega, by omega, numsB_take _ k hk⟩
  have HLn : Hid (∀ k, (numsB ((listM m).take k)).length ≤ 330) := fun k => by have := numsB_lenT (listM m) k; omega
  have HE : Hid (encM m = frameL (numsB ((listM m).take (listM m).length))) := by show _ = _; rw [List.take_length]; rfl
  have HEl : Hid ((encM m).length = (numsB ((listM m).take (listM m).length)).length + 8) := by show _ = _; rw [HE.out, frameL_length]
  have HTab : Hid (∀ u, Below w.heap.size w u → Tab u) := fun u hu => ht.below hu (Nat.le_refl _)
  obtain ⟨ts, nx, fr⟩ := m
  dsimp only at *
  clear h hc hg hk hbd ht
  unfold mval
  dsimp only
  generalize listM ⟨ts, nx, fr⟩ = L at *
  generalize encM ⟨ts, nx, fr⟩ = E at *
  have hLi : (L.length : Int) ≤ 33 := by omega
  go_enter Tryd.func7, Tryd.ntmps7
  go_wp2_with fail
  go_fit CG.out
  rintro e w2 ⟨rfl, hB, hk2⟩
  have e0 := hk2.cell 0 rfl
  have e1 := hk2.cell 1 rfl
  have e2 := hk2.cell 2 rfl
  have f0 := (hk2.alloc (.cells #[.int .i64 nx, .int .i64 fr, .int .i64 (ts.length : Int)] 3)).cell 0 rfl
  have CC2 := CC.out w2 hB
  clear hB hk2 CG CC
  go_wp2_with fail
  go_fit CC2
  rintro e w5 ⟨b, off, cp, rfl, hcs, hB5⟩
  have HCS : Hid (∀ u, Below w5.heap.size w5 u → ∀ j, j < L.length → u.cell? ⟨b, off + j, none⟩ = some (.int .i64 (L.getD j 0))) := fun u hu j hj => by rw [hu.cell (World.block_lt_of_cell? _ _ (hcs j hj))]; exact hcs j hj
  have HB5 : Hid (Below w.heap.size w w5) := hB5
  clear hcs hB5 CC2 e0 e1 e2 f0
  go_wp2_with fail
  go_loopw [23, 4] (fun i s wr => ∃ (k : Nat) (a4 : Option Addr) (c4 : Nat), k ≤ L.length ∧ i = .int .i64 (k : Int) ∧ s = .slice a4 (numsB (L.take k)).length c4 ∧ Sees wr a4 (numsB (L.take k)) ∧ (a4 = none → (numsB (L.take k)).length = 0) ∧ Below w5.heap.size w5 wr) (fun i _ _ => L.length - (intOf i).toNat)
  case atStart => exact ⟨0, none, 0, Nat.zero_le _, rfl, rfl, Sees.nil _ _, fun _ => rfl, Below.refl _ _⟩
  case round =>
    obtain ⟨k, a4, c4, hk, rfl, rfl, hs4, hn4, hBr⟩ := hrel
    rcases Nat.lt_or_ge k L.length with hlt | hge
    · obtain ⟨u, hu, hx, hnx⟩ := HT.out k hlt
      have d1 := HCS.out wr hBr k hlt
      rw [hx] at d1
      have CP : Hid (Calls Tryd.prog 24 #[.slice a4 (numsB (L.take k)).length c4, .int .u64 (u : Int)] wr fun e w' => ∃ a5 c5, e = .returned (.slice a5 (numsB (L.take (k + 1))).length c5) ∧ Sees w' a5 (numsB (L.take (k + 1))) ∧ (a5 = none → (numsB (L.take (k + 1))).length = 0) ∧ Below w5.heap.size w5 w') := by
        refine (put_any a4 _ c4 u wr hs4 hn4 (by have := HLn.out k; omega) (by omega)).mono ?_
        rintro e w' ⟨v', rfl, ho, hb⟩
        rw [← hnx] at ho
        obtain ⟨a5, c5, rfl, s5, l5, n5⟩ := owns_sees ho
        rw [← l5] at n5 ⊢
        exact ⟨a5, c5, rfl, s5, fun e => (n5 e).1, hBr.trans (hb.mono hBr.size)⟩
      have hlti : (k : Int) < (L.length : Int) := by omega
      have hui : (u : Int) ≤ 999999999 := by omega
      clear hs4 hn4 hBr hx hnx hu
      generalize (numsB (L.take k)).length = N at *
      go_wp2_with fail
      go_fit CP.out
      rintro e w6 ⟨a5, c5, rfl, s5, n5, hB6⟩
      have HR : Hid (Sees w6 a5 (numsB (L.take (k + 1))) ∧ (a5 = none → (numsB (L.take (k + 1))).length = 0) ∧ Below w5.heap.size w5 w6) := ⟨s5, n5, hB6⟩
      clear s5 n5 hB6 CP
      go_wp2_with fail
      go_roundw
      case rel => exact ⟨k + 1, a5, c5, by omega, by go_num, rfl, HR.out.1, HR.out.2.1, HR.out.2.2⟩
      case measure => (simp [intOf]; try omega)
    · obtain rfl : L.length = k := by omega
      have hBw : Below w.heap.size w wr := HB5.out.trans (hBr.mono HB5.out.size)
      have hLn := HLn.out L.length
      have HE2 := HE.out
      have HEl2 := HEl.out
      rw [List.take_length] at hs4 hn4 hLn HE2 HEl2 ⊢
      have CF : Hid (Calls Tryd.prog 25 #[.slice a4 (numsB L).length c4] wr fun e w' => e = .returned (.slice (some ⟨wr.heap.size, 0, none⟩) E.length E.length) ∧ w.heap.size ≤ wr.heap.size ∧ Row w' wr.heap.size E ∧ Below w.heap.size w w') := by
        refine (frame_any a4 _ c4 wr (by omega) hs4 hn4 (HTab.out _ hBw)).mono ?_
        rintro e w' ⟨rfl, hr, hb⟩
        rw [HEl2]
        rw [← HE2] at hr
        exact ⟨rfl, hBw.size, hr, hBw.trans (hb.mono hBw.size)⟩
      clear hs4 hn4 hBr hBw hLn HE2 HEl2
      go_wp2_with fail
      go_fit CF.out
      rintro e w7 ⟨rfl, hq⟩
      go_wp2_with fail
      go_ret2
      exact ⟨_, rfl, hq⟩
end Go.Proofs.YthihljjefncfoaaDoor
