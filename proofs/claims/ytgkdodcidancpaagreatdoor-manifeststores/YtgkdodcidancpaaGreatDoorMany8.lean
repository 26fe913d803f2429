/-
  SEVERAL TEXTS IN ONE: ManBytes, ManTake, RowAid.
-/
import Derived.Test.YtgkdodcidancpaaGreatDoorMany6
import Derived.Test.YtgkdodcidancpaaGreatDoorMany2
import Derived.Test.YtgkdodcidancpaaGreatDoorMany4
import Derived.Test.YtgkdodcidancpaaGreatDoorMany7
import Derived.Test.YtgkdodcidancpaaGreatDoorOwn
import Derived.Test.YtgkdodcidancpaaGreatDoorRows
import Derived.ProofKit
import Derived.OpenShut
import Derived.ShutString
import Derived.ChangeOld
import Derived.SizedLaws
namespace Go.Proofs.YtgkdodcidancpaaGreatDoor
open Go.RowKit

theorem owns_baseI {w : World} {base base' e n : Nat} {v : Value} {xs : List Value} (h : w.ownsRow base e 1 v n xs) (hb : base' ≤ base) : w.ownsRow base' e 1 v n xs := by
  refine ⟨h.1, ?_⟩
  rcases h.2 with hn | ⟨g, cap, cur, rfl, h1, rest⟩
  · exact .inl hn
  · exact .inr ⟨g, cap, cur, rfl, Nat.le_trans hb h1, rest⟩
theorem numsB_take (l : List Int) (k : Nat) (h : k < l.length) : numsB (l.take (k + 1)) = numsB (l.take k) ++ numL (l.getD k 0).toNat := by
  rw [List.take_add_one, numsB_app, List.getElem?_eq_getElem h, List.getD_eq_getElem?_getD, List.getElem?_eq_getElem h]
  simp [numsB]
theorem numsB_lenT (l : List Int) (k : Nat) : (numsB (l.take k)).length ≤ 10 * l.length := by
  have := numsB_len (l.take k)
  rw [List.length_take] at this
  omega
set_option maxRecDepth 100000 in
set_option maxHeartbeats 1000000 in
theorem bytesM_bad (ao : Option Addr) (cap : Nat) (m : Mf) (w : World) (h : MSees w ao cap m) (hl : m.ts.length ≤ 1000000) (hc : cap ≤ 9223372036854775807) (hg : goodM m = false) :
    Calls Tryz.prog 19 #[mval ao cap m] w fun e w' => e = .returned (.tuple #[.slice none 0 0, .int .i64 2]) ∧ Below w.heap.size w w' := by
  have HB : Hid (Below w.heap.size w (w.alloc (.cells #[.slice ao m.ts.length cap, .int .i64 m.nx, .int .i64 m.fr] 36))) := (Below.refl _ _).alloc (Nat.le_refl _) _
  have hk := Blk.new w [.slice ao m.ts.length cap, .int .i64 m.nx, .int .i64 m.fr] 36
  have c0 := hk.cell 0 rfl
  have c1 := hk.cell 1 rfl
  have c2 := hk.cell 2 rfl
  have CG : Hid (Calls Tryz.prog 47 #[.agg #[.slice ao m.ts.length cap, .int .i64 m.nx, .int .i64 m.fr]] (w.alloc (.cells #[.slice ao m.ts.length cap, .int .i64 m.nx, .int .i64 m.fr] 36)) fun e w' => e = .returned (.bool false) ∧ Below w.heap.size w w') := by
    have := good_anyM ao cap m _ (h.below HB.out (Nat.le_refl _)) hl hc
    rw [hg] at this
    exact this.mono fun e w' hh => ⟨hh.1, HB.out.trans (hh.2.mono HB.out.size)⟩
  clear h hl hc hg hk
  unfold mval
  go_enter Tryz.func19, Tryz.ntmps19
  go_wp2_with fail
  go_fit CG.out
  rintro e w2 ⟨rfl, hB⟩
  have HB2 : Hid (Below w.heap.size w w2) := hB
  clear hB
  go_wp2_with fail
  go_ret2
  exact ⟨rfl, HB2.out⟩
set_option maxRecDepth 100000 in
set_option maxHeartbeats 2000000 in
theorem bytesM_ok (ao : Option Addr) (cap : Nat) (m : Mf) (w : World) (h : MSees w ao cap m) (hc : cap ≤ 9223372036854775807) (ht : Tab w) (hg : goodM m = true) :
    Calls Tryz.prog 19 #[mval ao cap m] w fun e w' => ∃ g, e = .returned (.tuple #[.slice (some ⟨g, 0, none⟩) (encM m).length (encM m).length, .int .i64 0]) ∧ w.heap.size ≤ g ∧ Row w' g (encM m) ∧ Below w.heap.size w w' := by
  have hl30 := (goodM_iff.1 hg).2.2.1
  have HB : Hid (Below w.heap.size w (w.alloc (.cells #[.slice ao m.ts.length cap, .int .i64 m.nx, .int .i64 m.fr] 36))) := (Below.refl _ _).alloc (Nat.le_refl _) _
  have hk := Blk.new w [.slice ao m.ts.length cap, .int .i64 m.nx, .int .i64 m.fr] 36
  have c0 := hk.cell 0 rfl
  have c1 := hk.cell 1 rfl
  have c2 := hk.cell 2 rfl
  have CG : Hid (Calls Tryz.prog 47 #[.agg #[.slice ao m.ts.length cap, .int .i64 m.nx, .int .i64 m.fr]] (w.alloc (.cells #[.slice ao m.ts.length cap, .int .i64 m.nx, .int .i64 m.fr] 36)) fun e w' => e = .returned (.bool true) ∧ Below w.heap.size w w' ∧ Blk w' w.heap.size [.slice ao m.ts.length cap, .int .i64 m.nx, .int .i64 m.fr] 36) := by
    have := good_anyM ao cap m _ (h.below HB.out (Nat.le_refl _)) (by omega) hc
    rw [hg] at this
    exact this.mono fun e w' hh => ⟨hh.1, HB.out.trans (hh.2.mono HB.out.size), hk.carry (hh.2.block _ hk.lt)⟩
  have CC : Hid (∀ w2, Below w.heap.size w w2 → Calls Tryz.prog 48 #[.slice (some ⟨w2.heap.size + 1, 0, none⟩) 2 2] ((w2.alloc (.cells #[.int .i64 m.nx, .int .i64 m.fr, .int .i64 (m.ts.length : Int)] 3)).alloc (.cells #[.slice (some ⟨w2.heap.size, 0, none⟩) 3 3, .slice ao m.ts.length cap] 34)) fun e w' => ∃ b off cp, e = .returned (.slice (some ⟨b, off, none⟩) (listM m).length cp) ∧ (∀ j, j < (listM m).length → w'.cell? ⟨b, off + j, none⟩ = some (.int .i64 ((listM m).getD j 0))) ∧ Below w.heap.size w w') := by
    intro w2 hb2
    have k1 := Blk.new w2 [.int .i64 m.nx, .int .i64 m.fr, .int .i64 (m.ts.length : Int)] 3
    have hb3 : Below w.heap.size w (w2.alloc (.cells #[.int .i64 m.nx, .int .i64 m.fr, .int .i64 (m.ts.length : Int)] 3)) := hb2.alloc hb2.size _
    have k2 := Blk.new (w2.alloc (.cells #[.int .i64 m.nx, .int .i64 m.fr, .int .i64 (m.ts.length : Int)] 3)) [.slice (some ⟨w2.heap.size, 0, none⟩) 3 3, .slice ao m.ts.length cap] 34
    rw [World.size_alloc] at k2
    have k1' := k1.alloc (.cells #[.slice (some ⟨w2.heap.size, 0, none⟩) 3 3, .slice ao m.ts.length cap] 34)
    have hb4 : Below w.heap.size w ((w2.alloc (.cells #[.int .i64 m.nx, .int .i64 m.fr, .int .i64 (m.ts.length : Int)] 3)).alloc (.cells #[.slice (some ⟨w2.heap.size, 0, none⟩) 3 3, .slice ao m.ts.length cap] 34)) := hb3.alloc hb3.size _
    have hm := h.see.below hb4 (Nat.le_refl _)
    have hsz := hb4.size
    generalize ((w2.alloc (.cells #[.int .i64 m.nx, .int .i64 m.fr, .int .i64 (m.ts.length : Int)] 3)).alloc (.cells #[.slice (some ⟨w2.heap.size, 0, none⟩) 3 3, .slice ao m.ts.length cap] 34)) = w4 at *
    have C := concatI_any (w2.heap.size + 1) 2 (fun k => if k = 0 then [m.nx, m.fr, (m.ts.length : Int)] else m.ts) (fun k => if k = 0 then some ⟨w2.heap.size, 0, none⟩ else ao) (fun k => if k = 0 then 3 else cap) (fun k => if k = 0 then [] else if k = 1 then [m.nx, m.fr, (m.ts.length : Int)] else listM m) w4 rfl
      (fun k hk => by
        rcases (show k = 0 ∨ k = 1 by omega) with rfl | rfl
        · rfl
        · rfl)
      (fun k hk => by
        rcases (show k = 0 ∨ k = 1 ∨ k = 2 by omega) with rfl | rfl | rfl
        · simp
        · simp
        · simp [listM]; omega)
      (by simp [listM]) (by omega)
      (fun k hk => by
        rcases (show k = 0 ∨ k = 1 by omega) with rfl | rfl
        · exact k2.cell 0 rfl
        · exact k2.cell 1 rfl)
      (fun k hk => by
        rcases (show k = 0 ∨ k = 1 by omega) with rfl | rfl
        · intro i x hx
          refine ⟨w2.heap.size, 0, rfl, ?_⟩
          have hi : i < 3 := (List.getElem?_eq_some_iff.1 hx).1
          refine k1'.cell (0 + i) ?_
          rw [Nat.zero_add]
          rcases (show i = 0 ∨ i = 1 ∨ i = 2 by omega) with rfl | rfl | rfl <;> (simp at hx; subst hx; rfl)
        · exact hm)
      (fun k hk => by
        rcases (show k = 0 ∨ k = 1 by omega) with rfl | rfl
        · intro e; cases e
        · exact h.nil)
    refine C.mono ?_
    rintro e w5 ⟨v, rfl, ho, hb5⟩
    have ho' : w5.ownsRow w4.heap.size 3 1 v (listM m).length (vI (listM m)) := ho
    obtain ⟨a5, cp, rfl, hs5⟩ := owns_isees ho'
    obtain ⟨b, off, rfl, hcs⟩ := isees_at hs5 (by simp [listM])
    exact ⟨b, off, cp, rfl, hcs, hb4.trans (hb5.mono hsz)⟩
  have hbd := good_bdd hg
  have hLl : (listM m).length ≤ 33 := by simp [listM]; omega
  have HT : Hid (∀ k, k < (listM m).length → ∃ u : Nat, u ≤ 999999999 ∧ (listM m).getD k 0 = (u : Int) ∧ numsB ((listM m).take (k + 1)) = numsB ((listM m).take k) ++ numL u) := fun k hk => by
    have hmem : (listM m).getD k 0 ∈ listM m := by rw [List.getD_eq_getElem?_getD, List.getElem?_eq_getElem hk]; exact List.getElem_mem hk
    have := hbd _ hmem
    exact ⟨((listM m).getD k 0).toNat, by omega, by omega, numsB_take _ k hk⟩
  have HLn : Hid (∀ k, (numsB ((listM m).take k)).length ≤ 330) := fun k => by have := numsB_lenT (listM m) k; omega
  have HE : Hid (encM m = frameL (numsB ((listM m).take (listM m).length))) := by show _ = _; rw [List.take_length]; rfl
  have HEl : Hid ((encM m).length = (numsB ((listM m).take (listM m).length)).length + 8) := by show _ = _; rw [HE.out, frameL_length]
  have HTab : Hid (∀ u, Below w.heap.size w u → Tab u) := fun u hu => ht.below hu (Nat.le_refl _)
  obtain ⟨ts, nx, fr⟩ := m
  dsimp only at *
  clear h hc hg hk hbd ht
  unfold mval
  dsimp only
  generalize listM ⟨ts, nx, fr⟩ = L at *
  generalize encM ⟨ts, nx, fr⟩ = E at *
  have hLi : (L.length : Int) ≤ 33 := by omega
  go_enter Tryz.func19, Tryz.ntmps19
  go_wp2_with fail
  go_fit CG.out
  rintro e w2 ⟨rfl, hB, hk2⟩
  have e0 := hk2.cell 0 rfl
  have e1 := hk2.cell 1 rfl
  have e2 := hk2.cell 2 rfl
  have f0 := (hk2.alloc (.cells #[.int .i64 nx, .int .i64 fr, .int .i64 (ts.length : Int)] 3)).cell 0 rfl
  have CC2 := CC.out w2 hB
  clear hB hk2 CG CC
  go_wp2_with fail
  go_fit CC2
  rintro e w5 ⟨b, off, cp, rfl, hcs, hB5⟩
  have HCS : Hid (∀ u, Below w5.heap.size w5 u → ∀ j, j < L.length → u.cell? ⟨b, off + j, none⟩ = some (.int .i64 (L.getD j 0))) := fun u hu j hj => by rw [hu.cell (World.block_lt_of_cell? _ _ (hcs j hj))]; exact hcs j hj
  have HB5 : Hid (Below w.heap.size w w5) := hB5
  clear hcs hB5 CC2 e0 e1 e2 f0
  go_wp2_with fail
  go_loopw [23, 4] (fun i s wr => ∃ (k : Nat) (a4 : Option Addr) (c4 : Nat), k ≤ L.length ∧ i = .int .i64 (k : Int) ∧ s = .slice a4 (numsB (L.take k)).length c4 ∧ Sees wr a4 (numsB (L.take k)) ∧ (a4 = none → (numsB (L.take k)).length = 0) ∧ Below w5.heap.size w5 wr) (fun i _ _ => L.length - (intOf i).toNat)
  case atStart => exact ⟨0, none, 0, Nat.zero_le _, rfl, rfl, Sees.nil _ _, fun _ => rfl, Below.refl _ _⟩
  case round =>
    obtain ⟨k, a4, c4, hk, rfl, rfl, hs4, hn4, hBr⟩ := hrel
    rcases Nat.lt_or_ge k L.length with hlt | hge
    · obtain ⟨u, hu, hx, hnx⟩ := HT.out k hlt
      have d1 := HCS.out wr hBr k hlt
      rw [hx] at d1
      have CP : Hid (Calls Tryz.prog 49 #[.slice a4 (numsB (L.take k)).length c4, .int .u64 (u : Int)] wr fun e w' => ∃ a5 c5, e = .returned (.slice a5 (numsB (L.take (k + 1))).length c5) ∧ Sees w' a5 (numsB (L.take (k + 1))) ∧ (a5 = none → (numsB (L.take (k + 1))).length = 0) ∧ Below w5.heap.size w5 w') := by
        refine (put_any a4 _ c4 u wr hs4 hn4 (by have := HLn.out k; omega) (by omega)).mono ?_
        rintro e w' ⟨v', rfl, ho, hb⟩
        rw [← hnx] at ho
        obtain ⟨a5, c5, rfl, s5, l5, n5⟩ := owns_sees ho
        rw [← l5] at n5 ⊢
        exact ⟨a5, c5, rfl, s5, fun e => (n5 e).1, hBr.trans (hb.mono hBr.size)⟩
      have hlti : (k : Int) < (L.length : Int) := by omega
      have hui : (u : Int) ≤ 999999999 := by omega
      clear hs4 hn4 hBr hx hnx hu
      generalize (numsB (L.take k)).length = N at *
      go_wp2_with fail
      go_fit CP.out
      rintro e w6 ⟨a5, c5, rfl, s5, n5, hB6⟩
      have HR : Hid (Sees w6 a5 (numsB (L.take (k + 1))) ∧ (a5 = none → (numsB (L.take (k + 1))).length = 0) ∧ Below w5.heap.size w5 w6) := ⟨s5, n5, hB6⟩
      clear s5 n5 hB6 CP
      go_wp2_with fail
      go_roundw
      case rel => exact ⟨k + 1, a5, c5, by omega, by go_num, rfl, HR.out.1, HR.out.2.1, HR.out.2.2⟩
      case measure => (simp [intOf]; try omega)
    · obtain rfl : L.length = k := by omega
      have hBw : Below w.heap.size w wr := HB5.out.trans (hBr.mono HB5.out.size)
      have hLn := HLn.out L.length
      have HE2 := HE.out
      have HEl2 := HEl.out
      rw [List.take_length] at hs4 hn4 hLn HE2 HEl2 ⊢
      have CF : Hid (Calls Tryz.prog 50 #[.slice a4 (numsB L).length c4] wr fun e w' => e = .returned (.slice (some ⟨wr.heap.size, 0, none⟩) E.length E.length) ∧ w.heap.size ≤ wr.heap.size ∧ Row w' wr.heap.size E ∧ Below w.heap.size w w') := by
        refine (frame_any a4 _ c4 wr (by omega) hs4 hn4 (HTab.out _ hBw)).mono ?_
        rintro e w' ⟨rfl, hr, hb⟩
        rw [HEl2]
        rw [← HE2] at hr
        exact ⟨rfl, hBw.size, hr, hBw.trans (hb.mono hBw.size)⟩
      clear hs4 hn4 hBr hBw hLn HE2 HEl2
      go_wp2_with fail
      go_fit CF.out
      rintro e w7 ⟨rfl, hq⟩
      go_wp2_with fail
      go_ret2
      exact ⟨_, rfl, hq⟩
end Go.Proofs.YtgkdodcidancpaaGreatDoor
namespace Go.Proofs.YtgkdodcidancpaaGreatDoor
open Go.RowKit

/-- The bytes that are left, in the closure's box. -/
def Tk (w : World) (B : Nat) (l : List UInt8) : Prop :=
  ∃ ao cap, Blk w B [.slice ao l.length cap] 58 ∧ Sees w ao l ∧ l.length ≤ cap ∧ cap ≤ 9223372036854775807 ∧ ((ao = none ∧ l.length = 0) ∨ ∃ b off, ao = some ⟨b, off, none⟩ ∧ b < B)
theorem Tk.keep {w w' : World} {B : Nat} {l : List UInt8} (h : Tk w B l) (hk : ∀ i, i ≤ B → w'.heap[i]? = w.heap[i]?) : Tk w' B l := by
  obtain ⟨ao, cap, h1, h2, h3, h4, h5⟩ := h
  refine ⟨ao, cap, h1.carry (hk B (Nat.le_refl _)), fun i hi => ?_, h3, h4, h5⟩
  obtain ⟨a, rfl, hc⟩ := h2 i hi
  rcases h5 with ⟨e, _⟩ | ⟨b, off, e, hb⟩
  · cases e
  · cases e
    exact ⟨_, rfl, by rw [World.cell?_of_block (hk _ (by rw [Addr.add_block]; exact Nat.le_of_lt hb))]; exact hc⟩
theorem sees_dropM {w : World} {b off : Nat} {l : List UInt8} (h : Sees w (some ⟨b, off, none⟩) l) (k : Nat) : Sees w (some ⟨b, off + k, none⟩) (l.drop k) := by
  intro i hi
  rw [List.length_drop] at hi
  obtain ⟨a, e, hc⟩ := h (k + i) (by omega)
  obtain rfl := Option.some.inj e
  refine ⟨_, rfl, ?_⟩
  rw [Addr.add_lit] at hc ⊢
  rw [Nat.add_assoc, hc]
  simp [List.getD, List.getElem?_drop]
/-- The box behind a number is taken. -/
theorem Tk.next {w w1 : World} {B b off : Nat} {l : List UInt8} {cap k : Nat} (h1 : Blk w B [.slice (some ⟨b, off, none⟩) l.length cap] 58) (h2 : Sees w (some ⟨b, off, none⟩) l) (hb : b < B) (hk : k ≤ l.length) (h3 : l.length ≤ cap) (h4 : cap ≤ 9223372036854775807) (hB : Below w.heap.size w w1) (o' : Nat) (ho : k < cap → o' = off + k) :
    Tk (w1.setCell ⟨B, 0, none⟩ (.slice (some ⟨b, o', none⟩) (l.length - k) (cap - k))) B (l.drop k) ∧ w.grownBy (w1.setCell ⟨B, 0, none⟩ (.slice (some ⟨b, o', none⟩) (l.length - k) (cap - k))) (some B) := by
  have hB' := h1.carry (hB.block _ h1.lt)
  refine ⟨⟨some ⟨b, o', none⟩, cap - k, ?_, ?_, by rw [List.length_drop]; omega, by omega, .inr ⟨b, o', rfl, hb⟩⟩, ?_⟩
  · have := hB'.setTo 0 (.slice (some ⟨b, o', none⟩) (l.length - k) (cap - k)) [.slice (some ⟨b, o', none⟩) (l.length - k) (cap - k)] rfl
    rw [List.length_drop]; exact this
  · rcases Nat.lt_or_ge k cap with hlt | hge
    · obtain rfl := ho hlt
      intro i hi
      obtain ⟨a, e, hc⟩ := sees_dropM (h2.below hB (Nat.le_refl _)) k i hi
      cases e
      exact ⟨_, rfl, by rw [World.cell?_of_block (Below.heap_setCell _ _ _ _ (by rw [Addr.add_block]; exact Nat.ne_of_lt hb))]; exact hc⟩
    · intro i hi
      rw [List.length_drop] at hi
      omega
  · exact ⟨hB.os, hB.tape, hB.output, by rw [size_setCell]; exact hB.size, fun i hi hne => by rw [Below.heap_setCell _ _ _ _ (fun e => hne (by rw [e]))]; exact hB.block i hi⟩
set_option maxRecDepth 100000 in
set_option maxHeartbeats 1000000 in
theorem takeM_any (B : Nat) (l : List UInt8) (w : World) (h : Tk w B l) (hl : l.length ≤ 1000000) (u : TypeId) (pv : Value) (he : Err w u pv) :
    Calls Tryz.prog 107 #[.pointer (some ⟨B, 0, none⟩)] w fun e w' => e = .returned (.int .i64 (tkV l : Int)) ∧ Tk w' B (tkR l) ∧ w.grownBy w' (some B) := by
  obtain ⟨ao, cap, h1, h2, h3, h4, h5⟩ := h
  have hk := getK_le l
  have CG : Hid (Calls Tryz.prog 108 #[.slice ao l.length cap] w fun e w' => e = .returned (.tuple #[.int .u64 (getV l), .int .i64 (getK l)]) ∧ Below w.heap.size w w') := codGet_any ao l cap w u pv h2 (by omega) he
  have c0 := h1.cell 0 rfl
  have hlt := h1.lt
  have hV := getV_lt l
  have HV : Hid (tkV l = min (getV l) 1000000000) := rfl
  have HR : Hid (tkR l = l.drop (getK l)) := rfl
  have HFZ : Hid (∀ w1, Below w.heap.size w w1 → w1.cell? ⟨B, 0, none⟩ = some (.slice ao l.length cap) ∧ w1.frozen? ⟨B, 0, none⟩ = false) := fun w1 hb => by
    have := h1.carry (hb.block _ h1.lt)
    exact ⟨this.cell 0 rfl, this.frozen 0⟩
  rcases h5 with ⟨rfl, h0⟩ | ⟨b, off, rfl, hb⟩
  · have hk0 : getK l = 0 := by omega
    have hv0 : getV l = 0 := getK_zero hk0
    have HN : Hid (∀ w1, Below w.heap.size w w1 → Tk (w1.setCell ⟨B, 0, none⟩ (.slice none 0 cap)) B (tkR l) ∧ w.grownBy (w1.setCell ⟨B, 0, none⟩ (.slice none 0 cap)) (some B)) := fun w1 hb => by
      have hB' := h1.carry (hb.block _ h1.lt)
      have hl0 : l = [] := List.eq_nil_of_length_eq_zero h0
      rw [HR.out, hl0]
      refine ⟨⟨none, cap, ?_, by simp; exact Sees.nil _ _, by simp, h4, .inl ⟨rfl, by simp⟩⟩, ?_⟩
      · have := hB'.setTo 0 (.slice none 0 cap) [.slice none 0 cap] rfl
        simpa using this
      · exact ⟨hb.os, hb.tape, hb.output, by rw [size_setCell]; exact hb.size, fun i hi hne => by rw [Below.heap_setCell _ _ _ _ (fun e => hne (by rw [e]))]; exact hb.block i hi⟩
    rw [HV.out, hv0]
    rw [hk0, hv0, h0] at CG
    rw [h0] at HFZ c0
    clear hk0 hv0 HV HR h1 h2 h3 hl he hk hV
    have hci : (cap : Int) ≤ 9223372036854775807 := by omega
    go_enter Tryz.func107, Tryz.ntmps107
    go_wp2_with fail
    go_fit CG.out
    rintro e w1 ⟨rfl, hB1⟩
    obtain ⟨d0, f0⟩ := HFZ.out w1 hB1
    have HN1 := HN.out w1 hB1
    have HN1 : Hid (Tk (w1.setCell ⟨B, 0, none⟩ (.slice none 0 cap)) B (tkR l) ∧ w.grownBy (w1.setCell ⟨B, 0, none⟩ (.slice none 0 cap)) (some B)) := HN1
    clear HN HFZ hB1
    go_wp2_with fail
    go_ret
    exact ⟨rfl, HN1.out⟩
  · have HN : Hid (∀ w1 o', Below w.heap.size w w1 → (getK l < cap → o' = off + getK l) → Tk (w1.setCell ⟨B, 0, none⟩ (.slice (some ⟨b, o', none⟩) (l.length - getK l) (cap - getK l))) B (tkR l) ∧ w.grownBy (w1.setCell ⟨B, 0, none⟩ (.slice (some ⟨b, o', none⟩) (l.length - getK l) (cap - getK l))) (some B)) := fun w1 o' hB ho => by
      rw [HR.out]
      exact Tk.next h1 h2 hb hk h3 h4 hB o' ho
    generalize tkR l = R at *
    have hmin : min ((getV l : Nat) : Int) 1000000000 = (tkV l : Int) := by rw [HV.out]; omega
    generalize tkV l = V at *
    clear HV HR h1 h2 he
    generalize getV l = v at *
    generalize getK l = k at *
    generalize l.length = n at *
    have hki : (k : Int) ≤ (n : Int) := by omega
    have hni : (n : Int) ≤ (cap : Int) := by omega
    have hci : (cap : Int) ≤ 9223372036854775807 := by omega
    have hkc : k ≤ cap := by omega
    have hvi : (v : Int) ≤ 18446744073709551615 := by omega
    have HW : Hid (min (v : Int) 1000000000 = (V : Int)) := hmin
    clear hmin
    by_cases hcc : cap = k
    · obtain rfl : cap = n := by omega
      subst hcc
      have HN2 : Hid (∀ w1, Below w.heap.size w w1 → Tk (w1.setCell ⟨B, 0, none⟩ (.slice (some ⟨b, off, none⟩) 0 0)) B R ∧ w.grownBy (w1.setCell ⟨B, 0, none⟩ (.slice (some ⟨b, off, none⟩) 0 0)) (some B)) := fun w1 hB => by
        have := HN.out w1 (off) hB (fun h => by omega)
        rw [Nat.sub_self] at this; exact this
      clear HN
      go_enter Tryz.func107, Tryz.ntmps107
      go_wp2_with fail
      go_fit CG.out
      rintro e w1 ⟨rfl, hB1⟩
      obtain ⟨d0, f0⟩ := HFZ.out w1 hB1
      have HN1 : Hid (Tk (w1.setCell ⟨B, 0, none⟩ (.slice (some ⟨b, off, none⟩) 0 0)) B R ∧ w.grownBy (w1.setCell ⟨B, 0, none⟩ (.slice (some ⟨b, off, none⟩) 0 0)) (some B)) := HN2.out w1 hB1
      clear HN2 HFZ hB1
      go_wp2_with fail
      go_ret
      exact ⟨ret_int HW.out, HN1.out⟩
    · have HN2 : Hid (∀ w1, Below w.heap.size w w1 → Tk (w1.setCell ⟨B, 0, none⟩ (.slice (some ⟨b, off + k, none⟩) (n - k) (cap - k))) B R ∧ w.grownBy (w1.setCell ⟨B, 0, none⟩ (.slice (some ⟨b, off + k, none⟩) (n - k) (cap - k))) (some B)) := fun w1 hB => by
        have := HN.out w1 (off + k) hB (fun h => by omega)
        exact this
      clear HN
      go_enter Tryz.func107, Tryz.ntmps107
      go_wp2_with fail
      go_fit CG.out
      rintro e w1 ⟨rfl, hB1⟩
      obtain ⟨d0, f0⟩ := HFZ.out w1 hB1
      have HN1 : Hid (Tk (w1.setCell ⟨B, 0, none⟩ (.slice (some ⟨b, off + k, none⟩) (n - k) (cap - k))) B R ∧ w.grownBy (w1.setCell ⟨B, 0, none⟩ (.slice (some ⟨b, off + k, none⟩) (n - k) (cap - k))) (some B)) := HN2.out w1 hB1
      clear HN2 HFZ hB1
      go_wp2_with fail
      go_ret
      exact ⟨ret_int HW.out, HN1.out⟩
theorem owns_carryM {w w' : World} {base e n s : Nat} {v : Value} {xs : List Value} (h : w.ownsRow base e s v n xs) (hk : ∀ g, base ≤ g → g < w.heap.size → w'.heap[g]? = w.heap[g]?) : w'.ownsRow base e s v n xs := by
  refine ⟨h.1, ?_⟩
  rcases h.2 with hn | ⟨g, cap, cur, rfl, h1, h2, rest⟩
  · exact .inl hn
  · exact .inr ⟨g, cap, cur, rfl, h1, by rw [hk g h1 (Array.getElem?_eq_some_iff.1 h2).1]; exact h2, rest⟩
theorem owns_msees {w : World} {base : Nat} {v : Value} {l : List Int} (h : w.ownsRow base 3 1 v l.length (vI l)) : ∃ ao cap, v = .slice ao l.length cap ∧ ISees w ao l ∧ (ao = none → l.length = 0) ∧ l.length ≤ cap ∧ cap ≤ 9223372036854775807 := by
  obtain ⟨ao, cap, e, hs⟩ := owns_isees h
  refine ⟨ao, cap, e, hs, ?_⟩
  rcases h.2 with ⟨hn, h0⟩ | ⟨g, cap', cur, hv, h1, h2, h3, h4, _⟩
  · rw [e] at hn
    simp only [Value.slice.injEq] at hn
    exact ⟨fun _ => h0, by omega, by omega⟩
  · rw [e] at hv; cases hv
    exact ⟨fun e => (by cases e), h3, by unfold maxLen at h4; omega⟩
/-- Worlds in which a cell says so. -/
structure BxM (B : Nat) (v : Value) where
  u : World
  h : u.cell? ⟨B, 0, none⟩ = some v
/-- numbers, on its way: c is left, l are the tables. -/
structure NSt (w u : World) (c : List UInt8) (v : Value) (l : List Int) (nx fr : Int) : Prop where
  tk : Tk u w.heap.size c
  m0 : Blk u (w.heap.size + 1) [.slice none 0 0, .int .i64 0, .int .i64 0] 36
  m : Blk u (w.heap.size + 2) [v, .int .i64 nx, .int .i64 fr] 36
  row : u.ownsRow (w.heap.size + 3) 3 1 v l.length (vI l)
  bel : Below w.heap.size w u
  sz : w.heap.size + 3 ≤ u.heap.size
section
variable {w u : World} {c : List UInt8} {v : Value} {l : List Int} {nx fr : Int}
theorem NSt.took (h : NSt w u c v l nx fr) {u' : World} {c' : List UInt8} (hk : Tk u' w.heap.size c') (hg : u.grownBy u' (some w.heap.size)) : NSt w u' c' v l nx fr := by
  have hs := h.sz
  have hb : ∀ i, i < u.heap.size → i ≠ w.heap.size → u'.heap[i]? = u.heap[i]? := fun i hi hne => hg.block i hi (fun e => by cases e; exact hne rfl)
  exact ⟨hk, h.m0.carry (hb _ (by omega) (by omega)), h.m.carry (hb _ (by omega) (by omega)), owns_carryM h.row fun g h1 h2 => hb g h2 (by omega), h.bel.grown hg h.bel.size (fun k e => by cases e; exact Nat.le_refl _), Nat.le_trans hs hg.size⟩
theorem NSt.more (h : NSt w u c v l nx fr) {u' : World} (hg : Below u.heap.size u u') : NSt w u' c v l nx fr := by
  have hs := h.sz
  exact ⟨h.tk.keep fun i hi => hg.block i (by omega), h.m0.carry (hg.block _ (by omega)), h.m.carry (hg.block _ (by omega)), owns_carryM h.row fun g h1 h2 => hg.block g h2, h.bel.trans (hg.mono h.bel.size), Nat.le_trans hs hg.size⟩
theorem NSt.setM (h : NSt w u c v l nx fr) (i : Nat) (x v' : Value) (nx' fr' : Int) (he : [v, Value.int .i64 nx, .int .i64 fr].set i x = [v', .int .i64 nx', .int .i64 fr']) {l' : List Int} (hr : u.ownsRow (w.heap.size + 3) 3 1 v' l'.length (vI l')) : NSt w (u.setCell ⟨w.heap.size + 2, i, none⟩ x) c v' l' nx' fr' := by
  have hb : ∀ k, k ≠ w.heap.size + 2 → (u.setCell ⟨w.heap.size + 2, i, none⟩ x).heap[k]? = u.heap[k]? := fun k hk => Below.heap_setCell _ _ _ _ (fun e => hk e)
  exact ⟨h.tk.keep fun k hk => hb k (by omega), h.m0.carry (hb _ (by omega)), h.m.setTo i x _ he, owns_carryM hr fun g h1 h2 => hb g (by omega), h.bel.setCell (by show w.heap.size ≤ w.heap.size + 2; omega) _, by rw [size_setCell]; exact h.sz⟩
theorem numStart (ao : Option Addr) (l : List UInt8) (cap : Nat) (hs : Sees w ao l) (h3 : l.length ≤ cap) (h4 : cap ≤ 9223372036854775807) (h5 : (ao = none ∧ l.length = 0) ∨ ∃ b off, ao = some ⟨b, off, none⟩ ∧ b < w.heap.size) :
    NSt w (((w.alloc (.cells #[.slice ao l.length cap] 58)).alloc (.cells #[.slice none 0 0, .int .i64 0, .int .i64 0] 36)).alloc (.cells #[.slice none 0 0, .int .i64 0, .int .i64 0] 36)) l (.slice none 0 0) [] 0 0 := by
  have hb1 : Below w.heap.size w (w.alloc (.cells #[.slice ao l.length cap] 58)) := (Below.refl _ _).alloc (Nat.le_refl _) _
  have k1 := Blk.new w [.slice ao l.length cap] 58
  have k2 := Blk.new (w.alloc (.cells #[.slice ao l.length cap] 58)) [.slice none 0 0, .int .i64 0, .int .i64 0] 36
  have k3 := Blk.new ((w.alloc (.cells #[.slice ao l.length cap] 58)).alloc (.cells #[.slice none 0 0, .int .i64 0, .int .i64 0] 36)) [.slice none 0 0, .int .i64 0, .int .i64 0] 36
  rw [World.size_alloc] at k2
  rw [World.size_alloc, World.size_alloc] at k3
  have hB : Below w.heap.size w (((w.alloc (.cells #[.slice ao l.length cap] 58)).alloc (.cells #[.slice none 0 0, .int .i64 0, .int .i64 0] 36)).alloc (.cells #[.slice none 0 0, .int .i64 0, .int .i64 0] 36)) := (hb1.alloc hb1.size _).alloc (by simp; omega) _
  exact ⟨⟨ao, cap, (k1.alloc _).alloc _, hs.below hB (Nat.le_refl _), h3, h4, h5⟩, k2.alloc _, k3, World.ownsRow_nil _ _ _ _, hB, by simp⟩
end
theorem src_oneI (u : World) (x : Int) : Src Tryz.prog 1 34 (.slice (some ⟨u.heap.size, 0, none⟩) 1 1) 1 (vI [x]) (u.alloc (.cells #[.int .i64 x] 3)) := by
  have := src_ints (w := u.alloc (.cells #[.int .i64 x] 3)) (ao := some ⟨u.heap.size, 0, none⟩) (l := [x]) (fun i y hy => by
    have hi : i < 1 := (List.getElem?_eq_some_iff.1 hy).1
    obtain rfl : i = 0 := by omega
    simp at hy
    subst hy
    exact ⟨_, _, rfl, (Blk.new u [.int .i64 x] 3).cell 0 rfl⟩) (fun e => by cases e) 1
  exact this
end Go.Proofs.YtgkdodcidancpaaGreatDoor
namespace Go.Proofs.YtgkdodcidancpaaGreatDoor
open Go.ChangeShapes Go.WideShapes Go.ChangeAt Go.RowKit

theorem own : ownKnob Tryz.prog.godebug = none := by kernel_rfl
theorem laidOut : laidOutB Tryz.prog = true := by kernel_rfl
theorem byte_valR (n : Nat) (h : n < 256) : ((UInt8.ofNat n).toNat : Int) = n := by
  simp; omega
/-- Bytes that came in. -/
theorem bytes_open {H : Type} {enc : TypeId × Value → H} {W : World} {ao : Option Addr} {len cap : Nat} {d : DataW H} {p : List MemPlace}
    (h : DataW.Trod enc Tryz.prog W 0 (fun _ => true) true 58 (Value.slice ao len cap) d p) :
    ∃ l : List UInt8, l.length = len ∧ Sees W ao l ∧ (ao = none → l.length = 0) ∧ l.length ≤ maxLen ∧ l.length ≤ cap ∧ (l.length = 0 ∨ ∃ el sp, d = .slice el sp ∧ el.length = l.length) := by
  obtain ⟨fuel, hf⟩ := h
  rcases open_ints Tryz.underlying58 Tryz.underlying5 (by kernel_rfl) hf with ⟨hcs, _⟩ | ⟨x, n, c, zs, hcs, _, hl, hm, hz, hx, hcell, hwz⟩
  · simp [Value.cells] at hcs
    obtain ⟨rfl, rfl, rfl⟩ := hcs
    exact ⟨[], rfl, Sees.nil _ _, fun _ => rfl, Nat.zero_le _, Nat.zero_le _, .inl rfl⟩
  · simp [Value.cells] at hcs
    obtain ⟨rfl, rfl, rfl⟩ := hcs
    have hzl : zs.length = cap := by simpa using hz
    have hlen : ((zs.take len).map fun z : Int => UInt8.ofNat z.toNat).length = len := by simp; omega
    refine ⟨(zs.take len).map fun z : Int => UInt8.ofNat z.toNat, hlen, fun i hi => ⟨x, rfl, ?_⟩, (fun h => by cases h), by omega, by omega, .inr ⟨_, _, congrArg Prod.fst hx, by rw [hlen]; simp [lits]; omega⟩⟩
    rw [hlen] at hi
    have hi' : i < zs.length := by omega
    rw [hcell i hi']
    have hb := bounds_u8 (hwz (zs.getD i 0) (by simp [List.getD, hi']))
    have e : ((zs.take len).map fun z : Int => UInt8.ofNat z.toNat).getD i 0 = UInt8.ofNat (zs.getD i 0).toNat := by simp [List.getD, hi, hi']
    rw [e, byte_valR _ (by omega), Int.toNat_of_nonneg hb.1]
theorem bytes8 : Tryz.prog.bytesOf 5 = 1 := by kernel_rfl
/-- How many bytes can have come in. -/
theorem bytes_reach {H : Type} {ts : List TypeId} {ds : List (DataW H)} {j n : Nat} {d : DataW H} (h : (DataW.weightsEach Tryz.prog ts ds).all (· ≤ reachBytes) = true) (ht : ts[j]? = some 58) (hd : ds[j]? = some d)
    (hn : n = 0 ∨ ∃ el sp, d = .slice el sp ∧ el.length = n) : n ≤ 140737488351232 := by
  rcases hn with rfl | ⟨el, sp, rfl, rfl⟩
  · omega
  · have := sized_slice h ht hd Tryz.underlying58
    rw [bytes8] at this
    simp only [reachBytes] at this
    omega
end Go.Proofs.YtgkdodcidancpaaGreatDoor
