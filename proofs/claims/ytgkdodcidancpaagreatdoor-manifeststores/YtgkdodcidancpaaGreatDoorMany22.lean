/-
  SEVERAL TEXTS IN ONE: ManWholeL, DskRoomP.
-/
import Derived.Test.YtgkdodcidancpaaGreatDoorMany21
import Derived.Test.YtgkdodcidancpaaGreatDoorMany20
import Derived.Test.YtgkdodcidancpaaGreatDoorMany16
namespace Go.Proofs.YtgkdodcidancpaaGreatDoor
open Go.RowKit Go.Maps

set_option maxRecDepth 100000 in
set_option maxHeartbeats 2000000 in
theorem storeM_bad {d : Nat} {A : Ab} {ft : List Nat} {w : World} (hA : At d A ft w) (hon : A.on = true) (ao : Option Addr) (cap : Nat) (m : Mf) (hm : MSees w ao cap m) (hl : m.ts.length ≤ 1000000) (hcp : cap ≤ 9223372036854775807) (hg : goodM m = false) :
    Calls Tryz.prog 9 #[.pointer (some ⟨d, 0, none⟩), mval ao cap m] w fun e w' => e = .returned (.int .i64 2) ∧ Below w.heap.size w w' := by
  obtain ⟨w3, hw3⟩ : ∃ w3, w3 = ((w.alloc (.cells #[.pointer (some ⟨d, 0, none⟩)] 26)).alloc (.cells #[.slice ao m.ts.length cap, .int .i64 m.nx, .int .i64 m.fr] 36)).alloc (.cells #[.slice none 0 0] 58) := ⟨_, rfl⟩
  have b1 := Blk.new w [.pointer (some ⟨d, 0, none⟩)] 26
  have b2 := Blk.new (w.alloc (.cells #[.pointer (some ⟨d, 0, none⟩)] 26)) [.slice ao m.ts.length cap, .int .i64 m.nx, .int .i64 m.fr] 36
  have b3 := Blk.new ((w.alloc (.cells #[.pointer (some ⟨d, 0, none⟩)] 26)).alloc (.cells #[.slice ao m.ts.length cap, .int .i64 m.nx, .int .i64 m.fr] 36)) [.slice none 0 0] 58
  rw [World.size_alloc] at b2
  rw [World.size_alloc, World.size_alloc] at b3
  have k1 : Blk w3 w.heap.size [.pointer (some ⟨d, 0, none⟩)] 26 := by rw [hw3]; exact (b1.alloc _).alloc _
  have k2 : Blk w3 (w.heap.size + 1) [.slice ao m.ts.length cap, .int .i64 m.nx, .int .i64 m.fr] 36 := by rw [hw3]; exact b2.alloc _
  have k3 : Blk w3 (w.heap.size + 2) [.slice none 0 0] 58 := by rw [hw3]; exact b3
  have hs3 : w3.heap.size = w.heap.size + 3 := by rw [hw3]; simp
  have hB3 : Below w.heap.size w w3 := by
    rw [hw3]
    exact (((Below.refl _ _).alloc (Nat.le_refl _) _).alloc (by simp) _).alloc (by simp; omega) _
  clear b1 b2 b3
  have k4 : Blk (w3.alloc (.cells (stepsV w.heap.size (w.heap.size + 1) (w.heap.size + 2)).toArray 65)) (w.heap.size + 3) (stepsV w.heap.size (w.heap.size + 1) (w.heap.size + 2)) 65 := by
    have := Blk.new w3 (stepsV w.heap.size (w.heap.size + 1) (w.heap.size + 2)) 65
    rw [hs3] at this; exact this
  have hB4 : Below w.heap.size w (w3.alloc (.cells (stepsV w.heap.size (w.heap.size + 1) (w.heap.size + 2)).toArray 65)) := hB3.alloc hB3.size _
  have kk1 := k1.alloc (.cells (stepsV w.heap.size (w.heap.size + 1) (w.heap.size + 2)).toArray 65)
  have kk2 := k2.alloc (.cells (stepsV w.heap.size (w.heap.size + 1) (w.heap.size + 2)).toArray 65)
  have kk3 := k3.alloc (.cells (stepsV w.heap.size (w.heap.size + 1) (w.heap.size + 2)).toArray 65)
  obtain ⟨w4, hw4⟩ : ∃ w4, w4 = w3.alloc (.cells (stepsV w.heap.size (w.heap.size + 1) (w.heap.size + 2)).toArray 65) := ⟨_, rfl⟩
  rw [← hw4] at k4 hB4 kk1 kk2 kk3
  have hA4 : At d A ft w4 := hA.moved (moved_belowM (ft := []) hB4) (by simp)
  have CT : Calls Tryz.prog 22 #[.slice (some ⟨w.heap.size + 3, 0, none⟩) 6 6] w4 (Upon (fun _ => False) (fun x u => x = 2 ∧ Below w.heap.size w u)) := by
    refine (inTurn_six (w.heap.size + 3) w.heap.size (w.heap.size + 1) (w.heap.size + 2) (fun k u => match k with | 0 => u = w4 | 1 => w4.grownBy u none | _ => False) (fun x u => x = 2 ∧ Below w.heap.size w u) w4 rfl 65 ?_ ?_ ?_ ?_ ?_ ?_ ?_).mono ?_
    · intro k u hk hR
      match k, hR with
      | 0, hR => cases hR; exact k4
      | 1, hR => exact k4.carry (World.grownBy.block hR _ k4.lt (by simp))
      | k + 2, hR => exact hR.elim
    · rintro u rfl
      refine (step1 hA4 hon kk1).mono ?_
      rintro e u' ⟨rfl, hg'⟩
      exact ⟨0, rfl, .inl ⟨rfl, hg'⟩⟩
    · intro u hu
      have hu' : w4.grownBy u none := hu
      have hBu : Below w.heap.size w u := hB4.trans (((Below.refl _ _).grown hu' (Nat.le_refl _) (fun k hk => by cases hk)).mono hB4.size)
      refine (step2_bad (w.heap.size + 1) (w.heap.size + 2) ao cap m u (hm.below hBu (Nat.le_refl _)) hl hcp hg (kk2.carry (hu'.block _ kk2.lt (by simp))) (kk3.carry (hu'.block _ kk3.lt (by simp)))).mono ?_
      rintro e u' ⟨rfl, hg'⟩
      exact ⟨2, rfl, .inr ⟨by decide, rfl, hBu.grown hg' hBu.size (fun k hk => by cases hk; omega)⟩⟩
    · intro u hu; exact hu.elim
    · intro u hu; exact hu.elim
    · intro u hu; exact hu.elim
    · intro u hu; exact hu.elim
    · rintro e u' ⟨x, rfl, hx⟩
      exact ⟨x, rfl, hx.imp (fun h => ⟨h.1, h.2.elim⟩) id⟩
  have hmf : ∀ (fn : Fn) (first cap : Array Value) (w : World), (Instr.makeFunc fn first cap).run Tryz.prog w = .ok (.func fn first cap) w := fun _ _ _ _ => rfl
  rw [hw4, hw3] at CT
  clear hA hon hm hcp hl hg k1 k2 k3 hs3 hB3 k4 hB4 kk1 kk2 kk3 hA4 hw4 hw3
  unfold stepsV at CT
  have HCT : Hid (Calls Tryz.prog 22 #[.slice (some ⟨w.heap.size + 3, 0, none⟩) 6 6] _ (Upon (fun _ => False) (fun x u => x = 2 ∧ Below w.heap.size w u))) := CT
  unfold mval
  go_enter Tryz.func9, Tryz.ntmps9
  go_wp2_with fail
  go_fit HCT.out
  rintro e w9 ⟨x, rfl, hx⟩
  have HX : Hid (x = 2 ∧ Below w.heap.size w w9) := by
    rcases hx with h | h
    · exact h.2.elim
    · exact h.2
  clear hx HCT CT
  go_wp2_with fail
  go_ret
  exact ⟨ret_int HX.out.1, HX.out.2⟩
set_option maxRecDepth 100000 in
set_option maxHeartbeats 2000000 in
theorem loadM_some {d : Nat} {A : Ab} {ft : List Nat} {w : World} (h : At d A ft w) (hon : A.on = true) (m : Mf) (hg : goodM m = true) (hf : findT A.sp lM = some (sureT lM (encM m))) (ht : Tab w) (ue : TypeId) (pv : Value) (he : Err w ue pv) :
    Calls Tryz.prog 12 #[.pointer (some ⟨d, 0, none⟩)] w fun e w' => ∃ a5 c5, e = .returned (.tuple #[.agg #[.slice a5 m.ts.length c5, .int .i64 m.nx, .int .i64 m.fr], .int .i64 0]) ∧ MSees w' a5 c5 m ∧ Below w.heap.size w w' := by
  have hEl : (encM m).length ≤ 400 := by have := good_len hg; rw [encM_len]; omega
  have k0 := Blk.new w [.slice none 0 0, .int .i64 0, .int .i64 0] 36
  have hB0 : Below w.heap.size w (w.alloc (.cells #[.slice none 0 0, .int .i64 0, .int .i64 0] 36)) := (Below.refl _ _).alloc (Nat.le_refl _) _
  have hA0 : At d A ft (w.alloc (.cells #[.slice none 0 0, .int .i64 0, .int .i64 0] 36)) := h.moved (moved_belowM (ft := []) hB0) (by simp)
  have CR : Hid (Calls Tryz.prog 37 #[.pointer (some ⟨d, 0, none⟩), .string ⟨#[109, 97, 110, 105, 102, 101, 115, 116]⟩] (w.alloc (.cells #[.slice none 0 0, .int .i64 0, .int .i64 0] 36)) fun x w' => ∃ a c, x = .returned (.tuple #[.slice a (encM m).length c, .int .i64 0]) ∧ Sees w' a (encM m) ∧ (a = none → (encM m).length = 0) ∧ (encM m).length ≤ c ∧ c ≤ 9223372036854775807 ∧ Below w.heap.size w w' ∧ Blk w' w.heap.size [.slice none 0 0, .int .i64 0, .int .i64 0] 36) := by
    refine (ab_read hA0 nmM nmM_size (by rw [hon]; exact nmM_good) (t := sureT lM (encM m)) hf (by show (encM m).length ≤ _; omega)).mono ?_
    rintro x w' ⟨v, rfl, ho, hg'⟩
    have ho' : w'.ownsRow _ 5 1 v (encM m).length (B8 (encM m)) := ho
    obtain ⟨a, c, rfl, hs, hl', hn⟩ := owns_sees ho'
    obtain ⟨_, _, e2, hc1, hc2⟩ := owns_form ho'
    cases e2
    exact ⟨a, c, rfl, hs, fun e => (hn e).1, hc1, hc2, hB0.grown hg' hB0.size (fun k hk => by cases hk), k0.carry (hg'.block _ k0.lt (by simp))⟩
  have CD : Hid (∀ u a c, Below w.heap.size w u → Sees u a (encM m) → (a = none → (encM m).length = 0) → (encM m).length ≤ c → c ≤ 9223372036854775807 → Calls Tryz.prog 38 #[.slice a (encM m).length c] u fun e w' => ∃ a5 c5, e = .returned (.tuple #[.agg #[.slice a5 m.ts.length c5, .int .i64 m.nx, .int .i64 m.fr], .int .i64 0]) ∧ MSees w' a5 c5 m ∧ (∀ q, a5 = some q → u.heap.size ≤ q.block) ∧ Below u.heap.size u w') := fun u a c hu hs hn h1 h2 => by
    obtain ⟨e1, e2⟩ := rd_some (rdM_enc hg)
    have he' : Err u ue pv := by unfold Err at he ⊢; rw [hu.cell (World.block_lt_of_cell? _ _ he)]; exact he
    refine (readM_any a (encM m) c u hs hn h1 h2 (by omega) (ht.below hu (Nat.le_refl _)) ue pv he').mono ?_
    rintro e w' ⟨a5, c5, rfl, hm, _, ha, hb⟩
    rw [e1] at hm ⊢
    rw [e2]
    exact ⟨a5, c5, rfl, hm, ha, hb⟩
  clear h hon hg hf ht he k0 hB0 hA0 hEl
  obtain ⟨ts, nx, fr⟩ := m
  dsimp only at *
  generalize encM ⟨ts, nx, fr⟩ = E at *
  go_enter Tryz.func12, Tryz.ntmps12
  go_wp2_with fail
  go_fit CR.out
  rintro e w2 ⟨a, c, rfl, hs, hn, h1, h2, hB2, hk2⟩
  have C2 := CD.out w2 a c hB2 hs hn h1 h2
  clear hs hn h1 h2 CD CR
  generalize E.length = n at *
  go_wp2_with fail
  go_fit C2
  rintro e w5 ⟨a5, c5, rfl, hm5, ha5, hB5⟩
  have hB5' : Below w.heap.size w w5 := hB2.trans (hB5.mono hB2.size)
  have hk5 := hk2.carry (hB5.block _ hk2.lt)
  have ha5' : ∀ q, a5 = some q → w.heap.size < q.block := fun q e => Nat.lt_of_lt_of_le hk2.lt (ha5 q e)
  have f0 := hk5.frozen 0
  have f1 := hk5.frozen 1
  have f2 := hk5.frozen 2
  have n0 := hk5.cell 0 rfl
  have n1 := hk5.cell 1 rfl
  have n2 := hk5.cell 2 rfl
  have HK : Hid (Blk (((w5.setCell ⟨w.heap.size, 0, none⟩ (.slice a5 ts.length c5)).setCell ⟨w.heap.size, 1, none⟩ (.int .i64 nx)).setCell ⟨w.heap.size, 2, none⟩ (.int .i64 fr)) w.heap.size [.slice a5 ts.length c5, .int .i64 nx, .int .i64 fr] 36) := ((hk5.setTo 0 _ _ rfl).setTo 1 _ _ rfl).setTo 2 _ _ rfl
  have HE : Hid (MSees (((w5.setCell ⟨w.heap.size, 0, none⟩ (.slice a5 ts.length c5)).setCell ⟨w.heap.size, 1, none⟩ (.int .i64 nx)).setCell ⟨w.heap.size, 2, none⟩ (.int .i64 fr)) a5 c5 ⟨ts, nx, fr⟩ ∧ Below w.heap.size w (((w5.setCell ⟨w.heap.size, 0, none⟩ (.slice a5 ts.length c5)).setCell ⟨w.heap.size, 1, none⟩ (.int .i64 nx)).setCell ⟨w.heap.size, 2, none⟩ (.int .i64 fr))) := by
    refine ⟨⟨fun i x hx => ?_, hm5.nil, hm5.cap⟩, ((hB5'.setCell (Nat.le_refl _) _).setCell (Nat.le_refl _) _).setCell (Nat.le_refl _) _⟩
    obtain ⟨q, off, e, hc⟩ := hm5.see i x hx
    have hq := ha5' _ e
    refine ⟨q, off, e, ?_⟩
    rw [World.cell?_of_block (w := w5)]
    · exact hc
    · show (((w5.setCell _ _).setCell _ _).setCell _ _).heap[q]? = _
      rw [Below.heap_setCell _ _ _ _ (by show q ≠ w.heap.size; exact Nat.ne_of_gt hq), Below.heap_setCell _ _ _ _ (by show q ≠ w.heap.size; exact Nat.ne_of_gt hq), Below.heap_setCell _ _ _ _ (by show q ≠ w.heap.size; exact Nat.ne_of_gt hq)]
  clear hk5 hB5 hB5' hB2 hk2 hm5 ha5 ha5' C2
  go_wp2_with fail
  refine bodyPost_ret (v := .tuple #[.agg #[.slice a5 ts.length c5, .int .i64 nx, .int .i64 fr], .int .i64 0]) (results_row_tmpM Tryz.results12 _ _ w.heap.size 36 _ _ _ _ rfl rfl HK.out Tryz.underlying36 rfl (by kernel_rfl)) rfl ?_
  exact ⟨a5, c5, rfl, HE.out⟩
theorem lw_store_bad {w : World} {d : Nat} {A : Ab} {bx : List Bx} {u : World} (h : LW w d A bx u) (hon : A.on = true) (ao : Option Addr) (cap : Nat) (m : Mf) (hm : MSees w ao cap m) (hl : m.ts.length ≤ 1000000) (hcp : cap ≤ 9223372036854775807) (hg : goodM m = false) :
    Calls Tryz.prog 9 #[.pointer (some ⟨d, 0, none⟩), mval ao cap m] u fun e u' => e = .returned (.int .i64 2) ∧ LW w d A bx u' := by
  have h0 := h
  obtain ⟨ft, h1, h2, h3, h4⟩ := h
  exact (storeM_bad h1 hon ao cap m (hm.below h4 (Nat.le_refl _)) hl hcp hg).mono fun e u' hh => ⟨hh.1, h0.more hh.2⟩
theorem pl_after {A : Ab} {o : Option (List UInt8)} (hP : Pl A o) (E : List UInt8) (hE : E.length ≤ 400) (h1 : A.ops ≤ 50) (h2 : A.next ≤ 500) : Pl (A4M A E) (some E) ∧ (A4M A E).left = A.left - 1 - 1 - 1 - 1 ∧ (A4M A E).ops = A.ops + 4 ∧ (A4M A E).next ≤ A.next + 26 := by
  have hg := growT_few' t1M E (by show 0 + E.length ≤ _; omega)
  have hn : (A4M A E).next = A.next + growT t1M E := rfl
  have ho : (A4M A E).ops = A.ops + 1 + 1 + 1 + 1 := rfl
  have hl : (A4M A E).left = A.left - 1 - 1 - 1 - 1 := rfl
  have h8 := hP.left
  exact ⟨⟨sp4M hP E, hP.on, hP.room, by omega, by omega, by omega, hP.keep, fun E' e => by cases e; exact hE⟩, hl, by omega, by omega⟩
theorem pl_armed {A : Ab} {o : Option (List UInt8)} (hP : Pl A o) (n : Nat) (k : Int) (hn : n ≤ 8) (hk : -9223372036854775808 ≤ k ∧ k ≤ 9223372036854775807) : Pl { A with left := n, keep := k } o := ⟨hP.sp, hP.on, hP.room, hP.ops, hP.next, hn, hk, hP.small⟩
/-- Load, where the manifest om is on the disk. -/
theorem lw_load {w : World} {d : Nat} {A : Ab} {bx : List Bx} {u : World} (h : LW w d A bx u) (hon : A.on = true) (om : Option Mf) (hgo : ∀ m, om = some m → goodM m = true) (hf : findT A.sp lM = fO (om.map encM)) (ht : Tab w) (ue : TypeId) (pv : Value) (he : Err w ue pv) :
    Calls Tryz.prog 12 #[.pointer (some ⟨d, 0, none⟩)] u fun e u' => ∃ a5 c5, e = .returned (.tuple #[mval a5 c5 (om.getD begM), .int .i64 0]) ∧ MSees u' a5 c5 (om.getD begM) ∧ LW w d A bx u' := by
  have h0 := h
  obtain ⟨ft, h1, h2, h3, h4⟩ := h
  cases om with
  | none =>
    obtain ⟨bm, fs, hD, hss, rfl⟩ := h1
    refine (load_none hD hon (find_sig_none hss hf)).mono ?_
    rintro e u' ⟨rfl, hg⟩
    exact ⟨none, 0, rfl, ⟨fun i x hx => by simp [begM] at hx, fun _ => rfl, Nat.le_refl _⟩, h0.grown hg⟩
  | some m =>
    have he' : Err u ue pv := by unfold Err at he ⊢; rw [h4.cell (World.block_lt_of_cell? _ _ he)]; exact he
    refine (loadM_some h1 hon m (hgo m rfl) hf (ht.below h4 (Nat.le_refl _)) ue pv he').mono ?_
    rintro e u' ⟨a5, c5, rfl, hm, hb⟩
    exact ⟨a5, c5, rfl, hm, h0.more hb⟩
end Go.Proofs.YtgkdodcidancpaaGreatDoor
namespace Go.Proofs.YtgkdodcidancpaaGreatDoor
open Go.RowKit Go.Maps Go.Sort Go.Shelf

/-- All names are good. -/
def Ab.Gd (A : Ab) : Prop := ∀ t ∈ A.sp, goodB t.nm = true
theorem good_of {on : Bool} {s : ByteArray} (h : refuse on [s] = 0) : goodB (nameOf s) = true := by
  have ho := refuse_on h
  subst ho
  rw [refuse_name] at h
  cases hg : goodB (nameOf s)
  · rw [hg] at h; simp at h
  · rfl
theorem good_two {on : Bool} {s u : ByteArray} (h : refuse on [s, u] = 0) : goodB (nameOf u) = true := by
  have ho := refuse_on h
  subst ho
  unfold refuse at h
  simp only [if_true] at h
  split at h
  · rename_i h1
    simp at h1
    exact h1.2
  · cases h
/-- What an operation does to a disk. -/
structure Did (A : Ab) (k : Nat) (r : Int × Ab) : Prop where
  inv : r.2.Inv (k + 1)
  gd : r.2.Gd
  room : r.2.room = A.room
  no : r.1 ≠ 0 → r.2 = A
  yes : r.1 = 0 → r.2.ops = A.ops + 1
section
variable {A : Ab} {k : Nat} (hi : A.Inv k) (hg : A.Gd)
include hi hg
theorem did_no {c : Int} (hc : c ≠ 0) : Did A k (c, A) := ⟨hi.more (by omega), hg, rfl, fun _ => rfl, fun h => absurd h hc⟩
theorem did_create (s : ByteArray) : Did A k (createM A s) := by
  have hinv := createM_inv hi s
  unfold createM at *
  by_cases hc : refuse A.on [s] = 0
  · rw [if_pos hc] at *
    have hcr : ∀ t ∈ (crT A (nameOf s)).sp, goodB t.nm = true := fun t ht => by
      rcases mem_put ht with rfl | h
      · exact good_of hc
      · exact hg t h
    cases hf : findT A.sp (nameOf s) with
    | none =>
      rw [hf] at hinv
      simp only at *
      split
      · exact did_no hi hg (by omega)
      · rename_i h1
        rw [if_neg h1] at hinv
        exact ⟨hinv, hcr, rfl, fun h => absurd rfl h, fun _ => rfl⟩
    | some t =>
      rw [hf] at hinv
      exact ⟨hinv, hcr, rfl, fun h => absurd rfl h, fun _ => rfl⟩
  · rw [if_neg hc] at *
    exact did_no hi hg hc
theorem did_sync (hN : A.sp.Pairwise fun x y => x.nm ≠ y.nm) (s : ByteArray) : Did A k (syncM A s) := by
  have hinv := syncM_inv hi hN s
  unfold syncM at *
  by_cases hc : refuse A.on [s] = 0
  · rw [if_pos hc] at *
    cases hf : findT A.sp (nameOf s) with
    | none => exact did_no hi hg (by omega)
    | some t =>
      rw [hf] at hinv
      refine ⟨hinv, fun x hx => ?_, rfl, fun h => absurd rfl h, fun _ => rfl⟩
      rcases mem_upd hx with rfl | h
      · exact good_of hc
      · exact hg x h
  · rw [if_neg hc] at *
    exact did_no hi hg hc
theorem did_remove (s : ByteArray) : Did A k (removeM A s) := by
  have hinv := removeM_inv hi s
  unfold removeM at *
  by_cases hc : refuse A.on [s] = 0
  · rw [if_pos hc] at *
    cases hf : findT A.sp (nameOf s) with
    | none => exact did_no hi hg (by omega)
    | some t =>
      rw [hf] at hinv
      exact ⟨hinv, fun x hx => hg x (mem_drop hx), rfl, fun h => absurd rfl h, fun _ => rfl⟩
  · rw [if_neg hc] at *
    exact did_no hi hg hc
theorem did_rename (s u : ByteArray) : Did A k (renameM A s u) := by
  have hinv := renameM_inv hi s u
  unfold renameM at *
  by_cases hc : refuse A.on [s, u] = 0
  · rw [if_pos hc] at *
    cases hf : findT A.sp (nameOf s) with
    | none => exact did_no hi hg (by omega)
    | some t =>
      rw [hf] at hinv
      refine ⟨hinv, fun x hx => ?_, rfl, fun h => absurd rfl h, fun _ => rfl⟩
      rcases mem_put hx with rfl | h
      · exact good_two hc
      · exact hg x (mem_drop h)
  · rw [if_neg hc] at *
    exact did_no hi hg hc
theorem did_append (hN : A.sp.Pairwise fun x y => x.nm ≠ y.nm) (s : ByteArray) (l : List UInt8) : Did A k (appendM A s l) := by
  have hinv := appendM_inv hi hN s l
  unfold appendM at *
  by_cases hc : refuse A.on [s] = 0
  · rw [if_pos hc] at *
    cases hf : findT A.sp (nameOf s) with
    | none => exact did_no hi hg (by omega)
    | some t =>
      rw [hf] at hinv
      simp only at *
      split
      · exact did_no hi hg (by omega)
      · rename_i h1
        rw [if_neg h1] at hinv
        refine ⟨hinv, fun x hx => ?_, rfl, fun h => absurd rfl h, fun _ => rfl⟩
        rcases mem_upd hx with rfl | h
        · exact good_of hc
        · exact hg x h
  · rw [if_neg hc] at *
    exact did_no hi hg hc
end
/-- An operation's answer, and the disk behind it. -/
def RmOut (w0 : World) (d : Nat) (A : Ab) (k : Nat) (x : Ending) (w' : World) : Prop := ∃ c A', x = .returned (.int .i64 c) ∧ Did A k (c, A') ∧ Kp w0 d A' w'
section
variable {w0 : World} {d : Nat} {A : Ab} {k : Nat} {w1 : World} (h : Kp w0 d A w1) (hi : A.Inv k) (hg : A.Gd) (hk : k ≤ 1000) (s : ByteArray) (hs : s.size ≤ maxLen)
include h hi hg hk hs
theorem rm_create : Calls Tryz.prog 27 #[.pointer (some ⟨d, 0, none⟩), .string s] w1 (RmOut w0 d A k) := (kpm_create h hi hk s hs).mono fun _ _ hh => ⟨_, _, hh.1, did_create hi hg s, hh.2.2⟩
theorem rm_sync : Calls Tryz.prog 31 #[.pointer (some ⟨d, 0, none⟩), .string s] w1 (RmOut w0 d A k) := (kpm_sync h hi hk s hs).mono fun _ _ hh => ⟨_, _, hh.1, did_sync hi hg h.names s, hh.2.2⟩
theorem rm_rename (u : ByteArray) (hu : u.size ≤ maxLen) : Calls Tryz.prog 33 #[.pointer (some ⟨d, 0, none⟩), .string s, .string u] w1 (RmOut w0 d A k) := (kpm_rename h hi hk s hs u hu).mono fun _ _ hh => ⟨_, _, hh.1, did_rename hi hg s u, hh.2.2⟩
theorem rm_append (ao : Option Addr) (l : List UInt8) (c : Nat) (hb : Sees w0 ao l) (hl : l.length ≤ 1000000000) : Calls Tryz.prog 29 #[.pointer (some ⟨d, 0, none⟩), .string s, .slice ao l.length c] w1 (RmOut w0 d A k) := (kpm_append h hi hk s hs ao l c hb hl).mono fun _ _ hh => ⟨_, _, hh.1, did_append hi hg h.names s l, hh.2.2⟩
end
section
variable {w0 : World} {d : Nat} {A : Ab} {k : Nat} {w1 : World} (h : Kp w0 d A w1) (hi : A.Inv k)
include h hi
theorem rm_used : Calls Tryz.prog 96 #[.pointer (some ⟨d, 0, none⟩)] w1 fun x w' => x = .returned (.int .i64 (usedT A.sp : Int)) ∧ w1.grownBy w' none ∧ Kp w0 d A w' := by
  have h0 := h
  obtain ⟨ft, h1, h2⟩ := h
  exact (ab_used h1 hi.fine hi.on).mono fun x w' hh => ⟨hh.1, hh.2, h0.grown hh.2⟩
omit hi in
theorem rm_ops : Calls Tryz.prog 15 #[.pointer (some ⟨d, 0, none⟩)] w1 fun x w' => x = .returned (.int .i64 (A.ops : Int)) ∧ w' = w1 := by
  obtain ⟨ft, h1, h2⟩ := h
  obtain ⟨bm, fs, hD, hs, rfl⟩ := h1
  exact ops_any hD
end
/-! ### the names, and what goes -/
theorem good_lenR {n : List UInt8} (h : goodB n = true) : n.length ≤ 40 := by
  unfold goodB at h
  simp at h
  exact h.1.1.2
/-- The disk, and beside it names in a row of the call's own. -/
def Rx (w0 : World) (d : Nat) (A : Ab) (v : Value) (nl : List (List UInt8)) (w1 : World) : Prop := ∃ ft, At d A ft w1 ∧ Moved w0 w1 [] ft ∧ w1.ownsRow w0.heap.size 9 1 v nl.length (nl.map encStr) ∧ ∀ g, v.ownBlock = some g → g ∉ ft
/-- What is left of the disk while its names are gone over. -/
structure Left (A : Ab) (k : Nat) (nl : List (List UInt8)) (j : Nat) : Prop where
  inv : A.Inv k
  gd : A.Gd
  in_ : ∀ t ∈ A.sp, t.nm ∈ nl.drop j
  at_ : ∀ n ∈ nl.drop j, ∃ t, findT A.sp n = some t
  nd : nl.Nodup
theorem findT_of_mem {sp : List Sig} (hN : sp.Pairwise fun x y => x.nm ≠ y.nm) {t : Sig} (ht : t ∈ sp) : findT sp t.nm = some t := by
  induction sp with
  | nil => cases ht
  | cons y r ih =>
    rw [List.pairwise_cons] at hN
    rw [findT_cons]
    rcases List.mem_cons.1 ht with rfl | h
    · rw [if_pos rfl]
    · rw [if_neg (hN.1 t h)]
      exact ih hN.2 h
theorem list_len {A : Ab} {k : Nat} (hi : A.Inv k) (hr : A.room ≤ 1000000) : A.sp.length ≤ 1000000 := by
  have := len_used A.sp
  have := hi.used
  omega
theorem rx_list {w0 : World} {d : Nat} {A : Ab} {k : Nat} {w1 : World} (h : Kp w0 d A w1) (hi : A.Inv k) (hg : A.Gd) (hr : A.room ≤ 1000000) : Calls Tryz.prog 17 #[.pointer (some ⟨d, 0, none⟩)] w1 fun x w' => ∃ ao c nl, x = .returned (.slice ao nl.length c) ∧ Rx w0 d A (.slice ao nl.length c) nl w' ∧ Left A k nl 0 ∧ nl.length ≤ A.room := by
  have hN := h.names
  obtain ⟨ft, h1, h2⟩ := h
  have h1' := h1
  obtain ⟨bm, fs, hD, hs, hft⟩ := h1
  have hlen : fs.length = A.sp.length := by rw [← hs, List.length_map]
  have hll := list_len hi hr
  refine (list_on hD hi.on (by show fs.length ≤ 1000000; omega)).mono ?_
  rintro x w' ⟨v, ss, rfl, hp, ho, hb⟩
  have hgr := grown_of_below hb
  have hml : (ss.mergeSort (fun x y => decide (x ≤ y))).length = ss.length := List.length_mergeSort _
  obtain ⟨ao, c, rfl, _⟩ := owns_form ho
  have hpm : (ss.mergeSort (fun x y => decide (x ≤ y))).Perm (A.sp.map Sig.nm) := by
    refine (List.mergeSort_perm _ _).trans (hp.trans ?_)
    show (fs.map Ent.nm).Perm _
    rw [← hs, List.map_map]
    exact List.Perm.refl _
  generalize ss.mergeSort (fun x y => decide (x ≤ y)) = nl at *
  have hz := h2.size
  have hlt := h1'.lt
  refine ⟨ao, c, nl, by rw [hml], ⟨ft, h1'.grown hgr, h2.trans (Moved.none_of hgr _), ?_, fun g hgg hi2 => ?_⟩, ⟨hi, hg, fun t ht => ?_, fun n hn => ?_, ?_⟩, ?_⟩
  · rw [hml]
    refine ⟨ho.1, ho.2.imp id ?_⟩
    rintro ⟨g, cap, cur, e, hb', r⟩
    exact ⟨g, cap, cur, e, by omega, r⟩
  · have h3 := (ho.lt g (by rw [hml] at hgg; exact hgg)).1
    have := hlt g hi2
    omega
  · rw [List.drop_zero]
    exact hpm.mem_iff.2 (List.mem_map.2 ⟨t, ht, rfl⟩)
  · rw [List.drop_zero] at hn
    obtain ⟨t, ht, rfl⟩ := List.mem_map.1 (hpm.mem_iff.1 hn)
    exact ⟨t, findT_of_mem hN ht⟩
  · rw [hpm.nodup_iff]
    unfold List.Nodup
    rw [List.pairwise_map]
    exact hN
  · have h5 := hpm.length_eq
    rw [List.length_map] at h5
    have := len_used A.sp
    have := hi.used
    omega
def strBD (n : List UInt8) : ByteArray := ⟨n.toArray⟩
theorem nameOf_strB (n : List UInt8) : nameOf (strBD n) = n := by simp [nameOf, strBD]
theorem rx_cell {w0 : World} {d : Nat} {A : Ab} {ao : Option Addr} {c : Nat} {nl : List (List UInt8)} {w1 : World} (h : Rx w0 d A (.slice ao nl.length c) nl w1) {j : Nat} (hj : j < nl.length) : ∃ g, ao = some ⟨g, 0, none⟩ ∧ w1.cell? ⟨g, j, none⟩ = some (.string (strBD (nl.getD j []))) := by
  obtain ⟨ft, h1, h2, h3, h4⟩ := h
  rcases h3.2 with ⟨e, e2⟩ | ⟨g, cap, cur, e, _⟩
  · omega
  · cases e
    refine ⟨g, rfl, ?_⟩
    have := h3.cells (g := g) rfl j (.string (strBD (nl.getD j []))) (by
      rw [List.getElem?_map, List.getElem?_eq_getElem hj]
      simp [encStr, strBD, List.getD, hj])
    simpa [Addr.add_lit] using this
theorem left_end {A : Ab} {k : Nat} {nl : List (List UInt8)} (h : Left A k nl nl.length) : A.sp = [] := by
  cases hs : A.sp with
  | nil => rfl
  | cons t r =>
    have := h.in_ t (by rw [hs]; exact List.mem_cons_self)
    rw [List.drop_length] at this
    cases this
theorem Rx.kp {w0 : World} {d : Nat} {A : Ab} {v : Value} {nl : List (List UInt8)} {w1 : World} (h : Rx w0 d A v nl w1) : Kp w0 d A w1 := by
  obtain ⟨ft, h1, h2, _⟩ := h
  exact ⟨ft, h1, h2⟩
theorem rx_used {w0 : World} {d : Nat} {A : Ab} {k : Nat} {nl : List (List UInt8)} {v : Value} {w1 : World} (h : Rx w0 d A v nl w1) (hL : Left A k nl nl.length) : Calls Tryz.prog 96 #[.pointer (some ⟨d, 0, none⟩)] w1 fun x w' => x = .returned (.int .i64 0) ∧ Kp w0 d A w' := by
  have := rm_used h.kp hL.inv
  rw [left_end hL] at this
  exact this.mono fun x w' hh => ⟨hh.1, hh.2.2⟩
end Go.Proofs.YtgkdodcidancpaaGreatDoor
