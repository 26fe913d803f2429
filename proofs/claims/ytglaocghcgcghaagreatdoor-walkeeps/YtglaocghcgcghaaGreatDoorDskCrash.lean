/-
  CONTRACT: the power goes, for every disk in memory.
-/
import Derived.Test.YtglaocghcgcghaaGreatDoorDskLine
namespace Go.Proofs.YtglaocghcgcghaaGreatDoor
open Go.RowKit Go.Maps

/-- The disk behind a failure that keeps so many sectors. -/
def crashS (S : St) (keep : Int) : St := if S.on then { S with on := false, fs := S.fs.map fun e => loseE e (lineEndN S keep.toNat) } else S
/-- What a disk must be like. -/
structure St.Fine (S : St) : Prop where
  files : ∀ e ∈ S.fs, e.Fine S.next
  room : S.room ≤ 1073741824
  used : sumUsed S.fs ≤ 1099511627776
  dirty : sumDirty S.fs ≤ 1099511627776
theorem crash_off {w : World} {d bm : Nat} {S : St} (h : DiskAt w d bm S) (hoff : S.on = false) (keep : Int) :
    Calls Tryz.prog 12 #[.pointer (some ⟨d, 0, none⟩), .int .i64 keep] w fun x w' => x = .returned (.tuple #[]) ∧ w' = w := by
  have O := on_any h
  rw [hoff] at O
  have O : Hid (Calls Tryz.prog 11 #[.pointer (some ⟨d, 0, none⟩)] w fun e w' => e = .returned (.bool false) ∧ w' = w) := O
  clear h
  go_enter Tryz.func12, Tryz.ntmps12
  go_wp2_with (go_at_call 11; refine O.out.mono ?_; rintro e w1 ⟨rfl, rfl⟩)
  refine bodyPost_ret (results_none rfl _ _ _) rfl ?_
  exact ⟨rfl, rfl⟩

set_option maxRecDepth 100000 in
set_option maxHeartbeats 2000000 in
theorem crash_on {w : World} {d bm : Nat} {S : St} (h : DiskAt w d bm S) (hon : S.on = true) (hF : S.Fine) (keep : Int) (hk1 : -9223372036854775808 ≤ keep) (hk2 : keep ≤ 9223372036854775807) :
    Calls Tryz.prog 12 #[.pointer (some ⟨d, 0, none⟩), .int .i64 keep] w fun x w' => x = .returned (.tuple #[]) ∧ DiskAt w' d bm { S with on := false, fs := S.fs.map fun e => loseE e (lineEndN S keep.toNat) } ∧ Moved w w' (foot d bm S.fs) (foot d bm S.fs) := by
  have O := on_any h
  rw [hon] at O
  have O : Hid (Calls Tryz.prog 11 #[.pointer (some ⟨d, 0, none⟩)] w fun e w' => e = .returned (.bool true) ∧ w' = w) := O
  have c2 := h.c2
  have f2 := h.head.frozen 2
  have h1 : DiskAt (w.setCell ⟨d, 2, none⟩ (.bool false)) d bm { S with on := false } := h.put (S' := { S with on := false }) rfl 2 (.bool false) rfl
  have M1 : Moved w (w.setCell ⟨d, 2, none⟩ (.bool false)) (foot d bm S.fs) (foot d bm S.fs) := (Moved.of_set d 2 (.bool false)).wider (fun i hi => .inl (by simp at hi; simp [foot, hi])) (fun i hi => .inl hi)
  have L := lineEnd_any h1 hF.dirty keep hk1 hk2
  have hx : lineEndN { S with on := false } keep.toNat = lineEndN S keep.toNat := rfl
  rw [hx] at L
  have L : Hid (Calls Tryz.prog 32 #[.pointer (some ⟨d, 0, none⟩), .int .i64 keep] (w.setCell ⟨d, 2, none⟩ (.bool false)) fun x w' => x = .returned (.int .i64 (lineEndN S keep.toNat : Int)) ∧ (w.setCell ⟨d, 2, none⟩ (.bool false)).grownBy w' none) := L
  have Hp : Hid (S.fs.Pairwise fun x y => x.nm ≠ y.nm) := h.names
  have HF : Hid S.Fine := hF
  have HA : Hid ((foot d bm S.fs).Nodup) := h.apart
  have H1 : Hid (DiskAt (w.setCell ⟨d, 2, none⟩ (.bool false)) d bm { S with on := false }) := h1
  have HM1 : Hid (Moved w (w.setCell ⟨d, 2, none⟩ (.bool false)) (foot d bm S.fs) (foot d bm S.fs)) := M1
  clear h hF h1 M1 hx
  generalize lineEndN S keep.toNat = x at *
  go_enter Tryz.func12, Tryz.ntmps12
  go_wp2_with (first | (go_at_call 11; refine O.out.mono ?_; rintro e w1 ⟨rfl, rfl⟩) | (go_at_call 32; go_fit L.out; rintro e w2 ⟨rfl, hg2⟩; have h2 := H1.out.carry (w' := w2) (fun i hi => hg2.block i (H1.out.lt i hi) (by simp)); have c0 := h2.c0; have hown := h2.map; dsimp only at hown) | (at_range; refine wpList_range_own _ rfl _ 59 rfl 9 76 law Tryz.underlying59 _ bm _ _ rfl hown ?_; intro w0 hrg0 hg0 hs0))
  go_frame
  have h0 : DiskAt w0 d bm { S with on := false } := h2.carry fun i hi => hg0.block i (h2.lt i hi) (by simp)
  have M0 : Moved w1 w0 (foot d bm S.fs) (foot d bm S.fs) := (HM1.out.trans (Moved.none_of hg2 _)).trans (Moved.none_of hg0 _)
  have hlow : ∀ i ∈ foot d bm S.fs, i < w2.heap.size := h2.lt
  have hR : w1.heap.size ≤ w2.heap.size := by have := hg2.size; rwa [size_setCell] at this
  obtain ⟨r, hr⟩ : ∃ r, w2.heap.size = r := ⟨_, rfl⟩
  have start : Hid (∃ left cnt, w0.ranges Tryz.prog 9 ptrElem bm r S.fs.length (datum S.fs) left cnt ∧ DiskAt w0 d bm { S with on := false, fs := losing left x S.fs } ∧ Moved w1 w0 (foot d bm S.fs) (r :: foot d bm S.fs)) := ⟨_, _, hr ▸ hrg0, by rw [losing_start _ _ Hp.out]; exact h0, M0.wider (fun i hi => .inl hi) (fun i hi => by rcases List.mem_cons.1 hi with h | h; exact .inr (.inr (by omega)); exact .inl h)⟩
  have Hlow : Hid (∀ i ∈ foot d bm S.fs, i < r) := hr ▸ hlow
  have HR : Hid (w1.heap.size ≤ r) := hr ▸ hR
  rw [hr]
  clear hs0 hrg0 hg0 hown c0 h2 h0 M0 hlow hR hg2 H1 HM1 hr L O c2 f2
  go_loopw [] (fun wr => ∃ left cnt, wr.ranges Tryz.prog 9 ptrElem bm r S.fs.length (datum S.fs) left cnt ∧ DiskAt wr d bm { S with on := false, fs := losing left x S.fs } ∧ Moved w1 wr (foot d bm S.fs) (r :: foot d bm S.fs)) (fun wr => wr.rangeLeft bm r)
  case atStart => exact start.out
  case round =>
    obtain ⟨left, cnt, hrg, hD, hM⟩ := hrel
    clear start
    have HD : Hid (DiskAt wr d bm { S with on := false, fs := losing left x S.fs }) := hD
    have HM : Hid (Moved w1 wr (foot d bm S.fs) (r :: foot d bm S.fs)) := hM
    clear hD hM
    go_wp2_with (at_next; refine wpList_next_ranges _ rfl _ rfl 9 law ptrElem encStr (fun b : Nat => Value.pointer (some ⟨b, 0, none⟩)) invK invV bm r S.fs.length _ _ _ rfl hrg ?_ ?_)
    · intro hc0 hl0
      have hend : Hid (losing left x S.fs = S.fs.map fun e => loseE e x) := losing_end _ _ hl0
      clear hl0 hc0
      go_wp2
      go_end0
      exact ⟨rfl, hend.out ▸ HD.out, HM.out.sub (fun i hi => List.mem_cons_of_mem _ hi)⟩
    · intro y c kl yd yp w3 cnt2 hkey hlk hv hat hrg2 hlt hg2 hs2 hen
      obtain ⟨e, he, hb, hn, hl⟩ := ranged hkey hlk hv hat
      subst hb
      have hrf : r ∉ foot d bm (losing left x S.fs) := fun hi => by
        have : r ∈ foot d bm S.fs := by
          simp only [foot, List.mem_cons] at hi ⊢
          exact hi.imp id fun h => h.imp id losing_feet
        have := Hlow.out r this
        omega
      have hD3 : DiskAt w3 d bm { S with on := false, fs := losing left x S.fs } := HD.out.carry fun i hi => hg2.block i (HD.out.lt i hi) (fun e1 => by cases e1; exact hrf hi)
      have hM3 : Moved wr w3 (r :: foot d bm S.fs) (r :: foot d bm S.fs) := (Moved.of_grown hg2).wider (fun i hi => .inl (by simp at hi; simp [hi])) (fun i hi => .inl hi)
      have hmem := losing_mem (x := x) he hl
      have hE := hD3.ents e hmem
      have hf := HF.out.files e he
      have C : Hid (Calls Tryz.prog 33 #[.pointer (some ⟨e.b, 0, none⟩), .int .i64 (x : Int)] w3 fun z w' => z = .returned (.tuple #[]) ∧ EntAt w' (loseE e x) ∧ Moved w3 w' e.foot (loseE e x).foot) := lose_any hE hf.rise hf.pln hf.wr hf.len x
      have HD3 : Hid (DiskAt w3 d bm { S with on := false, fs := losing left x S.fs }) := hD3
      have HM3 : Hid (Moved w1 w3 (foot d bm S.fs) (r :: foot d bm S.fs)) := HM.out.trans hM3
      have HRG : Hid (w3.ranges Tryz.prog 9 ptrElem bm r S.fs.length (datum S.fs) (fun z => left z && !z.sameKey kl) cnt2) := hrg2
      have Hlt : Hid (cnt2 < wr.rangeLeft bm r) := by show _ < _; rw [hrg.left_eq]; exact hlt
      have Hst : Hid (swap (losing left x S.fs) e (loseE e x) = losing (fun z => left z && !z.sameKey kl) x S.fs) := by
        show _ = _
        rw [hn]
        exact losing_step Hp.out (nodup_d HA.out).2.2.2 he hl
      have Hmem : Hid (e ∈ losing left x S.fs ∧ e ∈ S.fs) := ⟨hmem, he⟩
      clear hs2 hg2 hlt hrg2 hat hv hlk hkey hrf hD3 hM3 hmem hE hf hl hn he HD HM hrg
      go_wp2_with (go_at_call 33; go_fit C.out; rintro z w4 ⟨rfl, hE4, hM4⟩)
      have hT := HD3.out.turn Hmem.out.1 hM4 hE4 rfl rfl
      have hD4 := hT.1
      dsimp only at hD4
      rw [Hst.out] at hD4
      have hef : ∀ i ∈ e.foot, i ∈ foot d bm S.fs := fun i hi => by simp only [foot, List.mem_cons]; exact .inr (.inr (feet_mem.2 ⟨e, Hmem.out.2, hi⟩))
      have hM4' : Moved w3 w4 (r :: foot d bm S.fs) (r :: foot d bm S.fs) := hM4.wider (fun i hi => .inl (List.mem_cons_of_mem _ (hef i hi))) (fun i hi => .inl hi)
      have hr4 : r ∉ e.foot := fun hi => by have := Hlow.out r (hef r hi); omega
      have hb4 : bm ∉ e.foot := fun hi => (nodup_d HA.out).2.2.1 (feet_mem.2 ⟨e, Hmem.out.2, hi⟩)
      have hR4 := ranges_carry HRG.out (hM4.kept bm HRG.out.owns.lt hb4) (hM4.kept r HRG.out.lt hr4)
      have Hall : Hid (∃ left cnt, w4.ranges Tryz.prog 9 ptrElem bm r S.fs.length (datum S.fs) left cnt ∧ DiskAt w4 d bm { S with on := false, fs := losing left x S.fs } ∧ Moved w1 w4 (foot d bm S.fs) (r :: foot d bm S.fs)) := ⟨_, _, hR4, hD4, HM3.out.trans hM4'⟩
      have Hme : Hid (w4.rangeLeft bm r < wr.rangeLeft bm r) := by show _ < _; rw [hR4.left_eq]; exact Hlt.out
      clear hR4 hb4 hr4 hM4' hef hD4 hT hM4 hE4
      go_round
      case rel => exact Hall.out
      case measure => exact Hme.out
end Go.Proofs.YtglaocghcgcghaaGreatDoor
