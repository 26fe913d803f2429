/-
  CONTRACTS: where the line ends behind a failure, and the failure, for every disk in memory.
-/
import Derived.Test.YtglaocghcgcghaaGreatDoorMany4
import Derived.Test.YtglaocghcgcghaaGreatDoorMany5
import Derived.Sort.OwnSortedInts
import Derived.Test.YtglaocghcgcghaaGreatDoorMany2
namespace Go.Proofs.YtglaocghcgcghaaGreatDoor
open Go.RowKit Go.Maps Go.Sort

/-- All places, file by file. -/
def linesOf (fs : List Ent) : List Nat := fs.flatMap Ent.pl
/-- The place that the first keep sectors of the line are ahead of. -/
def lineEndN (S : St) (keep : Nat) : Nat := if (linesOf S.fs).length ≤ keep then S.next else ((linesOf S.fs).mergeSort (fun a b => decide (a ≤ b))).getD keep 0
theorem lines_perm {a b : List Ent} (h : a.Perm b) : (linesOf a).Perm (linesOf b) := h.flatMap_right _
theorem lines_length (fs : List Ent) : (linesOf fs).length = sumDirty fs := by unfold linesOf sumDirty; rw [List.length_flatMap]
theorem src_intsD {w : World} {base n : Nat} {v : Value} {l : List Nat} (h : w.ownsRow base 3 1 v n (I64D l)) : Src Tryz.prog 1 78 v l.length (I64D l) w := by
  have hl : l.length = n := by have := h.1; rwa [I64_length, Nat.mul_one] at this
  subst hl
  rcases h.2 with ⟨rfl, h0⟩ | ⟨g, cap, cur, rfl, _⟩
  · obtain rfl : l = [] := List.eq_nil_of_length_eq_zero h0
    exact Src.ofNil w Tryz.underlying78 0
  · refine Src.ofSlice w Tryz.underlying78 _ _ cap _ (by rw [I64_length, Nat.mul_one]) (h.cells (g := g) rfl) ?_
    intro u hu
    obtain ⟨_, _, rfl⟩ := List.mem_map.1 hu
    rfl
theorem sort_own {w : World} {base cap : Nat} {ao : Option Addr} {l : List Nat} (h : w.ownsRow base 3 1 (.slice ao l.length cap) l.length (I64D l)) (h0 : 0 < l.length) (hm : l.length < 4611686018427387904) :
    ∃ g, ao = some ⟨g, 0, none⟩ ∧ base ≤ g ∧ Calls Tryz.prog 58 #[.slice (some ⟨g, 0, none⟩) l.length cap] w fun e w' => e = .returned (.tuple #[]) ∧ (∀ j, j < l.length → w'.cell? ⟨g, j, none⟩ = some (.int .i64 (((l.mergeSort (fun a b => decide (a ≤ b))).getD j 0 : Nat) : Int))) ∧ w.grownBy w' (some g) := by
  rcases h.2 with ⟨_, h0⟩ | ⟨g, cap', cur, hv, hbase, hb, h1, h2, h3, h4⟩
  · omega
  · cases hv
    refine ⟨g, rfl, hbase, ?_⟩
    have hlm : (l.map fun n : Nat => (n : Int)).length = l.length := List.length_map _
    have hcI : I64D l = (l.map fun n : Nat => (n : Int)).map (Value.int .i64) := by simp [I64D, List.map_map]
    have C := Tryz.slices_Sort_int g 0 cap (l.map fun n : Nat => (n : Int)) w (holds_of_blockI hb (by rw [hlm]; rw [Nat.mul_one] at h4; rw [h4, hcI])) (Array.getElem?_eq_some_iff.1 hb).1 (by rw [hlm]; exact hm)
    rw [hlm] at C
    refine C.mono ?_
    rintro e w' ⟨rfl, nn, os, rfl⟩
    refine ⟨rfl, ?_, grownBy_sortedI _⟩
    rw [mergeSort_cast]
    have hlt : ((l.mergeSort (fun a b => decide (a ≤ b))).map fun n : Nat => (n : Int)).length = (l.map fun n : Nat => (n : Int)).length := by simp
    have ho := ownsRow_sortedI (n := nn) (os := os) (base := 0) hlt (Nat.zero_le _) hb (by rw [hlm]; exact h1) h2 h3
    intro j hj
    have hj' : j < (l.mergeSort (fun a b => decide (a ≤ b))).length := by simpa using hj
    have := ho.cells (g := g) rfl j (.int .i64 (((l.mergeSort (fun a b => decide (a ≤ b))).getD j 0 : Nat) : Int)) (by
      rw [List.map_map, List.getElem?_map, List.getElem?_eq_getElem hj', List.getD_eq_getElem?_getD, List.getElem?_eq_getElem hj']
      rfl)
    rw [Addr.add_lit, Nat.zero_add] at this
    exact this

set_option maxRecDepth 100000 in
set_option maxHeartbeats 2000000 in
theorem lineEnd_any {w : World} {d bm : Nat} {S : St} (h : DiskAt w d bm S) (hb : sumDirty S.fs ≤ 1099511627776) (keep : Int) (hk1 : -9223372036854775808 ≤ keep) (hk2 : keep ≤ 9223372036854775807) :
    Calls Tryz.prog 32 #[.pointer (some ⟨d, 0, none⟩), .int .i64 keep] w fun x w' => x = .returned (.int .i64 (lineEndN S keep.toNat : Int)) ∧ w.grownBy w' none := by
  have c0 := h.c0
  have hown := h.map
  have K : Hid (DiskAt w d bm S) := h
  have Hp : Hid (S.fs.Pairwise fun x y => x.nm ≠ y.nm) := h.names
  have Hb : Hid (sumDirty S.fs ≤ 1099511627776) := hb
  obtain ⟨i1, hi1, hy0, hy1, hy2⟩ := info_parts infoI
  clear h hb
  go_enter Tryz.func32, Tryz.ntmps32
  go_wp2_with (at_range; refine wpList_range_own _ rfl _ 59 rfl 9 76 law Tryz.underlying59 _ bm _ _ rfl hown ?_; intro w0 hrg0 hg0 hs0)
  go_frame
  have start : Hid (∃ left cnt l ao cap, w0.ranges Tryz.prog 9 ptrElem bm w.heap.size S.fs.length (datum S.fs) left cnt ∧ Value.slice none 0 0 = .slice ao l.length cap ∧ w0.ownsRow (w.heap.size + 1) 3 1 (.slice ao l.length cap) l.length (I64D l) ∧ l.Perm (linesOf (vis left S.fs)) ∧ w.grownBy w0 none ∧ w.heap.size + 1 ≤ w0.heap.size) := ⟨_, _, [], none, 0, hrg0, rfl, World.ownsRow_nil _ _ _ _, by rw [vis_start _ Hp.out]; exact List.Perm.refl _, hg0, by omega⟩
  clear hs0 hrg0 hg0 hown c0
  go_loopw [5] (fun s wr => ∃ left cnt l ao cap, wr.ranges Tryz.prog 9 ptrElem bm w.heap.size S.fs.length (datum S.fs) left cnt ∧ s = .slice ao l.length cap ∧ wr.ownsRow (w.heap.size + 1) 3 1 (.slice ao l.length cap) l.length (I64D l) ∧ l.Perm (linesOf (vis left S.fs)) ∧ w.grownBy wr none ∧ w.heap.size + 1 ≤ wr.heap.size) (fun _ wr => wr.rangeLeft bm w.heap.size)
  case atStart => exact start.out
  case round =>
    obtain ⟨left, cnt, l, ao, cap, hrg, rfl, hrow, hperm, hg, hsz⟩ := hrel
    clear start
    have Hg : Hid (w.grownBy wr none) := hg
    have Hrow : Hid (wr.ownsRow (w.heap.size + 1) 3 1 (.slice ao l.length cap) l.length (I64D l)) := hrow
    have HP : Hid (l.Perm (linesOf (vis left S.fs))) := hperm
    clear hg hrow hperm
    go_wp2_with (at_next; refine wpList_next_ranges _ rfl _ rfl 9 law ptrElem encStr (fun b : Nat => Value.pointer (some ⟨b, 0, none⟩)) invK invV bm w.heap.size S.fs.length _ _ _ rfl hrg ?_ ?_)
    · intro hc0 hl0
      have hperm := HP.out
      rw [vis_end _ hl0] at hperm
      have HP2 : Hid (l.Perm (linesOf S.fs)) := hperm
      have hll : l.length = (linesOf S.fs).length := hperm.length_eq
      have hD : DiskAt wr d bm S := K.out.carry fun i hi => Hg.out.block i (K.out.lt i hi) (by simp)
      have c4 := hD.c4
      obtain ⟨kk, hkk⟩ : ∃ kk, keep.toNat = kk := ⟨_, rfl⟩
      have hmx : max 0 keep = (kk : Int) := by omega
      have hbd := Hb.out
      rw [← lines_length] at hbd
      have hkn : (kk : Int) ≤ 9223372036854775807 := by omega
      have HN : Hid (lineEndN S keep.toNat = if l.length ≤ kk then S.next else (l.mergeSort (fun a b => decide (a ≤ b))).getD kk 0) := by
        show _ = _
        unfold lineEndN
        rw [hkk, hll, mergeSort_nat hperm]
      rw [← hll] at hbd
      clear hc0 hl0 hperm hD HP hrg hkk hll
      by_cases hge : l.length ≤ kk
      · go_wp2
        go_ret
        exact ⟨ret_int (by rw [HN.out, if_pos hge]), Hg.out⟩
      · have hSo := sort_own Hrow.out (by omega) (by omega)
        obtain ⟨g, rfl, hgl, hSo⟩ := hSo
        have HS : Hid (Calls Tryz.prog 58 #[.slice (some ⟨g, 0, none⟩) l.length cap] wr fun e w' => e = .returned (.tuple #[]) ∧ (∀ j, j < l.length → w'.cell? ⟨g, j, none⟩ = some (.int .i64 (((l.mergeSort (fun a b => decide (a ≤ b))).getD j 0 : Nat) : Int))) ∧ wr.grownBy w' (some g)) := hSo
        clear hSo
        have hlt : kk < l.length := by omega
        have HN2 : Hid (lineEndN S keep.toNat = (l.mergeSort (fun a b => decide (a ≤ b))).getD kk 0) := by show _ = _; rw [HN.out, if_neg hge]
        clear hge
        generalize (l.mergeSort (fun a b => decide (a ≤ b))) = srt at *
        go_wp2_with (go_at_call 58; go_fit HS.out; rintro e w3 ⟨rfl, hcs, hg3⟩; have hck := hcs kk hlt; clear hcs)
        go_ret
        exact ⟨ret_int (by rw [HN2.out]; simp [List.getD]), Hg.out.andThen hg3 (fun j hj => .inl (by cases hj; omega))⟩
    · intro x c kl yd yp w2 cnt2 hkey hlk hv hat hrg2 hlt hg2 hs2 hen
      obtain ⟨e, he, hb, hn, hl⟩ := ranged hkey hlk hv hat
      subst hb
      have hgn : w.grownBy w2 none := Hg.out.andThen hg2 (fun j hj => .inl (by cases hj; exact Nat.le_refl _))
      have hE : EntAt w2 e := (K.out.ents e he).carry fun i hi => hgn.block i ((K.out.ents e he).lt i hi) (by simp)
      have hvp := vis_step Hp.out he hl
      have HR : Hid (w2.ranges Tryz.prog 9 ptrElem bm w.heap.size S.fs.length (datum S.fs) (fun z => left z && !z.sameKey kl) cnt2) := hrg2
      have HM : Hid (cnt2 < wr.rangeLeft bm w.heap.size) := by show _ < _; rw [hrg.left_eq]; exact hlt
      have HG : Hid (w.grownBy w2 none) := hgn
      have HV : Hid ((l ++ e.pl).Perm (linesOf (vis (fun z => left z && !z.sameKey kl) S.fs))) := by
        show List.Perm _ _
        rw [hn]
        refine List.Perm.trans ?_ (lines_perm hvp).symm
        show (l ++ e.pl).Perm (e.pl ++ linesOf (vis left S.fs))
        exact (List.perm_append_comm).trans (List.Perm.append_left _ HP.out)
      have c2 := hE.c2
      obtain ⟨ao2, cap2, hv2, _⟩ := owns_form hE.row2
      have hsrc := src_intsD hE.row2
      rw [hv2] at c2 hsrc
      have hro : w2.ownsRow (w.heap.size + 1) 3 1 (.slice ao l.length cap) l.length (I64D l) := owns_carry Hrow.out fun g hgv => hg2.block g (Hrow.out.lt g hgv).2 (fun e1 => by cases e1; have := (Hrow.out.lt _ hgv).1; omega)
      have hlen : l.length + e.pl.length ≤ 1099511627776 := by
        have h1 := HV.out.length_eq
        rw [List.length_append, lines_length] at h1
        have h2 := sumDirty_vis (fun z => left z && !z.sameKey kl) S.fs
        have h3 := Hb.out
        omega
      have hsz2 : w.heap.size + 1 ≤ w2.heap.size := by omega
      clear hs2 hg2 hlt hrg2 hat hv hlk hkey hgn hvp hrg hl hn hv2
      go_wp2_with (at_builtin; go_must (refine wpList_append_shape _ rfl _ _ 78 78 rfl (w.heap.size + 1) 3 i1 (.int .i64 0) 8 Tryz.underlying78 hi1 hy0 hy1 hy2 rfl _ l.length (I64D l) rfl hro _ e.pl.length (I64D e.pl) rfl hsrc (by unfold maxLen; omega) (by omega) hsz2 ?_; intro ao3 cap3 w3 ho3 hg3))
      have hR3 := HR.out.kept hg3.rows (row_ne_low hro (Nat.lt_succ_of_lt K.out.map.lt)) (row_ne_low hro (Nat.lt_succ_self _))
      have HR3 : Hid (w3.ranges Tryz.prog 9 ptrElem bm w.heap.size S.fs.length (datum S.fs) (fun z => left z && !z.sameKey kl) cnt2) := hR3
      have HG3 : Hid (w.grownBy w3 none) := HG.out.andThen hg3.rows (fun j hj => .inl (by have := (hro.lt j hj).1; omega))
      clear hR3
      go_round
      case rel => exact ⟨_, _, l ++ e.pl, ao3, cap3, HR3.out, by rw [List.length_append], by rw [List.length_append, I64_append]; exact ho3, HV.out, HG3.out, Nat.le_trans hsz2 hg3.rows.size⟩
      case measure => rw [HR3.out.left_eq]; exact HM.out

/-! ### the failure -/
/-- What a file must be like. -/
structure Ent.Fine (next : Nat) (e : Ent) : Prop where
  wr : e.wr ≤ e.bs.length
  len : e.bs.length ≤ 1099511627776
  pln : e.pl.length ≤ 1099511627776
  rise : e.pl.Pairwise (· < ·)
  ahead : ∀ p ∈ e.pl, p < next
/-- The files of which those that were gone over have lost what they lose. -/
def losing (left : Lit → Bool) (x : Nat) (fs : List Ent) : List Ent := fs.map fun e => if left (.string e.nm) then e else loseE e x
theorem losing_start (fs : List Ent) (x : Nat) (hp : fs.Pairwise fun x y => x.nm ≠ y.nm) : losing (Maps.has (datum fs)) x fs = fs := by
  unfold losing
  conv => rhs; rw [← List.map_id fs]
  apply List.map_congr_left
  intro e he
  rw [datum_has, find_of_mem hp he]
  rfl
theorem losing_end {left : Lit → Bool} (fs : List Ent) (x : Nat) (h : ∀ kl, left kl = false) : losing left x fs = fs.map fun e => loseE e x := by
  unfold losing
  apply List.map_congr_left
  intro e _
  rw [h]
  rfl
theorem losing_datum (left : Lit → Bool) (x : Nat) (fs : List Ent) : datum (losing left x fs) = datum fs := by
  unfold datum losing
  rw [List.map_map]
  congr 1
  apply List.map_congr_left
  intro e _
  simp only [Function.comp]
  split <;> rfl
theorem losing_mem {left : Lit → Bool} {x : Nat} {fs : List Ent} {e : Ent} (he : e ∈ fs) (hl : left (.string e.nm) = true) : e ∈ losing left x fs := List.mem_map.2 ⟨e, he, by rw [hl]; rfl⟩
theorem losing_step {left : Lit → Bool} {x : Nat} {fs : List Ent} (hp : fs.Pairwise fun x y => x.nm ≠ y.nm) (hb : (feet fs).Nodup) {e : Ent} (he : e ∈ fs) (hl : left (.string e.nm) = true) :
    swap (losing left x fs) e (loseE e x) = losing (fun z => left z && !z.sameKey (.string e.nm)) x fs := by
  unfold losing swap
  rw [List.map_map]
  apply List.map_congr_left
  intro y hy
  simp only [Function.comp, same_str]
  by_cases hye : y = e
  · subst hye
    simp [hl]
  · have hn : (y.nm == e.nm) = false := by
      rw [beq_eq_false_iff_ne]
      intro hn
      have h1 := find_of_mem hp hy
      have h2 := find_of_mem hp he
      rw [hn, h2] at h1
      exact hye (Option.some.inj h1).symm
    have hbb : y.b ≠ e.b := fun hb' => hye (feet_same hb hy he (i := e.b) (hb' ▸ b_mem) b_mem)
    have hb2 : (if left (.string y.nm) = true then y else loseE y x).b ≠ e.b := by split <;> exact hbb
    rw [if_neg hb2]
    simp [hn]
theorem ranges_carry {w w' : World} {P : Program} {k : TypeId} {R : Value → Option (DataW Unit × List MemPlace)} {b r n : Nat} {D : DataW Unit} {left : Lit → Bool} {cnt : Nat} (h : w.ranges P k R b r n D left cnt) (hb : w'.heap[b]? = w.heap[b]?) (hr : w'.heap[r]? = w.heap[r]?) : w'.ranges P k R b r n D left cnt := by
  unfold World.ranges at h ⊢
  rw [hb, hr]
  exact h
theorem lose_foot {e : Ent} {x i : Nat} (h : i ∈ (loseE e x).foot) : i ∈ e.foot := by
  have hc : (cutV e.v1 (lostAt e x)).ownBlock = e.v1.ownBlock := by
    cases e.v1 <;> try rfl
    rename_i ao _ _
    cases ao <;> rfl
  unfold loseE endE Ent.foot at h
  simp only [hc, toList_nil, List.append_nil] at h
  unfold Ent.foot
  rcases List.mem_cons.1 h with h | h
  · exact h ▸ List.mem_cons_self
  · exact List.mem_cons_of_mem _ (List.mem_append_left _ h)
theorem losing_feet {left : Lit → Bool} {x : Nat} {fs : List Ent} {i : Nat} (h : i ∈ feet (losing left x fs)) : i ∈ feet fs := by
  obtain ⟨y, hy, hi⟩ := feet_mem.1 h
  obtain ⟨e, he, rfl⟩ := List.mem_map.1 hy
  refine feet_mem.2 ⟨e, he, ?_⟩
  split at hi
  · exact hi
  · exact lose_foot hi
end Go.Proofs.YtglaocghcgcghaaGreatDoor
