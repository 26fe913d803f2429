/-
  CONTRACTS: what all files need, and what is dirty of them, for every disk in memory.
-/
import Derived.Test.YtoeoioigelknnaaGreatMany4
namespace Go.Proofs.YtoeoioigelknnaaGreat
open Go.RowKit Go.Maps

theorem invK : ∀ key kl, keyOf Tryz.prog 9 key = some kl → ∃ x, key = encStr x := fun key kl hk => by obtain ⟨x, hx, _⟩ := Maps.keyOf_str Tryz.underlying9 hk; exact ⟨x, hx⟩
theorem invV : ∀ v y, ptrElem v = some y → ∃ c : Nat, v = (fun b : Nat => Value.pointer (some ⟨b, 0, none⟩)) c := fun v y hv => by obtain ⟨b, hb, _⟩ := ptrElem_inv hv; exact ⟨b, hb⟩
/-- The entry that has come is a file's. -/
theorem ranged {fs : List Ent} {x : List UInt8} {c : Nat} {kl : Lit} {yd : DataW Unit} {yp : List MemPlace} {left : Lit → Bool} (hkey : keyOf Tryz.prog 9 (encStr x) = some kl) (hlk : left kl = true)
    (hv : ptrElem ((fun b : Nat => Value.pointer (some ⟨b, 0, none⟩)) c) = some (yd, yp)) (hat : ∀ zd, (datum fs).atKey kl zd = yd) : ∃ e, e ∈ fs ∧ e.b = c ∧ kl = .string e.nm ∧ left (.string e.nm) = true := by
  obtain ⟨x', ex, rfl, _⟩ := Maps.keyOf_str Tryz.underlying9 hkey
  obtain rfl : x = x' := encStr_inj ex
  have hy : yd = .lit (.int .i64 (c : Int)) := by
    have h1 := ptrElem_mk c
    have h2 := hv.symm.trans h1
    cases h2
    rfl
  subst hy
  have h0 := hat .nil
  rw [datum_at] at h0
  cases hf : find fs x with
  | none => rw [hf] at h0; cases h0
  | some e =>
    rw [hf] at h0
    have hb : (e.b : Int) = (c : Int) := by simpa using h0
    obtain ⟨he, hn⟩ := find_some hf
    exact ⟨e, he, by omega, by rw [hn], by rw [hn]; exact hlk⟩
theorem List.Perm.sum_nat {a b : List Nat} (h : a.Perm b) : a.sum = b.sum := by
  induction h with
  | nil => rfl
  | cons x _ ih => simp only [List.sum_cons, ih]
  | swap x y l => simp only [List.sum_cons]; omega
  | trans _ _ h1 h2 => exact h1.trans h2
theorem List.single_le_sum_nat {l : List Nat} {x : Nat} (h : x ∈ l) : x ≤ l.sum := by
  induction l with
  | nil => cases h
  | cons y r ih =>
    simp only [List.sum_cons]
    rcases List.mem_cons.1 h with rfl | h
    · omega
    · have := ih h; omega

/-! ### what all files need -/
theorem countUsed {w : World} {e : Ent} (h : EntAt w e) (hb : 1 + (e.bs.length + 15) / 16 ≤ 1099511627776) :
    Calls Tryz.prog 46 #[.pointer (some ⟨e.b, 0, none⟩)] w fun x w' => x = .returned (.int .i64 ((1 + (e.bs.length + 15) / 16 : Nat) : Int)) ∧ w' = w := by
  obtain ⟨ao, cap, hv, _⟩ := owns_form h.row1
  have c0 := h.c0
  rw [hv] at c0
  have S1 : Hid (Calls Tryz.prog 24 #[.int .i64 (e.bs.length : Int)] w fun x' w' => x' = .returned (.int .i64 (secI (e.bs.length : Int))) ∧ w' = w) := sectors_in _ _ ⟨by omega, by omega⟩
  have hs := secI_nat e.bs.length
  clear h hv
  rw [hs] at S1
  clear hs
  generalize (e.bs.length + 15) / 16 = q at *
  go_enter Tryz.func46, Tryz.ntmps46
  go_wp2_with (go_at_call 24; refine S1.out.mono ?_; rintro x w1 ⟨rfl, rfl⟩)
  go_ret
  exact ⟨ret_int (by omega), rfl⟩
def sumUsed (fs : List Ent) : Nat := (fs.map fun e => 1 + (e.bs.length + 15) / 16).sum
theorem sumUsed_perm {a b : List Ent} (h : a.Perm b) : sumUsed a = sumUsed b := (h.map _).sum_nat
theorem sumUsed_vis (left : Lit → Bool) (fs : List Ent) : sumUsed (vis left fs) ≤ sumUsed fs := by
  unfold sumUsed vis
  induction fs with
  | nil => exact Nat.le_refl _
  | cons x r ih =>
    rw [List.filter_cons]
    split
    · simp only [List.map_cons, List.sum_cons]; omega
    · simp only [List.map_cons, List.sum_cons]; omega
theorem sumUsed_mem {fs : List Ent} {e : Ent} (h : e ∈ fs) : 1 + (e.bs.length + 15) / 16 ≤ sumUsed fs := by
  unfold sumUsed
  exact List.single_le_sum_nat (List.mem_map.2 ⟨e, h, rfl⟩)

set_option maxRecDepth 100000 in
set_option maxHeartbeats 800000 in
theorem totalUsed {w : World} {d bm : Nat} {S : St} (h : DiskAt w d bm S) (hon : S.on = true) (hb : sumUsed S.fs ≤ 1099511627776) :
    Calls Tryz.prog 45 #[.pointer (some ⟨d, 0, none⟩), .func (.func 46) #[] #[]] w fun x w' => x = .returned (.int .i64 (sumUsed S.fs : Int)) ∧ w.grownBy w' none := by
  have R := refusal_nil h
  rw [hon] at R
  have M : Hid (Calls Tryz.prog 42 #[.pointer (some ⟨d, 0, none⟩), .slice none 0 0] w fun x w' => x = .returned (.int .i64 0) ∧ w' = w) := R
  clear R
  have c0 := h.c0
  have hown := h.map
  have K : Hid (DiskAt w d bm S) := h
  have hp := h.names
  have Hp : Hid (S.fs.Pairwise fun x y => x.nm ≠ y.nm) := hp
  have Hb : Hid (sumUsed S.fs ≤ 1099511627776) := hb
  clear h hp hb hon
  go_enter Tryz.func45, Tryz.ntmps45
  go_wp2_with (first | (go_at_call 42; refine M.out.mono ?_; rintro e w1 ⟨rfl, rfl⟩) | (at_range; refine wpList_range_own _ rfl _ 42 rfl 9 70 law Tryz.underlying42 _ bm _ _ rfl hown ?_; intro w0 hrg0 hg0 hs0))
  go_frame
  have start : Hid (∃ left cnt, w0.ranges Tryz.prog 9 ptrElem bm w1.heap.size S.fs.length (datum S.fs) left cnt ∧ Value.int .i64 0 = .int .i64 (sumUsed (vis left S.fs) : Int) ∧ w1.grownBy w0 none) := ⟨_, _, hrg0, by rw [vis_start _ Hp.out]; rfl, hg0⟩
  clear hs0 hrg0 hg0 hown c0
  go_loopw [5] (fun s wr => ∃ left cnt, wr.ranges Tryz.prog 9 ptrElem bm w1.heap.size S.fs.length (datum S.fs) left cnt ∧ s = .int .i64 (sumUsed (vis left S.fs) : Int) ∧ w1.grownBy wr none) (fun _ wr => wr.rangeLeft bm w1.heap.size)
  case atStart => exact start.out
  case round =>
    obtain ⟨left, cnt, hrg, rfl, hg⟩ := hrel
    clear start
    have Hg : Hid (w1.grownBy wr none) := hg
    clear hg
    go_wp2_with (at_next; refine wpList_next_ranges _ rfl _ rfl 9 law ptrElem encStr (fun b : Nat => Value.pointer (some ⟨b, 0, none⟩)) invK invV bm w1.heap.size S.fs.length _ _ _ rfl hrg ?_ ?_)
    · intro hc0 hl0
      have hend : Hid (vis left S.fs = S.fs) := vis_end _ hl0
      clear hl0 hc0
      go_wp2
      go_ret
      exact ⟨ret_int (by rw [hend.out]), Hg.out⟩
    · intro x c kl yd yp w2 cnt2 hkey hlk hv hat hrg2 hlt hg2 hs2 hen
      obtain ⟨e, he, hb, hn, hl⟩ := ranged hkey hlk hv hat
      subst hb
      have hgn : w1.grownBy w2 none := Hg.out.andThen hg2 (fun j hj => .inl (by cases hj; exact Nat.le_refl _))
      have hE : EntAt w2 e := (K.out.ents e he).carry fun i hi => hgn.block i ((K.out.ents e he).lt i hi) (by simp)
      have hperm := vis_step Hp.out he hl
      have hsum : Hid (sumUsed (vis (fun z => left z && !z.sameKey kl) S.fs) = sumUsed (vis left S.fs) + (1 + (e.bs.length + 15) / 16)) := by
        show _ = _
        rw [hn, sumUsed_perm hperm]
        unfold sumUsed
        simp only [List.map_cons, List.sum_cons]
        omega
      have hle := sumUsed_vis (fun z => left z && !z.sameKey kl) S.fs
      rw [hsum.out] at hle
      have hle2 := Hb.out
      have C : Hid (Calls Tryz.prog 46 #[.pointer (some ⟨e.b, 0, none⟩)] w2 fun x w' => x = .returned (.int .i64 ((1 + (e.bs.length + 15) / 16 : Nat) : Int)) ∧ w' = w2) := countUsed hE (by omega)
      have HR : Hid (w2.ranges Tryz.prog 9 ptrElem bm w1.heap.size S.fs.length (datum S.fs) (fun z => left z && !z.sameKey kl) cnt2) := hrg2
      have HM : Hid (w2.rangeLeft bm w1.heap.size < wr.rangeLeft bm w1.heap.size) := by show _ < _; rw [hrg2.left_eq, hrg.left_eq]; exact hlt
      have HG : Hid (w1.grownBy w2 none) := hgn
      have hi1 : ((sumUsed (vis left S.fs) : Nat) : Int) + ((1 + (e.bs.length + 15) / 16 : Nat) : Int) ≤ 1099511627776 := by omega
      clear hs2 hg2 hlt hrg2 hat hv hlk hkey hgn hE hperm hle hle2 hrg hl hn
      generalize sumUsed (vis left S.fs) = sm at *
      generalize hcn : (1 + (e.bs.length + 15) / 16) = cn at *
      clear hcn
      go_wp2_with (go_at_call 46; refine C.out.mono ?_; rintro x' w3 ⟨rfl, rfl⟩)
      go_round
      case rel => exact ⟨_, _, HR.out, by rw [hsum.out]; go_num, HG.out⟩
      case measure => exact HM.out
theorem totalUsed_off {w : World} {d bm : Nat} {S : St} (h : DiskAt w d bm S) (hon : S.on = false) :
    Calls Tryz.prog 45 #[.pointer (some ⟨d, 0, none⟩), .func (.func 46) #[] #[]] w fun x w' => x = .returned (.int .i64 0) ∧ w' = w := by
  have R := refusal_nil h
  rw [hon] at R
  have M : Hid (Calls Tryz.prog 42 #[.pointer (some ⟨d, 0, none⟩), .slice none 0 0] w fun x w' => x = .returned (.int .i64 9) ∧ w' = w) := R
  clear h R hon
  go_enter Tryz.func45, Tryz.ntmps45
  go_wp2_with (go_at_call 42; refine M.out.mono ?_; rintro x w1 ⟨rfl, rfl⟩)
  go_ret
  exact ⟨rfl, rfl⟩
theorem used_off {w : World} {d bm : Nat} {S : St} (h : DiskAt w d bm S) (hon : S.on = false) :
    Calls Tryz.prog 12 #[.pointer (some ⟨d, 0, none⟩)] w fun x w' => x = .returned (.int .i64 0) ∧ w' = w := by
  have C : Hid (Calls Tryz.prog 45 #[.pointer (some ⟨d, 0, none⟩), .func (.func 46) #[] #[]] w fun x w' => x = .returned (.int .i64 0) ∧ w' = w) := totalUsed_off h hon
  clear h hon
  go_enter Tryz.func12, Tryz.ntmps12
  go_wp2_with (go_at_call 45; refine C.out.mono ?_; rintro x w1 ⟨rfl, rfl⟩)
  go_ret
  exact ⟨rfl, rfl⟩
theorem used_any {w : World} {d bm : Nat} {S : St} (h : DiskAt w d bm S) (hon : S.on = true) (hb : sumUsed S.fs ≤ 1099511627776) :
    Calls Tryz.prog 12 #[.pointer (some ⟨d, 0, none⟩)] w fun x w' => x = .returned (.int .i64 (sumUsed S.fs : Int)) ∧ w.grownBy w' none := by
  have C : Hid (Calls Tryz.prog 45 #[.pointer (some ⟨d, 0, none⟩), .func (.func 46) #[] #[]] w fun x w' => x = .returned (.int .i64 (sumUsed S.fs : Int)) ∧ w.grownBy w' none) := totalUsed h hon hb
  clear h hb hon
  go_enter Tryz.func12, Tryz.ntmps12
  go_wp2_with (go_at_call 45; refine C.out.mono ?_; rintro x w1 ⟨rfl, hg⟩)
  go_ret
  exact ⟨rfl, hg⟩

/-! ### what is dirty -/
theorem countDirty {w : World} {e : Ent} (h : EntAt w e) (_hb : e.pl.length ≤ 1099511627776) :
    Calls Tryz.prog 48 #[.pointer (some ⟨e.b, 0, none⟩)] w fun x w' => x = .returned (.int .i64 ((e.pl.length : Nat) : Int)) ∧ w' = w := by
  obtain ⟨ao, cap, hv, _⟩ := owns_form h.row2
  have c2 := h.c2
  rw [hv] at c2
  clear h hv
  go_enter Tryz.func48, Tryz.ntmps48
  go_wp2
  go_ret
  exact ⟨rfl, rfl⟩
def sumDirty (fs : List Ent) : Nat := (fs.map fun e => e.pl.length).sum
theorem sumDirty_perm {a b : List Ent} (h : a.Perm b) : sumDirty a = sumDirty b := (h.map _).sum_nat
theorem sumDirty_vis (left : Lit → Bool) (fs : List Ent) : sumDirty (vis left fs) ≤ sumDirty fs := by
  unfold sumDirty vis
  induction fs with
  | nil => exact Nat.le_refl _
  | cons x r ih =>
    rw [List.filter_cons]
    split
    · simp only [List.map_cons, List.sum_cons]; omega
    · simp only [List.map_cons, List.sum_cons]; omega
theorem sumDirty_mem {fs : List Ent} {e : Ent} (h : e ∈ fs) : e.pl.length ≤ sumDirty fs := by
  unfold sumDirty
  exact List.single_le_sum_nat (List.mem_map.2 ⟨e, h, rfl⟩)

set_option maxRecDepth 100000 in
set_option maxHeartbeats 800000 in
theorem totalDirty {w : World} {d bm : Nat} {S : St} (h : DiskAt w d bm S) (hon : S.on = true) (hb : sumDirty S.fs ≤ 1099511627776) :
    Calls Tryz.prog 45 #[.pointer (some ⟨d, 0, none⟩), .func (.func 48) #[] #[]] w fun x w' => x = .returned (.int .i64 (sumDirty S.fs : Int)) ∧ w.grownBy w' none := by
  have R := refusal_nil h
  rw [hon] at R
  have M : Hid (Calls Tryz.prog 42 #[.pointer (some ⟨d, 0, none⟩), .slice none 0 0] w fun x w' => x = .returned (.int .i64 0) ∧ w' = w) := R
  clear R
  have c0 := h.c0
  have hown := h.map
  have K : Hid (DiskAt w d bm S) := h
  have hp := h.names
  have Hp : Hid (S.fs.Pairwise fun x y => x.nm ≠ y.nm) := hp
  have Hb : Hid (sumDirty S.fs ≤ 1099511627776) := hb
  clear h hp hb hon
  go_enter Tryz.func45, Tryz.ntmps45
  go_wp2_with (first | (go_at_call 42; refine M.out.mono ?_; rintro e w1 ⟨rfl, rfl⟩) | (at_range; refine wpList_range_own _ rfl _ 42 rfl 9 70 law Tryz.underlying42 _ bm _ _ rfl hown ?_; intro w0 hrg0 hg0 hs0))
  go_frame
  have start : Hid (∃ left cnt, w0.ranges Tryz.prog 9 ptrElem bm w1.heap.size S.fs.length (datum S.fs) left cnt ∧ Value.int .i64 0 = .int .i64 (sumDirty (vis left S.fs) : Int) ∧ w1.grownBy w0 none) := ⟨_, _, hrg0, by rw [vis_start _ Hp.out]; rfl, hg0⟩
  clear hs0 hrg0 hg0 hown c0
  go_loopw [5] (fun s wr => ∃ left cnt, wr.ranges Tryz.prog 9 ptrElem bm w1.heap.size S.fs.length (datum S.fs) left cnt ∧ s = .int .i64 (sumDirty (vis left S.fs) : Int) ∧ w1.grownBy wr none) (fun _ wr => wr.rangeLeft bm w1.heap.size)
  case atStart => exact start.out
  case round =>
    obtain ⟨left, cnt, hrg, rfl, hg⟩ := hrel
    clear start
    have Hg : Hid (w1.grownBy wr none) := hg
    clear hg
    go_wp2_with (at_next; refine wpList_next_ranges _ rfl _ rfl 9 law ptrElem encStr (fun b : Nat => Value.pointer (some ⟨b, 0, none⟩)) invK invV bm w1.heap.size S.fs.length _ _ _ rfl hrg ?_ ?_)
    · intro hc0 hl0
      have hend : Hid (vis left S.fs = S.fs) := vis_end _ hl0
      clear hl0 hc0
      go_wp2
      go_ret
      exact ⟨ret_int (by rw [hend.out]), Hg.out⟩
    · intro x c kl yd yp w2 cnt2 hkey hlk hv hat hrg2 hlt hg2 hs2 hen
      obtain ⟨e, he, hb, hn, hl⟩ := ranged hkey hlk hv hat
      subst hb
      have hgn : w1.grownBy w2 none := Hg.out.andThen hg2 (fun j hj => .inl (by cases hj; exact Nat.le_refl _))
      have hE : EntAt w2 e := (K.out.ents e he).carry fun i hi => hgn.block i ((K.out.ents e he).lt i hi) (by simp)
      have hperm := vis_step Hp.out he hl
      have hsum : Hid (sumDirty (vis (fun z => left z && !z.sameKey kl) S.fs) = sumDirty (vis left S.fs) + (e.pl.length)) := by
        show _ = _
        rw [hn, sumDirty_perm hperm]
        unfold sumDirty
        simp only [List.map_cons, List.sum_cons]
        omega
      have hle := sumDirty_vis (fun z => left z && !z.sameKey kl) S.fs
      rw [hsum.out] at hle
      have hle2 := Hb.out
      have C : Hid (Calls Tryz.prog 48 #[.pointer (some ⟨e.b, 0, none⟩)] w2 fun x w' => x = .returned (.int .i64 ((e.pl.length : Nat) : Int)) ∧ w' = w2) := countDirty hE (by omega)
      have HR : Hid (w2.ranges Tryz.prog 9 ptrElem bm w1.heap.size S.fs.length (datum S.fs) (fun z => left z && !z.sameKey kl) cnt2) := hrg2
      have HM : Hid (w2.rangeLeft bm w1.heap.size < wr.rangeLeft bm w1.heap.size) := by show _ < _; rw [hrg2.left_eq, hrg.left_eq]; exact hlt
      have HG : Hid (w1.grownBy w2 none) := hgn
      have hi1 : ((sumDirty (vis left S.fs) : Nat) : Int) + ((e.pl.length : Nat) : Int) ≤ 1099511627776 := by omega
      clear hs2 hg2 hlt hrg2 hat hv hlk hkey hgn hE hperm hle hle2 hrg hl hn
      generalize sumDirty (vis left S.fs) = sm at *
      generalize hcn : (e.pl.length) = cn at *
      clear hcn
      go_wp2_with (go_at_call 48; refine C.out.mono ?_; rintro x' w3 ⟨rfl, rfl⟩)
      go_round
      case rel => exact ⟨_, _, HR.out, by rw [hsum.out]; go_num, HG.out⟩
      case measure => exact HM.out
theorem totalDirty_off {w : World} {d bm : Nat} {S : St} (h : DiskAt w d bm S) (hon : S.on = false) :
    Calls Tryz.prog 45 #[.pointer (some ⟨d, 0, none⟩), .func (.func 48) #[] #[]] w fun x w' => x = .returned (.int .i64 0) ∧ w' = w := by
  have R := refusal_nil h
  rw [hon] at R
  have M : Hid (Calls Tryz.prog 42 #[.pointer (some ⟨d, 0, none⟩), .slice none 0 0] w fun x w' => x = .returned (.int .i64 9) ∧ w' = w) := R
  clear h R hon
  go_enter Tryz.func45, Tryz.ntmps45
  go_wp2_with (go_at_call 42; refine M.out.mono ?_; rintro x w1 ⟨rfl, rfl⟩)
  go_ret
  exact ⟨rfl, rfl⟩
theorem dirty_off {w : World} {d bm : Nat} {S : St} (h : DiskAt w d bm S) (hon : S.on = false) :
    Calls Tryz.prog 14 #[.pointer (some ⟨d, 0, none⟩)] w fun x w' => x = .returned (.int .i64 0) ∧ w' = w := by
  have C : Hid (Calls Tryz.prog 45 #[.pointer (some ⟨d, 0, none⟩), .func (.func 48) #[] #[]] w fun x w' => x = .returned (.int .i64 0) ∧ w' = w) := totalDirty_off h hon
  clear h hon
  go_enter Tryz.func14, Tryz.ntmps14
  go_wp2_with (go_at_call 45; refine C.out.mono ?_; rintro x w1 ⟨rfl, rfl⟩)
  go_ret
  exact ⟨rfl, rfl⟩
theorem dirty_any {w : World} {d bm : Nat} {S : St} (h : DiskAt w d bm S) (hon : S.on = true) (hb : sumDirty S.fs ≤ 1099511627776) :
    Calls Tryz.prog 14 #[.pointer (some ⟨d, 0, none⟩)] w fun x w' => x = .returned (.int .i64 (sumDirty S.fs : Int)) ∧ w.grownBy w' none := by
  have C : Hid (Calls Tryz.prog 45 #[.pointer (some ⟨d, 0, none⟩), .func (.func 48) #[] #[]] w fun x w' => x = .returned (.int .i64 (sumDirty S.fs : Int)) ∧ w.grownBy w' none) := totalDirty h hon hb
  clear h hb hon
  go_enter Tryz.func14, Tryz.ntmps14
  go_wp2_with (go_at_call 45; refine C.out.mono ?_; rintro x w1 ⟨rfl, hg⟩)
  go_ret
  exact ⟨rfl, hg⟩

theorem free_any {w : World} {d bm : Nat} {S : St} (h : DiskAt w d bm S) (hon : S.on = true) (hb : sumUsed S.fs ≤ 1099511627776) (hr : S.room ≤ 1073741824) :
    Calls Tryz.prog 50 #[.pointer (some ⟨d, 0, none⟩)] w fun x w' => x = .returned (.int .i64 ((S.room : Int) - (sumUsed S.fs : Int))) ∧ w.grownBy w' none := by
  have C : Hid (∀ k, Calls Tryz.prog 12 #[.pointer (some ⟨d, 0, none⟩)] (w.drewN k) fun x w' => x = .returned (.int .i64 (sumUsed S.fs : Int)) ∧ (w.drewN k).grownBy w' none) := fun k => used_any (h.drewN k) hon hb
  have c1 := h.c1
  have hl := h.head.lt
  clear h hon
  generalize sumUsed S.fs = u at *
  have hw : IntKind.i64.wrap ((S.room : Int) - (u : Int)) = (S.room : Int) - (u : Int) := i64_wrap (by omega) (by omega)
  have Hw : Hid (IntKind.i64.wrap ((S.room : Int) - (u : Int)) = (S.room : Int) - (u : Int)) := hw
  clear hw
  go_enter Tryz.func50, Tryz.ntmps50
  go_wp2
  go_region_with (go_at_call 12; refine (C.out _).mono ?_; rintro x w1 ⟨rfl, hg⟩; have c1' := hg.cell c1 (by simp))
  all_goals
    go_wp2
    go_ret
    exact ⟨ret_int Hw.out, ⟨hg.os, hg.tape, hg.output, hg.size, hg.block⟩⟩
end Go.Proofs.YtoeoioigelknnaaGreat
