/-
  SEVERAL TEXTS IN ONE: DskFind, DskTotal, DskLose.
-/
import Derived.Test.YtgkdodcidancpaaGreatDoorMany11
import Derived.Test.YtgkdodcidancpaaGreatDoorDskShelf
import Derived.Deep.DeepFit
namespace Go.Proofs.YtgkdodcidancpaaGreatDoor
open Go.RowKit Go.Maps

def nameOf (s : ByteArray) : List UInt8 := s.data.toList
/-- What is wrong ahead of looking for a file. -/
def refuse (on : Bool) (L : List ByteArray) : Int := if on then (if L.all (fun s => goodB (nameOf s)) then 0 else 3) else 9
theorem refuse_on {on : Bool} {L : List ByteArray} (h : refuse on L = 0) : on = true := by
  cases on
  · simp [refuse] at h
  · rfl

set_option maxRecDepth 100000 in
theorem refusal_any {w : World} {d bm : Nat} {S : St} (h : DiskAt w d bm S) (g cap : Nat) (L : List ByteArray) (hL : L.length ≤ 2) (hs : ∀ s ∈ L, s.size ≤ maxLen) (hc : ∀ i, i < L.length → w.cell? ⟨g, i, none⟩ = some (.string (L.getD i ByteArray.empty))) :
    Calls Tryz.prog 21 #[.pointer (some ⟨d, 0, none⟩), .slice (some ⟨g, 0, none⟩) L.length cap] w fun x w' => x = .returned (.int .i64 (refuse S.on L)) ∧ w' = w := by
  have M : Hid (Calls Tryz.prog 44 #[.pointer (some ⟨d, 0, none⟩)] w fun e w' => e = .returned (.bool true) ∧ w' = w) := made_any d bm w h.c0
  have c2 := h.c2
  clear h
  cases hon : S.on
  · rw [hon] at c2
    go_enter Tryz.func21, Tryz.ntmps21
    go_wp2_with (go_at_call 44; refine M.out.mono ?_; rintro e w1 ⟨rfl, rfl⟩)
    go_ret
    exact ⟨rfl, rfl⟩
  · rw [hon] at c2
    have hLi : (L.length : Int) ≤ 2 := by omega
    have HC : Hid (∀ i, i < L.length → w.cell? ⟨g, i, none⟩ = some (.string (L.getD i ByteArray.empty))) := hc
    have HS : Hid (∀ s ∈ L, s.size ≤ maxLen) := hs
    clear hc hs
    go_enter Tryz.func21, Tryz.ntmps21
    go_wp2_with (go_at_call 44; refine M.out.mono ?_; rintro e w1 ⟨rfl, rfl⟩)
    go_loop [19] (fun i => ∃ k : Nat, k ≤ L.length ∧ i = .int .i64 k ∧ ∀ j, j < k → goodB (nameOf (L.getD j ByteArray.empty)) = true) (fun i => L.length - (intOf i).toNat)
    case atStart => exact ⟨0, Nat.zero_le _, rfl, fun j hj => absurd hj (Nat.not_lt_zero _)⟩
    case round =>
      obtain ⟨k, hk, rfl, hall⟩ := hrel
      have HA : Hid (∀ j, j < k → goodB (nameOf (L.getD j ByteArray.empty)) = true) := hall
      clear hall
      by_cases hlt : k < L.length
      · have hck := HC.out k hlt
        have hmem : L.getD k ByteArray.empty ∈ L := by
          rw [List.getD_eq_getElem?_getD, List.getElem?_eq_getElem hlt]
          exact List.getElem_mem hlt
        have G : Hid (∀ w, Calls Tryz.prog 53 #[.string (L.getD k ByteArray.empty)] w fun e w' => e = .returned (.bool (goodB (nameOf (L.getD k ByteArray.empty)))) ∧ w' = w) := fun w => goodD_any _ w (HS.out _ hmem)
        have Hm : Hid (L.getD k ByteArray.empty ∈ L) := hmem
        clear hmem
        obtain ⟨b, hb⟩ : ∃ b, goodB (nameOf (L.getD k ByteArray.empty)) = b := ⟨_, rfl⟩
        have HB : Hid (goodB (nameOf (L.getD k ByteArray.empty)) = b) := hb
        have HX : Hid (∀ j, j = k → goodB (nameOf (L.getD j ByteArray.empty)) = b) := fun j hj => by rw [hj]; exact hb
        rw [hb] at G
        clear hb
        generalize L.getD k ByteArray.empty = s at *
        have hki : (k : Int) < 2 := by omega
        cases b
        · go_wp2_with (go_at_call 53; refine (G.out _).mono ?_; rintro e w2 ⟨rfl, rfl⟩)
          go_ret
          refine ⟨ret_int ?_, rfl⟩
          have : (L.all fun s => goodB (nameOf s)) = false := List.all_eq_false.2 ⟨s, Hm.out, by rw [HB.out]; simp⟩
          simp [refuse, this]
        · go_wp2_with (go_at_call 53; refine (G.out _).mono ?_; rintro e w2 ⟨rfl, rfl⟩)
          go_round
          case rel =>
            refine ⟨k + 1, by omega, by go_num, fun j hj => ?_⟩
            by_cases e : j = k
            · exact HX.out j e
            · exact HA.out j (by omega)
          case measure => simp [intOf]; omega
      · obtain rfl : k = L.length := by omega
        go_wp2_with fail
        go_ret
        refine ⟨ret_int ?_, rfl⟩
        have : (L.all fun s => goodB (nameOf s)) = true := by
          rw [List.all_eq_true]
          intro s hs
          obtain ⟨j, hj, rfl⟩ := List.getElem_of_mem hs
          have := HA.out j hj
          rw [List.getD_eq_getElem?_getD, List.getElem?_eq_getElem hj] at this
          exact this
        simp [refuse, this]
set_option maxRecDepth 100000 in
theorem refusal_nil {w : World} {d bm : Nat} {S : St} (h : DiskAt w d bm S) :
    Calls Tryz.prog 21 #[.pointer (some ⟨d, 0, none⟩), .slice none 0 0] w fun x w' => x = .returned (.int .i64 (refuse S.on [])) ∧ w' = w := by
  have M : Hid (Calls Tryz.prog 44 #[.pointer (some ⟨d, 0, none⟩)] w fun e w' => e = .returned (.bool true) ∧ w' = w) := made_any d bm w h.c0
  have c2 := h.c2
  clear h
  cases hon : S.on
  · rw [hon] at c2
    go_enter Tryz.func21, Tryz.ntmps21
    go_wp2_with (go_at_call 44; refine M.out.mono ?_; rintro e w1 ⟨rfl, rfl⟩)
    go_ret
    exact ⟨rfl, rfl⟩
  · rw [hon] at c2
    go_enter Tryz.func21, Tryz.ntmps21
    go_wp2_with (go_at_call 44; refine M.out.mono ?_; rintro e w1 ⟨rfl, rfl⟩)
    go_loop [19] (fun i => i = .int .i64 0) (fun _ => 0)
    case atStart => rfl
    case round =>
      subst hrel
      go_wp2
      go_ret
      exact ⟨rfl, rfl⟩

theorem one_cell (w : World) (s : ByteArray) (t : TypeId) : ∀ i, i < [s].length → (w.alloc (.cells #[.string s] t)).cell? ⟨w.heap.size, i, none⟩ = some (.string ([s].getD i ByteArray.empty)) := by
  intro i hi
  have : i = 0 := by simpa using hi
  subst this
  exact (Blk.new w [.string s] t).cell 0 rfl
theorem refused_one {w : World} {d bm : Nat} {S : St} (h : DiskAt w d bm S) (s : ByteArray) (hs : s.size ≤ maxLen) :
    Calls Tryz.prog 21 #[.pointer (some ⟨d, 0, none⟩), .slice (some ⟨w.heap.size, 0, none⟩) 1 1] (w.alloc (.cells #[.string s] 9)) fun x w' => x = .returned (.int .i64 (refuse S.on [s])) ∧ w' = w.alloc (.cells #[.string s] 9) :=
  refusal_any (h.alloc _) w.heap.size 1 [s] (by simp) (by simpa using hs) (one_cell w s _)
section
variable {w : World} {d bm : Nat} {S : St} (h : DiskAt w d bm S) (s : ByteArray) (hs : s.size ≤ maxLen)
include h hs
theorem find_refused {c : Int} (hc : refuse S.on [s] = c) (hc0 : c ≠ 0) :
    Calls Tryz.prog 58 #[.pointer (some ⟨d, 0, none⟩), .string s] w fun x w' => x = .returned (.tuple #[.pointer none, .int .i64 c]) ∧ w.grownBy w' none := by
  have R := refused_one h s hs
  rw [hc] at R
  have R : Hid (Calls Tryz.prog 21 #[.pointer (some ⟨d, 0, none⟩), .slice (some ⟨w.heap.size, 0, none⟩) 1 1] (w.alloc (.cells #[.string s] 9)) fun x w' => x = .returned (.int .i64 c) ∧ w' = w.alloc (.cells #[.string s] 9)) := R
  have hcb : (c == 0) = false := by rw [beq_eq_false_iff_ne]; exact hc0
  clear h hs hc
  go_enter Tryz.func58, Tryz.ntmps58
  go_wp2_with (go_at_call 21; refine R.out.mono ?_; rintro e w1 ⟨rfl, rfl⟩)
  go_ret2
  exact ⟨rfl, World.grownBy_alloc _ _ _⟩
theorem find_none (hc : refuse S.on [s] = 0) (hf : find S.fs (nameOf s) = none) :
    Calls Tryz.prog 58 #[.pointer (some ⟨d, 0, none⟩), .string s] w fun x w' => x = .returned (.tuple #[.pointer none, .int .i64 4]) ∧ w.grownBy w' none := by
  have R := refused_one h s hs
  rw [hc] at R
  have R : Hid (Calls Tryz.prog 21 #[.pointer (some ⟨d, 0, none⟩), .slice (some ⟨w.heap.size, 0, none⟩) 1 1] (w.alloc (.cells #[.string s] 9)) fun x w' => x = .returned (.int .i64 0) ∧ w' = w.alloc (.cells #[.string s] 9)) := R
  have hl := look_none (h.alloc (.cells #[.string s] 9)).map hs hf
  have c0 := h.c0
  have hd := h.head.lt
  clear h hs hc hf
  go_enter Tryz.func58, Tryz.ntmps58
  go_wp2_with (go_at_call 21; refine R.out.mono ?_; rintro e w1 ⟨rfl, rfl⟩)
  go_ret2
  exact ⟨rfl, World.grownBy_alloc _ _ _⟩
theorem find_ok (hc : refuse S.on [s] = 0) {e : Ent} (hf : find S.fs (nameOf s) = some e) :
    Calls Tryz.prog 58 #[.pointer (some ⟨d, 0, none⟩), .string s] w fun x w' => x = .returned (.tuple #[.pointer (some ⟨e.b, 0, none⟩), .int .i64 0]) ∧ w.grownBy w' none := by
  have R := refused_one h s hs
  rw [hc] at R
  have R : Hid (Calls Tryz.prog 21 #[.pointer (some ⟨d, 0, none⟩), .slice (some ⟨w.heap.size, 0, none⟩) 1 1] (w.alloc (.cells #[.string s] 9)) fun x w' => x = .returned (.int .i64 0) ∧ w' = w.alloc (.cells #[.string s] 9)) := R
  have hl := look_some (h.alloc (.cells #[.string s] 9)).map hs hf
  have c0 := h.c0
  have hd := h.head.lt
  clear h hs hc hf
  go_enter Tryz.func58, Tryz.ntmps58
  go_wp2_with (go_at_call 21; refine R.out.mono ?_; rintro e w1 ⟨rfl, rfl⟩)
  go_ret2
  exact ⟨rfl, World.grownBy_alloc _ _ _⟩
end
end Go.Proofs.YtgkdodcidancpaaGreatDoor
namespace Go.Proofs.YtgkdodcidancpaaGreatDoor
open Go.RowKit Go.Maps

theorem invK : ∀ key kl, keyOf Tryz.prog 9 key = some kl → ∃ x, key = encStr x := fun key kl hk => by obtain ⟨x, hx, _⟩ := Maps.keyOf_str Tryz.underlying9 hk; exact ⟨x, hx⟩
theorem invV : ∀ v y, ptrElem v = some y → ∃ c : Nat, v = (fun b : Nat => Value.pointer (some ⟨b, 0, none⟩)) c := fun v y hv => by obtain ⟨b, hb, _⟩ := ptrElem_inv hv; exact ⟨b, hb⟩
/-- The entry that has come is a file's. -/
theorem ranged {fs : List Ent} {x : List UInt8} {c : Nat} {kl : Lit} {yd : DataW Unit} {yp : List MemPlace} {left : Lit → Bool} (hkey : keyOf Tryz.prog 9 (encStr x) = some kl) (hlk : left kl = true)
    (hv : ptrElem ((fun b : Nat => Value.pointer (some ⟨b, 0, none⟩)) c) = some (yd, yp)) (hat : ∀ zd, (datum fs).atKey kl zd = yd) : ∃ e, e ∈ fs ∧ e.b = c ∧ kl = .string e.nm ∧ left (.string e.nm) = true := by
  obtain ⟨x', ex, rfl, _⟩ := Maps.keyOf_str Tryz.underlying9 hkey
  obtain rfl : x = x' := encStr_inj ex
  have hy : yd = .lit (.int .i64 (c : Int)) := by
    have h1 := ptrElem_mk c
    have h2 := hv.symm.trans h1
    cases h2
    rfl
  subst hy
  have h0 := hat .nil
  rw [datum_at] at h0
  cases hf : find fs x with
  | none => rw [hf] at h0; cases h0
  | some e =>
    rw [hf] at h0
    have hb : (e.b : Int) = (c : Int) := by simpa using h0
    obtain ⟨he, hn⟩ := find_some hf
    exact ⟨e, he, by omega, by rw [hn], by rw [hn]; exact hlk⟩
theorem List.Perm.sum_nat {a b : List Nat} (h : a.Perm b) : a.sum = b.sum := by
  induction h with
  | nil => rfl
  | cons x _ ih => simp only [List.sum_cons, ih]
  | swap x y l => simp only [List.sum_cons]; omega
  | trans _ _ h1 h2 => exact h1.trans h2
theorem List.single_le_sum_nat {l : List Nat} {x : Nat} (h : x ∈ l) : x ≤ l.sum := by
  induction l with
  | nil => cases h
  | cons y r ih =>
    simp only [List.sum_cons]
    rcases List.mem_cons.1 h with rfl | h
    · omega
    · have := ih h; omega

/-! ### what all files need -/
theorem countUsed {w : World} {e : Ent} (h : EntAt w e) (hb : 1 + (e.bs.length + 15) / 16 ≤ 1099511627776) :
    Calls Tryz.prog 117 #[.pointer (some ⟨e.b, 0, none⟩)] w fun x w' => x = .returned (.int .i64 ((1 + (e.bs.length + 15) / 16 : Nat) : Int)) ∧ w' = w := by
  obtain ⟨ao, cap, hv, _⟩ := owns_form h.row1
  have c0 := h.c0
  rw [hv] at c0
  have S1 : Hid (Calls Tryz.prog 98 #[.int .i64 (e.bs.length : Int)] w fun x' w' => x' = .returned (.int .i64 (secI (e.bs.length : Int))) ∧ w' = w) := sectors_in _ _ ⟨by omega, by omega⟩
  have hs := secI_nat e.bs.length
  clear h hv
  rw [hs] at S1
  clear hs
  generalize (e.bs.length + 15) / 16 = q at *
  go_enter Tryz.func117, Tryz.ntmps117
  go_wp2_with (go_at_call 98; refine S1.out.mono ?_; rintro x w1 ⟨rfl, rfl⟩)
  go_ret
  exact ⟨ret_int (by omega), rfl⟩
def sumUsed (fs : List Ent) : Nat := (fs.map fun e => 1 + (e.bs.length + 15) / 16).sum
theorem sumUsed_perm {a b : List Ent} (h : a.Perm b) : sumUsed a = sumUsed b := (h.map _).sum_nat
theorem sumUsed_vis (left : Lit → Bool) (fs : List Ent) : sumUsed (vis left fs) ≤ sumUsed fs := by
  unfold sumUsed vis
  induction fs with
  | nil => exact Nat.le_refl _
  | cons x r ih =>
    rw [List.filter_cons]
    split
    · simp only [List.map_cons, List.sum_cons]; omega
    · simp only [List.map_cons, List.sum_cons]; omega
theorem sumUsed_mem {fs : List Ent} {e : Ent} (h : e ∈ fs) : 1 + (e.bs.length + 15) / 16 ≤ sumUsed fs := by
  unfold sumUsed
  exact List.single_le_sum_nat (List.mem_map.2 ⟨e, h, rfl⟩)

set_option maxRecDepth 100000 in
set_option maxHeartbeats 800000 in
theorem totalUsed {w : World} {d bm : Nat} {S : St} (h : DiskAt w d bm S) (hon : S.on = true) (hb : sumUsed S.fs ≤ 1099511627776) :
    Calls Tryz.prog 116 #[.pointer (some ⟨d, 0, none⟩), .func (.func 117) #[] #[]] w fun x w' => x = .returned (.int .i64 (sumUsed S.fs : Int)) ∧ w.grownBy w' none := by
  have R := refusal_nil h
  rw [hon] at R
  have M : Hid (Calls Tryz.prog 21 #[.pointer (some ⟨d, 0, none⟩), .slice none 0 0] w fun x w' => x = .returned (.int .i64 0) ∧ w' = w) := R
  clear R
  have c0 := h.c0
  have hown := h.map
  have K : Hid (DiskAt w d bm S) := h
  have hp := h.names
  have Hp : Hid (S.fs.Pairwise fun x y => x.nm ≠ y.nm) := hp
  have Hb : Hid (sumUsed S.fs ≤ 1099511627776) := hb
  clear h hp hb hon
  go_enter Tryz.func116, Tryz.ntmps116
  go_wp2_with (first | (go_at_call 21; refine M.out.mono ?_; rintro e w1 ⟨rfl, rfl⟩) | (at_range; refine wpList_range_own _ rfl _ 55 rfl 9 84 law Tryz.underlying55 _ bm _ _ rfl hown ?_; intro w0 hrg0 hg0 hs0))
  go_frame
  have start : Hid (∃ left cnt, w0.ranges Tryz.prog 9 ptrElem bm w1.heap.size S.fs.length (datum S.fs) left cnt ∧ Value.int .i64 0 = .int .i64 (sumUsed (vis left S.fs) : Int) ∧ w1.grownBy w0 none) := ⟨_, _, hrg0, by rw [vis_start _ Hp.out]; rfl, hg0⟩
  clear hs0 hrg0 hg0 hown c0
  go_loopw [5] (fun s wr => ∃ left cnt, wr.ranges Tryz.prog 9 ptrElem bm w1.heap.size S.fs.length (datum S.fs) left cnt ∧ s = .int .i64 (sumUsed (vis left S.fs) : Int) ∧ w1.grownBy wr none) (fun _ wr => wr.rangeLeft bm w1.heap.size)
  case atStart => exact start.out
  case round =>
    obtain ⟨left, cnt, hrg, rfl, hg⟩ := hrel
    clear start
    have Hg : Hid (w1.grownBy wr none) := hg
    clear hg
    go_wp2_with (at_next; refine wpList_next_ranges _ rfl _ rfl 9 law ptrElem encStr (fun b : Nat => Value.pointer (some ⟨b, 0, none⟩)) invK invV bm w1.heap.size S.fs.length _ _ _ rfl hrg ?_ ?_)
    · intro hc0 hl0
      have hend : Hid (vis left S.fs = S.fs) := vis_end _ hl0
      clear hl0 hc0
      go_wp2
      go_ret
      exact ⟨ret_int (by rw [hend.out]), Hg.out⟩
    · intro x c kl yd yp w2 cnt2 hkey hlk hv hat hrg2 hlt hg2 hs2 hen
      obtain ⟨e, he, hb, hn, hl⟩ := ranged hkey hlk hv hat
      subst hb
      have hgn : w1.grownBy w2 none := Hg.out.andThen hg2 (fun j hj => .inl (by cases hj; exact Nat.le_refl _))
      have hE : EntAt w2 e := (K.out.ents e he).carry fun i hi => hgn.block i ((K.out.ents e he).lt i hi) (by simp)
      have hperm := vis_step Hp.out he hl
      have hsum : Hid (sumUsed (vis (fun z => left z && !z.sameKey kl) S.fs) = sumUsed (vis left S.fs) + (1 + (e.bs.length + 15) / 16)) := by
        show _ = _
        rw [hn, sumUsed_perm hperm]
        unfold sumUsed
        simp only [List.map_cons, List.sum_cons]
        omega
      have hle := sumUsed_vis (fun z => left z && !z.sameKey kl) S.fs
      rw [hsum.out] at hle
      have hle2 := Hb.out
      have C : Hid (Calls Tryz.prog 117 #[.pointer (some ⟨e.b, 0, none⟩)] w2 fun x w' => x = .returned (.int .i64 ((1 + (e.bs.length + 15) / 16 : Nat) : Int)) ∧ w' = w2) := countUsed hE (by omega)
      have HR : Hid (w2.ranges Tryz.prog 9 ptrElem bm w1.heap.size S.fs.length (datum S.fs) (fun z => left z && !z.sameKey kl) cnt2) := hrg2
      have HM : Hid (w2.rangeLeft bm w1.heap.size < wr.rangeLeft bm w1.heap.size) := by show _ < _; rw [hrg2.left_eq, hrg.left_eq]; exact hlt
      have HG : Hid (w1.grownBy w2 none) := hgn
      have hi1 : ((sumUsed (vis left S.fs) : Nat) : Int) + ((1 + (e.bs.length + 15) / 16 : Nat) : Int) ≤ 1099511627776 := by omega
      clear hs2 hg2 hlt hrg2 hat hv hlk hkey hgn hE hperm hle hle2 hrg hl hn
      generalize sumUsed (vis left S.fs) = sm at *
      generalize hcn : (1 + (e.bs.length + 15) / 16) = cn at *
      clear hcn
      go_wp2_with (go_at_call 117; refine C.out.mono ?_; rintro x' w3 ⟨rfl, rfl⟩)
      go_round
      case rel => exact ⟨_, _, HR.out, by rw [hsum.out]; go_num, HG.out⟩
      case measure => exact HM.out
theorem totalUsed_off {w : World} {d bm : Nat} {S : St} (h : DiskAt w d bm S) (hon : S.on = false) :
    Calls Tryz.prog 116 #[.pointer (some ⟨d, 0, none⟩), .func (.func 117) #[] #[]] w fun x w' => x = .returned (.int .i64 0) ∧ w' = w := by
  have R := refusal_nil h
  rw [hon] at R
  have M : Hid (Calls Tryz.prog 21 #[.pointer (some ⟨d, 0, none⟩), .slice none 0 0] w fun x w' => x = .returned (.int .i64 9) ∧ w' = w) := R
  clear h R hon
  go_enter Tryz.func116, Tryz.ntmps116
  go_wp2_with (go_at_call 21; refine M.out.mono ?_; rintro x w1 ⟨rfl, rfl⟩)
  go_ret
  exact ⟨rfl, rfl⟩
theorem used_off {w : World} {d bm : Nat} {S : St} (h : DiskAt w d bm S) (hon : S.on = false) :
    Calls Tryz.prog 96 #[.pointer (some ⟨d, 0, none⟩)] w fun x w' => x = .returned (.int .i64 0) ∧ w' = w := by
  have C : Hid (Calls Tryz.prog 116 #[.pointer (some ⟨d, 0, none⟩), .func (.func 117) #[] #[]] w fun x w' => x = .returned (.int .i64 0) ∧ w' = w) := totalUsed_off h hon
  clear h hon
  go_enter Tryz.func96, Tryz.ntmps96
  go_wp2_with (go_at_call 116; refine C.out.mono ?_; rintro x w1 ⟨rfl, rfl⟩)
  go_ret
  exact ⟨rfl, rfl⟩
theorem used_any {w : World} {d bm : Nat} {S : St} (h : DiskAt w d bm S) (hon : S.on = true) (hb : sumUsed S.fs ≤ 1099511627776) :
    Calls Tryz.prog 96 #[.pointer (some ⟨d, 0, none⟩)] w fun x w' => x = .returned (.int .i64 (sumUsed S.fs : Int)) ∧ w.grownBy w' none := by
  have C : Hid (Calls Tryz.prog 116 #[.pointer (some ⟨d, 0, none⟩), .func (.func 117) #[] #[]] w fun x w' => x = .returned (.int .i64 (sumUsed S.fs : Int)) ∧ w.grownBy w' none) := totalUsed h hon hb
  clear h hb hon
  go_enter Tryz.func96, Tryz.ntmps96
  go_wp2_with (go_at_call 116; refine C.out.mono ?_; rintro x w1 ⟨rfl, hg⟩)
  go_ret
  exact ⟨rfl, hg⟩

def sumDirty (fs : List Ent) : Nat := (fs.map fun e => e.pl.length).sum
theorem sumDirty_perm {a b : List Ent} (h : a.Perm b) : sumDirty a = sumDirty b := (h.map _).sum_nat
theorem sumDirty_vis (left : Lit → Bool) (fs : List Ent) : sumDirty (vis left fs) ≤ sumDirty fs := by
  unfold sumDirty vis
  induction fs with
  | nil => exact Nat.le_refl _
  | cons x r ih =>
    rw [List.filter_cons]
    split
    · simp only [List.map_cons, List.sum_cons]; omega
    · simp only [List.map_cons, List.sum_cons]; omega
theorem sumDirty_mem {fs : List Ent} {e : Ent} (h : e ∈ fs) : e.pl.length ≤ sumDirty fs := by
  unfold sumDirty
  exact List.single_le_sum_nat (List.mem_map.2 ⟨e, h, rfl⟩)

theorem free_any {w : World} {d bm : Nat} {S : St} (h : DiskAt w d bm S) (hon : S.on = true) (hb : sumUsed S.fs ≤ 1099511627776) (hr : S.room ≤ 1073741824) :
    Calls Tryz.prog 54 #[.pointer (some ⟨d, 0, none⟩)] w fun x w' => x = .returned (.int .i64 ((S.room : Int) - (sumUsed S.fs : Int))) ∧ w.grownBy w' none := by
  have C : Hid (∀ k, Calls Tryz.prog 96 #[.pointer (some ⟨d, 0, none⟩)] (w.drewN k) fun x w' => x = .returned (.int .i64 (sumUsed S.fs : Int)) ∧ (w.drewN k).grownBy w' none) := fun k => used_any (h.drewN k) hon hb
  have c1 := h.c1
  have hl := h.head.lt
  clear h hon
  generalize sumUsed S.fs = u at *
  have hw : IntKind.i64.wrap ((S.room : Int) - (u : Int)) = (S.room : Int) - (u : Int) := i64_wrap (by omega) (by omega)
  have Hw : Hid (IntKind.i64.wrap ((S.room : Int) - (u : Int)) = (S.room : Int) - (u : Int)) := hw
  clear hw
  go_enter Tryz.func54, Tryz.ntmps54
  go_wp2
  go_region_with (go_at_call 96; refine (C.out _).mono ?_; rintro x w1 ⟨rfl, hg⟩; have c1' := hg.cell c1 (by simp))
  all_goals
    go_wp2
    go_ret
    exact ⟨ret_int Hw.out, ⟨hg.os, hg.tape, hg.output, hg.size, hg.block⟩⟩
end Go.Proofs.YtgkdodcidancpaaGreatDoor
namespace Go.Proofs.YtgkdodcidancpaaGreatDoor
open Go.RowKit Go.Maps

/-- How many of a file's places are ahead of the end. -/
def keptN (e : Ent) (x : Nat) : Nat := e.pl.countP (· < x)
/-- How many bytes a file has behind a failure. -/
def lostAt (e : Ent) (x : Nat) : Nat := if keptN e x = 0 then e.wr else min e.bs.length ((e.wr / 16 + keptN e x) * 16)
/-- What a file is behind a failure. -/
def loseE (e : Ent) (x : Nat) : Ent := endE e (lostAt e x)
theorem lostAt_le {e : Ent} (h : e.wr ≤ e.bs.length) (x : Nat) : lostAt e x ≤ e.bs.length := by unfold lostAt; split <;> omega
theorem I64_at (l : List Nat) (i : Nat) (h : i < l.length) : (I64D l)[i]? = some (.int .i64 ((l.getD i 0 : Nat) : Int)) := by simp [I64D, h]
theorem count_cast (l : List Nat) (x : Nat) : (l.map fun n : Nat => (n : Int)).countP (· < (x : Int)) = l.countP (· < x) := by
  rw [List.countP_map]
  congr 1
  funext n
  simp
theorem search_any {w : World} {e : Ent} (h : EntAt w e) (hp : e.pl.Pairwise (· < ·)) (hm : e.pl.length ≤ 1099511627776) (x : Nat) :
    ∃ b, Calls Tryz.prog 139 #[e.v2, .int .i64 (x : Int)] w fun z w' => z = .returned (.tuple #[.int .i64 (keptN e x : Int), .bool b]) ∧ ∃ q, w' = w.drewN q := by
  rcases h.row2.2 with ⟨hv, hl⟩ | ⟨g, cap, cur, hv, _⟩
  · rw [hv]
    have hz : e.pl = [] := List.eq_nil_of_length_eq_zero hl
    refine ⟨false, (Tryz.slices_BinarySearch_int_empty none 0 x w).mono ?_⟩
    rintro z w' ⟨rfl, rfl⟩
    refine ⟨?_, 0, rfl⟩
    simp [keptN, hz]
  · rw [hv]
    refine ⟨((e.pl.map fun n : Nat => (n : Int)).take e.pl.length).contains (x : Int), (Tryz.slices_BinarySearch_int g 0 e.pl.length cap (e.pl.map fun n : Nat => (n : Int)) x w (by simp) (by omega) ?_ ?_).mono ?_⟩
    · intro j hj
      rw [List.length_map] at hj
      have := h.row2.cells (g := g) (by rw [hv]; rfl) j _ (I64_at e.pl j hj)
      rw [Addr.add_lit] at this
      rw [this]
      simp [List.getD, hj]
    · rw [List.take_of_length_le (by simp), List.pairwise_map]
      exact hp.imp fun h => by omega
    · rintro z w' ⟨rfl, q, rfl⟩
      refine ⟨?_, q, rfl⟩
      rw [List.take_of_length_le (by simp), count_cast]
      rfl

set_option maxRecDepth 100000 in
set_option maxHeartbeats 4000000 in
theorem lose_any {w : World} {e : Ent} (h : EntAt w e) (hp : e.pl.Pairwise (· < ·)) (hm : e.pl.length ≤ 1099511627776) (hw : e.wr ≤ e.bs.length) (hl : e.bs.length ≤ 1099511627776) (x : Nat) :
    Calls Tryz.prog 120 #[.pointer (some ⟨e.b, 0, none⟩), .int .i64 (x : Int)] w fun z w' => z = .returned (.tuple #[]) ∧ EntAt w' (loseE e x) ∧ Moved w w' e.foot (loseE e x).foot := by
  obtain ⟨bb, B⟩ := search_any h hp hm x
  have hk : keptN e x ≤ e.pl.length := List.countP_le_length
  have B : Hid (Calls Tryz.prog 139 #[e.v2, .int .i64 (x : Int)] w fun z w' => z = .returned (.tuple #[.int .i64 (keptN e x : Int), .bool bb]) ∧ ∃ q, w' = w.drewN q) := B
  have c0 := h.c0
  have c1 := h.c1
  have c2 := h.c2
  obtain ⟨ao, cap, hv, _⟩ := owns_form h.row1
  rw [hv] at c0
  clear hv hp
  by_cases hz : keptN e x = 0
  · have E : Hid (∀ q, Calls Tryz.prog 63 #[.pointer (some ⟨e.b, 0, none⟩), .int .i64 (e.wr : Int)] (w.drewN q) fun z w' => z = .returned (.tuple #[]) ∧ EntAt w' (endE e e.wr) ∧ Moved (w.drewN q) w' e.foot (endE e e.wr).foot) := fun q => endAt_any (h.carry (w' := w.drewN q) fun _ _ => rfl) e.wr hw
    have HL : Hid (lostAt e x = e.wr) := by show _ = _; unfold lostAt; rw [if_pos hz]
    rw [hz] at B
    clear h hz hk
    go_enter Tryz.func120, Tryz.ntmps120
    go_wp2_with (first | (go_at_call 139; refine B.out.mono ?_; rintro z w1 ⟨rfl, q, rfl⟩) | (go_at_call 63; refine (E.out _).mono ?_; rintro z w2 ⟨rfl, hE⟩))
    refine bodyPost_ret (results_none rfl _ _ _) rfl ?_
    obtain ⟨a1, a7⟩ := hE
    unfold loseE
    rw [HL.out]
    exact ⟨rfl, a1, ⟨a7.os, a7.tape, a7.output, a7.size, a7.kept, a7.news⟩⟩
  · have hzb : ((keptN e x : Int) == 0) = false := by rw [beq_eq_false_iff_ne]; omega
    have E : Hid (∀ n : Nat, n ≤ e.bs.length → ∀ q, Calls Tryz.prog 63 #[.pointer (some ⟨e.b, 0, none⟩), .int .i64 (n : Int)] (w.drewN q) fun z w' => z = .returned (.tuple #[]) ∧ EntAt w' (endE e n) ∧ Moved (w.drewN q) w' e.foot (endE e n).foot) := fun n hn q => endAt_any (h.carry (w' := w.drewN q) fun _ _ => rfl) n hn
    have HL : lostAt e x = min e.bs.length ((e.wr / 16 + keptN e x) * 16) := by unfold lostAt; rw [if_neg hz]
    have hval : min (e.bs.length : Int) (IntKind.i64.wrap (IntKind.i64.wrap (IntKind.i64.wrap ((e.wr : Int) / 16) + (keptN e x : Int)) * 16)) = ((lostAt e x : Nat) : Int) := by
      rw [HL, i64_wrap (x := (e.wr : Int) / 16) (by omega) (by omega), i64_wrap (x := (e.wr : Int) / 16 + (keptN e x : Int)) (by omega) (by omega), i64_wrap (by omega) (by omega)]
      omega
    have HE : Hid (∀ q, Calls Tryz.prog 63 #[.pointer (some ⟨e.b, 0, none⟩), .int .i64 (min (e.bs.length : Int) (IntKind.i64.wrap (IntKind.i64.wrap (IntKind.i64.wrap ((e.wr : Int) / 16) + (keptN e x : Int)) * 16)))] (w.drewN q) fun z w' => z = .returned (.tuple #[]) ∧ EntAt w' (endE e (lostAt e x)) ∧ Moved (w.drewN q) w' e.foot (endE e (lostAt e x)).foot) := by
      intro q
      rw [hval]
      exact E.out _ (lostAt_le hw x) q
    clear h hz hk E hval HL
    generalize keptN e x = kn at *
    go_enter Tryz.func120, Tryz.ntmps120
    go_wp2_with (go_at_call 139; refine B.out.mono ?_; rintro z w1 ⟨rfl, q, rfl⟩)
    go_region_with (go_at_call 63; refine (HE.out _).mono ?_; rintro z w2 ⟨rfl, hE⟩)
    all_goals
      go_end0
      obtain ⟨a1, a7⟩ := hE
      exact ⟨rfl, a1, ⟨a7.os, a7.tape, a7.output, a7.size, a7.kept, a7.news⟩⟩
end Go.Proofs.YtgkdodcidancpaaGreatDoor
