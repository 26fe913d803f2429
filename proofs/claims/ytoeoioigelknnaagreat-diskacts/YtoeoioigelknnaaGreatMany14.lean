/-
  SEVERAL TEXTS IN ONE: DskRef, DskNamesWalk.
-/
import Derived.Test.YtoeoioigelknnaaGreatMany13
import Derived.Test.YtoeoioigelknnaaGreatMany3
import Derived.Test.YtoeoioigelknnaaGreatMany8
namespace Go.Proofs.YtoeoioigelknnaaGreat
open Go.RowKit Go.Maps

theorem strB_nameOf (s : ByteArray) : strB (nameOf s) = s := by
  obtain ⟨x⟩ := s
  simp [strB, nameOf]
theorem ba_toList_ne {a b : ByteArray} (h : a ≠ b) : (a.toList == b.toList) = false := by
  rw [beq_eq_false_iff_ne, Go.ByteArray.toList_eq, Go.ByteArray.toList_eq]
  intro e
  apply h
  obtain ⟨x⟩ := a
  obtain ⟨y⟩ := b
  congr 1
  exact Array.toList_inj.1 e
theorem strB_ne2 {n : List UInt8} {s : ByteArray} (h : n ≠ nameOf s) : ((strB n).toList == s.toList) = false := ba_toList_ne fun e => h (by rw [← e, nameOf_strB])
/-- A file, in memory. -/
structure RF where
  nm : List UInt8
  ao : Option Addr
  cap : Nat
  bs : List UInt8
  wr : Nat
def RF.cells (f : RF) : List Value := [.string (strB f.nm), .slice f.ao f.bs.length f.cap, .int .i64 (f.wr : Int)]
theorem RF.cells_len (f : RF) : f.cells.length = 3 := rfl
def plC (p : List UInt8 × Nat) : List Value := [.string (strB p.1), .int .i64 (p.2 : Int)]
theorem plC_len (p : List UInt8 × Nat) : (plC p).length = 2 := rfl
/-- The disk, in memory. -/
structure RM where
  vL : Value
  vN : Value
  fs : List RF
  line : List (List UInt8 × Nat)
  room : Nat
  off : Bool
  ops : Nat
  fail : Nat
  keep : Int
def RF.blk (f : RF) : List Nat := f.ao.toList.map (·.block)
def RM.foot (r : Nat) (R : RM) : List Nat := r :: (R.vL.ownBlock.toList ++ (R.vN.ownBlock.toList ++ R.fs.flatMap RF.blk))
def RM.head (R : RM) : List Value := [.int .i64 (R.room : Int), R.vL, R.vN, .bool R.off, .int .i64 (R.ops : Int), .int .i64 (R.fail : Int), .int .i64 R.keep]
structure RefAt (w : World) (r : Nat) (R : RM) : Prop where
  head : Blk w r R.head 40
  rowL : w.ownsRow 0 72 3 R.vL R.fs.length (R.fs.flatMap RF.cells)
  rowN : w.ownsRow 0 88 2 R.vN R.line.length (R.line.flatMap plC)
  sees : ∀ f ∈ R.fs, Sees w f.ao f.bs
  zero : ∀ f ∈ R.fs, f.ao = none → f.bs.length = 0
  blt : ∀ f ∈ R.fs, ∀ g ∈ f.blk, g < w.heap.size
  apart : ∀ f ∈ R.fs, ∀ g ∈ f.blk, g ≠ r ∧ R.vL.ownBlock ≠ some g ∧ R.vN.ownBlock ≠ some g
  ne1 : R.vL.ownBlock ≠ some r
  ne2 : R.vN.ownBlock ≠ some r
  ne3 : ∀ g, R.vL.ownBlock = some g → R.vN.ownBlock ≠ some g
section
variable {w w' : World} {r : Nat} {R : RM} (h : RefAt w r R)
include h
theorem RefAt.c0 : w.cell? ⟨r, 0, none⟩ = some (.int .i64 (R.room : Int)) := h.head.cell 0 rfl
theorem RefAt.c1 : w.cell? ⟨r, 1, none⟩ = some R.vL := h.head.cell 1 rfl
theorem RefAt.c2 : w.cell? ⟨r, 2, none⟩ = some R.vN := h.head.cell 2 rfl
theorem RefAt.c3 : w.cell? ⟨r, 3, none⟩ = some (.bool R.off) := h.head.cell 3 rfl
theorem RefAt.c4 : w.cell? ⟨r, 4, none⟩ = some (.int .i64 (R.ops : Int)) := h.head.cell 4 rfl
theorem RefAt.c5 : w.cell? ⟨r, 5, none⟩ = some (.int .i64 (R.fail : Int)) := h.head.cell 5 rfl
theorem RefAt.c6 : w.cell? ⟨r, 6, none⟩ = some (.int .i64 R.keep) := h.head.cell 6 rfl
theorem RefAt.lt : ∀ i ∈ R.foot r, i < w.heap.size := by
  intro i hi
  simp only [RM.foot, List.mem_cons, List.mem_append, Option.mem_toList, List.mem_flatMap] at hi
  rcases hi with rfl | hi | hi | ⟨f, hf, hi⟩
  · exact h.head.lt
  · exact (h.rowL.lt i hi).2
  · exact (h.rowN.lt i hi).2
  · exact h.blt f hf i hi
theorem RefAt.carry (hk : ∀ i ∈ R.foot r, w'.heap[i]? = w.heap[i]?) (hz : w.heap.size ≤ w'.heap.size) : RefAt w' r R := by
  have m1 : ∀ g, R.vL.ownBlock = some g → g ∈ R.foot r := fun g hg => by simp [RM.foot, hg]
  have m2 : ∀ g, R.vN.ownBlock = some g → g ∈ R.foot r := fun g hg => by simp [RM.foot, hg]
  have m3 : ∀ f ∈ R.fs, ∀ g ∈ f.blk, g ∈ R.foot r := fun f hf g hg => by
    simp only [RM.foot, List.mem_cons, List.mem_append, List.mem_flatMap]
    exact .inr (.inr (.inr ⟨f, hf, hg⟩))
  refine ⟨h.head.carry (hk r (by simp [RM.foot])), owns_carry h.rowL fun g hg => hk g (m1 g hg), owns_carry h.rowN fun g hg => hk g (m2 g hg), fun f hf => ?_, h.zero, fun f hf g hg => Nat.lt_of_lt_of_le (h.blt f hf g hg) hz, h.apart, h.ne1, h.ne2, h.ne3⟩
  refine (h.sees f hf).kept fun a ha h0 => hk _ (m3 f hf _ ?_)
  simp [RF.blk, ha]
theorem RefAt.moved {a b : List Nat} (hm : Moved w w' a b) (hd : ∀ i ∈ R.foot r, i ∉ a) : RefAt w' r R := h.carry (fun i hi => hm.kept i (h.lt i hi) (hd i hi)) hm.size
theorem RefAt.grown (hg : w.grownBy w' none) : RefAt w' r R := h.moved (Moved.none_of hg []) (by simp)
/-- A cell of the head is stored anew. -/
theorem RefAt.put (R' : RM) (i : Nat) (v : Value) (e : R.head.set i v = R'.head) (e1 : R'.vL = R.vL) (e2 : R'.vN = R.vN) (e3 : R'.fs = R.fs) (e4 : R'.line = R.line) : RefAt (w.setCell ⟨r, i, none⟩ v) r R' ∧ Moved w (w.setCell ⟨r, i, none⟩ v) (R.foot r) (R'.foot r) := by
  have hM : Moved w (w.setCell ⟨r, i, none⟩ v) [r] [r] := Moved.of_set r i v
  have hk : ∀ j, j ≠ r → (w.setCell ⟨r, i, none⟩ v).heap[j]? = w.heap[j]? := fun j hj => Below.heap_setCell _ _ _ _ hj
  have hf : R'.foot r = R.foot r := by unfold RM.foot; rw [e1, e2, e3]
  refine ⟨⟨h.head.setTo i v _ e, ?_, ?_, ?_, ?_, ?_, ?_, ?_, ?_, ?_⟩, ?_⟩
  · rw [e1, e3]
    exact owns_carry h.rowL fun g hg => hk g fun e => h.ne1 (e ▸ hg)
  · rw [e2, e4]
    exact owns_carry h.rowN fun g hg => hk g fun e => h.ne2 (e ▸ hg)
  · rw [e3]
    exact fun f hf => (h.sees f hf).kept fun a ha _ => hk _ (h.apart f hf a.block (by simp [RF.blk, ha])).1
  · rw [e3]
    exact h.zero
  · rw [e3]
    intro f hf g hg
    rw [size_setCell]
    exact h.blt f hf g hg
  · rw [e1, e2, e3]
    exact h.apart
  · rw [e1]
    exact h.ne1
  · rw [e2]
    exact h.ne2
  · rw [e1, e2]
    exact h.ne3
  · rw [hf]
    exact hM.wider (fun i hi => .inl (by simp at hi; simp [RM.foot, hi])) (fun i hi => .inl hi)
/-- The files' cells. -/
theorem RefAt.files : ∃ ao cap, R.vL = .slice ao R.fs.length cap ∧ R.fs.length ≤ cap ∧ ∀ i f, R.fs[i]? = some f → ∃ g, ao = some ⟨g, 0, none⟩ ∧ R.vL.ownBlock = some g ∧ w.cell? ⟨g, i * 3, none⟩ = some (.string (strB f.nm)) ∧ w.cell? ⟨g, i * 3 + 1, none⟩ = some (.slice f.ao f.bs.length f.cap) ∧ w.cell? ⟨g, i * 3 + 2, none⟩ = some (.int .i64 (f.wr : Int)) := by
  obtain ⟨ao, cap, h1, h2, h3⟩ := owns_recs RF.cells_len h.rowL
  refine ⟨ao, cap, h1, h2, fun i f hf => ?_⟩
  obtain ⟨g, e, e2, hc⟩ := h3 i f hf
  exact ⟨g, e, e2, hc 0 _ rfl, hc 1 _ rfl, hc 2 _ rfl⟩
theorem RefAt.lines : ∃ ao cap, R.vN = .slice ao R.line.length cap ∧ R.line.length ≤ cap ∧ ∀ i p, R.line[i]? = some p → ∃ g, ao = some ⟨g, 0, none⟩ ∧ R.vN.ownBlock = some g ∧ w.cell? ⟨g, i * 2, none⟩ = some (.string (strB p.1)) ∧ w.cell? ⟨g, i * 2 + 1, none⟩ = some (.int .i64 (p.2 : Int)) := by
  obtain ⟨ao, cap, h1, h2, h3⟩ := owns_recs plC_len h.rowN
  refine ⟨ao, cap, h1, h2, fun i f hf => ?_⟩
  obtain ⟨g, e, e2, hc⟩ := h3 i f hf
  exact ⟨g, e, e2, hc 0 _ rfl, hc 1 _ rfl⟩
end
/-- Where a file stands. -/
def atI (fs : List RF) (nm : List UInt8) : Int := match fs.findIdx? (fun f => f.nm == nm) with | some i => (i : Int) | none => -1
theorem atI_none {fs : List RF} {nm : List UInt8} (h : ∀ f ∈ fs, f.nm ≠ nm) : atI fs nm = -1 := by
  unfold atI
  rw [List.findIdx?_eq_none_iff.2 (fun f hf => by rw [beq_eq_false_iff_ne]; exact h f hf)]
theorem atI_some {fs : List RF} {nm : List UInt8} {i : Nat} (hi : i < fs.length) (h : fs[i].nm = nm) (hb : ∀ j (hj : j < i), (fs[j]'(Nat.lt_trans hj hi)).nm ≠ nm) : atI fs nm = (i : Int) := by
  unfold atI
  rw [List.findIdx?_eq_some_iff_getElem.2 ⟨hi, by simpa using h, fun j hj => by simpa using hb j hj⟩]
set_option maxRecDepth 100000 in
theorem ref_at {w : World} {r : Nat} {R : RM} (h : RefAt w r R) (hn : R.fs.length ≤ 1000000) (s : ByteArray) :
    Calls Tryz.prog 64 #[.pointer (some ⟨r, 0, none⟩), .string s] w fun x w' => x = .returned (.int .i64 (atI R.fs (nameOf s))) ∧ w' = w := by
  obtain ⟨ao, cap, hv, hcap, hcell⟩ := h.files
  have c1 := h.c1
  rw [hv] at c1
  have HC : Hid (∀ i f, R.fs[i]? = some f → ∃ g, ao = some ⟨g, 0, none⟩ ∧ R.vL.ownBlock = some g ∧ w.cell? ⟨g, i * 3, none⟩ = some (.string (strB f.nm)) ∧ w.cell? ⟨g, i * 3 + 1, none⟩ = some (.slice f.ao f.bs.length f.cap) ∧ w.cell? ⟨g, i * 3 + 2, none⟩ = some (.int .i64 (f.wr : Int))) := hcell
  have hnz : (R.fs.length : Int) ≤ 1000000 := by omega
  clear h hv hcell
  go_enter Tryz.func64, Tryz.ntmps64
  go_wp2_with fail
  go_loop [11] (fun i => ∃ k : Nat, k ≤ R.fs.length ∧ i = .int .i64 (k : Int) ∧ ∀ j (hj : j < R.fs.length), j < k → R.fs[j].nm ≠ nameOf s) (fun i => R.fs.length - (intOf i).toNat)
  case atStart => exact ⟨0, Nat.zero_le _, rfl, fun j _ hj => absurd hj (Nat.not_lt_zero _)⟩
  case round =>
    obtain ⟨k, hk, rfl, hall⟩ := hrel
    have HA : Hid (∀ j (hj : j < R.fs.length), j < k → R.fs[j].nm ≠ nameOf s) := hall
    clear hall
    have hkz : (k : Int) ≤ 1000000 := by omega
    rcases Nat.lt_or_ge k R.fs.length with hlt | hge
    · obtain ⟨g, rfl, _, k0, _, _⟩ := HC.out k _ (List.getElem?_eq_getElem hlt)
      by_cases he : R.fs[k].nm = nameOf s
      · have HE : Hid (R.fs[k].nm = nameOf s) := he
        rw [he, strB_nameOf] at k0
        clear he
        go_wp2_with fail
        go_ret
        exact ⟨ret_int (atI_some hlt HE.out (fun j hj => HA.out j _ hj)).symm, rfl⟩
      · have hne := strB_ne2 he
        have HE : Hid (R.fs[k].nm ≠ nameOf s) := he
        clear he
        generalize strB R.fs[k].nm = sk at *
        have rel : (∀ j (hj : j < R.fs.length), j < k + 1 → R.fs[j].nm ≠ nameOf s) := fun j hj hjk => by
          by_cases e : j = k
          · subst e
            exact HE.out
          · exact HA.out j hj (by omega)
        have HR : Hid (∀ j (hj : j < R.fs.length), j < k + 1 → R.fs[j].nm ≠ nameOf s) := rel
        clear rel
        go_wp2_with fail
        exact ⟨⟨k + 1, by omega, by go_num, HR.out⟩, by simp [intOf]; omega⟩
    · obtain rfl : k = R.fs.length := by omega
      go_wp2_with fail
      go_ret
      refine ⟨ret_int (atI_none fun f hf => ?_).symm, rfl⟩
      obtain ⟨j, hj, rfl⟩ := List.getElem_of_mem hf
      exact HA.out j hj hj
end Go.Proofs.YtoeoioigelknnaaGreat
namespace Go.Proofs.YtoeoioigelknnaaGreat
open Go.RowKit Go.Maps

/-- May this byte stand at this place? -/
def okB (k : Nat) (x : Int) : Bool := letterI x || (decide (0 < k) && (decide (48 ≤ x) && decide (x ≤ 57) || x == 46 || x == 45))
theorem okB_iff (k : Nat) (x : Int) : okB k x = true ↔ (97 ≤ x ∧ x ≤ 122) ∨ (0 < k ∧ ((48 ≤ x ∧ x ≤ 57) ∨ x = 46 ∨ x = 45)) := by
  simp [okB, letterI, or_assoc]
theorem good_iff (l : List UInt8) : goodB l = true ↔ 0 < l.length ∧ l.length ≤ 40 ∧ ∀ j, j < l.length → okB j ((l.getD j 0).toNat : Int) = true := by
  unfold goodB
  simp only [Bool.and_eq_true, decide_eq_true_eq, List.all_eq_true]
  constructor
  · rintro ⟨⟨⟨h1, h2⟩, h3⟩, h4⟩
    refine ⟨h1, h2, fun j hj => ?_⟩
    have hm : l.getD j 0 ∈ l := by
      rw [List.getD_eq_getElem?_getD, List.getElem?_eq_getElem hj]
      exact List.getElem_mem hj
    have ha := h4 _ hm
    by_cases h0 : j = 0
    · subst h0
      unfold okB
      rw [h3]
      rfl
    · have hp : decide (0 < j) = true := decide_eq_true (by omega)
      unfold okB
      rw [hp, Bool.true_and]
      unfold allowedI at ha
      simpa [Bool.or_assoc] using ha
  · rintro ⟨h1, h2, h3⟩
    refine ⟨⟨⟨h1, h2⟩, ?_⟩, fun c hc => ?_⟩
    · have := h3 0 h1
      simpa [okB] using this
    · obtain ⟨j, hj, rfl⟩ := List.getElem_of_mem hc
      have := h3 j hj
      rw [List.getD_eq_getElem?_getD, List.getElem?_eq_getElem hj] at this
      rw [okB_iff] at this
      simp only [Option.getD_some] at this
      unfold allowedI letterI
      simp only [Bool.or_eq_true, Bool.and_eq_true, decide_eq_true_eq, beq_iff_eq]
      omega
set_option maxRecDepth 100000 in
set_option maxHeartbeats 1000000 in
theorem refGood_any (s : ByteArray) (w : World) (hs : s.size ≤ maxLen) :
    Calls Tryz.prog 63 #[.string s] w fun e w' => e = .returned (.bool (goodB s.data.toList)) ∧ w' = w := by
  have hsz : (s.size : Int) ≤ 9223372036854775807 := by unfold maxLen at hs; omega
  have Hlen : Hid (s.data.toList.length = s.size) := by show _ = _; simp
  have Hg : Hid (goodB s.data.toList = true ↔ 0 < s.size ∧ s.size ≤ 40 ∧ ∀ j, j < s.size → okB j ((s.data.toList.getD j 0).toNat : Int) = true) := by
    have := good_iff s.data.toList
    rw [Hlen.out] at this
    exact this
  have Hat : Hid (∀ k (hk : k < s.size), s.data.toList.getD k 0 = s[k]) := by
    intro k hk
    have : k < s.data.toList.length := by simpa using hk
    rw [List.getD_eq_getElem?_getD, List.getElem?_eq_getElem this]
    rfl
  have Hno : Hid (∀ P : Prop, (¬ (0 < s.size ∧ s.size ≤ 40 ∧ ∀ j, j < s.size → okB j ((s.data.toList.getD j 0).toNat : Int) = true)) → goodB s.data.toList = false) := fun _ h => by
    cases hg : goodB s.data.toList
    · rfl
    · exact absurd (Hg.out.1 hg) h
  clear hs
  by_cases h0 : s.size = 0
  · go_enter Tryz.func63, Tryz.ntmps63
    go_wp2_with fail
    go_ret
    exact ⟨ret_bool (Hno.out True (by omega)).symm, rfl⟩
  by_cases h40 : 40 < s.size
  · go_enter Tryz.func63, Tryz.ntmps63
    go_wp2_with fail
    go_ret
    exact ⟨ret_bool (Hno.out True (by omega)).symm, rfl⟩
  have hb1 : decide ((s.size : Int) < 1) = false := decide_eq_false (by omega)
  have hb2 : decide (40 < (s.size : Int)) = false := decide_eq_false (by omega)
  have hsi : (s.size : Int) ≤ 40 := by omega
  have hpos : 0 < s.size := by omega
  clear h0 h40
  go_enter Tryz.func63, Tryz.ntmps63
  go_wp2_with fail
  go_loop [3] (fun i => ∃ k : Nat, k ≤ s.size ∧ i = .int .i64 k ∧ ∀ j, j < k → okB j ((s.data.toList.getD j 0).toNat : Int) = true) (fun i => s.size - (intOf i).toNat)
  case atStart => exact ⟨0, Nat.zero_le _, rfl, fun j hj => absurd hj (Nat.not_lt_zero _)⟩
  case round =>
    obtain ⟨k, hk, rfl, hall⟩ := hrel
    have HA : Hid (∀ j, j < k → okB j ((s.data.toList.getD j 0).toNat : Int) = true) := hall
    clear hall
    by_cases hlt : k < s.size
    · have HB : Hid (okB k ((s[k].toNat : Nat) : Int) = false → goodB s.data.toList = false) := fun h => Hno.out True fun hh => by have := hh.2.2 k hlt; rw [Hat.out k hlt, h] at this; cases this
      have HN : Hid (okB k ((s[k].toNat : Nat) : Int) = true → ∀ j, j < k + 1 → okB j ((s.data.toList.getD j 0).toNat : Int) = true) := fun h j hj => by
        by_cases e : j = k
        · subst e; rw [Hat.out j hlt]; exact h
        · exact HA.out j (by omega)
      obtain ⟨x, hx⟩ : ∃ x, ((s[k].toNat : Nat) : Int) = x := ⟨_, rfl⟩
      rw [hx] at HB HN
      have h8 : (x < 45 ∨ x = 47 ∨ (58 ≤ x ∧ x < 97) ∨ 122 < x) ∨ (97 ≤ x ∧ x ≤ 122) ∨ (48 ≤ x ∧ x ≤ 57) ∨ x = 45 ∨ x = 46 := by omega
      by_cases hk0 : k = 0
      · have hkb : ((k : Int) == 0) = true := by rw [beq_iff_eq]; omega
        have HB' : Hid (¬ (97 ≤ x ∧ x ≤ 122) → goodB s.data.toList = false) := fun h => HB.out (by rw [Bool.eq_false_iff, ne_eq, okB_iff]; omega)
        by_cases hL : 97 ≤ x ∧ x ≤ 122
        · have HN' : Hid (∀ j, j < k + 1 → okB j ((s.data.toList.getD j 0).toNat : Int) = true) := HN.out (by rw [okB_iff]; omega)
          have d1 : decide (97 ≤ x) = true := decide_eq_true hL.1
          have d2 : decide (x ≤ 122) = true := decide_eq_true hL.2
          clear h8 hL hk0 HB HN HB'
          go_wp2_with fail
          go_round
          case rel => exact ⟨k + 1, by omega, by go_num, HN'.out⟩
          case measure => simp [intOf]; omega
        · have HF : Hid (goodB s.data.toList = false) := HB'.out hL
          have hd : (decide (97 ≤ x) = false) ∨ (decide (97 ≤ x) = true ∧ decide (x ≤ 122) = false) := by
            by_cases h : 97 ≤ x
            · exact .inr ⟨decide_eq_true h, decide_eq_false (by omega)⟩
            · exact .inl (decide_eq_false h)
          clear h8 hL hk0 HB HN HB'
          rcases hd with d1 | ⟨d1, d2⟩
          · go_wp2_with fail
            go_ret
            exact ⟨ret_bool HF.out.symm, rfl⟩
          · go_wp2_with fail
            go_ret
            exact ⟨ret_bool HF.out.symm, rfl⟩
      · have hkb : ((k : Int) == 0) = false := by rw [beq_eq_false_iff_ne]; omega
        have HB' : Hid ((x < 45 ∨ x = 47 ∨ (58 ≤ x ∧ x < 97) ∨ 122 < x) → goodB s.data.toList = false) := fun h => HB.out (by rw [Bool.eq_false_iff, ne_eq, okB_iff]; omega)
        have HN' : Hid (((97 ≤ x ∧ x ≤ 122) ∨ (48 ≤ x ∧ x ≤ 57) ∨ x = 45 ∨ x = 46) → ∀ j, j < k + 1 → okB j ((s.data.toList.getD j 0).toNat : Int) = true) := fun h => HN.out (by rw [okB_iff]; omega)
        clear HB HN hk0
        rcases h8 with h | h
        · have HF : Hid (goodB s.data.toList = false) := HB'.out h
          have d5 : (x == 46) = false := by rw [beq_eq_false_iff_ne]; omega
          have d6 : (x == 45) = false := by rw [beq_eq_false_iff_ne]; omega
          clear HB' HN'
          rcases h with h | h | ⟨h1, h2⟩ | h
          · have d1 : decide (97 ≤ x) = false := decide_eq_false (by omega)
            have d3 : decide (48 ≤ x) = false := decide_eq_false (by omega)
            go_wp2_with fail
            go_ret
            exact ⟨ret_bool HF.out.symm, rfl⟩
          · subst h
            go_wp2_with fail
            go_ret
            exact ⟨ret_bool HF.out.symm, rfl⟩
          · have d1 : decide (97 ≤ x) = false := decide_eq_false (by omega)
            have d3 : decide (48 ≤ x) = true := decide_eq_true (by omega)
            have d4 : decide (x ≤ 57) = false := decide_eq_false (by omega)
            go_wp2_with fail
            go_ret
            exact ⟨ret_bool HF.out.symm, rfl⟩
          · have d1 : decide (97 ≤ x) = true := decide_eq_true (by omega)
            have d2 : decide (x ≤ 122) = false := decide_eq_false (by omega)
            have d3 : decide (48 ≤ x) = true := decide_eq_true (by omega)
            have d4 : decide (x ≤ 57) = false := decide_eq_false (by omega)
            go_wp2_with fail
            go_ret
            exact ⟨ret_bool HF.out.symm, rfl⟩
        · have HO : Hid (∀ j, j < k + 1 → okB j ((s.data.toList.getD j 0).toNat : Int) = true) := HN'.out h
          clear HB' HN'
          rcases h with ⟨h1, h2⟩ | ⟨h1, h2⟩ | h | h
          · have d1 : decide (97 ≤ x) = true := decide_eq_true h1
            have d2 : decide (x ≤ 122) = true := decide_eq_true h2
            go_wp2_with fail
            go_round
            case rel => exact ⟨k + 1, by omega, by go_num, HO.out⟩
            case measure => simp [intOf]; omega
          · have d1 : decide (97 ≤ x) = false := decide_eq_false (by omega)
            have d3 : decide (48 ≤ x) = true := decide_eq_true (by omega)
            have d4 : decide (x ≤ 57) = true := decide_eq_true (by omega)
            go_wp2_with fail
            go_round
            case rel => exact ⟨k + 1, by omega, by go_num, HO.out⟩
            case measure => simp [intOf]; omega
          · subst h
            go_wp2_with fail
            go_round
            case rel => exact ⟨k + 1, by omega, by go_num, HO.out⟩
            case measure => simp [intOf]; omega
          · subst h
            go_wp2_with fail
            go_round
            case rel => exact ⟨k + 1, by omega, by go_num, HO.out⟩
            case measure => simp [intOf]; omega
    · obtain rfl : k = s.size := by omega
      go_wp2_with fail
      go_ret
      exact ⟨ret_bool (Hg.out.2 ⟨hpos, by omega, HA.out⟩).symm, rfl⟩

end Go.Proofs.YtoeoioigelknnaaGreat
