/-
  SEVERAL TEXTS IN ONE: DskRef, DskRef2, KeyText, KeyEnv.
-/
import Derived.Test.YtgkdodcidancpaaGreatDoorMany22
import Derived.Test.YtgkdodcidancpaaGreatDoorMany6
import Derived.Test.YtgkdodcidancpaaGreatDoorMany13
import Derived.Lib.Replace
import Derived.Lib.ItoaNum
import Derived.Test.YtgkdodcidancpaaGreatDoorMany14
import Derived.Test.YtgkdodcidancpaaGreatDoorMany2
namespace Go.Proofs.YtgkdodcidancpaaGreatDoor
open Go.RowKit Go.Maps

theorem strB_nameOf (s : ByteArray) : strBD (nameOf s) = s := by
  obtain ⟨x⟩ := s
  simp [strBD, nameOf]
theorem ba_toList_ne {a b : ByteArray} (h : a ≠ b) : (a.toList == b.toList) = false := by
  rw [beq_eq_false_iff_ne, Go.ByteArray.toList_eq, Go.ByteArray.toList_eq]
  intro e
  apply h
  obtain ⟨x⟩ := a
  obtain ⟨y⟩ := b
  congr 1
  exact Array.toList_inj.1 e
theorem strB_ne2 {n : List UInt8} {s : ByteArray} (h : n ≠ nameOf s) : ((strBD n).toList == s.toList) = false := ba_toList_ne fun e => h (by rw [← e, nameOf_strB])
/-- A file, in memory. -/
structure RF where
  nm : List UInt8
  ao : Option Addr
  cap : Nat
  bs : List UInt8
  wr : Nat
def RF.cells (f : RF) : List Value := [.string (strBD f.nm), .slice f.ao f.bs.length f.cap, .int .i64 (f.wr : Int)]
theorem RF.cells_len (f : RF) : f.cells.length = 3 := rfl
def plC (p : List UInt8 × Nat) : List Value := [.string (strBD p.1), .int .i64 (p.2 : Int)]
theorem plC_len (p : List UInt8 × Nat) : (plC p).length = 2 := rfl
/-- The disk, in memory. -/
structure RM where
  vL : Value
  vN : Value
  fs : List RF
  line : List (List UInt8 × Nat)
  room : Nat
  off : Bool
  ops : Nat
  fail : Nat
  keep : Int
def RF.blk (f : RF) : List Nat := f.ao.toList.map (·.block)
def RM.foot (r : Nat) (R : RM) : List Nat := r :: (R.vL.ownBlock.toList ++ (R.vN.ownBlock.toList ++ R.fs.flatMap RF.blk))
def RM.head (R : RM) : List Value := [.int .i64 (R.room : Int), R.vL, R.vN, .bool R.off, .int .i64 (R.ops : Int), .int .i64 (R.fail : Int), .int .i64 R.keep]
structure RefAt (w : World) (r : Nat) (R : RM) : Prop where
  head : Blk w r R.head 50
  rowL : w.ownsRow 0 86 3 R.vL R.fs.length (R.fs.flatMap RF.cells)
  rowN : w.ownsRow 0 109 2 R.vN R.line.length (R.line.flatMap plC)
  sees : ∀ f ∈ R.fs, Sees w f.ao f.bs
  zero : ∀ f ∈ R.fs, f.ao = none → f.bs.length = 0
  blt : ∀ f ∈ R.fs, ∀ g ∈ f.blk, g < w.heap.size
  apart : ∀ f ∈ R.fs, ∀ g ∈ f.blk, g ≠ r ∧ R.vL.ownBlock ≠ some g ∧ R.vN.ownBlock ≠ some g
  ne1 : R.vL.ownBlock ≠ some r
  ne2 : R.vN.ownBlock ≠ some r
  ne3 : ∀ g, R.vL.ownBlock = some g → R.vN.ownBlock ≠ some g
section
variable {w w' : World} {r : Nat} {R : RM} (h : RefAt w r R)
include h
theorem RefAt.c0 : w.cell? ⟨r, 0, none⟩ = some (.int .i64 (R.room : Int)) := h.head.cell 0 rfl
theorem RefAt.c1 : w.cell? ⟨r, 1, none⟩ = some R.vL := h.head.cell 1 rfl
theorem RefAt.c2 : w.cell? ⟨r, 2, none⟩ = some R.vN := h.head.cell 2 rfl
theorem RefAt.c3 : w.cell? ⟨r, 3, none⟩ = some (.bool R.off) := h.head.cell 3 rfl
theorem RefAt.c4 : w.cell? ⟨r, 4, none⟩ = some (.int .i64 (R.ops : Int)) := h.head.cell 4 rfl
theorem RefAt.c5 : w.cell? ⟨r, 5, none⟩ = some (.int .i64 (R.fail : Int)) := h.head.cell 5 rfl
theorem RefAt.c6 : w.cell? ⟨r, 6, none⟩ = some (.int .i64 R.keep) := h.head.cell 6 rfl
theorem RefAt.lt : ∀ i ∈ R.foot r, i < w.heap.size := by
  intro i hi
  simp only [RM.foot, List.mem_cons, List.mem_append, Option.mem_toList, List.mem_flatMap] at hi
  rcases hi with rfl | hi | hi | ⟨f, hf, hi⟩
  · exact h.head.lt
  · exact (h.rowL.lt i hi).2
  · exact (h.rowN.lt i hi).2
  · exact h.blt f hf i hi
theorem RefAt.carry (hk : ∀ i ∈ R.foot r, w'.heap[i]? = w.heap[i]?) (hz : w.heap.size ≤ w'.heap.size) : RefAt w' r R := by
  have m1 : ∀ g, R.vL.ownBlock = some g → g ∈ R.foot r := fun g hg => by simp [RM.foot, hg]
  have m2 : ∀ g, R.vN.ownBlock = some g → g ∈ R.foot r := fun g hg => by simp [RM.foot, hg]
  have m3 : ∀ f ∈ R.fs, ∀ g ∈ f.blk, g ∈ R.foot r := fun f hf g hg => by
    simp only [RM.foot, List.mem_cons, List.mem_append, List.mem_flatMap]
    exact .inr (.inr (.inr ⟨f, hf, hg⟩))
  refine ⟨h.head.carry (hk r (by simp [RM.foot])), owns_carry h.rowL fun g hg => hk g (m1 g hg), owns_carry h.rowN fun g hg => hk g (m2 g hg), fun f hf => ?_, h.zero, fun f hf g hg => Nat.lt_of_lt_of_le (h.blt f hf g hg) hz, h.apart, h.ne1, h.ne2, h.ne3⟩
  refine (h.sees f hf).kept fun a ha h0 => hk _ (m3 f hf _ ?_)
  simp [RF.blk, ha]
theorem RefAt.moved {a b : List Nat} (hm : Moved w w' a b) (hd : ∀ i ∈ R.foot r, i ∉ a) : RefAt w' r R := h.carry (fun i hi => hm.kept i (h.lt i hi) (hd i hi)) hm.size
theorem RefAt.grown (hg : w.grownBy w' none) : RefAt w' r R := h.moved (Moved.none_of hg []) (by simp)
/-- A cell of the head is stored anew. -/
theorem RefAt.put (R' : RM) (i : Nat) (v : Value) (e : R.head.set i v = R'.head) (e1 : R'.vL = R.vL) (e2 : R'.vN = R.vN) (e3 : R'.fs = R.fs) (e4 : R'.line = R.line) : RefAt (w.setCell ⟨r, i, none⟩ v) r R' ∧ Moved w (w.setCell ⟨r, i, none⟩ v) (R.foot r) (R'.foot r) := by
  have hM : Moved w (w.setCell ⟨r, i, none⟩ v) [r] [r] := Moved.of_set r i v
  have hk : ∀ j, j ≠ r → (w.setCell ⟨r, i, none⟩ v).heap[j]? = w.heap[j]? := fun j hj => Below.heap_setCell _ _ _ _ hj
  have hf : R'.foot r = R.foot r := by unfold RM.foot; rw [e1, e2, e3]
  refine ⟨⟨h.head.setTo i v _ e, ?_, ?_, ?_, ?_, ?_, ?_, ?_, ?_, ?_⟩, ?_⟩
  · rw [e1, e3]
    exact owns_carry h.rowL fun g hg => hk g fun e => h.ne1 (e ▸ hg)
  · rw [e2, e4]
    exact owns_carry h.rowN fun g hg => hk g fun e => h.ne2 (e ▸ hg)
  · rw [e3]
    exact fun f hf => (h.sees f hf).kept fun a ha _ => hk _ (h.apart f hf a.block (by simp [RF.blk, ha])).1
  · rw [e3]
    exact h.zero
  · rw [e3]
    intro f hf g hg
    rw [size_setCell]
    exact h.blt f hf g hg
  · rw [e1, e2, e3]
    exact h.apart
  · rw [e1]
    exact h.ne1
  · rw [e2]
    exact h.ne2
  · rw [e1, e2]
    exact h.ne3
  · rw [hf]
    exact hM.wider (fun i hi => .inl (by simp at hi; simp [RM.foot, hi])) (fun i hi => .inl hi)
/-- The files' cells. -/
theorem RefAt.files : ∃ ao cap, R.vL = .slice ao R.fs.length cap ∧ R.fs.length ≤ cap ∧ ∀ i f, R.fs[i]? = some f → ∃ g, ao = some ⟨g, 0, none⟩ ∧ R.vL.ownBlock = some g ∧ w.cell? ⟨g, i * 3, none⟩ = some (.string (strBD f.nm)) ∧ w.cell? ⟨g, i * 3 + 1, none⟩ = some (.slice f.ao f.bs.length f.cap) ∧ w.cell? ⟨g, i * 3 + 2, none⟩ = some (.int .i64 (f.wr : Int)) := by
  obtain ⟨ao, cap, h1, h2, h3⟩ := owns_recs RF.cells_len h.rowL
  refine ⟨ao, cap, h1, h2, fun i f hf => ?_⟩
  obtain ⟨g, e, e2, hc⟩ := h3 i f hf
  exact ⟨g, e, e2, hc 0 _ rfl, hc 1 _ rfl, hc 2 _ rfl⟩
theorem RefAt.lines : ∃ ao cap, R.vN = .slice ao R.line.length cap ∧ R.line.length ≤ cap ∧ ∀ i p, R.line[i]? = some p → ∃ g, ao = some ⟨g, 0, none⟩ ∧ R.vN.ownBlock = some g ∧ w.cell? ⟨g, i * 2, none⟩ = some (.string (strBD p.1)) ∧ w.cell? ⟨g, i * 2 + 1, none⟩ = some (.int .i64 (p.2 : Int)) := by
  obtain ⟨ao, cap, h1, h2, h3⟩ := owns_recs plC_len h.rowN
  refine ⟨ao, cap, h1, h2, fun i f hf => ?_⟩
  obtain ⟨g, e, e2, hc⟩ := h3 i f hf
  exact ⟨g, e, e2, hc 0 _ rfl, hc 1 _ rfl⟩
end
/-- Where a file stands. -/
def atI (fs : List RF) (nm : List UInt8) : Int := match fs.findIdx? (fun f => f.nm == nm) with | some i => (i : Int) | none => -1
theorem atI_none {fs : List RF} {nm : List UInt8} (h : ∀ f ∈ fs, f.nm ≠ nm) : atI fs nm = -1 := by
  unfold atI
  rw [List.findIdx?_eq_none_iff.2 (fun f hf => by rw [beq_eq_false_iff_ne]; exact h f hf)]
theorem atI_some {fs : List RF} {nm : List UInt8} {i : Nat} (hi : i < fs.length) (h : fs[i].nm = nm) (hb : ∀ j (hj : j < i), (fs[j]'(Nat.lt_trans hj hi)).nm ≠ nm) : atI fs nm = (i : Int) := by
  unfold atI
  rw [List.findIdx?_eq_some_iff_getElem.2 ⟨hi, by simpa using h, fun j hj => by simpa using hb j hj⟩]
set_option maxRecDepth 100000 in
theorem ref_at {w : World} {r : Nat} {R : RM} (h : RefAt w r R) (hn : R.fs.length ≤ 1000000) (s : ByteArray) :
    Calls Tryz.prog 72 #[.pointer (some ⟨r, 0, none⟩), .string s] w fun x w' => x = .returned (.int .i64 (atI R.fs (nameOf s))) ∧ w' = w := by
  obtain ⟨ao, cap, hv, hcap, hcell⟩ := h.files
  have c1 := h.c1
  rw [hv] at c1
  have HC : Hid (∀ i f, R.fs[i]? = some f → ∃ g, ao = some ⟨g, 0, none⟩ ∧ R.vL.ownBlock = some g ∧ w.cell? ⟨g, i * 3, none⟩ = some (.string (strBD f.nm)) ∧ w.cell? ⟨g, i * 3 + 1, none⟩ = some (.slice f.ao f.bs.length f.cap) ∧ w.cell? ⟨g, i * 3 + 2, none⟩ = some (.int .i64 (f.wr : Int))) := hcell
  have hnz : (R.fs.length : Int) ≤ 1000000 := by omega
  clear h hv hcell
  go_enter Tryz.func72, Tryz.ntmps72
  go_wp2_with fail
  go_loop [11] (fun i => ∃ k : Nat, k ≤ R.fs.length ∧ i = .int .i64 (k : Int) ∧ ∀ j (hj : j < R.fs.length), j < k → R.fs[j].nm ≠ nameOf s) (fun i => R.fs.length - (intOf i).toNat)
  case atStart => exact ⟨0, Nat.zero_le _, rfl, fun j _ hj => absurd hj (Nat.not_lt_zero _)⟩
  case round =>
    obtain ⟨k, hk, rfl, hall⟩ := hrel
    have HA : Hid (∀ j (hj : j < R.fs.length), j < k → R.fs[j].nm ≠ nameOf s) := hall
    clear hall
    have hkz : (k : Int) ≤ 1000000 := by omega
    rcases Nat.lt_or_ge k R.fs.length with hlt | hge
    · obtain ⟨g, rfl, _, k0, _, _⟩ := HC.out k _ (List.getElem?_eq_getElem hlt)
      by_cases he : R.fs[k].nm = nameOf s
      · have HE : Hid (R.fs[k].nm = nameOf s) := he
        rw [he, strB_nameOf] at k0
        clear he
        go_wp2_with fail
        go_ret
        exact ⟨ret_int (atI_some hlt HE.out (fun j hj => HA.out j _ hj)).symm, rfl⟩
      · have hne := strB_ne2 he
        have HE : Hid (R.fs[k].nm ≠ nameOf s) := he
        clear he
        generalize strBD R.fs[k].nm = sk at *
        have rel : (∀ j (hj : j < R.fs.length), j < k + 1 → R.fs[j].nm ≠ nameOf s) := fun j hj hjk => by
          by_cases e : j = k
          · subst e
            exact HE.out
          · exact HA.out j hj (by omega)
        have HR : Hid (∀ j (hj : j < R.fs.length), j < k + 1 → R.fs[j].nm ≠ nameOf s) := rel
        clear rel
        go_wp2_with fail
        exact ⟨⟨k + 1, by omega, by go_num, HR.out⟩, by simp [intOf]; omega⟩
    · obtain rfl : k = R.fs.length := by omega
      go_wp2_with fail
      go_ret
      refine ⟨ret_int (atI_none fun f hf => ?_).symm, rfl⟩
      obtain ⟨j, hj, rfl⟩ := List.getElem_of_mem hf
      exact HA.out j hj hj
end Go.Proofs.YtgkdodcidancpaaGreatDoor
namespace Go.Proofs.YtgkdodcidancpaaGreatDoor
open Go.RowKit Go.Maps

theorem grown_trans {w w1 w2 : World} (h : w.grownBy w1 none) (k : w1.grownBy w2 none) : w.grownBy w2 none := h.andThen k (fun j hj => by cases hj)
theorem grown_refl (w : World) : w.grownBy w none := ⟨rfl, rfl, rfl, Nat.le_refl _, fun _ _ _ => rfl⟩
theorem grown_alloc {w w1 : World} (h : w.grownBy w1 none) (o : Obj) : w.grownBy (w1.alloc o) none := grown_trans h (World.grownBy_alloc _ _ _)
def uF (f : RF) : Nat := 1 + (f.bs.length + 15) / 16
def usedF (fs : List RF) : Nat := (fs.map uF).sum
theorem take_succ_ref {α : Type} {l : List α} {i : Nat} (h : i < l.length) : l.take (i + 1) = l.take i ++ [l[i]] := by
  rw [List.take_add_one, List.getElem?_eq_getElem h]
  rfl
theorem usedF_step {fs : List RF} {i : Nat} (h : i < fs.length) : usedF (fs.take (i + 1)) = usedF (fs.take i) + uF fs[i] := by
  rw [take_succ_ref h]
  unfold usedF
  rw [List.map_append, List.sum_append]
  simp
theorem usedF_le {fs : List RF} {i : Nat} (h : i < fs.length) : usedF (fs.take i) + uF fs[i] ≤ usedF fs := by
  rw [← usedF_step h]
  have : usedF fs = usedF (fs.take (i + 1)) + usedF (fs.drop (i + 1)) := by
    unfold usedF
    rw [← List.sum_append, ← List.map_append, List.take_append_drop]
  omega
set_option maxRecDepth 100000 in
theorem ref_used {w : World} {r : Nat} {R : RM} (h : RefAt w r R) (hn : R.fs.length ≤ 1000000) (hu : usedF R.fs ≤ 1099511627776) :
    Calls Tryz.prog 101 #[.pointer (some ⟨r, 0, none⟩)] w fun x w' => x = .returned (.int .i64 (usedF R.fs : Int)) ∧ w.grownBy w' none := by
  obtain ⟨ao, cap, hv, hcap, _⟩ := h.files
  have c1 := h.c1
  rw [hv] at c1
  have HR : Hid (RefAt w r R) := h
  have HV : Hid (R.vL = .slice ao R.fs.length cap) := hv
  have S1 : Hid (∀ (n : Nat) w, n ≤ 17592186044416 → Calls Tryz.prog 102 #[.int .i64 (n : Int)] w fun x' w' => x' = .returned (.int .i64 (((n + 15) / 16 : Nat) : Int)) ∧ w' = w) := fun n w hn => by
    have := refSectors_num (n : Int) w (by omega) (by omega)
    rwa [secI_nat] at this
  have hnz : (R.fs.length : Int) ≤ 1000000 := by omega
  clear h hv
  go_enter Tryz.func101, Tryz.ntmps101
  go_wp2_with fail
  go_loopw [3, 11] (fun s3 s11 wr => ∃ k : Nat, k ≤ R.fs.length ∧ s3 = .int .i64 (usedF (R.fs.take k) : Int) ∧ s11 = .int .i64 (k : Int) ∧ w.grownBy wr none) (fun _ s11 _ => R.fs.length - (intOf s11).toNat)
  case atStart => exact ⟨0, Nat.zero_le _, rfl, rfl, grown_refl _⟩
  case round =>
    obtain ⟨k, hk, rfl, rfl, hg⟩ := hrel
    have hkz : (k : Int) ≤ 1000000 := by omega
    rcases Nat.lt_or_ge k R.fs.length with hlt | hge
    · obtain ⟨ao', cap', hv', _, hcell⟩ := (HR.out.grown hg).files
      rw [HV.out] at hv'
      cases hv'
      obtain ⟨g, rfl, _, k0, k1, k2⟩ := hcell k _ (List.getElem?_eq_getElem hlt)
      have hst := usedF_step hlt
      have hle := usedF_le hlt
      generalize R.fs[k] = f at *
      obtain ⟨nm, fo, fc, bs, wr'⟩ := f
      unfold uF at hst hle
      simp only at *
      generalize bs.length = n at *
      have S2 : Hid (∀ w, Calls Tryz.prog 102 #[.int .i64 (n : Int)] w fun x' w' => x' = .returned (.int .i64 (((n + 15) / 16 : Nat) : Int)) ∧ w' = w) := fun w => S1.out n w (by omega)
      have Hst : Hid _ := hst
      have hg2 : Hid (∀ o, w.grownBy (wr.alloc o) none) := fun o => grown_alloc hg o
      generalize usedF (R.fs.take k) = sm at *
      generalize hq : (n + 15) / 16 = q at *
      have hqz : (sm : Int) + (1 + (q : Int)) ≤ 1099511627776 := by omega
      clear hq hst hcell hg
      go_wp2_with (go_at_call 102; go_fit (S2.out _); rintro x w1 ⟨rfl, rfl⟩)
      go_roundw
      case rel => exact ⟨k + 1, by omega, by rw [Hst.out]; go_num, by go_num, hg2.out _⟩
      case measure => simp [intOf]; omega
    · obtain rfl : k = R.fs.length := by omega
      go_wp2_with fail
      go_ret
      exact ⟨ret_int (by rw [List.take_length]), hg⟩
/-- An operation begins. -/
def turnR (R : RM) : Bool × RM := (decide (R.fail = 1), { R with ops := R.ops + 1, fail := R.fail - 1 })
theorem ref_turn {w : World} {r : Nat} {R : RM} (h : RefAt w r R) (ho : R.ops ≤ 4611686018427387904) (hf : R.fail ≤ 9223372036854775807) :
    Calls Tryz.prog 73 #[.pointer (some ⟨r, 0, none⟩)] w fun x w' => x = .returned (.bool (turnR R).1) ∧ RefAt w' r (turnR R).2 ∧ Moved w w' (R.foot r) ((turnR R).2.foot r) := by
  have c4 := h.c4
  have c5 := h.c5
  have f4 := h.head.frozen 4
  have f5 := h.head.frozen 5
  have hoz : (R.ops : Int) ≤ 4611686018427387904 := by omega
  have hfz : (R.fail : Int) ≤ 9223372036854775807 := by omega
  have P1 : Hid _ := h.put { R with ops := R.ops + 1 } 4 (.int .i64 ((R.ops : Int) + 1)) (by simp [RM.head]) rfl rfl rfl rfl
  have P2 : Hid (∀ z : Int, z = (R.fail - 1 : Nat) → RefAt ((w.setCell ⟨r, 4, none⟩ (.int .i64 ((R.ops : Int) + 1))).setCell ⟨r, 5, none⟩ (.int .i64 z)) r (turnR R).2 ∧ Moved w ((w.setCell ⟨r, 4, none⟩ (.int .i64 ((R.ops : Int) + 1))).setCell ⟨r, 5, none⟩ (.int .i64 z)) (R.foot r) ((turnR R).2.foot r)) := fun z hz => by
    subst hz
    have := P1.out.1.put (turnR R).2 5 (.int .i64 ((R.fail - 1 : Nat) : Int)) (by simp [RM.head, turnR]) rfl rfl rfl rfl
    exact ⟨this.1, P1.out.2.trans this.2⟩
  by_cases h0 : R.fail = 0
  · have e : turnR R = (false, { R with ops := R.ops + 1 }) := by unfold turnR; rw [h0]; rfl
    rw [h0] at c5
    rw [e]
    clear h P2 e
    go_enter Tryz.func73, Tryz.ntmps73
    go_wp2_with fail
    go_ret
    exact ⟨rfl, P1.out⟩
  · have hb : ((R.fail : Int) == 0) = false := by rw [beq_eq_false_iff_ne]; omega
    have hpos : 0 < (R.fail : Int) := by omega
    by_cases h1 : R.fail = 1
    · have e1 : (turnR R).1 = true := by unfold turnR; simp [h1]
      have P3 := P2.out 0 (by omega)
      have P3 : Hid _ := P3
      rw [h1] at c5
      rw [e1]
      clear h P2 P1 hb hpos
      go_enter Tryz.func73, Tryz.ntmps73
      go_wp2_with fail
      go_ret
      exact ⟨rfl, P3.out⟩
    · have e1 : (turnR R).1 = false := by unfold turnR; simp [h1]
      have P3 := P2.out ((R.fail : Int) - 1) (by omega)
      have P3 : Hid _ := P3
      have hb1 : ((R.fail : Int) - 1 == 0) = false := by rw [beq_eq_false_iff_ne]; omega
      rw [e1]
      clear h P2 P1
      go_enter Tryz.func73, Tryz.ntmps73
      go_wp2_with fail
      go_ret
      exact ⟨rfl, P3.out⟩
def armR (R : RM) (n m : Int) : Int × RM := if R.off then (9, R) else if n < 0 then (2, R) else (0, { R with fail := n.toNat, keep := m })
theorem ref_Arm {w : World} {r : Nat} {R : RM} (h : RefAt w r R) (n m : Int) :
    Calls Tryz.prog 8 #[.pointer (some ⟨r, 0, none⟩), .int .i64 n, .int .i64 m] w fun x w' => x = .returned (.int .i64 (armR R n m).1) ∧ RefAt w' r (armR R n m).2 ∧ Moved w w' (R.foot r) ((armR R n m).2.foot r) := by
  have c3 := h.c3
  have HR : Hid (RefAt w r R) := h
  cases hoff : R.off
  · rw [hoff] at c3
    by_cases hn : n < 0
    · have e : armR R n m = (2, R) := by unfold armR; rw [hoff]; simp [hn]
      rw [e]
      clear h
      go_enter Tryz.func8, Tryz.ntmps8
      go_wp2_with fail
      go_ret
      exact ⟨rfl, HR.out, Moved.refl _ _⟩
    · have e : armR R n m = (0, { R with fail := n.toNat, keep := m }) := by unfold armR; rw [hoff]; simp [hn]
      have c5 := h.c5
      have c6 := h.c6
      have f5 := h.head.frozen 5
      have f6 := h.head.frozen 6
      have P1 := h.put { R with fail := n.toNat } 5 (.int .i64 n) (by simp [RM.head]; omega) rfl rfl rfl rfl
      have P2 := P1.1.put { R with fail := n.toNat, keep := m } 6 (.int .i64 m) (by simp [RM.head]) rfl rfl rfl rfl
      have P : Hid (RefAt ((w.setCell ⟨r, 5, none⟩ (.int .i64 n)).setCell ⟨r, 6, none⟩ (.int .i64 m)) r { R with fail := n.toNat, keep := m } ∧ Moved w ((w.setCell ⟨r, 5, none⟩ (.int .i64 n)).setCell ⟨r, 6, none⟩ (.int .i64 m)) (R.foot r) (R.foot r)) := ⟨P2.1, P1.2.trans P2.2⟩
      rw [e]
      rw [hoff] at P
      clear h P1 P2 HR
      go_enter Tryz.func8, Tryz.ntmps8
      go_wp2_with fail
      go_ret
      exact ⟨rfl, P.out⟩
  · rw [hoff] at c3
    have e : armR R n m = (9, R) := by unfold armR; rw [hoff]; rfl
    rw [e]
    clear h
    go_enter Tryz.func8, Tryz.ntmps8
    go_wp2_with fail
    go_ret
    exact ⟨rfl, HR.out, Moved.refl _ _⟩
end Go.Proofs.YtgkdodcidancpaaGreatDoor
namespace Go.Proofs.YtgkdodcidancpaaGreatDoor
open Go.RowKit

def m1 (b : UInt8) : List UInt8 := if b = 47 then [37, 50, 102] else if b = 37 then [37, 50, 53] else [b]
def msk (l : List UInt8) : List UInt8 := l.flatMap m1
theorem replace_one (c : UInt8) (new : List UInt8) : ∀ s : List UInt8, Lib.replaceK [c] new (Lib.count s [c]) s = s.flatMap fun b => if b = c then new else [b]
  | [] => by
    rw [Lib.count_miss (by rfl)]; rfl
  | b :: l => by
    have ih := replace_one c new l
    have hi : Lib.index (b :: l) [c] = if b = c then 0 else if Lib.index l [c] == -1 then -1 else Lib.index l [c] + 1 := by
      conv => lhs; unfold Lib.index
      by_cases h : b = c
      · subst h; simp
      · have h' : ¬ c = b := fun e => h e.symm
        simp [h, h']
    rw [List.flatMap_cons]
    by_cases h : b = c
    · rw [if_pos h] at hi
      have hi0 : Lib.index (b :: l) [c] = ((0 : Nat) : Int) := hi
      rw [Lib.count_hit (by simp) hi0, Nat.add_comm 1, Lib.replaceK_hit _ _ _ _ 0 hi0, if_pos h]
      simp only [List.take_zero, List.nil_append, Nat.zero_add, List.length_cons, List.length_nil, List.drop_succ_cons, List.drop_zero]
      rw [ih]
    · rw [if_neg h] at hi
      rw [if_neg h]
      by_cases hm : Lib.index l [c] = -1
      · rw [if_pos (by simp [hm])] at hi
        rw [Lib.count_miss hi]
        rw [Lib.count_miss hm] at ih
        rw [← ih]; rfl
      · have hge := Lib.index_ge l [c]
        obtain ⟨i, hl⟩ : ∃ i : Nat, Lib.index l [c] = i := ⟨(Lib.index l [c]).toNat, by omega⟩
        rw [if_neg (by simp [hm]), hl] at hi
        have hi1 : Lib.index (b :: l) [c] = ((i + 1 : Nat) : Int) := by rw [hi]; omega
        rw [Lib.count_hit (by simp) hi1, Nat.add_comm 1, Lib.replaceK_hit _ _ _ _ (i + 1) hi1]
        rw [Lib.count_hit (by simp) hl, Nat.add_comm 1, Lib.replaceK_hit _ _ _ _ i hl] at ih
        rw [← ih]
        simp
theorem replaceAll_one (c : UInt8) (new s : List UInt8) (h : ([c] == new) = false) : Lib.replaceAll s [c] new = s.flatMap fun b => if b = c then new else [b] := by
  unfold Lib.replaceAll Lib.replace Lib.replaceNum
  rw [h, if_neg (by simp), if_pos (Or.inl (by omega))]
  exact replace_one c new s
theorem mask_two (s : List UInt8) : Lib.replaceAll (Lib.replaceAll s [37] [37, 50, 53]) [47] [37, 50, 102] = msk s := by
  rw [replaceAll_one _ _ _ (by decide), replaceAll_one _ _ _ (by decide), List.flatMap_assoc]
  unfold msk
  congr 1
  funext b
  unfold m1
  by_cases h1 : b = 37
  · subst h1; rfl
  · by_cases h2 : b = 47
    · subst h2; rfl
    · simp [h1, h2]
theorem flat_len (c : UInt8) (new : List UInt8) (k : Nat) (hn : new.length ≤ k) (hk : 1 ≤ k) : ∀ s : List UInt8, (s.flatMap fun b => if b = c then new else [b]).length ≤ k * s.length
  | [] => by simp
  | b :: l => by
    have := flat_len c new k hn hk l
    rw [List.flatMap_cons, List.length_append, List.length_cons, Nat.mul_add]
    split
    · omega
    · simp only [List.length_cons, List.length_nil]; omega

theorem m1_no47 (b : UInt8) : (47 : UInt8) ∉ m1 b := by
  unfold m1
  split
  · decide
  · split
    · decide
    · rename_i h _; simp only [List.mem_singleton]; exact fun e => h e.symm
theorem msk_no47 (l : List UInt8) : (47 : UInt8) ∉ msk l := by
  unfold msk; rw [List.mem_flatMap]; rintro ⟨b, _, hb⟩; exact m1_no47 b hb
theorem msk_cons (b : UInt8) (l : List UInt8) : msk (b :: l) = m1 b ++ msk l := List.flatMap_cons
theorem msk_inj : ∀ {a b : List UInt8}, msk a = msk b → a = b
  | [], [], _ => rfl
  | [], y :: b, h => by
    rw [msk_cons] at h; unfold m1 at h
    split at h
    · simp [msk] at h
    · split at h <;> simp [msk] at h
  | x :: a, [], h => by
    rw [msk_cons] at h; unfold m1 at h
    split at h
    · simp [msk] at h
    · split at h <;> simp [msk] at h
  | x :: a, y :: b, h => by
    rw [msk_cons, msk_cons] at h
    unfold m1 at h
    by_cases x1 : x = 47
    · rw [if_pos x1] at h
      by_cases y1 : y = 47
      · rw [if_pos y1] at h
        have := msk_inj (List.append_cancel_left h); rw [x1, y1, this]
      · rw [if_neg y1] at h
        by_cases y2 : y = 37
        · rw [if_pos y2] at h; simp at h
        · rw [if_neg y2] at h; simp only [List.cons_append, List.cons.injEq] at h; exact absurd h.1.symm y2
    · rw [if_neg x1] at h
      by_cases x2 : x = 37
      · rw [if_pos x2] at h
        by_cases y1 : y = 47
        · rw [if_pos y1] at h; simp at h
        · rw [if_neg y1] at h
          by_cases y2 : y = 37
          · rw [if_pos y2] at h
            have := msk_inj (List.append_cancel_left h); rw [x2, y2, this]
          · rw [if_neg y2] at h; simp only [List.cons_append, List.cons.injEq] at h; exact absurd h.1.symm y2
      · rw [if_neg x2] at h
        by_cases y1 : y = 47
        · rw [if_pos y1] at h; simp only [List.cons_append, List.cons.injEq] at h; exact absurd h.1 x2
        · rw [if_neg y1] at h
          by_cases y2 : y = 37
          · rw [if_pos y2] at h; simp only [List.cons_append, List.cons.injEq] at h; exact absurd h.1 x2
          · rw [if_neg y2] at h
            simp only [List.cons_append, List.nil_append, List.cons.injEq] at h
            rw [h.1, msk_inj h.2]

/-! ### Digits -/
theorem dec_small {u : Nat} (h : u < 10) : Lib.decDigits u = [UInt8.ofNat (48 + u)] := by rw [Lib.decDigits, dif_pos h]
theorem dec_big {u : Nat} (h : 10 ≤ u) : Lib.decDigits u = Lib.decDigits (u / 10) ++ [UInt8.ofNat (48 + u % 10)] := by rw [Lib.decDigits, dif_neg (by omega)]
theorem dec_range : ∀ (n u : Nat), u < n → ∀ b ∈ Lib.decDigits u, 48 ≤ b.toNat ∧ b.toNat ≤ 57
  | 0, _, h => by omega
  | n + 1, u, h => by
    intro b hb
    by_cases hu : u < 10
    · rw [dec_small hu, List.mem_singleton] at hb
      rw [hb, UInt8.toNat_ofNat_of_lt' (by show _ < 256; omega)]; omega
    · rw [dec_big (by omega), List.mem_append, List.mem_singleton] at hb
      rcases hb with hb | hb
      · exact dec_range n (u / 10) (by omega) b hb
      · rw [hb, UInt8.toNat_ofNat_of_lt' (by show _ < 256; omega)]; omega
def valD (l : List UInt8) : Nat := l.foldl (fun u b => u * 10 + (b.toNat - 48)) 0
theorem val_dec : ∀ (n u : Nat), u < n → valD (Lib.decDigits u) = u
  | 0, _, h => by omega
  | n + 1, u, h => by
    by_cases hu : u < 10
    · rw [dec_small hu]; unfold valD
      rw [List.foldl_cons, List.foldl_nil, UInt8.toNat_ofNat_of_lt' (by show _ < 256; omega)]; omega
    · rw [dec_big (by omega)]; unfold valD
      rw [List.foldl_append, List.foldl_cons, List.foldl_nil, UInt8.toNat_ofNat_of_lt' (by show _ < 256; omega)]
      have := val_dec n (u / 10) (by omega)
      unfold valD at this; rw [this]; omega
theorem dec_inj {u v : Nat} (h : Lib.decDigits u = Lib.decDigits v) : u = v := by
  rw [← val_dec (u + 1) u (by omega), h, val_dec (v + 1) v (by omega)]
theorem itoa_inj {x y : Int} (h : Lib.itoa x = Lib.itoa y) : x = y := by
  have no45 : ∀ (u : Nat) (l : List UInt8), 45 :: l ≠ Lib.decDigits u := by
    intro u l e
    have := dec_range (u + 1) u (by omega) 45 (by rw [← e]; exact List.mem_cons_self ..)
    have h2 : (45 : UInt8).toNat = 45 := rfl
    omega
  unfold Lib.itoa at h
  split at h <;> split at h
  · have := dec_inj (List.cons.inj h).2; omega
  · exact absurd h (no45 _ _)
  · exact absurd h.symm (no45 _ _)
  · have := dec_inj h; omega
theorem itoa_no47 (x : Int) : (47 : UInt8) ∉ Lib.itoa x := by
  have no : ∀ u : Nat, (47 : UInt8) ∉ Lib.decDigits u := by
    intro u e
    have := dec_range (u + 1) u (by omega) 47 e
    have h2 : (47 : UInt8).toNat = 47 := rfl
    omega
  unfold Lib.itoa
  split
  · rw [List.mem_cons]; rintro (e | e)
    · exact absurd e (by decide)
    · exact no _ e
  · exact no _

/-! ### A key's text -/
def prK (k : Ky) : List UInt8 := msk k.t ++ (47 :: (msk k.p ++ (47 :: (Lib.itoa k.r ++ (47 :: msk k.c)))))
theorem cut47 : ∀ {x x' y y' : List UInt8}, 47 ∉ x → 47 ∉ x' → x ++ (47 :: y) = x' ++ (47 :: y') → x = x' ∧ y = y'
  | [], [], _, _, _, _, h => ⟨rfl, (List.cons.inj h).2⟩
  | [], b :: x', _, _, _, h', h => absurd (List.mem_cons.2 (Or.inl (List.cons.inj h).1)) h'
  | a :: x, [], _, _, h', _, h => absurd (List.mem_cons.2 (Or.inl (List.cons.inj h).1.symm)) h'
  | a :: x, b :: x', y, y', h1, h2, h => by
    obtain ⟨e1, e2⟩ := List.cons.inj h
    have := cut47 (fun hh => h1 (List.mem_cons_of_mem _ hh)) (fun hh => h2 (List.mem_cons_of_mem _ hh)) e2
    exact ⟨by rw [e1, this.1], this.2⟩
theorem prK_inj (a b : Ky) : prK a = prK b ↔ a = b := by
  constructor
  · intro h
    obtain ⟨h1, h⟩ := cut47 (msk_no47 _) (msk_no47 _) h
    obtain ⟨h2, h⟩ := cut47 (msk_no47 _) (msk_no47 _) h
    obtain ⟨h3, h4⟩ := cut47 (itoa_no47 _) (itoa_no47 _) h
    cases a; cases b
    simp only [Ky.mk.injEq]
    exact ⟨msk_inj h1, msk_inj h2, itoa_inj h3, msk_inj h4⟩
  · rintro rfl; rfl
end Go.Proofs.YtgkdodcidancpaaGreatDoor
namespace Go.Proofs.YtgkdodcidancpaaGreatDoor
open Go.RowKit

/-- What a key that came in is like. -/
structure Kb.Fits (k : Kb) : Prop where
  r : InI k.r
  t : k.t.size ≤ 140737488351232
  p : k.p.size ≤ 140737488351232
  c : k.c.size ≤ 140737488351232
theorem gPow : Tryz.prog.globalNamed "internal/strconv.uint64pow10" = some 2 := by kernel_rfl
theorem countB_le (s : ByteArray) (c : ByteArray) : Lib.countB s c ≤ s.size + 1 := by
  have := Lib.count_le (nb s) (nb c)
  rw [nb_size] at this
  exact this
theorem strB_size (l : List UInt8) : (strB l).size = l.length := by show l.toArray.size = _; simp
theorem ret_str {a b : ByteArray} (h : a = b) : Ending.returned (.string a) = .returned (.string b) := by rw [h]

end Go.Proofs.YtgkdodcidancpaaGreatDoor
