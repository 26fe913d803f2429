/-
  SEVERAL TEXTS IN ONE: DskRef2, RefGet, RefLend.
-/
import Derived.Test.YtoeoioigelknnaaGreatMany14
import Derived.Test.YtoeoioigelknnaaGreatMany13
namespace Go.Proofs.YtoeoioigelknnaaGreat
open Go.RowKit Go.Maps

theorem grown_trans {w w1 w2 : World} (h : w.grownBy w1 none) (k : w1.grownBy w2 none) : w.grownBy w2 none := h.andThen k (fun j hj => by cases hj)
theorem grown_refl (w : World) : w.grownBy w none := ⟨rfl, rfl, rfl, Nat.le_refl _, fun _ _ _ => rfl⟩
theorem grown_alloc {w w1 : World} (h : w.grownBy w1 none) (o : Obj) : w.grownBy (w1.alloc o) none := grown_trans h (World.grownBy_alloc _ _ _)
def uF (f : RF) : Nat := 1 + (f.bs.length + 15) / 16
def usedF (fs : List RF) : Nat := (fs.map uF).sum
theorem take_succ_ref {α : Type} {l : List α} {i : Nat} (h : i < l.length) : l.take (i + 1) = l.take i ++ [l[i]] := by
  rw [List.take_add_one, List.getElem?_eq_getElem h]
  rfl
theorem usedF_step {fs : List RF} {i : Nat} (h : i < fs.length) : usedF (fs.take (i + 1)) = usedF (fs.take i) + uF fs[i] := by
  rw [take_succ_ref h]
  unfold usedF
  rw [List.map_append, List.sum_append]
  simp
theorem usedF_le {fs : List RF} {i : Nat} (h : i < fs.length) : usedF (fs.take i) + uF fs[i] ≤ usedF fs := by
  rw [← usedF_step h]
  have : usedF fs = usedF (fs.take (i + 1)) + usedF (fs.drop (i + 1)) := by
    unfold usedF
    rw [← List.sum_append, ← List.map_append, List.take_append_drop]
  omega
set_option maxRecDepth 100000 in
theorem ref_used {w : World} {r : Nat} {R : RM} (h : RefAt w r R) (hn : R.fs.length ≤ 1000000) (hu : usedF R.fs ≤ 1099511627776) :
    Calls Tryz.prog 47 #[.pointer (some ⟨r, 0, none⟩)] w fun x w' => x = .returned (.int .i64 (usedF R.fs : Int)) ∧ w.grownBy w' none := by
  obtain ⟨ao, cap, hv, hcap, _⟩ := h.files
  have c1 := h.c1
  rw [hv] at c1
  have HR : Hid (RefAt w r R) := h
  have HV : Hid (R.vL = .slice ao R.fs.length cap) := hv
  have S1 : Hid (∀ (n : Nat) w, n ≤ 17592186044416 → Calls Tryz.prog 69 #[.int .i64 (n : Int)] w fun x' w' => x' = .returned (.int .i64 (((n + 15) / 16 : Nat) : Int)) ∧ w' = w) := fun n w hn => by
    have := refSectors_num (n : Int) w (by omega) (by omega)
    rwa [secI_nat] at this
  have hnz : (R.fs.length : Int) ≤ 1000000 := by omega
  clear h hv
  go_enter Tryz.func47, Tryz.ntmps47
  go_wp2_with fail
  go_loopw [3, 11] (fun s3 s11 wr => ∃ k : Nat, k ≤ R.fs.length ∧ s3 = .int .i64 (usedF (R.fs.take k) : Int) ∧ s11 = .int .i64 (k : Int) ∧ w.grownBy wr none) (fun _ s11 _ => R.fs.length - (intOf s11).toNat)
  case atStart => exact ⟨0, Nat.zero_le _, rfl, rfl, grown_refl _⟩
  case round =>
    obtain ⟨k, hk, rfl, rfl, hg⟩ := hrel
    have hkz : (k : Int) ≤ 1000000 := by omega
    rcases Nat.lt_or_ge k R.fs.length with hlt | hge
    · obtain ⟨ao', cap', hv', _, hcell⟩ := (HR.out.grown hg).files
      rw [HV.out] at hv'
      cases hv'
      obtain ⟨g, rfl, _, k0, k1, k2⟩ := hcell k _ (List.getElem?_eq_getElem hlt)
      have hst := usedF_step hlt
      have hle := usedF_le hlt
      generalize R.fs[k] = f at *
      obtain ⟨nm, fo, fc, bs, wr'⟩ := f
      unfold uF at hst hle
      simp only at *
      generalize bs.length = n at *
      have S2 : Hid (∀ w, Calls Tryz.prog 69 #[.int .i64 (n : Int)] w fun x' w' => x' = .returned (.int .i64 (((n + 15) / 16 : Nat) : Int)) ∧ w' = w) := fun w => S1.out n w (by omega)
      have Hst : Hid _ := hst
      have hg2 : Hid (∀ o, w.grownBy (wr.alloc o) none) := fun o => grown_alloc hg o
      generalize usedF (R.fs.take k) = sm at *
      generalize hq : (n + 15) / 16 = q at *
      have hqz : (sm : Int) + (1 + (q : Int)) ≤ 1099511627776 := by omega
      clear hq hst hcell hg
      go_wp2_with (go_at_call 69; go_fit (S2.out _); rintro x w1 ⟨rfl, rfl⟩)
      go_roundw
      case rel => exact ⟨k + 1, by omega, by rw [Hst.out]; go_num, by go_num, hg2.out _⟩
      case measure => simp [intOf]; omega
    · obtain rfl : k = R.fs.length := by omega
      go_wp2_with fail
      go_ret
      exact ⟨ret_int (by rw [List.take_length]), hg⟩
theorem ref_Used {w : World} {r : Nat} {R : RM} (h : RefAt w r R) (hn : R.fs.length ≤ 1000000) (hu : usedF R.fs ≤ 1099511627776) :
    Calls Tryz.prog 13 #[.pointer (some ⟨r, 0, none⟩)] w fun x w' => x = .returned (.int .i64 (if R.off then 0 else (usedF R.fs : Int))) ∧ w.grownBy w' none := by
  have U : Hid (Calls Tryz.prog 47 #[.pointer (some ⟨r, 0, none⟩)] w fun x w' => x = .returned (.int .i64 (usedF R.fs : Int)) ∧ w.grownBy w' none) := ref_used h hn hu
  have c3 := h.c3
  clear h
  cases hoff : R.off
  · rw [hoff] at c3
    go_enter Tryz.func13, Tryz.ntmps13
    go_wp2_with (go_at_call 47; go_fit U.out; rintro x w1 ⟨rfl, hg⟩)
    go_ret
    exact ⟨rfl, hg⟩
  · rw [hoff] at c3
    go_enter Tryz.func13, Tryz.ntmps13
    go_wp2_with fail
    go_ret
    exact ⟨rfl, grown_refl _⟩
theorem ref_Dirty {w : World} {r : Nat} {R : RM} (h : RefAt w r R) :
    Calls Tryz.prog 15 #[.pointer (some ⟨r, 0, none⟩)] w fun x w' => x = .returned (.int .i64 (if R.off then 0 else (R.line.length : Int))) ∧ w' = w := by
  obtain ⟨ao, cap, hv, hcap, _⟩ := h.lines
  have c2 := h.c2
  rw [hv] at c2
  have c3 := h.c3
  clear h
  cases hoff : R.off
  · rw [hoff] at c3
    go_enter Tryz.func15, Tryz.ntmps15
    go_wp2_with fail
    go_ret
    exact ⟨rfl, rfl⟩
  · rw [hoff] at c3
    go_enter Tryz.func15, Tryz.ntmps15
    go_wp2_with fail
    go_ret
    exact ⟨rfl, rfl⟩
/-- An operation begins. -/
def turnR (R : RM) : Bool × RM := (decide (R.fail = 1), { R with ops := R.ops + 1, fail := R.fail - 1 })
theorem ref_turn {w : World} {r : Nat} {R : RM} (h : RefAt w r R) (ho : R.ops ≤ 4611686018427387904) (hf : R.fail ≤ 9223372036854775807) :
    Calls Tryz.prog 65 #[.pointer (some ⟨r, 0, none⟩)] w fun x w' => x = .returned (.bool (turnR R).1) ∧ RefAt w' r (turnR R).2 ∧ Moved w w' (R.foot r) ((turnR R).2.foot r) := by
  have c4 := h.c4
  have c5 := h.c5
  have f4 := h.head.frozen 4
  have f5 := h.head.frozen 5
  have hoz : (R.ops : Int) ≤ 4611686018427387904 := by omega
  have hfz : (R.fail : Int) ≤ 9223372036854775807 := by omega
  have P1 : Hid _ := h.put { R with ops := R.ops + 1 } 4 (.int .i64 ((R.ops : Int) + 1)) (by simp [RM.head]) rfl rfl rfl rfl
  have P2 : Hid (∀ z : Int, z = (R.fail - 1 : Nat) → RefAt ((w.setCell ⟨r, 4, none⟩ (.int .i64 ((R.ops : Int) + 1))).setCell ⟨r, 5, none⟩ (.int .i64 z)) r (turnR R).2 ∧ Moved w ((w.setCell ⟨r, 4, none⟩ (.int .i64 ((R.ops : Int) + 1))).setCell ⟨r, 5, none⟩ (.int .i64 z)) (R.foot r) ((turnR R).2.foot r)) := fun z hz => by
    subst hz
    have := P1.out.1.put (turnR R).2 5 (.int .i64 ((R.fail - 1 : Nat) : Int)) (by simp [RM.head, turnR]) rfl rfl rfl rfl
    exact ⟨this.1, P1.out.2.trans this.2⟩
  by_cases h0 : R.fail = 0
  · have e : turnR R = (false, { R with ops := R.ops + 1 }) := by unfold turnR; rw [h0]; rfl
    rw [h0] at c5
    rw [e]
    clear h P2 e
    go_enter Tryz.func65, Tryz.ntmps65
    go_wp2_with fail
    go_ret
    exact ⟨rfl, P1.out⟩
  · have hb : ((R.fail : Int) == 0) = false := by rw [beq_eq_false_iff_ne]; omega
    have hpos : 0 < (R.fail : Int) := by omega
    by_cases h1 : R.fail = 1
    · have e1 : (turnR R).1 = true := by unfold turnR; simp [h1]
      have P3 := P2.out 0 (by omega)
      have P3 : Hid _ := P3
      rw [h1] at c5
      rw [e1]
      clear h P2 P1 hb hpos
      go_enter Tryz.func65, Tryz.ntmps65
      go_wp2_with fail
      go_ret
      exact ⟨rfl, P3.out⟩
    · have e1 : (turnR R).1 = false := by unfold turnR; simp [h1]
      have P3 := P2.out ((R.fail : Int) - 1) (by omega)
      have P3 : Hid _ := P3
      have hb1 : ((R.fail : Int) - 1 == 0) = false := by rw [beq_eq_false_iff_ne]; omega
      rw [e1]
      clear h P2 P1
      go_enter Tryz.func65, Tryz.ntmps65
      go_wp2_with fail
      go_ret
      exact ⟨rfl, P3.out⟩
theorem ref_Start {w : World} {r : Nat} {R : RM} (h : RefAt w r R) :
    Calls Tryz.prog 41 #[.pointer (some ⟨r, 0, none⟩)] w fun x w' => x = .returned (.tuple #[]) ∧ RefAt w' r { R with off := false, fail := 0 } ∧ Moved w w' (R.foot r) (R.foot r) := by
  have c3 := h.c3
  have c5 := h.c5
  have f3 := h.head.frozen 3
  have f5 := h.head.frozen 5
  have P1 := h.put { R with off := false } 3 (.bool false) (by simp [RM.head]) rfl rfl rfl rfl
  have P2 := P1.1.put { R with off := false, fail := 0 } 5 (.int .i64 0) (by simp [RM.head]) rfl rfl rfl rfl
  have P : Hid (RefAt ((w.setCell ⟨r, 3, none⟩ (.bool false)).setCell ⟨r, 5, none⟩ (.int .i64 0)) r { R with off := false, fail := 0 } ∧ Moved w ((w.setCell ⟨r, 3, none⟩ (.bool false)).setCell ⟨r, 5, none⟩ (.int .i64 0)) (R.foot r) (R.foot r)) := ⟨P2.1, P1.2.trans P2.2⟩
  clear h P1 P2
  go_enter Tryz.func41, Tryz.ntmps41
  go_wp2_with fail
  go_end0
  exact ⟨rfl, P.out⟩
def armR (R : RM) (n m : Int) : Int × RM := if R.off then (9, R) else if n < 0 then (2, R) else (0, { R with fail := n.toNat, keep := m })
theorem ref_Arm {w : World} {r : Nat} {R : RM} (h : RefAt w r R) (n m : Int) :
    Calls Tryz.prog 39 #[.pointer (some ⟨r, 0, none⟩), .int .i64 n, .int .i64 m] w fun x w' => x = .returned (.int .i64 (armR R n m).1) ∧ RefAt w' r (armR R n m).2 ∧ Moved w w' (R.foot r) ((armR R n m).2.foot r) := by
  have c3 := h.c3
  have HR : Hid (RefAt w r R) := h
  cases hoff : R.off
  · rw [hoff] at c3
    by_cases hn : n < 0
    · have e : armR R n m = (2, R) := by unfold armR; rw [hoff]; simp [hn]
      rw [e]
      clear h
      go_enter Tryz.func39, Tryz.ntmps39
      go_wp2_with fail
      go_ret
      exact ⟨rfl, HR.out, Moved.refl _ _⟩
    · have e : armR R n m = (0, { R with fail := n.toNat, keep := m }) := by unfold armR; rw [hoff]; simp [hn]
      have c5 := h.c5
      have c6 := h.c6
      have f5 := h.head.frozen 5
      have f6 := h.head.frozen 6
      have P1 := h.put { R with fail := n.toNat } 5 (.int .i64 n) (by simp [RM.head]; omega) rfl rfl rfl rfl
      have P2 := P1.1.put { R with fail := n.toNat, keep := m } 6 (.int .i64 m) (by simp [RM.head]) rfl rfl rfl rfl
      have P : Hid (RefAt ((w.setCell ⟨r, 5, none⟩ (.int .i64 n)).setCell ⟨r, 6, none⟩ (.int .i64 m)) r { R with fail := n.toNat, keep := m } ∧ Moved w ((w.setCell ⟨r, 5, none⟩ (.int .i64 n)).setCell ⟨r, 6, none⟩ (.int .i64 m)) (R.foot r) (R.foot r)) := ⟨P2.1, P1.2.trans P2.2⟩
      rw [e]
      rw [hoff] at P
      clear h P1 P2 HR
      go_enter Tryz.func39, Tryz.ntmps39
      go_wp2_with fail
      go_ret
      exact ⟨rfl, P.out⟩
  · rw [hoff] at c3
    have e : armR R n m = (9, R) := by unfold armR; rw [hoff]; rfl
    rw [e]
    clear h
    go_enter Tryz.func39, Tryz.ntmps39
    go_wp2_with fail
    go_ret
    exact ⟨rfl, HR.out, Moved.refl _ _⟩
end Go.Proofs.YtoeoioigelknnaaGreat
namespace Go.Proofs.YtoeoioigelknnaaGreat
open Go.RowKit

/-- What a round of the document's Get reckons. -/
theorem sum_text (i acc x : Nat) (h : acc < 2 ^ (7 * i)) (hi : i ≤ 9) (h9 : i = 9 → x ≤ 1) :
    IntKind.u64.wrap ((acc : Int) + IntKind.u64.wrap ((x : Int) % 128 * 2 ^ (7 * i))) = ((acc + x % 128 * 2 ^ (7 * i) : Nat) : Int) := by
  have hp : 2 ^ (7 * i) ≤ 2 ^ 63 := Nat.pow_le_pow_right (by omega) (by omega)
  have hy : acc + x % 128 * 2 ^ (7 * i) < 18446744073709551616 := by
    rcases Nat.lt_or_ge i 9 with h1 | h1
    · have h2 : 2 ^ (7 * i) ≤ 2 ^ 56 := Nat.pow_le_pow_right (by omega) (by omega)
      have h3 : x % 128 * 2 ^ (7 * i) ≤ 127 * 2 ^ 56 := Nat.mul_le_mul (by omega) h2
      omega
    · have hx := h9 (by omega)
      have h3 : x % 128 * 2 ^ (7 * i) ≤ 1 * 2 ^ 63 := Nat.mul_le_mul (by omega) hp
      omega
  have e : (x : Int) % 128 * 2 ^ (7 * i) = ((x % 128 * 2 ^ (7 * i) : Nat) : Int) := by simp
  rw [e, IntWalk.u64_in (((x % 128 * 2 ^ (7 * i) : Nat) : Int)) ⟨by omega, by omega⟩, ← Int.natCast_add, IntWalk.u64_in _ ⟨by omega, by omega⟩]

/-- What Get tells of bytes: the number, and how many it has. -/
def getV (l : List UInt8) : Nat := match getN 0 0 l with | some (v, _) => v | none => 0
def getK (l : List UInt8) : Nat := match getN 0 0 l with | some (_, r) => l.length - r.length | none => 0

end Go.Proofs.YtoeoioigelknnaaGreat
namespace Go.Proofs.YtoeoioigelknnaaGreat
open Go.RowKit

/-- Memory that is lent out, the first k bytes laid. -/
def lentK (l : List UInt8) (k : Nat) : List UInt8 := (165 : UInt8) :: (l.take k ++ (List.replicate (l.length - k) 0 ++ [90]))
def lent (l : List UInt8) : List UInt8 := (165 : UInt8) :: (l ++ [90])
theorem lentK_length (l : List UInt8) (k : Nat) (h : k ≤ l.length) : (lentK l k).length = l.length + 2 := by simp [lentK]; omega
theorem take_snoc (l : List UInt8) (k : Nat) (h : k < l.length) : l.take (k + 1) = l.take k ++ [l.getD k 0] := by
  have e : l.getD k 0 = l[k] := by simp [List.getD, h]
  rw [e, ← List.take_succ_eq_append_getElem h]
theorem lentK_step (l : List UInt8) (k : Nat) (h : k < l.length) : (lentK l k).set (k + 1) (l.getD k 0) = lentK l (k + 1) := by
  unfold lentK
  have h1 : (l.take k).length = k := by simp; omega
  obtain ⟨m, hm⟩ : ∃ m, l.length - k = m + 1 := ⟨l.length - k - 1, by omega⟩
  have hm' : l.length - (k + 1) = m := by omega
  rw [List.set_cons_succ, List.set_append_right _ _ (by omega), h1, Nat.sub_self, hm, hm', List.replicate_succ, List.cons_append, List.set_cons_zero, take_snoc l k h, List.append_assoc]
  rfl
theorem lentK_start (l : List UInt8) : ((List.replicate (l.length + 2) (0 : UInt8)).set 0 165).set (l.length + 1) 90 = lentK l 0 := by
  unfold lentK
  rw [List.replicate_succ, List.set_cons_zero, List.set_cons_succ, List.replicate_succ', List.set_append_right _ _ (by simp)]
  simp
theorem lentK_end (l : List UInt8) : lentK l l.length = lent l := by simp [lentK, lent]

theorem lent_sees {w : World} {g : Nat} {l : List UInt8} (h : Row w g (lent l)) : Sees w (some ⟨g, 1, none⟩) l := by
  have hlen : (lent l).length = l.length + 2 := by simp [lent]
  have := h.sees 1 l.length (by omega)
  simpa [lent] using this

set_option maxRecDepth 100000 in
set_option maxHeartbeats 800000 in
theorem lend_any (ao : Option Addr) (l : List UInt8) (cap : Nat) (w : World) (hs : Sees w ao l) (hl : l.length ≤ 140737488350000) :
    Calls Tryz.prog 26 #[.slice ao l.length cap] w fun e w' => e = .returned (.tuple #[.slice (some ⟨w.heap.size, 0, none⟩) (l.length + 2) (l.length + 2), .slice (some ⟨w.heap.size, 1, none⟩) l.length (l.length + 1)]) ∧ Row w' w.heap.size (lent l) ∧ Below w.heap.size w w' := by
  obtain ⟨i0, hi, hz0, hz1, hz2⟩ := info_parts info8
  go_enter Tryz.func26, Tryz.ntmps26
  go_wp2_with (at_make; go_must (refine wpList_make_full _ rfl _ _ 29 rfl w.heap.size 5 i0 (.int .u8 0) 1 Tryz.underlying29 hi hz0 hz1 .i64 .i64 _ _ (l.length + 2) rfl rfl (by omega) (by omega) (by rw [hz2]; omega) (by unfold maxLen; omega) (Nat.le_refl _) ?_; intro w1 ho1 hg1; rw [made8] at ho1; obtain ⟨hr1, hl1, _⟩ := Row.of_owns ho1; have hc10 := hr1.cell 0 (by simp); have hf10 := hr1.frozen 0; have hc11 := hr1.cell (l.length + 1) (by simp); have hf11 := hr1.frozen (l.length + 1)))
  have hb1 : Below w.heap.size w w1 := (Below.refl _ _).grown hg1 (Nat.le_refl _) (fun k hk => by cases hk)
  have hr2 : Row ((w1.setCell ⟨w.heap.size, 0, none⟩ (.int .u8 165)).setCell ⟨w.heap.size, l.length + 1, none⟩ (.int .u8 90)) w.heap.size (lentK l 0) := by
    rw [← lentK_start]
    exact (hr1.setZ 0 165 165 rfl).setZ _ 90 90 rfl
  clear ho1 hg1 hr1 hl1 hc10 hf10 hc11 hf11
  go_loopw [20] (fun i wr => ∃ k : Nat, k ≤ l.length ∧ i = .int .i64 k ∧ Row wr w.heap.size (lentK l k) ∧ Below w.heap.size w wr) (fun i _ => l.length - (intOf i).toNat)
  case atStart => exact ⟨0, Nat.zero_le _, rfl, hr2, (hb1.setCell (Nat.le_refl _) _).setCell (Nat.le_refl _) _⟩
  case round =>
    obtain ⟨k, hk, rfl, hr, hb⟩ := hrel
    by_cases hlt : k < l.length
    · obtain ⟨b, off, rfl, hc0⟩ := sees_at hs hlt
      have hblt := World.block_lt_of_cell? _ _ hc0
      have hc : wr.cell? ⟨b, off + k, none⟩ = some (.int .u8 ((l.getD k 0).toNat : Int)) := by rw [hb.cell (p := ⟨b, off + k, none⟩) hblt]; exact hc0
      have hcr := hr.cell (k + 1) (by rw [lentK_length _ _ (by omega)]; omega)
      have hfr := hr.frozen (k + 1)
      have Hst : Hid _ := lentK_step l k hlt
      have hx := (l.getD k 0).toNat_lt
      generalize (l.getD k 0) = y at *
      clear hs hc0
      go_wp2
      go_roundw
      case rel => exact ⟨k + 1, by omega, by go_num, by rw [← Hst.out]; exact hr.setZ _ _ _ rfl, hb.setCell (Nat.le_refl _) _⟩
      case measure => simp [intOf]; omega
    · obtain rfl : k = l.length := by omega
      rw [lentK_end] at hr
      go_wp2
      go_quiet (fail)
      go_wp2
      go_ret2
      exact ⟨by simp, hr, hb.trans ⟨rfl, rfl, rfl, Nat.le_refl _, fun _ _ => rfl⟩⟩

set_option maxRecDepth 100000 in
set_option maxHeartbeats 800000 in
theorem kept_any (g c : Nat) (ao : Option Addr) (l : List UInt8) (cap : Nat) (w : World) (hs : Sees w ao l) (hn : ao = none → l.length = 0) (hl : l.length ≤ 140737488350000) (hr : Row w g (lent l)) (hc : l.length + 2 ≤ c) :
    Calls Tryz.prog 28 #[.slice (some ⟨g, 0, none⟩) (l.length + 2) c, .slice ao l.length cap] w fun e w' => e = .returned (.bool true) ∧ ∃ k, w' = w.drewN k := by
  have hlen : (lent l).length = l.length + 2 := by simp [lent]
  have c0 : w.cell? ⟨g, 0, none⟩ = some (.int .u8 165) := hr.cell 0 (by omega)
  have c1 : w.cell? ⟨g, l.length + 1, none⟩ = some (.int .u8 90) := by rw [hr.cell (l.length + 1) (by omega)]; simp [lent]
  have s1 := lent_sees hr
  have v1 := fun k : Nat => conv_sees (w := w.drewN k) s1 (fun h => by cases h) (c - 1)
  have v2 := fun k : Nat => conv_sees (w := w.drewN k) hs hn cap
  clear hs hn hr hlen s1
  go_enter Tryz.func28, Tryz.ntmps28
  go_wp2
  go_quiet (fail)
  go_wp2
  go_ret
  exact ⟨rfl, nq, rfl⟩

theorem Row.below {w w' : World} {g : Nat} {l : List UInt8} (h : Row w g l) {B : Nat} (hb : Below B w w') (hB : g < B) : Row w' g l := (hb.block g hB).trans h
end Go.Proofs.YtoeoioigelknnaaGreat
