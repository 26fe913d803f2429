/-
  SEVERAL TEXTS IN ONE: CodGet, CodGot, RefNum, RefGet, RefLend, CrcPlain.
-/
import Derived.Test.YtlamncldbnagmaaGreatDoorCodNum
import Derived.Defers
import Derived.Recover
import Derived.Laws.Pointers
import Derived.WideLaws
import Derived.Test.YtlamncldbnagmaaGreatDoorMany6
namespace Go.Proofs.YtlamncldbnagmaaGreatDoor
open Go.RowKit

theorem Rd.lt {w : World} {R : Nat} {ao : Option Addr} {l : List UInt8} {cap n : Nat} (h : Rd w R ao l cap n) : R < w.heap.size := World.block_lt_of_cell? _ _ h.c0
/-- Whatever leaves the reader's block and the bytes alone leaves the reader as it was. -/
theorem Rd.carry {w w' : World} {R : Nat} {ao : Option Addr} {l : List UInt8} {cap n : Nat} (h : Rd w R ao l cap n) (hb : ∀ k, k < w.heap.size → w'.heap[k]? = w.heap[k]?) : Rd w' R ao l cap n := by
  have e : ∀ p : Addr, p.block < w.heap.size → w'.cell? p = w.cell? p := fun p hp => World.cell?_of_block (hb p.block hp)
  refine ⟨?_, ?_, ?_, h.le, h.max, ?_, h.ne⟩
  · rw [e ⟨R, 0, none⟩ h.lt]; exact h.c0
  · rw [e ⟨R, 1, none⟩ h.lt]; exact h.c1
  · rw [World.frozen?_of_block (a := ⟨R, 1, none⟩) (hb R h.lt)]; exact h.f1
  · intro i hi
    obtain ⟨a, ea, hc⟩ := h.sees i hi
    exact ⟨a, ea, by rw [e _ (World.block_lt_of_cell? _ _ hc)]; exact hc⟩

theorem Rd.setOther {w w0 : World} {R : Nat} {ao : Option Addr} {l : List UInt8} {cap n : Nat} (h : Rd w R ao l cap n) (hs : Sees w0 ao l) (hR : R < w0.heap.size) {p : Addr} (hp : w0.heap.size ≤ p.block) (x : Value) : Rd (w.setCell p x) R ao l cap n := by
  have e : ∀ q : Addr, q.block < w0.heap.size → (w.setCell p x).cell? q = w.cell? q := fun q hq => World.cell?_setCell_other _ _ _ _ (fun e' => by rw [e'] at hp; omega)
  refine ⟨?_, ?_, ?_, h.le, h.max, ?_, h.ne⟩
  · rw [e ⟨R, 0, none⟩ hR]; exact h.c0
  · rw [e ⟨R, 1, none⟩ hR]; exact h.c1
  · rw [World.frozen?_setCell]; exact h.f1
  · intro i hi
    obtain ⟨a, ea, hc⟩ := h.sees i hi
    obtain ⟨a', ea', hc'⟩ := hs i hi
    obtain rfl := Option.some.inj (ea.symm.trans ea')
    exact ⟨a, ea, by rw [e _ (World.block_lt_of_cell? _ _ hc')]; exact hc⟩
/-- Beside the reader's block only new ones were written. -/
theorem grownBy_setNew {w w' : World} {R : Option Nat} {p : Addr} {x : Value} (h : w.grownBy w' R) (hp : w.heap.size ≤ p.block) : w.grownBy (w'.setCell p x) R :=
  ⟨h.os, h.tape, h.output, by rw [size_setCell]; exact h.size, fun k hk hne => (Below.heap_setCell _ _ _ _ (by omega)).trans (h.block k hk hne)⟩
theorem grownBy_alloc {w w' : World} {R : Option Nat} {o : Obj} (h : (w.alloc o).grownBy w' R) : w.grownBy w' R := by
  have hs := h.size
  rw [World.size_alloc] at hs
  exact ⟨h.os, h.tape, h.output, by omega, fun k hk hne => (h.block k (by rw [World.size_alloc]; omega) hne).trans (Below.heap_alloc _ _ _ hk)⟩

end Go.Proofs.YtlamncldbnagmaaGreatDoor
namespace Go.Proofs.YtlamncldbnagmaaGreatDoor
open Go.RowKit

/-- A reader that was just made. -/
theorem Rd.made {w : World} {ao : Option Addr} {l : List UInt8} {cap : Nat} (hs : Sees w ao l) (hl : l.length ≤ 140737488355000) : Rd (w.alloc (.cells #[.slice ao l.length cap, .int .i64 0] 179)) w.heap.size ao l cap 0 := by
  refine ⟨by simp [go_sem], by simp [go_sem], by simp [go_sem], by omega, hl, hs.below ((Below.refl _ _).alloc (Nat.le_refl _) _) (Nat.le_refl _), fun hne a ea e => ?_⟩
  obtain ⟨a', ea', hc⟩ := hs 0 (by omega)
  obtain rfl := Option.some.inj (ea.symm.trans ea')
  have := World.block_lt_of_cell? _ _ hc
  rw [Addr.add_block] at this
  omega
theorem below_made {w w' : World} {o : Obj} (h : (w.alloc o).grownBy w' (some w.heap.size)) : Below w.heap.size w w' :=
  ⟨h.os, h.tape, h.output, by have := h.size; rw [World.size_alloc] at this; omega, fun k hk => (h.block k (by rw [World.size_alloc]; omega) (fun e => by have := Option.some.inj e; omega)).trans (Below.heap_alloc _ _ _ hk)⟩
theorem err_alloc {w : World} {u : TypeId} {pv : Value} (he : Err w u pv) (o : Obj) : Err (w.alloc o) u pv := by
  unfold Err at he ⊢
  rw [World.cell?_of_block (Below.heap_alloc _ _ _ (World.block_lt_of_cell? _ _ he)), he]
theorem Err.below {w w' : World} {u : TypeId} {pv : Value} (he : Err w u pv) {B : Nat} (hb : Below B w w') (hB : w.heap.size ≤ B) : Err w' u pv := by
  unfold Err at he ⊢
  have := World.block_lt_of_cell? _ _ he
  rw [hb.cell (p := ⟨3, 0, none⟩) (by omega), he]

theorem owns_heap {w w' : World} {base : Nat} {e : TypeId} {size : Nat} {v : Value} {n : Nat} {xs : List Value} (h : w.ownsRow base e size v n xs) (hb : ∀ k, v.ownBlock = some k → w'.heap[k]? = w.heap[k]?) : w'.ownsRow base e size v n xs := by
  refine ⟨h.1, ?_⟩
  rcases h.2 with hn | ⟨g, cap, cur, rfl, hg, hh, r⟩
  · exact .inl hn
  · exact .inr ⟨g, cap, cur, rfl, hg, (hb g rfl).trans hh, r⟩
end Go.Proofs.YtlamncldbnagmaaGreatDoor
namespace Go.Proofs.YtlamncldbnagmaaGreatDoor
open Go.RowKit

theorem refZig_any (n : Int) (w : World) (h1 : -9223372036854775808 ≤ n) (h2 : n ≤ 9223372036854775807) :
    Calls Tryz.prog 69 #[.int .i64 n] w fun e w' => e = .returned (.int .u64 (zigZ n)) ∧ w' = w := by
  by_cases h : n < 0
  · have e1 : zigZ n = 2 * (-(n + 1)) + 1 := by unfold zigZ; rw [if_pos h]; omega
    rw [e1]
    clear e1
    go_enter Tryz.func69, Tryz.ntmps69
    go_wp2
    go_ret
    exact ⟨ret_int (by omega), rfl⟩
  · have e1 : zigZ n = 2 * n := by unfold zigZ; rw [if_neg h]
    rw [e1]
    clear e1
    go_enter Tryz.func69, Tryz.ntmps69
    go_wp2
    go_ret
    exact ⟨ret_int (by omega), rfl⟩
theorem refZag_any (u : Int) (w : World) (h1 : 0 ≤ u) (h2 : u ≤ 18446744073709551615) :
    Calls Tryz.prog 113 #[.int .u64 u] w fun e w' => e = .returned (.int .i64 (zagZ u)) ∧ w' = w := by
  by_cases h : u % 2 = 1
  · have e1 : zagZ u = -(u / 2) - 1 := by unfold zagZ; rw [if_pos h]
    rw [e1]
    have ht : (u % 2 == 1) = true := by simp [h]
    clear e1 h
    go_enter Tryz.func113, Tryz.ntmps113
    go_wp2
    go_ret
    exact ⟨rfl, rfl⟩
  · have e1 : zagZ u = u / 2 := by unfold zagZ; rw [if_neg h]
    rw [e1]
    have ht : (u % 2 == 1) = false := by simp [h]
    clear e1 h
    go_enter Tryz.func113, Tryz.ntmps113
    go_wp2
    go_ret
    exact ⟨rfl, rfl⟩

/-- A row of nothing, just made. -/
theorem owns_none (w : World) : (w.alloc (.cells #[] 5)).ownsRow w.heap.size 5 1 (.slice (some ⟨w.heap.size, 0, none⟩) 0 0) 0 [] := World.ownsRow_made w #[] 0 (Nat.le_refl _) (by decide) rfl
theorem below_none {w w' : World} {v : Value} (h : Grew (w.alloc (.cells #[] 5)) w' (.slice (some ⟨w.heap.size, 0, none⟩) 0 0) v) : Below w.heap.size w w' :=
  ((Below.refl _ _).alloc (Nat.le_refl _) _).trans (h.below (by rw [World.size_alloc]; omega) (fun k hk => by cases hk; exact Nat.le_refl _))

set_option maxRecDepth 100000 in
set_option maxHeartbeats 800000 in
theorem refPut_any (ao : Option Addr) (l : List UInt8) (cap u : Nat) (w : World) (hs : Sees w ao l) (hnone : ao = none → l.length = 0) (hl : l.length ≤ 140737488354000) (hu : u < 18446744073709551616) :
    Calls Tryz.prog 67 #[.slice ao l.length cap, .int .u64 u] w fun e w' => ∃ v', e = .returned v' ∧ w'.ownsRow w.heap.size 5 1 v' (l.length + (numL u).length) (B8 (l ++ numL u)) ∧ Below w.heap.size w w' := by
  obtain ⟨i0, hi, hz0, hz1, hz2⟩ := info_parts info8
  have Hu : Hid (NumAt u [] u) := NumAt.start hu
  have e0 := owns_none w
  have s1 := src_sees (P := Tryz.prog) Tryz.underlying23 (hs.below ((Below.refl _ _).alloc (Nat.le_refl _) (.cells #[] 5)) (Nat.le_refl _)) hnone cap
  clear hu hs hnone
  go_enter Tryz.func67, Tryz.ntmps67
  go_wp2_with (at_builtin; go_must (refine wpList_append_grew _ rfl (.tmp 6) (.tmp 7) 23 23 rfl w.heap.size 5 i0 (.int .u8 0) 1 1 Tryz.underlying23 hi hz0 hz1 hz2 rfl _ 0 [] rfl e0 _ l.length (B8 l) rfl s1 (by unfold maxLen; omega) (by omega) (by rw [World.size_alloc]; omega) ?_; intro v1 w1 ho1 hg1))
  have ho1' : w1.ownsRow w.heap.size 5 1 v1 l.length (B8 l) := by simpa using ho1
  have hb1 := below_none hg1
  clear e0 s1 hg1 ho1
  go_loopw [5, 1] (fun s0 s1 wr => ∃ (x : Nat) (d : List UInt8), s1 = .int .u64 x ∧ NumAt u d x ∧ wr.ownsRow w.heap.size 5 1 s0 (l.length + d.length) (B8 (l ++ d)) ∧ Grew w1 wr v1 s0 ∧ w.heap.size ≤ wr.heap.size) (fun _ s1 _ => (intOf s1).toNat)
  case atStart => exact ⟨u, [], rfl, Hu.out, by simpa using ho1', Grew.refl _ _, hb1.size⟩
  case round =>
    obtain ⟨x, d, rfl, hd, ho, hg, hbr⟩ := hrel
    have hbd := hd.bd
    have hdl := hd.len
    by_cases hx : x < 128
    · have hbv := byte_val x (by omega)
      have Hfin : Hid (numL u = d ++ [UInt8.ofNat x]) := hd.done hx
      go_wp2_with (at_builtin; go_must (refine wpList_append_grew _ rfl _ _ 23 23 rfl w.heap.size 5 i0 (.int .u8 0) 1 1 Tryz.underlying23 hi hz0 hz1 hz2 rfl _ _ _ rfl (ho.alloc _) _ 1 (B8 [UInt8.ofNat x]) rfl (src_one _ _ _ hbv) (by unfold maxLen; omega) (by omega) (by rw [World.size_alloc]; omega) ?_; intro v' w' ho' hg'))
      go_ret
      refine ⟨v', rfl, ?_, hb1.trans ((hg.trans hg'.alloc).below hb1.size (fun k hk => (ho1'.lt k hk).1))⟩
      rw [Hfin.out, ← List.append_assoc, B8_append _ [_], List.length_append, List.length_singleton, ← Nat.add_assoc]
      exact ho'
    · have hbv := byte_val (x % 128 + 128) (by omega)
      have hst := hd.step (by omega)
      go_wp2_with (at_builtin; go_must (refine wpList_append_grew _ rfl _ _ 23 23 rfl w.heap.size 5 i0 (.int .u8 0) 1 1 Tryz.underlying23 hi hz0 hz1 hz2 rfl _ _ _ rfl (ho.alloc _) _ 1 (B8 [UInt8.ofNat (x % 128 + 128)]) rfl (src_one _ _ _ hbv) (by unfold maxLen; omega) (by omega) (by rw [World.size_alloc]; omega) ?_; intro v' w' ho' hg'))
      go_roundw
      case rel =>
        refine ⟨x / 128, _, by go_num, hst, ?_, hg.trans hg'.alloc, Nat.le_trans hbr (Nat.le_trans (by rw [World.size_alloc]; omega) hg'.rows.size)⟩
        rw [← List.append_assoc, B8_append _ [_], List.length_append, List.length_singleton, ← Nat.add_assoc]
        exact ho'
      case measure => simp [intOf]; omega
end Go.Proofs.YtlamncldbnagmaaGreatDoor
namespace Go.Proofs.YtlamncldbnagmaaGreatDoor
open Go.RowKit

/-- What a round of the document's Get reckons. -/
theorem sum_text (i acc x : Nat) (h : acc < 2 ^ (7 * i)) (hi : i ≤ 9) (h9 : i = 9 → x ≤ 1) :
    IntKind.u64.wrap ((acc : Int) + IntKind.u64.wrap ((x : Int) % 128 * 2 ^ (7 * i))) = ((acc + x % 128 * 2 ^ (7 * i) : Nat) : Int) := by
  have hp : 2 ^ (7 * i) ≤ 2 ^ 63 := Nat.pow_le_pow_right (by omega) (by omega)
  have hy : acc + x % 128 * 2 ^ (7 * i) < 18446744073709551616 := by
    rcases Nat.lt_or_ge i 9 with h1 | h1
    · have h2 : 2 ^ (7 * i) ≤ 2 ^ 56 := Nat.pow_le_pow_right (by omega) (by omega)
      have h3 : x % 128 * 2 ^ (7 * i) ≤ 127 * 2 ^ 56 := Nat.mul_le_mul (by omega) h2
      omega
    · have hx := h9 (by omega)
      have h3 : x % 128 * 2 ^ (7 * i) ≤ 1 * 2 ^ 63 := Nat.mul_le_mul (by omega) hp
      omega
  have e : (x : Int) % 128 * 2 ^ (7 * i) = ((x % 128 * 2 ^ (7 * i) : Nat) : Int) := by simp
  rw [e, IntWalk.u64_in (((x % 128 * 2 ^ (7 * i) : Nat) : Int)) ⟨by omega, by omega⟩, ← Int.natCast_add, IntWalk.u64_in _ ⟨by omega, by omega⟩]

/-- What Get tells of bytes: the number, and how many it has. -/
def getV (l : List UInt8) : Nat := match getN 0 0 l with | some (v, _) => v | none => 0
def getK (l : List UInt8) : Nat := match getN 0 0 l with | some (_, r) => l.length - r.length | none => 0

set_option maxRecDepth 100000 in
set_option maxHeartbeats 1600000 in
theorem refGet_any (ao : Option Addr) (l : List UInt8) (cap : Nat) (w : World) (hs : Sees w ao l) (hl : l.length ≤ 140737488354000) :
    Calls Tryz.prog 111 #[.slice ao l.length cap] w fun e w' => e = .returned (.tuple #[.int .u64 (getV l), .int .i64 (getK l)]) ∧ w' = w := by
  go_enter Tryz.func111, Tryz.ntmps111
  go_wp2
  go_loop [4, 5] (fun s4 s5 => ∃ i acc : Nat, i ≤ 9 ∧ i ≤ l.length ∧ acc < 2 ^ (7 * i) ∧ s4 = .int .u64 acc ∧ s5 = .int .i64 i ∧ getN 0 0 l = getN i acc (l.drop i)) (fun _ s5 => 10 - (intOf s5).toNat)
  case atStart => exact ⟨0, 0, by omega, by omega, by simp, rfl, rfl, rfl⟩
  case round =>
    obtain ⟨i, acc, hi, hil, hacc, rfl, rfl, hg⟩ := hrel
    rcases Nat.lt_or_ge i l.length with hlt | hge
    · rw [List.drop_eq_getElem_cons hlt, getN] at hg
      obtain ⟨b, off, rfl, hc⟩ := sees_at hs hlt
      have hb : l.getD i 0 = l[i] := by simp [List.getD, hlt]
      rw [hb] at hc
      generalize l[i] = y at *
      have hbl := y.toNat_lt
      generalize y.toNat = x at *
      have Hs : Hid _ := hs
      clear hs hb
      by_cases hno : (i = 9 ∧ 1 < x) ∨ (0 < i ∧ x = 0)
      · rw [if_pos hno] at hg
        have HV : Hid (getV l = 0) := by show _ = _; unfold getV; rw [hg]
        have HK : Hid (getK l = 0) := by show _ = _; unfold getK; rw [hg]
        have hcase : ((i : Int) == 9) = true ∧ 1 < (x : Int) ∨ ((i : Int) == 9) = true ∧ ¬ 1 < (x : Int) ∧ 0 < (i : Int) ∧ ((x : Int) == 0) = true ∨ ((i : Int) == 9) = false ∧ 0 < (i : Int) ∧ ((x : Int) == 0) = true := by
          by_cases h9 : i = 9
          · by_cases hx : 1 < x
            · exact .inl ⟨by simp; omega, by omega⟩
            · exact .inr (.inl ⟨by simp; omega, by omega, by omega, by simp; omega⟩)
          · exact .inr (.inr ⟨by simp; omega, by omega, by simp; omega⟩)
        have Hacc : Hid _ := hacc
        clear hg hno hacc
        rcases hcase with ⟨h1, h2⟩ | ⟨h1, h2, h3, h4⟩ | ⟨h1, h2, h3⟩
        · go_wp2
          go_ret2
          exact ⟨by rw [HV.out, HK.out]; rfl, rfl⟩
        · have hx : (x : Int) < 128 := by omega
          go_wp2
          go_ret2
          exact ⟨by rw [HV.out, HK.out]; rfl, rfl⟩
        · have hx : (x : Int) < 128 := by have := (beq_iff_eq.1 h3 : (x : Int) = 0); omega
          go_wp2
          go_ret2
          exact ⟨by rw [HV.out, HK.out]; rfl, rfl⟩
      · rw [if_neg hno] at hg
        have Hsum : Hid _ := sum_text i acc x hacc hi (by omega)
        by_cases hx : x < 128
        · rw [if_pos hx] at hg
          have HV : Hid (getV l = acc + x % 128 * 2 ^ (7 * i)) := by show _ = _; unfold getV; rw [hg]
          have HK : Hid (getK l = i + 1) := by show _ = _; unfold getK; rw [hg]; simp; omega
          have hcase : (((i : Int) == 9) = false ∧ ¬ 0 < (i : Int)) ∨ (((i : Int) == 9) = false ∧ 0 < (i : Int) ∧ ((x : Int) == 0) = false) ∨ (((i : Int) == 9) = true ∧ 0 < (i : Int) ∧ ¬ 1 < (x : Int) ∧ ((x : Int) == 0) = false) := by
            rcases (show i = 0 ∨ (0 < i ∧ i < 9) ∨ i = 9 by omega) with h1 | h1 | h1
            · exact .inl ⟨by simp; omega, by omega⟩
            · exact .inr (.inl ⟨by simp; omega, by omega, by simp; omega⟩)
            · exact .inr (.inr ⟨by simp; omega, by omega, by omega, by simp; omega⟩)
          have Hacc : Hid _ := hacc
          clear hg hno hacc
          rcases hcase with ⟨h1, h2⟩ | ⟨h1, h2, h3⟩ | ⟨h1, h2, h3, h4⟩
          all_goals
            go_wp2
            go_ret2
            refine ⟨?_, rfl⟩
            rw [HV.out, HK.out, ← Hsum.out]
            rfl
        · rw [if_neg hx] at hg
          have Hg : Hid _ := hg
          have Hd : Hid _ := digit_bd i acc x hacc
          have Hi9 : Hid (i + 1 ≤ 9) := by show i + 1 ≤ 9; omega
          have hcase : ((i : Int) == 9) = false := by simp; omega
          clear hg hno hacc
          go_wp2
          go_round
          case rel => exact ⟨i + 1, _, Hi9.out, by omega, Hd.out, by rw [← Hsum.out], by go_num, Hg.out⟩
          case measure => have := Hi9.out; simp [intOf]; omega
    · rw [List.drop_eq_nil_of_le hge, getN] at hg
      have HV : Hid (getV l = 0) := by show _ = _; unfold getV; rw [hg]
      have HK : Hid (getK l = 0) := by show _ = _; unfold getK; rw [hg]
      clear hg hacc
      go_wp2
      go_ret2
      exact ⟨by rw [HV.out, HK.out]; rfl, rfl⟩
end Go.Proofs.YtlamncldbnagmaaGreatDoor
namespace Go.Proofs.YtlamncldbnagmaaGreatDoor
open Go.RowKit

/-- Memory that is lent out, the first k bytes laid. -/
def lentK (l : List UInt8) (k : Nat) : List UInt8 := (165 : UInt8) :: (l.take k ++ (List.replicate (l.length - k) 0 ++ [90]))
def lent (l : List UInt8) : List UInt8 := (165 : UInt8) :: (l ++ [90])
theorem lentK_length (l : List UInt8) (k : Nat) (h : k ≤ l.length) : (lentK l k).length = l.length + 2 := by simp [lentK]; omega
theorem take_snoc (l : List UInt8) (k : Nat) (h : k < l.length) : l.take (k + 1) = l.take k ++ [l.getD k 0] := by
  have e : l.getD k 0 = l[k] := by simp [List.getD, h]
  rw [e, ← List.take_succ_eq_append_getElem h]
theorem lentK_step (l : List UInt8) (k : Nat) (h : k < l.length) : (lentK l k).set (k + 1) (l.getD k 0) = lentK l (k + 1) := by
  unfold lentK
  have h1 : (l.take k).length = k := by simp; omega
  obtain ⟨m, hm⟩ : ∃ m, l.length - k = m + 1 := ⟨l.length - k - 1, by omega⟩
  have hm' : l.length - (k + 1) = m := by omega
  rw [List.set_cons_succ, List.set_append_right _ _ (by omega), h1, Nat.sub_self, hm, hm', List.replicate_succ, List.cons_append, List.set_cons_zero, take_snoc l k h, List.append_assoc]
  rfl
theorem lentK_start (l : List UInt8) : ((List.replicate (l.length + 2) (0 : UInt8)).set 0 165).set (l.length + 1) 90 = lentK l 0 := by
  unfold lentK
  rw [List.replicate_succ, List.set_cons_zero, List.set_cons_succ, List.replicate_succ', List.set_append_right _ _ (by simp)]
  simp
theorem lentK_end (l : List UInt8) : lentK l l.length = lent l := by simp [lentK, lent]

theorem lent_sees {w : World} {g : Nat} {l : List UInt8} (h : Row w g (lent l)) : Sees w (some ⟨g, 1, none⟩) l := by
  have hlen : (lent l).length = l.length + 2 := by simp [lent]
  have := h.sees 1 l.length (by omega)
  simpa [lent] using this

theorem Row.below {w w' : World} {g : Nat} {l : List UInt8} (h : Row w g l) {B : Nat} (hb : Below B w w') (hB : g < B) : Row w' g l := (hb.block g hB).trans h
end Go.Proofs.YtlamncldbnagmaaGreatDoor
namespace Go.Proofs.YtlamncldbnagmaaGreatDoor
open Go.RowKit

/-- One step of the sum, without a byte. -/
def crcF (c : Nat) : Nat := (c / 2) ^^^ (if c % 2 = 1 then 3988292384 else 0)
/-- One step of the sum, with bit k of a byte. -/
def crcS (c x k : Nat) : Nat := (c / 2) ^^^ (if (c + x / 2 ^ k) % 2 = 1 then 3988292384 else 0)
/-- The first j steps. -/
def crcSs (c x : Nat) : Nat → Nat
  | 0 => c
  | j + 1 => crcS (crcSs c x j) x j
theorem xor_half (a b : Nat) : (a ^^^ b) / 2 = a / 2 ^^^ b / 2 := Nat.xor_div_two
theorem xor_par (a b : Nat) : (a ^^^ b) % 2 = (a + b) % 2 := by
  have h := Nat.testBit_xor a b 0
  simp only [Nat.testBit_zero] at h
  rcases Nat.mod_two_eq_zero_or_one a with ha | ha <;> rcases Nat.mod_two_eq_zero_or_one b with hb | hb <;> rcases Nat.mod_two_eq_zero_or_one (a ^^^ b) with hc | hc <;> simp [ha, hb, hc] at h <;> omega
theorem crcF_xor (a b : Nat) : crcF (a ^^^ b) = crcF a ^^^ crcF b := by
  unfold crcF
  rw [xor_half, xor_par]
  have e : (if (a + b) % 2 = 1 then 3988292384 else 0) = (if a % 2 = 1 then 3988292384 else 0) ^^^ (if b % 2 = 1 then 3988292384 else 0) := by
    rcases Nat.mod_two_eq_zero_or_one a with ha | ha <;> rcases Nat.mod_two_eq_zero_or_one b with hb | hb <;> simp [Nat.add_mod, ha, hb]
  rw [e]
  ac_rfl
theorem crcS_xor (c x k : Nat) : crcS c x k ^^^ x / 2 ^ (k + 1) = crcF (c ^^^ x / 2 ^ k) := by
  unfold crcS crcF
  rw [xor_half, xor_par, Nat.div_div_eq_div_mul, ← Nat.pow_succ]
  ac_rfl
theorem crcSs_xor (c x : Nat) : ∀ j, crcSs c x j ^^^ x / 2 ^ j = Nat.repeat crcF j (c ^^^ x)
  | 0 => by simp [crcSs, Nat.repeat]
  | j + 1 => by rw [crcSs, crcS_xor, crcSs_xor c x j]; rfl
theorem crcF4 (s : Nat) : crcF (crcF (crcF (crcF s))) = (s / 16) ^^^ (tabZ.getD (s % 16) 0).toNat := by
  have e : s = (16 * (s / 16)) ^^^ (s % 16) := by
    apply Nat.eq_of_testBit_eq
    intro i
    rw [Nat.testBit_xor, show 16 * (s / 16) = 2 ^ 4 * (s / 2 ^ 4) by omega, Nat.testBit_two_pow_mul, show s % 16 = s % 2 ^ 4 by omega, Nat.testBit_mod_two_pow, Nat.testBit_div_two_pow]
    by_cases hi : i < 4
    · have h2 : ¬ 4 ≤ i := by omega
      simp [hi, h2]
    · have h2 : 4 ≤ i := by omega
      have h3 : i - 4 + 4 = i := by omega
      simp [hi, h2, h3]
  have ev : ∀ n, crcF (2 * n) = n := by intro n; unfold crcF; simp
  have e16 : ∀ q, crcF (crcF (crcF (crcF (16 * q)))) = q := by
    intro q
    rw [show 16 * q = 2 * (2 * (2 * (2 * q))) by omega, ev, ev, ev, ev]
  have er : ∀ r, r < 16 → crcF (crcF (crcF (crcF r))) = (tabZ.getD r 0).toNat := by decide
  rw [e, crcF_xor, crcF_xor, crcF_xor, crcF_xor, e16, er _ (by omega), ← e]

theorem tabZ_bd (r : Nat) : 0 ≤ tabZ.getD r 0 ∧ tabZ.getD r 0 < 4294967296 := by
  rcases Nat.lt_or_ge r 16 with h | h
  · have : ∀ r, r < 16 → 0 ≤ tabZ.getD r 0 ∧ tabZ.getD r 0 < 4294967296 := by decide
    exact this r h
  · have e : tabZ.getD r 0 = 0 := by simp [List.getD, List.getElem?_eq_none (show tabZ.length ≤ r from h)]
    omega
theorem fourZ_nat (s : Nat) (h : s < 4294967296) : fourZ (s : Int) = ((crcF (crcF (crcF (crcF s))) : Nat) : Int) := by
  unfold fourZ
  have e : ((s : Int) % 16).toNat = s % 16 := by omega
  have hb := tabZ_bd (s % 16)
  rw [e, crcF4, u32_xor _ _ (by omega) (by omega) hb.1 hb.2]
  congr 2
theorem crcF_lt (c : Nat) (h : c < 4294967296) : crcF c < 4294967296 := by
  unfold crcF
  have h1 : c / 2 < 2 ^ 32 := by omega
  have h2 : (if c % 2 = 1 then 3988292384 else 0) < 2 ^ 32 := by split <;> decide
  exact Nat.xor_lt_two_pow h1 h2
theorem crcSs_lt (c x : Nat) (h : c < 4294967296) : ∀ j, crcSs c x j < 4294967296
  | 0 => h
  | j + 1 => by
    have h1 : crcSs c x j / 2 < 2 ^ 32 := by have := crcSs_lt c x h j; omega
    have h2 : (if (crcSs c x j + x / 2 ^ j) % 2 = 1 then 3988292384 else 0) < 2 ^ 32 := by split <;> decide
    exact Nat.xor_lt_two_pow h1 h2
/-- Eight steps are what the codec makes of a byte. -/
theorem byteZ_nat (c x : Nat) (hc : c < 4294967296) (hx : x < 256) : byteZ (c : Int) (x : Int) = ((crcSs c x 8 : Nat) : Int) := by
  have h8 := crcSs_xor c x 8
  rw [show x / 2 ^ 8 = 0 by omega, Nat.xor_zero] at h8
  have hcx : c ^^^ x < 4294967296 := Nat.xor_lt_two_pow (n := 32) hc (by omega)
  unfold byteZ
  rw [u32_xor_nat c x hc (by omega), fourZ_nat _ hcx, fourZ_nat _ (crcF_lt _ (crcF_lt _ (crcF_lt _ (crcF_lt _ hcx)))), h8]
  rfl
theorem bit_text (c x k : Nat) (hc : c < 4294967296) (hx : x < 256) : bits BinOp.and IntKind.u32 (bits BinOp.xor IntKind.u32 (c : Int) ((x : Int) / 2 ^ k)) 1 = (((c + x / 2 ^ k) % 2 : Nat) : Int) := by
  have hk : x / 2 ^ k < 4294967296 := Nat.lt_of_le_of_lt (Nat.div_le_self _ _) (by omega)
  have e : (x : Int) / 2 ^ k = ((x / 2 ^ k : Nat) : Int) := by simp
  have hx2 : c ^^^ x / 2 ^ k < 4294967296 := Nat.xor_lt_two_pow (n := 32) hc hk
  rw [e, u32_xor_nat c _ hc hk]
  have h := u32_and_nat (c ^^^ x / 2 ^ k) 1 hx2 (by omega)
  rw [Nat.and_one_is_mod, xor_par] at h
  exact h
theorem bit_text2 (c x k : Nat) (hc : c < 4294967296) (hx : x < 256) : bits BinOp.and IntKind.u32 (bits BinOp.xor IntKind.u32 (c : Int) ((x : Int) / 2 ^ k % 4294967296)) 1 = (((c + x / 2 ^ k) % 2 : Nat) : Int) := by
  have hk : x / 2 ^ k < 4294967296 := Nat.lt_of_le_of_lt (Nat.div_le_self _ _) (by omega)
  have e : (x : Int) / 2 ^ k = ((x / 2 ^ k : Nat) : Int) := by simp
  have e2 : (x : Int) / 2 ^ k % 4294967296 = (x : Int) / 2 ^ k := by rw [e]; generalize x / 2 ^ k = q at hk ⊢; omega
  rw [e2]
  exact bit_text c x k hc hx
theorem crcS_yes (c x k : Nat) (hc : c < 4294967296) (h : (c + x / 2 ^ k) % 2 = 1) : bits BinOp.xor IntKind.u32 ((c : Int) / 2) 3988292384 = ((crcS c x k : Nat) : Int) := by
  unfold crcS
  rw [if_pos h]
  have e := u32_xor_nat (c / 2) 3988292384 (by omega) (by omega)
  have e2 : ((c / 2 : Nat) : Int) = (c : Int) / 2 := by simp
  rw [← e, e2]
  rfl
theorem crcS_no (c x k : Nat) (h : (c + x / 2 ^ k) % 2 = 0) : (c : Int) / 2 = ((crcS c x k : Nat) : Int) := by
  unfold crcS
  rw [if_neg (by omega), Nat.xor_zero]
  simp

/-! ### Words. -/
/-- The number that bytes are, the greatest first. -/
def wordL (l : List UInt8) : Nat := l.foldl (fun w b => w * 256 + b.toNat) 0
theorem or_byte (a x : Nat) (ha : a < 16777216) (hx : x < 256) : bits BinOp.or IntKind.u32 ((a : Int) * 256) (x : Int) = ((a * 256 + x : Nat) : Int) := by
  have e : (a : Int) * 256 = ((a * 256 : Nat) : Int) := by simp
  rw [e, u32_or_nat (a * 256) x (by omega) (by omega)]
  have h := Nat.two_pow_add_eq_or_of_lt (i := 8) (b := x) (by omega) a
  rw [show 2 ^ 8 * a = a * 256 by omega] at h
  rw [h]
theorem wordL_four (x : Nat) (h : x < 4294967296) : wordL (fourL x) = x := by
  simp [wordL, fourL]
  omega
theorem wordL_lt (l : List UInt8) (h : l.length ≤ 4) : wordL l < 4294967296 := by
  have hb : ∀ b : UInt8, b.toNat < 256 := fun b => b.toNat_lt
  match l, h with
  | [], _ => decide
  | [a], _ => have := hb a; simp [wordL]; omega
  | [a, b], _ => have := hb a; have := hb b; simp [wordL]; omega
  | [a, b, c], _ => have := hb a; have := hb b; have := hb c; simp [wordL]; omega
  | [a, b, c, d], _ => have := hb a; have := hb b; have := hb c; have := hb d; simp [wordL]; omega
theorem wordL_lt3 (l : List UInt8) (h : l.length ≤ 3) : wordL l < 16777216 := by
  have hb : ∀ b : UInt8, b.toNat < 256 := fun b => b.toNat_lt
  match l, h with
  | [], _ => decide
  | [a], _ => have := hb a; simp [wordL]; omega
  | [a, b], _ => have := hb a; have := hb b; simp [wordL]; omega
  | [a, b, c], _ => have := hb a; have := hb b; have := hb c; simp [wordL]; omega
/-- What lies above, and what lies below, a bit. -/
theorem or_at (p q k : Nat) (hk : q < 2 ^ k) (hp : 2 ^ k * p + q < 4294967296) : bits BinOp.or IntKind.u32 ((2 ^ k * p : Nat) : Int) (q : Int) = ((2 ^ k * p + q : Nat) : Int) := by
  rw [u32_or_nat _ _ (by omega) (by omega), ← Nat.two_pow_add_eq_or_of_lt hk p]
theorem fourth_text (a b c d : Nat) (ha : a < 256) (hb : b < 256) (hc : c < 256) (hd : d < 256) :
    bits BinOp.or IntKind.u32 (bits BinOp.or IntKind.u32 (bits BinOp.or IntKind.u32 ((a : Int) * 16777216) ((b : Int) * 65536)) ((c : Int) * 256)) (d : Int) = (a : Int) * 16777216 + (b : Int) * 65536 + (c : Int) * 256 + (d : Int) := by
  have h1 := or_at a (b * 65536) 24 (by omega) (by omega)
  have h2 := or_at (a * 256 + b) (c * 256) 16 (by omega) (by omega)
  have h3 := or_at (a * 65536 + b * 256 + c) d 8 (by omega) (by omega)
  rw [show ((2 ^ 24 * a : Nat) : Int) = (a : Int) * 16777216 by omega, show ((b * 65536 : Nat) : Int) = (b : Int) * 65536 by omega] at h1
  rw [h1]
  rw [show ((c * 256 : Nat) : Int) = (c : Int) * 256 by omega] at h2
  rw [show ((2 ^ 24 * a + b * 65536 : Nat) : Int) = ((2 ^ 16 * (a * 256 + b) : Nat) : Int) by omega, h2]
  rw [show ((2 ^ 16 * (a * 256 + b) + c * 256 : Nat) : Int) = ((2 ^ 8 * (a * 65536 + b * 256 + c) : Nat) : Int) by omega, h3]
  omega
end Go.Proofs.YtlamncldbnagmaaGreatDoor
