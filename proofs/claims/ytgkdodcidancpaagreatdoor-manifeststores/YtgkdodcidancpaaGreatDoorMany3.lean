/-
  SEVERAL TEXTS IN ONE: CodGet, CodGot, RefNum, RefGet, BlmCanon, CodText.
-/
import Derived.Test.YtgkdodcidancpaaGreatDoorCodNum
import Derived.Defers
import Derived.Recover
import Derived.Laws.Pointers
import Derived.WideLaws
import Derived.Test.YtgkdodcidancpaaGreatDoorMany1
namespace Go.Proofs.YtgkdodcidancpaaGreatDoor
open Go.RowKit

/-- The deferred closure, of a frame that panics: the panic is over, and the mark says no. -/
theorem catch_panicking (p : Addr) (x : Bool) (u : TypeId) (pv : Value) (w : World) (hc : w.cell? p = some (.bool x)) (hz : w.frozen? p = false) :
    CallsD Tryz.prog 140 #[.pointer (some p)] (.panicking [{ v := .iface u pv, recovered := false }]) w fun e u' w' =>
      e = .returned (.tuple #[]) ∧ u' = .panicking [{ v := .iface u pv, recovered := true }] ∧ w' = w.setCell p (.bool false) := by
  refine callsD_of_wpS Tryz.func140 rfl fun c₀ cs hu => ?_
  apply wpS_region
  simp [wpOpsS, go_sem, recoverD, hu, Tryz.ntmps140, hc, hz, bodyPostS, results, Tryz.results140]

theorem catch_idle (p : Addr) (x : Bool) (w : World) (hc : w.cell? p = some (.bool x)) (hz : w.frozen? p = false) :
    CallsD Tryz.prog 140 #[.pointer (some p)] .returning w fun e u' w' => e = .returned (.tuple #[]) ∧ u' = .returning ∧ w' = w.setCell p (.bool true) := by
  refine callsD_of_wpS Tryz.func140 rfl fun c₀ cs hu => ?_
  apply wpS_region
  simp [wpOpsS, go_sem, recoverD, hu, Tryz.ntmps140, hc, hz, bodyPostS, results, Tryz.results140]
  cases c₀
  simp_all

theorem Rd.lt {w : World} {R : Nat} {ao : Option Addr} {l : List UInt8} {cap n : Nat} (h : Rd w R ao l cap n) : R < w.heap.size := World.block_lt_of_cell? _ _ h.c0
/-- Whatever leaves the reader's block and the bytes alone leaves the reader as it was. -/
theorem Rd.carry {w w' : World} {R : Nat} {ao : Option Addr} {l : List UInt8} {cap n : Nat} (h : Rd w R ao l cap n) (hb : ∀ k, k < w.heap.size → w'.heap[k]? = w.heap[k]?) : Rd w' R ao l cap n := by
  have e : ∀ p : Addr, p.block < w.heap.size → w'.cell? p = w.cell? p := fun p hp => World.cell?_of_block (hb p.block hp)
  refine ⟨?_, ?_, ?_, h.le, h.max, ?_, h.ne⟩
  · rw [e ⟨R, 0, none⟩ h.lt]; exact h.c0
  · rw [e ⟨R, 1, none⟩ h.lt]; exact h.c1
  · rw [World.frozen?_of_block (a := ⟨R, 1, none⟩) (hb R h.lt)]; exact h.f1
  · intro i hi
    obtain ⟨a, ea, hc⟩ := h.sees i hi
    exact ⟨a, ea, by rw [e _ (World.block_lt_of_cell? _ _ hc)]; exact hc⟩

theorem Rd.setOther {w w0 : World} {R : Nat} {ao : Option Addr} {l : List UInt8} {cap n : Nat} (h : Rd w R ao l cap n) (hs : Sees w0 ao l) (hR : R < w0.heap.size) {p : Addr} (hp : w0.heap.size ≤ p.block) (x : Value) : Rd (w.setCell p x) R ao l cap n := by
  have e : ∀ q : Addr, q.block < w0.heap.size → (w.setCell p x).cell? q = w.cell? q := fun q hq => World.cell?_setCell_other _ _ _ _ (fun e' => by rw [e'] at hp; omega)
  refine ⟨?_, ?_, ?_, h.le, h.max, ?_, h.ne⟩
  · rw [e ⟨R, 0, none⟩ hR]; exact h.c0
  · rw [e ⟨R, 1, none⟩ hR]; exact h.c1
  · rw [World.frozen?_setCell]; exact h.f1
  · intro i hi
    obtain ⟨a, ea, hc⟩ := h.sees i hi
    obtain ⟨a', ea', hc'⟩ := hs i hi
    obtain rfl := Option.some.inj (ea.symm.trans ea')
    exact ⟨a, ea, by rw [e _ (World.block_lt_of_cell? _ _ hc')]; exact hc⟩
/-- Beside the reader's block only new ones were written. -/
theorem grownBy_setNew {w w' : World} {R : Option Nat} {p : Addr} {x : Value} (h : w.grownBy w' R) (hp : w.heap.size ≤ p.block) : w.grownBy (w'.setCell p x) R :=
  ⟨h.os, h.tape, h.output, by rw [size_setCell]; exact h.size, fun k hk hne => (Below.heap_setCell _ _ _ _ (by omega)).trans (h.block k hk hne)⟩
theorem grownBy_alloc {w w' : World} {R : Option Nat} {o : Obj} (h : (w.alloc o).grownBy w' R) : w.grownBy w' R := by
  have hs := h.size
  rw [World.size_alloc] at hs
  exact ⟨h.os, h.tape, h.output, by omega, fun k hk hne => (h.block k (by rw [World.size_alloc]; omega) hne).trans (Below.heap_alloc _ _ _ hk)⟩

set_option maxRecDepth 100000 in
set_option maxHeartbeats 400000 in
theorem attempt_ok (R : Nat) (ao : Option Addr) (l : List UInt8) (cap n : Nat) (w : World) (v : Nat) (r : List UInt8) (h : Rd w R ao l cap n) (hg : getN 0 0 (l.drop n) = some (v, r)) :
    Calls Tryz.prog 121 #[.func (.func 122) #[.pointer (some ⟨R, 0, none⟩)] #[]] w fun e w' => e = .returned (.tuple #[.int .u64 v, .bool true]) ∧ ∃ m, Rd w' R ao l cap m ∧ l.drop m = r ∧ n < m ∧ w.grownBy w' (some R) := by
  have hmf : ∀ (fn : Fn) (first cap : Array Value) (w : World), (Instr.makeFunc fn first cap).run Tryz.prog w = .ok (.func fn first cap) w := fun _ _ _ _ => rfl
  have hlt := h.lt
  have hs0 := h.sees
  have h1 : Rd (w.alloc (.cells #[.bool false] 4)) R ao l cap n := h.carry fun k hk => Below.heap_alloc _ _ _ hk
  have Hc : Hid _ := number_ok R ao l cap n _ v r h1 hg
  clear h h1 hg
  go_enter_defers Tryz.func121, Tryz.ntmps121
  go_wp2_with fail
  refine Calls.mono (Hid.out Hc) ?_
  rintro e w2 ⟨rfl, m, hR2, hd, hm, hg2⟩
  have hB := hg2.block w.heap.size (by simp) (fun e => by have := Option.some.inj e; omega)
  have hc2 : w2.cell? ⟨w.heap.size, 0, none⟩ = some (.bool false) := by rw [World.cell?_of_block (a := ⟨w.heap.size, 0, none⟩) hB]; simp [go_sem]
  have hf2 : w2.frozen? ⟨w.heap.size, 0, none⟩ = false := by rw [World.frozen?_of_block (a := ⟨w.heap.size, 0, none⟩) hB]; simp [go_sem]
  clear hB Hc
  go_wp2_with fail
  refine leaves_cons (f := 140) (args := #[.pointer (some ⟨w.heap.size, 0, none⟩)]) (by simp) (by simp [go_sem]) ?_
  refine (catch_idle ⟨w.heap.size, 0, none⟩ true _ (World.cell?_setCell_same _ _ _ hc2) (by rw [World.frozen?_setCell]; exact hf2)).mono ?_
  rintro e u' w'' ⟨rfl, rfl, rfl⟩
  have hc3 := World.cell?_setCell_same (w2.setCell ⟨w.heap.size, 0, none⟩ (.bool true)) ⟨w.heap.size, 0, none⟩ (.bool true) (World.cell?_setCell_same _ _ _ hc2)
  refine ⟨.tuple #[.int .u64 v, .bool true], by simp [results, Tryz.results121, go_sem, hc3], rfl, m, ?_, hd, hm, ?_⟩
  · exact (hR2.setOther hs0 hlt (Nat.le_refl _) _).setOther hs0 hlt (Nat.le_refl _) _
  · exact grownBy_setNew (grownBy_setNew (grownBy_alloc hg2) (Nat.le_refl _)) (Nat.le_refl _)

set_option maxRecDepth 100000 in
set_option maxHeartbeats 400000 in
theorem attempt_no (R : Nat) (ao : Option Addr) (l : List UInt8) (cap n : Nat) (w : World) (u : TypeId) (pv : Value) (h : Rd w R ao l cap n) (hg : getN 0 0 (l.drop n) = none) (he : Err w u pv) (hER : R ≠ 1) :
    Calls Tryz.prog 121 #[.func (.func 122) #[.pointer (some ⟨R, 0, none⟩)] #[]] w fun e w' => e = .returned (.tuple #[.int .u64 0, .bool false]) ∧ ∃ m, Rd w' R ao l cap m ∧ w.grownBy w' (some R) := by
  have hmf : ∀ (fn : Fn) (first cap : Array Value) (w : World), (Instr.makeFunc fn first cap).run Tryz.prog w = .ok (.func fn first cap) w := fun _ _ _ _ => rfl
  have hlt := h.lt
  have hs0 := h.sees
  have h1 : Rd (w.alloc (.cells #[.bool false] 4)) R ao l cap n := h.carry fun k hk => Below.heap_alloc _ _ _ hk
  have he1 : Err (w.alloc (.cells #[.bool false] 4)) u pv := by
    unfold Err at he ⊢
    rw [World.cell?_of_block (Below.heap_alloc _ _ _ (World.block_lt_of_cell? _ _ he)), he]
  have Hc : Hid _ := number_no R ao l cap n _ u pv h1 hg he1 hER
  clear h h1 hg he he1
  go_enter_defers Tryz.func121, Tryz.ntmps121
  go_wp2_with fail
  refine Calls.mono (Hid.out Hc) ?_
  rintro e w2 ⟨rfl, m, hR2, hg2⟩
  have hB := hg2.block w.heap.size (by simp) (fun e => by have := Option.some.inj e; omega)
  have hc2 : w2.cell? ⟨w.heap.size, 0, none⟩ = some (.bool false) := by rw [World.cell?_of_block (a := ⟨w.heap.size, 0, none⟩) hB]; simp [go_sem]
  have hf2 : w2.frozen? ⟨w.heap.size, 0, none⟩ = false := by rw [World.frozen?_of_block (a := ⟨w.heap.size, 0, none⟩) hB]; simp [go_sem]
  clear hB Hc
  go_wp2_with fail
  refine leaves_cons (f := 140) (args := #[.pointer (some ⟨w.heap.size, 0, none⟩)]) (by simp) (by simp [go_sem]) ?_
  refine (catch_panicking ⟨w.heap.size, 0, none⟩ false u pv _ hc2 hf2).mono ?_
  rintro e u' w'' ⟨rfl, rfl, rfl⟩
  have hc3 := World.cell?_setCell_same w2 ⟨w.heap.size, 0, none⟩ (.bool false) hc2
  refine ⟨.tuple #[.int .u64 0, .bool false], by simp [results, Tryz.results121, go_sem, hc3], rfl, m, ?_, ?_⟩
  · exact hR2.setOther hs0 hlt (Nat.le_refl _) _
  · exact grownBy_setNew (grownBy_alloc hg2) (Nat.le_refl _)
end Go.Proofs.YtgkdodcidancpaaGreatDoor
namespace Go.Proofs.YtgkdodcidancpaaGreatDoor
open Go.RowKit

/-- A reader that was just made. -/
theorem Rd.made {w : World} {ao : Option Addr} {l : List UInt8} {cap : Nat} (hs : Sees w ao l) (hl : l.length ≤ 140737488355000) : Rd (w.alloc (.cells #[.slice ao l.length cap, .int .i64 0] 139)) w.heap.size ao l cap 0 := by
  refine ⟨by simp [go_sem], by simp [go_sem], by simp [go_sem], by omega, hl, hs.below ((Below.refl _ _).alloc (Nat.le_refl _) _) (Nat.le_refl _), fun hne a ea e => ?_⟩
  obtain ⟨a', ea', hc⟩ := hs 0 (by omega)
  obtain rfl := Option.some.inj (ea.symm.trans ea')
  have := World.block_lt_of_cell? _ _ hc
  rw [Addr.add_block] at this
  omega
theorem below_made {w w' : World} {o : Obj} (h : (w.alloc o).grownBy w' (some w.heap.size)) : Below w.heap.size w w' :=
  ⟨h.os, h.tape, h.output, by have := h.size; rw [World.size_alloc] at this; omega, fun k hk => (h.block k (by rw [World.size_alloc]; omega) (fun e => by have := Option.some.inj e; omega)).trans (Below.heap_alloc _ _ _ hk)⟩
theorem err_alloc {w : World} {u : TypeId} {pv : Value} (he : Err w u pv) (o : Obj) : Err (w.alloc o) u pv := by
  unfold Err at he ⊢
  rw [World.cell?_of_block (Below.heap_alloc _ _ _ (World.block_lt_of_cell? _ _ he)), he]
theorem Err.below {w w' : World} {u : TypeId} {pv : Value} (he : Err w u pv) {B : Nat} (hb : Below B w w') (hB : w.heap.size ≤ B) : Err w' u pv := by
  unfold Err at he ⊢
  have := World.block_lt_of_cell? _ _ he
  rw [hb.cell (p := ⟨1, 0, none⟩) (by omega), he]

set_option maxRecDepth 100000 in
set_option maxHeartbeats 400000 in
theorem get_ok (ao : Option Addr) (l : List UInt8) (cap : Nat) (w : World) (v : Nat) (r : List UInt8) (hs : Sees w ao l) (hl : l.length ≤ 140737488355000) (hg : getN 0 0 l = some (v, r)) :
    Calls Tryz.prog 108 #[.slice ao l.length cap] w fun e w' => e = .returned (.tuple #[.int .u64 v, .int .i64 ((l.length - r.length : Nat) : Int)]) ∧ Below w.heap.size w w' := by
  have hmf : ∀ (fn : Fn) (first cap : Array Value) (w : World), (Instr.makeFunc fn first cap).run Tryz.prog w = .ok (.func fn first cap) w := fun _ _ _ _ => rfl
  have Hc : Hid _ := attempt_ok _ ao l cap 0 _ v r (Rd.made hs hl) hg
  clear hs hg
  go_enter Tryz.func108, Tryz.ntmps108
  go_wp2_with fail
  refine Calls.mono (Hid.out Hc) ?_
  rintro e w2 ⟨rfl, m, hR2, hd, hm, hg2⟩
  have hc1 := hR2.c1
  have Hm : Hid (m = l.length - r.length) := by
    have h1 := congrArg List.length hd
    have h2 := hR2.le
    rw [List.length_drop] at h1
    show m = _
    omega
  clear hd
  go_wp2_with fail
  go_quiet (fail)
  go_wp2
  go_ret2
  refine ⟨by rw [← Hm.out]; rfl, (below_made hg2).trans ?_⟩
  exact ⟨rfl, rfl, rfl, Nat.le_refl _, fun _ _ => rfl⟩

set_option maxRecDepth 100000 in
set_option maxHeartbeats 400000 in
theorem get_no (ao : Option Addr) (l : List UInt8) (cap : Nat) (w : World) (u : TypeId) (pv : Value) (hs : Sees w ao l) (hl : l.length ≤ 140737488355000) (hg : getN 0 0 l = none) (he : Err w u pv) :
    Calls Tryz.prog 108 #[.slice ao l.length cap] w fun e w' => e = .returned (.tuple #[.int .u64 0, .int .i64 0]) ∧ Below w.heap.size w w' := by
  have hmf : ∀ (fn : Fn) (first cap : Array Value) (w : World), (Instr.makeFunc fn first cap).run Tryz.prog w = .ok (.func fn first cap) w := fun _ _ _ _ => rfl
  have Hc : Hid _ := attempt_no _ ao l cap 0 _ u pv (Rd.made hs hl) hg (err_alloc he _) (by have := World.block_lt_of_cell? _ _ he; show w.heap.size ≠ _; have h2 : (⟨1, 0, none⟩ : Addr).block < w.heap.size := this; simp at h2; omega)
  clear hs hg he
  go_enter Tryz.func108, Tryz.ntmps108
  go_wp2_with fail
  refine Calls.mono (Hid.out Hc) ?_
  rintro e w2 ⟨rfl, m, hR2, hg2⟩
  go_wp2_with fail
  go_ret2
  exact ⟨rfl, below_made hg2⟩

theorem get_ok_at (ao : Option Addr) (l : List UInt8) (n cap : Nat) (w : World) (v k : Nat) (r : List UInt8) (hn : l.length = n) (hk : n - r.length = k) (hs : Sees w ao l) (hl : n ≤ 140737488355000) (hg : getN 0 0 l = some (v, r)) :
    Calls Tryz.prog 108 #[.slice ao n cap] w fun e w' => e = .returned (.tuple #[.int .u64 v, .int .i64 k]) ∧ Below w.heap.size w w' := by
  subst hn
  subst hk
  exact get_ok ao l cap w v r hs hl hg
theorem get_no_at (ao : Option Addr) (l : List UInt8) (n cap : Nat) (w : World) (u : TypeId) (pv : Value) (hn : l.length = n) (hs : Sees w ao l) (hl : n ≤ 140737488355000) (hg : getN 0 0 l = none) (he : Err w u pv) :
    Calls Tryz.prog 108 #[.slice ao n cap] w fun e w' => e = .returned (.tuple #[.int .u64 0, .int .i64 0]) ∧ Below w.heap.size w w' := by
  subst hn
  exact get_no ao l cap w u pv hs hl hg he
theorem owns_heap {w w' : World} {base : Nat} {e : TypeId} {size : Nat} {v : Value} {n : Nat} {xs : List Value} (h : w.ownsRow base e size v n xs) (hb : ∀ k, v.ownBlock = some k → w'.heap[k]? = w.heap[k]?) : w'.ownsRow base e size v n xs := by
  refine ⟨h.1, ?_⟩
  rcases h.2 with hn | ⟨g, cap, cur, rfl, hg, hh, r⟩
  · exact .inl hn
  · exact .inr ⟨g, cap, cur, rfl, hg, (hb g rfl).trans hh, r⟩
end Go.Proofs.YtgkdodcidancpaaGreatDoor
namespace Go.Proofs.YtgkdodcidancpaaGreatDoor
open Go.RowKit

/-- A row of nothing, just made. -/
theorem owns_none (w : World) : (w.alloc (.cells #[] 5)).ownsRow w.heap.size 5 1 (.slice (some ⟨w.heap.size, 0, none⟩) 0 0) 0 [] := World.ownsRow_made w #[] 0 (Nat.le_refl _) (by decide) rfl
theorem below_none {w w' : World} {v : Value} (h : Grew (w.alloc (.cells #[] 5)) w' (.slice (some ⟨w.heap.size, 0, none⟩) 0 0) v) : Below w.heap.size w w' :=
  ((Below.refl _ _).alloc (Nat.le_refl _) _).trans (h.below (by rw [World.size_alloc]; omega) (fun k hk => by cases hk; exact Nat.le_refl _))

set_option maxRecDepth 100000 in
set_option maxHeartbeats 800000 in
theorem refPut_any (ao : Option Addr) (l : List UInt8) (cap u : Nat) (w : World) (hs : Sees w ao l) (hnone : ao = none → l.length = 0) (hl : l.length ≤ 140737488354000) (hu : u < 18446744073709551616) :
    Calls Tryz.prog 66 #[.slice ao l.length cap, .int .u64 u] w fun e w' => ∃ v', e = .returned v' ∧ w'.ownsRow w.heap.size 5 1 v' (l.length + (numL u).length) (B8 (l ++ numL u)) ∧ Below w.heap.size w w' := by
  obtain ⟨i0, hi, hz0, hz1, hz2⟩ := info_parts info8
  have Hu : Hid (NumAt u [] u) := NumAt.start hu
  have e0 := owns_none w
  have s1 := src_sees (P := Tryz.prog) Tryz.underlying58 (hs.below ((Below.refl _ _).alloc (Nat.le_refl _) (.cells #[] 5)) (Nat.le_refl _)) hnone cap
  clear hu hs hnone
  go_enter Tryz.func66, Tryz.ntmps66
  go_wp2_with (at_builtin; go_must (refine wpList_append_grew _ rfl (.tmp 6) (.tmp 7) 58 58 rfl w.heap.size 5 i0 (.int .u8 0) 1 1 Tryz.underlying58 hi hz0 hz1 hz2 rfl _ 0 [] rfl e0 _ l.length (B8 l) rfl s1 (by unfold maxLen; omega) (by omega) (by rw [World.size_alloc]; omega) ?_; intro v1 w1 ho1 hg1))
  have ho1' : w1.ownsRow w.heap.size 5 1 v1 l.length (B8 l) := by simpa using ho1
  have hb1 := below_none hg1
  clear e0 s1 hg1 ho1
  go_loopw [5, 1] (fun s0 s1 wr => ∃ (x : Nat) (d : List UInt8), s1 = .int .u64 x ∧ NumAt u d x ∧ wr.ownsRow w.heap.size 5 1 s0 (l.length + d.length) (B8 (l ++ d)) ∧ Grew w1 wr v1 s0 ∧ w.heap.size ≤ wr.heap.size) (fun _ s1 _ => (intOf s1).toNat)
  case atStart => exact ⟨u, [], rfl, Hu.out, by simpa using ho1', Grew.refl _ _, hb1.size⟩
  case round =>
    obtain ⟨x, d, rfl, hd, ho, hg, hbr⟩ := hrel
    have hbd := hd.bd
    have hdl := hd.len
    by_cases hx : x < 128
    · have hbv := byte_val x (by omega)
      have Hfin : Hid (numL u = d ++ [UInt8.ofNat x]) := hd.done hx
      go_wp2_with (at_builtin; go_must (refine wpList_append_grew _ rfl _ _ 58 58 rfl w.heap.size 5 i0 (.int .u8 0) 1 1 Tryz.underlying58 hi hz0 hz1 hz2 rfl _ _ _ rfl (ho.alloc _) _ 1 (B8 [UInt8.ofNat x]) rfl (src_one _ _ _ hbv) (by unfold maxLen; omega) (by omega) (by rw [World.size_alloc]; omega) ?_; intro v' w' ho' hg'))
      go_ret
      refine ⟨v', rfl, ?_, hb1.trans ((hg.trans hg'.alloc).below hb1.size (fun k hk => (ho1'.lt k hk).1))⟩
      rw [Hfin.out, ← List.append_assoc, B8_append _ [_], List.length_append, List.length_singleton, ← Nat.add_assoc]
      exact ho'
    · have hbv := byte_val (x % 128 + 128) (by omega)
      have hst := hd.step (by omega)
      go_wp2_with (at_builtin; go_must (refine wpList_append_grew _ rfl _ _ 58 58 rfl w.heap.size 5 i0 (.int .u8 0) 1 1 Tryz.underlying58 hi hz0 hz1 hz2 rfl _ _ _ rfl (ho.alloc _) _ 1 (B8 [UInt8.ofNat (x % 128 + 128)]) rfl (src_one _ _ _ hbv) (by unfold maxLen; omega) (by omega) (by rw [World.size_alloc]; omega) ?_; intro v' w' ho' hg'))
      go_roundw
      case rel =>
        refine ⟨x / 128, _, by go_num, hst, ?_, hg.trans hg'.alloc, Nat.le_trans hbr (Nat.le_trans (by rw [World.size_alloc]; omega) hg'.rows.size)⟩
        rw [← List.append_assoc, B8_append _ [_], List.length_append, List.length_singleton, ← Nat.add_assoc]
        exact ho'
      case measure => simp [intOf]; omega
end Go.Proofs.YtgkdodcidancpaaGreatDoor
namespace Go.Proofs.YtgkdodcidancpaaGreatDoor
open Go.RowKit

/-- What a round of the document's Get reckons. -/
theorem sum_text (i acc x : Nat) (h : acc < 2 ^ (7 * i)) (hi : i ≤ 9) (h9 : i = 9 → x ≤ 1) :
    IntKind.u64.wrap ((acc : Int) + IntKind.u64.wrap ((x : Int) % 128 * 2 ^ (7 * i))) = ((acc + x % 128 * 2 ^ (7 * i) : Nat) : Int) := by
  have hp : 2 ^ (7 * i) ≤ 2 ^ 63 := Nat.pow_le_pow_right (by omega) (by omega)
  have hy : acc + x % 128 * 2 ^ (7 * i) < 18446744073709551616 := by
    rcases Nat.lt_or_ge i 9 with h1 | h1
    · have h2 : 2 ^ (7 * i) ≤ 2 ^ 56 := Nat.pow_le_pow_right (by omega) (by omega)
      have h3 : x % 128 * 2 ^ (7 * i) ≤ 127 * 2 ^ 56 := Nat.mul_le_mul (by omega) h2
      omega
    · have hx := h9 (by omega)
      have h3 : x % 128 * 2 ^ (7 * i) ≤ 1 * 2 ^ 63 := Nat.mul_le_mul (by omega) hp
      omega
  have e : (x : Int) % 128 * 2 ^ (7 * i) = ((x % 128 * 2 ^ (7 * i) : Nat) : Int) := by simp
  rw [e, IntWalk.u64_in (((x % 128 * 2 ^ (7 * i) : Nat) : Int)) ⟨by omega, by omega⟩, ← Int.natCast_add, IntWalk.u64_in _ ⟨by omega, by omega⟩]

/-- What Get tells of bytes: the number, and how many it has. -/
def getV (l : List UInt8) : Nat := match getN 0 0 l with | some (v, _) => v | none => 0
def getK (l : List UInt8) : Nat := match getN 0 0 l with | some (_, r) => l.length - r.length | none => 0

set_option maxRecDepth 100000 in
set_option maxHeartbeats 1600000 in
theorem refGet_any (ao : Option Addr) (l : List UInt8) (cap : Nat) (w : World) (hs : Sees w ao l) (hl : l.length ≤ 140737488354000) :
    Calls Tryz.prog 83 #[.slice ao l.length cap] w fun e w' => e = .returned (.tuple #[.int .u64 (getV l), .int .i64 (getK l)]) ∧ w' = w := by
  go_enter Tryz.func83, Tryz.ntmps83
  go_wp2
  go_loop [4, 5] (fun s4 s5 => ∃ i acc : Nat, i ≤ 9 ∧ i ≤ l.length ∧ acc < 2 ^ (7 * i) ∧ s4 = .int .u64 acc ∧ s5 = .int .i64 i ∧ getN 0 0 l = getN i acc (l.drop i)) (fun _ s5 => 10 - (intOf s5).toNat)
  case atStart => exact ⟨0, 0, by omega, by omega, by simp, rfl, rfl, rfl⟩
  case round =>
    obtain ⟨i, acc, hi, hil, hacc, rfl, rfl, hg⟩ := hrel
    rcases Nat.lt_or_ge i l.length with hlt | hge
    · rw [List.drop_eq_getElem_cons hlt, getN] at hg
      obtain ⟨b, off, rfl, hc⟩ := sees_at hs hlt
      have hb : l.getD i 0 = l[i] := by simp [List.getD, hlt]
      rw [hb] at hc
      generalize l[i] = y at *
      have hbl := y.toNat_lt
      generalize y.toNat = x at *
      have Hs : Hid _ := hs
      clear hs hb
      by_cases hno : (i = 9 ∧ 1 < x) ∨ (0 < i ∧ x = 0)
      · rw [if_pos hno] at hg
        have HV : Hid (getV l = 0) := by show _ = _; unfold getV; rw [hg]
        have HK : Hid (getK l = 0) := by show _ = _; unfold getK; rw [hg]
        have hcase : ((i : Int) == 9) = true ∧ 1 < (x : Int) ∨ ((i : Int) == 9) = true ∧ ¬ 1 < (x : Int) ∧ 0 < (i : Int) ∧ ((x : Int) == 0) = true ∨ ((i : Int) == 9) = false ∧ 0 < (i : Int) ∧ ((x : Int) == 0) = true := by
          by_cases h9 : i = 9
          · by_cases hx : 1 < x
            · exact .inl ⟨by simp; omega, by omega⟩
            · exact .inr (.inl ⟨by simp; omega, by omega, by omega, by simp; omega⟩)
          · exact .inr (.inr ⟨by simp; omega, by omega, by simp; omega⟩)
        have Hacc : Hid _ := hacc
        clear hg hno hacc
        rcases hcase with ⟨h1, h2⟩ | ⟨h1, h2, h3, h4⟩ | ⟨h1, h2, h3⟩
        · go_wp2
          go_ret2
          exact ⟨by rw [HV.out, HK.out]; rfl, rfl⟩
        · have hx : (x : Int) < 128 := by omega
          go_wp2
          go_ret2
          exact ⟨by rw [HV.out, HK.out]; rfl, rfl⟩
        · have hx : (x : Int) < 128 := by have := (beq_iff_eq.1 h3 : (x : Int) = 0); omega
          go_wp2
          go_ret2
          exact ⟨by rw [HV.out, HK.out]; rfl, rfl⟩
      · rw [if_neg hno] at hg
        have Hsum : Hid _ := sum_text i acc x hacc hi (by omega)
        by_cases hx : x < 128
        · rw [if_pos hx] at hg
          have HV : Hid (getV l = acc + x % 128 * 2 ^ (7 * i)) := by show _ = _; unfold getV; rw [hg]
          have HK : Hid (getK l = i + 1) := by show _ = _; unfold getK; rw [hg]; simp; omega
          have hcase : (((i : Int) == 9) = false ∧ ¬ 0 < (i : Int)) ∨ (((i : Int) == 9) = false ∧ 0 < (i : Int) ∧ ((x : Int) == 0) = false) ∨ (((i : Int) == 9) = true ∧ 0 < (i : Int) ∧ ¬ 1 < (x : Int) ∧ ((x : Int) == 0) = false) := by
            rcases (show i = 0 ∨ (0 < i ∧ i < 9) ∨ i = 9 by omega) with h1 | h1 | h1
            · exact .inl ⟨by simp; omega, by omega⟩
            · exact .inr (.inl ⟨by simp; omega, by omega, by simp; omega⟩)
            · exact .inr (.inr ⟨by simp; omega, by omega, by omega, by simp; omega⟩)
          have Hacc : Hid _ := hacc
          clear hg hno hacc
          rcases hcase with ⟨h1, h2⟩ | ⟨h1, h2, h3⟩ | ⟨h1, h2, h3, h4⟩
          all_goals
            go_wp2
            go_ret2
            refine ⟨?_, rfl⟩
            rw [HV.out, HK.out, ← Hsum.out]
            rfl
        · rw [if_neg hx] at hg
          have Hg : Hid _ := hg
          have Hd : Hid _ := digit_bd i acc x hacc
          have Hi9 : Hid (i + 1 ≤ 9) := by show i + 1 ≤ 9; omega
          have hcase : ((i : Int) == 9) = false := by simp; omega
          clear hg hno hacc
          go_wp2
          go_round
          case rel => exact ⟨i + 1, _, Hi9.out, by omega, Hd.out, by rw [← Hsum.out], by go_num, Hg.out⟩
          case measure => have := Hi9.out; simp [intOf]; omega
    · rw [List.drop_eq_nil_of_le hge, getN] at hg
      have HV : Hid (getV l = 0) := by show _ = _; unfold getV; rw [hg]
      have HK : Hid (getK l = 0) := by show _ = _; unfold getK; rw [hg]
      clear hg hacc
      go_wp2
      go_ret2
      exact ⟨by rw [HV.out, HK.out]; rfl, rfl⟩
end Go.Proofs.YtgkdodcidancpaaGreatDoor
namespace Go.Proofs.YtgkdodcidancpaaGreatDoor
open Go.RowKit

set_option maxRecDepth 100000 in
theorem byte_back (b : UInt8) : UInt8.ofNat b.toNat = b := by simp
set_option maxRecDepth 100000 in
theorem getN_shape (k : Nat) : ∀ (i acc : Nat) (l : List UInt8) (v : Nat) (r : List UInt8), i + k = 9 → getN i acc l = some (v, r) → ∃ x, x < 2 * 128 ^ k ∧ (0 < i → 0 < x) ∧ v = acc + x * 2 ^ (7 * i) ∧ l = numF k x ++ r := by
  induction k with
  | zero =>
    intro i acc l v r hi hg
    cases l with
    | nil => simp [getN] at hg
    | cons b r' =>
      rw [getN] at hg
      by_cases h1 : (i = 9 ∧ 1 < b.toNat) ∨ (0 < i ∧ b.toNat = 0)
      · rw [if_pos h1] at hg; cases hg
      · rw [if_neg h1, if_pos (by omega)] at hg
        cases hg
        refine ⟨b.toNat, by simp; omega, fun _ => by omega, by rw [Nat.mod_eq_of_lt (by omega)], ?_⟩
        rw [numF, byte_back]
        rfl
  | succ k ih =>
    intro i acc l v r hi hg
    cases l with
    | nil => simp [getN] at hg
    | cons b r' =>
      rw [getN] at hg
      by_cases h1 : (i = 9 ∧ 1 < b.toNat) ∨ (0 < i ∧ b.toNat = 0)
      · rw [if_pos h1] at hg; cases hg
      · rw [if_neg h1] at hg
        have hpw : 0 < 128 ^ k := Nat.pow_pos (by decide)
        by_cases h2 : b.toNat < 128
        · rw [if_pos h2] at hg
          cases hg
          refine ⟨b.toNat, by rw [Nat.pow_succ]; omega, fun _ => by omega, by rw [Nat.mod_eq_of_lt h2], ?_⟩
          rw [numF_small _ _ h2, byte_back]
          rfl
        · rw [if_neg h2] at hg
          obtain ⟨x, hx, hp, rfl, rfl⟩ := ih (i + 1) _ r' v r (by omega) hg
          have hb := b.toNat_lt
          have hm : b.toNat % 128 = b.toNat - 128 := by omega
          have hx0 := hp (by omega)
          have e1 : (x * 128 + (b.toNat - 128)) % 128 = b.toNat - 128 := by omega
          have e2 : (x * 128 + (b.toNat - 128)) / 128 = x := by omega
          refine ⟨x * 128 + (b.toNat - 128), by rw [Nat.pow_succ]; omega, fun _ => by omega, ?_, ?_⟩
          · rw [hm, pow7, Nat.add_mul, Nat.mul_assoc, Nat.add_assoc, Nat.add_comm ((b.toNat - 128) * 2 ^ (7 * i))]
          · rw [numF_great _ _ (by omega), e1, e2, show b.toNat - 128 + 128 = b.toNat by omega, byte_back]
            rfl
set_option maxRecDepth 100000 in
theorem get_canon {l : List UInt8} (h : getK l ≠ 0) : l = numL (getV l) ++ l.drop (getK l) ∧ getK l = (numL (getV l)).length ∧ getV l < 18446744073709551616 ∧ getN 0 0 l = some (getV l, l.drop (getK l)) := by
  cases hg : getN 0 0 l with
  | none => exact absurd (by unfold getK; rw [hg]) h
  | some vr =>
    obtain ⟨v, r⟩ := vr
    obtain ⟨x, hx, _, hv, hl⟩ := getN_shape 9 0 0 l v r rfl hg
    have hv' : v = x := by simpa using hv
    subst hv'
    have h1 : getV l = v := by unfold getV; rw [hg]
    have h2 : getK l = (numL v).length := by unfold getK; rw [hg]; show l.length - r.length = _; rw [hl, List.length_append]; unfold numL; omega
    have h3 : l.drop (getK l) = r := by rw [h2, hl]; exact List.drop_left
    rw [h3, h1]
    exact ⟨hl, h2, hx, rfl⟩
set_option maxRecDepth 100000 in
theorem getK_zero {l : List UInt8} (h : getK l = 0) : getV l = 0 := by
  cases hg : getN 0 0 l with
  | none => unfold getV; rw [hg]
  | some vr =>
    obtain ⟨v, r⟩ := vr
    obtain ⟨x, _, _, _, hl⟩ := getN_shape 9 0 0 l v r rfl hg
    have h2 : getK l = (numF 9 x).length := by unfold getK; rw [hg]; show l.length - r.length = _; rw [hl, List.length_append]; omega
    have := (numF_length 9 x).1
    omega
set_option maxRecDepth 100000 in
theorem getK_le (l : List UInt8) : getK l ≤ l.length := by
  unfold getK
  cases getN 0 0 l with
  | none => exact Nat.zero_le _
  | some vr => exact Nat.sub_le _ _
set_option maxRecDepth 100000 in
theorem getV_lt (l : List UInt8) : getV l < 18446744073709551616 := by
  by_cases h : getK l = 0
  · rw [getK_zero h]; decide
  · exact (get_canon h).2.2.1
/-- Are bytes a filter? -/
def okF (B : List UInt8) : Bool := decide (1 ≤ getV B ∧ getV B ≤ 16 ∧ 1 ≤ getV (B.drop (getK B)) ∧ getV (B.drop (getK B)) ≤ 400000 ∧ B.length - (getK B + getK (B.drop (getK B))) = getV (B.drop (getK B)))
set_option maxRecDepth 100000 in
theorem okF_enc {B : List UInt8} {k p q : Nat} {l : List UInt8} (hp : getK B = p) (hk : getV B = k) (hp0 : p ≠ 0) (hq : getK (B.drop p) = q) (hq0 : q ≠ 0) (hl : B.drop (p + q) = l) (hn : getV (B.drop p) = l.length) : B = numL k ++ numL l.length ++ l := by
  have h1 := get_canon (l := B) (by omega)
  have h2 := get_canon (l := B.drop p) (by omega)
  rw [hp, hk] at h1
  rw [hq, hn, List.drop_drop, hl] at h2
  rw [List.append_assoc, ← h2.1]
  exact h1.1
end Go.Proofs.YtgkdodcidancpaaGreatDoor
namespace Go.Proofs.YtgkdodcidancpaaGreatDoor
open Go.RowKit

theorem conv_zero (w : World) (ao : Option Addr) (c : Nat) : (convert 58 9 (.slice ao 0 c)).run Tryz.prog w = .ok (.string ⟨#[]⟩) w := by
  have := conv_sees (w := w) (ao := ao) (l := []) (Sees.nil _ _) (fun _ => rfl) c
  exact this

theorem sees_cut {w : World} {b off : Nat} {l : List UInt8} (h : Sees w (some ⟨b, off, none⟩) l) (m v : Nat) (hv : m + v ≤ l.length) : Sees w (some ⟨b, off + m, none⟩) ((l.drop m).take v) := by
  intro i hi
  rw [List.length_take, List.length_drop] at hi
  obtain ⟨a, e, hc⟩ := h (m + i) (by omega)
  obtain rfl := Option.some.inj e
  refine ⟨_, rfl, ?_⟩
  rw [Addr.add_lit] at hc ⊢
  rw [Nat.add_assoc, hc]
  have : i < v := by omega
  simp [List.getD, this]

theorem err_grown {w w' : World} {u : TypeId} {pv : Value} {R : Nat} (he : Err w u pv) (hg : w.grownBy w' (some R)) (hER : R ≠ 1) : Err w' u pv := by
  unfold Err at he ⊢
  rw [World.cell?_of_block (hg.block _ (World.block_lt_of_cell? _ _ he) (fun e => hER (Option.some.inj e).symm)), he]

end Go.Proofs.YtgkdodcidancpaaGreatDoor
