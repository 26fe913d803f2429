/-
  SEVERAL TEXTS IN ONE: CodGet, CodGot, CodText, CodGetT, CellRead, RefNum.
-/
import Derived.Test.YtglaocghcgcghaaGreatDoorCodNum
import Derived.Defers
import Derived.Recover
import Derived.Laws.Pointers
import Derived.WideLaws
import Derived.Test.YtglaocghcgcghaaGreatDoorMany16
import Derived.Test.YtglaocghcgcghaaGreatDoorMany18
namespace Go.Proofs.YtglaocghcgcghaaGreatDoor
open Go.RowKit

theorem Rd.lt {w : World} {R : Nat} {ao : Option Addr} {l : List UInt8} {cap n : Nat} (h : Rd w R ao l cap n) : R < w.heap.size := World.block_lt_of_cell? _ _ h.c0
/-- Whatever leaves the reader's block and the bytes alone leaves the reader as it was. -/
theorem Rd.carry {w w' : World} {R : Nat} {ao : Option Addr} {l : List UInt8} {cap n : Nat} (h : Rd w R ao l cap n) (hb : ∀ k, k < w.heap.size → w'.heap[k]? = w.heap[k]?) : Rd w' R ao l cap n := by
  have e : ∀ p : Addr, p.block < w.heap.size → w'.cell? p = w.cell? p := fun p hp => World.cell?_of_block (hb p.block hp)
  refine ⟨?_, ?_, ?_, h.le, h.max, ?_, h.ne⟩
  · rw [e ⟨R, 0, none⟩ h.lt]; exact h.c0
  · rw [e ⟨R, 1, none⟩ h.lt]; exact h.c1
  · rw [World.frozen?_of_block (a := ⟨R, 1, none⟩) (hb R h.lt)]; exact h.f1
  · intro i hi
    obtain ⟨a, ea, hc⟩ := h.sees i hi
    exact ⟨a, ea, by rw [e _ (World.block_lt_of_cell? _ _ hc)]; exact hc⟩

theorem Rd.setOther {w w0 : World} {R : Nat} {ao : Option Addr} {l : List UInt8} {cap n : Nat} (h : Rd w R ao l cap n) (hs : Sees w0 ao l) (hR : R < w0.heap.size) {p : Addr} (hp : w0.heap.size ≤ p.block) (x : Value) : Rd (w.setCell p x) R ao l cap n := by
  have e : ∀ q : Addr, q.block < w0.heap.size → (w.setCell p x).cell? q = w.cell? q := fun q hq => World.cell?_setCell_other _ _ _ _ (fun e' => by rw [e'] at hp; omega)
  refine ⟨?_, ?_, ?_, h.le, h.max, ?_, h.ne⟩
  · rw [e ⟨R, 0, none⟩ hR]; exact h.c0
  · rw [e ⟨R, 1, none⟩ hR]; exact h.c1
  · rw [World.frozen?_setCell]; exact h.f1
  · intro i hi
    obtain ⟨a, ea, hc⟩ := h.sees i hi
    obtain ⟨a', ea', hc'⟩ := hs i hi
    obtain rfl := Option.some.inj (ea.symm.trans ea')
    exact ⟨a, ea, by rw [e _ (World.block_lt_of_cell? _ _ hc')]; exact hc⟩
/-- Beside the reader's block only new ones were written. -/
theorem grownBy_setNew {w w' : World} {R : Option Nat} {p : Addr} {x : Value} (h : w.grownBy w' R) (hp : w.heap.size ≤ p.block) : w.grownBy (w'.setCell p x) R :=
  ⟨h.os, h.tape, h.output, by rw [size_setCell]; exact h.size, fun k hk hne => (Below.heap_setCell _ _ _ _ (by omega)).trans (h.block k hk hne)⟩
theorem grownBy_alloc {w w' : World} {R : Option Nat} {o : Obj} (h : (w.alloc o).grownBy w' R) : w.grownBy w' R := by
  have hs := h.size
  rw [World.size_alloc] at hs
  exact ⟨h.os, h.tape, h.output, by omega, fun k hk hne => (h.block k (by rw [World.size_alloc]; omega) hne).trans (Below.heap_alloc _ _ _ hk)⟩

end Go.Proofs.YtglaocghcgcghaaGreatDoor
namespace Go.Proofs.YtglaocghcgcghaaGreatDoor
open Go.RowKit

/-- A reader that was just made. -/
theorem Rd.made {w : World} {ao : Option Addr} {l : List UInt8} {cap : Nat} (hs : Sees w ao l) (hl : l.length ≤ 140737488355000) : Rd (w.alloc (.cells #[.slice ao l.length cap, .int .i64 0] 199)) w.heap.size ao l cap 0 := by
  refine ⟨by simp [go_sem], by simp [go_sem], by simp [go_sem], by omega, hl, hs.below ((Below.refl _ _).alloc (Nat.le_refl _) _) (Nat.le_refl _), fun hne a ea e => ?_⟩
  obtain ⟨a', ea', hc⟩ := hs 0 (by omega)
  obtain rfl := Option.some.inj (ea.symm.trans ea')
  have := World.block_lt_of_cell? _ _ hc
  rw [Addr.add_block] at this
  omega
theorem below_made {w w' : World} {o : Obj} (h : (w.alloc o).grownBy w' (some w.heap.size)) : Below w.heap.size w w' :=
  ⟨h.os, h.tape, h.output, by have := h.size; rw [World.size_alloc] at this; omega, fun k hk => (h.block k (by rw [World.size_alloc]; omega) (fun e => by have := Option.some.inj e; omega)).trans (Below.heap_alloc _ _ _ hk)⟩
theorem err_alloc {w : World} {u : TypeId} {pv : Value} (he : Err w u pv) (o : Obj) : Err (w.alloc o) u pv := by
  unfold Err at he ⊢
  rw [World.cell?_of_block (Below.heap_alloc _ _ _ (World.block_lt_of_cell? _ _ he)), he]
theorem Err.below {w w' : World} {u : TypeId} {pv : Value} (he : Err w u pv) {B : Nat} (hb : Below B w w') (hB : w.heap.size ≤ B) : Err w' u pv := by
  unfold Err at he ⊢
  have := World.block_lt_of_cell? _ _ he
  rw [hb.cell (p := ⟨4, 0, none⟩) (by omega), he]

theorem owns_heap {w w' : World} {base : Nat} {e : TypeId} {size : Nat} {v : Value} {n : Nat} {xs : List Value} (h : w.ownsRow base e size v n xs) (hb : ∀ k, v.ownBlock = some k → w'.heap[k]? = w.heap[k]?) : w'.ownsRow base e size v n xs := by
  refine ⟨h.1, ?_⟩
  rcases h.2 with hn | ⟨g, cap, cur, rfl, hg, hh, r⟩
  · exact .inl hn
  · exact .inr ⟨g, cap, cur, rfl, hg, (hb g rfl).trans hh, r⟩
end Go.Proofs.YtglaocghcgcghaaGreatDoor
namespace Go.Proofs.YtglaocghcgcghaaGreatDoor
open Go.RowKit

theorem conv_zero (w : World) (ao : Option Addr) (c : Nat) : (convert 37 9 (.slice ao 0 c)).run Tryz.prog w = .ok (.string ⟨#[]⟩) w := by
  have := conv_sees (w := w) (ao := ao) (l := []) (Sees.nil _ _) (fun _ => rfl) c
  exact this

theorem sees_cut {w : World} {b off : Nat} {l : List UInt8} (h : Sees w (some ⟨b, off, none⟩) l) (m v : Nat) (hv : m + v ≤ l.length) : Sees w (some ⟨b, off + m, none⟩) ((l.drop m).take v) := by
  intro i hi
  rw [List.length_take, List.length_drop] at hi
  obtain ⟨a, e, hc⟩ := h (m + i) (by omega)
  obtain rfl := Option.some.inj e
  refine ⟨_, rfl, ?_⟩
  rw [Addr.add_lit] at hc ⊢
  rw [Nat.add_assoc, hc]
  have : i < v := by omega
  simp [List.getD, this]

set_option maxRecDepth 100000 in
set_option maxHeartbeats 800000 in
theorem text_ok (R : Nat) (ao : Option Addr) (l : List UInt8) (cap n : Nat) (w : World) (s r : List UInt8) (h : Rd w R ao l cap n) (hcap : l.length ≤ cap) (hg : textN (l.drop n) = some (s, r)) :
    Calls Tryz.prog 173 #[.pointer (some ⟨R, 0, none⟩)] w fun e w' => e = .returned (.string ⟨s.toArray⟩) ∧ ∃ m, Rd w' R ao l cap m ∧ l.drop m = r ∧ n < m ∧ w.grownBy w' (some R) := by
  obtain ⟨v, r1, hg1, hv, hs, hr⟩ := textN_some hg
  have hvb := (get_bd hg1).1
  have Hc : Hid _ := number_ok R ao l cap n w v r1 h hg1
  have hvi : (v : Int) ≤ 18446744073709551615 := by omega
  have hll := h.max
  clear hg hg1 hvb h
  go_enter Tryz.func173, Tryz.ntmps173
  go_wp2_with fail
  refine Calls.mono (Hid.out Hc) ?_
  rintro e w1 ⟨rfl, m, hR1, hd, hm, hg1⟩
  have c0 := hR1.c0
  have c1 := hR1.c1
  have f1 := hR1.f1
  have hle := hR1.le
  have hvl : v + m ≤ l.length := by
    have := congrArg List.length hd
    rw [List.length_drop] at this
    omega
  have Hs : Hid (((l.drop m).take v) = s) := by rw [hd]; exact hs
  have Hr : Hid (l.drop (v + m) = r) := by show _ = _; rw [Nat.add_comm, ← List.drop_drop, hd]; exact hr
  clear hs hr hd Hc hv
  go_wp2_with fail
  go_quiet (fail)
  go_wp2_with fail
  have hR2 : Rd ((w1.drewN nq).setCell ⟨R, 1, none⟩ (.int .i64 ((m : Int) + (v : Int)))) R ao l cap (v + m) := (hR1.drewN nq).set (by omega) _ (by omega)
  have hg2 : w.grownBy ((w1.drewN nq).setCell ⟨R, 1, none⟩ (.int .i64 ((m : Int) + (v : Int)))) (some R) := grownBy_setCell (grownBy_drewN hg1 nq)
  generalize (w1.drewN nq).setCell ⟨R, 1, none⟩ (.int .i64 ((m : Int) + (v : Int))) = W2 at *
  have d0 := hR2.c0
  have d1 := hR2.c1
  clear c0 c1 f1 hR1 hg1
  by_cases hv0 : v = 0
  · subst hv0
    have hcv := conv_zero
    by_cases hcm : cap = m
    · subst hcm
      go_quiet (fail)
      go_wp2
      go_ret
      exact ⟨by rw [← Hs.out]; rfl, cap, by simpa using hR2.drewN nq, by simpa using Hr.out, hm, grownBy_drewN hg2 _⟩
    · go_quiet (fail)
      all_goals go_wp2
      all_goals go_ret
      all_goals exact ⟨by rw [← Hs.out]; rfl, m, by simpa using hR2.drewN nq, by simpa using Hr.out, hm, grownBy_drewN hg2 _⟩
  · obtain ⟨b, off, rfl, hc⟩ := sees_at hR2.sees (n := m) (by omega)
    have hsl := sees_cut hR2.sees m v (by omega)
    have hcv := fun k : Nat => conv_sees (w := W2.drewN k) hsl (fun h => by cases h) (cap - m)
    have hlen : ((l.drop m).take v).length = v := by simp; omega
    rw [hlen] at hcv
    rw [Hs.out] at hcv
    have hcm : ¬ cap = m := by omega
    clear hsl hc hlen
    go_quiet (fail)
    go_wp2
    go_ret
    exact ⟨rfl, v + m, hR2.drewN nq, Hr.out, by omega, grownBy_drewN hg2 _⟩

theorem err_grown {w w' : World} {u : TypeId} {pv : Value} {R : Nat} (he : Err w u pv) (hg : w.grownBy w' (some R)) (hER : R ≠ 4) : Err w' u pv := by
  unfold Err at he ⊢
  rw [World.cell?_of_block (hg.block _ (World.block_lt_of_cell? _ _ he) (fun e => hER (Option.some.inj e).symm)), he]

set_option maxRecDepth 100000 in
set_option maxHeartbeats 800000 in
theorem text_no (R : Nat) (ao : Option Addr) (l : List UInt8) (cap n : Nat) (w : World) (u : TypeId) (pv : Value) (h : Rd w R ao l cap n) (hg : textN (l.drop n) = none) (he : Err w u pv) (hER : R ≠ 4) :
    Calls Tryz.prog 173 #[.pointer (some ⟨R, 0, none⟩)] w fun e w' => e = .panicked [{ v := .iface u pv, recovered := false }] ∧ ∃ m, Rd w' R ao l cap m ∧ w.grownBy w' (some R) := by
  rcases textN_none hg with hg0 | ⟨v, r1, hg1, hv⟩
  · have Hc : Hid _ := number_no R ao l cap n w u pv h hg0 he hER
    clear hg hg0
    go_enter Tryz.func173, Tryz.ntmps173
    go_wp2_with fail
    refine Calls.mono (Hid.out Hc) ?_
    rintro e w1 ⟨rfl, m, hR1, hg1⟩
    go_wp2_with fail
    exact ⟨rfl, rfl, m, hR1, hg1⟩
  · have hvb := (get_bd hg1).1
    have Hc : Hid _ := number_ok R ao l cap n w v r1 h hg1
    have hvi : (v : Int) ≤ 18446744073709551615 := by omega
    have hll := h.max
    clear hg hg1 hvb h
    go_enter Tryz.func173, Tryz.ntmps173
    go_wp2_with fail
    refine Calls.mono (Hid.out Hc) ?_
    rintro e w1 ⟨rfl, m, hR1, hd, hm, hg1⟩
    have c0 := hR1.c0
    have c1 := hR1.c1
    have hle := hR1.le
    have hvl : l.length < v + m := by
      have := congrArg List.length hd
      rw [List.length_drop] at this
      omega
    have he1 := err_grown he hg1 hER
    unfold Err at he1
    clear hd Hc hv
    go_wp2_with fail
    go_quiet (fail)
    go_wp2_with fail
    exact ⟨rfl, rfl, m, hR1.drewN _, grownBy_drewN hg1 _⟩
end Go.Proofs.YtglaocghcgcghaaGreatDoor
namespace Go.Proofs.YtglaocghcgcghaaGreatDoor
open Go.RowKit

/-- What GetText tells of bytes: the text, and how many bytes it has. -/
def txtS (l : List UInt8) : List UInt8 := match textN l with | some (s, _) => s | none => []
def txtK (l : List UInt8) : Nat := match textN l with | some (_, r) => l.length - r.length | none => 0
end Go.Proofs.YtglaocghcgcghaaGreatDoor
namespace Go.Proofs.YtglaocghcgcghaaGreatDoor
open Go.RowKit

/-- How a method of the reader ends: with what the bytes begin with, or with the readers' panic. -/
def Reads {α : Type} (p : Option (α × List UInt8)) (val : α → Value) (u : TypeId) (pv : Value) (w : World) (R : Nat) (ao : Option Addr) (l : List UInt8) (cap n : Nat) (e : Ending) (w' : World) : Prop :=
  match p with
  | some (x, r) => e = .returned (val x) ∧ ∃ m, Rd w' R ao l cap m ∧ l.drop m = r ∧ n < m ∧ w.grownBy w' (some R)
  | none => e = .panicked [{ v := .iface u pv, recovered := false }] ∧ ∃ m, Rd w' R ao l cap m ∧ w.grownBy w' (some R)

/-- What a method of the reader needs: the reader, in memory that has what it panics with. -/
structure Ready (w : World) (u : TypeId) (pv : Value) (R : Nat) (ao : Option Addr) (l : List UInt8) (cap n : Nat) : Prop where
  rd : Rd w R ao l cap n
  err : Err w u pv
  ne : R ≠ 4
  cap : l.length ≤ cap

/-- Inside a method: two blocks of its own are laid; what it knows of them. -/
structure Mid (w wr : World) (u : TypeId) (pv : Value) (R : Nat) (ao : Option Addr) (l : List UInt8) (cap m : Nat) (t : TypeId) (zero cs : Array Value) : Prop where
  ready : Ready wr u pv R ao l cap m
  grown : w.grownBy wr (some R)
  res : Box wr w.heap.size zero t
  box : Box wr (w.heap.size + 1) cs t

theorem Ready.grown {w w' : World} {u : TypeId} {pv : Value} {R : Nat} {ao : Option Addr} {l : List UInt8} {cap n m : Nat} (h : Ready w u pv R ao l cap n) (hr : Rd w' R ao l cap m) (hg : w.grownBy w' (some R)) : Ready w' u pv R ao l cap m :=
  ⟨hr, err_grown h.err hg h.ne, h.ne, h.cap⟩
theorem Box.grown {w w' : World} {g : Nat} {cs : Array Value} {t : TypeId} {R : Nat} (h : Box w g cs t) (hg : w.grownBy w' (some R)) (hne : R ≠ g) : Box w' g cs t :=
  h.carry (hg.block g h.lt (fun e => hne (Option.some.inj e).symm))
theorem Box.set {w : World} {g : Nat} {cs : Array Value} {t : TypeId} (h : Box w g cs t) (i : Nat) (v : Value) : Box (w.setCell ⟨g, i, none⟩ v) g (cs.setIfInBounds i v) t := by
  refine ⟨?_⟩
  simp only [World.setCell, Array.getElem?_modify, h.heap]
  simp
theorem Box.setOther {w : World} {g : Nat} {cs : Array Value} {t : TypeId} (h : Box w g cs t) {a : Addr} (v : Value) (hne : a.block ≠ g) : Box (w.setCell a v) g cs t :=
  h.carry (Below.heap_setCell _ _ _ _ (fun e => hne e.symm))

section
variable {w wr : World} {u : TypeId} {pv : Value} {R : Nat} {ao : Option Addr} {l : List UInt8} {cap n m : Nat} {t : TypeId} {zero cs : Array Value}
theorem Mid.start (h : Ready w u pv R ao l cap n) (t : TypeId) (zero : Array Value) : Mid w ((w.alloc (.cells zero t)).alloc (.cells zero t)) u pv R ao l cap n t zero zero := by
  have e : ∀ k, k < w.heap.size → ((w.alloc (.cells zero t)).alloc (.cells zero t)).heap[k]? = w.heap[k]? := fun k hk => by
    rw [Below.heap_alloc _ _ _ (by rw [World.size_alloc]; omega), Below.heap_alloc _ _ _ hk]
  have hb : w.grownBy ((w.alloc (.cells zero t)).alloc (.cells zero t)) (some R) := ⟨rfl, rfl, rfl, by rw [World.size_alloc, World.size_alloc]; omega, fun k hk _ => e k hk⟩
  refine ⟨⟨h.rd.carry e, err_alloc (err_alloc h.err _) _, h.ne, h.cap⟩, hb, (Box.new w zero t).alloc _, ?_⟩
  have := Box.new (w.alloc (.cells zero t)) zero t
  rwa [World.size_alloc] at this
theorem Mid.call {w' : World} {m' : Nat} (h : Mid w wr u pv R ao l cap m t zero cs) (hR : R < w.heap.size) (hr : Rd w' R ao l cap m') (hg : wr.grownBy w' (some R)) : Mid w w' u pv R ao l cap m' t zero cs :=
  ⟨h.ready.grown hr hg, grownBy_trans h.grown hg, h.res.grown hg (by omega), h.box.grown hg (by omega)⟩
theorem Mid.set (h : Mid w wr u pv R ao l cap m t zero cs) (h0 : Ready w u pv R ao l cap n) (i : Nat) (v : Value) : Mid w (wr.setCell ⟨w.heap.size + 1, i, none⟩ v) u pv R ao l cap m t zero (cs.setIfInBounds i v) := by
  have hE : 4 < w.heap.size := World.block_lt_of_cell? w ⟨4, 0, none⟩ h0.err
  refine ⟨⟨h.ready.rd.setOther h0.rd.sees h0.rd.lt (by simp) _, ?_, h.ready.ne, h.ready.cap⟩, grownBy_setNew h.grown (by simp), h.res.setOther _ (by simp), h.box.set i v⟩
  have := h.ready.err
  unfold Err at this ⊢
  rw [World.cell?_setCell_other _ _ _ _ (by intro e; have h' : w.heap.size + 1 = 4 := congrArg Addr.block e; omega)]
  exact this
theorem Mid.put (h : Mid w wr u pv R ao l cap m t zero cs) (h0 : Ready w u pv R ao l cap n) (i : Nat) (v : Value) : Mid w (wr.setCell ⟨w.heap.size, i, none⟩ v) u pv R ao l cap m t (zero.setIfInBounds i v) cs := by
  have hE : 4 < w.heap.size := World.block_lt_of_cell? w ⟨4, 0, none⟩ h0.err
  refine ⟨⟨h.ready.rd.setOther h0.rd.sees h0.rd.lt (by simp) _, ?_, h.ready.ne, h.ready.cap⟩, grownBy_setNew h.grown (by simp), h.res.set i v, h.box.setOther _ (by simp)⟩
  have := h.ready.err
  unfold Err at this ⊢
  rw [World.cell?_setCell_other _ _ _ _ (by intro e; have h' : w.heap.size = 4 := congrArg Addr.block e; omega)]
  exact this
end

theorem kindZ_wrap {v : Nat} (h : v < 18446744073709551616) : IntKind.i64.wrap (v : Int) = kindZ v := by
  unfold kindZ
  rw [IntKind.wrap_i64]
  split <;> omega
theorem zag_nat (v : Nat) (w : World) (h : v < 18446744073709551616) : Calls Tryz.prog 176 #[.int .u64 v] w fun e w' => e = .returned (.int .i64 (zagZ v)) ∧ w' = w := zag_any v w (by omega) (by omega)

theorem number_any (R : Nat) (ao : Option Addr) (l : List UInt8) (cap n : Nat) (w : World) (u : TypeId) (pv : Value) (h : Ready w u pv R ao l cap n) :
    Calls Tryz.prog 169 #[.pointer (some ⟨R, 0, none⟩)] w (Reads (getN 0 0 (l.drop n)) (fun v : Nat => .int .u64 (v : Int)) u pv w R ao l cap n) := by
  unfold Reads
  cases hg : getN 0 0 (l.drop n) with
  | none => exact number_no R ao l cap n w u pv h.rd hg h.err h.ne
  | some x => exact number_ok R ao l cap n w x.1 x.2 h.rd hg
theorem text_any (R : Nat) (ao : Option Addr) (l : List UInt8) (cap n : Nat) (w : World) (u : TypeId) (pv : Value) (h : Ready w u pv R ao l cap n) :
    Calls Tryz.prog 173 #[.pointer (some ⟨R, 0, none⟩)] w (Reads (textN (l.drop n)) (fun s : List UInt8 => .string (bytesOf s)) u pv w R ao l cap n) := by
  unfold Reads
  cases hg : textN (l.drop n) with
  | none => exact text_no R ao l cap n w u pv h.rd hg h.err h.ne
  | some x => exact text_ok R ao l cap n w x.1 x.2 h.rd h.cap hg

set_option maxRecDepth 100000 in
set_option maxHeartbeats 800000 in
theorem signed_any (R : Nat) (ao : Option Addr) (l : List UInt8) (cap n : Nat) (w : World) (u : TypeId) (pv : Value) (h : Ready w u pv R ao l cap n) :
    Calls Tryz.prog 174 #[.pointer (some ⟨R, 0, none⟩)] w (Reads (signN (l.drop n)) (fun v : Int => .int .i64 v) u pv w R ao l cap n) := by
  have Hc : Hid _ := number_any R ao l cap n w u pv h
  cases hg : getN 0 0 (l.drop n) with
  | none =>
    have hp : signN (l.drop n) = none := by unfold signN; rw [hg]
    rw [hp]
    rw [hg] at Hc
    clear hg hp
    go_enter Tryz.func174, Tryz.ntmps174
    go_wp2_with fail
    refine Calls.mono (Hid.out Hc) ?_
    rintro e w1 ⟨rfl, m, hR1, hg1⟩
    go_wp2_with fail
    exact ⟨rfl, rfl, m, hR1, hg1⟩
  | some x =>
    obtain ⟨v, r⟩ := x
    have hp : signN (l.drop n) = some (zagZ v, r) := by unfold signN; rw [hg]
    have Hv : Hid (v < 18446744073709551616) := (get_bd hg).1
    rw [hp]
    rw [hg] at Hc
    clear hg hp
    go_enter Tryz.func174, Tryz.ntmps174
    go_wp2_with fail
    refine Calls.mono (Hid.out Hc) ?_
    rintro e w1 ⟨rfl, m, hR1, hd1, hm1, hg1⟩
    go_wp2_with fail
    refine Calls.mono (zag_nat v _ Hv.out) ?_
    rintro e w2 ⟨rfl, rfl⟩
    go_wp2_with fail
    go_ret
    exact ⟨rfl, m, hR1, hd1, hm1, hg1⟩

def keyZ : Array Value := #[.string ⟨#[]⟩, .string ⟨#[]⟩, .int .i64 0, .string ⟨#[]⟩]
set_option maxRecDepth 100000 in
set_option maxHeartbeats 1600000 in
theorem key_any (R : Nat) (ao : Option Addr) (l : List UInt8) (cap n : Nat) (w : World) (u : TypeId) (pv : Value) (h : Ready w u pv R ao l cap n) :
    Calls Tryz.prog 170 #[.pointer (some ⟨R, 0, none⟩)] w (Reads (keyN (l.drop n)) (fun k : KeyV => .agg (keyA k)) u pv w R ao l cap n) := by
  have H0 : Hid (Mid _ _ _ _ _ _ _ _ _ _ _ _) := Mid.start h 44 keyZ
  have HR : Hid (R < w.heap.size) := h.rd.lt
  have Hr : Hid (Ready _ _ _ _ _ _ _ _) := h
  clear h
  unfold keyZ at *
  go_enter Tryz.func170, Tryz.ntmps170
  go_wp2_with fail
  have Hc : Hid _ := text_any R ao l cap n _ u pv H0.out.ready
  cases h1 : textN (l.drop n) with
  | none =>
    have hp : keyN (l.drop n) = none := by unfold keyN; simp only [h1]
    rw [h1] at Hc
    refine Calls.mono (Hid.out Hc) ?_
    rintro e w1 ⟨rfl, m, hR1, hg1⟩
    clear h1
    have HM := H0.out.call HR.out hR1 hg1
    go_wp2_with fail
    rw [hp]
    exact ⟨rfl, rfl, m, hR1, HM.grown⟩
  | some x1 =>
  obtain ⟨s1, r1⟩ := x1
  rw [h1] at Hc
  refine Calls.mono (Hid.out Hc) ?_
  rintro e w1 ⟨rfl, m1, hR1, hd1, hm1, hg1⟩
  have H1a : Hid (Mid _ _ _ _ _ _ _ _ _ _ _ _) := H0.out.call HR.out hR1 hg1
  have p0 := H1a.out.box.cell 0
  have q0 := H1a.out.box.frozen 0
  have Hh1 : Hid _ := h1
  have H1 : Hid (Mid _ _ _ _ _ _ _ _ _ _ _ _) := H1a.out.set Hr.out 0 (.string (bytesOf s1))
  clear Hc h1 hR1 hg1
  go_wp2_with fail
  clear p0 q0
  have Hc : Hid _ := text_any R ao l cap m1 _ u pv H1.out.ready
  cases h2 : textN (l.drop m1) with
  | none =>
    have hp : keyN (l.drop n) = none := by unfold keyN; simp only [Hid.out Hh1, ← hd1, h2]
    rw [h2] at Hc
    refine Calls.mono (Hid.out Hc) ?_
    rintro e w2 ⟨rfl, m, hR2, hg2⟩
    clear h2
    have HM := H1.out.call HR.out hR2 hg2
    go_wp2_with fail
    rw [hp]
    exact ⟨rfl, rfl, m, hR2, HM.grown⟩
  | some x2 =>
  obtain ⟨s2, r2⟩ := x2
  rw [h2] at Hc
  refine Calls.mono (Hid.out Hc) ?_
  rintro e w2 ⟨rfl, m2, hR2, hd2, hm2, hg2⟩
  have H2a : Hid (Mid _ _ _ _ _ _ _ _ _ _ _ _) := H1.out.call HR.out hR2 hg2
  have p1 := H2a.out.box.cell 1
  have q1 := H2a.out.box.frozen 1
  have Hh2 : Hid _ := h2
  have H2 : Hid (Mid _ _ _ _ _ _ _ _ _ _ _ _) := H2a.out.set Hr.out 1 (.string (bytesOf s2))
  clear Hc h2 hR2 hg2
  go_wp2_with fail
  clear p1 q1
  have Hc : Hid _ := signed_any R ao l cap m2 _ u pv H2.out.ready
  cases h3 : signN (l.drop m2) with
  | none =>
    have hp : keyN (l.drop n) = none := by unfold keyN; simp only [Hid.out Hh1, Hid.out Hh2, ← hd1, ← hd2, h3]
    rw [h3] at Hc
    refine Calls.mono (Hid.out Hc) ?_
    rintro e w3 ⟨rfl, m, hR3, hg3⟩
    clear h3
    have HM := H2.out.call HR.out hR3 hg3
    go_wp2_with fail
    rw [hp]
    exact ⟨rfl, rfl, m, hR3, HM.grown⟩
  | some x3 =>
  obtain ⟨s3, r3⟩ := x3
  rw [h3] at Hc
  refine Calls.mono (Hid.out Hc) ?_
  rintro e w3 ⟨rfl, m3, hR3, hd3, hm3, hg3⟩
  have H3a : Hid (Mid _ _ _ _ _ _ _ _ _ _ _ _) := H2.out.call HR.out hR3 hg3
  have p2 := H3a.out.box.cell 2
  have q2 := H3a.out.box.frozen 2
  have Hh3 : Hid _ := h3
  have H3 : Hid (Mid _ _ _ _ _ _ _ _ _ _ _ _) := H3a.out.set Hr.out 2 (.int .i64 s3)
  clear Hc h3 hR3 hg3
  go_wp2_with fail
  clear p2 q2
  have Hc : Hid _ := text_any R ao l cap m3 _ u pv H3.out.ready
  cases h4 : textN (l.drop m3) with
  | none =>
    have hp : keyN (l.drop n) = none := by unfold keyN; simp only [Hid.out Hh1, Hid.out Hh2, Hid.out Hh3, ← hd1, ← hd2, ← hd3, h4]
    rw [h4] at Hc
    refine Calls.mono (Hid.out Hc) ?_
    rintro e w4 ⟨rfl, m, hR4, hg4⟩
    clear h4
    have HM := H3.out.call HR.out hR4 hg4
    go_wp2_with fail
    rw [hp]
    exact ⟨rfl, rfl, m, hR4, HM.grown⟩
  | some x4 =>
  obtain ⟨s4, r4⟩ := x4
  rw [h4] at Hc
  refine Calls.mono (Hid.out Hc) ?_
  rintro e w4 ⟨rfl, m4, hR4, hd4, hm4, hg4⟩
  have H4a : Hid (Mid _ _ _ _ _ _ _ _ _ _ _ _) := H3.out.call HR.out hR4 hg4
  have p3 := H4a.out.box.cell 3
  have q3 := H4a.out.box.frozen 3
  have Hh4 : Hid _ := h4
  have H4 : Hid (Mid _ _ _ _ _ _ _ _ _ _ _ _) := H4a.out.set Hr.out 3 (.string (bytesOf s4))
  clear Hc h4 hR4 hg4
  have z0 := H4.out.res.cell 0
  have y0 := H4.out.res.frozen 0
  have z1 := H4.out.res.cell 1
  have y1 := H4.out.res.frozen 1
  have z2 := H4.out.res.cell 2
  have y2 := H4.out.res.frozen 2
  have z3 := H4.out.res.cell 3
  have y3 := H4.out.res.frozen 3
  have x0 := H4.out.box.cell 0
  have x1 := H4.out.box.cell 1
  have x2 := H4.out.box.cell 2
  have x3 := H4.out.box.cell 3
  go_wp2_with fail
  have HF : Mid _ _ _ _ _ _ _ _ _ _ _ _ := ((((H4.out.put Hr.out 0 (.string (bytesOf s1))).put Hr.out 1 (.string (bytesOf s2))).put Hr.out 2 (.int .i64 s3)).put Hr.out 3 (.string (bytesOf s4)))
  have hp : keyN (l.drop n) = some ((⟨bytesOf s1, bytesOf s2, s3, bytesOf s4⟩ : KeyV), r4) := by unfold keyN; simp only [Hid.out Hh1, Hid.out Hh2, Hid.out Hh3, Hid.out Hh4, ← hd1, ← hd2, ← hd3]
  rw [hp]
  refine bodyPost_ret (v := .agg (keyA (⟨bytesOf s1, bytesOf s2, s3, bytesOf s4⟩ : KeyV))) (results_cell_row Tryz.results170 _ _ w.heap.size 44 _ _ _ rfl (by exact HF.res.heap) Tryz.underlying44 rfl (by kernel_rfl)) rfl ?_
  exact ⟨rfl, m4, HF.ready.rd, hd4, by omega, HF.grown⟩
def valZ : Array Value := #[.int .i64 0, .int .i64 0, .string ⟨#[]⟩]
set_option maxRecDepth 100000 in
set_option maxHeartbeats 1600000 in
theorem value_any (R : Nat) (ao : Option Addr) (l : List UInt8) (cap n : Nat) (w : World) (u : TypeId) (pv : Value) (h : Ready w u pv R ao l cap n) :
    Calls Tryz.prog 175 #[.pointer (some ⟨R, 0, none⟩)] w (Reads (valN (l.drop n)) (fun k : ValV => .agg (valA k)) u pv w R ao l cap n) := by
  have H0 : Hid (Mid _ _ _ _ _ _ _ _ _ _ _ _) := Mid.start h 46 valZ
  have HR : Hid (R < w.heap.size) := h.rd.lt
  have Hr : Hid (Ready _ _ _ _ _ _ _ _) := h
  clear h
  unfold valZ at *
  go_enter Tryz.func175, Tryz.ntmps175
  go_wp2_with fail
  have Hc : Hid _ := number_any R ao l cap n _ u pv H0.out.ready
  cases h1 : getN 0 0 (l.drop n) with
  | none =>
    have hp : valN (l.drop n) = none := by unfold valN; simp only [h1]
    rw [h1] at Hc
    refine Calls.mono (Hid.out Hc) ?_
    rintro e w1 ⟨rfl, m, hR1, hg1⟩
    clear h1
    have HM := H0.out.call HR.out hR1 hg1
    go_wp2_with fail
    rw [hp]
    exact ⟨rfl, rfl, m, hR1, HM.grown⟩
  | some x1 =>
  obtain ⟨s1, r1⟩ := x1
  rw [h1] at Hc
  refine Calls.mono (Hid.out Hc) ?_
  rintro e w1 ⟨rfl, m1, hR1, hd1, hm1, hg1⟩
  have H1a : Hid (Mid _ _ _ _ _ _ _ _ _ _ _ _) := H0.out.call HR.out hR1 hg1
  have p0 := H1a.out.box.cell 0
  have q0 := H1a.out.box.frozen 0
  have Hh1 : Hid _ := h1
  have H1 : Hid (Mid _ _ _ _ _ _ _ _ _ _ _ _) := H1a.out.set Hr.out 0 (.int .i64 (kindZ s1))
  clear Hc h1 hR1 hg1
  have hkz := kindZ_wrap (get_bd Hh1.out).1
  go_wp2_with fail
  clear p0 q0
  have Hc : Hid _ := signed_any R ao l cap m1 _ u pv H1.out.ready
  cases h2 : signN (l.drop m1) with
  | none =>
    have hp : valN (l.drop n) = none := by unfold valN; simp only [Hid.out Hh1, ← hd1, h2]
    rw [h2] at Hc
    refine Calls.mono (Hid.out Hc) ?_
    rintro e w2 ⟨rfl, m, hR2, hg2⟩
    clear h2
    have HM := H1.out.call HR.out hR2 hg2
    go_wp2_with fail
    rw [hp]
    exact ⟨rfl, rfl, m, hR2, HM.grown⟩
  | some x2 =>
  obtain ⟨s2, r2⟩ := x2
  rw [h2] at Hc
  refine Calls.mono (Hid.out Hc) ?_
  rintro e w2 ⟨rfl, m2, hR2, hd2, hm2, hg2⟩
  have H2a : Hid (Mid _ _ _ _ _ _ _ _ _ _ _ _) := H1.out.call HR.out hR2 hg2
  have p1 := H2a.out.box.cell 1
  have q1 := H2a.out.box.frozen 1
  have Hh2 : Hid _ := h2
  have H2 : Hid (Mid _ _ _ _ _ _ _ _ _ _ _ _) := H2a.out.set Hr.out 1 (.int .i64 s2)
  clear Hc h2 hR2 hg2
  go_wp2_with fail
  clear p1 q1
  have Hc : Hid _ := text_any R ao l cap m2 _ u pv H2.out.ready
  cases h3 : textN (l.drop m2) with
  | none =>
    have hp : valN (l.drop n) = none := by unfold valN; simp only [Hid.out Hh1, Hid.out Hh2, ← hd1, ← hd2, h3]
    rw [h3] at Hc
    refine Calls.mono (Hid.out Hc) ?_
    rintro e w3 ⟨rfl, m, hR3, hg3⟩
    clear h3
    have HM := H2.out.call HR.out hR3 hg3
    go_wp2_with fail
    rw [hp]
    exact ⟨rfl, rfl, m, hR3, HM.grown⟩
  | some x3 =>
  obtain ⟨s3, r3⟩ := x3
  rw [h3] at Hc
  refine Calls.mono (Hid.out Hc) ?_
  rintro e w3 ⟨rfl, m3, hR3, hd3, hm3, hg3⟩
  have H3a : Hid (Mid _ _ _ _ _ _ _ _ _ _ _ _) := H2.out.call HR.out hR3 hg3
  have p2 := H3a.out.box.cell 2
  have q2 := H3a.out.box.frozen 2
  have Hh3 : Hid _ := h3
  have H3 : Hid (Mid _ _ _ _ _ _ _ _ _ _ _ _) := H3a.out.set Hr.out 2 (.string (bytesOf s3))
  clear Hc h3 hR3 hg3
  have z0 := H3.out.res.cell 0
  have y0 := H3.out.res.frozen 0
  have z1 := H3.out.res.cell 1
  have y1 := H3.out.res.frozen 1
  have z2 := H3.out.res.cell 2
  have y2 := H3.out.res.frozen 2
  have x0 := H3.out.box.cell 0
  have x1 := H3.out.box.cell 1
  have x2 := H3.out.box.cell 2
  go_wp2_with fail
  have HF : Mid _ _ _ _ _ _ _ _ _ _ _ _ := (((H3.out.put Hr.out 0 (.int .i64 (kindZ s1))).put Hr.out 1 (.int .i64 s2)).put Hr.out 2 (.string (bytesOf s3)))
  have hp : valN (l.drop n) = some ((⟨kindZ s1, s2, bytesOf s3⟩ : ValV), r3) := by unfold valN; simp only [Hid.out Hh1, Hid.out Hh2, Hid.out Hh3, ← hd1, ← hd2]
  rw [hp]
  refine bodyPost_ret (v := .agg (valA (⟨kindZ s1, s2, bytesOf s3⟩ : ValV))) (results_cell_row Tryz.results175 _ _ w.heap.size 46 _ _ _ rfl (by exact HF.res.heap) Tryz.underlying46 rfl (by kernel_rfl)) rfl ?_
  exact ⟨rfl, m3, HF.ready.rd, hd3, by omega, HF.grown⟩
end Go.Proofs.YtglaocghcgcghaaGreatDoor
namespace Go.Proofs.YtglaocghcgcghaaGreatDoor
open Go.RowKit

/-- A row of nothing, just made. -/
theorem owns_none (w : World) : (w.alloc (.cells #[] 5)).ownsRow w.heap.size 5 1 (.slice (some ⟨w.heap.size, 0, none⟩) 0 0) 0 [] := World.ownsRow_made w #[] 0 (Nat.le_refl _) (by decide) rfl
theorem below_none {w w' : World} {v : Value} (h : Grew (w.alloc (.cells #[] 5)) w' (.slice (some ⟨w.heap.size, 0, none⟩) 0 0) v) : Below w.heap.size w w' :=
  ((Below.refl _ _).alloc (Nat.le_refl _) _).trans (h.below (by rw [World.size_alloc]; omega) (fun k hk => by cases hk; exact Nat.le_refl _))

end Go.Proofs.YtglaocghcgcghaaGreatDoor
