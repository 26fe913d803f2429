/-
  CONTRACTS: the document's reader: a number, a text, in every state.
-/
import Derived.Test.YtakokhdnccaclaaDoorCellRead2
import Derived.Test.YtakokhdnccaclaaDoorRefText
namespace Go.Proofs.YtakokhdnccaclaaDoor
open Go.RowKit

/-- The document's reader in block R: lb is left; is it wrong? -/
structure RS (w : World) (R : Nat) (lb : List UInt8) (wr : Bool) : Prop where
  ex : ∃ ao cap, Box w R #[.slice ao lb.length cap, .bool wr] 85 ∧ Sees w ao lb ∧ (ao = none → lb.length = 0) ∧ lb.length ≤ cap ∧ (lb.length ≠ 0 → ∀ a, ao = some a → a.block < R)
  max : lb.length ≤ 1000000000

theorem RS.lt {w : World} {R : Nat} {lb : List UInt8} {wr : Bool} (h : RS w R lb wr) : R < w.heap.size := by
  obtain ⟨ao, cap, hB, _⟩ := h.ex
  exact hB.lt
theorem RS.carry {w w' : World} {R : Nat} {lb : List UInt8} {wr : Bool} (h : RS w R lb wr) (hb : ∀ k, k ≤ R → w'.heap[k]? = w.heap[k]?) : RS w' R lb wr := by
  obtain ⟨ao, cap, hB, hs, hn, hc, ho⟩ := h.ex
  refine ⟨⟨ao, cap, hB.carry (hb R (Nat.le_refl _)), fun i hi => ?_, hn, hc, ho⟩, h.max⟩
  obtain ⟨a, e, hv⟩ := hs i hi
  refine ⟨a, e, ?_⟩
  rw [World.cell?_of_block (hb _ (by rw [Addr.add_block]; exact Nat.le_of_lt (ho (by omega) a e))), hv]
/-- Bytes lie ahead of the reader: a store into it leaves them. -/
theorem sees_setR {w : World} {R i : Nat} {ao : Option Addr} {lb : List UInt8} {v : Value} (hs : Sees w ao lb) (ho : lb.length ≠ 0 → ∀ a, ao = some a → a.block < R) : Sees (w.setCell ⟨R, i, none⟩ v) ao lb := by
  intro j hj
  obtain ⟨a, e, hc⟩ := hs j hj
  refine ⟨a, e, ?_⟩
  rw [World.cell?_setCell_other _ _ _ _ (fun e' => by have h1 := ho (by omega) a e; have h2 := congrArg Addr.block e'; rw [Addr.add_block] at h2; simp at h2; omega), hc]

/-- What reading a number, a text does to what is left. -/
def nS (x : List UInt8 × Bool) : Nat × (List UInt8 × Bool) := match getN 0 0 x.1 with | some (v, r) => (v, (r, x.2)) | none => (0, ([], true))
def tS (x : List UInt8 × Bool) : List UInt8 × (List UInt8 × Bool) := match textN x.1 with | some (s, r) => (s, (r, x.2)) | none => ([], ([], true))
theorem getN_back_drop {l : List UInt8} {v : Nat} {r : List UInt8} (h : getN 0 0 l = some (v, r)) : l.drop (l.length - r.length) = r ∧ r.length < l.length := ⟨getN_drop h, (get_bd h).2⟩
theorem textN_drop {l s r : List UInt8} (h : textN l = some (s, r)) : l.drop (l.length - r.length) = r ∧ r.length < l.length := by
  obtain ⟨v, r1, h1, h2, h3, h4⟩ := textN_some h
  have h5 := getN_drop h1
  have h6 := (get_bd h1).2
  have h7 : r.length = r1.length - v := by rw [← h4, List.length_drop]
  refine ⟨?_, by omega⟩
  rw [← h4]
  conv => rhs; rw [← h5]
  rw [List.drop_drop]
  congr 1
  rw [List.length_drop]
  omega

/-- A reader that goes n bytes on. -/
theorem RS.on {w : World} {R n cap : Nat} {b off : Nat} {lb r : List UInt8} {wr : Bool} (hB : Box w R #[.slice (some ⟨b, off, none⟩) lb.length cap, .bool wr] 85) (hs : Sees w (some ⟨b, off, none⟩) lb) (hc : lb.length ≤ cap) (ho : lb.length ≠ 0 → ∀ a, some (⟨b, off, none⟩ : Addr) = some a → a.block < R) (hm : lb.length ≤ 1000000000)
    (hd : lb.drop n = r) (hn : n ≤ lb.length) (h0 : lb.length ≠ 0) : RS (w.setCell ⟨R, 0, none⟩ (.slice (some ⟨b, off + n, none⟩) (lb.length - n) (cap - n))) R r wr := by
  have hr : r.length = lb.length - n := by rw [← hd, List.length_drop]
  refine ⟨⟨some ⟨b, off + n, none⟩, cap - n, ?_, ?_, (fun e => by cases e), by omega, fun _ a e => ?_⟩, by omega⟩
  · have := hB.set 0 (.slice (some ⟨b, off + n, none⟩) (lb.length - n) (cap - n))
    rw [hr]
    exact this
  · have h1 := sees_cut hs n (lb.length - n) (by omega)
    rw [List.take_of_length_le (by rw [List.length_drop]; omega), hd] at h1
    refine sees_setR h1 (fun _ a e => ?_)
    obtain rfl := Option.some.inj e
    exact ho h0 ⟨b, off, none⟩ rfl
  · obtain rfl := Option.some.inj e
    exact ho h0 ⟨b, off, none⟩ rfl
/-- .. to its end, where memory ends, too. -/
theorem RS.off {w : World} {R : Nat} {lb : List UInt8} {wr : Bool} {ao ao' : Option Addr} {n cap : Nat} (hB : Box w R #[.slice ao n cap, .bool wr] 85) (hne : lb = []) : RS (w.setCell ⟨R, 0, none⟩ (.slice ao' 0 0)) R lb wr := by
  subst hne
  exact ⟨⟨ao', 0, hB.set 0 _, Sees.nil _ _, fun _ => rfl, Nat.le_refl _, fun h => absurd rfl h⟩, by simp⟩
theorem RS.wrong {w : World} {R : Nat} {wr : Bool} {ao : Option Addr} {n cap : Nat} (hB : Box w R #[.slice ao n cap, .bool wr] 85) : RS ((w.setCell ⟨R, 1, none⟩ (.bool true)).setCell ⟨R, 0, none⟩ (.slice none 0 0)) R [] true :=
  ⟨⟨none, 0, (hB.set 1 _).set 0 _, Sees.nil _ _, fun _ => rfl, Nat.le_refl _, fun h => absurd rfl h⟩, by simp⟩

set_option maxRecDepth 100000 in
set_option maxHeartbeats 800000 in
theorem refNum_any (R : Nat) (lb : List UInt8) (wr : Bool) (w : World) (h : RS w R lb wr) :
    Calls Tryd.prog 52 #[.pointer (some ⟨R, 0, none⟩)] w fun e w' => e = .returned (.int .u64 ((nS (lb, wr)).1 : Int)) ∧ RS w' R (nS (lb, wr)).2.1 (nS (lb, wr)).2.2 ∧ w.grownBy w' (some R) := by
  obtain ⟨ao, cap, hB, hs, hn, hc, ho⟩ := h.ex
  have hm := h.max
  have c0 := hB.cell 0
  have c1 := hB.cell 1
  have f0 := hB.frozen 0
  have f1 := hB.frozen 1
  have Hg : Hid _ := refGet_any ao lb cap w hs (by omega)
  cases hg : getN 0 0 lb with
  | none =>
    have e1 : nS (lb, wr) = (0, ([], true)) := by unfold nS; simp only [hg]
    have e2 : getV lb = 0 := by unfold getV; rw [hg]
    have e3 : getK lb = 0 := by unfold getK; rw [hg]
    rw [e1]
    rw [e2, e3] at Hg
    clear e1 e2 e3 hg h hn ho
    go_enter Tryd.func52, Tryd.ntmps52
    go_wp2_with fail
    refine Calls.mono (Hid.out Hg) ?_
    rintro e w1 ⟨rfl, rfl⟩
    go_wp2_with fail
    go_ret
    exact ⟨rfl, RS.wrong hB, grownBy_setCell (grownBy_setCell (World.grownBy.refl _ _))⟩
  | some x =>
    obtain ⟨v, r⟩ := x
    have e1 : nS (lb, wr) = (v, (r, wr)) := by unfold nS; simp only [hg]
    have e2 : getV lb = v := by unfold getV; rw [hg]
    have e3 : getK lb = lb.length - r.length := by unfold getK; rw [hg]
    obtain ⟨hd, hrl⟩ := getN_back_drop hg
    rw [e1]
    rw [e2, e3] at Hg
    obtain ⟨b, off, rfl, _⟩ := sees_at hs (n := 0) (by omega)
    generalize hK : lb.length - r.length = K at *
    have hKI : ((K : Int) == 0) = false := by simp; omega
    have hKl : K ≤ lb.length := by omega
    have hKb : (K : Int) ≤ (lb.length : Int) := by omega
    have hne : lb.length ≠ 0 := by omega
    have Hd : Hid (lb.drop K = r) := hd
    clear e1 e2 e3 hg h hn hd
    go_enter Tryd.func52, Tryd.ntmps52
    go_wp2_with fail
    refine Calls.mono (Hid.out Hg) ?_
    rintro e w1 ⟨rfl, rfl⟩
    by_cases hck : cap = K
    · subst hck
      go_wp2_with fail
      go_ret
      refine ⟨rfl, ?_, grownBy_setCell (World.grownBy.refl _ _)⟩
      have e5 : lb.length - cap = 0 := by omega
      first
        | exact RS.off hB (by rw [← Hd.out]; exact List.drop_eq_nil_of_le (by omega))
        | (rw [e5]; exact RS.off hB (by rw [← Hd.out]; exact List.drop_eq_nil_of_le (by omega)))
    · go_wp2_with fail
      go_ret
      exact ⟨rfl, RS.on hB hs hc ho hm Hd.out hKl hne, grownBy_setCell (World.grownBy.refl _ _)⟩

set_option maxRecDepth 100000 in
set_option maxHeartbeats 800000 in
theorem refTextR_any (R : Nat) (lb : List UInt8) (wr : Bool) (w : World) (h : RS w R lb wr) :
    Calls Tryd.prog 62 #[.pointer (some ⟨R, 0, none⟩)] w fun e w' => e = .returned (.string (bytesOf (tS (lb, wr)).1)) ∧ RS w' R (tS (lb, wr)).2.1 (tS (lb, wr)).2.2 ∧ w.grownBy w' (some R) := by
  obtain ⟨ao, cap, hB, hs, hn, hc, ho⟩ := h.ex
  have hm := h.max
  have c0 := hB.cell 0
  have c1 := hB.cell 1
  have f0 := hB.frozen 0
  have f1 := hB.frozen 1
  have Hg : Hid _ := refGetText_any ao lb cap w hs hc (by omega)
  cases hg : textN lb with
  | none =>
    have e1 : tS (lb, wr) = ([], ([], true)) := by unfold tS; simp only [hg]
    have e2 : txtS lb = [] := by unfold txtS; rw [hg]
    have e3 : txtK lb = 0 := by unfold txtK; rw [hg]
    rw [e1]
    rw [e2, e3] at Hg
    clear e1 e2 e3 hg h hn ho
    go_enter Tryd.func62, Tryd.ntmps62
    go_wp2_with fail
    refine Calls.mono (Hid.out Hg) ?_
    rintro e w1 ⟨rfl, rfl⟩
    go_wp2_with fail
    go_ret
    exact ⟨rfl, RS.wrong hB, grownBy_setCell (grownBy_setCell (World.grownBy.refl _ _))⟩
  | some x =>
    obtain ⟨v, r⟩ := x
    have e1 : tS (lb, wr) = (v, (r, wr)) := by unfold tS; simp only [hg]
    have e2 : txtS lb = v := by unfold txtS; rw [hg]
    have e3 : txtK lb = lb.length - r.length := by unfold txtK; rw [hg]
    obtain ⟨hd, hrl⟩ := textN_drop hg
    rw [e1]
    rw [e2, e3] at Hg
    obtain ⟨b, off, rfl, _⟩ := sees_at hs (n := 0) (by omega)
    generalize hK : lb.length - r.length = K at *
    have hKI : ((K : Int) == 0) = false := by simp; omega
    have hKl : K ≤ lb.length := by omega
    have hKb : (K : Int) ≤ (lb.length : Int) := by omega
    have hne : lb.length ≠ 0 := by omega
    have Hd : Hid (lb.drop K = r) := hd
    clear e1 e2 e3 hg h hn hd
    go_enter Tryd.func62, Tryd.ntmps62
    go_wp2_with fail
    refine Calls.mono (Hid.out Hg) ?_
    rintro e w1 ⟨rfl, rfl⟩
    by_cases hck : cap = K
    · subst hck
      go_wp2_with fail
      go_ret
      refine ⟨rfl, ?_, grownBy_setCell (World.grownBy.refl _ _)⟩
      have e5 : lb.length - cap = 0 := by omega
      first
        | exact RS.off hB (by rw [← Hd.out]; exact List.drop_eq_nil_of_le (by omega))
        | (rw [e5]; exact RS.off hB (by rw [← Hd.out]; exact List.drop_eq_nil_of_le (by omega)))
    · go_wp2_with fail
      go_ret
      exact ⟨rfl, RS.on hB hs hc ho hm Hd.out hKl hne, grownBy_setCell (World.grownBy.refl _ _)⟩
end Go.Proofs.YtakokhdnccaclaaDoor
