/-
  CONTRACTS: the numbers that bytes tell (numbers, and its closure).
-/
import Derived.Test.YthihljjefncfoaaDoorManBytes
import Derived.Test.YthihljjefncfoaaDoorRefLend
import Derived.Test.YthihljjefncfoaaDoorLoud
namespace Go.Proofs.YthihljjefncfoaaDoor
open Go.RowKit

/-- The bytes that are left, in the closure's box. -/
def Tk (w : World) (B : Nat) (l : List UInt8) : Prop :=
  ∃ ao cap, Blk w B [.slice ao l.length cap] 25 ∧ Sees w ao l ∧ l.length ≤ cap ∧ cap ≤ 9223372036854775807 ∧ ((ao = none ∧ l.length = 0) ∨ ∃ b off, ao = some ⟨b, off, none⟩ ∧ b < B)
theorem Tk.keep {w w' : World} {B : Nat} {l : List UInt8} (h : Tk w B l) (hk : ∀ i, i ≤ B → w'.heap[i]? = w.heap[i]?) : Tk w' B l := by
  obtain ⟨ao, cap, h1, h2, h3, h4, h5⟩ := h
  refine ⟨ao, cap, h1.carry (hk B (Nat.le_refl _)), fun i hi => ?_, h3, h4, h5⟩
  obtain ⟨a, rfl, hc⟩ := h2 i hi
  rcases h5 with ⟨e, _⟩ | ⟨b, off, e, hb⟩
  · cases e
  · cases e
    exact ⟨_, rfl, by rw [World.cell?_of_block (hk _ (by rw [Addr.add_block]; exact Nat.le_of_lt hb))]; exact hc⟩
theorem sees_dropM {w : World} {b off : Nat} {l : List UInt8} (h : Sees w (some ⟨b, off, none⟩) l) (k : Nat) : Sees w (some ⟨b, off + k, none⟩) (l.drop k) := by
  intro i hi
  rw [List.length_drop] at hi
  obtain ⟨a, e, hc⟩ := h (k + i) (by omega)
  obtain rfl := Option.some.inj e
  refine ⟨_, rfl, ?_⟩
  rw [Addr.add_lit] at hc ⊢
  rw [Nat.add_assoc, hc]
  simp [List.getD, List.getElem?_drop]
/-- The box behind a number is taken. -/
theorem Tk.next {w w1 : World} {B b off : Nat} {l : List UInt8} {cap k : Nat} (h1 : Blk w B [.slice (some ⟨b, off, none⟩) l.length cap] 25) (h2 : Sees w (some ⟨b, off, none⟩) l) (hb : b < B) (hk : k ≤ l.length) (h3 : l.length ≤ cap) (h4 : cap ≤ 9223372036854775807) (hB : Below w.heap.size w w1) (o' : Nat) (ho : k < cap → o' = off + k) :
    Tk (w1.setCell ⟨B, 0, none⟩ (.slice (some ⟨b, o', none⟩) (l.length - k) (cap - k))) B (l.drop k) ∧ w.grownBy (w1.setCell ⟨B, 0, none⟩ (.slice (some ⟨b, o', none⟩) (l.length - k) (cap - k))) (some B) := by
  have hB' := h1.carry (hB.block _ h1.lt)
  refine ⟨⟨some ⟨b, o', none⟩, cap - k, ?_, ?_, by rw [List.length_drop]; omega, by omega, .inr ⟨b, o', rfl, hb⟩⟩, ?_⟩
  · have := hB'.setTo 0 (.slice (some ⟨b, o', none⟩) (l.length - k) (cap - k)) [.slice (some ⟨b, o', none⟩) (l.length - k) (cap - k)] rfl
    rw [List.length_drop]; exact this
  · rcases Nat.lt_or_ge k cap with hlt | hge
    · obtain rfl := ho hlt
      intro i hi
      obtain ⟨a, e, hc⟩ := sees_dropM (h2.below hB (Nat.le_refl _)) k i hi
      cases e
      exact ⟨_, rfl, by rw [World.cell?_of_block (Below.heap_setCell _ _ _ _ (by rw [Addr.add_block]; exact Nat.ne_of_lt hb))]; exact hc⟩
    · intro i hi
      rw [List.length_drop] at hi
      omega
  · exact ⟨hB.os, hB.tape, hB.output, by rw [size_setCell]; exact hB.size, fun i hi hne => by rw [Below.heap_setCell _ _ _ _ (fun e => hne (by rw [e]))]; exact hB.block i hi⟩
set_option maxRecDepth 100000 in
set_option maxHeartbeats 1000000 in
theorem takeM_any (B : Nat) (l : List UInt8) (w : World) (h : Tk w B l) (hl : l.length ≤ 1000000) (u : TypeId) (pv : Value) (he : Err w u pv) :
    Calls Tryd.prog 49 #[.pointer (some ⟨B, 0, none⟩)] w fun e w' => e = .returned (.int .i64 (tkV l : Int)) ∧ Tk w' B (tkR l) ∧ w.grownBy w' (some B) := by
  obtain ⟨ao, cap, h1, h2, h3, h4, h5⟩ := h
  have hk := getK_le l
  have CG : Hid (Calls Tryd.prog 50 #[.slice ao l.length cap] w fun e w' => e = .returned (.tuple #[.int .u64 (getV l), .int .i64 (getK l)]) ∧ Below w.heap.size w w') := codGet_any ao l cap w u pv h2 (by omega) he
  have c0 := h1.cell 0 rfl
  have hlt := h1.lt
  have hV := getV_lt l
  have HV : Hid (tkV l = min (getV l) 1000000000) := rfl
  have HR : Hid (tkR l = l.drop (getK l)) := rfl
  have HFZ : Hid (∀ w1, Below w.heap.size w w1 → w1.cell? ⟨B, 0, none⟩ = some (.slice ao l.length cap) ∧ w1.frozen? ⟨B, 0, none⟩ = false) := fun w1 hb => by
    have := h1.carry (hb.block _ h1.lt)
    exact ⟨this.cell 0 rfl, this.frozen 0⟩
  rcases h5 with ⟨rfl, h0⟩ | ⟨b, off, rfl, hb⟩
  · have hk0 : getK l = 0 := by omega
    have hv0 : getV l = 0 := getK_zero hk0
    have HN : Hid (∀ w1, Below w.heap.size w w1 → Tk (w1.setCell ⟨B, 0, none⟩ (.slice none 0 cap)) B (tkR l) ∧ w.grownBy (w1.setCell ⟨B, 0, none⟩ (.slice none 0 cap)) (some B)) := fun w1 hb => by
      have hB' := h1.carry (hb.block _ h1.lt)
      have hl0 : l = [] := List.eq_nil_of_length_eq_zero h0
      rw [HR.out, hl0]
      refine ⟨⟨none, cap, ?_, by simp; exact Sees.nil _ _, by simp, h4, .inl ⟨rfl, by simp⟩⟩, ?_⟩
      · have := hB'.setTo 0 (.slice none 0 cap) [.slice none 0 cap] rfl
        simpa using this
      · exact ⟨hb.os, hb.tape, hb.output, by rw [size_setCell]; exact hb.size, fun i hi hne => by rw [Below.heap_setCell _ _ _ _ (fun e => hne (by rw [e]))]; exact hb.block i hi⟩
    rw [HV.out, hv0]
    rw [hk0, hv0, h0] at CG
    rw [h0] at HFZ c0
    clear hk0 hv0 HV HR h1 h2 h3 hl he hk hV
    have hci : (cap : Int) ≤ 9223372036854775807 := by omega
    go_enter Tryd.func49, Tryd.ntmps49
    go_wp2_with fail
    go_fit CG.out
    rintro e w1 ⟨rfl, hB1⟩
    obtain ⟨d0, f0⟩ := HFZ.out w1 hB1
    have HN1 := HN.out w1 hB1
    have HN1 : Hid (Tk (w1.setCell ⟨B, 0, none⟩ (.slice none 0 cap)) B (tkR l) ∧ w.grownBy (w1.setCell ⟨B, 0, none⟩ (.slice none 0 cap)) (some B)) := HN1
    clear HN HFZ hB1
    go_wp2_with fail
    go_ret
    exact ⟨rfl, HN1.out⟩
  · have HN : Hid (∀ w1 o', Below w.heap.size w w1 → (getK l < cap → o' = off + getK l) → Tk (w1.setCell ⟨B, 0, none⟩ (.slice (some ⟨b, o', none⟩) (l.length - getK l) (cap - getK l))) B (tkR l) ∧ w.grownBy (w1.setCell ⟨B, 0, none⟩ (.slice (some ⟨b, o', none⟩) (l.length - getK l) (cap - getK l))) (some B)) := fun w1 o' hB ho => by
      rw [HR.out]
      exact Tk.next h1 h2 hb hk h3 h4 hB o' ho
    generalize tkR l = R at *
    have hmin : min ((getV l : Nat) : Int) 1000000000 = (tkV l : Int) := by rw [HV.out]; omega
    generalize tkV l = V at *
    clear HV HR h1 h2 he
    generalize getV l = v at *
    generalize getK l = k at *
    generalize l.length = n at *
    have hki : (k : Int) ≤ (n : Int) := by omega
    have hni : (n : Int) ≤ (cap : Int) := by omega
    have hci : (cap : Int) ≤ 9223372036854775807 := by omega
    have hkc : k ≤ cap := by omega
    have hvi : (v : Int) ≤ 18446744073709551615 := by omega
    have HW : Hid (min (v : Int) 1000000000 = (V : Int)) := hmin
    clear hmin
    by_cases hcc : cap = k
    · obtain rfl : cap = n := by omega
      subst hcc
      have HN2 : Hid (∀ w1, Below w.heap.size w w1 → Tk (w1.setCell ⟨B, 0, none⟩ (.slice (some ⟨b, off, none⟩) 0 0)) B R ∧ w.grownBy (w1.setCell ⟨B, 0, none⟩ (.slice (some ⟨b, off, none⟩) 0 0)) (some B)) := fun w1 hB => by
        have := HN.out w1 (off) hB (fun h => by omega)
        rw [Nat.sub_self] at this; exact this
      clear HN
      go_enter Tryd.func49, Tryd.ntmps49
      go_wp2_with fail
      go_fit CG.out
      rintro e w1 ⟨rfl, hB1⟩
      obtain ⟨d0, f0⟩ := HFZ.out w1 hB1
      have HN1 : Hid (Tk (w1.setCell ⟨B, 0, none⟩ (.slice (some ⟨b, off, none⟩) 0 0)) B R ∧ w.grownBy (w1.setCell ⟨B, 0, none⟩ (.slice (some ⟨b, off, none⟩) 0 0)) (some B)) := HN2.out w1 hB1
      clear HN2 HFZ hB1
      go_wp2_with fail
      go_ret
      exact ⟨ret_int HW.out, HN1.out⟩
    · have HN2 : Hid (∀ w1, Below w.heap.size w w1 → Tk (w1.setCell ⟨B, 0, none⟩ (.slice (some ⟨b, off + k, none⟩) (n - k) (cap - k))) B R ∧ w.grownBy (w1.setCell ⟨B, 0, none⟩ (.slice (some ⟨b, off + k, none⟩) (n - k) (cap - k))) (some B)) := fun w1 hB => by
        have := HN.out w1 (off + k) hB (fun h => by omega)
        exact this
      clear HN
      go_enter Tryd.func49, Tryd.ntmps49
      go_wp2_with fail
      go_fit CG.out
      rintro e w1 ⟨rfl, hB1⟩
      obtain ⟨d0, f0⟩ := HFZ.out w1 hB1
      have HN1 : Hid (Tk (w1.setCell ⟨B, 0, none⟩ (.slice (some ⟨b, off + k, none⟩) (n - k) (cap - k))) B R ∧ w.grownBy (w1.setCell ⟨B, 0, none⟩ (.slice (some ⟨b, off + k, none⟩) (n - k) (cap - k))) (some B)) := HN2.out w1 hB1
      clear HN2 HFZ hB1
      go_wp2_with fail
      go_ret
      exact ⟨ret_int HW.out, HN1.out⟩
theorem owns_carryM {w w' : World} {base e n s : Nat} {v : Value} {xs : List Value} (h : w.ownsRow base e s v n xs) (hk : ∀ g, base ≤ g → g < w.heap.size → w'.heap[g]? = w.heap[g]?) : w'.ownsRow base e s v n xs := by
  refine ⟨h.1, ?_⟩
  rcases h.2 with hn | ⟨g, cap, cur, rfl, h1, h2, rest⟩
  · exact .inl hn
  · exact .inr ⟨g, cap, cur, rfl, h1, by rw [hk g h1 (Array.getElem?_eq_some_iff.1 h2).1]; exact h2, rest⟩
theorem owns_msees {w : World} {base : Nat} {v : Value} {l : List Int} (h : w.ownsRow base 3 1 v l.length (vI l)) : ∃ ao cap, v = .slice ao l.length cap ∧ ISees w ao l ∧ (ao = none → l.length = 0) ∧ l.length ≤ cap ∧ cap ≤ 9223372036854775807 := by
  obtain ⟨ao, cap, e, hs⟩ := owns_isees h
  refine ⟨ao, cap, e, hs, ?_⟩
  rcases h.2 with ⟨hn, h0⟩ | ⟨g, cap', cur, hv, h1, h2, h3, h4, _⟩
  · rw [e] at hn
    simp only [Value.slice.injEq] at hn
    exact ⟨fun _ => h0, by omega, by omega⟩
  · rw [e] at hv; cases hv
    exact ⟨fun e => (by cases e), h3, by unfold maxLen at h4; omega⟩
/-- Worlds in which a cell says so. -/
structure BxM (B : Nat) (v : Value) where
  u : World
  h : u.cell? ⟨B, 0, none⟩ = some v
/-- numbers, on its way: c is left, l are the tables. -/
structure NSt (w u : World) (c : List UInt8) (v : Value) (l : List Int) (nx fr : Int) : Prop where
  tk : Tk u w.heap.size c
  m0 : Blk u (w.heap.size + 1) [.slice none 0 0, .int .i64 0, .int .i64 0] 24
  m : Blk u (w.heap.size + 2) [v, .int .i64 nx, .int .i64 fr] 24
  row : u.ownsRow (w.heap.size + 3) 3 1 v l.length (vI l)
  bel : Below w.heap.size w u
  sz : w.heap.size + 3 ≤ u.heap.size
section
variable {w u : World} {c : List UInt8} {v : Value} {l : List Int} {nx fr : Int}
theorem NSt.took (h : NSt w u c v l nx fr) {u' : World} {c' : List UInt8} (hk : Tk u' w.heap.size c') (hg : u.grownBy u' (some w.heap.size)) : NSt w u' c' v l nx fr := by
  have hs := h.sz
  have hb : ∀ i, i < u.heap.size → i ≠ w.heap.size → u'.heap[i]? = u.heap[i]? := fun i hi hne => hg.block i hi (fun e => by cases e; exact hne rfl)
  exact ⟨hk, h.m0.carry (hb _ (by omega) (by omega)), h.m.carry (hb _ (by omega) (by omega)), owns_carryM h.row fun g h1 h2 => hb g h2 (by omega), h.bel.grown hg h.bel.size (fun k e => by cases e; exact Nat.le_refl _), Nat.le_trans hs hg.size⟩
theorem NSt.more (h : NSt w u c v l nx fr) {u' : World} (hg : Below u.heap.size u u') : NSt w u' c v l nx fr := by
  have hs := h.sz
  exact ⟨h.tk.keep fun i hi => hg.block i (by omega), h.m0.carry (hg.block _ (by omega)), h.m.carry (hg.block _ (by omega)), owns_carryM h.row fun g h1 h2 => hg.block g h2, h.bel.trans (hg.mono h.bel.size), Nat.le_trans hs hg.size⟩
theorem NSt.setM (h : NSt w u c v l nx fr) (i : Nat) (x v' : Value) (nx' fr' : Int) (he : [v, Value.int .i64 nx, .int .i64 fr].set i x = [v', .int .i64 nx', .int .i64 fr']) {l' : List Int} (hr : u.ownsRow (w.heap.size + 3) 3 1 v' l'.length (vI l')) : NSt w (u.setCell ⟨w.heap.size + 2, i, none⟩ x) c v' l' nx' fr' := by
  have hb : ∀ k, k ≠ w.heap.size + 2 → (u.setCell ⟨w.heap.size + 2, i, none⟩ x).heap[k]? = u.heap[k]? := fun k hk => Below.heap_setCell _ _ _ _ (fun e => hk e)
  exact ⟨h.tk.keep fun k hk => hb k (by omega), h.m0.carry (hb _ (by omega)), h.m.setTo i x _ he, owns_carryM hr fun g h1 h2 => hb g (by omega), h.bel.setCell (by show w.heap.size ≤ w.heap.size + 2; omega) _, by rw [size_setCell]; exact h.sz⟩
theorem numStart (ao : Option Addr) (l : List UInt8) (cap : Nat) (hs : Sees w ao l) (h3 : l.length ≤ cap) (h4 : cap ≤ 9223372036854775807) (h5 : (ao = none ∧ l.length = 0) ∨ ∃ b off, ao = some ⟨b, off, none⟩ ∧ b < w.heap.size) :
    NSt w (((w.alloc (.cells #[.slice ao l.length cap] 25)).alloc (.cells #[.slice none 0 0, .int .i64 0, .int .i64 0] 24)).alloc (.cells #[.slice none 0 0, .int .i64 0, .int .i64 0] 24)) l (.slice none 0 0) [] 0 0 := by
  have hb1 : Below w.heap.size w (w.alloc (.cells #[.slice ao l.length cap] 25)) := (Below.refl _ _).alloc (Nat.le_refl _) _
  have k1 := Blk.new w [.slice ao l.length cap] 25
  have k2 := Blk.new (w.alloc (.cells #[.slice ao l.length cap] 25)) [.slice none 0 0, .int .i64 0, .int .i64 0] 24
  have k3 := Blk.new ((w.alloc (.cells #[.slice ao l.length cap] 25)).alloc (.cells #[.slice none 0 0, .int .i64 0, .int .i64 0] 24)) [.slice none 0 0, .int .i64 0, .int .i64 0] 24
  rw [World.size_alloc] at k2
  rw [World.size_alloc, World.size_alloc] at k3
  have hB : Below w.heap.size w (((w.alloc (.cells #[.slice ao l.length cap] 25)).alloc (.cells #[.slice none 0 0, .int .i64 0, .int .i64 0] 24)).alloc (.cells #[.slice none 0 0, .int .i64 0, .int .i64 0] 24)) := (hb1.alloc hb1.size _).alloc (by simp; omega) _
  exact ⟨⟨ao, cap, (k1.alloc _).alloc _, hs.below hB (Nat.le_refl _), h3, h4, h5⟩, k2.alloc _, k3, World.ownsRow_nil _ _ _ _, hB, by simp⟩
end
theorem src_oneI (u : World) (x : Int) : Src Tryd.prog 1 22 (.slice (some ⟨u.heap.size, 0, none⟩) 1 1) 1 (vI [x]) (u.alloc (.cells #[.int .i64 x] 3)) := by
  have := src_ints (w := u.alloc (.cells #[.int .i64 x] 3)) (ao := some ⟨u.heap.size, 0, none⟩) (l := [x]) (fun i y hy => by
    have hi : i < 1 := (List.getElem?_eq_some_iff.1 hy).1
    obtain rfl : i = 0 := by omega
    simp at hy
    subst hy
    exact ⟨_, _, rfl, (Blk.new u [.int .i64 x] 3).cell 0 rfl⟩) (fun e => by cases e) 1
  exact this
end Go.Proofs.YthihljjefncfoaaDoor
