/-
  SEVERAL TEXTS IN ONE: BytEq, ManTake, ManNums, ManRead.
-/
import Derived.Test.YthihljjefncfoaaGreatDoorManM3
import Derived.Test.YthihljjefncfoaaGreatDoorManM2
import Derived.Test.YthihljjefncfoaaGreatDoorLoud
namespace Go.Proofs.YthihljjefncfoaaGreatDoor
open Go.RowKit

/-- The bytes that are left, in the closure's box. -/
def Tk (w : World) (B : Nat) (l : List UInt8) : Prop :=
  ∃ ao cap, Blk w B [.slice ao l.length cap] 62 ∧ Sees w ao l ∧ l.length ≤ cap ∧ cap ≤ 9223372036854775807 ∧ ((ao = none ∧ l.length = 0) ∨ ∃ b off, ao = some ⟨b, off, none⟩ ∧ b < B)
theorem Tk.keep {w w' : World} {B : Nat} {l : List UInt8} (h : Tk w B l) (hk : ∀ i, i ≤ B → w'.heap[i]? = w.heap[i]?) : Tk w' B l := by
  obtain ⟨ao, cap, h1, h2, h3, h4, h5⟩ := h
  refine ⟨ao, cap, h1.carry (hk B (Nat.le_refl _)), fun i hi => ?_, h3, h4, h5⟩
  obtain ⟨a, rfl, hc⟩ := h2 i hi
  rcases h5 with ⟨e, _⟩ | ⟨b, off, e, hb⟩
  · cases e
  · cases e
    exact ⟨_, rfl, by rw [World.cell?_of_block (hk _ (by rw [Addr.add_block]; exact Nat.le_of_lt hb))]; exact hc⟩
theorem sees_dropM {w : World} {b off : Nat} {l : List UInt8} (h : Sees w (some ⟨b, off, none⟩) l) (k : Nat) : Sees w (some ⟨b, off + k, none⟩) (l.drop k) := by
  intro i hi
  rw [List.length_drop] at hi
  obtain ⟨a, e, hc⟩ := h (k + i) (by omega)
  obtain rfl := Option.some.inj e
  refine ⟨_, rfl, ?_⟩
  rw [Addr.add_lit] at hc ⊢
  rw [Nat.add_assoc, hc]
  simp [List.getD, List.getElem?_drop]
/-- The box behind a number is taken. -/
theorem Tk.next {w w1 : World} {B b off : Nat} {l : List UInt8} {cap k : Nat} (h1 : Blk w B [.slice (some ⟨b, off, none⟩) l.length cap] 62) (h2 : Sees w (some ⟨b, off, none⟩) l) (hb : b < B) (hk : k ≤ l.length) (h3 : l.length ≤ cap) (h4 : cap ≤ 9223372036854775807) (hB : Below w.heap.size w w1) (o' : Nat) (ho : k < cap → o' = off + k) :
    Tk (w1.setCell ⟨B, 0, none⟩ (.slice (some ⟨b, o', none⟩) (l.length - k) (cap - k))) B (l.drop k) ∧ w.grownBy (w1.setCell ⟨B, 0, none⟩ (.slice (some ⟨b, o', none⟩) (l.length - k) (cap - k))) (some B) := by
  have hB' := h1.carry (hB.block _ h1.lt)
  refine ⟨⟨some ⟨b, o', none⟩, cap - k, ?_, ?_, by rw [List.length_drop]; omega, by omega, .inr ⟨b, o', rfl, hb⟩⟩, ?_⟩
  · have := hB'.setTo 0 (.slice (some ⟨b, o', none⟩) (l.length - k) (cap - k)) [.slice (some ⟨b, o', none⟩) (l.length - k) (cap - k)] rfl
    rw [List.length_drop]; exact this
  · rcases Nat.lt_or_ge k cap with hlt | hge
    · obtain rfl := ho hlt
      intro i hi
      obtain ⟨a, e, hc⟩ := sees_dropM (h2.below hB (Nat.le_refl _)) k i hi
      cases e
      exact ⟨_, rfl, by rw [World.cell?_of_block (Below.heap_setCell _ _ _ _ (by rw [Addr.add_block]; exact Nat.ne_of_lt hb))]; exact hc⟩
    · intro i hi
      rw [List.length_drop] at hi
      omega
  · exact ⟨hB.os, hB.tape, hB.output, by rw [size_setCell]; exact hB.size, fun i hi hne => by rw [Below.heap_setCell _ _ _ _ (fun e => hne (by rw [e]))]; exact hB.block i hi⟩
set_option maxRecDepth 100000 in
set_option maxHeartbeats 1000000 in
theorem takeM_any (B : Nat) (l : List UInt8) (w : World) (h : Tk w B l) (hl : l.length ≤ 1000000) (u : TypeId) (pv : Value) (he : Err w u pv) :
    Calls Tryz.prog 115 #[.pointer (some ⟨B, 0, none⟩)] w fun e w' => e = .returned (.int .i64 (tkV l : Int)) ∧ Tk w' B (tkR l) ∧ w.grownBy w' (some B) := by
  obtain ⟨ao, cap, h1, h2, h3, h4, h5⟩ := h
  have hk := getK_le l
  have CG : Hid (Calls Tryz.prog 116 #[.slice ao l.length cap] w fun e w' => e = .returned (.tuple #[.int .u64 (getV l), .int .i64 (getK l)]) ∧ Below w.heap.size w w') := codGet_any ao l cap w u pv h2 (by omega) he
  have c0 := h1.cell 0 rfl
  have hlt := h1.lt
  have hV := getV_lt l
  have HV : Hid (tkV l = min (getV l) 1000000000) := rfl
  have HR : Hid (tkR l = l.drop (getK l)) := rfl
  have HFZ : Hid (∀ w1, Below w.heap.size w w1 → w1.cell? ⟨B, 0, none⟩ = some (.slice ao l.length cap) ∧ w1.frozen? ⟨B, 0, none⟩ = false) := fun w1 hb => by
    have := h1.carry (hb.block _ h1.lt)
    exact ⟨this.cell 0 rfl, this.frozen 0⟩
  rcases h5 with ⟨rfl, h0⟩ | ⟨b, off, rfl, hb⟩
  · have hk0 : getK l = 0 := by omega
    have hv0 : getV l = 0 := getK_zero hk0
    have HN : Hid (∀ w1, Below w.heap.size w w1 → Tk (w1.setCell ⟨B, 0, none⟩ (.slice none 0 cap)) B (tkR l) ∧ w.grownBy (w1.setCell ⟨B, 0, none⟩ (.slice none 0 cap)) (some B)) := fun w1 hb => by
      have hB' := h1.carry (hb.block _ h1.lt)
      have hl0 : l = [] := List.eq_nil_of_length_eq_zero h0
      rw [HR.out, hl0]
      refine ⟨⟨none, cap, ?_, by simp; exact Sees.nil _ _, by simp, h4, .inl ⟨rfl, by simp⟩⟩, ?_⟩
      · have := hB'.setTo 0 (.slice none 0 cap) [.slice none 0 cap] rfl
        simpa using this
      · exact ⟨hb.os, hb.tape, hb.output, by rw [size_setCell]; exact hb.size, fun i hi hne => by rw [Below.heap_setCell _ _ _ _ (fun e => hne (by rw [e]))]; exact hb.block i hi⟩
    rw [HV.out, hv0]
    rw [hk0, hv0, h0] at CG
    rw [h0] at HFZ c0
    clear hk0 hv0 HV HR h1 h2 h3 hl he hk hV
    have hci : (cap : Int) ≤ 9223372036854775807 := by omega
    go_enter Tryz.func115, Tryz.ntmps115
    go_wp2_with fail
    go_fit CG.out
    rintro e w1 ⟨rfl, hB1⟩
    obtain ⟨d0, f0⟩ := HFZ.out w1 hB1
    have HN1 := HN.out w1 hB1
    have HN1 : Hid (Tk (w1.setCell ⟨B, 0, none⟩ (.slice none 0 cap)) B (tkR l) ∧ w.grownBy (w1.setCell ⟨B, 0, none⟩ (.slice none 0 cap)) (some B)) := HN1
    clear HN HFZ hB1
    go_wp2_with fail
    go_ret
    exact ⟨rfl, HN1.out⟩
  · have HN : Hid (∀ w1 o', Below w.heap.size w w1 → (getK l < cap → o' = off + getK l) → Tk (w1.setCell ⟨B, 0, none⟩ (.slice (some ⟨b, o', none⟩) (l.length - getK l) (cap - getK l))) B (tkR l) ∧ w.grownBy (w1.setCell ⟨B, 0, none⟩ (.slice (some ⟨b, o', none⟩) (l.length - getK l) (cap - getK l))) (some B)) := fun w1 o' hB ho => by
      rw [HR.out]
      exact Tk.next h1 h2 hb hk h3 h4 hB o' ho
    generalize tkR l = R at *
    have hmin : min ((getV l : Nat) : Int) 1000000000 = (tkV l : Int) := by rw [HV.out]; omega
    generalize tkV l = V at *
    clear HV HR h1 h2 he
    generalize getV l = v at *
    generalize getK l = k at *
    generalize l.length = n at *
    have hki : (k : Int) ≤ (n : Int) := by omega
    have hni : (n : Int) ≤ (cap : Int) := by omega
    have hci : (cap : Int) ≤ 9223372036854775807 := by omega
    have hkc : k ≤ cap := by omega
    have hvi : (v : Int) ≤ 18446744073709551615 := by omega
    have HW : Hid (min (v : Int) 1000000000 = (V : Int)) := hmin
    clear hmin
    by_cases hcc : cap = k
    · obtain rfl : cap = n := by omega
      subst hcc
      have HN2 : Hid (∀ w1, Below w.heap.size w w1 → Tk (w1.setCell ⟨B, 0, none⟩ (.slice (some ⟨b, off, none⟩) 0 0)) B R ∧ w.grownBy (w1.setCell ⟨B, 0, none⟩ (.slice (some ⟨b, off, none⟩) 0 0)) (some B)) := fun w1 hB => by
        have := HN.out w1 (off) hB (fun h => by omega)
        rw [Nat.sub_self] at this; exact this
      clear HN
      go_enter Tryz.func115, Tryz.ntmps115
      go_wp2_with fail
      go_fit CG.out
      rintro e w1 ⟨rfl, hB1⟩
      obtain ⟨d0, f0⟩ := HFZ.out w1 hB1
      have HN1 : Hid (Tk (w1.setCell ⟨B, 0, none⟩ (.slice (some ⟨b, off, none⟩) 0 0)) B R ∧ w.grownBy (w1.setCell ⟨B, 0, none⟩ (.slice (some ⟨b, off, none⟩) 0 0)) (some B)) := HN2.out w1 hB1
      clear HN2 HFZ hB1
      go_wp2_with fail
      go_ret
      exact ⟨ret_int HW.out, HN1.out⟩
    · have HN2 : Hid (∀ w1, Below w.heap.size w w1 → Tk (w1.setCell ⟨B, 0, none⟩ (.slice (some ⟨b, off + k, none⟩) (n - k) (cap - k))) B R ∧ w.grownBy (w1.setCell ⟨B, 0, none⟩ (.slice (some ⟨b, off + k, none⟩) (n - k) (cap - k))) (some B)) := fun w1 hB => by
        have := HN.out w1 (off + k) hB (fun h => by omega)
        exact this
      clear HN
      go_enter Tryz.func115, Tryz.ntmps115
      go_wp2_with fail
      go_fit CG.out
      rintro e w1 ⟨rfl, hB1⟩
      obtain ⟨d0, f0⟩ := HFZ.out w1 hB1
      have HN1 : Hid (Tk (w1.setCell ⟨B, 0, none⟩ (.slice (some ⟨b, off + k, none⟩) (n - k) (cap - k))) B R ∧ w.grownBy (w1.setCell ⟨B, 0, none⟩ (.slice (some ⟨b, off + k, none⟩) (n - k) (cap - k))) (some B)) := HN2.out w1 hB1
      clear HN2 HFZ hB1
      go_wp2_with fail
      go_ret
      exact ⟨ret_int HW.out, HN1.out⟩
theorem owns_carryM {w w' : World} {base e n s : Nat} {v : Value} {xs : List Value} (h : w.ownsRow base e s v n xs) (hk : ∀ g, base ≤ g → g < w.heap.size → w'.heap[g]? = w.heap[g]?) : w'.ownsRow base e s v n xs := by
  refine ⟨h.1, ?_⟩
  rcases h.2 with hn | ⟨g, cap, cur, rfl, h1, h2, rest⟩
  · exact .inl hn
  · exact .inr ⟨g, cap, cur, rfl, h1, by rw [hk g h1 (Array.getElem?_eq_some_iff.1 h2).1]; exact h2, rest⟩
theorem owns_msees {w : World} {base : Nat} {v : Value} {l : List Int} (h : w.ownsRow base 3 1 v l.length (vI l)) : ∃ ao cap, v = .slice ao l.length cap ∧ ISees w ao l ∧ (ao = none → l.length = 0) ∧ l.length ≤ cap ∧ cap ≤ 9223372036854775807 := by
  obtain ⟨ao, cap, e, hs⟩ := owns_isees h
  refine ⟨ao, cap, e, hs, ?_⟩
  rcases h.2 with ⟨hn, h0⟩ | ⟨g, cap', cur, hv, h1, h2, h3, h4, _⟩
  · rw [e] at hn
    simp only [Value.slice.injEq] at hn
    exact ⟨fun _ => h0, by omega, by omega⟩
  · rw [e] at hv; cases hv
    exact ⟨fun e => (by cases e), h3, by unfold maxLen at h4; omega⟩
/-- Worlds in which a cell says so. -/
structure BxM (B : Nat) (v : Value) where
  u : World
  h : u.cell? ⟨B, 0, none⟩ = some v
/-- numbers, on its way: c is left, l are the tables. -/
structure NSt (w u : World) (c : List UInt8) (v : Value) (l : List Int) (nx fr : Int) : Prop where
  tk : Tk u w.heap.size c
  m0 : Blk u (w.heap.size + 1) [.slice none 0 0, .int .i64 0, .int .i64 0] 36
  m : Blk u (w.heap.size + 2) [v, .int .i64 nx, .int .i64 fr] 36
  row : u.ownsRow (w.heap.size + 3) 3 1 v l.length (vI l)
  bel : Below w.heap.size w u
  sz : w.heap.size + 3 ≤ u.heap.size
section
variable {w u : World} {c : List UInt8} {v : Value} {l : List Int} {nx fr : Int}
theorem NSt.took (h : NSt w u c v l nx fr) {u' : World} {c' : List UInt8} (hk : Tk u' w.heap.size c') (hg : u.grownBy u' (some w.heap.size)) : NSt w u' c' v l nx fr := by
  have hs := h.sz
  have hb : ∀ i, i < u.heap.size → i ≠ w.heap.size → u'.heap[i]? = u.heap[i]? := fun i hi hne => hg.block i hi (fun e => by cases e; exact hne rfl)
  exact ⟨hk, h.m0.carry (hb _ (by omega) (by omega)), h.m.carry (hb _ (by omega) (by omega)), owns_carryM h.row fun g h1 h2 => hb g h2 (by omega), h.bel.grown hg h.bel.size (fun k e => by cases e; exact Nat.le_refl _), Nat.le_trans hs hg.size⟩
theorem NSt.more (h : NSt w u c v l nx fr) {u' : World} (hg : Below u.heap.size u u') : NSt w u' c v l nx fr := by
  have hs := h.sz
  exact ⟨h.tk.keep fun i hi => hg.block i (by omega), h.m0.carry (hg.block _ (by omega)), h.m.carry (hg.block _ (by omega)), owns_carryM h.row fun g h1 h2 => hg.block g h2, h.bel.trans (hg.mono h.bel.size), Nat.le_trans hs hg.size⟩
theorem NSt.setM (h : NSt w u c v l nx fr) (i : Nat) (x v' : Value) (nx' fr' : Int) (he : [v, Value.int .i64 nx, .int .i64 fr].set i x = [v', .int .i64 nx', .int .i64 fr']) {l' : List Int} (hr : u.ownsRow (w.heap.size + 3) 3 1 v' l'.length (vI l')) : NSt w (u.setCell ⟨w.heap.size + 2, i, none⟩ x) c v' l' nx' fr' := by
  have hb : ∀ k, k ≠ w.heap.size + 2 → (u.setCell ⟨w.heap.size + 2, i, none⟩ x).heap[k]? = u.heap[k]? := fun k hk => Below.heap_setCell _ _ _ _ (fun e => hk e)
  exact ⟨h.tk.keep fun k hk => hb k (by omega), h.m0.carry (hb _ (by omega)), h.m.setTo i x _ he, owns_carryM hr fun g h1 h2 => hb g (by omega), h.bel.setCell (by show w.heap.size ≤ w.heap.size + 2; omega) _, by rw [size_setCell]; exact h.sz⟩
theorem numStart (ao : Option Addr) (l : List UInt8) (cap : Nat) (hs : Sees w ao l) (h3 : l.length ≤ cap) (h4 : cap ≤ 9223372036854775807) (h5 : (ao = none ∧ l.length = 0) ∨ ∃ b off, ao = some ⟨b, off, none⟩ ∧ b < w.heap.size) :
    NSt w (((w.alloc (.cells #[.slice ao l.length cap] 62)).alloc (.cells #[.slice none 0 0, .int .i64 0, .int .i64 0] 36)).alloc (.cells #[.slice none 0 0, .int .i64 0, .int .i64 0] 36)) l (.slice none 0 0) [] 0 0 := by
  have hb1 : Below w.heap.size w (w.alloc (.cells #[.slice ao l.length cap] 62)) := (Below.refl _ _).alloc (Nat.le_refl _) _
  have k1 := Blk.new w [.slice ao l.length cap] 62
  have k2 := Blk.new (w.alloc (.cells #[.slice ao l.length cap] 62)) [.slice none 0 0, .int .i64 0, .int .i64 0] 36
  have k3 := Blk.new ((w.alloc (.cells #[.slice ao l.length cap] 62)).alloc (.cells #[.slice none 0 0, .int .i64 0, .int .i64 0] 36)) [.slice none 0 0, .int .i64 0, .int .i64 0] 36
  rw [World.size_alloc] at k2
  rw [World.size_alloc, World.size_alloc] at k3
  have hB : Below w.heap.size w (((w.alloc (.cells #[.slice ao l.length cap] 62)).alloc (.cells #[.slice none 0 0, .int .i64 0, .int .i64 0] 36)).alloc (.cells #[.slice none 0 0, .int .i64 0, .int .i64 0] 36)) := (hb1.alloc hb1.size _).alloc (by simp; omega) _
  exact ⟨⟨ao, cap, (k1.alloc _).alloc _, hs.below hB (Nat.le_refl _), h3, h4, h5⟩, k2.alloc _, k3, World.ownsRow_nil _ _ _ _, hB, by simp⟩
end
theorem src_oneI (u : World) (x : Int) : Src Tryz.prog 1 34 (.slice (some ⟨u.heap.size, 0, none⟩) 1 1) 1 (vI [x]) (u.alloc (.cells #[.int .i64 x] 3)) := by
  have := src_ints (w := u.alloc (.cells #[.int .i64 x] 3)) (ao := some ⟨u.heap.size, 0, none⟩) (l := [x]) (fun i y hy => by
    have hi : i < 1 := (List.getElem?_eq_some_iff.1 hy).1
    obtain rfl : i = 0 := by omega
    simp at hy
    subst hy
    exact ⟨_, _, rfl, (Blk.new u [.int .i64 x] 3).cell 0 rfl⟩) (fun e => by cases e) 1
  exact this
end Go.Proofs.YthihljjefncfoaaGreatDoor
namespace Go.Proofs.YthihljjefncfoaaGreatDoor
open Go.RowKit
attribute [local go_sem] Oper.pureAt Oper.pureUpon

theorem owns_form2 {w : World} {base e n : Nat} {v : Value} {xs : List Value} (h : w.ownsRow base e 1 v n xs) : ∃ ao cap, v = .slice ao n cap ∧ n ≤ cap := by
  rcases h.2 with ⟨rfl, rfl⟩ | ⟨g, cap, cur, rfl, _, _, hn, hm, _⟩
  · exact ⟨_, _, rfl, Nat.le_refl _⟩
  · exact ⟨_, _, rfl, hn⟩
set_option maxRecDepth 100000 in
set_option maxHeartbeats 2000000 in
theorem numbersM_any (ao : Option Addr) (l : List UInt8) (cap : Nat) (w : World) (hs : Sees w ao l) (h3 : l.length ≤ cap) (h4 : cap ≤ 9223372036854775807) (h5 : (ao = none ∧ l.length = 0) ∨ ∃ b off, ao = some ⟨b, off, none⟩ ∧ b < w.heap.size) (hl : l.length ≤ 1000000) (u : TypeId) (pv : Value) (he : Err w u pv) :
    Calls Tryz.prog 86 #[.slice ao l.length cap] w fun e w' => ∃ a5 c5, e = .returned (mval a5 c5 (numM l)) ∧ MSees w' a5 c5 (numM l) ∧ c5 ≤ 9223372036854775807 ∧ (∀ a, a5 = some a → w.heap.size ≤ a.block) ∧ Below w.heap.size w w' := by
  obtain ⟨i0, hi, hz0, hz1, hz2⟩ := info_parts infoInt
  have h0 := numStart ao l cap hs h3 h4 h5
  have CT : Hid (∀ x c v ts nx fr, NSt w x c v ts nx fr → c.length ≤ 1000000 → Calls Tryz.prog 115 #[.pointer (some ⟨w.heap.size, 0, none⟩)] x fun e x' => e = .returned (.int .i64 (tkV c : Int)) ∧ NSt w x' (tkR c) v ts nx fr) := fun x c v ts nx fr hx hc => by
    have he' : Err x u pv := by unfold Err at he ⊢; rw [hx.bel.cell (World.block_lt_of_cell? _ _ he)]; exact he
    exact (takeM_any w.heap.size c x hx.tk hc u pv he').mono fun e x' hh => ⟨hh.1, hx.took hh.2.1 hh.2.2⟩
  have hmf : ∀ (fn : Fn) (first cap : Array Value) (w : World), (Instr.makeFunc fn first cap).run Tryz.prog w = .ok (.func fn first cap) w := fun _ _ _ _ => rfl
  have l1 := tkR_len l
  have l2 := tkR_len (tkR l)
  have l3 := tkR_len (tkR (tkR l))
  have HN : Hid (numM l = ⟨tks (min (tkV (tkR (tkR l))) 31) (tkR (tkR (tkR l))), (tkV l : Int), (tkV (tkR l) : Int)⟩) := rfl
  have HLn : Hid (∀ k, (tkRs k (tkR (tkR (tkR l)))).length ≤ 1000000) := fun k => by have := tkRs_len k (tkR (tkR (tkR l))); omega
  have HV : Hid (∀ c, (tkV c : Int) ≤ 1000000000) := fun c => by unfold tkV; omega
  have C0 := CT.out _ _ _ _ _ _ h0 hl
  clear hs h3 h4 h5 he h0
  go_enter Tryz.func86, Tryz.ntmps86
  go_wp2_with fail
  go_fit C0
  rintro e x1 ⟨rfl, hx1⟩
  have y1 := hx1.m.cell 1 rfl
  have z1 := hx1.m.frozen 1
  have h2 := hx1.setM 1 (.int .i64 (tkV l : Int)) _ (tkV l : Int) _ rfl hx1.row
  have C1 := CT.out _ _ _ _ _ _ h2 (by omega)
  clear C0 hx1 h2
  go_wp2_with fail
  go_fit C1
  rintro e x2 ⟨rfl, hx2⟩
  have y2 := hx2.m.cell 2 rfl
  have z2 := hx2.m.frozen 2
  have h3 := hx2.setM 2 (.int .i64 (tkV (tkR l) : Int)) _ _ (tkV (tkR l) : Int) rfl hx2.row
  have C2 := CT.out _ _ _ _ _ _ h3 (by omega)
  clear C1 hx2 h3 y1 z1
  go_wp2_with fail
  go_fit C2
  rintro e x3 ⟨rfl, hx3⟩
  have HX3 : Hid (NSt w x3 (tkR (tkR (tkR l))) (.slice none 0 0) [] (tkV l : Int) (tkV (tkR l) : Int)) := hx3
  clear C2 hx3 y2 z2 l1 l2 l3
  generalize tkR (tkR (tkR l)) = c3 at *
  generalize tkV (tkR (tkR l)) = V at *
  generalize tkV (tkR l) = fr at *
  generalize tkV l = nx at *
  obtain ⟨N, hN⟩ : ∃ N, min V 31 = N := ⟨_, rfl⟩
  rw [hN] at HN
  have hNi : min (V : Int) 31 = (N : Int) := by omega
  have hN31 : N ≤ 31 := by omega
  go_wp2_with fail
  try rw [hNi]
  clear hN hNi
  go_loopw [15] (fun i wr => ∃ (k : Nat) (v : Value), k ≤ N ∧ i = .int .i64 (k : Int) ∧ NSt w wr (tkRs k c3) v (tks k c3) (nx : Int) (fr : Int)) (fun i _ => N - (intOf i).toNat)
  case atStart => exact ⟨0, _, Nat.zero_le _, rfl, HX3.out⟩
  case round =>
    obtain ⟨k, v, hk, rfl, hS⟩ := hrel
    rcases Nat.lt_or_ge k N with hlt | hge
    · have hki : (k : Int) < (N : Int) := by omega
      obtain ⟨va, vc, hv, -⟩ := owns_msees hS.row
      subst hv
      have bB := hS.m.cell 0 rfl
      have CK := CT.out _ _ _ _ _ _ (hS.more ((Below.refl _ _).drew)) (HLn.out k)
      obtain ⟨sn1, sn2⟩ := tks_snoc k c3
      have HS1 : Hid (tks (k + 1) c3 = tks k c3 ++ [(tkV (tkRs k c3) : Int)]) := sn1
      have HS2 : Hid (tkRs (k + 1) c3 = tkR (tkRs k c3)) := sn2
      have hkl := tks_len k c3
      have hxb := HV.out (tkRs k c3)
      clear hS HX3 sn1 sn2
      obtain ⟨tl, htl⟩ : ∃ tl, tks k c3 = tl := ⟨_, rfl⟩
      rw [htl] at CK HS1 hkl bB
      clear htl
      obtain ⟨n, hn⟩ : ∃ n, tl.length = n := ⟨_, rfl⟩
      have HNL : Hid (tl.length = n) := hn
      have HKL : Hid (tl.length = k) := hkl
      rw [hn] at bB
      clear hn hkl
      generalize tkV (tkRs k c3) = x at *
      generalize tkRs k c3 = ck at *
      go_wp2_with fail
      have HP : Hid (∀ u, u.cell? ⟨w.heap.size + 2, 0, none⟩ = some (.slice va n vc) → ∃ p : BxM (w.heap.size + 2) (.slice va n vc), u = p.u) := fun u h => ⟨⟨u, h⟩, rfl⟩
      have q0 : ∀ q : BxM (w.heap.size + 2) (.slice va n vc), q.u.cell? ⟨w.heap.size + 1 + 1, 0, none⟩ = some (.slice va n vc) := fun q => q.h
      haveI : Nonempty (BxM (w.heap.size + 2) (.slice va n vc)) := ⟨⟨wr, bB⟩⟩
      refine wp_region_C (fun u => ∃ p : BxM (w.heap.size + 2) (.slice va n vc), u = p.u) 7 _ (by kernel_rfl) ?reg (fun _ _ h => h)
      refine anyC_pure 0 rfl (by kernel_rfl) (by kernel_rfl) (by kernel_rfl) (HP.out _ bB) (fun K hK => ?_)
      go_simp
      refine hK _ ?_
      clear hK K
      refine anyC_pure 1 rfl (by kernel_rfl) (by kernel_rfl) (by kernel_rfl) (HP.out _ bB) (fun K hK => ?_)
      go_simp
      refine hK _ ?_
      clear hK K
      refine anyC_pure 2 rfl (by kernel_rfl) (by kernel_rfl) (by kernel_rfl) (HP.out _ bB) (fun K hK => ?_)
      go_simp
      refine hK _ ?_
      clear hK K
      refine anyC_loud 3 (by kernel_rfl) ?_
      refine lou_of rfl (fun K hK => ?_)
      go_simp
      refine CK.mono ?_
      rintro e u1 ⟨rfl, hS1⟩
      have c1 := hS1.m.cell 0 rfl
      rw [HNL.out] at c1
      refine hK _ _ ⟨fun _ => HP.out _ c1, ?_⟩
      clear hK K
      refine anyC_loud 4 (by kernel_rfl) ?_
      refine lou_of rfl (fun K hK => ?_)
      go_simp
      have hS2 := hS1.more ((Below.refl _ _).alloc (Nat.le_refl u1.heap.size) (.cells #[.int .i64 (x : Int)] 3))
      have c2 := hS2.m.cell 0 rfl
      rw [HNL.out] at c2
      refine hK _ _ ⟨fun _ => HP.out _ c2, ?_⟩
      clear hK K
      have hkl := HKL.out
      obtain ⟨v', w3, hr3, ho3, hg3⟩ := run_append_grew (P := Tryz.prog) (u1.alloc (.cells #[.int .i64 (x : Int)] 3)) (w.heap.size + 3) 34 34 34 3 i0 (.int .i64 0) 1 8 Tryz.underlying34 hi hz0 hz1 hz2 rfl _ tl.length _ hS2.row _ 1 (vI [(x : Int)]) (src_oneI u1 x) (by unfold maxLen; omega) (by omega) hS2.sz
      rw [HNL.out] at hr3
      have hS3 : NSt w (w3.setCell ⟨w.heap.size + 2, 0, none⟩ v') (tkR ck) v' (tl ++ [(x : Int)]) (nx : Int) (fr : Int) := by
        have hrow : w3.ownsRow (w.heap.size + 3) 3 1 v' (tl ++ [(x : Int)]).length (vI (tl ++ [(x : Int)])) := by
          have e1 : (tl ++ [(x : Int)]).length = tl.length + 1 := by simp
          have e2 : vI (tl ++ [(x : Int)]) = vI tl ++ vI [(x : Int)] := by simp [vI]
          rw [e1, e2]; exact ho3
        have hsz := hS2.sz
        have hbl : ∀ i, i < w.heap.size + 3 → w3.heap[i]? = (u1.alloc (.cells #[.int .i64 (x : Int)] 3)).heap[i]? := fun i hi => hg3.rows.block i (by omega) (fun e => by have := (hS2.row.lt i e.symm).1; omega)
        have hbs : ∀ i, i ≠ w.heap.size + 2 → (w3.setCell ⟨w.heap.size + 2, 0, none⟩ v').heap[i]? = w3.heap[i]? := fun i hi => Below.heap_setCell _ _ _ _ (fun e => hi e)
        have hB3 : Below w.heap.size w w3 := hS2.bel.trans (hg3.below hS2.bel.size (fun g hg => by have := (hS2.row.lt g hg).1; omega))
        refine ⟨hS2.tk.keep fun i hi => (hbs i (by omega)).trans (hbl i (by omega)), hS2.m0.carry ((hbs _ (by omega)).trans (hbl _ (by omega))), (hS2.m.carry (hbl _ (by omega))).setTo 0 v' _ rfl, owns_carryM hrow fun g h1 h2 => hbs g (by omega), hB3.setCell (by show w.heap.size ≤ w.heap.size + 2; omega) _, ?_⟩
        rw [size_setCell]
        have := hg3.rows.size
        omega
      have bx3 : Blk w3 (w.heap.size + 2) [.slice va tl.length vc, .int .i64 (nx : Int), .int .i64 (fr : Int)] 36 := hS2.m.carry (hg3.rows.block _ (by have := hS2.sz; omega) (fun e => by have := (hS2.row.lt _ e.symm).1; omega))
      have HS3 : Hid (NSt w (w3.setCell ⟨w.heap.size + 2, 0, none⟩ v') (tkR ck) v' (tl ++ [(x : Int)]) (nx : Int) (fr : Int)) := hS3
      have z1 := bx3.cell 0 rfl
      have z2 := bx3.frozen 0
      rw [HNL.out] at z1
      refine anyC_loud 5 (by kernel_rfl) ?_
      refine lou_append rfl rfl _ _ _ _ rfl _ _ rfl rfl (by exact hr3) ?_
      refine ⟨fun _ => HP.out _ z1, ?_⟩
      obtain ⟨a5, c5, e5, -⟩ := owns_form2 ho3
      subst e5
      clear hS3 bx3 ho3 hg3 hr3 hS2 hS1 c1 c2 hkl
      refine anyC_pure 6 rfl (by kernel_rfl) (by kernel_rfl) (by kernel_rfl) (HP.out _ z1) (fun K hK => ?_)
      go_simp
      refine hK _ ?_
      clear hK K
      refine anyC_loud 7 (by kernel_rfl) ?_
      refine lou_of rfl (fun K hK => ?_)
      go_simp
      refine hK _ _ ⟨fun h => absurd rfl h, ?_⟩
      clear hK K
      refine anyC_done (by kernel_rfl) ?_
      clear z1 z2 q0 HP
      generalize (w3.setCell ⟨w.heap.size + 2, 0, none⟩ _) = u6 at *
      go_wp2_with fail
      go_roundw
      case rel => exact ⟨k + 1, _, by omega, by go_num, by rw [HS1.out, HS2.out]; exact HS3.out⟩
      case measure => (simp [intOf]; try omega)
    · obtain rfl : N = k := by omega
      obtain ⟨va, vc, hv, -⟩ := owns_msees hS.row
      subst hv
      have hk7 : Blk (((wr.setCell ⟨w.heap.size + 1, 0, none⟩ (.slice va (tks N c3).length vc)).setCell ⟨w.heap.size + 1, 1, none⟩ (.int .i64 (nx : Int))).setCell ⟨w.heap.size + 1, 2, none⟩ (.int .i64 (fr : Int))) (w.heap.size + 1) [.slice va (tks N c3).length vc, .int .i64 (nx : Int), .int .i64 (fr : Int)] 36 := ((hS.m0.setTo 0 _ _ rfl).setTo 1 _ _ rfl).setTo 2 _ _ rfl
      have hr7 : (((wr.setCell ⟨w.heap.size + 1, 0, none⟩ (.slice va (tks N c3).length vc)).setCell ⟨w.heap.size + 1, 1, none⟩ (.int .i64 (nx : Int))).setCell ⟨w.heap.size + 1, 2, none⟩ (.int .i64 (fr : Int))).ownsRow (w.heap.size + 3) 3 1 (.slice va (tks N c3).length vc) (tks N c3).length (vI (tks N c3)) := owns_carryM hS.row fun g h1 h2 => by
        rw [Below.heap_setCell _ _ _ _ (by show g ≠ w.heap.size + 1; omega), Below.heap_setCell _ _ _ _ (by show g ≠ w.heap.size + 1; omega), Below.heap_setCell _ _ _ _ (by show g ≠ w.heap.size + 1; omega)]
      have hB7 : Below w.heap.size w (((wr.setCell ⟨w.heap.size + 1, 0, none⟩ (.slice va (tks N c3).length vc)).setCell ⟨w.heap.size + 1, 1, none⟩ (.int .i64 (nx : Int))).setCell ⟨w.heap.size + 1, 2, none⟩ (.int .i64 (fr : Int))) := ((hS.bel.setCell (by show w.heap.size ≤ w.heap.size + 1; omega) _).setCell (by show w.heap.size ≤ w.heap.size + 1; omega) _).setCell (by show w.heap.size ≤ w.heap.size + 1; omega) _
      obtain ⟨va', vc', hv', hse, hnl, hcp, hcm⟩ := owns_msees hr7
      simp only [Value.slice.injEq] at hv'
      obtain ⟨rfl, -, rfl⟩ := hv'
      have HE : Hid (MSees (((wr.setCell ⟨w.heap.size + 1, 0, none⟩ (.slice va (tks N c3).length vc)).setCell ⟨w.heap.size + 1, 1, none⟩ (.int .i64 (nx : Int))).setCell ⟨w.heap.size + 1, 2, none⟩ (.int .i64 (fr : Int))) va vc (numM l)) := by rw [HN.out]; exact ⟨hse, hnl, hcp⟩
      have HK7 : Hid (Blk (((wr.setCell ⟨w.heap.size + 1, 0, none⟩ (.slice va (tks N c3).length vc)).setCell ⟨w.heap.size + 1, 1, none⟩ (.int .i64 (nx : Int))).setCell ⟨w.heap.size + 1, 2, none⟩ (.int .i64 (fr : Int))) (w.heap.size + 1) [.slice va (tks N c3).length vc, .int .i64 (nx : Int), .int .i64 (fr : Int)] 36) := hk7
      have HB7 : Hid (Below w.heap.size w (((wr.setCell ⟨w.heap.size + 1, 0, none⟩ (.slice va (tks N c3).length vc)).setCell ⟨w.heap.size + 1, 1, none⟩ (.int .i64 (nx : Int))).setCell ⟨w.heap.size + 1, 2, none⟩ (.int .i64 (fr : Int)))) := hB7
      have HA : Hid (∀ a, va = some a → w.heap.size ≤ a.block) := fun a ha => by subst ha; have := (hr7.lt a.block rfl).1; omega
      have HM : Hid (mval va vc (numM l) = .agg #[.slice va (tks N c3).length vc, .int .i64 (nx : Int), .int .i64 (fr : Int)]) := by rw [HN.out]; exact rfl
      have m0 := hS.m.cell 0 rfl
      have m1 := hS.m.cell 1 rfl
      have m2 := hS.m.cell 2 rfl
      have f0 := hS.m0.frozen 0
      have f1 := hS.m0.frozen 1
      have f2 := hS.m0.frozen 2
      have n0 := hS.m0.cell 0 rfl
      have n1 := hS.m0.cell 1 rfl
      have n2 := hS.m0.cell 2 rfl
      clear hS hse hnl hcp hk7 hB7 hr7
      obtain ⟨tn, htn⟩ : ∃ tn, (tks N c3).length = tn := ⟨_, rfl⟩
      rw [htn] at HK7 HB7 HM HE m0
      clear htn
      go_wp2_with fail
      refine bodyPost_ret (v := .agg #[.slice va tn vc, .int .i64 (nx : Int), .int .i64 (fr : Int)]) (results_cell_row Tryz.results86 _ _ (w.heap.size + 1) 36 _ _ _ rfl HK7.out Tryz.underlying36 rfl (by kernel_rfl)) rfl ?_
      exact ⟨va, vc, by rw [HM.out], HE.out, hcm, HA.out, HB7.out⟩
end Go.Proofs.YthihljjefncfoaaGreatDoor
namespace Go.Proofs.YthihljjefncfoaaGreatDoor
open Go.RowKit

set_option maxRecDepth 100000 in
theorem equal_any (ao bo : Option Addr) (la lb : List UInt8) (ca cb : Nat) (w : World) (ha : Sees w ao la) (hb : Sees w bo lb) (hna : ao = none → la.length = 0) (hnb : bo = none → lb.length = 0) :
    Calls Tryz.prog 87 #[.slice ao la.length ca, .slice bo lb.length cb] w fun e w' => e = .returned (.bool (la == lb)) ∧ w' = w := by
  have c1 := conv_sees ha hna ca
  have c2 := conv_sees hb hnb cb
  go_enter Tryz.func87, Tryz.ntmps87
  go_wp2_with fail
  go_ret
  exact ⟨rfl, rfl⟩
end Go.Proofs.YthihljjefncfoaaGreatDoor
namespace Go.Proofs.YthihljjefncfoaaGreatDoor
open Go.RowKit

/-- What Read tells. -/
def rdF (b : List UInt8) : Mf := (rdM b).getD ⟨[], 0, 0⟩
def rdE (b : List UInt8) : Int := if (rdM b).isSome then 0 else 8
theorem rd_none {b : List UInt8} (h : rdM b = none) : rdF b = ⟨[], 0, 0⟩ ∧ rdE b = 8 := by unfold rdF rdE; rw [h]; exact ⟨rfl, rfl⟩
theorem rd_some {b : List UInt8} {m : Mf} (h : rdM b = some m) : rdF b = m ∧ rdE b = 0 := by unfold rdF rdE; rw [h]; exact ⟨rfl, rfl⟩
theorem numM_len (c : List UInt8) : (numM c).ts.length ≤ 31 := by unfold numM; dsimp only; rw [tks_len]; omega
theorem results_row_tmpM {P : Program} {fn : Func} {p u : Tmp} {ty : TypeId} (h : fn.results = #[.cell p ty, .tmp u]) (tmps : Array Value) (w : World) (g : Nat) (t : TypeId) (cs : Array Value) (fr : Nat × Nat) (d : TypeDesc) (v : Value)
    (hp : tmps.getD p undef = .pointer (some ⟨g, 0, none⟩)) (hv : tmps.getD u undef = v) (hg : w.heap[g]? = some (.cells cs t fr))
    (hu : P.underlying ty = some d) (hd : (match d with | .struct _ | .array _ _ => true | _ => false) = true) (hi : (P.info? ty).map (·.size) = some cs.size) :
    (results fn tmps).run P w = .ok (.tuple #[.agg cs, v]) w := by
  rw [results_cell_tmp h, hp, hv]
  simp [asAddr, run_loadVar_row w g t ty cs fr d hg hu hd hi, Result.andThen]
set_option maxRecDepth 100000 in
set_option maxHeartbeats 2000000 in
theorem readM_any (ao : Option Addr) (b : List UInt8) (cap : Nat) (w : World) (hs : Sees w ao b) (hn : ao = none → b.length = 0) (hcap : b.length ≤ cap) (hcm : cap ≤ 9223372036854775807) (hl : b.length ≤ 1000000) (ht : Tab w) (u : TypeId) (pv : Value) (he : Err w u pv) :
    Calls Tryz.prog 44 #[.slice ao b.length cap] w fun e w' => ∃ a5 c5, e = .returned (.tuple #[mval a5 c5 (rdF b), .int .i64 (rdE b)]) ∧ MSees w' a5 c5 (rdF b) ∧ c5 ≤ 9223372036854775807 ∧ (∀ a, a5 = some a → w.heap.size ≤ a.block) ∧ Below w.heap.size w w' := by
  have hB0 : Below w.heap.size w (w.alloc (.cells #[.slice none 0 0, .int .i64 0, .int .i64 0] 36)) := (Below.refl _ _).alloc (Nat.le_refl _) _
  have k0 := Blk.new w [.slice none 0 0, .int .i64 0, .int .i64 0] 36
  have CU : Hid (Calls Tryz.prog 85 #[.slice ao b.length cap] (w.alloc (.cells #[.slice none 0 0, .int .i64 0, .int .i64 0] 36)) fun e w' => ∃ v', e = .returned (.tuple #[v', .int .i64 (unfN b), .int .i64 (unfE b)]) ∧ w'.ownsRow w.heap.size 5 1 v' (unfB b).length (B8 (unfB b)) ∧ Below w.heap.size w w' ∧ Blk w' w.heap.size [.slice none 0 0, .int .i64 0, .int .i64 0] 36) :=
    (unframe_any ao b cap _ (hs.below hB0 (Nat.le_refl _)) (by omega) hcap hcm (ht.below hB0 (Nat.le_refl _))).mono fun e w' ⟨v', h1, h2, h3⟩ => ⟨v', h1, owns_baseI h2 hB0.size, hB0.trans (h3.mono hB0.size), k0.carry (h3.block _ k0.lt)⟩
  have HZ : Hid (∀ w', Below w.heap.size w w' → rdM b = none → ∃ a5 c5, Ending.returned (.tuple #[.agg #[.slice none 0 0, .int .i64 0, .int .i64 0], .int .i64 8]) = .returned (.tuple #[mval a5 c5 (rdF b), .int .i64 (rdE b)]) ∧ MSees w' a5 c5 (rdF b) ∧ c5 ≤ 9223372036854775807 ∧ (∀ a, a5 = some a → w.heap.size ≤ a.block) ∧ Below w.heap.size w w') := fun w' hb hr => by
    obtain ⟨e1, e2⟩ := rd_none hr
    rw [e1, e2]
    exact ⟨none, 0, rfl, ⟨fun i x hx => by simp at hx, fun _ => rfl, Nat.le_refl _⟩, by omega, (fun a e => by cases e), hb⟩
  by_cases hE : unfE b = 0
  · have hlB : (unfB b).length ≤ 1000000 := by
      unfold unfB
      rw [if_pos hE, List.length_take, List.length_drop]; omega
    have HRD : Hid (rdM b = if unfE b = 0 ∧ goodM (numM (unfB b)) = true ∧ encM (numM (unfB b)) = b then some (numM (unfB b)) else none) := rfl
    have CN : Hid (∀ x a' c', Below w.heap.size w x → x.ownsRow w.heap.size 5 1 (.slice a' (unfB b).length c') (unfB b).length (B8 (unfB b)) → Calls Tryz.prog 86 #[.slice a' (unfB b).length c'] x fun e x' => ∃ a5 c5, e = .returned (mval a5 c5 (numM (unfB b))) ∧ MSees x' a5 c5 (numM (unfB b)) ∧ c5 ≤ 9223372036854775807 ∧ (∀ a, a5 = some a → x.heap.size ≤ a.block) ∧ Below x.heap.size x x') := fun x a' c' hx ho => by
      obtain ⟨a1, c1, e1, s1, l1, n1⟩ := owns_sees ho
      cases e1
      have he' : Err x u pv := by unfold Err at he ⊢; rw [hx.cell (World.block_lt_of_cell? _ _ he)]; exact he
      have h5 : (a' = none ∧ (unfB b).length = 0) ∨ ∃ q off, a' = some ⟨q, off, none⟩ ∧ q < x.heap.size := by
        rcases ho.2 with ⟨e, h0⟩ | ⟨g, cp, cur, e, h1, h2, _⟩
        · simp only [Value.slice.injEq] at e; exact .inl ⟨e.1, h0⟩
        · simp only [Value.slice.injEq] at e; exact .inr ⟨g, 0, e.1, (Array.getElem?_eq_some_iff.1 h2).1⟩
      obtain ⟨_, _, e2, hcp⟩ := owns_form2 ho
      cases e2
      have hcm2 : c' ≤ 9223372036854775807 := by
        rcases ho.2 with ⟨e, h0⟩ | ⟨g, cp, cur, e, h1, h2, h3, h4, _⟩
        · simp only [Value.slice.injEq] at e; omega
        · simp only [Value.slice.injEq] at e; unfold maxLen at h4; omega
      exact numbersM_any a' (unfB b) c' x s1 hcp hcm2 h5 hlB u pv he'
    have HTab : Hid (∀ x, Below w.heap.size w x → Tab x) := fun x hx => ht.below hx (Nat.le_refl _)
    have HEQ : Hid (∀ x a1 c1 (E : List UInt8), Below w.heap.size w x → Sees x a1 E → (a1 = none → E.length = 0) → Calls Tryz.prog 87 #[.slice a1 E.length c1, .slice ao b.length cap] x fun e w' => e = .returned (.bool (E == b)) ∧ w' = x) := fun x a1 c1 E hx h1 h2 => equal_any a1 ao E b c1 cap x h1 (hs.below hx (Nat.le_refl _)) h2 hn
    have hnl := numM_len (unfB b)
    rw [hE] at CU
    have HE0 : Hid (unfE b = 0) := hE
    clear hs hn hcap hcm hl ht he hE hlB k0 hB0
    generalize unfB b = c at *
    generalize numM c = m at *
    generalize unfN b = nn at *
    obtain ⟨ts, nx, fr⟩ := m
    cases hg : goodM ⟨ts, nx, fr⟩ with
    | false =>
      have HR : Hid (rdM b = none) := by show _ = _; rw [HRD.out, if_neg (fun h => by rw [hg] at h; exact absurd h.2.1 (by simp))]
      have CN := CN
      unfold mval at CN
      dsimp only at CN hnl
      go_enter Tryz.func44, Tryz.ntmps44
      go_wp2_with fail
      go_fit CU.out
      rintro e w2 ⟨v', rfl, ho, hB2, hk2⟩
      obtain ⟨a', c', rfl, -⟩ := owns_form2 ho
      have C2 := CN.out w2 a' c' hB2 ho
      clear ho CN
      generalize c.length = cl at *
      go_wp2_with fail
      go_fit C2
      rintro e w3 ⟨a5, c5, rfl, hm, hc5, ha5, hB3⟩
      have ha5' : ∀ a, a5 = some a → w.heap.size < a.block := fun a e => Nat.lt_of_lt_of_le hk2.lt (ha5 a e)
      clear ha5
      have hB3' : Below w.heap.size w w3 := hB2.trans (hB3.mono hB2.size)
      have hk3 := hk2.carry (hB3.block _ hk2.lt)
      clear C2 hB3 hB2 hk2
      have k4 := Blk.new w3 [.slice a5 ts.length c5, .int .i64 nx, .int .i64 fr] 36
      have hB4 : Below w3.heap.size w3 (w3.alloc (.cells #[.slice a5 ts.length c5, .int .i64 nx, .int .i64 fr] 36)) := (Below.refl _ _).alloc (Nat.le_refl _) _
      have hB4' : Below w.heap.size w (w3.alloc (.cells #[.slice a5 ts.length c5, .int .i64 nx, .int .i64 fr] 36)) := hB3'.trans (hB4.mono hB3'.size)
      have m0 := k4.cell 0 rfl
      have m1 := k4.cell 1 rfl
      have m2 := k4.cell 2 rfl
      have hk4 := hk3.alloc (.cells #[.slice a5 ts.length c5, .int .i64 nx, .int .i64 fr] 36)
      have hm4 := hm.below hB4 (Nat.le_refl _)
      have C4 : Calls Tryz.prog 25 #[.agg #[.slice a5 ts.length c5, .int .i64 nx, .int .i64 fr]] (w3.alloc (.cells #[.slice a5 ts.length c5, .int .i64 nx, .int .i64 fr] 36)) fun e w' => e = .returned (.tuple #[.slice none 0 0, .int .i64 2]) ∧ Below w.heap.size w w' ∧ Blk w' w.heap.size [.slice none 0 0, .int .i64 0, .int .i64 0] 36 :=
        (bytesM_bad a5 c5 ⟨ts, nx, fr⟩ _ hm4 (by show ts.length ≤ _; omega) hc5 hg).mono fun e w' hh => ⟨hh.1, hB4'.trans (hh.2.mono hB4'.size), hk4.carry (hh.2.block _ hk4.lt)⟩
      clear hB3' hk3 k4 hB4 hB4' hk4 hm4 hm hg
      go_wp2_with fail
      go_fit C4
      rintro e w5 ⟨rfl, hB5, hk5⟩
      have f0 := hk5.frozen 0
      have f1 := hk5.frozen 1
      have f2 := hk5.frozen 2
      have n0 := hk5.cell 0 rfl
      have n1 := hk5.cell 1 rfl
      have n2 := hk5.cell 2 rfl
      have HK : Hid (Blk (((w5.setCell ⟨w.heap.size, 0, none⟩ (.slice none 0 0)).setCell ⟨w.heap.size, 1, none⟩ (.int .i64 0)).setCell ⟨w.heap.size, 2, none⟩ (.int .i64 0)) w.heap.size [.slice none 0 0, .int .i64 0, .int .i64 0] 36) := ((hk5.setTo 0 _ _ rfl).setTo 1 _ _ rfl).setTo 2 _ _ rfl
      have HB5 : Hid (Below w.heap.size w w5) := hB5
      clear hk5 hB5 C4 m0 m1 m2
      go_wp2_with fail
      refine bodyPost_ret (v := .tuple #[.agg #[.slice none 0 0, .int .i64 0, .int .i64 0], .int .i64 8]) (results_row_tmpM Tryz.results44 _ _ w.heap.size 36 _ _ _ _ rfl rfl HK.out Tryz.underlying36 rfl (by kernel_rfl)) rfl ?_
      exact HZ.out _ (((HB5.out.setCell (Nat.le_refl _) _).setCell (Nat.le_refl _) _).setCell (Nat.le_refl _) _) HR.out
    | true =>
      have CN := CN
      unfold mval at CN
      dsimp only at CN hnl
      go_enter Tryz.func44, Tryz.ntmps44
      go_wp2_with fail
      go_fit CU.out
      rintro e w2 ⟨v', rfl, ho, hB2, hk2⟩
      obtain ⟨a', c', rfl, -⟩ := owns_form2 ho
      have C2 := CN.out w2 a' c' hB2 ho
      clear ho CN
      generalize c.length = cl at *
      go_wp2_with fail
      go_fit C2
      rintro e w3 ⟨a5, c5, rfl, hm, hc5, ha5, hB3⟩
      have ha5' : ∀ a, a5 = some a → w.heap.size < a.block := fun a e => Nat.lt_of_lt_of_le hk2.lt (ha5 a e)
      clear ha5
      have hB3' : Below w.heap.size w w3 := hB2.trans (hB3.mono hB2.size)
      have hk3 := hk2.carry (hB3.block _ hk2.lt)
      clear C2 hB3 hB2 hk2
      have k4 := Blk.new w3 [.slice a5 ts.length c5, .int .i64 nx, .int .i64 fr] 36
      have hB4 : Below w3.heap.size w3 (w3.alloc (.cells #[.slice a5 ts.length c5, .int .i64 nx, .int .i64 fr] 36)) := (Below.refl _ _).alloc (Nat.le_refl _) _
      have hB4' : Below w.heap.size w (w3.alloc (.cells #[.slice a5 ts.length c5, .int .i64 nx, .int .i64 fr] 36)) := hB3'.trans (hB4.mono hB3'.size)
      have m0 := k4.cell 0 rfl
      have m1 := k4.cell 1 rfl
      have m2 := k4.cell 2 rfl
      have hk4 := hk3.alloc (.cells #[.slice a5 ts.length c5, .int .i64 nx, .int .i64 fr] 36)
      have hm4 := hm.below hB4 (Nat.le_refl _)
      have C4 : Calls Tryz.prog 25 #[.agg #[.slice a5 ts.length c5, .int .i64 nx, .int .i64 fr]] (w3.alloc (.cells #[.slice a5 ts.length c5, .int .i64 nx, .int .i64 fr] 36)) fun e w' => ∃ g, e = .returned (.tuple #[.slice (some ⟨g, 0, none⟩) (encM ⟨ts, nx, fr⟩).length (encM ⟨ts, nx, fr⟩).length, .int .i64 0]) ∧ Row w' g (encM ⟨ts, nx, fr⟩) ∧ Below w.heap.size w w' ∧ Blk w' w.heap.size [.slice none 0 0, .int .i64 0, .int .i64 0] 36 ∧ Blk w' w3.heap.size [.slice a5 ts.length c5, .int .i64 nx, .int .i64 fr] 36 ∧ MSees w' a5 c5 ⟨ts, nx, fr⟩ :=
        (bytesM_ok a5 c5 ⟨ts, nx, fr⟩ _ hm4 hc5 (HTab.out _ hB4') hg).mono fun e w' ⟨g, h1, h2, h3, h4⟩ => ⟨g, h1, h3, hB4'.trans (h4.mono hB4'.size), hk4.carry (h4.block _ hk4.lt), k4.carry (h4.block _ k4.lt), hm4.below h4 (Nat.le_refl _)⟩
      have hne : w.heap.size ≠ w3.heap.size := by have := hk3.lt; omega
      clear hB3' hk3 k4 hB4 hB4' hk4 hm4 hm
      have HRD2 : Hid (rdM b = if encM ⟨ts, nx, fr⟩ = b then some ⟨ts, nx, fr⟩ else none) := by
        show _ = _
        rw [HRD.out]
        by_cases hq : encM ⟨ts, nx, fr⟩ = b
        · rw [if_pos hq, if_pos ⟨HE0.out, hg, hq⟩]
        · rw [if_neg hq, if_neg (fun h => hq h.2.2)]
      clear hg HRD
      generalize encM ⟨ts, nx, fr⟩ = E at *
      go_wp2_with fail
      go_fit C4
      rintro e w5 ⟨g, rfl, hrow, hB5, hk5, hk6, hm5⟩
      have hsee : Sees w5 (some ⟨g, 0, none⟩) E := by have := hrow.sees 0 E.length (by omega); simpa using this
      have C5 := HEQ.out w5 (some ⟨g, 0, none⟩) E.length E hB5 hsee (fun e => by cases e)
      clear hrow hsee C4 HEQ m0 m1 m2
      have HB5 : Hid (Below w.heap.size w w5) := hB5
      by_cases hq : E = b
      · subst hq
        rw [beq_self_eq_true] at C5
        have HR := HRD2.out
        rw [if_pos rfl] at HR
        obtain ⟨r1, r2⟩ := rd_some HR
        have m0 := hk6.cell 0 rfl
        have m1 := hk6.cell 1 rfl
        have m2 := hk6.cell 2 rfl
        have f0 := hk5.frozen 0
        have f1 := hk5.frozen 1
        have f2 := hk5.frozen 2
        have n0 := hk5.cell 0 rfl
        have n1 := hk5.cell 1 rfl
        have n2 := hk5.cell 2 rfl
        have HK : Hid (Blk (((w5.setCell ⟨w.heap.size, 0, none⟩ (.slice a5 ts.length c5)).setCell ⟨w.heap.size, 1, none⟩ (.int .i64 nx)).setCell ⟨w.heap.size, 2, none⟩ (.int .i64 fr)) w.heap.size [.slice a5 ts.length c5, .int .i64 nx, .int .i64 fr] 36) := ((hk5.setTo 0 _ _ rfl).setTo 1 _ _ rfl).setTo 2 _ _ rfl
        have HE : Hid (∃ a6 c6, Ending.returned (.tuple #[.agg #[.slice a5 ts.length c5, .int .i64 nx, .int .i64 fr], .int .i64 0]) = .returned (.tuple #[mval a6 c6 (rdF E), .int .i64 (rdE E)]) ∧ MSees (((w5.setCell ⟨w.heap.size, 0, none⟩ (.slice a5 ts.length c5)).setCell ⟨w.heap.size, 1, none⟩ (.int .i64 nx)).setCell ⟨w.heap.size, 2, none⟩ (.int .i64 fr)) a6 c6 (rdF E) ∧ c6 ≤ 9223372036854775807 ∧ (∀ a, a6 = some a → w.heap.size ≤ a.block) ∧ Below w.heap.size w (((w5.setCell ⟨w.heap.size, 0, none⟩ (.slice a5 ts.length c5)).setCell ⟨w.heap.size, 1, none⟩ (.int .i64 nx)).setCell ⟨w.heap.size, 2, none⟩ (.int .i64 fr))) := by
          rw [r1, r2]
          refine ⟨a5, c5, rfl, ⟨fun i x hx => ?_, hm5.nil, hm5.cap⟩, hc5, fun a e => Nat.le_of_lt (ha5' a e), ((HB5.out.setCell (Nat.le_refl _) _).setCell (Nat.le_refl _) _).setCell (Nat.le_refl _) _⟩
          obtain ⟨q, off, e, hc⟩ := hm5.see i x hx
          have hq := ha5' _ e
          refine ⟨q, off, e, ?_⟩
          rw [World.cell?_of_block (w := w5)]
          · exact hc
          · show (((w5.setCell _ _).setCell _ _).setCell _ _).heap[q]? = _
            rw [Below.heap_setCell _ _ _ _ (by show q ≠ w.heap.size; exact Nat.ne_of_gt hq), Below.heap_setCell _ _ _ _ (by show q ≠ w.heap.size; exact Nat.ne_of_gt hq), Below.heap_setCell _ _ _ _ (by show q ≠ w.heap.size; exact Nat.ne_of_gt hq)]
        clear hk5 hB5 hk6 hm5 HRD2 HR r1 r2 ha5'
        obtain ⟨el, hel⟩ : ∃ el, E.length = el := ⟨_, rfl⟩
        have HEL : Hid (E.length = el) := hel
        rw [hel] at C5
        rw [hel]
        clear hel
        go_wp2_with fail
        go_fit C5
        rintro e w6 ⟨rfl, rfl⟩
        go_wp2_with fail
        refine bodyPost_ret (v := .tuple #[.agg #[.slice a5 ts.length c5, .int .i64 nx, .int .i64 fr], .int .i64 0]) (results_row_tmpM Tryz.results44 _ _ w.heap.size 36 _ _ _ _ rfl rfl HK.out Tryz.underlying36 rfl (by kernel_rfl)) rfl ?_
        exact HE.out
      · have hqb : (E == b) = false := by rw [beq_eq_false_iff_ne]; exact hq
        rw [hqb] at C5
        have HR : Hid (rdM b = none) := by show _ = _; rw [HRD2.out, if_neg hq]
        have f0 := hk5.frozen 0
        have f1 := hk5.frozen 1
        have f2 := hk5.frozen 2
        have n0 := hk5.cell 0 rfl
        have n1 := hk5.cell 1 rfl
        have n2 := hk5.cell 2 rfl
        have HK : Hid (Blk (((w5.setCell ⟨w.heap.size, 0, none⟩ (.slice none 0 0)).setCell ⟨w.heap.size, 1, none⟩ (.int .i64 0)).setCell ⟨w.heap.size, 2, none⟩ (.int .i64 0)) w.heap.size [.slice none 0 0, .int .i64 0, .int .i64 0] 36) := ((hk5.setTo 0 _ _ rfl).setTo 1 _ _ rfl).setTo 2 _ _ rfl
        clear hk5 hB5 hk6 hm5 HRD2 hq hqb
        generalize E.length = el at *
        go_wp2_with fail
        go_fit C5
        rintro e w6 ⟨rfl, rfl⟩
        go_wp2_with fail
        refine bodyPost_ret (v := .tuple #[.agg #[.slice none 0 0, .int .i64 0, .int .i64 0], .int .i64 8]) (results_row_tmpM Tryz.results44 _ _ w.heap.size 36 _ _ _ _ rfl rfl HK.out Tryz.underlying36 rfl (by kernel_rfl)) rfl ?_
        exact HZ.out _ (((HB5.out.setCell (Nat.le_refl _) _).setCell (Nat.le_refl _) _).setCell (Nat.le_refl _) _) HR.out
  · have HR : Hid (rdM b = none) := rdM_bad hE
    have hEi : ((unfE b : Int) == 0) = false := by rw [beq_eq_false_iff_ne]; omega
    generalize (unfE b : Int) = E at *
    clear hs hn hcap hcm hl ht he hE k0 hB0
    go_enter Tryz.func44, Tryz.ntmps44
    go_wp2_with fail
    go_fit CU.out
    rintro e w2 ⟨v', rfl, ho, hB2, hk2⟩
    have HB2 : Hid (Below w.heap.size w w2) := hB2
    have f0 := hk2.frozen 0
    have f1 := hk2.frozen 1
    have f2 := hk2.frozen 2
    have n0 := hk2.cell 0 rfl
    have n1 := hk2.cell 1 rfl
    have n2 := hk2.cell 2 rfl
    have HK : Hid (Blk (((w2.setCell ⟨w.heap.size, 0, none⟩ (.slice none 0 0)).setCell ⟨w.heap.size, 1, none⟩ (.int .i64 0)).setCell ⟨w.heap.size, 2, none⟩ (.int .i64 0)) w.heap.size [.slice none 0 0, .int .i64 0, .int .i64 0] 36) := ((hk2.setTo 0 _ _ rfl).setTo 1 _ _ rfl).setTo 2 _ _ rfl
    clear hB2 hk2 ho
    go_wp2_with fail
    refine bodyPost_ret (v := .tuple #[.agg #[.slice none 0 0, .int .i64 0, .int .i64 0], .int .i64 8]) (results_row_tmpM Tryz.results44 _ _ w.heap.size 36 _ _ _ _ rfl rfl HK.out Tryz.underlying36 rfl (by kernel_rfl)) rfl ?_
    exact HZ.out _ (((HB2.out.setCell (Nat.le_refl _) _).setCell (Nat.le_refl _) _).setCell (Nat.le_refl _) _) HR.out
end Go.Proofs.YthihljjefncfoaaGreatDoor
