/-
  ROWS OF INTS IN MEMORY; the very same numbers (Ints).
-/
import Derived.Test.YtcnceipkoapcpaaDoorRegCl
import Derived.Test.YtcnceipkoapcpaaDoorChecked
namespace Go.Proofs.YtcnceipkoapcpaaDoor
open Go.RowKit

def vI (l : List Int) : List Value := l.map fun x => Value.int .i64 x
theorem vI_len (l : List Int) : (vI l).length = l.length := List.length_map _
theorem vI_one (l : List Int) : ∀ u ∈ vI l, u.oneCell' = true := by
  intro u hu
  obtain ⟨_, _, rfl⟩ := List.mem_map.1 hu
  rfl
theorem vI_at {l : List Int} {i : Nat} {x : Int} (h : l[i]? = some x) : (vI l)[i]? = some (.int .i64 x) := by simp [vI, h]
/-- The ints l can be read from the address on. -/
def ISees (w : World) (ao : Option Addr) (l : List Int) : Prop := ∀ i x, l[i]? = some x → ∃ b off, ao = some ⟨b, off, none⟩ ∧ w.cell? ⟨b, off + i, none⟩ = some (.int .i64 x)
theorem ISees.below {w w' : World} {ao : Option Addr} {l : List Int} (h : ISees w ao l) {B : Nat} (hb : Below B w w') (hB : w.heap.size ≤ B) : ISees w' ao l := by
  intro i x hx
  obtain ⟨b, off, e, hc⟩ := h i x hx
  have := World.block_lt_of_cell? _ _ hc
  exact ⟨b, off, e, by rw [hb.cell (show b < B from Nat.lt_of_lt_of_le this hB)]; exact hc⟩
theorem src_ints {w : World} {ao : Option Addr} {l : List Int} (h : ISees w ao l) (hn : ao = none → l.length = 0) (cap : Nat) : Src Tryd.prog 1 37 (.slice ao l.length cap) l.length (vI l) w := by
  cases ao with
  | none =>
    obtain rfl : l = [] := List.eq_nil_of_length_eq_zero (hn rfl)
    exact Src.ofNil w Tryd.underlying37 cap
  | some a =>
    refine Src.ofSlice w Tryd.underlying37 a _ cap _ (by rw [vI_len, Nat.mul_one]) (fun j u hu => ?_) (vI_one l)
    have hj : j < l.length := by have := (List.getElem?_eq_some_iff.1 hu).1; rwa [vI_len] at this
    have hx : l[j]? = some l[j] := List.getElem?_eq_getElem hj
    obtain ⟨b, off, e, hc⟩ := h j _ hx
    obtain rfl := Option.some.inj e
    rw [vI_at hx] at hu
    obtain rfl := Option.some.inj hu
    rw [Addr.add_lit]; exact hc
theorem infoInt : (Tryd.prog.info? 3).map (fun i => (i.zero, i.size, i.bytes)) = some (some (.int .i64 0), 1, 8) := by kernel_rfl
theorem isNilI (cap : Nat) (w : World) : (binOp BinOp.eql 37 (.slice none 0 cap) (.slice none 0 0)).run Tryd.prog w = .ok (.bool true) w := by kernel_rfl
theorem notNilI (a : Addr) (n cap : Nat) (w : World) : (binOp BinOp.eql 37 (.slice (some a) n cap) (.slice none 0 0)).run Tryd.prog w = .ok (.bool false) w := by kernel_rfl
theorem owns_noneI (w : World) (base : Nat) (hb : base ≤ w.heap.size) : (w.alloc (.cells #[] 3)).ownsRow base 3 1 (.slice (some ⟨w.heap.size, 0, none⟩) 0 0) 0 [] :=
  ⟨rfl, .inr ⟨w.heap.size, 0, #[], rfl, hb, heap_alloc_new w _, Nat.le_refl _, Nat.zero_le _, rfl, rfl⟩⟩
set_option maxRecDepth 100000 in
set_option maxHeartbeats 1000000 in
theorem ints_same (ao bo : Option Addr) (l : List Int) (ca cb : Nat) (w : World) (ha : ISees w ao l) (hb : ISees w bo l) (hl : l.length ≤ 1000000) :
    Calls Tryd.prog 15 #[.slice ao l.length ca, .slice bo l.length cb] w fun e w' => e = .returned (.bool true) ∧ Below w.heap.size w w' := by
  have hlz : (l.length : Int) ≤ 1000000 := by omega
  go_enter Tryd.func15, Tryd.ntmps15
  go_wp2_with fail
  go_loopw [13] (fun s13 wr => ∃ i : Nat, i ≤ l.length ∧ s13 = .int .i64 i ∧ Below w.heap.size w wr) (fun s13 _ => l.length - (intOf s13).toNat)
  case atStart => exact ⟨0, by omega, rfl, Below.refl _ _⟩
  case round =>
    obtain ⟨i, hi, rfl, hbr⟩ := hrel
    rcases Nat.lt_or_ge i l.length with hlt | hge
    · have hc : l[i]? = some l[i] := List.getElem?_eq_getElem hlt
      obtain ⟨b, off, rfl, cx⟩ := (ha.below hbr (Nat.le_refl _)) i _ hc
      obtain ⟨b', off', rfl, cy⟩ := (hb.below hbr (Nat.le_refl _)) i _ hc
      generalize l[i] = x at *
      have HE : Hid (∀ w', Below wr.heap.size wr w' → Below w.heap.size w w') := fun w' h => hbr.trans (h.mono hbr.size)
      have hltz : (i : Int) < (l.length : Int) := by omega
      have q0 : ∀ z : Cl wr.heap.size wr, z.u.cell? ⟨b, off + i, none⟩ = some (.int .i64 x) := fun z => z.cell (World.block_lt_of_cell? _ _ cx) cx
      have q1 : ∀ z : Cl wr.heap.size wr, z.u.cell? ⟨b', off' + i, none⟩ = some (.int .i64 x) := fun z => z.cell (World.block_lt_of_cell? _ _ cy) cy
      clear ha hb hc cx cy hbr
      haveI := Cl.inh wr.heap.size wr
      go_wp2_with fail
      refine wp_region_cl wr.heap.size (by kernel_rfl) (by kernel_rfl) ?_
      repeat quiet_step (fail)
      refine wpQuiet_nil ?_
      rintro w0 ⟨z, rfl⟩
      have hz := HE.out _ z.h
      go_wp2_with fail
      go_roundw
      case rel => exact ⟨i + 1, by omega, by go_num, hz⟩
      case measure => (simp [intOf]; try omega)
    · have hgez : ¬ (i : Int) < (l.length : Int) := by omega
      clear ha hb
      go_wp2_with fail
      go_ret
      exact ⟨rfl, hbr⟩
theorem owns_isees {w : World} {base : Nat} {v : Value} {l : List Int} {n : Nat} (h : w.ownsRow base 3 1 v n (vI l)) : ∃ ao cap, v = .slice ao l.length cap ∧ ISees w ao l := by
  have hl : l.length = n := by have := h.1; rwa [vI_len, Nat.mul_one] at this
  have h0 := h
  rcases h.2 with ⟨rfl, rfl⟩ | ⟨g, cap, cur, rfl, hg, hh, hn, hm, hs, ht⟩
  · exact ⟨none, 0, by rw [hl], fun i x hx => by have := (List.getElem?_eq_some_iff.1 hx).1; omega⟩
  · refine ⟨some ⟨g, 0, none⟩, cap, by rw [hl], fun i x hx => ⟨g, 0, rfl, ?_⟩⟩
    have := h0.cells (g := g) rfl _ _ (vI_at hx)
    rw [Addr.add_lit] at this; exact this
set_option maxRecDepth 100000 in
set_option maxHeartbeats 1000000 in
theorem ints_any (ao bo : Option Addr) (la lb : List Int) (ca cb : Nat) (w : World) (ha : ISees w ao la) (hb : ISees w bo lb) (hl : la.length ≤ 1000000) (hm : lb.length ≤ 1000000) :
    Calls Tryd.prog 15 #[.slice ao la.length ca, .slice bo lb.length cb] w fun e w' => e = .returned (.bool (decide (la = lb))) ∧ Below w.heap.size w w' := by
  have hlz : (la.length : Int) ≤ 1000000 := by omega
  have hmz : (lb.length : Int) ≤ 1000000 := by omega
  by_cases hne : la.length = lb.length
  · by_cases he : la = lb
    · subst he
      refine (ints_same ao bo la ca cb w ha hb hl).mono fun e w' ⟨h1, h2⟩ => ⟨by rw [h1]; simp, h2⟩
    · have HE0 : Hid (decide (la = lb) = false) := decide_eq_false he
      have HX : Hid (∀ i, i ≤ la.length → la.take i = lb.take i → i ≠ la.length) := fun i _ h1 h2 => he (by
        have h3 : lb.take i = lb := List.take_of_length_le (by omega)
        rw [h2, List.take_length, ← h2, h3] at h1
        exact h1)
      rw [← hne]
      have HL : Hid (la.length = lb.length) := hne
      clear hne he hmz
      go_enter Tryd.func15, Tryd.ntmps15
      go_wp2_with fail
      go_loopw [13] (fun s13 wr => ∃ i : Nat, i ≤ la.length ∧ s13 = .int .i64 i ∧ la.take i = lb.take i ∧ Below w.heap.size w wr) (fun s13 _ => la.length - (intOf s13).toNat)
      case atStart => exact ⟨0, by omega, rfl, rfl, Below.refl _ _⟩
      case round =>
        obtain ⟨i, hi, rfl, htk, hbr⟩ := hrel
        have hlt : i < la.length := by have := HX.out i hi htk; omega
        have hc : la[i]? = some la[i] := List.getElem?_eq_getElem hlt
        have hlt2 : i < lb.length := by have := HL.out; omega
        have hd : lb[i]? = some lb[i] := List.getElem?_eq_getElem hlt2
        have HT : Hid (la[i] = lb[i] → la.take (i + 1) = lb.take (i + 1)) := fun h => by rw [List.take_add_one, List.take_add_one, hc, hd, htk, h]
        obtain ⟨b, off, rfl, cx⟩ := (ha.below hbr (Nat.le_refl _)) i _ hc
        obtain ⟨b', off', rfl, cy⟩ := (hb.below hbr (Nat.le_refl _)) i _ hd
        generalize la[i] = x at *
        generalize lb[i] = y at *
        have HE : Hid (∀ w', Below wr.heap.size wr w' → Below w.heap.size w w') := fun w' h => hbr.trans (h.mono hbr.size)
        have hltz : (i : Int) < (la.length : Int) := by omega
        have q0 : ∀ z : Cl wr.heap.size wr, z.u.cell? ⟨b, off + i, none⟩ = some (.int .i64 x) := fun z => z.cell (World.block_lt_of_cell? _ _ cx) cx
        have q1 : ∀ z : Cl wr.heap.size wr, z.u.cell? ⟨b', off' + i, none⟩ = some (.int .i64 y) := fun z => z.cell (World.block_lt_of_cell? _ _ cy) cy
        clear ha hb hc hd cx cy hbr htk hlt2
        haveI := Cl.inh wr.heap.size wr
        go_wp2_with fail
        refine wp_region_cl wr.heap.size (by kernel_rfl) (by kernel_rfl) ?_
        repeat quiet_step (fail)
        refine wpQuiet_nil ?_
        rintro w0 ⟨z, rfl⟩
        have hz := HE.out _ z.h
        by_cases hxy : x = y
        · have hT := HT.out hxy
          have HT2 : Hid (la.take (i + 1) = lb.take (i + 1)) := hT
          clear hT HT HX
          subst hxy
          go_wp2_with fail
          go_roundw
          case rel => exact ⟨i + 1, by omega, by go_num, HT2.out, hz⟩
          case measure => (simp [intOf]; try omega)
        · go_wp2_with fail
          go_ret
          exact ⟨by rw [HE0.out]; rfl, hz⟩
  · have hnz : ¬ (la.length : Int) = (lb.length : Int) := by omega
    have HE0 : Hid (decide (la = lb) = false) := by
      exact decide_eq_false fun h => hne (by rw [h])
    clear ha hb hne
    go_enter Tryd.func15, Tryd.ntmps15
    go_wp2_with fail
    go_ret
    exact ⟨by rw [HE0.out]; rfl, Below.refl _ _⟩
end Go.Proofs.YtcnceipkoapcpaaDoor
