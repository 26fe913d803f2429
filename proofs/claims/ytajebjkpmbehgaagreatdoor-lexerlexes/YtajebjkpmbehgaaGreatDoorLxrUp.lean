/-
  CONTRACTS: the document's Upper and Lower.
-/
import Derived.Test.YtajebjkpmbehgaaGreatDoorLexQuo
namespace Go.Proofs.YtajebjkpmbehgaaGreatDoor
open Go.RowKit

/-- Bytes in a block that may be written. -/
structure Rwb (w : World) (g : Nat) (l : List UInt8) : Prop where
  cell : ∀ i, i < l.length → w.cell? ⟨g, i, none⟩ = some (.int .u8 ((l.getD i 0).toNat : Int))
  froz : ∀ i, i < l.length → w.frozen? ⟨g, i, none⟩ = false
theorem Rwb.set {w : World} {g : Nat} {l : List UInt8} (h : Rwb w g l) {i : Nat} (hi : i < l.length) (b : UInt8) : Rwb (w.setCell ⟨g, i, none⟩ (.int .u8 (b.toNat : Int))) g (l.set i b) := by
  refine ⟨fun j hj => ?_, fun j hj => ?_⟩
  · rw [List.length_set] at hj
    by_cases e : i = j
    · subst e
      rw [World.cell?_setCell_same _ _ _ (h.cell i hi)]
      simp [List.getD, hi]
    · rw [World.cell?_setCell_other _ _ _ _ (by intro h; cases h; exact e rfl), h.cell j hj]
      simp [List.getD, e]
  · rw [List.length_set] at hj
    rw [World.frozen?_setCell]
    exact h.froz j hj
theorem conv_up (s : ByteArray) (w : World) : ∃ (cap : Nat) (w1 : World), (convert 9 57 (.string s)).run Tryz.prog w = .ok (.slice (some ⟨w.heap.size, 0, none⟩) s.data.toList.length cap) w1 ∧
    Rwb w1 w.heap.size s.data.toList ∧ Below w.heap.size w w1 ∧ w.heap.size < w1.heap.size ∧ s.data.toList.length ≤ cap := by
  have hlen : s.data.toList.length = s.size := by simp
  have hcap := grownCap_ge w s.size 0 5
  have hsz : (bytesRow s (grownCap w s.size 0 5)).size = grownCap w s.size 0 5 := by
    have e : s.data.size = s.size := rfl
    simp only [bytesRow, Array.size_append, Array.size_map, Array.size_replicate, e]; omega
  have hb := heap_alloc_new w.drew (.cells (bytesRow s (grownCap w s.size 0 5)) 5 ((bytesRow s (grownCap w s.size 0 5)).size, (bytesRow s (grownCap w s.size 0 5)).size + 1))
  have hb' : (w.drew.alloc (.cells (bytesRow s (grownCap w s.size 0 5)) 5 ((bytesRow s (grownCap w s.size 0 5)).size, (bytesRow s (grownCap w s.size 0 5)).size + 1))).heap[w.heap.size]? = _ := hb
  refine ⟨_, _, by rw [hlen]; exact run_bytes_of_string w 9 57 5 s Tryz.underlying9 Tryz.underlying57 Tryz.underlying5, ⟨fun i hi => ?_, fun i hi => ?_⟩, (Below.refl _ w).drew.alloc (Nat.le_refl _) _, ?_, by rw [hlen]; exact hcap⟩
  · simp only [World.cell?, hb']
    have hi' : i < s.data.size := by simpa using hi
    simp only [bytesRow, Array.getElem?_append, Array.size_map, if_pos hi', Array.getElem?_map, List.getD, Array.getElem?_toList]
    rw [Array.getElem?_eq_getElem hi']
    rfl
  · have hi' : i < s.size := by simpa using hi
    rw [hsz] at hb'
    simp only [World.frozen?, hsz, hb']
    simp
    omega
  · show w.heap.size < (w.heap.push _).size
    simp
theorem conv_seesU {w : World} {ao : Option Addr} {l : List UInt8} (h : Sees w ao l) (hn : ao = none → l.length = 0) (cap : Nat) :
    (convert 57 9 (.slice ao l.length cap)).run Tryz.prog w = .ok (.string ⟨l.toArray⟩) w := by
  cases ao with
  | none =>
    obtain rfl : l = [] := List.eq_nil_of_length_eq_zero (hn rfl)
    rw [run_convert_bytes_string w 57 9 5 none _ cap Tryz.underlying57 Tryz.underlying5 Tryz.underlying9]
    rfl
  | some a =>
    refine run_convert_bytes_back w 57 9 5 a cap l Tryz.underlying57 Tryz.underlying5 Tryz.underlying9 fun j hj => ?_
    obtain ⟨a', e, hc⟩ := h j hj
    obtain rfl := Option.some.inj e
    rw [hc]; simp [List.getD, hj]
/-- A letter, great. -/
def upB (x : UInt8) : UInt8 := if 97 ≤ x.toNat ∧ x.toNat ≤ 122 then UInt8.ofNat (x.toNat - 32) else x
def upTo (l : List UInt8) (i : Nat) : List UInt8 := (l.take i).map upB ++ l.drop i
theorem upTo_length (l : List UInt8) (i : Nat) : (upTo l i).length = l.length := by simp [upTo]; omega
theorem upTo_zero (l : List UInt8) : upTo l 0 = l := by simp [upTo]
theorem upTo_all (l : List UInt8) : upTo l l.length = l.map upB := by simp [upTo]
theorem upTo_at (l : List UInt8) (i : Nat) (h : i < l.length) : (upTo l i).getD i 0 = l.getD i 0 := by
  unfold upTo
  rw [List.getD, List.getElem?_append, List.length_map, List.length_take, Nat.min_eq_left (Nat.le_of_lt h), if_neg (Nat.lt_irrefl _), List.getElem?_drop]
  simp [List.getD]
theorem upTo_step (l : List UInt8) (i : Nat) (h : i < l.length) : (upTo l i).set i (upB (l.getD i 0)) = upTo l (i + 1) := by
  apply List.ext_getElem?
  intro j
  rw [List.getElem?_set, upTo_length]
  unfold upTo
  rw [List.getElem?_append, List.getElem?_append, List.getElem?_map, List.getElem?_map, List.getElem?_take, List.getElem?_take, List.getElem?_drop, List.getElem?_drop]
  simp only [List.length_map, List.length_take, Nat.min_eq_left (Nat.le_of_lt h), Nat.min_eq_left (show i + 1 ≤ l.length from h)]
  by_cases e : i = j
  · subst e
    simp [h, List.getD]
  · by_cases h1 : j < i
    · simp [e, h1, show j < i + 1 by omega]
    · simp only [if_neg e, if_neg h1, if_neg (show ¬ j < i + 1 by omega)]
      congr 1
      omega
theorem upTo_same (l : List UInt8) (i : Nat) (h : i < l.length) (hu : upB (l.getD i 0) = l.getD i 0) : upTo l (i + 1) = upTo l i := by
  rw [← upTo_step l i h, hu, ← upTo_at l i h]
  apply List.ext_getElem?
  intro j
  rw [List.getElem?_set, upTo_length]
  by_cases e : i = j
  · subst e; simp [h, List.getD, upTo_length]
  · simp [e]
set_option maxRecDepth 100000 in
set_option maxHeartbeats 800000 in
theorem upper_any (s : ByteArray) (w : World) (hs : s.size ≤ 10000) : Calls Tryz.prog 49 #[.string s] w fun e w' => e = .returned (.string ⟨(s.data.toList.map upB).toArray⟩) ∧ Below w.heap.size w w' := by
  obtain ⟨cap, w1, hcv, hR, hB, hlt, hcap⟩ := conv_up s w
  have hl : s.data.toList.length ≤ 10000 := by simpa using hs
  generalize s.data.toList = l at *
  obtain ⟨n, hn⟩ : ∃ n, l.length = n := ⟨_, rfl⟩
  rw [hn] at hcv hl hcap
  have hn2 : Hid (l.length = n) := hn
  clear hn hs
  obtain ⟨g, hg⟩ : ∃ g, w.heap.size = g := ⟨_, rfl⟩
  rw [hg] at hcv hR hB hlt ⊢
  clear hg
  go_enter Tryz.func49, Tryz.ntmps49
  go_wp2_with fail
  go_loopw [10] (fun s10 wr => ∃ i : Nat, i ≤ n ∧ s10 = .int .i64 (i : Int) ∧ Rwb wr g (upTo l i) ∧ Below g w wr) (fun s10 _ => n - (intOf s10).toNat)
  case atStart => exact ⟨0, by omega, rfl, by rw [upTo_zero]; exact hR, hB⟩
  case round =>
    obtain ⟨i, hi, rfl, hr, hb⟩ := hrel
    rcases Nat.lt_or_ge i n with hlt2 | hge
    · have hil : i < l.length := by rw [hn2.out]; exact hlt2
      have hc := hr.cell i (by rw [upTo_length]; exact hil)
      have hf := hr.froz i (by rw [upTo_length]; exact hil)
      rw [upTo_at l i hil] at hc
      have hstep := upTo_step l i hil
      have hsame := upTo_same l i hil
      have hset := hr.set (i := i) (by rw [upTo_length]; exact hil) (upB (l.getD i 0))
      rw [hstep] at hset
      generalize l.getD i 0 = x at *
      have hx := x.toNat_lt
      have hb' : ∀ v, Below g w (wr.setCell ⟨g, i, none⟩ v) := fun v => ⟨hb.os, hb.tape, hb.output, by rw [size_setCell]; exact hb.size, fun k hk => (Below.heap_setCell _ _ _ _ (by show k ≠ g; omega)).trans (hb.block k hk)⟩
      by_cases h1 : 97 ≤ x.toNat
      · by_cases h2 : x.toNat ≤ 122
        · have hu : ((upB x).toNat : Int) = (x.toNat : Int) - 32 := by
            unfold upB
            rw [if_pos ⟨h1, h2⟩, UInt8.toNat_ofNat']
            omega
          rw [hu] at hset
          have Hset : Hid (Rwb (wr.setCell ⟨g, i, none⟩ (.int .u8 ((x.toNat : Int) - 32))) g (upTo l (i + 1))) := hset
          have Hb : Hid (Below g w (wr.setCell ⟨g, i, none⟩ (.int .u8 ((x.toNat : Int) - 32)))) := hb' _
          clear hset hb' hsame hstep hu hr hil
          have i1 : 97 ≤ (x.toNat : Int) := by omega
          have i2 : (x.toNat : Int) ≤ 122 := by omega
          generalize (x.toNat : Int) = z at *
          go_wp2_with fail
          go_roundw
          case rel => exact ⟨i + 1, by omega, by simp, Hset.out, Hb.out⟩
          case measure => simp [intOf]; omega
        · have hu : upB x = x := by unfold upB; rw [if_neg (by omega)]
          have hr' := hsame hu ▸ hr
          have Hr : Hid (Rwb wr g (upTo l (i + 1))) := by show Rwb _ _ _; rw [hsame hu]; exact hr
          clear hset hb' hsame hstep hu hr hil hr'
          go_wp2_with fail
          go_roundw
          case rel => exact ⟨i + 1, by omega, by simp, Hr.out, hb⟩
          case measure => simp [intOf]; omega
      · have hu : upB x = x := by unfold upB; rw [if_neg (by omega)]
        have Hr : Hid (Rwb wr g (upTo l (i + 1))) := by show Rwb _ _ _; rw [hsame hu]; exact hr
        clear hset hb' hsame hstep hu hr hil
        go_wp2_with fail
        go_roundw
        case rel => exact ⟨i + 1, by omega, by simp, Hr.out, hb⟩
        case measure => simp [intOf]; omega
    · obtain rfl : i = n := by omega
      have hS : Sees wr (some ⟨g, 0, none⟩) (l.map upB) := by
        have hr2 := hr
        rw [show i = l.length from hn2.out.symm, upTo_all] at hr2
        intro j hj
        refine ⟨_, rfl, ?_⟩
        rw [Addr.add_lit, Nat.zero_add]
        exact hr2.cell j hj
      have hcv2 := conv_seesU hS (fun h => by cases h) cap
      rw [List.length_map, hn2.out] at hcv2
      clear hr hS
      go_wp2_with fail
      go_ret
      exact ⟨rfl, hb⟩
/-- A letter, small. -/
def loB (x : UInt8) : UInt8 := if 65 ≤ x.toNat ∧ x.toNat ≤ 90 then UInt8.ofNat (x.toNat + 32) else x
def loTo (l : List UInt8) (i : Nat) : List UInt8 := (l.take i).map loB ++ l.drop i
theorem loTo_length (l : List UInt8) (i : Nat) : (loTo l i).length = l.length := by simp [loTo]; omega
theorem loTo_zero (l : List UInt8) : loTo l 0 = l := by simp [loTo]
theorem loTo_all (l : List UInt8) : loTo l l.length = l.map loB := by simp [loTo]
theorem loTo_at (l : List UInt8) (i : Nat) (h : i < l.length) : (loTo l i).getD i 0 = l.getD i 0 := by
  unfold loTo
  rw [List.getD, List.getElem?_append, List.length_map, List.length_take, Nat.min_eq_left (Nat.le_of_lt h), if_neg (Nat.lt_irrefl _), List.getElem?_drop]
  simp [List.getD]
theorem loTo_step (l : List UInt8) (i : Nat) (h : i < l.length) : (loTo l i).set i (loB (l.getD i 0)) = loTo l (i + 1) := by
  apply List.ext_getElem?
  intro j
  rw [List.getElem?_set, loTo_length]
  unfold loTo
  rw [List.getElem?_append, List.getElem?_append, List.getElem?_map, List.getElem?_map, List.getElem?_take, List.getElem?_take, List.getElem?_drop, List.getElem?_drop]
  simp only [List.length_map, List.length_take, Nat.min_eq_left (Nat.le_of_lt h), Nat.min_eq_left (show i + 1 ≤ l.length from h)]
  by_cases e : i = j
  · subst e
    simp [h, List.getD]
  · by_cases h1 : j < i
    · simp [e, h1, show j < i + 1 by omega]
    · simp only [if_neg e, if_neg h1, if_neg (show ¬ j < i + 1 by omega)]
      congr 1
      omega
theorem loTo_same (l : List UInt8) (i : Nat) (h : i < l.length) (hu : loB (l.getD i 0) = l.getD i 0) : loTo l (i + 1) = loTo l i := by
  rw [← loTo_step l i h, hu, ← loTo_at l i h]
  apply List.ext_getElem?
  intro j
  rw [List.getElem?_set, loTo_length]
  by_cases e : i = j
  · subst e; simp [h, List.getD, loTo_length]
  · simp [e]
set_option maxRecDepth 100000 in
set_option maxHeartbeats 800000 in
theorem lower_any (s : ByteArray) (w : World) (hs : s.size ≤ 10000) : Calls Tryz.prog 51 #[.string s] w fun e w' => e = .returned (.string ⟨(s.data.toList.map loB).toArray⟩) ∧ Below w.heap.size w w' := by
  obtain ⟨cap, w1, hcv, hR, hB, hlt, hcap⟩ := conv_up s w
  have hl : s.data.toList.length ≤ 10000 := by simpa using hs
  generalize s.data.toList = l at *
  obtain ⟨n, hn⟩ : ∃ n, l.length = n := ⟨_, rfl⟩
  rw [hn] at hcv hl hcap
  have hn2 : Hid (l.length = n) := hn
  clear hn hs
  obtain ⟨g, hg⟩ : ∃ g, w.heap.size = g := ⟨_, rfl⟩
  rw [hg] at hcv hR hB hlt ⊢
  clear hg
  go_enter Tryz.func51, Tryz.ntmps51
  go_wp2_with fail
  go_loopw [10] (fun s10 wr => ∃ i : Nat, i ≤ n ∧ s10 = .int .i64 (i : Int) ∧ Rwb wr g (loTo l i) ∧ Below g w wr) (fun s10 _ => n - (intOf s10).toNat)
  case atStart => exact ⟨0, by omega, rfl, by rw [loTo_zero]; exact hR, hB⟩
  case round =>
    obtain ⟨i, hi, rfl, hr, hb⟩ := hrel
    rcases Nat.lt_or_ge i n with hlt2 | hge
    · have hil : i < l.length := by rw [hn2.out]; exact hlt2
      have hc := hr.cell i (by rw [loTo_length]; exact hil)
      have hf := hr.froz i (by rw [loTo_length]; exact hil)
      rw [loTo_at l i hil] at hc
      have hstep := loTo_step l i hil
      have hsame := loTo_same l i hil
      have hset := hr.set (i := i) (by rw [loTo_length]; exact hil) (loB (l.getD i 0))
      rw [hstep] at hset
      generalize l.getD i 0 = x at *
      have hx := x.toNat_lt
      have hb' : ∀ v, Below g w (wr.setCell ⟨g, i, none⟩ v) := fun v => ⟨hb.os, hb.tape, hb.output, by rw [size_setCell]; exact hb.size, fun k hk => (Below.heap_setCell _ _ _ _ (by show k ≠ g; omega)).trans (hb.block k hk)⟩
      by_cases h1 : 65 ≤ x.toNat
      · by_cases h2 : x.toNat ≤ 90
        · have hu : ((loB x).toNat : Int) = (x.toNat : Int) + 32 := by
            unfold loB
            rw [if_pos ⟨h1, h2⟩, UInt8.toNat_ofNat']
            omega
          rw [hu] at hset
          have Hset : Hid (Rwb (wr.setCell ⟨g, i, none⟩ (.int .u8 ((x.toNat : Int) + 32))) g (loTo l (i + 1))) := hset
          have Hb : Hid (Below g w (wr.setCell ⟨g, i, none⟩ (.int .u8 ((x.toNat : Int) + 32)))) := hb' _
          clear hset hb' hsame hstep hu hr hil
          have i1 : 65 ≤ (x.toNat : Int) := by omega
          have i2 : (x.toNat : Int) ≤ 90 := by omega
          generalize (x.toNat : Int) = z at *
          go_wp2_with fail
          go_roundw
          case rel => exact ⟨i + 1, by omega, by simp, Hset.out, Hb.out⟩
          case measure => simp [intOf]; omega
        · have hu : loB x = x := by unfold loB; rw [if_neg (by omega)]
          have hr' := hsame hu ▸ hr
          have Hr : Hid (Rwb wr g (loTo l (i + 1))) := by show Rwb _ _ _; rw [hsame hu]; exact hr
          clear hset hb' hsame hstep hu hr hil hr'
          go_wp2_with fail
          go_roundw
          case rel => exact ⟨i + 1, by omega, by simp, Hr.out, hb⟩
          case measure => simp [intOf]; omega
      · have hu : loB x = x := by unfold loB; rw [if_neg (by omega)]
        have Hr : Hid (Rwb wr g (loTo l (i + 1))) := by show Rwb _ _ _; rw [hsame hu]; exact hr
        clear hset hb' hsame hstep hu hr hil
        go_wp2_with fail
        go_roundw
        case rel => exact ⟨i + 1, by omega, by simp, Hr.out, hb⟩
        case measure => simp [intOf]; omega
    · obtain rfl : i = n := by omega
      have hS : Sees wr (some ⟨g, 0, none⟩) (l.map loB) := by
        have hr2 := hr
        rw [show i = l.length from hn2.out.symm, loTo_all] at hr2
        intro j hj
        refine ⟨_, rfl, ?_⟩
        rw [Addr.add_lit, Nat.zero_add]
        exact hr2.cell j hj
      have hcv2 := conv_seesU hS (fun h => by cases h) cap
      rw [List.length_map, hn2.out] at hcv2
      clear hr hS
      go_wp2_with fail
      go_ret
      exact ⟨rfl, hb⟩
theorem upB_A (b : UInt8) : upB b = Lib.upperB b := by
  have key : ∀ c : Fin 256, upB (UInt8.ofNat c.val) = Lib.upperB (UInt8.ofNat c.val) := by decide +kernel
  simpa using key ⟨b.toNat, b.toNat_lt⟩
theorem loB_A (b : UInt8) : loB b = Lib.lowerB b := by
  have key : ∀ c : Fin 256, loB (UInt8.ofNat c.val) = Lib.lowerB (UInt8.ofNat c.val) := by decide +kernel
  simpa using key ⟨b.toNat, b.toNat_lt⟩
theorem map_upA (l : List UInt8) : l.map upB = Lib.toUpperA l := List.map_congr_left fun b _ => upB_A b
theorem map_loA (l : List UInt8) : l.map loB = Lib.toLowerA l := List.map_congr_left fun b _ => loB_A b
theorem upR_any (s : ByteArray) (w : World) (hs : s.size ≤ 10000) : Calls Tryz.prog 49 #[.string s] w fun e w' => e = .returned (.string (xB (Lib.toUpperA s.data.toList))) ∧ Below w.heap.size w w' := by
  rw [← map_upA]
  exact upper_any s w hs
theorem loR_any (s : ByteArray) (w : World) (hs : s.size ≤ 10000) : Calls Tryz.prog 51 #[.string s] w fun e w' => e = .returned (.string (xB (Lib.toLowerA s.data.toList))) ∧ Below w.heap.size w w' := by
  rw [← map_loA]
  exact lower_any s w hs
end Go.Proofs.YtajebjkpmbehgaaGreatDoor
