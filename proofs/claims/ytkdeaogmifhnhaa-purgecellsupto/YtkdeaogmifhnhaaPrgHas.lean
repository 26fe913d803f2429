/-
  CONTRACTS: hasKey makes a map of the keys of many lists, and its closure tells whether a key is among them.
-/
import Derived.Test.YtkdeaogmifhnhaaPrgMap
import Derived.Test.YtkdeaogmifhnhaaMrgLow
namespace Go.Proofs.Ytkdeaogmifhnhaa
open Go.RowKit

set_option maxRecDepth 100000 in
theorem hasKey1_any (bx bm : Nat) (S : List Kb) (k : Kb) (w : World) (hbx : w.cell? ⟨bx, 0, none⟩ = some (.map (some bm))) (hm : KMap w bm S) :
    Calls Try.prog 27 #[k.v, .pointer (some ⟨bx, 0, none⟩)] w fun e w' => e = .returned (.bool (hasK S k)) ∧ Below w.heap.size w w' := by
  have hb : Below w.heap.size w (w.alloc (.cells #[.string k.t, .string k.p, .int .i64 k.r, .string k.c] 29)) := (Below.refl _ _).alloc (Nat.le_refl _) _
  have L := KMap.look (KMap.below hm hb (KMap.lt hm)) k
  have c0 : (w.alloc (.cells #[.string k.t, .string k.p, .int .i64 k.r, .string k.c] 29)).cell? ⟨bx, 0, none⟩ = some (.map (some bm)) := (hb.cell (World.block_lt_of_cell? _ _ hbx)).trans hbx
  generalize hasK S k = r at *
  obtain ⟨k1, k2, k3, k4⟩ := k
  simp only [Kb.v] at L c0 hb ⊢
  clear hm hbx
  go_enter Try.func27, Try.ntmps27
  go_wp2_with fail
  go_ret
  exact ⟨rfl, hb.alloc hb.size _⟩
/-- The keys of many lists. -/
def keysX (l : List Cx) : List Kb := l.map fun c => c.k
def keysL (vs : List Lv) : List Kb := vs.flatMap fun v => keysX v.l
theorem keysL_take {vs : List Lv} {i : Nat} {x : Lv} (h : vs[i]? = some x) : keysL (vs.take (i + 1)) = keysL (vs.take i) ++ keysX x.l := by
  unfold keysL
  rw [takeX_succ h, List.flatMap_append]
  simp
theorem keysX_take {l : List Cx} {i : Nat} {c : Cx} (h : l[i]? = some c) : keysX (l.take (i + 1)) = keysX (l.take i) ++ [c.k] := by
  unfold keysX
  rw [takeX_succ h, List.map_append]
  rfl
/-- The map in the block bm, the box bx that holds it. -/
structure HasAt (w : World) (B bx bm : Nat) (S : List Kb) : Prop where
  box : w.cell? ⟨bx, 0, none⟩ = some (.map (some bm))
  map : KMap w bm S
  ne : bx ≠ bm
  lx : B ≤ bx
  lm : B ≤ bm
theorem HasAt.below {w w' : World} {B bx bm : Nat} {S : List Kb} (h : HasAt w B bx bm S) (hb : Below w.heap.size w w') : HasAt w' B bx bm S :=
  ⟨(hb.cell (World.block_lt_of_cell? _ _ h.box)).trans h.box, h.map.below hb h.map.lt, h.ne, h.lx, h.lm⟩
theorem HasAt.put {w : World} {B bx bm : Nat} {S : List Kb} (h : HasAt w B bx bm S) (k : Kb) :
    ∃ w', (Instr.mapUpdate 61 (.map (some bm)) k.v (.agg #[])).run Try.prog w = .ok () w' ∧ HasAt w' B bx bm (S ++ [k]) ∧ Below B w w' := by
  obtain ⟨o, h1, h2⟩ := h.map.put k
  refine ⟨_, h1, ⟨?_, h2, h.ne, h.lx, h.lm⟩, below_map o h.lm⟩
  have : ({ w with heap := w.heap.setIfInBounds bm o } : World).heap[bx]? = w.heap[bx]? := by
    simp only [Array.getElem?_setIfInBounds]
    rw [if_neg (fun e => h.ne e.symm)]
  rw [World.cell?_of_block this]
  exact h.box
theorem HasAt.new (w : World) : HasAt ((w.alloc (.map #[] 0)).alloc (.cells #[.map (some w.heap.size)] 61)) w.heap.size (w.heap.size + 1) w.heap.size [] := by
  have h1 : ((w.alloc (.map #[] 0)).alloc (.cells #[.map (some w.heap.size)] 61)).heap[w.heap.size + 1]? = some (.cells #[.map (some w.heap.size)] 61) := by
    have := heap_alloc_new (w.alloc (.map #[] 0)) (.cells #[.map (some w.heap.size)] 61)
    simpa using this
  refine ⟨by simp only [World.cell?, h1]; rfl, (KMap.new w).below (B := w.heap.size + 1) ((Below.refl _ _).alloc (by simp) _) (by omega), by omega, by omega, by omega⟩
set_option maxRecDepth 100000 in
set_option maxHeartbeats 2000000 in
theorem hasKey_any (lo : Option Addr) (vs : List Lv) (lcap : Nat) (w : World) (hs : LSees w lo vs) (hin : ∀ v ∈ vs, XSees w v.ao v.l) (hl : vs.length ≤ 1048576) (hll : ∀ v ∈ vs, v.l.length ≤ 1048576) :
    Calls Try.prog 19 #[.slice lo vs.length lcap] w fun e w' => ∃ bx bm, e = .returned (.func (.func 27) #[] #[.pointer (some ⟨bx, 0, none⟩)]) ∧ HasAt w' w.heap.size bx bm (keysL vs) ∧ Below w.heap.size w w' := by
  have hlz : (vs.length : Int) ≤ 1048576 := by omega
  have HLL : Hid (∀ v ∈ vs, v.l.length ≤ 1048576) := hll
  have HIN : Hid (∀ v ∈ vs, XSees w v.ao v.l) := hin
  have HS : Hid (LSees w lo vs) := hs
  clear hs hin hll
  have hA := HasAt.new w
  have hB : Below w.heap.size w ((w.alloc (.map #[] 0)).alloc (.cells #[.map (some w.heap.size)] 61)) := ((Below.refl _ _).alloc (Nat.le_refl _) _).alloc (by simp) _
  obtain ⟨wa, hwa⟩ : ∃ wa, wa = (w.alloc (.map #[] 0)).alloc (.cells #[.map (some w.heap.size)] 61) := ⟨_, rfl⟩
  rw [← hwa] at hA hB
  have hmm := @run_makeMap Try.prog
  go_enter Try.func19, Try.ntmps19
  go_wp2_with fail
  rw [← hwa]
  clear hwa hmm
  generalize w.heap.size + 1 = bx at *
  obtain ⟨bm, hA⟩ : ∃ bm, HasAt wa w.heap.size bx bm [] := ⟨_, hA⟩
  go_loopw [11] (fun s11 wr => ∃ i : Nat, i ≤ vs.length ∧ s11 = .int .i64 (i : Int) ∧ HasAt wr w.heap.size bx bm (keysL (vs.take i)) ∧ Below w.heap.size w wr) (fun s11 _ => vs.length - (intOf s11).toNat)
  case atStart => exact ⟨0, by omega, rfl, hA, hB⟩
  case round =>
    obtain ⟨i, hi, rfl, hH, hbr⟩ := hrel
    have HH : Hid (HasAt wr w.heap.size bx bm (keysL (vs.take i))) := hH
    have HBR : Hid (Below w.heap.size w wr) := hbr
    clear hA hB
    rcases Nat.lt_or_ge i vs.length with hlt | hge
    · obtain ⟨x, hx⟩ : ∃ x, vs[i]? = some x := ⟨_, List.getElem?_eq_getElem hlt⟩
      obtain ⟨b, off, rfl, hc⟩ := (HS.out.below hbr (Nat.le_refl _)) i x hx
      have hxm := List.mem_of_getElem? hx
      have hxs := HIN.out x hxm
      have hxl := HLL.out x hxm
      have HK : Hid (keysL (vs.take (i + 1)) = keysL (vs.take i) ++ keysX x.l) := keysL_take hx
      have hkz : (i : Int) < (vs.length : Int) := by omega
      obtain ⟨xo, xcap, xl⟩ := x
      simp only [Lv.s] at hc hxs hxl HK
      have HX : Hid (XSees w xo xl) := hxs
      have hxz : (xl.length : Int) ≤ 1048576 := by omega
      clear hx hxm hH hbr hxs
      go_wp2_with fail
      clear hc
      go_loopw [17] (fun s17 wr2 => ∃ j : Nat, j ≤ xl.length ∧ s17 = .int .i64 (j : Int) ∧ HasAt wr2 w.heap.size bx bm (keysL (vs.take i) ++ keysX (xl.take j)) ∧ Below w.heap.size w wr2) (fun s17 _ => xl.length - (intOf s17).toNat)
      case atStart => exact ⟨0, by omega, rfl, by simpa [keysX] using HH.out, HBR.out⟩
      case round =>
        obtain ⟨j, hj, rfl, hH2, hbr2⟩ := hrel
        clear HH HBR
        rcases Nat.lt_or_ge j xl.length with hlt2 | hge2
        · obtain ⟨c, hcj⟩ : ∃ c, xl[j]? = some c := ⟨_, List.getElem?_eq_getElem hlt2⟩
          obtain ⟨b2, off2, rfl, t⟩ := (HX.out.below hbr2 (Nat.le_refl _)) j c hcj
          have HK2 : Hid (keysX (xl.take (j + 1)) = keysX (xl.take j) ++ [c.k]) := keysX_take hcj
          have hjz : (j : Int) < (xl.length : Int) := by omega
          have hBv : Below wr.heap.size wr (wr.alloc (.cells c.a 35)) := (Below.refl _ _).alloc (Nat.le_refl _) _
          obtain ⟨w3, hrun, hH3, hb3⟩ := (hH2.below hBv).put c.k
          have hbx := (hH2.below hBv).box
          have HF : Hid (HasAt w3 w.heap.size bx bm (keysL (vs.take i) ++ keysX (xl.take (j + 1))) ∧ Below w.heap.size w w3) := by
            refine ⟨?_, (hbr2.trans (hBv.mono hbr2.size)).trans hb3⟩
            rw [HK2.out, ← List.append_assoc]
            exact hH3
          clear hH2 hbr2 hcj hBv hH3 hb3 HK2
          obtain ⟨⟨ct, cp, cr, cc⟩, ⟨cti, cd, cl, ck, cn, cstr⟩⟩ := c
          obtain ⟨k0, k1, k2, k3, k4, k5, k6, k7, k8, k9⟩ := t
          simp only [Kb.v, Cx.a] at k0 k1 k2 k3 k4 k5 k6 k7 k8 k9 hrun hbx
          go_wp2_with fail
          go_roundw
          case rel => exact ⟨j + 1, by omega, by go_num, HF.out.1, HF.out.2⟩
          case measure => simp [intOf]; omega
        · obtain rfl : j = xl.length := by omega
          have HF : Hid (HasAt wr w.heap.size bx bm (keysL (vs.take (i + 1))) ∧ Below w.heap.size w wr) := by
            refine ⟨?_, hbr2⟩
            rw [HK.out]
            rw [List.take_length] at hH2
            exact hH2
          clear hH2 hbr2
          go_wp2_with fail
          go_roundw
          case rel => exact ⟨i + 1, by omega, by go_num, HF.out.1, HF.out.2⟩
          case measure => simp [intOf]; omega
    · obtain rfl : i = vs.length := by omega
      have HF : Hid (HasAt wr w.heap.size bx bm (keysL vs)) := by
        have h := HH.out
        rw [List.take_length] at h
        exact h
      clear hH
      go_wp2_with fail
      go_ret
      exact ⟨bx, bm, rfl, HF.out, hbr⟩
end Go.Proofs.Ytkdeaogmifhnhaa
