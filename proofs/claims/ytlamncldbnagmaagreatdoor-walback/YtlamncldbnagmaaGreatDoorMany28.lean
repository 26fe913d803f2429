/-
  SEVERAL TEXTS IN ONE: WalBackL, WalLaid.
-/
import Derived.Test.YtlamncldbnagmaaGreatDoorMany27
import Derived.Test.YtlamncldbnagmaaGreatDoorMany26
import Derived.Test.YtlamncldbnagmaaGreatDoorMany25
import Derived.Test.YtlamncldbnagmaaGreatDoorMany17
import Derived.Deep.Slices
import Derived.Lib.SmallJoins
namespace Go.Proofs.YtlamncldbnagmaaGreatDoor
open Go.RowKit

set_option maxRecDepth 100000 in
set_option maxHeartbeats 1000000 in
theorem weigh07_any (ao : Option Addr) (l : List Cx) (cap m : Nat) (w : World) (ha : XSees w ao l) (hm : m ≤ 500) (hl : l.length ≤ 140737488355328) (hw : ∀ c ∈ l, wtX c ≤ 562949953421312) :
    Calls Tryz.prog 6 #[.slice ao l.length cap, .int .i64 m] w fun e w' => (∃ z : Nat, e = .returned (.int .i64 z) ∧ z ≤ 1000000000000000 ∧ (z ≤ m → l.length ≤ m ∧ wtXs l ≤ 20 * m)) ∧ Below w.heap.size w w' := by
  go_enter Tryz.func6, Tryz.ntmps6
  go_wp2
  go_loopw [5, 10] (fun s5 s10 wr => ∃ i z : Nat, i ≤ l.length ∧ s5 = .int .i64 z ∧ s10 = .int .i64 i ∧ i ≤ z ∧ z ≤ m ∧ wtXs (l.take i) ≤ 20 * z ∧ Below w.heap.size w wr) (fun _ s10 _ => l.length - (intOf s10).toNat)
  case atStart => exact ⟨0, 0, by omega, rfl, rfl, by omega, by omega, by simp [wtXs], Below.refl _ _⟩
  case round =>
    obtain ⟨i, z, hi, rfl, rfl, hiz, hz, hwz, hbr⟩ := hrel
    rcases Nat.lt_or_ge i l.length with hlt | hge
    · have hc : l[i]? = some l[i] := List.getElem?_eq_getElem hlt
      have hcw := hw l[i] (List.getElem_mem hlt)
      have hst : wtXs (l.take (i + 1)) = wtXs (l.take i) + wtX l[i] := by
        rw [takeX_succ hc]
        unfold wtXs
        rw [List.map_append, List.sum_append]
        simp
      obtain ⟨b1, o1, rfl, h1⟩ := (ha.below hbr (Nat.le_refl _)) i _ hc
      generalize l[i] = c at *
      obtain ⟨⟨table, part, row, col⟩, ⟨time, dead, loc, kind, num, s⟩⟩ := c
      obtain ⟨k0, k1, k2, k3, k4, k5, k6, k7, k8, k9⟩ := h1
      simp only at k0 k1 k2 k3 k4 k5 k6 k7 k8 k9
      unfold wtX at hcw hst
      simp only at hcw hst
      have hb2 : Below w.heap.size w (wr.alloc (.cells (Cx.a ⟨⟨table, part, row, col⟩, ⟨time, dead, loc, kind, num, s⟩⟩) 67)) := hbr.alloc hbr.size _
      have Hst : Hid (wtXs (l.take (i + 1)) = wtXs (l.take i) + (table.size + part.size + col.size + s.size)) := hst
      clear hc ha hst hw
      have hsum : (table.size : Int) + part.size + col.size + s.size ≤ 562949953421312 := by omega
      by_cases hbig : z + (1 + (table.size + part.size + col.size + s.size) / 20) ≤ m
      · have hq : ¬ ((m : Int) < (z : Int) + (1 + ((table.size : Int) + part.size + col.size + s.size) / 20)) := by omega
        go_wp2
        go_roundw
        case rel =>
          refine ⟨i + 1, z + (1 + (table.size + part.size + col.size + s.size) / 20), by omega, ?_, by go_num, by omega, hbig, ?_, hb2⟩
          · congr 1
          · rw [Hst.out]
            omega
        case measure => simp [intOf]; omega
      · have hq : ((m : Int) < (z : Int) + (1 + ((table.size : Int) + part.size + col.size + s.size) / 20)) := by omega
        go_wp2
        go_ret
        refine ⟨⟨z + (1 + (table.size + part.size + col.size + s.size) / 20), ret_int (by omega), by omega, fun h => absurd h hbig⟩, hb2⟩
    · obtain rfl : i = l.length := by omega
      rw [List.take_length] at hwz
      clear ha hw
      go_wp2
      go_ret
      exact ⟨⟨z, rfl, by omega, fun _ => ⟨by omega, by omega⟩⟩, hbr⟩
/-- A row of lists, as lists. -/
theorem rows_lists {W : World} {base : Nat} {v : Value} {R : List Lvx} (h : W.ownsRow base 22 1 v R.length (R.map Lvx.s)) : ∃ a c, v = .slice a R.length c ∧ LSees W a R ∧ R.length ≤ c ∧ (a = none ∨ ∃ g, a = some ⟨g, 0, none⟩) := by
  rcases h.2 with ⟨rfl, h0⟩ | ⟨g, cap, cur, rfl, hg, hh, hn, hm, hs, ht⟩
  · refine ⟨none, 0, by rw [h0], fun i x hx => ?_, by omega, .inl rfl⟩
    have := (List.getElem?_eq_some_iff.1 hx).1
    omega
  · refine ⟨_, cap, rfl, fun i x hx => ⟨g, 0, rfl, ?_⟩, hn, .inr ⟨g, rfl⟩⟩
    have hi := (List.getElem?_eq_some_iff.1 hx).1
    have e : (R.map Lvx.s)[i]? = some x.s := by rw [List.getElem?_map, hx]; rfl
    rw [← ht, List.getElem?_take, if_pos (by omega), Array.getElem?_toList] at e
    simp only [World.cell?, hh, Nat.zero_add]
    exact e
set_option maxRecDepth 100000 in
set_option maxHeartbeats 2000000 in
theorem recordsL_same (lo lo' : Option Addr) (vs vs' : List Lvx) (c c' : Nat) (w : World) (hv : vs.map Lvx.l = vs'.map Lvx.l) (h1 : LSees w lo vs) (h2 : LSees w lo' vs') (x1 : ∀ v ∈ vs, XSees w v.ao v.l) (x2 : ∀ v ∈ vs', XSees w v.ao v.l) (hl : vs.length ≤ 1000000) (hc : ∀ v ∈ vs, v.l.length ≤ 1000000) :
    Calls Tryz.prog 15 #[.slice lo vs.length c, .slice lo' vs'.length c'] w fun e w' => e = .returned (.bool true) ∧ Below w.heap.size w w' := by
  have hll : vs'.length = vs.length := by have := congrArg List.length hv; simpa using this.symm
  rw [hll]
  have hlz : (vs.length : Int) ≤ 1000000 := by omega
  have HL : Hid (∀ (i : Nat) (u : World), i < vs.length → Below w.heap.size w u → ∃ (b off b' off' : Nat) (v v' : Lvx), lo = some ⟨b, off, none⟩ ∧ lo' = some ⟨b', off', none⟩ ∧ v'.l = v.l ∧ u.cell? ⟨b, off + i, none⟩ = some v.s ∧ u.cell? ⟨b', off' + i, none⟩ = some v'.s ∧ XSees u v.ao v.l ∧ XSees u v'.ao v.l ∧ v.l.length ≤ 1000000) := fun i u hi hu => by
    have e1 : vs[i]? = some vs[i] := List.getElem?_eq_getElem hi
    have hi' : i < vs'.length := by omega
    have e2 : vs'[i]? = some vs'[i] := List.getElem?_eq_getElem hi'
    have e3 : vs'[i].l = vs[i].l := by
      have := congrArg (fun l => l[i]?) hv
      simp only [List.getElem?_map, e1, e2, Option.map_some, Option.some.injEq] at this
      exact this.symm
    obtain ⟨b, off, k1, k2⟩ := (h1.below hu (Nat.le_refl _)) i _ e1
    obtain ⟨b', off', k3, k4⟩ := (h2.below hu (Nat.le_refl _)) i _ e2
    refine ⟨b, off, b', off', vs[i], vs'[i], k1, k3, e3, k2, k4, (x1 _ (List.getElem_mem hi)).below hu (Nat.le_refl _), ?_, hc _ (List.getElem_mem hi)⟩
    have := (x2 _ (List.getElem_mem hi')).below hu (Nat.le_refl _)
    rw [e3] at this; exact this
  generalize vs.length = n at *
  clear hv h1 h2 x1 x2 hc hll hl
  go_enter Tryz.func15, Tryz.ntmps15
  go_wp2_with fail
  go_loopw [13] (fun s13 wr => ∃ i : Nat, i ≤ n ∧ s13 = .int .i64 (i : Int) ∧ Below w.heap.size w wr) (fun s13 _ => n - (intOf s13).toNat)
  case atStart => exact ⟨0, by omega, rfl, Below.refl _ _⟩
  case round =>
    obtain ⟨i, hi, rfl, hbr⟩ := hrel
    rcases Nat.lt_or_ge i n with hlt | hge
    · obtain ⟨b, off, b', off', v, v', rfl, rfl, hvl, k1, k2, y1, y2, hvn⟩ := HL.out i wr hlt hbr
      have q0 : ∀ z : Cl wr.heap.size wr, z.u.cell? ⟨b, off + i, none⟩ = some (.slice v.ao v.l.length v.cap) := fun z => z.cell (World.block_lt_of_cell? _ _ k1) k1
      have q1 : ∀ z : Cl wr.heap.size wr, z.u.cell? ⟨b', off' + i, none⟩ = some (.slice v'.ao v.l.length v'.cap) := fun z => z.cell (World.block_lt_of_cell? _ _ k2) (by rw [k2]; unfold Lvx.s; rw [hvl])
      have LK : Hid (∀ z : Cl wr.heap.size wr, Calls Tryz.prog 41 #[.slice v.ao v.l.length v.cap, .slice v'.ao v.l.length v'.cap] z.u fun e w' => e = .returned (.bool true) ∧ Below z.u.heap.size z.u w') := fun z => likeX_same _ _ _ _ _ z.u (y1.below z.h (Nat.le_refl _)) (y2.below z.h (Nat.le_refl _)) hvn
      have HE : Hid (∀ w', Below wr.heap.size wr w' → Below w.heap.size w w') := fun w' h => hbr.trans (h.mono hbr.size)
      have hltz : (i : Int) < (n : Int) := by omega
      generalize v.l.length = m at *
      clear k1 k2 y1 y2 hbr HL hvl hvn
      haveI := Cl.inh wr.heap.size wr
      go_wp2_with fail
      refine wp_region_cl wr.heap.size (by kernel_rfl) (by kernel_rfl) ?_
      repeat (quiet_step (first | (go_at_call 41; exact Cl.calls (Nat.le_refl _) (LK.out _))))
      refine wpQuiet_nil ?_
      rintro w0 ⟨z, rfl⟩
      have hz := HE.out _ z.h
      go_wp2_with fail
      go_roundw
      case rel => exact ⟨i + 1, by omega, by go_num, hz⟩
      case measure => (simp [intOf]; try omega)
    · obtain rfl : i = n := by omega
      clear HL
      go_wp2_with fail
      go_ret
      exact ⟨rfl, hbr⟩
end Go.Proofs.YtlamncldbnagmaaGreatDoor
namespace Go.Proofs.YtlamncldbnagmaaGreatDoor
open Go.ChangeShapes Go.WideShapes Go.ChangeAt Go.RowKit Go.Deep Go.Joins

theorem cellsListW : Tryz.prog.cellsOf 22 = 1 := by kernel_rfl
theorem bytesListW : Tryz.prog.bytesOf 22 = 24 := by kernel_rfl
def LvW {H : Type} (q : Lvx × DataW H) : Prop := q.1.l.length = 0 ∨ ∃ sp, q.2 = .slice (q.1.l.map cxD) sp
set_option maxRecDepth 100000 in
theorem lists_cameW {H : Type} {enc : TypeId × Value → H} {W : World} {ao : Option Addr} {len cap : Nat} {d : DataW H} {p : List MemPlace}
    (h : DataW.Trod enc Tryz.prog W 0 (fun _ => true) true 33 (Value.slice ao len cap) d p) :
    ∃ vs : List Lvx, vs.length = len ∧ LSees W ao vs ∧ (∀ v ∈ vs, XSees W v.ao v.l ∧ ∀ c ∈ v.l, c.In) ∧ (vs.length = 0 ∨ ∃ (P : List (Lvx × DataW H)) (sp : List (DataW H)), P.map Prod.fst = vs ∧ d = .slice (P.map Prod.snd) sp ∧ ∀ q ∈ P, LvW q) := by
  obtain ⟨fuel, hf⟩ := h
  rcases open_slice1 Tryz.underlying33 cellsListW hf with ⟨hcs, _⟩ | ⟨a, n, c, m, k, V, D, Pl, hcs, _, hle, _, hm, hx, hc⟩
  · simp [Value.cells] at hcs
    obtain ⟨rfl, rfl, rfl⟩ := hcs
    exact ⟨[], rfl, (fun i c hc => by simp at hc), (fun q hq => by cases hq), .inl rfl⟩
  · simp [Value.cells] at hcs
    obtain ⟨rfl, rfl, rfl⟩ := hcs
    simp only [if_true] at hm
    subst hm
    haveI : Inhabited Lvx := ⟨⟨none, 0, []⟩⟩
    obtain ⟨C, hC⟩ := choose_lt (α := Lvx) (n := len) (p := fun i q => W.cell? (a.add i) = some q.s ∧ (XSees W q.ao q.l ∧ ∀ c ∈ q.l, c.In) ∧ LvW (q, D i)) (fun i hi => by
      obtain ⟨h1, h2⟩ := hc i (by omega)
      obtain ⟨a', l', c', e⟩ := slice_form Tryz.underlying22 h2
      have e' : V i = .slice a' l' c' := by simpa using e
      rw [e'] at h1 h2
      have h2' : DataW.trod enc Tryz.prog W 0 (fun _ => true) true k 22 (Value.slice a' l' c').cells.toList = some (D i, Pl i) := h2
      obtain ⟨l, rfl, hs, _, hin, hd⟩ := cells_came ⟨k, h2'⟩
      exact ⟨⟨a', c', l⟩, h1, ⟨hs, hin⟩, hd⟩)
    have hd := congrArg Prod.fst hx
    simp only at hd
    refine ⟨(List.range len).map C, by simp, ?_, fun q hq => ?_, .inr ⟨(List.range len).map fun i => (C i, D i), _, by rw [List.map_map]; rfl, by rw [List.map_map]; exact hd, fun q hq => ?_⟩⟩
    · intro i q hi
      have hlt : i < len := by
        have := (List.getElem?_eq_some_iff.1 hi).1
        simpa using this
      simp [hlt] at hi
      subst hi
      obtain ⟨h1, h2, h3⟩ := hC i hlt
      obtain ⟨b, off, spot⟩ := a
      have hspot : spot = none := by
        have := World.cell?_spot (hC 0 (by omega)).1
        simpa [Addr.add] using this
      subst hspot
      rw [Addr.add_lit] at h1
      exact ⟨b, off, rfl, h1⟩
    · obtain ⟨i, hi, rfl⟩ := List.mem_map.1 hq
      exact (hC i (List.mem_range.1 hi)).2.1
    · obtain ⟨i, hi, rfl⟩ := List.mem_map.1 hq
      exact (hC i (List.mem_range.1 hi)).2.2
set_option maxRecDepth 100000 in
theorem lists_fitW {H : Type} {ts : List TypeId} {ds : List (DataW H)} {j : Nat} {d : DataW H} {vs : List Lvx} (h : (DataW.weightsEach Tryz.prog ts ds).all (· ≤ reachBytes) = true) (ht : ts[j]? = some 33) (hd : ds[j]? = some d)
    (hn : vs.length = 0 ∨ ∃ (P : List (Lvx × DataW H)) (sp : List (DataW H)), P.map Prod.fst = vs ∧ d = .slice (P.map Prod.snd) sp ∧ ∀ q ∈ P, LvW q) :
    vs.length ≤ 140737488355328 ∧ ∀ v ∈ vs, v.l.length ≤ 140737488355328 ∧ ∀ c ∈ v.l, CxMax c ∧ wtX c ≤ 562949953421312 := by
  rcases hn with h0 | ⟨P, sp, rfl, rfl, hP⟩
  · obtain rfl : vs = [] := List.eq_nil_of_length_eq_zero h0
    exact ⟨by simp, fun c hc => by cases hc⟩
  · have h1 := sized_slice h ht hd Tryz.underlying33
    rw [bytesListW] at h1
    simp only [reachBytes, List.length_map] at h1
    refine ⟨by rw [List.length_map]; omega, fun v hv => ?_⟩
    obtain ⟨q, hq, rfl⟩ := List.mem_map.1 hv
    have hw : ∀ n ∈ q.2.weights Tryz.prog 22, n ≤ big := fun n hn =>
      reach_mem h ht hd (by
        simp only [DataW.weights, Tryz.underlying33, List.mem_cons, List.mem_append]
        exact .inr (.inl (weightsX_mem (List.mem_map_of_mem hq) n hn)))
    rcases hP q hq with h0 | ⟨sp', e⟩
    · have hnil : q.1.l = [] := List.eq_nil_of_length_eq_zero h0
      rw [hnil]
      exact ⟨by simp, fun c hc => by cases hc⟩
    · rw [e] at hw
      simp only [DataW.weights, Tryz.underlying22, List.mem_cons, List.mem_append] at hw
      have h2 := hw _ (.inl rfl)
      rw [bytesXC, List.length_map] at h2
      unfold big at h2
      refine ⟨by omega, fun c hc => ?_⟩
      have hw2 : ∀ n ∈ (cxD (H := H) c).weights Tryz.prog 67, n ≤ big := fun n hn => hw n (.inr (.inl (weightsX_mem (List.mem_map_of_mem hc) n hn)))
      rw [cxD_weights] at hw2
      have a0 := hw2 c.k.t.size (by simp)
      have a1 := hw2 c.k.p.size (by simp)
      have a2 := hw2 c.k.c.size (by simp)
      have a3 := hw2 c.v.s.size (by simp)
      have hm : big ≤ maxLen := by decide
      refine ⟨⟨Nat.le_trans a0 hm, Nat.le_trans a1 hm, Nat.le_trans a2 hm, Nat.le_trans a3 hm⟩, ?_⟩
      unfold big at a0 a1 a2 a3
      unfold wtX
      omega
end Go.Proofs.YtlamncldbnagmaaGreatDoor
