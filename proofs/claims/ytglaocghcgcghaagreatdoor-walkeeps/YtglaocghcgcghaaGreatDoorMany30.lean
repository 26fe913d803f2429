/-
  SEVERAL TEXTS IN ONE: WalBackL, WalBackWalk, WkMend.
-/
import Derived.Test.YtglaocghcgcghaaGreatDoorMany28
import Derived.Test.YtglaocghcgcghaaGreatDoorMany29
import Derived.Test.YtglaocghcgcghaaGreatDoorWalLives
import Derived.Test.YtglaocghcgcghaaGreatDoorMany17
namespace Go.Proofs.YtglaocghcgcghaaGreatDoor
open Go.RowKit

set_option maxRecDepth 100000 in
set_option maxHeartbeats 1000000 in
theorem weigh07_any (ao : Option Addr) (l : List Cx) (cap m : Nat) (w : World) (ha : XSees w ao l) (hm : m ≤ 500) (hl : l.length ≤ 140737488355328) (hw : ∀ c ∈ l, wtX c ≤ 562949953421312) :
    Calls Tryz.prog 4 #[.slice ao l.length cap, .int .i64 m] w fun e w' => (∃ z : Nat, e = .returned (.int .i64 z) ∧ z ≤ 1000000000000000 ∧ (z ≤ m → l.length ≤ m ∧ wtXs l ≤ 20 * m)) ∧ Below w.heap.size w w' := by
  go_enter Tryz.func4, Tryz.ntmps4
  go_wp2
  go_loopw [5, 10] (fun s5 s10 wr => ∃ i z : Nat, i ≤ l.length ∧ s5 = .int .i64 z ∧ s10 = .int .i64 i ∧ i ≤ z ∧ z ≤ m ∧ wtXs (l.take i) ≤ 20 * z ∧ Below w.heap.size w wr) (fun _ s10 _ => l.length - (intOf s10).toNat)
  case atStart => exact ⟨0, 0, by omega, rfl, rfl, by omega, by omega, by simp [wtXs], Below.refl _ _⟩
  case round =>
    obtain ⟨i, z, hi, rfl, rfl, hiz, hz, hwz, hbr⟩ := hrel
    rcases Nat.lt_or_ge i l.length with hlt | hge
    · have hc : l[i]? = some l[i] := List.getElem?_eq_getElem hlt
      have hcw := hw l[i] (List.getElem_mem hlt)
      have hst : wtXs (l.take (i + 1)) = wtXs (l.take i) + wtX l[i] := by
        rw [takeX_succ hc]
        unfold wtXs
        rw [List.map_append, List.sum_append]
        simp
      obtain ⟨b1, o1, rfl, h1⟩ := (ha.below hbr (Nat.le_refl _)) i _ hc
      generalize l[i] = c at *
      obtain ⟨⟨table, part, row, col⟩, ⟨time, dead, loc, kind, num, s⟩⟩ := c
      obtain ⟨k0, k1, k2, k3, k4, k5, k6, k7, k8, k9⟩ := h1
      simp only at k0 k1 k2 k3 k4 k5 k6 k7 k8 k9
      unfold wtX at hcw hst
      simp only at hcw hst
      have hb2 : Below w.heap.size w (wr.alloc (.cells (Cx.a ⟨⟨table, part, row, col⟩, ⟨time, dead, loc, kind, num, s⟩⟩) 50)) := hbr.alloc hbr.size _
      have Hst : Hid (wtXs (l.take (i + 1)) = wtXs (l.take i) + (table.size + part.size + col.size + s.size)) := hst
      clear hc ha hst hw
      have hsum : (table.size : Int) + part.size + col.size + s.size ≤ 562949953421312 := by omega
      by_cases hbig : z + (1 + (table.size + part.size + col.size + s.size) / 20) ≤ m
      · have hq : ¬ ((m : Int) < (z : Int) + (1 + ((table.size : Int) + part.size + col.size + s.size) / 20)) := by omega
        go_wp2
        go_roundw
        case rel =>
          refine ⟨i + 1, z + (1 + (table.size + part.size + col.size + s.size) / 20), by omega, ?_, by go_num, by omega, hbig, ?_, hb2⟩
          · congr 1
          · rw [Hst.out]
            omega
        case measure => simp [intOf]; omega
      · have hq : ((m : Int) < (z : Int) + (1 + ((table.size : Int) + part.size + col.size + s.size) / 20)) := by omega
        go_wp2
        go_ret
        refine ⟨⟨z + (1 + (table.size + part.size + col.size + s.size) / 20), ret_int (by omega), by omega, fun h => absurd h hbig⟩, hb2⟩
    · obtain rfl : i = l.length := by omega
      rw [List.take_length] at hwz
      clear ha hw
      go_wp2
      go_ret
      exact ⟨⟨z, rfl, by omega, fun _ => ⟨by omega, by omega⟩⟩, hbr⟩
/-- A row of lists, as lists. -/
theorem rows_lists {W : World} {base : Nat} {v : Value} {R : List Lvx} (h : W.ownsRow base 26 1 v R.length (R.map Lvx.s)) : ∃ a c, v = .slice a R.length c ∧ LSees W a R ∧ R.length ≤ c ∧ (a = none ∨ ∃ g, a = some ⟨g, 0, none⟩) := by
  rcases h.2 with ⟨rfl, h0⟩ | ⟨g, cap, cur, rfl, hg, hh, hn, hm, hs, ht⟩
  · refine ⟨none, 0, by rw [h0], fun i x hx => ?_, by omega, .inl rfl⟩
    have := (List.getElem?_eq_some_iff.1 hx).1
    omega
  · refine ⟨_, cap, rfl, fun i x hx => ⟨g, 0, rfl, ?_⟩, hn, .inr ⟨g, rfl⟩⟩
    have hi := (List.getElem?_eq_some_iff.1 hx).1
    have e : (R.map Lvx.s)[i]? = some x.s := by rw [List.getElem?_map, hx]; rfl
    rw [← ht, List.getElem?_take, if_pos (by omega), Array.getElem?_toList] at e
    simp only [World.cell?, hh, Nat.zero_add]
    exact e
set_option maxRecDepth 100000 in
set_option maxHeartbeats 2000000 in
theorem recordsL_same (lo lo' : Option Addr) (vs vs' : List Lvx) (c c' : Nat) (w : World) (hv : vs.map Lvx.l = vs'.map Lvx.l) (h1 : LSees w lo vs) (h2 : LSees w lo' vs') (x1 : ∀ v ∈ vs, XSees w v.ao v.l) (x2 : ∀ v ∈ vs', XSees w v.ao v.l) (hl : vs.length ≤ 1000000) (hc : ∀ v ∈ vs, v.l.length ≤ 1000000) :
    Calls Tryz.prog 14 #[.slice lo vs.length c, .slice lo' vs'.length c'] w fun e w' => e = .returned (.bool true) ∧ Below w.heap.size w w' := by
  have hll : vs'.length = vs.length := by have := congrArg List.length hv; simpa using this.symm
  rw [hll]
  have hlz : (vs.length : Int) ≤ 1000000 := by omega
  have HL : Hid (∀ (i : Nat) (u : World), i < vs.length → Below w.heap.size w u → ∃ (b off b' off' : Nat) (v v' : Lvx), lo = some ⟨b, off, none⟩ ∧ lo' = some ⟨b', off', none⟩ ∧ v'.l = v.l ∧ u.cell? ⟨b, off + i, none⟩ = some v.s ∧ u.cell? ⟨b', off' + i, none⟩ = some v'.s ∧ XSees u v.ao v.l ∧ XSees u v'.ao v.l ∧ v.l.length ≤ 1000000) := fun i u hi hu => by
    have e1 : vs[i]? = some vs[i] := List.getElem?_eq_getElem hi
    have hi' : i < vs'.length := by omega
    have e2 : vs'[i]? = some vs'[i] := List.getElem?_eq_getElem hi'
    have e3 : vs'[i].l = vs[i].l := by
      have := congrArg (fun l => l[i]?) hv
      simp only [List.getElem?_map, e1, e2, Option.map_some, Option.some.injEq] at this
      exact this.symm
    obtain ⟨b, off, k1, k2⟩ := (h1.below hu (Nat.le_refl _)) i _ e1
    obtain ⟨b', off', k3, k4⟩ := (h2.below hu (Nat.le_refl _)) i _ e2
    refine ⟨b, off, b', off', vs[i], vs'[i], k1, k3, e3, k2, k4, (x1 _ (List.getElem_mem hi)).below hu (Nat.le_refl _), ?_, hc _ (List.getElem_mem hi)⟩
    have := (x2 _ (List.getElem_mem hi')).below hu (Nat.le_refl _)
    rw [e3] at this; exact this
  generalize vs.length = n at *
  clear hv h1 h2 x1 x2 hc hll hl
  go_enter Tryz.func14, Tryz.ntmps14
  go_wp2_with fail
  go_loopw [13] (fun s13 wr => ∃ i : Nat, i ≤ n ∧ s13 = .int .i64 (i : Int) ∧ Below w.heap.size w wr) (fun s13 _ => n - (intOf s13).toNat)
  case atStart => exact ⟨0, by omega, rfl, Below.refl _ _⟩
  case round =>
    obtain ⟨i, hi, rfl, hbr⟩ := hrel
    rcases Nat.lt_or_ge i n with hlt | hge
    · obtain ⟨b, off, b', off', v, v', rfl, rfl, hvl, k1, k2, y1, y2, hvn⟩ := HL.out i wr hlt hbr
      have q0 : ∀ z : Cl wr.heap.size wr, z.u.cell? ⟨b, off + i, none⟩ = some (.slice v.ao v.l.length v.cap) := fun z => z.cell (World.block_lt_of_cell? _ _ k1) k1
      have q1 : ∀ z : Cl wr.heap.size wr, z.u.cell? ⟨b', off' + i, none⟩ = some (.slice v'.ao v.l.length v'.cap) := fun z => z.cell (World.block_lt_of_cell? _ _ k2) (by rw [k2]; unfold Lvx.s; rw [hvl])
      have LK : Hid (∀ z : Cl wr.heap.size wr, Calls Tryz.prog 34 #[.slice v.ao v.l.length v.cap, .slice v'.ao v.l.length v'.cap] z.u fun e w' => e = .returned (.bool true) ∧ Below z.u.heap.size z.u w') := fun z => likeX_same _ _ _ _ _ z.u (y1.below z.h (Nat.le_refl _)) (y2.below z.h (Nat.le_refl _)) hvn
      have HE : Hid (∀ w', Below wr.heap.size wr w' → Below w.heap.size w w') := fun w' h => hbr.trans (h.mono hbr.size)
      have hltz : (i : Int) < (n : Int) := by omega
      generalize v.l.length = m at *
      clear k1 k2 y1 y2 hbr HL hvl hvn
      haveI := Cl.inh wr.heap.size wr
      go_wp2_with fail
      refine wp_region_cl wr.heap.size (by kernel_rfl) (by kernel_rfl) ?_
      repeat (quiet_step (first | (go_at_call 34; exact Cl.calls (Nat.le_refl _) (LK.out _))))
      refine wpQuiet_nil ?_
      rintro w0 ⟨z, rfl⟩
      have hz := HE.out _ z.h
      go_wp2_with fail
      go_roundw
      case rel => exact ⟨i + 1, by omega, by go_num, hz⟩
      case measure => (simp [intOf]; try omega)
    · obtain rfl : i = n := by omega
      clear HL
      go_wp2_with fail
      go_ret
      exact ⟨rfl, hbr⟩
end Go.Proofs.YtglaocghcgcghaaGreatDoor
namespace Go.Proofs.YtglaocghcgcghaaGreatDoor.walBack
open Go.RowKit Go.Proofs.YtglaocghcgcghaaGreatDoor

/-- What is asked of a list that came in. -/
structure LvOk (v : Lvx) : Prop where
  len : v.l.length ≤ 140737488355328
  max : ∀ c ∈ v.l, CxMax c
  num : ∀ c ∈ v.l, c.Nums
  wt : ∀ c ∈ v.l, wtX c ≤ 562949953421312
/-- The records that were gathered: their bytes, and their lists. -/
structure Gath (w : World) (vs R : List Lvx) (v6 v7 : Value) (W : World) : Prop where
  b6 : W.ownsRow w.heap.size 5 1 v6 (encW (R.map Lvx.l)).length (B8 (encW (R.map Lvx.l)))
  b7 : W.ownsRow w.heap.size 26 1 v7 R.length (R.map Lvx.s)
  sub : ∀ r ∈ R, r ∈ vs
  ok : ∀ r ∈ R, recB r.l = true
  low : Below w.heap.size w W
theorem enc_len {R : List (List Cx)} (h : ∀ r ∈ R, recB r = true) : (encW R).length ≤ 200000 * R.length := by
  induction R with
  | nil => simp [encW]
  | cons r R ih =>
    have h1 := rec_bytes' (h r (List.mem_cons_self ..))
    have h2 := ih fun x hx => h x (List.mem_cons_of_mem _ hx)
    rw [encW_cons, List.length_append, List.length_cons]
    omega
theorem Gath.below {w : World} {vs R : List Lvx} {v6 v7 : Value} {W W' : World} (h : Gath w vs R v6 v7 W) (hb : Below W.heap.size W W') : Gath w vs R v6 v7 W' :=
  ⟨owBelow h.b6 hb, owBelow h.b7 hb, h.sub, h.ok, h.low.trans (hb.mono h.low.size)⟩
theorem Gath.lists {w : World} {vs R : List Lvx} {v6 v7 : Value} {W : World} (h : Gath w vs R v6 v7 W) : ∃ a c, v7 = .slice a R.length c ∧ LSees W a R ∧ R.length ≤ c ∧ (a = none ∨ ∃ g, a = some ⟨g, 0, none⟩) := rows_lists h.b7
theorem src_oneL (w : World) (v : Value) (hv : v.oneCell' = true) : Src Tryz.prog 1 22 (.slice (some ⟨w.heap.size, 0, none⟩) 1 1) 1 [v] (w.alloc (.cells #[v] 26)) := by
  refine Src.ofSlice _ Tryz.underlying22 _ 1 1 _ rfl (fun j u hj => ?_) (fun u hu => by rw [List.mem_singleton] at hu; rw [hu]; exact hv)
  have hg : (w.alloc (.cells #[v] 26)).heap[w.heap.size]? = some (.cells #[v] 26) := heap_alloc_new w _
  rw [Addr.add_lit, Nat.zero_add]
  simp only [World.cell?, hg]
  cases j with
  | zero => exact hj
  | succ j => simp at hj
theorem lit_owns (w : World) {B : Nat} (hB : B ≤ w.heap.size) : (w.alloc (.cells #[] 5)).ownsRow B 5 1 (.slice (some ⟨w.heap.size, 0, none⟩) 0 0) 0 [] :=
  ⟨rfl, .inr ⟨w.heap.size, 0, #[], rfl, hB, heap_alloc_new w _, Nat.le_refl _, Nat.zero_le _, rfl, rfl⟩⟩
/-- Rows of another make lie as they lay behind an append. -/
theorem other_alloc {W : World} {o : Obj} {base n size : Nat} {e : TypeId} {v : Value} {xs : List Value} (h : W.ownsRow base e size v n xs) : (W.alloc o).ownsRow base e size v n xs := owns_cells h fun _ _ _ => rw_alloc o
theorem other_grew {W W' : World} {base n size base' n' size' : Nat} {e e' : TypeId} {v v1 v' : Value} {xs xs' : List Value} (h : W.ownsRow base e size v n xs) (ho : W.ownsRow base' e' size' v1 n' xs') (hg : Grew W W' v1 v') (hne : e ≠ e') : W'.ownsRow base e size v n xs := owns_cells h fun _ _ _ => rw_grown ho hg.rows hne
theorem Gath.more {w W : World} {vs R : List Lvx} {v : Lvx} {v4 v8 : Value} (hv : v ∈ vs) (hr : recB v.l = true) (hs : ∀ r ∈ R, r ∈ vs) (hok : ∀ r ∈ R, recB r.l = true)
    (h4 : W.ownsRow w.heap.size 5 1 v4 (0 + (encW (R.map Lvx.l)).length + (recL v.l).length) ([] ++ B8 (encW (R.map Lvx.l)) ++ B8 (recL v.l))) (h8 : W.ownsRow w.heap.size 26 1 v8 (R.length + 1) (R.map Lvx.s ++ [v.s])) (hl : Below w.heap.size w W) : Gath w vs (R ++ [v]) v4 v8 W := by
  refine ⟨?_, ?_, fun r hr' => ?_, fun r hr' => ?_, hl⟩
  · rw [List.map_append, List.map_cons, List.map_nil, encW_snoc, B8_append, List.length_append]
    rw [Nat.zero_add, List.nil_append] at h4
    exact h4
  · rw [List.map_append, List.length_append]; exact h8
  · rcases List.mem_append.1 hr' with h | h
    · exact hs r h
    · rw [List.mem_singleton] at h; rw [h]; exact hv
  · rcases List.mem_append.1 hr' with h | h
    · exact hok r h
    · rw [List.mem_singleton] at h; rw [h]; exact hr
theorem bytes_form {W : World} {base n : Nat} {v : Value} {xs : List Value} (h : W.ownsRow base 5 1 v n xs) : ∃ a c, v = .slice a n c := by
  rcases h.2 with ⟨e, h0⟩ | ⟨g, c, _, e, _⟩
  · exact ⟨none, 0, by rw [e, h0]⟩
  · exact ⟨_, c, e⟩
theorem walk7 {w w2 w3 w4 : World} {vs R : List Lvx} {v6 v7 v3 v4 : Value} {n : Nat} {xs : List Value} (hG : Gath w vs R v6 v7 w2) (hL : (w2.alloc (.cells #[] 5)).ownsRow w.heap.size 5 1 (.slice (some ⟨w2.heap.size, 0, none⟩) 0 0) 0 [])
    (hg3 : Grew (w2.alloc (.cells #[] 5)) w3 (.slice (some ⟨w2.heap.size, 0, none⟩) 0 0) v3) (ho3 : w3.ownsRow w.heap.size 5 1 v3 n xs) (hg4 : Grew w3 w4 v3 v4) :
    w4.ownsRow w.heap.size 26 1 v7 R.length (R.map Lvx.s) ∧ Below w.heap.size w w4 := by
  have hs := hG.low.size
  refine ⟨other_grew (other_grew (other_alloc hG.b7) hL hg3 (by decide)) ho3 hg4 (by decide), ?_⟩
  have h1 : Below w.heap.size w (w2.alloc (.cells #[] 5)) := hG.low.alloc hs _
  have h2 : Below w.heap.size (w2.alloc (.cells #[] 5)) w3 := hg3.below (by rw [World.size_alloc]; omega) fun g hg => (hL.lt g hg).1
  have h3 : Below w.heap.size w3 w4 := hg4.below (by have := h1.size; have := h2.size; omega) fun g hg => (ho3.lt g hg).1
  exact (h1.trans h2).trans h3
theorem walk8 {w w2 w4 w8 : World} {vs R : List Lvx} {v : Lvx} {v6 v7 v4 v8 : Value} (hv : v ∈ vs) (hrb : recB v.l = true) (hG : Gath w vs R v6 v7 w2) (hr7 : w4.ownsRow w.heap.size 26 1 v7 R.length (R.map Lvx.s)) (hw4 : Below w.heap.size w w4)
    (ho4 : w4.ownsRow w.heap.size 5 1 v4 (0 + (encW (R.map Lvx.l)).length + (recL v.l).length) ([] ++ B8 (encW (R.map Lvx.l)) ++ B8 (recL v.l))) (ho8 : w8.ownsRow w.heap.size 26 1 v8 (R.length + 1) (R.map Lvx.s ++ [v.s])) (hg8 : Grew (w4.alloc (.cells #[v.s] 26)) w8 v7 v8) : Gath w vs (R ++ [v]) v4 v8 w8 := by
  refine Gath.more hv hrb hG.sub hG.ok (other_grew (other_alloc ho4) (other_alloc hr7) hg8 (by decide)) ho8 ?_
  have h1 : Below w.heap.size w (w4.alloc (.cells #[v.s] 26)) := hw4.alloc hw4.size _
  exact h1.trans (hg8.below h1.size fun g hg => ((other_alloc (o := .cells #[v.s] 26) hr7).lt g hg).1)
/-- Scan, where what bytes tell is known: its records as lists. -/
theorem scanL_any {ao : Option Addr} {L : List UInt8} {cap : Nat} {w : World} (hs : Sees w ao L) (hao : Lies w.heap.size ao L.length) (hL : L.length ≤ 100000000) (hcap : L.length ≤ cap) (hcm : cap ≤ 9223372036854775807) (ht : Tab w) {ue : TypeId} {pv : Value} (he : Err w ue pv) {rs : List (List Cx)} {n : Nat} (hT : ToldW L rs n) :
    Calls Tryz.prog 72 #[.slice ao L.length cap] w fun e w' => ∃ (a : Option Addr) (c : Nat) (ys : List Lvx), e = .returned (.tuple #[.slice a ys.length c, .int .i64 (n : Int)]) ∧ ys.map Lvx.l = rs ∧ LSees w' a ys ∧ (∀ y ∈ ys, XSees w' y.ao y.l) ∧ Below w.heap.size w w' := by
  refine (scanW_any ao L cap w hs hao hL hcap hcm ht ue pv he).mono ?_
  rintro e w' ⟨v, xs, m, rfl, hT', hrow, hin, hB⟩
  obtain ⟨e1, rfl⟩ := hT'.uniq hT
  have em : xs.map Yl.v = (xs.map fun x => (⟨x.a, x.c, x.r⟩ : Lvx)).map Lvx.s := by rw [List.map_map]; rfl
  have el : xs.length = (xs.map fun x => (⟨x.a, x.c, x.r⟩ : Lvx)).length := by rw [List.length_map]
  rw [em, el] at hrow
  obtain ⟨a, c, rfl, h1, -, -⟩ := rows_lists hrow
  refine ⟨a, c, _, rfl, ?_, h1, fun y hy => ?_, hB⟩
  · rw [List.map_map, ← e1]; rfl
  · obtain ⟨x, hx, rfl⟩ := List.mem_map.1 hy
    obtain ⟨a2, c2, e2, h2, -⟩ := owns_xsees (hin x hx).1
    unfold Yl.v at e2
    simp only [Value.slice.injEq] at e2
    rw [← e2.1] at h2
    exact h2
theorem LSees.take {w : World} {lo : Option Addr} {vs : List Lvx} (h : LSees w lo vs) (j : Nat) : LSees w lo (vs.take j) := fun i v hv => by
  refine h i v ?_
  rw [List.getElem?_take] at hv
  split at hv
  · exact hv
  · cases hv
theorem encW_take (R : List (List Cx)) (j : Nat) : (encW (R.take j)).length ≤ (encW R).length := by
  have : encW R = encW (R.take j) ++ encW (R.drop j) := by
    unfold encW
    rw [← List.flatMap_append, List.take_append_drop]
  rw [this, List.length_append]
  omega
end Go.Proofs.YtglaocghcgcghaaGreatDoor.walBack
namespace Go.Proofs.YtglaocghcgcghaaGreatDoor
open Go.RowKit
attribute [local go_sem] Oper.pureAt Oper.pureUpon

def fillW (A1 : Ab) (l : List UInt8) : Int × Ab := if l = [] then (0, A1) else appendX A1 (tB spW) l
theorem Nice.fill {A : Ab} {k : Nat} (h : Nice A k) {l : List UInt8} (hl : ∀ t, findT A.sp spW = some t → t.bs.length + l.length ≤ 600000) : Nice (fillW A l).2 (k + 1) := by
  unfold fillW
  split
  · exact h.mono (Nat.le_succ k)
  · exact h.append (tB spW) hl
theorem mend_see {lb : Nat} {ft f1 : List Nat} {w w1 : World} {ao : Option Addr} {l : List UInt8} (hB : Sees w ao l ∧ ∀ a, ao = some a → 0 < l.length → a.block ∉ lb :: ft) (hM : Moved w w1 (lb :: ft) (lb :: f1)) : Sees w1 ao l ∧ ∀ a, ao = some a → 0 < l.length → a.block ∉ f1 := by
  refine ⟨fun i hi => ?_, fun a e hl hi => ?_⟩
  · obtain ⟨a, e, hc⟩ := hB.1 i hi
    refine ⟨a, e, ?_⟩
    have hlt := World.block_lt_of_cell? _ _ hc
    rw [World.cell?_of_block (hM.kept _ hlt (by rw [Addr.add_block]; exact hB.2 a e (by omega)))]
    exact hc
  · obtain ⟨a', e', hc⟩ := hB.1 0 hl
    obtain rfl := Option.some.inj (e.symm.trans e')
    have hlt := World.block_lt_of_cell? _ _ hc
    rw [Addr.add_block] at hlt
    rcases hM.news _ (List.mem_cons_of_mem _ hi) with h | h
    · exact hB.2 a e hl h
    · omega
set_option maxRecDepth 100000 in
set_option maxHeartbeats 4000000 in
theorem mendY {w0 : World} {d lb : Nat} {A : Ab} {n m : Int} {b : Bool} {ft : List Nat} {w : World} (he : EnvW w0) (h : LyF w0 d lb A n b ft w) (hm : okW m = true) (ao : Option Addr) (l : List UInt8) (c : Nat) (hb : Sees w ao l) (hne : ∀ a, ao = some a → 0 < l.length → a.block ∉ lb :: ft) {k : Nat} (hN : Nice A k) (hk : k + 3 ≤ 2000) (hl : l.length ≤ 600000) (hz : ∀ t, findT (createX A (tB spW)).2.sp spW = some t → t.bs.length + l.length ≤ 600000) :
    Calls Tryz.prog 47 #[.pointer (some ⟨lb, 0, none⟩), .int .i64 m, .slice ao l.length c] w fun x w' => x = .returned (.int .i64 (mendX A m l).1) ∧ LyR w0 d lb (mendX A m l).2 n b ft w w' := by
  have hmm := okW_iff.1 hm
  have CN : Hid (∀ u, Below w0.heap.size w0 u → Calls Tryz.prog 38 #[.int .i64 m] u fun x w' => x = .returned (.string (tB (nmW m))) ∧ Below u.heap.size u w') := fun u hu => nameW_any m (by omega) (by omega) u (he.below hu (Nat.le_refl _))
  have hsz := tB_max (nmW m) (by have := nmW_len m; omega)
  have hsp := tB_max spW (by decide)
  have CC0 := ly_create h (tB spW) hsp hN (by omega)
  have hN1 := hN.create (tB spW)
  have hmx : mendX A m l = chainW (createX A (tB spW)) fun A1 => chainW (fillW A1 l) fun A2 => chainW (syncX A2 (tB spW)) fun A3 => renameX A3 (tB spW) (tB (nmW m)) := rfl
  rw [hmx]
  clear hmx
  have HB : Hid (Sees w ao l ∧ ∀ a, ao = some a → 0 < l.length → a.block ∉ lb :: ft) := ⟨hb, hne⟩
  have HL : Hid (LyF w0 d lb A n b ft w) := h
  have c0 : ∀ q : LC d lb, q.u.cell? ⟨lb, 0, none⟩ = some (.pointer (some ⟨d, 0, none⟩)) := fun q => q.h
  haveI : Nonempty (LC d lb) := ⟨⟨w, h.blk.cell 0 rfl⟩⟩
  have k0 := h.blk.cell 0 rfl
  have hlz : (l.length : Int) ≤ 600000 := by omega
  generalize createX A (tB spW) = q at *
  obtain ⟨c1, A1⟩ := q
  have CC : Hid (Calls Tryz.prog 60 #[.pointer (some ⟨d, 0, none⟩), .string ⟨#[108, 111, 103, 46, 110, 101, 119]⟩] w fun x w' => x = .returned (.int .i64 c1) ∧ LyR w0 d lb A1 n b ft w w') := CC0
  clear CC0 hb hne h hN he
  by_cases h1 : c1 = 0
  · subst h1
    rw [chainW_mk0]
    simp only at hN1 hz
    have hNf := hN1.fill (l := l) hz
    have CF0 := fun (hl0 : ¬ l = []) u f (hu : LyF w0 d lb A1 n b f u) (hs : Sees u ao l) (hn : ∀ a, ao = some a → 0 < l.length → a.block ∉ f) => ly_append hu (tB spW) hsp ao l c hs hn hN1 (by omega) hl hz
    have CF1 : ∀ (hl0 : ¬ l = []), appendX A1 (tB spW) l = fillW A1 l := fun hl0 => by unfold fillW; rw [if_neg hl0]
    have CF2 : l = [] → fillW A1 l = (0, A1) := fun h => by unfold fillW; rw [if_pos h]
    have CF3 := fun (hl0 : ¬ l = []) => (CF1 hl0) ▸ CF0 hl0
    clear CF0 CF1 hN1 hz
    generalize fillW A1 l = q at *
    obtain ⟨c2, A2⟩ := q
    simp only at hNf
    have CS0 := fun u f (hu : LyF w0 d lb A2 n b f u) => ly_sync hu (tB spW) hsp hNf (by omega)
    have hNs := hNf.sync (tB spW)
    by_cases h2 : c2 = 0
    · subst h2
      rw [chainW_mk0]
      generalize syncX A2 (tB spW) = q at *
      obtain ⟨c3, A3⟩ := q
      have CS : Hid (∀ u f, LyF w0 d lb A2 n b f u → Calls Tryz.prog 51 #[.pointer (some ⟨d, 0, none⟩), .string ⟨#[108, 111, 103, 46, 110, 101, 119]⟩] u fun x w' => x = .returned (.int .i64 c3) ∧ LyR w0 d lb A3 n b f u w') := CS0
      simp only at hNs
      by_cases h3 : c3 = 0
      · subst h3
        rw [chainW_mk0]
        have CR0 := fun u f (hu : LyF w0 d lb A3 n b f u) => ly_rename hu (tB spW) (tB (nmW m)) hsp hsz hNs (by omega)
        generalize renameX A3 (tB spW) (tB (nmW m)) = q at *
        obtain ⟨c4, A4⟩ := q
        have CR : Hid (∀ u f, LyF w0 d lb A3 n b f u → Calls Tryz.prog 73 #[.pointer (some ⟨d, 0, none⟩), .string ⟨#[108, 111, 103, 46, 110, 101, 119]⟩, .string (tB (nmW m))] u fun x w' => x = .returned (.int .i64 c4) ∧ LyR w0 d lb A4 n b f u w') := CR0
        generalize tB (nmW m) = s at *
        clear CS0 CR0 hNf hNs hsz hsp hm hk
        by_cases hl0 : l = []
        · obtain ⟨-, rfl⟩ := Prod.mk.inj (CF2 hl0)
          subst hl0
          clear CF2 CF3
          go_enter Tryz.func47, Tryz.ntmps47
          go_wp2_with (go_at_call 60; refine CC.out.mono ?_; rintro e w1 ⟨rfl, f1, hF1, hM1⟩; have k1 := hF1.blk.cell 0 rfl)
          go_wp2_with (go_at_call 51; refine (CS.out _ f1 hF1).mono ?_; rintro e w3 ⟨rfl, f3, hF3, hM3⟩; have k3 := hF3.blk.cell 0 rfl)
          go_wp2_with fail
          refine wp_region_sched (fun w' => ∃ p : LC d lb, w' = p.u) [(0, true), (1, true), (2, true), (3, true), (4, true), (5, false), (6, false), (7, true)] rfl (by kernel_rfl) (by kernel_rfl) (by kernel_rfl) (LyC.of hF3.drew) ?_
          iterate 5 (refine sched_pure rfl (fun K hK => ?_); go_simp; refine hK _ ?_; clear hK K)
          refine sched_loud rfl (fun K hK => ?_)
          go_simp
          refine (CN.out _ hF3.drew.bel).mono ?_
          rintro e u1 ⟨rfl, hu1⟩
          have hu1f := hF3.drew.more hu1
          have hu1b : Below w3.heap.size w3 u1 := (Below.refl _ _).drew.trans hu1
          refine hK _ _ (LyC.of hu1f) ?_
          clear hK K
          refine sched_loud rfl (fun K hK => ?_)
          go_simp
          refine (CR.out _ f3 hu1f).mono ?_
          rintro e u2 ⟨rfl, r2⟩
          refine hK _ _ (LyC.ofR r2) ?_
          clear hK K
          refine sched_pure rfl (fun K hK => ?_)
          go_simp
          refine hK _ ?_
          clear hK K
          refine sched_nil ?_
          obtain ⟨f4, hF4, hM4⟩ := r2
          go_wp2_with fail
          go_ret
          exact ⟨rfl, f4, hF4, ((hM1.trans hM3).trans (moved_below hu1b)).trans hM4⟩
        · have CF : Hid (∀ u f, LyF w0 d lb A1 n b f u → Sees u ao l → (∀ a, ao = some a → 0 < l.length → a.block ∉ f) → Calls Tryz.prog 50 #[.pointer (some ⟨d, 0, none⟩), .string ⟨#[108, 111, 103, 46, 110, 101, 119]⟩, .slice ao l.length c] u fun x w' => x = .returned (.int .i64 0) ∧ LyR w0 d lb A2 n b f u w') := CF3 hl0
          have hlp : (0 : Int) < (l.length : Int) := by have := List.length_pos_iff.2 hl0; omega
          clear CF2 CF3 hl0
          go_enter Tryz.func47, Tryz.ntmps47
          go_wp2_with (go_at_call 60; refine CC.out.mono ?_; rintro e w1 ⟨rfl, f1, hF1, hM1⟩; have k1 := hF1.blk.cell 0 rfl)
          obtain ⟨hs1, hn1⟩ := mend_see HB.out hM1
          go_wp2_with (go_at_call 50; refine (CF.out _ f1 hF1 hs1 hn1).mono ?_; rintro e w2 ⟨rfl, f2, hF2, hM2⟩; have k2 := hF2.blk.cell 0 rfl)
          go_wp2_with (go_at_call 51; refine (CS.out _ f2 hF2).mono ?_; rintro e w3 ⟨rfl, f3, hF3, hM3⟩; have k3 := hF3.blk.cell 0 rfl)
          go_wp2_with fail
          refine wp_region_sched (fun w' => ∃ p : LC d lb, w' = p.u) [(0, true), (1, true), (2, true), (3, true), (4, true), (5, false), (6, false), (7, true)] rfl (by kernel_rfl) (by kernel_rfl) (by kernel_rfl) (LyC.of hF3.drew) ?_
          iterate 5 (refine sched_pure rfl (fun K hK => ?_); go_simp; refine hK _ ?_; clear hK K)
          refine sched_loud rfl (fun K hK => ?_)
          go_simp
          refine (CN.out _ hF3.drew.bel).mono ?_
          rintro e u1 ⟨rfl, hu1⟩
          have hu1f := hF3.drew.more hu1
          have hu1b : Below w3.heap.size w3 u1 := (Below.refl _ _).drew.trans hu1
          refine hK _ _ (LyC.of hu1f) ?_
          clear hK K
          refine sched_loud rfl (fun K hK => ?_)
          go_simp
          refine (CR.out _ f3 hu1f).mono ?_
          rintro e u2 ⟨rfl, r2⟩
          refine hK _ _ (LyC.ofR r2) ?_
          clear hK K
          refine sched_pure rfl (fun K hK => ?_)
          go_simp
          refine hK _ ?_
          clear hK K
          refine sched_nil ?_
          obtain ⟨f4, hF4, hM4⟩ := r2
          go_wp2_with fail
          go_ret
          exact ⟨rfl, f4, hF4, (((hM1.trans hM2).trans hM3).trans (moved_below hu1b)).trans hM4⟩
      · have h3b : (c3 != 0) = true := by simpa using h3
        rw [chainW_mk h3]
        clear CS0 hNf hNs hsz hsp hm hk
        by_cases hl0 : l = []
        · obtain ⟨-, rfl⟩ := Prod.mk.inj (CF2 hl0)
          subst hl0
          clear CF2 CF3
          go_enter Tryz.func47, Tryz.ntmps47
          go_wp2_with (go_at_call 60; refine CC.out.mono ?_; rintro e w1 ⟨rfl, f1, hF1, hM1⟩; have k1 := hF1.blk.cell 0 rfl)
          go_wp2_with (go_at_call 51; refine (CS.out _ f1 hF1).mono ?_; rintro e w3 ⟨rfl, f3, hF3, hM3⟩)
          go_ret
          exact ⟨rfl, f3, hF3, hM1.trans hM3⟩
        · have CF : Hid (∀ u f, LyF w0 d lb A1 n b f u → Sees u ao l → (∀ a, ao = some a → 0 < l.length → a.block ∉ f) → Calls Tryz.prog 50 #[.pointer (some ⟨d, 0, none⟩), .string ⟨#[108, 111, 103, 46, 110, 101, 119]⟩, .slice ao l.length c] u fun x w' => x = .returned (.int .i64 0) ∧ LyR w0 d lb A2 n b f u w') := CF3 hl0
          have hlp : (0 : Int) < (l.length : Int) := by have := List.length_pos_iff.2 hl0; omega
          clear CF2 CF3 hl0
          go_enter Tryz.func47, Tryz.ntmps47
          go_wp2_with (go_at_call 60; refine CC.out.mono ?_; rintro e w1 ⟨rfl, f1, hF1, hM1⟩; have k1 := hF1.blk.cell 0 rfl)
          obtain ⟨hs1, hn1⟩ := mend_see HB.out hM1
          go_wp2_with (go_at_call 50; refine (CF.out _ f1 hF1 hs1 hn1).mono ?_; rintro e w2 ⟨rfl, f2, hF2, hM2⟩; have k2 := hF2.blk.cell 0 rfl)
          go_wp2_with (go_at_call 51; refine (CS.out _ f2 hF2).mono ?_; rintro e w3 ⟨rfl, f3, hF3, hM3⟩)
          go_ret
          exact ⟨rfl, f3, hF3, (hM1.trans hM2).trans hM3⟩
    · have h2b : (c2 != 0) = true := by simpa using h2
      rw [chainW_mk h2]
      by_cases hl0 : l = []
      · exact absurd (congrArg Prod.fst (CF2 hl0)) h2
      · have CF : Hid (∀ u f, LyF w0 d lb A1 n b f u → Sees u ao l → (∀ a, ao = some a → 0 < l.length → a.block ∉ f) → Calls Tryz.prog 50 #[.pointer (some ⟨d, 0, none⟩), .string ⟨#[108, 111, 103, 46, 110, 101, 119]⟩, .slice ao l.length c] u fun x w' => x = .returned (.int .i64 c2) ∧ LyR w0 d lb A2 n b f u w') := CF3 hl0
        have hlp : (0 : Int) < (l.length : Int) := by have := List.length_pos_iff.2 hl0; omega
        clear CF2 CF3 hl0 CS0 hNf hNs hsz hsp hm hk
        go_enter Tryz.func47, Tryz.ntmps47
        go_wp2_with (go_at_call 60; refine CC.out.mono ?_; rintro e w1 ⟨rfl, f1, hF1, hM1⟩; have k1 := hF1.blk.cell 0 rfl)
        obtain ⟨hs1, hn1⟩ := mend_see HB.out hM1
        go_wp2_with (go_at_call 50; refine (CF.out _ f1 hF1 hs1 hn1).mono ?_; rintro e w2 ⟨rfl, f2, hF2, hM2⟩)
        go_ret
        exact ⟨rfl, f2, hF2, hM1.trans hM2⟩
  · have h1b : (c1 != 0) = true := by simpa using h1
    rw [chainW_mk h1]
    clear hN1 hz hsz hsp hm hk
    go_enter Tryz.func47, Tryz.ntmps47
    go_wp2_with (go_at_call 60; refine CC.out.mono ?_; rintro e w1 ⟨rfl, f1, hF1, hM1⟩)
    go_ret
    exact ⟨rfl, f1, hF1, hM1⟩
end Go.Proofs.YtglaocghcgcghaaGreatDoor
