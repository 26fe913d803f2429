/-
  SEVERAL TEXTS IN ONE: WalScan, BlmCanon, ManPlain, WalBytP, WalRefS0, KeyLives, KeyAt, WalBackL.
-/
import Derived.Test.YtlamncldbnagmaaGreatDoorMany28
import Derived.Test.YtlamncldbnagmaaGreatDoorMany9
import Derived.Test.YtlamncldbnagmaaGreatDoorMany13
import Derived.Test.YtlamncldbnagmaaGreatDoorMany21
import Derived.Test.YtlamncldbnagmaaGreatDoorMany22
import Derived.Test.YtlamncldbnagmaaGreatDoorMany27
import Derived.Test.YtlamncldbnagmaaGreatDoorMany19
import Derived.Test.YtlamncldbnagmaaGreatDoorMany16
import Derived.Laws.BytesString
import Derived.Lib.SlBytesConst
import Derived.Test.YtlamncldbnagmaaGreatDoorMany26
namespace Go.Proofs.YtlamncldbnagmaaGreatDoor
open Go.RowKit Go.Shelf

attribute [local go_sem] Oper.semAt_some

theorem infoLs : (Tryz.prog.info? 22).map (fun i => (i.zero, i.size, i.bytes)) = some (some (.slice none 0 0), 1, 24) := by kernel_rfl
/-- The place behind the last record. -/
def lastE (pre : List Yl) : Nat := (pre.getLast?.map Yl.e).getD 0
theorem lastE_snoc (pre : List Yl) (x : Yl) : lastE (pre ++ [x]) = x.e := by unfold lastE; rw [List.getLast?_concat]; rfl
/-- What Scan has gathered. -/
structure ScP (w : World) (bt bs b1 : Nat) (sv : Value) (v : Value) (pre : List Yl) (W : World) : Prop where
  told : Boxed W bt 33 v
  row : W.ownsRow w.heap.size 22 1 v pre.length (pre.map Yl.v)
  size : Boxed W bs 3 (.int .i64 (lastE pre : Int))
  box : Boxed W b1 23 sv
  ins : ∀ x ∈ pre, YIn w.heap.size x W
  low : Below w.heap.size w W
def ScW (w : World) (bt bs b1 : Nat) (sv : Value) (pre : List Yl) (W : World) : Prop := ∃ v, ScP w bt bs b1 sv v pre W
theorem cells_kept {W W' : World} {row : Option Nat} (hg : W.grownBy W' row) (hr : ∀ r, row = some r → ∃ o : Obj, W.heap[r]? = some o ∧ o.isCells = false) {g : Nat} {cs : Array Value} {t : TypeId} {fr : Nat × Nat} (h : W.heap[g]? = some (.cells cs t fr)) : W'.heap[g]? = some (.cells cs t fr) := by
  rw [hg.block g (Array.getElem?_eq_some_iff.1 h).1 fun e => ?_]
  · exact h
  · obtain ⟨o, ho, hc⟩ := hr g e.symm
    rw [h] at ho; cases ho; cases hc
theorem owns_cells {W W' : World} {base n size : Nat} {e : TypeId} {v : Value} {xs : List Value} (h : W.ownsRow base e size v n xs) (hk : ∀ (g : Nat) (cs : Array Value) (fr : Nat × Nat), W.heap[g]? = some (Obj.cells cs e fr) → W'.heap[g]? = some (Obj.cells cs e fr)) : W'.ownsRow base e size v n xs := by
  refine ⟨h.1, ?_⟩
  rcases h.2 with ⟨e, h0⟩ | ⟨g, cap, cur, e, hg, hh, r⟩
  · exact .inl ⟨e, h0⟩
  · exact .inr ⟨g, cap, cur, e, hg, hk _ _ _ hh, r⟩
theorem scW_own (w : World) (bt bs b1 : Nat) (sv : Value) {B : Nat} (hB : w.heap.size ≤ B) : OwnFrom B (ScW w bt bs b1 sv) := fun pre X Y row hs hg hr => by
  obtain ⟨v, h⟩ := hs
  have hk : ∀ (g : Nat) (cs : Array Value) (t : TypeId) (fr : Nat × Nat), X.heap[g]? = some (Obj.cells cs t fr) → Y.heap[g]? = some (Obj.cells cs t fr) := fun g cs t fr => cells_kept hg fun r e => (hr r e).2
  exact ⟨v, hk _ _ _ _ h.told, owns_cells h.row fun g cs fr => hk g cs _ fr, hk _ _ _ _ h.size, hk _ _ _ _ h.box, fun x hx => ⟨owns_cells (h.ins x hx).1 fun g cs fr => hk g cs _ fr, (h.ins x hx).2⟩,
    ownFrom_below (β := Unit) (Nat.le_refl _) hB () X Y row h.low hg hr⟩
theorem yin_put (n0 : Nat) (x : Yl) (W : World) (l : Nat) (o o' : Obj) (hl : W.heap[l]? = some o) (hc : o.isCells = false) (h : YIn n0 x W) : YIn n0 x (W.putObj l o') :=
  ⟨ownsRow_putObj h.1 o' hl hc, h.2⟩
theorem rw_alloc {W : World} (o : Obj) {g : Nat} {cs : Array Value} {t : TypeId} {fr : Nat × Nat} (h : W.heap[g]? = some (.cells cs t fr)) : (W.alloc o).heap[g]? = some (.cells cs t fr) := by
  rw [Below.heap_alloc _ _ _ (Array.getElem?_eq_some_iff.1 h).1]; exact h
theorem rw_grown {W W' : World} {base n size : Nat} {e t : TypeId} {v : Value} {xs : List Value} (ho : W.ownsRow base e size v n xs) (hg : W.grownBy W' v.ownBlock) (hne : t ≠ e) {g : Nat} {cs : Array Value} {fr : Nat × Nat} (h : W.heap[g]? = some (.cells cs t fr)) : W'.heap[g]? = some (.cells cs t fr) := by
  rw [hg.block g (Array.getElem?_eq_some_iff.1 h).1 fun e' => ?_]
  · exact h
  · rcases ho.2 with ⟨rfl, _⟩ | ⟨g', cap, cur, rfl, _, hgb, _⟩
    · simp [Value.ownBlock] at e'
    · obtain rfl : g = g' := by simpa [Value.ownBlock] using e'
      rw [h] at hgb; cases hgb; exact hne rfl
theorem rw_set {W : World} {B : Nat} {t t' : TypeId} {u : Value} (hb : Boxed W B t' u) (hne : t ≠ t') (v : Value) {g : Nat} {cs : Array Value} {fr : Nat × Nat} (h : W.heap[g]? = some (.cells cs t fr)) : (W.setCell ⟨B, 0, none⟩ v).heap[g]? = some (.cells cs t fr) := by
  rw [Below.heap_setCell _ _ _ g fun e => ?_]
  · exact h
  · subst e
    rw [show W.heap[g]? = _ from hb] at h; cases h; exact hne rfl
theorem box_grown {W w3 : World} {B base n size : Nat} {t e : TypeId} {u v : Value} {xs : List Value} {o : Obj} (h : Boxed W B t u) (hne : t ≠ e) (hr : W.ownsRow base e size v n xs) (hg : (W.alloc o).grownBy w3 v.ownBlock) : Boxed w3 B t u :=
  (h.alloc o).kept hg (h.not_row hne hr)
theorem scan_round {w W w3 : World} {w' : Nat} {b1 : Nat} {sv v v' : Value} {pre : List Yl} {x : Yl} (hP : ScP w w.heap.size (w.heap.size + 1) b1 sv v pre W) (hx : YIn w.heap.size x W) (hb1 : w.heap.size + 1 < b1)
    (hrow : W.ownsRow w.heap.size 22 1 v pre.length (pre.map Yl.v)) (hgrow : (W.alloc (.cells #[x.v] 22)).grownBy w3 v.ownBlock) (hv1 : Boxed w3 w.heap.size 33 v)
    (hv2 : Boxed (w3.setCell ⟨w.heap.size, 0, none⟩ v') w.heap.size 33 v') (hr2 : (w3.setCell ⟨w.heap.size, 0, none⟩ v').ownsRow w.heap.size 22 1 v' (pre.length + 1) (pre.map Yl.v ++ [x.v])) (hk2 : KeepsOthers W (w3.setCell ⟨w.heap.size, 0, none⟩ v')) (hb2 : Below w.heap.size W (w3.setCell ⟨w.heap.size, 0, none⟩ v')) :
    KeepsFrom w' W ((w3.setCell ⟨w.heap.size, 0, none⟩ v').setCell ⟨w.heap.size + 1, 0, none⟩ (.int .i64 (x.e : Int))) ∧ Kpt w.heap.size b1 W ((w3.setCell ⟨w.heap.size, 0, none⟩ v').setCell ⟨w.heap.size + 1, 0, none⟩ (.int .i64 (x.e : Int))) ∧ ScW w w.heap.size (w.heap.size + 1) b1 sv (pre ++ [x]) ((w3.setCell ⟨w.heap.size, 0, none⟩ v').setCell ⟨w.heap.size + 1, 0, none⟩ (.int .i64 (x.e : Int))) := by
  have hz4 := (box_grown hP.size (by decide) hrow hgrow).other (B' := w.heap.size) (by omega) v'
  have hx4 := (box_grown hP.box (by decide) hrow hgrow).other (B' := w.heap.size) (by omega) v'
  have hx5 := hx4.other (B' := w.heap.size + 1) (by omega) (.int .i64 (x.e : Int))
  have hlow : Below w.heap.size W ((w3.setCell ⟨w.heap.size, 0, none⟩ v').setCell ⟨w.heap.size + 1, 0, none⟩ (.int .i64 (x.e : Int))) := hb2.setCell (p := ⟨w.heap.size + 1, 0, none⟩) (Nat.le_succ _) _
  have hK : Kpt w.heap.size b1 W ((w3.setCell ⟨w.heap.size, 0, none⟩ v').setCell ⟨w.heap.size + 1, 0, none⟩ (.int .i64 (x.e : Int))) :=
    ⟨hlow, Eq.trans hx5 hP.box.symm, fun g cs fr h => rw_set hz4 (by decide) _ (rw_set hv1 (by decide) _ (rw_grown (hrow.alloc _) hgrow (by decide) (rw_alloc _ h)))⟩
  refine ⟨(hk2.trans (KeepsOthers.setCell _ _ _)).from _, hK, v', hv2.other (B' := w.heap.size + 1) (by omega) _, ?_, ?_, hx5, fun y hy => ?_, hP.low.trans hlow⟩
  · rw [List.length_append, List.length_singleton, List.map_append, List.map_cons, List.map_nil]
    exact owns_cells hr2 fun g cs fr h => rw_set hz4 (by decide) _ h
  · rw [lastE_snoc]; exact hz4.set _
  · rcases List.mem_append.1 hy with h | h
    · exact (hP.ins y h).kept hK
    · rw [List.mem_singleton] at h; rw [h]; exact hx.kept hK
set_option maxRecDepth 100000 in
theorem recordsW_any (sv : Value) (ao : Option Addr) (n c : Nat) (hv : sv = .slice ao n c) (w : World) :
    Calls Tryz.prog 36 #[.slice ao n c] w fun e w' => e = .returned (.func (.func 72) #[] #[.pointer (some ⟨w.heap.size, 0, none⟩)]) ∧ w' = w.alloc (.cells #[sv] 23) := by
  subst hv
  have hmf : ∀ (fn : Fn) (first cap : Array Value) (w : World), (Instr.makeFunc fn first cap).run Tryz.prog w = .ok (.func fn first cap) w := fun _ _ _ _ => rfl
  go_enter Tryz.func36, Tryz.ntmps36
  go_wp2_with fail
  go_ret
  exact ⟨rfl, rfl⟩
set_option maxRecDepth 100000 in
set_option maxHeartbeats 4000000 in
theorem scanW_any (ao : Option Addr) (L : List UInt8) (cap : Nat) (w : World) (hs : Sees w ao L) (hao : Lies w.heap.size ao L.length) (hL : L.length ≤ 100000000) (hcap : L.length ≤ cap) (hcm : cap ≤ 9223372036854775807) (ht : Tab w) (ue : TypeId) (pv : Value) (he : Err w ue pv) :
    Calls Tryz.prog 10 #[.slice ao L.length cap] w fun e w' => ∃ (v : Value) (xs : List Yl) (n : Nat), e = .returned (.tuple #[v, .int .i64 (n : Int)]) ∧ ToldW L (xs.map Yl.r) n ∧ w'.ownsRow w.heap.size 22 1 v xs.length (xs.map Yl.v) ∧ (∀ x ∈ xs, YIn w.heap.size x w') ∧ Below w.heap.size w w' := by
  refine (callsIn_wide (n := 3)).1 ?_
  have hro : Fence.wide.round = none := rfl
  have h1 : 1 ≤ 3 := by omega
  obtain ⟨i1, hi1, hy0, hy1, hy2⟩ := info_parts infoLs
  obtain ⟨sv, hsv⟩ : ∃ sv, sv = Value.slice ao L.length cap := ⟨_, rfl⟩
  obtain ⟨w1, hw1⟩ : ∃ w1, w1 = (w.alloc (.cells #[.slice none 0 0] 33)).alloc (.cells #[.int .i64 0] 3) := ⟨_, rfl⟩
  have s1 : w1.heap.size = w.heap.size + 1 + 1 := by rw [hw1]; simp
  have hb1 : Below w.heap.size w w1 := by rw [hw1]; exact ((Below.refl _ _).alloc (Nat.le_refl _) _).alloc (by simp) _
  obtain ⟨w2, hw2⟩ : ∃ w2, w2 = w1.alloc (.cells #[sv] 23) := ⟨_, rfl⟩
  have hb2 : Below w1.heap.size w1 w2 := by rw [hw2]; exact (Below.refl _ _).alloc (Nat.le_refl _) _
  have s2 : w2.heap.size = w1.heap.size + 1 := by rw [hw2]; simp
  have hb02 : Below w.heap.size w w2 := hb1.trans (hb2.mono hb1.size)
  have CR : Hid (Calls Tryz.prog 36 #[.slice ao L.length cap] w1 fun e w' => e = .returned (.func (.func 72) #[] #[.pointer (some ⟨w1.heap.size, 0, none⟩)]) ∧ w' = w2) := by
    have := recordsW_any sv ao L.length cap hsv w1
    rw [← hw2] at this; exact this
  have bx : Boxed w2 w1.heap.size 23 sv := by rw [hw2]; exact Boxed.new w1 _ _
  have b0 : Boxed w2 w.heap.size 33 (.slice none 0 0) := by rw [hw2, hw1]; exact ((Boxed.new w _ _).alloc _).alloc _
  have b9 : Boxed w2 (w.heap.size + 1) 3 (.int .i64 0) := by
    have := Boxed.new (w.alloc (.cells #[.slice none 0 0] 33)) 3 (.int .i64 0)
    rw [World.size_alloc] at this
    rw [hw2, hw1]; exact this.alloc _
  have H0 : Hid (ScW w w.heap.size (w.heap.size + 1) w1.heap.size sv [] w2) := ⟨_, b0, World.ownsRow_nil _ _ _ _, b9, bx, fun x hx => (by cases hx), hb02⟩
  have ST : Hid (SeqMem Fence.wide 2 Tryz.prog 72 #[.pointer (some ⟨w1.heap.size, 0, none⟩)] (fun x : Yl => #[x.v, .int .i64 (x.e : Int)]) (Kpt w.heap.size w1.heap.size) (YIn w.heap.size) (fun xs => Came L xs ∧ (fstW (L.drop (endW L xs.length))).2 = 0) 100000000 w2) := fun l J W hW hA hY h0 => by
    have hbW : Below w.heap.size w W := hb02.trans (hW.mono hb02.size)
    exact records1_in 2 (by omega) l w.heap.size w1.heap.size ao L cap hL hcap hcm J W hY (by rw [← hsv]; exact (hW.block _ bx.lt).trans bx) (hs.below hbW (Nat.le_refl _)) hao hbW.size (ht.below hbW (Nat.le_refl _)) (World.block_lt_of_cell? _ _ (ht 0 (by decide))) ue pv (he.below hbW (Nat.le_refl _)) (World.block_lt_of_cell? _ _ he) hA h0
  have HK : Hid (w.heap.size ≤ w2.heap.size ∧ w1.heap.size < w2.heap.size ∧ w.heap.size + 1 < w1.heap.size) := ⟨by omega, by omega, by omega⟩
  have HSV : Hid (sv = Value.slice ao L.length cap) := hsv
  clear hs ht he hb1 hb2 hb02 bx b0 b9 s2 s1
  refine callsIn_of_wp_marks Tryz.func10 rfl trivial ?_ hro
  simp only [Tryz.ntmps10, List.size_toArray, List.length_cons, List.length_nil, Nat.reduceAdd, Nat.reduceSub, Array.replicate_succ, Array.replicate_zero, List.push_toArray, List.append_toArray, List.nil_append, List.cons_append]
  refine wpIn_wide.2 ?_
  go_wp2_with fail
  rw [← hw1]
  refine CR.out.mono ?_
  rintro e w' ⟨rfl, rfl⟩
  clear CR hw1 hw2 hsv
  go_wp2_with fail
  refine (wpIn_wide (n := 3)).1 ?_
  refine wpIn_rangeFunc_mem hro h1 (gf := 72) (lb := #[.pointer (some ⟨w1.heap.size, 0, none⟩)]) rfl trivial (enters_of Tryz.func72 (by kernel_rfl) rfl)
    ST.out Kpt.trans (kptK_b HK.out.1 HK.out.2.1) (yin_put _) (fun _ => rfl) (ScW w w.heap.size (w.heap.size + 1) w1.heap.size sv) (scW_own _ _ _ _ _ HK.out.1) H0.out
    (fun x => { tmps := #[.slice ao L.length cap, undef, .slice none 0 0, .int .i64 0, .pointer (some ⟨w.heap.size, 0, none⟩), .pointer (some ⟨w.heap.size + 1, 0, none⟩), x.v, .int .i64 (x.e : Int), .slice ao L.length cap, .func (.func 72) #[] #[.pointer (some ⟨w1.heap.size, 0, none⟩)], x.v, .int .i64 (x.e : Int), undef, undef, undef, undef, undef, undef, undef], defers := [] }) ?assign ?body ?done
  case assign =>
    intro l x W K hK
    gi_wp2
    exact hK
  case body =>
    rintro l pre x W ⟨v, hP⟩ hx hlen
    have hv := hP.told
    have hrow := hP.row
    have hB := hP.low
    have k0 := hv.cell
    obtain ⟨av, cv, hvv⟩ : ∃ av cv, v = .slice av pre.length cv := by
      rcases hrow.2 with ⟨e, h⟩ | ⟨g, c2, _, e, _⟩
      · exact ⟨none, 0, by rw [e, h]⟩
      · exact ⟨_, c2, e⟩
    subst hvv
    have hlz : pre.length < 100000000 := hlen
    have z0 := hP.size.cell
    have HP : Hid (ScP w w.heap.size (w.heap.size + 1) w1.heap.size sv (.slice av pre.length cv) pre W) := hP
    have HX : Hid (YIn w.heap.size x W) := hx
    have hxl := hx.2.2
    obtain ⟨xa, xc, xr, xe⟩ := x
    simp only [Yl.v] at hxl ⊢
    have hxz : (xe : Int) ≤ 1000000000 := by omega
    have hBs := hB.size
    clear hP hx hB
    gi_wp2_with (gi_at_builtin; refine wpListIn_append_own _ rfl _ _ 33 rfl w.heap.size 22 i1 (.slice none 0 0) 1 24 Tryz.underlying33 hi1 hy0 hy1 hy2 rfl (by decide) _ _ _ rfl (hrow.alloc _) ⟨W.heap.size, 0, none⟩ 1 1 [.slice xa xr.length xc] rfl rfl (cell_one_new _ _ _) (by simp [Value.oneCell']) (by unfold maxLen; omega) (by omega) (by simp; omega) ?_; intro v' w3 hown' hgrow _; obtain ⟨g', cap', rfl⟩ := ownsRow_succ hown'; obtain ⟨hv1, hv2, hr2, hk2, hb2⟩ := hv.appended (by decide) hrow hBs (Nat.le_refl _) hown' hgrow; have hc1 := hv1.cell; have hf1 := hv1.frozen; have hz3 := box_grown HP.out.size (by decide) hrow hgrow; have z1 := hz3.cell; have z2 := hz3.frozen)
    exact scan_round HP.out HX.out HK.out.2.2 hrow hgrow hv1 hv2 hr2 hk2 hb2
  case done =>
    rintro D xs X hD ⟨hC, hl⟩ hI hK
    obtain ⟨v8, hP⟩ := (scW_own w w.heap.size (w.heap.size + 1) w1.heap.size sv (B := w'.heap.size) HK.out.1).putObj (.deferred none) hI hD hK rfl
    obtain ⟨v9, hQ⟩ := hI
    have hv8 : v8 = v9 := by
      have h3 := hP.told.cell
      have h4 : (X.putObj D (.deferred none)).heap[w.heap.size]? = X.heap[w.heap.size]? := World.putObj_heap_other (by have := HK.out; omega)
      rw [World.cell?_of_block h4, hQ.told.cell] at h3
      exact (Option.some.inj h3).symm
    subst hv8
    have k0 := hQ.told.cell
    have k1 := hQ.size.cell
    have hle : lastE xs = endW L xs.length := by
      unfold lastE
      cases hx : xs.getLast? with
      | none => rw [List.getLast?_eq_none_iff.1 hx]; rfl
      | some x => exact hC.last hx
    have HT : Hid (ToldW L (xs.map Yl.r) (lastE xs)) := by show ToldW _ _ _; rw [hle]; exact hC.told hl
    have HP : Hid (ScP w w.heap.size (w.heap.size + 1) w1.heap.size sv v8 xs (X.putObj D (.deferred none))) := hP
    obtain ⟨av, cv, hvv⟩ : ∃ av cv, v8 = .slice av xs.length cv := by
      rcases hQ.row.2 with ⟨e, h⟩ | ⟨g, c2, _, e, _⟩
      · exact ⟨none, 0, by rw [e, h]⟩
      · exact ⟨_, c2, e⟩
    subst hvv
    clear hP hQ hle hl hC
    go_wp2_with fail
    go_region
    all_goals go_wp2_with fail
    all_goals (refine ⟨by simp, .inl ⟨_, _, rfl, run_takeDeferred hK, ?_⟩⟩; exact ⟨_, results_tmp2 rfl _ _ _, _, xs, lastE xs, rfl, HT.out, HP.out.row, HP.out.ins, HP.out.low.drew⟩)
end Go.Proofs.YtlamncldbnagmaaGreatDoor
namespace Go.Proofs.YtlamncldbnagmaaGreatDoor
open Go.RowKit

set_option maxRecDepth 100000 in
theorem byte_back (b : UInt8) : UInt8.ofNat b.toNat = b := by simp
set_option maxRecDepth 100000 in
theorem getN_shape (k : Nat) : ∀ (i acc : Nat) (l : List UInt8) (v : Nat) (r : List UInt8), i + k = 9 → getN i acc l = some (v, r) → ∃ x, x < 2 * 128 ^ k ∧ (0 < i → 0 < x) ∧ v = acc + x * 2 ^ (7 * i) ∧ l = numF k x ++ r := by
  induction k with
  | zero =>
    intro i acc l v r hi hg
    cases l with
    | nil => simp [getN] at hg
    | cons b r' =>
      rw [getN] at hg
      by_cases h1 : (i = 9 ∧ 1 < b.toNat) ∨ (0 < i ∧ b.toNat = 0)
      · rw [if_pos h1] at hg; cases hg
      · rw [if_neg h1, if_pos (by omega)] at hg
        cases hg
        refine ⟨b.toNat, by simp; omega, fun _ => by omega, by rw [Nat.mod_eq_of_lt (by omega)], ?_⟩
        rw [numF, byte_back]
        rfl
  | succ k ih =>
    intro i acc l v r hi hg
    cases l with
    | nil => simp [getN] at hg
    | cons b r' =>
      rw [getN] at hg
      by_cases h1 : (i = 9 ∧ 1 < b.toNat) ∨ (0 < i ∧ b.toNat = 0)
      · rw [if_pos h1] at hg; cases hg
      · rw [if_neg h1] at hg
        have hpw : 0 < 128 ^ k := Nat.pow_pos (by decide)
        by_cases h2 : b.toNat < 128
        · rw [if_pos h2] at hg
          cases hg
          refine ⟨b.toNat, by rw [Nat.pow_succ]; omega, fun _ => by omega, by rw [Nat.mod_eq_of_lt h2], ?_⟩
          rw [numF_small _ _ h2, byte_back]
          rfl
        · rw [if_neg h2] at hg
          obtain ⟨x, hx, hp, rfl, rfl⟩ := ih (i + 1) _ r' v r (by omega) hg
          have hb := b.toNat_lt
          have hm : b.toNat % 128 = b.toNat - 128 := by omega
          have hx0 := hp (by omega)
          have e1 : (x * 128 + (b.toNat - 128)) % 128 = b.toNat - 128 := by omega
          have e2 : (x * 128 + (b.toNat - 128)) / 128 = x := by omega
          refine ⟨x * 128 + (b.toNat - 128), by rw [Nat.pow_succ]; omega, fun _ => by omega, ?_, ?_⟩
          · rw [hm, pow7, Nat.add_mul, Nat.mul_assoc, Nat.add_assoc, Nat.add_comm ((b.toNat - 128) * 2 ^ (7 * i))]
          · rw [numF_great _ _ (by omega), e1, e2, show b.toNat - 128 + 128 = b.toNat by omega, byte_back]
            rfl
set_option maxRecDepth 100000 in
theorem get_canon {l : List UInt8} (h : getK l ≠ 0) : l = numL (getV l) ++ l.drop (getK l) ∧ getK l = (numL (getV l)).length ∧ getV l < 18446744073709551616 ∧ getN 0 0 l = some (getV l, l.drop (getK l)) := by
  cases hg : getN 0 0 l with
  | none => exact absurd (by unfold getK; rw [hg]) h
  | some vr =>
    obtain ⟨v, r⟩ := vr
    obtain ⟨x, hx, _, hv, hl⟩ := getN_shape 9 0 0 l v r rfl hg
    have hv' : v = x := by simpa using hv
    subst hv'
    have h1 : getV l = v := by unfold getV; rw [hg]
    have h2 : getK l = (numL v).length := by unfold getK; rw [hg]; show l.length - r.length = _; rw [hl, List.length_append]; unfold numL; omega
    have h3 : l.drop (getK l) = r := by rw [h2, hl]; exact List.drop_left
    rw [h3, h1]
    exact ⟨hl, h2, hx, rfl⟩
set_option maxRecDepth 100000 in
theorem getK_zero {l : List UInt8} (h : getK l = 0) : getV l = 0 := by
  cases hg : getN 0 0 l with
  | none => unfold getV; rw [hg]
  | some vr =>
    obtain ⟨v, r⟩ := vr
    obtain ⟨x, _, _, _, hl⟩ := getN_shape 9 0 0 l v r rfl hg
    have h2 : getK l = (numF 9 x).length := by unfold getK; rw [hg]; show l.length - r.length = _; rw [hl, List.length_append]; omega
    have := (numF_length 9 x).1
    omega
set_option maxRecDepth 100000 in
theorem getK_le (l : List UInt8) : getK l ≤ l.length := by
  unfold getK
  cases getN 0 0 l with
  | none => exact Nat.zero_le _
  | some vr => exact Nat.sub_le _ _
set_option maxRecDepth 100000 in
theorem getV_lt (l : List UInt8) : getV l < 18446744073709551616 := by
  by_cases h : getK l = 0
  · rw [getK_zero h]; decide
  · exact (get_canon h).2.2.1
/-- Are bytes a filter? -/
def okF (B : List UInt8) : Bool := decide (1 ≤ getV B ∧ getV B ≤ 16 ∧ 1 ≤ getV (B.drop (getK B)) ∧ getV (B.drop (getK B)) ≤ 400000 ∧ B.length - (getK B + getK (B.drop (getK B))) = getV (B.drop (getK B)))
set_option maxRecDepth 100000 in
theorem okF_enc {B : List UInt8} {k p q : Nat} {l : List UInt8} (hp : getK B = p) (hk : getV B = k) (hp0 : p ≠ 0) (hq : getK (B.drop p) = q) (hq0 : q ≠ 0) (hl : B.drop (p + q) = l) (hn : getV (B.drop p) = l.length) : B = numL k ++ numL l.length ++ l := by
  have h1 := get_canon (l := B) (by omega)
  have h2 := get_canon (l := B.drop p) (by omega)
  rw [hp, hk] at h1
  rw [hq, hn, List.drop_drop, hl] at h2
  rw [List.append_assoc, ← h2.1]
  exact h1.1
end Go.Proofs.YtlamncldbnagmaaGreatDoor
namespace Go.Proofs.YtlamncldbnagmaaGreatDoor
open Go.RowKit

/-- A manifest, without its memory. -/
structure Mf where
  ts : List Int
  nx : Int
  fr : Int
def possZ (n : Int) : Bool := decide (1 ≤ n) && decide (n ≤ 999999999)
theorem possZ_iff {n : Int} : possZ n = true ↔ 1 ≤ n ∧ n ≤ 999999999 := by simp [possZ]
/-- May the i-th table be? -/
def okT (ts : List Int) (nx : Int) (i : Nat) : Bool := decide (1 ≤ ts.getD i 0) && decide (ts.getD i 0 < nx) && !((ts.take i).contains (ts.getD i 0))
/-- P13.1. -/
def goodM (m : Mf) : Bool := possZ m.nx && possZ m.fr && decide (m.ts.length ≤ 30) && (List.range m.ts.length).all (okT m.ts m.nx)
theorem goodM_iff {m : Mf} : goodM m = true ↔ (1 ≤ m.nx ∧ m.nx ≤ 999999999) ∧ (1 ≤ m.fr ∧ m.fr ≤ 999999999) ∧ m.ts.length ≤ 30 ∧ ∀ i, i < m.ts.length → okT m.ts m.nx i = true := by
  unfold goodM
  rw [Bool.and_eq_true, Bool.and_eq_true, Bool.and_eq_true, possZ_iff, possZ_iff, decide_eq_true_eq, List.all_eq_true]
  simp only [List.mem_range, and_assoc]
def listM (m : Mf) : List Int := m.nx :: m.fr :: (m.ts.length : Int) :: m.ts
def numsB (l : List Int) : List UInt8 := l.flatMap fun n => numL n.toNat
def contM (m : Mf) : List UInt8 := numsB (listM m)
/-- P13.2, a manifest in bytes. -/
def encM (m : Mf) : List UInt8 := frameL (contM m)
def Bdd (l : List Int) : Prop := ∀ n ∈ l, 0 ≤ n ∧ n ≤ 999999999
theorem Bdd.cons {n : Int} {l : List Int} (h : Bdd (n :: l)) : (0 ≤ n ∧ n ≤ 999999999) ∧ Bdd l := ⟨h n (by simp), fun x hx => h x (List.mem_cons_of_mem _ hx)⟩
theorem good_bdd {m : Mf} (h : goodM m = true) : Bdd (listM m) := by
  obtain ⟨h1, h2, h3, h4⟩ := goodM_iff.1 h
  intro n hn
  simp only [listM, List.mem_cons] at hn
  rcases hn with rfl | rfl | rfl | hn
  · omega
  · omega
  · omega
  · obtain ⟨i, hi, rfl⟩ := List.getElem_of_mem hn
    have := h4 i hi
    unfold okT at this
    rw [Bool.and_eq_true, Bool.and_eq_true, decide_eq_true_eq, decide_eq_true_eq, List.getD_eq_getElem?_getD, List.getElem?_eq_getElem hi] at this
    simp only [Option.getD_some] at this
    omega
theorem numsB_nil : numsB [] = [] := rfl
theorem numsB_cons (n : Int) (l : List Int) : numsB (n :: l) = numL n.toNat ++ numsB l := rfl
theorem numsB_app (a b : List Int) : numsB (a ++ b) = numsB a ++ numsB b := List.flatMap_append
theorem numsB_len (l : List Int) : (numsB l).length ≤ 10 * l.length := by
  induction l with
  | nil => simp [numsB]
  | cons n l ih =>
    have := numL_length n.toNat
    rw [numsB_cons, List.length_append, List.length_cons]; omega
theorem contM_len (m : Mf) : (contM m).length ≤ 10 * (m.ts.length + 3) := by
  have := numsB_len (listM m)
  simp only [listM, List.length_cons] at this
  unfold contM listM; omega
theorem good_len {m : Mf} (h : goodM m = true) : (contM m).length ≤ 330 := by
  obtain ⟨h1, h2, h3, h4⟩ := goodM_iff.1 h
  have := contM_len m
  omega
theorem encM_len (m : Mf) : (encM m).length = (contM m).length + 8 := frameL_length _
theorem numsB_ne {n : Int} {l : List Int} : numsB (n :: l) ≠ [] := fun e => by
  have := numL_length n.toNat
  rw [numsB_cons] at e
  have h2 := congrArg List.length e
  rw [List.length_append] at h2
  simp only [List.length_nil] at h2
  omega
theorem numsB_get {n : Int} (h : 0 ≤ n ∧ n ≤ 999999999) (r : List UInt8) : getN 0 0 (numL n.toNat ++ r) = some (n.toNat, r) := get_back n.toNat (by omega) r
/-- Numbers' bytes begin with the same numbers. -/
theorem numsB_pre : ∀ (l l' : List Int) (r : List UInt8), Bdd l → Bdd l' → numsB l ++ r = numsB l' → ∃ l'', l' = l ++ l'' ∧ r = numsB l''
  | [], l', r, _, _, h => ⟨l', rfl, h⟩
  | n :: l, [], r, _, _, h => by
    exfalso
    have h2 : numsB (n :: l) = [] := (List.append_eq_nil_iff.1 (by rw [numsB_nil] at h; exact h)).1
    exact numsB_ne h2
  | n :: l, n' :: l', r, hl, hl', h => by
    obtain ⟨hn, hl⟩ := hl.cons
    obtain ⟨hn', hl'⟩ := hl'.cons
    rw [numsB_cons, numsB_cons, List.append_assoc] at h
    have e1 := numsB_get hn (numsB l ++ r)
    rw [h, numsB_get hn'] at e1
    simp only [Option.some.injEq, Prod.mk.injEq] at e1
    obtain ⟨e1, e2⟩ := e1
    obtain ⟨l'', e3, e4⟩ := numsB_pre l l' r hl hl' e2.symm
    exact ⟨l'', by rw [e3, show n' = n by omega]; rfl, e4⟩
theorem numsB_inj {l l' : List Int} (hl : Bdd l) (hl' : Bdd l') (h : numsB l = numsB l') : l = l' := by
  obtain ⟨l'', e1, e2⟩ := numsB_pre l l' [] hl hl' (by rw [List.append_nil]; exact h)
  cases l'' with
  | nil => rw [e1, List.append_nil]
  | cons n t => exact absurd e2.symm numsB_ne
/-- What does not go on with a number ends no numbers' bytes. -/
theorem numsB_stop {l l' : List Int} {r : List UInt8} (hl : Bdd l) (hl' : Bdd l') (h : numsB l ++ r = numsB l') (hr : r ≠ []) : getK r ≠ 0 ∧ getV r ≤ 999999999 := by
  obtain ⟨l'', rfl, e2⟩ := numsB_pre l l' r hl hl' h
  cases l'' with
  | nil => exact absurd e2 hr
  | cons n t =>
    have hn : 0 ≤ n ∧ n ≤ 999999999 := hl' n (by simp)
    have hg := numsB_get hn (numsB t)
    rw [numsB_cons] at e2
    have := numL_length n.toNat
    rw [e2]
    unfold getK getV
    rw [hg]
    dsimp only
    rw [List.length_append]
    omega

/-! ### the program's reading -/
def tkV (c : List UInt8) : Nat := min (getV c) 1000000000
def tkR (c : List UInt8) : List UInt8 := c.drop (getK c)
def tks : Nat → List UInt8 → List Int
  | 0, _ => []
  | k + 1, c => (tkV c : Int) :: tks k (tkR c)
def tkRs : Nat → List UInt8 → List UInt8
  | 0, c => c
  | k + 1, c => tkRs k (tkR c)
theorem tks_len (k : Nat) : ∀ c, (tks k c).length = k := by
  induction k with
  | zero => intro c; rfl
  | succ k ih => intro c; simp [tks, ih]
theorem tks_snoc (k : Nat) : ∀ c, tks (k + 1) c = tks k c ++ [(tkV (tkRs k c) : Int)] ∧ tkRs (k + 1) c = tkR (tkRs k c) := by
  induction k with
  | zero => intro c; exact ⟨rfl, rfl⟩
  | succ k ih =>
    intro c
    have := ih (tkR c)
    refine ⟨?_, this.2⟩
    show (tkV c : Int) :: tks (k + 1) (tkR c) = _
    rw [this.1]; rfl
theorem tkR_len (c : List UInt8) : (tkR c).length ≤ c.length := by unfold tkR; rw [List.length_drop]; omega
theorem tkRs_len (k : Nat) : ∀ c, (tkRs k c).length ≤ c.length := by
  induction k with
  | zero => intro c; exact Nat.le_refl _
  | succ k ih => intro c; have := ih (tkR c); have := tkR_len c; show (tkRs k (tkR c)).length ≤ _; omega
def numM (c : List UInt8) : Mf := ⟨tks (min (tkV (tkR (tkR c))) 31) (tkR (tkR (tkR c))), (tkV c : Int), (tkV (tkR c) : Int)⟩
theorem tk_num {n : Int} (h : 0 ≤ n ∧ n ≤ 999999999) (r : List UInt8) : (tkV (numL n.toNat ++ r) : Int) = n ∧ tkR (numL n.toNat ++ r) = r := by
  have hg := numsB_get h r
  have h1 : getV (numL n.toNat ++ r) = n.toNat := by unfold getV; rw [hg]
  have h2 : getK (numL n.toNat ++ r) = (numL n.toNat).length := by unfold getK; rw [hg]; dsimp only; rw [List.length_append]; omega
  unfold tkV tkR
  rw [h1, h2, List.drop_left]
  refine ⟨by omega, rfl⟩
theorem tks_nums : ∀ (l : List Int) (r : List UInt8), Bdd l → tks l.length (numsB l ++ r) = l
  | [], _, _ => rfl
  | n :: l, r, h => by
    obtain ⟨hn, hl⟩ := h.cons
    rw [numsB_cons, List.append_assoc]
    obtain ⟨e1, e2⟩ := tk_num hn (numsB l ++ r)
    show (tkV _ : Int) :: tks l.length (tkR _) = _
    rw [e1, e2, tks_nums l r hl]
theorem numM_cont {m : Mf} (h : goodM m = true) : numM (contM m) = m := by
  have hb := good_bdd h
  obtain ⟨h1, h2, h3, h4⟩ := goodM_iff.1 h
  obtain ⟨ts, nx, fr⟩ := m
  dsimp only at h1 h2 h3
  obtain ⟨b1, hb⟩ := hb.cons
  obtain ⟨b2, hb⟩ := hb.cons
  obtain ⟨b3, hb⟩ := hb.cons
  have e : contM ⟨ts, nx, fr⟩ = numL nx.toNat ++ (numL fr.toNat ++ (numL (ts.length : Int).toNat ++ (numsB ts ++ []))) := by rw [List.append_nil]; rfl
  unfold numM
  rw [e, (tk_num b1 _).2, (tk_num b2 _).2, (tk_num b3 _).2, (tk_num b1 _).1, (tk_num b2 _).1]
  have h5 := (tk_num b3 (numsB ts ++ [])).1
  have h6 : min (tkV (numL (ts.length : Int).toNat ++ (numsB ts ++ []))) 31 = ts.length := by dsimp only at h5; omega
  rw [h6, tks_nums ts [] hb]
/-- P13.2, the manifest that bytes tell. -/
def rdM (b : List UInt8) : Option Mf := if unfE b = 0 ∧ goodM (numM (unfB b)) = true ∧ encM (numM (unfB b)) = b then some (numM (unfB b)) else none
theorem rdM_iff {b : List UInt8} {m : Mf} : rdM b = some m ↔ goodM m = true ∧ encM m = b := by
  constructor
  · intro h
    unfold rdM at h
    split at h
    · rename_i hc
      cases h
      exact ⟨hc.2.1, hc.2.2⟩
    · cases h
  · rintro ⟨hg, rfl⟩
    have hl := good_len hg
    obtain ⟨t1, t2, t3⟩ := tells_whole (contM m) (by omega) []
    rw [List.append_nil] at t1 t2 t3
    have e : unfB (encM m) = contM m := t3
    unfold rdM
    rw [e, numM_cont hg, if_pos ⟨t1, hg, rfl⟩]
theorem rdM_none {b : List UInt8} (h : ∀ m, goodM m = true → encM m ≠ b) : rdM b = none := by
  cases hr : rdM b with
  | none => rfl
  | some m =>
    obtain ⟨h1, h2⟩ := rdM_iff.1 hr
    exact absurd h2 (h m h1)
theorem rdM_enc {m : Mf} (h : goodM m = true) : rdM (encM m) = some m := rdM_iff.2 ⟨h, rfl⟩
theorem rdM_bad {b : List UInt8} (h : unfE b ≠ 0) : rdM b = none := by unfold rdM; rw [if_neg fun hh => h hh.1]
theorem rdM_more {b : List UInt8} (h : unfN b ≠ b.length) : rdM b = none := rdM_none fun m hg e => by
  subst e
  obtain ⟨t1, t2, t3⟩ := tells_whole (contM m) (by have := good_len hg; omega) []
  rw [List.append_nil] at t2
  exact h (by rw [encM_len]; exact t2)
theorem fourL_word {q : List UInt8} (hq : q.length = 4) : fourL (wordL q) = q := by
  match q, hq with
  | [a, b, c, d], _ =>
    have h := wordL_four (wordL [a, b, c, d]) (wordL_lt _ (by simp))
    obtain ⟨h1, h2, h3, h4⟩ := wordL_inj (show wordL [_, _, _, _] = wordL [a, b, c, d] from h)
    unfold fourL
    rw [h1, h2, h3, h4]
/-- Bytes that are one whole frame are the frame of what they hold. -/
theorem frame_back {b : List UInt8} (h : unfE b = 0) (hn : unfN b = b.length) : frameL (unfB b) = b ∧ (unfB b).length ≤ 262144 := by
  have hN : 8 + unfC b = b.length := by unfold unfN at hn; rw [if_pos h] at hn; exact hn
  have hB : unfB b = b.drop 8 := by unfold unfB; rw [if_pos h, List.take_of_length_le (by rw [List.length_drop]; omega)]
  have hl : (unfB b).length = unfC b := by rw [hB, List.length_drop]; omega
  unfold unfE at h
  split at h
  · cases h
  split at h
  · cases h
  split at h
  · cases h
  split at h
  · cases h
  rename_i h8 hbig _ hs
  have hs' : (wordL ((b.drop 4).take 4) : Int) = sumZ (b.take 4 ++ (b.drop 8).take (unfC b)) := Classical.not_not.1 hs
  have e4 : fourL (unfC b) = b.take 4 := fourL_word (by rw [List.length_take]; omega)
  have e8 : fourL (wordL ((b.drop 4).take 4)) = (b.drop 4).take 4 := fourL_word (by rw [List.length_take, List.length_drop]; omega)
  rw [List.take_of_length_le (l := b.drop 8) (by rw [List.length_drop]; omega)] at hs'
  refine ⟨?_, by omega⟩
  unfold frameL
  rw [hl, e4, hB, ← hs', Int.toNat_natCast, e8]
  have h1 : (b.drop 4).take 4 ++ b.drop 8 = b.drop 4 := by
    have := List.take_append_drop 4 (b.drop 4)
    rw [List.drop_drop] at this
    exact this
  rw [h1, List.take_append_drop]
end Go.Proofs.YtlamncldbnagmaaGreatDoor
namespace Go.Proofs.YtlamncldbnagmaaGreatDoor
open Go.RowKit

theorem getN_canon {l : List UInt8} {v : Nat} {r : List UInt8} (h : getN 0 0 l = some (v, r)) : l = numL v ++ r ∧ v < 18446744073709551616 := by
  obtain ⟨x, hx, _, hv, hl⟩ := getN_shape 9 0 0 l v r rfl h
  have hv' : v = x := by simpa using hv
  subst hv'
  exact ⟨hl, hx⟩
theorem zig_zagN {u : Nat} (h : u < 18446744073709551616) : zigN (zagZ (u : Int)) = u := by
  unfold zigN
  rw [zig_zag (u : Int) (by omega)]
  omega
theorem kind_canon {u : Nat} (h : u < 18446744073709551616) : kindN (kindZ u) = u := by
  unfold kindN kindZ
  split <;> omega
theorem signN_canon {l r : List UInt8} {n : Int} (h : signN l = some (n, r)) : l = numL (zigN n) ++ r := by
  unfold signN at h
  split at h
  · cases h
  · rename_i v r' hg
    simp only [Option.some.injEq, Prod.mk.injEq] at h
    obtain ⟨rfl, rfl⟩ := h
    have := getN_canon hg
    rw [zig_zagN this.2]
    exact this.1
theorem strL_bytesOf (l : List UInt8) : strL (bytesOf l) = l := by simp [strL, bytesOf]
theorem textN_canon {l s r : List UInt8} (h : textN l = some (s, r)) : l = txtL s ++ r := by
  obtain ⟨v, r1, hg, hv, rfl, rfl⟩ := textN_some h
  have := (getN_canon hg).1
  unfold txtL
  rw [List.length_take, Nat.min_eq_left hv, List.append_assoc, List.take_append_drop]
  exact this
theorem keyN_canon {l r : List UInt8} {k : KeyV} (h : keyN l = some (k, r)) : l = keyL k ++ r := by
  unfold keyN at h
  split at h
  · cases h
  · rename_i t r1 h1
    split at h
    · cases h
    · rename_i p r2 h2
      split at h
      · cases h
      · rename_i n r3 h3
        split at h
        · cases h
        · rename_i c r4 h4
          simp only [Option.some.injEq, Prod.mk.injEq] at h
          obtain ⟨rfl, rfl⟩ := h
          unfold keyL
          simp only [strL_bytesOf, List.append_assoc]
          rw [← textN_canon h4, ← signN_canon h3, ← textN_canon h2, ← textN_canon h1]
theorem valN_canon {l r : List UInt8} {k : ValV} (h : valN l = some (k, r)) : l = valL k ++ r := by
  unfold valN at h
  split at h
  · cases h
  · rename_i k1 r1 h1
    split at h
    · cases h
    · rename_i n r2 h2
      split at h
      · cases h
      · rename_i s r3 h3
        simp only [Option.some.injEq, Prod.mk.injEq] at h
        obtain ⟨rfl, rfl⟩ := h
        have hk := getN_canon h1
        unfold valL
        simp only [strL_bytesOf, List.append_assoc, kind_canon hk.2]
        rw [← textN_canon h3, ← signN_canon h2, ← hk.1]
theorem verN_canon {l r : List UInt8} {k : VerV} (h : verN l = some (k, r)) : l = verL k ++ r := by
  unfold verN at h
  split at h
  · cases h
  · rename_i t r1 h1
    split at h
    · cases h
    · rename_i m r2
      split at h
      · rename_i hm
        split at h
        · cases h
        · rename_i v r3 h3
          simp only [Option.some.injEq, Prod.mk.injEq] at h
          obtain ⟨rfl, rfl⟩ := h
          unfold verL
          simp only [Bool.false_eq_true, if_false, List.append_assoc, List.cons_append]
          rw [← valN_canon h3, ← hm, ← signN_canon h1]
      · split at h
        · rename_i hm
          split at h
          · cases h
          · rename_i n r3 h3
            simp only [Option.some.injEq, Prod.mk.injEq] at h
            obtain ⟨rfl, rfl⟩ := h
            unfold verL
            simp only [if_true, List.append_assoc, List.cons_append]
            rw [← signN_canon h3, ← hm, ← signN_canon h1]
        · cases h
theorem cellN_canon {l r : List UInt8} {c : CellV} (h : cellN l = some (c, r)) : l = cellL c ++ r := by
  unfold cellN at h
  split at h
  · cases h
  · rename_i k r1 h1
    split at h
    · cases h
    · rename_i v r2 h2
      simp only [Option.some.injEq, Prod.mk.injEq] at h
      obtain ⟨rfl, rfl⟩ := h
      unfold cellL
      rw [List.append_assoc, ← verN_canon h2, ← keyN_canon h1]
theorem manyN_canon : ∀ (n : Nat) {l r : List UInt8} {cs : List CellV}, manyN n l = some (cs, r) → l = manyL cs ++ r ∧ cs.length = n
  | 0, l, r, cs, h => by
    simp only [manyN, Option.some.injEq, Prod.mk.injEq] at h
    obtain ⟨rfl, rfl⟩ := h
    exact ⟨by simp [manyL], rfl⟩
  | n + 1, l, r, cs, h => by
    simp only [manyN] at h
    split at h
    · cases h
    · rename_i c r1 h1
      split at h
      · cases h
      · rename_i cs' r2 h2
        simp only [Option.some.injEq, Prod.mk.injEq] at h
        obtain ⟨rfl, rfl⟩ := h
        have ih := manyN_canon n h2
        refine ⟨?_, by rw [List.length_cons, ih.2]⟩
        have e : manyL (c :: cs') = cellL c ++ manyL cs' := by unfold manyL; simp
        rw [e, List.append_assoc, ← ih.1, ← cellN_canon h1]
theorem cellsN_canon {l : List UInt8} {cs : List CellV} (h : cellsN l = some cs) : cellsL cs = l := by
  unfold cellsN at h
  split at h
  · cases h
  · rename_i n r hg
    split at h
    · rename_i cs' hm
      simp only [Option.some.injEq] at h
      subst h
      have h1 := getN_canon hg
      have h2 := manyN_canon n hm
      unfold cellsL
      rw [h2.2, h1.1]
      congr 1
      rw [h2.1, List.append_nil]
    · cases h
theorem toC_ofC (c : CellV) : toC (ofC c) = c := rfl
theorem take_frame {b : List UInt8} (h : unfE b = 0) : unfE (b.take (unfN b)) = 0 ∧ unfN (b.take (unfN b)) = (b.take (unfN b)).length ∧ unfB (b.take (unfN b)) = unfB b := by
  obtain ⟨hn, hle, hl⟩ := unfN_of h
  obtain ⟨n, hnn⟩ : ∃ n, n = unfN b := ⟨_, rfl⟩
  rw [← hnn] at hn hle ⊢
  have hln : (b.take n).length = n := by rw [List.length_take]; omega
  have hC : unfC (b.take n) = unfC b := by unfold unfC; rw [List.take_take, Nat.min_eq_left (by omega)]
  have h48 : ((b.take n).drop 4).take 4 = (b.drop 4).take 4 := by rw [List.drop_take, List.take_take, Nat.min_eq_left (by omega)]
  have h8 : ((b.take n).drop 8).take (unfC b) = (b.drop 8).take (unfC b) := by rw [List.drop_take, List.take_take, Nat.min_eq_left (by omega)]
  have h4 : (b.take n).take 4 = b.take 4 := by rw [List.take_take, Nat.min_eq_left (by omega)]
  have hE : unfE (b.take n) = 0 := by
    unfold unfE at h ⊢
    rw [hC, hln, h48, h4, h8]
    split at h
    · cases h
    split at h
    · cases h
    split at h
    · cases h
    rename_i c1 c2 c3
    rw [if_neg (by omega), if_neg c2, if_neg (by omega)]
    exact h
  refine ⟨hE, ?_, ?_⟩
  · unfold unfN; rw [if_pos hE, hC, hln, hn]
  · unfold unfB; rw [if_pos hE, if_pos h, hC, h8]
/-- What is read as a record stands as it is written. -/
theorem fst_canon {b : List UInt8} (h : (fstW b).2 ≠ 0) : recL (fstW b).1 = b.take (fstW b).2 ∧ (recL (fstW b).1).length = (fstW b).2 := by
  by_cases hc : unfE b = 0 ∧ redE (unfB b) = 0 ∧ recB ((redC (unfB b)).map ofC) = true
  · rw [fstW_yes hc]
    obtain ⟨h1, h2, h3⟩ := hc
    have hn := unfN_of h1
    obtain ⟨cs, hcs⟩ : ∃ cs, cellsN (unfB b) = some cs := by
      unfold redE at h2
      split at h2
      · rename_i cs h; exact ⟨cs, h⟩
      · exact absurd h2 (by decide)
    have hr : redC (unfB b) = cs := by unfold redC; rw [hcs]; rfl
    have hm : (cs.map ofC).map toC = cs := by rw [List.map_map, show (toC ∘ ofC) = id from funext fun c => toC_ofC c, List.map_id]
    have hb : (b.take (unfN b)).length = unfN b := by rw [List.length_take]; omega
    have hE : unfE (b.take (unfN b)) = 0 ∧ unfN (b.take (unfN b)) = (b.take (unfN b)).length ∧ unfB (b.take (unfN b)) = unfB b := take_frame h1
    have hf := (frame_back hE.1 hE.2.1).1
    have e : recL ((redC (unfB b)).map ofC) = b.take (unfN b) := by
      unfold recL
      rw [hr, hm, cellsN_canon hcs, ← hE.2.2]
      exact hf
    exact ⟨e, by rw [e]; exact hb⟩
  · rw [fstW_no hc] at h; exact absurd rfl h
theorem toldW_ex : ∀ (k : Nat) (b : List UInt8), b.length ≤ k → ∃ rs n, ToldW b rs n
  | 0, b, h => ⟨[], 0, toldW_nil (by have := fstW_le b; omega)⟩
  | k + 1, b, h => by
    by_cases h0 : (fstW b).2 = 0
    · exact ⟨[], 0, toldW_nil h0⟩
    · have h1 := (fstW_pos h0).1
      obtain ⟨rs, n, ht⟩ := toldW_ex k (b.drop (fstW b).2) (by rw [List.length_drop]; omega)
      exact ⟨_, _, toldW_cons h0 ht⟩
end Go.Proofs.YtlamncldbnagmaaGreatDoor
namespace Go.Proofs.YtlamncldbnagmaaGreatDoor
open Go.RowKit

/-- What the document's Scan has gathered. -/
structure RsP (w : World) (L : List UInt8) (xs : List Yl) (v : Value) (W : World) : Prop where
  came : Came L xs
  row : W.ownsRow w.heap.size 22 1 v xs.length (xs.map Yl.v)
  ins : ∀ x ∈ xs, YIn w.heap.size x W
  low : Below w.heap.size w W
theorem RsP.below {w : World} {L : List UInt8} {xs : List Yl} {v : Value} {W W' : World} (h : RsP w L xs v W) (hb : Below W.heap.size W W') : RsP w L xs v W' :=
  ⟨h.came, owBelow h.row hb, fun x hx => ⟨owBelow (h.ins x hx).1 hb, (h.ins x hx).2⟩, h.low.trans (hb.mono h.low.size)⟩
theorem rs_more {w W w8 : World} {L : List UInt8} {xs : List Yl} {v v8 : Value} {x : Yl} (h : RsP w L xs v W) (hx : YIn w.heap.size x W) (h0 : (fstW (L.drop (endW L xs.length))).2 ≠ 0) (hr : x.r = recW L xs.length) (he : x.e = endW L (xs.length + 1))
    (ho8 : w8.ownsRow w.heap.size 22 1 v8 (xs.length + 1) (xs.map Yl.v ++ [x.v])) (hg8 : Grew (W.alloc (.cells #[x.v] 22)) w8 v v8) : RsP w L (xs ++ [x]) v8 w8 := by
  have hal : ∀ {e : TypeId} {k n : Nat} {u : Value} {ys : List Value}, e ≠ 22 → W.ownsRow w.heap.size e k u n ys → w8.ownsRow w.heap.size e k u n ys := fun hne ho =>
    owns_cells ho fun g cs fr hh => rw_grown (owns_cells h.row fun g cs fr => rw_alloc _) hg8.rows hne (rw_alloc _ hh)
  have hlow : Below w.heap.size w (W.alloc (.cells #[x.v] 22)) := h.low.alloc h.low.size _
  refine ⟨h.came.snoc x h0 hr he, ?_, fun y hy => ?_, hlow.trans (hg8.below hlow.size fun g hg => (h.row.lt g hg).1)⟩
  · rw [List.length_append, List.length_singleton, List.map_append]; exact ho8
  · rcases List.mem_append.1 hy with hy | hy
    · exact ⟨hal (by decide) (h.ins y hy).1, (h.ins y hy).2⟩
    · rw [List.mem_singleton] at hy
      rw [hy]
      exact ⟨hal (by decide) hx.1, hx.2⟩
theorem src_oneS (w : World) (v : Value) (hv : v.oneCell' = true) : Src Tryz.prog 1 33 (.slice (some ⟨w.heap.size, 0, none⟩) 1 1) 1 [v] (w.alloc (.cells #[v] 22)) := by
  refine Src.ofSlice _ Tryz.underlying33 _ 1 1 _ rfl (fun j u hj => ?_) (fun u hu => by rw [List.mem_singleton] at hu; rw [hu]; exact hv)
  have hg : (w.alloc (.cells #[v] 22)).heap[w.heap.size]? = some (.cells #[v] 22) := heap_alloc_new w _
  rw [Addr.add_lit, Nat.zero_add]
  simp only [World.cell?, hg]
  cases j with
  | zero => exact hj
  | succ j => simp at hj
set_option maxRecDepth 100000 in
set_option maxHeartbeats 2000000 in
theorem refScan_nil (ao : Option Addr) (cap : Nat) (w : World) (hcm : cap ≤ 9223372036854775807) :
    Calls Tryz.prog 11 #[.slice ao 0 cap] w fun e w' => e = .returned (.tuple #[.slice none 0 0, .int .i64 0]) ∧ Below w.heap.size w w' := by
  have CU : Hid (∀ (u : World) a' c', Calls Tryz.prog 37 #[.slice a' 0 c'] u fun e w' => ∃ v', e = .returned (.tuple #[v', .int .i64 0, .int .i64 10]) ∧ Below u.heap.size u w') := fun u a' c' =>
    (refUnframe_any a' [] c' u (Sees.nil _ _) (by simp) (by simp)).mono fun e w' ⟨v', h1, _, h3⟩ => ⟨v', h1, h3⟩
  go_enter Tryz.func11, Tryz.ntmps11
  go_wp2_with fail
  go_loopw [4, 5] (fun s4 s5 wr => s4 = .slice none 0 0 ∧ s5 = .int .i64 0 ∧ wr = w) (fun _ _ _ => 0)
  case atStart => exact ⟨rfl, rfl, rfl⟩
  case round =>
    obtain ⟨rfl, rfl, rfl⟩ := hrel
    by_cases hc : cap = 0
    · subst hc
      go_wp2_with fail
      go_fit (CU.out _ _ _)
      rintro e w1 ⟨v1, rfl, hB1⟩
      go_wp2_with fail
      go_ret2
      exact ⟨rfl, hB1⟩
    · go_wp2_with fail
      go_fit (CU.out _ _ _)
      rintro e w1 ⟨v1, rfl, hB1⟩
      go_wp2_with fail
      go_ret2
      exact ⟨rfl, hB1⟩
end Go.Proofs.YtlamncldbnagmaaGreatDoor
namespace Go.Proofs.YtlamncldbnagmaaGreatDoor
open Go.RowKit

theorem conv_seesK {w : World} {ao : Option Addr} {l : List UInt8} (h : Sees w ao l) (hn : ao = none → l.length = 0) (cap : Nat) :
    (convert 23 9 (.slice ao l.length cap)).run Tryz.prog w = .ok (.string ⟨l.toArray⟩) w := by
  cases ao with
  | none =>
    obtain rfl : l = [] := List.eq_nil_of_length_eq_zero (hn rfl)
    rw [run_convert_bytes_string w 23 9 5 none _ cap Tryz.underlying23 Tryz.underlying5 Tryz.underlying9]
    rfl
  | some a =>
    refine run_convert_bytes_back w 23 9 5 a cap l Tryz.underlying23 Tryz.underlying5 Tryz.underlying9 fun j hj => ?_
    obtain ⟨a', e, hc⟩ := h j hj
    obtain rfl := Option.some.inj e
    rw [hc]; simp [List.getD, hj]
set_option maxHeartbeats 400000 in
theorem same_anyK (ao bo : Option Addr) (la lb : List UInt8) (ca cb : Nat) (w : World) (ha : Sees w ao la) (hb : Sees w bo lb) (hna : ao = none → la.length = 0) (hnb : bo = none → lb.length = 0) :
    Calls Tryz.prog 14 #[.slice ao la.length ca, .slice bo lb.length cb] w fun e w' => e = .returned (.bool (la == lb)) ∧ w' = w := by
  have c1 := conv_seesK ha hna ca
  have c2 := conv_seesK hb hnb cb
  go_enter Tryz.func14, Tryz.ntmps14
  go_wp2
  go_ret
  exact ⟨rfl, rfl⟩

def kA : Kb := ⟨⟨#[116]⟩, ⟨#[97]⟩, 1, ⟨#[120]⟩⟩
def kB : Kb := ⟨⟨#[116]⟩, ⟨#[97]⟩, 2, ⟨#[98]⟩⟩
def kP : Kb := ⟨⟨#[116]⟩, ⟨#[97, 47, 98]⟩, -3, ⟨#[120]⟩⟩
def kT : Kb := ⟨⟨#[116]⟩, ⟨#[97]⟩, 0, ⟨#[]⟩⟩
theorem kA_cmp : kc kA.ky kB.ky = -1 := by decide
theorem kA_good : goodK kA.ky = true := by decide
theorem kP_print : strB (prK kP.ky) = ⟨#[116, 47, 97, 37, 50, 102, 98, 47, 45, 51, 47, 120]⟩ := by
  have e : Lib.itoa (-3) = [45, 51] := by
    unfold Lib.itoa; rw [if_pos (by decide)]
    rw [dec_small (by decide)]; rfl
  have : prK kP.ky = [116, 47, 97, 37, 50, 102, 98, 47, 45, 51, 47, 120] := by
    show msk [116] ++ (47 :: (msk [97, 47, 98] ++ (47 :: (Lib.itoa (-3) ++ (47 :: msk [120]))))) = _
    rw [e]; decide
  rw [this]; rfl
def bT : List UInt8 := [116, 0, 0, 97, 0, 0, 128, 0, 0, 0, 0, 0, 0, 0, 0, 0]
theorem kT_bytes : encK kT.ky = bT := by decide
theorem ok_small (k : Kb) (h1 : k.t.size ≤ 5000) (h2 : k.p.size ≤ 5000) (h3 : k.c.size ≤ 5000) (h : InI k.r) : k.Ok := ⟨h1, h2, h3, h⟩

end Go.Proofs.YtlamncldbnagmaaGreatDoor
namespace Go.Proofs.YtlamncldbnagmaaGreatDoor
open Go.RowKit

structure KAt (w : World) (g : Nat) (k : Kb) : Prop where
  t : w.cell? ⟨g, 0, none⟩ = some (.string k.t)
  p : w.cell? ⟨g, 1, none⟩ = some (.string k.p)
  r : w.cell? ⟨g, 2, none⟩ = some (.int .i64 k.r)
  c : w.cell? ⟨g, 3, none⟩ = some (.string k.c)
theorem KAt.below {w w' : World} {g : Nat} {k : Kb} (h : KAt w g k) {B : Nat} (hb : Below B w w') (hg : g < B) : KAt w' g k :=
  ⟨by rw [hb.cell hg, h.t], by rw [hb.cell hg, h.p], by rw [hb.cell hg, h.r], by rw [hb.cell hg, h.c]⟩
theorem KAt.of {w : World} {g : Nat} {k : Kb} {ty : TypeId} {z : Nat × Nat} (h : w.heap[g]? = some (.cells #[.string k.t, .string k.p, .int .i64 k.r, .string k.c] ty z)) : KAt w g k :=
  ⟨by simp [World.cell?, h], by simp [World.cell?, h], by simp [World.cell?, h], by simp [World.cell?, h]⟩
theorem KAt.lt {w : World} {g : Nat} {k : Kb} (h : KAt w g k) : g < w.heap.size := World.block_lt_of_cell? _ _ h.t
theorem KAt.new (w : World) (k : Kb) (ty : TypeId) : KAt (w.alloc (.cells #[.string k.t, .string k.p, .int .i64 k.r, .string k.c] ty)) w.heap.size k := KAt.of (heap_alloc_new w _)
theorem KAt.alloc {w : World} {g : Nat} {k : Kb} (h : KAt w g k) (o : Obj) : KAt (w.alloc o) g k := h.below ((Below.refl w.heap.size w).alloc (Nat.le_refl _) o) h.lt
theorem KAt.setOther {w : World} {g : Nat} {k : Kb} (h : KAt w g k) {a : Addr} (u : Value) (hne : g ≠ a.block) : KAt (w.setCell a u) g k := by
  have e : ∀ i, (w.setCell a u).cell? ⟨g, i, none⟩ = w.cell? ⟨g, i, none⟩ := fun i => World.cell?_of_block (Below.heap_setCell w a u g hne)
  exact ⟨by rw [e, h.t], by rw [e, h.p], by rw [e, h.r], by rw [e, h.c]⟩
/-- A key whose block is known whole, with two texts set. -/
theorem set_two {w : World} {g : Nat} {t2 p2 c2 : ByteArray} {r2 : Int} {ty : TypeId} {z : Nat × Nat} (h : w.heap[g]? = some (.cells #[.string t2, .string p2, .int .i64 r2, .string c2] ty z)) (t1 p1 : ByteArray) :
    KAt ((w.setCell ⟨g, 0, none⟩ (.string t1)).setCell ⟨g, 1, none⟩ (.string p1)) g ⟨t1, p1, r2, c2⟩ := by
  refine KAt.of (ty := ty) (z := z) ?_
  simp only [World.setCell, Array.getElem?_modify, h]
  simp
theorem set_two' {w : World} {g : Nat} {t2 p2 c2 : ByteArray} {r2 : Int} {ty : TypeId} {z : Nat × Nat} (h : w.heap[g]? = some (.cells #[.string t2, .string p2, .int .i64 r2, .string c2] ty z)) (t1 p1 : ByteArray) :
    KAt ((w.setCell ⟨g, 1, none⟩ (.string p1)).setCell ⟨g, 0, none⟩ (.string t1)) g ⟨t1, p1, r2, c2⟩ := by
  refine KAt.of (ty := ty) (z := z) ?_
  simp only [World.setCell, Array.getElem?_modify, h]
  simp
theorem frozen_of {w : World} {g : Nat} {cs : Array Value} {ty : TypeId} (h : w.heap[g]? = some (.cells cs ty)) (i : Nat) : w.frozen? ⟨g, i, none⟩ = false := by simp [World.frozen?, h]
/-- Two keys are one, as the walk spells it. -/
def eqK (a b : Kb) : Bool := a.t.toList == b.t.toList && (a.p.toList == b.p.toList && (a.r == b.r && a.c.toList == b.c.toList))
theorem eqK_iff (a b : Kb) : eqK a b = true ↔ a = b := by
  unfold eqK
  rw [ba_same, ba_same, ba_same]
  cases a; cases b
  simp only [Bool.and_eq_true, decide_eq_true_eq, beq_iff_eq, Kb.mk.injEq]
theorem eqK_kc (a b : Kb) : (kc a.ky b.ky == 0) = eqK a b := by
  rw [Bool.eq_iff_iff, beq_iff_eq, eqK_iff, kc_cmpr.z, Kb.ky_inj]
/-- How two keys compare, of their parts. -/
def kcB (t1 p1 : ByteArray) (r1 : Int) (c1 t2 p2 : ByteArray) (r2 : Int) (c2 : ByteArray) : Int := kc (Kb.ky ⟨t1, p1, r1, c1⟩) (Kb.ky ⟨t2, p2, r2, c2⟩)
theorem refCmpB_any (t1 p1 : ByteArray) (r1 : Int) (c1 t2 p2 : ByteArray) (r2 : Int) (c2 : ByteArray) (w : World) :
    Calls Tryz.prog 94 #[.agg #[.string t1, .string p1, .int .i64 r1, .string c1], .agg #[.string t2, .string p2, .int .i64 r2, .string c2]] w fun e w' => e = .returned (.int .i64 (kcB t1 p1 r1 c1 t2 p2 r2 c2)) ∧ Below w.heap.size w w' := refCmp_any ⟨t1, p1, r1, c1⟩ ⟨t2, p2, r2, c2⟩ w
end Go.Proofs.YtlamncldbnagmaaGreatDoor
namespace Go.Proofs.YtlamncldbnagmaaGreatDoor
open Go.RowKit

set_option maxRecDepth 100000 in
set_option maxHeartbeats 1000000 in
theorem weigh07_any (ao : Option Addr) (l : List Cx) (cap m : Nat) (w : World) (ha : XSees w ao l) (hm : m ≤ 500) (hl : l.length ≤ 140737488355328) (hw : ∀ c ∈ l, wtX c ≤ 562949953421312) :
    Calls Tryz.prog 6 #[.slice ao l.length cap, .int .i64 m] w fun e w' => (∃ z : Nat, e = .returned (.int .i64 z) ∧ z ≤ 1000000000000000 ∧ (z ≤ m → l.length ≤ m ∧ wtXs l ≤ 20 * m)) ∧ Below w.heap.size w w' := by
  go_enter Tryz.func6, Tryz.ntmps6
  go_wp2
  go_loopw [5, 10] (fun s5 s10 wr => ∃ i z : Nat, i ≤ l.length ∧ s5 = .int .i64 z ∧ s10 = .int .i64 i ∧ i ≤ z ∧ z ≤ m ∧ wtXs (l.take i) ≤ 20 * z ∧ Below w.heap.size w wr) (fun _ s10 _ => l.length - (intOf s10).toNat)
  case atStart => exact ⟨0, 0, by omega, rfl, rfl, by omega, by omega, by simp [wtXs], Below.refl _ _⟩
  case round =>
    obtain ⟨i, z, hi, rfl, rfl, hiz, hz, hwz, hbr⟩ := hrel
    rcases Nat.lt_or_ge i l.length with hlt | hge
    · have hc : l[i]? = some l[i] := List.getElem?_eq_getElem hlt
      have hcw := hw l[i] (List.getElem_mem hlt)
      have hst : wtXs (l.take (i + 1)) = wtXs (l.take i) + wtX l[i] := by
        rw [takeX_succ hc]
        unfold wtXs
        rw [List.map_append, List.sum_append]
        simp
      obtain ⟨b1, o1, rfl, h1⟩ := (ha.below hbr (Nat.le_refl _)) i _ hc
      generalize l[i] = c at *
      obtain ⟨⟨table, part, row, col⟩, ⟨time, dead, loc, kind, num, s⟩⟩ := c
      obtain ⟨k0, k1, k2, k3, k4, k5, k6, k7, k8, k9⟩ := h1
      simp only at k0 k1 k2 k3 k4 k5 k6 k7 k8 k9
      unfold wtX at hcw hst
      simp only at hcw hst
      have hb2 : Below w.heap.size w (wr.alloc (.cells (Cx.a ⟨⟨table, part, row, col⟩, ⟨time, dead, loc, kind, num, s⟩⟩) 67)) := hbr.alloc hbr.size _
      have Hst : Hid (wtXs (l.take (i + 1)) = wtXs (l.take i) + (table.size + part.size + col.size + s.size)) := hst
      clear hc ha hst hw
      have hsum : (table.size : Int) + part.size + col.size + s.size ≤ 562949953421312 := by omega
      by_cases hbig : z + (1 + (table.size + part.size + col.size + s.size) / 20) ≤ m
      · have hq : ¬ ((m : Int) < (z : Int) + (1 + ((table.size : Int) + part.size + col.size + s.size) / 20)) := by omega
        go_wp2
        go_roundw
        case rel =>
          refine ⟨i + 1, z + (1 + (table.size + part.size + col.size + s.size) / 20), by omega, ?_, by go_num, by omega, hbig, ?_, hb2⟩
          · congr 1
          · rw [Hst.out]
            omega
        case measure => simp [intOf]; omega
      · have hq : ((m : Int) < (z : Int) + (1 + ((table.size : Int) + part.size + col.size + s.size) / 20)) := by omega
        go_wp2
        go_ret
        refine ⟨⟨z + (1 + (table.size + part.size + col.size + s.size) / 20), ret_int (by omega), by omega, fun h => absurd h hbig⟩, hb2⟩
    · obtain rfl : i = l.length := by omega
      rw [List.take_length] at hwz
      clear ha hw
      go_wp2
      go_ret
      exact ⟨⟨z, rfl, by omega, fun _ => ⟨by omega, by omega⟩⟩, hbr⟩
/-- A row of lists, as lists. -/
theorem rows_lists {W : World} {base : Nat} {v : Value} {R : List Lvx} (h : W.ownsRow base 22 1 v R.length (R.map Lvx.s)) : ∃ a c, v = .slice a R.length c ∧ LSees W a R ∧ R.length ≤ c ∧ (a = none ∨ ∃ g, a = some ⟨g, 0, none⟩) := by
  rcases h.2 with ⟨rfl, h0⟩ | ⟨g, cap, cur, rfl, hg, hh, hn, hm, hs, ht⟩
  · refine ⟨none, 0, by rw [h0], fun i x hx => ?_, by omega, .inl rfl⟩
    have := (List.getElem?_eq_some_iff.1 hx).1
    omega
  · refine ⟨_, cap, rfl, fun i x hx => ⟨g, 0, rfl, ?_⟩, hn, .inr ⟨g, rfl⟩⟩
    have hi := (List.getElem?_eq_some_iff.1 hx).1
    have e : (R.map Lvx.s)[i]? = some x.s := by rw [List.getElem?_map, hx]; rfl
    rw [← ht, List.getElem?_take, if_pos (by omega), Array.getElem?_toList] at e
    simp only [World.cell?, hh, Nat.zero_add]
    exact e
set_option maxRecDepth 100000 in
set_option maxHeartbeats 2000000 in
theorem recordsL_same (lo lo' : Option Addr) (vs vs' : List Lvx) (c c' : Nat) (w : World) (hv : vs.map Lvx.l = vs'.map Lvx.l) (h1 : LSees w lo vs) (h2 : LSees w lo' vs') (x1 : ∀ v ∈ vs, XSees w v.ao v.l) (x2 : ∀ v ∈ vs', XSees w v.ao v.l) (hl : vs.length ≤ 1000000) (hc : ∀ v ∈ vs, v.l.length ≤ 1000000) :
    Calls Tryz.prog 15 #[.slice lo vs.length c, .slice lo' vs'.length c'] w fun e w' => e = .returned (.bool true) ∧ Below w.heap.size w w' := by
  have hll : vs'.length = vs.length := by have := congrArg List.length hv; simpa using this.symm
  rw [hll]
  have hlz : (vs.length : Int) ≤ 1000000 := by omega
  have HL : Hid (∀ (i : Nat) (u : World), i < vs.length → Below w.heap.size w u → ∃ (b off b' off' : Nat) (v v' : Lvx), lo = some ⟨b, off, none⟩ ∧ lo' = some ⟨b', off', none⟩ ∧ v'.l = v.l ∧ u.cell? ⟨b, off + i, none⟩ = some v.s ∧ u.cell? ⟨b', off' + i, none⟩ = some v'.s ∧ XSees u v.ao v.l ∧ XSees u v'.ao v.l ∧ v.l.length ≤ 1000000) := fun i u hi hu => by
    have e1 : vs[i]? = some vs[i] := List.getElem?_eq_getElem hi
    have hi' : i < vs'.length := by omega
    have e2 : vs'[i]? = some vs'[i] := List.getElem?_eq_getElem hi'
    have e3 : vs'[i].l = vs[i].l := by
      have := congrArg (fun l => l[i]?) hv
      simp only [List.getElem?_map, e1, e2, Option.map_some, Option.some.injEq] at this
      exact this.symm
    obtain ⟨b, off, k1, k2⟩ := (h1.below hu (Nat.le_refl _)) i _ e1
    obtain ⟨b', off', k3, k4⟩ := (h2.below hu (Nat.le_refl _)) i _ e2
    refine ⟨b, off, b', off', vs[i], vs'[i], k1, k3, e3, k2, k4, (x1 _ (List.getElem_mem hi)).below hu (Nat.le_refl _), ?_, hc _ (List.getElem_mem hi)⟩
    have := (x2 _ (List.getElem_mem hi')).below hu (Nat.le_refl _)
    rw [e3] at this; exact this
  generalize vs.length = n at *
  clear hv h1 h2 x1 x2 hc hll hl
  go_enter Tryz.func15, Tryz.ntmps15
  go_wp2_with fail
  go_loopw [13] (fun s13 wr => ∃ i : Nat, i ≤ n ∧ s13 = .int .i64 (i : Int) ∧ Below w.heap.size w wr) (fun s13 _ => n - (intOf s13).toNat)
  case atStart => exact ⟨0, by omega, rfl, Below.refl _ _⟩
  case round =>
    obtain ⟨i, hi, rfl, hbr⟩ := hrel
    rcases Nat.lt_or_ge i n with hlt | hge
    · obtain ⟨b, off, b', off', v, v', rfl, rfl, hvl, k1, k2, y1, y2, hvn⟩ := HL.out i wr hlt hbr
      have q0 : ∀ z : Cl wr.heap.size wr, z.u.cell? ⟨b, off + i, none⟩ = some (.slice v.ao v.l.length v.cap) := fun z => z.cell (World.block_lt_of_cell? _ _ k1) k1
      have q1 : ∀ z : Cl wr.heap.size wr, z.u.cell? ⟨b', off' + i, none⟩ = some (.slice v'.ao v.l.length v'.cap) := fun z => z.cell (World.block_lt_of_cell? _ _ k2) (by rw [k2]; unfold Lvx.s; rw [hvl])
      have LK : Hid (∀ z : Cl wr.heap.size wr, Calls Tryz.prog 41 #[.slice v.ao v.l.length v.cap, .slice v'.ao v.l.length v'.cap] z.u fun e w' => e = .returned (.bool true) ∧ Below z.u.heap.size z.u w') := fun z => likeX_same _ _ _ _ _ z.u (y1.below z.h (Nat.le_refl _)) (y2.below z.h (Nat.le_refl _)) hvn
      have HE : Hid (∀ w', Below wr.heap.size wr w' → Below w.heap.size w w') := fun w' h => hbr.trans (h.mono hbr.size)
      have hltz : (i : Int) < (n : Int) := by omega
      generalize v.l.length = m at *
      clear k1 k2 y1 y2 hbr HL hvl hvn
      haveI := Cl.inh wr.heap.size wr
      go_wp2_with fail
      refine wp_region_cl wr.heap.size (by kernel_rfl) (by kernel_rfl) ?_
      repeat (quiet_step (first | (go_at_call 41; exact Cl.calls (Nat.le_refl _) (LK.out _))))
      refine wpQuiet_nil ?_
      rintro w0 ⟨z, rfl⟩
      have hz := HE.out _ z.h
      go_wp2_with fail
      go_roundw
      case rel => exact ⟨i + 1, by omega, by go_num, hz⟩
      case measure => (simp [intOf]; try omega)
    · obtain rfl : i = n := by omega
      clear HL
      go_wp2_with fail
      go_ret
      exact ⟨rfl, hbr⟩
end Go.Proofs.YtlamncldbnagmaaGreatDoor
