/-
  SEVERAL TEXTS IN ONE: WkRead, WalLaid.
-/
import Derived.Test.YtglaocghcgcghaaGreatDoorMany27
import Derived.Test.YtglaocghcgcghaaGreatDoorMany30
import Derived.Test.YtglaocghcgcghaaGreatDoorMany29
import Derived.Test.YtglaocghcgcghaaGreatDoorMany20
import Derived.Deep.Slices
import Derived.Lib.SmallJoins
namespace Go.Proofs.YtglaocghcgcghaaGreatDoor
open Go.RowKit Go.Proofs.YtglaocghcgcghaaGreatDoor.walBack
attribute [local go_sem] Oper.pureAt Oper.pureUpon

/-- What the segments hold. -/
structure Segs (A : Ab) (N : List Int) (F : Int → List UInt8) (rs : Int → List (List Cx)) (sz : Int → Nat) : Prop where
  ok : ∀ n ∈ N, okW n = true
  has : ∀ n ∈ N, ∃ t, findT A.sp (nmW n) = some t ∧ t.bs = F n
  len : ∀ n ∈ N, (F n).length ≤ 600000
  told : ∀ n ∈ N, ToldW (F n) (rs n) (sz n)
  whole : ∀ i n, N[i]? = some n → i + 1 < N.length → sz n = (F n).length
  few : N.length ≤ 1000
/-- The records that were gathered, and how the last segment ends. -/
structure RdI (n0 : Nat) (N : List Int) (F : Int → List UInt8) (rs : Int → List (List Cx)) (sz : Int → Nat) (i : Nat) (T : List Yl) (v sl : Value) (tn : Bool) (w W : World) : Prop where
  row : W.ownsRow n0 26 1 v T.length (T.map Yl.v)
  cnt : T.length ≤ 600000 * i
  ins : ∀ y ∈ T, YIn n0 y W
  told : T.map Yl.r = ((N.take i).map rs).flatten
  blk : Blk W (n0 + 1) [sl, .bool tn] 96
  res : Blk W n0 [.slice none 0 0, .bool false] 96
  low : Below n0 w W
  bs : w.heap.size = n0
  shp : ∃ a z c, sl = .slice a z c
  none : i = 0 → sl = .slice none 0 0 ∧ tn = false
  last : ∀ j n, i = j + 1 → N[j]? = some n → tn = decide (sz n < (F n).length) ∧ ∃ ao c vb, sl = .slice ao (sz n) c ∧ vb = .slice ao (F n).length c ∧ (F n).length ≤ c ∧ W.ownsRow n0 5 1 vb (F n).length (B8 (F n))
theorem src_ownL {w : World} {base n : Nat} {v : Value} {xs : List Value} (h : w.ownsRow base 26 1 v n xs) (h1 : ∀ u ∈ xs, u.oneCell' = true) : Src Tryz.prog 1 22 v n xs w := by
  have hl := h.1
  rcases h.2 with ⟨rfl, rfl⟩ | ⟨g, cap, cur, rfl, _⟩
  · have : xs = [] := List.eq_nil_of_length_eq_zero (by simpa using hl)
    subst this
    exact Src.ofNil w Tryz.underlying22 0
  · exact Src.ofSlice w Tryz.underlying22 _ n cap xs (by rw [hl]) (h.cells (g := g) rfl) h1
theorem yl_one (T : List Yl) : ∀ u ∈ T.map Yl.v, u.oneCell' = true := fun u hu => by
  obtain ⟨x, _, rfl⟩ := List.mem_map.1 hu
  rfl
theorem sz_le {A : Ab} {N : List Int} {F : Int → List UInt8} {rs : Int → List (List Cx)} {sz : Int → Nat} (h : Segs A N F rs sz) {n : Int} (hn : n ∈ N) : sz n ≤ (F n).length ∧ (rs n).length ≤ 600000 := by
  have h1 := (h.told n hn).le
  have h2 := h.len n hn
  omega
theorem yin_alloc {n0 : Nat} {y : Yl} {W : World} (h : YIn n0 y W) (o : Obj) : YIn n0 y (W.alloc o) := ⟨other_alloc h.1, h.2⟩
theorem yin_below {n0 : Nat} {y : Yl} {W W' : World} (h : YIn n0 y W) (hb : Below W.heap.size W W') : YIn n0 y W' := ⟨owBelow h.1 hb, h.2⟩
theorem yin_mono {n0 n1 : Nat} {y : Yl} {W : World} (h : YIn n1 y W) (hn : n0 ≤ n1) : YIn n0 y W := by
  refine ⟨⟨h.1.1, ?_⟩, h.2⟩
  rcases h.1.2 with h0 | ⟨g, cap, cur, e, hg, r⟩
  · exact .inl h0
  · exact .inr ⟨g, cap, cur, e, Nat.le_trans hn hg, r⟩
theorem own_mono {n0 n1 : Nat} {e : TypeId} {k n : Nat} {v : Value} {xs : List Value} {W : World} (h : W.ownsRow n1 e k v n xs) (hn : n0 ≤ n1) : W.ownsRow n0 e k v n xs := by
  refine ⟨h.1, ?_⟩
  rcases h.2 with h0 | ⟨g, cap, cur, e, hg, r⟩
  · exact .inl h0
  · exact .inr ⟨g, cap, cur, e, Nat.le_trans hn hg, r⟩
/-- A block of another make lies as it lay behind an append. -/
theorem blk_grew {W W' : World} {g : Nat} {cs : List Value} {t : TypeId} (h : Blk W g cs t) {base n size : Nat} {e : TypeId} {v v' : Value} {xs : List Value} (ho : W.ownsRow base e size v n xs) (hg : Grew W W' v v') (hne : t ≠ e) : Blk W' g cs t := rw_grown ho hg.rows hne h
theorem belowN_none {w w' : World} (h : w.grownBy w' none) : Below w.heap.size w w' := ⟨h.os, h.tape, h.output, h.size, fun k hk => h.block k hk (by simp)⟩
theorem RdI.nz {n0 : Nat} {N : List Int} {F : Int → List UInt8} {rs : Int → List (List Cx)} {sz : Int → Nat} {i : Nat} {T : List Yl} {v sl : Value} {tn : Bool} {w W : World} (h : RdI n0 N F rs sz i T v sl tn w W) : n0 ≤ W.heap.size := by
  have := h.low.size
  have := h.bs
  omega
theorem RdI.below {n0 : Nat} {N : List Int} {F : Int → List UInt8} {rs : Int → List (List Cx)} {sz : Int → Nat} {i : Nat} {T : List Yl} {v sl : Value} {tn : Bool} {w W W' : World} (h : RdI n0 N F rs sz i T v sl tn w W) (hb : Below W.heap.size W W') : RdI n0 N F rs sz i T v sl tn w W' :=
  ⟨owBelow h.row hb, h.cnt, fun y hy => yin_below (h.ins y hy) hb, h.told, h.blk.carry (hb.block _ h.blk.lt), h.res.carry (hb.block _ h.res.lt), h.low.trans (hb.mono h.nz), h.bs, h.shp, h.none, fun j n hj hn => by
    obtain ⟨a, ao, c, vb, b1, b2, b3, b4⟩ := h.last j n hj hn
    exact ⟨a, ao, c, vb, b1, b2, b3, owBelow b4 hb⟩⟩
/-- One segment more. -/
theorem RdI.step {n0 : Nat} {N : List Int} {F : Int → List UInt8} {rs : Int → List (List Cx)} {sz : Int → Nat} {i : Nat} {T xs : List Yl} {v sl : Value} {tn : Bool} {w W W2 W' : World} {n : Int} (h : RdI n0 N F rs sz i T v sl tn w W) (hn : N[i]? = some n) (hb : Below W.heap.size W W2)
    {ao : Option Addr} {c : Nat} (hv : W2.ownsRow n0 5 1 (.slice ao (F n).length c) (F n).length (B8 (F n))) (hc : (F n).length ≤ c) (hx : ∀ y ∈ xs, YIn n0 y W2) (hr : xs.map Yl.r = rs n) (hxl : xs.length ≤ 600000) {v' : Value} (ho : W'.ownsRow n0 26 1 v' (T.length + xs.length) (T.map Yl.v ++ xs.map Yl.v)) (hg : Grew W2 W' v v') :
    RdI n0 N F rs sz (i + 1) (T ++ xs) v' (.slice ao (sz n) c) (decide (sz n < (F n).length)) w ((W'.setCell ⟨n0 + 1, 0, Option.none⟩ (.slice ao (sz n) c)).setCell ⟨n0 + 1, 1, Option.none⟩ (.bool (decide (sz n < (F n).length)))) := by
  have h2 := h.below hb
  have hne1 : (96 : Nat) ≠ 26 := by decide
  have hne2 : (50 : Nat) ≠ 26 := by decide
  have hne3 : (5 : Nat) ≠ 26 := by decide
  have b1 : Blk W' (n0 + 1) [sl, .bool tn] 96 := blk_grew h2.blk h2.row hg hne1
  have b0 : Blk W' n0 [.slice Option.none 0 0, .bool false] 96 := blk_grew h2.res h2.row hg hne1
  have hlow : Below n0 W2 W' := hg.below h2.nz fun g e => (h2.row.lt g e).1
  have oset : ∀ {e : TypeId} {k m : Nat} {u : Value} {ys : List Value}, e ≠ 96 → W'.ownsRow n0 e k u m ys → ((W'.setCell ⟨n0 + 1, 0, Option.none⟩ (.slice ao (sz n) c)).setCell ⟨n0 + 1, 1, Option.none⟩ (.bool (decide (sz n < (F n).length)))).ownsRow n0 e k u m ys := fun {e k m u ys} hne hu => owns_heap hu fun g hg => by
    have hgn : g ≠ n0 + 1 := fun he => by
      subst he
      rcases hu.2 with ⟨e1, _⟩ | ⟨g', cap, cur, e1, _, hh, _⟩
      · rw [e1] at hg; cases hg
      · rw [e1] at hg
        obtain rfl : g' = n0 + 1 := by simpa [Value.ownBlock] using hg
        have hh' := hh.symm.trans b1
        simp only [Option.some.injEq, Obj.cells.injEq] at hh'
        exact hne hh'.2.1
    rw [Below.heap_setCell _ _ _ _ (by simpa using hgn), Below.heap_setCell _ _ _ _ (by simpa using hgn)]
  refine ⟨?_, ?_, fun y hy => ?_, ?_, (b1.setTo 0 _ _ rfl).setTo 1 _ _ rfl, ?_, ?_, h.bs, ⟨_, _, _, rfl⟩, fun h0 => (by omega), fun j m hj hm => ?_⟩
  · rw [List.length_append, List.map_append]
    exact oset (by decide) ho
  · have := h.cnt
    rw [List.length_append]; omega
  · have : YIn n0 y W' := by
      rcases List.mem_append.1 hy with hy | hy
      · exact ⟨other_grew (h2.ins y hy).1 h2.row hg hne2, (h2.ins y hy).2⟩
      · exact ⟨other_grew (hx y hy).1 h2.row hg hne2, (hx y hy).2⟩
    exact ⟨oset (by decide) this.1, this.2⟩
  · have ht : N.take (i + 1) = N.take i ++ [n] := by rw [List.take_add_one, hn]; rfl
    rw [List.map_append, h.told, hr, ht, List.map_append, List.flatten_append]
    simp
  · refine b0.carry ?_
    rw [Below.heap_setCell _ _ _ _ (by simp), Below.heap_setCell _ _ _ _ (by simp)]
  · exact ((h2.low.trans hlow).setCell (by exact Nat.le_succ _) _).setCell (by exact Nat.le_succ _) _
  · obtain rfl : j = i := by omega
    obtain rfl : n = m := by rw [hn] at hm; exact Option.some.inj hm
    exact ⟨rfl, ao, c, _, rfl, rfl, hc, oset (by decide) (other_grew hv h2.row hg hne3)⟩
/-- What read told: the records, and how the last segment ends. -/
structure RdO (n0 : Nat) (N : List Int) (F : Int → List UInt8) (rs : Int → List (List Cx)) (sz : Int → Nat) (T : List Yl) (v sl : Value) (tn : Bool) (w W : World) : Prop where
  row : W.ownsRow n0 26 1 v T.length (T.map Yl.v)
  ins : ∀ y ∈ T, YIn n0 y W
  told : T.map Yl.r = (N.map rs).flatten
  low : Below n0 w W
  none : N = [] → sl = .slice none 0 0 ∧ tn = false
  last : ∀ j n, N.length = j + 1 → N[j]? = some n → tn = decide (sz n < (F n).length) ∧ ∃ ao c vb, sl = .slice ao (sz n) c ∧ vb = .slice ao (F n).length c ∧ (F n).length ≤ c ∧ W.ownsRow n0 5 1 vb (F n).length (B8 (F n))
theorem RdI.out {n0 : Nat} {N : List Int} {F : Int → List UInt8} {rs : Int → List (List Cx)} {sz : Int → Nat} {T : List Yl} {v sl : Value} {tn : Bool} {w W : World} (h : RdI n0 N F rs sz N.length T v sl tn w W) (x y : Value) :
    RdO n0 N F rs sz T v sl tn w ((W.setCell ⟨n0, 0, Option.none⟩ x).setCell ⟨n0, 1, Option.none⟩ y).drew ∧ Blk ((W.setCell ⟨n0, 0, Option.none⟩ x).setCell ⟨n0, 1, Option.none⟩ y).drew n0 [x, y] 96 := by
  have oset : ∀ {e : TypeId} {k m : Nat} {u : Value} {ys : List Value}, e ≠ 96 → W.ownsRow n0 e k u m ys → ((W.setCell ⟨n0, 0, Option.none⟩ x).setCell ⟨n0, 1, Option.none⟩ y).drew.ownsRow n0 e k u m ys := fun {e k m u ys} hne hu => owns_heap hu fun g hg => by
    have hgn : g ≠ n0 := fun he => by
      subst he
      rcases hu.2 with ⟨e1, _⟩ | ⟨g', cap, cur, e1, _, hh, _⟩
      · rw [e1] at hg; cases hg
      · rw [e1] at hg
        obtain rfl : g' = g := by simpa [Value.ownBlock] using hg
        have hh' := hh.symm.trans h.res
        simp only [Option.some.injEq, Obj.cells.injEq] at hh'
        exact hne hh'.2.1
    show ((W.setCell ⟨n0, 0, Option.none⟩ x).setCell ⟨n0, 1, Option.none⟩ y).heap[g]? = _
    rw [Below.heap_setCell _ _ _ _ (by simpa using hgn), Below.heap_setCell _ _ _ _ (by simpa using hgn)]
  refine ⟨⟨oset (by decide) h.row, fun z hz => ⟨oset (by decide) (h.ins z hz).1, (h.ins z hz).2⟩, by rw [h.told, List.take_length], ((h.low.setCell (by exact Nat.le_refl _) _).setCell (by exact Nat.le_refl _) _).drew, fun hN => h.none (by rw [hN]; rfl), fun j n hj hn => ?_⟩, (h.res.setTo 0 _ _ rfl).setTo 1 _ _ rfl⟩
  obtain ⟨a, ao, c, vb, b1, b2, b3, b4⟩ := h.last j n hj hn
  exact ⟨a, ao, c, vb, b1, b2, b3, oset (by decide) b4⟩
theorem bytes_cap {W : World} {base n : Nat} {v : Value} {xs : List Value} (h : W.ownsRow base 5 1 v n xs) : ∃ a c, v = .slice a n c ∧ n ≤ c ∧ c ≤ maxLen ∧ Lies W.heap.size a n := by
  rcases h.2 with ⟨e, h0⟩ | ⟨g, c, cur, e, hb, hg, hn, hm, _⟩
  · exact ⟨none, 0, by rw [e, h0], by omega, Nat.zero_le _, .inl h0⟩
  · exact ⟨_, c, e, hn, hm, .inr ⟨g, 0, rfl, (Array.getElem?_eq_some_iff.1 hg).1⟩⟩
theorem read_at {w0 : World} {d lb : Nat} {A : Ab} {n : Int} {b : Bool} {ft : List Nat} {u : World} (h : LyF w0 d lb A n b ft u) (hon : A.on = true) {m : Int} {t : Sig} (hg : refuse true [tB (nmW m)] = 0) (ht : findT A.sp (nmW m) = some t) (hl : t.bs.length ≤ 600000) :
    Calls Tryz.prog 21 #[.pointer (some ⟨d, 0, none⟩), .string (tB (nmW m))] u fun x w' => ∃ a c, x = .returned (.tuple #[.slice a t.bs.length c, .int .i64 0]) ∧ t.bs.length ≤ c ∧ c ≤ maxLen ∧ Lies w'.heap.size a t.bs.length ∧ w'.ownsRow u.heap.size 5 1 (.slice a t.bs.length c) t.bs.length (B8 t.bs) ∧ Below u.heap.size u w' := by
  refine (ab_read h.1 (tB (nmW m)) (tB_max (nmW m) (by have := nmW_len m; omega)) (by rw [hon]; exact hg) (t := t) (by rw [nameOf_tB]; exact ht) (by omega)).mono ?_
  rintro x w' ⟨v, rfl, ho, hgr⟩
  obtain ⟨a, c, rfl, h1, h2, h3⟩ := bytes_cap ho
  exact ⟨a, c, rfl, h1, h2, h3, ho, belowN_none hgr⟩
set_option maxRecDepth 100000 in
set_option maxHeartbeats 8000000 in
theorem readY {w0 : World} {d lb : Nat} {A : Ab} {n : Int} {b : Bool} {ft : List Nat} {w : World} (he : EnvW w0) (ht : Tab w0) (ue : TypeId) (pv : Value) (hE : Err w0 ue pv) (h : LyF w0 d lb A n b ft w) (hon : A.on = true) (ao : Option Addr) (N : List Int) (cap : Nat) (hI : ISees w ao N) {F : Int → List UInt8} {rs : Int → List (List Cx)} {sz : Int → Nat} (hS : Segs A N F rs sz) (hg : ∀ n ∈ N, refuse true [tB (nmW n)] = 0) :
    Calls Tryz.prog 46 #[.pointer (some ⟨lb, 0, none⟩), .slice ao N.length cap] w fun x w' => ∃ (v sl : Value) (tn : Bool) (T : List Yl), x = .returned (.tuple #[v, .agg #[sl, .bool tn], .int .i64 0]) ∧ RdO w.heap.size N F rs sz T v sl tn w w' := by
  obtain ⟨iL, hiL, hl0, hl1, hl2⟩ := info_parts infoLs
  obtain ⟨n0, hn0⟩ : ∃ n0, w.heap.size = n0 := ⟨_, rfl⟩
  obtain ⟨wa, hwa⟩ : ∃ wa, wa = (w.alloc (.cells #[.slice none 0 0, .bool false] 96)).alloc (.cells #[.slice none 0 0, .bool false] 96) := ⟨_, rfl⟩
  have k1 : Blk wa n0 [.slice none 0 0, .bool false] 96 := by rw [hwa, ← hn0]; exact (Blk.new w _ _).alloc _
  have k2 : Blk wa (n0 + 1) [.slice none 0 0, .bool false] 96 := by
    rw [hwa]
    have := Blk.new (w.alloc (.cells #[.slice none 0 0, .bool false] 96)) [.slice none 0 0, .bool false] 96
    rw [World.size_alloc, hn0] at this; exact this
  have hba : Below n0 w wa := by rw [hwa, ← hn0]; exact ((Below.refl _ _).alloc (Nat.le_refl _) _).alloc (by simp) _
  have HW : Hid ((w.alloc (.cells #[.slice none 0 0, .bool false] 96)).alloc (.cells #[.slice none 0 0, .bool false] 96) = wa) := hwa.symm
  have H0 : Hid (RdI n0 N F rs sz 0 [] (.slice none 0 0) (.slice none 0 0) false w wa) := ⟨World.ownsRow_nil _ _ _ _, Nat.zero_le _, fun y hy => (by cases hy), rfl, k2, k1, hba, hn0, ⟨_, _, _, rfl⟩, fun _ => ⟨rfl, rfl⟩, fun j n hj => (by omega)⟩
  have HU : Hid (∀ u, Below n0 w u → LyF w0 d lb A n b ft u ∧ Tab u ∧ Err u ue pv ∧ u.cell? ⟨lb, 0, none⟩ = some (.pointer (some ⟨d, 0, none⟩))) := fun u hu => by
    have h1 := h.more (u := u) (by rw [hn0]; exact hu)
    exact ⟨h1, ht.below h1.bel (Nat.le_refl _), hE.below h1.bel (Nat.le_refl _), h1.blk.cell 0 rfl⟩
  have HN : Hid (∀ (i : Nat) (u : World), i < N.length → Below n0 w u → ∃ (bb off : Nat) (m : Int), ao = some ⟨bb, off, none⟩ ∧ N[i]? = some m ∧ u.cell? ⟨bb, off + i, none⟩ = some (.int .i64 m)) := fun i u hi hu => by
    obtain ⟨bb, off, e, hc⟩ := (hI.below (w' := u) (B := n0) hu (by omega)) i _ (List.getElem?_eq_getElem hi)
    exact ⟨bb, off, _, e, List.getElem?_eq_getElem hi, hc⟩
  have HCN : Hid (∀ m ∈ N, ∀ u, Below w0.heap.size w0 u → Calls Tryz.prog 38 #[.int .i64 m] u fun x w' => x = .returned (.string (tB (nmW m))) ∧ Below u.heap.size u w') := fun m hm u hu => by
    have := okW_iff.1 (hS.ok m hm)
    exact nameW_any m (by omega) (by omega) u (he.below hu (Nat.le_refl _))
  have HCR : Hid (∀ m ∈ N, ∀ u, LyF w0 d lb A n b ft u → Calls Tryz.prog 21 #[.pointer (some ⟨d, 0, none⟩), .string (tB (nmW m))] u fun x w' => ∃ a c, x = .returned (.tuple #[.slice a (F m).length c, .int .i64 0]) ∧ (F m).length ≤ c ∧ c ≤ maxLen ∧ Lies w'.heap.size a (F m).length ∧ w'.ownsRow u.heap.size 5 1 (.slice a (F m).length c) (F m).length (B8 (F m)) ∧ Below u.heap.size u w') := fun m hm u hu => by
    obtain ⟨t, h1, h2⟩ := hS.has m hm
    have := read_at hu hon (hg m hm) h1 (by rw [h2]; exact hS.len m hm)
    rw [h2] at this
    exact this
  have HS : Hid (Segs A N F rs sz) := hS
  have hlz : (N.length : Int) ≤ 1000 := by have := hS.few; omega
  clear hwa k1 k2 hba he ht hE h hI hS hon hg
  go_enter Tryz.func46, Tryz.ntmps46
  go_wp2_with fail
  rw [HW.out]
  clear HW
  go_loopw [7, 17] (fun s7 s17 wr => ∃ (i : Nat) (T : List Yl) (v sl : Value) (tn : Bool), i ≤ N.length ∧ s17 = .int .i64 (i : Int) ∧ v = s7 ∧ RdI n0 N F rs sz i T v sl tn w wr) (fun _ s17 _ => N.length - (intOf s17).toNat)
  case atStart => exact ⟨0, [], _, _, false, Nat.zero_le _, rfl, rfl, H0.out⟩
  case round =>
    obtain ⟨i, T, s7, sl, tn, hi, rfl, rfl, hR⟩ := hrel
    rcases Nat.lt_or_ge i N.length with hlt | hge
    · obtain ⟨bb, off, m, rfl, hm, hc⟩ := HN.out i wr hlt hR.low
      have hmem : m ∈ N := List.mem_of_getElem? hm
      have hltz : (i : Int) < (N.length : Int) := by omega
      obtain rfl : tn = false := by
        rcases Nat.eq_zero_or_pos i with h0 | h0
        · exact (hR.none h0).2
        · obtain ⟨j, rfl⟩ : ∃ j, i = j + 1 := ⟨i - 1, by omega⟩
          have hj : N[j]? = some N[j] := List.getElem?_eq_getElem (by omega)
          rw [(hR.last j _ rfl hj).1]
          exact decide_eq_false (by have := HS.out.whole j _ hj (by omega); omega)
      have e0 := hR.blk.cell 0 rfl
      have e1 := hR.blk.cell 1 rfl
      obtain ⟨hL, hT, hEr, cl⟩ := HU.out wr hR.low
      have HL : Hid (LyF w0 d lb A n b ft wr) := hL
      have CN : Hid (∀ u, Below w0.heap.size w0 u → Calls Tryz.prog 38 #[.int .i64 m] u fun x w' => x = .returned (.string (tB (nmW m))) ∧ Below u.heap.size u w') := HCN.out m hmem
      have CR : Hid (∀ u, LyF w0 d lb A n b ft u → Calls Tryz.prog 21 #[.pointer (some ⟨d, 0, none⟩), .string (tB (nmW m))] u fun x w' => ∃ a c, x = .returned (.tuple #[.slice a (F m).length c, .int .i64 0]) ∧ (F m).length ≤ c ∧ c ≤ maxLen ∧ Lies w'.heap.size a (F m).length ∧ w'.ownsRow u.heap.size 5 1 (.slice a (F m).length c) (F m).length (B8 (F m)) ∧ Below u.heap.size u w') := HCR.out m hmem
      have HR : Hid (RdI n0 N F rs sz i T s7 sl false w wr) := hR
      have HM : Hid (N[i]? = some m ∧ m ∈ N) := ⟨hm, hmem⟩
      have HFl : Hid ((F m).length ≤ 600000 ∧ sz m ≤ (F m).length ∧ (rs m).length ≤ 600000) := ⟨HS.out.len m hmem, sz_le HS.out hmem⟩
      have HTL : Hid (T.length ≤ 600000 * 1000) := by
        have h1 := hR.cnt
        have h2 := HS.out.few
        have h3 : 600000 * i ≤ 600000 * 1000 := Nat.mul_le_mul_left _ (by omega)
        exact Nat.le_trans h1 h3
      have c0 : ∀ q : LC d lb, q.u.cell? ⟨lb, 0, none⟩ = some (.pointer (some ⟨d, 0, none⟩)) := fun q => q.h
      haveI : Nonempty (LC d lb) := ⟨⟨wr, cl⟩⟩
      clear HN HCN HCR hR hL hT hEr hmem hm
      go_wp2_with fail
      refine wp_region_sched (fun w' => ∃ p : LC d lb, w' = p.u) [(0, true), (1, true), (2, true), (3, true), (4, true), (5, false), (6, false), (7, true), (8, true), (9, true), (10, true), (11, true)] rfl (by kernel_rfl) (by kernel_rfl) (by kernel_rfl) (LyC.of HL.out.drew) ?_
      iterate 5 (refine sched_pure rfl (fun K hK => ?_); go_simp; refine hK _ ?_; clear hK K)
      refine sched_loud rfl (fun K hK => ?_)
      go_simp
      refine (CN.out _ HL.out.drew.bel).mono ?_
      rintro e u1 ⟨rfl, hu1⟩
      have hu1f := HL.out.drew.more hu1
      have hu1b : Below wr.heap.size wr u1 := (Below.refl _ _).drew.trans hu1
      refine hK _ _ (LyC.of hu1f) ?_
      clear hK K
      refine sched_loud rfl (fun K hK => ?_)
      go_simp
      refine (CR.out _ hu1f).mono ?_
      rintro e u2 ⟨a, c, rfl, hfc, hcm, hlies, hown, hu2⟩
      have hu2f := hu1f.more hu2
      refine hK _ _ (LyC.of hu2f) ?_
      clear hK K
      iterate 5 (refine sched_pure rfl (fun K hK => ?_); go_simp; refine hK _ ?_; clear hK K)
      refine sched_nil ?_
      have hb2 : Below wr.heap.size wr u2 := hu1b.trans (hu2.mono hu1b.size)
      have hlow2 : Below n0 w u2 := HR.out.low.trans (hb2.mono HR.out.nz)
      obtain ⟨-, hT2, hE2, -⟩ := HU.out u2 hlow2
      have hn1 : n0 ≤ u1.heap.size := Nat.le_trans HR.out.nz hu1b.size
      have HV : Hid (u2.ownsRow n0 5 1 (.slice a (F m).length c) (F m).length (B8 (F m))) := own_mono hown hn1
      have hsee : Sees u2 a (F m) := by
        obtain ⟨a', c', e', hs', -⟩ := owns_sees hown
        cases e'
        exact hs'
      have CS : Hid (Calls Tryz.prog 72 #[.slice a (F m).length c] u2 fun e w' => ∃ (v : Value) (xs : List Yl), e = .returned (.tuple #[v, .int .i64 (sz m : Int)]) ∧ xs.map Yl.r = rs m ∧ w'.ownsRow n0 26 1 v xs.length (xs.map Yl.v) ∧ (∀ x ∈ xs, YIn n0 x w') ∧ Below u2.heap.size u2 w') := by
        have hlen := HFl.out.1
        refine (scanW_any a (F m) c u2 hsee hlies (by omega) hfc (by unfold maxLen at hcm; omega) hT2 ue pv hE2).mono ?_
        rintro e w' ⟨v, xs, k, rfl, hT', hrow, hin, hB⟩
        obtain ⟨e1, e2⟩ := hT'.uniq (HS.out.told m HM.out.2)
        subst e2
        have hn2 : n0 ≤ u2.heap.size := Nat.le_trans hn1 hu2.size
        exact ⟨v, xs, rfl, e1, own_mono hrow hn2, fun x hx => yin_mono (hin x hx) hn2, hB⟩
      have HB2 : Hid (Below wr.heap.size wr u2) := hb2
      have HFC : Hid ((F m).length ≤ c) := hfc
      clear hown hsee hlies hT2 hE2 hlow2 hu1f hu1b hu1 hu2 hu2f CN CR c0 cl hb2 HL
      go_wp2_with fail
      go_fit CS.out
      rintro e w3 ⟨v3, xs, rfl, hxr, hrow3, hin3, hb3⟩
      have hb23 : Below wr.heap.size wr w3 := HB2.out.trans (hb3.mono HB2.out.size)
      have hR3 := HR.out.below hb23
      have hxl : xs.length ≤ 600000 := by
        have := congrArg List.length hxr
        rw [List.length_map] at this
        have := HFl.out.2.2
        omega
      have HST : Hid (∀ v' w', w'.ownsRow n0 26 1 v' (T.length + xs.length) (T.map Yl.v ++ xs.map Yl.v) → Grew w3 w' s7 v' → RdI n0 N F rs sz (i + 1) (T ++ xs) v' (.slice a (sz m) c) (decide (sz m < (F m).length)) w ((w'.setCell ⟨n0 + 1, 0, none⟩ (.slice a (sz m) c)).setCell ⟨n0 + 1, 1, none⟩ (.bool (decide (sz m < (F m).length)))) ∧ Blk w' (n0 + 1) [sl, .bool false] 96) := fun v' w' ho hgr =>
        ⟨HR.out.step HM.out.1 hb23 (owBelow HV.out hb3) HFC.out hin3 hxr hxl ho hgr, blk_grew hR3.blk hR3.row hgr (by decide)⟩
      have HRW : Hid (w3.ownsRow n0 26 1 s7 T.length (T.map Yl.v)) := hR3.row
      have HSR : Hid (Src Tryz.prog 1 22 v3 xs.length (xs.map Yl.v) w3) := src_ownL hrow3 (yl_one xs)
      have hbs : n0 ≤ w3.heap.size := hR3.nz
      have hz1 : ((sz m : Nat) : Int) ≤ (c : Int) := by have := HFl.out.2.1; have := HFC.out; omega
      have hz2 : ((F m).length : Int) ≤ 600000 := by have := HFl.out.1; omega
      obtain ⟨tb, htb⟩ : ∃ tb, decide (sz m < (F m).length) = tb := ⟨_, rfl⟩
      have htz : decide ((sz m : Int) < ((F m).length : Int)) = tb := by rw [← htb]; simp
      rw [htb] at HST
      have hT1 := HTL.out
      clear hrow3 hin3 hb3 hb23 hR3 hxr HB2 HV HR HFl HFC CS e0 e1 hc
      generalize (F m).length = fl at *
      generalize sz m = z at *
      go_wp2_with (at_builtin; go_must (refine wpList_append_grew _ rfl _ _ 22 22 rfl n0 26 iL _ 1 24 Tryz.underlying22 hiL hl0 hl1 hl2 rfl s7 T.length (T.map Yl.v) rfl HRW.out _ xs.length (xs.map Yl.v) rfl HSR.out (by unfold maxLen; omega) (by omega) hbs ?_; intro v5 w5 ho5 hg5; obtain ⟨hN5, hK5⟩ := HST.out v5 w5 ho5 hg5; have e0 := hK5.cell 0 rfl; have e1 := hK5.cell 1 rfl; have f0 := hK5.frozen 0; have f1 := hK5.frozen 1))
      go_roundw
      case rel => exact ⟨i + 1, T ++ xs, _, _, tb, by omega, by go_num, rfl, hN5⟩
      case measure => (simp [intOf]; try omega)
    · obtain rfl : i = N.length := by omega
      obtain ⟨sa, sb, sc, rfl⟩ := hR.shp
      have e0 := hR.blk.cell 0 rfl
      have e1 := hR.blk.cell 1 rfl
      have e2 := hR.res.cell 0 rfl
      have e3 := hR.res.cell 1 rfl
      have f0 := hR.res.frozen 0
      have f1 := hR.res.frozen 1
      have HO : Hid (RdO n0 N F rs sz T s7 (.slice sa sb sc) tn w ((wr.setCell ⟨n0, 0, none⟩ (.slice sa sb sc)).setCell ⟨n0, 1, none⟩ (.bool tn)).drew ∧ Blk ((wr.setCell ⟨n0, 0, none⟩ (.slice sa sb sc)).setCell ⟨n0, 1, none⟩ (.bool tn)).drew n0 [.slice sa sb sc, .bool tn] 96) := hR.out (.slice sa sb sc) (.bool tn)
      clear HN HCN HCR HU hR H0
      go_wp2_with fail
      go_region
      generalize ((wr.setCell ⟨n0, 0, none⟩ (.slice sa sb sc)).setCell ⟨n0, 1, none⟩ (.bool tn)).drew = wz at *
      clear e0 e1 e2 e3 f0 f1
      go_wp2_with fail
      refine bodyPost_ret (results_tct Tryz.results46 _ wz n0 96 _ (0, 0) _ rfl HO.out.2 Tryz.underlying96 rfl (by kernel_rfl)) rfl ?_
      refine ⟨s7, _, tn, T, rfl, ?_⟩
      rw [hn0]
      exact HO.out.1
end Go.Proofs.YtglaocghcgcghaaGreatDoor
namespace Go.Proofs.YtglaocghcgcghaaGreatDoor
open Go.ChangeShapes Go.WideShapes Go.ChangeAt Go.RowKit Go.Deep Go.Joins

theorem cellsListW : Tryz.prog.cellsOf 26 = 1 := by kernel_rfl
theorem bytesListW : Tryz.prog.bytesOf 26 = 24 := by kernel_rfl
def LvW {H : Type} (q : Lvx × DataW H) : Prop := q.1.l.length = 0 ∨ ∃ sp, q.2 = .slice (q.1.l.map cxD) sp
set_option maxRecDepth 100000 in
theorem lists_cameW {H : Type} {enc : TypeId × Value → H} {W : World} {ao : Option Addr} {len cap : Nat} {d : DataW H} {p : List MemPlace}
    (h : DataW.Trod enc Tryz.prog W 0 (fun _ => true) true 22 (Value.slice ao len cap) d p) :
    ∃ vs : List Lvx, vs.length = len ∧ LSees W ao vs ∧ (∀ v ∈ vs, XSees W v.ao v.l ∧ ∀ c ∈ v.l, c.In) ∧ (vs.length = 0 ∨ ∃ (P : List (Lvx × DataW H)) (sp : List (DataW H)), P.map Prod.fst = vs ∧ d = .slice (P.map Prod.snd) sp ∧ ∀ q ∈ P, LvW q) := by
  obtain ⟨fuel, hf⟩ := h
  rcases open_slice1 Tryz.underlying22 cellsListW hf with ⟨hcs, _⟩ | ⟨a, n, c, m, k, V, D, Pl, hcs, _, hle, _, hm, hx, hc⟩
  · simp [Value.cells] at hcs
    obtain ⟨rfl, rfl, rfl⟩ := hcs
    exact ⟨[], rfl, (fun i c hc => by simp at hc), (fun q hq => by cases hq), .inl rfl⟩
  · simp [Value.cells] at hcs
    obtain ⟨rfl, rfl, rfl⟩ := hcs
    simp only [if_true] at hm
    subst hm
    haveI : Inhabited Lvx := ⟨⟨none, 0, []⟩⟩
    obtain ⟨C, hC⟩ := choose_lt (α := Lvx) (n := len) (p := fun i q => W.cell? (a.add i) = some q.s ∧ (XSees W q.ao q.l ∧ ∀ c ∈ q.l, c.In) ∧ LvW (q, D i)) (fun i hi => by
      obtain ⟨h1, h2⟩ := hc i (by omega)
      obtain ⟨a', l', c', e⟩ := slice_form Tryz.underlying26 h2
      have e' : V i = .slice a' l' c' := by simpa using e
      rw [e'] at h1 h2
      have h2' : DataW.trod enc Tryz.prog W 0 (fun _ => true) true k 26 (Value.slice a' l' c').cells.toList = some (D i, Pl i) := h2
      obtain ⟨l, rfl, hs, _, hin, hd⟩ := cells_came ⟨k, h2'⟩
      exact ⟨⟨a', c', l⟩, h1, ⟨hs, hin⟩, hd⟩)
    have hd := congrArg Prod.fst hx
    simp only at hd
    refine ⟨(List.range len).map C, by simp, ?_, fun q hq => ?_, .inr ⟨(List.range len).map fun i => (C i, D i), _, by rw [List.map_map]; rfl, by rw [List.map_map]; exact hd, fun q hq => ?_⟩⟩
    · intro i q hi
      have hlt : i < len := by
        have := (List.getElem?_eq_some_iff.1 hi).1
        simpa using this
      simp [hlt] at hi
      subst hi
      obtain ⟨h1, h2, h3⟩ := hC i hlt
      obtain ⟨b, off, spot⟩ := a
      have hspot : spot = none := by
        have := World.cell?_spot (hC 0 (by omega)).1
        simpa [Addr.add] using this
      subst hspot
      rw [Addr.add_lit] at h1
      exact ⟨b, off, rfl, h1⟩
    · obtain ⟨i, hi, rfl⟩ := List.mem_map.1 hq
      exact (hC i (List.mem_range.1 hi)).2.1
    · obtain ⟨i, hi, rfl⟩ := List.mem_map.1 hq
      exact (hC i (List.mem_range.1 hi)).2.2
set_option maxRecDepth 100000 in
theorem lists_fitW {H : Type} {ts : List TypeId} {ds : List (DataW H)} {j : Nat} {d : DataW H} {vs : List Lvx} (h : (DataW.weightsEach Tryz.prog ts ds).all (· ≤ reachBytes) = true) (ht : ts[j]? = some 22) (hd : ds[j]? = some d)
    (hn : vs.length = 0 ∨ ∃ (P : List (Lvx × DataW H)) (sp : List (DataW H)), P.map Prod.fst = vs ∧ d = .slice (P.map Prod.snd) sp ∧ ∀ q ∈ P, LvW q) :
    vs.length ≤ 140737488355328 ∧ ∀ v ∈ vs, v.l.length ≤ 140737488355328 ∧ ∀ c ∈ v.l, CxMax c ∧ wtX c ≤ 562949953421312 := by
  rcases hn with h0 | ⟨P, sp, rfl, rfl, hP⟩
  · obtain rfl : vs = [] := List.eq_nil_of_length_eq_zero h0
    exact ⟨by simp, fun c hc => by cases hc⟩
  · have h1 := sized_slice h ht hd Tryz.underlying22
    rw [bytesListW] at h1
    simp only [reachBytes, List.length_map] at h1
    refine ⟨by rw [List.length_map]; omega, fun v hv => ?_⟩
    obtain ⟨q, hq, rfl⟩ := List.mem_map.1 hv
    have hw : ∀ n ∈ q.2.weights Tryz.prog 26, n ≤ big := fun n hn =>
      reach_mem h ht hd (by
        simp only [DataW.weights, Tryz.underlying22, List.mem_cons, List.mem_append]
        exact .inr (.inl (weightsX_mem (List.mem_map_of_mem hq) n hn)))
    rcases hP q hq with h0 | ⟨sp', e⟩
    · have hnil : q.1.l = [] := List.eq_nil_of_length_eq_zero h0
      rw [hnil]
      exact ⟨by simp, fun c hc => by cases hc⟩
    · rw [e] at hw
      simp only [DataW.weights, Tryz.underlying26, List.mem_cons, List.mem_append] at hw
      have h2 := hw _ (.inl rfl)
      rw [bytesXC, List.length_map] at h2
      unfold big at h2
      refine ⟨by omega, fun c hc => ?_⟩
      have hw2 : ∀ n ∈ (cxD (H := H) c).weights Tryz.prog 50, n ≤ big := fun n hn => hw n (.inr (.inl (weightsX_mem (List.mem_map_of_mem hc) n hn)))
      rw [cxD_weights] at hw2
      have a0 := hw2 c.k.t.size (by simp)
      have a1 := hw2 c.k.p.size (by simp)
      have a2 := hw2 c.k.c.size (by simp)
      have a3 := hw2 c.v.s.size (by simp)
      have hm : big ≤ maxLen := by decide
      refine ⟨⟨Nat.le_trans a0 hm, Nat.le_trans a1 hm, Nat.le_trans a2 hm, Nat.le_trans a3 hm⟩, ?_⟩
      unfold big at a0 a1 a2 a3
      unfold wtX
      omega
end Go.Proofs.YtglaocghcgcghaaGreatDoor
