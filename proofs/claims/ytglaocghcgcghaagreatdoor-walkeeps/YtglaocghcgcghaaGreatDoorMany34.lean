/-
  SEVERAL TEXTS IN ONE: WkRead, WkOpen, WalLaid.
-/
import Derived.Test.YtglaocghcgcghaaGreatDoorMany27
import Derived.Test.YtglaocghcgcghaaGreatDoorMany30
import Derived.Test.YtglaocghcgcghaaGreatDoorMany20
import Derived.Test.YtglaocghcgcghaaGreatDoorMany29
import Derived.Deep.Slices
import Derived.Lib.SmallJoins
namespace Go.Proofs.YtglaocghcgcghaaGreatDoor
open Go.RowKit Go.Proofs.YtglaocghcgcghaaGreatDoor.walBack
attribute [local go_sem] Oper.pureAt Oper.pureUpon

/-- What the segments hold. -/
structure Segs (A : Ab) (N : List Int) (F : Int → List UInt8) (rs : Int → List (List Cx)) (sz : Int → Nat) : Prop where
  ok : ∀ n ∈ N, okW n = true
  has : ∀ n ∈ N, ∃ t, findT A.sp (nmW n) = some t ∧ t.bs = F n
  len : ∀ n ∈ N, (F n).length ≤ 600000
  told : ∀ n ∈ N, ToldW (F n) (rs n) (sz n)
  whole : ∀ i n, N[i]? = some n → i + 1 < N.length → sz n = (F n).length
  few : N.length ≤ 1000
/-- The records that were gathered, and how the last segment ends. -/
structure RdI (n0 : Nat) (N : List Int) (F : Int → List UInt8) (rs : Int → List (List Cx)) (sz : Int → Nat) (i : Nat) (T : List Yl) (v sl : Value) (tn : Bool) (w W : World) : Prop where
  row : W.ownsRow n0 26 1 v T.length (T.map Yl.v)
  cnt : T.length ≤ 600000 * i
  ins : ∀ y ∈ T, YIn n0 y W
  told : T.map Yl.r = ((N.take i).map rs).flatten
  blk : Blk W (n0 + 1) [sl, .bool tn] 96
  res : Blk W n0 [.slice none 0 0, .bool false] 96
  low : Below n0 w W
  bs : w.heap.size = n0
  shp : ∃ a z c, sl = .slice a z c
  none : i = 0 → sl = .slice none 0 0 ∧ tn = false
  last : ∀ j n, i = j + 1 → N[j]? = some n → tn = decide (sz n < (F n).length) ∧ ∃ ao c vb, sl = .slice ao (sz n) c ∧ vb = .slice ao (F n).length c ∧ (F n).length ≤ c ∧ W.ownsRow n0 5 1 vb (F n).length (B8 (F n))
theorem src_ownL {w : World} {base n : Nat} {v : Value} {xs : List Value} (h : w.ownsRow base 26 1 v n xs) (h1 : ∀ u ∈ xs, u.oneCell' = true) : Src Tryz.prog 1 22 v n xs w := by
  have hl := h.1
  rcases h.2 with ⟨rfl, rfl⟩ | ⟨g, cap, cur, rfl, _⟩
  · have : xs = [] := List.eq_nil_of_length_eq_zero (by simpa using hl)
    subst this
    exact Src.ofNil w Tryz.underlying22 0
  · exact Src.ofSlice w Tryz.underlying22 _ n cap xs (by rw [hl]) (h.cells (g := g) rfl) h1
theorem yl_one (T : List Yl) : ∀ u ∈ T.map Yl.v, u.oneCell' = true := fun u hu => by
  obtain ⟨x, _, rfl⟩ := List.mem_map.1 hu
  rfl
theorem sz_le {A : Ab} {N : List Int} {F : Int → List UInt8} {rs : Int → List (List Cx)} {sz : Int → Nat} (h : Segs A N F rs sz) {n : Int} (hn : n ∈ N) : sz n ≤ (F n).length ∧ (rs n).length ≤ 600000 := by
  have h1 := (h.told n hn).le
  have h2 := h.len n hn
  omega
theorem yin_alloc {n0 : Nat} {y : Yl} {W : World} (h : YIn n0 y W) (o : Obj) : YIn n0 y (W.alloc o) := ⟨other_alloc h.1, h.2⟩
theorem yin_below {n0 : Nat} {y : Yl} {W W' : World} (h : YIn n0 y W) (hb : Below W.heap.size W W') : YIn n0 y W' := ⟨owBelow h.1 hb, h.2⟩
theorem yin_mono {n0 n1 : Nat} {y : Yl} {W : World} (h : YIn n1 y W) (hn : n0 ≤ n1) : YIn n0 y W := by
  refine ⟨⟨h.1.1, ?_⟩, h.2⟩
  rcases h.1.2 with h0 | ⟨g, cap, cur, e, hg, r⟩
  · exact .inl h0
  · exact .inr ⟨g, cap, cur, e, Nat.le_trans hn hg, r⟩
theorem own_mono {n0 n1 : Nat} {e : TypeId} {k n : Nat} {v : Value} {xs : List Value} {W : World} (h : W.ownsRow n1 e k v n xs) (hn : n0 ≤ n1) : W.ownsRow n0 e k v n xs := by
  refine ⟨h.1, ?_⟩
  rcases h.2 with h0 | ⟨g, cap, cur, e, hg, r⟩
  · exact .inl h0
  · exact .inr ⟨g, cap, cur, e, Nat.le_trans hn hg, r⟩
/-- A block of another make lies as it lay behind an append. -/
theorem blk_grew {W W' : World} {g : Nat} {cs : List Value} {t : TypeId} (h : Blk W g cs t) {base n size : Nat} {e : TypeId} {v v' : Value} {xs : List Value} (ho : W.ownsRow base e size v n xs) (hg : Grew W W' v v') (hne : t ≠ e) : Blk W' g cs t := rw_grown ho hg.rows hne h
theorem belowN_none {w w' : World} (h : w.grownBy w' none) : Below w.heap.size w w' := ⟨h.os, h.tape, h.output, h.size, fun k hk => h.block k hk (by simp)⟩
theorem RdI.nz {n0 : Nat} {N : List Int} {F : Int → List UInt8} {rs : Int → List (List Cx)} {sz : Int → Nat} {i : Nat} {T : List Yl} {v sl : Value} {tn : Bool} {w W : World} (h : RdI n0 N F rs sz i T v sl tn w W) : n0 ≤ W.heap.size := by
  have := h.low.size
  have := h.bs
  omega
theorem RdI.below {n0 : Nat} {N : List Int} {F : Int → List UInt8} {rs : Int → List (List Cx)} {sz : Int → Nat} {i : Nat} {T : List Yl} {v sl : Value} {tn : Bool} {w W W' : World} (h : RdI n0 N F rs sz i T v sl tn w W) (hb : Below W.heap.size W W') : RdI n0 N F rs sz i T v sl tn w W' :=
  ⟨owBelow h.row hb, h.cnt, fun y hy => yin_below (h.ins y hy) hb, h.told, h.blk.carry (hb.block _ h.blk.lt), h.res.carry (hb.block _ h.res.lt), h.low.trans (hb.mono h.nz), h.bs, h.shp, h.none, fun j n hj hn => by
    obtain ⟨a, ao, c, vb, b1, b2, b3, b4⟩ := h.last j n hj hn
    exact ⟨a, ao, c, vb, b1, b2, b3, owBelow b4 hb⟩⟩
/-- One segment more. -/
theorem RdI.step {n0 : Nat} {N : List Int} {F : Int → List UInt8} {rs : Int → List (List Cx)} {sz : Int → Nat} {i : Nat} {T xs : List Yl} {v sl : Value} {tn : Bool} {w W W2 W' : World} {n : Int} (h : RdI n0 N F rs sz i T v sl tn w W) (hn : N[i]? = some n) (hb : Below W.heap.size W W2)
    {ao : Option Addr} {c : Nat} (hv : W2.ownsRow n0 5 1 (.slice ao (F n).length c) (F n).length (B8 (F n))) (hc : (F n).length ≤ c) (hx : ∀ y ∈ xs, YIn n0 y W2) (hr : xs.map Yl.r = rs n) (hxl : xs.length ≤ 600000) {v' : Value} (ho : W'.ownsRow n0 26 1 v' (T.length + xs.length) (T.map Yl.v ++ xs.map Yl.v)) (hg : Grew W2 W' v v') :
    RdI n0 N F rs sz (i + 1) (T ++ xs) v' (.slice ao (sz n) c) (decide (sz n < (F n).length)) w ((W'.setCell ⟨n0 + 1, 0, Option.none⟩ (.slice ao (sz n) c)).setCell ⟨n0 + 1, 1, Option.none⟩ (.bool (decide (sz n < (F n).length)))) := by
  have h2 := h.below hb
  have hne1 : (96 : Nat) ≠ 26 := by decide
  have hne2 : (50 : Nat) ≠ 26 := by decide
  have hne3 : (5 : Nat) ≠ 26 := by decide
  have b1 : Blk W' (n0 + 1) [sl, .bool tn] 96 := blk_grew h2.blk h2.row hg hne1
  have b0 : Blk W' n0 [.slice Option.none 0 0, .bool false] 96 := blk_grew h2.res h2.row hg hne1
  have hlow : Below n0 W2 W' := hg.below h2.nz fun g e => (h2.row.lt g e).1
  have oset : ∀ {e : TypeId} {k m : Nat} {u : Value} {ys : List Value}, e ≠ 96 → W'.ownsRow n0 e k u m ys → ((W'.setCell ⟨n0 + 1, 0, Option.none⟩ (.slice ao (sz n) c)).setCell ⟨n0 + 1, 1, Option.none⟩ (.bool (decide (sz n < (F n).length)))).ownsRow n0 e k u m ys := fun {e k m u ys} hne hu => owns_heap hu fun g hg => by
    have hgn : g ≠ n0 + 1 := fun he => by
      subst he
      rcases hu.2 with ⟨e1, _⟩ | ⟨g', cap, cur, e1, _, hh, _⟩
      · rw [e1] at hg; cases hg
      · rw [e1] at hg
        obtain rfl : g' = n0 + 1 := by simpa [Value.ownBlock] using hg
        have hh' := hh.symm.trans b1
        simp only [Option.some.injEq, Obj.cells.injEq] at hh'
        exact hne hh'.2.1
    rw [Below.heap_setCell _ _ _ _ (by simpa using hgn), Below.heap_setCell _ _ _ _ (by simpa using hgn)]
  refine ⟨?_, ?_, fun y hy => ?_, ?_, (b1.setTo 0 _ _ rfl).setTo 1 _ _ rfl, ?_, ?_, h.bs, ⟨_, _, _, rfl⟩, fun h0 => (by omega), fun j m hj hm => ?_⟩
  · rw [List.length_append, List.map_append]
    exact oset (by decide) ho
  · have := h.cnt
    rw [List.length_append]; omega
  · have : YIn n0 y W' := by
      rcases List.mem_append.1 hy with hy | hy
      · exact ⟨other_grew (h2.ins y hy).1 h2.row hg hne2, (h2.ins y hy).2⟩
      · exact ⟨other_grew (hx y hy).1 h2.row hg hne2, (hx y hy).2⟩
    exact ⟨oset (by decide) this.1, this.2⟩
  · have ht : N.take (i + 1) = N.take i ++ [n] := by rw [List.take_add_one, hn]; rfl
    rw [List.map_append, h.told, hr, ht, List.map_append, List.flatten_append]
    simp
  · refine b0.carry ?_
    rw [Below.heap_setCell _ _ _ _ (by simp), Below.heap_setCell _ _ _ _ (by simp)]
  · exact ((h2.low.trans hlow).setCell (by exact Nat.le_succ _) _).setCell (by exact Nat.le_succ _) _
  · obtain rfl : j = i := by omega
    obtain rfl : n = m := by rw [hn] at hm; exact Option.some.inj hm
    exact ⟨rfl, ao, c, _, rfl, rfl, hc, oset (by decide) (other_grew hv h2.row hg hne3)⟩
/-- What read told: the records, and how the last segment ends. -/
structure RdO (n0 : Nat) (N : List Int) (F : Int → List UInt8) (rs : Int → List (List Cx)) (sz : Int → Nat) (T : List Yl) (v sl : Value) (tn : Bool) (w W : World) : Prop where
  row : W.ownsRow n0 26 1 v T.length (T.map Yl.v)
  ins : ∀ y ∈ T, YIn n0 y W
  told : T.map Yl.r = (N.map rs).flatten
  low : Below n0 w W
  none : N = [] → sl = .slice none 0 0 ∧ tn = false
  last : ∀ j n, N.length = j + 1 → N[j]? = some n → tn = decide (sz n < (F n).length) ∧ ∃ ao c vb, sl = .slice ao (sz n) c ∧ vb = .slice ao (F n).length c ∧ (F n).length ≤ c ∧ W.ownsRow n0 5 1 vb (F n).length (B8 (F n))
theorem RdI.out {n0 : Nat} {N : List Int} {F : Int → List UInt8} {rs : Int → List (List Cx)} {sz : Int → Nat} {T : List Yl} {v sl : Value} {tn : Bool} {w W : World} (h : RdI n0 N F rs sz N.length T v sl tn w W) (x y : Value) :
    RdO n0 N F rs sz T v sl tn w ((W.setCell ⟨n0, 0, Option.none⟩ x).setCell ⟨n0, 1, Option.none⟩ y).drew ∧ Blk ((W.setCell ⟨n0, 0, Option.none⟩ x).setCell ⟨n0, 1, Option.none⟩ y).drew n0 [x, y] 96 := by
  have oset : ∀ {e : TypeId} {k m : Nat} {u : Value} {ys : List Value}, e ≠ 96 → W.ownsRow n0 e k u m ys → ((W.setCell ⟨n0, 0, Option.none⟩ x).setCell ⟨n0, 1, Option.none⟩ y).drew.ownsRow n0 e k u m ys := fun {e k m u ys} hne hu => owns_heap hu fun g hg => by
    have hgn : g ≠ n0 := fun he => by
      subst he
      rcases hu.2 with ⟨e1, _⟩ | ⟨g', cap, cur, e1, _, hh, _⟩
      · rw [e1] at hg; cases hg
      · rw [e1] at hg
        obtain rfl : g' = g := by simpa [Value.ownBlock] using hg
        have hh' := hh.symm.trans h.res
        simp only [Option.some.injEq, Obj.cells.injEq] at hh'
        exact hne hh'.2.1
    show ((W.setCell ⟨n0, 0, Option.none⟩ x).setCell ⟨n0, 1, Option.none⟩ y).heap[g]? = _
    rw [Below.heap_setCell _ _ _ _ (by simpa using hgn), Below.heap_setCell _ _ _ _ (by simpa using hgn)]
  refine ⟨⟨oset (by decide) h.row, fun z hz => ⟨oset (by decide) (h.ins z hz).1, (h.ins z hz).2⟩, by rw [h.told, List.take_length], ((h.low.setCell (by exact Nat.le_refl _) _).setCell (by exact Nat.le_refl _) _).drew, fun hN => h.none (by rw [hN]; rfl), fun j n hj hn => ?_⟩, (h.res.setTo 0 _ _ rfl).setTo 1 _ _ rfl⟩
  obtain ⟨a, ao, c, vb, b1, b2, b3, b4⟩ := h.last j n hj hn
  exact ⟨a, ao, c, vb, b1, b2, b3, oset (by decide) b4⟩
theorem bytes_cap {W : World} {base n : Nat} {v : Value} {xs : List Value} (h : W.ownsRow base 5 1 v n xs) : ∃ a c, v = .slice a n c ∧ n ≤ c ∧ c ≤ maxLen ∧ Lies W.heap.size a n := by
  rcases h.2 with ⟨e, h0⟩ | ⟨g, c, cur, e, hb, hg, hn, hm, _⟩
  · exact ⟨none, 0, by rw [e, h0], by omega, Nat.zero_le _, .inl h0⟩
  · exact ⟨_, c, e, hn, hm, .inr ⟨g, 0, rfl, (Array.getElem?_eq_some_iff.1 hg).1⟩⟩
theorem read_at {w0 : World} {d lb : Nat} {A : Ab} {n : Int} {b : Bool} {ft : List Nat} {u : World} (h : LyF w0 d lb A n b ft u) (hon : A.on = true) {m : Int} {t : Sig} (hg : refuse true [tB (nmW m)] = 0) (ht : findT A.sp (nmW m) = some t) (hl : t.bs.length ≤ 600000) :
    Calls Tryz.prog 21 #[.pointer (some ⟨d, 0, none⟩), .string (tB (nmW m))] u fun x w' => ∃ a c, x = .returned (.tuple #[.slice a t.bs.length c, .int .i64 0]) ∧ t.bs.length ≤ c ∧ c ≤ maxLen ∧ Lies w'.heap.size a t.bs.length ∧ w'.ownsRow u.heap.size 5 1 (.slice a t.bs.length c) t.bs.length (B8 t.bs) ∧ Below u.heap.size u w' := by
  refine (ab_read h.1 (tB (nmW m)) (tB_max (nmW m) (by have := nmW_len m; omega)) (by rw [hon]; exact hg) (t := t) (by rw [nameOf_tB]; exact ht) (by omega)).mono ?_
  rintro x w' ⟨v, rfl, ho, hgr⟩
  obtain ⟨a, c, rfl, h1, h2, h3⟩ := bytes_cap ho
  exact ⟨a, c, rfl, h1, h2, h3, ho, belowN_none hgr⟩
set_option maxRecDepth 100000 in
set_option maxHeartbeats 8000000 in
theorem readY {w0 : World} {d lb : Nat} {A : Ab} {n : Int} {b : Bool} {ft : List Nat} {w : World} (he : EnvW w0) (ht : Tab w0) (ue : TypeId) (pv : Value) (hE : Err w0 ue pv) (h : LyF w0 d lb A n b ft w) (hon : A.on = true) (ao : Option Addr) (N : List Int) (cap : Nat) (hI : ISees w ao N) {F : Int → List UInt8} {rs : Int → List (List Cx)} {sz : Int → Nat} (hS : Segs A N F rs sz) (hg : ∀ n ∈ N, refuse true [tB (nmW n)] = 0) :
    Calls Tryz.prog 46 #[.pointer (some ⟨lb, 0, none⟩), .slice ao N.length cap] w fun x w' => ∃ (v sl : Value) (tn : Bool) (T : List Yl), x = .returned (.tuple #[v, .agg #[sl, .bool tn], .int .i64 0]) ∧ RdO w.heap.size N F rs sz T v sl tn w w' := by
  obtain ⟨iL, hiL, hl0, hl1, hl2⟩ := info_parts infoLs
  obtain ⟨n0, hn0⟩ : ∃ n0, w.heap.size = n0 := ⟨_, rfl⟩
  obtain ⟨wa, hwa⟩ : ∃ wa, wa = (w.alloc (.cells #[.slice none 0 0, .bool false] 96)).alloc (.cells #[.slice none 0 0, .bool false] 96) := ⟨_, rfl⟩
  have k1 : Blk wa n0 [.slice none 0 0, .bool false] 96 := by rw [hwa, ← hn0]; exact (Blk.new w _ _).alloc _
  have k2 : Blk wa (n0 + 1) [.slice none 0 0, .bool false] 96 := by
    rw [hwa]
    have := Blk.new (w.alloc (.cells #[.slice none 0 0, .bool false] 96)) [.slice none 0 0, .bool false] 96
    rw [World.size_alloc, hn0] at this; exact this
  have hba : Below n0 w wa := by rw [hwa, ← hn0]; exact ((Below.refl _ _).alloc (Nat.le_refl _) _).alloc (by simp) _
  have HW : Hid ((w.alloc (.cells #[.slice none 0 0, .bool false] 96)).alloc (.cells #[.slice none 0 0, .bool false] 96) = wa) := hwa.symm
  have H0 : Hid (RdI n0 N F rs sz 0 [] (.slice none 0 0) (.slice none 0 0) false w wa) := ⟨World.ownsRow_nil _ _ _ _, Nat.zero_le _, fun y hy => (by cases hy), rfl, k2, k1, hba, hn0, ⟨_, _, _, rfl⟩, fun _ => ⟨rfl, rfl⟩, fun j n hj => (by omega)⟩
  have HU : Hid (∀ u, Below n0 w u → LyF w0 d lb A n b ft u ∧ Tab u ∧ Err u ue pv ∧ u.cell? ⟨lb, 0, none⟩ = some (.pointer (some ⟨d, 0, none⟩))) := fun u hu => by
    have h1 := h.more (u := u) (by rw [hn0]; exact hu)
    exact ⟨h1, ht.below h1.bel (Nat.le_refl _), hE.below h1.bel (Nat.le_refl _), h1.blk.cell 0 rfl⟩
  have HN : Hid (∀ (i : Nat) (u : World), i < N.length → Below n0 w u → ∃ (bb off : Nat) (m : Int), ao = some ⟨bb, off, none⟩ ∧ N[i]? = some m ∧ u.cell? ⟨bb, off + i, none⟩ = some (.int .i64 m)) := fun i u hi hu => by
    obtain ⟨bb, off, e, hc⟩ := (hI.below (w' := u) (B := n0) hu (by omega)) i _ (List.getElem?_eq_getElem hi)
    exact ⟨bb, off, _, e, List.getElem?_eq_getElem hi, hc⟩
  have HCN : Hid (∀ m ∈ N, ∀ u, Below w0.heap.size w0 u → Calls Tryz.prog 38 #[.int .i64 m] u fun x w' => x = .returned (.string (tB (nmW m))) ∧ Below u.heap.size u w') := fun m hm u hu => by
    have := okW_iff.1 (hS.ok m hm)
    exact nameW_any m (by omega) (by omega) u (he.below hu (Nat.le_refl _))
  have HCR : Hid (∀ m ∈ N, ∀ u, LyF w0 d lb A n b ft u → Calls Tryz.prog 21 #[.pointer (some ⟨d, 0, none⟩), .string (tB (nmW m))] u fun x w' => ∃ a c, x = .returned (.tuple #[.slice a (F m).length c, .int .i64 0]) ∧ (F m).length ≤ c ∧ c ≤ maxLen ∧ Lies w'.heap.size a (F m).length ∧ w'.ownsRow u.heap.size 5 1 (.slice a (F m).length c) (F m).length (B8 (F m)) ∧ Below u.heap.size u w') := fun m hm u hu => by
    obtain ⟨t, h1, h2⟩ := hS.has m hm
    have := read_at hu hon (hg m hm) h1 (by rw [h2]; exact hS.len m hm)
    rw [h2] at this
    exact this
  have HS : Hid (Segs A N F rs sz) := hS
  have hlz : (N.length : Int) ≤ 1000 := by have := hS.few; omega
  clear hwa k1 k2 hba he ht hE h hI hS hon hg
  go_enter Tryz.func46, Tryz.ntmps46
  go_wp2_with fail
  rw [HW.out]
  clear HW
  go_loopw [7, 17] (fun s7 s17 wr => ∃ (i : Nat) (T : List Yl) (v sl : Value) (tn : Bool), i ≤ N.length ∧ s17 = .int .i64 (i : Int) ∧ v = s7 ∧ RdI n0 N F rs sz i T v sl tn w wr) (fun _ s17 _ => N.length - (intOf s17).toNat)
  case atStart => exact ⟨0, [], _, _, false, Nat.zero_le _, rfl, rfl, H0.out⟩
  case round =>
    obtain ⟨i, T, s7, sl, tn, hi, rfl, rfl, hR⟩ := hrel
    rcases Nat.lt_or_ge i N.length with hlt | hge
    · obtain ⟨bb, off, m, rfl, hm, hc⟩ := HN.out i wr hlt hR.low
      have hmem : m ∈ N := List.mem_of_getElem? hm
      have hltz : (i : Int) < (N.length : Int) := by omega
      obtain rfl : tn = false := by
        rcases Nat.eq_zero_or_pos i with h0 | h0
        · exact (hR.none h0).2
        · obtain ⟨j, rfl⟩ : ∃ j, i = j + 1 := ⟨i - 1, by omega⟩
          have hj : N[j]? = some N[j] := List.getElem?_eq_getElem (by omega)
          rw [(hR.last j _ rfl hj).1]
          exact decide_eq_false (by have := HS.out.whole j _ hj (by omega); omega)
      have e0 := hR.blk.cell 0 rfl
      have e1 := hR.blk.cell 1 rfl
      obtain ⟨hL, hT, hEr, cl⟩ := HU.out wr hR.low
      have HL : Hid (LyF w0 d lb A n b ft wr) := hL
      have CN : Hid (∀ u, Below w0.heap.size w0 u → Calls Tryz.prog 38 #[.int .i64 m] u fun x w' => x = .returned (.string (tB (nmW m))) ∧ Below u.heap.size u w') := HCN.out m hmem
      have CR : Hid (∀ u, LyF w0 d lb A n b ft u → Calls Tryz.prog 21 #[.pointer (some ⟨d, 0, none⟩), .string (tB (nmW m))] u fun x w' => ∃ a c, x = .returned (.tuple #[.slice a (F m).length c, .int .i64 0]) ∧ (F m).length ≤ c ∧ c ≤ maxLen ∧ Lies w'.heap.size a (F m).length ∧ w'.ownsRow u.heap.size 5 1 (.slice a (F m).length c) (F m).length (B8 (F m)) ∧ Below u.heap.size u w') := HCR.out m hmem
      have HR : Hid (RdI n0 N F rs sz i T s7 sl false w wr) := hR
      have HM : Hid (N[i]? = some m ∧ m ∈ N) := ⟨hm, hmem⟩
      have HFl : Hid ((F m).length ≤ 600000 ∧ sz m ≤ (F m).length ∧ (rs m).length ≤ 600000) := ⟨HS.out.len m hmem, sz_le HS.out hmem⟩
      have HTL : Hid (T.length ≤ 600000 * 1000) := by
        have h1 := hR.cnt
        have h2 := HS.out.few
        have h3 : 600000 * i ≤ 600000 * 1000 := Nat.mul_le_mul_left _ (by omega)
        exact Nat.le_trans h1 h3
      have c0 : ∀ q : LC d lb, q.u.cell? ⟨lb, 0, none⟩ = some (.pointer (some ⟨d, 0, none⟩)) := fun q => q.h
      haveI : Nonempty (LC d lb) := ⟨⟨wr, cl⟩⟩
      clear HN HCN HCR hR hL hT hEr hmem hm
      go_wp2_with fail
      refine wp_region_sched (fun w' => ∃ p : LC d lb, w' = p.u) [(0, true), (1, true), (2, true), (3, true), (4, true), (5, false), (6, false), (7, true), (8, true), (9, true), (10, true), (11, true)] rfl (by kernel_rfl) (by kernel_rfl) (by kernel_rfl) (LyC.of HL.out.drew) ?_
      iterate 5 (refine sched_pure rfl (fun K hK => ?_); go_simp; refine hK _ ?_; clear hK K)
      refine sched_loud rfl (fun K hK => ?_)
      go_simp
      refine (CN.out _ HL.out.drew.bel).mono ?_
      rintro e u1 ⟨rfl, hu1⟩
      have hu1f := HL.out.drew.more hu1
      have hu1b : Below wr.heap.size wr u1 := (Below.refl _ _).drew.trans hu1
      refine hK _ _ (LyC.of hu1f) ?_
      clear hK K
      refine sched_loud rfl (fun K hK => ?_)
      go_simp
      refine (CR.out _ hu1f).mono ?_
      rintro e u2 ⟨a, c, rfl, hfc, hcm, hlies, hown, hu2⟩
      have hu2f := hu1f.more hu2
      refine hK _ _ (LyC.of hu2f) ?_
      clear hK K
      iterate 5 (refine sched_pure rfl (fun K hK => ?_); go_simp; refine hK _ ?_; clear hK K)
      refine sched_nil ?_
      have hb2 : Below wr.heap.size wr u2 := hu1b.trans (hu2.mono hu1b.size)
      have hlow2 : Below n0 w u2 := HR.out.low.trans (hb2.mono HR.out.nz)
      obtain ⟨-, hT2, hE2, -⟩ := HU.out u2 hlow2
      have hn1 : n0 ≤ u1.heap.size := Nat.le_trans HR.out.nz hu1b.size
      have HV : Hid (u2.ownsRow n0 5 1 (.slice a (F m).length c) (F m).length (B8 (F m))) := own_mono hown hn1
      have hsee : Sees u2 a (F m) := by
        obtain ⟨a', c', e', hs', -⟩ := owns_sees hown
        cases e'
        exact hs'
      have CS : Hid (Calls Tryz.prog 72 #[.slice a (F m).length c] u2 fun e w' => ∃ (v : Value) (xs : List Yl), e = .returned (.tuple #[v, .int .i64 (sz m : Int)]) ∧ xs.map Yl.r = rs m ∧ w'.ownsRow n0 26 1 v xs.length (xs.map Yl.v) ∧ (∀ x ∈ xs, YIn n0 x w') ∧ Below u2.heap.size u2 w') := by
        have hlen := HFl.out.1
        refine (scanW_any a (F m) c u2 hsee hlies (by omega) hfc (by unfold maxLen at hcm; omega) hT2 ue pv hE2).mono ?_
        rintro e w' ⟨v, xs, k, rfl, hT', hrow, hin, hB⟩
        obtain ⟨e1, e2⟩ := hT'.uniq (HS.out.told m HM.out.2)
        subst e2
        have hn2 : n0 ≤ u2.heap.size := Nat.le_trans hn1 hu2.size
        exact ⟨v, xs, rfl, e1, own_mono hrow hn2, fun x hx => yin_mono (hin x hx) hn2, hB⟩
      have HB2 : Hid (Below wr.heap.size wr u2) := hb2
      have HFC : Hid ((F m).length ≤ c) := hfc
      clear hown hsee hlies hT2 hE2 hlow2 hu1f hu1b hu1 hu2 hu2f CN CR c0 cl hb2 HL
      go_wp2_with fail
      go_fit CS.out
      rintro e w3 ⟨v3, xs, rfl, hxr, hrow3, hin3, hb3⟩
      have hb23 : Below wr.heap.size wr w3 := HB2.out.trans (hb3.mono HB2.out.size)
      have hR3 := HR.out.below hb23
      have hxl : xs.length ≤ 600000 := by
        have := congrArg List.length hxr
        rw [List.length_map] at this
        have := HFl.out.2.2
        omega
      have HST : Hid (∀ v' w', w'.ownsRow n0 26 1 v' (T.length + xs.length) (T.map Yl.v ++ xs.map Yl.v) → Grew w3 w' s7 v' → RdI n0 N F rs sz (i + 1) (T ++ xs) v' (.slice a (sz m) c) (decide (sz m < (F m).length)) w ((w'.setCell ⟨n0 + 1, 0, none⟩ (.slice a (sz m) c)).setCell ⟨n0 + 1, 1, none⟩ (.bool (decide (sz m < (F m).length)))) ∧ Blk w' (n0 + 1) [sl, .bool false] 96) := fun v' w' ho hgr =>
        ⟨HR.out.step HM.out.1 hb23 (owBelow HV.out hb3) HFC.out hin3 hxr hxl ho hgr, blk_grew hR3.blk hR3.row hgr (by decide)⟩
      have HRW : Hid (w3.ownsRow n0 26 1 s7 T.length (T.map Yl.v)) := hR3.row
      have HSR : Hid (Src Tryz.prog 1 22 v3 xs.length (xs.map Yl.v) w3) := src_ownL hrow3 (yl_one xs)
      have hbs : n0 ≤ w3.heap.size := hR3.nz
      have hz1 : ((sz m : Nat) : Int) ≤ (c : Int) := by have := HFl.out.2.1; have := HFC.out; omega
      have hz2 : ((F m).length : Int) ≤ 600000 := by have := HFl.out.1; omega
      obtain ⟨tb, htb⟩ : ∃ tb, decide (sz m < (F m).length) = tb := ⟨_, rfl⟩
      have htz : decide ((sz m : Int) < ((F m).length : Int)) = tb := by rw [← htb]; simp
      rw [htb] at HST
      have hT1 := HTL.out
      clear hrow3 hin3 hb3 hb23 hR3 hxr HB2 HV HR HFl HFC CS e0 e1 hc
      generalize (F m).length = fl at *
      generalize sz m = z at *
      go_wp2_with (at_builtin; go_must (refine wpList_append_grew _ rfl _ _ 22 22 rfl n0 26 iL _ 1 24 Tryz.underlying22 hiL hl0 hl1 hl2 rfl s7 T.length (T.map Yl.v) rfl HRW.out _ xs.length (xs.map Yl.v) rfl HSR.out (by unfold maxLen; omega) (by omega) hbs ?_; intro v5 w5 ho5 hg5; obtain ⟨hN5, hK5⟩ := HST.out v5 w5 ho5 hg5; have e0 := hK5.cell 0 rfl; have e1 := hK5.cell 1 rfl; have f0 := hK5.frozen 0; have f1 := hK5.frozen 1))
      go_roundw
      case rel => exact ⟨i + 1, T ++ xs, _, _, tb, by omega, by go_num, rfl, hN5⟩
      case measure => (simp [intOf]; try omega)
    · obtain rfl : i = N.length := by omega
      obtain ⟨sa, sb, sc, rfl⟩ := hR.shp
      have e0 := hR.blk.cell 0 rfl
      have e1 := hR.blk.cell 1 rfl
      have e2 := hR.res.cell 0 rfl
      have e3 := hR.res.cell 1 rfl
      have f0 := hR.res.frozen 0
      have f1 := hR.res.frozen 1
      have HO : Hid (RdO n0 N F rs sz T s7 (.slice sa sb sc) tn w ((wr.setCell ⟨n0, 0, none⟩ (.slice sa sb sc)).setCell ⟨n0, 1, none⟩ (.bool tn)).drew ∧ Blk ((wr.setCell ⟨n0, 0, none⟩ (.slice sa sb sc)).setCell ⟨n0, 1, none⟩ (.bool tn)).drew n0 [.slice sa sb sc, .bool tn] 96) := hR.out (.slice sa sb sc) (.bool tn)
      clear HN HCN HCR HU hR H0
      go_wp2_with fail
      go_region
      generalize ((wr.setCell ⟨n0, 0, none⟩ (.slice sa sb sc)).setCell ⟨n0, 1, none⟩ (.bool tn)).drew = wz at *
      clear e0 e1 e2 e3 f0 f1
      go_wp2_with fail
      refine bodyPost_ret (results_tct Tryz.results46 _ wz n0 96 _ (0, 0) _ rfl HO.out.2 Tryz.underlying96 rfl (by kernel_rfl)) rfl ?_
      refine ⟨s7, _, tn, T, rfl, ?_⟩
      rw [hn0]
      exact HO.out.1
end Go.Proofs.YtglaocghcgcghaaGreatDoor
namespace Go.Proofs.YtglaocghcgcghaaGreatDoor
open Go.RowKit Go.Proofs.YtglaocghcgcghaaGreatDoor.walBack
attribute [local go_sem] Oper.pureAt Oper.pureUpon

set_option maxRecDepth 100000 in
set_option maxHeartbeats 1000000 in
theorem numbersY_any {w0 : World} {d lb : Nat} {A : Ab} {n : Int} {w : World} (he : EnvW w0) (h : Lg w0 d lb A n w) (hon : A.on = true) (hl : A.sp.length ≤ 1000) (hsz : ∀ t ∈ A.sp, t.nm.length ≤ 1000) :
    Calls Tryz.prog 36 #[.pointer (some ⟨lb, 0, none⟩)] w fun e w' => ∃ (ao : Option Addr) (cap : Nat) (N : List Int), e = .returned (.slice ao N.length cap) ∧ N.length ≤ cap ∧ ISees w' ao N ∧ (∀ a, ao = some a → w.heap.size ≤ a.block) ∧ N.Perm ((A.sp.map Sig.nm).filterMap numO) ∧ N.Pairwise (· ≤ ·) ∧ Below w.heap.size w w' := by
  obtain ⟨i1, hi1, hy0, hy1, hy2⟩ : ∃ i, Tryz.prog.info? 3 = some i ∧ i.zero = some (.int .i64 0) ∧ i.size = 1 ∧ i.bytes = 8 := by
    obtain ⟨i, hi, he⟩ := Option.map_eq_some_iff.1 infoInt
    exact ⟨i, hi, by injection he, by injection he with _ h2; injection h2, by injection he with _ h2; injection h2⟩
  have CL : Hid (Calls Tryz.prog 19 #[.pointer (some ⟨d, 0, none⟩)] w fun e w' => ∃ (ao : Option Addr) (cap : Nat) (L : List (List UInt8)), e = .returned (.slice ao L.length cap) ∧ L.Perm (A.sp.map Sig.nm) ∧ L.Pairwise (fun a b => decide (a ≤ b) = true) ∧ (∀ i s, L[i]? = some s → ∃ b, ao = some ⟨b, 0, none⟩ ∧ w'.cell? ⟨b, i, none⟩ = some (.string (tB s))) ∧ Below w.heap.size w w') := listL_any h hon hl
  have c0 := h.blk.cell 0 rfl
  have HBW : Hid (Below w0.heap.size w0 w) := h.bel
  have HE : Hid (∀ u, Below w.heap.size w u → EnvW u) := fun u hu => he.below (HBW.out.trans (hu.mono HBW.out.size)) (Nat.le_refl _)
  have HSZ : Hid (∀ L : List (List UInt8), L.Perm (A.sp.map Sig.nm) → L.length ≤ 1000 ∧ ∀ s ∈ L, s.length ≤ 1000) := fun L hp => by
    refine ⟨by rw [hp.length_eq, List.length_map]; exact hl, fun s hs => ?_⟩
    obtain ⟨t, ht, rfl⟩ := List.mem_map.1 (hp.subset hs)
    exact hsz t ht
  clear h he hon hl hsz
  go_enter Tryz.func36, Tryz.ntmps36
  go_wp2_with fail
  go_fit CL.out
  rintro e w1 ⟨ao, cap, L, rfl, hp, _, hcell, hB1⟩
  obtain ⟨hL, hLs⟩ := HSZ.out L hp
  have HCE : Hid (∀ i s, L[i]? = some s → ∃ b, ao = some ⟨b, 0, none⟩ ∧ w1.cell? ⟨b, i, none⟩ = some (.string (tB s))) := hcell
  have HPP : Hid (L.Perm (A.sp.map Sig.nm)) := hp
  have HLS : Hid (∀ s ∈ L, s.length ≤ 1000) := hLs
  have HB1 : Hid (Below w.heap.size w w1) := hB1
  have hLz : (L.length : Int) ≤ 1000 := by omega
  clear hp hcell hLs hB1 CL c0
  go_wp2_with fail
  go_loopw [3, 14] (fun s3 s14 wr => ∃ i : Nat, i ≤ L.length ∧ s14 = .int .i64 (i : Int) ∧ wr.ownsRow w1.heap.size 3 1 s3 ((L.take i).filterMap numO).length (vI ((L.take i).filterMap numO)) ∧ Below w1.heap.size w1 wr) (fun _ s14 _ => L.length - (intOf s14).toNat)
  case atStart => exact ⟨0, by omega, rfl, World.ownsRow_nil _ _ _ _, Below.refl _ _⟩
  case round =>
    obtain ⟨i, hi, rfl, hown, hbr⟩ := hrel
    have hfl := fm_len L i
    rcases Nat.lt_or_ge i L.length with hlt | hge
    · have hltz : (i : Int) < (L.length : Int) := by omega
      have hx : L[i]? = some L[i] := List.getElem?_eq_getElem hlt
      have hs := fm_succ hx
      have hsz := HLS.out L[i] (List.getElem_mem hlt)
      generalize L[i] = s at *
      obtain ⟨b, rfl, cb⟩ := HCE.out i s hx
      have c1 : wr.cell? ⟨b, i, none⟩ = some (.string (tB s)) := by rw [hbr.cell (World.block_lt_of_cell? _ _ cb)]; exact cb
      have CN : Hid (Calls Tryz.prog 61 #[.string (tB s)] wr fun x w' => x = .returned (.tuple #[.int .i64 (numR s).1, .bool (numR s).2]) ∧ Below wr.heap.size wr w') := by
        have := numberW_any (tB s) (by rw [tB_size]; omega) wr (HE.out wr (HB1.out.trans (hbr.mono HB1.out.size)))
        rw [tB_list] at this; exact this
      obtain ⟨⟨k, ok⟩, hnr⟩ : ∃ p, numR s = p := ⟨_, rfl⟩
      have hno : numO s = if ok then some k else none := by unfold numO; rw [hnr]
      rw [hnr] at CN
      have HBR : Hid (∀ u, RowKit.Below wr.heap.size wr u → RowKit.Below w1.heap.size w1 u) := fun u hu => hbr.trans (hu.mono hbr.size)
      have hbs : w1.heap.size ≤ wr.heap.size := hbr.size
      obtain ⟨a3, c3, rfl⟩ : ∃ a c, u3 = .slice a ((L.take i).filterMap numO).length c := by
        rcases hown.2 with ⟨rfl, h0⟩ | ⟨g, cap, cur, rfl, _⟩
        · exact ⟨_, _, by rw [h0]⟩
        · exact ⟨_, _, rfl⟩
      have HOW : Hid (∀ u, RowKit.Below wr.heap.size wr u → u.ownsRow w1.heap.size 3 1 (.slice a3 ((L.take i).filterMap numO).length c3) ((L.take i).filterMap numO).length (vI ((L.take i).filterMap numO))) := fun u hu => owns_carry hown fun g hg => hu.block g (hown.lt g hg).2
      have HLT : Hid (∀ g, (Value.slice a3 ((L.take i).filterMap numO).length c3).ownBlock = some g → w1.heap.size ≤ g) := fun g hg => (hown.lt g hg).1
      cases ok with
      | true =>
        have HS : Hid ((L.take (i + 1)).filterMap numO = (L.take i).filterMap numO ++ [k]) := by show _ = _; rw [hs, hno]; rfl
        clear hown hbr hs hno hnr hx cb hsz
        generalize (L.take i).filterMap numO = P at *
        go_wp2_with fail
        go_fit CN.out
        rintro e u1 ⟨rfl, hu1⟩
        have hsz1 : w1.heap.size ≤ u1.heap.size := Nat.le_trans hbs hu1.size
        have hou := HOW.out u1 hu1
        go_wp2_with (at_builtin; go_must (refine wpList_append_grew _ rfl _ _ 78 78 rfl w1.heap.size 3 i1 _ 1 8 Tryz.underlying78 hi1 hy0 hy1 hy2 rfl _ P.length (vI P) rfl (hou.alloc _) _ 1 [.int .i64 k] rfl (src_one_intW u1 k) (by unfold maxLen; omega) (by omega) (by rw [World.size_alloc]; omega) ?_; intro v3 w3 ho3 g3))
        have HN : Hid (w3.ownsRow w1.heap.size 3 1 v3 ((L.take (i + 1)).filterMap numO).length (vI ((L.take (i + 1)).filterMap numO)) ∧ RowKit.Below w1.heap.size w1 w3) := by
          rw [HS.out, List.length_append]
          refine ⟨?_, (HBR.out u1 hu1).trans (((RowKit.Below.refl _ _).alloc hsz1 _).trans (g3.below (by rw [World.size_alloc]; omega) HLT.out))⟩
          have e : vI (P ++ [k]) = vI P ++ [.int .i64 k] := by simp [vI]
          rw [e]; exact ho3
        clear ho3 g3 hou hu1
        go_roundw
        case rel => exact ⟨i + 1, by omega, by go_num, HN.out⟩
        case measure => (simp [intOf]; try omega)
      | false =>
        have HS : Hid ((L.take (i + 1)).filterMap numO = (L.take i).filterMap numO) := by show _ = _; rw [hs, hno]; simp
        clear hown hbr hs hno hnr hx cb hsz
        go_wp2_with fail
        go_fit CN.out
        rintro e u1 ⟨rfl, hu1⟩
        have HN : Hid (u1.ownsRow w1.heap.size 3 1 (.slice a3 ((L.take i).filterMap numO).length c3) ((L.take (i + 1)).filterMap numO).length (vI ((L.take (i + 1)).filterMap numO)) ∧ RowKit.Below w1.heap.size w1 u1) := by
          rw [HS.out]
          exact ⟨HOW.out u1 hu1, HBR.out u1 hu1⟩
        clear hu1
        go_wp2_with fail
        go_roundw
        case rel => exact ⟨i + 1, by omega, by go_num, HN.out⟩
        case measure => (simp [intOf]; try omega)
    · obtain rfl : i = L.length := by omega
      have hgez : ¬ (L.length : Int) < (L.length : Int) := by omega
      rw [List.take_length] at hown
      have hPl : (L.filterMap numO).length ≤ 1000000 := by have := List.length_filterMap_le numO L; omega
      obtain ⟨a3, c3, rfl⟩ : ∃ a c, u3 = .slice a (L.filterMap numO).length c := by
        rcases hown.2 with ⟨rfl, h0⟩ | ⟨g, cap, cur, rfl, _⟩
        · exact ⟨_, _, by rw [h0]⟩
        · exact ⟨_, _, rfl⟩
      have CS := sort_ownI hown hPl
      have HBR : Hid (RowKit.Below w1.heap.size w1 wr) := hbr
      have hperm : ((L.filterMap numO).mergeSort fun x y => decide (x ≤ y)).Perm ((A.sp.map Sig.nm).filterMap numO) := (List.mergeSort_perm _ _).trans (HPP.out.filterMap _)
      have hsort : ((L.filterMap numO).mergeSort fun x y => decide (x ≤ y)).Pairwise (· ≤ ·) := (List.pairwise_mergeSort (le := fun x y : Int => decide (x ≤ y)) (fun a b c h1 h2 => by simp at *; omega) (fun a b => by simp; omega) _).imp fun h => by simpa using h
      have hlen : ((L.filterMap numO).mergeSort fun x y => decide (x ≤ y)).length = (L.filterMap numO).length := List.length_mergeSort _
      have HQ : Hid (((L.filterMap numO).mergeSort fun x y => decide (x ≤ y)).Perm ((A.sp.map Sig.nm).filterMap numO) ∧ ((L.filterMap numO).mergeSort fun x y => decide (x ≤ y)).Pairwise (· ≤ ·) ∧ ((L.filterMap numO).mergeSort fun x y => decide (x ≤ y)).length = (L.filterMap numO).length) := ⟨hperm, hsort, hlen⟩
      clear hperm hsort hlen hown hbr hfl hge
      generalize (L.filterMap numO).mergeSort (fun x y => decide (x ≤ y)) = N at *
      generalize (L.filterMap numO).length = m at *
      go_wp2_with fail
      go_fit CS
      rintro e w3 ⟨rfl, ho3, hb3⟩
      have HF : Hid ((ISees w3 a3 N ∧ (∀ a, a3 = some a → w.heap.size ≤ a.block)) ∧ RowKit.Below w.heap.size w w3) := by
        obtain ⟨a', c', e', h'⟩ := owns_isees ho3
        obtain rfl : a3 = a' := by injection e'
        have hfr : ∀ a, a3 = some a → w.heap.size ≤ a.block := fun a e => by
          subst e
          have h1 : w1.heap.size ≤ a.block := (ho3.lt a.block rfl).1
          exact Nat.le_trans HB1.out.size h1
        exact ⟨⟨h', hfr⟩, HB1.out.trans ((HBR.out.trans (hb3 w1.heap.size (Nat.le_refl _) HBR.out.size)).mono HB1.out.size)⟩
      have HCP : Hid (N.length ≤ c3) := by
        have h2 := HQ.out.2.2
        show N.length ≤ c3
        rcases ho3.2 with ⟨e1, h0⟩ | ⟨g, cp, cur, e1, _, _, hnc, _⟩
        · injection e1; omega
        · injection e1; omega
      clear ho3 hb3
      go_wp2_with fail
      go_ret
      exact ⟨a3, c3, N, by rw [HQ.out.2.2]; rfl, HCP.out, HF.out.1.1, HF.out.1.2, HQ.out.1, HQ.out.2.1, HF.out.2⟩
theorem wrapL {L : Nat} (h : (L : Int) ≤ 1000) : IntKind.i64.wrap (L : Int) = (L : Int) := by
  have h1 : (0 : Int) ≤ (L : Int) := Int.natCast_nonneg L
  rw [IntKind.wrap_i64]
  omega
/-- Worlds in which the last number, and how the last segment ends, lie where they lie. -/
structure LZ (p q : Addr) (m : Int) (sl : Value) where
  u : World
  h : u.cell? p = some (.int .i64 m)
  k : u.cell? q = some sl
/-- Records that were told, behind a call that wrote the log and its disk. -/
def ToldR (n0 : Nat) (rs : List (List Cx)) (v : Value) (w : World) : Prop := ∃ T : List Yl, w.ownsRow n0 26 1 v T.length (T.map Yl.v) ∧ (∀ y ∈ T, YIn n0 y w) ∧ T.map Yl.r = rs
theorem ToldR.moved {n0 : Nat} {rs : List (List Cx)} {v : Value} {w w' : World} (h : ToldR n0 rs v w) {a b : List Nat} (hm : Moved w w' a b) (ha : ∀ i ∈ a, i < n0) : ToldR n0 rs v w' := by
  obtain ⟨T, h1, h2, h3⟩ := h
  have hk : ∀ {e : TypeId} {k m : Nat} {u : Value} {ys : List Value}, w.ownsRow n0 e k u m ys → w'.ownsRow n0 e k u m ys := fun hu => owns_heap hu fun g hg => hm.kept g (hu.lt g hg).2 fun hi => by
    have := ha g hi
    have := (hu.lt g hg).1
    omega
  exact ⟨T, hk h1, fun y hy => ⟨hk (h2 y hy).1, (h2 y hy).2⟩, h3⟩
theorem ToldR.below {n0 : Nat} {rs : List (List Cx)} {v : Value} {w w' : World} (h : ToldR n0 rs v w) (hb : Below w.heap.size w w') : ToldR n0 rs v w' := h.moved (moved_below (ft := []) hb) (by simp)
theorem ToldR.low {n0 n1 : Nat} {rs : List (List Cx)} {v : Value} {w : World} (h : ToldR n1 rs v w) (hn : n0 ≤ n1) : ToldR n0 rs v w := by
  obtain ⟨T, h1, h2, h3⟩ := h
  exact ⟨T, own_mono h1 hn, fun y hy => yin_mono (h2 y hy) hn, h3⟩
theorem Nice.chain {q : Int × Ab} {f : Ab → Int × Ab} {k j : Nat} (h : Nice q.2 k) (hf : Nice q.2 k → Nice (f q.2).2 (k + j)) : Nice (chainW q f).2 (k + j) := by
  by_cases h0 : q.1 = 0
  · rw [chainW_ok h0]; exact hf h
  · rw [chainW_no h0]; exact h.mono (Nat.le_add_right _ _)
theorem Nice.mend {A : Ab} {k : Nat} (h : Nice A k) {m : Int} {l : List UInt8} (hz : ∀ t, findT (createX A (tB spW)).2.sp spW = some t → t.bs.length + l.length ≤ 600000) : Nice (mendX A m l).2 (k + 4) := by
  have hmx : mendX A m l = chainW (createX A (tB spW)) fun A1 => chainW (fillW A1 l) fun A2 => chainW (syncX A2 (tB spW)) fun A3 => renameX A3 (tB spW) (tB (nmW m)) := rfl
  rw [hmx]
  refine Nice.chain (j := 3) (h.create (tB spW)) fun h1 => ?_
  refine Nice.chain (k := k + 1 + 1) (j := 2) (h1.fill hz) fun h2 => ?_
  exact Nice.chain (k := k + 1 + 1 + 1) (j := 1) (h2.sync _) fun h3 => h3.rename _ _
theorem Nice.beginX {A : Ab} {k : Nat} (h : Nice A k) (m : Int) : Nice (beginX A m).2 (k + 2) := Nice.chain (j := 1) (h.create _) fun h1 => h1.sync _
set_option maxRecDepth 100000 in
set_option maxHeartbeats 8000000 in
theorem openLY {w0 : World} {d lb : Nat} {A : Ab} {ft : List Nat} {w : World} (he : EnvW w0) (ht : Tab w0) (ue : TypeId) (pv : Value) (hE : Err w0 ue pv) (h : LyF w0 d lb A 0 false ft w) (hon : A.on = true) {N : List Int} {L : Nat} {m : Int} (hNL : N.length = L + 1) (hNm : N[L]? = some m) (hN1 : ∀ x ∈ N, 1 ≤ x) (hNs : N.Pairwise (· < ·)) (hNn : (A.sp.map Sig.nm).filterMap numO = N)
    {F : Int → List UInt8} {rs : Int → List (List Cx)} {sz : Int → Nat} (hS : Segs A N F rs sz) (hg : ∀ n ∈ N, refuse true [tB (nmW n)] = 0) (hm1 : okW (m + 1) = true) (hspl : A.sp.length ≤ 1000) (hnl : ∀ t ∈ A.sp, t.nm.length ≤ 1000) {k : Nat} (hN : Nice A k) (hk : k + 10 ≤ 2000) (hz : ∀ t, findT (createX A (tB spW)).2.sp spW = some t → t.bs.length + sz m ≤ 600000)
    {q : Int × Ab} (hq : openX A (decide (sz m < (F m).length)) ((F m).take (sz m)) m (m + 1) = q) :
    Calls Tryz.prog 23 #[.pointer (some ⟨lb, 0, none⟩), .int .i64 1] w fun x w' => ∃ v, x = .returned (.tuple #[v, .int .i64 q.1]) ∧ (∃ n', LyR w0 d lb q.2 n' false ft w w') ∧ (q.1 = 0 → ToldR w.heap.size (N.map rs).flatten v w') := by
  have hmmem : m ∈ N := List.mem_of_getElem? hNm
  have hmok := hS.ok m hmmem
  have hm0 := hN1 m hmmem
  have hmm := okW_iff.1 hm1
  have hszm := (sz_le hS hmmem).1
  have hFm := hS.len m hmmem
  have hSl : ((F m).take (sz m)).length = sz m := by rw [List.length_take]; omega
  have CN : Hid (Calls Tryz.prog 36 #[.pointer (some ⟨lb, 0, none⟩)] w fun e w' => ∃ (bb off : Nat) (cap : Nat), e = .returned (.slice (some ⟨bb, off, none⟩) (L + 1) cap) ∧ L + 1 ≤ cap ∧ ISees w' (some ⟨bb, off, none⟩) N ∧ w.heap.size ≤ bb ∧ Below w.heap.size w w') := by
    refine (numbersY_any he ⟨ft, h⟩ hon hspl hnl).mono ?_
    rintro e w' ⟨ao, cap, N', rfl, hcp, hI, hnew, hp, hso, hb⟩
    rw [hNn] at hp
    have hNN : N' = N := hp.eq_of_pairwise (fun x y _ _ h2 h3 => Int.le_antisymm h2 h3) hso (hNs.imp fun h => Int.le_of_lt h)
    subst hNN
    obtain ⟨bb, off, e0, -⟩ := hI L m hNm
    subst e0
    rw [hNL] at hcp ⊢
    exact ⟨bb, off, cap, rfl, hcp, hI, hnew _ rfl, hb⟩
  have CB : Hid (∀ bb off cap u, ISees u (some ⟨bb, off, none⟩) N → Calls Tryz.prog 45 #[.slice (some ⟨bb, off, none⟩) (L + 1) cap, .int .i64 1] u fun e w' => ∃ ok, e = .returned (.tuple #[.int .i64 0, .bool ok]) ∧ ∃ q, w' = u.drewN q) := fun bb off cap u hI => by
    refine (Tryz.slices_BinarySearch_int bb off (L + 1) cap N 1 u (by omega) (by have := hS.few; omega) (fun j hj => ?_) (by rw [List.take_of_length_le (by omega)]; exact hNs.imp fun h => Int.le_of_lt h)).mono ?_
    · obtain ⟨b', off', e, hc⟩ := hI j N[j] (List.getElem?_eq_getElem hj)
      cases e
      rw [hc]; simp [List.getD, hj]
    · rintro e w' ⟨rfl, hq⟩
      have : (N.take (L + 1)).countP (fun y => decide (y < 1)) = 0 := by
        rw [List.countP_eq_zero]
        intro y hy
        have := hN1 y (List.mem_of_mem_take hy)
        simp; omega
      exact ⟨(N.take (L + 1)).contains 1, by rw [this]; rfl, hq⟩
  have CR : Hid (∀ bb off cap u, Below w.heap.size w u → ISees u (some ⟨bb, off, none⟩) N → Calls Tryz.prog 46 #[.pointer (some ⟨lb, 0, none⟩), .slice (some ⟨bb, off, none⟩) (L + 1) cap] u fun x w' => ∃ (v : Value) (ao : Option Addr) (c : Nat), x = .returned (.tuple #[v, .agg #[.slice ao (sz m) c, .bool (decide (sz m < (F m).length))], .int .i64 0]) ∧ ToldR u.heap.size (N.map rs).flatten v w' ∧ Below u.heap.size u w' ∧ (F m).length ≤ c ∧ Sees w' ao ((F m).take (sz m)) ∧ ∀ a, ao = some a → u.heap.size ≤ a.block) := fun bb off cap u hu hI => by
    have := readY he ht ue pv hE (h.more hu) hon (some ⟨bb, off, none⟩) N cap hI hS hg
    rw [hNL] at this
    refine this.mono ?_
    rintro x w' ⟨v, sl, tn, T, rfl, hO⟩
    obtain ⟨rfl, ao, c, vb, rfl, rfl, hfc, hown⟩ := hO.last L m hNL hNm
    refine ⟨v, ao, c, rfl, ⟨T, hO.row, hO.ins, hO.told⟩, hO.low, hfc, ?_, fun a e => ?_⟩
    · obtain ⟨a', c', e', hs', -⟩ := owns_sees hown
      cases e'
      intro i hi
      rw [hSl] at hi
      obtain ⟨a, e, hc⟩ := hs' i (by omega)
      refine ⟨a, e, ?_⟩
      rw [hc, List.getD_eq_getElem?_getD, List.getD_eq_getElem?_getD, List.getElem?_take, if_pos hi]
    · subst e
      exact (hown.lt a.block rfl).1
  have CP : Hid (∀ u, Calls Tryz.prog 22 #[.int .i64 (m + 1)] u fun e w' => e = .returned (.bool true) ∧ w' = u) := fun u => by have := possible_any (m + 1) u; rw [hm1] at this; exact this
  have hzS : ∀ t, findT (createX A (tB spW)).2.sp spW = some t → t.bs.length + ((F m).take (sz m)).length ≤ 600000 := fun t ht => by rw [hSl]; exact hz t ht
  have HF : Hid (LyF w0 d lb A 0 false ft w) := h
  have HFT : Hid (∀ i ∈ lb :: ft, i < w.heap.size) := fun i hi => by
    rcases List.mem_cons.1 hi with rfl | hi
    · exact h.blk.lt
    · exact h.1.lt i hi
  have hm1z : m + 1 ≤ 999999999 := hmm.2
  have hm2z : ¬ m + 1 < 1 := by omega
  have hcs : (0 : Int) < ((L + 1 : Nat) : Int) := by omega
  have hLb : (L : Int) ≤ 1000 := by have := hS.few; omega
  obtain ⟨tb, htb⟩ : ∃ tb, decide (sz m < (F m).length) = tb := ⟨_, rfl⟩
  rw [htb] at hq CR
  cases tb with
  | false =>
    have hq' : beginX A (m + 1) = q := by
      rw [← hq]; unfold openX; rw [if_neg (by simp)]; exact (chainW_mk0 A fun A1 => beginX A1 (m + 1)).symm
    have CG0 := fun u (hu : LyF w0 d lb A 0 false ft u) => beginY he hu hm1 hN (by omega)
    rw [hq'] at CG0
    have CG : Hid (∀ u, LyF w0 d lb A 0 false ft u → Calls Tryz.prog 35 #[.pointer (some ⟨lb, 0, none⟩), .int .i64 (m + 1)] u fun x w' => x = .returned (.int .i64 q.1) ∧ LyR w0 d lb q.2 (if q.1 = 0 then m + 1 else 0) false ft u w') := CG0
    clear CG0 hq hq' hzS hz hN hS hg he ht hE h hon hNn hspl hnl hNs hN1 hmok hmmem hk hSl hm1 htb
    go_enter Tryz.func23, Tryz.ntmps23
    go_wp2_with fail
    go_fit CN.out
    rintro e w1 ⟨bb, off, cap, rfl, hcap, hI, hbb, hB1⟩
    have C1 := CB.out bb off cap w1 hI
    have hcapz : ((L + 1 : Nat) : Int) ≤ (cap : Int) := by omega
    go_wp2_with (go_at_call 45; refine C1.mono ?_; rintro e w2 ⟨ok, rfl, nq, rfl⟩)
    have hB2 : Below w.heap.size w (w1.drewN nq) := ⟨hB1.os, hB1.tape, hB1.output, hB1.size, hB1.block⟩
    have C2 := CR.out bb off cap (w1.drewN nq) hB2 hI
    go_wp2_with fail
    go_fit C2
    rintro e w3 ⟨v, ao, c, rfl, hT3, hB3, -, -, -⟩
    have hB13 : Below w.heap.size w w3 := hB2.trans (hB3.mono hB2.size)
    obtain ⟨b', off', e', hcell⟩ := (ISees.below (w := w1.drewN nq) hI hB3 (Nat.le_refl _)) L m hNm
    cases e'
    have hLz : ((L + 1 : Nat) : Int) - 1 = (L : Int) := by omega
    have hn3 : w.heap.size ≤ (w1.drewN nq).heap.size := hB2.size
    have HT3 : Hid (ToldR (w1.drewN nq).heap.size (N.map rs).flatten v w3) := hT3
    have HB13 : Hid (Below w.heap.size w w3) := hB13
    obtain ⟨wx, hwx⟩ : ∃ wx, w3.alloc (.cells #[.slice ao (sz m) c, .bool false] 96) = wx := ⟨_, rfl⟩
    have hcell2 : (w3.alloc (.cells #[.slice ao (sz m) c, .bool false] 96)).cell? ⟨bb, off + L, none⟩ = some (.int .i64 m) := by
      rw [World.cell?_of_block (Below.heap_alloc _ _ _ (World.block_lt_of_cell? _ _ hcell))]
      exact hcell
    have k1 : Blk (w3.alloc (.cells #[.slice ao (sz m) c, .bool false] 96)) w3.heap.size [.slice ao (sz m) c, .bool false] 96 := Blk.new w3 _ _
    have e1 := k1.cell 1 rfl
    have HBX : Hid (Below w3.heap.size w3 (w3.alloc (.cells #[.slice ao (sz m) c, .bool false] 96))) := (Below.refl _ _).alloc (Nat.le_refl _) _
    clear hT3 hB3 hB13 C1 C2 k1 hwx
    go_wp2_with fail
    rw [show max 1 (m + 1) = m + 1 by omega]
    refine (CP.out _).mono ?_
    rintro e u2 ⟨rfl, hu2⟩
    have hBx : Below w.heap.size w u2 := by
      rw [hu2]
      exact HB13.out.trans (HBX.out.mono HB13.out.size)
    have hTx : ToldR (w1.drewN nq).heap.size (N.map rs).flatten v u2 := by
      rw [hu2]
      exact HT3.out.below HBX.out
    have C3 := CG.out u2 (HF.out.more hBx)
    subst hu2
    go_wp2_with fail
    go_fit C3
    rintro e w4 ⟨rfl, hR⟩
    have hft4 : ∀ i ∈ lb :: ft, i < (w1.drewN nq).heap.size := fun i hi => Nat.lt_of_lt_of_le (HFT.out i hi) hn3
    clear C3 hcell2 e1
    go_wp2_with fail
    go_ret2
    refine ⟨v, rfl, ⟨_, hR.pre hBx⟩, fun _ => ?_⟩
    obtain ⟨f4, _, hM⟩ := hR
    exact (hTx.moved hM hft4).low hn3
  | true =>
    have hqq : chainW (mendX A m ((F m).take (sz m))) (fun A1 => beginX A1 (m + 1)) = q := by
      rw [← hq]; unfold openX; rw [if_pos rfl]
    have CM0 : ∀ u ao c, LyF w0 d lb A 0 false ft u → Sees u ao ((F m).take (sz m)) → (∀ a, ao = some a → a.block ∉ lb :: ft) → Calls Tryz.prog 47 #[.pointer (some ⟨lb, 0, none⟩), .int .i64 m, .slice ao (sz m) c] u fun x w' => x = .returned (.int .i64 (mendX A m ((F m).take (sz m))).1) ∧ LyR w0 d lb (mendX A m ((F m).take (sz m))).2 0 false ft u w' := fun u ao c hu hs hne => by
      have := mendY he hu hmok ao _ c hs (fun a e _ => hne a e) hN (by omega) (by rw [hSl]; omega) hzS
      rw [hSl] at this
      exact this
    have hNm1 : Nice (mendX A m ((F m).take (sz m))).2 (k + 4) := hN.mend hzS
    generalize mendX A m ((F m).take (sz m)) = r at *
    obtain ⟨c1, A1⟩ := r
    have CM : Hid (∀ u ao c, LyF w0 d lb A 0 false ft u → Sees u ao ((F m).take (sz m)) → (∀ a, ao = some a → a.block ∉ lb :: ft) → Calls Tryz.prog 47 #[.pointer (some ⟨lb, 0, none⟩), .int .i64 m, .slice ao (sz m) c] u fun x w' => x = .returned (.int .i64 c1) ∧ LyR w0 d lb A1 0 false ft u w') := CM0
    clear CM0
    by_cases h1 : c1 = 0
    · subst h1
      rw [chainW_mk0] at hqq
      have CG0 := fun u f (hu : LyF w0 d lb A1 0 false f u) => beginY he hu hm1 hNm1 (by omega)
      rw [hqq] at CG0
      have CG : Hid (∀ u f, LyF w0 d lb A1 0 false f u → Calls Tryz.prog 35 #[.pointer (some ⟨lb, 0, none⟩), .int .i64 (m + 1)] u fun x w' => x = .returned (.int .i64 q.1) ∧ LyR w0 d lb q.2 (if q.1 = 0 then m + 1 else 0) false f u w') := CG0
      clear CG0 hq hqq hzS hz hN hNm1 hS hg he ht hE h hon hNn hspl hnl hNs hN1 hmok hmmem hk hSl hm1 htb
      go_enter Tryz.func23, Tryz.ntmps23
      go_wp2_with fail
      go_fit CN.out
      rintro e w1 ⟨bb, off, cap, rfl, hcap, hI, hbb, hB1⟩
      have C1 := CB.out bb off cap w1 hI
      have hcapz : ((L + 1 : Nat) : Int) ≤ (cap : Int) := by omega
      go_wp2_with (go_at_call 45; refine C1.mono ?_; rintro e w2 ⟨ok, rfl, nq, rfl⟩)
      have hB2 : Below w.heap.size w (w1.drewN nq) := ⟨hB1.os, hB1.tape, hB1.output, hB1.size, hB1.block⟩
      have C2 := CR.out bb off cap (w1.drewN nq) hB2 hI
      go_wp2_with fail
      go_fit C2
      rintro e w3 ⟨v, ao, c, rfl, hT3, hB3, -, hse, hbl⟩
      have hB13 : Below w.heap.size w w3 := hB2.trans (hB3.mono hB2.size)
      obtain ⟨b', off', e', hcell⟩ := (ISees.below (w := w1.drewN nq) hI hB3 (Nat.le_refl _)) L m hNm
      cases e'
      have hLz : ((L + 1 : Nat) : Int) - 1 = (L : Int) := by omega
      have hn3 : w.heap.size ≤ (w1.drewN nq).heap.size := hB2.size
      have hbx : Below w3.heap.size w3 (w3.alloc (.cells #[.slice ao (sz m) c, .bool true] 96)) := (Below.refl _ _).alloc (Nat.le_refl _) _
      have hBx : Below w.heap.size w (w3.alloc (.cells #[.slice ao (sz m) c, .bool true] 96)) := hB13.trans (hbx.mono hB13.size)
      have hTx : ToldR (w1.drewN nq).heap.size (N.map rs).flatten v (w3.alloc (.cells #[.slice ao (sz m) c, .bool true] 96)) := hT3.below hbx
      have hcell2 : (w3.alloc (.cells #[.slice ao (sz m) c, .bool true] 96)).cell? ⟨bb, off + L, none⟩ = some (.int .i64 m) := by
        rw [World.cell?_of_block (Below.heap_alloc _ _ _ (World.block_lt_of_cell? _ _ hcell))]
        exact hcell
      have k1 : Blk (w3.alloc (.cells #[.slice ao (sz m) c, .bool true] 96)) w3.heap.size [.slice ao (sz m) c, .bool true] 96 := Blk.new w3 _ _
      have e0 := k1.cell 0 rfl
      have e1 := k1.cell 1 rfl
      have hft4 : ∀ i ∈ lb :: ft, i < (w1.drewN nq).heap.size := fun i hi => Nat.lt_of_lt_of_le (HFT.out i hi) hn3
      have C3 := CM.out (w3.alloc (.cells #[.slice ao (sz m) c, .bool true] 96)).drew ao c (HF.out.more hBx).drew ((hse.below hbx (Nat.le_refl _)).below (Below.refl _ _).drew (Nat.le_refl _)) (fun a e hi => by have := hft4 _ hi; have := hbl a e; omega)
      have HLZ : Hid (∀ w' f, Moved (w3.alloc (.cells #[.slice ao (sz m) c, .bool true] 96)).drew w' (lb :: ft) f → ∃ p : LZ ⟨bb, off + L, none⟩ ⟨w3.heap.size, 0, none⟩ m (.slice ao (sz m) c), w' = p.u) := fun w' f hm => by
        refine ⟨⟨w', ?_, ?_⟩, rfl⟩
        · rw [World.cell?_of_block (hm.kept bb (World.block_lt_of_cell? _ _ hcell2) (fun hi => by have := HFT.out _ hi; omega))]
          exact hcell2
        · rw [World.cell?_of_block (hm.kept w3.heap.size (by simp) (fun hi => by have := hft4 _ hi; have := hB3.size; omega))]
          exact e0
      have c0 : ∀ p : LZ ⟨bb, off + L, none⟩ ⟨w3.heap.size, 0, none⟩ m (.slice ao (sz m) c), p.u.cell? ⟨bb, off + L, none⟩ = some (.int .i64 m) := fun p => p.h
      have c1z : ∀ p : LZ ⟨bb, off + L, none⟩ ⟨w3.heap.size, 0, none⟩ m (.slice ao (sz m) c), p.u.cell? ⟨w3.heap.size, 0, none⟩ = some (.slice ao (sz m) c) := fun p => p.k
      obtain ⟨pz, hpz⟩ := HLZ.out _ _ (Moved.refl _ _)
      haveI : Nonempty (LZ ⟨bb, off + L, none⟩ ⟨w3.heap.size, 0, none⟩ m (.slice ao (sz m) c)) := ⟨pz⟩
      have hwL := wrapL hLb
      have hL1 : (L : Int) < (L : Int) + 1 := by omega
      clear hpz hT3 hB3 hB13 C1 C2 k1 hse hbl
      go_wp2_with fail
      rw [show max 1 (m + 1) = m + 1 by omega]
      refine (CP.out _).mono ?_
      rintro e u2 ⟨rfl, hu2⟩
      subst hu2
      go_wp2_with fail
      refine wp_region_sched (fun w' => ∃ p : LZ ⟨bb, off + L, none⟩ ⟨w3.heap.size, 0, none⟩ m (.slice ao (sz m) c), w' = p.u) [(0, true), (1, true), (2, true), (3, true), (4, true), (5, true), (6, true), (7, true), (8, true), (9, false), (10, true)] rfl (by kernel_rfl) (by kernel_rfl) (by kernel_rfl) (HLZ.out _ _ (Moved.refl _ _)) ?_
      iterate 9 (refine sched_pure rfl (fun K hK => ?_); go_simp; refine hK _ ?_; clear hK K)
      refine sched_loud rfl (fun K hK => ?_)
      go_simp
      refine C3.mono ?_
      rintro e w4 ⟨rfl, r4⟩
      refine hK _ _ (by obtain ⟨f, _, hm⟩ := r4; exact HLZ.out _ _ hm) ?_
      clear hK K
      refine sched_pure rfl (fun K hK => ?_)
      go_simp
      refine hK _ ?_
      clear hK K
      refine sched_nil ?_
      obtain ⟨f4, hF4, hM4⟩ := r4
      go_wp2_with fail
      go_fit (CG.out w4 f4 hF4)
      rintro e w5 ⟨rfl, f5, hF5, hM5⟩
      go_wp2_with fail
      go_ret2
      have hM : Moved (w3.alloc (.cells #[.slice ao (sz m) c, .bool true] 96)) w5 (lb :: ft) (lb :: f5) := ((Moved.refl _ _).drew.trans hM4).trans hM5
      exact ⟨v, rfl, ⟨_, f5, hF5, (moved_below hBx).trans hM⟩, fun _ => (hTx.moved hM hft4).low hn3⟩
    · have h1b : (c1 != 0) = true := by simpa using h1
      rw [chainW_mk h1] at hqq
      obtain ⟨rfl, rfl⟩ : c1 = q.1 ∧ A1 = q.2 := by rw [← hqq]; exact ⟨rfl, rfl⟩
      clear hq hqq hzS hz hN hNm1 hS hg he ht hE h hon hNn hspl hnl hNs hN1 hmok hmmem hk hSl hm1 htb
      go_enter Tryz.func23, Tryz.ntmps23
      go_wp2_with fail
      go_fit CN.out
      rintro e w1 ⟨bb, off, cap, rfl, hcap, hI, hbb, hB1⟩
      have C1 := CB.out bb off cap w1 hI
      have hcapz : ((L + 1 : Nat) : Int) ≤ (cap : Int) := by omega
      go_wp2_with (go_at_call 45; refine C1.mono ?_; rintro e w2 ⟨ok, rfl, nq, rfl⟩)
      have hB2 : Below w.heap.size w (w1.drewN nq) := ⟨hB1.os, hB1.tape, hB1.output, hB1.size, hB1.block⟩
      have C2 := CR.out bb off cap (w1.drewN nq) hB2 hI
      go_wp2_with fail
      go_fit C2
      rintro e w3 ⟨v, ao, c, rfl, hT3, hB3, -, hse, hbl⟩
      have hB13 : Below w.heap.size w w3 := hB2.trans (hB3.mono hB2.size)
      obtain ⟨b', off', e', hcell⟩ := (ISees.below (w := w1.drewN nq) hI hB3 (Nat.le_refl _)) L m hNm
      cases e'
      have hLz : ((L + 1 : Nat) : Int) - 1 = (L : Int) := by omega
      have hn3 : w.heap.size ≤ (w1.drewN nq).heap.size := hB2.size
      have hbx : Below w3.heap.size w3 (w3.alloc (.cells #[.slice ao (sz m) c, .bool true] 96)) := (Below.refl _ _).alloc (Nat.le_refl _) _
      have hBx : Below w.heap.size w (w3.alloc (.cells #[.slice ao (sz m) c, .bool true] 96)) := hB13.trans (hbx.mono hB13.size)
      have hTx : ToldR (w1.drewN nq).heap.size (N.map rs).flatten v (w3.alloc (.cells #[.slice ao (sz m) c, .bool true] 96)) := hT3.below hbx
      have hcell2 : (w3.alloc (.cells #[.slice ao (sz m) c, .bool true] 96)).cell? ⟨bb, off + L, none⟩ = some (.int .i64 m) := by
        rw [World.cell?_of_block (Below.heap_alloc _ _ _ (World.block_lt_of_cell? _ _ hcell))]
        exact hcell
      have k1 : Blk (w3.alloc (.cells #[.slice ao (sz m) c, .bool true] 96)) w3.heap.size [.slice ao (sz m) c, .bool true] 96 := Blk.new w3 _ _
      have e0 := k1.cell 0 rfl
      have e1 := k1.cell 1 rfl
      have hft4 : ∀ i ∈ lb :: ft, i < (w1.drewN nq).heap.size := fun i hi => Nat.lt_of_lt_of_le (HFT.out i hi) hn3
      have C3 := CM.out (w3.alloc (.cells #[.slice ao (sz m) c, .bool true] 96)).drew ao c (HF.out.more hBx).drew ((hse.below hbx (Nat.le_refl _)).below (Below.refl _ _).drew (Nat.le_refl _)) (fun a e hi => by have := hft4 _ hi; have := hbl a e; omega)
      have HLZ : Hid (∀ w' f, Moved (w3.alloc (.cells #[.slice ao (sz m) c, .bool true] 96)).drew w' (lb :: ft) f → ∃ p : LZ ⟨bb, off + L, none⟩ ⟨w3.heap.size, 0, none⟩ m (.slice ao (sz m) c), w' = p.u) := fun w' f hm => by
        refine ⟨⟨w', ?_, ?_⟩, rfl⟩
        · rw [World.cell?_of_block (hm.kept bb (World.block_lt_of_cell? _ _ hcell2) (fun hi => by have := HFT.out _ hi; omega))]
          exact hcell2
        · rw [World.cell?_of_block (hm.kept w3.heap.size (by simp) (fun hi => by have := hft4 _ hi; have := hB3.size; omega))]
          exact e0
      have c0 : ∀ p : LZ ⟨bb, off + L, none⟩ ⟨w3.heap.size, 0, none⟩ m (.slice ao (sz m) c), p.u.cell? ⟨bb, off + L, none⟩ = some (.int .i64 m) := fun p => p.h
      have c1z : ∀ p : LZ ⟨bb, off + L, none⟩ ⟨w3.heap.size, 0, none⟩ m (.slice ao (sz m) c), p.u.cell? ⟨w3.heap.size, 0, none⟩ = some (.slice ao (sz m) c) := fun p => p.k
      obtain ⟨pz, hpz⟩ := HLZ.out _ _ (Moved.refl _ _)
      haveI : Nonempty (LZ ⟨bb, off + L, none⟩ ⟨w3.heap.size, 0, none⟩ m (.slice ao (sz m) c)) := ⟨pz⟩
      have hwL := wrapL hLb
      have hL1 : (L : Int) < (L : Int) + 1 := by omega
      clear hpz hT3 hB3 hB13 C1 C2 k1 hse hbl
      go_wp2_with fail
      rw [show max 1 (m + 1) = m + 1 by omega]
      refine (CP.out _).mono ?_
      rintro e u2 ⟨rfl, hu2⟩
      subst hu2
      go_wp2_with fail
      refine wp_region_sched (fun w' => ∃ p : LZ ⟨bb, off + L, none⟩ ⟨w3.heap.size, 0, none⟩ m (.slice ao (sz m) c), w' = p.u) [(0, true), (1, true), (2, true), (3, true), (4, true), (5, true), (6, true), (7, true), (8, true), (9, false), (10, true)] rfl (by kernel_rfl) (by kernel_rfl) (by kernel_rfl) (HLZ.out _ _ (Moved.refl _ _)) ?_
      iterate 9 (refine sched_pure rfl (fun K hK => ?_); go_simp; refine hK _ ?_; clear hK K)
      refine sched_loud rfl (fun K hK => ?_)
      go_simp
      refine C3.mono ?_
      rintro e w4 ⟨rfl, r4⟩
      refine hK _ _ (by obtain ⟨f, _, hm⟩ := r4; exact HLZ.out _ _ hm) ?_
      clear hK K
      refine sched_pure rfl (fun K hK => ?_)
      go_simp
      refine hK _ ?_
      clear hK K
      refine sched_nil ?_
      obtain ⟨f4, hF4, hM4⟩ := r4
      go_wp2_with fail
      go_ret2
      exact ⟨_, rfl, ⟨_, f4, hF4, (moved_below hBx).trans ((Moved.refl _ _).drew.trans hM4)⟩, fun h => absurd h h1⟩
end Go.Proofs.YtglaocghcgcghaaGreatDoor
namespace Go.Proofs.YtglaocghcgcghaaGreatDoor
open Go.ChangeShapes Go.WideShapes Go.ChangeAt Go.RowKit Go.Deep Go.Joins

theorem cellsListW : Tryz.prog.cellsOf 26 = 1 := by kernel_rfl
theorem bytesListW : Tryz.prog.bytesOf 26 = 24 := by kernel_rfl
def LvW {H : Type} (q : Lvx × DataW H) : Prop := q.1.l.length = 0 ∨ ∃ sp, q.2 = .slice (q.1.l.map cxD) sp
set_option maxRecDepth 100000 in
theorem lists_cameW {H : Type} {enc : TypeId × Value → H} {W : World} {ao : Option Addr} {len cap : Nat} {d : DataW H} {p : List MemPlace}
    (h : DataW.Trod enc Tryz.prog W 0 (fun _ => true) true 22 (Value.slice ao len cap) d p) :
    ∃ vs : List Lvx, vs.length = len ∧ LSees W ao vs ∧ (∀ v ∈ vs, XSees W v.ao v.l ∧ ∀ c ∈ v.l, c.In) ∧ (vs.length = 0 ∨ ∃ (P : List (Lvx × DataW H)) (sp : List (DataW H)), P.map Prod.fst = vs ∧ d = .slice (P.map Prod.snd) sp ∧ ∀ q ∈ P, LvW q) := by
  obtain ⟨fuel, hf⟩ := h
  rcases open_slice1 Tryz.underlying22 cellsListW hf with ⟨hcs, _⟩ | ⟨a, n, c, m, k, V, D, Pl, hcs, _, hle, _, hm, hx, hc⟩
  · simp [Value.cells] at hcs
    obtain ⟨rfl, rfl, rfl⟩ := hcs
    exact ⟨[], rfl, (fun i c hc => by simp at hc), (fun q hq => by cases hq), .inl rfl⟩
  · simp [Value.cells] at hcs
    obtain ⟨rfl, rfl, rfl⟩ := hcs
    simp only [if_true] at hm
    subst hm
    haveI : Inhabited Lvx := ⟨⟨none, 0, []⟩⟩
    obtain ⟨C, hC⟩ := choose_lt (α := Lvx) (n := len) (p := fun i q => W.cell? (a.add i) = some q.s ∧ (XSees W q.ao q.l ∧ ∀ c ∈ q.l, c.In) ∧ LvW (q, D i)) (fun i hi => by
      obtain ⟨h1, h2⟩ := hc i (by omega)
      obtain ⟨a', l', c', e⟩ := slice_form Tryz.underlying26 h2
      have e' : V i = .slice a' l' c' := by simpa using e
      rw [e'] at h1 h2
      have h2' : DataW.trod enc Tryz.prog W 0 (fun _ => true) true k 26 (Value.slice a' l' c').cells.toList = some (D i, Pl i) := h2
      obtain ⟨l, rfl, hs, _, hin, hd⟩ := cells_came ⟨k, h2'⟩
      exact ⟨⟨a', c', l⟩, h1, ⟨hs, hin⟩, hd⟩)
    have hd := congrArg Prod.fst hx
    simp only at hd
    refine ⟨(List.range len).map C, by simp, ?_, fun q hq => ?_, .inr ⟨(List.range len).map fun i => (C i, D i), _, by rw [List.map_map]; rfl, by rw [List.map_map]; exact hd, fun q hq => ?_⟩⟩
    · intro i q hi
      have hlt : i < len := by
        have := (List.getElem?_eq_some_iff.1 hi).1
        simpa using this
      simp [hlt] at hi
      subst hi
      obtain ⟨h1, h2, h3⟩ := hC i hlt
      obtain ⟨b, off, spot⟩ := a
      have hspot : spot = none := by
        have := World.cell?_spot (hC 0 (by omega)).1
        simpa [Addr.add] using this
      subst hspot
      rw [Addr.add_lit] at h1
      exact ⟨b, off, rfl, h1⟩
    · obtain ⟨i, hi, rfl⟩ := List.mem_map.1 hq
      exact (hC i (List.mem_range.1 hi)).2.1
    · obtain ⟨i, hi, rfl⟩ := List.mem_map.1 hq
      exact (hC i (List.mem_range.1 hi)).2.2
set_option maxRecDepth 100000 in
theorem lists_fitW {H : Type} {ts : List TypeId} {ds : List (DataW H)} {j : Nat} {d : DataW H} {vs : List Lvx} (h : (DataW.weightsEach Tryz.prog ts ds).all (· ≤ reachBytes) = true) (ht : ts[j]? = some 22) (hd : ds[j]? = some d)
    (hn : vs.length = 0 ∨ ∃ (P : List (Lvx × DataW H)) (sp : List (DataW H)), P.map Prod.fst = vs ∧ d = .slice (P.map Prod.snd) sp ∧ ∀ q ∈ P, LvW q) :
    vs.length ≤ 140737488355328 ∧ ∀ v ∈ vs, v.l.length ≤ 140737488355328 ∧ ∀ c ∈ v.l, CxMax c ∧ wtX c ≤ 562949953421312 := by
  rcases hn with h0 | ⟨P, sp, rfl, rfl, hP⟩
  · obtain rfl : vs = [] := List.eq_nil_of_length_eq_zero h0
    exact ⟨by simp, fun c hc => by cases hc⟩
  · have h1 := sized_slice h ht hd Tryz.underlying22
    rw [bytesListW] at h1
    simp only [reachBytes, List.length_map] at h1
    refine ⟨by rw [List.length_map]; omega, fun v hv => ?_⟩
    obtain ⟨q, hq, rfl⟩ := List.mem_map.1 hv
    have hw : ∀ n ∈ q.2.weights Tryz.prog 26, n ≤ big := fun n hn =>
      reach_mem h ht hd (by
        simp only [DataW.weights, Tryz.underlying22, List.mem_cons, List.mem_append]
        exact .inr (.inl (weightsX_mem (List.mem_map_of_mem hq) n hn)))
    rcases hP q hq with h0 | ⟨sp', e⟩
    · have hnil : q.1.l = [] := List.eq_nil_of_length_eq_zero h0
      rw [hnil]
      exact ⟨by simp, fun c hc => by cases hc⟩
    · rw [e] at hw
      simp only [DataW.weights, Tryz.underlying26, List.mem_cons, List.mem_append] at hw
      have h2 := hw _ (.inl rfl)
      rw [bytesXC, List.length_map] at h2
      unfold big at h2
      refine ⟨by omega, fun c hc => ?_⟩
      have hw2 : ∀ n ∈ (cxD (H := H) c).weights Tryz.prog 50, n ≤ big := fun n hn => hw n (.inr (.inl (weightsX_mem (List.mem_map_of_mem hc) n hn)))
      rw [cxD_weights] at hw2
      have a0 := hw2 c.k.t.size (by simp)
      have a1 := hw2 c.k.p.size (by simp)
      have a2 := hw2 c.k.c.size (by simp)
      have a3 := hw2 c.v.s.size (by simp)
      have hm : big ≤ maxLen := by decide
      refine ⟨⟨Nat.le_trans a0 hm, Nat.le_trans a1 hm, Nat.le_trans a2 hm, Nat.le_trans a3 hm⟩, ?_⟩
      unfold big at a0 a1 a2 a3
      unfold wtX
      omega
end Go.Proofs.YtglaocghcgcghaaGreatDoor
