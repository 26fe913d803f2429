/-
  MEMORY OF A CALL'S OWN, over any program: an append onto a row that the call made, out of whatever source, that tells which block the answer lies in; bytes as cells.
-/
import Derived.WalkKit
import Derived.WalkSpells
import Derived.Deep.AppendSrc
import Derived.Laws.IdiomStrings
import Derived.Laws.BytesString
namespace Go.Proofs.YtglaocghcgcghaaGreatDoor
open Go.RowKit

theorem ret_int {k : IntKind} {a b : Int} (h : a = b) : Ending.returned (.int k a) = .returned (.int k b) := by rw [h]
theorem ret_bool {a b : Bool} (h : a = b) : Ending.returned (.bool a) = .returned (.bool b) := by rw [h]
theorem Addr.add_block (a : Addr) (i : Nat) : (a.add i).block = a.block := by unfold Addr.add; split <;> rfl
/-- Bytes, as cells. -/
def B8 (l : List UInt8) : List Value := l.map fun b => Value.int .u8 (b.toNat : Int)
theorem B8_length (l : List UInt8) : (B8 l).length = l.length := List.length_map _
theorem B8_append (a b : List UInt8) : B8 (a ++ b) = B8 a ++ B8 b := List.map_append
theorem B8_one (l : List UInt8) : ∀ u ∈ B8 l, u.oneCell' = true := by
  intro u hu
  obtain ⟨_, _, rfl⟩ := List.mem_map.1 hu
  rfl
theorem B8_at (l : List UInt8) (i : Nat) (h : i < l.length) : (B8 l)[i]? = some (.int .u8 ((l.getD i 0).toNat : Int)) := by
  simp [B8, h]

/-- The bytes l can be read from the address on. -/
def Sees (w : World) (ao : Option Addr) (l : List UInt8) : Prop := ∀ i, i < l.length → ∃ a, ao = some a ∧ w.cell? (a.add i) = some (.int .u8 ((l.getD i 0).toNat : Int))
theorem Sees.cells {w : World} {a : Addr} {l : List UInt8} (h : Sees w (some a) l) : ∀ j u, (B8 l)[j]? = some u → w.cell? (a.add j) = some u := by
  intro j u hu
  have hj : j < l.length := by
    have := (List.getElem?_eq_some_iff.1 hu).1
    rwa [B8_length] at this
  obtain ⟨a', e, hc⟩ := h j hj
  obtain rfl := Option.some.inj e
  rw [hc, ← hu, B8_at l j hj]
theorem Sees.nil (w : World) (ao : Option Addr) : Sees w ao [] := fun _ h => by cases h

/-- A block that holds just these bytes. -/
def Row (w : World) (g : Nat) (l : List UInt8) : Prop := w.heap[g]? = some (.cells (B8 l).toArray 5 (0, 0))
theorem Row.lt {w : World} {g : Nat} {l : List UInt8} (h : Row w g l) : g < w.heap.size := by
  have := (Array.getElem?_eq_some_iff.1 h).1
  exact this
theorem Row.cell {w : World} {g : Nat} {l : List UInt8} (h : Row w g l) (i : Nat) (hi : i < l.length) : w.cell? ⟨g, i, none⟩ = some (.int .u8 ((l.getD i 0).toNat : Int)) := by
  have e := B8_at l i hi
  unfold Row at h
  simp only [World.cell?, h]
  simpa using e
theorem Row.frozen {w : World} {g : Nat} {l : List UInt8} (h : Row w g l) (i : Nat) : w.frozen? ⟨g, i, none⟩ = false := by
  unfold Row at h
  simp [World.frozen?, h]
theorem Row.set {w : World} {g : Nat} {l : List UInt8} (h : Row w g l) (i : Nat) (b : UInt8) : Row (w.setCell ⟨g, i, none⟩ (.int .u8 (b.toNat : Int))) g (l.set i b) := by
  unfold Row at h ⊢
  simp only [World.setCell, Array.getElem?_modify, h]
  simp [B8, List.map_set]
theorem Row.setZ {w : World} {g : Nat} {l : List UInt8} (h : Row w g l) (i : Nat) (b : UInt8) (z : Int) (hz : (b.toNat : Int) = z) : Row (w.setCell ⟨g, i, none⟩ (.int .u8 z)) g (l.set i b) := by
  subst hz
  exact h.set i b
theorem grownBy_setCell {w w' : World} {g i : Nat} {v : Value} (h : w.grownBy w' (some g)) : w.grownBy (w'.setCell ⟨g, i, none⟩ v) (some g) :=
  ⟨h.os, h.tape, h.output, by simpa [World.setCell] using h.size, fun k hk hne => (Below.heap_setCell _ _ _ _ (fun e => hne (by rw [e]))).trans (h.block k hk hne)⟩
theorem size_setCell (w : World) (a : Addr) (v : Value) : (w.setCell a v).heap.size = w.heap.size := by simp [World.setCell]
theorem Row.sees {w : World} {g : Nat} {l : List UInt8} (h : Row w g l) (off n : Nat) (hn : off + n ≤ l.length) : Sees w (some ⟨g, off, none⟩) ((l.drop off).take n) := by
  intro i hi
  simp only [List.length_take, List.length_drop] at hi
  refine ⟨_, rfl, ?_⟩
  rw [Addr.add_lit, h.cell (off + i) (by omega)]
  have : i < n := by omega
  simp [List.getD, this]
theorem Row.owns {w : World} {g : Nat} {l : List UInt8} (h : Row w g l) {base : Nat} (hb : base ≤ g) (hm : l.length ≤ maxLen) : w.ownsRow base 5 1 (.slice (some ⟨g, 0, none⟩) l.length l.length) l.length (B8 l) :=
  ⟨by rw [B8_length, Nat.mul_one], .inr ⟨g, _, _, rfl, hb, h, Nat.le_refl _, hm, by simp [B8_length], by simp [List.take_of_length_le, B8_length]⟩⟩
theorem Row.of_owns {w : World} {g base n : Nat} {l : List UInt8} (h : w.ownsRow base 5 1 (.slice (some ⟨g, 0, none⟩) n n) n (B8 l)) : Row w g l ∧ l.length = n ∧ base ≤ g := by
  obtain ⟨h1, h2⟩ := h
  rw [B8_length, Nat.mul_one] at h1
  rcases h2 with ⟨h2, _⟩ | ⟨g', cap, cur, hv, hg, hh, hn, hm, hs, ht⟩
  · cases h2
  · cases hv
    refine ⟨?_, h1, hg⟩
    unfold Row
    rw [hh, ← ht, List.take_of_length_le (by simp; omega)]
theorem owns_sees {w : World} {base n : Nat} {l : List UInt8} {v : Value} (h : w.ownsRow base 5 1 v n (B8 l)) : ∃ ao cap, v = .slice ao n cap ∧ Sees w ao l ∧ l.length = n ∧ (ao = none → n = 0 ∧ cap = 0) := by
  have hl : l.length = n := by have := h.1; rwa [B8_length, Nat.mul_one] at this
  have h0 := h
  rcases h.2 with ⟨rfl, rfl⟩ | ⟨g, cap, cur, rfl, hg, hh, hn, hm, hs, ht⟩
  · exact ⟨none, 0, rfl, fun i hi => by omega, hl, fun _ => ⟨rfl, rfl⟩⟩
  · refine ⟨some ⟨g, 0, none⟩, cap, rfl, fun i hi => ⟨_, rfl, ?_⟩, hl, fun e => by cases e⟩
    exact h0.cells (g := g) rfl _ _ (B8_at l i hi)

/-- From v in w to v' in w': only v's own row was written; v' lies in that row or in a new one. -/
structure Grew (w w' : World) (v v' : Value) : Prop where
  rows : w.grownBy w' v.ownBlock
  own : ∀ g, v'.ownBlock = some g → v.ownBlock = some g ∨ w.heap.size ≤ g

theorem Grew.refl (w : World) (v : Value) : Grew w w v v := ⟨⟨rfl, rfl, rfl, Nat.le_refl _, fun _ _ _ => rfl⟩, fun _ h => .inl h⟩
theorem Grew.trans {w w1 w2 : World} {v v1 v2 : Value} (h : Grew w w1 v v1) (k : Grew w1 w2 v1 v2) : Grew w w2 v v2 := by
  have hs := h.rows.size
  refine ⟨⟨k.rows.os.trans h.rows.os, k.rows.tape.trans h.rows.tape, k.rows.output.trans h.rows.output, Nat.le_trans hs k.rows.size, fun i hi hne => ?_⟩, fun g hg => ?_⟩
  · refine (k.rows.block i (by omega) fun e => ?_).trans (h.rows.block i hi hne)
    rcases h.own i e.symm with h1 | h1
    · exact hne h1.symm
    · omega
  · rcases k.own g hg with h1 | h1
    · exact h.own g h1
    · exact .inr (by omega)
theorem Grew.alloc {w w' : World} {o : Obj} {v v' : Value} (h : Grew (w.alloc o) w' v v') : Grew w w' v v' := by
  have hs := h.rows.size
  rw [World.size_alloc] at hs
  refine ⟨⟨h.rows.os, h.rows.tape, h.rows.output, by omega, fun i hi hne => ?_⟩, fun g hg => ?_⟩
  · exact (h.rows.block i (by rw [World.size_alloc]; omega) hne).trans (Below.heap_alloc _ _ _ hi)
  · rcases h.own g hg with h1 | h1
    · exact .inl h1
    · rw [World.size_alloc] at h1; exact .inr (by omega)
theorem Grew.below {w w' : World} {v v' : Value} (h : Grew w w' v v') {B : Nat} (hB : B ≤ w.heap.size) (hv : ∀ g, v.ownBlock = some g → B ≤ g) : Below B w w' :=
  ⟨h.rows.os, h.rows.tape, h.rows.output, h.rows.size, fun k hk => h.rows.block k (by omega) fun e => by have := hv k e.symm; omega⟩
/-- A cell of another block reads as it did. -/
theorem Grew.cell {w w' : World} {v v' : Value} (h : Grew w w' v v') {p : Addr} (hp : p.block < w.heap.size) (hv : v.ownBlock ≠ some p.block) : w'.cell? p = w.cell? p :=
  World.cell?_of_block (h.rows.block p.block hp fun e => hv e.symm)

theorem Sees.below {w w' : World} {ao : Option Addr} {l : List UInt8} (h : Sees w ao l) {B : Nat} (hb : Below B w w') (hB : w.heap.size ≤ B) : Sees w' ao l := by
  intro i hi
  obtain ⟨a, e, hc⟩ := h i hi
  refine ⟨a, e, ?_⟩
  have hlt := World.block_lt_of_cell? _ _ hc
  rw [hb.cell (p := a.add i) (by omega), hc]
theorem Sees.grew {w w' : World} {ao : Option Addr} {l : List UInt8} (h : Sees w ao l) {v v' : Value} (hb : Grew w w' v v') (hne : ∀ a, ao = some a → v.ownBlock ≠ some a.block) : Sees w' ao l := by
  intro i hi
  obtain ⟨a, e, hc⟩ := h i hi
  refine ⟨a, e, ?_⟩
  have hlt := World.block_lt_of_cell? _ _ hc
  rw [hb.cell (p := a.add i) hlt (by rw [Addr.add_block]; exact hne a e), hc]
theorem src_sees {P : Program} {tx e' : TypeId} (hk : P.underlying tx = some (.slice e')) {w : World} {ao : Option Addr} {l : List UInt8} (h : Sees w ao l) (hn : ao = none → l.length = 0) (cap : Nat) : Src P 1 tx (.slice ao l.length cap) l.length (B8 l) w := by
  cases ao with
  | none =>
    obtain rfl : l = [] := List.eq_nil_of_length_eq_zero (hn rfl)
    exact Src.ofNil w hk cap
  | some a => exact Src.ofSlice w hk a _ cap _ (by rw [B8_length, Nat.mul_one]) h.cells (B8_one _)

theorem own_ne {base : Nat} {w : World} {e : TypeId} {size : Nat} {v : Value} {n : Nat} {xs : List Value} (h : w.ownsRow base e size v n xs) {k : Nat} (hk : k < base) : v.ownBlock ≠ some k := fun e => by
  have := (h.lt k e).1
  omega

section
variable {P : Program} (w : World)
/-- An append onto a row of the call's own, out of whatever source. -/
theorem run_append_grew (base : Nat) (t tx ty e : TypeId) (i : TypeInfo) (z : Value) (size bytes : Nat) (ht : P.underlying t = some (.slice e)) (hi : P.info? e = some i) (hz : i.zero = some z)
    (hsize : i.size = size) (hby : i.bytes = bytes) (hzs : z.cells.size = size)
    (v : Value) (n : Nat) (xs : List Value) (hown : w.ownsRow base e size v n xs) (x : Value) (m : Nat) (news : List Value) (hs : Src P size tx x m news w)
    (h63 : n + m ≤ maxLen) (hbytes : (n + m) * bytes ≤ 140737488355328) (hbase : base ≤ w.heap.size) :
    ∃ v' w', (Builtin.append_ #[t, tx] ty #[v, x]).run P w = .ok v' w' ∧ w'.ownsRow base e size v' (n + m) (xs ++ news) ∧ Grew w w' v v' := by
  subst hsize
  subst hby
  have hl := hs.newsLen
  have hsmall : n + m ≤ 9223372036854775807 := by simp only [maxLen] at h63; omega
  have hlen : (xs ++ news).length = (n + m) * i.size := by rw [List.length_append, hown.1, hl, Nat.add_mul]
  have grown : ∀ (old : Nat) (v : Value),
      (w.drew.alloc (.cells ((xs ++ news).toArray ++ Builtin.zeroCells z.cells (grownCap w (n + m) old e - (n + m))) e)).ownsRow base e i.size
        (.slice (some ⟨w.heap.size, 0, none⟩) (n + m) (grownCap w (n + m) old e)) (n + m) (xs ++ news) ∧
      Grew w (w.drew.alloc (.cells ((xs ++ news).toArray ++ Builtin.zeroCells z.cells (grownCap w (n + m) old e - (n + m))) e)) v (.slice (some ⟨w.heap.size, 0, none⟩) (n + m) (grownCap w (n + m) old e)) := by
    intro old v
    have hge := grownCap_ge w (n + m) old e
    have hcm : grownCap w (n + m) old e ≤ maxLen := grownCap_le_maxLen w (n + m) old e h63
    refine ⟨⟨hlen, .inr ⟨w.heap.size, _, _, rfl, hbase, heap_alloc_new w.drew _, hge, hcm, ?_, ?_⟩⟩, ⟨⟨rfl, rfl, rfl, by simp, fun k hk _ => heap_alloc_old w.drew _ hk⟩, fun g hg => .inr (by simp [Value.ownBlock] at hg; omega)⟩⟩
    · simp only [Array.size_append, List.size_toArray, size_zeroCells, hzs, hlen, ← Nat.add_mul]
      congr 1
      omega
    · simp only [Array.toList_append]
      rw [← hlen]
      exact List.take_left
  rcases hown.2 with ⟨rfl, rfl⟩ | ⟨g, cap, cur, rfl, hbg, hg, hnc, hcm, hcs, htake⟩
  · have hx : xs = [] := List.eq_nil_of_length_eq_zero (by simpa using hown.1)
    subst hx
    by_cases hm : m = 0
    · subst hm
      have hn : news = [] := List.eq_nil_of_length_eq_zero (by simpa using hl)
      subst hn
      refine ⟨.slice none 0 0, w, ?_, World.ownsRow_nil w base e i.size, Grew.refl _ _⟩
      rcases hs.kind with ⟨e', hk⟩ | hk <;> simp [Builtin.append_, run_underlying ht, run_underlying hk, sizeOf, typeInfo, hi, hs.len, hs.cells]
    · have hr := run_append_grow_src (P := P) w t tx ty e i z ht hi hz none 0 0 [] (run_firstCells_none w.drew i.size 0 0 0) x m news hs (by omega) (by omega) (growslice_fits (by omega) hbytes)
      have hgr := grown 0 (.slice none 0 0)
      exact ⟨_, _, hr, hgr.1, hgr.2⟩
  · by_cases hroom : n + m ≤ cap
    · have hfit : n * i.size + news.length ≤ cur.size := by rw [hl, hcs, ← Nat.add_mul]; exact Nat.mul_le_mul_right _ hroom
      have hst := run_storeCells_at P g (n * i.size) e news 0 cur w hg (by simpa using hfit) hs.one
      simp only [Nat.add_zero] at hst
      have hr : (Builtin.append_ #[t, tx] ty #[.slice (some ⟨g, 0, none⟩) n cap, x]).run P w =
          .ok (.slice (some ⟨g, 0, none⟩) (n + m) cap) (w.setRow g (cur.toList.take (n * i.size) ++ news ++ cur.toList.drop (n * i.size + news.length)).toArray) := by
        rcases hs.kind with ⟨e', hk⟩ | hk <;> simp [Builtin.append_, run_underlying ht, run_underlying hk, sizeOf, typeInfo, hi, hs.len, hroom, hs.cells, Addr.add_lit, hst]
      refine ⟨_, _, hr, ⟨hlen, .inr ⟨g, cap, _, rfl, hbg, setRow_heap w g cur _ e _ hg, hroom, hcm, ?_, ?_⟩⟩, ⟨⟨rfl, rfl, rfl, by simp, fun k _ hk => setRow_other w g k _ (fun e => hk (by simp [Value.ownBlock, e]))⟩, fun _ h => .inl h⟩⟩
      · simp only [List.size_toArray, List.length_append, List.length_take, List.length_drop, Array.length_toList]
        omega
      · rw [htake, ← hlen]
        exact List.take_left
    · have holds : ∀ j u, xs[j]? = some u → w.cell? ((⟨g, 0, none⟩ : Addr).add j) = some u := hown.cells (g := g) rfl
      have hr := run_append_grow_src (P := P) w t tx ty e i z ht hi hz (some ⟨g, 0, none⟩) n cap xs (run_firstCells_some w.drew i.size n ⟨g, 0, none⟩ n cap xs hown.1 (by simpa using holds)) x m news hs (by omega) (by omega) (growslice_fits (by omega) hbytes)
      have hgr := grown cap (.slice (some ⟨g, 0, none⟩) n cap)
      exact ⟨_, _, hr, hgr.1, hgr.2⟩

theorem wpList_append_grew {ops : Array Oper} {rest : List Oper} {o : Oper} {a : Act} {Q : Exit → Act → World → Prop} (hgd : o.guard = none) (s x : Operand) (t tx : TypeId)
    (ho : o.op = .call { callee := .builtin .append, args := #[s, x], argTypes := #[t, tx] })
    (base : Nat) (e : TypeId) (i : TypeInfo) (z : Value) (size bytes : Nat) (ht : P.underlying t = some (.slice e)) (hi : P.info? e = some i) (hz : i.zero = some z)
    (hsize : i.size = size) (hby : i.bytes = bytes) (hzs : z.cells.size = size)
    (v : Value) (n : Nat) (xs : List Value) (hs : a.eval s = v) (hown : w.ownsRow base e size v n xs)
    (xv : Value) (m : Nat) (news : List Value) (hx : a.eval x = xv) (hsrc : Src P size tx xv m news w)
    (h63 : n + m ≤ maxLen) (hbytes : (n + m) * bytes ≤ 140737488355328) (hbase : base ≤ w.heap.size)
    (h : ∀ v' w', w'.ownsRow base e size v' (n + m) (xs ++ news) → Grew w w' v v' → wpList P ops Q rest (a.put o.dst v') w') : wpList P ops Q (o :: rest) a w := by
  refine wpList_plain hgd fun _ hK => ?_
  obtain ⟨v', w', hr, h2, h3⟩ := run_append_grew (P := P) w base t tx o.type e i z size bytes ht hi hz hsize hby hzs v n xs hown xv m news hsrc h63 hbytes hbase
  unfold Oper.wp execOp
  simp only [ho, resolve, invoke, builtin, Sem.run_bind, Sem.run_pure, Result.andThen_ok, List.map_toArray, List.map_cons, List.map_nil, hs, hx, hr]
  exact hK _ _ (h v' w' h2 h3)
end
end Go.Proofs.YtglaocghcgcghaaGreatDoor
