/-
  SEVERAL TEXTS IN ONE: DskFile, DskMap, DskFind, DskTotal, DskLose, SrtNat, DskLine, DskCrash, DskOper, DskLay, DskOps, DskCalls, DskRead, DskNew, DskMore.
-/
import Derived.Test.YthihljjefncfoaaDoorDskSmall
import Derived.Test.YthihljjefncfoaaDoorDskShelf
import Derived.Deep.DeepFit
import Derived.Test.YthihljjefncfoaaDoorChecked
import Derived.Sort.OwnSortedInts
namespace Go.Proofs.YthihljjefncfoaaDoor
open Go.RowKit Go.Maps

theorem B8_take (l : List UInt8) (n : Nat) : (B8 l).take n = B8 (l.take n) := by simp [B8, List.map_take]
/-- The first n bytes of a row of the file's own. -/
theorem owns_take {w : World} {base : Nat} {g cap len n : Nat} {l : List UInt8} (h : w.ownsRow base 5 1 (.slice (some ⟨g, 0, none⟩) len cap) len (B8 l)) (hn : n ≤ len) : w.ownsRow base 5 1 (.slice (some ⟨g, 0, none⟩) n cap) n (B8 (l.take n)) := by
  obtain ⟨h1, h2⟩ := h
  rw [B8_length, Nat.mul_one] at h1
  refine ⟨by rw [B8_length, List.length_take]; omega, ?_⟩
  rcases h2 with ⟨h2, _⟩ | ⟨g', cap', cur, hv, hb, hg, hc, hm, hs, ht⟩
  · cases h2
  · cases hv
    refine .inr ⟨_, _, cur, rfl, hb, hg, by omega, hm, hs, ?_⟩
    rw [← B8_take, ← ht, List.take_take]
    congr 1
    omega

theorem EntAt.c0 {w : World} {e : Ent} (h : EntAt w e) : w.cell? ⟨e.b, 0, none⟩ = some e.v1 := h.head.cell 0 rfl
theorem EntAt.c1 {w : World} {e : Ent} (h : EntAt w e) : w.cell? ⟨e.b, 1, none⟩ = some (.int .i64 (e.wr : Int)) := h.head.cell 1 rfl
theorem EntAt.c2 {w : World} {e : Ent} (h : EntAt w e) : w.cell? ⟨e.b, 2, none⟩ = some e.v2 := h.head.cell 2 rfl

theorem toList_nil : (Value.slice none 0 0).ownBlock.toList = [] := rfl
/-- The beginning of a slice. -/
def cutV (v : Value) (n : Nat) : Value := match v with | .slice ao _ cap => .slice ao n cap | v => v
/-- So many bytes are there, and all of them are written. -/
def endE (e : Ent) (n : Nat) : Ent := { e with v1 := cutV e.v1 n, v2 := .slice none 0 0, bs := e.bs.take n, wr := n, pl := [] }
/-- All three cells of a file's head are written, its rows stay where they are. -/
theorem ent_end {w : World} {e : Ent} (h : EntAt w e) (n : Nat) (v : Value) (hcv : cutV e.v1 n = v) (hv : w.ownsRow 0 5 1 v n (B8 (e.bs.take n))) (ho : v.ownBlock = e.v1.ownBlock) (z : Int) (hz : z = (n : Int)) (hn : n ≤ e.bs.length) :
    EntAt (((w.setCell ⟨e.b, 0, none⟩ v).setCell ⟨e.b, 1, none⟩ (.int .i64 z)).setCell ⟨e.b, 2, none⟩ (.slice none 0 0)) (endE e n) ∧
      Moved w (((w.setCell ⟨e.b, 0, none⟩ v).setCell ⟨e.b, 1, none⟩ (.int .i64 z)).setCell ⟨e.b, 2, none⟩ (.slice none 0 0)) e.foot (endE e n).foot := by
  subst hz
  have hap := h.apart
  simp only [Ent.foot, List.nodup_cons, List.mem_append, not_or] at hap
  have hk : ∀ j, j ≠ e.b → (((w.setCell ⟨e.b, 0, none⟩ v).setCell ⟨e.b, 1, none⟩ (.int .i64 (n : Int))).setCell ⟨e.b, 2, none⟩ (.slice none 0 0)).heap[j]? = w.heap[j]? := fun j hj =>
    ((Below.heap_setCell _ _ _ _ hj).trans (Below.heap_setCell _ _ _ _ hj)).trans (Below.heap_setCell _ _ _ _ hj)
  have hM : Moved w (((w.setCell ⟨e.b, 0, none⟩ v).setCell ⟨e.b, 1, none⟩ (.int .i64 (n : Int))).setCell ⟨e.b, 2, none⟩ (.slice none 0 0)) [e.b] [e.b] := ((Moved.of_set e.b 0 _).trans (Moved.of_set e.b 1 _)).trans (Moved.of_set e.b 2 _)
  refine ⟨⟨?_, ?_, ?_, ?_⟩, hM.wider (fun i hi => .inl (by simp at hi; simp [Ent.foot, hi])) (fun i hi => ?_)⟩
  · show Blk _ e.b [cutV e.v1 n, .int .i64 (n : Int), .slice none 0 0] _
    rw [hcv]
    exact ((h.head.setTo 0 v [v, .int .i64 (e.wr : Int), e.v2] rfl).setTo 1 _ [v, .int .i64 (n : Int), e.v2] rfl).setTo 2 _ [v, .int .i64 (n : Int), .slice none 0 0] rfl
  · have : (e.bs.take n).length = n := by rw [List.length_take]; omega
    show World.ownsRow _ 0 5 1 (cutV e.v1 n) (e.bs.take n).length (B8 (e.bs.take n))
    rw [this, hcv]
    exact owns_carry hv fun g hg => hk g fun hgb => hap.1.1 (by rw [ho] at hg; simp [hg, hgb])
  · exact World.ownsRow_nil _ _ _ _
  · simp only [Ent.foot, endE, hcv, ho, toList_nil, List.append_nil, List.nodup_cons]
    exact ⟨hap.1.1, (List.nodup_append.1 hap.2).1⟩
  · simp only [Ent.foot, endE, hcv, ho, toList_nil, List.append_nil, List.mem_cons, List.mem_append] at hi ⊢
    rcases hi with h1 | h1
    · exact .inl (.inl h1)
    · exact .inl (.inr (.inl h1))

def InR (x : Int) : Prop := -9223372036854775808 ≤ x ∧ x < 9223372036854775808
theorem secI_bd {x : Int} (h : InR x) : 0 ≤ secI x ∧ secI x ≤ 576460752303423488 := by unfold InR at h; unfold secI; split <;> omega
/-! ### bytes at a file's end -/
/-- How many sectors more become dirty. -/
def growN (len wr np : Nat) : Nat := ((len + 15) / 16 - wr / 16) - np
theorem secI_nat (n : Nat) : secI (n : Int) = ((n + 15) / 16 : Nat) := by unfold secI; split <;> omega
theorem info8D : (Tryd.prog.info? 5).map (fun i => (i.zero, i.size, i.bytes)) = some (some (.int .u8 0), 1, 1) := by kernel_rfl
theorem infoI : (Tryd.prog.info? 3).map (fun i => (i.zero, i.size, i.bytes)) = some (some (.int .i64 0), 1, 8) := by kernel_rfl
theorem src_int (w : World) (z : Int) : Src Tryd.prog 1 22 (.slice (some ⟨w.heap.size, 0, none⟩) 1 1) 1 [.int .i64 z] (w.alloc (.cells #[.int .i64 z] 3)) := by
  refine Src.ofSlice _ Tryd.underlying22 _ 1 1 _ rfl ?_ (by simp [Value.oneCell'])
  intro j u hu
  match j, hu with
  | 0, hu => simp at hu; subst hu; simp [Addr.add]
  | j + 1, hu => simp at hu

/-- The head of a file behind an append onto one of its rows. -/
theorem ent_heads {w w1 : World} {e : Ent} (h : EntAt w e) {v v' : Value} (hg : Grew w w1 v v') (hv : v.ownBlock = e.v1.ownBlock ∨ v.ownBlock = e.v2.ownBlock) : Blk w1 e.b [e.v1, .int .i64 (e.wr : Int), e.v2] 86 := by
  refine h.head.carry (hg.rows.block e.b h.head.lt fun hb => ?_)
  have hap := h.apart
  simp only [Ent.foot, List.nodup_cons, List.mem_append, not_or] at hap
  rcases hv with hv | hv
  · exact hap.1.1 (by rw [← hv, ← hb]; simp)
  · exact hap.1.2 (by rw [← hv, ← hb]; simp)
theorem ent_cells2 {w w1 : World} {e : Ent} (h : EntAt w e) {v' : Value} (hg : Grew w w1 e.v2 v') {b : Nat} (hb : e.b = b) : w1.cell? ⟨b, 2, none⟩ = some e.v2 ∧ w1.frozen? ⟨b, 2, none⟩ = false := by
  subst hb
  exact ⟨(ent_heads h hg (.inr rfl)).cell 2 rfl, (ent_heads h hg (.inr rfl)).frozen 2⟩
theorem mem_own {o : Option Nat} {i : Nat} : i ∈ o.toList ↔ o = some i := by cases o <;> simp [eq_comm]
/-- Bytes were appended, and the new slice is stored. -/
theorem ent_row1 {w w1 : World} {e : Ent} (h : EntAt w e) {v' : Value} {bs' : List UInt8} {n : Nat} (hn : n = bs'.length) (ho : w1.ownsRow 0 5 1 v' n (B8 bs')) (hg : Grew w w1 e.v1 v') :
    EntAt (w1.setCell ⟨e.b, 0, none⟩ v') { e with v1 := v', bs := bs' } ∧ Moved w (w1.setCell ⟨e.b, 0, none⟩ v') e.foot (Ent.foot { e with v1 := v', bs := bs' }) := by
  subst hn
  have hap := h.apart
  have hlt := h.lt
  simp only [Ent.foot, List.nodup_cons, List.mem_append, not_or, List.nodup_append] at hap
  have hown : ∀ g, v'.ownBlock = some g → e.v1.ownBlock = some g ∨ w.heap.size ≤ g := hg.own
  have hb' : ∀ g, v'.ownBlock = some g → g ≠ e.b := fun g hgv hgb => by
    rcases hown g hgv with h1 | h1
    · exact hap.1.1 (mem_own.2 (hgb ▸ h1))
    · have := h.head.lt; omega
  have hne2 : ∀ g, e.v2.ownBlock = some g → g ≠ e.b ∧ some g ≠ e.v1.ownBlock := fun g hg2 => ⟨fun hgb => hap.1.2 (mem_own.2 (hgb ▸ hg2)), fun he => hap.2.2.2 g (mem_own.2 he.symm) g (mem_own.2 hg2) rfl⟩
  have hM : Moved w w1 e.foot e.foot := (Moved.of_grown hg.rows).wider (fun i hi => .inl (by simp only [Ent.foot, List.mem_cons, List.mem_append]; exact .inr (.inl hi))) (fun i hi => .inl hi)
  have hM2 : Moved w1 (w1.setCell ⟨e.b, 0, none⟩ v') e.foot e.foot := (Moved.of_set e.b 0 v').wider (fun i hi => .inl (by simp at hi; simp [Ent.foot, hi])) (fun i hi => .inl hi)
  refine ⟨⟨?_, ?_, ?_, ?_⟩, (hM.trans hM2).wider (fun i hi => .inl hi) (fun i hi => ?_)⟩
  · exact (ent_heads h hg (.inl rfl)).setTo 0 v' _ rfl
  · exact owns_carry ho fun g hgv => Below.heap_setCell _ _ _ _ (hb' g hgv)
  · exact owns_carry h.row2 fun g hg2 => (Below.heap_setCell _ _ _ _ (hne2 g hg2).1).trans (hg.rows.block g (h.row2.lt g hg2).2 (hne2 g hg2).2)
  · simp only [Ent.foot, List.nodup_cons, List.mem_append, not_or, List.nodup_append]
    refine ⟨⟨fun hi => hb' _ (mem_own.1 hi) rfl, hap.1.2⟩, by cases v'.ownBlock <;> simp, hap.2.2.1, fun a ha b hb hab => ?_⟩
    subst hab
    rcases hown a (mem_own.1 ha) with h1 | h1
    · exact hap.2.2.2 a (mem_own.2 h1) a hb rfl
    · have := (h.row2.lt a (mem_own.1 hb)).2; omega
  · simp only [Ent.foot, List.mem_cons, List.mem_append] at hi ⊢
    rcases hi with h1 | h1 | h1
    · exact .inl (.inl h1)
    · rcases hown i (mem_own.1 h1) with h2 | h2
      · exact .inl (.inr (.inl (mem_own.2 h2)))
      · exact .inr (.inr h2)
    · exact .inl (.inr (.inr h1))
/-- Places were appended, and the new slice is stored. -/
theorem ent_row2 {w w1 : World} {e : Ent} (h : EntAt w e) {v' : Value} {pl' : List Nat} {n : Nat} (hn : n = pl'.length) (ho : w1.ownsRow 0 3 1 v' n (I64D pl')) (hg : Grew w w1 e.v2 v') :
    EntAt (w1.setCell ⟨e.b, 2, none⟩ v') { e with v2 := v', pl := pl' } ∧ Moved w (w1.setCell ⟨e.b, 2, none⟩ v') e.foot (Ent.foot { e with v2 := v', pl := pl' }) := by
  subst hn
  have hap := h.apart
  have hlt := h.lt
  simp only [Ent.foot, List.nodup_cons, List.mem_append, not_or, List.nodup_append] at hap
  have hown : ∀ g, v'.ownBlock = some g → e.v2.ownBlock = some g ∨ w.heap.size ≤ g := hg.own
  have hb' : ∀ g, v'.ownBlock = some g → g ≠ e.b := fun g hgv hgb => by
    rcases hown g hgv with h1 | h1
    · exact hap.1.2 (mem_own.2 (hgb ▸ h1))
    · have := h.head.lt; omega
  have hne2 : ∀ g, e.v1.ownBlock = some g → g ≠ e.b ∧ some g ≠ e.v2.ownBlock := fun g hg2 => ⟨fun hgb => hap.1.1 (mem_own.2 (hgb ▸ hg2)), fun he => hap.2.2.2 g (mem_own.2 hg2) g (mem_own.2 he.symm) rfl⟩
  have hM : Moved w w1 e.foot e.foot := (Moved.of_grown hg.rows).wider (fun i hi => .inl (by simp only [Ent.foot, List.mem_cons, List.mem_append]; exact .inr (.inr hi))) (fun i hi => .inl hi)
  have hM2 : Moved w1 (w1.setCell ⟨e.b, 2, none⟩ v') e.foot e.foot := (Moved.of_set e.b 2 v').wider (fun i hi => .inl (by simp at hi; simp [Ent.foot, hi])) (fun i hi => .inl hi)
  refine ⟨⟨?_, ?_, ?_, ?_⟩, (hM.trans hM2).wider (fun i hi => .inl hi) (fun i hi => ?_)⟩
  · exact (ent_heads h hg (.inr rfl)).setTo 2 v' _ rfl
  · exact owns_carry h.row1 fun g hg2 => (Below.heap_setCell _ _ _ _ (hne2 g hg2).1).trans (hg.rows.block g (h.row1.lt g hg2).2 (hne2 g hg2).2)
  · exact owns_carry ho fun g hgv => Below.heap_setCell _ _ _ _ (hb' g hgv)
  · simp only [Ent.foot, List.nodup_cons, List.mem_append, not_or, List.nodup_append]
    refine ⟨⟨hap.1.1, fun hi => hb' _ (mem_own.1 hi) rfl⟩, hap.2.1, by cases v'.ownBlock <;> simp, fun a ha b hb hab => ?_⟩
    subst hab
    rcases hown a (mem_own.1 hb) with h1 | h1
    · exact hap.2.2.2 a ha a (mem_own.2 h1) rfl
    · have := (h.row1.lt a (mem_own.1 ha)).2; omega
  · simp only [Ent.foot, List.mem_cons, List.mem_append] at hi ⊢
    rcases hi with h1 | h1 | h1
    · exact .inl (.inl h1)
    · exact .inl (.inr (.inl h1))
    · rcases hown i (mem_own.1 h1) with h2 | h2
      · exact .inl (.inr (.inr (mem_own.2 h2)))
      · exact .inr (.inr h2)
/-- A row of one block, seen as a slice. -/
theorem owns_form {w : World} {base e n : Nat} {v : Value} {xs : List Value} (h : w.ownsRow base e 1 v n xs) : ∃ ao cap, v = .slice ao n cap ∧ n ≤ cap ∧ cap ≤ 9223372036854775807 := by
  rcases h.2 with ⟨rfl, rfl⟩ | ⟨g, cap, cur, rfl, _, _, hn, hm, _⟩
  · exact ⟨_, _, rfl, Nat.le_refl _, by omega⟩
  · exact ⟨_, _, rfl, hn, by unfold maxLen at hm; omega⟩
theorem I64_snoc (a : List Nat) (n k : Nat) : I64D (a ++ [n + k]) = I64D a ++ [.int .i64 ((n : Int) + (k : Int))] := by simp [I64D]
theorem I64_append (a b : List Nat) : I64D (a ++ b) = I64D a ++ I64D b := List.map_append

/-- An append onto a row of the call's own: the answer's shape is written out. -/
theorem wpList_append_shape {P : Program} (w : World) {ops : Array Oper} {rest : List Oper} {o : Oper} {a : Act} {Q : Exit → Act → World → Prop} (hgd : o.guard = none) (s x : Operand) (t tx : TypeId)
    (ho : o.op = .call { callee := .builtin .append, args := #[s, x], argTypes := #[t, tx] })
    (base : Nat) (e : TypeId) (i : TypeInfo) (z : Value) (bytes : Nat) (ht : P.underlying t = some (.slice e)) (hi : P.info? e = some i) (hz : i.zero = some z)
    (hsize : i.size = 1) (hby : i.bytes = bytes) (hzs : z.cells.size = 1)
    (v : Value) (n : Nat) (xs : List Value) (hs : a.eval s = v) (hown : w.ownsRow base e 1 v n xs)
    (xv : Value) (m : Nat) (news : List Value) (hx : a.eval x = xv) (hsrc : Src P 1 tx xv m news w)
    (h63 : n + m ≤ maxLen) (hbytes : (n + m) * bytes ≤ 140737488355328) (hbase : base ≤ w.heap.size)
    (h : ∀ ao cap w', w'.ownsRow base e 1 (.slice ao (n + m) cap) (n + m) (xs ++ news) → Grew w w' v (.slice ao (n + m) cap) → wpList P ops Q rest (a.put o.dst (.slice ao (n + m) cap)) w') : wpList P ops Q (o :: rest) a w :=
  wpList_append_grew w hgd s x t tx ho base e i z 1 bytes ht hi hz hsize hby hzs v n xs hs hown xv m news hx hsrc h63 hbytes hbase (fun v' w' h1 h2 => by
    obtain ⟨ao, cap, rfl, _⟩ := owns_form h1
    exact h ao cap w' h1 h2)
end Go.Proofs.YthihljjefncfoaaDoor
namespace Go.Proofs.YthihljjefncfoaaDoor
open Go.RowKit Go.Maps Go.MapKept

theorem law : Keyed Tryd.prog 9 := string_keyed Tryd.underlying9
def find (fs : List Ent) (nm : List UInt8) : Option Ent := fs.find? fun e => e.nm == nm
theorem find_some {fs : List Ent} {nm : List UInt8} {e : Ent} (h : find fs nm = some e) : e ∈ fs ∧ e.nm = nm := by
  unfold find at h
  exact ⟨List.mem_of_find?_eq_some h, by simpa using List.find?_some h⟩
theorem same_str (a b : List UInt8) : (Lit.string a).sameKey (.string b) = (a == b) := rfl
theorem datum_at (fs : List Ent) (nm : List UInt8) (z : DataW Unit) : (datum fs).atKey (.string nm) z = match find fs nm with | some e => .lit (.int .i64 (e.b : Int)) | none => z := by
  unfold datum find DataW.atKey
  simp only [List.find?_map]
  have : ((fun p : Lit × DataW Unit => p.1.sameKey (.string nm)) ∘ encE) = fun e => e.nm == nm := rfl
  rw [this]
  cases fs.find? fun e => e.nm == nm <;> rfl
theorem datum_has (fs : List Ent) (nm : List UInt8) : Maps.has (datum fs) (.string nm) = (find fs nm).isSome := by
  unfold datum find
  rw [has_eq, List.any_map]
  have : ((fun p : Lit × DataW Unit => p.1.sameKey (.string nm)) ∘ encE) = fun e => e.nm == nm := rfl
  rw [this, List.isSome_find?]
theorem datum_size (fs : List Ent) : Maps.size (datum fs) = fs.length := by unfold datum; rw [size_eq, List.length_map]
/-- No two files have one name. -/
theorem DiskAt.names {w : World} {d bm : Nat} {S : St} (h : DiskAt w d bm S) : S.fs.Pairwise fun x y => x.nm ≠ y.nm := by
  obtain ⟨es, he, hp, _⟩ := h.map.entries law
  have : es = S.fs.map encE := by cases he; rfl
  rw [this, List.pairwise_map] at hp
  exact hp.imp fun hne e => hne (by simp [encE, e])
theorem find_of_mem {fs : List Ent} (hp : fs.Pairwise fun x y => x.nm ≠ y.nm) {e : Ent} (he : e ∈ fs) : find fs e.nm = some e := by
  unfold find
  induction fs with
  | nil => cases he
  | cons x r ih =>
    rw [List.pairwise_cons] at hp
    rcases List.mem_cons.1 he with rfl | h
    · simp
    · have hne : (x.nm == e.nm) = false := by rw [beq_eq_false_iff_ne]; exact hp.1 e h
      rw [List.find?_cons, hne]
      exact ih hp.2 h

/-- A look-up: there is none. -/
theorem look_none {w : World} {bm n : Nat} {fs : List Ent} (h : w.ownsMap Tryd.prog 9 ptrElem bm n (datum fs)) {s : ByteArray} (hs : s.size ≤ maxLen) (hf : find fs s.data.toList = none) :
    (Instr.lookup 68 (.map (some bm)) (.string s) false).run Tryd.prog w = .ok (.pointer none) w := by
  have hk := Go.WideMaps.keyOf_string_mk (P := Tryd.prog) Tryd.underlying9 hs
  have hd := datum_at fs s.data.toList
  rw [hf] at hd
  obtain ⟨es, clock, hb, F, _, hD⟩ := h
  rw [hD] at hd
  rcases Maps.fit_look false law Tryd.underlying68 (Tryd.zeroValue82 w) hb F hk with ⟨hrun, _, _⟩ | ⟨e0, y, _, _, hrun, hRv, hat, _⟩
  · exact hrun
  · have := (hat (.nil)).symm.trans (hd .nil)
    have h2 := (hat (.lit (.bool true))).symm.trans (hd (.lit (.bool true)))
    rw [this] at h2
    cases h2
/-- A look-up: there it is. -/
theorem look_some {w : World} {bm n : Nat} {fs : List Ent} (h : w.ownsMap Tryd.prog 9 ptrElem bm n (datum fs)) {s : ByteArray} (hs : s.size ≤ maxLen) {e : Ent} (hf : find fs s.data.toList = some e) :
    (Instr.lookup 68 (.map (some bm)) (.string s) false).run Tryd.prog w = .ok (.pointer (some ⟨e.b, 0, none⟩)) w := by
  have hk := Go.WideMaps.keyOf_string_mk (P := Tryd.prog) Tryd.underlying9 hs
  have hd := datum_at fs s.data.toList
  rw [hf] at hd
  obtain ⟨es, clock, hb, F, _, hD⟩ := h
  rw [hD] at hd
  rcases Maps.fit_look false law Tryd.underlying68 (Tryd.zeroValue82 w) hb F hk with ⟨hrun, _, hat⟩ | ⟨e0, y, _, _, hrun, hRv, hat, _⟩
  · have := (hat .nil).symm.trans (hd .nil)
    cases this
  · obtain ⟨b, hv, hy⟩ := ptrElem_inv hRv
    have h1 := (hat .nil).symm.trans (hd .nil)
    rw [hy] at h1
    cases h1
    rw [hrun]
    show Result.ok e0.val w = _
    rw [hv]
    rfl

/-! ### a name is put in, a name goes -/
def insE (e : Ent) : List Ent → List Ent
  | [] => [e]
  | y :: r => if bytesBefore e.nm y.nm then e :: y :: r else y :: insE e r
def dropE (fs : List Ent) (nm : List UInt8) : List Ent := fs.filter fun x => !(x.nm == nm)
def putE (fs : List Ent) (e : Ent) : List Ent := insE e (dropE fs e.nm)
theorem datum_drop (fs : List Ent) (nm : List UInt8) : (datum fs).del (.string nm) = datum (dropE fs nm) := by
  unfold datum dropE DataW.del
  simp only [List.filter_map]
  rfl
theorem ins_map (e : Ent) (fs : List Ent) : DataW.insert (encE e) (fs.map encE) = (insE e fs).map encE := by
  induction fs with
  | nil => rfl
  | cons y r ih =>
    simp only [List.map_cons, DataW.insert, insE]
    have : (encE e).1.before (encE y).1 = bytesBefore e.nm y.nm := rfl
    rw [this, ih]
    split <;> rfl
theorem datum_put (fs : List Ent) (e : Ent) : (datum fs).put (.string e.nm) (.lit (.int .i64 (e.b : Int))) = datum (putE fs e) := by
  unfold datum putE DataW.put dropE
  rw [← ins_map]
  simp only [List.filter_map]
  rfl
theorem perm_insE (e : Ent) (fs : List Ent) : (insE e fs).Perm (e :: fs) := by
  induction fs with
  | nil => exact List.Perm.refl _
  | cons y r ih =>
    unfold insE
    split
    · exact List.Perm.refl _
    · exact (List.Perm.cons y ih).trans (List.Perm.swap e y r)
theorem perm_putE (fs : List Ent) (e : Ent) : (putE fs e).Perm (e :: dropE fs e.nm) := perm_insE e _
theorem mem_dropE {fs : List Ent} {nm : List UInt8} {x : Ent} : x ∈ dropE fs nm ↔ x ∈ fs ∧ x.nm ≠ nm := by
  unfold dropE
  rw [List.mem_filter]
  simp
theorem feet_perm {a b : List Ent} (h : a.Perm b) : (feet a).Perm (feet b) := h.flatMap_right _

/-! ### what was gone over -/
def vis (left : Lit → Bool) (fs : List Ent) : List Ent := fs.filter fun e => !left (.string e.nm)
theorem vis_start (fs : List Ent) (hp : fs.Pairwise fun x y => x.nm ≠ y.nm) : vis (Maps.has (datum fs)) fs = [] := by
  unfold vis
  rw [List.filter_eq_nil_iff]
  intro e he
  rw [datum_has, find_of_mem hp he]
  simp
theorem vis_end {left : Lit → Bool} (fs : List Ent) (h : ∀ kl, left kl = false) : vis left fs = fs := by
  unfold vis
  rw [List.filter_eq_self]
  intro e _
  rw [h]
  rfl
theorem vis_step {left : Lit → Bool} {fs : List Ent} (hp : fs.Pairwise fun x y => x.nm ≠ y.nm) {e : Ent} (he : e ∈ fs) (hl : left (.string e.nm) = true) :
    (vis (fun z => left z && !z.sameKey (.string e.nm)) fs).Perm (e :: vis left fs) := by
  induction fs with
  | nil => cases he
  | cons x r ih =>
    rw [List.pairwise_cons] at hp
    unfold vis
    rcases List.mem_cons.1 he with rfl | h
    · have hrest : r.filter (fun y => !(left (.string y.nm) && !(Lit.string y.nm).sameKey (.string e.nm))) = r.filter fun y => !left (.string y.nm) := by
        apply List.filter_congr
        intro y hy
        have : (y.nm == e.nm) = false := by rw [beq_eq_false_iff_ne]; exact fun e' => hp.1 y hy e'.symm
        rw [same_str, this]
        simp
      rw [List.filter_cons, List.filter_cons]
      simp only [same_str, beq_self_eq_true, Bool.not_true, Bool.and_false, Bool.not_false, if_true, hl]
      simp only [same_str] at hrest
      simp only [hrest]
      exact List.Perm.refl _
    · have hne : (x.nm == e.nm) = false := by rw [beq_eq_false_iff_ne]; exact hp.1 e h
      rw [List.filter_cons, List.filter_cons]
      simp only [same_str, hne, Bool.not_false, Bool.and_true]
      have ih' := ih hp.2 h
      unfold vis at ih'
      simp only [same_str] at ih'
      split
      · exact (List.Perm.cons x ih').trans (List.Perm.swap e x _)
      · exact ih'
end Go.Proofs.YthihljjefncfoaaDoor
namespace Go.Proofs.YthihljjefncfoaaDoor
open Go.RowKit Go.Maps

def nameOf (s : ByteArray) : List UInt8 := s.data.toList
/-- What is wrong ahead of looking for a file. -/
def refuse (on : Bool) (L : List ByteArray) : Int := if on then (if L.all (fun s => goodB (nameOf s)) then 0 else 3) else 9
theorem refuse_on {on : Bool} {L : List ByteArray} (h : refuse on L = 0) : on = true := by
  cases on
  · simp [refuse] at h
  · rfl

set_option maxRecDepth 100000 in
theorem refusal_any {w : World} {d bm : Nat} {S : St} (h : DiskAt w d bm S) (g cap : Nat) (L : List ByteArray) (hL : L.length ≤ 2) (hs : ∀ s ∈ L, s.size ≤ maxLen) (hc : ∀ i, i < L.length → w.cell? ⟨g, i, none⟩ = some (.string (L.getD i ByteArray.empty))) :
    Calls Tryd.prog 60 #[.pointer (some ⟨d, 0, none⟩), .slice (some ⟨g, 0, none⟩) L.length cap] w fun x w' => x = .returned (.int .i64 (refuse S.on L)) ∧ w' = w := by
  have M : Hid (Calls Tryd.prog 67 #[.pointer (some ⟨d, 0, none⟩)] w fun e w' => e = .returned (.bool true) ∧ w' = w) := made_any d bm w h.c0
  have c2 := h.c2
  clear h
  cases hon : S.on
  · rw [hon] at c2
    go_enter Tryd.func60, Tryd.ntmps60
    go_wp2_with (go_at_call 67; refine M.out.mono ?_; rintro e w1 ⟨rfl, rfl⟩)
    go_ret
    exact ⟨rfl, rfl⟩
  · rw [hon] at c2
    have hLi : (L.length : Int) ≤ 2 := by omega
    have HC : Hid (∀ i, i < L.length → w.cell? ⟨g, i, none⟩ = some (.string (L.getD i ByteArray.empty))) := hc
    have HS : Hid (∀ s ∈ L, s.size ≤ maxLen) := hs
    clear hc hs
    go_enter Tryd.func60, Tryd.ntmps60
    go_wp2_with (go_at_call 67; refine M.out.mono ?_; rintro e w1 ⟨rfl, rfl⟩)
    go_loop [19] (fun i => ∃ k : Nat, k ≤ L.length ∧ i = .int .i64 k ∧ ∀ j, j < k → goodB (nameOf (L.getD j ByteArray.empty)) = true) (fun i => L.length - (intOf i).toNat)
    case atStart => exact ⟨0, Nat.zero_le _, rfl, fun j hj => absurd hj (Nat.not_lt_zero _)⟩
    case round =>
      obtain ⟨k, hk, rfl, hall⟩ := hrel
      have HA : Hid (∀ j, j < k → goodB (nameOf (L.getD j ByteArray.empty)) = true) := hall
      clear hall
      by_cases hlt : k < L.length
      · have hck := HC.out k hlt
        have hmem : L.getD k ByteArray.empty ∈ L := by
          rw [List.getD_eq_getElem?_getD, List.getElem?_eq_getElem hlt]
          exact List.getElem_mem hlt
        have G : Hid (∀ w, Calls Tryd.prog 20 #[.string (L.getD k ByteArray.empty)] w fun e w' => e = .returned (.bool (goodB (nameOf (L.getD k ByteArray.empty)))) ∧ w' = w) := fun w => goodD_any _ w (HS.out _ hmem)
        have Hm : Hid (L.getD k ByteArray.empty ∈ L) := hmem
        clear hmem
        obtain ⟨b, hb⟩ : ∃ b, goodB (nameOf (L.getD k ByteArray.empty)) = b := ⟨_, rfl⟩
        have HB : Hid (goodB (nameOf (L.getD k ByteArray.empty)) = b) := hb
        have HX : Hid (∀ j, j = k → goodB (nameOf (L.getD j ByteArray.empty)) = b) := fun j hj => by rw [hj]; exact hb
        rw [hb] at G
        clear hb
        generalize L.getD k ByteArray.empty = s at *
        have hki : (k : Int) < 2 := by omega
        cases b
        · go_wp2_with (go_at_call 20; refine (G.out _).mono ?_; rintro e w2 ⟨rfl, rfl⟩)
          go_ret
          refine ⟨ret_int ?_, rfl⟩
          have : (L.all fun s => goodB (nameOf s)) = false := List.all_eq_false.2 ⟨s, Hm.out, by rw [HB.out]; simp⟩
          simp [refuse, this]
        · go_wp2_with (go_at_call 20; refine (G.out _).mono ?_; rintro e w2 ⟨rfl, rfl⟩)
          go_round
          case rel =>
            refine ⟨k + 1, by omega, by go_num, fun j hj => ?_⟩
            by_cases e : j = k
            · exact HX.out j e
            · exact HA.out j (by omega)
          case measure => simp [intOf]; omega
      · obtain rfl : k = L.length := by omega
        go_wp2_with fail
        go_ret
        refine ⟨ret_int ?_, rfl⟩
        have : (L.all fun s => goodB (nameOf s)) = true := by
          rw [List.all_eq_true]
          intro s hs
          obtain ⟨j, hj, rfl⟩ := List.getElem_of_mem hs
          have := HA.out j hj
          rw [List.getD_eq_getElem?_getD, List.getElem?_eq_getElem hj] at this
          exact this
        simp [refuse, this]
set_option maxRecDepth 100000 in
theorem refusal_nil {w : World} {d bm : Nat} {S : St} (h : DiskAt w d bm S) :
    Calls Tryd.prog 60 #[.pointer (some ⟨d, 0, none⟩), .slice none 0 0] w fun x w' => x = .returned (.int .i64 (refuse S.on [])) ∧ w' = w := by
  have M : Hid (Calls Tryd.prog 67 #[.pointer (some ⟨d, 0, none⟩)] w fun e w' => e = .returned (.bool true) ∧ w' = w) := made_any d bm w h.c0
  have c2 := h.c2
  clear h
  cases hon : S.on
  · rw [hon] at c2
    go_enter Tryd.func60, Tryd.ntmps60
    go_wp2_with (go_at_call 67; refine M.out.mono ?_; rintro e w1 ⟨rfl, rfl⟩)
    go_ret
    exact ⟨rfl, rfl⟩
  · rw [hon] at c2
    go_enter Tryd.func60, Tryd.ntmps60
    go_wp2_with (go_at_call 67; refine M.out.mono ?_; rintro e w1 ⟨rfl, rfl⟩)
    go_loop [19] (fun i => i = .int .i64 0) (fun _ => 0)
    case atStart => rfl
    case round =>
      subst hrel
      go_wp2
      go_ret
      exact ⟨rfl, rfl⟩

theorem one_cell (w : World) (s : ByteArray) (t : TypeId) : ∀ i, i < [s].length → (w.alloc (.cells #[.string s] t)).cell? ⟨w.heap.size, i, none⟩ = some (.string ([s].getD i ByteArray.empty)) := by
  intro i hi
  have : i = 0 := by simpa using hi
  subst this
  exact (Blk.new w [.string s] t).cell 0 rfl
theorem refused_one {w : World} {d bm : Nat} {S : St} (h : DiskAt w d bm S) (s : ByteArray) (hs : s.size ≤ maxLen) :
    Calls Tryd.prog 60 #[.pointer (some ⟨d, 0, none⟩), .slice (some ⟨w.heap.size, 0, none⟩) 1 1] (w.alloc (.cells #[.string s] 9)) fun x w' => x = .returned (.int .i64 (refuse S.on [s])) ∧ w' = w.alloc (.cells #[.string s] 9) :=
  refusal_any (h.alloc _) w.heap.size 1 [s] (by simp) (by simpa using hs) (one_cell w s _)
section
variable {w : World} {d bm : Nat} {S : St} (h : DiskAt w d bm S) (s : ByteArray) (hs : s.size ≤ maxLen)
include h hs
theorem find_refused {c : Int} (hc : refuse S.on [s] = c) (hc0 : c ≠ 0) :
    Calls Tryd.prog 54 #[.pointer (some ⟨d, 0, none⟩), .string s] w fun x w' => x = .returned (.tuple #[.pointer none, .int .i64 c]) ∧ w.grownBy w' none := by
  have R := refused_one h s hs
  rw [hc] at R
  have R : Hid (Calls Tryd.prog 60 #[.pointer (some ⟨d, 0, none⟩), .slice (some ⟨w.heap.size, 0, none⟩) 1 1] (w.alloc (.cells #[.string s] 9)) fun x w' => x = .returned (.int .i64 c) ∧ w' = w.alloc (.cells #[.string s] 9)) := R
  have hcb : (c == 0) = false := by rw [beq_eq_false_iff_ne]; exact hc0
  clear h hs hc
  go_enter Tryd.func54, Tryd.ntmps54
  go_wp2_with (go_at_call 60; refine R.out.mono ?_; rintro e w1 ⟨rfl, rfl⟩)
  go_ret2
  exact ⟨rfl, World.grownBy_alloc _ _ _⟩
theorem find_none (hc : refuse S.on [s] = 0) (hf : find S.fs (nameOf s) = none) :
    Calls Tryd.prog 54 #[.pointer (some ⟨d, 0, none⟩), .string s] w fun x w' => x = .returned (.tuple #[.pointer none, .int .i64 4]) ∧ w.grownBy w' none := by
  have R := refused_one h s hs
  rw [hc] at R
  have R : Hid (Calls Tryd.prog 60 #[.pointer (some ⟨d, 0, none⟩), .slice (some ⟨w.heap.size, 0, none⟩) 1 1] (w.alloc (.cells #[.string s] 9)) fun x w' => x = .returned (.int .i64 0) ∧ w' = w.alloc (.cells #[.string s] 9)) := R
  have hl := look_none (h.alloc (.cells #[.string s] 9)).map hs hf
  have c0 := h.c0
  have hd := h.head.lt
  clear h hs hc hf
  go_enter Tryd.func54, Tryd.ntmps54
  go_wp2_with (go_at_call 60; refine R.out.mono ?_; rintro e w1 ⟨rfl, rfl⟩)
  go_ret2
  exact ⟨rfl, World.grownBy_alloc _ _ _⟩
theorem find_ok (hc : refuse S.on [s] = 0) {e : Ent} (hf : find S.fs (nameOf s) = some e) :
    Calls Tryd.prog 54 #[.pointer (some ⟨d, 0, none⟩), .string s] w fun x w' => x = .returned (.tuple #[.pointer (some ⟨e.b, 0, none⟩), .int .i64 0]) ∧ w.grownBy w' none := by
  have R := refused_one h s hs
  rw [hc] at R
  have R : Hid (Calls Tryd.prog 60 #[.pointer (some ⟨d, 0, none⟩), .slice (some ⟨w.heap.size, 0, none⟩) 1 1] (w.alloc (.cells #[.string s] 9)) fun x w' => x = .returned (.int .i64 0) ∧ w' = w.alloc (.cells #[.string s] 9)) := R
  have hl := look_some (h.alloc (.cells #[.string s] 9)).map hs hf
  have c0 := h.c0
  have hd := h.head.lt
  clear h hs hc hf
  go_enter Tryd.func54, Tryd.ntmps54
  go_wp2_with (go_at_call 60; refine R.out.mono ?_; rintro e w1 ⟨rfl, rfl⟩)
  go_ret2
  exact ⟨rfl, World.grownBy_alloc _ _ _⟩
end
end Go.Proofs.YthihljjefncfoaaDoor
namespace Go.Proofs.YthihljjefncfoaaDoor
open Go.RowKit Go.Maps

theorem invK : ∀ key kl, keyOf Tryd.prog 9 key = some kl → ∃ x, key = encStr x := fun key kl hk => by obtain ⟨x, hx, _⟩ := Maps.keyOf_str Tryd.underlying9 hk; exact ⟨x, hx⟩
theorem invV : ∀ v y, ptrElem v = some y → ∃ c : Nat, v = (fun b : Nat => Value.pointer (some ⟨b, 0, none⟩)) c := fun v y hv => by obtain ⟨b, hb, _⟩ := ptrElem_inv hv; exact ⟨b, hb⟩
/-- The entry that has come is a file's. -/
theorem ranged {fs : List Ent} {x : List UInt8} {c : Nat} {kl : Lit} {yd : DataW Unit} {yp : List MemPlace} {left : Lit → Bool} (hkey : keyOf Tryd.prog 9 (encStr x) = some kl) (hlk : left kl = true)
    (hv : ptrElem ((fun b : Nat => Value.pointer (some ⟨b, 0, none⟩)) c) = some (yd, yp)) (hat : ∀ zd, (datum fs).atKey kl zd = yd) : ∃ e, e ∈ fs ∧ e.b = c ∧ kl = .string e.nm ∧ left (.string e.nm) = true := by
  obtain ⟨x', ex, rfl, _⟩ := Maps.keyOf_str Tryd.underlying9 hkey
  obtain rfl : x = x' := encStr_inj ex
  have hy : yd = .lit (.int .i64 (c : Int)) := by
    have h1 := ptrElem_mk c
    have h2 := hv.symm.trans h1
    cases h2
    rfl
  subst hy
  have h0 := hat .nil
  rw [datum_at] at h0
  cases hf : find fs x with
  | none => rw [hf] at h0; cases h0
  | some e =>
    rw [hf] at h0
    have hb : (e.b : Int) = (c : Int) := by simpa using h0
    obtain ⟨he, hn⟩ := find_some hf
    exact ⟨e, he, by omega, by rw [hn], by rw [hn]; exact hlk⟩
theorem List.Perm.sum_nat {a b : List Nat} (h : a.Perm b) : a.sum = b.sum := by
  induction h with
  | nil => rfl
  | cons x _ ih => simp only [List.sum_cons, ih]
  | swap x y l => simp only [List.sum_cons]; omega
  | trans _ _ h1 h2 => exact h1.trans h2
theorem List.single_le_sum_nat {l : List Nat} {x : Nat} (h : x ∈ l) : x ≤ l.sum := by
  induction l with
  | nil => cases h
  | cons y r ih =>
    simp only [List.sum_cons]
    rcases List.mem_cons.1 h with rfl | h
    · omega
    · have := ih h; omega

def sumUsed (fs : List Ent) : Nat := (fs.map fun e => 1 + (e.bs.length + 15) / 16).sum
theorem sumUsed_perm {a b : List Ent} (h : a.Perm b) : sumUsed a = sumUsed b := (h.map _).sum_nat
theorem sumUsed_vis (left : Lit → Bool) (fs : List Ent) : sumUsed (vis left fs) ≤ sumUsed fs := by
  unfold sumUsed vis
  induction fs with
  | nil => exact Nat.le_refl _
  | cons x r ih =>
    rw [List.filter_cons]
    split
    · simp only [List.map_cons, List.sum_cons]; omega
    · simp only [List.map_cons, List.sum_cons]; omega
theorem sumUsed_mem {fs : List Ent} {e : Ent} (h : e ∈ fs) : 1 + (e.bs.length + 15) / 16 ≤ sumUsed fs := by
  unfold sumUsed
  exact List.single_le_sum_nat (List.mem_map.2 ⟨e, h, rfl⟩)

def sumDirty (fs : List Ent) : Nat := (fs.map fun e => e.pl.length).sum
theorem sumDirty_perm {a b : List Ent} (h : a.Perm b) : sumDirty a = sumDirty b := (h.map _).sum_nat
theorem sumDirty_vis (left : Lit → Bool) (fs : List Ent) : sumDirty (vis left fs) ≤ sumDirty fs := by
  unfold sumDirty vis
  induction fs with
  | nil => exact Nat.le_refl _
  | cons x r ih =>
    rw [List.filter_cons]
    split
    · simp only [List.map_cons, List.sum_cons]; omega
    · simp only [List.map_cons, List.sum_cons]; omega
theorem sumDirty_mem {fs : List Ent} {e : Ent} (h : e ∈ fs) : e.pl.length ≤ sumDirty fs := by
  unfold sumDirty
  exact List.single_le_sum_nat (List.mem_map.2 ⟨e, h, rfl⟩)

end Go.Proofs.YthihljjefncfoaaDoor
namespace Go.Proofs.YthihljjefncfoaaDoor
open Go.RowKit Go.Maps

/-- How many of a file's places are ahead of the end. -/
def keptN (e : Ent) (x : Nat) : Nat := e.pl.countP (· < x)
/-- How many bytes a file has behind a failure. -/
def lostAt (e : Ent) (x : Nat) : Nat := if keptN e x = 0 then e.wr else min e.bs.length ((e.wr / 16 + keptN e x) * 16)
/-- What a file is behind a failure. -/
def loseE (e : Ent) (x : Nat) : Ent := endE e (lostAt e x)
theorem lostAt_le {e : Ent} (h : e.wr ≤ e.bs.length) (x : Nat) : lostAt e x ≤ e.bs.length := by unfold lostAt; split <;> omega
theorem I64_at (l : List Nat) (i : Nat) (h : i < l.length) : (I64D l)[i]? = some (.int .i64 ((l.getD i 0 : Nat) : Int)) := by simp [I64D, h]
theorem count_cast (l : List Nat) (x : Nat) : (l.map fun n : Nat => (n : Int)).countP (· < (x : Int)) = l.countP (· < x) := by
  rw [List.countP_map]
  congr 1
  funext n
  simp
end Go.Proofs.YthihljjefncfoaaDoor
namespace Go.Proofs.YthihljjefncfoaaDoor

theorem mergeSort_nat {l l' : List Nat} (h : l.Perm l') : l.mergeSort (fun a b => decide (a ≤ b)) = l'.mergeSort (fun a b => decide (a ≤ b)) := by
  have tr : ∀ a b c : Nat, decide (a ≤ b) = true → decide (b ≤ c) = true → decide (a ≤ c) = true := fun a b c h1 h2 => by simp at *; omega
  have to : ∀ a b : Nat, (decide (a ≤ b) || decide (b ≤ a)) = true := fun a b => by simp; omega
  refine List.Perm.eq_of_pairwise (le := fun a b => decide (a ≤ b) = true) (fun a b _ _ h1 h2 => by simp at h1 h2; omega) (List.pairwise_mergeSort tr to l) (List.pairwise_mergeSort tr to l') (((List.mergeSort_perm l _).trans h).trans (List.mergeSort_perm l' _).symm)
theorem mergeSort_cast (l : List Nat) : (l.map fun n : Nat => (n : Int)).mergeSort (fun x y => decide (x ≤ y)) = (l.mergeSort (fun a b => decide (a ≤ b))).map fun n : Nat => (n : Int) := by
  have tr : ∀ a b c : Int, decide (a ≤ b) = true → decide (b ≤ c) = true → decide (a ≤ c) = true := fun a b c h1 h2 => by simp at *; omega
  have to : ∀ a b : Int, (decide (a ≤ b) || decide (b ≤ a)) = true := fun a b => by simp; omega
  have trn : ∀ a b c : Nat, decide (a ≤ b) = true → decide (b ≤ c) = true → decide (a ≤ c) = true := fun a b c h1 h2 => by simp at *; omega
  have ton : ∀ a b : Nat, (decide (a ≤ b) || decide (b ≤ a)) = true := fun a b => by simp; omega
  refine List.Perm.eq_of_pairwise (le := fun a b : Int => decide (a ≤ b) = true) (fun a b _ _ h1 h2 => by simp at h1 h2; omega) (List.pairwise_mergeSort tr to _) ?_ ?_
  · rw [List.pairwise_map]
    exact (List.pairwise_mergeSort trn ton l).imp fun h => by simp at *; omega
  · exact (List.mergeSort_perm _ _).trans ((List.mergeSort_perm l _).symm.map _)
end Go.Proofs.YthihljjefncfoaaDoor
namespace Go.Proofs.YthihljjefncfoaaDoor
open Go.RowKit Go.Maps Go.Sort

/-- All places, file by file. -/
def linesOf (fs : List Ent) : List Nat := fs.flatMap Ent.pl
/-- The place that the first keep sectors of the line are ahead of. -/
def lineEndN (S : St) (keep : Nat) : Nat := if (linesOf S.fs).length ≤ keep then S.next else ((linesOf S.fs).mergeSort (fun a b => decide (a ≤ b))).getD keep 0
theorem lines_perm {a b : List Ent} (h : a.Perm b) : (linesOf a).Perm (linesOf b) := h.flatMap_right _
theorem lines_length (fs : List Ent) : (linesOf fs).length = sumDirty fs := by unfold linesOf sumDirty; rw [List.length_flatMap]
theorem src_intsD {w : World} {base n : Nat} {v : Value} {l : List Nat} (h : w.ownsRow base 3 1 v n (I64D l)) : Src Tryd.prog 1 22 v l.length (I64D l) w := by
  have hl : l.length = n := by have := h.1; rwa [I64_length, Nat.mul_one] at this
  subst hl
  rcases h.2 with ⟨rfl, h0⟩ | ⟨g, cap, cur, rfl, _⟩
  · obtain rfl : l = [] := List.eq_nil_of_length_eq_zero h0
    exact Src.ofNil w Tryd.underlying22 0
  · refine Src.ofSlice w Tryd.underlying22 _ _ cap _ (by rw [I64_length, Nat.mul_one]) (h.cells (g := g) rfl) ?_
    intro u hu
    obtain ⟨_, _, rfl⟩ := List.mem_map.1 hu
    rfl
/-! ### the failure -/
/-- What a file must be like. -/
structure Ent.Fine (next : Nat) (e : Ent) : Prop where
  wr : e.wr ≤ e.bs.length
  len : e.bs.length ≤ 1099511627776
  pln : e.pl.length ≤ 1099511627776
  rise : e.pl.Pairwise (· < ·)
  ahead : ∀ p ∈ e.pl, p < next
/-- The files of which those that were gone over have lost what they lose. -/
def losing (left : Lit → Bool) (x : Nat) (fs : List Ent) : List Ent := fs.map fun e => if left (.string e.nm) then e else loseE e x
theorem losing_start (fs : List Ent) (x : Nat) (hp : fs.Pairwise fun x y => x.nm ≠ y.nm) : losing (Maps.has (datum fs)) x fs = fs := by
  unfold losing
  conv => rhs; rw [← List.map_id fs]
  apply List.map_congr_left
  intro e he
  rw [datum_has, find_of_mem hp he]
  rfl
theorem losing_end {left : Lit → Bool} (fs : List Ent) (x : Nat) (h : ∀ kl, left kl = false) : losing left x fs = fs.map fun e => loseE e x := by
  unfold losing
  apply List.map_congr_left
  intro e _
  rw [h]
  rfl
theorem losing_datum (left : Lit → Bool) (x : Nat) (fs : List Ent) : datum (losing left x fs) = datum fs := by
  unfold datum losing
  rw [List.map_map]
  congr 1
  apply List.map_congr_left
  intro e _
  simp only [Function.comp]
  split <;> rfl
theorem losing_mem {left : Lit → Bool} {x : Nat} {fs : List Ent} {e : Ent} (he : e ∈ fs) (hl : left (.string e.nm) = true) : e ∈ losing left x fs := List.mem_map.2 ⟨e, he, by rw [hl]; rfl⟩
theorem losing_step {left : Lit → Bool} {x : Nat} {fs : List Ent} (hp : fs.Pairwise fun x y => x.nm ≠ y.nm) (hb : (feet fs).Nodup) {e : Ent} (he : e ∈ fs) (hl : left (.string e.nm) = true) :
    swap (losing left x fs) e (loseE e x) = losing (fun z => left z && !z.sameKey (.string e.nm)) x fs := by
  unfold losing swap
  rw [List.map_map]
  apply List.map_congr_left
  intro y hy
  simp only [Function.comp, same_str]
  by_cases hye : y = e
  · subst hye
    simp [hl]
  · have hn : (y.nm == e.nm) = false := by
      rw [beq_eq_false_iff_ne]
      intro hn
      have h1 := find_of_mem hp hy
      have h2 := find_of_mem hp he
      rw [hn, h2] at h1
      exact hye (Option.some.inj h1).symm
    have hbb : y.b ≠ e.b := fun hb' => hye (feet_same hb hy he (i := e.b) (hb' ▸ b_mem) b_mem)
    have hb2 : (if left (.string y.nm) = true then y else loseE y x).b ≠ e.b := by split <;> exact hbb
    rw [if_neg hb2]
    simp [hn]
theorem ranges_carry {w w' : World} {P : Program} {k : TypeId} {R : Value → Option (DataW Unit × List MemPlace)} {b r n : Nat} {D : DataW Unit} {left : Lit → Bool} {cnt : Nat} (h : w.ranges P k R b r n D left cnt) (hb : w'.heap[b]? = w.heap[b]?) (hr : w'.heap[r]? = w.heap[r]?) : w'.ranges P k R b r n D left cnt := by
  unfold World.ranges at h ⊢
  rw [hb, hr]
  exact h
theorem lose_foot {e : Ent} {x i : Nat} (h : i ∈ (loseE e x).foot) : i ∈ e.foot := by
  have hc : (cutV e.v1 (lostAt e x)).ownBlock = e.v1.ownBlock := by
    cases e.v1 <;> try rfl
    rename_i ao _ _
    cases ao <;> rfl
  unfold loseE endE Ent.foot at h
  simp only [hc, toList_nil, List.append_nil] at h
  unfold Ent.foot
  rcases List.mem_cons.1 h with h | h
  · exact h ▸ List.mem_cons_self
  · exact List.mem_cons_of_mem _ (List.mem_append_left _ h)
theorem losing_feet {left : Lit → Bool} {x : Nat} {fs : List Ent} {i : Nat} (h : i ∈ feet (losing left x fs)) : i ∈ feet fs := by
  obtain ⟨y, hy, hi⟩ := feet_mem.1 h
  obtain ⟨e, he, rfl⟩ := List.mem_map.1 hy
  refine feet_mem.2 ⟨e, he, ?_⟩
  split at hi
  · exact hi
  · exact lose_foot hi
end Go.Proofs.YthihljjefncfoaaDoor
namespace Go.Proofs.YthihljjefncfoaaDoor
open Go.RowKit Go.Maps

/-- The disk behind a failure that keeps so many sectors. -/
def crashS (S : St) (keep : Int) : St := if S.on then { S with on := false, fs := S.fs.map fun e => loseE e (lineEndN S keep.toNat) } else S
/-- What a disk must be like. -/
structure St.Fine (S : St) : Prop where
  files : ∀ e ∈ S.fs, e.Fine S.next
  room : S.room ≤ 1073741824
  used : sumUsed S.fs ≤ 1099511627776
  dirty : sumDirty S.fs ≤ 1099511627776
end Go.Proofs.YthihljjefncfoaaDoor
namespace Go.Proofs.YthihljjefncfoaaDoor
open Go.RowKit Go.Maps

theorem ops_text (n : Nat) (h : n ≤ 4611686018427387904) : wrap64 ((n : Int) + 1) = ((n + 1 : Nat) : Int) := by rw [IntWalk.wrap64_in _ ⟨by omega, by omega⟩]; omega
theorem left_text (n : Nat) (h : n ≤ 9223372036854775807) : max 0 (wrap64 ((n : Int) - 1)) = ((n - 1 : Nat) : Int) := by rw [IntWalk.wrap64_in _ ⟨by omega, by omega⟩]; omega

end Go.Proofs.YthihljjefncfoaaDoor
namespace Go.Proofs.YthihljjefncfoaaDoor
open Go.RowKit Go.Maps

end Go.Proofs.YthihljjefncfoaaDoor
namespace Go.Proofs.YthihljjefncfoaaDoor
open Go.RowKit Go.Maps

theorem feet_drop {fs : List Ent} {nm : List UInt8} {i : Nat} (h : i ∈ feet (dropE fs nm)) : i ∈ feet fs := by
  obtain ⟨e, he, hi⟩ := feet_mem.1 h
  exact feet_mem.2 ⟨e, (mem_dropE.1 he).1, hi⟩
theorem drop_nodup {fs : List Ent} {nm : List UInt8} (h : (feet fs).Nodup) : (feet (dropE fs nm)).Nodup := by
  induction fs with
  | nil => exact h
  | cons x r ih =>
    have h0 := h
    simp only [feet, List.flatMap_cons, List.nodup_append] at h
    unfold dropE
    rw [List.filter_cons]
    split
    · show (feet (x :: dropE r nm)).Nodup
      simp only [feet, List.flatMap_cons, List.nodup_append]
      exact ⟨h.1, ih h.2.1, fun i hi j hj hij => h.2.2 i hi j (feet_drop hj) hij⟩
    · exact ih h.2.1
/-- A name goes. -/
theorem DiskAt.dropped {w w' : World} {d bm n : Nat} {S : St} (h : DiskAt w d bm S) (nm : List UInt8) (ho : w'.ownsMap Tryd.prog 9 ptrElem bm n (datum (dropE S.fs nm))) (hg : w.grownBy w' (some bm)) :
    DiskAt w' d bm { S with fs := dropE S.fs nm } ∧ Moved w w' (foot d bm S.fs) (foot d bm (dropE S.fs nm)) := by
  have hn := nodup_d h.apart
  have hk : ∀ i, i < w.heap.size → i ≠ bm → w'.heap[i]? = w.heap[i]? := fun i hi hne => hg.block i hi (fun e => hne (Option.some.inj e))
  refine ⟨⟨h.head.carry (hk d h.head.lt hn.1), ?_, fun e he => ?_, ?_⟩, ?_⟩
  · have := map_tight ho
    rwa [datum_size] at this
  · have he' := (mem_dropE.1 he).1
    exact (h.ents e he').carry fun i hi => hk i ((h.ents e he').lt i hi) fun e1 => hn.2.2.1 (e1 ▸ feet_mem.2 ⟨e, he', hi⟩)
  · simp only [foot, List.nodup_cons, List.mem_cons, not_or]
    exact ⟨⟨hn.1, fun hi => hn.2.1 (feet_drop hi)⟩, fun hi => hn.2.2.1 (feet_drop hi), drop_nodup hn.2.2.2⟩
  · refine (Moved.of_grown hg).wider (fun i hi => .inl (by simp at hi; simp [foot, hi])) (fun i hi => .inl ?_)
    simp only [foot, List.mem_cons] at hi ⊢
    exact hi.imp id fun h => h.imp id feet_drop
/-- A file is called so. -/
theorem DiskAt.placed {w w' : World} {d bm n : Nat} {S : St} (h : DiskAt w d bm S) {e : Ent} (hE : EntAt w e) (hd : ∀ i ∈ e.foot, i ∉ foot d bm S.fs) (ho : w'.ownsMap Tryd.prog 9 ptrElem bm n (datum (putE S.fs e))) (hg : w.grownBy w' (some bm)) :
    DiskAt w' d bm { S with fs := putE S.fs e } ∧ Moved w w' (e.foot ++ foot d bm S.fs) (foot d bm (putE S.fs e)) := by
  have hn := nodup_d h.apart
  have hk : ∀ i, i < w.heap.size → i ≠ bm → w'.heap[i]? = w.heap[i]? := fun i hi hne => hg.block i hi (fun e => hne (Option.some.inj e))
  have hp := perm_putE S.fs e
  have hf : ∀ i, i ∈ feet (putE S.fs e) ↔ i ∈ e.foot ∨ i ∈ feet (dropE S.fs e.nm) := fun i => by
    rw [(feet_perm hp).mem_iff]
    simp only [feet, List.flatMap_cons, List.mem_append]
  refine ⟨⟨h.head.carry (hk d h.head.lt hn.1), ?_, fun x hx => ?_, ?_⟩, ?_⟩
  · have := map_tight ho
    rwa [datum_size] at this
  · rcases List.mem_cons.1 (hp.mem_iff.1 hx) with rfl | hx
    · exact hE.carry fun i hi => hk i (hE.lt i hi) fun e1 => hd i hi (by rw [e1]; simp [foot])
    · have hx' := (mem_dropE.1 hx).1
      exact (h.ents x hx').carry fun i hi => hk i ((h.ents x hx').lt i hi) fun e1 => hn.2.2.1 (e1 ▸ feet_mem.2 ⟨x, hx', hi⟩)
  · simp only [foot, List.nodup_cons, List.mem_cons, not_or]
    refine ⟨⟨hn.1, fun hi => ?_⟩, fun hi => ?_, ?_⟩
    · rcases (hf d).1 hi with h1 | h1
      · exact hd d h1 (by simp [foot])
      · exact hn.2.1 (feet_drop h1)
    · rcases (hf bm).1 hi with h1 | h1
      · exact hd bm h1 (by simp [foot])
      · exact hn.2.2.1 (feet_drop h1)
    · rw [(feet_perm hp).nodup_iff]
      show (feet (e :: dropE S.fs e.nm)).Nodup
      simp only [feet, List.flatMap_cons, List.nodup_append]
      exact ⟨hE.apart, drop_nodup hn.2.2.2, fun i hi j hj hij => hd i hi (by subst hij; simp only [foot, List.mem_cons]; exact .inr (.inr (feet_drop hj)))⟩
  · refine (Moved.of_grown hg).wider (fun i hi => .inl (by simp at hi; simp [foot, hi])) (fun i hi => .inl ?_)
    simp only [foot, List.mem_cons, List.mem_append] at hi ⊢
    rcases hi with h1 | h1 | h1
    · exact .inr (.inl h1)
    · exact .inr (.inr (.inl h1))
    · rcases (hf i).1 h1 with h2 | h2
      · exact .inl h2
      · exact .inr (.inr (.inr (feet_drop h2)))
def newE (nm : List UInt8) (b : Nat) : Ent := ⟨nm, b, .slice none 0 0, .slice none 0 0, [], 0, []⟩
theorem put_run {w : World} {bm n : Nat} {fs : List Ent} (h : w.ownsMap Tryd.prog 9 ptrElem bm n (datum fs)) (hn : n < maxLen) {s : ByteArray} (hs : s.size ≤ maxLen) (e : Ent) (he : e.nm = nameOf s) :
    ∃ w', (Instr.mapUpdate 68 (.map (some bm)) (.string s) (.pointer (some ⟨e.b, 0, none⟩))).run Tryd.prog w = .ok () w' ∧ w'.ownsMap Tryd.prog 9 ptrElem bm (n + 1) (datum (putE fs e)) ∧ w.grownBy w' (some bm) := by
  have := h.update law Tryd.underlying68 hn (WideMaps.keyOf_string_mk (P := Tryd.prog) Tryd.underlying9 hs) (ptrElem_mk e.b)
  have hk : (datum fs).put (.string s.data.toList) (.lit (.int .i64 (e.b : Int))) = datum (putE fs e) := by rw [← datum_put, he]; rfl
  rwa [hk] at this
theorem del_run {w : World} {bm n : Nat} {fs : List Ent} (h : w.ownsMap Tryd.prog 9 ptrElem bm n (datum fs)) {s : ByteArray} (hs : s.size ≤ maxLen) (ty : TypeId) :
    ∃ w', (Builtin.delete_ #[68, 9] ty #[.map (some bm), .string s]).run Tryd.prog w = .ok (.tuple #[]) w' ∧ w'.ownsMap Tryd.prog 9 ptrElem bm n (datum (dropE fs (nameOf s))) ∧ w.grownBy w' (some bm) := by
  obtain ⟨w', h1, h2, h3⟩ := h.drop law Tryd.underlying68 (WideMaps.keyOf_string_mk (P := Tryd.prog) Tryd.underlying9 hs) ty
  exact ⟨w', h1, by rw [← datum_drop]; exact h2, h3.grown⟩

/-! ### bytes at a file's end -/
def growS (e : Ent) (l : List UInt8) : Nat := if l = [] then 0 else growN (e.bs.length + l.length) e.wr e.pl.length
theorem DiskAt.head_moved {w w' : World} {d bm : Nat} {S : St} (h : DiskAt w d bm S) {e : Ent} (he : e ∈ S.fs) {b : List Nat} (hm : Moved w w' e.foot b) : Blk w' d (headOf bm S) 70 :=
  h.head.carry (hm.kept d h.head.lt fun hi => (nodup_d h.apart).2.1 (feet_mem.2 ⟨e, he, hi⟩))
end Go.Proofs.YthihljjefncfoaaDoor
namespace Go.Proofs.YthihljjefncfoaaDoor
open Go.RowKit Go.Maps

/-- A box lies beside the disk. -/
theorem box_new (w : World) (v : Value) (t : TypeId) : (w.alloc (.cells #[v] t)).cell? ⟨w.heap.size, 0, none⟩ = some v := (Blk.new w [v] t).cell 0 rfl
theorem cell_up {w w' : World} {a : Addr} {v : Value} {r : Option Nat} (h : w.cell? a = some v) (hg : w.grownBy w' r) (hr : some a.block ≠ r) : w'.cell? a = some v := hg.cell h hr

/-! ### Sync -/
section
variable {w : World} {d bm : Nat} {S : St} (h : DiskAt w d bm S) (s : ByteArray) (hs : s.size ≤ maxLen)
include h hs
end
end Go.Proofs.YthihljjefncfoaaDoor
namespace Go.Proofs.YthihljjefncfoaaDoor
open Go.RowKit Go.Maps

theorem owns_base {w : World} {base base' e n : Nat} {v : Value} {xs : List Value} (h : w.ownsRow base e 1 v n xs) (hb : base' ≤ base) : w.ownsRow base' e 1 v n xs := by
  refine ⟨h.1, ?_⟩
  rcases h.2 with hn | ⟨g, cap, cur, rfl, h1, rest⟩
  · exact .inl hn
  · exact .inr ⟨g, cap, cur, rfl, Nat.le_trans hb h1, rest⟩
theorem B8_ints (l : List UInt8) : (l.map fun b => (b.toNat : Int)).map (Value.int .u8) = B8 l := by simp [B8, List.map_map]
/-- A copy of a file's bytes. -/
theorem clone_any {w : World} {e : Ent} (h : EntAt w e) (hl : e.bs.length ≤ 1099511627776) :
    Calls Tryd.prog 55 #[e.v1] w fun x w' => ∃ v, x = .returned v ∧ w'.ownsRow w.heap.size 5 1 v e.bs.length (B8 e.bs) ∧ w.grownBy w' none := by
  rcases h.row1.2 with ⟨hv, h0⟩ | ⟨g, cap, cur, hv, _⟩
  · rw [hv]
    refine (Tryd.bytes_Clone_nil 0 0 w).mono ?_
    rintro x w' ⟨rfl, rfl⟩
    have hz : e.bs = [] := List.eq_nil_of_length_eq_zero h0
    exact ⟨_, rfl, by rw [hz]; exact World.ownsRow_nil _ _ _ _, World.grownBy.refl _ _⟩
  · rw [hv]
    refine (Tryd.bytes_Clone_at ⟨g, 0, none⟩ e.bs.length cap (e.bs.map fun b => (b.toNat : Int)) w (List.length_map _) (by omega) ?_).mono ?_
    · intro i hi
      have := h.row1.cells (g := g) (by rw [hv]; rfl) i _ (B8_at e.bs i hi)
      rw [this]
      simp [List.getD, hi]
    · rintro x w' ⟨v', rfl, ho, _, hb⟩
      rw [B8_ints] at ho
      exact ⟨v', rfl, ho, ⟨hb.os, hb.tape, hb.output, hb.size, fun k hk _ => hb.block k hk⟩⟩
section
variable {w : World} {d bm : Nat} {S : St} (h : DiskAt w d bm S) (s : ByteArray) (hs : s.size ≤ maxLen)
include h hs
theorem read_ok (hc : refuse S.on [s] = 0) {e : Ent} (hf : find S.fs (nameOf s) = some e) (hl : e.bs.length ≤ 1099511627776) :
    Calls Tryd.prog 40 #[.pointer (some ⟨d, 0, none⟩), .string s] w fun x w' => ∃ v, x = .returned (.tuple #[v, .int .i64 0]) ∧ w'.ownsRow w.heap.size 5 1 v e.bs.length (B8 e.bs) ∧ w.grownBy w' none := by
  have F : Hid (Calls Tryd.prog 54 #[.pointer (some ⟨d, 0, none⟩), .string s] w fun x w' => x = .returned (.tuple #[.pointer (some ⟨e.b, 0, none⟩), .int .i64 0]) ∧ w.grownBy w' none) := find_ok h s hs hc hf
  have he := (find_some hf).1
  have C : Hid (∀ w1, w.grownBy w1 none → EntAt w1 e ∧ Calls Tryd.prog 55 #[e.v1] w1 fun x w' => ∃ v, x = .returned v ∧ w'.ownsRow w.heap.size 5 1 v e.bs.length (B8 e.bs) ∧ w.grownBy w' none) := by
    intro w1 hg
    have hE : EntAt w1 e := (h.ents e he).carry fun i hi => hg.block i ((h.ents e he).lt i hi) (by simp)
    refine ⟨hE, (clone_any hE hl).mono ?_⟩
    rintro x w' ⟨v, rfl, ho, hg2⟩
    exact ⟨v, rfl, owns_base ho hg.size, hg.andThen hg2 (fun j hj => by cases hj)⟩
  clear h hs hc hf he hl
  go_enter Tryd.func40, Tryd.ntmps40
  go_wp2_with (first | (go_at_call 54; refine F.out.mono ?_; rintro x w1 ⟨rfl, hg⟩; obtain ⟨hE, hC⟩ := C.out w1 hg; have c0 := hE.c0; have HC : Hid (Calls Tryd.prog 55 #[e.v1] w1 fun x w' => ∃ v, x = .returned v ∧ w'.ownsRow w.heap.size 5 1 v e.bs.length (B8 e.bs) ∧ w.grownBy w' none) := hC; clear hC hE) | (go_at_call 55; go_fit HC.out; rintro x w2 ⟨v, rfl, hv⟩))
  go_ret2
  exact ⟨v, rfl, hv⟩
end
end Go.Proofs.YthihljjefncfoaaDoor
namespace Go.Proofs.YthihljjefncfoaaDoor
open Go.RowKit Go.Maps

def newS (room : Nat) : St := ⟨[], room, true, 0, 0, 0, 0⟩
set_option maxRecDepth 100000 in
theorem new_ok (room : Nat) (hr : room ≤ 1073741824) (w : World) :
    Calls Tryd.prog 21 #[.int .i64 (room : Int)] w fun x w' => ∃ d bm, x = .returned (.pointer (some ⟨d, 0, none⟩)) ∧ DiskAt w' d bm (newS room) ∧ w.grownBy w' none ∧ w.heap.size ≤ d ∧ w.heap.size ≤ bm := by
  have hmm := @run_makeMap Tryd.prog
  have hri : (room : Int) ≤ 1073741824 := by omega
  go_enter Tryd.func21, Tryd.ntmps21
  go_wp2
  go_ret
  refine ⟨w.heap.size + 1, w.heap.size, by simp, ⟨?_, ?_, by simp [newS], ?_⟩, ?_, by omega, Nat.le_refl _⟩
  · have := Blk.new (w.alloc (.map #[] 0)) (headOf w.heap.size (newS room)) 70
    rw [World.size_alloc] at this
    exact this
  · exact map_carry (World.ownsMap_made w _ _ _) (Below.heap_alloc _ _ _ (by simp))
  · simp [foot, feet, newS]
  · exact ⟨rfl, rfl, rfl, by simp; omega, fun k hk _ => (Below.heap_alloc _ _ _ (by simp; omega)).trans (Below.heap_alloc _ _ _ hk)⟩

/-- Behind the boxes of a call: the disk is as it was, the boxes hold the disk and the name. -/
structure Boxed2 (w : World) (d bm : Nat) (S : St) (s : ByteArray) (w1 : World) : Prop where
  disk : DiskAt w1 d bm S
  moved : Moved w w1 (foot d bm S.fs) (foot d bm S.fs)
  k1 : w1.cell? ⟨w.heap.size, 0, none⟩ = some (.pointer (some ⟨d, 0, none⟩))
  k2 : w1.cell? ⟨w.heap.size + 1, 0, none⟩ = some (.string s)
  size : w.heap.size + 2 ≤ w1.heap.size
theorem Boxed2.start {w : World} {d bm : Nat} {S : St} (h : DiskAt w d bm S) (s : ByteArray) : Boxed2 w d bm S s ((w.alloc (.cells #[.pointer (some ⟨d, 0, none⟩)] 50)).alloc (.cells #[.string s] 9)) := by
  refine ⟨(h.alloc _).alloc _, (Moved.alloc _ _).trans (Moved.alloc _ _), ((Blk.new w [.pointer (some ⟨d, 0, none⟩)] 50).alloc _).cell 0 rfl, ?_, by simp⟩
  have := box_new (w.alloc (.cells #[.pointer (some ⟨d, 0, none⟩)] 50)) (.string s) 9
  rwa [World.size_alloc] at this
theorem Boxed2.grown {w : World} {d bm : Nat} {S : St} {s : ByteArray} {w1 w2 : World} (h : Boxed2 w d bm S s w1) (hg : w1.grownBy w2 none) : Boxed2 w d bm S s w2 :=
  ⟨h.disk.carry fun i hi => hg.block i (h.disk.lt i hi) (by simp), h.moved.trans (Moved.none_of hg _), hg.cell h.k1 (by simp), hg.cell h.k2 (by simp), Nat.le_trans h.size hg.size⟩
theorem Boxed2.drewN {w : World} {d bm : Nat} {S : St} {s : ByteArray} {w1 : World} (h : Boxed2 w d bm S s w1) (k : Nat) : Boxed2 w d bm S s (w1.drewN k) := ⟨h.disk.drewN k, h.moved.drewN k, h.k1, h.k2, h.size⟩
theorem refused_boxed {w : World} {d bm : Nat} {S : St} (h : DiskAt w d bm S) (s : ByteArray) (hs : s.size ≤ maxLen) :
    Calls Tryd.prog 60 #[.pointer (some ⟨d, 0, none⟩), .slice (some ⟨w.heap.size + 2, 0, none⟩) 1 1] (((w.alloc (.cells #[.pointer (some ⟨d, 0, none⟩)] 50)).alloc (.cells #[.string s] 9)).alloc (.cells #[.string s] 9)) fun x w1 => x = .returned (.int .i64 (refuse S.on [s])) ∧ Boxed2 w d bm S s w1 := by
  have hB := Boxed2.start h s
  have R := refused_one hB.disk s hs
  have hsz : ((w.alloc (.cells #[.pointer (some ⟨d, 0, none⟩)] 50)).alloc (.cells #[.string s] 9)).heap.size = w.heap.size + 2 := by simp
  rw [hsz] at R
  refine R.mono ?_
  rintro x w1 ⟨rfl, rfl⟩
  exact ⟨rfl, hB.grown (World.grownBy_alloc _ _ _)⟩
theorem Boxed2.len {w : World} {d bm : Nat} {S : St} {s : ByteArray} {w1 : World} (h : Boxed2 w d bm S s w1) (ty : TypeId) : (Builtin.len_ #[68] ty #[.map (some bm)]).run Tryd.prog w1 = .ok (.int .i64 (S.fs.length : Int)) w1 := by
  have := h.disk.map.len Tryd.underlying68 ty
  rwa [datum_size] at this

section
variable {w : World} {d bm : Nat} {S : St} (h : DiskAt w d bm S) (s : ByteArray) (hs : s.size ≤ maxLen)
include h hs
end
end Go.Proofs.YthihljjefncfoaaDoor
namespace Go.Proofs.YthihljjefncfoaaDoor
open Go.RowKit Go.Maps

theorem read_refused {w : World} {d bm : Nat} {S : St} (h : DiskAt w d bm S) (s : ByteArray) (hs : s.size ≤ maxLen) {c : Int} (hc : refuse S.on [s] = c) (hc0 : c ≠ 0) :
    Calls Tryd.prog 40 #[.pointer (some ⟨d, 0, none⟩), .string s] w fun x w' => x = .returned (.tuple #[.slice none 0 0, .int .i64 c]) ∧ w.grownBy w' none := by
  have F : Hid (Calls Tryd.prog 54 #[.pointer (some ⟨d, 0, none⟩), .string s] w fun x w' => x = .returned (.tuple #[.pointer none, .int .i64 c]) ∧ w.grownBy w' none) := find_refused h s hs hc hc0
  have hcb : (c == 0) = false := by rw [beq_eq_false_iff_ne]; exact hc0
  clear h hs
  go_enter Tryd.func40, Tryd.ntmps40
  go_wp2_with (go_at_call 54; go_fit F.out; rintro x w1 ⟨rfl, hg⟩)
  go_ret2
  exact ⟨rfl, hg⟩
theorem read_none {w : World} {d bm : Nat} {S : St} (h : DiskAt w d bm S) (s : ByteArray) (hs : s.size ≤ maxLen) (hc : refuse S.on [s] = 0) (hf : find S.fs (nameOf s) = none) :
    Calls Tryd.prog 40 #[.pointer (some ⟨d, 0, none⟩), .string s] w fun x w' => x = .returned (.tuple #[.slice none 0 0, .int .i64 4]) ∧ w.grownBy w' none := by
  have F : Hid (Calls Tryd.prog 54 #[.pointer (some ⟨d, 0, none⟩), .string s] w fun x w' => x = .returned (.tuple #[.pointer none, .int .i64 4]) ∧ w.grownBy w' none) := find_none h s hs hc hf
  clear h hs
  go_enter Tryd.func40, Tryd.ntmps40
  go_wp2_with (go_at_call 54; go_fit F.out; rintro x w1 ⟨rfl, hg⟩)
  go_ret2
  exact ⟨rfl, hg⟩
end Go.Proofs.YthihljjefncfoaaDoor
