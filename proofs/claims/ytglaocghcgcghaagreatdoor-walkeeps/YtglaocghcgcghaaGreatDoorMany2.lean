/-
  SEVERAL TEXTS IN ONE: Blk, DskMem, SrtNat, TxtB, DskIter, MurMix, KeyShelf.
-/
import Derived.Test.YtglaocghcgcghaaGreatDoorOwn
import Derived.Deep.QuietTactic
import Derived.Test.YtglaocghcgcghaaGreatDoorChecked
import Derived.BigQuiet
import Derived.Deep.RegionWith
import Derived.WalkLawsBesides
import Derived.WalkSmall
import Derived.Maps.OwnSet
import Derived.Maps.RangeWalk
import Derived.Maps.Ext
import Derived.Sort.KeysCollected
import Derived.Shelf.SlIter.Nil
import Derived.Ground.GgzProg
import Derived.Test.YtglaocghcgcghaaGreatDoorDskShelf
import Derived.Test.YtglaocghcgcghaaGreatDoorMany1
import Derived.WalkSpells
namespace Go.Proofs.YtglaocghcgcghaaGreatDoor
open Go.RowKit

/-- A block that holds these cells. -/
def Blk (w : World) (g : Nat) (cs : List Value) (t : TypeId) : Prop := w.heap[g]? = some (.cells cs.toArray t (0, 0))
section
variable {w w' : World} {g : Nat} {cs : List Value} {t : TypeId}
theorem Blk.lt (h : Blk w g cs t) : g < w.heap.size := (Array.getElem?_eq_some_iff.1 h).1
theorem Blk.cell (h : Blk w g cs t) (i : Nat) {v : Value} (hv : cs[i]? = some v) : w.cell? ⟨g, i, none⟩ = some v := by
  unfold Blk at h
  simp only [World.cell?, h]
  simpa using hv
theorem Blk.frozen (h : Blk w g cs t) (i : Nat) : w.frozen? ⟨g, i, none⟩ = false := by
  unfold Blk at h
  simp [World.frozen?, h]
theorem Blk.carry (h : Blk w g cs t) (e : w'.heap[g]? = w.heap[g]?) : Blk w' g cs t := e.trans h
theorem Blk.set (h : Blk w g cs t) (i : Nat) (v : Value) : Blk (w.setCell ⟨g, i, none⟩ v) g (cs.set i v) t := by
  unfold Blk at h ⊢
  simp only [World.setCell, Array.getElem?_modify, h]
  simp
theorem Blk.setTo (h : Blk w g cs t) (i : Nat) (v : Value) (cs' : List Value) (e : cs.set i v = cs') : Blk (w.setCell ⟨g, i, none⟩ v) g cs' t := e ▸ h.set i v
theorem Blk.new (w : World) (cs : List Value) (t : TypeId) : Blk (w.alloc (.cells cs.toArray t)) w.heap.size cs t := heap_alloc_new w _
theorem Blk.alloc (h : Blk w g cs t) (o : Obj) : Blk (w.alloc o) g cs t := h.carry (Below.heap_alloc _ _ _ h.lt)
end

/-- From w to w': only blocks of the list (and new ones) were written, the new list lies in the old one or is new. -/
structure Moved (w w' : World) (ft ft' : List Nat) : Prop where
  os : w'.os = w.os
  tape : w'.tape = w.tape
  output : w'.output = w.output
  size : w.heap.size ≤ w'.heap.size
  kept : ∀ i, i < w.heap.size → i ∉ ft → w'.heap[i]? = w.heap[i]?
  news : ∀ i, i ∈ ft' → i ∈ ft ∨ w.heap.size ≤ i
theorem Moved.refl (w : World) (ft : List Nat) : Moved w w ft ft := ⟨rfl, rfl, rfl, Nat.le_refl _, fun _ _ _ => rfl, fun _ h => .inl h⟩
theorem Moved.trans {w w1 w2 : World} {a b c : List Nat} (h : Moved w w1 a b) (k : Moved w1 w2 b c) : Moved w w2 a c := by
  have hs := h.size
  refine ⟨k.os.trans h.os, k.tape.trans h.tape, k.output.trans h.output, Nat.le_trans hs k.size, fun i hi hn => ?_, fun i hi => ?_⟩
  · refine (k.kept i (by omega) fun e => ?_).trans (h.kept i hi hn)
    rcases h.news i e with h1 | h1
    · exact hn h1
    · omega
  · rcases k.news i hi with h1 | h1
    · exact h.news i h1
    · exact .inr (by omega)
theorem Moved.wider {w w' : World} {a a' b b' : List Nat} (h : Moved w w' a b) (ha : ∀ i ∈ a, i ∈ a' ∨ w.heap.size ≤ i) (hb : ∀ i ∈ b', i ∈ a' ∨ i ∈ b ∨ w.heap.size ≤ i) : Moved w w' a' b' := by
  refine ⟨h.os, h.tape, h.output, h.size, fun i hi hn => h.kept i hi fun e => ?_, fun i hi => ?_⟩
  · rcases ha i e with h1 | h1
    · exact hn h1
    · omega
  · rcases hb i hi with h1 | h1 | h1
    · exact .inl h1
    · rcases h.news i h1 with h2 | h2
      · rcases ha i h2 with h3 | h3
        · exact .inl h3
        · exact .inr h3
      · exact .inr h2
    · exact .inr h1
theorem Moved.sub {w w' : World} {a b b' : List Nat} (h : Moved w w' a b) (hb : ∀ i ∈ b', i ∈ b) : Moved w w' a b' := h.wider (fun _ hi => .inl hi) (fun i hi => .inr (.inl (hb i hi)))
theorem Moved.of_grown {w w' : World} {r : Option Nat} (h : w.grownBy w' r) : Moved w w' r.toList r.toList :=
  ⟨h.os, h.tape, h.output, h.size, fun i hi hn => h.block i hi (fun e => hn (by rw [← e]; simp)), fun _ h => .inl h⟩
theorem Moved.none_of {w w' : World} (h : w.grownBy w' none) (ft : List Nat) : Moved w w' ft ft := (Moved.of_grown h).wider (by simp) (fun i hi => .inl hi)
theorem Moved.alloc {w : World} (o : Obj) (ft : List Nat) : Moved w (w.alloc o) ft ft := Moved.none_of (World.grownBy_alloc w o none) ft
theorem Moved.below {w w' : World} {a b : List Nat} (h : Moved w w' a b) {B : Nat} (hB : B ≤ w.heap.size) (ha : ∀ i ∈ a, B ≤ i) : Below B w w' :=
  ⟨h.os, h.tape, h.output, h.size, fun k hk => h.kept k (by omega) fun e => by have := ha k e; omega⟩
theorem Moved.drew {w w' : World} {a b : List Nat} (h : Moved w w' a b) : Moved w w'.drew a b := ⟨h.os, h.tape, h.output, h.size, h.kept, h.news⟩
theorem Moved.drewN {w w' : World} {a b : List Nat} (h : Moved w w' a b) (k : Nat) : Moved w (w'.drewN k) a b := ⟨h.os, h.tape, h.output, h.size, h.kept, h.news⟩
theorem Moved.of_set {w : World} (g i : Nat) (v : Value) : Moved w (w.setCell ⟨g, i, none⟩ v) [g] [g] :=
  ⟨rfl, rfl, rfl, by simp [World.setCell], fun k _ hn => Below.heap_setCell _ _ _ _ (fun e => hn (by simp [e])), fun _ h => .inl h⟩
end Go.Proofs.YtglaocghcgcghaaGreatDoor
namespace Go.Proofs.YtglaocghcgcghaaGreatDoor
open Go.RowKit Go.Maps

/-- How a pointer to a whole block reads. -/
def ptrElem : Value → Option (DataW Unit × List MemPlace)
  | .pointer (some ⟨b, 0, none⟩) => some (.lit (.int .i64 b), [])
  | _ => none
theorem ptrElem_mk (b : Nat) : ptrElem (.pointer (some ⟨b, 0, none⟩)) = some (.lit (.int .i64 b), []) := rfl
def mkPtr (b : Nat) : Value := .pointer (some ⟨b, 0, none⟩)
theorem ptrElem_inv {v : Value} {y : DataW Unit × List MemPlace} (h : ptrElem v = some y) : ∃ b : Nat, v = mkPtr b ∧ y.1 = .lit (.int .i64 b) := by
  unfold ptrElem at h
  split at h
  · cases h; exact ⟨_, rfl, rfl⟩
  · cases h

/-- Numbers, as cells. -/
def I64D (l : List Nat) : List Value := l.map fun (n : Nat) => Value.int .i64 (n : Int)
theorem I64_length (l : List Nat) : (I64D l).length = l.length := List.length_map _

/-- A file: its name, its block, its two slices, its bytes, how many of them are written, its places in the line. -/
structure Ent where
  nm : List UInt8
  b : Nat
  v1 : Value
  v2 : Value
  bs : List UInt8
  wr : Nat
  pl : List Nat
def Ent.foot (e : Ent) : List Nat := e.b :: (e.v1.ownBlock.toList ++ e.v2.ownBlock.toList)
/-- The file lies in memory. -/
structure EntAt (w : World) (e : Ent) : Prop where
  head : Blk w e.b [e.v1, .int .i64 (e.wr : Int), e.v2] 92
  row1 : w.ownsRow 0 5 1 e.v1 e.bs.length (B8 e.bs)
  row2 : w.ownsRow 0 3 1 e.v2 e.pl.length (I64D e.pl)
  apart : e.foot.Nodup
theorem owns_carry {w w' : World} {base : Nat} {e : TypeId} {size : Nat} {v : Value} {n : Nat} {xs : List Value} (h : w.ownsRow base e size v n xs) (hk : ∀ g, v.ownBlock = some g → w'.heap[g]? = w.heap[g]?) : w'.ownsRow base e size v n xs := by
  refine ⟨h.1, ?_⟩
  rcases h.2 with hn | ⟨g, cap, cur, rfl, hb, hgg, rest⟩
  · exact .inl hn
  · exact .inr ⟨g, cap, cur, rfl, hb, (hk g rfl).trans hgg, rest⟩
theorem EntAt.carry {w w' : World} {e : Ent} (h : EntAt w e) (hk : ∀ i ∈ e.foot, w'.heap[i]? = w.heap[i]?) : EntAt w' e :=
  ⟨h.head.carry (hk _ (by simp [Ent.foot])), owns_carry h.row1 fun g hg => hk g (by simp [Ent.foot, hg]), owns_carry h.row2 fun g hg => hk g (by simp [Ent.foot, hg]), h.apart⟩
theorem EntAt.lt {w : World} {e : Ent} (h : EntAt w e) : ∀ i ∈ e.foot, i < w.heap.size := by
  intro i hi
  simp only [Ent.foot, List.mem_cons, List.mem_append, Option.mem_toList] at hi
  rcases hi with rfl | hi | hi
  · exact h.head.lt
  · exact (h.row1.lt i hi).2
  · exact (h.row2.lt i hi).2

/-- A disk: its files by names, its room, is it on, its operations, the next place, what is planned. -/
structure St where
  fs : List Ent
  room : Nat
  on : Bool
  ops : Nat
  next : Nat
  left : Nat
  keep : Int
def encE (e : Ent) : Lit × DataW Unit := (.string e.nm, .lit (.int .i64 (e.b : Int)))
def datum (fs : List Ent) : DataW Unit := .map (fs.map encE)
def feet (fs : List Ent) : List Nat := fs.flatMap Ent.foot
def foot (d bm : Nat) (fs : List Ent) : List Nat := d :: bm :: feet fs
def headOf (bm : Nat) (S : St) : List Value := [.map (some bm), .int .i64 (S.room : Int), .bool S.on, .int .i64 (S.ops : Int), .int .i64 (S.next : Int), .int .i64 (S.left : Int), .int .i64 S.keep]
/-- The disk lies in memory. -/
structure DiskAt (w : World) (d bm : Nat) (S : St) : Prop where
  head : Blk w d (headOf bm S) 61
  map : w.ownsMap Tryz.prog 9 ptrElem bm S.fs.length (datum S.fs)
  ents : ∀ e ∈ S.fs, EntAt w e
  apart : (foot d bm S.fs).Nodup

theorem DiskAt.lt {w : World} {d bm : Nat} {S : St} (h : DiskAt w d bm S) : ∀ i ∈ foot d bm S.fs, i < w.heap.size := by
  intro i hi
  simp only [foot, feet, List.mem_cons, List.mem_flatMap] at hi
  rcases hi with rfl | rfl | ⟨e, he, hi⟩
  · exact h.head.lt
  · exact h.map.lt
  · exact (h.ents e he).lt i hi
theorem map_carry {w w' : World} {P : Program} {k : TypeId} {R : Value → Option (DataW Unit × List MemPlace)} {b n : Nat} {D : DataW Unit} (h : w.ownsMap P k R b n D) (e : w'.heap[b]? = w.heap[b]?) : w'.ownsMap P k R b n D := by
  obtain ⟨es, clock, hb, r⟩ := h
  exact ⟨es, clock, e.trans hb, r⟩
theorem map_tight {w : World} {P : Program} {k : TypeId} {R : Value → Option (DataW Unit × List MemPlace)} {b n : Nat} {D : DataW Unit} (h : w.ownsMap P k R b n D) : w.ownsMap P k R b (Maps.size D) D := by
  obtain ⟨es, clock, hb, F, _, rfl⟩ := h
  exact ⟨es, clock, hb, F, by simp [Maps.size, length_sorted], rfl⟩
theorem DiskAt.carry {w w' : World} {d bm : Nat} {S : St} (h : DiskAt w d bm S) (hk : ∀ i ∈ foot d bm S.fs, w'.heap[i]? = w.heap[i]?) : DiskAt w' d bm S :=
  ⟨h.head.carry (hk _ (by simp [foot])), map_carry h.map (hk _ (by simp [foot])), fun e he => (h.ents e he).carry fun i hi => hk i (by simp only [foot, feet, List.mem_cons, List.mem_flatMap]; exact .inr (.inr ⟨e, he, hi⟩)), h.apart⟩
/-- Something else has turned. -/
theorem DiskAt.moved {w w' : World} {d bm : Nat} {S : St} {a b : List Nat} (h : DiskAt w d bm S) (hm : Moved w w' a b) (hd : ∀ i ∈ foot d bm S.fs, i ∉ a) : DiskAt w' d bm S :=
  h.carry fun i hi => hm.kept i (h.lt i hi) (hd i hi)
theorem DiskAt.alloc {w : World} {d bm : Nat} {S : St} (h : DiskAt w d bm S) (o : Obj) : DiskAt (w.alloc o) d bm S := h.carry fun i hi => Below.heap_alloc _ _ _ (h.lt i hi)
theorem DiskAt.drewN {w : World} {d bm : Nat} {S : St} (h : DiskAt w d bm S) (k : Nat) : DiskAt (w.drewN k) d bm S := h.carry fun _ _ => rfl
theorem DiskAt.drew {w : World} {d bm : Nat} {S : St} (h : DiskAt w d bm S) : DiskAt w.drew d bm S := h.carry fun _ _ => rfl

/-! ### the head's cells -/
section
variable {w : World} {d bm : Nat} {S : St}
theorem DiskAt.c0 (h : DiskAt w d bm S) : w.cell? ⟨d, 0, none⟩ = some (.map (some bm)) := h.head.cell 0 rfl
theorem DiskAt.c1 (h : DiskAt w d bm S) : w.cell? ⟨d, 1, none⟩ = some (.int .i64 (S.room : Int)) := h.head.cell 1 rfl
theorem DiskAt.c2 (h : DiskAt w d bm S) : w.cell? ⟨d, 2, none⟩ = some (.bool S.on) := h.head.cell 2 rfl
theorem DiskAt.c3 (h : DiskAt w d bm S) : w.cell? ⟨d, 3, none⟩ = some (.int .i64 (S.ops : Int)) := h.head.cell 3 rfl
theorem DiskAt.c4 (h : DiskAt w d bm S) : w.cell? ⟨d, 4, none⟩ = some (.int .i64 (S.next : Int)) := h.head.cell 4 rfl
theorem DiskAt.c5 (h : DiskAt w d bm S) : w.cell? ⟨d, 5, none⟩ = some (.int .i64 (S.left : Int)) := h.head.cell 5 rfl
theorem DiskAt.c6 (h : DiskAt w d bm S) : w.cell? ⟨d, 6, none⟩ = some (.int .i64 S.keep) := h.head.cell 6 rfl
theorem nodup_d (h : (foot d bm S.fs).Nodup) : d ≠ bm ∧ d ∉ feet S.fs ∧ bm ∉ feet S.fs ∧ (feet S.fs).Nodup := by
  simp only [foot, List.nodup_cons, List.mem_cons, not_or] at h
  exact ⟨h.1.1, h.1.2, h.2.1, h.2.2⟩
/-- A store into the head. -/
theorem DiskAt.put (h : DiskAt w d bm S) {S' : St} (hf : S'.fs = S.fs) (i : Nat) (v : Value) (e : (headOf bm S).set i v = headOf bm S') : DiskAt (w.setCell ⟨d, i, none⟩ v) d bm S' := by
  have hn := nodup_d h.apart
  have hb : ∀ j, j ≠ d → (w.setCell ⟨d, i, none⟩ v).heap[j]? = w.heap[j]? := fun j hj => Below.heap_setCell _ _ _ _ hj
  refine ⟨h.head.setTo i v _ e, ?_, ?_, by rw [hf]; exact h.apart⟩
  · rw [hf]
    exact map_carry h.map (hb _ (fun e => hn.1 e.symm))
  · rw [hf]
    intro x hx
    exact (h.ents x hx).carry fun j hj => hb j fun e => hn.2.1 (List.mem_flatMap.2 ⟨x, hx, e ▸ hj⟩)
end

/-! ### one file among the others -/
/-- The file e becomes e': same name and block. -/
def swap (fs : List Ent) (e e' : Ent) : List Ent := fs.map fun x => if x.b = e.b then e' else x
theorem b_mem {e : Ent} : e.b ∈ e.foot := by simp [Ent.foot]
theorem swap_datum {fs : List Ent} {e e' : Ent} (hn : ∀ x ∈ fs, x.b = e.b → x.nm = e'.nm) (hb : e'.b = e.b) : datum (swap fs e e') = datum fs := by
  unfold datum swap
  rw [List.map_map]
  congr 1
  apply List.map_congr_left
  intro x hx
  simp only [Function.comp]
  split
  · rename_i h
    simp [encE, hb, h, hn x hx h]
  · rfl
theorem mem_swap {fs : List Ent} {e e' : Ent} {x : Ent} : x ∈ swap fs e e' → x = e' ∨ (x ∈ fs ∧ x.b ≠ e.b) := by
  intro h
  obtain ⟨y, hy, he⟩ := List.mem_map.1 h
  split at he
  · exact .inl he.symm
  · exact .inr ⟨he ▸ hy, he ▸ (by assumption)⟩
theorem length_swap (fs : List Ent) (e e' : Ent) : (swap fs e e').length = fs.length := List.length_map _
theorem feet_mem {fs : List Ent} {i : Nat} : i ∈ feet fs ↔ ∃ e ∈ fs, i ∈ e.foot := List.mem_flatMap
theorem feet_same {fs : List Ent} (hn : (feet fs).Nodup) {x y : Ent} (hx : x ∈ fs) (hy : y ∈ fs) {i : Nat} (h1 : i ∈ x.foot) (h2 : i ∈ y.foot) : x = y := by
  induction fs with
  | nil => cases hx
  | cons z r ih =>
    simp only [feet, List.flatMap_cons, List.nodup_append] at hn
    have hd : ∀ u ∈ r, i ∈ z.foot → i ∈ u.foot → False := fun u hu h1 h2 => hn.2.2 i h1 i (List.mem_flatMap.2 ⟨u, hu, h2⟩) rfl
    simp only [List.mem_cons] at hx hy
    rcases hx with rfl | hx <;> rcases hy with rfl | hy
    · rfl
    · exact (hd y hy h1 h2).elim
    · exact (hd x hx h2 h1).elim
    · exact ih hn.2.1 hx hy
theorem swap_other {fs : List Ent} {e e' : Ent} (h : ∀ y ∈ fs, y.b ≠ e.b) : swap fs e e' = fs := by
  unfold swap
  conv => rhs; rw [← List.map_id fs]
  apply List.map_congr_left
  intro y hy
  simp [h y hy]
theorem swap_nodup {fs : List Ent} {e e' : Ent} (hn : (feet fs).Nodup) (he : e ∈ fs) (hb : e'.b = e.b) (hd : e'.foot.Nodup) (hnew : ∀ i ∈ e'.foot, i ∈ e.foot ∨ i ∉ feet fs) : (feet (swap fs e e')).Nodup := by
  induction fs with
  | nil => cases he
  | cons z r ih =>
    have hn0 := hn
    simp only [feet, List.flatMap_cons, List.nodup_append] at hn
    by_cases hz : z.b = e.b
    · have hze : z = e := feet_same hn0 (by simp) he (i := e.b) (hz ▸ b_mem) b_mem
      subst hze
      have hr : swap r z e' = r := swap_other fun y hy e => hn.2.2 z.b b_mem y.b (List.mem_flatMap.2 ⟨y, hy, b_mem⟩) e.symm
      have h1 : swap (z :: r) z e' = e' :: swap r z e' := by simp [swap]
      rw [h1, hr]
      show (feet (e' :: r)).Nodup
      simp only [feet, List.flatMap_cons, List.nodup_append]
      refine ⟨hd, hn.2.1, fun i hi j hj hij => ?_⟩
      subst hij
      rcases hnew i hi with h2 | h2
      · exact hn.2.2 i h2 i hj rfl
      · exact h2 (by simp only [feet, List.flatMap_cons, List.mem_append]; exact .inr hj)
    · have hme : e ∈ r := by
        rcases List.mem_cons.1 he with rfl | h
        · exact absurd rfl hz
        · exact h
      have h1 : swap (z :: r) e e' = z :: swap r e e' := by simp [swap, hz]
      rw [h1]
      simp only [feet, List.flatMap_cons, List.nodup_append]
      have ih' := ih hn.2.1 hme (fun i hi => (hnew i hi).imp id fun h hh => h (by simp only [feet, List.flatMap_cons, List.mem_append]; exact .inr hh))
      refine ⟨hn.1, ih', fun i hi j hj hij => ?_⟩
      subst hij
      obtain ⟨x, hx, hix⟩ := List.mem_flatMap.1 hj
      rcases mem_swap hx with rfl | ⟨hx, _⟩
      · rcases hnew i hix with h2 | h2
        · exact hn.2.2 i hi i (List.mem_flatMap.2 ⟨e, hme, h2⟩) rfl
        · exact h2 (by simp only [feet, List.flatMap_cons, List.mem_append]; exact .inl hi)
      · exact hn.2.2 i hi i (List.mem_flatMap.2 ⟨x, hx, hix⟩) rfl
theorem feet_swap {fs : List Ent} {e e' : Ent} {i : Nat} (h : i ∈ feet (swap fs e e')) : i ∈ feet fs ∨ i ∈ e'.foot := by
  obtain ⟨x, hx, hi⟩ := feet_mem.1 h
  rcases mem_swap hx with rfl | ⟨hx, _⟩
  · exact .inr hi
  · exact .inl (feet_mem.2 ⟨x, hx, hi⟩)

/-- One file has turned, in memory and in the disk. -/
theorem DiskAt.turn {w w' : World} {d bm : Nat} {S : St} (h : DiskAt w d bm S) {e e' : Ent} (he : e ∈ S.fs) (hm : Moved w w' e.foot e'.foot) (hE : EntAt w' e') (hb : e'.b = e.b) (hnm : e'.nm = e.nm) :
    DiskAt w' d bm { S with fs := swap S.fs e e' } ∧ Moved w w' (foot d bm S.fs) (foot d bm (swap S.fs e e')) := by
  have hn := nodup_d h.apart
  have hself : ∀ x ∈ S.fs, x.b = e.b → x = e := fun x hx hxb => feet_same hn.2.2.2 hx he (i := e.b) (hxb ▸ b_mem) b_mem
  have hkeep : ∀ i, i < w.heap.size → i ∉ e.foot → w'.heap[i]? = w.heap[i]? := hm.kept
  have hfd : d ∉ e.foot := fun hi => hn.2.1 (feet_mem.2 ⟨e, he, hi⟩)
  have hfb : bm ∉ e.foot := fun hi => hn.2.2.1 (feet_mem.2 ⟨e, he, hi⟩)
  have hlt := h.lt
  have hltf : ∀ i ∈ feet S.fs, i < w.heap.size := fun i hi => hlt i (by simp [foot, hi])
  refine ⟨⟨h.head.carry (hkeep d h.head.lt hfd), ?_, ?_, ?_⟩, ?_⟩
  · show w'.ownsMap _ _ _ _ (swap S.fs e e').length (datum (swap S.fs e e'))
    rw [swap_datum (fun x hx hxb => by rw [hself x hx hxb, hnm]) hb, length_swap]
    exact map_carry h.map (hkeep bm h.map.lt hfb)
  · intro x hx
    rcases mem_swap hx with rfl | ⟨hx, hxb⟩
    · exact hE
    · refine (h.ents x hx).carry fun i hi => hkeep i ((h.ents x hx).lt i hi) fun hie => hxb ?_
      rw [feet_same hn.2.2.2 hx he hi hie]
  · have hne : ∀ i ∈ e'.foot, i ∈ e.foot ∨ i ∉ foot d bm S.fs := fun i hi => (hm.news i hi).imp id fun h1 h2 => by have := hlt i h2; omega
    have hnd := swap_nodup hn.2.2.2 he hb hE.apart (fun i hi => (hne i hi).imp id fun h1 h2 => h1 (by simp [foot, h2]))
    simp only [foot, List.nodup_cons, List.mem_cons, not_or]
    refine ⟨⟨hn.1, fun hi => ?_⟩, fun hi => ?_, hnd⟩
    · rcases feet_swap hi with h1 | h1
      · exact hn.2.1 h1
      · rcases hne d h1 with h2 | h2
        · exact hfd h2
        · exact h2 (by simp [foot])
    · rcases feet_swap hi with h1 | h1
      · exact hn.2.2.1 h1
      · rcases hne bm h1 with h2 | h2
        · exact hfb h2
        · exact h2 (by simp [foot])
  · refine hm.wider (fun i hi => .inl (by simp only [foot, List.mem_cons]; exact .inr (.inr (feet_mem.2 ⟨e, he, hi⟩)))) (fun i hi => ?_)
    simp only [foot, List.mem_cons] at hi ⊢
    rcases hi with h1 | h1 | h1
    · exact .inl (.inl h1)
    · exact .inl (.inr (.inl h1))
    · rcases feet_swap h1 with h2 | h2
      · exact .inl (.inr (.inr h2))
      · exact .inr (.inl h2)
end Go.Proofs.YtglaocghcgcghaaGreatDoor
namespace Go.Proofs.YtglaocghcgcghaaGreatDoor

theorem mergeSort_nat {l l' : List Nat} (h : l.Perm l') : l.mergeSort (fun a b => decide (a ≤ b)) = l'.mergeSort (fun a b => decide (a ≤ b)) := by
  have tr : ∀ a b c : Nat, decide (a ≤ b) = true → decide (b ≤ c) = true → decide (a ≤ c) = true := fun a b c h1 h2 => by simp at *; omega
  have to : ∀ a b : Nat, (decide (a ≤ b) || decide (b ≤ a)) = true := fun a b => by simp; omega
  refine List.Perm.eq_of_pairwise (le := fun a b => decide (a ≤ b) = true) (fun a b _ _ h1 h2 => by simp at h1 h2; omega) (List.pairwise_mergeSort tr to l) (List.pairwise_mergeSort tr to l') (((List.mergeSort_perm l _).trans h).trans (List.mergeSort_perm l' _).symm)
theorem mergeSort_cast (l : List Nat) : (l.map fun n : Nat => (n : Int)).mergeSort (fun x y => decide (x ≤ y)) = (l.mergeSort (fun a b => decide (a ≤ b))).map fun n : Nat => (n : Int) := by
  have tr : ∀ a b c : Int, decide (a ≤ b) = true → decide (b ≤ c) = true → decide (a ≤ c) = true := fun a b c h1 h2 => by simp at *; omega
  have to : ∀ a b : Int, (decide (a ≤ b) || decide (b ≤ a)) = true := fun a b => by simp; omega
  have trn : ∀ a b c : Nat, decide (a ≤ b) = true → decide (b ≤ c) = true → decide (a ≤ c) = true := fun a b c h1 h2 => by simp at *; omega
  have ton : ∀ a b : Nat, (decide (a ≤ b) || decide (b ≤ a)) = true := fun a b => by simp; omega
  refine List.Perm.eq_of_pairwise (le := fun a b : Int => decide (a ≤ b) = true) (fun a b _ _ h1 h2 => by simp at h1 h2; omega) (List.pairwise_mergeSort tr to _) ?_ ?_
  · rw [List.pairwise_map]
    exact (List.pairwise_mergeSort trn ton l).imp fun h => by simp at *; omega
  · exact (List.mergeSort_perm _ _).trans ((List.mergeSort_perm l _).symm.map _)
end Go.Proofs.YtglaocghcgcghaaGreatDoor
namespace Go.Proofs.YtglaocghcgcghaaGreatDoor
open Go.RowKit

def tB (l : List UInt8) : ByteArray := ⟨l.toArray⟩
theorem tB_list (l : List UInt8) : (tB l).data.toList = l := by simp [tB]
theorem tB_size (l : List UInt8) : (tB l).size = l.length := by show l.toArray.size = _; simp
theorem tB_of (s : ByteArray) : tB s.data.toList = s := by cases s; simp [tB]
theorem tB_inj {a b : List UInt8} (h : tB a = tB b) : a = b := by rw [← tB_list a, h, tB_list]
theorem tB_app (a b : List UInt8) : tB a ++ tB b = tB (a ++ b) := by
  have h : ∀ x y : ByteArray, x.data.toList = y.data.toList → x = y := fun x y e => by rw [← tB_of x, ← tB_of y, e]
  apply h
  rw [ByteArray.data_append, Array.toList_append, tB_list, tB_list, tB_list]
theorem tB_max (l : List UInt8) (h : l.length ≤ 1000) : (tB l).size ≤ maxLen := by rw [tB_size]; unfold maxLen; omega
end Go.Proofs.YtglaocghcgcghaaGreatDoor
namespace Go.Proofs
section
open Go.Shelf
def Tryz.keys40_ren : Go.Shelf.Ren := ⟨fun | 7 => 40 | 10 => 68 | n => n, fun | 23 => 59 | 26 => 9 | 3 => 76 | 28 => 84 | 0 => 0 | 27 => 83 | 33 => 100 | 4 => 4 | n => n, fun | n => n⟩
theorem Tryz.keys40 : Go.Proofs.SlLaysZ.n7 Tryz.prog Tryz.keys40_ren := {
  mixed := by kernel_rfl
  f7 := ⟨Tryz.f40.name, by decide, Tryz.func40.trans (congrArg some (by kernel_rfl))⟩
  f10 := ⟨Tryz.f68.name, by decide, Tryz.func68.trans (congrArg some (by kernel_rfl))⟩
  t0 := Tryz.underlying0
  a0 := Tryz.isAgg0
  z0 := Tryz.sizeOf0
  v0 := Tryz.zeroValue0
  t4 := Tryz.underlying4
  a4 := Tryz.isAgg4
  z4 := Tryz.sizeOf4
  v4 := Tryz.zeroValue4
  t23 := Tryz.underlying59
  a23 := Tryz.isAgg59
  z23 := Tryz.sizeOf59
  v23 := Tryz.zeroValue59
  t26 := Tryz.underlying9
  a26 := Tryz.isAgg9
  z26 := Tryz.sizeOf9
  v26 := Tryz.zeroValue9
  t27 := Tryz.underlying83
  a27 := Tryz.isAgg83
  z27 := Tryz.sizeOf83
  v27 := Tryz.zeroValue83
  t28 := Tryz.underlying84
  a28 := Tryz.isAgg84
  z28 := Tryz.sizeOf84
  v28 := Tryz.zeroValue84
  t33 := Tryz.underlying100
  a33 := Tryz.isAgg100
  z33 := Tryz.sizeOf100
  v33 := Tryz.zeroValue100 }
def Tryz.sorted39_ren : Go.Shelf.Ren := ⟨fun | 6 => 39 | 8 => 66 | 9 => 67 | 11 => 93 | 13 => 88 | 12 => 94 | 23 => 111 | 24 => 112 | 14 => 117 | 15 => 118 | 16 => 119 | 17 => 120 | 18 => 121 | 19 => 122 | 20 => 123 | 21 => 124 | 22 => 125 | 25 => 145 | 26 => 131 | 27 => 132 | 28 => 146 | 29 => 147 | 30 => 148 | 31 => 159 | n => n, fun | 26 => 9 | 28 => 84 | 24 => 56 | 0 => 0 | 3 => 3 | 37 => 23 | 48 => 120 | 50 => 104 | 4 => 4 | 40 => 140 | 39 => 139 | 45 => 93 | 5 => 5 | 9 => 9 | 51 => 161 | 55 => 165 | 57 => 183 | 58 => 184 | 33 => 100 | n => n, fun | n => n⟩
theorem Tryz.sorted39 : Go.Proofs.SlLaysZ.n6 Tryz.prog Tryz.sorted39_ren := {
  mixed := by kernel_rfl
  f6 := ⟨Tryz.f39.name, by decide, Tryz.func39.trans (congrArg some (by kernel_rfl))⟩
  f8 := ⟨Tryz.f66.name, by decide, Tryz.func66.trans (congrArg some (by kernel_rfl))⟩
  f11 := ⟨Tryz.f93.name, by decide, Tryz.func93.trans (congrArg some (by kernel_rfl))⟩
  t0 := Tryz.underlying0
  a0 := Tryz.isAgg0
  z0 := Tryz.sizeOf0
  v0 := Tryz.zeroValue0
  t24 := Tryz.underlying56
  a24 := Tryz.isAgg56
  z24 := Tryz.sizeOf56
  v24 := Tryz.zeroValue56
  t26 := Tryz.underlying9
  a26 := Tryz.isAgg9
  z26 := Tryz.sizeOf9
  v26 := Tryz.zeroValue9
  t28 := Tryz.underlying84
  a28 := Tryz.isAgg84
  z28 := Tryz.sizeOf84
  v28 := Tryz.zeroValue84
  i26 := by kernel_rfl }
end
section
open Go.RowKit Go.Maps Go.Sort Go.Shelf
theorem Tryz.sorts39 (m : Nat) : AnyZ.SortsIn Tryz.prog Tryz.sorted39_ren Fence.wide m :=
  ⟨fun blk off cap ss W hH hblk hsz => callsIn_wide.2 (Tryz.slices_Sort_string blk off cap ss W hH hblk hsz),
   fun p cap W => callsIn_wide.2 (Tryz.slices_Sort_string_none p cap W)⟩

theorem Tryz.maps_Keys_40 (mb : Option Nat) (W : World) : CallsIn Fence.wide 5 Tryz.prog 40 #[.map mb] W fun e w' => e = .returned (.func (.func 68) #[] #[.pointer (some ⟨W.heap.size, 0, none⟩)]) ∧ w' = W.alloc (.cells #[.map mb] 59) :=
  AnyZ.keys_in Tryz.keys40 Fence.wide 5 trivial rfl mb W

set_option maxHeartbeats 1000000 in
theorem Tryz.slices_Sorted_keys_39_40 {H : Type} (b nn : Nat) (D0 : DataW H) (R : Value → Option (DataW H × List MemPlace)) (w : World) (hown : w.ownsMap Tryz.prog 9 R b nn D0) (hmax : Maps.size D0 ≤ maxLen) (hbytes : Maps.size D0 * 16 ≤ 140737488355328) :
    CallsIn Fence.wide 5 Tryz.prog 39 #[.func (.func 68) #[] #[.pointer (some ⟨w.heap.size, 0, none⟩)]] (w.alloc (.cells #[.map (some b)] 59)) fun e w' => ∃ (v : Value) (ss : List (List UInt8)), e = .returned v ∧ ss.Perm (strKeys D0) ∧
      w'.ownsRow (w.alloc (.cells #[.map (some b)] 59)).heap.size 9 1 v ss.length ((ss.mergeSort (fun x y => decide (x ≤ y))).map encStr) ∧ (v = .slice none 0 0 ↔ ss = []) ∧ Below (w.alloc (.cells #[.map (some b)] 59)).heap.size (w.alloc (.cells #[.map (some b)] 59)) w' := by
  have hbl := hown.lt
  have hseq : SeqGives Fence.wide 2 Tryz.prog 68 #[.pointer (some ⟨w.heap.size, 0, none⟩)] encStr (fun ss => ss.Perm (strKeys D0)) (Maps.size D0) (w.alloc (.cells #[.map (some b)] 59)) :=
    AnyZ.keys_gives (ρ := Tryz.keys40_ren) { Tryz.keys40 with } Fence.wide _ trivial rfl (by omega) w.heap.size b nn D0 _ (by simp) (by simp) (by
      obtain ⟨es, clock, hb, Ft, hs, hD⟩ := hown
      exact ⟨es, clock, (Below.heap_alloc _ _ b hbl).trans hb, Ft, hs, hD⟩)
  exact AnyZ.sorted_in Tryz.sorted39 Fence.wide 5 trivial trivial trivial trivial rfl (by omega) (Tryz.sorts39 _) (enters_of Tryz.func67 (by kernel_rfl) rfl) 68 #[.pointer (some ⟨w.heap.size, 0, none⟩)] trivial (enters_of Tryz.func68 (by kernel_rfl) rfl) _ _ hmax hbytes _ hseq

set_option maxHeartbeats 1000000 in
theorem Tryz.slices_Sorted_keys_nil_39_40 (w : World) :
    CallsIn Fence.wide 5 Tryz.prog 39 #[.func (.func 68) #[] #[.pointer (some ⟨w.heap.size, 0, none⟩)]] (w.alloc (.cells #[.map none] 59)) fun e w' => ∃ (v : Value) (ss : List (List UInt8)), e = .returned v ∧ ss = [] ∧
      w'.ownsRow (w.alloc (.cells #[.map none] 59)).heap.size 9 1 v ss.length ((ss.mergeSort (fun x y => decide (x ≤ y))).map encStr) ∧ (v = .slice none 0 0 ↔ ss = []) ∧ Below (w.alloc (.cells #[.map none] 59)).heap.size (w.alloc (.cells #[.map none] 59)) w' := by
  have hseq : SeqGives Fence.wide 2 Tryz.prog 68 #[.pointer (some ⟨w.heap.size, 0, none⟩)] encStr (fun ss : List (List UInt8) => ss = []) 0 (w.alloc (.cells #[.map none] 59)) :=
    AnyZ.keys_gives_nil (ρ := Tryz.keys40_ren) { Tryz.keys40 with } Fence.wide _ trivial rfl w.heap.size _ (by simp) (by simp)
  exact AnyZ.sorted_in Tryz.sorted39 Fence.wide 5 trivial trivial trivial trivial rfl (by omega) (Tryz.sorts39 _) (enters_of Tryz.func67 (by kernel_rfl) rfl) 68 #[.pointer (some ⟨w.heap.size, 0, none⟩)] trivial (enters_of Tryz.func68 (by kernel_rfl) rfl) _ 0 (Nat.zero_le _) (by omega) _ hseq

end
end Go.Proofs
namespace Go.Proofs.YtglaocghcgcghaaGreatDoor
open Go.RowKit


end Go.Proofs.YtglaocghcgcghaaGreatDoor
