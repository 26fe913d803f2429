/-
  SEVERAL TEXTS IN ONE: DskMem, DskSmall, RegCl, IntRow.
-/
import Derived.Test.YtlamncldbnagmaaGreatDoorChecked
import Derived.Test.YtlamncldbnagmaaGreatDoorMany2
import Derived.Deep.QuietTactic
import Derived.BigQuiet
import Derived.Deep.RegionWith
import Derived.WalkLawsBesides
import Derived.WalkSmall
import Derived.Maps.OwnSet
import Derived.Maps.RangeWalk
import Derived.Maps.Ext
import Derived.Sort.KeysCollected
import Derived.Test.YtlamncldbnagmaaGreatDoorOwn
import Derived.WalkKit
namespace Go.Proofs.YtlamncldbnagmaaGreatDoor
open Go.RowKit Go.Maps

/-- How a pointer to a whole block reads. -/
def ptrElem : Value → Option (DataW Unit × List MemPlace)
  | .pointer (some ⟨b, 0, none⟩) => some (.lit (.int .i64 b), [])
  | _ => none
theorem ptrElem_mk (b : Nat) : ptrElem (.pointer (some ⟨b, 0, none⟩)) = some (.lit (.int .i64 b), []) := rfl
def mkPtr (b : Nat) : Value := .pointer (some ⟨b, 0, none⟩)
theorem ptrElem_inv {v : Value} {y : DataW Unit × List MemPlace} (h : ptrElem v = some y) : ∃ b : Nat, v = mkPtr b ∧ y.1 = .lit (.int .i64 b) := by
  unfold ptrElem at h
  split at h
  · cases h; exact ⟨_, rfl, rfl⟩
  · cases h

/-- Numbers, as cells. -/
def I64D (l : List Nat) : List Value := l.map fun (n : Nat) => Value.int .i64 (n : Int)
theorem I64_length (l : List Nat) : (I64D l).length = l.length := List.length_map _

/-- A file: its name, its block, its two slices, its bytes, how many of them are written, its places in the line. -/
structure Ent where
  nm : List UInt8
  b : Nat
  v1 : Value
  v2 : Value
  bs : List UInt8
  wr : Nat
  pl : List Nat
def Ent.foot (e : Ent) : List Nat := e.b :: (e.v1.ownBlock.toList ++ e.v2.ownBlock.toList)
/-- The file lies in memory. -/
structure EntAt (w : World) (e : Ent) : Prop where
  head : Blk w e.b [e.v1, .int .i64 (e.wr : Int), e.v2] 133
  row1 : w.ownsRow 0 5 1 e.v1 e.bs.length (B8 e.bs)
  row2 : w.ownsRow 0 3 1 e.v2 e.pl.length (I64D e.pl)
  apart : e.foot.Nodup
theorem owns_carry {w w' : World} {base : Nat} {e : TypeId} {size : Nat} {v : Value} {n : Nat} {xs : List Value} (h : w.ownsRow base e size v n xs) (hk : ∀ g, v.ownBlock = some g → w'.heap[g]? = w.heap[g]?) : w'.ownsRow base e size v n xs := by
  refine ⟨h.1, ?_⟩
  rcases h.2 with hn | ⟨g, cap, cur, rfl, hb, hgg, rest⟩
  · exact .inl hn
  · exact .inr ⟨g, cap, cur, rfl, hb, (hk g rfl).trans hgg, rest⟩
theorem EntAt.carry {w w' : World} {e : Ent} (h : EntAt w e) (hk : ∀ i ∈ e.foot, w'.heap[i]? = w.heap[i]?) : EntAt w' e :=
  ⟨h.head.carry (hk _ (by simp [Ent.foot])), owns_carry h.row1 fun g hg => hk g (by simp [Ent.foot, hg]), owns_carry h.row2 fun g hg => hk g (by simp [Ent.foot, hg]), h.apart⟩
theorem EntAt.lt {w : World} {e : Ent} (h : EntAt w e) : ∀ i ∈ e.foot, i < w.heap.size := by
  intro i hi
  simp only [Ent.foot, List.mem_cons, List.mem_append, Option.mem_toList] at hi
  rcases hi with rfl | hi | hi
  · exact h.head.lt
  · exact (h.row1.lt i hi).2
  · exact (h.row2.lt i hi).2

/-- A disk: its files by names, its room, is it on, its operations, the next place, what is planned. -/
structure St where
  fs : List Ent
  room : Nat
  on : Bool
  ops : Nat
  next : Nat
  left : Nat
  keep : Int
def encE (e : Ent) : Lit × DataW Unit := (.string e.nm, .lit (.int .i64 (e.b : Int)))
def datum (fs : List Ent) : DataW Unit := .map (fs.map encE)
def feet (fs : List Ent) : List Nat := fs.flatMap Ent.foot
def foot (d bm : Nat) (fs : List Ent) : List Nat := d :: bm :: feet fs
def headOf (bm : Nat) (S : St) : List Value := [.map (some bm), .int .i64 (S.room : Int), .bool S.on, .int .i64 (S.ops : Int), .int .i64 (S.next : Int), .int .i64 (S.left : Int), .int .i64 S.keep]
/-- The disk lies in memory. -/
structure DiskAt (w : World) (d bm : Nat) (S : St) : Prop where
  head : Blk w d (headOf bm S) 102
  map : w.ownsMap Tryz.prog 9 ptrElem bm S.fs.length (datum S.fs)
  ents : ∀ e ∈ S.fs, EntAt w e
  apart : (foot d bm S.fs).Nodup

theorem DiskAt.lt {w : World} {d bm : Nat} {S : St} (h : DiskAt w d bm S) : ∀ i ∈ foot d bm S.fs, i < w.heap.size := by
  intro i hi
  simp only [foot, feet, List.mem_cons, List.mem_flatMap] at hi
  rcases hi with rfl | rfl | ⟨e, he, hi⟩
  · exact h.head.lt
  · exact h.map.lt
  · exact (h.ents e he).lt i hi
theorem map_carry {w w' : World} {P : Program} {k : TypeId} {R : Value → Option (DataW Unit × List MemPlace)} {b n : Nat} {D : DataW Unit} (h : w.ownsMap P k R b n D) (e : w'.heap[b]? = w.heap[b]?) : w'.ownsMap P k R b n D := by
  obtain ⟨es, clock, hb, r⟩ := h
  exact ⟨es, clock, e.trans hb, r⟩
theorem map_tight {w : World} {P : Program} {k : TypeId} {R : Value → Option (DataW Unit × List MemPlace)} {b n : Nat} {D : DataW Unit} (h : w.ownsMap P k R b n D) : w.ownsMap P k R b (Maps.size D) D := by
  obtain ⟨es, clock, hb, F, _, rfl⟩ := h
  exact ⟨es, clock, hb, F, by simp [Maps.size, length_sorted], rfl⟩
theorem DiskAt.carry {w w' : World} {d bm : Nat} {S : St} (h : DiskAt w d bm S) (hk : ∀ i ∈ foot d bm S.fs, w'.heap[i]? = w.heap[i]?) : DiskAt w' d bm S :=
  ⟨h.head.carry (hk _ (by simp [foot])), map_carry h.map (hk _ (by simp [foot])), fun e he => (h.ents e he).carry fun i hi => hk i (by simp only [foot, feet, List.mem_cons, List.mem_flatMap]; exact .inr (.inr ⟨e, he, hi⟩)), h.apart⟩
/-- Something else has turned. -/
theorem DiskAt.moved {w w' : World} {d bm : Nat} {S : St} {a b : List Nat} (h : DiskAt w d bm S) (hm : Moved w w' a b) (hd : ∀ i ∈ foot d bm S.fs, i ∉ a) : DiskAt w' d bm S :=
  h.carry fun i hi => hm.kept i (h.lt i hi) (hd i hi)
theorem DiskAt.alloc {w : World} {d bm : Nat} {S : St} (h : DiskAt w d bm S) (o : Obj) : DiskAt (w.alloc o) d bm S := h.carry fun i hi => Below.heap_alloc _ _ _ (h.lt i hi)
theorem DiskAt.drewN {w : World} {d bm : Nat} {S : St} (h : DiskAt w d bm S) (k : Nat) : DiskAt (w.drewN k) d bm S := h.carry fun _ _ => rfl
theorem DiskAt.drew {w : World} {d bm : Nat} {S : St} (h : DiskAt w d bm S) : DiskAt w.drew d bm S := h.carry fun _ _ => rfl

/-! ### the head's cells -/
section
variable {w : World} {d bm : Nat} {S : St}
theorem DiskAt.c0 (h : DiskAt w d bm S) : w.cell? ⟨d, 0, none⟩ = some (.map (some bm)) := h.head.cell 0 rfl
theorem DiskAt.c1 (h : DiskAt w d bm S) : w.cell? ⟨d, 1, none⟩ = some (.int .i64 (S.room : Int)) := h.head.cell 1 rfl
theorem DiskAt.c2 (h : DiskAt w d bm S) : w.cell? ⟨d, 2, none⟩ = some (.bool S.on) := h.head.cell 2 rfl
theorem DiskAt.c3 (h : DiskAt w d bm S) : w.cell? ⟨d, 3, none⟩ = some (.int .i64 (S.ops : Int)) := h.head.cell 3 rfl
theorem DiskAt.c4 (h : DiskAt w d bm S) : w.cell? ⟨d, 4, none⟩ = some (.int .i64 (S.next : Int)) := h.head.cell 4 rfl
theorem DiskAt.c5 (h : DiskAt w d bm S) : w.cell? ⟨d, 5, none⟩ = some (.int .i64 (S.left : Int)) := h.head.cell 5 rfl
theorem DiskAt.c6 (h : DiskAt w d bm S) : w.cell? ⟨d, 6, none⟩ = some (.int .i64 S.keep) := h.head.cell 6 rfl
theorem nodup_d (h : (foot d bm S.fs).Nodup) : d ≠ bm ∧ d ∉ feet S.fs ∧ bm ∉ feet S.fs ∧ (feet S.fs).Nodup := by
  simp only [foot, List.nodup_cons, List.mem_cons, not_or] at h
  exact ⟨h.1.1, h.1.2, h.2.1, h.2.2⟩
/-- A store into the head. -/
theorem DiskAt.put (h : DiskAt w d bm S) {S' : St} (hf : S'.fs = S.fs) (i : Nat) (v : Value) (e : (headOf bm S).set i v = headOf bm S') : DiskAt (w.setCell ⟨d, i, none⟩ v) d bm S' := by
  have hn := nodup_d h.apart
  have hb : ∀ j, j ≠ d → (w.setCell ⟨d, i, none⟩ v).heap[j]? = w.heap[j]? := fun j hj => Below.heap_setCell _ _ _ _ hj
  refine ⟨h.head.setTo i v _ e, ?_, ?_, by rw [hf]; exact h.apart⟩
  · rw [hf]
    exact map_carry h.map (hb _ (fun e => hn.1 e.symm))
  · rw [hf]
    intro x hx
    exact (h.ents x hx).carry fun j hj => hb j fun e => hn.2.1 (List.mem_flatMap.2 ⟨x, hx, e ▸ hj⟩)
end

/-! ### one file among the others -/
/-- The file e becomes e': same name and block. -/
def swap (fs : List Ent) (e e' : Ent) : List Ent := fs.map fun x => if x.b = e.b then e' else x
theorem b_mem {e : Ent} : e.b ∈ e.foot := by simp [Ent.foot]
theorem swap_datum {fs : List Ent} {e e' : Ent} (hn : ∀ x ∈ fs, x.b = e.b → x.nm = e'.nm) (hb : e'.b = e.b) : datum (swap fs e e') = datum fs := by
  unfold datum swap
  rw [List.map_map]
  congr 1
  apply List.map_congr_left
  intro x hx
  simp only [Function.comp]
  split
  · rename_i h
    simp [encE, hb, h, hn x hx h]
  · rfl
theorem mem_swap {fs : List Ent} {e e' : Ent} {x : Ent} : x ∈ swap fs e e' → x = e' ∨ (x ∈ fs ∧ x.b ≠ e.b) := by
  intro h
  obtain ⟨y, hy, he⟩ := List.mem_map.1 h
  split at he
  · exact .inl he.symm
  · exact .inr ⟨he ▸ hy, he ▸ (by assumption)⟩
theorem length_swap (fs : List Ent) (e e' : Ent) : (swap fs e e').length = fs.length := List.length_map _
theorem feet_mem {fs : List Ent} {i : Nat} : i ∈ feet fs ↔ ∃ e ∈ fs, i ∈ e.foot := List.mem_flatMap
theorem feet_same {fs : List Ent} (hn : (feet fs).Nodup) {x y : Ent} (hx : x ∈ fs) (hy : y ∈ fs) {i : Nat} (h1 : i ∈ x.foot) (h2 : i ∈ y.foot) : x = y := by
  induction fs with
  | nil => cases hx
  | cons z r ih =>
    simp only [feet, List.flatMap_cons, List.nodup_append] at hn
    have hd : ∀ u ∈ r, i ∈ z.foot → i ∈ u.foot → False := fun u hu h1 h2 => hn.2.2 i h1 i (List.mem_flatMap.2 ⟨u, hu, h2⟩) rfl
    simp only [List.mem_cons] at hx hy
    rcases hx with rfl | hx <;> rcases hy with rfl | hy
    · rfl
    · exact (hd y hy h1 h2).elim
    · exact (hd x hx h2 h1).elim
    · exact ih hn.2.1 hx hy
theorem swap_other {fs : List Ent} {e e' : Ent} (h : ∀ y ∈ fs, y.b ≠ e.b) : swap fs e e' = fs := by
  unfold swap
  conv => rhs; rw [← List.map_id fs]
  apply List.map_congr_left
  intro y hy
  simp [h y hy]
theorem swap_nodup {fs : List Ent} {e e' : Ent} (hn : (feet fs).Nodup) (he : e ∈ fs) (hb : e'.b = e.b) (hd : e'.foot.Nodup) (hnew : ∀ i ∈ e'.foot, i ∈ e.foot ∨ i ∉ feet fs) : (feet (swap fs e e')).Nodup := by
  induction fs with
  | nil => cases he
  | cons z r ih =>
    have hn0 := hn
    simp only [feet, List.flatMap_cons, List.nodup_append] at hn
    by_cases hz : z.b = e.b
    · have hze : z = e := feet_same hn0 (by simp) he (i := e.b) (hz ▸ b_mem) b_mem
      subst hze
      have hr : swap r z e' = r := swap_other fun y hy e => hn.2.2 z.b b_mem y.b (List.mem_flatMap.2 ⟨y, hy, b_mem⟩) e.symm
      have h1 : swap (z :: r) z e' = e' :: swap r z e' := by simp [swap]
      rw [h1, hr]
      show (feet (e' :: r)).Nodup
      simp only [feet, List.flatMap_cons, List.nodup_append]
      refine ⟨hd, hn.2.1, fun i hi j hj hij => ?_⟩
      subst hij
      rcases hnew i hi with h2 | h2
      · exact hn.2.2 i h2 i hj rfl
      · exact h2 (by simp only [feet, List.flatMap_cons, List.mem_append]; exact .inr hj)
    · have hme : e ∈ r := by
        rcases List.mem_cons.1 he with rfl | h
        · exact absurd rfl hz
        · exact h
      have h1 : swap (z :: r) e e' = z :: swap r e e' := by simp [swap, hz]
      rw [h1]
      simp only [feet, List.flatMap_cons, List.nodup_append]
      have ih' := ih hn.2.1 hme (fun i hi => (hnew i hi).imp id fun h hh => h (by simp only [feet, List.flatMap_cons, List.mem_append]; exact .inr hh))
      refine ⟨hn.1, ih', fun i hi j hj hij => ?_⟩
      subst hij
      obtain ⟨x, hx, hix⟩ := List.mem_flatMap.1 hj
      rcases mem_swap hx with rfl | ⟨hx, _⟩
      · rcases hnew i hix with h2 | h2
        · exact hn.2.2 i hi i (List.mem_flatMap.2 ⟨e, hme, h2⟩) rfl
        · exact h2 (by simp only [feet, List.flatMap_cons, List.mem_append]; exact .inl hi)
      · exact hn.2.2 i hi i (List.mem_flatMap.2 ⟨x, hx, hix⟩) rfl
theorem feet_swap {fs : List Ent} {e e' : Ent} {i : Nat} (h : i ∈ feet (swap fs e e')) : i ∈ feet fs ∨ i ∈ e'.foot := by
  obtain ⟨x, hx, hi⟩ := feet_mem.1 h
  rcases mem_swap hx with rfl | ⟨hx, _⟩
  · exact .inr hi
  · exact .inl (feet_mem.2 ⟨x, hx, hi⟩)

/-- One file has turned, in memory and in the disk. -/
theorem DiskAt.turn {w w' : World} {d bm : Nat} {S : St} (h : DiskAt w d bm S) {e e' : Ent} (he : e ∈ S.fs) (hm : Moved w w' e.foot e'.foot) (hE : EntAt w' e') (hb : e'.b = e.b) (hnm : e'.nm = e.nm) :
    DiskAt w' d bm { S with fs := swap S.fs e e' } ∧ Moved w w' (foot d bm S.fs) (foot d bm (swap S.fs e e')) := by
  have hn := nodup_d h.apart
  have hself : ∀ x ∈ S.fs, x.b = e.b → x = e := fun x hx hxb => feet_same hn.2.2.2 hx he (i := e.b) (hxb ▸ b_mem) b_mem
  have hkeep : ∀ i, i < w.heap.size → i ∉ e.foot → w'.heap[i]? = w.heap[i]? := hm.kept
  have hfd : d ∉ e.foot := fun hi => hn.2.1 (feet_mem.2 ⟨e, he, hi⟩)
  have hfb : bm ∉ e.foot := fun hi => hn.2.2.1 (feet_mem.2 ⟨e, he, hi⟩)
  have hlt := h.lt
  have hltf : ∀ i ∈ feet S.fs, i < w.heap.size := fun i hi => hlt i (by simp [foot, hi])
  refine ⟨⟨h.head.carry (hkeep d h.head.lt hfd), ?_, ?_, ?_⟩, ?_⟩
  · show w'.ownsMap _ _ _ _ (swap S.fs e e').length (datum (swap S.fs e e'))
    rw [swap_datum (fun x hx hxb => by rw [hself x hx hxb, hnm]) hb, length_swap]
    exact map_carry h.map (hkeep bm h.map.lt hfb)
  · intro x hx
    rcases mem_swap hx with rfl | ⟨hx, hxb⟩
    · exact hE
    · refine (h.ents x hx).carry fun i hi => hkeep i ((h.ents x hx).lt i hi) fun hie => hxb ?_
      rw [feet_same hn.2.2.2 hx he hi hie]
  · have hne : ∀ i ∈ e'.foot, i ∈ e.foot ∨ i ∉ foot d bm S.fs := fun i hi => (hm.news i hi).imp id fun h1 h2 => by have := hlt i h2; omega
    have hnd := swap_nodup hn.2.2.2 he hb hE.apart (fun i hi => (hne i hi).imp id fun h1 h2 => h1 (by simp [foot, h2]))
    simp only [foot, List.nodup_cons, List.mem_cons, not_or]
    refine ⟨⟨hn.1, fun hi => ?_⟩, fun hi => ?_, hnd⟩
    · rcases feet_swap hi with h1 | h1
      · exact hn.2.1 h1
      · rcases hne d h1 with h2 | h2
        · exact hfd h2
        · exact h2 (by simp [foot])
    · rcases feet_swap hi with h1 | h1
      · exact hn.2.2.1 h1
      · rcases hne bm h1 with h2 | h2
        · exact hfb h2
        · exact h2 (by simp [foot])
  · refine hm.wider (fun i hi => .inl (by simp only [foot, List.mem_cons]; exact .inr (.inr (feet_mem.2 ⟨e, he, hi⟩)))) (fun i hi => ?_)
    simp only [foot, List.mem_cons] at hi ⊢
    rcases hi with h1 | h1 | h1
    · exact .inl (.inl h1)
    · exact .inl (.inr (.inl h1))
    · rcases feet_swap h1 with h2 | h2
      · exact .inl (.inr (.inr h2))
      · exact .inr (.inl h2)
end Go.Proofs.YtlamncldbnagmaaGreatDoor
namespace Go.Proofs.YtlamncldbnagmaaGreatDoor
open Go.RowKit Go.Maps

theorem i64_wrap {x : Int} (h1 : -9223372036854775808 ≤ x) (h2 : x < 9223372036854775808) : IntKind.i64.wrap x = x := by
  simp [IntKind.wrap, IntKind.signed, IntKind.bits]
  omega
/-- How many sectors so many bytes need. -/
def secI (x : Int) : Int := if x < 1 then 0 else (x - 1) / 16 + 1
theorem sectors_num (x : Int) (w : World) (h1 : -9223372036854775808 ≤ x) (h2 : x < 9223372036854775808) :
    Calls Tryz.prog 156 #[.int .i64 x] w fun e w' => e = .returned (.int .i64 (secI x)) ∧ w' = w := by
  have H : Hid (secI x = if x < 1 then 0 else (x - 1) / 16 + 1) := rfl
  go_enter Tryz.func156, Tryz.ntmps156
  go_wp2
  all_goals go_ret
  · exact ⟨ret_int (by rw [H.out, if_pos (by assumption)]), rfl⟩
  · exact ⟨ret_int (by rw [H.out, if_neg (by omega)]), rfl⟩
def letterI (c : Int) : Bool := decide (97 ≤ c) && decide (c ≤ 122)
theorem letterD_any (c : Int) (w : World) :
    Calls Tryz.prog 136 #[.int .u8 c] w fun e w' => e = .returned (.bool (letterI c)) ∧ w' = w := by
  have H : Hid (letterI c = (decide (97 ≤ c) && decide (c ≤ 122))) := rfl
  go_enter Tryz.func136, Tryz.ntmps136
  go_wp2
  all_goals go_ret
  · exact ⟨ret_bool (by rw [H.out]; simp [*]), rfl⟩
  · exact ⟨ret_bool (by rw [H.out, decide_eq_false (by omega : ¬ 97 ≤ c)]; rfl), rfl⟩
def allowedI (c : Int) : Bool := letterI c || (decide (48 ≤ c) && decide (c ≤ 57)) || c == 46 || c == 45
theorem allowed_any (c : Int) (w : World) :
    Calls Tryz.prog 137 #[.int .u8 c] w fun e w' => e = .returned (.bool (allowedI c)) ∧ w' = w := by
  have H : Hid (allowedI c = (letterI c || (decide (48 ≤ c) && decide (c ≤ 57)) || c == 46 || c == 45)) := rfl
  have L : Hid (∀ w, Calls Tryz.prog 136 #[.int .u8 c] w fun e w' => e = .returned (.bool (letterI c)) ∧ w' = w) := letterD_any c
  go_enter Tryz.func137, Tryz.ntmps137
  go_wp2_with (go_at_call 136; refine (L.out _).mono ?_; rintro e w1 ⟨rfl, rfl⟩)
  all_goals go_ret
  all_goals refine ⟨ret_bool ?_, rfl⟩
  all_goals first | (rw [H.out]; simp [*]; done) | (unfold allowedI; simp [*]; done) | skip
  · rename_i h1 h2 h3
    rw [H.out, Bool.eq_false_iff.2 h1, decide_eq_false (by omega : ¬ (48 : Int) ≤ c)]
    rfl
theorem ne_map (bm : Nat) (w : World) : (binOp BinOp.neq 100 (.map (some bm)) (.map none)).run Tryz.prog w = .ok (.bool true) w := by kernel_rfl
theorem ne_nomap (w : World) : (binOp BinOp.neq 100 (.map none) (.map none)).run Tryz.prog w = .ok (.bool false) w := by kernel_rfl
theorem made_any (d bm : Nat) (w : World) (h : w.cell? ⟨d, 0, none⟩ = some (.map (some bm))) :
    Calls Tryz.prog 96 #[.pointer (some ⟨d, 0, none⟩)] w fun e w' => e = .returned (.bool true) ∧ w' = w := by
  have hq := ne_map
  go_enter Tryz.func96, Tryz.ntmps96
  go_wp2
  go_ret
  exact ⟨rfl, rfl⟩
theorem made_zero (d : Nat) (w : World) (h : w.cell? ⟨d, 0, none⟩ = some (.map none)) :
    Calls Tryz.prog 96 #[.pointer (some ⟨d, 0, none⟩)] w fun e w' => e = .returned (.bool false) ∧ w' = w := by
  have hq := ne_nomap
  go_enter Tryz.func96, Tryz.ntmps96
  go_wp2
  go_ret
  exact ⟨rfl, rfl⟩
theorem made_nil (w : World) :
    Calls Tryz.prog 96 #[.pointer none] w fun e w' => e = .returned (.bool false) ∧ w' = w := by
  go_enter Tryz.func96, Tryz.ntmps96
  go_wp2
  go_ret
  exact ⟨rfl, rfl⟩
/-- May a file be called so? -/
def goodB (l : List UInt8) : Bool := decide (0 < l.length) && decide (l.length ≤ 40) && letterI ((l.getD 0 0).toNat : Int) && l.all fun c => allowedI (c.toNat : Int)
theorem goodD_any (s : ByteArray) (w : World) (hs : s.size ≤ maxLen) :
    Calls Tryz.prog 97 #[.string s] w fun e w' => e = .returned (.bool (goodB s.data.toList)) ∧ w' = w := by
  have hsz : (s.size : Int) ≤ 9223372036854775807 := by unfold maxLen at hs; omega
  have H : Hid (goodB s.data.toList = (decide (0 < s.size) && decide (s.size ≤ 40) && letterI ((s.data.toList.getD 0 0).toNat : Int) && s.data.toList.all fun c => allowedI (c.toNat : Int))) := rfl
  have L : Hid (∀ c w, Calls Tryz.prog 136 #[.int .u8 c] w fun e w' => e = .returned (.bool (letterI c)) ∧ w' = w) := letterD_any
  have M : Hid (∀ c w, Calls Tryz.prog 137 #[.int .u8 c] w fun e w' => e = .returned (.bool (allowedI c)) ∧ w' = w) := allowed_any
  clear hs
  by_cases h0 : s.size = 0
  · go_enter Tryz.func97, Tryz.ntmps97
    go_wp2_with fail
    go_ret
    exact ⟨ret_bool (by rw [H.out, h0]; rfl), rfl⟩
  by_cases h40 : 40 < s.size
  · go_enter Tryz.func97, Tryz.ntmps97
    go_wp2_with fail
    go_ret
    exact ⟨ret_bool (by rw [H.out, decide_eq_false (by omega : ¬ s.size ≤ 40)]; simp), rfl⟩
  have hb0 : ((s.size : Int) == 0) = false := by rw [beq_eq_false_iff_ne]; omega
  have hb1 : decide (40 < (s.size : Int)) = false := decide_eq_false (by omega)
  have hsi : (s.size : Int) ≤ 40 := by omega
  have hpos : 0 < s.size := by omega
  have hat : ∀ k (hk : k < s.size), s.data.toList.getD k 0 = s[k] := by
    intro k hk
    have : k < s.data.toList.length := by simpa using hk
    rw [List.getD_eq_getElem?_getD, List.getElem?_eq_getElem this]
    rfl
  have H0 : Hid (decide (0 < s.size) = true ∧ decide (s.size ≤ 40) = true) := ⟨by simp; omega, by simp; omega⟩
  have Hat : Hid (∀ k (hk : k < s.size), s.data.toList.getD k 0 = s[k]) := hat
  have Hlen : Hid (s.data.toList.length = s.size) := by show _ = _; simp
  clear hat h0 h40
  cases hl : letterI ((s.data.toList.getD 0 0).toNat : Int)
  · have L0 : Hid (∀ w, Calls Tryz.prog 136 #[.int .u8 (s[0].toNat : Int)] w fun e w' => e = .returned (.bool false) ∧ w' = w) := by
      intro w
      rw [← hl, Hat.out 0 hpos]
      exact L.out _ w
    go_enter Tryz.func97, Tryz.ntmps97
    go_wp2_with (go_at_call 136; refine (L0.out _).mono ?_; rintro e w1 ⟨rfl, rfl⟩)
    go_ret
    exact ⟨ret_bool (by rw [H.out, hl]; simp), rfl⟩
  · have L0 : Hid (∀ w, Calls Tryz.prog 136 #[.int .u8 (s[0].toNat : Int)] w fun e w' => e = .returned (.bool true) ∧ w' = w) := by
      intro w
      rw [← hl, Hat.out 0 hpos]
      exact L.out _ w
    have HL : Hid (letterI ((s.data.toList.getD 0 0).toNat : Int) = true) := hl
    clear hl
    go_enter Tryz.func97, Tryz.ntmps97
    go_wp2_with (go_at_call 136; refine (L0.out _).mono ?_; rintro e w1 ⟨rfl, rfl⟩)
    go_loop [20] (fun i => ∃ k : Nat, k ≤ s.size ∧ i = .int .i64 k ∧ ∀ j, j < k → allowedI ((s.data.toList.getD j 0).toNat : Int) = true) (fun i => s.size - (intOf i).toNat)
    case atStart => exact ⟨0, Nat.zero_le _, rfl, fun j hj => absurd hj (Nat.not_lt_zero _)⟩
    case round =>
      obtain ⟨k, hk, rfl, hall⟩ := hrel
      have HA : Hid (∀ j, j < k → allowedI ((s.data.toList.getD j 0).toNat : Int) = true) := hall
      clear hall
      by_cases hlt : k < s.size
      · cases hak : allowedI (s[k].toNat : Int)
        · have M0 : Hid (∀ w, Calls Tryz.prog 137 #[.int .u8 (s[k].toNat : Int)] w fun e w' => e = .returned (.bool false) ∧ w' = w) := by
            intro w
            rw [← hak]
            exact M.out _ w
          have HK : Hid (allowedI (s[k].toNat : Int) = false) := hak
          clear hak
          go_wp2_with (go_at_call 137; refine (M0.out _).mono ?_; rintro e w2 ⟨rfl, rfl⟩)
          go_ret
          refine ⟨ret_bool ?_, rfl⟩
          rw [H.out]
          have : (s.data.toList.all fun c => allowedI (c.toNat : Int)) = false := by
            rw [List.all_eq_false]
            refine ⟨s.data.toList.getD k 0, ?_, ?_⟩
            · have hk' : k < s.data.toList.length := by rw [Hlen.out]; exact hlt
              rw [List.getD_eq_getElem?_getD, List.getElem?_eq_getElem hk']
              exact List.getElem_mem hk'
            · rw [Hat.out k hlt, HK.out]
              simp
          rw [this]
          simp
        · have M0 : Hid (∀ w, Calls Tryz.prog 137 #[.int .u8 (s[k].toNat : Int)] w fun e w' => e = .returned (.bool true) ∧ w' = w) := by
            intro w
            rw [← hak]
            exact M.out _ w
          have HK : Hid (allowedI (s[k].toNat : Int) = true) := hak
          clear hak
          go_wp2_with (go_at_call 137; refine (M0.out _).mono ?_; rintro e w2 ⟨rfl, rfl⟩)
          go_round
          case rel =>
            refine ⟨k + 1, by omega, by go_num, fun j hj => ?_⟩
            by_cases e : j = k
            · subst e
              rw [Hat.out j hlt]
              exact HK.out
            · exact HA.out j (by omega)
          case measure => simp [intOf]; omega
      · obtain rfl : k = s.size := by omega
        go_wp2_with fail
        go_ret
        refine ⟨ret_bool ?_, rfl⟩
        rw [H.out, H0.out.1, H0.out.2, HL.out]
        have : (s.data.toList.all fun c => allowedI (c.toNat : Int)) = true := by
          rw [List.all_eq_true]
          intro c hc
          obtain ⟨j, hj, rfl⟩ := List.getElem_of_mem hc
          have := HA.out j (by rw [← Hlen.out]; exact hj)
          rw [List.getD_eq_getElem?_getD, List.getElem?_eq_getElem hj] at this
          exact this
        rw [this]
        rfl

/-! ### what a disk tells of itself -/
section
variable {w : World} {d bm : Nat} {S : St}
theorem on_any (h : DiskAt w d bm S) : Calls Tryz.prog 81 #[.pointer (some ⟨d, 0, none⟩)] w fun e w' => e = .returned (.bool S.on) ∧ w' = w := by
  have M : Hid (Calls Tryz.prog 96 #[.pointer (some ⟨d, 0, none⟩)] w fun e w' => e = .returned (.bool true) ∧ w' = w) := made_any d bm w h.c0
  have c2 := h.c2
  clear h
  go_enter Tryz.func81, Tryz.ntmps81
  go_wp2_with (go_at_call 96; refine M.out.mono ?_; rintro e w1 ⟨rfl, rfl⟩)
  go_ret
  exact ⟨rfl, rfl⟩
theorem nothing_any (w : World) : Calls Tryz.prog 89 #[] w fun e w' => e = .returned (.tuple #[]) ∧ w' = w := by
  go_enter Tryz.func89, Tryz.ntmps89
  go_wp2
  go_end0
  exact ⟨rfl, rfl⟩
end
end Go.Proofs.YtlamncldbnagmaaGreatDoor
namespace Go.Proofs.YtlamncldbnagmaaGreatDoor
open Go.RowKit

/-- A world in which all blocks below n are as they were in w. -/
structure Cl (n : Nat) (w : World) where
  u : World
  h : Below n w u
theorem Cl.inh (n : Nat) (w : World) : Nonempty (Cl n w) := ⟨⟨w, Below.refl n w⟩⟩
theorem wp_region_cl {P : Program} {id : Nat} {Q : Exit → Act → World → Prop} {a : Act} {w : World} {l : List Oper} (n : Nat) (hm : P.follows .mixedOrders = true) (hB : Region.lexB .any l.toArray = true)
    (h : wpQuiet P l.toArray (fun w' => ∃ p : Cl n w, w' = p.u) (fun a' => ∀ w', (∃ p : Cl n w, w' = p.u) → Q .normal a' w') l a) : (Code.region id l.toArray true).wp P Q a w :=
  wp_region_quiet (C := fun w' => ∃ p : Cl n w, w' = p.u) hm hB ⟨⟨w.drew, (Below.refl n w).drew⟩, rfl⟩ (by simpa using h)
theorem Cl.calls {P : Program} {f : FuncId} {args : Array Value} {n : Nat} {w : World} {p : Cl n w} {v : Value} (hn : n ≤ w.heap.size)
    (h : Calls P f args p.u fun e w' => e = .returned v ∧ Below p.u.heap.size p.u w') : Calls P f args p.u fun e w'' => e = .returned v ∧ ∃ q : Cl n w, w'' = q.u :=
  h.mono fun _ w' ⟨he, hb⟩ => ⟨he, ⟨w', p.h.trans (hb.mono (Nat.le_trans hn p.h.size))⟩, rfl⟩
theorem Cl.cell {n : Nat} {w : World} (p : Cl n w) {a : Addr} {v : Value} (hb : a.block < n) (h : w.cell? a = some v) : p.u.cell? a = some v := by rw [p.h.cell hb, h]
end Go.Proofs.YtlamncldbnagmaaGreatDoor
namespace Go.Proofs.YtlamncldbnagmaaGreatDoor
open Go.RowKit

def vI (l : List Int) : List Value := l.map fun x => Value.int .i64 x
theorem vI_len (l : List Int) : (vI l).length = l.length := List.length_map _
theorem vI_one (l : List Int) : ∀ u ∈ vI l, u.oneCell' = true := by
  intro u hu
  obtain ⟨_, _, rfl⟩ := List.mem_map.1 hu
  rfl
theorem vI_at {l : List Int} {i : Nat} {x : Int} (h : l[i]? = some x) : (vI l)[i]? = some (.int .i64 x) := by simp [vI, h]
/-- The ints l can be read from the address on. -/
def ISees (w : World) (ao : Option Addr) (l : List Int) : Prop := ∀ i x, l[i]? = some x → ∃ b off, ao = some ⟨b, off, none⟩ ∧ w.cell? ⟨b, off + i, none⟩ = some (.int .i64 x)
theorem ISees.below {w w' : World} {ao : Option Addr} {l : List Int} (h : ISees w ao l) {B : Nat} (hb : Below B w w') (hB : w.heap.size ≤ B) : ISees w' ao l := by
  intro i x hx
  obtain ⟨b, off, e, hc⟩ := h i x hx
  have := World.block_lt_of_cell? _ _ hc
  exact ⟨b, off, e, by rw [hb.cell (show b < B from Nat.lt_of_lt_of_le this hB)]; exact hc⟩
theorem src_ints {w : World} {ao : Option Addr} {l : List Int} (h : ISees w ao l) (hn : ao = none → l.length = 0) (cap : Nat) : Src Tryz.prog 1 54 (.slice ao l.length cap) l.length (vI l) w := by
  cases ao with
  | none =>
    obtain rfl : l = [] := List.eq_nil_of_length_eq_zero (hn rfl)
    exact Src.ofNil w Tryz.underlying54 cap
  | some a =>
    refine Src.ofSlice w Tryz.underlying54 a _ cap _ (by rw [vI_len, Nat.mul_one]) (fun j u hu => ?_) (vI_one l)
    have hj : j < l.length := by have := (List.getElem?_eq_some_iff.1 hu).1; rwa [vI_len] at this
    have hx : l[j]? = some l[j] := List.getElem?_eq_getElem hj
    obtain ⟨b, off, e, hc⟩ := h j _ hx
    obtain rfl := Option.some.inj e
    rw [vI_at hx] at hu
    obtain rfl := Option.some.inj hu
    rw [Addr.add_lit]; exact hc
theorem infoInt : (Tryz.prog.info? 3).map (fun i => (i.zero, i.size, i.bytes)) = some (some (.int .i64 0), 1, 8) := by kernel_rfl
theorem isNilI (cap : Nat) (w : World) : (binOp BinOp.eql 54 (.slice none 0 cap) (.slice none 0 0)).run Tryz.prog w = .ok (.bool true) w := by kernel_rfl
theorem notNilI (a : Addr) (n cap : Nat) (w : World) : (binOp BinOp.eql 54 (.slice (some a) n cap) (.slice none 0 0)).run Tryz.prog w = .ok (.bool false) w := by kernel_rfl
theorem owns_noneI (w : World) (base : Nat) (hb : base ≤ w.heap.size) : (w.alloc (.cells #[] 3)).ownsRow base 3 1 (.slice (some ⟨w.heap.size, 0, none⟩) 0 0) 0 [] :=
  ⟨rfl, .inr ⟨w.heap.size, 0, #[], rfl, hb, heap_alloc_new w _, Nat.le_refl _, Nat.zero_le _, rfl, rfl⟩⟩
theorem owns_isees {w : World} {base : Nat} {v : Value} {l : List Int} {n : Nat} (h : w.ownsRow base 3 1 v n (vI l)) : ∃ ao cap, v = .slice ao l.length cap ∧ ISees w ao l := by
  have hl : l.length = n := by have := h.1; rwa [vI_len, Nat.mul_one] at this
  have h0 := h
  rcases h.2 with ⟨rfl, rfl⟩ | ⟨g, cap, cur, rfl, hg, hh, hn, hm, hs, ht⟩
  · exact ⟨none, 0, by rw [hl], fun i x hx => by have := (List.getElem?_eq_some_iff.1 hx).1; omega⟩
  · refine ⟨some ⟨g, 0, none⟩, cap, by rw [hl], fun i x hx => ⟨g, 0, rfl, ?_⟩⟩
    have := h0.cells (g := g) rfl _ _ (vI_at hx)
    rw [Addr.add_lit] at this; exact this
end Go.Proofs.YtlamncldbnagmaaGreatDoor
