/-
  CONTRACTS: how two keys compare, by the program and by the document.
-/
import Derived.Test.YtajebjkpmbehgaaGreatDoorChecked
import Derived.Test.YtajebjkpmbehgaaGreatDoorKeyPlain
import Derived.Test.YtajebjkpmbehgaaGreatDoorKeyShelf
import Derived.Test.YtajebjkpmbehgaaGreatDoorOwn
import Derived.WalkKit
import Derived.Laws.Cover1
import Derived.StillTailTactics
namespace Go.Proofs.YtajebjkpmbehgaaGreatDoor
open Go.RowKit

/-- A text's bytes. -/
def nb (s : ByteArray) : List UInt8 := s.data.toList
def strB (l : List UInt8) : ByteArray := ⟨l.toArray⟩
theorem strB_nb (s : ByteArray) : strB (nb s) = s := by obtain ⟨a⟩ := s; simp [strB, nb]
theorem nb_strB (l : List UInt8) : nb (strB l) = l := by simp [strB, nb]
theorem nb_size (s : ByteArray) : (nb s).length = s.size := by show s.data.toList.length = s.data.size; exact Array.length_toList
theorem nb_inj {a b : ByteArray} : nb a = nb b ↔ a = b := ⟨fun h => by rw [← strB_nb a, h, strB_nb], fun h => by rw [h]⟩
theorem ba_list (s : ByteArray) : s.toList = nb s := Go.ByteArray.toList_eq s
theorem ba_same (a b : ByteArray) : (a.toList == b.toList) = decide (a = b) := by
  rw [ba_list, ba_list]
  by_cases h : a = b
  · simp [h]
  · simp only [h, decide_false, beq_eq_false_iff_ne]; exact fun e => h (nb_inj.1 e)
theorem ba_less (a b : ByteArray) : Op.bytesLess a.toList b.toList = decide (cb (nb a) (nb b) = -1) := by
  rw [ba_list, ba_list]; exact less_cb _ _


/-! ### Of numbers, the first that is not 0 -/
def fu : List Int → Int
  | [] => 0
  | x :: l => th x (fu l)
theorem fu_skip : ∀ (k : Nat) (l : List Int), (∀ j, j < k → l.getD j 0 = 0) → fu l = fu (l.drop k)
  | 0, _, _ => rfl
  | k + 1, [], _ => rfl
  | k + 1, x :: l, h => by
    have h0 : x = 0 := by have := h 0 (by omega); simpa using this
    subst h0
    rw [fu, th_zero, List.drop_succ_cons]
    exact fu_skip k l fun j hj => by have := h (j + 1) (by omega); simpa using this
theorem fu_at (k : Nat) (l : List Int) (h : ∀ j, j < k → l.getD j 0 = 0) (hk : k < l.length) (hn : l.getD k 0 ≠ 0) : fu l = l.getD k 0 := by
  rw [fu_skip k l h, List.drop_eq_getElem_cons hk, fu]
  have : l.getD k 0 = l[k] := by simp [List.getD, hk]
  rw [this] at hn ⊢
  exact th_of hn _
theorem zero_snoc {l : List Int} {k : Nat} (h : ∀ j, j < k → l.getD j 0 = 0) (h0 : l.getD k 0 = 0) : ∀ j, j < k + 1 → l.getD j 0 = 0 := by
  intro j hj
  rcases Nat.lt_or_ge j k with g | g
  · exact h j g
  · have : j = k := by omega
    rw [this]; exact h0
/-! ### Keys in memory -/
structure Kb where
  t : ByteArray
  p : ByteArray
  r : Int
  c : ByteArray
def Kb.ky (k : Kb) : Ky := ⟨nb k.t, nb k.p, k.r, nb k.c⟩
def Kb.v (k : Kb) : Value := .agg #[.string k.t, .string k.p, .int .i64 k.r, .string k.c]
theorem Kb.ky_inj {a b : Kb} : a.ky = b.ky ↔ a = b := by
  constructor
  · intro h
    cases a; cases b
    simp only [Kb.ky, Ky.mk.injEq, nb_inj] at h
    obtain ⟨rfl, rfl, rfl, rfl⟩ := h; rfl
  · rintro rfl; rfl

theorem box_cells (w : World) (o : Obj) (t : TypeId) (cs : Array Value) (i : Nat) (v : Value) (h : cs[i]? = some v) : ((w.alloc (.cells cs t)).alloc o).cell? ⟨w.heap.size, i, none⟩ = some v ∧ (o = .cells cs t → ((w.alloc o).alloc (.cells cs t)).cell? ⟨w.heap.size + 1, i, none⟩ = some v) := by
  have h1 : ((w.alloc (.cells cs t)).alloc o).heap[w.heap.size]? = some (.cells cs t) := by
    rw [Below.heap_alloc _ _ _ (by rw [World.size_alloc]; omega)]; exact heap_alloc_new w _
  have h2 : ((w.alloc o).alloc (.cells cs t)).heap[w.heap.size + 1]? = some (.cells cs t) := by
    have := heap_alloc_new (w.alloc o) (.cells cs t); rwa [World.size_alloc] at this
  refine ⟨?_, fun _ => ?_⟩
  · simp only [World.cell?, h1]; simpa using h
  · simp only [World.cell?, h2]; simpa using h
theorem box_cells2 (w : World) (o : Obj) (t : TypeId) (cs : Array Value) (i : Nat) (v : Value) (h : cs[i]? = some v) : ((w.alloc o).alloc (.cells cs t)).cell? ⟨w.heap.size + 1, i, none⟩ = some v := by
  have h2 : ((w.alloc o).alloc (.cells cs t)).heap[w.heap.size + 1]? = some (.cells cs t) := by
    have := heap_alloc_new (w.alloc o) (.cells cs t); rwa [World.size_alloc] at this
  simp only [World.cell?, h2]; simpa using h
theorem kc_fu (t1 t2 p1 p2 c1 c2 : ByteArray) (r1 r2 : Int) : kc (Kb.ky ⟨t1, p1, r1, c1⟩) (Kb.ky ⟨t2, p2, r2, c2⟩) = fu [cb (nb t1) (nb t2), cb (nb p1) (nb p2), ci r1 r2, cb (nb c1) (nb c2)] := by
  show th _ (th _ (th _ _)) = th _ (th _ (th _ (th _ 0)))
  have : ∀ x, th x 0 = x := fun x => by unfold th; split <;> omega
  rw [this]; rfl

structure Kb.Ok (k : Kb) : Prop where
  t : k.t.size ≤ 5000
  p : k.p.size ≤ 5000
  c : k.c.size ≤ 5000
  r : InI k.r
structure Kb.Big (k : Kb) : Prop where
  t : k.t.size ≤ 2000000
  p : k.p.size ≤ 2000000
  c : k.c.size ≤ 2000000
  r : InI k.r
theorem Kb.Ok.big {k : Kb} (h : k.Ok) : k.Big := ⟨Nat.le_trans h.t (by decide), Nat.le_trans h.p (by decide), Nat.le_trans h.c (by decide), h.r⟩
end Go.Proofs.YtajebjkpmbehgaaGreatDoor
