/-
  CONTRACT: an empty skip list (New); rows of ints.
-/
import Derived.Test.YtlhojbgpmjcjlaaSkLink
namespace Go.Proofs.Ytlhojbgpmjcjlaa
open Go.RowKit

def vI (l : List Int) : List Value := l.map fun x => Value.int .i64 x
theorem vI_len (l : List Int) : (vI l).length = l.length := List.length_map _
theorem vI_one (l : List Int) : ∀ u ∈ vI l, u.oneCell' = true := by
  intro u hu
  obtain ⟨_, _, rfl⟩ := List.mem_map.1 hu
  rfl
theorem vI_at {l : List Int} {i : Nat} {x : Int} (h : l[i]? = some x) : (vI l)[i]? = some (.int .i64 x) := by simp [vI, h]
/-- The ints l can be read from the address on. -/
def ISees (w : World) (ao : Option Addr) (l : List Int) : Prop := ∀ i x, l[i]? = some x → ∃ b off, ao = some ⟨b, off, none⟩ ∧ w.cell? ⟨b, off + i, none⟩ = some (.int .i64 x)
theorem ISees.below {w w' : World} {ao : Option Addr} {l : List Int} (h : ISees w ao l) {B : Nat} (hb : Below B w w') (hB : w.heap.size ≤ B) : ISees w' ao l := by
  intro i x hx
  obtain ⟨b, off, e, hc⟩ := h i x hx
  have := World.block_lt_of_cell? _ _ hc
  exact ⟨b, off, e, by rw [hb.cell (show b < B from Nat.lt_of_lt_of_le this hB)]; exact hc⟩
theorem src_ints {w : World} {ao : Option Addr} {l : List Int} (h : ISees w ao l) (hn : ao = none → l.length = 0) (cap : Nat) : Src Try.prog 1 22 (.slice ao l.length cap) l.length (vI l) w := by
  cases ao with
  | none =>
    obtain rfl : l = [] := List.eq_nil_of_length_eq_zero (hn rfl)
    exact Src.ofNil w Try.underlying22 cap
  | some a =>
    refine Src.ofSlice w Try.underlying22 a _ cap _ (by rw [vI_len, Nat.mul_one]) (fun j u hu => ?_) (vI_one l)
    have hj : j < l.length := by have := (List.getElem?_eq_some_iff.1 hu).1; rwa [vI_len] at this
    have hx : l[j]? = some l[j] := List.getElem?_eq_getElem hj
    obtain ⟨b, off, e, hc⟩ := h j _ hx
    obtain rfl := Option.some.inj e
    rw [vI_at hx] at hu
    obtain rfl := Option.some.inj hu
    rw [Addr.add_lit]; exact hc
theorem infoInt : (Try.prog.info? 3).map (fun i => (i.zero, i.size, i.bytes)) = some (some (.int .i64 0), 1, 8) := by kernel_rfl
theorem isNilI (cap : Nat) (w : World) : (binOp BinOp.eql 22 (.slice none 0 cap) (.slice none 0 0)).run Try.prog w = .ok (.bool true) w := by kernel_rfl
theorem notNilI (a : Addr) (n cap : Nat) (w : World) : (binOp BinOp.eql 22 (.slice (some a) n cap) (.slice none 0 0)).run Try.prog w = .ok (.bool false) w := by kernel_rfl
theorem owns_noneI (w : World) (base : Nat) (hb : base ≤ w.heap.size) : (w.alloc (.cells #[] 3)).ownsRow base 3 1 (.slice (some ⟨w.heap.size, 0, none⟩) 0 0) 0 [] :=
  ⟨rfl, .inr ⟨w.heap.size, 0, #[], rfl, hb, heap_alloc_new w _, Nat.le_refl _, Nat.zero_le _, rfl, rfl⟩⟩
set_option maxRecDepth 100000 in
set_option maxHeartbeats 1000000 in
theorem cloneI_any (a : Addr) (l : List Int) (cap : Nat) (w : World) (hs : ISees w (some a) l) (hl : l.length ≤ 1000000) :
    Calls Try.prog 25 #[.slice (some a) l.length cap] w fun e w' => ∃ v, e = .returned v ∧ w'.ownsRow w.heap.size 3 1 v l.length (vI l) ∧ Below w.heap.size w w' := by
  obtain ⟨i1, hi1, hy0, hy1, hy2⟩ := infoX infoInt
  have hlz : (l.length : Int) ≤ 1000000 := by omega
  have hq := notNilI a l.length cap w
  have hbe : Below w.heap.size w (w.alloc (.cells #[] 3)) := (Below.refl _ _).alloc (Nat.le_refl _) _
  have hs2 := hs.below hbe (Nat.le_refl _)
  go_enter Try.func25, Try.ntmps25
  go_wp2_with (at_builtin; go_must (refine wpList_append_grew _ rfl _ _ 22 22 rfl w.heap.size 3 i1 _ 1 8 Try.underlying22 hi1 hy0 hy1 hy2 rfl _ 0 [] rfl (owns_noneI w w.heap.size (Nat.le_refl _)) _ l.length (vI l) rfl (src_ints hs2 (fun h => by cases h) cap) (by unfold maxLen; omega) (by omega) (by rw [World.size_alloc]; omega) ?_; intro v2 w2 ho2 hg2; simp only [Nat.zero_add, List.nil_append] at ho2))
  go_ret
  refine ⟨_, rfl, ho2, hbe.trans (hg2.below (by rw [World.size_alloc]; omega) (fun g hg => ?_))⟩
  obtain rfl := Option.some.inj hg
  exact Nat.le_refl _
/-- A height, brought between 1 and 8. -/
def clmp (x : Int) : Nat := (min (max x 1) 8).toNat
theorem clmp_eq (x : Int) : (clmp x : Int) = min (max x 1) 8 := by unfold clmp; omega
theorem clmp_in (x : Int) : 1 ≤ clmp x ∧ clmp x ≤ 8 := by unfold clmp; omega
/-- How far the heights were brought. -/
def brought (l : List Int) (i : Nat) : List Int := (l.take i).map (fun x => (clmp x : Int)) ++ l.drop i
theorem brought_at {l : List Int} {i : Nat} {x : Int} (h : l[i]? = some x) : (brought l i)[i]? = some x := by
  have hi := (List.getElem?_eq_some_iff.1 h).1
  unfold brought
  rw [List.getElem?_append_right (by simp; omega)]
  simp [Nat.min_eq_left (Nat.le_of_lt hi), h]
theorem brought_step {l : List Int} {i : Nat} {x : Int} (h : l[i]? = some x) : (brought l i).set i (clmp x : Int) = brought l (i + 1) := by
  have hi := (List.getElem?_eq_some_iff.1 h).1
  have e : l.drop i = x :: l.drop (i + 1) := by
    rw [List.drop_eq_getElem_cons hi, (List.getElem?_eq_some_iff.1 h).2]
  unfold brought
  rw [takeX_succ h, List.map_append, List.set_append_right _ _ (by simp; omega), e]
  simp [Nat.min_eq_left (Nat.le_of_lt hi)]
theorem brought_len (l : List Int) (i : Nat) : (brought l i).length = l.length := by
  unfold brought; rw [List.length_append, List.length_map, List.length_take, List.length_drop]; omega
theorem brought_all (l : List Int) : brought l l.length = l.map (fun x => (clmp x : Int)) := by unfold brought; simp
theorem vI_set (l : List Int) (i : Nat) (x : Int) : (vI l).set i (.int .i64 x) = vI (l.set i x) := by unfold vI; rw [List.map_set]
/-- The levels that a list is made for. -/
def lvls (l : List Int) : List Nat := if l = [] then [1] else l.map clmp
end Go.Proofs.Ytlhojbgpmjcjlaa
