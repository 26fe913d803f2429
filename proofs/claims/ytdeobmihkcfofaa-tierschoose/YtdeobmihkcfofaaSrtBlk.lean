/-
  A PART OF A BLOCK, SORTED BY THE LIBRARY: what the block holds behind it, and that nothing else is changed.
-/
import Derived.Test.YtdeobmihkcfofaaTirSort
import Derived.Deep.OwnRows
namespace Go.Proofs.Ytdeobmihkcfofaa
open Go.RowKit Go.Lib Go.Sort

section
variable {α : Type} [Inhabited α] {enc : α → Value} {w : World} {g off n : Nat} {d : Array α} {os : Array Obj}
theorem heap_sw {cur : Array Value} {e : TypeId} {fr : Nat × Nat} (hb : w.heap[g]? = some (.cells cur e fr)) : (grow (putRow enc (Sort.ahead w n) g off d) os).heap[g]? = some (.cells (putCells enc off d cur) e fr) := by
  have hg : g < w.heap.size := (Array.getElem?_eq_some_iff.1 hb).1
  rw [heap_grow_old _ _ (by simpa using hg)]
  simp [putRow, mapBlock, Sort.ahead, Array.getElem?_modify, hb, onCells]
theorem other_sw {k : Nat} (hk : k < w.heap.size) (hne : k ≠ g) : (grow (putRow enc (Sort.ahead w n) g off d) os).heap[k]? = w.heap[k]? := by
  rw [heap_grow_old _ _ (by simpa using hk)]
  have : g ≠ k := fun e => hne e.symm
  simp [putRow, mapBlock, Sort.ahead, Array.getElem?_modify, this]
theorem grown_sw : w.grownBy (grow (putRow enc (Sort.ahead w n) g off d) os) (some g) :=
  ⟨rfl, rfl, rfl, by simp, fun k hk hne => other_sw hk fun e => hne (by rw [e])⟩
theorem putCells_mid {A M B : List Value} (ho : A.length = off) (hm : M.length = d.size) : putCells enc off d (A ++ M ++ B).toArray = (A ++ d.toList.map enc ++ B).toArray := by
  subst ho
  apply Array.ext_getElem?
  intro k
  unfold putCells
  rw [Array.getElem?_mapIdx]
  simp only [List.getElem?_toArray, List.append_assoc]
  by_cases h1 : k < A.length
  · have h2 : ¬ (A.length ≤ k ∧ k < A.length + d.size) := by omega
    rw [List.getElem?_append_left h1, List.getElem?_append_left h1]
    simp [h1, h2]
  · rw [List.getElem?_append_right (l₁ := A) (by omega), List.getElem?_append_right (l₁ := A) (by omega)]
    by_cases h2 : k < A.length + d.size
    · have h3 : A.length ≤ k ∧ k < A.length + d.size := by omega
      have h4 : k - A.length < d.size := by omega
      rw [List.getElem?_append_left (l₁ := M) (by omega), List.getElem?_append_left (l₁ := d.toList.map enc) (by simpa using h4)]
      rw [List.getElem?_eq_getElem (by omega)]
      simp [h3, h4]
    · have h3 : ¬ (A.length ≤ k ∧ k < A.length + d.size) := by omega
      rw [List.getElem?_append_right (l₁ := M) (by omega), List.getElem?_append_right (l₁ := d.toList.map enc) (by simp; omega), hm]
      simp [h3]
theorem blk_sw {A M B : List Value} {t : TypeId} (hb : Blk w g (A ++ M ++ B) t) (ho : A.length = off) (hm : M.length = d.size) : Blk (grow (putRow enc (Sort.ahead w n) g off d) os) g (A ++ d.toList.map enc ++ B) t := by
  have := heap_sw (enc := enc) (off := off) (n := n) (d := d) (os := os) hb
  rw [putCells_mid ho hm] at this
  exact this
end
theorem vI_append (a b : List Int) : vI (a ++ b) = vI a ++ vI b := List.map_append
theorem blk_holds {w : World} {g : Nat} {A M B : List Int} {t : TypeId} (hb : Blk w g (vI (A ++ M ++ B)) t) : Holds (Value.int .i64) w g A.length M.toArray := by
  intro j hj
  have hj' : j < M.length := by simpa using hj
  refine ⟨hb.cell _ (vI_at ?_), hb.frozen _⟩
  rw [List.append_assoc, List.getElem?_append_right (by omega), List.getElem?_append_left (by omega), Nat.add_sub_cancel_left]
  simp [hj']
/-- slices.Sort of a part. -/
theorem sortI_any (g cap : Nat) (A M B : List Nat) (w : World) (hb : Blk w g (vI (zs (A ++ M ++ B))) 3) (hm : M.length ≤ 1000000) :
    Calls Try.prog 15 #[.slice (some ⟨g, A.length, none⟩) M.length cap] w fun e w' => e = .returned (.tuple #[]) ∧ Blk w' g (vI (zs (A ++ srtN M ++ B))) 3 ∧ w.grownBy w' (some g) := by
  rw [zs_append, zs_append] at hb
  have hH := blk_holds hb
  rw [zs_len] at hH
  have C := Try.slices_Sort_int g A.length cap (zs M) w hH hb.lt (by rw [zs_len]; omega)
  rw [zs_len] at C
  refine C.mono ?_
  rintro e w' ⟨rfl, n, os, rfl⟩
  refine ⟨rfl, ?_, grown_sw⟩
  have e1 : (zs M).mergeSort (fun x y => decide (x ≤ y)) = zs (srtN M) := mergeSort_cast M
  rw [e1, zs_append, zs_append, vI_append, vI_append]
  rw [vI_append, vI_append] at hb
  exact blk_sw (d := (zs (srtN M)).toArray) hb (by rw [vI_len, zs_len]) (by rw [vI_len, zs_len]; simp [zs_len, srtN_len])

/-! ### the sort by sizes -/
def encF {k : Nat} (i : Fin (k + 1)) : Value := .int .i64 ((i.val : Nat) : Int)
theorem map_encF {k : Nat} (l : List (Fin (k + 1))) : l.map encF = vI (zs (l.map Fin.val)) := by simp [encF, vI, zs, List.map_map, Function.comp_def]
theorem swoT {k : Nat} (l : List Int) : SWO (ltOf fun x y : Fin (k + 1) => cfT l x.val y.val) where
  irrefl x := by
    unfold ltOf; rw [ltT]
    have := leT_total l x.val x.val
    simpa using this
  trans x y z h1 h2 := by
    unfold ltOf at *; rw [ltT] at *
    have t1 := leT_total l x.val y.val
    have t2 := leT_total l y.val z.val
    simp only [Bool.not_eq_true'] at *
    simp only [h1, h2, Bool.or_false] at t1 t2
    by_cases h3 : leT l z.val x.val = true
    · have h4 := leT_trans l _ _ _ h3 t1
      rw [h2] at h4; cases h4
    · simpa using h3
  ntrans x y z h1 h2 := by
    unfold ltOf at *; rw [ltT] at *
    simp only [Bool.not_eq_false'] at *
    exact leT_trans l _ _ _ h2 h1
theorem ord_fin {k : Nat} {l : List Int} (hk : l.length = k + 1) (d : List (Fin (k + 1))) (hd : d.map Fin.val = List.range (k + 1)) :
    (d.mergeSort fun x y => !(ltOf fun x y : Fin (k + 1) => cfT l x.val y.val) y x).map Fin.val = ordr l := by
  have e : (fun x y : Fin (k + 1) => !(ltOf fun x y : Fin (k + 1) => cfT l x.val y.val) y x) = fun x y => leT l x.val y.val := by
    funext x y
    unfold ltOf
    rw [ltT, Bool.not_not]
  rw [e]
  unfold ordr
  rw [hk]
  refine ordN_only ?_ ?_
  · rw [← hd]
    exact (List.mergeSort_perm d _).map _
  · rw [List.pairwise_map]
    exact List.pairwise_mergeSort (le := fun x y : Fin (k + 1) => leT l x.val y.val) (fun a b c => leT_trans l _ _ _) (fun a b => leT_total l _ _) d
theorem sortF_any (g pb b o cap : Nat) (l : List Int) (w : World) (hb : Blk w g (vI (zs (List.range l.length))) 3) (hp : w.cell? ⟨pb, 0, none⟩ = some (.slice (some ⟨b, o, none⟩) l.length cap)) (hs : ISees w (some ⟨b, o, none⟩) l)
    (h1 : pb ≠ g) (h2 : b ≠ g) (hl : l.length ≤ 1000000) (h0 : l ≠ []) :
    Calls Try.prog 17 #[.slice (some ⟨g, 0, none⟩) l.length l.length, .func (.func 18) #[] #[.pointer (some ⟨pb, 0, none⟩)]] w fun e w' => e = .returned (.tuple #[]) ∧ Blk w' g (vI (zs (ordr l))) 3 ∧ w.grownBy w' (some g) := by
  obtain ⟨k, hk⟩ : ∃ k, l.length = k + 1 := ⟨l.length - 1, by have := List.length_pos_iff.2 h0; omega⟩
  have hd : (List.finRange (k + 1)).map Fin.val = List.range (k + 1) := by apply List.ext_getElem <;> simp
  have hds : (List.finRange (k + 1)).toArray.size = l.length := by rw [hk]; simp
  have eg : ∀ args w, (callFunc 18 args).run Try.prog w = .ok (.enter 18 args) w := enters_of Try.func18 (by kernel_rfl) rfl
  have hpl : pb < w.heap.size := World.block_lt_of_cell? _ _ hp
  have hcmp : CmpReads Try.prog 18 #[.pointer (some ⟨pb, 0, none⟩)] encF (fun x y : Fin (k + 1) => cfT l x.val y.val) g 0 (List.finRange (k + 1)).toArray.size w := by
    intro m os dk _ x y
    refine cmpT_any pb b o cap l x.val y.val _ ?_ ?_ (by omega) (by omega) hl
    · exact (World.cell?_of_block (a := ⟨pb, 0, none⟩) (other_sw (enc := encF) (n := m) (off := 0) (d := dk) (os := os) hpl h1)).trans hp
    · intro i z hz
      obtain ⟨b', o', e, hc⟩ := hs i z hz
      cases e
      have hbl : b < w.heap.size := World.block_lt_of_cell? _ _ hc
      exact ⟨b, o, rfl, (World.cell?_of_block (a := ⟨b, o + i, none⟩) (other_sw (enc := encF) (n := m) (off := 0) (d := dk) (os := os) hbl h2)).trans hc⟩
  have hH : Holds encF w g 0 (List.finRange (k + 1)).toArray := by
    intro j hj
    have hj' : j < k + 1 := by simpa using hj
    refine ⟨?_, hb.frozen _⟩
    rw [Nat.zero_add]
    have hz : (zs (List.range l.length))[j]? = some (j : Int) := zs_at (by rw [List.getElem?_range (by omega)])
    rw [hb.cell j (vI_at hz)]
    simp [hj', encF]
  have C := Try.slices_SortFunc_total encF (fun _ => rfl) (fun x y : Fin (k + 1) => cfT l x.val y.val) (swoT l) 18 #[.pointer (some ⟨pb, 0, none⟩)] g 0 l.length (List.finRange (k + 1)).toArray w eg hcmp.lays hH hb.lt (by rw [hds]; omega) (by
    intro x y h1 h2
    unfold ltOf at h1 h2
    rw [ltT] at h1 h2
    simp only [Bool.not_eq_false'] at h1 h2
    exact Fin.ext (leT_anti l _ _ h2 h1))
  rw [hds] at C
  refine C.mono ?_
  rintro e w' ⟨rfl, n, os, rfl⟩
  refine ⟨rfl, ?_, grown_sw⟩
  have hb2 : Blk w g ([] ++ vI (zs (List.range l.length)) ++ []) 3 := by simpa using hb
  have := blk_sw (enc := encF) (n := n) (os := os) (off := 0) (d := ((List.finRange (k + 1)).mergeSort fun x y => !(ltOf fun x y : Fin (k + 1) => cfT l x.val y.val) y x).toArray) hb2 rfl (by simp [vI_len, zs_len, hk])
  simp only [List.nil_append, List.append_nil] at this
  rw [map_encF, ord_fin hk _ hd] at this
  exact this
end Go.Proofs.Ytdeobmihkcfofaa
