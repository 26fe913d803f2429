/-
  CONTRACTS: List, for every disk in memory.
-/
import Derived.Test.YtabkgcmlfabmgaaGreatDoorDskAb
import Derived.Test.YtabkgcmlfabmgaaGreatDoorDskIter
namespace Go.Proofs.YtabkgcmlfabmgaaGreatDoor
open Go.RowKit Go.Maps Go.Sort Go.Shelf

theorem keys_datum (fs : List Ent) : strKeys (datum fs) = fs.map Ent.nm := by
  unfold strKeys datum
  simp
  intro a _
  rfl
theorem size_datum (fs : List Ent) : Maps.size (datum fs) = fs.length := by
  unfold Maps.size datum
  simp
set_option maxHeartbeats 1000000 in
theorem list_on {w : World} {d bm : Nat} {S : St} (h : DiskAt w d bm S) (hon : S.on = true) (hn : S.fs.length ≤ 1000000) :
    Calls Tryz.prog 35 #[.pointer (some ⟨d, 0, none⟩)] w fun e w' => ∃ (v : Value) (ss : List (List UInt8)), e = .returned v ∧ ss.Perm (S.fs.map Ent.nm) ∧
      w'.ownsRow w.heap.size 9 1 v ss.length ((ss.mergeSort (fun x y => decide (x ≤ y))).map encStr) ∧ Below w.heap.size w w' := by
  have R := refusal_nil h
  rw [hon] at R
  have R : Hid (CallsIn Fence.wide 5 Tryz.prog 54 #[.pointer (some ⟨d, 0, none⟩), .slice none 0 0] w fun x w' => x = .returned (.int .i64 0) ∧ w' = w) := callsIn_wide.2 R
  have c0 := h.c0
  have hown := h.map
  have hz := size_datum S.fs
  have hmax : Maps.size (datum S.fs) ≤ maxLen := by rw [hz]; unfold maxLen; omega
  have hbytes : Maps.size (datum S.fs) * 16 ≤ 140737488355328 := by rw [hz]; omega
  clear h hz hon hn
  refine (callsIn_wide (n := 6)).1 ?_
  have hfR : Fence.wide.fn 54 := trivial
  have hfK : Fence.wide.fn 69 := trivial
  have hfS : Fence.wide.fn 68 := trivial
  refine callsIn_of_wp Tryz.func35 rfl trivial ?_ rfl
  simp only [Tryz.ntmps35, List.size_toArray, List.length_cons, List.length_nil, Nat.reduceAdd, Nat.reduceSub, Array.replicate_succ, Array.replicate_zero, List.push_toArray, List.append_toArray, List.nil_append, List.cons_append]
  gi_wp2_with (first
    | (gi_at_call 54; refine R.out.mono ?_; rintro e w1 ⟨rfl, rfl⟩)
    | (gi_at_call 69; refine (Tryz.maps_Keys_69 _ _).mono ?_; rintro e w' ⟨rfl, rfl⟩)
    | (gi_at_call 68; refine (Tryz.slices_Sorted_keys_68_69 bm S.fs.length (datum S.fs) ptrElem w1 hown hmax hbytes).mono ?_; rintro e w' ⟨v, ss, rfl, hS, hrow, hnil, hb⟩))
  go_ret
  rw [keys_datum] at hS
  exact ⟨v, ss, rfl, hS, ownsRow_base_a hrow (by simp), ((Below.refl _ w1).alloc (Nat.le_refl _) _).trans (hb.mono (by simp))⟩
theorem list_off {w : World} {d bm : Nat} {S : St} (h : DiskAt w d bm S) (hon : S.on = false) :
    Calls Tryz.prog 35 #[.pointer (some ⟨d, 0, none⟩)] w fun e w' => e = .returned (.slice none 0 0) ∧ w' = w := by
  have R := refusal_nil h
  rw [hon] at R
  have R : Hid (Calls Tryz.prog 54 #[.pointer (some ⟨d, 0, none⟩), .slice none 0 0] w fun x w' => x = .returned (.int .i64 9) ∧ w' = w) := R
  clear h hon
  go_enter Tryz.func35, Tryz.ntmps35
  go_wp2_with (go_at_call 54; refine R.out.mono ?_; rintro x w1 ⟨rfl, rfl⟩)
  go_ret
  exact ⟨rfl, rfl⟩
end Go.Proofs.YtabkgcmlfabmgaaGreatDoor
