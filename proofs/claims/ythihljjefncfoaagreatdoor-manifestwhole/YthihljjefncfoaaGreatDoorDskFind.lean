/-
  CONTRACTS: what is wrong ahead of looking for a file, and the file, for every disk in memory.
-/
import Derived.Test.YthihljjefncfoaaGreatDoorDskMap
namespace Go.Proofs.YthihljjefncfoaaGreatDoor
open Go.RowKit Go.Maps

def nameOf (s : ByteArray) : List UInt8 := s.data.toList
/-- What is wrong ahead of looking for a file. -/
def refuse (on : Bool) (L : List ByteArray) : Int := if on then (if L.all (fun s => goodB (nameOf s)) then 0 else 3) else 9
theorem refuse_on {on : Bool} {L : List ByteArray} (h : refuse on L = 0) : on = true := by
  cases on
  · simp [refuse] at h
  · rfl

set_option maxRecDepth 100000 in
theorem refusal_any {w : World} {d bm : Nat} {S : St} (h : DiskAt w d bm S) (g cap : Nat) (L : List ByteArray) (hL : L.length ≤ 2) (hs : ∀ s ∈ L, s.size ≤ maxLen) (hc : ∀ i, i < L.length → w.cell? ⟨g, i, none⟩ = some (.string (L.getD i ByteArray.empty))) :
    Calls Tryz.prog 27 #[.pointer (some ⟨d, 0, none⟩), .slice (some ⟨g, 0, none⟩) L.length cap] w fun x w' => x = .returned (.int .i64 (refuse S.on L)) ∧ w' = w := by
  have M : Hid (Calls Tryz.prog 49 #[.pointer (some ⟨d, 0, none⟩)] w fun e w' => e = .returned (.bool true) ∧ w' = w) := made_any d bm w h.c0
  have c2 := h.c2
  clear h
  cases hon : S.on
  · rw [hon] at c2
    go_enter Tryz.func27, Tryz.ntmps27
    go_wp2_with (go_at_call 49; refine M.out.mono ?_; rintro e w1 ⟨rfl, rfl⟩)
    go_ret
    exact ⟨rfl, rfl⟩
  · rw [hon] at c2
    have hLi : (L.length : Int) ≤ 2 := by omega
    have HC : Hid (∀ i, i < L.length → w.cell? ⟨g, i, none⟩ = some (.string (L.getD i ByteArray.empty))) := hc
    have HS : Hid (∀ s ∈ L, s.size ≤ maxLen) := hs
    clear hc hs
    go_enter Tryz.func27, Tryz.ntmps27
    go_wp2_with (go_at_call 49; refine M.out.mono ?_; rintro e w1 ⟨rfl, rfl⟩)
    go_loop [19] (fun i => ∃ k : Nat, k ≤ L.length ∧ i = .int .i64 k ∧ ∀ j, j < k → goodB (nameOf (L.getD j ByteArray.empty)) = true) (fun i => L.length - (intOf i).toNat)
    case atStart => exact ⟨0, Nat.zero_le _, rfl, fun j hj => absurd hj (Nat.not_lt_zero _)⟩
    case round =>
      obtain ⟨k, hk, rfl, hall⟩ := hrel
      have HA : Hid (∀ j, j < k → goodB (nameOf (L.getD j ByteArray.empty)) = true) := hall
      clear hall
      by_cases hlt : k < L.length
      · have hck := HC.out k hlt
        have hmem : L.getD k ByteArray.empty ∈ L := by
          rw [List.getD_eq_getElem?_getD, List.getElem?_eq_getElem hlt]
          exact List.getElem_mem hlt
        have G : Hid (∀ w, Calls Tryz.prog 60 #[.string (L.getD k ByteArray.empty)] w fun e w' => e = .returned (.bool (goodB (nameOf (L.getD k ByteArray.empty)))) ∧ w' = w) := fun w => goodD_any _ w (HS.out _ hmem)
        have Hm : Hid (L.getD k ByteArray.empty ∈ L) := hmem
        clear hmem
        obtain ⟨b, hb⟩ : ∃ b, goodB (nameOf (L.getD k ByteArray.empty)) = b := ⟨_, rfl⟩
        have HB : Hid (goodB (nameOf (L.getD k ByteArray.empty)) = b) := hb
        have HX : Hid (∀ j, j = k → goodB (nameOf (L.getD j ByteArray.empty)) = b) := fun j hj => by rw [hj]; exact hb
        rw [hb] at G
        clear hb
        generalize L.getD k ByteArray.empty = s at *
        have hki : (k : Int) < 2 := by omega
        cases b
        · go_wp2_with (go_at_call 60; refine (G.out _).mono ?_; rintro e w2 ⟨rfl, rfl⟩)
          go_ret
          refine ⟨ret_int ?_, rfl⟩
          have : (L.all fun s => goodB (nameOf s)) = false := List.all_eq_false.2 ⟨s, Hm.out, by rw [HB.out]; simp⟩
          simp [refuse, this]
        · go_wp2_with (go_at_call 60; refine (G.out _).mono ?_; rintro e w2 ⟨rfl, rfl⟩)
          go_round
          case rel =>
            refine ⟨k + 1, by omega, by go_num, fun j hj => ?_⟩
            by_cases e : j = k
            · exact HX.out j e
            · exact HA.out j (by omega)
          case measure => simp [intOf]; omega
      · obtain rfl : k = L.length := by omega
        go_wp2_with fail
        go_ret
        refine ⟨ret_int ?_, rfl⟩
        have : (L.all fun s => goodB (nameOf s)) = true := by
          rw [List.all_eq_true]
          intro s hs
          obtain ⟨j, hj, rfl⟩ := List.getElem_of_mem hs
          have := HA.out j hj
          rw [List.getD_eq_getElem?_getD, List.getElem?_eq_getElem hj] at this
          exact this
        simp [refuse, this]
set_option maxRecDepth 100000 in
theorem refusal_nil {w : World} {d bm : Nat} {S : St} (h : DiskAt w d bm S) :
    Calls Tryz.prog 27 #[.pointer (some ⟨d, 0, none⟩), .slice none 0 0] w fun x w' => x = .returned (.int .i64 (refuse S.on [])) ∧ w' = w := by
  have M : Hid (Calls Tryz.prog 49 #[.pointer (some ⟨d, 0, none⟩)] w fun e w' => e = .returned (.bool true) ∧ w' = w) := made_any d bm w h.c0
  have c2 := h.c2
  clear h
  cases hon : S.on
  · rw [hon] at c2
    go_enter Tryz.func27, Tryz.ntmps27
    go_wp2_with (go_at_call 49; refine M.out.mono ?_; rintro e w1 ⟨rfl, rfl⟩)
    go_ret
    exact ⟨rfl, rfl⟩
  · rw [hon] at c2
    go_enter Tryz.func27, Tryz.ntmps27
    go_wp2_with (go_at_call 49; refine M.out.mono ?_; rintro e w1 ⟨rfl, rfl⟩)
    go_loop [19] (fun i => i = .int .i64 0) (fun _ => 0)
    case atStart => rfl
    case round =>
      subst hrel
      go_wp2
      go_ret
      exact ⟨rfl, rfl⟩

theorem one_cell (w : World) (s : ByteArray) (t : TypeId) : ∀ i, i < [s].length → (w.alloc (.cells #[.string s] t)).cell? ⟨w.heap.size, i, none⟩ = some (.string ([s].getD i ByteArray.empty)) := by
  intro i hi
  have : i = 0 := by simpa using hi
  subst this
  exact (Blk.new w [.string s] t).cell 0 rfl
theorem refused_one {w : World} {d bm : Nat} {S : St} (h : DiskAt w d bm S) (s : ByteArray) (hs : s.size ≤ maxLen) :
    Calls Tryz.prog 27 #[.pointer (some ⟨d, 0, none⟩), .slice (some ⟨w.heap.size, 0, none⟩) 1 1] (w.alloc (.cells #[.string s] 9)) fun x w' => x = .returned (.int .i64 (refuse S.on [s])) ∧ w' = w.alloc (.cells #[.string s] 9) :=
  refusal_any (h.alloc _) w.heap.size 1 [s] (by simp) (by simpa using hs) (one_cell w s _)
section
variable {w : World} {d bm : Nat} {S : St} (h : DiskAt w d bm S) (s : ByteArray) (hs : s.size ≤ maxLen)
include h hs
theorem find_refused {c : Int} (hc : refuse S.on [s] = c) (hc0 : c ≠ 0) :
    Calls Tryz.prog 65 #[.pointer (some ⟨d, 0, none⟩), .string s] w fun x w' => x = .returned (.tuple #[.pointer none, .int .i64 c]) ∧ w.grownBy w' none := by
  have R := refused_one h s hs
  rw [hc] at R
  have R : Hid (Calls Tryz.prog 27 #[.pointer (some ⟨d, 0, none⟩), .slice (some ⟨w.heap.size, 0, none⟩) 1 1] (w.alloc (.cells #[.string s] 9)) fun x w' => x = .returned (.int .i64 c) ∧ w' = w.alloc (.cells #[.string s] 9)) := R
  have hcb : (c == 0) = false := by rw [beq_eq_false_iff_ne]; exact hc0
  clear h hs hc
  go_enter Tryz.func65, Tryz.ntmps65
  go_wp2_with (go_at_call 27; refine R.out.mono ?_; rintro e w1 ⟨rfl, rfl⟩)
  go_ret2
  exact ⟨rfl, World.grownBy_alloc _ _ _⟩
theorem find_none (hc : refuse S.on [s] = 0) (hf : find S.fs (nameOf s) = none) :
    Calls Tryz.prog 65 #[.pointer (some ⟨d, 0, none⟩), .string s] w fun x w' => x = .returned (.tuple #[.pointer none, .int .i64 4]) ∧ w.grownBy w' none := by
  have R := refused_one h s hs
  rw [hc] at R
  have R : Hid (Calls Tryz.prog 27 #[.pointer (some ⟨d, 0, none⟩), .slice (some ⟨w.heap.size, 0, none⟩) 1 1] (w.alloc (.cells #[.string s] 9)) fun x w' => x = .returned (.int .i64 0) ∧ w' = w.alloc (.cells #[.string s] 9)) := R
  have hl := look_none (h.alloc (.cells #[.string s] 9)).map hs hf
  have c0 := h.c0
  have hd := h.head.lt
  clear h hs hc hf
  go_enter Tryz.func65, Tryz.ntmps65
  go_wp2_with (go_at_call 27; refine R.out.mono ?_; rintro e w1 ⟨rfl, rfl⟩)
  go_ret2
  exact ⟨rfl, World.grownBy_alloc _ _ _⟩
theorem find_ok (hc : refuse S.on [s] = 0) {e : Ent} (hf : find S.fs (nameOf s) = some e) :
    Calls Tryz.prog 65 #[.pointer (some ⟨d, 0, none⟩), .string s] w fun x w' => x = .returned (.tuple #[.pointer (some ⟨e.b, 0, none⟩), .int .i64 0]) ∧ w.grownBy w' none := by
  have R := refused_one h s hs
  rw [hc] at R
  have R : Hid (Calls Tryz.prog 27 #[.pointer (some ⟨d, 0, none⟩), .slice (some ⟨w.heap.size, 0, none⟩) 1 1] (w.alloc (.cells #[.string s] 9)) fun x w' => x = .returned (.int .i64 0) ∧ w' = w.alloc (.cells #[.string s] 9)) := R
  have hl := look_some (h.alloc (.cells #[.string s] 9)).map hs hf
  have c0 := h.c0
  have hd := h.head.lt
  clear h hs hc hf
  go_enter Tryz.func65, Tryz.ntmps65
  go_wp2_with (go_at_call 27; refine R.out.mono ?_; rintro e w1 ⟨rfl, rfl⟩)
  go_ret2
  exact ⟨rfl, World.grownBy_alloc _ _ _⟩
end
end Go.Proofs.YthihljjefncfoaaGreatDoor
