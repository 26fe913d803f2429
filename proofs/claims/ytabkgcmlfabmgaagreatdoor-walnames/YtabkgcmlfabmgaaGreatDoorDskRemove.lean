/-
  CONTRACTS: a file goes, a file gets another name, where nothing is planned, for every disk in memory.
-/
import Derived.Test.YtabkgcmlfabmgaaGreatDoorDskNew
namespace Go.Proofs.YtabkgcmlfabmgaaGreatDoor
open Go.RowKit Go.Maps

theorem remove_refused {w : World} {d bm : Nat} {S : St} (h : DiskAt w d bm S) (s : ByteArray) (hs : s.size ≤ maxLen) {c : Int} (hc : refuse S.on [s] = c) (hc0 : c ≠ 0) :
    Calls Tryz.prog 63 #[.pointer (some ⟨d, 0, none⟩), .string s] w fun x w' => x = .returned (.int .i64 c) ∧ w.grownBy w' none := by
  have F : Hid (Calls Tryz.prog 93 #[.pointer (some ⟨d, 0, none⟩), .string s] ((w.alloc (.cells #[.pointer (some ⟨d, 0, none⟩)] 45)).alloc (.cells #[.string s] 9)) fun x w' => x = .returned (.tuple #[.pointer none, .int .i64 c]) ∧ ((w.alloc (.cells #[.pointer (some ⟨d, 0, none⟩)] 45)).alloc (.cells #[.string s] 9)).grownBy w' none) := find_refused ((h.alloc _).alloc _) s hs hc hc0
  have hcb : (c == 0) = false := by rw [beq_eq_false_iff_ne]; exact hc0
  clear h hs hc
  go_enter Tryz.func63, Tryz.ntmps63
  go_wp2_with (go_at_call 93; go_fit F.out; rintro x w1 ⟨rfl, hg⟩)
  go_ret
  exact ⟨rfl, ((World.grownBy_alloc _ _ none).andThen (World.grownBy_alloc _ _ none) (fun j hj => by cases hj)).andThen hg (fun j hj => by cases hj)⟩
theorem remove_none {w : World} {d bm : Nat} {S : St} (h : DiskAt w d bm S) (s : ByteArray) (hs : s.size ≤ maxLen) (hc : refuse S.on [s] = 0) (hf : find S.fs (nameOf s) = none) :
    Calls Tryz.prog 63 #[.pointer (some ⟨d, 0, none⟩), .string s] w fun x w' => x = .returned (.int .i64 4) ∧ w.grownBy w' none := by
  have F : Hid (Calls Tryz.prog 93 #[.pointer (some ⟨d, 0, none⟩), .string s] ((w.alloc (.cells #[.pointer (some ⟨d, 0, none⟩)] 45)).alloc (.cells #[.string s] 9)) fun x w' => x = .returned (.tuple #[.pointer none, .int .i64 4]) ∧ ((w.alloc (.cells #[.pointer (some ⟨d, 0, none⟩)] 45)).alloc (.cells #[.string s] 9)).grownBy w' none) := find_none ((h.alloc _).alloc _) s hs hc hf
  clear h hs hc hf
  go_enter Tryz.func63, Tryz.ntmps63
  go_wp2_with (go_at_call 93; go_fit F.out; rintro x w1 ⟨rfl, hg⟩)
  go_ret
  exact ⟨rfl, ((World.grownBy_alloc _ _ none).andThen (World.grownBy_alloc _ _ none) (fun j hj => by cases hj)).andThen hg (fun j hj => by cases hj)⟩
theorem remove_ok {w : World} {d bm : Nat} {S : St} (h : DiskAt w d bm S) (s : ByteArray) (hs : s.size ≤ maxLen) (hc : refuse S.on [s] = 0) {e : Ent} (hf : find S.fs (nameOf s) = some e) (hl : S.left ≠ 1) (ho : S.ops ≤ 4611686018427387904) (hlm : S.left ≤ 9223372036854775807) :
    Calls Tryz.prog 63 #[.pointer (some ⟨d, 0, none⟩), .string s] w fun x w' => x = .returned (.int .i64 0) ∧ DiskAt w' d bm { S with ops := S.ops + 1, left := S.left - 1, fs := dropE S.fs (nameOf s) } ∧ Moved w w' (foot d bm S.fs) (foot d bm (dropE S.fs (nameOf s))) := by
  have hmf : ∀ (fn : Fn) (first cap : Array Value) (w : World), (Instr.makeFunc fn first cap).run Tryz.prog w = .ok (.func fn first cap) w := fun _ _ _ _ => rfl
  have hB := Boxed2.start h s
  have F : Hid (Calls Tryz.prog 93 #[.pointer (some ⟨d, 0, none⟩), .string s] ((w.alloc (.cells #[.pointer (some ⟨d, 0, none⟩)] 45)).alloc (.cells #[.string s] 9)) fun x w' => x = .returned (.tuple #[.pointer (some ⟨e.b, 0, none⟩), .int .i64 0]) ∧ Boxed2 w d bm S s w') := (find_ok hB.disk s hs hc hf).mono fun x w' hh => ⟨hh.1, hB.grown hh.2⟩
  have hdl := h.head.lt
  have O : Hid (∀ w1, Boxed2 w d bm S s w1 → ∀ v, Calls Tryz.prog 103 #[.pointer (some ⟨d, 0, none⟩), .func (.func 104) #[] #[.pointer (some ⟨w.heap.size, 0, none⟩), .pointer (some ⟨w.heap.size + 1, 0, none⟩)], v] w1 fun x w' => x = .returned (.int .i64 0) ∧ DiskAt w' d bm { S with ops := S.ops + 1, left := S.left - 1, fs := dropE S.fs (nameOf s) } ∧ Moved w w' (foot d bm S.fs) (foot d bm (dropE S.fs (nameOf s)))) := by
    intro w1 hB1 v
    refine operateRemove hB1.disk hl ho hlm w.heap.size (w.heap.size + 1) v _ fun w2 hD2 hM2 => ?_
    have hk : ∀ i, i < w1.heap.size → i ≠ d → w2.heap[i]? = w1.heap[i]? := fun i hi hne => hM2.kept i hi (by simpa using hne)
    have hz := hB1.size
    have e1 : w2.cell? ⟨w.heap.size, 0, none⟩ = some (.pointer (some ⟨d, 0, none⟩)) := (World.cell?_of_block (a := ⟨w.heap.size, 0, none⟩) (hk w.heap.size (by omega) (by omega))).trans hB1.k1
    have e2 : w2.cell? ⟨w.heap.size + 1, 0, none⟩ = some (.string s) := (World.cell?_of_block (a := ⟨w.heap.size + 1, 0, none⟩) (hk (w.heap.size + 1) (by omega) (by omega))).trans hB1.k2
    refine (remove1_any hD2 e1 e2 hs).mono ?_
    rintro x w3 ⟨rfl, hD3, hM3⟩
    exact ⟨rfl, hD3, (hB1.moved.trans (hM2.wider (fun i hi => .inl (by simp at hi; simp [foot, hi])) (fun i hi => .inl hi))).trans hM3⟩
  clear h hs hc hf hB
  go_enter Tryz.func63, Tryz.ntmps63
  go_wp2_with (first | (go_at_call 93; go_fit F.out; rintro x w1 ⟨rfl, hB1⟩; have k1 := hB1.k1) | (go_at_call 103; go_fit (O.out _ hB1 _); rintro x w2 ⟨rfl, hE⟩))
  go_ret
  exact ⟨rfl, hE⟩
end Go.Proofs.YtabkgcmlfabmgaaGreatDoor
