/-
  CONTRACTS: Spoil, where it is refused, for every disk in memory.
-/
import Derived.Test.YtbabepnoncpdlaaDskSpoil
namespace Go.Proofs.Ytbabepnoncpdlaa
open Go.RowKit Go.Maps

theorem spoil_refused {w : World} {d bm : Nat} {S : St} (h : DiskAt w d bm S) (s : ByteArray) (hs : s.size ≤ maxLen) (i k : Int) {c : Int} (hc : refuse S.on [s] = c) (hc0 : c ≠ 0) :
    Calls Try.prog 28 #[.pointer (some ⟨d, 0, none⟩), .string s, .int .i64 i, .int .i64 k] w fun x w' => x = .returned (.int .i64 c) ∧ w.grownBy w' none := by
  have F : Hid (Calls Try.prog 36 #[.pointer (some ⟨d, 0, none⟩), .string s] w fun x w' => x = .returned (.tuple #[.pointer none, .int .i64 c]) ∧ w.grownBy w' none) := find_refused h s hs hc hc0
  have hcb : (c == 0) = false := by rw [beq_eq_false_iff_ne]; exact hc0
  clear h hs hc
  go_enter Try.func28, Try.ntmps28
  go_wp2_with (go_at_call 36; go_fit F.out; rintro x w1 ⟨rfl, hg⟩)
  go_ret
  exact ⟨rfl, hg⟩
theorem spoil_none {w : World} {d bm : Nat} {S : St} (h : DiskAt w d bm S) (s : ByteArray) (hs : s.size ≤ maxLen) (i k : Int) (hc : refuse S.on [s] = 0) (hf : find S.fs (nameOf s) = none) :
    Calls Try.prog 28 #[.pointer (some ⟨d, 0, none⟩), .string s, .int .i64 i, .int .i64 k] w fun x w' => x = .returned (.int .i64 4) ∧ w.grownBy w' none := by
  have F : Hid (Calls Try.prog 36 #[.pointer (some ⟨d, 0, none⟩), .string s] w fun x w' => x = .returned (.tuple #[.pointer none, .int .i64 4]) ∧ w.grownBy w' none) := find_none h s hs hc hf
  clear h hs hc hf
  go_enter Try.func28, Try.ntmps28
  go_wp2_with (go_at_call 36; go_fit F.out; rintro x w1 ⟨rfl, hg⟩)
  go_ret
  exact ⟨rfl, hg⟩
theorem spoil_arg1 {w : World} {d bm : Nat} {S : St} (h : DiskAt w d bm S) (s : ByteArray) (hs : s.size ≤ maxLen) (i k : Int) (hc : refuse S.on [s] = 0) {e : Ent} (hf : find S.fs (nameOf s) = some e) (h1 : i < 0) :
    Calls Try.prog 28 #[.pointer (some ⟨d, 0, none⟩), .string s, .int .i64 i, .int .i64 k] w fun x w' => x = .returned (.int .i64 2) ∧ w.grownBy w' none := by
  have F : Hid (Calls Try.prog 36 #[.pointer (some ⟨d, 0, none⟩), .string s] w fun x w' => x = .returned (.tuple #[.pointer (some ⟨e.b, 0, none⟩), .int .i64 0]) ∧ w.grownBy w' none) := find_ok h s hs hc hf
  have hE := h.ents e (find_some hf).1
  obtain ⟨ao, cap, hv, _⟩ := owns_form hE.row1
  have FC : Hid (∀ w1, w.grownBy w1 none → w1.cell? ⟨e.b, 0, none⟩ = some (.slice ao e.bs.length cap)) := by
    intro w1 hg1
    have hE1 : EntAt w1 e := hE.carry fun j hj => hg1.block j (hE.lt j hj) (by simp)
    have hc0 := hE1.c0
    rwa [hv] at hc0
  clear h hs hc hf hE hv
  generalize e.bs.length = n at *
  go_enter Try.func28, Try.ntmps28
  go_wp2_with (go_at_call 36; go_fit F.out; rintro x w1 ⟨rfl, hg1⟩; have q0 := FC.out w1 hg1)
  go_ret
  exact ⟨rfl, hg1⟩
theorem spoil_arg2 {w : World} {d bm : Nat} {S : St} (h : DiskAt w d bm S) (s : ByteArray) (hs : s.size ≤ maxLen) (i k : Int) (hc : refuse S.on [s] = 0) {e : Ent} (hf : find S.fs (nameOf s) = some e) (h1 : 0 ≤ i) (h2 : (e.bs.length : Int) ≤ i) :
    Calls Try.prog 28 #[.pointer (some ⟨d, 0, none⟩), .string s, .int .i64 i, .int .i64 k] w fun x w' => x = .returned (.int .i64 2) ∧ w.grownBy w' none := by
  have F : Hid (Calls Try.prog 36 #[.pointer (some ⟨d, 0, none⟩), .string s] w fun x w' => x = .returned (.tuple #[.pointer (some ⟨e.b, 0, none⟩), .int .i64 0]) ∧ w.grownBy w' none) := find_ok h s hs hc hf
  have hE := h.ents e (find_some hf).1
  obtain ⟨ao, cap, hv, _⟩ := owns_form hE.row1
  have FC : Hid (∀ w1, w.grownBy w1 none → w1.cell? ⟨e.b, 0, none⟩ = some (.slice ao e.bs.length cap)) := by
    intro w1 hg1
    have hE1 : EntAt w1 e := hE.carry fun j hj => hg1.block j (hE.lt j hj) (by simp)
    have hc0 := hE1.c0
    rwa [hv] at hc0
  clear h hs hc hf hE hv
  generalize e.bs.length = n at *
  go_enter Try.func28, Try.ntmps28
  go_wp2_with (go_at_call 36; go_fit F.out; rintro x w1 ⟨rfl, hg1⟩; have q0 := FC.out w1 hg1)
  go_ret
  exact ⟨rfl, hg1⟩
theorem spoil_arg3 {w : World} {d bm : Nat} {S : St} (h : DiskAt w d bm S) (s : ByteArray) (hs : s.size ≤ maxLen) (i k : Int) (hc : refuse S.on [s] = 0) {e : Ent} (hf : find S.fs (nameOf s) = some e) (h1 : 0 ≤ i) (h2 : i < (e.bs.length : Int)) (h3 : k < 0) :
    Calls Try.prog 28 #[.pointer (some ⟨d, 0, none⟩), .string s, .int .i64 i, .int .i64 k] w fun x w' => x = .returned (.int .i64 2) ∧ w.grownBy w' none := by
  have F : Hid (Calls Try.prog 36 #[.pointer (some ⟨d, 0, none⟩), .string s] w fun x w' => x = .returned (.tuple #[.pointer (some ⟨e.b, 0, none⟩), .int .i64 0]) ∧ w.grownBy w' none) := find_ok h s hs hc hf
  have hE := h.ents e (find_some hf).1
  obtain ⟨ao, cap, hv, _⟩ := owns_form hE.row1
  have FC : Hid (∀ w1, w.grownBy w1 none → w1.cell? ⟨e.b, 0, none⟩ = some (.slice ao e.bs.length cap)) := by
    intro w1 hg1
    have hE1 : EntAt w1 e := hE.carry fun j hj => hg1.block j (hE.lt j hj) (by simp)
    have hc0 := hE1.c0
    rwa [hv] at hc0
  clear h hs hc hf hE hv
  generalize e.bs.length = n at *
  go_enter Try.func28, Try.ntmps28
  go_wp2_with (go_at_call 36; go_fit F.out; rintro x w1 ⟨rfl, hg1⟩; have q0 := FC.out w1 hg1)
  go_ret
  exact ⟨rfl, hg1⟩
theorem spoil_arg4 {w : World} {d bm : Nat} {S : St} (h : DiskAt w d bm S) (s : ByteArray) (hs : s.size ≤ maxLen) (i k : Int) (hc : refuse S.on [s] = 0) {e : Ent} (hf : find S.fs (nameOf s) = some e) (h1 : 0 ≤ i) (h2 : i < (e.bs.length : Int)) (h3 : 0 ≤ k) (h4 : 7 < k) :
    Calls Try.prog 28 #[.pointer (some ⟨d, 0, none⟩), .string s, .int .i64 i, .int .i64 k] w fun x w' => x = .returned (.int .i64 2) ∧ w.grownBy w' none := by
  have F : Hid (Calls Try.prog 36 #[.pointer (some ⟨d, 0, none⟩), .string s] w fun x w' => x = .returned (.tuple #[.pointer (some ⟨e.b, 0, none⟩), .int .i64 0]) ∧ w.grownBy w' none) := find_ok h s hs hc hf
  have hE := h.ents e (find_some hf).1
  obtain ⟨ao, cap, hv, _⟩ := owns_form hE.row1
  have FC : Hid (∀ w1, w.grownBy w1 none → w1.cell? ⟨e.b, 0, none⟩ = some (.slice ao e.bs.length cap)) := by
    intro w1 hg1
    have hE1 : EntAt w1 e := hE.carry fun j hj => hg1.block j (hE.lt j hj) (by simp)
    have hc0 := hE1.c0
    rwa [hv] at hc0
  clear h hs hc hf hE hv
  generalize e.bs.length = n at *
  go_enter Try.func28, Try.ntmps28
  go_wp2_with (go_at_call 36; go_fit F.out; rintro x w1 ⟨rfl, hg1⟩; have q0 := FC.out w1 hg1)
  go_ret
  exact ⟨rfl, hg1⟩
end Go.Proofs.Ytbabepnoncpdlaa
