/-
  CONTRACT: the library's Clone at cells.
-/
import Derived.Test.YtkdeaogmifhnhaaCxRow
namespace Go.Proofs.Ytkdeaogmifhnhaa
open Go.RowKit

theorem isNil (cap : Nat) (w : World) : (binOp BinOp.eql 22 (.slice none 0 cap) (.slice none 0 0)).run Try.prog w = .ok (.bool true) w := by kernel_rfl
theorem notNil (a : Addr) (n cap : Nat) (w : World) : (binOp BinOp.eql 22 (.slice (some a) n cap) (.slice none 0 0)).run Try.prog w = .ok (.bool false) w := by kernel_rfl
set_option maxRecDepth 100000 in
set_option maxHeartbeats 1000000 in
theorem cloneX_any (ao : Option Addr) (l : List Cx) (cap : Nat) (w : World) (hs : XSees w ao l) (hn : ao = none → l.length = 0) (hl : l.length ≤ 1000000) :
    Calls Try.prog 32 #[.slice ao l.length cap] w fun e w' => ∃ v, e = .returned v ∧ w'.ownsRow w.heap.size 35 10 v l.length (l.flatMap xs10) ∧ Below w.heap.size w w' := by
  obtain ⟨i1, hi1, hy0, hy1, hy2⟩ := infoX infoCx
  cases ao with
  | none =>
    obtain rfl : l = [] := List.eq_nil_of_length_eq_zero (hn rfl)
    simp only [List.length_nil]
    clear hs hn
    have hq := isNil cap w
    go_enter Try.func32, Try.ntmps32
    go_wp2_with fail
    go_ret
    exact ⟨_, rfl, World.ownsRow_nil _ _ _ _, Below.refl _ _⟩
  | some a =>
    have hlz : (l.length : Int) ≤ 1000000 := by omega
    have hq := notNil a l.length cap w
    have hbe : Below w.heap.size w (w.alloc (.cells #[] 35)) := (Below.refl _ _).alloc (Nat.le_refl _) _
    have hs2 := hs.below hbe (Nat.le_refl _)
    go_enter Try.func32, Try.ntmps32
    go_wp2_with (at_builtin; go_must (refine wpList_append_grew _ rfl _ _ 22 22 rfl w.heap.size 35 i1 _ 10 112 Try.underlying22 hi1 hy0 hy1 hy2 rfl _ 0 [] rfl (owns_noneX w w.heap.size (Nat.le_refl _)) _ l.length (l.flatMap xs10) rfl (src_cells hs2 hn cap) (by unfold maxLen; omega) (by omega) (by rw [World.size_alloc]; omega) ?_; intro v2 w2 ho2 hg2; simp only [Nat.zero_add, List.nil_append] at ho2))
    go_ret
    refine ⟨_, rfl, ho2, hbe.trans (hg2.below (by rw [World.size_alloc]; omega) (fun g hg => ?_))⟩
    obtain rfl := Option.some.inj hg
    exact Nat.le_refl _
end Go.Proofs.Ytkdeaogmifhnhaa
