/-
  SEVERAL TEXTS IN ONE: DskNone, WalNone, CxRow, CxSorted, KeyRow, KeyBytes, BlmPlain, BlmMem.
-/
import Derived.Test.YtlamncldbnagmaaGreatDoorMany7
import Derived.Test.YtlamncldbnagmaaGreatDoorWalLives
import Derived.Test.YtlamncldbnagmaaGreatDoorMany17
import Derived.Test.YtlamncldbnagmaaGreatDoorMany4
import Derived.Test.YtlamncldbnagmaaGreatDoorMany15
import Derived.Test.YtlamncldbnagmaaGreatDoorMany2
namespace Go.Proofs.YtlamncldbnagmaaGreatDoor
open Go.RowKit Go.Maps

/-- No call made the disk: nil, or a zero value. -/
def NM (p : Option Addr) (w : World) : Prop := p = none ∨ ∃ g, p = some ⟨g, 0, none⟩ ∧ w.cell? ⟨g, 0, none⟩ = some (.map none)
theorem NM.grown {p : Option Addr} {w w' : World} (h : NM p w) (hg : w.grownBy w' none) : NM p w' := h.imp id fun ⟨g, e, hc⟩ => ⟨g, e, hg.cell hc (by simp)⟩
theorem NM.alloc {p : Option Addr} {w : World} (h : NM p w) (o : Obj) : NM p (w.alloc o) := h.grown (World.grownBy_alloc _ _ _)
theorem grown_two {w w1 w2 : World} (h : w.grownBy w1 none) (k : w1.grownBy w2 none) : w.grownBy w2 none := h.andThen k (fun j hj => by cases hj)
theorem grown_a (w : World) (o : Obj) : w.grownBy (w.alloc o) none := World.grownBy_alloc _ _ _
theorem grown_z {w w1 : World} (h : w.grownBy w1 none) (o : Obj) : w.grownBy (w1.alloc o) none := grown_two h (grown_a _ _)
theorem made_no {p : Option Addr} {w : World} (h : NM p w) : Calls Tryz.prog 96 #[.pointer p] w fun e w' => e = .returned (.bool false) ∧ w' = w := by
  rcases h with rfl | ⟨g, rfl, hc⟩
  · exact made_nil w
  · exact made_zero g w hc
section
variable {p : Option Addr} {w : World} (h : NM p w)
include h
theorem on_no : Calls Tryz.prog 81 #[.pointer p] w fun x w' => x = .returned (.bool false) ∧ w' = w := by
  have M : Hid (Calls Tryz.prog 96 #[.pointer p] w fun e w' => e = .returned (.bool false) ∧ w' = w) := made_no h
  clear h
  go_enter Tryz.func81, Tryz.ntmps81
  go_wp2_with (go_at_call 96; go_fit M.out; rintro x w1 ⟨rfl, rfl⟩)
  go_ret
  exact ⟨rfl, rfl⟩
theorem crash_no (n : Int) : Calls Tryz.prog 130 #[.pointer p, .int .i64 n] w fun x w' => x = .returned (.tuple #[]) ∧ w' = w := by
  have M : Hid (Calls Tryz.prog 81 #[.pointer p] w fun e w' => e = .returned (.bool false) ∧ w' = w) := on_no h
  clear h
  go_enter Tryz.func130, Tryz.ntmps130
  go_wp2_with (go_at_call 81; go_fit M.out; rintro x w1 ⟨rfl, rfl⟩)
  refine bodyPost_ret (results_none rfl _ _ _) rfl ?_
  exact ⟨rfl, rfl⟩
theorem refusal_no (ao : Option Addr) (n c : Nat) : Calls Tryz.prog 55 #[.pointer p, .slice ao n c] w fun x w' => x = .returned (.int .i64 1) ∧ w' = w := by
  have M : Hid (Calls Tryz.prog 96 #[.pointer p] w fun e w' => e = .returned (.bool false) ∧ w' = w) := made_no h
  clear h
  go_enter Tryz.func55, Tryz.ntmps55
  go_wp2_with (go_at_call 96; go_fit M.out; rintro x w1 ⟨rfl, rfl⟩)
  go_ret
  exact ⟨rfl, rfl⟩
theorem list_no : Calls Tryz.prog 28 #[.pointer p] w fun x w' => x = .returned (.slice none 0 0) ∧ w' = w := by
  have M : Hid (Calls Tryz.prog 55 #[.pointer p, .slice none 0 0] w fun x w' => x = .returned (.int .i64 1) ∧ w' = w) := refusal_no h _ _ _
  clear h
  go_enter Tryz.func28, Tryz.ntmps28
  go_wp2_with (go_at_call 55; go_fit M.out; rintro x w1 ⟨rfl, rfl⟩)
  go_ret
  exact ⟨rfl, rfl⟩
theorem totalUsed_no : Calls Tryz.prog 191 #[.pointer p, .func (.func 192) #[] #[]] w fun x w' => x = .returned (.int .i64 0) ∧ w' = w := by
  have M : Hid (Calls Tryz.prog 55 #[.pointer p, .slice none 0 0] w fun x w' => x = .returned (.int .i64 1) ∧ w' = w) := refusal_no h _ _ _
  clear h
  go_enter Tryz.func191, Tryz.ntmps191
  go_wp2_with (go_at_call 55; go_fit M.out; rintro x w1 ⟨rfl, rfl⟩)
  go_ret
  exact ⟨rfl, rfl⟩
theorem used_no : Calls Tryz.prog 155 #[.pointer p] w fun x w' => x = .returned (.int .i64 0) ∧ w' = w := by
  have M : Hid (Calls Tryz.prog 191 #[.pointer p, .func (.func 192) #[] #[]] w fun e w' => e = .returned (.int .i64 0) ∧ w' = w) := totalUsed_no h
  clear h
  go_enter Tryz.func155, Tryz.ntmps155
  go_wp2_with (go_at_call 191; go_fit M.out; rintro x w1 ⟨rfl, rfl⟩)
  go_ret
  exact ⟨rfl, rfl⟩
theorem find_no (s : ByteArray) : Calls Tryz.prog 86 #[.pointer p, .string s] w fun x w' => x = .returned (.tuple #[.pointer none, .int .i64 1]) ∧ w.grownBy w' none := by
  have M : Hid (Calls Tryz.prog 55 #[.pointer p, .slice (some ⟨w.heap.size, 0, none⟩) 1 1] (w.alloc (.cells #[.string s] 9)) fun x w' => x = .returned (.int .i64 1) ∧ w' = w.alloc (.cells #[.string s] 9)) := refusal_no (h.alloc _) _ _ _
  clear h
  go_enter Tryz.func86, Tryz.ntmps86
  go_wp2_with (go_at_call 55; go_fit M.out; rintro x w1 ⟨rfl, rfl⟩)
  go_ret2
  exact ⟨rfl, grown_a _ _⟩
theorem create_no (s : ByteArray) : Calls Tryz.prog 82 #[.pointer p, .string s] w fun x w' => x = .returned (.int .i64 1) ∧ w.grownBy w' none := by
  have M : Hid (Calls Tryz.prog 55 #[.pointer p, .slice (some ⟨w.heap.size + 2, 0, none⟩) 1 1] (((w.alloc (.cells #[.pointer p] 44)).alloc (.cells #[.string s] 9)).alloc (.cells #[.string s] 9)) fun x w' => x = .returned (.int .i64 1) ∧ w' = ((w.alloc (.cells #[.pointer p] 44)).alloc (.cells #[.string s] 9)).alloc (.cells #[.string s] 9)) := refusal_no (((h.alloc _).alloc _).alloc _) _ _ _
  clear h
  go_enter Tryz.func82, Tryz.ntmps82
  go_wp2_with (go_at_call 55; go_fit M.out; rintro x w1 ⟨rfl, rfl⟩)
  go_ret
  exact ⟨rfl, grown_z (grown_z (grown_a _ _) _) _⟩
theorem rename_no (s t : ByteArray) : Calls Tryz.prog 133 #[.pointer p, .string s, .string t] w fun x w' => x = .returned (.int .i64 1) ∧ w.grownBy w' none := by
  have M : Hid (Calls Tryz.prog 55 #[.pointer p, .slice (some ⟨w.heap.size + 3, 0, none⟩) 2 2] ((((w.alloc (.cells #[.pointer p] 44)).alloc (.cells #[.string s] 9)).alloc (.cells #[.string t] 9)).alloc (.cells #[.string s, .string t] 9)) fun x w' => x = .returned (.int .i64 1) ∧ w' = (((w.alloc (.cells #[.pointer p] 44)).alloc (.cells #[.string s] 9)).alloc (.cells #[.string t] 9)).alloc (.cells #[.string s, .string t] 9)) := refusal_no ((((h.alloc _).alloc _).alloc _).alloc _) _ _ _
  clear h
  go_enter Tryz.func133, Tryz.ntmps133
  go_wp2_with (go_at_call 55; go_fit M.out; rintro x w1 ⟨rfl, rfl⟩)
  go_ret
  exact ⟨rfl, grown_z (grown_z (grown_z (grown_a _ _) _) _) _⟩
theorem read_no (s : ByteArray) : Calls Tryz.prog 52 #[.pointer p, .string s] w fun x w' => x = .returned (.tuple #[.slice none 0 0, .int .i64 1]) ∧ w.grownBy w' none := by
  have M : Hid (Calls Tryz.prog 86 #[.pointer p, .string s] w fun x w' => x = .returned (.tuple #[.pointer none, .int .i64 1]) ∧ w.grownBy w' none) := find_no h s
  clear h
  go_enter Tryz.func52, Tryz.ntmps52
  go_wp2_with (go_at_call 86; go_fit M.out; rintro x w1 ⟨rfl, hg⟩)
  go_ret2
  exact ⟨rfl, hg⟩
theorem sync_no (s : ByteArray) : Calls Tryz.prog 83 #[.pointer p, .string s] w fun x w' => x = .returned (.int .i64 1) ∧ w.grownBy w' none := by
  have M : Hid (Calls Tryz.prog 86 #[.pointer p, .string s] w fun x w' => x = .returned (.tuple #[.pointer none, .int .i64 1]) ∧ w.grownBy w' none) := find_no h s
  clear h
  go_enter Tryz.func83, Tryz.ntmps83
  go_wp2_with (go_at_call 86; go_fit M.out; rintro x w1 ⟨rfl, hg⟩)
  go_ret
  exact ⟨rfl, grown_z hg _⟩
theorem remove_no (s : ByteArray) : Calls Tryz.prog 50 #[.pointer p, .string s] w fun x w' => x = .returned (.int .i64 1) ∧ w.grownBy w' none := by
  have M : Hid (Calls Tryz.prog 86 #[.pointer p, .string s] ((w.alloc (.cells #[.pointer p] 44)).alloc (.cells #[.string s] 9)) fun x w' => x = .returned (.tuple #[.pointer none, .int .i64 1]) ∧ ((w.alloc (.cells #[.pointer p] 44)).alloc (.cells #[.string s] 9)).grownBy w' none) := find_no ((h.alloc _).alloc _) s
  clear h
  go_enter Tryz.func50, Tryz.ntmps50
  go_wp2_with (go_at_call 86; go_fit M.out; rintro x w1 ⟨rfl, hg⟩)
  go_ret
  exact ⟨rfl, grown_two (grown_z (grown_a _ _) _) hg⟩
theorem append_no (s : ByteArray) (ao : Option Addr) (n c : Nat) : Calls Tryz.prog 84 #[.pointer p, .string s, .slice ao n c] w fun x w' => x = .returned (.int .i64 1) ∧ w.grownBy w' none := by
  have M : Hid (Calls Tryz.prog 86 #[.pointer p, .string s] ((w.alloc (.cells #[.pointer p] 44)).alloc (.cells #[.slice ao n c] 23)) fun x w' => x = .returned (.tuple #[.pointer none, .int .i64 1]) ∧ ((w.alloc (.cells #[.pointer p] 44)).alloc (.cells #[.slice ao n c] 23)).grownBy w' none) := find_no ((h.alloc _).alloc _) s
  clear h
  go_enter Tryz.func84, Tryz.ntmps84
  go_wp2_with (go_at_call 86; go_fit M.out; rintro x w1 ⟨rfl, hg⟩)
  go_ret
  exact ⟨rfl, grown_z (grown_two (grown_z (grown_a _ _) _) hg) _⟩
end
end Go.Proofs.YtlamncldbnagmaaGreatDoor
namespace Go.Proofs.YtlamncldbnagmaaGreatDoor
open Go.RowKit

/-- No call made the log: nil, or a zero value. -/
def NoL (p : Option Addr) (w : World) : Prop := p = none ∨ ∃ g, p = some ⟨g, 0, none⟩ ∧ w.cell? ⟨g, 1, none⟩ = some (.int .i64 0)
set_option maxRecDepth 100000 in
theorem madeL_no {p : Option Addr} {w : World} (h : NoL p w) : Calls Tryz.prog 51 #[.pointer p] w fun e w' => e = .returned (.bool false) ∧ w' = w := by
  rcases h with rfl | ⟨g, rfl, hc⟩
  · have hq : (binOp BinOp.neq 47 (.pointer none) (.pointer none)).run Tryz.prog w = .ok (.bool false) w := by kernel_rfl
    go_enter Tryz.func51, Tryz.ntmps51
    go_wp2_with fail
    go_ret
    exact ⟨rfl, rfl⟩
  · have hq : (binOp BinOp.neq 47 (.pointer (some ⟨g, 0, none⟩)) (.pointer none)).run Tryz.prog w = .ok (.bool true) w := by kernel_rfl
    go_enter Tryz.func51, Tryz.ntmps51
    go_wp2_with fail
    go_ret
    exact ⟨rfl, rfl⟩
section
variable {p : Option Addr} {w : World} (h : NoL p w)
include h
set_option maxRecDepth 100000 in
theorem refusalL_no : Calls Tryz.prog 45 #[.pointer p] w fun e w' => e = .returned (.int .i64 1) ∧ w' = w := by
  have M : Hid (Calls Tryz.prog 51 #[.pointer p] w fun e w' => e = .returned (.bool false) ∧ w' = w) := madeL_no h
  clear h
  go_enter Tryz.func45, Tryz.ntmps45
  go_wp2_with (go_at_call 51; go_fit M.out; rintro x w1 ⟨rfl, rfl⟩)
  go_ret
  exact ⟨rfl, rfl⟩
set_option maxRecDepth 100000 in
theorem appendL_no (ao : Option Addr) (n c : Nat) : Calls Tryz.prog 19 #[.pointer p, .slice ao n c] w fun e w' => e = .returned (.int .i64 1) ∧ w' = w := by
  have M : Hid (Calls Tryz.prog 45 #[.pointer p] w fun e w' => e = .returned (.int .i64 1) ∧ w' = w) := refusalL_no h
  clear h
  go_enter Tryz.func19, Tryz.ntmps19
  go_wp2_with (go_at_call 45; go_fit M.out; rintro x w1 ⟨rfl, rfl⟩)
  go_ret
  exact ⟨rfl, rfl⟩
set_option maxRecDepth 100000 in
theorem rollL_no : Calls Tryz.prog 18 #[.pointer p] w fun e w' => e = .returned (.tuple #[.int .i64 0, .int .i64 1]) ∧ w' = w := by
  have M : Hid (Calls Tryz.prog 45 #[.pointer p] w fun e w' => e = .returned (.int .i64 1) ∧ w' = w) := refusalL_no h
  clear h
  go_enter Tryz.func18, Tryz.ntmps18
  go_wp2_with (go_at_call 45; go_fit M.out; rintro x w1 ⟨rfl, rfl⟩)
  go_ret2
  exact ⟨rfl, rfl⟩
set_option maxRecDepth 100000 in
theorem retireL_no (n : Int) : Calls Tryz.prog 20 #[.pointer p, .int .i64 n] w fun e w' => e = .returned (.int .i64 1) ∧ w' = w := by
  have M : Hid (Calls Tryz.prog 45 #[.pointer p] w fun e w' => e = .returned (.int .i64 1) ∧ w' = w) := refusalL_no h
  clear h
  go_enter Tryz.func20, Tryz.ntmps20
  go_wp2_with (go_at_call 45; go_fit M.out; rintro x w1 ⟨rfl, rfl⟩)
  go_ret
  exact ⟨rfl, rfl⟩
set_option maxRecDepth 100000 in
theorem lastL_no : Calls Tryz.prog 21 #[.pointer p] w fun e w' => e = .returned (.int .i64 0) ∧ w' = w := by
  have M : Hid (Calls Tryz.prog 51 #[.pointer p] w fun e w' => e = .returned (.bool false) ∧ w' = w) := madeL_no h
  clear h
  go_enter Tryz.func21, Tryz.ntmps21
  go_wp2_with (go_at_call 51; go_fit M.out; rintro x w1 ⟨rfl, rfl⟩)
  go_ret
  exact ⟨rfl, rfl⟩
set_option maxRecDepth 100000 in
theorem segmentsL_no : Calls Tryz.prog 22 #[.pointer p] w fun e w' => e = .returned (.slice none 0 0) ∧ w' = w := by
  have M : Hid (Calls Tryz.prog 51 #[.pointer p] w fun e w' => e = .returned (.bool false) ∧ w' = w) := madeL_no h
  clear h
  go_enter Tryz.func22, Tryz.ntmps22
  go_wp2_with (go_at_call 51; go_fit M.out; rintro x w1 ⟨rfl, rfl⟩)
  go_ret
  exact ⟨rfl, rfl⟩
end
theorem below_grown0 {w u : World} (h : w.grownBy u none) : Below w.heap.size w u := ⟨h.os, h.tape, h.output, h.size, fun i hi => h.block i hi (by simp)⟩
set_option maxRecDepth 100000 in
theorem openW_none (n : Int) (w : World) : Calls Tryz.prog 23 #[.pointer none, .int .i64 n] w fun e w' => e = .returned (.tuple #[.pointer none, .slice none 0 0, .int .i64 1]) ∧ Below w.heap.size w w' := by
  have M : Hid (Calls Tryz.prog 52 #[.pointer none, .string ⟨#[]⟩] w fun x w' => x = .returned (.tuple #[.slice none 0 0, .int .i64 1]) ∧ w.grownBy w' none) := read_no (.inl rfl) ⟨#[]⟩
  go_enter Tryz.func23, Tryz.ntmps23
  go_wp2_with (go_at_call 52; go_fit M.out; rintro x w1 ⟨rfl, hg⟩)
  go_ret3
  exact ⟨rfl, below_grown0 hg⟩
set_option maxRecDepth 100000 in
theorem refNorm_none (w : World) : Calls Tryz.prog 24 #[.slice none 0 0] w fun e w' => e = .returned (.slice none 0 0) ∧ Below w.heap.size w w' := by
  go_enter Tryz.func24, Tryz.ntmps24
  go_wp2_with fail
  go_loopw [3, 8] (fun s3 s8 wr => s3 = .slice none 0 0 ∧ s8 = .int .i64 0 ∧ Below w.heap.size w wr) (fun _ _ _ => 0)
  case atStart => exact ⟨rfl, rfl, Below.refl _ _⟩
  case round =>
    obtain ⟨rfl, rfl, hbr⟩ := hrel
    go_wp2_with fail
    go_ret
    exact ⟨rfl, hbr⟩
end Go.Proofs.YtlamncldbnagmaaGreatDoor
namespace Go.Proofs.YtlamncldbnagmaaGreatDoor
open Go.RowKit

def xs10 (c : Cx) : List Value := c.a.toList
theorem xs10_len (c : Cx) : (xs10 c).length = 10 := rfl
theorem xs10_one (c : Cx) : ∀ u ∈ xs10 c, u.oneCell' = true := by
  intro u hu
  simp only [xs10, Cx.a, List.mem_cons, List.not_mem_nil, or_false] at hu
  rcases hu with rfl | rfl | rfl | rfl | rfl | rfl | rfl | rfl | rfl | rfl <;> rfl
theorem infoCx : (Tryz.prog.info? 67).map (fun i => (i.zero, i.size, i.bytes)) = some (some (.agg (Cx.a ⟨⟨⟨#[]⟩, ⟨#[]⟩, 0, ⟨#[]⟩⟩, zeroV⟩)), 10, 112) := by kernel_rfl
theorem infoX {t : TypeId} {z : Value} {k b : Nat} (h : (Tryz.prog.info? t).map (fun i => (i.zero, i.size, i.bytes)) = some (some z, k, b)) : ∃ i, Tryz.prog.info? t = some i ∧ i.zero = some z ∧ i.size = k ∧ i.bytes = b := by
  cases hi : Tryz.prog.info? t with
  | none => rw [hi] at h; cases h
  | some i =>
    rw [hi] at h
    simp only [Option.map_some, Option.some.injEq, Prod.mk.injEq] at h
    exact ⟨i, rfl, h.1, h.2.1, h.2.2⟩
theorem flat_inv (l : List Cx) (j : Nat) (u : Value) (h : (l.flatMap xs10)[j]? = some u) : ∃ a, l[j / 10]? = some a ∧ (xs10 a)[j % 10]? = some u := by
  have hj := (List.getElem?_eq_some_iff.1 h).1
  rw [flat_lenR xs10_len] at hj
  have hi : j / 10 < l.length := by omega
  have hr : j % 10 < (xs10 l[j / 10]).length := by rw [xs10_len]; omega
  have h1 : l[j / 10]? = some l[j / 10] := List.getElem?_eq_getElem hi
  have h2 : (xs10 l[j / 10])[j % 10]? = some (xs10 l[j / 10])[j % 10] := List.getElem?_eq_getElem hr
  have h3 := flat_at xs10_len l (j / 10) (j % 10) _ _ h1 h2
  have h4 : j / 10 * 10 + j % 10 = j := by omega
  rw [h4, h] at h3
  exact ⟨_, h1, by rw [h2]; exact h3.symm⟩
theorem TenX.at {w : World} {b o : Nat} {c : Cx} (t : TenX w b o c) (j : Nat) (v : Value) (hv : (xs10 c)[j]? = some v) : w.cell? ⟨b, o + j, none⟩ = some v := by
  match j, hv with
  | 0, hv => obtain rfl := Option.some.inj hv; exact t.c0
  | 1, hv => obtain rfl := Option.some.inj hv; exact t.c1
  | 2, hv => obtain rfl := Option.some.inj hv; exact t.c2
  | 3, hv => obtain rfl := Option.some.inj hv; exact t.c3
  | 4, hv => obtain rfl := Option.some.inj hv; exact t.c4
  | 5, hv => obtain rfl := Option.some.inj hv; exact t.c5
  | 6, hv => obtain rfl := Option.some.inj hv; exact t.c6
  | 7, hv => obtain rfl := Option.some.inj hv; exact t.c7
  | 8, hv => obtain rfl := Option.some.inj hv; exact t.c8
  | 9, hv => obtain rfl := Option.some.inj hv; exact t.c9
  | j + 10, hv => exact absurd hv (by simp [xs10, Cx.a])
theorem src_cells {w : World} {ao : Option Addr} {l : List Cx} (h : XSees w ao l) (hn : ao = none → l.length = 0) (cap : Nat) : Src Tryz.prog 10 22 (.slice ao l.length cap) l.length (l.flatMap xs10) w := by
  cases ao with
  | none =>
    obtain rfl : l = [] := List.eq_nil_of_length_eq_zero (hn rfl)
    exact Src.ofNil w Tryz.underlying22 cap
  | some a =>
    refine Src.ofSlice w Tryz.underlying22 a _ cap _ (flat_lenR xs10_len l) (fun j u hu => ?_) (flat_one xs10_one l)
    obtain ⟨c, h1, h2⟩ := flat_inv l j u hu
    obtain ⟨b, off, e, t⟩ := h _ _ h1
    obtain rfl := Option.some.inj e
    have := t.at _ _ h2
    rw [Addr.add_lit]
    have e2 : off + j / 10 * 10 + j % 10 = off + j := by omega
    rwa [e2] at this
/-- Cells of a row of the call's own can be read. -/
theorem owns_xsees {w : World} {base : Nat} {v : Value} {l : List Cx} (h : w.ownsRow base 67 10 v l.length (l.flatMap xs10)) : ∃ ao cap, v = .slice ao l.length cap ∧ XSees w ao l ∧ ∀ i c, l[i]? = some c → ∃ g, ao = some ⟨g, 0, none⟩ ∧ base ≤ g ∧ TenX w g (i * 10) c := by
  obtain ⟨ao, cap, rfl, _, hr⟩ := owns_recs xs10_len h
  have hT : ∀ i c, l[i]? = some c → ∃ g, ao = some ⟨g, 0, none⟩ ∧ base ≤ g ∧ TenX w g (i * 10) c := fun i c hc => by
    obtain ⟨g, rfl, hg, hv⟩ := hr i c hc
    exact ⟨g, rfl, (h.lt g hg).1, ⟨hv 0 _ rfl, hv 1 _ rfl, hv 2 _ rfl, hv 3 _ rfl, hv 4 _ rfl, hv 5 _ rfl, hv 6 _ rfl, hv 7 _ rfl, hv 8 _ rfl, hv 9 _ rfl⟩⟩
  refine ⟨ao, cap, rfl, fun i c hc => ?_, hT⟩
  obtain ⟨g, rfl, _, t⟩ := hT i c hc
  exact ⟨g, 0, rfl, by rwa [Nat.zero_add]⟩
/-- An empty row. -/
theorem owns_noneX (w : World) (base : Nat) (hb : base ≤ w.heap.size) : (w.alloc (.cells #[] 67)).ownsRow base 67 10 (.slice (some ⟨w.heap.size, 0, none⟩) 0 0) 0 [] :=
  ⟨rfl, .inr ⟨w.heap.size, 0, #[], rfl, hb, heap_alloc_new w _, Nat.le_refl _, Nat.zero_le _, rfl, rfl⟩⟩
end Go.Proofs.YtlamncldbnagmaaGreatDoor
namespace Go.Proofs.YtlamncldbnagmaaGreatDoor
open Go.RowKit

/-- The keys rise up to the place i. -/
def Rise (l : List Cx) (i : Nat) : Prop := ∀ j x y, j + 1 < i → l[j]? = some x → l[j + 1]? = some y → kc x.k.ky y.k.ky < 0
noncomputable def srtB (l : List Cx) : Bool := @decide (Rise l l.length) (Classical.propDecidable _)
theorem srtB_true {l : List Cx} (h : Rise l l.length) : srtB l = true := @decide_eq_true _ (Classical.propDecidable _) h
theorem srtB_false {l : List Cx} (h : ¬ Rise l l.length) : srtB l = false := @decide_eq_false _ (Classical.propDecidable _) h
theorem Rise.step {l : List Cx} {i : Nat} {x y : Cx} (h : Rise l i) (hx : l[i - 1]? = some x) (hy : l[i]? = some y) (hc : kc x.k.ky y.k.ky < 0) : Rise l (i + 1) := by
  intro j u v hj hu hv
  rcases Nat.lt_or_ge (j + 1) i with g | g
  · exact h j u v g hu hv
  · have e : j + 1 = i := by omega
    have e2 : j = i - 1 := by omega
    rw [e, hy] at hv
    rw [e2, hx] at hu
    obtain rfl := Option.some.inj hu
    obtain rfl := Option.some.inj hv
    exact hc
attribute [local irreducible] wpQuiet
end Go.Proofs.YtlamncldbnagmaaGreatDoor
namespace Go.Proofs.YtlamncldbnagmaaGreatDoor
open Go.RowKit

theorem be_succ (u : Nat) : ∀ (n k : Nat), k < n → (be n u).take (k + 1) = (be n u).take k ++ [UInt8.ofNat (u / 256 ^ (n - 1 - k) % 256)]
  | 0, k, h => by omega
  | n + 1, 0, _ => by simp [be]
  | n + 1, k + 1, h => by
    have := be_succ u n k (by omega)
    simp only [be, List.take_succ_cons, List.cons_append]
    rw [this]
    have e : n - 1 - k = n + 1 - 1 - (k + 1) := by omega
    rw [e]
theorem xor_top (a : Nat) (h : a < 18446744073709551616) : a ^^^ 9223372036854775808 = if a < 9223372036854775808 then a + 9223372036854775808 else a - 9223372036854775808 := by
  have h1 : (a ^^^ 2 ^ 63) % 2 ^ 63 = a % 2 ^ 63 := by rw [Nat.xor_mod_two_pow]; simp
  have h2 : (a ^^^ 2 ^ 63) / 2 ^ 63 = (a / 2 ^ 63) ^^^ 1 := by rw [Nat.xor_div_two_pow]
  have h3 := Nat.div_add_mod (a ^^^ 2 ^ 63) (2 ^ 63)
  have h4 := Nat.div_add_mod a (2 ^ 63)
  have e : (2 : Nat) ^ 63 = 9223372036854775808 := by decide
  rw [h1, h2] at h3
  rw [e] at h3 h4
  split
  · have h5 : a / 9223372036854775808 = 0 := by omega
    rw [h5] at h3 h4
    have : (0 ^^^ 1 : Nat) = 1 := rfl
    rw [this] at h3; omega
  · have h5 : a / 9223372036854775808 = 1 := by omega
    rw [h5] at h3 h4
    have : (1 ^^^ 1 : Nat) = 0 := rfl
    rw [this] at h3; omega
theorem row_bits (r : Int) (h : InI r) : bits BinOp.xor IntKind.u64 (IntKind.u64.wrap r) 9223372036854775808 = (((r + 9223372036854775808).toNat : Nat) : Int) := by
  unfold InI at h
  have e : IntKind.u64.wrap r = (((r % 18446744073709551616).toNat : Nat) : Int) := by rw [IntKind.wrap_u64]; omega
  have e2 : (9223372036854775808 : Int) = ((9223372036854775808 : Nat) : Int) := rfl
  rw [e, e2, u64_xor_nat _ _ (by omega) (by decide), xor_top _ (by omega)]
  split <;> omega
end Go.Proofs.YtlamncldbnagmaaGreatDoor
namespace Go.Proofs.YtlamncldbnagmaaGreatDoor
open Go.RowKit

/-- The bytes l in a row that is new since wa; all that was there is as it was. -/
structure Aw (wa : World) (w1 : World) (v : Value) (l : List UInt8) : Prop where
  own : w1.ownsRow wa.heap.size 5 1 v l.length (B8 l)
  bel : Below wa.heap.size wa w1
theorem Aw.cell {wa w1 : World} {v : Value} {l : List UInt8} (h : Aw wa w1 v l) {a : Addr} {u : Value} (hc : wa.cell? a = some u) : w1.cell? a = some u := by
  rw [h.bel.cell (World.block_lt_of_cell? _ _ hc), hc]
theorem Aw.start {wa w : World} (hB : Below w.heap.size w wa) {w1 : World} {v : Value} {l : List UInt8} (h : Aw wa w1 v l) : Aw w w1 v l :=
  ⟨⟨h.own.1, h.own.2.imp id fun ⟨g, cap, cur, a, b, c⟩ => ⟨g, cap, cur, a, Nat.le_trans hB.size b, c⟩⟩, hB.trans (h.bel.mono hB.size)⟩
theorem encT_le (s : ByteArray) (h : s.size ≤ 2000000) : (encT (nb s)).length ≤ 4000002 := by
  rw [encT_len]; have := esc_len (nb s); rw [nb_size] at this; omega

end Go.Proofs.YtlamncldbnagmaaGreatDoor
namespace Go.Proofs.YtlamncldbnagmaaGreatDoor
open Go.RowKit

/-- The i-th place of a key whose hash is h, in a filter of n bytes. -/
def plc (h : BitVec 64 × BitVec 64) (n i : Nat) : Nat := (h.1 + BitVec.ofNat 64 i * h.2).toNat % (8 * n)
def plcs (h : BitVec 64 × BitVec 64) (n k : Nat) : List Nat := (List.range k).map (plc h n)
/-- One bit is set; is one set? -/
def orP (x : UInt8) (p : Nat) : UInt8 := UInt8.ofNat (x.toNat ||| 2 ^ (p % 8))
def setP (l : List UInt8) (p : Nat) : List UInt8 := l.set (p / 8) (orP (l.getD (p / 8) 0) p)
def hasP (l : List UInt8) (p : Nat) : Bool := (l.getD (p / 8) 0).toNat.testBit (p % 8)
def addK (l : List UInt8) (h : BitVec 64 × BitVec 64) (k : Nat) : List UInt8 := (plcs h l.length k).foldl setP l
def mayK (l : List UInt8) (h : BitVec 64 × BitVec 64) (k : Nat) : Bool := (plcs h l.length k).all (hasP l)

theorem orP_toNat (x : UInt8) (p : Nat) : (orP x p).toNat = x.toNat ||| 2 ^ (p % 8) := by
  unfold orP
  rw [UInt8.toNat_ofNat', Nat.mod_eq_of_lt]
  refine Nat.or_lt_two_pow (n := 8) ?_ ?_
  · exact x.toNat_lt
  · exact Nat.pow_lt_pow_right (by decide) (Nat.mod_lt _ (by decide))
theorem setP_length (l : List UInt8) (p : Nat) : (setP l p).length = l.length := List.length_set
theorem plc_lt (h : BitVec 64 × BitVec 64) (n i : Nat) (hn : 0 < n) : plc h n i < 8 * n := Nat.mod_lt _ (by omega)
theorem hasP_setP (l : List UInt8) (p q : Nat) (hp : p / 8 < l.length) : hasP (setP l p) q = (hasP l q || decide (p = q)) := by
  unfold hasP setP
  by_cases h : p / 8 = q / 8
  · rw [← h]
    have : (l.set (p / 8) (orP (l.getD (p / 8) 0) p)).getD (p / 8) 0 = orP (l.getD (p / 8) 0) p := by
      simp [List.getD, hp]
    rw [this, orP_toNat, Nat.testBit_or, Nat.testBit_two_pow]
    congr 1
    by_cases e : p % 8 = q % 8
    · have : p = q := by omega
      simp [this]
    · have : p ≠ q := fun k => e (by rw [k])
      simp [e, this]
  · have : (l.set (p / 8) (orP (l.getD (p / 8) 0) p)).getD (q / 8) 0 = l.getD (q / 8) 0 := by
      simp [List.getD, h]
    rw [this]
    have : p ≠ q := fun k => h (by rw [k])
    simp [this]
theorem setAll_length (ps : List Nat) (l : List UInt8) : (ps.foldl setP l).length = l.length := by
  induction ps generalizing l with
  | nil => rfl
  | cons p ps ih => rw [List.foldl_cons, ih, setP_length]
theorem addK_length (l : List UInt8) (h : BitVec 64 × BitVec 64) (k : Nat) : (addK l h k).length = l.length := setAll_length _ _
theorem hasP_all (ps : List Nat) (l : List UInt8) (q : Nat) (hps : ∀ p ∈ ps, p / 8 < l.length) : hasP (ps.foldl setP l) q = (hasP l q || ps.any (fun p => decide (p = q))) := by
  induction ps generalizing l with
  | nil => simp
  | cons p ps ih =>
    rw [List.foldl_cons, ih _ (fun x hx => by rw [setP_length]; exact hps x (List.mem_cons_of_mem _ hx)), hasP_setP l p q (hps p List.mem_cons_self), List.any_cons, Bool.or_assoc]
theorem plcs_lt (h : BitVec 64 × BitVec 64) (n k : Nat) (hn : 0 < n) : ∀ p ∈ plcs h n k, p < 8 * n := by
  intro p hp
  obtain ⟨i, _, rfl⟩ := List.mem_map.1 hp
  exact plc_lt h n i hn
theorem plcs_div (h : BitVec 64 × BitVec 64) (n k : Nat) (hn : 0 < n) : ∀ p ∈ plcs h n k, p / 8 < n := by
  intro p hp
  have := plcs_lt h n k hn p hp
  omega
theorem plcs_length (h : BitVec 64 × BitVec 64) (n k : Nat) : (plcs h n k).length = k := by simp [plcs]
theorem plcs_at (h : BitVec 64 × BitVec 64) (n k i : Nat) (hi : i < k) : (plcs h n k)[i]? = some (plc h n i) := by simp [plcs, hi]
theorem plcs_step (h : BitVec 64 × BitVec 64) (n i : Nat) : plcs h n (i + 1) = plcs h n i ++ [plc h n i] := by simp [plcs, List.range_succ]
theorem plcs_take (h : BitVec 64 × BitVec 64) (n k i : Nat) (hi : i ≤ k) : (plcs h n k).take i = plcs h n i := by
  unfold plcs
  rw [← List.map_take, List.take_range, Nat.min_eq_left hi]
/-- What was added may be there. -/
theorem may_add (l : List UInt8) (h : BitVec 64 × BitVec 64) (k : Nat) (hl : 0 < l.length) : mayK (addK l h k) h k = true := by
  unfold mayK
  rw [addK_length, List.all_eq_true]
  intro p hp
  unfold addK
  rw [hasP_all _ _ _ (plcs_div h _ k hl), Bool.or_eq_true]
  exact .inr (List.any_eq_true.2 ⟨p, hp, by simp⟩)
/-- What may be there stays so. -/
theorem may_more (l : List UInt8) (h h' : BitVec 64 × BitVec 64) (k k' : Nat) (hl : 0 < l.length) (hm : mayK l h k = true) : mayK (addK l h' k') h k = true := by
  unfold mayK at hm ⊢
  rw [addK_length, List.all_eq_true]
  rw [List.all_eq_true] at hm
  intro p hp
  unfold addK
  rw [hasP_all _ _ _ (plcs_div h' _ k' hl), hm p hp, Bool.true_or]
theorem hasP_zero (n p : Nat) : hasP (List.replicate n 0) p = false := by
  unfold hasP
  have : (List.replicate n (0 : UInt8)).getD (p / 8) 0 = 0 := by
    simp [List.getD, List.getElem?_replicate]
    split <;> rfl
  rw [this]
  simp
theorem may_zero (n k : Nat) (h : BitVec 64 × BitVec 64) (hk : 0 < k) : mayK (List.replicate n 0) h k = false := by
  unfold mayK
  rw [List.all_eq_false]
  refine ⟨plc h (List.replicate n (0 : UInt8)).length 0, ?_, by rw [hasP_zero]; simp⟩
  exact List.mem_map.2 ⟨0, List.mem_range.2 hk, rfl⟩
/-- A step of Add, of May. -/
theorem add_step (l : List UInt8) (h : BitVec 64 × BitVec 64) (i : Nat) : setP (addK l h i) (plc h l.length i) = addK l h (i + 1) := by
  unfold addK
  rw [plcs_step, List.foldl_append]
  rfl
theorem may_step (l : List UInt8) (h : BitVec 64 × BitVec 64) (i : Nat) : mayK l h (i + 1) = (mayK l h i && hasP l (plc h l.length i)) := by
  unfold mayK
  rw [plcs_step, List.all_append]
  simp
theorem may_less {l : List UInt8} {h : BitVec 64 × BitVec 64} {i k : Nat} (hi : i < k) (hp : hasP l (plc h l.length i) = false) : mayK l h k = false := by
  unfold mayK
  rw [List.all_eq_false]
  exact ⟨_, List.mem_map.2 ⟨i, List.mem_range.2 hi, rfl⟩, by rw [hp]; simp⟩
end Go.Proofs.YtlamncldbnagmaaGreatDoor
namespace Go.Proofs.YtlamncldbnagmaaGreatDoor
open Go.RowKit

/-- Where a filter lies: its head, its bits, how many there is room for, and what stands behind them. -/
structure FM where
  d : Nat
  g : Nat
  cap : Nat
  rest : List Value
abbrev FM.v (m : FM) : Value := .pointer (some ⟨m.d, 0, none⟩)
/-- No call made it. -/
def FNo (w : World) (v : Value) : Prop := v = .pointer none ∨ ∃ d, v = .pointer (some ⟨d, 0, none⟩) ∧ w.cell? ⟨d, 1, none⟩ = some (.slice none 0 0)

end Go.Proofs.YtlamncldbnagmaaGreatDoor
