/-
  A RANGE OVER THE TOWERS of a skip list: the iterator's contract (on).
-/
import Derived.Test.YtlhojbgpmjcjlaaSkPut
import Derived.RangeFuncBox
import Derived.RangeFuncNested
import Derived.RangeFuncBound
import Derived.RangeFuncCalls
import Derived.RangeFuncLeaves
import Derived.Shelf.Abstract
import Derived.Shelf.RegionOpen
import Derived.WalkKit
import Derived.OwnWalkIn
import Derived.TacticsInMore
import Derived.LoopNIn
import Derived.LoopIn
import Derived.Maps.AppendAt
namespace Go.Proofs.Ytlhojbgpmjcjlaa
open Go.RowKit Go.Shelf

attribute [local go_sem] Oper.semAt_some

/-- How many towers are still to come. -/
def leftV (T : List Tw) : Value → Nat
  | .pointer (some a) => T.length - (T.map Tw.g).idxOf a.block
  | _ => 0
theorem leftV_at {T A R : List Tw} {t : Tw} (hT : T = A ++ t :: R) (hnd : (T.map Tw.g).Nodup) : leftV T (.pointer (some ⟨t.g, 0, none⟩)) = (t :: R).length := by
  have h2 : (A.map Tw.g ++ t.g :: R.map Tw.g).Nodup := by rw [hT] at hnd; simpa using hnd
  show T.length - (T.map Tw.g).idxOf t.g = _
  rw [hT, List.map_append, List.map_cons, idxOf_mid h2]
  simp
abbrev TwIn (T : List Tw) := { t : Tw // t ∈ T }
theorem attach_val (T : List Tw) : T.attach.map (fun x => x.1) = T := by simp
theorem attach_split {T : List Tw} {pre rest : List (TwIn T)} (h : T.attach = pre ++ rest) : T = pre.map (fun x => x.1) ++ rest.map (fun x => x.1) := by
  rw [← List.map_append, ← h, attach_val]
theorem head_attach (T : List Tw) : T.attach.head?.map (fun x => x.1.g) = T.head?.map Tw.g := by
  have h := congrArg List.head? (attach_val T)
  rw [List.head?_map] at h
  rw [← h, Option.map_map]; rfl
set_option maxRecDepth 100000 in
set_option maxHeartbeats 1000000 in
theorem on1_in (F : Fence) (n : Nat) (h89 : F.fn 45) (hro : F.round = none) (hn : 1 ≤ n) (l Bn n₀ : Nat) (T : List Tw) (J Jx : List (TwIn T) → World → Prop)
    (hY : ∀ pre x W, J pre W → pre.length < T.attach.length → YieldAt F (n - 1) Try.prog l #[.pointer (some ⟨x.1.g, 0, none⟩)] W fun e W' =>
      (e = .returned (.bool true) ∧ J (pre ++ [x]) W' ∧ Below n₀ W W') ∨ (e = .returned (.bool false) ∧ Jx (pre ++ [x]) W'))
    (W : World) (hBn : W.cell? ⟨Bn, 0, none⟩ = some (pt (T.head?.map Tw.g))) (hC : Chain W T) (hlt : ∀ t ∈ T, t.g < n₀) (hh : ∀ t ∈ T, 1 ≤ t.h) (hnd : (T.map Tw.g).Nodup) (h0 : J [] W) :
    CallsIn F n Try.prog 45 #[.func (.yield l) #[] #[], .pointer (some ⟨Bn, 0, none⟩)] W fun e W' => (∃ v, e = .returned v) ∧
      ((∃ ys, ys = T.attach ∧ J ys W') ∨ (∃ pre, pre <+: T.attach ∧ Jx pre W')) := by
  refine callsIn_of_wp Try.func45 rfl h89 ?_ hro
  simp only [Try.ntmps45, List.size_toArray, List.length_cons, List.length_nil, Nat.reduceAdd, Nat.reduceSub, Array.replicate_succ, Array.replicate_zero, List.push_toArray, List.append_toArray, List.nil_append, List.cons_append]
  gi_wp2
  gi_loopw [3] (fun p wr => ∃ (pre rest : List (TwIn T)), p = pt (rest.head?.map fun x => x.1.g) ∧ T.attach = pre ++ rest ∧ Below n₀ W wr ∧ J pre wr)
    (fun p _ => leftV T p)
  case atStart =>
    refine ⟨[], T.attach, ?_, rfl, Below.refl _ _, h0⟩
    exact congrArg pt (head_attach T).symm
  case round =>
    obtain ⟨pre, rest, rfl, hx, hbw, hJs⟩ := hrel
    cases rest with
    | nil =>
      simp only [List.head?_nil, Option.map_none, pt_none]
      gi_wp2
      refine ⟨fun _ h => (by cases h), ?_⟩
      gi_wp2
      go_end0
      exact ⟨⟨_, rfl⟩, .inl ⟨pre, by simp [hx], hJs⟩⟩
    | cons x rest =>
      simp only [List.head?_cons, Option.map_some, pt_some]
      have hT := attach_split hx
      rw [List.map_cons] at hT
      obtain ⟨fn, tmps, assign, body, hy, hR⟩ := hY pre x wr hJs (by rw [hx]; simp)
      gi_wp2
      refine hR.mono ?_
      rintro e W3 (⟨rfl, hJ3, hk3⟩ | ⟨rfl, hJx3⟩)
      · have hb3 : Below n₀ W W3 := hbw.trans hk3
        have hq3 : W3.cell? ⟨x.1.g, 11, none⟩ = some (pt (rest.head?.map fun x => x.1.g)) := by
          have hc3 : Chain W3 T := hC.carry fun t ht => hb3.block _ (hlt t ht)
          rw [hT] at hc3
          have h4 := hc3.at.next (l := 0) (by omega) (hh x.1 x.2)
          rw [firstH_zero (T := rest.map (fun x => x.1)) fun t ht => by obtain ⟨y, _, rfl⟩ := List.mem_map.1 ht; exact hh y.1 y.2] at h4
          rw [List.head?_map, Option.map_map] at h4
          exact h4
        obtain ⟨q, hq⟩ : ∃ q, pt (rest.head?.map fun x => x.1.g) = .pointer q := ⟨_, rfl⟩
        rw [hq] at hq3
        dsimp only
        gi_wp2
        go_roundw
        case rel => exact ⟨pre ++ [x], rest, hq.symm, by simp [hx], hb3, hJ3⟩
        case measure =>
          rw [leftV_at hT hnd, ← hq]
          cases rest with
          | nil => simp [pt, leftV]
          | cons y rest =>
            have hT2 : T = (pre ++ [x]).map (fun x => x.1) ++ y.1 :: rest.map (fun x => x.1) := hT.trans (by simp)
            simp only [List.head?_cons, Option.map_some, pt_some]
            rw [leftV_at hT2 hnd]
            simp
      · dsimp only
        gi_wp2
        go_end0
        exact ⟨⟨_, rfl⟩, .inr ⟨pre ++ [x], ⟨rest, by simp [hx]⟩, hJx3⟩⟩
set_option maxHeartbeats 1000000 in
theorem on_in (F : Fence) (n : Nat) (h65 : F.fn 36) (hro : F.round = none) (p0 : Option Addr) (w : World) :
    CallsIn F n Try.prog 36 #[.pointer p0] w fun e w' => e = .returned (.func (.func 45) #[] #[.pointer (some ⟨w.heap.size, 0, none⟩)]) ∧ w' = w.alloc (.cells #[.pointer p0] 61) := by
  refine callsIn_of_wp Try.func36 rfl h65 ?_ hro
  simp only [Try.ntmps36, List.size_toArray, List.length_cons, List.length_nil, Nat.reduceAdd, Nat.reduceSub, Array.replicate_succ, Array.replicate_zero, List.push_toArray, List.append_toArray, List.nil_append, List.cons_append]
  gi_wp2
  go_ret
  exact ⟨rfl, rfl⟩
theorem on_stops (F : Fence) (n : Nat) (h89 : F.fn 45) (hro : F.round = none) (hn : 1 ≤ n) (Bn n₀ : Nat) (T : List Tw) (w : World) (hBn : Bn < w.heap.size) (hn₀ : n₀ ≤ w.heap.size)
    (hc : w.cell? ⟨Bn, 0, none⟩ = some (pt (T.head?.map Tw.g))) (hC : Chain w T) (hlt : ∀ t ∈ T, t.g < n₀) (hh : ∀ t ∈ T, 1 ≤ t.h) (hnd : (T.map Tw.g).Nodup) :
    SeqStopsK F n Try.prog 45 #[.pointer (some ⟨Bn, 0, none⟩)] (fun x : TwIn T => #[Value.pointer (some ⟨x.1.g, 0, none⟩)]) (Below n₀) (fun ys => ys = T.attach) (fun pre => pre <+: T.attach) T.attach.length w := fun l J Jx W hW _ _ hY h0 =>
  on1_in F n h89 hro hn l Bn n₀ T J Jx hY W ((hW.cell (p := ⟨Bn, 0, none⟩) hBn).trans hc) (hC.carry fun t ht => hW.block _ (Nat.lt_of_lt_of_le (hlt t ht) hn₀)) hlt hh hnd h0
end Go.Proofs.Ytlhojbgpmjcjlaa
