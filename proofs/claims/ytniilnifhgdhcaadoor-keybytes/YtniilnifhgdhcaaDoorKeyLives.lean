/-
  CONTRACT: the document's examples are as it says ('lives').
-/
import Derived.Test.YtniilnifhgdhcaaDoorKeyBytes
import Derived.Test.YtniilnifhgdhcaaDoorKeyGood
import Derived.Laws.BytesString
import Derived.Lib.SlBytesConst
namespace Go.Proofs.YtniilnifhgdhcaaDoor
open Go.RowKit

theorem conv_sees {w : World} {ao : Option Addr} {l : List UInt8} (h : Sees w ao l) (hn : ao = none → l.length = 0) (cap : Nat) :
    (convert 32 9 (.slice ao l.length cap)).run Tryd.prog w = .ok (.string ⟨l.toArray⟩) w := by
  cases ao with
  | none =>
    obtain rfl : l = [] := List.eq_nil_of_length_eq_zero (hn rfl)
    rw [run_convert_bytes_string w 32 9 5 none _ cap Tryd.underlying32 Tryd.underlying5 Tryd.underlying9]
    rfl
  | some a =>
    refine run_convert_bytes_back w 32 9 5 a cap l Tryd.underlying32 Tryd.underlying5 Tryd.underlying9 fun j hj => ?_
    obtain ⟨a', e, hc⟩ := h j hj
    obtain rfl := Option.some.inj e
    rw [hc]; simp [List.getD, hj]
set_option maxHeartbeats 400000 in
theorem same_any (ao bo : Option Addr) (la lb : List UInt8) (ca cb : Nat) (w : World) (ha : Sees w ao la) (hb : Sees w bo lb) (hna : ao = none → la.length = 0) (hnb : bo = none → lb.length = 0) :
    Calls Tryd.prog 23 #[.slice ao la.length ca, .slice bo lb.length cb] w fun e w' => e = .returned (.bool (la == lb)) ∧ w' = w := by
  have c1 := conv_sees ha hna ca
  have c2 := conv_sees hb hnb cb
  go_enter Tryd.func23, Tryd.ntmps23
  go_wp2
  go_ret
  exact ⟨rfl, rfl⟩

def kA : Kb := ⟨⟨#[116]⟩, ⟨#[97]⟩, 1, ⟨#[120]⟩⟩
def kB : Kb := ⟨⟨#[116]⟩, ⟨#[97]⟩, 2, ⟨#[98]⟩⟩
def kP : Kb := ⟨⟨#[116]⟩, ⟨#[97, 47, 98]⟩, -3, ⟨#[120]⟩⟩
def kT : Kb := ⟨⟨#[116]⟩, ⟨#[97]⟩, 0, ⟨#[]⟩⟩
theorem kA_cmp : kc kA.ky kB.ky = -1 := by decide
theorem kA_good : goodK kA.ky = true := by decide
theorem kP_print : strB (prK kP.ky) = ⟨#[116, 47, 97, 37, 50, 102, 98, 47, 45, 51, 47, 120]⟩ := by
  have e : Lib.itoa (-3) = [45, 51] := by
    unfold Lib.itoa; rw [if_pos (by decide)]
    rw [dec_small (by decide)]; rfl
  have : prK kP.ky = [116, 47, 97, 37, 50, 102, 98, 47, 45, 51, 47, 120] := by
    show msk [116] ++ (47 :: (msk [97, 47, 98] ++ (47 :: (Lib.itoa (-3) ++ (47 :: msk [120]))))) = _
    rw [e]; decide
  rw [this]; rfl
def bT : List UInt8 := [116, 0, 0, 97, 0, 0, 128, 0, 0, 0, 0, 0, 0, 0, 0, 0]
theorem kT_bytes : encK kT.ky = bT := by decide
theorem ok_small (k : Kb) (h1 : k.t.size ≤ 5000) (h2 : k.p.size ≤ 5000) (h3 : k.c.size ≤ 5000) (h : InI k.r) : k.Ok := ⟨h1, h2, h3, h⟩

set_option maxRecDepth 100000 in
set_option maxHeartbeats 1000000 in
theorem lives_any (w : World) (he : Env w) :
    Calls Tryd.prog 10 #[] w fun e w' => e = .returned (.bool true) ∧ Below w.heap.size w w' := by
  have C1 : Hid (∀ w : World, Calls Tryd.prog 19 #[.agg #[.string ⟨#[116]⟩, .string ⟨#[97]⟩, .int .i64 1, .string ⟨#[120]⟩], .agg #[.string ⟨#[116]⟩, .string ⟨#[97]⟩, .int .i64 2, .string ⟨#[98]⟩]] w fun e w' => e = .returned (.int .i64 (-1)) ∧ Below w.heap.size w w') := fun w => kA_cmp ▸ cmp_any kA kB w
  have C2 : Hid (∀ w : World, Env w → Calls Tryd.prog 17 #[.agg #[.string ⟨#[116]⟩, .string ⟨#[97, 47, 98]⟩, .int .i64 (-3), .string ⟨#[120]⟩]] w fun e w' => e = .returned (.string ⟨#[116, 47, 97, 37, 50, 102, 98, 47, 45, 51, 47, 120]⟩) ∧ Below w.heap.size w w') := fun w he => kP_print ▸ print_any kP w (ok_small _ (by decide) (by decide) (by decide) (by constructor <;> decide)) he
  have C3 : Hid (∀ w : World, Calls Tryd.prog 24 #[.agg #[.string ⟨#[116]⟩, .string ⟨#[97]⟩, .int .i64 0, .string ⟨#[]⟩]] w fun e w' => ∃ v, e = .returned v ∧ Aw w w' v bT) := fun w => kT_bytes ▸ bytes_any kT w (ok_small _ (by decide) (by decide) (by decide) (by constructor <;> decide))
  have C4 : Hid (∀ w : World, Calls Tryd.prog 11 #[.agg #[.string ⟨#[116]⟩, .string ⟨#[97]⟩, .int .i64 1, .string ⟨#[120]⟩]] w fun e w' => e = .returned (.bool true) ∧ Below w.heap.size w w') := fun w => kA_good ▸ good_any kA w (by decide) (by decide) (by decide)
  obtain ⟨wa, hwa⟩ : ∃ wa, wa = (w.alloc (.cells #[.string ⟨#[116]⟩, .string ⟨#[97]⟩, .int .i64 1, .string ⟨#[120]⟩] 23)).alloc (.cells #[.string ⟨#[116]⟩, .string ⟨#[97]⟩, .int .i64 2, .string ⟨#[98]⟩] 23) := ⟨_, rfl⟩
  have hB : Below w.heap.size w wa := by rw [hwa]; exact ((Below.refl _ _).alloc (Nat.le_refl _) _).alloc (by simp) _
  have a0 : wa.cell? ⟨w.heap.size, 0, none⟩ = some (.string ⟨#[116]⟩) := by rw [hwa]; exact (box_cells w _ _ _ 0 _ rfl).1
  have a1 : wa.cell? ⟨w.heap.size, 1, none⟩ = some (.string ⟨#[97]⟩) := by rw [hwa]; exact (box_cells w _ _ _ 1 _ rfl).1
  have a2 : wa.cell? ⟨w.heap.size, 2, none⟩ = some (.int .i64 1) := by rw [hwa]; exact (box_cells w _ _ _ 2 _ rfl).1
  have a3 : wa.cell? ⟨w.heap.size, 3, none⟩ = some (.string ⟨#[120]⟩) := by rw [hwa]; exact (box_cells w _ _ _ 3 _ rfl).1
  have hlt : w.heap.size < wa.heap.size := by rw [hwa, World.size_alloc, World.size_alloc]; omega
  have HC : Hid (∀ w' : World, Below wa.heap.size wa w' → (w'.cell? ⟨w.heap.size, 0, none⟩ = some (.string ⟨#[116]⟩) ∧ w'.cell? ⟨w.heap.size, 1, none⟩ = some (.string ⟨#[97]⟩) ∧ w'.cell? ⟨w.heap.size, 2, none⟩ = some (.int .i64 1) ∧ w'.cell? ⟨w.heap.size, 3, none⟩ = some (.string ⟨#[120]⟩))) := fun w' h =>
    ⟨by rw [h.cell hlt, a0], by rw [h.cell hlt, a1], by rw [h.cell hlt, a2], by rw [h.cell hlt, a3]⟩
  have HE : Hid (∀ w' : World, Below wa.heap.size wa w' → Below w.heap.size w w') := fun w' h => hB.trans (h.mono hB.size)
  have HV : Hid (∀ w' : World, Below wa.heap.size wa w' → Env w') := fun w' h => he.below (hB.trans (h.mono hB.size))
  clear a0 a1 a2 a3 hlt hB he
  go_enter Tryd.func10, Tryd.ntmps10
  go_wp2_with fail
  rw [← hwa]
  clear hwa
  refine (C1.out _).mono ?_
  rintro x w1 ⟨rfl, hb1⟩
  go_wp2_with fail
  refine (C2.out w1 (HV.out w1 hb1)).mono ?_
  rintro x w2 ⟨rfl, hb2⟩
  have hb2' : Below wa.heap.size wa w2 := hb1.trans (hb2.mono hb1.size)
  clear hb1 hb2
  go_wp2_with fail
  refine (C3.out w2).mono ?_
  rintro x w3 ⟨v3, rfl, A3⟩
  have hb3 : Below wa.heap.size wa w3 := hb2'.trans (A3.bel.mono hb2'.size)
  obtain ⟨ao, cap, rfl, hs3, hl3, hn3⟩ := owns_sees A3.own
  have hb3' := hb3.alloc hb3.size (.cells (B8 bT).toArray 5 (0, 0))
  have hs3' : Sees (w3.alloc (.cells (B8 bT).toArray 5 (0, 0))) ao bT := Sees.below hs3 ((Below.refl _ _).alloc (Nat.le_refl _) _) (Nat.le_refl _)
  have S3 : Hid (Calls Tryd.prog 23 #[.slice ao bT.length cap, .slice (some ⟨w3.heap.size, 0, none⟩) 16 16] (w3.alloc (.cells (B8 bT).toArray 5 (0, 0))) fun e w' => e = .returned (.bool (bT == bT)) ∧ w' = w3.alloc (.cells (B8 bT).toArray 5 (0, 0))) := same_any ao (some ⟨w3.heap.size, 0, none⟩) bT bT cap 16 _ hs3' (sees_lit w3 bT (0, 0)) (fun h => by have := (hn3 h).1; exact this) (fun h => by cases h)
  obtain ⟨c0, c1, c2, c3⟩ := HC.out _ hb3'
  clear hs3 hl3 hn3 hs3' A3
  have SB : (bT == bT) = true := by decide
  rw [SB] at S3
  go_wp2_with fail
  refine S3.out.mono ?_
  rintro x w4 ⟨rfl, rfl⟩
  go_wp2_with fail
  refine (C4.out _).mono ?_
  rintro x w5 ⟨rfl, hb5⟩
  go_wp2_with fail
  go_ret
  exact ⟨rfl, HE.out _ (hb3'.trans (hb5.mono hb3'.size))⟩
end Go.Proofs.YtniilnifhgdhcaaDoor
