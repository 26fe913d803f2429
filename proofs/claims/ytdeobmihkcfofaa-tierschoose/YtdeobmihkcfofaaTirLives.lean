/-
  CONTRACT: the document's examples of layer 12 (lives).
-/
import Derived.Test.YtdeobmihkcfofaaTirChoose
namespace Go.Proofs.Ytdeobmihkcfofaa
open Go.RowKit

def ex12 : List Int := [10, 100, 12, 9]
theorem ex_ord : ordr ex12 = [3, 0, 2, 1] := (ordN_only (s := ex12) (n := 4) (L := [3, 0, 2, 1]) (by decide +kernel) (by decide +kernel)).symm
theorem ex_bkts : bkts ex12 = [[0, 2, 3], [1]] := by
  unfold bkts
  rw [ex_ord]
  have h : grps (cs ex12) [3, 0, 2, 1] = [[3, 0, 2], [1]] := by decide +kernel
  rw [h]
  simp only [List.map_cons, List.map_nil]
  rw [← srtN_only (l := [3, 0, 2]) (m := [0, 2, 3]) (by decide +kernel) (by decide +kernel), ← srtN_only (l := [1]) (m := [1]) (by decide +kernel) (by decide +kernel)]
theorem ex_two : chs ex12 2 = [0, 2, 3] := by unfold chs; rw [ex_bkts]; decide +kernel
theorem ex_four : chs ex12 4 = [] := by unfold chs; rw [ex_bkts]; decide +kernel
theorem blk_isees {w : World} {g : Nat} {l : List Int} {t : TypeId} (h : Blk w g (vI l) t) : ISees w (some ⟨g, 0, none⟩) l := fun i x hx => ⟨g, 0, rfl, by rw [Nat.zero_add]; exact h.cell i (vI_at hx)⟩
set_option maxRecDepth 100000 in
set_option maxHeartbeats 1000000 in
theorem lives12_any (w : World) : Calls Try.prog 7 #[] w fun e w' => e = .returned (.bool true) ∧ Below w.heap.size w w' := by
  obtain ⟨w1, hw1⟩ : ∃ w1, w1 = w.alloc (.cells #[.int .i64 10, .int .i64 100, .int .i64 12, .int .i64 9] 3) := ⟨_, rfl⟩
  have HW : Hid (w.alloc (.cells #[.int .i64 10, .int .i64 100, .int .i64 12, .int .i64 9] 3) = w1) := hw1.symm
  have hs1 : ISees w1 (some ⟨w.heap.size, 0, none⟩) ex12 := by rw [hw1]; exact blk_isees (Blk.new w _ _)
  have hB1 : Below w.heap.size w w1 := by rw [hw1]; exact (Below.refl _ _).alloc (Nat.le_refl _) _
  have HS : Hid (∀ u, Below w1.heap.size w1 u → ISees u (some ⟨w.heap.size, 0, none⟩) ex12) := fun u hu => hs1.below hu (Nat.le_refl _)
  have HE : Hid (∀ u, Below w1.heap.size w1 u → Below w.heap.size w u) := fun u hu => hB1.trans (hu.mono hB1.size)
  have CB : Hid (Calls Try.prog 8 #[.slice (some ⟨w.heap.size, 0, none⟩) 4 4] w1 fun e w' => ∃ bo ao1 c1 ao2 c2 bcap, e = .returned (.slice bo 2 bcap) ∧ BSees w' bo [⟨ao1, [0, 2, 3], c1⟩, ⟨ao2, [1], c2⟩] ∧ Below w1.heap.size w1 w') := by
    refine (buckets_any (some ⟨w.heap.size, 0, none⟩) ex12 4 w1 hs1 (by decide)).mono ?_
    rintro e w' ⟨bo, vs, bcap, rfl, h1, h2, h3⟩
    rw [ex_bkts] at h2
    obtain ⟨⟨a1, l1, k1⟩, r1, rfl⟩ : ∃ v r, vs = v :: r := by cases vs with
      | nil => cases h2
      | cons v r => exact ⟨v, r, rfl⟩
    obtain ⟨⟨a2, l2, k2⟩, r2, rfl⟩ : ∃ v r, r1 = v :: r := by cases r1 with
      | nil => cases h2
      | cons v r => exact ⟨v, r, rfl⟩
    simp only [List.map_cons, List.cons.injEq, List.map_eq_nil_iff] at h2
    obtain ⟨rfl, rfl, rfl⟩ := h2
    exact ⟨bo, a1, k1, a2, k2, bcap, rfl, h1, h3⟩
  have C2 : Hid (∀ u, Below w1.heap.size w1 u → Calls Try.prog 11 #[.slice (some ⟨w.heap.size, 0, none⟩) 4 4, .int .i64 2] u fun e w' => ∃ mo mcap, e = .returned (.slice mo 3 mcap) ∧ ISees w' mo (zs [0, 2, 3]) ∧ Below u.heap.size u w') := fun u hu => by
    have := choose_any (some ⟨w.heap.size, 0, none⟩) ex12 4 2 u (HS.out u hu) (by decide)
    rw [ex_two] at this; exact this
  have C4 : Hid (∀ u, Below w1.heap.size w1 u → Calls Try.prog 11 #[.slice (some ⟨w.heap.size, 0, none⟩) 4 4, .int .i64 4] u fun e w' => ∃ mo mcap, e = .returned (.slice mo 0 mcap) ∧ Below u.heap.size u w') := fun u hu => by
    have := choose_any (some ⟨w.heap.size, 0, none⟩) ex12 4 4 u (HS.out u hu) (by decide)
    rw [ex_four] at this
    exact this.mono fun e w' ⟨mo, mcap, he, _, hb⟩ => ⟨mo, mcap, he, hb⟩
  have CI : Hid (∀ (u : World) (ao : Option Addr) (ca : Nat), ISees u ao (zs [0, 2, 3]) → Calls Try.prog 10 #[.slice ao 3 ca, .slice (some ⟨u.heap.size, 0, none⟩) 3 3] (u.alloc (.cells #[.int .i64 0, .int .i64 2, .int .i64 3] 3)) fun e w' => e = .returned (.bool true) ∧ Below u.heap.size u w') := fun u ao ca ha => by
    have hb : Below u.heap.size u (u.alloc (.cells #[.int .i64 0, .int .i64 2, .int .i64 3] 3)) := (Below.refl _ _).alloc (Nat.le_refl _) _
    have hk : Blk (u.alloc (.cells #[.int .i64 0, .int .i64 2, .int .i64 3] 3)) u.heap.size (vI (zs [0, 2, 3])) 3 := Blk.new u _ _
    exact (ints_same ao (some ⟨u.heap.size, 0, none⟩) (zs [0, 2, 3]) ca 3 _ (ha.below hb (Nat.le_refl _)) (blk_isees hk) (by decide)).mono fun e w' ⟨he, h⟩ => ⟨he, hb.trans (h.mono hb.size)⟩
  clear hs1 hB1 hw1 HS
  go_enter Try.func7, Try.ntmps7
  go_upto_region 2 with fail
  rw [HW.out]
  clear HW
  go_wp2_with (go_at_call 8; go_fit CB.out; rintro e w2 ⟨bo, ao1, c1, ao2, c2, bcap, rfl, hv, hB2⟩; obtain ⟨b, off, rfl, q0⟩ := hv.at' 0 _ rfl; rw [Nat.add_zero, Iv.s] at q0; simp only [List.length_cons, List.length_nil, Nat.zero_add, Nat.reduceAdd] at q0; have hI := hv.ins _ List.mem_cons_self; simp only at hI; have CI2 : Hid (Calls Try.prog 10 #[.slice ao1 3 c1, .slice (some ⟨w2.heap.size, 0, none⟩) 3 3] (w2.alloc (.cells #[.int .i64 0, .int .i64 2, .int .i64 3] 3)) fun e w' => e = .returned (.bool true) ∧ Below w2.heap.size w2 w') := CI.out w2 ao1 c1 hI; clear hv hI)
  go_fit CI2.out
  rintro e w3 ⟨rfl, hB3⟩
  have hB3' : Below w1.heap.size w1 w3 := hB2.trans (hB3.mono hB2.size)
  have D2 : Hid (Calls Try.prog 11 #[.slice (some ⟨w.heap.size, 0, none⟩) 4 4, .int .i64 2] w3 fun e w' => ∃ mo mcap, e = .returned (.slice mo 3 mcap) ∧ ISees w' mo (zs [0, 2, 3]) ∧ Below w3.heap.size w3 w') := C2.out w3 hB3'
  clear q0 CI2 C2 CB hB2 hB3
  go_wp2_with fail
  go_fit D2.out
  rintro e w4 ⟨mo, mcap, rfl, hI4, hB4⟩
  have hB4' : Below w1.heap.size w1 w4 := hB3'.trans (hB4.mono hB3'.size)
  have CI4 : Hid (Calls Try.prog 10 #[.slice mo 3 mcap, .slice (some ⟨w4.heap.size, 0, none⟩) 3 3] (w4.alloc (.cells #[.int .i64 0, .int .i64 2, .int .i64 3] 3)) fun e w' => e = .returned (.bool true) ∧ Below w4.heap.size w4 w') := CI.out w4 mo mcap hI4
  clear D2 hI4 hB4 hB3' CI
  go_wp2_with fail
  go_fit CI4.out
  rintro e w5 ⟨rfl, hB5⟩
  have hB5' : Below w1.heap.size w1 w5 := hB4'.trans (hB5.mono hB4'.size)
  have D4 : Hid (Calls Try.prog 11 #[.slice (some ⟨w.heap.size, 0, none⟩) 4 4, .int .i64 4] w5 fun e w' => ∃ mo mcap, e = .returned (.slice mo 0 mcap) ∧ Below w5.heap.size w5 w') := C4.out w5 hB5'
  clear CI4 C4 hB5 hB4'
  go_wp2_with fail
  go_fit D4.out
  rintro e w6 ⟨mo2, mcap2, rfl, hB6⟩
  have HF : Hid (Below w.heap.size w w6) := HE.out _ (hB5'.trans (hB6.mono hB5'.size))
  clear D4 HE hB6 hB5'
  go_wp2_with fail
  go_ret
  exact ⟨rfl, HF.out⟩
end Go.Proofs.Ytdeobmihkcfofaa
