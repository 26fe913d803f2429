/-
  THE LAW SkipNone: the walk.
-/
import Derived.Test.YtlhojbgpmjcjlaaSkGather
import Derived.Test.YtlhojbgpmjcjlaaSkLaw
import Derived.Test.YtlhojbgpmjcjlaaCxLaid
namespace Go.Proofs.Ytlhojbgpmjcjlaa.skipNone
open Go.RowKit

attribute [local irreducible] wpQuiet
theorem toHid {p : Prop} (h : p) : Hid p := h
set_option maxRecDepth 100000 in
set_option maxHeartbeats 8000000 in
theorem walk (c : Cx) (w : World) (_ : c.Fits) :
    Calls Try.prog 5 #[c.val] w fun e w' => e = .returned (.bool true) ∧ Below w.heap.size w w' := by
  have LV : Hid (∀ w : World, Calls Try.prog 8 #[] w fun x w' => x = .returned (.bool true) ∧ Below w.heap.size w w') := lives6_any
  obtain ⟨wb, hwb⟩ : ∃ wb, wb = (w.alloc (.cells c.a 40)).alloc (.cells #[.pointer none, .slice none 0 0, .int .i64 0] 63) := ⟨_, rfl⟩
  have hb : Below w.heap.size w wb := by rw [hwb]; exact ((Below.refl _ _).alloc (Nat.le_refl _) _).alloc (by simp) _
  have hx : TenX wb w.heap.size 0 c := by rw [hwb]; exact (TenX.new w c _).alloc _
  have hz : Blk wb (w.heap.size + 1) [.pointer none, .slice none 0 0, .int .i64 0] 63 := by
    have := Blk.new (w.alloc (.cells c.a 40)) [.pointer none, .slice none 0 0, .int .i64 0] 63
    rw [World.size_alloc] at this
    rw [hwb]; exact this
  have HE : Hid (∀ u, Below wb.heap.size wb u → Below w.heap.size w u) := fun u h => hb.trans (h.mono hb.size)
  have UN : Hid (∀ v, v = .pointer none ∨ v = .pointer (some ⟨w.heap.size + 1, 0, none⟩) → ∀ u, Below wb.heap.size wb u → Unmade u v) := fun v hv u h => by
    rcases hv with rfl | rfl
    · exact .inl rfl
    · exact .inr ⟨_, rfl, (hz.below h hz.lt).cell 0 rfl⟩
  have TX : Hid (∀ u, Below wb.heap.size wb u → TenX u w.heap.size 0 c) := fun u h => hx.below h hx.lt
  have hslt : w.heap.size < wb.heap.size := hx.lt
  clear hb hx hz
  have GT : Hid (∀ (v : Value) (u : World), Unmade u v → Calls Try.prog 12 #[v, c.k.v] u fun e w' => e = .returned (.tuple #[zeroV.v, .bool false]) ∧ Below u.heap.size u w') := fun v u h => get_none v c.k u h
  have PT : Hid (∀ (v : Value) (u : World), Unmade u v → Calls Try.prog 10 #[v, c.val] u fun e w' => e = .returned (.int .i64 1) ∧ Below u.heap.size u w') := fun v u h => put_none v c u h
  have LN : Hid (∀ (v : Value) (u : World), Unmade u v → Calls Try.prog 20 #[v] u fun e w' => e = .returned (.int .i64 0) ∧ Below u.heap.size u w') := fun v u h => (len_none v u h).mono fun e w' ⟨he, hw⟩ => ⟨he, by rw [hw]; exact Below.refl _ _⟩
  have AL : Hid (∀ (v : Value) (u : World), Unmade u v → Calls Try.prog 17 #[v] u fun e w' => e = .returned (.slice none 0 0) ∧ Below u.heap.size u w') := fun v u h => all_none v u h
  have HG : Hid (∀ (v : Value) (u : World), Unmade u v → Calls Try.prog 19 #[v] u fun e w' => e = .returned (.slice none 0 0) ∧ Below u.heap.size u w') := fun v u h => heights_none v u h
  have GA : Hid (∀ (v : Value) (u : World), Unmade u v → Calls Try.prog 16 #[v, Kb.v ⟨⟨#[]⟩, ⟨#[]⟩, 0, ⟨#[]⟩⟩, c.k.v, .int .i64 (-1)] u fun e w' => e = .returned (.slice none 0 0) ∧ Below u.heap.size u w') := fun v u h => gather_none v _ _ _ u h
  obtain ⟨⟨ct, cp, cr, cc⟩, ⟨cti, cd, cl, ck, cn, cstr⟩⟩ := c
  simp only [Cx.val, Cx.a, Kb.v, zeroV, Vr.v] at hwb GT PT GA ⊢
  go_enter Try.func5, Try.ntmps5
  go_wp2_with fail
  rw [← hwb]
  clear hwb
  go_loopw [9] (fun s9 wr => ∃ i : Nat, i ≤ 2 ∧ s9 = .int .i64 i ∧ Below wb.heap.size wb wr) (fun s9 _ => 2 - (intOf s9).toNat)
  case atStart => exact ⟨0, by omega, rfl, Below.refl _ _⟩
  case round =>
    obtain ⟨i, hi, rfl, hbr⟩ := hrel
    rcases Nat.lt_or_ge i 2 with hlt | hge
    · obtain ⟨v, hv, hix⟩ : ∃ v, (v = .pointer none ∨ v = .pointer (some ⟨w.heap.size + 1, 0, none⟩)) ∧ ∀ u : World, (Instr.index 64 (.agg #[.pointer none, .pointer (some ⟨w.heap.size + 1, 0, none⟩)]) (.int .i64 (i : Nat))).run Try.prog u = .ok v u := by
        match i, hlt with
        | 0, _ => exact ⟨_, .inl rfl, fun u => by kernel_rfl⟩
        | 1, _ => exact ⟨_, .inr rfl, fun u => by kernel_rfl⟩
      have UV := toHid (UN.out v hv)
      have hltz : (i : Int) < 2 := by omega
      obtain ⟨k0, k1, k2, k3, k4, k5, k6, k7, k8, k9⟩ := TX.out wr hbr
      simp only [Nat.zero_add] at k0 k1 k2 k3 k4 k5 k6 k7 k8 k9
      have G1 := toHid (GT.out v wr (UV.out wr hbr))
      clear GT
      go_wp2_with fail
      refine G1.out.mono ?_
      rintro e w1 ⟨rfl, hb1⟩
      have hbr1 := hbr.trans (hb1.mono hbr.size)
      go_wp2_with fail
      obtain ⟨w2, hw2⟩ : ∃ w2, w2 = w1.alloc (.cells #[.int .i64 0, .bool false, .int .i64 0, .int .i64 0, .int .i64 0, .string ⟨#[]⟩] 38) := ⟨_, rfl⟩
      have hb2 : Below wb.heap.size wb w2 := by rw [hw2]; exact hbr1.alloc hbr1.size _
      rw [← hw2]
      clear hw2 hb1 hbr1 k0 k1 k2 k3 k4 k5 k6 k7 k8 k9 G1 hix hv
      have HZ : ∀ z : Cl w2.heap.size w2, Below wb.heap.size wb z.u := fun z => hb2.trans (z.h.mono hb2.size)
      have tz := fun z : Cl w2.heap.size w2 => TX.out z.u (HZ z)
      have q0 := fun z => (tz z).c0
      have q1 := fun z => (tz z).c1
      have q2 := fun z => (tz z).c2
      have q3 := fun z => (tz z).c3
      have q4 := fun z => (tz z).c4
      have q5 := fun z => (tz z).c5
      have q6 := fun z => (tz z).c6
      have q7 := fun z => (tz z).c7
      have q8 := fun z => (tz z).c8
      have q9 := fun z => (tz z).c9
      simp only [Nat.zero_add] at q0 q1 q2 q3 q4 q5 q6 q7 q8 q9
      have PTz := toHid fun z : Cl w2.heap.size w2 => PT.out v z.u (UV.out _ (HZ z))
      have LNz := toHid fun z : Cl w2.heap.size w2 => LN.out v z.u (UV.out _ (HZ z))
      have ALz := toHid fun z : Cl w2.heap.size w2 => AL.out v z.u (UV.out _ (HZ z))
      have HGz := toHid fun z : Cl w2.heap.size w2 => HG.out v z.u (UV.out _ (HZ z))
      have GAz := toHid fun z : Cl w2.heap.size w2 => GA.out v z.u (UV.out _ (HZ z))
      have HZh := toHid HZ
      clear tz HZ hb2 hbr
      haveI := Cl.inh w2.heap.size w2
      refine wp_region_cl w2.heap.size (by kernel_rfl) (by kernel_rfl) ?_
      quiet_step (fail)
      quiet_step (fail)
      quiet_step ((go_at_call 10; exact Cl.calls (Nat.le_refl _) (PTz.out _)))
      quiet_step (fail)
      quiet_step (fail)
      quiet_step (fail)
      quiet_step (fail)
      quiet_step (fail)
      quiet_step (fail)
      quiet_step ((go_at_call 20; exact Cl.calls (Nat.le_refl _) (LNz.out _)))
      quiet_step (fail)
      quiet_step (fail)
      quiet_step (fail)
      quiet_step (fail)
      quiet_step ((go_at_call 17; exact Cl.calls (Nat.le_refl _) (ALz.out _)))
      quiet_step (fail)
      quiet_step (fail)
      quiet_step ((go_at_call 19; exact Cl.calls (Nat.le_refl _) (HGz.out _)))
      quiet_step (fail)
      quiet_step (fail)
      quiet_step (fail)
      quiet_step (fail)
      quiet_step (fail)
      quiet_step (fail)
      quiet_step ((go_at_call 16; exact Cl.calls (Nat.le_refl _) (GAz.out _)))
      quiet_step (fail)
      quiet_step (fail)
      quiet_step (fail)
      quiet_step (fail)
      refine wpQuiet_nil ?_
      rintro w3 ⟨z, rfl⟩
      have hz3 := HZh.out z
      clear q0 q1 q2 q3 q4 q5 q6 q7 q8 q9
      go_wp2_with fail
      go_roundw
      case rel => exact ⟨i + 1, by omega, by go_num, hz3⟩
      case measure => (simp [intOf]; try omega)
    · obtain rfl : i = 2 := by omega
      go_wp2_with fail
      refine (LV.out _).mono ?_
      rintro e w1 ⟨rfl, hb1⟩
      have hE := HE.out _ (hbr.trans (hb1.mono hbr.size))
      go_wp2_with fail
      go_ret
      exact ⟨rfl, hE⟩
end Go.Proofs.Ytlhojbgpmjcjlaa.skipNone
