/-
  CONTRACTS: a table's four checks.
-/
import Derived.Test.YtgjajffpkjcenaaDoorSchEvery
namespace Go.Proofs.YtgjajffpkjcenaaDoor
open Go.RowKit Go.Maps Go.WideMaps

attribute [local go_sem] Oper.pureAt Oper.pureUpon

/-- A table's box, the box of its names. -/
structure TBox (w : World) (X Y : Nat) (T : Tb) (ao : Option Addr) (cap : Nat) (no : Option Addr) (nc : Nat) : Prop where
  tab : Blk w X [.string T.t, .string T.p, .string T.r, .slice ao T.cs.length cap] 26
  nam : w.cell? ⟨Y, 0, none⟩ = some (.slice no (T.cs.length + 2) nc)
  cs : CSee w ao T.cs
  ns : NSee w no (T.p :: T.r :: nmC T)
theorem TBox.below {w w' : World} {X Y : Nat} {T : Tb} {ao : Option Addr} {cap : Nat} {no : Option Addr} {nc : Nat} (h : TBox w X Y T ao cap no nc) (hb : Below w.heap.size w w') : TBox w' X Y T ao cap no nc :=
  ⟨h.tab.carry (hb.block _ h.tab.lt), by rw [hb.cell (p := ⟨Y, 0, none⟩) (World.block_lt_of_cell? _ _ h.nam)]; exact h.nam, h.cs.below hb, h.ns.below hb⟩
def namesOk (T : Tb) : Bool := nm17 T.t && (T.p :: T.r :: nmC T).all nm17
theorem nmC_len (T : Tb) : (T.p :: T.r :: nmC T).length = T.cs.length + 2 := by simp [nmC]
theorem nmC_size {T : Tb} (hT : T.Ok) : ∀ s ∈ T.p :: T.r :: nmC T, s.size ≤ maxLen := by
  intro s hs
  rcases List.mem_cons.1 hs with rfl | hs
  · exact hT.p
  rcases List.mem_cons.1 hs with rfl | hs
  · exact hT.r
  obtain ⟨c, hc, rfl⟩ := List.mem_map.1 hs
  exact hT.c c hc
section
variable {w : World} {X Y : Nat} {T : Tb} {ao : Option Addr} {cap : Nat} {no : Option Addr} {nc : Nat} (h : TBox w X Y T ao cap no nc) (hT : T.Ok)
include h hT
set_option maxRecDepth 100000 in
theorem table1_any (hS : SpT w) : Calls Tryd.prog 31 #[.pointer (some ⟨X, 0, none⟩), .pointer (some ⟨Y, 0, none⟩)] w fun e w' => e = .returned (.bool (namesOk T)) ∧ Below w.heap.size w w' := by
  have hlen := nmC_len T
  have hsz := nmC_size hT
  have N := name17_any T.t w hT.t hS
  have E : Hid (∀ w1, Below w.heap.size w w1 → w1.cell? ⟨Y, 0, none⟩ = some (.slice no (T.cs.length + 2) nc) ∧ Calls Tryd.prog 28 #[.slice no (T.cs.length + 2) nc, .func (.func 9) #[] #[]] w1 fun e w' => e = .returned (.bool ((T.p :: T.r :: nmC T).all nm17)) ∧ Below w1.heap.size w1 w') := fun w1 hb => by
    have h1 := h.below hb
    have := everyName_any no (T.p :: T.r :: nmC T) nc w1 h1.ns (by rw [hlen]; have := hT.l; omega) hsz (hS.below hb hS.lt)
    rw [hlen] at this
    exact ⟨h1.nam, this⟩
  have k0 := h.tab.cell 0 rfl
  unfold namesOk
  generalize (T.p :: T.r :: nmC T).all nm17 = b2 at *
  generalize nm17 T.t = b1 at *
  generalize T.t = tt at *
  generalize T.cs.length + 2 = n2 at *
  clear h hT hS hlen hsz
  cases b1
  · go_enter Tryd.func31, Tryd.ntmps31
    go_wp2_with (go_at_call 9; refine N.mono ?_; rintro e w1 ⟨rfl, hb1⟩)
    go_ret
    exact ⟨rfl, hb1⟩
  · go_enter Tryd.func31, Tryd.ntmps31
    go_wp2_with fail
    refine N.mono ?_
    rintro e w1 ⟨rfl, hb1⟩
    obtain ⟨k1, E1⟩ := E.out w1 hb1
    go_wp2_with fail
    refine E1.mono ?_
    rintro e w2 ⟨rfl, hb2⟩
    have hb3 := hb1.trans (hb2.mono hb1.size)
    go_wp2_with fail
    go_ret
    exact ⟨by simp, hb3⟩
set_option maxRecDepth 100000 in
theorem table2_any : Calls Tryd.prog 32 #[.pointer (some ⟨X, 0, none⟩)] w fun e w' => e = .returned (.bool (decide (0 < T.cs.length) && decide (T.cs.length ≤ 6))) ∧ w' = w := by
  have k3 := h.tab.cell 3 rfl
  have hlz := hT.l
  generalize T.cs.length = n at *
  clear h hT
  by_cases h0 : 0 < n
  · have h0z : (0 : Int) < (n : Int) := by omega
    rw [decide_eq_true h0]
    by_cases h6 : n ≤ 6
    · have h6z : (n : Int) ≤ 6 := by omega
      rw [decide_eq_true h6]
      go_enter Tryd.func32, Tryd.ntmps32
      go_wp2_with fail
      go_ret
      exact ⟨by simp, rfl⟩
    · have h6z : ¬ (n : Int) ≤ 6 := by omega
      rw [decide_eq_false h6]
      go_enter Tryd.func32, Tryd.ntmps32
      go_wp2_with fail
      go_ret
      exact ⟨by simp, rfl⟩
  · obtain rfl : n = 0 := by omega
    go_enter Tryd.func32, Tryd.ntmps32
    go_wp2_with fail
    go_ret
    exact ⟨by simp, rfl⟩
set_option maxRecDepth 100000 in
theorem table3_any : Calls Tryd.prog 33 #[.pointer (some ⟨X, 0, none⟩)] w fun e w' => e = .returned (.bool (T.cs.all kindB)) ∧ Below w.heap.size w w' := by
  have k3 := h.tab.cell 3 rfl
  have E := everyKind_any ao T.cs cap w h.cs (by have := hT.l; omega)
  generalize T.cs.all kindB = b at *
  generalize T.cs.length = n at *
  clear h hT
  go_enter Tryd.func33, Tryd.ntmps33
  go_wp2_with (go_at_call 34; refine E.mono ?_; rintro e w1 ⟨rfl, hb1⟩)
  go_ret
  exact ⟨rfl, hb1⟩
def uniqB (T : Tb) : Bool := decide (((T.p :: T.r :: nmC T).map nb).Nodup)
set_option maxRecDepth 100000 in
set_option maxHeartbeats 1000000 in
theorem table4_any (h6 : T.cs.length ≤ 6) : Calls Tryd.prog 36 #[.pointer (some ⟨Y, 0, none⟩)] w fun e w' => e = .returned (.bool (uniqB T)) ∧ Below w.heap.size w w' := by
  have hlen := nmC_len T
  have hsz := nmC_size hT
  have kn := h.nam
  have F : Hid (∀ w1, Below w.heap.size w w1 → Calls Tryd.prog 27 #[.slice no (T.cs.length + 2) nc] w1 fun e w' => ∃ D, e = .returned (.map (some w1.heap.size)) ∧ (∀ ty, (Builtin.len_ #[55] ty #[.map (some w1.heap.size)]).run Tryd.prog w' = .ok (.int .i64 (Maps.size D)) w') ∧ ((Maps.size D : Int) = (T.cs.length : Int) + 2 ↔ uniqB T = true) ∧ Below w.heap.size w w') := fun w1 hb => by
    have h1 := h.below hb
    have := firstPlaces_any no (T.p :: T.r :: nmC T) nc w1 h1.ns (by rw [hlen]; omega) hsz
    rw [hlen] at this
    refine this.mono ?_
    rintro e w' ⟨D, rfl, hM, hF, hb2⟩
    refine ⟨D, rfl, fun ty => World.ownsMap.len hM Tryd.underlying55 ty, ?_, hb.trans (hb2.mono hb.size)⟩
    have := hF.size.2
    rw [List.length_map, hlen] at this
    unfold uniqB
    rw [decide_eq_true_eq, ← this]
    omega
  have hnz : (T.cs.length : Int) ≤ 6 := by omega
  have hct : ((T.cs.length + 2 : Nat) : Int) = (T.cs.length : Int) + 2 := by omega
  have kc : ∀ q : Cl w.heap.size w, q.u.cell? ⟨Y, 0, none⟩ = some (.slice no (T.cs.length + 2) nc) := fun q => q.cell (World.block_lt_of_cell? _ _ kn) kn
  generalize uniqB T = b at *
  generalize T.cs.length = n at *
  clear h hT hlen hsz h6 kn
  go_enter Tryd.func36, Tryd.ntmps36
  go_wp2_with fail
  refine wp_region_sched (fun w' => ∃ p : Cl w.heap.size w, w' = p.u) [(0, true), (3, true), (4, true), (1, false), (2, false), (5, true), (6, true)] rfl (by kernel_rfl) (by kernel_rfl) (by kernel_rfl) ⟨⟨_, (Below.refl _ w).drew⟩, rfl⟩ ?_
  iterate 3 (refine sched_pure rfl (fun K hK => ?_); go_simp; first | refine hK _ ?_ | refine ⟨_, fun _ => rfl, hK _ ?_⟩; clear hK K)
  refine sched_loud rfl (fun K hK => ?_)
  go_simp
  refine (F.out _ (Below.refl _ w).drew).mono ?_
  rintro e u1 ⟨D, rfl, hlm0, hiff, hb1⟩
  have hlm : ∀ ty, (Builtin.len_ #[55] ty #[.map (some w.heap.size)]).run Tryd.prog u1 = .ok (.int .i64 (Maps.size D)) u1 := hlm0
  clear hlm0
  refine hK _ _ ⟨⟨u1, hb1⟩, rfl⟩ ?_
  clear hK K
  refine sched_loud rfl (fun K hK => ?_)
  go_simp
  refine hK _ _ ⟨⟨u1, hb1⟩, rfl⟩ ?_
  clear hK K
  iterate 2 (refine sched_pure rfl (fun K hK => ?_); go_simp; first | refine hK _ ?_ | refine ⟨_, fun _ => rfl, hK _ ?_⟩; clear hK K)
  refine sched_nil ?_
  go_wp2_with fail
  go_ret
  refine ⟨ret_bool ?_, hb1⟩
  rw [Bool.eq_iff_iff, ← hiff]
  simp
end
end Go.Proofs.YtgjajffpkjcenaaDoor
