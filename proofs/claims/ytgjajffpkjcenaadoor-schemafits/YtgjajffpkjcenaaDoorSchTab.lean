/-
  CONTRACT: may a table be? (Table, by the program).
-/
import Derived.Test.YtgjajffpkjcenaaDoorSchTabC
import Derived.Laws.EntriesVeiled
namespace Go.Proofs.YtgjajffpkjcenaaDoor
open Go.RowKit

attribute [local go_sem] Oper.pureAt Oper.pureUpon

theorem anyC_loud3S {P : Program} {ops : Array Oper} {md : Region.Mode} {C : World → Prop} {Q : Act → World → Prop} {z fuel : Nat} {listed : Array Bool} {a : Act} {w : World} (i k l : Nat) (hr : Region.ready md ops listed = [i, k, l]) (h : louOp P ops i (fun a' w' => (i ≠ z → C w') ∧ wpAnyC P md ops C z Q fuel (listed.setIfInBounds i true) a' w') a w) (h2 : louOp P ops k (fun a' w' => (k ≠ z → C w') ∧ wpAnyC P md ops C z Q fuel (listed.setIfInBounds k true) a' w') a w) (h3 : louOp P ops l (fun a' w' => (l ≠ z → C w') ∧ wpAnyC P md ops C z Q fuel (listed.setIfInBounds l true) a' w') a w) : wpAnyC P md ops C z Q (fuel + 1) listed a w := by
  refine ⟨(fun h0 => by rw [hr] at h0; cases h0), fun j hj => ?_⟩
  rw [hr] at hj
  rcases List.mem_cons.1 hj with rfl | hj
  · exact h
  · rcases List.mem_cons.1 hj with rfl | hj
    · exact h2
    · obtain rfl : j = l := by simpa using hj
      exact h3
/-- What of the region is done: the row of two, the columns' names, the box. -/
structure TR (w0 u : World) (p r : ByteArray) (N : List ByteArray) (X : Option Nat) (v : Option Value) (Y : Option Nat) : Prop where
  bel : Below w0.heap.size w0 u
  row : ∀ x, X = some x → Blk u x [.string p, .string r] 9 ∧ w0.heap.size ≤ x
  nms : ∀ y, v = some y → u.ownsRow w0.heap.size 9 1 y N.length (sV N)
  box : ∀ y, Y = some y → Blk u y [.slice none 0 0] 27 ∧ w0.heap.size ≤ y
  ne : ∀ x y, X = some x → Y = some y → x ≠ y
section
variable {w0 u u' : World} {p r : ByteArray} {N : List ByteArray} {X : Option Nat} {v : Option Value} {Y : Option Nat}
theorem owns_base {w : World} {b b' : Nat} {e : TypeId} {s n : Nat} {v : Value} {xs : List Value} (h : w.ownsRow b e s v n xs) (hb : b' ≤ b) : w.ownsRow b' e s v n xs := by
  refine ⟨h.1, ?_⟩
  rcases h.2 with hn | ⟨g, cap, cur, rfl, hg, rest⟩
  · exact .inl hn
  · exact .inr ⟨g, cap, cur, rfl, Nat.le_trans hb hg, rest⟩
theorem TR.start (w0 : World) (p r : ByteArray) (N : List ByteArray) : TR w0 w0.drew p r N none none none := ⟨(Below.refl _ w0).drew, fun x e => (by cases e), fun x e => (by cases e), fun x e => (by cases e), fun x y e => (by cases e)⟩
theorem TR.push (h : TR w0 u p r N none v Y) : TR w0 (u.alloc (.cells #[.string p, .string r] 9)) p r N (some u.heap.size) v Y :=
  ⟨h.bel.alloc h.bel.size _, fun x e => by cases e; exact ⟨Blk.new u [.string p, .string r] _, h.bel.size⟩, fun y e => owns_keep (h.nms y e) ((Below.refl _ _).alloc (Nat.le_refl _) _) (Nat.le_refl _), fun y e => ⟨(h.box y e).1.alloc _, (h.box y e).2⟩,
    fun x y e e' => by cases e; have := (h.box y e').1.lt; omega⟩
theorem TR.names (h : TR w0 u p r N X none Y) (hb : Below u.heap.size u u') {y : Value} (ho : u'.ownsRow u.heap.size 9 1 y N.length (sV N)) : TR w0 u' p r N X (some y) Y :=
  ⟨h.bel.trans (hb.mono h.bel.size), fun x e => ⟨(h.row x e).1.carry (hb.block _ (h.row x e).1.lt), (h.row x e).2⟩, fun z e => by cases e; exact owns_base ho h.bel.size, fun z e => ⟨(h.box z e).1.carry (hb.block _ (h.box z e).1.lt), (h.box z e).2⟩, h.ne⟩
theorem TR.pushY (h : TR w0 u p r N X v none) : TR w0 (u.alloc (.cells #[.slice none 0 0] 27)) p r N X v (some u.heap.size) :=
  ⟨h.bel.alloc h.bel.size _, fun x e => ⟨(h.row x e).1.alloc _, (h.row x e).2⟩, fun y e => owns_keep (h.nms y e) ((Below.refl _ _).alloc (Nat.le_refl _) _) (Nat.le_refl _), fun y e => by cases e; exact ⟨Blk.new u [.slice none 0 0] _, h.bel.size⟩,
    fun x y e e' => by cases e'; have := (h.row x e).1.lt; omega⟩
/-- Behind the append. -/
structure TS17 (w0 u : World) (p r : ByteArray) (N : List ByteArray) (v : Value) (Y : Option Nat) : Prop where
  bel : Below w0.heap.size w0 u
  own : u.ownsRow w0.heap.size 9 1 v (2 + N.length) (sV (p :: r :: N))
  box : ∀ y, Y = some y → Blk u y [.slice none 0 0] 27 ∧ w0.heap.size ≤ y ∧ v.ownBlock ≠ some y
theorem src_owns {w : World} {b n : Nat} {v : Value} {L : List ByteArray} (h : w.ownsRow b 9 1 v n (sV L)) (hn : n = L.length) : Src Tryd.prog 1 27 v n (sV L) w := by
  subst hn
  have h0 := h
  rcases h.2 with ⟨rfl, hz⟩ | ⟨g, cap, cur, rfl, hg, hh, hle, hm, hs, ht⟩
  · obtain rfl : L = [] := List.eq_nil_of_length_eq_zero hz
    exact Src.ofNil w Tryd.underlying27 0
  · exact Src.ofSlice w Tryd.underlying27 _ _ cap _ (by simp [sV]) (fun j x hx => h0.cells (g := g) rfl _ _ hx) (fun x hx => by unfold sV at hx; obtain ⟨s, _, rfl⟩ := List.mem_map.1 hx; rfl)
theorem TR.app {x : Nat} {y : Value} (h : TR w0 u p r N (some x) (some y) Y) (hN : N.length * 24 ≤ 140737488351232) : ∃ v' u', (Builtin.append_ #[27, 27] 27 #[.slice (some ⟨x, 0, none⟩) 2 2, y]).run Tryd.prog u = .ok v' u' ∧ TS17 w0 u' p r N v' Y := by
  obtain ⟨i0, hinf, hq0, hq1, hq2⟩ := info_of17 infoStr17
  have hrow := h.row x rfl
  have ho : u.ownsRow w0.heap.size 9 1 (.slice (some ⟨x, 0, none⟩) 2 2) 2 (sV [p, r]) := ⟨rfl, .inr ⟨x, 2, _, rfl, hrow.2, hrow.1, Nat.le_refl _, by decide, rfl, rfl⟩⟩
  have hy := h.nms y rfl
  obtain ⟨v', u', hr, ho', hg⟩ := run_append_grew (P := Tryd.prog) u w0.heap.size 27 27 27 9 i0 _ 1 16 Tryd.underlying27 hinf hq0 hq1 hq2 rfl _ 2 _ ho _ N.length _ (src_owns hy rfl) (by unfold maxLen; omega) (by omega) h.bel.size
  refine ⟨v', u', hr, h.bel.trans (hg.below h.bel.size (fun g hg' => (ho.lt g hg').1)), by rw [show sV (p :: r :: N) = sV [p, r] ++ sV N from rfl]; exact ho', fun z e => ?_⟩
  have hz := h.box z e
  have hne := h.ne x z rfl e
  refine ⟨hz.1.carry (hg.rows.block z hz.1.lt (fun e2 => hne (by simpa [Value.ownBlock] using e2.symm))), hz.2, fun e2 => ?_⟩
  rcases hg.own z e2 with h1 | h1
  · exact hne (by simpa [Value.ownBlock] using h1)
  · have := hz.1.lt; omega
theorem TS17.pushY {v : Value} (h : TS17 w0 u p r N v none) : TS17 w0 (u.alloc (.cells #[.slice none 0 0] 27)) p r N v (some u.heap.size) :=
  ⟨h.bel.alloc h.bel.size _, owns_keep h.own ((Below.refl _ _).alloc (Nat.le_refl _) _) (Nat.le_refl _), fun y e => by cases e; exact ⟨Blk.new u [.slice none 0 0] _, h.bel.size, fun e2 => by have := (h.own.lt _ e2).2; omega⟩⟩
/-- What the region leaves. -/
theorem TS17.done {v : Value} {y : Nat} (h : TS17 w0 u p r N v (some y)) : ∃ no nc, v = .slice no (2 + N.length) nc ∧ (u.setCell ⟨y, 0, none⟩ v).cell? ⟨y, 0, none⟩ = some (.slice no (2 + N.length) nc) ∧ NSee (u.setCell ⟨y, 0, none⟩ v) no (p :: r :: N) ∧ Below w0.heap.size w0 (u.setCell ⟨y, 0, none⟩ v) := by
  obtain ⟨hb, hge, hne⟩ := h.box y rfl
  rcases h.own.2 with ⟨-, hz⟩ | ⟨g, cap, cur, rfl, hg, hh, hle, hm, hs, ht⟩
  · omega
  · have hyg : g ≠ y := fun e => hne (by simp [Value.ownBlock, e])
    refine ⟨_, cap, rfl, by rw [World.cell?_setCell_same _ _ _ (hb.cell 0 rfl)], fun i s hi => ⟨g, 0, rfl, ?_⟩, h.bel.setCell (p := ⟨y, 0, none⟩) hge _⟩
    rw [World.cell?_setCell_other _ _ _ _ (fun e => by have e2 := congrArg Addr.block e; first | exact hyg e2 | exact hyg e2.symm)]
    have hc := h.own.cells (g := g) rfl i (.string s) (by unfold sV; rw [List.getElem?_map, hi]; rfl)
    have e : (({ block := g, off := 0 } : Addr).add i) = ⟨g, 0 + i, none⟩ := by unfold Addr.add; simp; omega
    rwa [e] at hc
end
/-- What Table tells. -/
def tabE (T : Tb) : Int := if namesOk T = false then 3 else if (decide (0 < T.cs.length) && decide (T.cs.length ≤ 6)) = false then 2 else if T.cs.all kindB = false then 2 else if uniqB T = false then 5 else 0
set_option maxRecDepth 100000 in
set_option maxHeartbeats 4000000 in
theorem table_any (T : Tb) (ao : Option Addr) (cap : Nat) (w : World) (hC : CSee w ao T.cs) (hT : T.Ok) (hS : SpT w) :
    Calls Tryd.prog 15 #[T.v ao cap] w fun e w' => e = .returned (.int .i64 (tabE T)) ∧ Below w.heap.size w w' := by
  have HT : Hid T.Ok := hT
  have HE : Hid (tabE T = tabE T) := rfl
  have hnz : (T.cs.length : Int) ≤ 5864062014634 := by have := hT.l; omega
  obtain ⟨w0, hw0⟩ : ∃ w0, w0 = w.alloc (.cells #[.string T.t, .string T.p, .string T.r, .slice ao T.cs.length cap] 26) := ⟨_, rfl⟩
  have hB : Below w.heap.size w w0 := by rw [hw0]; exact (Below.refl _ _).alloc (Nat.le_refl _) _
  have hsz : w0.heap.size = w.heap.size + 1 := by rw [hw0, World.size_alloc]
  have hX : Blk w0 w.heap.size [.string T.t, .string T.p, .string T.r, .slice ao T.cs.length cap] 26 := by rw [hw0]; exact Blk.new w [.string T.t, .string T.p, .string T.r, .slice ao T.cs.length cap] _
  have HN : Hid (∀ u, Below w0.heap.size w0 u → Calls Tryd.prog 26 #[.agg #[.string T.t, .string T.p, .string T.r, .slice ao T.cs.length cap]] u fun e w' => ∃ v, e = .returned v ∧ w'.ownsRow u.heap.size 9 1 v (nmC T).length (sV (nmC T)) ∧ Below u.heap.size u w') := fun u hu => by
    have := columnNames_any T ao cap u (hC.below (hB.trans (hu.mono hB.size))) hT.l
    rw [show (nmC T).length = T.cs.length by simp [nmC]]
    exact this
  have HNl : Hid ((nmC T).length * 24 ≤ 140737488351232) := by show (nmC T).length * 24 ≤ _; rw [show (nmC T).length = T.cs.length by simp [nmC]]; exact hT.l
  have HBX : Hid (∀ u Y no nc, Below w0.heap.size w0 u → u.cell? ⟨Y, 0, none⟩ = some (.slice no (2 + (nmC T).length) nc) → NSee u no (T.p :: T.r :: nmC T) → TBox u w.heap.size Y T ao cap no nc ∧ SpT u ∧ Below w.heap.size w u) := fun u Y no nc hu hc hns =>
    ⟨⟨hX.carry (hu.block _ (by omega)), by rw [hc, show (nmC T).length = T.cs.length by simp [nmC], Nat.add_comm], hC.below (hB.trans (hu.mono hB.size)), hns⟩, hS.below (hB.trans (hu.mono hB.size)) hS.lt, hB.trans (hu.mono hB.size)⟩
  have HQ : Hid (∀ q : Cl w0.heap.size w0, q.u.cell? ⟨w.heap.size, 0, none⟩ = some (.string T.t) ∧ q.u.cell? ⟨w.heap.size, 1, none⟩ = some (.string T.p) ∧ q.u.cell? ⟨w.heap.size, 2, none⟩ = some (.string T.r) ∧ q.u.cell? ⟨w.heap.size, 3, none⟩ = some (.slice ao T.cs.length cap)) := fun q =>
    ⟨q.cell (show w.heap.size < w0.heap.size by omega) (hX.cell 0 rfl), q.cell (show w.heap.size < w0.heap.size by omega) (hX.cell 1 rfl), q.cell (show w.heap.size < w0.heap.size by omega) (hX.cell 2 rfl), q.cell (show w.heap.size < w0.heap.size by omega) (hX.cell 3 rfl)⟩
  have k0 := fun q => (HQ.out q).1
  have k1 := fun q => (HQ.out q).2.1
  have k2 := fun q => (HQ.out q).2.2.1
  have k3 := fun q => (HQ.out q).2.2.2
  clear hC hT hS hB hsz hX HQ
  simp only [Tb.v, Tb.a]
  go_enter Tryd.func15, Tryd.ntmps15
  go_wp2_with fail
  rw [← hw0]
  clear hw0
  have hS0 := TR.start w0 T.p T.r (nmC T)
  refine wp_region_C (fun w' => ∃ p : Cl w0.heap.size w0, w' = p.u) 10 (fun a' u => ∃ X v Y no nc, a' = ({ tmps := #[.agg #[.string T.t, .string T.p, .string T.r, .slice ao T.cs.length cap], .pointer (some ⟨w.heap.size, 0, none⟩), .int .i64 0, .pointer (some ⟨Y, 0, none⟩), undef, undef, undef, .pointer (some ⟨w.heap.size, 1, none⟩), .string T.p, .pointer (some ⟨w.heap.size, 2, none⟩), .string T.r, .slice (some ⟨X, 0, none⟩) 2 2, .agg #[.string T.t, .string T.p, .string T.r, .slice ao T.cs.length cap], v, .slice no (2 + (nmC T).length) nc, undef, undef, undef, undef, undef, undef, undef, undef, undef, undef, undef, undef, undef, undef, undef, undef, undef, undef, undef, undef, undef, undef], defers := [] } : Act) ∧ u.cell? ⟨Y, 0, none⟩ = some (.slice no (2 + (nmC T).length) nc) ∧ NSee u no (T.p :: T.r :: nmC T) ∧ Below w0.heap.size w0 u) (by kernel_rfl) ?_ ?_
  · skip
    obtain ⟨u0, hu0⟩ : ∃ u0, u0 = w0.drew := ⟨_, rfl⟩
    rw [← hu0] at hS0 ⊢
    clear hu0
    refine anyC_pure 0 rfl (by kernel_rfl) (by kernel_rfl) (by kernel_rfl) ⟨⟨u0, hS0.bel⟩, rfl⟩ (fun K hK => ?_)
    go_simp
    first | refine hK _ ?_ | refine ⟨_, fun _ => rfl, hK _ ?_⟩
    clear hK K
    refine anyC_pure 1 rfl (by kernel_rfl) (by kernel_rfl) (by kernel_rfl) ⟨⟨u0, hS0.bel⟩, rfl⟩ (fun K hK => ?_)
    go_simp
    first | refine hK _ ?_ | refine ⟨_, fun _ => rfl, hK _ ?_⟩
    clear hK K
    refine anyC_pure 2 rfl (by kernel_rfl) (by kernel_rfl) (by kernel_rfl) ⟨⟨u0, hS0.bel⟩, rfl⟩ (fun K hK => ?_)
    go_simp
    first | refine hK _ ?_ | refine ⟨_, fun _ => rfl, hK _ ?_⟩
    clear hK K
    refine anyC_pure 3 rfl (by kernel_rfl) (by kernel_rfl) (by kernel_rfl) ⟨⟨u0, hS0.bel⟩, rfl⟩ (fun K hK => ?_)
    go_simp
    first | refine hK _ ?_ | refine ⟨_, fun _ => rfl, hK _ ?_⟩
    clear hK K
    refine anyC_pure 5 rfl (by kernel_rfl) (by kernel_rfl) (by kernel_rfl) ⟨⟨u0, hS0.bel⟩, rfl⟩ (fun K hK => ?_)
    go_simp
    first | refine hK _ ?_ | refine ⟨_, fun _ => rfl, hK _ ?_⟩
    clear hK K
    refine anyC_loud3S 4 6 8 (by kernel_rfl) ?_ ?_ ?_
    · refine lou_of rfl (fun K hK => ?_)
      go_simp
      have hS1 := hS0.push
      refine hK _ _ ⟨fun _ => ⟨⟨_, hS1.bel⟩, rfl⟩, ?_⟩
      clear hK K hS0
      generalize u0.alloc (.cells #[.string T.p, .string T.r] 9) = u1 at *
      generalize u0.heap.size = X at *
      refine anyC_loud2 6 8 (by kernel_rfl) ?_ ?_
      · refine lou_of rfl (fun K hK => ?_)
        go_simp
        refine (HN.out _ hS1.bel).mono ?_
        rintro e u2 ⟨vn, rfl, ho2, hb2⟩
        have hS2 := hS1.names hb2 ho2
        refine hK _ _ ⟨fun _ => ⟨⟨_, hS2.bel⟩, rfl⟩, ?_⟩
        clear hK K hS1 hb2 ho2
        refine anyC_loud2 7 8 (by kernel_rfl) ?_ ?_
        · obtain ⟨va, u3, hr3, hS3⟩ := hS2.app HNl.out
          refine lou_append rfl rfl _ _ _ _ rfl _ _ rfl rfl hr3 ?_
          refine ⟨fun _ => ⟨⟨_, hS3.bel⟩, rfl⟩, ?_⟩
          clear hS2 hr3
          refine anyC_loud 8 (by kernel_rfl) ?_
          refine lou_of rfl (fun K hK => ?_)
          go_simp
          have hS4 := hS3.pushY
          refine hK _ _ ⟨fun _ => ⟨⟨_, hS4.bel⟩, rfl⟩, ?_⟩
          clear hK K hS3
          generalize u3.alloc (.cells #[.slice none 0 0] 27) = u4 at *
          generalize u3.heap.size = Y at *
          obtain ⟨no, nc, rfl, hy, hns, hbe⟩ := hS4.done
          have z0 := (hS4.box _ rfl).1.cell 0 rfl
          have z1 := (hS4.box _ rfl).1.frozen 0
          refine anyC_loud 9 (by kernel_rfl) ?_
          refine lou_of rfl (fun K hK => ?_)
          go_simp
          refine hK _ _ ⟨fun _ => ⟨⟨_, hbe⟩, rfl⟩, ?_⟩
          clear hK K
          refine anyC_done (by kernel_rfl) ?_
          exact ⟨X, _, _, no, nc, rfl, hy, hns, hbe⟩
        · refine lou_of rfl (fun K hK => ?_)
          go_simp
          have hS5 := hS2.pushY
          refine hK _ _ ⟨fun _ => ⟨⟨_, hS5.bel⟩, rfl⟩, ?_⟩
          clear hK K hS2
          generalize u2.alloc (.cells #[.slice none 0 0] 27) = u5 at *
          generalize u2.heap.size = Y at *
          refine anyC_loud 7 (by kernel_rfl) ?_
          obtain ⟨va, u6, hr6, hS6⟩ := hS5.app HNl.out
          refine lou_append rfl rfl _ _ _ _ rfl _ _ rfl rfl hr6 ?_
          refine ⟨fun _ => ⟨⟨_, hS6.bel⟩, rfl⟩, ?_⟩
          clear hS5 hr6
          obtain ⟨no, nc, rfl, hy, hns, hbe⟩ := hS6.done
          have z0 := (hS6.box _ rfl).1.cell 0 rfl
          have z1 := (hS6.box _ rfl).1.frozen 0
          refine anyC_loud 9 (by kernel_rfl) ?_
          refine lou_of rfl (fun K hK => ?_)
          go_simp
          refine hK _ _ ⟨fun _ => ⟨⟨_, hbe⟩, rfl⟩, ?_⟩
          clear hK K
          refine anyC_done (by kernel_rfl) ?_
          exact ⟨X, _, _, no, nc, rfl, hy, hns, hbe⟩
      · refine lou_of rfl (fun K hK => ?_)
        go_simp
        have hS7 := hS1.pushY
        refine hK _ _ ⟨fun _ => ⟨⟨_, hS7.bel⟩, rfl⟩, ?_⟩
        clear hK K hS1
        generalize u1.alloc (.cells #[.slice none 0 0] 27) = u7 at *
        generalize u1.heap.size = Y at *
        refine anyC_loud 6 (by kernel_rfl) ?_
        refine lou_of rfl (fun K hK => ?_)
        go_simp
        refine (HN.out _ hS7.bel).mono ?_
        rintro e u8 ⟨vn, rfl, ho8, hb8⟩
        have hS8 := hS7.names hb8 ho8
        refine hK _ _ ⟨fun _ => ⟨⟨_, hS8.bel⟩, rfl⟩, ?_⟩
        clear hK K hS7 hb8 ho8
        refine anyC_loud 7 (by kernel_rfl) ?_
        obtain ⟨va, u9, hr9, hS9⟩ := hS8.app HNl.out
        refine lou_append rfl rfl _ _ _ _ rfl _ _ rfl rfl hr9 ?_
        refine ⟨fun _ => ⟨⟨_, hS9.bel⟩, rfl⟩, ?_⟩
        clear hS8 hr9
        obtain ⟨no, nc, rfl, hy, hns, hbe⟩ := hS9.done
        have z0 := (hS9.box _ rfl).1.cell 0 rfl
        have z1 := (hS9.box _ rfl).1.frozen 0
        refine anyC_loud 9 (by kernel_rfl) ?_
        refine lou_of rfl (fun K hK => ?_)
        go_simp
        refine hK _ _ ⟨fun _ => ⟨⟨_, hbe⟩, rfl⟩, ?_⟩
        clear hK K
        refine anyC_done (by kernel_rfl) ?_
        exact ⟨X, _, _, no, nc, rfl, hy, hns, hbe⟩
    · refine lou_of rfl (fun K hK => ?_)
      go_simp
      refine (HN.out _ hS0.bel).mono ?_
      rintro e u10 ⟨vn, rfl, ho10, hb10⟩
      have hS10 := hS0.names hb10 ho10
      refine hK _ _ ⟨fun _ => ⟨⟨_, hS10.bel⟩, rfl⟩, ?_⟩
      clear hK K hS0 hb10 ho10
      refine anyC_loud2 4 8 (by kernel_rfl) ?_ ?_
      · refine lou_of rfl (fun K hK => ?_)
        go_simp
        have hS11 := hS10.push
        refine hK _ _ ⟨fun _ => ⟨⟨_, hS11.bel⟩, rfl⟩, ?_⟩
        clear hK K hS10
        generalize u10.alloc (.cells #[.string T.p, .string T.r] 9) = u11 at *
        generalize u10.heap.size = X at *
        refine anyC_loud2 7 8 (by kernel_rfl) ?_ ?_
        · obtain ⟨va, u12, hr12, hS12⟩ := hS11.app HNl.out
          refine lou_append rfl rfl _ _ _ _ rfl _ _ rfl rfl hr12 ?_
          refine ⟨fun _ => ⟨⟨_, hS12.bel⟩, rfl⟩, ?_⟩
          clear hS11 hr12
          refine anyC_loud 8 (by kernel_rfl) ?_
          refine lou_of rfl (fun K hK => ?_)
          go_simp
          have hS13 := hS12.pushY
          refine hK _ _ ⟨fun _ => ⟨⟨_, hS13.bel⟩, rfl⟩, ?_⟩
          clear hK K hS12
          generalize u12.alloc (.cells #[.slice none 0 0] 27) = u13 at *
          generalize u12.heap.size = Y at *
          obtain ⟨no, nc, rfl, hy, hns, hbe⟩ := hS13.done
          have z0 := (hS13.box _ rfl).1.cell 0 rfl
          have z1 := (hS13.box _ rfl).1.frozen 0
          refine anyC_loud 9 (by kernel_rfl) ?_
          refine lou_of rfl (fun K hK => ?_)
          go_simp
          refine hK _ _ ⟨fun _ => ⟨⟨_, hbe⟩, rfl⟩, ?_⟩
          clear hK K
          refine anyC_done (by kernel_rfl) ?_
          exact ⟨X, _, _, no, nc, rfl, hy, hns, hbe⟩
        · refine lou_of rfl (fun K hK => ?_)
          go_simp
          have hS14 := hS11.pushY
          refine hK _ _ ⟨fun _ => ⟨⟨_, hS14.bel⟩, rfl⟩, ?_⟩
          clear hK K hS11
          generalize u11.alloc (.cells #[.slice none 0 0] 27) = u14 at *
          generalize u11.heap.size = Y at *
          refine anyC_loud 7 (by kernel_rfl) ?_
          obtain ⟨va, u15, hr15, hS15⟩ := hS14.app HNl.out
          refine lou_append rfl rfl _ _ _ _ rfl _ _ rfl rfl hr15 ?_
          refine ⟨fun _ => ⟨⟨_, hS15.bel⟩, rfl⟩, ?_⟩
          clear hS14 hr15
          obtain ⟨no, nc, rfl, hy, hns, hbe⟩ := hS15.done
          have z0 := (hS15.box _ rfl).1.cell 0 rfl
          have z1 := (hS15.box _ rfl).1.frozen 0
          refine anyC_loud 9 (by kernel_rfl) ?_
          refine lou_of rfl (fun K hK => ?_)
          go_simp
          refine hK _ _ ⟨fun _ => ⟨⟨_, hbe⟩, rfl⟩, ?_⟩
          clear hK K
          refine anyC_done (by kernel_rfl) ?_
          exact ⟨X, _, _, no, nc, rfl, hy, hns, hbe⟩
      · refine lou_of rfl (fun K hK => ?_)
        go_simp
        have hS16 := hS10.pushY
        refine hK _ _ ⟨fun _ => ⟨⟨_, hS16.bel⟩, rfl⟩, ?_⟩
        clear hK K hS10
        generalize u10.alloc (.cells #[.slice none 0 0] 27) = u16 at *
        generalize u10.heap.size = Y at *
        refine anyC_loud 4 (by kernel_rfl) ?_
        refine lou_of rfl (fun K hK => ?_)
        go_simp
        have hS17 := hS16.push
        refine hK _ _ ⟨fun _ => ⟨⟨_, hS17.bel⟩, rfl⟩, ?_⟩
        clear hK K hS16
        generalize u16.alloc (.cells #[.string T.p, .string T.r] 9) = u17 at *
        generalize u16.heap.size = X at *
        refine anyC_loud 7 (by kernel_rfl) ?_
        obtain ⟨va, u18, hr18, hS18⟩ := hS17.app HNl.out
        refine lou_append rfl rfl _ _ _ _ rfl _ _ rfl rfl hr18 ?_
        refine ⟨fun _ => ⟨⟨_, hS18.bel⟩, rfl⟩, ?_⟩
        clear hS17 hr18
        obtain ⟨no, nc, rfl, hy, hns, hbe⟩ := hS18.done
        have z0 := (hS18.box _ rfl).1.cell 0 rfl
        have z1 := (hS18.box _ rfl).1.frozen 0
        refine anyC_loud 9 (by kernel_rfl) ?_
        refine lou_of rfl (fun K hK => ?_)
        go_simp
        refine hK _ _ ⟨fun _ => ⟨⟨_, hbe⟩, rfl⟩, ?_⟩
        clear hK K
        refine anyC_done (by kernel_rfl) ?_
        exact ⟨X, _, _, no, nc, rfl, hy, hns, hbe⟩
    · refine lou_of rfl (fun K hK => ?_)
      go_simp
      have hS19 := hS0.pushY
      refine hK _ _ ⟨fun _ => ⟨⟨_, hS19.bel⟩, rfl⟩, ?_⟩
      clear hK K hS0
      generalize u0.alloc (.cells #[.slice none 0 0] 27) = u19 at *
      generalize u0.heap.size = Y at *
      refine anyC_loud2 4 6 (by kernel_rfl) ?_ ?_
      · refine lou_of rfl (fun K hK => ?_)
        go_simp
        have hS20 := hS19.push
        refine hK _ _ ⟨fun _ => ⟨⟨_, hS20.bel⟩, rfl⟩, ?_⟩
        clear hK K hS19
        generalize u19.alloc (.cells #[.string T.p, .string T.r] 9) = u20 at *
        generalize u19.heap.size = X at *
        refine anyC_loud 6 (by kernel_rfl) ?_
        refine lou_of rfl (fun K hK => ?_)
        go_simp
        refine (HN.out _ hS20.bel).mono ?_
        rintro e u21 ⟨vn, rfl, ho21, hb21⟩
        have hS21 := hS20.names hb21 ho21
        refine hK _ _ ⟨fun _ => ⟨⟨_, hS21.bel⟩, rfl⟩, ?_⟩
        clear hK K hS20 hb21 ho21
        refine anyC_loud 7 (by kernel_rfl) ?_
        obtain ⟨va, u22, hr22, hS22⟩ := hS21.app HNl.out
        refine lou_append rfl rfl _ _ _ _ rfl _ _ rfl rfl hr22 ?_
        refine ⟨fun _ => ⟨⟨_, hS22.bel⟩, rfl⟩, ?_⟩
        clear hS21 hr22
        obtain ⟨no, nc, rfl, hy, hns, hbe⟩ := hS22.done
        have z0 := (hS22.box _ rfl).1.cell 0 rfl
        have z1 := (hS22.box _ rfl).1.frozen 0
        refine anyC_loud 9 (by kernel_rfl) ?_
        refine lou_of rfl (fun K hK => ?_)
        go_simp
        refine hK _ _ ⟨fun _ => ⟨⟨_, hbe⟩, rfl⟩, ?_⟩
        clear hK K
        refine anyC_done (by kernel_rfl) ?_
        exact ⟨X, _, _, no, nc, rfl, hy, hns, hbe⟩
      · refine lou_of rfl (fun K hK => ?_)
        go_simp
        refine (HN.out _ hS19.bel).mono ?_
        rintro e u23 ⟨vn, rfl, ho23, hb23⟩
        have hS23 := hS19.names hb23 ho23
        refine hK _ _ ⟨fun _ => ⟨⟨_, hS23.bel⟩, rfl⟩, ?_⟩
        clear hK K hS19 hb23 ho23
        refine anyC_loud 4 (by kernel_rfl) ?_
        refine lou_of rfl (fun K hK => ?_)
        go_simp
        have hS24 := hS23.push
        refine hK _ _ ⟨fun _ => ⟨⟨_, hS24.bel⟩, rfl⟩, ?_⟩
        clear hK K hS23
        generalize u23.alloc (.cells #[.string T.p, .string T.r] 9) = u24 at *
        generalize u23.heap.size = X at *
        refine anyC_loud 7 (by kernel_rfl) ?_
        obtain ⟨va, u25, hr25, hS25⟩ := hS24.app HNl.out
        refine lou_append rfl rfl _ _ _ _ rfl _ _ rfl rfl hr25 ?_
        refine ⟨fun _ => ⟨⟨_, hS25.bel⟩, rfl⟩, ?_⟩
        clear hS24 hr25
        obtain ⟨no, nc, rfl, hy, hns, hbe⟩ := hS25.done
        have z0 := (hS25.box _ rfl).1.cell 0 rfl
        have z1 := (hS25.box _ rfl).1.frozen 0
        refine anyC_loud 9 (by kernel_rfl) ?_
        refine lou_of rfl (fun K hK => ?_)
        go_simp
        refine hK _ _ ⟨fun _ => ⟨⟨_, hbe⟩, rfl⟩, ?_⟩
        clear hK K
        refine anyC_done (by kernel_rfl) ?_
        exact ⟨X, _, _, no, nc, rfl, hy, hns, hbe⟩
  rintro a' u ⟨X, v, Y, no, nc, rfl, hy, hns, hbu⟩
  obtain ⟨hTB, hSp, hbw⟩ := HBX.out u Y no nc hbu hy hns
  have C1 : Hid (∀ wr, Below u.heap.size u wr → Calls Tryd.prog 31 #[.pointer (some ⟨w.heap.size, 0, none⟩), .pointer (some ⟨Y, 0, none⟩)] wr fun e w' => e = .returned (.bool (namesOk T)) ∧ Below wr.heap.size wr w') := fun wr hb => table1_any (hTB.below hb) HT.out (hSp.below hb hSp.lt)
  have C2 : Hid (∀ wr, Below u.heap.size u wr → Calls Tryd.prog 32 #[.pointer (some ⟨w.heap.size, 0, none⟩)] wr fun e w' => e = .returned (.bool (decide (0 < T.cs.length) && decide (T.cs.length ≤ 6))) ∧ Below wr.heap.size wr w') := fun wr hb => (table2_any (hTB.below hb) HT.out).mono fun e w' h => ⟨h.1, by rw [h.2]; exact Below.refl _ _⟩
  have C3 : Hid (∀ wr, Below u.heap.size u wr → Calls Tryd.prog 33 #[.pointer (some ⟨w.heap.size, 0, none⟩)] wr fun e w' => e = .returned (.bool (T.cs.all kindB)) ∧ Below wr.heap.size wr w') := fun wr hb => table3_any (hTB.below hb) HT.out
  have C4 : Hid ((decide (0 < T.cs.length) && decide (T.cs.length ≤ 6)) = true → ∀ wr, Below u.heap.size u wr → Calls Tryd.prog 36 #[.pointer (some ⟨Y, 0, none⟩)] wr fun e w' => e = .returned (.bool (uniqB T)) ∧ Below wr.heap.size wr w') := fun h wr hb => table4_any (hTB.below hb) HT.out (by simp at h; exact h.2)
  have HE2 : Hid (tabE T = if namesOk T = false then 3 else if (decide (0 < T.cs.length) && decide (T.cs.length ≤ 6)) = false then 2 else if T.cs.all kindB = false then 2 else if uniqB T = false then 5 else 0) := rfl
  clear HBX HN HNl hS0 k0 k1 k2 k3 hTB hSp HT HE hy hns
  generalize namesOk T = b1 at *
  generalize (decide (0 < T.cs.length) && decide (T.cs.length ≤ 6)) = b2 at *
  generalize T.cs.all kindB = b3 at *
  generalize uniqB T = b4 at *
  go_wp2_with fail
  obtain ⟨us, hus⟩ : ∃ us, us = u.alloc (.cells #[.int .i64 3, .func (.func 31) #[] #[.pointer (some ⟨w.heap.size, 0, none⟩), .pointer (some ⟨Y, 0, none⟩)], .int .i64 2, .func (.func 32) #[] #[.pointer (some ⟨w.heap.size, 0, none⟩)], .int .i64 2, .func (.func 33) #[] #[.pointer (some ⟨w.heap.size, 0, none⟩)], .int .i64 5, .func (.func 36) #[] #[.pointer (some ⟨Y, 0, none⟩)]] 60) := ⟨_, rfl⟩
  have hR0 : Blk us u.heap.size [.int .i64 3, .func (.func 31) #[] #[.pointer (some ⟨w.heap.size, 0, none⟩), .pointer (some ⟨Y, 0, none⟩)], .int .i64 2, .func (.func 32) #[] #[.pointer (some ⟨w.heap.size, 0, none⟩)], .int .i64 2, .func (.func 33) #[] #[.pointer (some ⟨w.heap.size, 0, none⟩)], .int .i64 5, .func (.func 36) #[] #[.pointer (some ⟨Y, 0, none⟩)]] 60 := by rw [hus]; exact Blk.new u [.int .i64 3, .func (.func 31) #[] #[.pointer (some ⟨w.heap.size, 0, none⟩), .pointer (some ⟨Y, 0, none⟩)], .int .i64 2, .func (.func 32) #[] #[.pointer (some ⟨w.heap.size, 0, none⟩)], .int .i64 2, .func (.func 33) #[] #[.pointer (some ⟨w.heap.size, 0, none⟩)], .int .i64 5, .func (.func 36) #[] #[.pointer (some ⟨Y, 0, none⟩)]] _
  have hbus : Below u.heap.size u us := by rw [hus]; exact (Below.refl _ _).alloc (Nat.le_refl _) _
  have HW : Hid (∀ wr, Below us.heap.size us wr → Below u.heap.size u wr ∧ Below w.heap.size w wr) := fun wr hb => ⟨hbus.trans (hb.mono hbus.size), hbw.trans ((hbus.trans (hb.mono hbus.size)).mono hbw.size)⟩
  have HR : Hid (∀ wr, Below us.heap.size us wr → Blk wr u.heap.size [.int .i64 3, .func (.func 31) #[] #[.pointer (some ⟨w.heap.size, 0, none⟩), .pointer (some ⟨Y, 0, none⟩)], .int .i64 2, .func (.func 32) #[] #[.pointer (some ⟨w.heap.size, 0, none⟩)], .int .i64 2, .func (.func 33) #[] #[.pointer (some ⟨w.heap.size, 0, none⟩)], .int .i64 5, .func (.func 36) #[] #[.pointer (some ⟨Y, 0, none⟩)]] 60) := fun wr hb => hR0.carry (hb.block _ hR0.lt)
  have HX : Hid (∀ wr a f w1, Below us.heap.size us wr → Below (wr.alloc (.cells #[a, f] 60)).heap.size (wr.alloc (.cells #[a, f] 60)) w1 → w1.cell? ⟨wr.heap.size, 0, none⟩ = some a ∧ Below us.heap.size us w1) := fun wr a f w1 hb h1 =>
    ⟨((Blk.new wr [a, f] 60).carry (h1.block _ (by rw [World.size_alloc]; omega))).cell 0 rfl, (hb.alloc hb.size _).trans (h1.mono (by rw [World.size_alloc]; have := hb.size; omega))⟩
  rw [← hus]
  clear hus hR0 hbus hbu hbw
  go_loopw [26] (fun s26 wr => ∃ i : Nat, i ≤ 4 ∧ s26 = .int .i64 (i : Int) ∧ Below us.heap.size us wr ∧ (1 ≤ i → b1 = true) ∧ (2 ≤ i → b2 = true) ∧ (3 ≤ i → b3 = true) ∧ (4 ≤ i → b4 = true)) (fun s26 _ => 4 - (intOf s26).toNat)
  case atStart => exact ⟨0, by omega, rfl, Below.refl _ _, fun h => by omega, fun h => by omega, fun h => by omega, fun h => by omega⟩
  case round =>
    obtain ⟨i, hi, rfl, hb, g1, g2, g3, g4⟩ := hrel
    have hb0 : ∀ o, Below us.heap.size us (wr.alloc o) := fun o => hb.alloc hb.size o
    have hRr := HR.out wr hb
    have HB : Hid (Below us.heap.size us wr) := hb
    rcases (show i = 0 ∨ i = 1 ∨ i = 2 ∨ i = 3 ∨ i = 4 by omega) with rfl | rfl | rfl | rfl | rfl
    · have e0 := hRr.cell 0 rfl
      have e1 := hRr.cell 1 rfl
      have C : Hid (∀ o, Calls Tryd.prog 31 #[.pointer (some ⟨w.heap.size, 0, none⟩), .pointer (some ⟨Y, 0, none⟩)] (wr.alloc o) fun e w' => e = .returned (.bool b1) ∧ Below (wr.alloc o).heap.size (wr.alloc o) w') := fun o => C1.out (wr.alloc o) (HW.out _ (hb0 o)).1
      clear C1 C2 C3 C4 HR hb0 hRr
      cases b1
      · have hE : Hid (tabE T = 3) := by show tabE T = 3; rw [HE2.out]; simp
        clear HE2 g1 g2 g3 g4 hb
        go_wp2_with fail
        refine (C.out _).mono ?_
        rintro e w1 ⟨rfl, h1⟩
        obtain ⟨d0, hb1⟩ := HX.out _ _ _ _ HB.out h1
        have hW := (HW.out _ hb1).2
        go_wp2_with fail
        go_ret
        exact ⟨ret_int hE.out.symm, hW⟩
      · clear hb
        go_wp2_with fail
        refine (C.out _).mono ?_
        rintro e w1 ⟨rfl, h1⟩
        obtain ⟨d0, hb1⟩ := HX.out _ _ _ _ HB.out h1
        go_wp2_with fail
        go_roundw
        case rel => exact ⟨1, by omega, by simp, hb1, fun h => by first | rfl | trivial | exact absurd h (by decide), fun h => by first | rfl | trivial | exact absurd h (by decide), fun h => by first | rfl | trivial | exact absurd h (by decide), fun h => by first | rfl | trivial | exact absurd h (by decide)⟩
        case measure => simp [intOf]
    · have e0 := hRr.cell 2 rfl
      have e1 := hRr.cell 3 rfl
      have q1 := g1 (by omega)
      subst q1
      have C : Hid (∀ o, Calls Tryd.prog 32 #[.pointer (some ⟨w.heap.size, 0, none⟩)] (wr.alloc o) fun e w' => e = .returned (.bool b2) ∧ Below (wr.alloc o).heap.size (wr.alloc o) w') := fun o => C2.out (wr.alloc o) (HW.out _ (hb0 o)).1
      clear C1 C2 C3 C4 HR hb0 hRr
      cases b2
      · have hE : Hid (tabE T = 2) := by show tabE T = 2; rw [HE2.out]; simp
        clear HE2 g1 g2 g3 g4 hb
        go_wp2_with fail
        refine (C.out _).mono ?_
        rintro e w1 ⟨rfl, h1⟩
        obtain ⟨d0, hb1⟩ := HX.out _ _ _ _ HB.out h1
        have hW := (HW.out _ hb1).2
        go_wp2_with fail
        go_ret
        exact ⟨ret_int hE.out.symm, hW⟩
      · clear hb
        go_wp2_with fail
        refine (C.out _).mono ?_
        rintro e w1 ⟨rfl, h1⟩
        obtain ⟨d0, hb1⟩ := HX.out _ _ _ _ HB.out h1
        go_wp2_with fail
        go_roundw
        case rel => exact ⟨2, by omega, by simp, hb1, fun h => by first | rfl | trivial | exact absurd h (by decide), fun h => by first | rfl | trivial | exact absurd h (by decide), fun h => by first | rfl | trivial | exact absurd h (by decide), fun h => by first | rfl | trivial | exact absurd h (by decide)⟩
        case measure => simp [intOf]
    · have e0 := hRr.cell 4 rfl
      have e1 := hRr.cell 5 rfl
      have q1 := g1 (by omega)
      have q2 := g2 (by omega)
      subst q1
      subst q2
      have C : Hid (∀ o, Calls Tryd.prog 33 #[.pointer (some ⟨w.heap.size, 0, none⟩)] (wr.alloc o) fun e w' => e = .returned (.bool b3) ∧ Below (wr.alloc o).heap.size (wr.alloc o) w') := fun o => C3.out (wr.alloc o) (HW.out _ (hb0 o)).1
      clear C1 C2 C3 C4 HR hb0 hRr
      cases b3
      · have hE : Hid (tabE T = 2) := by show tabE T = 2; rw [HE2.out]; simp
        clear HE2 g1 g2 g3 g4 hb
        go_wp2_with fail
        refine (C.out _).mono ?_
        rintro e w1 ⟨rfl, h1⟩
        obtain ⟨d0, hb1⟩ := HX.out _ _ _ _ HB.out h1
        have hW := (HW.out _ hb1).2
        go_wp2_with fail
        go_ret
        exact ⟨ret_int hE.out.symm, hW⟩
      · clear hb
        go_wp2_with fail
        refine (C.out _).mono ?_
        rintro e w1 ⟨rfl, h1⟩
        obtain ⟨d0, hb1⟩ := HX.out _ _ _ _ HB.out h1
        go_wp2_with fail
        go_roundw
        case rel => exact ⟨3, by omega, by simp, hb1, fun h => by first | rfl | trivial | exact absurd h (by decide), fun h => by first | rfl | trivial | exact absurd h (by decide), fun h => by first | rfl | trivial | exact absurd h (by decide), fun h => by first | rfl | trivial | exact absurd h (by decide)⟩
        case measure => simp [intOf]
    · have e0 := hRr.cell 6 rfl
      have e1 := hRr.cell 7 rfl
      have q1 := g1 (by omega)
      have q2 := g2 (by omega)
      have q3 := g3 (by omega)
      subst q1
      subst q2
      subst q3
      have C : Hid (∀ o, Calls Tryd.prog 36 #[.pointer (some ⟨Y, 0, none⟩)] (wr.alloc o) fun e w' => e = .returned (.bool b4) ∧ Below (wr.alloc o).heap.size (wr.alloc o) w') := fun o => C4.out rfl (wr.alloc o) (HW.out _ (hb0 o)).1
      clear C1 C2 C3 C4 HR hb0 hRr
      cases b4
      · have hE : Hid (tabE T = 5) := by show tabE T = 5; rw [HE2.out]; simp
        clear HE2 g1 g2 g3 g4 hb
        go_wp2_with fail
        refine (C.out _).mono ?_
        rintro e w1 ⟨rfl, h1⟩
        obtain ⟨d0, hb1⟩ := HX.out _ _ _ _ HB.out h1
        have hW := (HW.out _ hb1).2
        go_wp2_with fail
        go_ret
        exact ⟨ret_int hE.out.symm, hW⟩
      · clear hb
        go_wp2_with fail
        refine (C.out _).mono ?_
        rintro e w1 ⟨rfl, h1⟩
        obtain ⟨d0, hb1⟩ := HX.out _ _ _ _ HB.out h1
        go_wp2_with fail
        go_roundw
        case rel => exact ⟨4, by omega, by simp, hb1, fun h => by first | rfl | trivial | exact absurd h (by decide), fun h => by first | rfl | trivial | exact absurd h (by decide), fun h => by first | rfl | trivial | exact absurd h (by decide), fun h => by first | rfl | trivial | exact absurd h (by decide)⟩
        case measure => simp [intOf]
    · have q1 := g1 (by omega)
      have q2 := g2 (by omega)
      have q3 := g3 (by omega)
      have q4 := g4 (by omega)
      subst q1 q2 q3 q4
      have hE : Hid (tabE T = 0) := by show tabE T = 0; rw [HE2.out]; rfl
      have hW := (HW.out wr hb).2
      clear HE2 C1 C2 C3 C4 HR HX g1 g2 g3 g4 hb0 hRr hb
      go_wp2_with fail
      go_ret
      exact ⟨ret_int hE.out.symm, hW⟩
end Go.Proofs.YtgjajffpkjcenaaDoor
