/-
  THE LAW DiskActs.
-/
import Derived.Test.YtoeoioigelknnaaGreatMany23
namespace Go.Proofs.YtoeoioigelknnaaGreat
open Go.RowKit Go.Maps Go.WideAt Go.WideShapes
attribute [local go_sem] Oper.pureAt Oper.pureUpon
attribute [local irreducible] wpQuiet

theorem new_bad (room : Int) (hr : room < 0 ∨ 1073741824 < room) (w : World) : Calls Tryz.prog 4 #[.int .i64 room] w fun x w' => x = .returned (.pointer none) ∧ w' = w := by
  rcases hr with h | h
  · go_enter Tryz.func4, Tryz.ntmps4
    go_wp2_with fail
    go_ret
    exact ⟨rfl, rfl⟩
  · have h0 : ¬ room < 0 := by omega
    go_enter Tryz.func4, Tryz.ntmps4
    go_wp2_with fail
    go_ret
    exact ⟨rfl, rfl⟩
theorem hvL_take (l : List ActV) (i : Nat) : hvL (l.take i) ≤ hvL l := by
  have e : hvL l = hvL (l.take i) + hvL (l.drop i) := by
    unfold hvL
    rw [← List.sum_append, ← List.map_append, List.take_append_drop]
  omega
/-- Both disks in memory, and a block that is none of theirs. -/
def InBR (b : Nat) (o : Option Obj) (d r : Nat) (A : Ab) (Q : RA) (fs : List Nat) (u : World) : Prop := Two d r A Q fs u ∧ u.heap[b]? = o ∧ b < u.heap.size
theorem InBR.grown {b d r : Nat} {o : Option Obj} {A : Ab} {Q : RA} {fs : List Nat} {u u' : World} (h : InBR b o d r A Q fs u) (hg : u.grownBy u' none) : InBR b o d r A Q fs u' := ⟨h.1.grown hg, (hg.block b h.2.2 (by simp)).trans h.2.1, Nat.lt_of_lt_of_le h.2.2 hg.size⟩
theorem InBR.cb {b d r : Nat} {o : Option Obj} {A : Ab} {Q : RA} {fs : List Nat} {u : World} (h : InBR b o d r A Q fs u) : ∃ p : CB b o, u = p.u := ⟨⟨u, h.2.1⟩, rfl⟩
/-- What both disks tell. -/
structure Tells (b : Nat) (o : Option Obj) (d r : Nat) (A : Ab) (Q : RA) (fs : List Nat) (nv : List ByteArray) (uv dv ov : Int) (bv : Bool) : Prop where
  l1 : ∀ u, InBR b o d r A Q fs u → Calls Tryz.prog 10 #[.pointer (some ⟨d, 0, none⟩)] u fun x w' => ∃ ao c, x = .returned (.slice ao nv.length c) ∧ TS w' ao nv ∧ u.grownBy w' none
  l2 : ∀ u, InBR b o d r A Q fs u → Calls Tryz.prog 11 #[.pointer (some ⟨r, 0, none⟩)] u fun x w' => ∃ ao c, x = .returned (.slice ao nv.length c) ∧ TS w' ao nv ∧ u.grownBy w' none
  tx : ∀ u a1 a2 c1 c2, TS u a1 nv → TS u a2 nv → Calls Tryz.prog 9 #[.slice a1 nv.length c1, .slice a2 nv.length c2] u fun e w' => e = .returned (.bool true) ∧ Below u.heap.size u w'
  u1 : ∀ u, InBR b o d r A Q fs u → Calls Tryz.prog 12 #[.pointer (some ⟨d, 0, none⟩)] u fun x w' => x = .returned (.int .i64 uv) ∧ u.grownBy w' none
  u2 : ∀ u, InBR b o d r A Q fs u → Calls Tryz.prog 13 #[.pointer (some ⟨r, 0, none⟩)] u fun x w' => x = .returned (.int .i64 uv) ∧ u.grownBy w' none
  d1 : ∀ u, InBR b o d r A Q fs u → Calls Tryz.prog 14 #[.pointer (some ⟨d, 0, none⟩)] u fun x w' => x = .returned (.int .i64 dv) ∧ u.grownBy w' none
  d2 : ∀ u, InBR b o d r A Q fs u → Calls Tryz.prog 15 #[.pointer (some ⟨r, 0, none⟩)] u fun x w' => x = .returned (.int .i64 dv) ∧ u.grownBy w' none
  o1 : ∀ u, InBR b o d r A Q fs u → Calls Tryz.prog 16 #[.pointer (some ⟨d, 0, none⟩)] u fun x w' => x = .returned (.int .i64 ov) ∧ w' = u
  n1 : ∀ u, InBR b o d r A Q fs u → Calls Tryz.prog 17 #[.pointer (some ⟨d, 0, none⟩)] u fun x w' => x = .returned (.bool bv) ∧ w' = u
  o2 : ∀ u, InBR b o d r A Q fs u → u.cell? ⟨r, 4, none⟩ = some (.int .i64 ov) ∧ u.cell? ⟨r, 3, none⟩ = some (.bool (!bv))
theorem tells_any (b : Nat) (o : Option Obj) (d r : Nat) {A : Ab} {Q : RA} (fs : List Nat) {m : Nat} (hE : Tie A Q) (hS : Sml A m) (hm : m ≤ 251) (hf : Q.fail ≤ 9223372036854775807) : Tells b o d r A Q fs (namesV A) (usedV A) (dirtyV A) (A.ops : Int) A.on := by
  have hFA := sml_fine hE hS hm
  have hFQ := sml_fit hE hS hm hf
  have hn : A.sp.length ≤ 1000000 := by have := hS.cnt; omega
  have hnl : (namesV A).length ≤ 1000000 := by
    unfold namesV
    split
    · rw [List.length_map]; exact hn
    · exact Nat.zero_le _
  refine ⟨fun u h => ?_, fun u h => ?_, fun u a1 a2 c1 c2 t1 t2 => texts_same a1 a2 (namesV A) c1 c2 u t1 t2 hnl, fun u h => ?_, fun u h => ?_, fun u h => ?_, fun u h => ?_, fun u h => ?_, fun u h => ?_, fun u h => ?_⟩
  all_goals obtain ⟨⟨ft, fr, g1, g2, _, _⟩, _⟩ := h
  · exact ob_list hE g1 hn
  · exact ob_rlist hE hFQ g2
  · exact ob_used hFA g1
  · exact ob_rused hE hFQ g2
  · exact ob_dirty hFA g1
  · exact ob_rdirty hE g2
  · exact ob_ops g1
  · exact ob_on g1
  · exact ob_rops hE g2
set_option maxRecDepth 100000 in
set_option maxHeartbeats 8000000 in
theorem diskActs.walk (room : Int) (po : Option Addr) (l : List ActV) (cap : Nat) (w : World) (_ : -9223372036854775808 ≤ room ∧ room ≤ 9223372036854775807) (ha : ASees w po l) (hl : l.length ≤ 140737488355328) (hok : ∀ c ∈ l, c.Ok w) :
    Calls Tryz.prog 3 #[.int .i64 room, .slice po l.length cap] w fun e w' => e = .returned (.bool true) ∧ Below w.heap.size w w' := by
  have L : Hid (∀ w, Calls Tryz.prog 7 #[] w fun x w' => x = .returned (.bool true) ∧ Below w.heap.size w w') := lives_any
  by_cases hr : room < 0 ∨ 1073741824 < room
  · have N1 : Hid (∀ w, Calls Tryz.prog 4 #[.int .i64 room] w fun x w' => x = .returned (.pointer none) ∧ w' = w) := fun w => new_bad room hr w
    have N2 : Hid (∀ w, Calls Tryz.prog 5 #[.int .i64 room] w fun x w' => x = .returned (.pointer none) ∧ w' = w) := fun w => ra_new_nil room hr w
    clear ha hl hok hr
    go_enter Tryz.func3, Tryz.ntmps3
    go_wp2_with (first
      | (go_at_call 4; go_fit (N1.out _); rintro x w1 ⟨rfl, rfl⟩)
      | (go_at_call 5; go_fit (N2.out _); rintro x w2 ⟨rfl, rfl⟩)
      | (go_at_call 7; go_fit (L.out _); rintro x w7 ⟨rfl, hb7⟩))
    go_ret
    exact ⟨rfl, hb7⟩
  obtain ⟨rm, rfl⟩ : ∃ rm : Nat, room = (rm : Int) := ⟨room.toNat, by omega⟩
  have hrm : rm ≤ 1073741824 := by omega
  have N1 : Hid (∀ w, Calls Tryz.prog 4 #[.int .i64 (rm : Int)] w fun x w' => ∃ d ft, x = .returned (.pointer (some ⟨d, 0, none⟩)) ∧ At d (newA rm) ft w' ∧ w.grownBy w' none ∧ ∀ i ∈ ft, w.heap.size ≤ i) := fun w => ab_new rm hrm w
  have N2 : Hid (∀ w, Calls Tryz.prog 5 #[.int .i64 (rm : Int)] w fun x w' => ∃ r fr, x = .returned (.pointer (some ⟨r, 0, none⟩)) ∧ RAt r (newR rm) fr w' ∧ w.grownBy w' none ∧ ∀ i ∈ fr, w.heap.size ≤ i) := fun w => ra_new rm hrm w
  have HD : Hid (∀ w1 w2 d r ft fr, At d (newA rm) ft w1 → w.grownBy w1 none → (∀ i ∈ ft, w.heap.size ≤ i) → RAt r (newR rm) fr w2 → w1.grownBy w2 none → (∀ i ∈ fr, w1.heap.size ≤ i) → Duo d r 0 (ft ++ fr) w2 ∧ Moved w w2 [] (ft ++ fr)) := fun w1 w2 d r ft fr h1 g1 n1 h2 g2 n2 => by
    refine ⟨⟨newA rm, newR rm, ⟨ft, fr, h1.grown g2, h2, fun i hi hh => ?_, rfl⟩, tie_new rm, sml_new hrm 0, Nat.zero_le _⟩, ?_⟩
    · have a1 := h1.lt i hi
      have a2 := n2 i hh
      omega
    · refine (Moved.of_grown (g1.trans g2)).wider (by simp) (fun i hi => .inr (.inr ?_))
      rcases List.mem_append.1 hi with h5 | h5
      · exact n1 i h5
      · have := n2 i h5
        have := g1.size
        omega
  have NL : Hid (∀ w1, Below w.heap.size w w1 → Calls Tryz.prog 6 #[.slice po l.length cap] w1 fun e w' => (∃ z : Bool, e = .returned (.bool z) ∧ (z = true → hvL l ≤ 250)) ∧ Below w1.heap.size w1 w') := fun w1 hb => light_any po l cap w1 (ha.below hb (Nat.le_refl _)) hl (fun c hc => (hok c hc).big)
  have HA : Hid (ASees w po l) := ha
  have HO : Hid (∀ c ∈ l, c.Ok w) := hok
  have hlz : (l.length : Int) ≤ 140737488355328 := by omega
  have GB : Hid (∀ w1, w.grownBy w1 none → Below w.heap.size w w1) := fun w1 hg => ⟨hg.os, hg.tape, hg.output, hg.size, fun i hi => hg.block i hi (by simp)⟩
  clear ha hok hr hl
  go_enter Tryz.func3, Tryz.ntmps3
  go_wp2_with (first
    | (go_at_call 4; go_fit (N1.out _); rintro x w1 ⟨d, ft, rfl, a1, g1, n1⟩)
    | (go_at_call 5; go_fit (N2.out _); rintro x w2 ⟨r, fr, rfl, a2, g2, n2⟩; obtain ⟨D0, M0⟩ := HD.out _ _ _ _ _ _ a1 g1 n1 a2 g2 n2; have b2 := GB.out _ (g1.trans g2))
    | (go_at_call 6; go_fit (NL.out _ b2); rintro x w4 ⟨⟨z, rfl, hzv⟩, hb4⟩; have HZ : Hid (z = true → hvL l ≤ 250) := hzv; clear hzv; cases z)
    | (go_at_call 7; go_fit (L.out _); rintro x w7 ⟨rfl, hb7⟩))
  · go_ret
    exact ⟨rfl, (b2.trans (hb4.mono b2.size)).trans (hb7.mono (Nat.le_trans b2.size hb4.size))⟩
  · have HV : Hid (hvL l ≤ 250) := by first | exact HZ.out rfl | exact HZ.out trivial
    have g4 := grown_of_below hb4
    have S1 : Hid (Duo d r 0 (ft ++ fr) w4 ∧ Moved w w4 [] (ft ++ fr)) := ⟨D0.moved (Moved.none_of g4 []) (by simp), M0.trans (Moved.none_of g4 _)⟩
    clear D0 M0 a1 a2 g1 g2 g4 n1 n2 HZ hb4 b2
    go_loopw [28] (fun s28 wr => ∃ (i : Nat) (fs : List Nat), i ≤ l.length ∧ s28 = .int .i64 (i : Int) ∧ Duo d r (hvL (l.take i)) fs wr ∧ Moved w wr [] fs) (fun s28 _ => l.length - (intOf s28).toNat)
    case atStart => exact ⟨0, _, by omega, rfl, by simpa [hvL] using S1.out.1, S1.out.2⟩
    case round =>
      obtain ⟨i, fs, hi, rfl, hD, hM⟩ := hrel
      clear S1
      have hv := HV.out
      have hbr : Below w.heap.size w wr := hM.below (Nat.le_refl _) (by simp)
      rcases Nat.lt_or_ge i l.length with hlt | hge
      · have hc : l[i]? = some l[i] := List.getElem?_eq_getElem hlt
        have hco := HO.out l[i] (List.getElem_mem hlt)
        have hst := hvL_step hc
        obtain ⟨b1, o1, rfl, h1⟩ := (HA.out.below hbr (Nat.le_refl _)).six hc
        have hiz : (i : Int) < (l.length : Int) := by omega
        generalize l[i] = c at *
        obtain ⟨k0, k1, k2, k3, k4, k5⟩ := h1
        obtain ⟨W0, hW0⟩ : ∃ W0, wr.alloc (.cells #[.int .i64 c.kind, .string c.sa, .string c.sb, .slice c.ao c.data.length c.cap, .int .i64 c.n, .int .i64 c.m] 31) = W0 := ⟨_, rfl⟩
        obtain ⟨b, hbb⟩ : ∃ b, wr.heap.size = b := ⟨_, rfl⟩
        have g0 : wr.grownBy W0 none := by rw [← hW0]; exact World.grownBy_alloc wr _ none
        have B0 : Blk W0 b [.int .i64 c.kind, .string c.sa, .string c.sb, .slice c.ao c.data.length c.cap, .int .i64 c.n, .int .i64 c.m] 31 := by rw [← hW0, ← hbb]; exact Blk.new wr _ _
        have hblt := B0.lt
        have hbf : b ∉ fs := fun hh => by have := hD.lt b hh; omega
        have hM0 : Moved w W0 [] fs := hM.trans (Moved.none_of g0 fs)
        have hfsw : ∀ j ∈ fs, w.heap.size ≤ j := fun j hj => (hM.news j hj).resolve_left (by simp)
        have hco0 : c.Ok W0 := ⟨hco.sees.kept fun p hp h0 => hM0.kept _ (hco.sees.lt hp h0) (by simp), hco.zero, hco.kind, hco.n, hco.m, hco.big⟩
        have hm250 : hvL (l.take (i + 1)) ≤ 251 := by have := hvL_take l (i + 1); omega
        have hD0 : Duo d r (hvL (l.take i)) fs W0.drew := hD.moved ((Moved.none_of g0 []).drew) (by simp)
        have ACT : Hid (Calls Tryz.prog 8 #[.pointer (some ⟨d, 0, none⟩), .pointer (some ⟨r, 0, none⟩), .agg #[.int .i64 c.kind, .string c.sa, .string c.sb, .slice c.ao c.data.length c.cap, .int .i64 c.n, .int .i64 c.m]] W0.drew fun x w' => x = .returned (.bool true) ∧ ∃ fs', Duo d r (hvL (l.take (i + 1))) fs' w' ∧ Moved W0.drew w' fs fs') := act_any hD0 c ⟨hco0.sees.kept fun p hp h0 => rfl, hco0.zero, hco0.kind, hco0.n, hco0.m, hco0.big⟩ (by omega) hm250 (fun p hp h0 hh => by have := hco.sees.lt hp h0; have := hfsw _ hh; omega)
        have HI : Hid (∀ u fs', Moved W0.drew u fs fs' → ∃ p : CB b W0.heap[b]?, u = p.u) := fun u fs' hm => ⟨⟨u, hm.kept b hblt hbf⟩, rfl⟩
        have AFT : Hid (∀ u fs', Duo d r (hvL (l.take (i + 1))) fs' u → Moved W0.drew u fs fs' → ∃ (A : Ab) (Q : RA) (nv : List ByteArray) (uv dv ov : Int) (bv : Bool), InBR b W0.heap[b]? d r A Q fs' u ∧ Hid (Tells b W0.heap[b]? d r A Q fs' nv uv dv ov bv)) := fun u fs' ⟨A, Q, hT, hE, hS, hf⟩ hm => ⟨A, Q, _, _, _, _, _, ⟨hT, hm.kept b hblt hbf, Nat.lt_of_lt_of_le hblt hm.size⟩, tells_any b W0.heap[b]? d r fs' hE hS hm250 hf⟩
        have FIN : Hid (∀ u u' fs', Duo d r (hvL (l.take (i + 1))) fs' u → Moved W0.drew u fs fs' → u.grownBy u' none → Duo d r (hvL (l.take (i + 1))) fs' u' ∧ Moved w u' [] fs') := fun u u' fs' h1 h2 h3 => ⟨h1.moved (Moved.none_of h3 []) (by simp), (hM0.drew.trans h2).trans (Moved.none_of h3 _)⟩
        have C0 : Hid (∃ p : CB b W0.heap[b]?, W0.drew = p.u) := ⟨⟨W0.drew, rfl⟩, rfl⟩
        have p80 : ∀ q : CB b W0.heap[b]?, q.u.cell? ⟨b, 0, none⟩ = some (.int .i64 c.kind) := fun q => q.cell rfl (B0.cell 0 rfl)
        have p81 : ∀ q : CB b W0.heap[b]?, q.u.cell? ⟨b, 1, none⟩ = some (.string c.sa) := fun q => q.cell rfl (B0.cell 1 rfl)
        have p82 : ∀ q : CB b W0.heap[b]?, q.u.cell? ⟨b, 2, none⟩ = some (.string c.sb) := fun q => q.cell rfl (B0.cell 2 rfl)
        have p83 : ∀ q : CB b W0.heap[b]?, q.u.cell? ⟨b, 3, none⟩ = some (.slice c.ao c.data.length c.cap) := fun q => q.cell rfl (B0.cell 3 rfl)
        have p84 : ∀ q : CB b W0.heap[b]?, q.u.cell? ⟨b, 4, none⟩ = some (.int .i64 c.n) := fun q => q.cell rfl (B0.cell 4 rfl)
        have p85 : ∀ q : CB b W0.heap[b]?, q.u.cell? ⟨b, 5, none⟩ = some (.int .i64 c.m) := fun q => q.cell rfl (B0.cell 5 rfl)
        haveI : Nonempty (CB b W0.heap[b]?) := ⟨⟨W0, rfl⟩⟩
        clear g0 B0 hblt hbf hM0 hfsw hco0 hm250 hD0 hD hM hbr hco hst hc
        go_wp2_with fail
        -- region 9
        refine wp_region_C (fun x => ∃ p : CB b W0.heap[b]?, x = p.u) 45 _ (by kernel_rfl) ?_ (fun _ _ h => h)
        refine anyC_pure 0 rfl (by kernel_rfl) (by kernel_rfl) (by kernel_rfl) C0.out (fun K hK => ?_)
        go_simp
        refine hK _ ?_
        clear hK K
        refine anyC_pure 1 rfl (by kernel_rfl) (by kernel_rfl) (by kernel_rfl) C0.out (fun K hK => ?_)
        go_simp
        refine hK _ ?_
        clear hK K
        refine anyC_pure 2 rfl (by kernel_rfl) (by kernel_rfl) (by kernel_rfl) C0.out (fun K hK => ?_)
        go_simp
        refine hK _ ?_
        clear hK K
        refine anyC_loud 3 (by kernel_rfl) ?_
        refine lou_of rfl (fun K hK => ?_)
        go_simp
        refine (ACT.out).mono ?_
        rintro e u1 ⟨rfl, fs1, hD1, hm1⟩
        obtain ⟨A, Q, nv, uv, dv, ov, bv, T1, V⟩ := AFT.out _ _ hD1 hm1
        refine hK _ _ ⟨fun _ => HI.out _ _ hm1, ?_⟩
        clear hK K
        refine anyC_pure 4 rfl (by kernel_rfl) (by kernel_rfl) (by kernel_rfl) (T1.cb) (fun K hK => ?_)
        go_simp
        refine hK _ ?_
        clear hK K
        refine anyC_pure 5 rfl (by kernel_rfl) (by kernel_rfl) (by kernel_rfl) (T1.cb) (fun K hK => ?_)
        go_simp
        refine hK _ ?_
        clear hK K
        refine anyC_pure 6 rfl (by kernel_rfl) (by kernel_rfl) (by kernel_rfl) (T1.cb) (fun K hK => ?_)
        go_simp
        refine hK _ ?_
        clear hK K
        refine anyC_pure 8 rfl (by kernel_rfl) (by kernel_rfl) (by kernel_rfl) (T1.cb) (fun K hK => ?_)
        go_simp
        refine hK _ ?_
        clear hK K
        refine anyC_loud 7 (by kernel_rfl) ?_
        refine lou_of rfl (fun K hK => ?_)
        go_simp
        refine (V.out.l1 _ T1).mono ?_
        rintro e u2 ⟨a2, c2, rfl, ts2, g2⟩
        have T2 := T1.grown g2
        refine hK _ _ ⟨fun _ => T2.cb, ?_⟩
        clear hK K
        refine anyC_loud 9 (by kernel_rfl) ?_
        refine lou_of rfl (fun K hK => ?_)
        go_simp
        refine (V.out.l2 _ T2).mono ?_
        rintro e u3 ⟨a3, c3, rfl, ts3, g3⟩
        have T3 := T2.grown g3
        have ts2b := ts2.grown g3
        refine hK _ _ ⟨fun _ => T3.cb, ?_⟩
        clear hK K
        refine anyC_loud 10 (by kernel_rfl) ?_
        refine lou_of rfl (fun K hK => ?_)
        go_simp
        refine (V.out.tx _ _ _ _ _ ts2b ts3).mono ?_
        rintro e u4 ⟨rfl, b4⟩
        have T4 := T3.grown (grown_of_below b4)
        refine hK _ _ ⟨fun _ => T4.cb, ?_⟩
        clear hK K
        refine anyC_pure 11 rfl (by kernel_rfl) (by kernel_rfl) (by kernel_rfl) T4.cb (fun K hK => ?_)
        go_simp
        refine hK _ ?_
        clear hK K
        refine anyC_pure 12 rfl (by kernel_rfl) (by kernel_rfl) (by kernel_rfl) T4.cb (fun K hK => ?_)
        go_simp
        refine hK _ ?_
        clear hK K
        refine anyC_pure 13 rfl (by kernel_rfl) (by kernel_rfl) (by kernel_rfl) T4.cb (fun K hK => ?_)
        go_simp
        refine hK _ ?_
        clear hK K
        refine anyC_pure 14 rfl (by kernel_rfl) (by kernel_rfl) (by kernel_rfl) T4.cb (fun K hK => ?_)
        go_simp
        refine hK _ ?_
        clear hK K
        refine anyC_pure 16 rfl (by kernel_rfl) (by kernel_rfl) (by kernel_rfl) T4.cb (fun K hK => ?_)
        go_simp
        refine hK _ ?_
        clear hK K
        refine anyC_loud 15 (by kernel_rfl) ?_
        refine lou_of rfl (fun K hK => ?_)
        go_simp
        refine (V.out.u1 _ T4).mono ?_
        rintro e u5 ⟨rfl, g5⟩
        have T5 := T4.grown g5
        refine hK _ _ ⟨fun _ => T5.cb, ?_⟩
        clear hK K
        refine anyC_loud 17 (by kernel_rfl) ?_
        refine lou_of rfl (fun K hK => ?_)
        go_simp
        refine (V.out.u2 _ T5).mono ?_
        rintro e u6 ⟨rfl, g6⟩
        have T6 := T5.grown g6
        refine hK _ _ ⟨fun _ => T6.cb, ?_⟩
        clear hK K
        refine anyC_pure 18 rfl (by kernel_rfl) (by kernel_rfl) (by kernel_rfl) T6.cb (fun K hK => ?_)
        go_simp
        refine hK _ ?_
        clear hK K
        refine anyC_pure 19 rfl (by kernel_rfl) (by kernel_rfl) (by kernel_rfl) T6.cb (fun K hK => ?_)
        go_simp
        refine hK _ ?_
        clear hK K
        refine anyC_pure 20 rfl (by kernel_rfl) (by kernel_rfl) (by kernel_rfl) T6.cb (fun K hK => ?_)
        go_simp
        refine hK _ ?_
        clear hK K
        refine anyC_pure 21 rfl (by kernel_rfl) (by kernel_rfl) (by kernel_rfl) T6.cb (fun K hK => ?_)
        go_simp
        refine hK _ ?_
        clear hK K
        refine anyC_pure 23 rfl (by kernel_rfl) (by kernel_rfl) (by kernel_rfl) T6.cb (fun K hK => ?_)
        go_simp
        refine hK _ ?_
        clear hK K
        refine anyC_loud 22 (by kernel_rfl) ?_
        refine lou_of rfl (fun K hK => ?_)
        go_simp
        refine (V.out.d1 _ T6).mono ?_
        rintro e u7 ⟨rfl, g7⟩
        have T7 := T6.grown g7
        refine hK _ _ ⟨fun _ => T7.cb, ?_⟩
        clear hK K
        refine anyC_loud 24 (by kernel_rfl) ?_
        refine lou_of rfl (fun K hK => ?_)
        go_simp
        refine (V.out.d2 _ T7).mono ?_
        rintro e u8 ⟨rfl, g8⟩
        have T8 := T7.grown g8
        have r4 := (V.out.o2 _ T8).1
        have r3 := (V.out.o2 _ T8).2
        refine hK _ _ ⟨fun _ => T8.cb, ?_⟩
        clear hK K
        refine anyC_pure 25 rfl (by kernel_rfl) (by kernel_rfl) (by kernel_rfl) T8.cb (fun K hK => ?_)
        go_simp
        refine hK _ ?_
        clear hK K
        refine anyC_pure 26 rfl (by kernel_rfl) (by kernel_rfl) (by kernel_rfl) T8.cb (fun K hK => ?_)
        go_simp
        refine hK _ ?_
        clear hK K
        refine anyC_pure 27 rfl (by kernel_rfl) (by kernel_rfl) (by kernel_rfl) T8.cb (fun K hK => ?_)
        go_simp
        refine hK _ ?_
        clear hK K
        refine anyC_pure 28 rfl (by kernel_rfl) (by kernel_rfl) (by kernel_rfl) T8.cb (fun K hK => ?_)
        go_simp
        refine hK _ ?_
        clear hK K
        refine anyC_pure 30 rfl (by kernel_rfl) (by kernel_rfl) (by kernel_rfl) T8.cb (fun K hK => ?_)
        go_simp
        refine hK _ ?_
        clear hK K
        refine anyC_pure 31 rfl (by kernel_rfl) (by kernel_rfl) (by kernel_rfl) T8.cb (fun K hK => ?_)
        go_simp
        refine hK _ ?_
        clear hK K
        refine anyC_pure 32 rfl (by kernel_rfl) (by kernel_rfl) (by kernel_rfl) T8.cb (fun K hK => ?_)
        go_simp
        refine hK _ ?_
        clear hK K
        refine anyC_loud2 29 33 (by kernel_rfl) ?_ ?_
        · skip
          refine lou_of rfl (fun K hK => ?_)
          go_simp
          refine (V.out.o1 _ T8).mono ?_
          rintro e _ ⟨rfl, rfl⟩
          refine hK _ _ ⟨fun _ => T8.cb, ?_⟩
          clear hK K
          refine anyC_loud 33 (by kernel_rfl) ?_
          refine lou_of rfl (fun K hK => ?_)
          go_simp
          refine hK _ _ ⟨fun _ => T8.cb, ?_⟩
          clear hK K
          refine anyC_pure 34 rfl (by kernel_rfl) (by kernel_rfl) (by kernel_rfl) T8.cb (fun K hK => ?_)
          go_simp
          refine hK _ ?_
          clear hK K
          refine anyC_pure 35 rfl (by kernel_rfl) (by kernel_rfl) (by kernel_rfl) T8.cb (fun K hK => ?_)
          go_simp
          refine hK _ ?_
          clear hK K
          refine anyC_pure 36 rfl (by kernel_rfl) (by kernel_rfl) (by kernel_rfl) T8.cb (fun K hK => ?_)
          go_simp
          refine hK _ ?_
          clear hK K
          refine anyC_pure 37 rfl (by kernel_rfl) (by kernel_rfl) (by kernel_rfl) T8.cb (fun K hK => ?_)
          go_simp
          refine hK _ ?_
          clear hK K
          refine anyC_pure 39 rfl (by kernel_rfl) (by kernel_rfl) (by kernel_rfl) T8.cb (fun K hK => ?_)
          go_simp
          refine hK _ ?_
          clear hK K
          refine anyC_pure 40 rfl (by kernel_rfl) (by kernel_rfl) (by kernel_rfl) T8.cb (fun K hK => ?_)
          go_simp
          refine hK _ ?_
          clear hK K
          refine anyC_pure 41 rfl (by kernel_rfl) (by kernel_rfl) (by kernel_rfl) T8.cb (fun K hK => ?_)
          go_simp
          refine hK _ ?_
          clear hK K
          refine anyC_loud2 38 42 (by kernel_rfl) ?_ ?_
          · skip
            refine lou_of rfl (fun K hK => ?_)
            go_simp
            refine (V.out.n1 _ T8).mono ?_
            rintro e _ ⟨rfl, rfl⟩
            refine hK _ _ ⟨fun _ => T8.cb, ?_⟩
            clear hK K
            refine anyC_loud 42 (by kernel_rfl) ?_
            refine lou_of rfl (fun K hK => ?_)
            go_simp
            refine hK _ _ ⟨fun _ => T8.cb, ?_⟩
            clear hK K
            refine anyC_pure 43 rfl (by kernel_rfl) (by kernel_rfl) (by kernel_rfl) T8.cb (fun K hK => ?_)
            go_simp
            refine hK _ ?_
            clear hK K
            refine anyC_pure 44 rfl (by kernel_rfl) (by kernel_rfl) (by kernel_rfl) T8.cb (fun K hK => ?_)
            go_simp
            refine hK _ ?_
            clear hK K
            refine anyC_done (by kernel_rfl) ?_
            go_wp2_with fail
            go_roundw
            case rel => exact ⟨i + 1, fs1, by omega, by go_num, (FIN.out _ _ _ hD1 hm1 (((((((World.grownBy.refl u1 _).trans g2).trans g3).trans (grown_of_below b4)).trans g5).trans g6).trans g7 |>.trans g8)).1, (FIN.out _ _ _ hD1 hm1 (((((((World.grownBy.refl u1 _).trans g2).trans g3).trans (grown_of_below b4)).trans g5).trans g6).trans g7 |>.trans g8)).2⟩
            case measure => (simp [intOf]; try omega)
          · skip
            refine lou_of rfl (fun K hK => ?_)
            go_simp
            refine hK _ _ ⟨fun _ => T8.cb, ?_⟩
            clear hK K
            refine anyC_loud 38 (by kernel_rfl) ?_
            refine lou_of rfl (fun K hK => ?_)
            go_simp
            refine (V.out.n1 _ T8).mono ?_
            rintro e _ ⟨rfl, rfl⟩
            refine hK _ _ ⟨fun _ => T8.cb, ?_⟩
            clear hK K
            refine anyC_pure 43 rfl (by kernel_rfl) (by kernel_rfl) (by kernel_rfl) T8.cb (fun K hK => ?_)
            go_simp
            refine hK _ ?_
            clear hK K
            refine anyC_pure 44 rfl (by kernel_rfl) (by kernel_rfl) (by kernel_rfl) T8.cb (fun K hK => ?_)
            go_simp
            refine hK _ ?_
            clear hK K
            refine anyC_done (by kernel_rfl) ?_
            go_wp2_with fail
            go_roundw
            case rel => exact ⟨i + 1, fs1, by omega, by go_num, (FIN.out _ _ _ hD1 hm1 (((((((World.grownBy.refl u1 _).trans g2).trans g3).trans (grown_of_below b4)).trans g5).trans g6).trans g7 |>.trans g8)).1, (FIN.out _ _ _ hD1 hm1 (((((((World.grownBy.refl u1 _).trans g2).trans g3).trans (grown_of_below b4)).trans g5).trans g6).trans g7 |>.trans g8)).2⟩
            case measure => (simp [intOf]; try omega)
        · skip
          refine lou_of rfl (fun K hK => ?_)
          go_simp
          refine hK _ _ ⟨fun _ => T8.cb, ?_⟩
          clear hK K
          refine anyC_loud 29 (by kernel_rfl) ?_
          refine lou_of rfl (fun K hK => ?_)
          go_simp
          refine (V.out.o1 _ T8).mono ?_
          rintro e _ ⟨rfl, rfl⟩
          refine hK _ _ ⟨fun _ => T8.cb, ?_⟩
          clear hK K
          refine anyC_pure 34 rfl (by kernel_rfl) (by kernel_rfl) (by kernel_rfl) T8.cb (fun K hK => ?_)
          go_simp
          refine hK _ ?_
          clear hK K
          refine anyC_pure 35 rfl (by kernel_rfl) (by kernel_rfl) (by kernel_rfl) T8.cb (fun K hK => ?_)
          go_simp
          refine hK _ ?_
          clear hK K
          refine anyC_pure 36 rfl (by kernel_rfl) (by kernel_rfl) (by kernel_rfl) T8.cb (fun K hK => ?_)
          go_simp
          refine hK _ ?_
          clear hK K
          refine anyC_pure 37 rfl (by kernel_rfl) (by kernel_rfl) (by kernel_rfl) T8.cb (fun K hK => ?_)
          go_simp
          refine hK _ ?_
          clear hK K
          refine anyC_pure 39 rfl (by kernel_rfl) (by kernel_rfl) (by kernel_rfl) T8.cb (fun K hK => ?_)
          go_simp
          refine hK _ ?_
          clear hK K
          refine anyC_pure 40 rfl (by kernel_rfl) (by kernel_rfl) (by kernel_rfl) T8.cb (fun K hK => ?_)
          go_simp
          refine hK _ ?_
          clear hK K
          refine anyC_pure 41 rfl (by kernel_rfl) (by kernel_rfl) (by kernel_rfl) T8.cb (fun K hK => ?_)
          go_simp
          refine hK _ ?_
          clear hK K
          refine anyC_loud2 38 42 (by kernel_rfl) ?_ ?_
          · skip
            refine lou_of rfl (fun K hK => ?_)
            go_simp
            refine (V.out.n1 _ T8).mono ?_
            rintro e _ ⟨rfl, rfl⟩
            refine hK _ _ ⟨fun _ => T8.cb, ?_⟩
            clear hK K
            refine anyC_loud 42 (by kernel_rfl) ?_
            refine lou_of rfl (fun K hK => ?_)
            go_simp
            refine hK _ _ ⟨fun _ => T8.cb, ?_⟩
            clear hK K
            refine anyC_pure 43 rfl (by kernel_rfl) (by kernel_rfl) (by kernel_rfl) T8.cb (fun K hK => ?_)
            go_simp
            refine hK _ ?_
            clear hK K
            refine anyC_pure 44 rfl (by kernel_rfl) (by kernel_rfl) (by kernel_rfl) T8.cb (fun K hK => ?_)
            go_simp
            refine hK _ ?_
            clear hK K
            refine anyC_done (by kernel_rfl) ?_
            go_wp2_with fail
            go_roundw
            case rel => exact ⟨i + 1, fs1, by omega, by go_num, (FIN.out _ _ _ hD1 hm1 (((((((World.grownBy.refl u1 _).trans g2).trans g3).trans (grown_of_below b4)).trans g5).trans g6).trans g7 |>.trans g8)).1, (FIN.out _ _ _ hD1 hm1 (((((((World.grownBy.refl u1 _).trans g2).trans g3).trans (grown_of_below b4)).trans g5).trans g6).trans g7 |>.trans g8)).2⟩
            case measure => (simp [intOf]; try omega)
          · skip
            refine lou_of rfl (fun K hK => ?_)
            go_simp
            refine hK _ _ ⟨fun _ => T8.cb, ?_⟩
            clear hK K
            refine anyC_loud 38 (by kernel_rfl) ?_
            refine lou_of rfl (fun K hK => ?_)
            go_simp
            refine (V.out.n1 _ T8).mono ?_
            rintro e _ ⟨rfl, rfl⟩
            refine hK _ _ ⟨fun _ => T8.cb, ?_⟩
            clear hK K
            refine anyC_pure 43 rfl (by kernel_rfl) (by kernel_rfl) (by kernel_rfl) T8.cb (fun K hK => ?_)
            go_simp
            refine hK _ ?_
            clear hK K
            refine anyC_pure 44 rfl (by kernel_rfl) (by kernel_rfl) (by kernel_rfl) T8.cb (fun K hK => ?_)
            go_simp
            refine hK _ ?_
            clear hK K
            refine anyC_done (by kernel_rfl) ?_
            go_wp2_with fail
            go_roundw
            case rel => exact ⟨i + 1, fs1, by omega, by go_num, (FIN.out _ _ _ hD1 hm1 (((((((World.grownBy.refl u1 _).trans g2).trans g3).trans (grown_of_below b4)).trans g5).trans g6).trans g7 |>.trans g8)).1, (FIN.out _ _ _ hD1 hm1 (((((((World.grownBy.refl u1 _).trans g2).trans g3).trans (grown_of_below b4)).trans g5).trans g6).trans g7 |>.trans g8)).2⟩
            case measure => (simp [intOf]; try omega)
        -- behind region 9
      · obtain rfl : i = l.length := by omega
        have hiz : ¬ (l.length : Int) < (l.length : Int) := by omega
        go_wp2_with (go_at_call 7; go_fit (L.out _); rintro x w7 ⟨rfl, hb7⟩)
        go_ret
        exact ⟨rfl, hbr.trans (hb7.mono hbr.size)⟩
end Go.Proofs.YtoeoioigelknnaaGreat
