/-
  CONTRACTS: the comparison of two points (the closure of build); the points, sorted by the library; build.
-/
import Derived.Test.YtcnceipkoapcpaaDoorRngName
import Derived.Test.YtcnceipkoapcpaaDoorTirShelf
import Derived.Test.YtcnceipkoapcpaaDoorLoud
namespace Go.Proofs.YtcnceipkoapcpaaDoor
open Go.RowKit Go.Lib Go.Sort

attribute [local go_sem] Oper.pureAt Oper.pureUpon

/-- Which of two points comes first. -/
def cfP (x y : Pt) : Int := if Lib.compareInt x.tok y.tok ≠ 0 then Lib.compareInt x.tok y.tok else Lib.compareInt x.nd y.nd
theorem ltP (x y : Pt) : decide (cfP x y < 0) = !leP y x := by
  unfold cfP Lib.compareInt leP
  obtain ⟨a, i⟩ := x
  obtain ⟨b, j⟩ := y
  simp only
  by_cases h1 : a < b
  · have h3 : ¬ (b < a ∨ b = a ∧ j ≤ i) := by omega
    simp [h1, h3]
  · by_cases h2 : b < a
    · simp [h1, h2]
    · obtain rfl : a = b := by omega
      by_cases h5 : i < j
      · have h6 : (i : Int) < (j : Int) := by omega
        have h7 : ¬ j ≤ i := by omega
        simp [h6, h7]
      · by_cases h8 : j < i
        · have h6 : (j : Int) < (i : Int) := by omega
          have h9 : ¬ (i : Int) < (j : Int) := by omega
          have h7 : j ≤ i := by omega
          simp [h6, h7, h9]
        · obtain rfl : i = j := by omega
          simp
theorem swoP : SWO (ltOf cfP) where
  irrefl x := by
    unfold ltOf; rw [ltP]
    have := leP_total x x
    simpa using this
  trans x y z h1 h2 := by
    unfold ltOf at *; rw [ltP] at *
    have t1 := leP_total x y
    have t2 := leP_total y z
    simp only [Bool.not_eq_true'] at *
    simp only [h1, h2, Bool.or_false] at t1 t2
    by_cases h3 : leP z x = true
    · have h4 := leP_trans _ _ _ h3 t1
      rw [h2] at h4; cases h4
    · simpa using h3
  ntrans x y z h1 h2 := by
    unfold ltOf at *; rw [ltP] at *
    simp only [Bool.not_eq_false'] at *
    exact leP_trans _ _ _ h2 h1
def orI (x1 x2 : Int) : Int := if x1 ≠ 0 then x1 else x2
set_option maxRecDepth 100000 in
set_option maxHeartbeats 1000000 in
theorem orP_any (w1 : World) (b : Nat) (x1 x2 : Int) (c0 : w1.cell? ⟨b, 0, none⟩ = some (.int .i64 x1)) (c1 : w1.cell? ⟨b, 1, none⟩ = some (.int .i64 x2)) : Calls Tryd.prog 39 #[.slice (some ⟨b, 0, none⟩) 2 2] w1 fun e w' => e = .returned (.int .i64 (orI x1 x2)) ∧ w' = w1 := by
  by_cases h1 : x1 = 0
  · have HE : Hid (orI x1 x2 = x2) := if_neg (fun h => h h1)
    generalize orI x1 x2 = R at *
    subst h1
    by_cases h2 : x2 = 0
    · subst h2
      go_enter Tryd.func39, Tryd.ntmps39
      go_wp2_with fail
      refine wp_loop_rounds 3 ?_
      rw [rounds_succ]
      go_wp2_with fail
      rw [rounds_succ]
      go_wp2_with fail
      rw [rounds_succ]
      go_wp2_with fail
      go_ret
      exact ⟨ret_int HE.out.symm, rfl⟩
    · go_enter Tryd.func39, Tryd.ntmps39
      go_wp2_with fail
      refine wp_loop_rounds 2 ?_
      rw [rounds_succ]
      go_wp2_with fail
      rw [rounds_succ]
      go_wp2_with fail
      go_ret
      exact ⟨ret_int HE.out.symm, rfl⟩
  · have HE : Hid (orI x1 x2 = x1) := if_pos h1
    generalize orI x1 x2 = R at *
    go_enter Tryd.func39, Tryd.ntmps39
    go_wp2_with fail
    refine wp_loop_rounds 1 ?_
    rw [rounds_succ]
    go_wp2_with fail
    go_ret
    exact ⟨ret_int HE.out.symm, rfl⟩
theorem grow_three (w : World) (a b c : Obj) : ∃ q os, (((w.alloc a).alloc b).alloc c).drew = grow (w.drewN q) os := by
  refine ⟨1, #[a, b] ++ #[c], ?_⟩
  rw [alloc_eq_grow, alloc_eq_grow, alloc_eq_grow, grow_grow, grow_grow]
  rfl
set_option maxRecDepth 100000 in
set_option maxHeartbeats 2000000 in
theorem cmpP_any (x y : Pt) (w : World) : Calls Tryd.prog 38 #[.agg #[.int .i64 x.tok, .int .i64 (x.nd : Int)], .agg #[.int .i64 y.tok, .int .i64 (y.nd : Int)]] w fun e w' => e = .returned (.int .i64 (cfP x y)) ∧ ∃ q os, w' = grow (w.drewN q) os := by
  obtain ⟨a, i⟩ := x
  obtain ⟨b, j⟩ := y
  have HC : Hid (cfP ⟨a, i⟩ ⟨b, j⟩ = orI (Lib.compareInt a b) (Lib.compareInt i j)) := rfl
  have T3 : Hid (∀ (x y : Int) (w : World), Calls Tryd.prog 40 #[.int .i64 x, .int .i64 y] w fun e w' => e = .returned (.int .i64 (Lib.compareInt x y)) ∧ w' = w) := fun x y w => Tryd.cmp_Compare_int x y w
  have O2 : Hid (∀ (w : World) (x1 x2 : Int), Calls Tryd.prog 39 #[.slice (some ⟨w.heap.size, 0, none⟩) 2 2] (w.alloc (.cells #[.int .i64 x1, .int .i64 x2] 3)).drew fun e w' => e = .returned (.int .i64 (orI x1 x2)) ∧ w' = (w.alloc (.cells #[.int .i64 x1, .int .i64 x2] 3)).drew) := fun w x1 x2 =>
    orP_any _ _ x1 x2 ((Blk.new w [.int .i64 x1, .int .i64 x2] 3).cell 0 rfl) ((Blk.new w [.int .i64 x1, .int .i64 x2] 3).cell 1 rfl)
  obtain ⟨wa, hwa⟩ : ∃ wa, wa = (w.alloc (.cells #[.int .i64 a, .int .i64 (i : Int)] 40)).alloc (.cells #[.int .i64 b, .int .i64 (j : Int)] 40) := ⟨_, rfl⟩
  have HG : Hid (∀ o, ∃ q os, (wa.alloc o).drew = grow (w.drewN q) os) := fun o => by rw [hwa]; exact grow_three _ _ _ _
  have hsz : wa.heap.size = w.heap.size + 2 := by rw [hwa]; simp
  have b1 : Blk wa w.heap.size [.int .i64 a, .int .i64 (i : Int)] 40 := by rw [hwa]; exact (Blk.new w [.int .i64 a, .int .i64 (i : Int)] 40).alloc _
  have b2 : Blk wa (w.heap.size + 1) [.int .i64 b, .int .i64 (j : Int)] 40 := by
    rw [hwa]
    have := Blk.new (w.alloc (.cells #[.int .i64 a, .int .i64 (i : Int)] 40)) [.int .i64 b, .int .i64 (j : Int)] 40
    rwa [World.size_alloc] at this
  have p0 : ∀ q : Cl wa.heap.size wa, q.u.cell? ⟨w.heap.size, 0, none⟩ = some (.int .i64 a) := fun q => q.cell (by show w.heap.size < _; omega) (b1.cell 0 rfl)
  have p1 : ∀ q : Cl wa.heap.size wa, q.u.cell? ⟨w.heap.size, 1, none⟩ = some (.int .i64 (i : Int)) := fun q => q.cell (by show w.heap.size < _; omega) (b1.cell 1 rfl)
  have p2 : ∀ q : Cl wa.heap.size wa, q.u.cell? ⟨w.heap.size + 1, 0, none⟩ = some (.int .i64 b) := fun q => q.cell (by show w.heap.size + 1 < _; omega) (b2.cell 0 rfl)
  have p3 : ∀ q : Cl wa.heap.size wa, q.u.cell? ⟨w.heap.size + 1, 1, none⟩ = some (.int .i64 (j : Int)) := fun q => q.cell (by show w.heap.size + 1 < _; omega) (b2.cell 1 rfl)
  simp only
  clear b1 b2 hsz
  haveI := Cl.inh wa.heap.size wa
  go_enter Tryd.func38, Tryd.ntmps38
  go_wp2_with fail
  rw [← hwa]
  clear hwa
  have g1 : Below wa.heap.size wa wa.drew := (Below.refl _ _).drew
  refine wp_region_sched (fun w' => ∃ p : Cl wa.heap.size wa, w' = p.u) [(0, true), (1, true), (2, true), (3, true), (5, true), (6, true), (7, true), (8, true), (4, false), (9, false), (10, false), (11, false), (12, true)] rfl (by kernel_rfl) (by kernel_rfl) (by kernel_rfl) ⟨⟨_, g1⟩, rfl⟩ ?_
  iterate 8 (refine sched_pure rfl (fun K hK => ?_); go_simp; refine hK _ ?_; clear hK K)
  refine sched_loud rfl (fun K hK => ?_)
  go_simp
  refine (T3.out _ _ _).mono ?_
  rintro e u1 ⟨rfl, rfl⟩
  refine hK _ _ ⟨⟨_, g1⟩, rfl⟩ ?_
  clear hK K
  refine sched_loud rfl (fun K hK => ?_)
  go_simp
  refine (T3.out _ _ _).mono ?_
  rintro e u2 ⟨rfl, rfl⟩
  refine hK _ _ ⟨⟨_, g1⟩, rfl⟩ ?_
  clear hK K
  refine sched_loud rfl (fun K hK => ?_)
  go_simp
  refine hK _ _ ⟨⟨_, (((Below.refl _ _).alloc (Nat.le_refl _) _).drew)⟩, rfl⟩ ?_
  clear hK K
  refine sched_loud rfl (fun K hK => ?_)
  go_simp
  refine (O2.out _ _ _).mono ?_
  rintro e u3 ⟨rfl, rfl⟩
  refine hK _ _ ⟨⟨_, (((Below.refl _ _).alloc (Nat.le_refl _) _).drew)⟩, rfl⟩ ?_
  clear hK K
  refine sched_pure rfl (fun K hK => ?_)
  go_simp
  refine hK _ ?_
  clear hK K
  refine sched_nil ?_
  go_wp2_with fail
  go_ret
  exact ⟨ret_int HC.out.symm, HG.out _⟩
section
variable {w : World} {g n : Nat} {d : Array Pt} {os : Array Obj}
theorem other_swP {k : Nat} (hk : k < w.heap.size) (hne : k ≠ g) : (sortWorldK ptV 2 w g 0 n d os).heap[k]? = w.heap[k]? := by
  unfold sortWorldK putRowK
  rw [heap_grow_old _ _ (by simpa using hk)]
  have : g ≠ k := fun e => hne e.symm
  simp [putRow, mapBlock, Sort.ahead, Array.getElem?_modify, this]
theorem grown_swP : w.grownBy (sortWorldK ptV 2 w g 0 n d os) (some g) :=
  ⟨rfl, rfl, rfl, by unfold sortWorldK putRowK; simp, fun k hk hne => other_swP hk fun e => hne (by rw [e])⟩
end
theorem holds_pts {w : World} {base g cap : Nat} {l : List Pt} (h : w.ownsRow base 40 2 (.slice (some ⟨g, 0, none⟩) l.length cap) l.length (ptsV l)) : HoldsK ptV 2 w g 0 l.toArray := by
  intro j hj
  have hj2 : j < l.length * 2 := by simpa using hj
  have hi : j / 2 < l.length := by omega
  rw [Nat.zero_add]
  refine ⟨?_, h.frozenAt j⟩
  rw [h.cellAt j hj2, get_flatK _ _ _ j (by simpa using hj2)]
  have hx : l[j / 2]? = some l[j / 2] := List.getElem?_eq_getElem hi
  have e1 : l.toArray[j / 2]! = l[j / 2] := by simp [hi]
  rw [e1]
  rcases Nat.mod_two_eq_zero_or_one j with h0 | h0
  · have := flat_at ptV_len l (j / 2) 0 _ _ hx rfl
    have ej : j / 2 * 2 + 0 = j := by omega
    rw [ej] at this
    rw [ptsV, this, h0]
    rfl
  · have := flat_at ptV_len l (j / 2) 1 _ _ hx rfl
    have ej : j / 2 * 2 + 1 = j := by omega
    rw [ej] at this
    rw [ptsV, this, h0]
    rfl
theorem isAggPt (w : World) : (isAgg 40).run Tryd.prog w = .ok true w := by kernel_rfl
theorem sizePt (w : World) : (Go.sizeOf 40).run Tryd.prog w = .ok 2 w := by kernel_rfl
theorem sortP_any {w : World} {base g cap : Nat} {l : List Pt} (h : w.ownsRow base 40 2 (.slice (some ⟨g, 0, none⟩) l.length cap) l.length (ptsV l)) (hl : l.length ≤ 1000000) :
    Calls Tryd.prog 37 #[.slice (some ⟨g, 0, none⟩) l.length cap, .func (.func 38) #[] #[]] w fun e w' => e = .returned (.tuple #[]) ∧ PSees w' (some ⟨g, 0, none⟩) (srtP l) ∧ w.grownBy w' (some g) := by
  have eg : ∀ args w, (callFunc 38 args).run Tryd.prog w = .ok (.enter 38 args) w := enters_of Tryd.func38 (by kernel_rfl) rfl
  have hH := holds_pts h
  have hlt : g < w.heap.size := (h.lt g rfl).2
  have C := AnyQ.slices_SortFunc_total Tryd.sortP 2 isAggPt sizePt ptV ptV_len ptV_one cfP swoP 38 #[] g 0 cap l.toArray w eg (fun m os dk _ x y => cmpP_any x y _) hH hlt (by simp; omega) (by
    intro x y h1 h2
    unfold ltOf at h1 h2
    rw [ltP] at h1 h2
    simp only [Bool.not_eq_false'] at h1 h2
    exact leP_anti _ _ h2 h1)
  have es : l.toArray.size = l.length := by simp
  rw [es] at C
  refine C.mono ?_
  rintro e w' ⟨rfl, n, os, rfl⟩
  have ef : (fun x y : Pt => !(ltOf cfP) y x) = leP := by
    funext x y
    unfold ltOf
    rw [ltP, Bool.not_not]
  rw [ef]
  have e2 : l.toArray.toList.mergeSort leP = srtP l := rfl
  rw [e2]
  refine ⟨rfl, fun i p hp => ⟨g, rfl, ?_⟩, grown_swP⟩
  have hs : (srtP l).toArray.size = l.toArray.size := by simp [srtP_len]
  have hK := holdsK_sortWorldK ptV 2 w g 0 n l.toArray (srtP l).toArray os hlt hH hs
  have hi : i < (srtP l).length := (List.getElem?_eq_some_iff.1 hp).1
  have hp2 : (srtP l).toArray[i]! = p := by simp [hp]
  have c0 := (hK.cell (i := i) (c := 0) (by simpa using hi) (by omega)).1
  have c1 := (hK.cell (i := i) (c := 1) (by simpa using hi) (by omega)).1
  rw [hp2] at c0 c1
  simp only [Nat.zero_add, Nat.add_zero] at c0 c1
  exact ⟨c0, c1⟩
/-- Only what lies from a block on was written. -/
theorem grown_below {w w' : World} {g B : Nat} (h : w.grownBy w' (some g)) (hg : B ≤ g) (hB : B ≤ w.heap.size) : Below B w w' :=
  ⟨h.os, h.tape, h.output, h.size, fun k hk => h.block k (by omega) (fun e => by injection e with e; omega)⟩
set_option maxRecDepth 100000 in
theorem buildR_any {w : World} {base : Nat} {v : Value} {l : List Pt} (h : w.ownsRow base 40 2 v l.length (ptsV l)) (h0 : 0 < l.length) (hl : l.length ≤ 40) (c : Nat) (hbs : base ≤ w.heap.size) :
    Calls Tryd.prog 26 #[v, .int .i64 (c : Int)] w fun e w' => ∃ r, e = .returned (.pointer (some ⟨r, 0, none⟩)) ∧ RgAt w' 48 r (srtP l) c ∧ w.heap.size ≤ r ∧ Below base w w' := by
  obtain ⟨ao, cap, rfl, _, hP, hn⟩ := PSees.of_owns h
  obtain ⟨g, rfl, -⟩ := hP 0 _ (List.getElem?_eq_getElem h0)
  have hg := (h.lt g rfl).1
  have S : Hid (Calls Tryd.prog 37 #[.slice (some ⟨g, 0, none⟩) l.length cap, .func (.func 38) #[] #[]] w fun e w' => e = .returned (.tuple #[]) ∧ PSees w' (some ⟨g, 0, none⟩) (srtP l) ∧ w.grownBy w' (some g)) := sortP_any h (by omega)
  have HE : Hid (∀ w1 : World, PSees w1 (some ⟨g, 0, none⟩) (srtP l) → w.grownBy w1 (some g) → RgAt (w1.alloc (.cells #[.slice (some ⟨g, 0, none⟩) l.length cap, .int .i64 (c : Int)] 48)) 48 w1.heap.size (srtP l) c ∧ w.heap.size ≤ w1.heap.size ∧ Below base w (w1.alloc (.cells #[.slice (some ⟨g, 0, none⟩) l.length cap, .int .i64 (c : Int)] 48))) := fun w1 h1 h2 => by
    refine ⟨⟨g, cap, ?_, h1.below ((Below.refl _ _).alloc (Nat.le_refl _) _) (Nat.le_refl _)⟩, h2.size, (grown_below h2 hg hbs).alloc (Nat.le_trans hbs h2.size) _⟩
    rw [srtP_len]
    exact Blk.new w1 _ _
  clear h hP hn
  go_enter Tryd.func26, Tryd.ntmps26
  go_wp2_with (go_at_call 37; refine S.out.mono ?_; rintro e w1 ⟨rfl, h1, h2⟩)
  obtain ⟨k1, k2, k3⟩ := HE.out w1 h1 h2
  go_ret
  exact ⟨_, rfl, k1, k2, k3⟩
end Go.Proofs.YtcnceipkoapcpaaDoor
