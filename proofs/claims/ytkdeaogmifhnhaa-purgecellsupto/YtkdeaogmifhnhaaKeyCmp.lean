/-
  CONTRACTS: how two keys compare, by the program and by the document.
-/
import Derived.Test.YtkdeaogmifhnhaaChecked
import Derived.Test.YtkdeaogmifhnhaaKeyPlain
import Derived.Test.YtkdeaogmifhnhaaKeyShelf
import Derived.Test.YtkdeaogmifhnhaaOwn
import Derived.WalkKit
import Derived.Laws.Cover1
import Derived.StillTailTactics
namespace Go.Proofs.Ytkdeaogmifhnhaa
open Go.RowKit

/-- A text's bytes. -/
def nb (s : ByteArray) : List UInt8 := s.data.toList
def strB (l : List UInt8) : ByteArray := ⟨l.toArray⟩
theorem strB_nb (s : ByteArray) : strB (nb s) = s := by obtain ⟨a⟩ := s; simp [strB, nb]
theorem nb_strB (l : List UInt8) : nb (strB l) = l := by simp [strB, nb]
theorem nb_size (s : ByteArray) : (nb s).length = s.size := by show s.data.toList.length = s.data.size; exact Array.length_toList
theorem nb_inj {a b : ByteArray} : nb a = nb b ↔ a = b := ⟨fun h => by rw [← strB_nb a, h, strB_nb], fun h => by rw [h]⟩
theorem ba_list (s : ByteArray) : s.toList = nb s := Go.ByteArray.toList_eq s
theorem ba_same (a b : ByteArray) : (a.toList == b.toList) = decide (a = b) := by
  rw [ba_list, ba_list]
  by_cases h : a = b
  · simp [h]
  · simp only [h, decide_false, beq_eq_false_iff_ne]; exact fun e => h (nb_inj.1 e)
theorem ba_less (a b : ByteArray) : Op.bytesLess a.toList b.toList = decide (cb (nb a) (nb b) = -1) := by
  rw [ba_list, ba_list]; exact less_cb _ _


/-! ### Of numbers, the first that is not 0 -/
def fu : List Int → Int
  | [] => 0
  | x :: l => th x (fu l)
theorem fu_skip : ∀ (k : Nat) (l : List Int), (∀ j, j < k → l.getD j 0 = 0) → fu l = fu (l.drop k)
  | 0, _, _ => rfl
  | k + 1, [], _ => rfl
  | k + 1, x :: l, h => by
    have h0 : x = 0 := by have := h 0 (by omega); simpa using this
    subst h0
    rw [fu, th_zero, List.drop_succ_cons]
    exact fu_skip k l fun j hj => by have := h (j + 1) (by omega); simpa using this
theorem fu_at (k : Nat) (l : List Int) (h : ∀ j, j < k → l.getD j 0 = 0) (hk : k < l.length) (hn : l.getD k 0 ≠ 0) : fu l = l.getD k 0 := by
  rw [fu_skip k l h, List.drop_eq_getElem_cons hk, fu]
  have : l.getD k 0 = l[k] := by simp [List.getD, hk]
  rw [this] at hn ⊢
  exact th_of hn _
theorem zero_snoc {l : List Int} {k : Nat} (h : ∀ j, j < k → l.getD j 0 = 0) (h0 : l.getD k 0 = 0) : ∀ j, j < k + 1 → l.getD j 0 = 0 := by
  intro j hj
  rcases Nat.lt_or_ge j k with g | g
  · exact h j g
  · have : j = k := by omega
    rw [this]; exact h0
theorem firstUnlike_any (a : Addr) (l : List Int) (cap : Nat) (w : World) (h : ∀ i, i < l.length → w.cell? (a.add i) = some (.int .i64 (l.getD i 0))) (hl : l.length ≤ 1000000) :
    Calls Try.prog 57 #[.slice (some a) l.length cap] w fun x w' => x = .returned (.int .i64 (fu l)) ∧ w' = w := by
  have hl' : (l.length : Int) ≤ 1000000 := by omega
  go_enter Try.func57, Try.ntmps57
  go_wp2_with fail
  go_loop [7] (fun i => ∃ k : Nat, k ≤ l.length ∧ i = .int .i64 k ∧ ∀ j, j < k → l.getD j 0 = 0) (fun i => l.length - (intOf i).toNat)
  case atStart => exact ⟨0, by omega, rfl, fun j hj => by omega⟩
  case round =>
    obtain ⟨k, hk, rfl, hz⟩ := hrel
    by_cases hlt : k < l.length
    · have hc := h k hlt
      have h1 : (k : Int) < (l.length : Int) := by omega
      obtain ⟨x, hx⟩ : ∃ x, x = l.getD k 0 := ⟨_, rfl⟩
      rw [← hx] at hc
      by_cases h0 : x = 0
      · subst h0
        have Hz : Hid (∀ j, j < k → l.getD j 0 = 0) := hz
        have Hx : Hid ((0 : Int) = l.getD k 0) := hx
        clear hz hx h
        go_wp2_with fail
        exact ⟨⟨k + 1, by omega, by go_num, zero_snoc Hz.out Hx.out.symm⟩, by simp [intOf]; omega⟩
      · have he : Hid (fu l = x) := by rw [hx]; exact fu_at k l hz hlt (by rw [← hx]; exact h0)
        clear hz hx h
        go_wp2_with fail
        go_ret
        exact ⟨ret_int he.out.symm, rfl⟩
    · obtain rfl : k = l.length := by omega
      have he : Hid (fu l = 0) := by
        have := fu_skip l.length l hz
        rw [List.drop_length] at this; exact this
      clear hz h
      go_wp2_with fail
      go_ret
      exact ⟨ret_int he.out.symm, rfl⟩
/-! ### Keys in memory -/
structure Kb where
  t : ByteArray
  p : ByteArray
  r : Int
  c : ByteArray
def Kb.ky (k : Kb) : Ky := ⟨nb k.t, nb k.p, k.r, nb k.c⟩
def Kb.v (k : Kb) : Value := .agg #[.string k.t, .string k.p, .int .i64 k.r, .string k.c]
theorem Kb.ky_inj {a b : Kb} : a.ky = b.ky ↔ a = b := by
  constructor
  · intro h
    cases a; cases b
    simp only [Kb.ky, Ky.mk.injEq, nb_inj] at h
    obtain ⟨rfl, rfl, rfl, rfl⟩ := h; rfl
  · rintro rfl; rfl

theorem texts_any (a b : ByteArray) (w : World) :
    Calls Try.prog 50 #[.string a, .string b] w fun x w' => x = .returned (.int .i64 (cb (nb a) (nb b))) ∧ w' = w := by
  have h1 := ba_less a b
  have h2 := ba_same a b
  rcases cb_cmpr.r (nb a) (nb b) with h | h | h
  · rw [h] at h1
    rw [decide_eq_true rfl] at h1
    go_enter Try.func50, Try.ntmps50
    go_wp2_with fail
    go_ret
    exact ⟨ret_int h.symm, rfl⟩
  · rw [h] at h1
    rw [decide_eq_false (by omega)] at h1
    have e : a = b := nb_inj.1 ((cb_cmpr.z _ _).1 h)
    subst e
    rw [decide_eq_true rfl] at h2
    go_enter Try.func50, Try.ntmps50
    go_wp2_with fail
    go_ret
    exact ⟨ret_int h.symm, rfl⟩
  · have e : a ≠ b := by rintro rfl; rw [cb_self] at h; omega
    rw [h, decide_eq_false (by omega)] at h1
    rw [decide_eq_false e] at h2
    go_enter Try.func50, Try.ntmps50
    go_wp2_with fail
    go_ret
    exact ⟨ret_int h.symm, rfl⟩
theorem refCmp_any (a b : Kb) (w : World) :
    Calls Try.prog 39 #[a.v, b.v] w fun x w' => x = .returned (.int .i64 (kc a.ky b.ky)) ∧ Below w.heap.size w w' := by
  obtain ⟨t1, p1, r1, c1⟩ := a
  obtain ⟨t2, p2, r2, c2⟩ := b
  have T : Hid (∀ (a b : ByteArray) (w : World), Calls Try.prog 50 #[.string a, .string b] w fun x w' => x = .returned (.int .i64 (cb (nb a) (nb b))) ∧ w' = w) := texts_any
  have h1 := ba_same t1 t2
  have h2 := ba_same p1 p2
  have hB : Hid (∀ o1 o2 : Obj, Below w.heap.size w ((w.alloc o1).alloc o2)) := fun o1 o2 => ((Below.refl _ _).alloc (Nat.le_refl _) _).alloc (by simp) _
  obtain ⟨R, hR⟩ : ∃ R, R = kc (Kb.ky ⟨t1, p1, r1, c1⟩) (Kb.ky ⟨t2, p2, r2, c2⟩) := ⟨_, rfl⟩
  rw [← hR]
  simp only [kc, Kb.ky] at hR
  simp only [Kb.v]
  by_cases e1 : t1 = t2
  · subst e1
    rw [decide_eq_true rfl] at h1
    rw [cb_self, th_zero] at hR
    by_cases e2 : p1 = p2
    · subst e2
      rw [decide_eq_true rfl] at h2
      rw [cb_self, th_zero] at hR
      rcases Int.lt_trichotomy r1 r2 with e3 | e3 | e3
      · have : ci r1 r2 = -1 := by unfold ci; rw [if_pos e3]
        rw [this, th_of (by omega)] at hR
        go_enter Try.func39, Try.ntmps39
        go_wp2_with fail
        go_ret
        exact ⟨ret_int hR.symm, hB.out _ _⟩
      · subst e3
        rw [(ci_cmpr.z _ _).2 rfl, th_zero] at hR
        go_enter Try.func39, Try.ntmps39
        go_wp2_with (go_at_call 50; go_fit (T.out _ _ _); rintro x w1 ⟨rfl, rfl⟩)
        go_ret
        exact ⟨ret_int hR.symm, hB.out _ _⟩
      · have : ci r1 r2 = 1 := by unfold ci; rw [if_neg (by omega), if_pos e3]
        rw [this, th_of (by omega)] at hR
        have e4 : ¬ r1 < r2 := by omega
        go_enter Try.func39, Try.ntmps39
        have hR' : Hid (R = 1) := hR
        clear hR
        go_wp2_with fail
        go_ret
        exact ⟨ret_int hR'.out.symm, hB.out _ _⟩
    · rw [decide_eq_false e2] at h2
      rw [th_of (fun h => e2 (nb_inj.1 ((cb_cmpr.z _ _).1 h)))] at hR
      go_enter Try.func39, Try.ntmps39
      go_wp2_with (go_at_call 50; go_fit (T.out _ _ _); rintro x w1 ⟨rfl, rfl⟩)
      go_ret
      exact ⟨ret_int hR.symm, hB.out _ _⟩
  · rw [decide_eq_false e1] at h1
    rw [th_of (fun h => e1 (nb_inj.1 ((cb_cmpr.z _ _).1 h)))] at hR
    go_enter Try.func39, Try.ntmps39
    go_wp2_with (go_at_call 50; go_fit (T.out _ _ _); rintro x w1 ⟨rfl, rfl⟩)
    go_ret
    exact ⟨ret_int hR.symm, hB.out _ _⟩

theorem box_cells (w : World) (o : Obj) (t : TypeId) (cs : Array Value) (i : Nat) (v : Value) (h : cs[i]? = some v) : ((w.alloc (.cells cs t)).alloc o).cell? ⟨w.heap.size, i, none⟩ = some v ∧ (o = .cells cs t → ((w.alloc o).alloc (.cells cs t)).cell? ⟨w.heap.size + 1, i, none⟩ = some v) := by
  have h1 : ((w.alloc (.cells cs t)).alloc o).heap[w.heap.size]? = some (.cells cs t) := by
    rw [Below.heap_alloc _ _ _ (by rw [World.size_alloc]; omega)]; exact heap_alloc_new w _
  have h2 : ((w.alloc o).alloc (.cells cs t)).heap[w.heap.size + 1]? = some (.cells cs t) := by
    have := heap_alloc_new (w.alloc o) (.cells cs t); rwa [World.size_alloc] at this
  refine ⟨?_, fun _ => ?_⟩
  · simp only [World.cell?, h1]; simpa using h
  · simp only [World.cell?, h2]; simpa using h
theorem box_cells2 (w : World) (o : Obj) (t : TypeId) (cs : Array Value) (i : Nat) (v : Value) (h : cs[i]? = some v) : ((w.alloc o).alloc (.cells cs t)).cell? ⟨w.heap.size + 1, i, none⟩ = some v := by
  have h2 : ((w.alloc o).alloc (.cells cs t)).heap[w.heap.size + 1]? = some (.cells cs t) := by
    have := heap_alloc_new (w.alloc o) (.cells cs t); rwa [World.size_alloc] at this
  simp only [World.cell?, h2]; simpa using h
theorem first4 (w : World) (x1 x2 x3 x4 : Int) : Calls Try.prog 57 #[.slice (some ⟨w.heap.size, 0, none⟩) 4 4] (w.alloc (.cells #[.int .i64 x1, .int .i64 x2, .int .i64 x3, .int .i64 x4] 3)).drew fun x w' => x = .returned (.int .i64 (fu [x1, x2, x3, x4])) ∧ w' = (w.alloc (.cells #[.int .i64 x1, .int .i64 x2, .int .i64 x3, .int .i64 x4] 3)).drew := by
  have hg : (w.alloc (.cells #[.int .i64 x1, .int .i64 x2, .int .i64 x3, .int .i64 x4] 3)).drew.heap[w.heap.size]? = some (.cells #[.int .i64 x1, .int .i64 x2, .int .i64 x3, .int .i64 x4] 3) := heap_alloc_new w _
  refine firstUnlike_any ⟨w.heap.size, 0, none⟩ [x1, x2, x3, x4] 4 _ (fun i hi => ?_) (by simp)
  rw [Addr.add_lit, Nat.zero_add]
  simp only [World.cell?, hg]
  simp only [List.length_cons, List.length_nil] at hi
  rcases i with _ | _ | _ | _ | i
  · rfl
  · rfl
  · rfl
  · rfl
  · omega
theorem kc_fu (t1 t2 p1 p2 c1 c2 : ByteArray) (r1 r2 : Int) : kc (Kb.ky ⟨t1, p1, r1, c1⟩) (Kb.ky ⟨t2, p2, r2, c2⟩) = fu [cb (nb t1) (nb t2), cb (nb p1) (nb p2), ci r1 r2, cb (nb c1) (nb c2)] := by
  show th _ (th _ (th _ _)) = th _ (th _ (th _ (th _ 0)))
  have : ∀ x, th x 0 = x := fun x => by unfold th; split <;> omega
  rw [this]; rfl

set_option maxRecDepth 100000 in
set_option maxHeartbeats 1000000 in
theorem cmp_any (a b : Kb) (w : World) :
    Calls Try.prog 47 #[a.v, b.v] w fun x w' => x = .returned (.int .i64 (kc a.ky b.ky)) ∧ Below w.heap.size w w' := by
  obtain ⟨t1, p1, r1, c1⟩ := a
  obtain ⟨t2, p2, r2, c2⟩ := b
  have T : Hid (∀ (a b : ByteArray) (w : World), Calls Try.prog 58 #[.string a, .string b] w fun x w' => x = .returned (.int .i64 (cb (nb a) (nb b))) ∧ w' = w) := Try.strings_Compare
  have T3 : Hid (∀ (w : World), Calls Try.prog 59 #[.int .i64 r1, .int .i64 r2] w fun x w' => x = .returned (.int .i64 (ci r1 r2)) ∧ w' = w) := fun w => Try.cmp_Compare_int r1 r2 w
  have hR : Hid (kc (Kb.ky ⟨t1, p1, r1, c1⟩) (Kb.ky ⟨t2, p2, r2, c2⟩) = fu [cb (nb t1) (nb t2), cb (nb p1) (nb p2), ci r1 r2, cb (nb c1) (nb c2)]) := kc_fu _ _ _ _ _ _ _ _
  simp only [Kb.v]
  go_enter Try.func47, Try.ntmps47
  go_wp2_with fail
  have a0 := (box_cells w (.cells #[.string t2, .string p2, .int .i64 r2, .string c2] 29) 29 #[.string t1, .string p1, .int .i64 r1, .string c1] 0 _ rfl).1
  have a1 := (box_cells w (.cells #[.string t2, .string p2, .int .i64 r2, .string c2] 29) 29 #[.string t1, .string p1, .int .i64 r1, .string c1] 1 _ rfl).1
  have a2 := (box_cells w (.cells #[.string t2, .string p2, .int .i64 r2, .string c2] 29) 29 #[.string t1, .string p1, .int .i64 r1, .string c1] 2 _ rfl).1
  have a3 := (box_cells w (.cells #[.string t2, .string p2, .int .i64 r2, .string c2] 29) 29 #[.string t1, .string p1, .int .i64 r1, .string c1] 3 _ rfl).1
  have b0 := box_cells2 w (.cells #[.string t1, .string p1, .int .i64 r1, .string c1] 29) 29 #[.string t2, .string p2, .int .i64 r2, .string c2] 0 _ rfl
  have b1 := box_cells2 w (.cells #[.string t1, .string p1, .int .i64 r1, .string c1] 29) 29 #[.string t2, .string p2, .int .i64 r2, .string c2] 1 _ rfl
  have b2 := box_cells2 w (.cells #[.string t1, .string p1, .int .i64 r1, .string c1] 29) 29 #[.string t2, .string p2, .int .i64 r2, .string c2] 2 _ rfl
  have b3 := box_cells2 w (.cells #[.string t1, .string p1, .int .i64 r1, .string c1] 29) 29 #[.string t2, .string p2, .int .i64 r2, .string c2] 3 _ rfl
  have hB : Hid (Below w.heap.size w ((w.alloc (.cells #[.string t1, .string p1, .int .i64 r1, .string c1] 29)).alloc (.cells #[.string t2, .string p2, .int .i64 r2, .string c2] 29))) := ((Below.refl _ _).alloc (Nat.le_refl _) _).alloc (by simp) _
  generalize (w.alloc (.cells #[.string t1, .string p1, .int .i64 r1, .string c1] 29)).alloc (.cells #[.string t2, .string p2, .int .i64 r2, .string c2] 29) = wa at *
  have F : Hid (∀ (x1 x2 x3 x4 : Int), Calls Try.prog 57 #[.slice (some ⟨wa.heap.size, 0, none⟩) 4 4] (wa.alloc (.cells #[.int .i64 x1, .int .i64 x2, .int .i64 x3, .int .i64 x4] 3)).drew fun x w' => x = .returned (.int .i64 (fu [x1, x2, x3, x4])) ∧ w' = (wa.alloc (.cells #[.int .i64 x1, .int .i64 x2, .int .i64 x3, .int .i64 x4] 3)).drew) := first4 wa
  have hE : Hid (∀ o, Below w.heap.size w (wa.alloc o).drew) := fun o => Below.drew (hB.out.alloc hB.out.size o)
  clear hB
  refine wp_region_still_tail 20 (by kernel_rfl) (by kernel_rfl) ?_
  simp only [List.take_succ_cons, List.take_zero, List.drop_succ_cons, List.drop_zero]
  refine wpStill_step (fun K hK => ?_)
  go_simp
  refine hK _ ?_
  clear hK K
  refine wpStill_step (fun K hK => ?_)
  go_simp
  refine hK _ ?_
  clear hK K
  refine wpStill_step (fun K hK => ?_)
  go_simp
  refine hK _ ?_
  clear hK K
  refine wpStill_step (fun K hK => ?_)
  go_simp
  refine hK _ ?_
  clear hK K
  refine wpStill_step (fun K hK => ?_)
  go_simp
  refine ⟨_, T.out _ _ _, hK _ ?_⟩
  clear hK K
  refine wpStill_step (fun K hK => ?_)
  go_simp
  refine hK _ ?_
  clear hK K
  refine wpStill_step (fun K hK => ?_)
  go_simp
  refine hK _ ?_
  clear hK K
  refine wpStill_step (fun K hK => ?_)
  go_simp
  refine hK _ ?_
  clear hK K
  refine wpStill_step (fun K hK => ?_)
  go_simp
  refine hK _ ?_
  clear hK K
  refine wpStill_step (fun K hK => ?_)
  go_simp
  refine ⟨_, T.out _ _ _, hK _ ?_⟩
  clear hK K
  refine wpStill_step (fun K hK => ?_)
  go_simp
  refine hK _ ?_
  clear hK K
  refine wpStill_step (fun K hK => ?_)
  go_simp
  refine hK _ ?_
  clear hK K
  refine wpStill_step (fun K hK => ?_)
  go_simp
  refine hK _ ?_
  clear hK K
  refine wpStill_step (fun K hK => ?_)
  go_simp
  refine hK _ ?_
  clear hK K
  refine wpStill_step (fun K hK => ?_)
  go_simp
  refine ⟨_, T3.out _, hK _ ?_⟩
  clear hK K
  refine wpStill_step (fun K hK => ?_)
  go_simp
  refine hK _ ?_
  clear hK K
  refine wpStill_step (fun K hK => ?_)
  go_simp
  refine hK _ ?_
  clear hK K
  refine wpStill_step (fun K hK => ?_)
  go_simp
  refine hK _ ?_
  clear hK K
  refine wpStill_step (fun K hK => ?_)
  go_simp
  refine hK _ ?_
  clear hK K
  refine wpStill_step (fun K hK => ?_)
  go_simp
  refine ⟨_, T.out _ _ _, hK _ ?_⟩
  clear hK K
  refine wpStill_nil ?_
  go_wp2_with (go_at_call 57; go_fit (F.out _ _ _ _); rintro x w1 ⟨rfl, rfl⟩)
  go_ret
  exact ⟨ret_int hR.out.symm, hE.out _⟩
structure Kb.Ok (k : Kb) : Prop where
  t : k.t.size ≤ 5000
  p : k.p.size ≤ 5000
  c : k.c.size ≤ 5000
  r : InI k.r
structure Kb.Big (k : Kb) : Prop where
  t : k.t.size ≤ 2000000
  p : k.p.size ≤ 2000000
  c : k.c.size ≤ 2000000
  r : InI k.r
theorem Kb.Ok.big {k : Kb} (h : k.Ok) : k.Big := ⟨Nat.le_trans h.t (by decide), Nat.le_trans h.p (by decide), Nat.le_trans h.c (by decide), h.r⟩
end Go.Proofs.Ytkdeaogmifhnhaa
