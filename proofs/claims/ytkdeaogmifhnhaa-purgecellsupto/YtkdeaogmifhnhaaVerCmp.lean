/-
  CONTRACTS: how two versions compare, by the program and by the document; which one is joined.
-/
import Derived.Test.YtkdeaogmifhnhaaVerPlain
import Derived.Test.YtkdeaogmifhnhaaRegCl
namespace Go.Proofs.Ytkdeaogmifhnhaa
open Go.RowKit

theorem or_any (a : Addr) (l : List Int) (cap : Nat) (w : World) (h : ∀ i, i < l.length → w.cell? (a.add i) = some (.int .i64 (l.getD i 0))) (hl : l.length ≤ 1000000) :
    Calls Try.prog 75 #[.slice (some a) l.length cap] w fun x w' => x = .returned (.int .i64 (fu l)) ∧ w' = w := by
  have hl' : (l.length : Int) ≤ 1000000 := by omega
  go_enter Try.func75, Try.ntmps75
  go_wp2_with fail
  go_loop [8] (fun i => ∃ k : Nat, k ≤ l.length ∧ i = .int .i64 k ∧ ∀ j, j < k → l.getD j 0 = 0) (fun i => l.length - (intOf i).toNat)
  case atStart => exact ⟨0, by omega, rfl, fun j hj => by omega⟩
  case round =>
    obtain ⟨k, hk, rfl, hz⟩ := hrel
    by_cases hlt : k < l.length
    · have hc := h k hlt
      have h1 : (k : Int) < (l.length : Int) := by omega
      obtain ⟨x, hx⟩ : ∃ x, x = l.getD k 0 := ⟨_, rfl⟩
      rw [← hx] at hc
      by_cases h0 : x = 0
      · subst h0
        have Hz : Hid (∀ j, j < k → l.getD j 0 = 0) := hz
        have Hx : Hid ((0 : Int) = l.getD k 0) := hx
        clear hz hx h
        go_wp2_with fail
        exact ⟨⟨k + 1, by omega, by go_num, zero_snoc Hz.out Hx.out.symm⟩, by simp [intOf]; omega⟩
      · have he : Hid (fu l = x) := by rw [hx]; exact fu_at k l hz hlt (by rw [← hx]; exact h0)
        clear hz hx h
        go_wp2_with fail
        go_ret
        exact ⟨ret_int he.out.symm, rfl⟩
    · obtain rfl : k = l.length := by omega
      have he : Hid (fu l = 0) := by
        have := fu_skip l.length l hz
        rw [List.drop_length] at this; exact this
      clear hz h
      go_wp2_with fail
      go_ret
      exact ⟨ret_int he.out.symm, rfl⟩
theorem or3 (w : World) (x1 x2 x3 : Int) : Calls Try.prog 75 #[.slice (some ⟨w.heap.size, 0, none⟩) 3 3] (w.alloc (.cells #[.int .i64 x1, .int .i64 x2, .int .i64 x3] 3)).drew fun x w' => x = .returned (.int .i64 (fu [x1, x2, x3])) ∧ w' = (w.alloc (.cells #[.int .i64 x1, .int .i64 x2, .int .i64 x3] 3)).drew := by
  have hg : (w.alloc (.cells #[.int .i64 x1, .int .i64 x2, .int .i64 x3] 3)).drew.heap[w.heap.size]? = some (.cells #[.int .i64 x1, .int .i64 x2, .int .i64 x3] 3) := heap_alloc_new w _
  refine or_any ⟨w.heap.size, 0, none⟩ [x1, x2, x3] 3 _ (fun i hi => ?_) (by simp)
  rw [Addr.add_lit, Nat.zero_add]
  simp only [World.cell?, hg]
  simp only [List.length_cons, List.length_nil] at hi
  rcases i with _ | _ | _ | i
  · rfl
  · rfl
  · rfl
  · omega
set_option maxRecDepth 100000 in
set_option maxHeartbeats 1000000 in
theorem vals_any (k1 n1 : Int) (s1 : ByteArray) (k2 n2 : Int) (s2 : ByteArray) (w : World) :
    Calls Try.prog 70 #[.agg #[.int .i64 k1, .int .i64 n1, .string s1], .agg #[.int .i64 k2, .int .i64 n2, .string s2]] w fun x w' => x = .returned (.int .i64 (fu [ci k1 k2, ci n1 n2, cb (nb s1) (nb s2)])) ∧ Below w.heap.size w w' := by
  have T : Hid (∀ (a b : ByteArray) (w : World), Calls Try.prog 58 #[.string a, .string b] w fun x w' => x = .returned (.int .i64 (cb (nb a) (nb b))) ∧ w' = w) := Try.strings_Compare
  have T3 : Hid (∀ (x y : Int) (w : World), Calls Try.prog 59 #[.int .i64 x, .int .i64 y] w fun e w' => e = .returned (.int .i64 (ci x y)) ∧ w' = w) := fun x y w => Try.cmp_Compare_int x y w
  obtain ⟨wa, hwa⟩ : ∃ wa, wa = (w.alloc (.cells #[.int .i64 k1, .int .i64 n1, .string s1] 31)).alloc (.cells #[.int .i64 k2, .int .i64 n2, .string s2] 31) := ⟨_, rfl⟩
  have a0 : wa.cell? ⟨w.heap.size, 0, none⟩ = some (.int .i64 k1) := by rw [hwa]; exact (box_cells w _ _ _ 0 _ rfl).1
  have a1 : wa.cell? ⟨w.heap.size, 1, none⟩ = some (.int .i64 n1) := by rw [hwa]; exact (box_cells w _ _ _ 1 _ rfl).1
  have a2 : wa.cell? ⟨w.heap.size, 2, none⟩ = some (.string s1) := by rw [hwa]; exact (box_cells w _ _ _ 2 _ rfl).1
  have b0 : wa.cell? ⟨w.heap.size + 1, 0, none⟩ = some (.int .i64 k2) := by rw [hwa]; exact box_cells2 w _ _ _ 0 _ rfl
  have b1 : wa.cell? ⟨w.heap.size + 1, 1, none⟩ = some (.int .i64 n2) := by rw [hwa]; exact box_cells2 w _ _ _ 1 _ rfl
  have b2 : wa.cell? ⟨w.heap.size + 1, 2, none⟩ = some (.string s2) := by rw [hwa]; exact box_cells2 w _ _ _ 2 _ rfl
  have hB : Below w.heap.size w wa := by rw [hwa]; exact ((Below.refl _ _).alloc (Nat.le_refl _) _).alloc (by simp) _
  have F : Hid (∀ (x1 x2 x3 : Int), Calls Try.prog 75 #[.slice (some ⟨wa.heap.size, 0, none⟩) 3 3] (wa.alloc (.cells #[.int .i64 x1, .int .i64 x2, .int .i64 x3] 3)).drew fun x w' => x = .returned (.int .i64 (fu [x1, x2, x3])) ∧ w' = (wa.alloc (.cells #[.int .i64 x1, .int .i64 x2, .int .i64 x3] 3)).drew) := or3 wa
  have hE : Hid (∀ o, Below w.heap.size w (wa.alloc o).drew) := fun o => Below.drew (hB.alloc hB.size o)
  clear hB
  go_enter Try.func70, Try.ntmps70
  go_wp2_with fail
  rw [← hwa]
  clear hwa
  refine wp_region_still_tail 15 (by kernel_rfl) (by kernel_rfl) ?_
  simp only [List.take_succ_cons, List.take_zero, List.drop_succ_cons, List.drop_zero]
  repeat (refine wpStill_step (fun K hK => ?_); go_simp; first | (refine hK _ ?_) | (refine ⟨_, T.out _ _ _, hK _ ?_⟩) | (refine ⟨_, T3.out _ _ _, hK _ ?_⟩); clear hK K)
  refine wpStill_nil ?_
  go_wp2_with (go_at_call 75; go_fit (F.out _ _ _); rintro x w1 ⟨rfl, rfl⟩)
  go_ret
  exact ⟨rfl, hE.out _⟩
/-- A version whose cells lie in memory. -/
structure VAt (w : World) (g o : Nat) (a : Vr) : Prop where
  time : w.cell? ⟨g, o, none⟩ = some (.int .i64 a.time)
  dead : w.cell? ⟨g, o + 1, none⟩ = some (.bool a.dead)
  loc : w.cell? ⟨g, o + 2, none⟩ = some (.int .i64 a.loc)
  kind : w.cell? ⟨g, o + 3, none⟩ = some (.int .i64 a.kind)
  num : w.cell? ⟨g, o + 4, none⟩ = some (.int .i64 a.num)
  s : w.cell? ⟨g, o + 5, none⟩ = some (.string a.s)
def Vr.a (a : Vr) : Array Value := #[.int .i64 a.time, .bool a.dead, .int .i64 a.loc, .int .i64 a.kind, .int .i64 a.num, .string a.s]
theorem VAt.below {w w' : World} {g o : Nat} {k : Vr} (h : VAt w g o k) {B : Nat} (hb : Below B w w') (hg : g < B) : VAt w' g o k :=
  ⟨by rw [hb.cell hg, h.time], by rw [hb.cell hg, h.dead], by rw [hb.cell hg, h.loc], by rw [hb.cell hg, h.kind], by rw [hb.cell hg, h.num], by rw [hb.cell hg, h.s]⟩
theorem VAt.of {w : World} {g : Nat} {k : Vr} {ty : TypeId} {z : Nat × Nat} (h : w.heap[g]? = some (.cells k.a ty z)) : VAt w g 0 k :=
  ⟨by simp [World.cell?, h, Vr.a], by simp [World.cell?, h, Vr.a], by simp [World.cell?, h, Vr.a], by simp [World.cell?, h, Vr.a], by simp [World.cell?, h, Vr.a], by simp [World.cell?, h, Vr.a]⟩
theorem VAt.lt {w : World} {g o : Nat} {k : Vr} (h : VAt w g o k) : g < w.heap.size := World.block_lt_of_cell? _ _ h.time
theorem VAt.new (w : World) (k : Vr) (ty : TypeId) : VAt (w.alloc (.cells k.a ty)) w.heap.size 0 k := VAt.of (heap_alloc_new w _)
theorem VAt.alloc {w : World} {g o : Nat} {k : Vr} (h : VAt w g o k) (ob : Obj) : VAt (w.alloc ob) g o k := h.below ((Below.refl w.heap.size w).alloc (Nat.le_refl _) ob) h.lt
/-- Two boxes. -/
theorem boxes2 (w : World) (a b : Vr) : VAt ((w.alloc (.cells a.a 33)).alloc (.cells b.a 33)) w.heap.size 0 a ∧ VAt ((w.alloc (.cells a.a 33)).alloc (.cells b.a 33)) (w.heap.size + 1) 0 b ∧ Below w.heap.size w ((w.alloc (.cells a.a 33)).alloc (.cells b.a 33)) := by
  refine ⟨(VAt.new w a _).alloc _, ?_, ((Below.refl _ _).alloc (Nat.le_refl _) _).alloc (by simp) _⟩
  have := VAt.new (w.alloc (.cells a.a 33)) b 33
  rwa [World.size_alloc] at this
theorem verEq_run (a b : Vr) (w : World) : (binOp BinOp.eql 33 (.agg a.a) (.agg b.a)).run Try.prog w = .ok (.bool (eqV a b)) w := by
  unfold Vr.a eqV
  obtain ⟨t1, d1, l1, k1, n1, s1⟩ := a
  obtain ⟨t2, d2, l2, k2, n2, s2⟩ := b
  go_simp
  by_cases e1 : t1 = t2 <;> by_cases e2 : d1 = d2 <;> by_cases e3 : l1 = l2 <;> by_cases e4 : k1 = k2 <;> by_cases e5 : n1 = n2 <;> by_cases e6 : s1.toList = s2.toList <;> simp [e1, e2, e3, e4, e5, e6]
theorem ne_parts {t1 t2 l1 l2 k1 k2 n1 n2 : Int} {d1 d2 : Bool} {s1 s2 : ByteArray} (h : ¬ (⟨t1, d1, l1, k1, n1, s1⟩ : Vr) = ⟨t2, d2, l2, k2, n2, s2⟩) (ht : t1 = t2) (hd : d1 = d2) :
    l1 ≠ l2 ∨ (l1 = l2 ∧ k1 ≠ k2) ∨ (l1 = l2 ∧ k1 = k2 ∧ n1 ≠ n2) ∨ (l1 = l2 ∧ k1 = k2 ∧ n1 = n2 ∧ s1.toList ≠ s2.toList) := by
  by_cases e3 : l1 = l2
  · by_cases e4 : k1 = k2
    · by_cases e5 : n1 = n2
      · refine Or.inr (Or.inr (Or.inr ⟨e3, e4, e5, fun e6 => h ?_⟩))
        rw [ba_list, ba_list] at e6
        rw [ht, hd, e3, e4, e5, nb_inj.1 e6]
      · exact Or.inr (Or.inr (Or.inl ⟨e3, e4, e5⟩))
    · exact Or.inr (Or.inl ⟨e3, e4⟩)
  · exact Or.inl e3
set_option maxRecDepth 100000 in
set_option maxHeartbeats 1000000 in
theorem vcmp_any (a b : Vr) (w : World) :
    Calls Try.prog 60 #[a.v, b.v] w fun x w' => x = .returned (.int .i64 (cv a b)) ∧ Below w.heap.size w w' := by
  have T3 : Hid (∀ (x y : Int) (w : World), Calls Try.prog 59 #[.int .i64 x, .int .i64 y] w fun e w' => e = .returned (.int .i64 (ci x y)) ∧ w' = w) := fun x y w => Try.cmp_Compare_int x y w
  have T4 : Hid (∀ (k1 n1 : Int) (s1 : ByteArray) (k2 n2 : Int) (s2 : ByteArray) (w : World), Calls Try.prog 70 #[.agg #[.int .i64 k1, .int .i64 n1, .string s1], .agg #[.int .i64 k2, .int .i64 n2, .string s2]] w fun x w' => x = .returned (.int .i64 (fu [ci k1 k2, ci n1 n2, cb (nb s1) (nb s2)])) ∧ Below w.heap.size w w') := vals_any
  have hB : Hid (∀ o1 o2 : Obj, Below w.heap.size w ((w.alloc o1).alloc o2)) := fun o1 o2 => ((Below.refl _ _).alloc (Nat.le_refl _) _).alloc (by simp) _
  by_cases hab : a = b
  · subst hab
    have hR : Hid (cv a a = 0) := cv_self a
    obtain ⟨R, hR'⟩ : ∃ R, R = cv a a := ⟨_, rfl⟩
    rw [← hR'] at hR ⊢
    clear hR'
    obtain ⟨t1, d1, l1, k1, n1, s1⟩ := a
    simp only [Vr.v]
    go_enter Try.func60, Try.ntmps60
    go_wp2_with fail
    go_ret
    exact ⟨ret_int hR.out.symm, hB.out _ _⟩
  have c2 : Hid (a.time ≠ b.time → cv a b = ci a.time b.time) := cv_time
  have c3 : Hid (a.time = b.time → a.dead = true → b.dead = true → cv a b = ci a.loc b.loc) := cv_dead
  have c4 : Hid (a.time = b.time → a.dead = true → b.dead = false → cv a b = 1) := cv_left
  have c5 : Hid (a.time = b.time → a.dead = false → b.dead = true → cv a b = -1) := cv_right
  have c6 : Hid (a.time = b.time → a.dead = false → b.dead = false → cv a b = fu [ci a.kind b.kind, ci a.num b.num, cb (nb a.s) (nb b.s)]) := cv_live
  generalize cv a b = R at *
  obtain ⟨t1, d1, l1, k1, n1, s1⟩ := a
  obtain ⟨t2, d2, l2, k2, n2, s2⟩ := b
  have hn : Hid (t1 = t2 → d1 = d2 → (l1 ≠ l2 ∨ (l1 = l2 ∧ k1 ≠ k2) ∨ (l1 = l2 ∧ k1 = k2 ∧ n1 ≠ n2) ∨ (l1 = l2 ∧ k1 = k2 ∧ n1 = n2 ∧ s1.toList ≠ s2.toList))) := ne_parts hab
  simp only [Vr.v] at *
  clear hab
  by_cases ht : t1 = t2
  · subst ht
    clear c2
    cases d1 <;> cases d2
    · obtain rfl := c6.out rfl rfl rfl
      have hn' := hn.out rfl rfl
      clear c3 c4 c5 c6 hn
      rcases hn' with h | ⟨rfl, h⟩ | ⟨rfl, rfl, h⟩ | ⟨rfl, rfl, rfl, h⟩ <;> (go_enter Try.func60, Try.ntmps60; go_wp2_with (go_at_call 70; go_fit (T4.out _ _ _ _ _ _ _); rintro x w1 ⟨rfl, hb1⟩); go_ret; exact ⟨rfl, (hB.out _ _).trans (hb1.mono (hB.out _ _).size)⟩)
    · obtain rfl := c5.out rfl rfl rfl
      clear c3 c4 c5 c6 hn
      go_enter Try.func60, Try.ntmps60
      go_wp2_with fail
      go_ret
      exact ⟨rfl, hB.out _ _⟩
    · obtain rfl := c4.out rfl rfl rfl
      clear c3 c4 c5 c6 hn
      go_enter Try.func60, Try.ntmps60
      go_wp2_with fail
      go_ret
      exact ⟨rfl, hB.out _ _⟩
    · obtain rfl := c3.out rfl rfl rfl
      have hn' := hn.out rfl rfl
      clear c3 c4 c5 c6 hn
      rcases hn' with h | ⟨rfl, h⟩ | ⟨rfl, rfl, h⟩ | ⟨rfl, rfl, rfl, h⟩ <;> (go_enter Try.func60, Try.ntmps60; go_wp2_with (go_at_call 59; go_fit (T3.out _ _ _); rintro x w1 ⟨rfl, rfl⟩); go_ret; exact ⟨rfl, hB.out _ _⟩)
  · obtain rfl := c2.out ht
    clear c2 c3 c4 c5 c6 hn
    go_enter Try.func60, Try.ntmps60
    go_wp2_with (go_at_call 59; go_fit (T3.out _ _ _); rintro x w1 ⟨rfl, rfl⟩)
    go_ret
    exact ⟨rfl, hB.out _ _⟩
end Go.Proofs.Ytkdeaogmifhnhaa
