/-
  CONTRACTS: may a deletion be forgotten (Old), by the program and by the document.
-/
import Derived.Test.YtkdeaogmifhnhaaVerJoin
import Derived.Test.YtkdeaogmifhnhaaCxWeigh
namespace Go.Proofs.Ytkdeaogmifhnhaa
open Go.RowKit

/-- Is a version Dead, and now at least grace more than its Local? -/
def oldV (v : Vr) (now g : Int) : Bool := v.dead && (decide (v.loc ≤ now) && decide (max g 0 ≤ now - v.loc))
theorem oldV_live {v : Vr} (h : v.dead = false) (now g : Int) : oldV v now g = false := by unfold oldV; rw [h]; rfl
theorem wsub {a b : Int} (ha : InI a) (hb : InI b) (h : b ≤ a) : IntKind.u64.wrap (IntKind.u64.wrap a - IntKind.u64.wrap b) = a - b := by
  obtain ⟨h1, h2⟩ := ha
  obtain ⟨h3, h4⟩ := hb
  simp only [IntKind.wrap_u64] at *
  omega
theorem wnat {a : Int} (ha : InI a) (h : 0 ≤ a) : IntKind.u64.wrap a = a := by
  obtain ⟨h1, h2⟩ := ha
  simp only [IntKind.wrap_u64] at *
  omega
set_option maxRecDepth 100000 in
theorem old_any (v : Vr) (now g : Int) (w : World) (hl : InI v.loc) (hn : InI now) (hg : InI g) :
    Calls Try.prog 8 #[v.v, .int .i64 now, .int .i64 g] w fun x w' => x = .returned (.bool (oldV v now g)) ∧ Below w.heap.size w w' := by
  have L : Hid (∀ w : World, Calls Try.prog 17 #[v.v] w fun x w' => x = .returned (.bool (!v.dead)) ∧ Below w.heap.size w w') := fun w => live_any v w
  have HO : Hid (∀ b, oldV v now g = b → (Ending.returned (.bool b) = Ending.returned (.bool (oldV v now g)))) := fun b h => by rw [h]
  have HU : Hid (oldV v now g = (v.dead && (decide (v.loc ≤ now) && decide (max g 0 ≤ now - v.loc)))) := rfl
  generalize oldV v now g = r at *
  obtain ⟨t1, d1, l1, k1, n1, s1⟩ := v
  simp only [Vr.v] at L HU hl ⊢
  have hb : Below w.heap.size w (w.alloc (.cells #[.int .i64 t1, .bool d1, .int .i64 l1, .int .i64 k1, .int .i64 n1, .string s1] 33)) := (Below.refl _ _).alloc (Nat.le_refl _) _
  have T : VAt (w.alloc (.cells #[.int .i64 t1, .bool d1, .int .i64 l1, .int .i64 k1, .int .i64 n1, .string s1] 33)) w.heap.size 0 ⟨t1, d1, l1, k1, n1, s1⟩ := VAt.of (heap_alloc_new w _)
  obtain ⟨wa, hwa⟩ : ∃ wa, wa = w.alloc (.cells #[.int .i64 t1, .bool d1, .int .i64 l1, .int .i64 k1, .int .i64 n1, .string s1] 33) := ⟨_, rfl⟩
  rw [← hwa] at hb T
  have hsz : w.heap.size < wa.heap.size := T.lt
  cases d1
  · go_enter Try.func8, Try.ntmps8
    go_wp2_with fail
    rw [← hwa]
    clear hwa
    obtain ⟨k0, k1, k2, k3, k4, k5⟩ := T
    simp only [Nat.zero_add] at k0 k1 k2 k3 k4 k5
    go_wp2_with fail
    refine (L.out _).mono ?_
    rintro e u ⟨rfl, hu⟩
    go_wp2_with fail
    go_ret
    exact ⟨HO.out _ (by rw [HU.out]; rfl), hb.trans (hu.mono hb.size)⟩
  by_cases hlt : now < l1
  · go_enter Try.func8, Try.ntmps8
    go_wp2_with fail
    rw [← hwa]
    clear hwa
    have T0 := T
    obtain ⟨k0, k1, k2, k3, k4, k5⟩ := T0
    simp only [Nat.zero_add] at k0 k1 k2 k3 k4 k5
    go_wp2_with fail
    refine (L.out _).mono ?_
    rintro e u ⟨rfl, hu⟩
    clear k0 k1 k2 k3 k4 k5
    obtain ⟨k0, k1, k2, k3, k4, k5⟩ := T.below hu hsz
    simp only [Nat.zero_add] at k0 k1 k2 k3 k4 k5
    go_wp2_with fail
    go_ret
    exact ⟨HO.out _ (by rw [HU.out, decide_eq_false (by omega : ¬ l1 ≤ now)]; rfl), hb.trans (hu.mono hb.size)⟩
  · have hle : l1 ≤ now := by omega
    have e1 := wsub hn hl hle
    obtain ⟨m, hm⟩ : ∃ m, m = max g 0 := ⟨_, rfl⟩
    have hmi : InI m := by
      obtain ⟨h1, h2⟩ := hg
      unfold InI
      omega
    have e2 : IntKind.u64.wrap m = m := wnat hmi (by omega)
    have HU2 : Hid (r = decide (m ≤ now - l1)) := by
      have : r = _ := HU.out
      rw [this, decide_eq_true hle, hm]
      rfl
    clear HU
    go_enter Try.func8, Try.ntmps8
    go_wp2_with fail
    rw [← hwa]
    clear hwa
    have T0 := T
    obtain ⟨k0, k1, k2, k3, k4, k5⟩ := T0
    simp only [Nat.zero_add] at k0 k1 k2 k3 k4 k5
    go_wp2_with fail
    refine (L.out _).mono ?_
    rintro e u ⟨rfl, hu⟩
    clear k0 k1 k2 k3 k4 k5
    obtain ⟨k0, k1, k2, k3, k4, k5⟩ := T.below hu hsz
    simp only [Nat.zero_add] at k0 k1 k2 k3 k4 k5
    go_wp2_with fail
    go_ret
    exact ⟨HO.out _ (by rw [HU2.out, ← hm, e2]), hb.trans (hu.mono hb.size)⟩
set_option maxRecDepth 100000 in
theorem refOld_any (v : Vr) (now g : Int) (w : World) (hl : InI v.loc) (hn : InI now) (hg : InI g) :
    Calls Try.prog 9 #[v.v, .int .i64 now, .int .i64 g] w fun x w' => x = .returned (.bool (oldV v now g)) ∧ Below w.heap.size w w' := by
  have HO : Hid (∀ b, oldV v now g = b → (Ending.returned (.bool b) = Ending.returned (.bool (oldV v now g)))) := fun b h => by rw [h]
  have HU : Hid (oldV v now g = (v.dead && (decide (v.loc ≤ now) && decide (max g 0 ≤ now - v.loc)))) := rfl
  generalize oldV v now g = r at *
  obtain ⟨t1, d1, l1, k1, n1, s1⟩ := v
  simp only [Vr.v] at HU hl ⊢
  have hb : Below w.heap.size w (w.alloc (.cells #[.int .i64 t1, .bool d1, .int .i64 l1, .int .i64 k1, .int .i64 n1, .string s1] 33)) := (Below.refl _ _).alloc (Nat.le_refl _) _
  have T : VAt (w.alloc (.cells #[.int .i64 t1, .bool d1, .int .i64 l1, .int .i64 k1, .int .i64 n1, .string s1] 33)) w.heap.size 0 ⟨t1, d1, l1, k1, n1, s1⟩ := VAt.of (heap_alloc_new w _)
  obtain ⟨wa, hwa⟩ : ∃ wa, wa = w.alloc (.cells #[.int .i64 t1, .bool d1, .int .i64 l1, .int .i64 k1, .int .i64 n1, .string s1] 33) := ⟨_, rfl⟩
  rw [← hwa] at hb T
  obtain ⟨k0, k1, k2, k3, k4, k5⟩ := T
  simp only [Nat.zero_add] at k0 k1 k2 k3 k4 k5
  cases d1
  · go_enter Try.func9, Try.ntmps9
    by_cases hgz : g < 0
    all_goals
      go_wp2_with fail
      rw [← hwa]
      clear hwa
      go_wp2_with fail
      go_ret
      exact ⟨HO.out _ (by rw [HU.out]; rfl), hb⟩
  by_cases hlt : now < l1
  · go_enter Try.func9, Try.ntmps9
    by_cases hgz : g < 0
    all_goals
      go_wp2_with fail
      rw [← hwa]
      clear hwa
      go_wp2_with fail
      go_ret
      exact ⟨HO.out _ (by rw [HU.out, decide_eq_false (by omega : ¬ l1 ≤ now)]; rfl), hb⟩
  · have hle : l1 ≤ now := by omega
    have e1 := wsub hn hl hle
    have HU2 : Hid (r = decide (max g 0 ≤ now - l1)) := by
      have : r = _ := HU.out
      rw [this, decide_eq_true hle]
      rfl
    clear HU
    go_enter Try.func9, Try.ntmps9
    by_cases hgz : g < 0
    · have e2 : IntKind.u64.wrap 0 = 0 := by decide
      have hm : max g 0 = 0 := by omega
      go_wp2_with fail
      rw [← hwa]
      clear hwa
      go_wp2_with fail
      go_ret
      exact ⟨HO.out _ (by rw [HU2.out, hm]; try exact decide_eq_true (by omega)), hb⟩
    · have e2 : IntKind.u64.wrap g = g := wnat hg (by omega)
      have hm : max g 0 = g := by omega
      go_wp2_with fail
      rw [← hwa]
      clear hwa
      go_wp2_with fail
      go_ret
      exact ⟨HO.out _ (by rw [HU2.out, hm]; try exact decide_eq_true (by omega)), hb⟩
end Go.Proofs.Ytkdeaogmifhnhaa
