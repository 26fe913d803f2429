/-
  THREE APPENDS: append(append(append([]T{}, a...), x), c...), in every order in which what is appended may be laid.
-/
import Derived.Test.YtlhojbgpmjcjlaaCxRefMore
import Derived.Test.YtlhojbgpmjcjlaaSkNew
namespace Go.Proofs.Ytlhojbgpmjcjlaa
open Go.RowKit

section
variable {k bytes : Nat} {t e : TypeId} {i : TypeInfo} {zv : Value} (ht : Try.prog.underlying t = some (.slice e)) (hi : Try.prog.info? e = some i) (hz : i.zero = some zv) (hsz : i.size = k) (hby : i.bytes = bytes) (hzs : zv.cells.size = k)
theorem owns_emp (w : World) (base k : Nat) (e : TypeId) (hb : base ≤ w.heap.size) : (w.alloc (.cells #[] e)).ownsRow base e k (.slice (some ⟨w.heap.size, 0, none⟩) 0 0) 0 [] :=
  ⟨by simp, .inr ⟨w.heap.size, 0, #[], rfl, hb, heap_alloc_new w _, Nat.le_refl _, Nat.zero_le _, by simp, by simp⟩⟩
include ht hi hz hsz hby hzs
/-- One append to a row of the call's own. -/
theorem app1 (s : World) (n : Nat) (d x : Value) (m l : Nat) (xs ys : List Value) (ho : s.ownsRow n e k d m xs) (hs : Src Try.prog k t x l ys s) (hn : n ≤ s.heap.size) (hb : (m + l) * bytes ≤ 1000000) (hm : m + l ≤ 1000000) :
    ∃ v s', (Builtin.append_ #[t, t] t #[d, x]).run Try.prog s = .ok v s' ∧ s'.ownsRow n e k v (m + l) (xs ++ ys) ∧ Below n s s' ∧ n ≤ s'.heap.size ∧ ∀ b, b < s.heap.size → d.ownBlock ≠ some b → s'.heap[b]? = s.heap[b]? := by
  obtain ⟨v, s', hr, h2, hg⟩ := run_append_grew (P := Try.prog) s n t t t e i zv k bytes ht hi hz hsz hby hzs d m xs ho x l ys hs (by unfold maxLen; omega) (by omega) hn
  exact ⟨v, s', hr, h2, hg.below hn (fun g hg => (ho.lt g hg).1), Nat.le_trans hn hg.rows.size, fun b hb hne => hg.rows.block b hb (fun e => hne e.symm)⟩
theorem ins3 (u : World) (sA sC : Value) (mA mC : Nat) (A C E : List Value) (cs : Array Value) (hA : ∀ s, Below u.heap.size u s → Src Try.prog k t sA mA A s) (hC : ∀ s, Below u.heap.size u s → Src Try.prog k t sC mC C s)
    (hE : ∀ (s : World) (b : Nat), s.heap[b]? = some (.cells cs e (0, 0)) → Src Try.prog k t (.slice (some ⟨b, 0, none⟩) 1 1) 1 E s) (hb1 : bytes ≤ 200) (hb2 : mA + 1 + mC ≤ 1000) :
    (∃ v1 s1 v2 s2 v3 s3, (Builtin.append_ #[t, t] t #[.slice (some ⟨u.heap.size, 0, none⟩) 0 0, sA]).run Try.prog (u.alloc (.cells #[] e)) = .ok v1 s1 ∧ (Builtin.append_ #[t, t] t #[v1, .slice (some ⟨s1.heap.size, 0, none⟩) 1 1]).run Try.prog (s1.alloc (.cells cs e)) = .ok v2 s2 ∧ (Builtin.append_ #[t, t] t #[v2, sC]).run Try.prog s2 = .ok v3 s3 ∧ s3.ownsRow u.heap.size e k v3 (mA + 1 + mC) (A ++ E ++ C) ∧ Below u.heap.size u s1 ∧ Below u.heap.size u s2 ∧ Below u.heap.size u s3) ∧
    (∃ v1 s1 v2 s2 v3 s3, (Builtin.append_ #[t, t] t #[.slice (some ⟨u.heap.size, 0, none⟩) 0 0, sA]).run Try.prog ((u.alloc (.cells #[] e)).alloc (.cells cs e)) = .ok v1 s1 ∧ (Builtin.append_ #[t, t] t #[v1, .slice (some ⟨u.heap.size + 1, 0, none⟩) 1 1]).run Try.prog s1 = .ok v2 s2 ∧ (Builtin.append_ #[t, t] t #[v2, sC]).run Try.prog s2 = .ok v3 s3 ∧ s3.ownsRow u.heap.size e k v3 (mA + 1 + mC) (A ++ E ++ C) ∧ Below u.heap.size u s1 ∧ Below u.heap.size u s2 ∧ Below u.heap.size u s3) ∧
    (∃ v1 s1 v2 s2 v3 s3, (Builtin.append_ #[t, t] t #[.slice (some ⟨u.heap.size + 1, 0, none⟩) 0 0, sA]).run Try.prog ((u.alloc (.cells cs e)).alloc (.cells #[] e)) = .ok v1 s1 ∧ (Builtin.append_ #[t, t] t #[v1, .slice (some ⟨u.heap.size, 0, none⟩) 1 1]).run Try.prog s1 = .ok v2 s2 ∧ (Builtin.append_ #[t, t] t #[v2, sC]).run Try.prog s2 = .ok v3 s3 ∧ s3.ownsRow u.heap.size e k v3 (mA + 1 + mC) (A ++ E ++ C) ∧ Below u.heap.size u s1 ∧ Below u.heap.size u s2 ∧ Below u.heap.size u s3) := by
  have bnd : ∀ x, x ≤ 1000 → x * bytes ≤ 1000000 := fun x hx => Nat.le_trans (Nat.mul_le_mul hx hb1) (by omega)
  have al : ∀ o : Obj, Below u.heap.size u (u.alloc o) := fun o => (Below.refl _ _).alloc (Nat.le_refl _) o
  have al2 : ∀ o o' : Obj, Below u.heap.size u ((u.alloc o).alloc o') := fun o o' => (al o).alloc (by simp) o'
  refine ⟨?_, ?_, ?_⟩
  · obtain ⟨v1, s1, r1, o1, b1, n1, -⟩ := app1 ht hi hz hsz hby hzs (u.alloc (.cells #[] e)) u.heap.size _ sA 0 mA [] A (owns_emp u u.heap.size k e (Nat.le_refl _)) (hA _ (al _)) (by simp) (bnd _ (by omega)) (by omega)
    have B1 := (al (.cells #[] e)).trans b1
    have hal : Below s1.heap.size s1 (s1.alloc (.cells cs e)) := (Below.refl _ _).alloc (Nat.le_refl _) _
    obtain ⟨v2, s2, r2, o2, b2, n2, -⟩ := app1 ht hi hz hsz hby hzs (s1.alloc (.cells cs e)) u.heap.size v1 _ (0 + mA) 1 ([] ++ A) E (o1.alloc _) (hE _ _ (heap_alloc_new s1 _)) (by simp; omega) (bnd _ (by omega)) (by omega)
    have B2 := B1.trans ((hal.mono n1).trans b2)
    obtain ⟨v3, s3, r3, o3, b3, n3, -⟩ := app1 ht hi hz hsz hby hzs s2 u.heap.size v2 sC (0 + mA + 1) mC ([] ++ A ++ E) C o2 (hC _ B2) n2 (bnd _ (by omega)) (by omega)
    refine ⟨v1, s1, v2, s2, v3, s3, r1, r2, r3, ?_, B1, B2, B2.trans b3⟩
    rw [Nat.zero_add, List.nil_append] at o3; exact o3
  · obtain ⟨v1, s1, r1, o1, b1, n1, k1⟩ := app1 ht hi hz hsz hby hzs ((u.alloc (.cells #[] e)).alloc (.cells cs e)) u.heap.size _ sA 0 mA [] A ((owns_emp u u.heap.size k e (Nat.le_refl _)).alloc _) (hA _ (al2 _ _)) (by simp; omega) (bnd _ (by omega)) (by omega)
    have B1 := (al2 (.cells #[] e) (.cells cs e)).trans b1
    have hel : s1.heap[u.heap.size + 1]? = some (.cells cs e (0, 0)) := by
      rw [k1 (u.heap.size + 1) (by simp) (by intro e2; injection e2 with e2; simp only at e2; omega)]
      have := heap_alloc_new (u.alloc (.cells #[] e)) (.cells cs e)
      rwa [World.size_alloc] at this
    obtain ⟨v2, s2, r2, o2, b2, n2, -⟩ := app1 ht hi hz hsz hby hzs s1 u.heap.size v1 _ (0 + mA) 1 ([] ++ A) E o1 (hE _ _ hel) n1 (bnd _ (by omega)) (by omega)
    have B2 := B1.trans b2
    obtain ⟨v3, s3, r3, o3, b3, n3, -⟩ := app1 ht hi hz hsz hby hzs s2 u.heap.size v2 sC (0 + mA + 1) mC ([] ++ A ++ E) C o2 (hC _ B2) n2 (bnd _ (by omega)) (by omega)
    refine ⟨v1, s1, v2, s2, v3, s3, r1, r2, r3, ?_, B1, B2, B2.trans b3⟩
    rw [Nat.zero_add, List.nil_append] at o3; exact o3
  · have oe := owns_emp (u.alloc (.cells cs e)) u.heap.size k e (by simp)
    rw [World.size_alloc] at oe
    obtain ⟨v1, s1, r1, o1, b1, n1, k1⟩ := app1 ht hi hz hsz hby hzs ((u.alloc (.cells cs e)).alloc (.cells #[] e)) u.heap.size _ sA 0 mA [] A oe (hA _ (al2 _ _)) (by simp; omega) (bnd _ (by omega)) (by omega)
    have B1 := (al2 (.cells cs e) (.cells #[] e)).trans b1
    have hel : s1.heap[u.heap.size]? = some (.cells cs e (0, 0)) := by
      rw [k1 u.heap.size (by simp; omega) (by intro e2; injection e2 with e2; simp only at e2; omega), ((Below.refl (u.alloc (.cells cs e)).heap.size (u.alloc (.cells cs e))).alloc (Nat.le_refl _) (.cells #[] e)).block u.heap.size (by simp)]
      exact heap_alloc_new u _
    obtain ⟨v2, s2, r2, o2, b2, n2, -⟩ := app1 ht hi hz hsz hby hzs s1 u.heap.size v1 _ (0 + mA) 1 ([] ++ A) E o1 (hE _ _ hel) n1 (bnd _ (by omega)) (by omega)
    have B2 := B1.trans b2
    obtain ⟨v3, s3, r3, o3, b3, n3, -⟩ := app1 ht hi hz hsz hby hzs s2 u.heap.size v2 sC (0 + mA + 1) mC ([] ++ A ++ E) C o2 (hC _ B2) n2 (bnd _ (by omega)) (by omega)
    refine ⟨v1, s1, v2, s2, v3, s3, r1, r2, r3, ?_, B1, B2, B2.trans b3⟩
    rw [Nat.zero_add, List.nil_append] at o3; exact o3
end
theorem xs_nil {w : World} (ao : Option Addr) : XSees w ao [] := fun i c h => by simp at h
theorem xs_take {w : World} {ao : Option Addr} {L : List Cx} (h : XSees w ao L) (k : Nat) : XSees w ao (L.take k) := fun i c hc => by
  have hi : i < k := by have := (List.getElem?_eq_some_iff.1 hc).1; rw [List.length_take] at this; omega
  rw [List.getElem?_take_of_lt hi] at hc
  exact h i c hc
theorem xs_drop {w : World} {g : Nat} {L : List Cx} (h : XSees w (some ⟨g, 0, none⟩) L) (k : Nat) : XSees w (some ⟨g, k * 10, none⟩) (L.drop k) := fun i c hc => by
  rw [List.getElem?_drop] at hc
  obtain ⟨b, off, e, t⟩ := h _ c hc
  obtain ⟨rfl, rfl⟩ : g = b ∧ 0 = off := by simpa using e
  refine ⟨g, k * 10, rfl, ?_⟩
  rw [Nat.zero_add, Nat.add_mul] at t
  exact t
theorem src_take {w : World} {g k : Nat} {L : List Cx} (h : XSees w (some ⟨g, 0, none⟩) L) (hk : k ≤ L.length) (cap : Nat) : Src Try.prog 10 23 (.slice (some ⟨g, 0, none⟩) k cap) k ((L.take k).flatMap xs10) w := by
  have := src_cells (xs_take h k) (fun e => by cases e) cap
  have e : (L.take k).length = k := by rw [List.length_take]; omega
  rw [e] at this
  exact this
theorem src_drop {w : World} {g k n : Nat} {L : List Cx} (h : XSees w (some ⟨g, 0, none⟩) L) (hn : n = L.length) (cap : Nat) : Src Try.prog 10 23 (.slice (some ⟨g, k * 10, none⟩) (n - k) cap) (n - k) ((L.drop k).flatMap xs10) w := by
  have := src_cells (xs_drop h k) (fun e => by cases e) cap
  have e : (L.drop k).length = n - k := by rw [List.length_drop]; omega
  rw [e] at this
  exact this
theorem src_zero {w : World} (ao : Option Addr) (cap : Nat) : Src Try.prog 10 23 (.slice ao 0 cap) 0 [] w := src_cells (xs_nil ao) (fun _ => rfl) cap
theorem src_box {w : World} {b : Nat} {c : Cx} (h : w.heap[b]? = some (.cells c.a 40 (0, 0))) : Src Try.prog 10 23 (.slice (some ⟨b, 0, none⟩) 1 1) 1 (xs10 c) w := by
  have := src_cells (w := w) (ao := some ⟨b, 0, none⟩) (l := [c]) (fun i x hx => by
    have hi : i = 0 := by have := (List.getElem?_eq_some_iff.1 hx).1; simp at this; exact this
    subst hi
    obtain rfl : c = x := Option.some.inj hx
    exact ⟨b, 0, rfl, by simpa using TenX.of h⟩) (fun e => by cases e) 1
  simpa using this
/-! ### The same of numbers -/
theorem is_take {w : World} {ao : Option Addr} {L : List Int} (h : ISees w ao L) (k : Nat) : ISees w ao (L.take k) := fun i c hc => by
  have hi : i < k := by have := (List.getElem?_eq_some_iff.1 hc).1; rw [List.length_take] at this; omega
  rw [List.getElem?_take_of_lt hi] at hc
  exact h i c hc
theorem is_drop {w : World} {g off : Nat} {L : List Int} (h : ISees w (some ⟨g, off, none⟩) L) (k : Nat) : ISees w (some ⟨g, off + k, none⟩) (L.drop k) := fun i c hc => by
  rw [List.getElem?_drop] at hc
  obtain ⟨b, off', e, t⟩ := h _ c hc
  obtain ⟨rfl, rfl⟩ : g = b ∧ off = off' := by simpa using e
  exact ⟨g, off + k, rfl, by rwa [Nat.add_assoc]⟩
theorem srcI_take {w : World} {g off k : Nat} {L : List Int} (h : ISees w (some ⟨g, off, none⟩) L) (hk : k ≤ L.length) (cap : Nat) : Src Try.prog 1 22 (.slice (some ⟨g, off, none⟩) k cap) k (vI (L.take k)) w := by
  have := src_ints (is_take h k) (fun e => by cases e) cap
  have e : (L.take k).length = k := by rw [List.length_take]; omega
  rw [e] at this
  exact this
theorem srcI_drop {w : World} {g off k n : Nat} {L : List Int} (h : ISees w (some ⟨g, off, none⟩) L) (hn : n = L.length) (cap : Nat) : Src Try.prog 1 22 (.slice (some ⟨g, off + k, none⟩) (n - k) cap) (n - k) (vI (L.drop k)) w := by
  have := src_ints (is_drop h k) (fun e => by cases e) cap
  have e : (L.drop k).length = n - k := by rw [List.length_drop]; omega
  rw [e] at this
  exact this
theorem srcI_zero {w : World} (ao : Option Addr) (cap : Nat) : Src Try.prog 1 22 (.slice ao 0 cap) 0 [] w := src_ints (l := []) (fun i c h => by simp at h) (fun _ => rfl) cap
theorem srcI_box {w : World} {b : Nat} {x : Int} (h : w.heap[b]? = some (.cells #[.int .i64 x] 3 (0, 0))) : Src Try.prog 1 22 (.slice (some ⟨b, 0, none⟩) 1 1) 1 (vI [x]) w :=
  src_ints (w := w) (ao := some ⟨b, 0, none⟩) (l := [x]) (fun i y hy => by
    have hi : i = 0 := by have := (List.getElem?_eq_some_iff.1 hy).1; simp at this; exact this
    subst hi
    obtain rfl : x = y := Option.some.inj hy
    exact ⟨b, 0, rfl, by simp [World.cell?, h]⟩) (fun e => by cases e) 1
end Go.Proofs.Ytlhojbgpmjcjlaa
