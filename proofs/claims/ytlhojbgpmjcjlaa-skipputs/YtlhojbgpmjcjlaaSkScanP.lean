/-
  PLAIN: the cells of a list that rises, between two keys.
-/
import Derived.Test.YtlhojbgpmjcjlaaSkGet
import Derived.Test.YtlhojbgpmjcjlaaCxPlain
namespace Go.Proofs.Ytlhojbgpmjcjlaa
open Go.RowKit

/-- The cells between two keys. -/
def scanC (a u : Kb) (l : List Cx) : List Cx := l.filter fun c => decide (0 ≤ kc c.k.ky a.ky) && decide (kc c.k.ky u.ky < 0)
theorem scan_parts {a u : Kb} {A B C : List Cx} (hA : ∀ c ∈ A, kc c.k.ky a.ky < 0) (hB : ∀ c ∈ B, 0 ≤ kc c.k.ky a.ky ∧ kc c.k.ky u.ky < 0) (hC : ∀ c ∈ C, 0 ≤ kc c.k.ky u.ky) : scanC a u (A ++ (B ++ C)) = B := by
  have e1 : scanC a u A = [] := List.filter_eq_nil_iff.2 fun c hc h => by
    have := hA c hc
    simp at h; omega
  have e2 : scanC a u B = B := List.filter_eq_self.2 fun c hc => by
    have := hB c hc
    simp; omega
  have e3 : scanC a u C = [] := List.filter_eq_nil_iff.2 fun c hc h => by
    have := hC c hc
    simp at h; omega
  unfold scanC at e1 e2 e3 ⊢
  rw [List.filter_append, List.filter_append, e1, e2, e3]; simp
theorem kc_behind {x y : Cx} {u : Kb} (h : kx x y < 0) (hx : 0 ≤ kc x.k.ky u.ky) : 0 ≤ kc y.k.ky u.ky := by
  have h1 : kc x.k.ky y.k.ky < 0 := h
  rcases Int.lt_or_le (kc y.k.ky u.ky) 0 with h2 | h2
  · have := kc_cmpr.strict h1 h2; omega
  · exact h2
theorem kc_ahead {x y : Cx} {u : Kb} (h : kx x y < 0) (hy : kc y.k.ky u.ky < 0) : kc x.k.ky u.ky < 0 := kc_cmpr.strict (show kc x.k.ky y.k.ky < 0 from h) hy
theorem scan_len (a u : Kb) (l : List Cx) : (scanC a u l).length ≤ l.length := List.length_filter_le _ _
/-- Two scans that meet tell what one scan tells. -/
theorem scan_meet {a m u : Kb} (h1 : kc a.ky m.ky ≤ 0) (h2 : kc m.ky u.ky ≤ 0) : ∀ {l : List Cx}, Rising l → scanC a m l ++ scanC m u l = scanC a u l
  | [], _ => rfl
  | c :: l, h => by
    obtain ⟨hc, hl⟩ := List.pairwise_cons.1 h
    have ih := scan_meet h1 h2 hl
    have n1 := kc_cmpr.n c.k.ky m.ky
    by_cases hm : kc c.k.ky m.ky < 0
    · have hu : kc c.k.ky u.ky < 0 := by
        have := kc_cmpr.t c.k.ky m.ky u.ky (by omega) h2
        rcases Int.lt_or_le (kc c.k.ky u.ky) 0 with h3 | h3
        · exact h3
        · have e : kc c.k.ky u.ky = 0 := by omega
          have e2 := (kc_cmpr.z _ _).1 e
          rw [e2] at hm
          have := kc_cmpr.n m.ky u.ky
          omega
      have nm : ¬ 0 ≤ kc c.k.ky m.ky := by omega
      by_cases ha : 0 ≤ kc c.k.ky a.ky
      · unfold scanC at ih ⊢
        simp [ha, hm, hu, nm, ih]
      · unfold scanC at ih ⊢
        simp [ha, nm, ih]
    · have hm' : 0 ≤ kc c.k.ky m.ky := by omega
      have ha : 0 ≤ kc c.k.ky a.ky := by
        have := kc_cmpr.t a.ky m.ky c.k.ky h1 (by omega)
        have := kc_cmpr.n a.ky c.k.ky
        omega
      have e1 : scanC a m (c :: l) = [] := List.filter_eq_nil_iff.2 fun d hd h => by
        have : 0 ≤ kc d.k.ky m.ky := by
          rcases List.mem_cons.1 hd with rfl | hd
          · exact hm'
          · exact kc_behind (hc d hd) hm'
        simp at h; omega
      have e0 : scanC a m l = [] := List.filter_eq_nil_iff.2 fun d hd h => by
        have := kc_behind (hc d hd) hm'
        simp at h; omega
      rw [e0] at ih
      rw [e1]
      unfold scanC at ih ⊢
      simp only [List.nil_append] at ih ⊢
      simp [List.filter_cons, ha, hm', ih]
end Go.Proofs.Ytlhojbgpmjcjlaa
