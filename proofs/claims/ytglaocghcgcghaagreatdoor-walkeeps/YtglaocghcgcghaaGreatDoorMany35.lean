/-
  SEVERAL TEXTS IN ONE: WkCls, WkOpenW, WkPh, WkTwice, WkOff.
-/
import Derived.Test.YtglaocghcgcghaaGreatDoorMany22
import Derived.Test.YtglaocghcgcghaaGreatDoorMany34
import Derived.Test.YtglaocghcgcghaaGreatDoorWalLives
namespace Go.Proofs.YtglaocghcgcghaaGreatDoor
open Go.RowKit

theorem map_lose_1 (E : List UInt8) (x : Nat) : [suW q1 E].map (fun t => loseT t x) = [suW q1 E] := by simp [lose_su]
theorem map_lose_2 (a b E X : List UInt8) (x : Nat) : [suW a E, suW b X].map (fun t => loseT t x) = [suW a E, suW b X] := by simp [lose_su]
theorem map_lose_3 (a b c E X Y : List UInt8) (x : Nat) : [suW a E, suW b X, suW c Y].map (fun t => loseT t x) = [suW a E, suW b X, suW c Y] := by simp [lose_su]
/-- A new segment behind the first one. -/
theorem begin_res {A : Ab} {k : Nat} (hN : Nice A k) (hon : A.on = true) {E : List UInt8} (hsp : A.sp = [suW q1 E]) :
    ((beginX A 2).1 = 0 ∨ (beginX A 2).1 = 9) ∧ ((beginX A 2).2.sp = [suW q1 E] ∨ (beginX A 2).2.sp = [suW q1 E, suW q2 []]) ∧ (A.left = 0 → (beginX A 2).1 = 0) ∧ ((beginX A 2).1 = 0 → (beginX A 2).2.sp = [suW q1 E, suW q2 []]) := by
  have h1 : Stp A (createX A (tB (nmW 2))) [suW q1 E, suW q2 []] (fun sp => sp = [suW q1 E]) := by
    rw [nm_two]
    exact create_stp hN hon (by rw [hsp]; simp) good2 (by rw [hsp]; exact put_12 E) (fun x => by rw [hsp]; exact map_lose_1 E x) hsp
  unfold beginX
  generalize createX A (tB (nmW 2)) = q at *
  rcases h1 with ⟨hl, e1, e2, e3, e4⟩ | ⟨hl, e1, e2, e3⟩
  · rw [chainW_ok e1]
    have h2 : Stp q.2 (syncX q.2 (tB (nmW 2))) [suW q1 E, suW q2 []] (fun sp => sp = [suW q1 E, suW q2 []]) := by
      rw [nm_two]
      refine sync_stp e3 good2 (t := suW q2 []) (by rw [e2, find_ne ne_12, find_su]) ?_ (fun x => by rw [e2]; exact map_lose_2 _ _ _ _ _)
      rw [e2]
      have a1 : ((suW q1 E).nm == q2) = false := ne_12
      have a2 : ((suW q2 []).nm == q2) = true := by show (q2 == q2) = true; decide
      show [if ((suW q1 E).nm == q2) = true then _ else suW q1 E, if ((suW q2 []).nm == q2) = true then suW q2 [] else suW q2 []] = _
      rw [if_pos a2, if_neg (by rw [a1]; simp)]
    generalize syncX q.2 (tB (nmW 2)) = r at *
    rcases h2 with ⟨hl2, f1, f2, f3, f4⟩ | ⟨hl2, f1, f2, f3⟩
    · exact ⟨.inl f1, .inr f2, fun _ => f1, fun _ => f2⟩
    · exact ⟨.inr f1, .inr f3, fun h => (by omega), fun _ => f3⟩
  · rw [chainW_no (by rw [e1]; decide)]
    exact ⟨.inr e1, .inl e3, fun h => (by omega), fun h => absurd (e1.symm.trans h) (by decide)⟩
/-- A new segment behind two. -/
theorem begin_three {A : Ab} {k : Nat} (hN : Nice A k) (hon : A.on = true) (hl0 : A.left = 0) {E : List UInt8} (hsp : A.sp = [suW q1 E, suW q2 []]) : (beginX A 3).1 = 0 := by
  have h1 : Stp A (createX A (tB (nmW 3))) [suW q1 E, suW q2 [], suW q3 []] (fun sp => sp = sp) := by
    rw [nm_three]
    exact create_stp hN hon (by rw [hsp]; simp) good3 (by rw [hsp]; exact put_123 E) (fun x => by rw [hsp]; exact map_lose_2 _ _ _ _ x) rfl
  unfold beginX
  generalize createX A (tB (nmW 3)) = q at *
  rcases h1 with ⟨hl, e1, e2, e3, e4⟩ | ⟨hl, e1, e2, e3⟩
  · rw [chainW_ok e1]
    have h2 : Stp q.2 (syncX q.2 (tB (nmW 3))) (upd q.2.sp q3 (suW q3 [])) (fun sp => sp = sp) := by
      rw [nm_three]
      exact sync_stp e3 good3 (t := suW q3 []) (by rw [e2, find_ne ne_13, find_ne ne_23, find_su]) rfl (fun x => rfl)
    rcases h2 with ⟨hl2, f1, _⟩ | ⟨hl2, _⟩
    · exact f1
    · omega
  · omega
/-- A torn segment is mended. -/
theorem mend_res {A : Ab} {k : Nat} (hN : Nice A k) (hon : A.on = true) {E S : List UInt8} {r : List Sig} (hsp : A.sp = suW q1 E :: r) (hr : r = [] ∨ ∃ X, r = [suW spW X]) (hS : S.length ≤ 600000) :
    ((mendX A 1 S).1 = 0 ∧ (mendX A 1 S).2.sp = [suW q1 S] ∧ (mendX A 1 S).2.on = true ∧ (A.left = 0 → (mendX A 1 S).2.left = 0)) ∨ ((mendX A 1 S).1 = 9 ∧ A.left ≠ 0 ∧ ((mendX A 1 S).2.sp = A.sp ∨ ∃ X, (mendX A 1 S).2.sp = [suW q1 E, suW spW X])) := by
  have hc : A.sp.length ≤ 10 := by rcases hr with rfl | ⟨X, rfl⟩ <;> rw [hsp] <;> simp
  have hlose : ∀ x, A.sp.map (fun t => loseT t x) = A.sp := fun x => by
    rcases hr with rfl | ⟨X, rfl⟩ <;> rw [hsp]
    · exact map_lose_1 E x
    · exact map_lose_2 _ _ _ _ x
  have h1 : Stp A (createX A (tB spW)) [suW q1 E, suW spW []] (fun sp => sp = A.sp) := create_stp hN hon hc goodN (by rw [hsp]; exact put_n1 E [] r hr) hlose rfl
  have hN1 := hN.create (tB spW)
  have hmx : mendX A 1 S = chainW (createX A (tB spW)) fun A1 => chainW (fillW A1 S) fun A2 => chainW (syncX A2 (tB spW)) fun A3 => renameX A3 (tB spW) (tB (nmW 1)) := rfl
  rw [hmx]
  generalize createX A (tB spW) = q at *
  rcases h1 with ⟨hl, e1, e2, e3, e4⟩ | ⟨hl, e1, e2, e3⟩
  · rw [chainW_ok e1]
    have hfind : findT q.2.sp spW = some (suW spW []) := by rw [e2, find_ne ne_1n, find_su]
    -- the sound bytes
    have h2 : (q.2.left ≠ 1 ∨ S = []) ∧ (fillW q.2 S).1 = 0 ∧ (∃ pl, (fillW q.2 S).2.sp = [suW q1 E, ⟨spW, S, 0, pl⟩]) ∧ (fillW q.2 S).2.on = true ∧ (q.2.left = 0 → (fillW q.2 S).2.left = 0) ∨ (q.2.left = 1 ∧ (fillW q.2 S).1 = 9 ∧ ∃ X, (fillW q.2 S).2.sp = [suW q1 E, suW spW X]) := by
      unfold fillW
      by_cases hS0 : S = []
      · rw [if_pos hS0]
        exact .inl ⟨.inr hS0, rfl, ⟨[], by rw [e2, hS0]; rfl⟩, e3, id⟩
      · rw [if_neg hS0]
        have := append_stp hN1 e3 (by rw [e2]; simp) goodN hfind S (by show [].length + S.length ≤ _; simp; exact hS) (C := fun sp => ∃ X, sp = [suW q1 E, suW spW X]) (fun x => by
          rw [e2, upd_n1 E _ _ rfl]
          obtain ⟨j, _, hj⟩ := lose_part spW [] S ((suW spW []).pl ++ List.range' q.2.next (growT (suW spW []) S)) x
          refine ⟨[] ++ S.take j, ?_⟩
          have hj' : loseT ⟨spW, (suW spW []).bs ++ S, (suW spW []).wr, (suW spW []).pl ++ List.range' q.2.next (growT (suW spW []) S)⟩ x = suW spW ([] ++ S.take j) := hj
          rw [List.map_cons, List.map_cons, List.map_nil, lose_su, hj'])
        rcases this with ⟨a1, a2, a3, a4, a5⟩ | ⟨a1, a2, a3, a4⟩
        · refine .inl ⟨.inl a1, a2, ⟨_, by rw [a3, e2, upd_n1 E _ _ rfl]; rfl⟩, a4, fun h => by omega⟩
        · exact .inr ⟨a1, a2, a4⟩
    have hN2 : Nice (fillW q.2 S).2 (k + 1 + 1) := hN1.fill (fun t ht => by rw [hfind] at ht; cases ht; show [].length + S.length ≤ _; simp; exact hS)
    generalize fillW q.2 S = f at *
    rcases h2 with ⟨_, b1, ⟨pl, b2⟩, b3, b4⟩ | ⟨b0, b1, X, b2⟩
    · rw [chainW_ok b1]
      have h3 : Stp f.2 (syncX f.2 (tB spW)) [suW q1 E, suW spW S] (fun sp => ∃ X, sp = [suW q1 E, suW spW X]) := by
        refine sync_stp b3 goodN (t := ⟨spW, S, 0, pl⟩) (by rw [b2, find_ne ne_1n]; exact find_at _ _ rfl _) (by rw [b2, upd_n1 E _ _ rfl]) (fun x => ?_)
        rw [b2]
        obtain ⟨j, _, hj⟩ := lose_part spW [] S pl x
        refine ⟨[] ++ S.take j, ?_⟩
        have hj' : loseT ⟨spW, S, 0, pl⟩ x = suW spW ([] ++ S.take j) := hj
        rw [List.map_cons, List.map_cons, List.map_nil, lose_su, hj']
      generalize syncX f.2 (tB spW) = g at *
      rcases h3 with ⟨c0, c1, c2, c3, c4⟩ | ⟨c0, c1, c2, c3⟩
      · rw [chainW_ok c1]
        have h4 : Stp g.2 (renameX g.2 (tB spW) (tB (nmW 1))) [suW q1 S] (fun sp => sp = [suW q1 E, suW spW S]) := by
          rw [nm_one]
          exact rename_stp c3 goodN1 (t := suW spW S) (by rw [c2, find_ne ne_1n, find_su]) (by rw [c2]; exact ren_n1 E S) (fun x => by rw [c2]; exact map_lose_2 _ _ _ _ x) c2
        generalize renameX g.2 (tB spW) (tB (nmW 1)) = p at *
        rcases h4 with ⟨d0, d1, d2, d3, d4⟩ | ⟨d0, d1, d2, d3⟩
        · exact .inl ⟨d1, d2, d3, fun h => by have := b4 (by omega); omega⟩
        · exact .inr ⟨d1, fun h => by have := b4 (by omega); omega, .inr ⟨S, d3⟩⟩
      · rw [chainW_no (by rw [c1]; decide)]
        exact .inr ⟨c1, fun h => by have := b4 (by omega); omega, .inr c3⟩
    · rw [chainW_no (by rw [b1]; decide)]
      exact .inr ⟨b1, fun h => by omega, .inr ⟨X, b2⟩⟩
  · rw [chainW_no (by rw [e1]; decide)]
    exact .inr ⟨e1, fun h => by omega, .inl e3⟩
/-- What lies on the disk behind an Open, whether it was cut off or not. -/
def Cls (E : List UInt8) (n : Nat) (sp : List Sig) : Prop :=
  sp = [suW q1 E] ∨ (n < E.length ∧ ∃ X, sp = [suW q1 E, suW spW X]) ∨ sp = [suW q1 (E.take n)] ∨ sp = [suW q1 (E.take n), suW q2 []]
theorem Nice.open {A : Ab} {k : Nat} (h : Nice A k) {t : Bool} {l : List UInt8} {a b : Int} (hz : ∀ t, findT (createX A (tB spW)).2.sp spW = some t → t.bs.length + l.length ≤ 600000) : Nice (openX A t l a b).2 (k + 4 + 2) := by
  unfold openX
  refine Nice.chain (k := k + 4) (j := 2) ?_ fun h1 => h1.beginX b
  cases t
  · exact h.mono (Nat.le_add_right _ _)
  · exact h.mend hz
theorem spare_small {A : Ab} {k : Nat} (hN : Nice A k) (hon : A.on = true) {E : List UInt8} {r : List Sig} (hsp : A.sp = suW q1 E :: r) (hr : r = [] ∨ ∃ X, r = [suW spW X]) {m : Nat} (hm : m ≤ 600000) (hX : A.left = 1 → r = []) : ∀ t, findT (createX A (tB spW)).2.sp spW = some t → t.bs.length + m ≤ 600000 := by
  intro t ht
  have hc : A.sp.length ≤ 10 := by rcases hr with rfl | ⟨X, rfl⟩ <;> rw [hsp] <;> simp
  have hlose : ∀ x, A.sp.map (fun t => loseT t x) = A.sp := fun x => by
    rcases hr with rfl | ⟨X, rfl⟩ <;> rw [hsp]
    · exact map_lose_1 E x
    · exact map_lose_2 _ _ _ _ x
  have h1 : Stp A (createX A (tB spW)) [suW q1 E, suW spW []] (fun sp => sp = A.sp) := create_stp hN hon hc goodN (by rw [hsp]; exact put_n1 E [] r hr) hlose rfl
  rcases h1 with ⟨hl, e1, e2, e3, e4⟩ | ⟨hl, e1, e2, e3⟩
  · rw [e2, find_ne ne_1n, find_su] at ht
    cases ht
    show [].length + m ≤ _
    simp; exact hm
  · rw [e3, hsp, find_ne ne_1n, hX hl] at ht
    cases ht
theorem open_plan {A : Ab} {k : Nat} (hN : Nice A k) (hon : A.on = true) {E : List UInt8} {n : Nat} (hsp : A.sp = [suW q1 E]) (hE : E.length ≤ 600000) (hn : n ≤ E.length) :
    ((openX A (decide (n < E.length)) (E.take n) 1 2).1 = 0 ∨ (openX A (decide (n < E.length)) (E.take n) 1 2).1 = 9) ∧ Cls E n (openX A (decide (n < E.length)) (E.take n) 1 2).2.sp := by
  unfold openX
  by_cases ht : n < E.length
  · rw [decide_eq_true ht, if_pos rfl]
    have hS : (E.take n).length ≤ 600000 := by rw [List.length_take]; omega
    have h1 := mend_res hN hon hsp (.inl rfl) hS
    have hN1 : Nice (mendX A 1 (E.take n)).2 (k + 4) := hN.mend (spare_small hN hon hsp (.inl rfl) hS (fun _ => rfl))
    generalize mendX A 1 (E.take n) = q at *
    rcases h1 with ⟨e1, e2, e3, _⟩ | ⟨e1, _, e2⟩
    · rw [chainW_ok e1]
      obtain ⟨b1, b2, _⟩ := begin_res hN1 e3 e2
      exact ⟨b1, by rcases b2 with b2 | b2; exact .inr (.inr (.inl b2)); exact .inr (.inr (.inr b2))⟩
    · rw [chainW_no (by rw [e1]; decide)]
      refine ⟨.inr e1, ?_⟩
      rcases e2 with e2 | ⟨X, e2⟩
      · exact .inl (e2.trans hsp)
      · exact .inr (.inl ⟨ht, X, e2⟩)
  · rw [decide_eq_false ht, if_neg (by simp), chainW_ok (by rfl)]
    obtain ⟨b1, b2, _⟩ := begin_res hN hon hsp
    have he : E.take n = E := List.take_of_length_le (by omega)
    refine ⟨b1, ?_⟩
    unfold Cls
    rw [he]
    rcases b2 with b2 | b2
    · exact .inl b2
    · exact .inr (.inr (.inr b2))
/-- With nothing planned an Open of one segment answers OK. -/
theorem open_free {A : Ab} {k : Nat} (hN : Nice A k) (hon : A.on = true) (hl : A.left = 0) {E : List UInt8} {n : Nat} {r : List Sig} (hsp : A.sp = suW q1 E :: r) (hr : r = [] ∨ n < E.length ∧ ∃ X, r = [suW spW X]) (hE : E.length ≤ 600000) :
    (openX A (decide (n < E.length)) (E.take n) 1 2).1 = 0 := by
  unfold openX
  by_cases ht : n < E.length
  · rw [decide_eq_true ht, if_pos rfl]
    have hS : (E.take n).length ≤ 600000 := by rw [List.length_take]; omega
    have hr' : r = [] ∨ ∃ X, r = [suW spW X] := hr.imp id fun h => h.2
    have h1 := mend_res hN hon hsp hr' (S := E.take n) hS
    have hN1 : Nice (mendX A 1 (E.take n)).2 (k + 4) := hN.mend (spare_small hN hon hsp hr' hS (fun h => by omega))
    generalize mendX A 1 (E.take n) = q at *
    rcases h1 with ⟨e1, e2, e3, e4⟩ | ⟨e1, e0, e2⟩
    · rw [chainW_ok e1]
      exact (begin_res hN1 e3 e2).2.2.1 (e4 hl)
    · exact absurd hl e0
  · rw [decide_eq_false ht, if_neg (by simp), chainW_ok (by rfl)]
    rcases hr with rfl | ⟨h, _⟩
    · exact (begin_res hN hon hsp).2.2.1 hl
    · exact absurd h ht
/-- A record is appended, and made sure. -/
theorem write_res {A : Ab} {k : Nat} (hN : Nice A k) (hon : A.on = true) {B : List UInt8} (hsp : A.sp = [suW q1 B]) (R : List UInt8) (hl : B.length + R.length ≤ 600000) :
    ((writeX A 1 R).1 = 0 ∧ (writeX A 1 R).2.sp = [suW q1 (B ++ R)] ∧ (writeX A 1 R).2.on = true) ∨ ((writeX A 1 R).1 = 9 ∧ (writeX A 1 R).2.on = false ∧ ∃ j, j ≤ R.length ∧ (writeX A 1 R).2.sp = [suW q1 (B ++ R.take j)]) := by
  have upd1 : ∀ (E : List UInt8) (wr : Nat) (pl : List Nat) (t : Sig), upd [⟨q1, E, wr, pl⟩] q1 t = [t] := fun E wr pl t => by simp [upd]
  have h1 : Stp A (appendX A (tB (nmW 1)) R) (upd A.sp q1 ⟨q1, B ++ R, B.length, [] ++ List.range' A.next (growT (suW q1 B) R)⟩) (fun sp => ∃ j, j ≤ R.length ∧ sp = [suW q1 (B ++ R.take j)]) := by
    rw [nm_one]
    refine append_stp hN hon (by rw [hsp]; simp) good1 (t := suW q1 B) (by rw [hsp]; exact find_su _ _ _) R hl (fun x => ?_)
    obtain ⟨j, hj, e⟩ := lose_part q1 B R ([] ++ List.range' A.next (growT (suW q1 B) R)) x
    refine ⟨j, hj, ?_⟩
    rw [hsp]
    show (upd [⟨q1, B, B.length, []⟩] q1 ⟨q1, B ++ R, B.length, [] ++ List.range' A.next (growT (suW q1 B) R)⟩).map (fun t => loseT t x) = _
    rw [upd1, List.map_cons, List.map_nil, e]
  unfold writeX
  generalize appendX A (tB (nmW 1)) R = q at *
  rcases h1 with ⟨hl, e1, e2, e3, e4⟩ | ⟨hl, e1, e2, j, hj, e3⟩
  · rw [chainW_ok e1]
    have hs2 : q.2.sp = [⟨q1, B ++ R, B.length, [] ++ List.range' A.next (growT (suW q1 B) R)⟩] := by
      rw [e2, hsp]
      exact upd1 _ _ _ _
    have h2 : Stp q.2 (syncX q.2 (tB (nmW 1))) [suW q1 (B ++ R)] (fun sp => ∃ j, j ≤ R.length ∧ sp = [suW q1 (B ++ R.take j)]) := by
      rw [nm_one]
      refine sync_stp e3 good1 (t := ⟨q1, B ++ R, B.length, [] ++ List.range' A.next (growT (suW q1 B) R)⟩) (by rw [hs2]; exact find_at _ _ rfl _) (by rw [hs2]; exact upd1 _ _ _ _) (fun x => ?_)
      obtain ⟨j, hj, e⟩ := lose_part q1 B R ([] ++ List.range' A.next (growT (suW q1 B) R)) x
      exact ⟨j, hj, by rw [hs2, List.map_cons, List.map_nil, e]⟩
    generalize syncX q.2 (tB (nmW 1)) = r at *
    rcases h2 with ⟨hl2, f1, f2, f3, f4⟩ | ⟨hl2, f1, f2, f3⟩
    · exact .inl ⟨f1, f2, f3⟩
    · exact .inr ⟨f1, f2, f3⟩
  · rw [chainW_no (by rw [e1]; decide)]
    exact .inr ⟨e1, e2, j, hj, e3⟩
theorem Nice.writeX {A : Ab} {k : Nat} (h : Nice A k) {m : Int} {l : List UInt8} (hl : ∀ t, findT A.sp (nmW m) = some t → t.bs.length + l.length ≤ 600000) : Nice (writeX A m l).2 (k + 2) :=
  Nice.chain (k := k + 1) (j := 1) (h.append (tB (nmW m)) (by rw [nameOf_tB]; exact hl)) fun h1 => h1.sync _
/-! ### what the first segment tells -/
theorem toldW_pre : ∀ (K : List (List Cx)) (T : List UInt8) (rs : List (List Cx)) (n : Nat), (∀ r ∈ K, recB r = true ∧ ∀ c ∈ r, c.Nums) → ToldW T rs n → ToldW (encW K ++ T) (K ++ rs) ((encW K).length + n)
  | [], T, rs, n, _, h => by
    have : encW [] = [] := rfl
    rw [this]; simpa using h
  | r :: K, T, rs, n, hK, h => by
    have hr := hK r (List.mem_cons_self ..)
    have ih := toldW_pre K T rs n (fun x hx => hK x (List.mem_cons_of_mem _ hx)) h
    have hf := fst_rec hr.1 hr.2 (encW K ++ T)
    have hpos : (recL r).length ≠ 0 := by
      have : (recL r).length = (cellsL (r.map toC)).length + 8 := frameL_length _
      omega
    have := toldW_cons (b := recL r ++ (encW K ++ T)) (rs := K ++ rs) (n := (encW K).length + n) (by rw [hf]; exact hpos) (by rw [hf]; rw [List.drop_left]; exact ih)
    rw [hf] at this
    rw [encW_cons, List.append_assoc, List.length_append, Nat.add_assoc, List.cons_append]
    exact this
theorem told_none : ToldW [] [] 0 := toldW_nil (by rw [fstW_no fun hc => absurd hc.1 (by decide)])
theorem told_all (K : List (List Cx)) (hK : ∀ r ∈ K, recB r = true ∧ ∀ c ∈ r, c.Nums) : ToldW (encW K) K (encW K).length := by
  have := toldW_pre K [] [] 0 hK told_none
  simpa using this
/-- Records, and a part of one more: what is told. -/
theorem told_tail (K : List (List Cx)) (r : List Cx) (j : Nat) (hK : ∀ x ∈ K, recB x = true ∧ ∀ c ∈ x, c.Nums) (hr : recB r = true ∧ ∀ c ∈ r, c.Nums) :
    ∃ rs, (rs = K ∨ rs = K ++ [r]) ∧ ToldW (encW K ++ (recL r).take j) rs (encW rs).length ∧ (encW K ++ (recL r).take j).take (encW rs).length = encW rs ∧ (encW rs).length ≤ (encW K ++ (recL r).take j).length := by
  rcases Nat.lt_or_ge j (recL r).length with h | h
  · refine ⟨K, .inl rfl, ?_, List.take_left, by rw [List.length_append]; omega⟩
    have := toldW_pre K ((recL r).take j) [] 0 hK (toldW_nil (by rw [fst_cut hr.1 j h]))
    simpa using this
  · have e : encW K ++ (recL r).take j = encW (K ++ [r]) := by rw [encW_snoc, List.take_of_length_le h]
    rw [e]
    refine ⟨K ++ [r], .inr rfl, told_all _ (fun x hx => ?_), List.take_length, Nat.le_refl _⟩
    rcases List.mem_append.1 hx with hx | hx
    · exact hK x hx
    · rw [List.mem_singleton] at hx; subst hx; exact hr
theorem recL_len {l : List Cx} (h : recB l = true) : (recL l).length ≤ 259 * l.length := by
  have h1 := recB_good h
  have h2 : (cxB l).length ≤ 10 + 241 * l.length := cxB_len fun c hc => good_small (h1.2 c hc)
  have e : cxB l = cellsL (l.map toC) := rfl
  rw [e] at h2
  have hL : (recL l).length = (cellsL (l.map toC)).length + 8 := frameL_length _
  omega
end Go.Proofs.YtglaocghcgcghaaGreatDoor
namespace Go.Proofs.YtglaocghcgcghaaGreatDoor
open Go.RowKit Go.Proofs.YtglaocghcgcghaaGreatDoor.walBack

/-- A disk, all of it new since w0; its blocks told. -/
def Kd (w0 : World) (d : Nat) (A : Ab) (ft : List Nat) (w : World) : Prop := At d A ft w ∧ (∀ i ∈ ft, w0.heap.size ≤ i) ∧ Below w0.heap.size w0 w
def KdR (w0 : World) (d : Nat) (A : Ab) (ft : List Nat) (w w' : World) : Prop := ∃ ft', Kd w0 d A ft' w' ∧ Moved w w' ft ft'
section
variable {w0 : World} {d : Nat} {A : Ab} {ft : List Nat} {w : World}
theorem Kd.more (h : Kd w0 d A ft w) {u : World} (hb : Below w.heap.size w u) : Kd w0 d A ft u := ⟨h.1.moved (moved_below (ft := []) hb) (by simp), h.2.1, h.2.2.trans (hb.mono h.2.2.size)⟩
theorem KdR.out {A' : Ab} {w' : World} {ft' : List Nat} (h : Kd w0 d A ft w) (ha : At d A' ft' w') (hm : Moved w w' ft ft') : KdR w0 d A' ft w w' := by
  obtain ⟨h1, h4, h6⟩ := h
  have hs := h6.size
  refine ⟨ft', ⟨ha, fun i hi => ?_, h6.trans ⟨hm.os, hm.tape, hm.output, hm.size, fun i hi => hm.kept i (by omega) fun h => ?_⟩⟩, hm⟩
  · rcases hm.news i hi with h | h
    · exact h4 i h
    · omega
  · have := h4 i h; omega
theorem lyf_new (h : Kd w0 d A ft w) : LyF w0 d w.heap.size A 0 false ft (w.alloc (.cells #[.pointer (some ⟨d, 0, none⟩), .int .i64 0, .bool false] 65)) := by
  have hB : Below w.heap.size w (w.alloc (.cells #[.pointer (some ⟨d, 0, none⟩), .int .i64 0, .bool false] 65)) := (Below.refl _ _).alloc (Nat.le_refl _) _
  refine ⟨(h.more hB).1, fun hi => ?_, Blk.new w _ _, h.2.1, h.2.2.size, (h.more hB).2.2⟩
  have := h.1.lt _ hi; omega
theorem LyR.kd {n : Int} {b : Bool} {A' : Ab} {u w' : World} {o : Obj} (hu : Below w.heap.size w u) (h : LyR w0 d u.heap.size A' n b ft (u.alloc o) w') : KdR w0 d A' ft w w' := by
  obtain ⟨ft', ⟨h1, _, _, h4, _, h6⟩, hm⟩ := h
  have hB : Below w.heap.size w (u.alloc o) := hu.alloc hu.size o
  have hs := hu.size
  refine ⟨ft', ⟨h1, h4, h6⟩, ⟨hm.os.trans hB.os, hm.tape.trans hB.tape, hm.output.trans hB.output, Nat.le_trans hB.size hm.size, fun i hi hn => ?_, fun i hi => ?_⟩⟩
  · rw [hm.kept i (by rw [World.size_alloc]; omega) (fun he => by
      rcases List.mem_cons.1 he with rfl | he
      · omega
      · exact hn he)]
    exact hB.block i hi
  · rcases hm.news i (List.mem_cons_of_mem _ hi) with he | he
    · rcases List.mem_cons.1 he with rfl | he
      · exact .inr hs
      · exact .inl he
    · rw [World.size_alloc] at he
      exact .inr (by omega)
end
set_option maxRecDepth 100000 in
set_option maxHeartbeats 4000000 in
theorem openWY {w0 : World} {d : Nat} {A : Ab} {ft : List Nat} {w : World} (he : EnvW w0) (ht : Tab w0) (ue : TypeId) (pv : Value) (hE : Err w0 ue pv) (h : Kd w0 d A ft w) (hon : A.on = true) {N : List Int} {L : Nat} {m : Int} (hNL : N.length = L + 1) (hNm : N[L]? = some m) (hN1 : ∀ x ∈ N, 1 ≤ x) (hNs : N.Pairwise (· < ·)) (hNn : (A.sp.map Sig.nm).filterMap numO = N)
    {F : Int → List UInt8} {rs : Int → List (List Cx)} {sz : Int → Nat} (hS : Segs A N F rs sz) (hg : ∀ n ∈ N, refuse true [tB (nmW n)] = 0) (hm1 : okW (m + 1) = true) (hspl : A.sp.length ≤ 1000) (hnl : ∀ t ∈ A.sp, t.nm.length ≤ 1000) {k : Nat} (hN : Nice A k) (hk : k + 10 ≤ 2000) (hz : ∀ t, findT (createX A (tB spW)).2.sp spW = some t → t.bs.length + sz m ≤ 600000)
    {q : Int × Ab} (hq : openX A (decide (sz m < (F m).length)) ((F m).take (sz m)) m (m + 1) = q) :
    Calls Tryz.prog 7 #[.pointer (some ⟨d, 0, none⟩), .int .i64 1] w fun x w' => ∃ p v, x = .returned (.tuple #[p, v, .int .i64 q.1]) ∧ KdR w0 d q.2 ft w w' ∧ (q.1 = 0 → ToldR w.heap.size (N.map rs).flatten v w') := by
  have CD : Hid (Calls Tryz.prog 21 #[.pointer (some ⟨d, 0, none⟩), .string ⟨#[]⟩] w fun x w' => x = .returned (.tuple #[.slice none 0 0, .int .i64 3]) ∧ Below w.heap.size w w') := by
    obtain ⟨⟨bm, fs, hD, hss, hft⟩, _⟩ := h
    refine (read_refused hD ⟨#[]⟩ (by show 0 ≤ maxLen; exact Nat.zero_le _) (c := 3) (by show refuse A.on [⟨#[]⟩] = 3; rw [hon]; rfl) (by omega)).mono ?_
    rintro x w' ⟨rfl, hg⟩
    exact ⟨rfl, belowN_none hg⟩
  have CP : Hid (∀ u, Calls Tryz.prog 22 #[.int .i64 1] u fun e w' => e = .returned (.bool true) ∧ w' = u) := fun u => possible_any 1 u
  have CO : Hid (∀ u, Below w.heap.size w u → Calls Tryz.prog 23 #[.pointer (some ⟨u.heap.size, 0, none⟩), .int .i64 1] (u.alloc (.cells #[.pointer (some ⟨d, 0, none⟩), .int .i64 0, .bool false] 65)) fun x w' => ∃ v, x = .returned (.tuple #[v, .int .i64 q.1]) ∧ KdR w0 d q.2 ft w w' ∧ (q.1 = 0 → ToldR w.heap.size (N.map rs).flatten v w')) := fun u hu => by
    refine (openLY he ht ue pv hE (lyf_new (h.more hu)) hon hNL hNm hN1 hNs hNn hS hg hm1 hspl hnl hN hk hz hq).mono ?_
    rintro x w' ⟨v, rfl, ⟨n', hR⟩, hT⟩
    refine ⟨v, rfl, hR.kd hu, fun h0 => (hT h0).low ?_⟩
    rw [World.size_alloc]
    have := hu.size; omega
  clear h he ht hE hon hNL hNm hN1 hNs hNn hS hg hm1 hspl hnl hN hk hz hq
  obtain ⟨c, A'⟩ := q
  simp only at CO
  by_cases h0 : c = 0
  · subst h0
    go_enter Tryz.func7, Tryz.ntmps7
    go_wp2_with fail
    go_fit CD.out
    rintro e w1 ⟨rfl, hK1⟩
    have C1 := CO.out w1 hK1
    go_wp2_with (go_at_call 22; refine (CP.out _).mono ?_; rintro e u2 ⟨rfl, rfl⟩)
    go_fit C1
    rintro e w3 ⟨v, rfl, hR, hT⟩
    clear C1 CO hK1
    go_wp2_with fail
    go_ret3
    exact ⟨_, _, rfl, hR, hT⟩
  · have h0b : (c != 0) = true := by simpa using h0
    go_enter Tryz.func7, Tryz.ntmps7
    go_wp2_with fail
    go_fit CD.out
    rintro e w1 ⟨rfl, hK1⟩
    have C1 := CO.out w1 hK1
    go_wp2_with (go_at_call 22; refine (CP.out _).mono ?_; rintro e u2 ⟨rfl, rfl⟩)
    go_fit C1
    rintro e w3 ⟨v, rfl, hR, hT⟩
    clear C1 CO hK1
    go_wp2_with fail
    go_ret3
    exact ⟨_, _, rfl, hR, fun h => absurd h h0⟩
end Go.Proofs.YtglaocghcgcghaaGreatDoor
namespace Go.Proofs.YtglaocghcgcghaaGreatDoor
open Go.RowKit Go.Proofs.YtglaocghcgcghaaGreatDoor.walBack

set_option maxRecDepth 100000 in
set_option maxHeartbeats 1000000 in
theorem weighK_any (ao : Option Addr) (l : List Cx) (cap m : Nat) (w : World) (ha : XSees w ao l) (hm : m ≤ 500) (hl : l.length ≤ 140737488355328) (hw : ∀ c ∈ l, wtX c ≤ 562949953421312) :
    Calls Tryz.prog 4 #[.slice ao l.length cap, .int .i64 m] w fun e w' => (∃ z : Nat, e = .returned (.int .i64 z) ∧ z ≤ 1000000000000000 ∧ (z ≤ m → l.length ≤ z)) ∧ Below w.heap.size w w' := by
  go_enter Tryz.func4, Tryz.ntmps4
  go_wp2
  go_loopw [5, 10] (fun s5 s10 wr => ∃ i z : Nat, i ≤ l.length ∧ s5 = .int .i64 z ∧ s10 = .int .i64 i ∧ i ≤ z ∧ z ≤ m ∧ wtXs (l.take i) ≤ 20 * z ∧ Below w.heap.size w wr) (fun _ s10 _ => l.length - (intOf s10).toNat)
  case atStart => exact ⟨0, 0, by omega, rfl, rfl, by omega, by omega, by simp [wtXs], Below.refl _ _⟩
  case round =>
    obtain ⟨i, z, hi, rfl, rfl, hiz, hz, hwz, hbr⟩ := hrel
    rcases Nat.lt_or_ge i l.length with hlt | hge
    · have hc : l[i]? = some l[i] := List.getElem?_eq_getElem hlt
      have hcw := hw l[i] (List.getElem_mem hlt)
      have hst : wtXs (l.take (i + 1)) = wtXs (l.take i) + wtX l[i] := by
        rw [takeX_succ hc]
        unfold wtXs
        rw [List.map_append, List.sum_append]
        simp
      obtain ⟨b1, o1, rfl, h1⟩ := (ha.below hbr (Nat.le_refl _)) i _ hc
      generalize l[i] = c at *
      obtain ⟨⟨table, part, row, col⟩, ⟨time, dead, loc, kind, num, s⟩⟩ := c
      obtain ⟨k0, k1, k2, k3, k4, k5, k6, k7, k8, k9⟩ := h1
      simp only at k0 k1 k2 k3 k4 k5 k6 k7 k8 k9
      unfold wtX at hcw hst
      simp only at hcw hst
      have hb2 : Below w.heap.size w (wr.alloc (.cells (Cx.a ⟨⟨table, part, row, col⟩, ⟨time, dead, loc, kind, num, s⟩⟩) 50)) := hbr.alloc hbr.size _
      have Hst : Hid (wtXs (l.take (i + 1)) = wtXs (l.take i) + (table.size + part.size + col.size + s.size)) := hst
      clear hc ha hst hw
      have hsum : (table.size : Int) + part.size + col.size + s.size ≤ 562949953421312 := by omega
      by_cases hbig : z + (1 + (table.size + part.size + col.size + s.size) / 20) ≤ m
      · have hq : ¬ ((m : Int) < (z : Int) + (1 + ((table.size : Int) + part.size + col.size + s.size) / 20)) := by omega
        go_wp2
        go_roundw
        case rel =>
          refine ⟨i + 1, z + (1 + (table.size + part.size + col.size + s.size) / 20), by omega, ?_, by go_num, by omega, hbig, ?_, hb2⟩
          · congr 1
          · rw [Hst.out]
            omega
        case measure => simp [intOf]; omega
      · have hq : ((m : Int) < (z : Int) + (1 + ((table.size : Int) + part.size + col.size + s.size) / 20)) := by omega
        go_wp2
        go_ret
        refine ⟨⟨z + (1 + (table.size + part.size + col.size + s.size) / 20), ret_int (by omega), by omega, fun h => absurd h hbig⟩, hb2⟩
    · obtain rfl : i = l.length := by omega
      rw [List.take_length] at hwz
      clear ha hw
      go_wp2
      go_ret
      exact ⟨⟨z, rfl, by omega, fun _ => by omega⟩, hbr⟩
section
variable {w0 : World} {d lb : Nat} {A : Ab} {n : Int} {b : Bool} {ft : List Nat} {w : World}
theorem kd_start (h : Kd w0 d A ft w) : Calls Tryz.prog 13 #[.pointer (some ⟨d, 0, none⟩)] w fun x w' => x = .returned (.tuple #[]) ∧ KdR w0 d { A with on := true, left := 0 } ft w w' :=
  (ab_start h.1).mono fun _ _ ⟨hx, ha, hm⟩ => ⟨hx, KdR.out h ha hm⟩
theorem kd_crash (h : Kd w0 d A ft w) {k : Nat} (hN : Nice A k) (hk : k ≤ 2000) (m : Int) (h1 : -9223372036854775808 ≤ m) (h2 : m ≤ 9223372036854775807) : Calls Tryz.prog 12 #[.pointer (some ⟨d, 0, none⟩), .int .i64 m] w fun x w' => x = .returned (.tuple #[]) ∧ KdR w0 d (if A.on then offA A m.toNat else A) ft w w' :=
  (any_crash h.1 (hN.fine hk) m h1 h2).mono fun _ _ ⟨hx, _, ha, hm⟩ => ⟨hx, KdR.out h ha hm⟩
theorem kd_arm (h : Kd w0 d A ft w) (a m : Int) : Calls Tryz.prog 8 #[.pointer (some ⟨d, 0, none⟩), .int .i64 a, .int .i64 m] w fun x w' => x = .returned (.int .i64 (armX A a m).1) ∧ KdR w0 d (armX A a m).2 ft w w' :=
  (any_arm h.1 a m).mono fun _ _ ⟨hx, _, ha, hm⟩ => ⟨hx, KdR.out h ha hm⟩
theorem kd_on (h : Kd w0 d A ft w) : Calls Tryz.prog 11 #[.pointer (some ⟨d, 0, none⟩)] w fun e w' => e = .returned (.bool A.on) ∧ w' = w := by
  obtain ⟨⟨bm, fs, hD, _, _⟩, _⟩ := h
  exact on_any hD
theorem ly_arm (h : LyF w0 d lb A n b ft w) (a m : Int) : Calls Tryz.prog 8 #[.pointer (some ⟨d, 0, none⟩), .int .i64 a, .int .i64 m] w fun x w' => x = .returned (.int .i64 (armX A a m).1) ∧ LyR w0 d lb (armX A a m).2 n b ft w w' :=
  (any_arm h.1 a m).mono fun _ _ ⟨hx, _, ha, hm⟩ => ⟨hx, LyR.out h ha hm⟩
theorem LyF.kd (h : LyF w0 d lb A n b ft w) : Kd w0 d A ft w := ⟨h.1, h.2.2.2.1, h.2.2.2.2.2⟩
/-- A row that is none of the disk's lies as it lay. -/
theorem row_apart {w' : World} {e : TypeId} {k m B : Nat} {v : Value} {xs : List Value} {a a' : List Nat} (ho : w.ownsRow B e k v m xs) (hap : ∀ g, v.ownBlock = some g → g ∉ a) (hm : Moved w w' a a') : w'.ownsRow B e k v m xs ∧ ∀ g, v.ownBlock = some g → g ∉ a' := by
  refine ⟨owns_heap ho fun g hg => hm.kept g (ho.lt g hg).2 (hap g hg), fun g hg hi => ?_⟩
  rcases hm.news g hi with h | h
  · exact hap g hg h
  · have := (ho.lt g hg).2; omega
/-- An append onto a row that is none of the log's. -/
theorem LyF.grew {w' : World} {v v' : Value} (h : LyF w0 d lb A n b ft w) (hg : Grew w w' v v') (hap : ∀ g, v.ownBlock = some g → g ∉ lb :: ft) (hb : ∀ g, v.ownBlock = some g → w0.heap.size ≤ g) : LyF w0 d lb A n b ft w' := by
  obtain ⟨h1, h2, h3, h4, h5, h6⟩ := h
  have hm : Moved w w' v.ownBlock.toList v.ownBlock.toList := Moved.of_grown hg.rows
  refine ⟨h1.moved hm fun i hi he => ?_, h2, h3.carry (hg.rows.block lb h3.lt fun e => hap lb e.symm List.mem_cons_self), h4, h5, h6.trans (hg.below h6.size hb)⟩
  rw [Option.mem_toList] at he
  exact hap i he (List.mem_cons_of_mem _ hi)
end
theorem Kd.alloc {w0 : World} {d : Nat} {A : Ab} {ft : List Nat} {w : World} (h : Kd w0 d A ft w) (o : Obj) : Kd w0 d A ft (w.alloc o) := h.more ((Below.refl _ _).alloc (Nat.le_refl _) _)
/-- The first segment is there. -/
theorem step_new4 : ∃ A1 A2, createM (newA 4194304) (tB (nmW 1)) = (0, A1) ∧ A1.left = 0 ∧ A1.ops ≤ 1000000 ∧ syncM A1 (tB (nmW 1)) = (0, A2) ∧ A2.sp = [suW q1 []] ∧ A2.on = true ∧ Nice A2 2 := by
  rw [nm_one]
  have hsp : (syT (crT (newA 4194304) q1) q1 ⟨q1, [], 0, []⟩).sp = [suW q1 []] := by
    show upd (putT [] ⟨q1, [], 0, []⟩) q1 _ = _
    simp [putT, dropT, insT, upd, suW]
  refine ⟨crT (newA 4194304) q1, syT (crT (newA 4194304) q1) q1 ⟨q1, [], 0, []⟩, ?_, rfl, by show 1 ≤ 1000000; omega, ?_, hsp, rfl, ⟨by rw [hsp]; simp, ?_, by show 2 ≤ 2; omega, by show 0 ≤ _; omega, rfl, by show 0 ≤ _; omega, by show (-9223372036854775808 : Int) ≤ 0; decide, by show (0 : Int) ≤ 9223372036854775807; decide⟩⟩
  · unfold createM
    rw [show (newA 4194304).on = true from rfl, if_pos good1, nameOf_tB]
    rfl
  · unfold syncM
    rw [show (crT (newA 4194304) q1).on = true from rfl, if_pos good1, nameOf_tB]
    rfl
  · rw [hsp]
    intro t ht
    rw [List.mem_singleton.1 ht]
    exact NiceT.sure _ _ _ (Nat.zero_le _)
theorem newA4_fine : (newA 4194304).Fine := nice_new.fine (by omega)
/-- How many cells a record has. -/
def wl (v : Lvx) : Nat := if recB v.l then v.l.length else 0
def sW (vs : List Lvx) : Nat := (vs.map wl).sum
theorem sW_snoc {vs : List Lvx} {i : Nat} {v : Lvx} (h : vs[i]? = some v) : sW (vs.take (i + 1)) = sW (vs.take i) + wl v := by
  rw [List.take_add_one, h]
  unfold sW
  rw [List.map_append, List.sum_append]
  simp
theorem sW_le (vs : List Lvx) (i : Nat) : sW (vs.take i) ≤ sW vs := by
  have : vs = vs.take i ++ vs.drop i := (List.take_append_drop i vs).symm
  conv => rhs; rw [this]
  unfold sW
  rw [List.map_append, List.sum_append]
  omega
def cutLk : Option Lvx → Nat
  | none => 0
  | some r => (recL r.l).length
/-- What holds while records are appended: those that were answered OK (R), and the one that was cut off. -/
structure Ph (wb : World) (vs : List Lvx) (d lb i : Nat) (R : List Lvx) (cut : Option Lvx) (A : Ab) (b : Bool) (ft : List Nat) (v14 : Value) (W : World) : Prop where
  log : LyF wb d lb A 1 b ft W
  row : W.ownsRow wb.heap.size 26 1 v14 R.length (R.map Lvx.s)
  apart : ∀ g, v14.ownBlock = some g → g ∉ lb :: ft
  sub : ∀ r ∈ R, r ∈ vs ∧ recB r.l = true
  cuts : ∀ r, cut = some r → r ∈ vs ∧ recB r.l = true
  nice : Nice A (2 + 2 * i)
  len : (encW (R.map Lvx.l)).length + cutLk cut ≤ 259 * sW (vs.take i)
  cnt : R.length ≤ i
  live : b = false → A.on = true ∧ cut = none ∧ A.sp = [suW q1 (encW (R.map Lvx.l))]
  dead : b = true → A.on = false ∧ ∃ r j, cut = some r ∧ A.sp = [suW q1 (encW (R.map Lvx.l) ++ (recL r.l).take j)]
section
variable {wb : World} {vs : List Lvx} {d lb i : Nat} {R : List Lvx} {cut : Option Lvx} {A : Ab} {b : Bool} {ft : List Nat} {v14 : Value} {W W' : World}
theorem Ph.same (h : Ph wb vs d lb i R cut A b ft v14 W) {v : Lvx} (hv : vs[i]? = some v) (hR : LyR wb d lb A 1 b ft W W') : ∃ ft', Ph wb vs d lb (i + 1) R cut A b ft' v14 W' := by
  obtain ⟨ft', h1, hm⟩ := hR
  obtain ⟨h2, h3⟩ := row_apart h.row h.apart hm
  exact ⟨ft', h1, h2, h3, h.sub, h.cuts, h.nice.mono (by omega), (by have := h.len; rw [sW_snoc hv]; omega), (by have := h.cnt; omega), h.live, h.dead⟩
theorem Ph.cutOff (h : Ph wb vs d lb i R cut A false ft v14 W) {v : Lvx} (hv : vs[i]? = some v) (hr : recB v.l = true) {A' : Ab} (hN : Nice A' (2 + 2 * i + 2)) (hoff : A'.on = false) {j : Nat} (hsp : A'.sp = [suW q1 (encW (R.map Lvx.l) ++ (recL v.l).take j)]) (hR : LyR wb d lb A' 1 true ft W W') : ∃ ft', Ph wb vs d lb (i + 1) R (some v) A' true ft' v14 W' := by
  obtain ⟨ft', h1, hm⟩ := hR
  obtain ⟨h2, h3⟩ := row_apart h.row h.apart hm
  refine ⟨ft', h1, h2, h3, h.sub, fun r hr' => ?_, hN, ?_, (by have := h.cnt; omega), fun hb => (by cases hb), fun _ => ⟨hoff, v, j, rfl, hsp⟩⟩
  · obtain rfl := Option.some.inj hr'
    exact ⟨List.mem_of_getElem? hv, hr⟩
  · have h4 := h.len
    obtain ⟨-, hc, -⟩ := h.live rfl
    rw [hc] at h4
    have h5 := recL_len hr
    rw [sW_snoc hv]
    unfold wl
    rw [if_pos hr]
    show _ + (recL v.l).length ≤ _
    unfold cutLk at h4
    omega
theorem Ph.keep (h : Ph wb vs d lb i R cut A false ft v14 W) {v : Lvx} (hv : vs[i]? = some v) (hr : recB v.l = true) {A' : Ab} (hN : Nice A' (2 + 2 * i + 2)) (hon : A'.on = true) (hsp : A'.sp = [suW q1 (encW (R.map Lvx.l) ++ recL v.l)]) {ft' : List Nat} (h1 : LyF wb d lb A' 1 false ft' W') (hm : Moved W W' (lb :: ft) (lb :: ft'))
    {o : Obj} {W2 : World} {v' : Value} (ho : W2.ownsRow wb.heap.size 26 1 v' (R.length + 1) (R.map Lvx.s ++ [v.s])) (hg : Grew (W'.alloc o) W2 v14 v') : Ph wb vs d lb (i + 1) (R ++ [v]) cut A' false ft' v' W2 := by
  obtain ⟨h2, h3⟩ := row_apart h.row h.apart hm
  have hb2 : Below W'.heap.size W' (W'.alloc o) := (Below.refl _ _).alloc (Nat.le_refl _) _
  have hF2 : LyF wb d lb A' 1 false ft' (W'.alloc o) := h1.more hb2
  refine ⟨hF2.grew hg h3 fun g e => (h2.lt g e).1, ?_, fun g e hi => ?_, fun r hr' => ?_, h.cuts, hN, ?_, ?_, fun _ => ⟨hon, (h.live rfl).2.1, ?_⟩, fun hb => (by cases hb)⟩
  · rw [List.map_append, List.length_append]; exact ho
  · rcases hg.own g e with h4 | h4
    · exact h3 g h4 hi
    · rcases List.mem_cons.1 hi with rfl | hi
      · have := hF2.blk.lt; omega
      · have := hF2.1.lt g hi; omega
  · rcases List.mem_append.1 hr' with h4 | h4
    · exact h.sub r h4
    · rw [List.mem_singleton] at h4; subst h4; exact ⟨List.mem_of_getElem? hv, hr⟩
  · have h4 := h.len
    have h5 := recL_len hr
    rw [sW_snoc hv, List.map_append, List.map_cons, List.map_nil, encW_snoc, List.length_append]
    unfold wl
    rw [if_pos hr]
    omega
  · have := h.cnt
    rw [List.length_append, List.length_singleton]; omega
  · rw [hsp, List.map_append, List.map_cons, List.map_nil, encW_snoc]
theorem Ph.room (h : Ph wb vs d lb i R cut A false ft v14 W) {v : Lvx} (hv : vs[i]? = some v) (hs : sW vs ≤ 800) (hr : recB v.l = true) : (encW (R.map Lvx.l)).length + (recL v.l).length ≤ 600000 := by
  have h1 := h.len
  have h2 := recL_len hr
  have h3 := sW_le vs (i + 1)
  rw [sW_snoc hv] at h3
  unfold wl at h3
  rw [if_pos hr] at h3
  omega
end
end Go.Proofs.YtglaocghcgcghaaGreatDoor
namespace Go.Proofs.YtglaocghcgcghaaGreatDoor
open Go.RowKit Go.Proofs.YtglaocghcgcghaaGreatDoor.walBack

theorem numO_spare : numO spW = none := by
  unfold numO
  split
  · rename_i h
    have e := num_ok h
    generalize (numR spW).1 = n at e
    unfold nmW at e
    split at e
    · have := congrArg (fun l => l.getD 3 0) e
      simp [preW, spW] at this
    · cases e
  · rfl
theorem q1_len : q1.length ≤ 1000 := by decide
theorem q2_len : q2.length ≤ 1000 := by decide
theorem spW_len : spW.length ≤ 1000 := by decide
theorem good_nm1 : refuse true [tB (nmW 1)] = 0 := by rw [nm_one]; exact good1
theorem good_nm2 : refuse true [tB (nmW 2)] = 0 := by rw [nm_two]; exact good2
/-- One segment, and what is read of it. -/
theorem segs_one {A : Ab} {E : List UInt8} {r : List Sig} (hsp : A.sp = suW q1 E :: r) (hE : E.length ≤ 600000) {rs : List (List Cx)} {n : Nat} (hT : ToldW E rs n) : Segs A [1] (fun _ => E) (fun _ => rs) (fun _ => n) := by
  refine ⟨fun m hm => ?_, fun m hm => ?_, fun _ _ => hE, fun _ _ => hT, fun i m hi hl => ?_, by simp⟩
  · rw [List.mem_singleton] at hm; subst hm; rfl
  · rw [List.mem_singleton] at hm; subst hm
    exact ⟨suW q1 E, by rw [hsp, nm_one, find_su], rfl⟩
  · simp at hl
/-- Two segments, of which the second has no record. -/
theorem segs_two {A : Ab} {S : List UInt8} (hsp : A.sp = [suW q1 S, suW q2 []]) (hS : S.length ≤ 600000) {rs : List (List Cx)} (hT : ToldW S rs S.length) : Segs A [1, 2] (fun m => if m = 1 then S else []) (fun m => if m = 1 then rs else []) (fun m => if m = 1 then S.length else 0) := by
  refine ⟨fun m hm => ?_, fun m hm => ?_, fun m _ => ?_, fun m _ => ?_, fun i m hi hl => ?_, by simp⟩
  · simp only [List.mem_cons, List.not_mem_nil, or_false] at hm
    rcases hm with rfl | rfl <;> rfl
  · simp only [List.mem_cons, List.not_mem_nil, or_false] at hm
    rcases hm with rfl | rfl
    · exact ⟨suW q1 S, by rw [hsp, nm_one, find_su], rfl⟩
    · exact ⟨suW q2 [], by rw [hsp, nm_two, find_ne ne_12, find_su], rfl⟩
  · show (if m = 1 then S else []).length ≤ _
    split
    · exact hS
    · exact Nat.zero_le _
  · show ToldW (if m = 1 then S else []) (if m = 1 then rs else []) (if m = 1 then S.length else 0)
    by_cases h : m = 1
    · rw [if_pos h, if_pos h, if_pos h]; exact hT
    · rw [if_neg h, if_neg h, if_neg h]; exact told_none
  · have h0 : i = 0 := by simp at hl; omega
    subst h0
    simp at hi
    subst hi
    simp
/-- What the first segment tells. -/
structure TE (E : List UInt8) (rs : List (List Cx)) : Prop where
  told : ToldW E rs (encW rs).length
  take : E.take (encW rs).length = encW rs
  le : (encW rs).length ≤ E.length
  len : E.length ≤ 600000
  good : ∀ r ∈ rs, recB r = true ∧ ∀ c ∈ r, c.Nums
section
variable {w0 : World} {d : Nat} {A : Ab} {ft : List Nat} {w : World} {E : List UInt8} {rs : List (List Cx)} {k : Nat}
/-- Open of one segment, a spare file beside it or not. -/
theorem openOne (he : EnvW w0) (ht : Tab w0) (ue : TypeId) (pv : Value) (hE : Err w0 ue pv) (h : Kd w0 d A ft w) (hon : A.on = true) (hN : Nice A k) (hk : k + 10 ≤ 2000) {F : List UInt8} {r : List Sig} (hsp : A.sp = suW q1 F :: r) (hr : r = [] ∨ ∃ X, r = [suW spW X]) (hX : A.left = 1 → r = []) (hF : F.length ≤ 600000) {n : Nat} (hT : ToldW F rs n) :
    Calls Tryz.prog 7 #[.pointer (some ⟨d, 0, none⟩), .int .i64 1] w fun x w' => ∃ p v, x = .returned (.tuple #[p, v, .int .i64 (openX A (decide (n < F.length)) (F.take n) 1 2).1]) ∧ KdR w0 d (openX A (decide (n < F.length)) (F.take n) 1 2).2 ft w w' ∧ ((openX A (decide (n < F.length)) (F.take n) 1 2).1 = 0 → ToldR w.heap.size rs v w') := by
  have hle := hT.le.1
  have := openWY (N := [1]) (L := 0) (m := 1) (q := openX A (decide (n < F.length)) (F.take n) 1 2) he ht ue pv hE h hon rfl rfl (fun x hx => by rw [List.mem_singleton] at hx; omega) (List.pairwise_singleton _ _) ?_ (segs_one hsp hF hT) (fun m hm => by rw [List.mem_singleton] at hm; subst hm; exact good_nm1) rfl ?_ ?_ hN hk (spare_small hN hon hsp hr (by omega) hX) rfl
  · refine this.mono ?_
    rintro x w' ⟨p, v, h1, h2, h3⟩
    refine ⟨p, v, h1, h2, fun h0 => ?_⟩
    have := h3 h0
    simpa using this
  · rw [hsp]
    rcases hr with rfl | ⟨X, rfl⟩
    · show [q1].filterMap numO = [1]
      simp [numO1]
    · show [q1, spW].filterMap numO = [1]
      simp [numO1, numO_spare]
  · rw [hsp]
    rcases hr with rfl | ⟨X, rfl⟩ <;> simp
  · rw [hsp]
    intro t ht
    rcases hr with rfl | ⟨X, rfl⟩
    · rw [List.mem_singleton] at ht; subst ht; exact q1_len
    · simp only [List.mem_cons, List.not_mem_nil, or_false] at ht
      rcases ht with rfl | rfl
      · exact q1_len
      · exact spW_len
theorem openSecond (he : EnvW w0) (ht : Tab w0) (ue : TypeId) (pv : Value) (hE : Err w0 ue pv) (h : Kd w0 d A ft w) (hon : A.on = true) (hN : Nice A k) (hk : k + 10 ≤ 2000) (hsp : A.sp = [suW q1 E]) (hT : TE E rs) :
    Calls Tryz.prog 7 #[.pointer (some ⟨d, 0, none⟩), .int .i64 1] w fun x w' => ∃ p v c A', x = .returned (.tuple #[p, v, .int .i64 c]) ∧ (c = 0 ∨ c = 9) ∧ KdR w0 d A' ft w w' ∧ Cls E (encW rs).length A'.sp ∧ Nice A' (k + 6) := by
  have hp := open_plan hN hon hsp hT.len hT.le
  have hNo : Nice (openX A (decide ((encW rs).length < E.length)) (E.take (encW rs).length) 1 2).2 (k + 6) := hN.open (spare_small hN hon hsp (.inl rfl) (by rw [List.length_take]; have := hT.len; omega) (fun _ => rfl))
  refine (openOne he ht ue pv hE h hon hN hk hsp (.inl rfl) (fun _ => rfl) hT.len hT.told).mono ?_
  rintro x w' ⟨p, v, h1, h2, _⟩
  exact ⟨p, v, _, _, h1, hp.1, h2, hp.2, hNo⟩
theorem openThird (he : EnvW w0) (ht : Tab w0) (ue : TypeId) (pv : Value) (hE : Err w0 ue pv) (h : Kd w0 d A ft w) (hon : A.on = true) (hl : A.left = 0) (hN : Nice A k) (hk : k + 10 ≤ 2000) (hT : TE E rs) (hC : Cls E (encW rs).length A.sp) :
    Calls Tryz.prog 7 #[.pointer (some ⟨d, 0, none⟩), .int .i64 1] w fun x w' => ∃ p v, x = .returned (.tuple #[p, v, .int .i64 0]) ∧ (∃ A', KdR w0 d A' ft w w') ∧ ToldR w.heap.size rs v w' := by
  have hle := hT.le
  have hlen := hT.len
  have one : ∀ (F : List UInt8) (r : List Sig) (n : Nat), A.sp = suW q1 F :: r → (r = [] ∨ n < F.length ∧ ∃ X, r = [suW spW X]) → F.length ≤ 600000 → ToldW F rs n → Calls Tryz.prog 7 #[.pointer (some ⟨d, 0, none⟩), .int .i64 1] w fun x w' => ∃ p v, x = .returned (.tuple #[p, v, .int .i64 0]) ∧ (∃ A', KdR w0 d A' ft w w') ∧ ToldR w.heap.size rs v w' := fun F r n hsp hr hF hTF => by
    have h0 := open_free hN hon hl hsp hr hF
    refine (openOne he ht ue pv hE h hon hN hk hsp (hr.imp id fun h => h.2) (fun h => by omega) hF hTF).mono ?_
    rintro x w' ⟨p, v, h1, h2, h3⟩
    exact ⟨p, v, by rw [h1, h0], ⟨_, h2⟩, h3 h0⟩
  have hfull : ToldW (encW rs) rs (encW rs).length := told_all rs hT.good
  rcases hC with hC | ⟨ht1, X, hC⟩ | hC | hC
  · exact one E [] _ hC (.inl rfl) hlen hT.told
  · exact one E _ _ hC (.inr ⟨ht1, X, rfl⟩) hlen hT.told
  · rw [hT.take] at hC
    exact one (encW rs) [] _ hC (.inl rfl) (by omega) hfull
  · rw [hT.take] at hC
    have hS : (encW rs).length ≤ 600000 := by omega
    have hb := begin_three hN hon hl hC
    have hox : openX A (decide ((0 : Nat) < ([] : List UInt8).length)) (([] : List UInt8).take 0) 2 3 = beginX A 3 := by
      unfold openX
      rw [decide_eq_false (by simp), if_neg (by simp)]
      exact chainW_mk0 A fun A1 => beginX A1 3
    have := openWY (N := [1, 2]) (L := 1) (m := 2) (q := beginX A 3) he ht ue pv hE h hon rfl rfl (fun x hx => by simp only [List.mem_cons, List.not_mem_nil, or_false] at hx; omega) (by simp) ?_ (segs_two hC hS hfull) (fun m hm => by
      simp only [List.mem_cons, List.not_mem_nil, or_false] at hm
      rcases hm with rfl | rfl
      · exact good_nm1
      · exact good_nm2) rfl ?_ ?_ hN hk ?_ hox
    · refine this.mono ?_
      rintro x w' ⟨p, v, h1, h2, h3⟩
      refine ⟨p, v, by rw [h1, hb], ⟨_, h2⟩, ?_⟩
      have := h3 hb
      simpa using this
    · rw [hC]
      show [q1, q2].filterMap numO = [1, 2]
      simp [numO1, numO2]
    · rw [hC]; simp
    · rw [hC]
      intro t ht
      simp only [List.mem_cons, List.not_mem_nil, or_false] at ht
      rcases ht with rfl | rfl
      · exact q1_len
      · exact q2_len
    · intro t ht
      have h3 := ((hN.create (tB spW)).file t (findT_mem ht).1).len
      show t.bs.length + (if (2 : Int) = 1 then _ else 0) ≤ _
      rw [if_neg (by decide)]
      omega
end
end Go.Proofs.YtglaocghcgcghaaGreatDoor
namespace Go.Proofs.YtglaocghcgcghaaGreatDoor
open Go.RowKit Go.Proofs.YtglaocghcgcghaaGreatDoor.walBack

theorem Ph.tail {wb : World} {vs : List Lvx} {d lb i : Nat} {R : List Lvx} {cut : Option Lvx} {A : Ab} {b : Bool} {ft : List Nat} {v14 : Value} {W : World} (h : Ph wb vs d lb i R cut A b ft v14 W) (hs : sW vs ≤ 800) (hn : ∀ v ∈ vs, ∀ c ∈ v.l, c.Nums) :
    ∃ E rs, A.sp = [suW q1 E] ∧ TE E rs ∧ (rs = R.map Lvx.l ∨ ∃ r, cut = some r ∧ rs = R.map Lvx.l ++ [r.l]) := by
  have hK : ∀ x ∈ R.map Lvx.l, recB x = true ∧ ∀ c ∈ x, c.Nums := fun x hx => by
    obtain ⟨r, hr, rfl⟩ := List.mem_map.1 hx
    exact ⟨(h.sub r hr).2, hn r (h.sub r hr).1⟩
  have h1 := h.len
  have h2 := sW_le vs i
  cases b with
  | false =>
    refine ⟨encW (R.map Lvx.l), R.map Lvx.l, (h.live rfl).2.2, ⟨told_all _ hK, List.take_length, Nat.le_refl _, by omega, hK⟩, .inl rfl⟩
  | true =>
    obtain ⟨-, r, j, rfl, hsp⟩ := h.dead rfl
    have hr := h.cuts r rfl
    have hrn : recB r.l = true ∧ ∀ c ∈ r.l, c.Nums := ⟨hr.2, hn r hr.1⟩
    obtain ⟨rs, e, t1, t2, t3⟩ := told_tail (R.map Lvx.l) r.l j hK hrn
    refine ⟨_, rs, hsp, ⟨t1, t2, t3, ?_, fun x hx => ?_⟩, e.imp id fun e => ⟨r, rfl, e⟩⟩
    · rw [List.length_append, List.length_take]
      have : cutLk (some r) = (recL r.l).length := rfl
      omega
    · rcases e with rfl | rfl
      · exact hK x hx
      · rcases List.mem_append.1 hx with hx | hx
        · exact hK x hx
        · rw [List.mem_singleton] at hx; subst hx; exact hrn
theorem off_sp {A : Ab} {E : List UInt8} (h : A.sp = [suW q1 E]) (x : Nat) : (offA A x).sp = [suW q1 E] := by
  show A.sp.map _ = _
  rw [h]
  exact map_lose_1 E _
/-- The plan is made. -/
theorem arm_kd {w0 : World} {d : Nat} {A : Ab} {ft : List Nat} {w : World} (h : Kd w0 d A ft w) {k : Nat} (hN : Nice A k) (hon : A.on = true) (a m : Int) (ha : 0 ≤ a) (ha2 : a ≤ 1000) (hm : -9223372036854775808 ≤ m ∧ m ≤ 9223372036854775807) :
    Calls Tryz.prog 8 #[.pointer (some ⟨d, 0, none⟩), .int .i64 a, .int .i64 m] w fun x w' => x = .returned (.int .i64 0) ∧ ∃ A', KdR w0 d A' ft w w' ∧ A'.on = true ∧ A'.sp = A.sp ∧ Nice A' k := by
  have e : armX A a m = (0, { A with left := a.toNat, keep := m }) := by
    unfold armX
    rw [if_pos hon, if_neg (by omega)]
  have h1 := kd_arm h a m
  have h2 := hN.arm (a := a) (m := m) (by omega) hm
  rw [e] at h1 h2
  exact h1.mono fun _ _ ⟨hx, hR⟩ => ⟨hx, _, hR, hon, rfl, h2⟩
/-- The law's row of records, beside the disk. -/
structure Rw (wb : World) (R : List Lvx) (ft : List Nat) (v14 : Value) (W : World) : Prop where
  row : W.ownsRow wb.heap.size 26 1 v14 R.length (R.map Lvx.s)
  apart : ∀ g, v14.ownBlock = some g → g ∉ ft
theorem Rw.moved {wb : World} {R : List Lvx} {ft ft' : List Nat} {v14 : Value} {W W' : World} (h : Rw wb R ft v14 W) (hm : Moved W W' ft ft') : Rw wb R ft' v14 W' := by
  obtain ⟨h1, h2⟩ := row_apart h.row h.apart hm
  exact ⟨h1, h2⟩
theorem Ph.rw {wb : World} {vs : List Lvx} {d lb i : Nat} {R : List Lvx} {cut : Option Lvx} {A : Ab} {b : Bool} {ft : List Nat} {v14 : Value} {W : World} (h : Ph wb vs d lb i R cut A b ft v14 W) : Rw wb R ft v14 W := ⟨h.row, fun g e hi => h.apart g e (List.mem_cons_of_mem _ hi)⟩
/-- What was told, as lists. -/
theorem ToldR.lists {n0 : Nat} {rs : List (List Cx)} {v : Value} {w : World} (h : ToldR n0 rs v w) : ∃ a c ys, v = .slice a ys.length c ∧ ys.map Lvx.l = rs ∧ LSees w a ys ∧ ∀ y ∈ ys, XSees w y.ao y.l := by
  obtain ⟨T, h1, h2, h3⟩ := h
  have em : T.map Yl.v = (T.map fun x => (⟨x.a, x.c, x.r⟩ : Lvx)).map Lvx.s := by rw [List.map_map]; rfl
  have el : T.length = (T.map fun x => (⟨x.a, x.c, x.r⟩ : Lvx)).length := by rw [List.length_map]
  rw [em, el] at h1
  obtain ⟨a, c, rfl, h4, -, -⟩ := rows_lists h1
  refine ⟨a, c, _, rfl, ?_, h4, fun y hy => ?_⟩
  · rw [List.map_map, ← h3]; rfl
  · obtain ⟨x, hx, rfl⟩ := List.mem_map.1 hy
    obtain ⟨a2, c2, e2, h5, -⟩ := owns_xsees (h2 x hx).1
    unfold Yl.v at e2
    simp only [Value.slice.injEq] at e2
    rw [← e2.1] at h5
    exact h5
end Go.Proofs.YtglaocghcgcghaaGreatDoor
