/-
  SEVERAL TEXTS IN ONE: WkCls, WkOpenW.
-/
import Derived.Test.YtglaocghcgcghaaGreatDoorMany22
import Derived.Test.YtglaocghcgcghaaGreatDoorWkOpen
namespace Go.Proofs.YtglaocghcgcghaaGreatDoor
open Go.RowKit

theorem map_lose_1 (E : List UInt8) (x : Nat) : [suW q1 E].map (fun t => loseT t x) = [suW q1 E] := by simp [lose_su]
theorem map_lose_2 (a b E X : List UInt8) (x : Nat) : [suW a E, suW b X].map (fun t => loseT t x) = [suW a E, suW b X] := by simp [lose_su]
theorem map_lose_3 (a b c E X Y : List UInt8) (x : Nat) : [suW a E, suW b X, suW c Y].map (fun t => loseT t x) = [suW a E, suW b X, suW c Y] := by simp [lose_su]
/-- A new segment behind the first one. -/
theorem begin_res {A : Ab} {k : Nat} (hN : Nice A k) (hon : A.on = true) {E : List UInt8} (hsp : A.sp = [suW q1 E]) :
    ((beginX A 2).1 = 0 ∨ (beginX A 2).1 = 9) ∧ ((beginX A 2).2.sp = [suW q1 E] ∨ (beginX A 2).2.sp = [suW q1 E, suW q2 []]) ∧ (A.left = 0 → (beginX A 2).1 = 0) ∧ ((beginX A 2).1 = 0 → (beginX A 2).2.sp = [suW q1 E, suW q2 []]) := by
  have h1 : Stp A (createX A (tB (nmW 2))) [suW q1 E, suW q2 []] (fun sp => sp = [suW q1 E]) := by
    rw [nm_two]
    exact create_stp hN hon (by rw [hsp]; simp) good2 (by rw [hsp]; exact put_12 E) (fun x => by rw [hsp]; exact map_lose_1 E x) hsp
  unfold beginX
  generalize createX A (tB (nmW 2)) = q at *
  rcases h1 with ⟨hl, e1, e2, e3, e4⟩ | ⟨hl, e1, e2, e3⟩
  · rw [chainW_ok e1]
    have h2 : Stp q.2 (syncX q.2 (tB (nmW 2))) [suW q1 E, suW q2 []] (fun sp => sp = [suW q1 E, suW q2 []]) := by
      rw [nm_two]
      refine sync_stp e3 good2 (t := suW q2 []) (by rw [e2, find_ne ne_12, find_su]) ?_ (fun x => by rw [e2]; exact map_lose_2 _ _ _ _ _)
      rw [e2]
      have a1 : ((suW q1 E).nm == q2) = false := ne_12
      have a2 : ((suW q2 []).nm == q2) = true := by show (q2 == q2) = true; decide
      show [if ((suW q1 E).nm == q2) = true then _ else suW q1 E, if ((suW q2 []).nm == q2) = true then suW q2 [] else suW q2 []] = _
      rw [if_pos a2, if_neg (by rw [a1]; simp)]
    generalize syncX q.2 (tB (nmW 2)) = r at *
    rcases h2 with ⟨hl2, f1, f2, f3, f4⟩ | ⟨hl2, f1, f2, f3⟩
    · exact ⟨.inl f1, .inr f2, fun _ => f1, fun _ => f2⟩
    · exact ⟨.inr f1, .inr f3, fun h => (by omega), fun _ => f3⟩
  · rw [chainW_no (by rw [e1]; decide)]
    exact ⟨.inr e1, .inl e3, fun h => (by omega), fun h => absurd (e1.symm.trans h) (by decide)⟩
/-- A new segment behind two. -/
theorem begin_three {A : Ab} {k : Nat} (hN : Nice A k) (hon : A.on = true) (hl0 : A.left = 0) {E : List UInt8} (hsp : A.sp = [suW q1 E, suW q2 []]) : (beginX A 3).1 = 0 := by
  have h1 : Stp A (createX A (tB (nmW 3))) [suW q1 E, suW q2 [], suW q3 []] (fun sp => sp = sp) := by
    rw [nm_three]
    exact create_stp hN hon (by rw [hsp]; simp) good3 (by rw [hsp]; exact put_123 E) (fun x => by rw [hsp]; exact map_lose_2 _ _ _ _ x) rfl
  unfold beginX
  generalize createX A (tB (nmW 3)) = q at *
  rcases h1 with ⟨hl, e1, e2, e3, e4⟩ | ⟨hl, e1, e2, e3⟩
  · rw [chainW_ok e1]
    have h2 : Stp q.2 (syncX q.2 (tB (nmW 3))) (upd q.2.sp q3 (suW q3 [])) (fun sp => sp = sp) := by
      rw [nm_three]
      exact sync_stp e3 good3 (t := suW q3 []) (by rw [e2, find_ne ne_13, find_ne ne_23, find_su]) rfl (fun x => rfl)
    rcases h2 with ⟨hl2, f1, _⟩ | ⟨hl2, _⟩
    · exact f1
    · omega
  · omega
/-- A torn segment is mended. -/
theorem mend_res {A : Ab} {k : Nat} (hN : Nice A k) (hon : A.on = true) {E S : List UInt8} {r : List Sig} (hsp : A.sp = suW q1 E :: r) (hr : r = [] ∨ ∃ X, r = [suW spW X]) (hS : S.length ≤ 600000) :
    ((mendX A 1 S).1 = 0 ∧ (mendX A 1 S).2.sp = [suW q1 S] ∧ (mendX A 1 S).2.on = true ∧ (A.left = 0 → (mendX A 1 S).2.left = 0)) ∨ ((mendX A 1 S).1 = 9 ∧ A.left ≠ 0 ∧ ((mendX A 1 S).2.sp = A.sp ∨ ∃ X, (mendX A 1 S).2.sp = [suW q1 E, suW spW X])) := by
  have hc : A.sp.length ≤ 10 := by rcases hr with rfl | ⟨X, rfl⟩ <;> rw [hsp] <;> simp
  have hlose : ∀ x, A.sp.map (fun t => loseT t x) = A.sp := fun x => by
    rcases hr with rfl | ⟨X, rfl⟩ <;> rw [hsp]
    · exact map_lose_1 E x
    · exact map_lose_2 _ _ _ _ x
  have h1 : Stp A (createX A (tB spW)) [suW q1 E, suW spW []] (fun sp => sp = A.sp) := create_stp hN hon hc goodN (by rw [hsp]; exact put_n1 E [] r hr) hlose rfl
  have hN1 := hN.create (tB spW)
  have hmx : mendX A 1 S = chainW (createX A (tB spW)) fun A1 => chainW (fillW A1 S) fun A2 => chainW (syncX A2 (tB spW)) fun A3 => renameX A3 (tB spW) (tB (nmW 1)) := rfl
  rw [hmx]
  generalize createX A (tB spW) = q at *
  rcases h1 with ⟨hl, e1, e2, e3, e4⟩ | ⟨hl, e1, e2, e3⟩
  · rw [chainW_ok e1]
    have hfind : findT q.2.sp spW = some (suW spW []) := by rw [e2, find_ne ne_1n, find_su]
    -- the sound bytes
    have h2 : (q.2.left ≠ 1 ∨ S = []) ∧ (fillW q.2 S).1 = 0 ∧ (∃ pl, (fillW q.2 S).2.sp = [suW q1 E, ⟨spW, S, 0, pl⟩]) ∧ (fillW q.2 S).2.on = true ∧ (q.2.left = 0 → (fillW q.2 S).2.left = 0) ∨ (q.2.left = 1 ∧ (fillW q.2 S).1 = 9 ∧ ∃ X, (fillW q.2 S).2.sp = [suW q1 E, suW spW X]) := by
      unfold fillW
      by_cases hS0 : S = []
      · rw [if_pos hS0]
        exact .inl ⟨.inr hS0, rfl, ⟨[], by rw [e2, hS0]; rfl⟩, e3, id⟩
      · rw [if_neg hS0]
        have := append_stp hN1 e3 (by rw [e2]; simp) goodN hfind S (by show [].length + S.length ≤ _; simp; exact hS) (C := fun sp => ∃ X, sp = [suW q1 E, suW spW X]) (fun x => by
          rw [e2, upd_n1 E _ _ rfl]
          obtain ⟨j, _, hj⟩ := lose_part spW [] S ((suW spW []).pl ++ List.range' q.2.next (growT (suW spW []) S)) x
          refine ⟨[] ++ S.take j, ?_⟩
          have hj' : loseT ⟨spW, (suW spW []).bs ++ S, (suW spW []).wr, (suW spW []).pl ++ List.range' q.2.next (growT (suW spW []) S)⟩ x = suW spW ([] ++ S.take j) := hj
          rw [List.map_cons, List.map_cons, List.map_nil, lose_su, hj'])
        rcases this with ⟨a1, a2, a3, a4, a5⟩ | ⟨a1, a2, a3, a4⟩
        · refine .inl ⟨.inl a1, a2, ⟨_, by rw [a3, e2, upd_n1 E _ _ rfl]; rfl⟩, a4, fun h => by omega⟩
        · exact .inr ⟨a1, a2, a4⟩
    have hN2 : Nice (fillW q.2 S).2 (k + 1 + 1) := hN1.fill (fun t ht => by rw [hfind] at ht; cases ht; show [].length + S.length ≤ _; simp; exact hS)
    generalize fillW q.2 S = f at *
    rcases h2 with ⟨_, b1, ⟨pl, b2⟩, b3, b4⟩ | ⟨b0, b1, X, b2⟩
    · rw [chainW_ok b1]
      have h3 : Stp f.2 (syncX f.2 (tB spW)) [suW q1 E, suW spW S] (fun sp => ∃ X, sp = [suW q1 E, suW spW X]) := by
        refine sync_stp b3 goodN (t := ⟨spW, S, 0, pl⟩) (by rw [b2, find_ne ne_1n]; exact find_at _ _ rfl _) (by rw [b2, upd_n1 E _ _ rfl]) (fun x => ?_)
        rw [b2]
        obtain ⟨j, _, hj⟩ := lose_part spW [] S pl x
        refine ⟨[] ++ S.take j, ?_⟩
        have hj' : loseT ⟨spW, S, 0, pl⟩ x = suW spW ([] ++ S.take j) := hj
        rw [List.map_cons, List.map_cons, List.map_nil, lose_su, hj']
      generalize syncX f.2 (tB spW) = g at *
      rcases h3 with ⟨c0, c1, c2, c3, c4⟩ | ⟨c0, c1, c2, c3⟩
      · rw [chainW_ok c1]
        have h4 : Stp g.2 (renameX g.2 (tB spW) (tB (nmW 1))) [suW q1 S] (fun sp => sp = [suW q1 E, suW spW S]) := by
          rw [nm_one]
          exact rename_stp c3 goodN1 (t := suW spW S) (by rw [c2, find_ne ne_1n, find_su]) (by rw [c2]; exact ren_n1 E S) (fun x => by rw [c2]; exact map_lose_2 _ _ _ _ x) c2
        generalize renameX g.2 (tB spW) (tB (nmW 1)) = p at *
        rcases h4 with ⟨d0, d1, d2, d3, d4⟩ | ⟨d0, d1, d2, d3⟩
        · exact .inl ⟨d1, d2, d3, fun h => by have := b4 (by omega); omega⟩
        · exact .inr ⟨d1, fun h => by have := b4 (by omega); omega, .inr ⟨S, d3⟩⟩
      · rw [chainW_no (by rw [c1]; decide)]
        exact .inr ⟨c1, fun h => by have := b4 (by omega); omega, .inr c3⟩
    · rw [chainW_no (by rw [b1]; decide)]
      exact .inr ⟨b1, fun h => by omega, .inr ⟨X, b2⟩⟩
  · rw [chainW_no (by rw [e1]; decide)]
    exact .inr ⟨e1, fun h => by omega, .inl e3⟩
/-- What lies on the disk behind an Open, whether it was cut off or not. -/
def Cls (E : List UInt8) (n : Nat) (sp : List Sig) : Prop :=
  sp = [suW q1 E] ∨ (n < E.length ∧ ∃ X, sp = [suW q1 E, suW spW X]) ∨ sp = [suW q1 (E.take n)] ∨ sp = [suW q1 (E.take n), suW q2 []]
theorem Nice.open {A : Ab} {k : Nat} (h : Nice A k) {t : Bool} {l : List UInt8} {a b : Int} (hz : ∀ t, findT (createX A (tB spW)).2.sp spW = some t → t.bs.length + l.length ≤ 600000) : Nice (openX A t l a b).2 (k + 4 + 2) := by
  unfold openX
  refine Nice.chain (k := k + 4) (j := 2) ?_ fun h1 => h1.beginX b
  cases t
  · exact h.mono (Nat.le_add_right _ _)
  · exact h.mend hz
theorem spare_small {A : Ab} {k : Nat} (hN : Nice A k) (hon : A.on = true) {E : List UInt8} {r : List Sig} (hsp : A.sp = suW q1 E :: r) (hr : r = [] ∨ ∃ X, r = [suW spW X]) {m : Nat} (hm : m ≤ 600000) (hX : A.left = 1 → r = []) : ∀ t, findT (createX A (tB spW)).2.sp spW = some t → t.bs.length + m ≤ 600000 := by
  intro t ht
  have hc : A.sp.length ≤ 10 := by rcases hr with rfl | ⟨X, rfl⟩ <;> rw [hsp] <;> simp
  have hlose : ∀ x, A.sp.map (fun t => loseT t x) = A.sp := fun x => by
    rcases hr with rfl | ⟨X, rfl⟩ <;> rw [hsp]
    · exact map_lose_1 E x
    · exact map_lose_2 _ _ _ _ x
  have h1 : Stp A (createX A (tB spW)) [suW q1 E, suW spW []] (fun sp => sp = A.sp) := create_stp hN hon hc goodN (by rw [hsp]; exact put_n1 E [] r hr) hlose rfl
  rcases h1 with ⟨hl, e1, e2, e3, e4⟩ | ⟨hl, e1, e2, e3⟩
  · rw [e2, find_ne ne_1n, find_su] at ht
    cases ht
    show [].length + m ≤ _
    simp; exact hm
  · rw [e3, hsp, find_ne ne_1n, hX hl] at ht
    cases ht
theorem open_plan {A : Ab} {k : Nat} (hN : Nice A k) (hon : A.on = true) {E : List UInt8} {n : Nat} (hsp : A.sp = [suW q1 E]) (hE : E.length ≤ 600000) (hn : n ≤ E.length) :
    ((openX A (decide (n < E.length)) (E.take n) 1 2).1 = 0 ∨ (openX A (decide (n < E.length)) (E.take n) 1 2).1 = 9) ∧ Cls E n (openX A (decide (n < E.length)) (E.take n) 1 2).2.sp := by
  unfold openX
  by_cases ht : n < E.length
  · rw [decide_eq_true ht, if_pos rfl]
    have hS : (E.take n).length ≤ 600000 := by rw [List.length_take]; omega
    have h1 := mend_res hN hon hsp (.inl rfl) hS
    have hN1 : Nice (mendX A 1 (E.take n)).2 (k + 4) := hN.mend (spare_small hN hon hsp (.inl rfl) hS (fun _ => rfl))
    generalize mendX A 1 (E.take n) = q at *
    rcases h1 with ⟨e1, e2, e3, _⟩ | ⟨e1, _, e2⟩
    · rw [chainW_ok e1]
      obtain ⟨b1, b2, _⟩ := begin_res hN1 e3 e2
      exact ⟨b1, by rcases b2 with b2 | b2; exact .inr (.inr (.inl b2)); exact .inr (.inr (.inr b2))⟩
    · rw [chainW_no (by rw [e1]; decide)]
      refine ⟨.inr e1, ?_⟩
      rcases e2 with e2 | ⟨X, e2⟩
      · exact .inl (e2.trans hsp)
      · exact .inr (.inl ⟨ht, X, e2⟩)
  · rw [decide_eq_false ht, if_neg (by simp), chainW_ok (by rfl)]
    obtain ⟨b1, b2, _⟩ := begin_res hN hon hsp
    have he : E.take n = E := List.take_of_length_le (by omega)
    refine ⟨b1, ?_⟩
    unfold Cls
    rw [he]
    rcases b2 with b2 | b2
    · exact .inl b2
    · exact .inr (.inr (.inr b2))
/-- With nothing planned an Open of one segment answers OK. -/
theorem open_free {A : Ab} {k : Nat} (hN : Nice A k) (hon : A.on = true) (hl : A.left = 0) {E : List UInt8} {n : Nat} {r : List Sig} (hsp : A.sp = suW q1 E :: r) (hr : r = [] ∨ n < E.length ∧ ∃ X, r = [suW spW X]) (hE : E.length ≤ 600000) :
    (openX A (decide (n < E.length)) (E.take n) 1 2).1 = 0 := by
  unfold openX
  by_cases ht : n < E.length
  · rw [decide_eq_true ht, if_pos rfl]
    have hS : (E.take n).length ≤ 600000 := by rw [List.length_take]; omega
    have hr' : r = [] ∨ ∃ X, r = [suW spW X] := hr.imp id fun h => h.2
    have h1 := mend_res hN hon hsp hr' (S := E.take n) hS
    have hN1 : Nice (mendX A 1 (E.take n)).2 (k + 4) := hN.mend (spare_small hN hon hsp hr' hS (fun h => by omega))
    generalize mendX A 1 (E.take n) = q at *
    rcases h1 with ⟨e1, e2, e3, e4⟩ | ⟨e1, e0, e2⟩
    · rw [chainW_ok e1]
      exact (begin_res hN1 e3 e2).2.2.1 (e4 hl)
    · exact absurd hl e0
  · rw [decide_eq_false ht, if_neg (by simp), chainW_ok (by rfl)]
    rcases hr with rfl | ⟨h, _⟩
    · exact (begin_res hN hon hsp).2.2.1 hl
    · exact absurd h ht
/-- A record is appended, and made sure. -/
theorem write_res {A : Ab} {k : Nat} (hN : Nice A k) (hon : A.on = true) {B : List UInt8} (hsp : A.sp = [suW q1 B]) (R : List UInt8) (hl : B.length + R.length ≤ 600000) :
    ((writeX A 1 R).1 = 0 ∧ (writeX A 1 R).2.sp = [suW q1 (B ++ R)] ∧ (writeX A 1 R).2.on = true) ∨ ((writeX A 1 R).1 = 9 ∧ (writeX A 1 R).2.on = false ∧ ∃ j, j ≤ R.length ∧ (writeX A 1 R).2.sp = [suW q1 (B ++ R.take j)]) := by
  have upd1 : ∀ (E : List UInt8) (wr : Nat) (pl : List Nat) (t : Sig), upd [⟨q1, E, wr, pl⟩] q1 t = [t] := fun E wr pl t => by simp [upd]
  have h1 : Stp A (appendX A (tB (nmW 1)) R) (upd A.sp q1 ⟨q1, B ++ R, B.length, [] ++ List.range' A.next (growT (suW q1 B) R)⟩) (fun sp => ∃ j, j ≤ R.length ∧ sp = [suW q1 (B ++ R.take j)]) := by
    rw [nm_one]
    refine append_stp hN hon (by rw [hsp]; simp) good1 (t := suW q1 B) (by rw [hsp]; exact find_su _ _ _) R hl (fun x => ?_)
    obtain ⟨j, hj, e⟩ := lose_part q1 B R ([] ++ List.range' A.next (growT (suW q1 B) R)) x
    refine ⟨j, hj, ?_⟩
    rw [hsp]
    show (upd [⟨q1, B, B.length, []⟩] q1 ⟨q1, B ++ R, B.length, [] ++ List.range' A.next (growT (suW q1 B) R)⟩).map (fun t => loseT t x) = _
    rw [upd1, List.map_cons, List.map_nil, e]
  unfold writeX
  generalize appendX A (tB (nmW 1)) R = q at *
  rcases h1 with ⟨hl, e1, e2, e3, e4⟩ | ⟨hl, e1, e2, j, hj, e3⟩
  · rw [chainW_ok e1]
    have hs2 : q.2.sp = [⟨q1, B ++ R, B.length, [] ++ List.range' A.next (growT (suW q1 B) R)⟩] := by
      rw [e2, hsp]
      exact upd1 _ _ _ _
    have h2 : Stp q.2 (syncX q.2 (tB (nmW 1))) [suW q1 (B ++ R)] (fun sp => ∃ j, j ≤ R.length ∧ sp = [suW q1 (B ++ R.take j)]) := by
      rw [nm_one]
      refine sync_stp e3 good1 (t := ⟨q1, B ++ R, B.length, [] ++ List.range' A.next (growT (suW q1 B) R)⟩) (by rw [hs2]; exact find_at _ _ rfl _) (by rw [hs2]; exact upd1 _ _ _ _) (fun x => ?_)
      obtain ⟨j, hj, e⟩ := lose_part q1 B R ([] ++ List.range' A.next (growT (suW q1 B) R)) x
      exact ⟨j, hj, by rw [hs2, List.map_cons, List.map_nil, e]⟩
    generalize syncX q.2 (tB (nmW 1)) = r at *
    rcases h2 with ⟨hl2, f1, f2, f3, f4⟩ | ⟨hl2, f1, f2, f3⟩
    · exact .inl ⟨f1, f2, f3⟩
    · exact .inr ⟨f1, f2, f3⟩
  · rw [chainW_no (by rw [e1]; decide)]
    exact .inr ⟨e1, e2, j, hj, e3⟩
theorem Nice.writeX {A : Ab} {k : Nat} (h : Nice A k) {m : Int} {l : List UInt8} (hl : ∀ t, findT A.sp (nmW m) = some t → t.bs.length + l.length ≤ 600000) : Nice (writeX A m l).2 (k + 2) :=
  Nice.chain (k := k + 1) (j := 1) (h.append (tB (nmW m)) (by rw [nameOf_tB]; exact hl)) fun h1 => h1.sync _
/-! ### what the first segment tells -/
theorem toldW_pre : ∀ (K : List (List Cx)) (T : List UInt8) (rs : List (List Cx)) (n : Nat), (∀ r ∈ K, recB r = true ∧ ∀ c ∈ r, c.Nums) → ToldW T rs n → ToldW (encW K ++ T) (K ++ rs) ((encW K).length + n)
  | [], T, rs, n, _, h => by
    have : encW [] = [] := rfl
    rw [this]; simpa using h
  | r :: K, T, rs, n, hK, h => by
    have hr := hK r (List.mem_cons_self ..)
    have ih := toldW_pre K T rs n (fun x hx => hK x (List.mem_cons_of_mem _ hx)) h
    have hf := fst_rec hr.1 hr.2 (encW K ++ T)
    have hpos : (recL r).length ≠ 0 := by
      have : (recL r).length = (cellsL (r.map toC)).length + 8 := frameL_length _
      omega
    have := toldW_cons (b := recL r ++ (encW K ++ T)) (rs := K ++ rs) (n := (encW K).length + n) (by rw [hf]; exact hpos) (by rw [hf]; rw [List.drop_left]; exact ih)
    rw [hf] at this
    rw [encW_cons, List.append_assoc, List.length_append, Nat.add_assoc, List.cons_append]
    exact this
theorem told_none : ToldW [] [] 0 := toldW_nil (by rw [fstW_no fun hc => absurd hc.1 (by decide)])
theorem told_all (K : List (List Cx)) (hK : ∀ r ∈ K, recB r = true ∧ ∀ c ∈ r, c.Nums) : ToldW (encW K) K (encW K).length := by
  have := toldW_pre K [] [] 0 hK told_none
  simpa using this
/-- Records, and a part of one more: what is told. -/
theorem told_tail (K : List (List Cx)) (r : List Cx) (j : Nat) (hK : ∀ x ∈ K, recB x = true ∧ ∀ c ∈ x, c.Nums) (hr : recB r = true ∧ ∀ c ∈ r, c.Nums) :
    ∃ rs, (rs = K ∨ rs = K ++ [r]) ∧ ToldW (encW K ++ (recL r).take j) rs (encW rs).length ∧ (encW K ++ (recL r).take j).take (encW rs).length = encW rs ∧ (encW rs).length ≤ (encW K ++ (recL r).take j).length := by
  rcases Nat.lt_or_ge j (recL r).length with h | h
  · refine ⟨K, .inl rfl, ?_, List.take_left, by rw [List.length_append]; omega⟩
    have := toldW_pre K ((recL r).take j) [] 0 hK (toldW_nil (by rw [fst_cut hr.1 j h]))
    simpa using this
  · have e : encW K ++ (recL r).take j = encW (K ++ [r]) := by rw [encW_snoc, List.take_of_length_le h]
    rw [e]
    refine ⟨K ++ [r], .inr rfl, told_all _ (fun x hx => ?_), List.take_length, Nat.le_refl _⟩
    rcases List.mem_append.1 hx with hx | hx
    · exact hK x hx
    · rw [List.mem_singleton] at hx; subst hx; exact hr
theorem recL_len {l : List Cx} (h : recB l = true) : (recL l).length ≤ 259 * l.length := by
  have h1 := recB_good h
  have h2 : (cxB l).length ≤ 10 + 241 * l.length := cxB_len fun c hc => good_small (h1.2 c hc)
  have e : cxB l = cellsL (l.map toC) := rfl
  rw [e] at h2
  have hL : (recL l).length = (cellsL (l.map toC)).length + 8 := frameL_length _
  omega
end Go.Proofs.YtglaocghcgcghaaGreatDoor
namespace Go.Proofs.YtglaocghcgcghaaGreatDoor
open Go.RowKit Go.Proofs.YtglaocghcgcghaaGreatDoor.walBack

/-- A disk, all of it new since w0; its blocks told. -/
def Kd (w0 : World) (d : Nat) (A : Ab) (ft : List Nat) (w : World) : Prop := At d A ft w ∧ (∀ i ∈ ft, w0.heap.size ≤ i) ∧ Below w0.heap.size w0 w
def KdR (w0 : World) (d : Nat) (A : Ab) (ft : List Nat) (w w' : World) : Prop := ∃ ft', Kd w0 d A ft' w' ∧ Moved w w' ft ft'
section
variable {w0 : World} {d : Nat} {A : Ab} {ft : List Nat} {w : World}
theorem Kd.more (h : Kd w0 d A ft w) {u : World} (hb : Below w.heap.size w u) : Kd w0 d A ft u := ⟨h.1.moved (moved_below (ft := []) hb) (by simp), h.2.1, h.2.2.trans (hb.mono h.2.2.size)⟩
theorem KdR.out {A' : Ab} {w' : World} {ft' : List Nat} (h : Kd w0 d A ft w) (ha : At d A' ft' w') (hm : Moved w w' ft ft') : KdR w0 d A' ft w w' := by
  obtain ⟨h1, h4, h6⟩ := h
  have hs := h6.size
  refine ⟨ft', ⟨ha, fun i hi => ?_, h6.trans ⟨hm.os, hm.tape, hm.output, hm.size, fun i hi => hm.kept i (by omega) fun h => ?_⟩⟩, hm⟩
  · rcases hm.news i hi with h | h
    · exact h4 i h
    · omega
  · have := h4 i h; omega
theorem lyf_new (h : Kd w0 d A ft w) : LyF w0 d w.heap.size A 0 false ft (w.alloc (.cells #[.pointer (some ⟨d, 0, none⟩), .int .i64 0, .bool false] 65)) := by
  have hB : Below w.heap.size w (w.alloc (.cells #[.pointer (some ⟨d, 0, none⟩), .int .i64 0, .bool false] 65)) := (Below.refl _ _).alloc (Nat.le_refl _) _
  refine ⟨(h.more hB).1, fun hi => ?_, Blk.new w _ _, h.2.1, h.2.2.size, (h.more hB).2.2⟩
  have := h.1.lt _ hi; omega
theorem LyR.kd {n : Int} {b : Bool} {A' : Ab} {u w' : World} {o : Obj} (hu : Below w.heap.size w u) (h : LyR w0 d u.heap.size A' n b ft (u.alloc o) w') : KdR w0 d A' ft w w' := by
  obtain ⟨ft', ⟨h1, _, _, h4, _, h6⟩, hm⟩ := h
  have hB : Below w.heap.size w (u.alloc o) := hu.alloc hu.size o
  have hs := hu.size
  refine ⟨ft', ⟨h1, h4, h6⟩, ⟨hm.os.trans hB.os, hm.tape.trans hB.tape, hm.output.trans hB.output, Nat.le_trans hB.size hm.size, fun i hi hn => ?_, fun i hi => ?_⟩⟩
  · rw [hm.kept i (by rw [World.size_alloc]; omega) (fun he => by
      rcases List.mem_cons.1 he with rfl | he
      · omega
      · exact hn he)]
    exact hB.block i hi
  · rcases hm.news i (List.mem_cons_of_mem _ hi) with he | he
    · rcases List.mem_cons.1 he with rfl | he
      · exact .inr hs
      · exact .inl he
    · rw [World.size_alloc] at he
      exact .inr (by omega)
end
set_option maxRecDepth 100000 in
set_option maxHeartbeats 4000000 in
theorem openWY {w0 : World} {d : Nat} {A : Ab} {ft : List Nat} {w : World} (he : EnvW w0) (ht : Tab w0) (ue : TypeId) (pv : Value) (hE : Err w0 ue pv) (h : Kd w0 d A ft w) (hon : A.on = true) {N : List Int} {L : Nat} {m : Int} (hNL : N.length = L + 1) (hNm : N[L]? = some m) (hN1 : ∀ x ∈ N, 1 ≤ x) (hNs : N.Pairwise (· < ·)) (hNn : (A.sp.map Sig.nm).filterMap numO = N)
    {F : Int → List UInt8} {rs : Int → List (List Cx)} {sz : Int → Nat} (hS : Segs A N F rs sz) (hg : ∀ n ∈ N, refuse true [tB (nmW n)] = 0) (hm1 : okW (m + 1) = true) (hspl : A.sp.length ≤ 1000) (hnl : ∀ t ∈ A.sp, t.nm.length ≤ 1000) {k : Nat} (hN : Nice A k) (hk : k + 10 ≤ 2000) (hz : ∀ t, findT (createX A (tB spW)).2.sp spW = some t → t.bs.length + sz m ≤ 600000)
    {q : Int × Ab} (hq : openX A (decide (sz m < (F m).length)) ((F m).take (sz m)) m (m + 1) = q) :
    Calls Tryz.prog 7 #[.pointer (some ⟨d, 0, none⟩), .int .i64 1] w fun x w' => ∃ p v, x = .returned (.tuple #[p, v, .int .i64 q.1]) ∧ KdR w0 d q.2 ft w w' ∧ (q.1 = 0 → ToldR w.heap.size (N.map rs).flatten v w') := by
  have CD : Hid (Calls Tryz.prog 21 #[.pointer (some ⟨d, 0, none⟩), .string ⟨#[]⟩] w fun x w' => x = .returned (.tuple #[.slice none 0 0, .int .i64 3]) ∧ Below w.heap.size w w') := by
    obtain ⟨⟨bm, fs, hD, hss, hft⟩, _⟩ := h
    refine (read_refused hD ⟨#[]⟩ (by show 0 ≤ maxLen; exact Nat.zero_le _) (c := 3) (by show refuse A.on [⟨#[]⟩] = 3; rw [hon]; rfl) (by omega)).mono ?_
    rintro x w' ⟨rfl, hg⟩
    exact ⟨rfl, belowN_none hg⟩
  have CP : Hid (∀ u, Calls Tryz.prog 22 #[.int .i64 1] u fun e w' => e = .returned (.bool true) ∧ w' = u) := fun u => possible_any 1 u
  have CO : Hid (∀ u, Below w.heap.size w u → Calls Tryz.prog 23 #[.pointer (some ⟨u.heap.size, 0, none⟩), .int .i64 1] (u.alloc (.cells #[.pointer (some ⟨d, 0, none⟩), .int .i64 0, .bool false] 65)) fun x w' => ∃ v, x = .returned (.tuple #[v, .int .i64 q.1]) ∧ KdR w0 d q.2 ft w w' ∧ (q.1 = 0 → ToldR w.heap.size (N.map rs).flatten v w')) := fun u hu => by
    refine (openLY he ht ue pv hE (lyf_new (h.more hu)) hon hNL hNm hN1 hNs hNn hS hg hm1 hspl hnl hN hk hz hq).mono ?_
    rintro x w' ⟨v, rfl, ⟨n', hR⟩, hT⟩
    refine ⟨v, rfl, hR.kd hu, fun h0 => (hT h0).low ?_⟩
    rw [World.size_alloc]
    have := hu.size; omega
  clear h he ht hE hon hNL hNm hN1 hNs hNn hS hg hm1 hspl hnl hN hk hz hq
  obtain ⟨c, A'⟩ := q
  simp only at CO
  by_cases h0 : c = 0
  · subst h0
    go_enter Tryz.func7, Tryz.ntmps7
    go_wp2_with fail
    go_fit CD.out
    rintro e w1 ⟨rfl, hK1⟩
    have C1 := CO.out w1 hK1
    go_wp2_with (go_at_call 22; refine (CP.out _).mono ?_; rintro e u2 ⟨rfl, rfl⟩)
    go_fit C1
    rintro e w3 ⟨v, rfl, hR, hT⟩
    clear C1 CO hK1
    go_wp2_with fail
    go_ret3
    exact ⟨_, _, rfl, hR, hT⟩
  · have h0b : (c != 0) = true := by simpa using h0
    go_enter Tryz.func7, Tryz.ntmps7
    go_wp2_with fail
    go_fit CD.out
    rintro e w1 ⟨rfl, hK1⟩
    have C1 := CO.out w1 hK1
    go_wp2_with (go_at_call 22; refine (CP.out _).mono ?_; rintro e u2 ⟨rfl, rfl⟩)
    go_fit C1
    rintro e w3 ⟨v, rfl, hR, hT⟩
    clear C1 CO hK1
    go_wp2_with fail
    go_ret3
    exact ⟨_, _, rfl, hR, fun h => absurd h h0⟩
end Go.Proofs.YtglaocghcgcghaaGreatDoor
