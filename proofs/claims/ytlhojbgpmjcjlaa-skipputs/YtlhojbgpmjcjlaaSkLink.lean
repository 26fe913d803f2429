/-
  CONTRACT: a tower is linked, level by level (link).
-/
import Derived.Test.YtlhojbgpmjcjlaaSkRead
namespace Go.Proofs.Ytlhojbgpmjcjlaa
open Go.RowKit

theorem split3 {α : Type} {A : List α} {n : α} {R A1 : List α} {t : α} {R1 : List α} (h : A ++ n :: R = A1 ++ t :: R1) :
    (∃ Y, A = A1 ++ t :: Y ∧ R1 = Y ++ n :: R) ∨ (A1 = A ∧ t = n ∧ R1 = R) ∨ (∃ Z, A1 = A ++ n :: Z ∧ R = Z ++ t :: R1) := by
  rcases List.append_eq_append_iff.1 h with ⟨Z, h1, h2⟩ | ⟨Z, h1, h2⟩
  · cases Z with
    | nil =>
      simp at h2
      exact .inr (.inl ⟨by simpa using h1, h2.1.symm, h2.2.symm⟩)
    | cons z Z =>
      rw [List.cons_append] at h2
      injection h2 with e1 e2
      subst e1
      exact .inr (.inr ⟨Z, h1, e2⟩)
  · cases Z with
    | nil =>
      simp at h2
      exact .inr (.inl ⟨by simpa using h1.symm, h2.1, h2.2⟩)
    | cons z Z =>
      rw [List.cons_append] at h2
      injection h2 with e1 e2
      subst e1
      exact .inl ⟨Z, h1, e2⟩
theorem Chain.mk {w : World} : ∀ {T : List Tw}, (∀ A t R, T = A ++ t :: R → TwAt w t.g t.c t.hv t.h R) → Chain w T
  | [], _ => trivial
  | t :: T, h => ⟨h [] t T rfl, Chain.mk fun A u R e => h (t :: A) u R (by rw [e]; rfl)⟩
theorem firstH_n {i n H j : Nat} {c : Cx} (R : List Tw) (hij : i ≠ j) : ∀ Y : List Tw, firstH i (Y ++ ⟨n, c, H, j⟩ :: R) = firstH i (Y ++ ⟨n, c, H, j + 1⟩ :: R)
  | [] => by
    show firstH i (⟨n, c, H, j⟩ :: R) = firstH i (⟨n, c, H, j + 1⟩ :: R)
    rw [firstH, firstH]
    by_cases h : i < j
    · rw [if_pos h, if_pos (show i < j + 1 by omega)]
    · rw [if_neg h, if_neg (show ¬ i < j + 1 by omega)]
  | t :: Y => by
    rw [List.cons_append, List.cons_append, firstH, firstH, firstH_n R hij Y]
theorem row_same {n H j h : Nat} {c : Cx} {Y R : List Tw} (hY : h ≤ j ∨ ∃ u ∈ Y, j < u.h) (c' : Cx) (hv : Nat) : twL c' hv (lnk h (Y ++ ⟨n, c, H, j⟩ :: R)) = twL c' hv (lnk h (Y ++ ⟨n, c, H, j + 1⟩ :: R)) := by
  refine twL_ext _ _ fun i _ => ?_
  unfold lnk
  by_cases hij : i = j
  · subst hij
    rcases hY with hY | ⟨u, hu, hh⟩
    · rw [if_neg (by omega), if_neg (by omega)]
    · obtain ⟨X, v, Z, rfl, hX, hv⟩ := (firstH_part i Y).resolve_left (fun h => h u hu hh)
      have e1 : ∀ L : List Tw, X ++ v :: Z ++ L = X ++ v :: (Z ++ L) := fun L => by simp
      rw [e1, e1, firstH_hit _ hX hv, firstH_hit _ hX hv]
  · rw [firstH_n R hij Y]
theorem row_turn {n H j h : Nat} {c : Cx} {Y R : List Tw} (hj : j < 8) (hY : ∀ u ∈ Y, ¬ j < u.h) (hh : j < h) (c' : Cx) (hv : Nat) : (twL c' hv (lnk h (Y ++ ⟨n, c, H, j⟩ :: R))).set (11 + j) (pt (some n)) = twL c' hv (lnk h (Y ++ ⟨n, c, H, j + 1⟩ :: R)) := by
  rw [twL_set _ _ _ hj]
  refine twL_ext _ _ fun i _ => ?_
  unfold lnk
  by_cases hij : i = j
  · subst hij
    rw [if_pos rfl, if_pos hh, firstH_hit R hY (show i < (Tw.mk n c H (i + 1)).h by show i < i + 1; omega)]
  · rw [if_neg hij, firstH_n R hij Y]
theorem row_new {n H j : Nat} {R : List Tw} (hj : j < 8) (c : Cx) : (twL c H (lnk j R)).set (11 + j) (pt (firstH j R)) = twL c H (lnk (j + 1) R) := by
  have := n
  rw [twL_set _ _ _ hj]
  refine twL_ext _ _ fun i _ => ?_
  unfold lnk
  by_cases hij : i = j
  · subst hij; rw [if_pos rfl, if_pos (by omega)]
  · rw [if_neg hij]
    by_cases h : i < j
    · rw [if_pos h, if_pos (by omega)]
    · rw [if_neg h, if_neg (by omega)]
/-- The last tower ahead of the new one is one of them. -/
theorem lastH_mem (l hd : Nat) (A : List Tw) : lastH l hd A ∈ hd :: A.map Tw.g := by
  rcases lastH_part l hd A with ⟨_, e⟩ | ⟨X, t, Y, rfl, _, _, e⟩
  · rw [e]; simp
  · rw [e]; simp
theorem link_step {w : World} {hd n H j : Nat} {c : Cx} {A R : List Tw} (hT : Towers w hd (A ++ ⟨n, c, H, j⟩ :: R)) (hj : j < 8) :
    Towers ((w.setCell ⟨n, 11 + j, none⟩ (pt (firstH j R))).setCell ⟨lastH j hd A, 11 + j, none⟩ (pt (some n))) hd (A ++ ⟨n, c, H, j + 1⟩ :: R) := by
  have hnd := hT.nodup
  obtain ⟨tb, htb⟩ : ∃ tb, tb = lastH j hd A := ⟨_, rfl⟩
  rw [← htb]
  have hmap : (A ++ (⟨n, c, H, j + 1⟩ : Tw) :: R).map Tw.g = (A ++ (⟨n, c, H, j⟩ : Tw) :: R).map Tw.g := by simp
  have hmem : tb ∈ hd :: A.map Tw.g := by rw [htb]; exact lastH_mem j hd A
  have hdis : ∀ b ∈ hd :: A.map Tw.g, b ≠ n ∧ ∀ t ∈ R, b ≠ t.g := by
    have h2 : ((hd :: A.map Tw.g) ++ n :: R.map Tw.g).Nodup := by simpa using hnd
    intro b hb
    have h3 := (List.nodup_append.1 h2).2.2 b hb
    exact ⟨h3 n (by simp), fun t ht => h3 t.g (by simp; exact .inr ⟨t, ht, rfl⟩)⟩
  have hnR : ∀ t ∈ R, n ≠ t.g := by
    have h2 : ((hd :: A.map Tw.g) ++ n :: R.map Tw.g).Nodup := by simpa using hnd
    have h3 := (List.nodup_cons.1 (List.nodup_append.1 h2).2.1).1
    exact fun t ht e => h3 (by simp; exact ⟨t, ht, e.symm⟩)
  have hbn := (hdis tb hmem).1
  have other : ∀ b, b ≠ n → b ≠ tb → ((w.setCell ⟨n, 11 + j, none⟩ (pt (firstH j R))).setCell ⟨tb, 11 + j, none⟩ (pt (some n))).heap[b]? = w.heap[b]? := fun b h1 h2 => (Below.heap_setCell _ _ _ _ h2).trans (Below.heap_setCell _ _ _ _ h1)
  have keep : ∀ {g : Nat} {cs cs' : List Value} {ty : TypeId}, Blk w g cs ty → g ≠ n → g ≠ tb → cs = cs' → Blk ((w.setCell ⟨n, 11 + j, none⟩ (pt (firstH j R))).setCell ⟨tb, 11 + j, none⟩ (pt (some n))) g cs' ty := fun {g cs cs' ty} h h1 h2 e => by subst e; exact h.carry (other g h1 h2)
  have turn : ∀ {cs cs' : List Value} {ty : TypeId}, Blk w tb cs ty → cs.set (11 + j) (pt (some n)) = cs' → Blk ((w.setCell ⟨n, 11 + j, none⟩ (pt (firstH j R))).setCell ⟨tb, 11 + j, none⟩ (pt (some n))) tb cs' ty := fun {cs cs' ty} h e => (h.carry (Below.heap_setCell _ _ _ _ hbn)).setTo _ _ _ e
  -- how a tower (or the head) ahead of the new one stands: Y are those between
  have ahead : ∀ (g : Nat) (c' : Cx) (hv h : Nat) (Y : List Tw), g ∈ hd :: A.map Tw.g → TwAt w g c' hv h (Y ++ ⟨n, c, H, j⟩ :: R) → ((g = tb ∧ (∀ u ∈ Y, ¬ j < u.h) ∧ j < h) ∨ (g ≠ tb ∧ (h ≤ j ∨ ∃ u ∈ Y, j < u.h))) → TwAt ((w.setCell ⟨n, 11 + j, none⟩ (pt (firstH j R))).setCell ⟨tb, 11 + j, none⟩ (pt (some n))) g c' hv h (Y ++ ⟨n, c, H, j + 1⟩ :: R) := fun g c' hv h Y hg t hh => by
    rcases hh with ⟨e, hY, hjh⟩ | ⟨e, hY⟩
    · subst e; exact turn t (row_turn hj hY hjh c' hv)
    · exact keep t (hdis g hg).1 e (row_same hY c' hv)
  rcases lastH_part j hd A with ⟨hA, e⟩ | ⟨X, t0, Y0, rfl, ht0, hY0, e⟩
  · rw [← htb] at e
    refine ⟨ahead hd _ _ _ A (by simp) hT.head (.inl ⟨e.symm, hA, hj⟩), Chain.mk fun A1 t R1 hs => ?_, by rw [hmap]; exact hnd⟩
    rcases split3 hs with ⟨Y, rfl, rfl⟩ | ⟨rfl, rfl, rfl⟩ | ⟨Z, rfl, rfl⟩
    · have ht := hT.chain
      rw [show A1 ++ t :: Y ++ (⟨n, c, H, j⟩ : Tw) :: R = A1 ++ t :: (Y ++ ⟨n, c, H, j⟩ :: R) by simp] at ht
      refine ahead t.g _ _ _ Y (by simp) ht.at (.inr ⟨fun e2 => ?_, .inl (Nat.le_of_not_lt (hA t (by simp)))⟩)
      have h2 : (hd :: ((A1 ++ t :: Y).map Tw.g ++ n :: R.map Tw.g)).Nodup := by simpa using hnd
      exact (List.nodup_cons.1 h2).1 (by rw [← e, ← e2]; simp)
    · have ht := hT.chain.at
      have h1 : Blk (w.setCell ⟨n, 11 + j, none⟩ (pt (firstH j R1))) n (twL c H (lnk (j + 1) R1)) 72 := Blk.setTo ht _ _ _ (row_new (n := n) hj c)
      exact h1.carry (Below.heap_setCell _ _ _ _ (fun e2 => hbn e2.symm))
    · have hT2 := hT.chain
      rw [show A ++ (⟨n, c, H, j⟩ : Tw) :: (Z ++ t :: R1) = A ++ [⟨n, c, H, j⟩] ++ (Z ++ t :: R1) by simp] at hT2
      exact keep (hT2.tail (A := A ++ [⟨n, c, H, j⟩])).at (fun e2 => hnR t (by simp) e2.symm) (fun e2 => (hdis tb hmem).2 t (by simp) e2.symm) rfl
  · rw [← htb] at e
    subst e
    have ht0' := hT.chain
    refine ⟨ahead hd _ _ _ (X ++ t0 :: Y0) (by simp) hT.head (.inr ⟨fun e2 => ?_, .inr ⟨t0, by simp, ht0⟩⟩), Chain.mk fun A1 t R1 hs => ?_, by rw [hmap]; exact hnd⟩
    · have h2 : (hd :: ((X ++ t0 :: Y0).map Tw.g ++ n :: R.map Tw.g)).Nodup := by simpa using hnd
      exact (List.nodup_cons.1 h2).1 (by rw [e2]; simp)
    · rcases split3 hs with ⟨Y, hAY, rfl⟩ | ⟨rfl, rfl, rfl⟩ | ⟨Z, rfl, rfl⟩
      · have htw : TwAt w t.g t.c t.hv t.h (Y ++ ⟨n, c, H, j⟩ :: R) := by
          have ht := hT.chain
          rw [hAY, show A1 ++ t :: Y ++ (⟨n, c, H, j⟩ : Tw) :: R = A1 ++ t :: (Y ++ ⟨n, c, H, j⟩ :: R) by simp] at ht
          exact ht.at
        have hgm : t.g ∈ hd :: (X ++ t0 :: Y0).map Tw.g := by rw [hAY]; simp
        have hnA : ((X ++ t0 :: Y0).map Tw.g).Nodup := by
          have h2 : (hd :: ((X ++ t0 :: Y0).map Tw.g ++ n :: R.map Tw.g)).Nodup := by simpa using hnd
          exact (List.nodup_append.1 (List.nodup_cons.1 h2).2).1
        refine ahead t.g _ _ _ Y hgm htw ?_
        rcases split3 (A := X) (n := t0) (R := Y0) hAY with ⟨Y', hX, hY'⟩ | ⟨rfl, rfl, rfl⟩ | ⟨Z, rfl, hR0⟩
        · refine .inr ⟨fun e2 => ?_, .inr ⟨t0, by rw [hY']; simp, ht0⟩⟩
          rw [hX, List.map_append] at hnA
          exact (List.nodup_append.1 hnA).2.2 t.g (by simp) t0.g (by simp) e2
        · exact .inl ⟨rfl, hY0, ht0⟩
        · refine .inr ⟨fun e2 => ?_, .inl (Nat.le_of_not_lt (hY0 t (by rw [hR0]; simp)))⟩
          rw [hR0, List.map_append, List.map_cons] at hnA
          exact (List.nodup_cons.1 (List.nodup_append.1 hnA).2.1).1 (by rw [← e2]; simp)
      · have ht := hT.chain.at
        have h1 : Blk (w.setCell ⟨n, 11 + j, none⟩ (pt (firstH j R1))) n (twL c H (lnk (j + 1) R1)) 72 := Blk.setTo ht _ _ _ (row_new (n := n) hj c)
        exact h1.carry (Below.heap_setCell _ _ _ _ (fun e2 => hbn e2.symm))
      · have hT2 := hT.chain
        rw [show X ++ t0 :: Y0 ++ (⟨n, c, H, j⟩ : Tw) :: (Z ++ t :: R1) = X ++ t0 :: Y0 ++ [⟨n, c, H, j⟩] ++ (Z ++ t :: R1) by simp] at hT2
        exact keep (hT2.tail (A := X ++ t0 :: Y0 ++ [⟨n, c, H, j⟩])).at (fun e2 => hnR t (by simp) e2.symm) (fun e2 => (hdis t0.g hmem).2 t (by simp) e2.symm) rfl
theorem foundL_get (hd : Nat) (A : List Tw) {l : Nat} (hl : l < 8) : (foundL hd A 0)[l]? = some (.pointer (some ⟨lastH l hd A, 0, none⟩)) := by
  match l, hl with
  | 0, _ => rfl
  | 1, _ => rfl
  | 2, _ => rfl
  | 3, _ => rfl
  | 4, _ => rfl
  | 5, _ => rfl
  | 6, _ => rfl
  | 7, _ => rfl
theorem Towers.twn {w : World} {hd n H j : Nat} {c : Cx} {A R : List Tw} (hT : Towers w hd (A ++ ⟨n, c, H, j⟩ :: R)) : TwAt w n c H j R := hT.chain.at (A := A) (t := ⟨n, c, H, j⟩)
theorem Towers.froz {w : World} {hd : Nat} {T : List Tw} (hT : Towers w hd T) {b : Nat} (hb : b ∈ hd :: T.map Tw.g) (i : Nat) : w.frozen? ⟨b, i, none⟩ = false := by
  rcases List.mem_cons.1 hb with rfl | hb
  · exact Blk.frozen hT.head i
  · obtain ⟨t, ht, rfl⟩ := List.mem_map.1 hb
    obtain ⟨X, Y, rfl⟩ := List.append_of_mem ht
    exact Blk.frozen hT.chain.at i
set_option maxRecDepth 100000 in
set_option maxHeartbeats 2000000 in
theorem link_any (n hd H : Nat) (c : Cx) (A R : List Tw) (w : World) (hT : Towers w hd (A ++ ⟨n, c, H, 0⟩ :: R)) (hH : H ≤ 8) :
    Calls Try.prog 31 #[.pointer (some ⟨n, 0, none⟩), .agg (foundL hd A 0).toArray] w fun e w' => e = .returned (.tuple #[]) ∧ Towers w' hd (A ++ ⟨n, c, H, H⟩ :: R) ∧ Moved w w' (hd :: n :: (A ++ R).map Tw.g) (hd :: n :: (A ++ R).map Tw.g) := by
  obtain ⟨wa, hwa⟩ : ∃ wa, wa = w.alloc (.cells (foundL hd A 0).toArray 70) := ⟨_, rfl⟩
  have hB : Below w.heap.size w wa := by rw [hwa]; exact (Below.refl _ _).alloc (Nat.le_refl _) _
  have hbx : Blk wa w.heap.size (foundL hd A 0) 70 := by rw [hwa]; exact Blk.new w _ _
  have hTa := hT.below hB (Nat.le_refl _)
  have hM0 : Moved w wa (hd :: n :: (A ++ R).map Tw.g) (hd :: n :: (A ++ R).map Tw.g) := by rw [hwa]; exact Moved.alloc _ _
  have hlt : ∀ b ∈ hd :: n :: (A ++ R).map Tw.g, b < w.heap.size := fun b hb => by
    rcases List.mem_cons.1 hb with rfl | hb
    · exact hT.head.lt
    · rcases List.mem_cons.1 hb with rfl | hb
      · exact hT.twn.lt
      · obtain ⟨t, ht, rfl⟩ := List.mem_map.1 hb
        rcases List.mem_append.1 ht with ht | ht
        · exact hT.chain.lt t (by simp [ht])
        · exact hT.chain.lt t (by simp [ht])
  have HLT : Hid (∀ b ∈ hd :: n :: (A ++ R).map Tw.g, b < w.heap.size) := hlt
  have HTa : Hid (Towers wa hd (A ++ ⟨n, c, H, 0⟩ :: R)) := hTa
  have HM0 : Hid (Moved w wa (hd :: n :: (A ++ R).map Tw.g) (hd :: n :: (A ++ R).map Tw.g)) := hM0
  have HBX : Hid (Blk wa w.heap.size (foundL hd A 0) 70) := hbx
  have hHz : (H : Int) ≤ 8 := by omega
  have hh : wa.cell? ⟨n, 10, none⟩ = some (.int .i64 (H : Nat)) := hTa.twn.height
  rw [hwa] at hh
  have hfa : (foundL hd A 0).toArray = #[.pointer (some ⟨lastH 0 hd A, 0, none⟩), .pointer (some ⟨lastH 1 hd A, 0, none⟩), .pointer (some ⟨lastH 2 hd A, 0, none⟩), .pointer (some ⟨lastH 3 hd A, 0, none⟩), .pointer (some ⟨lastH 4 hd A, 0, none⟩), .pointer (some ⟨lastH 5 hd A, 0, none⟩), .pointer (some ⟨lastH 6 hd A, 0, none⟩), .pointer (some ⟨lastH 7 hd A, 0, none⟩)] := rfl
  rw [hfa] at hwa hh ⊢
  clear hT hB hbx hTa hM0 hlt hfa
  generalize lastH 0 hd A = z0 at *
  generalize lastH 1 hd A = z1 at *
  generalize lastH 2 hd A = z2 at *
  generalize lastH 3 hd A = z3 at *
  generalize lastH 4 hd A = z4 at *
  generalize lastH 5 hd A = z5 at *
  generalize lastH 6 hd A = z6 at *
  generalize lastH 7 hd A = z7 at *
  go_enter Try.func31, Try.ntmps31
  go_wp2_with fail
  rw [← hwa]
  clear hwa hh
  go_loopw [9] (fun s9 wr => ∃ j : Nat, j ≤ H ∧ s9 = .int .i64 j ∧ Towers wr hd (A ++ ⟨n, c, H, j⟩ :: R) ∧ Blk wr w.heap.size (foundL hd A 0) 70 ∧ Moved w wr (hd :: n :: (A ++ R).map Tw.g) (hd :: n :: (A ++ R).map Tw.g)) (fun s9 _ => H - (intOf s9).toNat)
  case atStart => exact ⟨0, by omega, rfl, HTa.out, HBX.out, HM0.out⟩
  case round =>
    obtain ⟨j, hj, rfl, hT, hbx, hM⟩ := hrel
    clear HTa HBX HM0
    rcases Nat.lt_or_ge j H with hlt | hge
    · have hj8 : j < 8 := by omega
      obtain ⟨tb, htb⟩ : ∃ tb, tb = lastH j hd A := ⟨_, rfl⟩
      have hstep := link_step hT hj8
      rw [← htb] at hstep
      have hmem : tb ∈ hd :: A.map Tw.g := by rw [htb]; exact lastH_mem j hd A
      have hmem2 : tb ∈ hd :: (A ++ (⟨n, c, H, j⟩ : Tw) :: R).map Tw.g := by
        rcases List.mem_cons.1 hmem with e | e
        · rw [e]; simp
        · simp only [List.map_append, List.mem_cons, List.mem_append]; exact .inr (.inl e)
      have hmem3 : tb ∈ hd :: n :: (A ++ R).map Tw.g := by
        rcases List.mem_cons.1 hmem with e | e
        · rw [e]; simp
        · simp only [List.map_append, List.mem_cons, List.mem_append]; exact .inr (.inr (.inl e))
      have hnmem : n ∈ hd :: n :: (A ++ R).map Tw.g := by simp
      have hbn : tb ≠ n := by
        have hnd := hT.nodup
        have h2 : ((hd :: A.map Tw.g) ++ n :: R.map Tw.g).Nodup := by simpa using hnd
        exact (List.nodup_append.1 h2).2.2 tb hmem n (by simp)
      have cb : wr.cell? ⟨w.heap.size, j, none⟩ = some (.pointer (some ⟨tb, 0, none⟩)) := by rw [htb]; exact hbx.cell j (foundL_get hd A hj8)
      have ct : wr.cell? ⟨tb, 11 + j, none⟩ = some (pt (firstH j R)) := by
        have hh := lastH_next hT hj8
        rw [← htb, firstH, if_neg (show ¬ j < (Tw.mk n c H j).h from Nat.lt_irrefl j)] at hh
        exact hh
      obtain ⟨vn, cn⟩ : ∃ v, wr.cell? ⟨n, 11 + j, none⟩ = some v := ⟨_, Blk.cell hT.twn _ (twL_next _ _ _ hj8)⟩
      have fn := hT.froz (b := n) (by simp) (11 + j)
      have ft := hT.froz hmem2 (11 + j)
      obtain ⟨o, ho⟩ : ∃ o, pt (firstH j R) = .pointer o := ⟨_, rfl⟩
      rw [ho] at ct hstep
      -- the world behind the first store
      obtain ⟨w1, hw1⟩ : ∃ w1, w1 = (wr.setCell ⟨n, 11 + j, none⟩ (.pointer o)).drew := ⟨_, rfl⟩
      have b1 : w1.cell? ⟨w.heap.size, j, none⟩ = some (.pointer (some ⟨tb, 0, none⟩)) := by
        rw [hw1, ← cb]; exact World.cell?_of_block (Below.heap_setCell _ _ _ _ (show w.heap.size ≠ n from fun e => by have := HLT.out n hnmem; omega))
      have t1 : w1.cell? ⟨tb, 11 + j, none⟩ = some (.pointer o) := by
        rw [hw1, ← ct]; exact World.cell?_of_block (Below.heap_setCell _ _ _ _ hbn)
      have f1 : w1.frozen? ⟨tb, 11 + j, none⟩ = false := by
        rw [hw1, ← ft]; exact World.frozen?_setCell _ _ _ _
      have HS : Hid (Towers (w1.setCell ⟨tb, 11 + j, none⟩ (.pointer (some ⟨n, 0, none⟩))) hd (A ++ ⟨n, c, H, j + 1⟩ :: R) ∧ Blk (w1.setCell ⟨tb, 11 + j, none⟩ (.pointer (some ⟨n, 0, none⟩))) w.heap.size (foundL hd A 0) 70 ∧ Moved w (w1.setCell ⟨tb, 11 + j, none⟩ (.pointer (some ⟨n, 0, none⟩))) (hd :: n :: (A ++ R).map Tw.g) (hd :: n :: (A ++ R).map Tw.g)) := by
        have l1 := HLT.out n hnmem
        have l2 := HLT.out tb hmem3
        rw [hw1]
        refine ⟨hstep.carry fun b _ _ => rfl, hbx.carry ((Below.heap_setCell _ _ _ _ (show w.heap.size ≠ tb by omega)).trans (Below.heap_setCell _ _ _ _ (show w.heap.size ≠ n by omega))), ?_⟩
        have m1 : Moved wr (wr.setCell ⟨n, 11 + j, none⟩ (.pointer o)) (hd :: n :: (A ++ R).map Tw.g) (hd :: n :: (A ++ R).map Tw.g) := (Moved.of_set n (11 + j) (.pointer o)).wider (fun i hi => by rw [List.mem_singleton] at hi; subst hi; exact .inl hnmem) (fun i hi => .inl hi)
        have m2 : Moved (wr.setCell ⟨n, 11 + j, none⟩ (.pointer o)).drew ((wr.setCell ⟨n, 11 + j, none⟩ (.pointer o)).drew.setCell ⟨tb, 11 + j, none⟩ (.pointer (some ⟨n, 0, none⟩))) (hd :: n :: (A ++ R).map Tw.g) (hd :: n :: (A ++ R).map Tw.g) := (Moved.of_set tb (11 + j) _).wider (fun i hi => by rw [List.mem_singleton] at hi; subst hi; exact .inl hmem3) (fun i hi => .inl hi)
        exact hM.trans (m1.drew.trans m2)
      have hjz : (j : Int) < (H : Int) := by omega
      have hj8z : (j : Int) < 8 := by omega
      clear hT hbx hM hstep hmem hmem2 hmem3 hnmem htb ho
      go_wp2_with fail
      go_region
      rw [← hw1]
      clear hw1
      go_wp2_with fail
      go_roundw
      case rel => exact ⟨j + 1, by omega, by go_num, HS.out.1, HS.out.2.1, HS.out.2.2⟩
      case measure => (simp [intOf]; try omega)
    · obtain rfl : j = H := by omega
      have hjz : ¬ (j : Int) < (j : Int) := by omega
      go_wp2_with fail
      go_end0
      exact ⟨rfl, hT, by simpa using hM⟩
end Go.Proofs.Ytlhojbgpmjcjlaa
