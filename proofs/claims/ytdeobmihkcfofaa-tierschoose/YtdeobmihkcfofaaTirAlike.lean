/-
  CONTRACT: how many tables are in the first of their buckets (alike).
-/
import Derived.Test.YtdeobmihkcfofaaTirOrd
namespace Go.Proofs.Ytdeobmihkcfofaa
open Go.RowKit

/-- The mean of the first i tables. -/
structure Mn (f : Nat → Nat) (r : List Nat) (i q c : Nat) : Prop where
  sum : q * i + c = sumF f (r.take i)
  rest : c < i ∨ (i = 0 ∧ q = 0 ∧ c = 0)
  al : alk f 0 0 r = i + alk f i (sumF f (r.take i)) (r.drop i)
theorem Mn.start (f : Nat → Nat) (r : List Nat) : Mn f r 0 0 0 := ⟨by simp [sumF], .inr ⟨rfl, rfl, rfl⟩, by simp [sumF]⟩
theorem Mn.mean {f : Nat → Nat} {r : List Nat} {i q c : Nat} (h : Mn f r i q c) (hi : 0 < i) : sumF f (r.take i) / i = q := by
  have h1 := h.sum
  have h2 : c < i := by rcases h.rest with h | h <;> omega
  rw [← h1, Nat.mul_comm, Nat.mul_add_div hi, Nat.div_eq_of_lt h2]; omega
theorem take1 {α : Type} {l : List α} {i : Nat} {x : α} (h : l[i]? = some x) : l.take (i + 1) = l.take i ++ [x] := by rw [List.take_add_one, h]; rfl
theorem drop1 {α : Type} {l : List α} {i : Nat} {x : α} (h : l[i]? = some x) : l.drop i = x :: l.drop (i + 1) := by
  obtain ⟨h1, h2⟩ := List.getElem?_eq_some_iff.1 h
  rw [List.drop_eq_getElem_cons h1, h2]
theorem Mn.stop {f : Nat → Nat} {r : List Nat} {i q c x : Nat} (h : Mn f r i q c) (hx : r[i]? = some x) (h1 : 0 < i) (h2 : 4 < f x) (h3 : 2 * q < f x) : alk f 0 0 r = i := by
  have hs : stp i (sumF f (r.take i)) (f x) = true := by unfold stp; rw [h.mean h1]; simp [h1, h2, h3]
  rw [h.al, drop1 hx, alk, if_pos hs]; rfl
theorem Mn.le {f : Nat → Nat} {r : List Nat} {i q c x : Nat} (h : Mn f r i q c) (hx : r[i]? = some x) (hs : r.Pairwise fun a b => f a ≤ f b) : q ≤ f x := by
  rcases Nat.eq_zero_or_pos i with h0 | h0
  · subst h0; rcases h.rest with h | h <;> omega
  · have h1 : ∀ j ∈ r.take i, f j ≤ f x := by
      intro j hj
      have := hs
      rw [← List.take_append_drop i r, drop1 hx, List.pairwise_append] at this
      exact this.2.2 j hj x List.mem_cons_self
    have h2 := sumF_le h1
    have hi : i < r.length := (List.getElem?_eq_some_iff.1 hx).1
    rw [List.length_take, Nat.min_eq_left (by omega)] at h2
    rw [← h.mean h0]
    exact Nat.div_le_of_le_mul h2
theorem Mn.step {f : Nat → Nat} {r : List Nat} {i q c x : Nat} (h : Mn f r i q c) (hx : r[i]? = some x) (hq : q ≤ f x) (hn : ¬ (0 < i ∧ 4 < f x ∧ 2 * q < f x)) : Mn f r (i + 1) (q + (f x - q + c) / (i + 1)) ((f x - q + c) % (i + 1)) := by
  have hsum : sumF f (r.take (i + 1)) = sumF f (r.take i) + f x := by rw [take1 hx, sumF_append]
  refine ⟨?_, .inl (Nat.mod_lt _ (by omega)), ?_⟩
  · have h1 := Nat.div_add_mod (f x - q + c) (i + 1)
    have h2 := h.sum
    rw [hsum, Nat.add_mul, Nat.mul_comm ((f x - q + c) / (i + 1)) (i + 1), Nat.mul_succ]
    omega
  · have hs : stp i (sumF f (r.take i)) (f x) = false := by
      unfold stp
      rw [decide_eq_false_iff_not]
      rintro ⟨h1, h2, h3⟩
      rw [h.mean h1] at h3
      exact hn ⟨h1, h2, h3⟩
    rw [h.al, drop1 hx, alk, if_neg (by rw [hs]; simp), hsum]; omega
set_option maxRecDepth 100000 in
set_option maxHeartbeats 1000000 in
theorem alike_any (ao bo : Option Addr) (l : List Int) (r : List Nat) (cap bcap : Nat) (w : World) (hs : ISees w ao l) (hr : ISees w bo (zs r)) (hin : ∀ i ∈ r, i < l.length) (hso : r.Pairwise fun a b => cs l a ≤ cs l b) (hl : l.length ≤ 1000000) (hrl : r.length ≤ 1000000) :
    Calls Try.prog 14 #[.slice ao l.length cap, .slice bo r.length bcap] w fun e w' => e = .returned (.int .i64 (alk (cs l) 0 0 r : Int)) ∧ Below w.heap.size w w' := by
  have hlz : (l.length : Int) ≤ 1000000 := by omega
  have hrz : (r.length : Int) ≤ 1000000 := by omega
  have HB0 : Hid (Blk (w.alloc (.cells #[.int .i64 0, .int .i64 0, .int .i64 0] 40)) w.heap.size [.int .i64 0, .int .i64 0, .int .i64 0] 40) := Blk.new w _ _
  have HE0 : Hid (Below w.heap.size w (w.alloc (.cells #[.int .i64 0, .int .i64 0, .int .i64 0] 40))) := (Below.refl _ _).alloc (Nat.le_refl _) _
  have HI : Hid (∀ i ∈ r, i < l.length) := hin
  have HP : Hid (r.Pairwise fun a b => cs l a ≤ cs l b) := hso
  clear hin hso
  go_enter Try.func14, Try.ntmps14
  go_wp2_with fail
  go_loopw [11] (fun s11 wr => ∃ i q c : Nat, i ≤ r.length ∧ s11 = .int .i64 i ∧ Blk wr w.heap.size [.int .i64 i, .int .i64 q, .int .i64 c] 40 ∧ Mn (cs l) r i q c ∧ Below w.heap.size w wr) (fun s11 _ => r.length - (intOf s11).toNat)
  case atStart => exact ⟨0, 0, 0, by omega, rfl, HB0.out, Mn.start _ _, HE0.out⟩
  case round =>
    obtain ⟨i, q, c, hi, rfl, hb, hm, hbr⟩ := hrel
    clear HB0 HE0
    rcases Nat.lt_or_ge i r.length with hlt | hge
    · have hltz : (i : Int) < (r.length : Int) := by omega
      have hx : r[i]? = some r[i] := List.getElem?_eq_getElem hlt
      generalize r[i] = x at hx
      have hxl : x < l.length := HI.out x (List.mem_of_getElem? hx)
      have hxz : (x : Int) < (l.length : Int) := by omega
      have hy : l[x]? = some l[x] := List.getElem?_eq_getElem hxl
      have hf : cs l x = cz l[x] := by simp [cs, List.getD, hy]
      generalize l[x] = y at hy hf
      obtain ⟨b1, o1, rfl, c1⟩ := (hr.below hbr (Nat.le_refl _)) i _ (zs_at hx)
      obtain ⟨b2, o2, rfl, c2⟩ := (hs.below hbr (Nat.le_refl _)) x _ hy
      have m1 := hb.cell 1 rfl
      have hq := hm.le hx HP.out
      have hc : c ≤ 1000000 := by rcases hm.rest with h | h <;> omega
      have hz := cz_le y
      have HF : Hid (cs l x = cz y) := hf
      rw [hf] at hq
      have HE : Hid (∀ w', wr.grownBy w' (some w.heap.size) → Below w.heap.size w w') := fun w' h => hbr.trans ⟨h.os, h.tape, h.output, h.size, fun k hk => h.block k (by have := hbr.size; omega) (fun e => by cases e; omega)⟩
      have HBR : Hid (Below w.heap.size w wr) := hbr
      have HA : Hid (Calls Try.prog 21 #[.pointer (some ⟨w.heap.size, 0, none⟩), .int .i64 (cz y : Int)] wr fun e w' => e = .returned (.tuple #[]) ∧ Blk w' w.heap.size [.int .i64 ((i + 1 : Nat) : Int), .int .i64 ((q + (cz y - q + c) / (i + 1) : Nat) : Int), .int .i64 (((cz y - q + c) % (i + 1) : Nat) : Int)] 40 ∧ wr.grownBy w' (some w.heap.size)) := addM_any _ _ _ _ _ _ hb hq hz (by omega) (by omega)
      have CY : Hid (∀ w, Calls Try.prog 20 #[.int .i64 y] w fun e w' => e = .returned (.int .i64 (cz y : Int)) ∧ w' = w) := counted_any y
      have HM : Hid (Mn (cs l) r i q c) := hm
      have HX : Hid (r[i]? = some x) := hx
      have HY : Hid (q ≤ cz y) := hq
      clear hb hm hbr hx hy hf hs hr hi
      by_cases hst : 0 < i ∧ 4 < cz y ∧ 2 * q < cz y
      · have HR : Hid (alk (cs l) 0 0 r = i) := HM.out.stop HX.out hst.1 (by rw [HF.out]; exact hst.2.1) (by rw [HF.out]; exact hst.2.2)
        have hs1 : (0 : Int) < (i : Int) := by omega
        have hs2 : (4 : Int) < (cz y : Int) := by omega
        have hs3 : 2 * (q : Int) < (cz y : Int) := by omega
        obtain ⟨hs4, hs5, hs6⟩ := hst
        generalize cz y = z at *
        go_wp2_with (go_at_call 20; refine (CY.out _).mono ?_; rintro e w1 ⟨rfl, rfl⟩)
        go_ret
        exact ⟨ret_int (by rw [HR.out]), HBR.out⟩
      · have HS : Hid (Mn (cs l) r (i + 1) (q + (cz y - q + c) / (i + 1)) ((cz y - q + c) % (i + 1))) := by
          have := HM.out.step HX.out (by rw [HF.out]; exact HY.out) (by rw [HF.out]; exact hst)
          rwa [HF.out] at this
        generalize cz y = z at *
        generalize q + (z - q + c) / (i + 1) = q2 at *
        generalize (z - q + c) % (i + 1) = c2' at *
        clear HM HX HF HY HI HP
        have hst' : (i = 0) ∨ (0 < i ∧ z ≤ 4) ∨ (0 < i ∧ 4 < z ∧ z ≤ 2 * q) := by omega
        clear hst
        rcases hst' with h0 | ⟨h0, h4⟩ | ⟨h0, h4, h2⟩
        · have hs1 : ¬ (0 : Int) < (i : Int) := by omega
          have hs2 : ¬ 0 < i := by omega
          clear h0
          go_wp2_with (first | (go_at_call 20; refine (CY.out _).mono ?_; rintro e w1 ⟨rfl, rfl⟩) | (go_at_call 21; go_fit HA.out; rintro e w3 ⟨rfl, hb3, hg3⟩))
          have hz3 := HE.out _ hg3
          clear hg3
          go_roundw
          case rel => exact ⟨i + 1, q2, c2', by omega, by go_num, hb3, HS.out, hz3⟩
          case measure => (simp [intOf]; try omega)
        · have hs1 : (0 : Int) < (i : Int) := by omega
          have hs2 : ¬ (4 : Int) < (z : Int) := by omega
          have hs3 : ¬ 4 < z := by omega
          go_wp2_with (first | (go_at_call 20; refine (CY.out _).mono ?_; rintro e w1 ⟨rfl, rfl⟩) | (go_at_call 21; go_fit HA.out; rintro e w3 ⟨rfl, hb3, hg3⟩))
          have hz3 := HE.out _ hg3
          clear hg3
          go_roundw
          case rel => exact ⟨i + 1, q2, c2', by omega, by go_num, hb3, HS.out, hz3⟩
          case measure => (simp [intOf]; try omega)
        · have hs1 : (0 : Int) < (i : Int) := by omega
          have hs2 : (4 : Int) < (z : Int) := by omega
          have hs3 : ¬ 2 * (q : Int) < (z : Int) := by omega
          have hs4 : ¬ 2 * q < z := by omega
          go_wp2_with (first | (go_at_call 20; refine (CY.out _).mono ?_; rintro e w1 ⟨rfl, rfl⟩) | (go_at_call 21; go_fit HA.out; rintro e w3 ⟨rfl, hb3, hg3⟩))
          have hz3 := HE.out _ hg3
          clear hg3
          go_roundw
          case rel => exact ⟨i + 1, q2, c2', by omega, by go_num, hb3, HS.out, hz3⟩
          case measure => (simp [intOf]; try omega)
    · obtain rfl : i = r.length := by omega
      have HR : Hid (alk (cs l) 0 0 r = r.length) := by
        show _ = _
        rw [hm.al]; simp [alk]
      have hgez : ¬ (r.length : Int) < (r.length : Int) := by omega
      clear hb hm hs hr
      go_wp2_with fail
      go_ret
      exact ⟨ret_int (by rw [HR.out]), hbr⟩
end Go.Proofs.Ytdeobmihkcfofaa
