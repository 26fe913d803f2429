/-
  CONTRACT: the tables' numbers by their sizes (bySize).
-/
import Derived.Test.YtdeobmihkcfofaaSrtBlk
namespace Go.Proofs.Ytdeobmihkcfofaa
open Go.RowKit

/-- How far the row was filled. -/
def fil (n i : Nat) : List Int := zs (List.range i) ++ List.replicate (n - i) 0
theorem fil_len {n i : Nat} (h : i ≤ n) : (fil n i).length = n := by simp [fil, zs_len]; omega
theorem fil_zero (n : Nat) : fil n 0 = List.replicate n 0 := by simp [fil, zs]
theorem fil_all (n : Nat) : fil n n = zs (List.range n) := by simp [fil]
theorem fil_step {n i : Nat} (h : i < n) : (fil n i).set i (i : Int) = fil n (i + 1) := by
  unfold fil
  obtain ⟨m, hm⟩ : ∃ m, n - i = m + 1 := ⟨n - i - 1, by omega⟩
  have hm2 : n - (i + 1) = m := by omega
  rw [hm, hm2, List.set_append_right _ _ (by simp [zs_len]), List.range_succ, zs_append]
  simp [zs, List.replicate_succ]
theorem vI_set (l : List Int) (i : Nat) (x : Int) : (vI l).set i (.int .i64 x) = vI (l.set i x) := by simp [vI, List.map_set]
theorem infoXT {t : TypeId} {z : Value} {k b : Nat} (h : (Try.prog.info? t).map (fun i => (i.zero, i.size, i.bytes)) = some (some z, k, b)) : ∃ i, Try.prog.info? t = some i ∧ i.zero = some z ∧ i.size = k ∧ i.bytes = b := by
  obtain ⟨i, hi, he⟩ := Option.map_eq_some_iff.1 h
  exact ⟨i, hi, by injection he, by injection he with _ h2; injection h2, by injection he with _ h2; injection h2⟩
set_option maxRecDepth 100000 in
set_option maxHeartbeats 1000000 in
theorem bySize_any (ao : Option Addr) (l : List Int) (cap : Nat) (w : World) (hs : ISees w ao l) (hl : l.length ≤ 1000000) :
    Calls Try.prog 13 #[.slice ao l.length cap] w fun e w' => ∃ g, e = .returned (.slice (some ⟨g, 0, none⟩) l.length l.length) ∧ w.heap.size ≤ g ∧ Blk w' g (vI (zs (ordr l))) 3 ∧ Below w.heap.size w w' := by
  obtain ⟨i1, hi1, hy0, hy1, hy2⟩ := infoXT infoInt
  have hlz : (l.length : Int) ≤ 1000000 := by omega
  obtain ⟨w1, hw1⟩ : ∃ w1, w1 = w.alloc (.cells #[.slice ao l.length cap] 22) := ⟨_, rfl⟩
  have hp1 : Blk w1 w.heap.size [.slice ao l.length cap] 22 := by rw [hw1]; exact Blk.new w _ _
  have hB1 : Below w.heap.size w w1 := by rw [hw1]; exact (Below.refl _ _).alloc (Nat.le_refl _) _
  have hz1 : w1.heap.size = w.heap.size + 1 := by rw [hw1]; simp
  obtain ⟨w2, hw2⟩ : ∃ w2, w2 = w1.alloc (.cells (madeCells #[.int .i64 0] l.length) 3) := ⟨_, rfl⟩
  have hmade : madeCells #[.int .i64 0] l.length = (vI (fil l.length 0)).toArray := by
    rw [fil_zero]
    apply Array.ext_getElem?
    intro k
    rcases Nat.lt_or_ge k l.length with h | h
    · simp [madeCells, vI, h, Nat.mod_one]
    · simp [madeCells, vI, h]
  have HB : Hid (Blk w2 (w.heap.size + 1) (vI (fil l.length 0)) 3 ∧ Blk w2 w.heap.size [.slice ao l.length cap] 22 ∧ Below w.heap.size w w2) := by
    rw [hw2, hmade]
    refine ⟨?_, hp1.alloc _, hB1.trans ((Below.refl _ _).alloc (by omega) _)⟩
    rw [← hz1]; exact Blk.new w1 _ _
  have HW : Hid (w2 = (w.alloc (.cells #[.slice ao l.length cap] 22)).alloc (.cells (madeCells #[.int .i64 0] l.length) 3)) := by rw [hw2, hw1]; rfl
  clear hw2 hw1 hp1 hB1 hz1 hmade
  go_enter Try.func13, Try.ntmps13
  go_wp2_with (at_make; go_must (refine wpList_make_row _ rfl _ _ 22 rfl 3 i1 (.int .i64 0) Try.underlying22 hi1 hy0 hy1 rfl .i64 .i64 l.length rfl rfl (by rw [hy2]; omega) (by omega) ?_; rw [← HW.out]))
  clear HW
  go_loopw [10] (fun s10 wr => ∃ i : Nat, i ≤ l.length ∧ s10 = .int .i64 i ∧ Blk wr (w.heap.size + 1) (vI (fil l.length i)) 3 ∧ Blk wr w.heap.size [.slice ao l.length cap] 22 ∧ Below w.heap.size w wr) (fun s10 _ => l.length - (intOf s10).toNat)
  case atStart => exact ⟨0, by omega, rfl, HB.out.1, HB.out.2.1, HB.out.2.2⟩
  case round =>
    obtain ⟨i, hi, rfl, hb, hp, hbr⟩ := hrel
    clear HB
    rcases Nat.lt_or_ge i l.length with hlt | hge
    · have hltz : (i : Int) < (l.length : Int) := by omega
      have hx : ∃ x, (fil l.length i)[i]? = some x := ⟨_, List.getElem?_eq_getElem (by rw [fil_len hi]; exact hlt)⟩
      obtain ⟨x, hx⟩ := hx
      have c1 := hb.cell i (vI_at hx)
      have f1 := hb.frozen i
      have HN : Hid (Blk (wr.setCell ⟨w.heap.size + 1, i, none⟩ (.int .i64 (i : Int))) (w.heap.size + 1) (vI (fil l.length (i + 1))) 3 ∧ Blk (wr.setCell ⟨w.heap.size + 1, i, none⟩ (.int .i64 (i : Int))) w.heap.size [.slice ao l.length cap] 22 ∧ Below w.heap.size w (wr.setCell ⟨w.heap.size + 1, i, none⟩ (.int .i64 (i : Int)))) :=
        ⟨hb.setTo i _ _ (by rw [vI_set, fil_step hlt]), hp.carry (Below.heap_setCell _ _ _ _ (by show w.heap.size ≠ w.heap.size + 1; omega)), hbr.setCell (by show w.heap.size ≤ w.heap.size + 1; omega) _⟩
      clear hb hp hbr hx
      go_wp2_with fail
      go_roundw
      case rel => exact ⟨i + 1, by omega, by go_num, HN.out⟩
      case measure => (simp [intOf]; try omega)
    · obtain rfl : i = l.length := by omega
      have hgez : ¬ (l.length : Int) < (l.length : Int) := by omega
      rw [fil_all] at hb
      have HS : Hid (Calls Try.prog 17 #[.slice (some ⟨w.heap.size + 1, 0, none⟩) l.length l.length, .func (.func 18) #[] #[.pointer (some ⟨w.heap.size, 0, none⟩)]] wr fun e w' => e = .returned (.tuple #[]) ∧ Blk w' (w.heap.size + 1) (vI (zs (ordr l))) 3 ∧ wr.grownBy w' (some (w.heap.size + 1))) := by
        show Calls _ _ _ _ _
        have hsr := hs.below hbr (Nat.le_refl _)
        rcases List.eq_nil_or_concat l with h0 | h0
        · subst h0
          refine (Try.slices_SortFunc_none (α := Nat) (some ⟨w.heap.size + 1, 0, none⟩) 0 (.func (.func 18) #[] #[.pointer (some ⟨w.heap.size, 0, none⟩)]) wr).mono ?_
          rintro e w' ⟨rfl, rfl⟩
          have e0 : ordr [] = [] := by simp [ordr, ordN]
          exact ⟨rfl, by rw [e0]; exact hb, ⟨rfl, rfl, rfl, Nat.le_refl _, fun _ _ _ => rfl⟩⟩
        · have hne : l ≠ [] := by obtain ⟨a, b, rfl⟩ := h0; simp
          have hpos := List.length_pos_iff.2 hne
          obtain ⟨b, o, rfl, hc⟩ := hs 0 l[0] (List.getElem?_eq_getElem hpos)
          have hbl : b < w.heap.size := World.block_lt_of_cell? _ _ hc
          exact sortF_any (w.heap.size + 1) w.heap.size b o cap l wr hb (hp.cell 0 rfl) hsr (by omega) (by omega) hl hne
      have HE : Hid (∀ w', wr.grownBy w' (some (w.heap.size + 1)) → Below w.heap.size w w') := fun w' h => hbr.trans ⟨h.os, h.tape, h.output, h.size, fun k hk => h.block k (by have := hbr.size; omega) (fun e => by cases e; omega)⟩
      clear hb hp hbr hs
      go_wp2_with (go_at_call 17; go_fit HS.out; rintro e w3 ⟨rfl, hb3, hg3⟩)
      go_ret
      exact ⟨_, rfl, by omega, hb3, HE.out _ hg3⟩
end Go.Proofs.Ytdeobmihkcfofaa
