/-
  CONTRACT: an empty skip list (New).
-/
import Derived.Test.YtlhojbgpmjcjlaaSkNew
namespace Go.Proofs.Ytlhojbgpmjcjlaa
open Go.RowKit

/-- What New lays: the head, the list. -/
theorem new_laid {w wr : World} {g cap : Nat} {L : List Int} (hL : L ≠ []) (hB : Below w.heap.size w wr) (hg : w.heap.size ≤ g) (ho : wr.ownsRow w.heap.size 3 1 (.slice (some ⟨g, 0, none⟩) L.length cap) L.length (vI (L.map (fun x => (clmp x : Int))))) :
    SkAt ((wr.alloc (.cells #[.string ⟨#[]⟩, .string ⟨#[]⟩, .int .i64 0, .string ⟨#[]⟩, .int .i64 0, .bool false, .int .i64 0, .int .i64 0, .int .i64 0, .string ⟨#[]⟩, .int .i64 0, .pointer none, .pointer none, .pointer none, .pointer none, .pointer none, .pointer none, .pointer none, .pointer none] 72)).alloc (.cells #[.pointer (some ⟨wr.heap.size, 0, none⟩), .slice (some ⟨g, 0, none⟩) L.length cap, .int .i64 0] 63)) ⟨wr.heap.size + 1, wr.heap.size, g, cap⟩ (L.map clmp) [] ∧
    Below w.heap.size w ((wr.alloc (.cells #[.string ⟨#[]⟩, .string ⟨#[]⟩, .int .i64 0, .string ⟨#[]⟩, .int .i64 0, .bool false, .int .i64 0, .int .i64 0, .int .i64 0, .string ⟨#[]⟩, .int .i64 0, .pointer none, .pointer none, .pointer none, .pointer none, .pointer none, .pointer none, .pointer none, .pointer none] 72)).alloc (.cells #[.pointer (some ⟨wr.heap.size, 0, none⟩), .slice (some ⟨g, 0, none⟩) L.length cap, .int .i64 0] 63)) ∧ ∀ b ∈ g :: SkId.ft ⟨wr.heap.size + 1, wr.heap.size, g, cap⟩ [], w.heap.size ≤ b := by
  have hsz := hB.size
  have hglt := (ho.lt g rfl).2
  have h1 : Blk (wr.alloc (.cells (twL noX 0 (lnk 8 [])).toArray 72)) wr.heap.size (twL noX 0 (lnk 8 [])) 72 := Blk.new wr _ _
  have h2 := Blk.new (wr.alloc (.cells (twL noX 0 (lnk 8 [])).toArray 72)) [.pointer (some ⟨wr.heap.size, 0, none⟩), .slice (some ⟨g, 0, none⟩) L.length cap, .int .i64 0] 63
  rw [World.size_alloc] at h2
  refine ⟨⟨by rw [List.length_map]; exact h2, fun i x hx => ?_, ⟨h1.alloc _, trivial, by simp⟩, by simp [SkId.ft], by simp only [SkId.ft, List.map_nil, List.mem_cons, List.not_mem_nil, or_false]; omega, (fun t ht => by cases ht), by simp, by simpa using hL, (fun x hx => by obtain ⟨y, _, rfl⟩ := List.mem_map.1 hx; exact clmp_in y), by simp⟩, (hB.alloc hB.size _).alloc (by rw [World.size_alloc]; omega) _, fun b hb => ?_⟩
  · have hx2 : (L.map (fun x => (clmp x : Int)))[i]? = some (x : Int) := by
      rw [List.getElem?_map] at hx ⊢
      cases hh : L[i]? with
      | none => rw [hh] at hx; cases hx
      | some y => rw [hh] at hx; obtain rfl := Option.some.inj hx; rfl
    have hc := ho.cells (g := g) rfl i _ (vI_at hx2)
    rw [Addr.add_lit, Nat.zero_add] at hc
    have hb : Below wr.heap.size wr ((wr.alloc (.cells (twL noX 0 (lnk 8 [])).toArray 72)).alloc (.cells #[.pointer (some ⟨wr.heap.size, 0, none⟩), .slice (some ⟨g, 0, none⟩) L.length cap, .int .i64 0] 63)) := ((Below.refl _ _).alloc (Nat.le_refl _) _).alloc (by simp) _
    rw [← hc]; exact hb.cell (p := ⟨g, i, none⟩) hglt
  · simp only [SkId.ft, List.map_nil, List.mem_cons, List.not_mem_nil, or_false] at hb
    omega
set_option maxRecDepth 100000 in
set_option maxHeartbeats 2000000 in
theorem new_any (ao : Option Addr) (l : List Int) (cap : Nat) (w : World) (hs : ISees w ao l) (hn : ao = none → l.length = 0) (hl : l.length ≤ 1000000) :
    Calls Try.prog 9 #[.slice ao l.length cap] w fun e w' => ∃ S : SkId, e = .returned (.pointer (some ⟨S.l, 0, none⟩)) ∧ SkAt w' S (lvls l) [] ∧ Below w.heap.size w w' ∧ ∀ b ∈ S.gh :: S.ft [], w.heap.size ≤ b := by
  have hlz : (l.length : Int) ≤ 1000000 := by omega
  by_cases hl0 : l = []
  · subst hl0
    simp only [List.length_nil] at *
    have HB1 : Hid (Below w.heap.size w (w.alloc (.cells #[.int .i64 1] 3))) := (Below.refl _ _).alloc (Nat.le_refl _) _
    have HGG : Hid (w.heap.size ≤ w.heap.size) := Nat.le_refl _
    have HO : Hid ((w.alloc (.cells #[.int .i64 1] 3)).ownsRow w.heap.size 3 1 (.slice (some ⟨w.heap.size, 0, none⟩) ([1] : List Int).length 1) ([1] : List Int).length (vI [1])) := ⟨rfl, .inr ⟨w.heap.size, 1, #[.int .i64 1], rfl, Nat.le_refl _, heap_alloc_new w _, Nat.le_refl _, (by decide), rfl, rfl⟩⟩
    have HE : Hid (lvls [] = ([1] : List Int).map clmp) := rfl
    clear hs hn
    go_enter Try.func9, Try.ntmps9
    go_wp2_with fail
    go_loopw [14] (fun s14 wr => ∃ i : Nat, i ≤ (([1] : List Int)).length ∧ s14 = .int .i64 i ∧ wr.ownsRow w.heap.size 3 1 (.slice (some ⟨w.heap.size, 0, none⟩) (([1] : List Int)).length 1) (([1] : List Int)).length (vI (brought ([1] : List Int) i)) ∧ Below w.heap.size w wr ∧ w.heap.size ≤ w.heap.size) (fun s14 _ => (([1] : List Int)).length - (intOf s14).toNat)
    case atStart => exact ⟨0, by omega, rfl, by rw [show brought ([1] : List Int) 0 = ([1] : List Int) by simp [brought]]; exact HO.out, HB1.out, HGG.out⟩
    case round =>
      obtain ⟨i, hi, rfl, ho, hbr, hgg⟩ := hrel
      clear HO HB1 HGG
      rcases Nat.lt_or_ge i (([1] : List Int)).length with hlt | hge
      · have hc : (([1] : List Int))[i]? = some (([1] : List Int))[i] := List.getElem?_eq_getElem hlt
        have hlt2 := brought_at hc
        have hst := brought_step hc
        generalize (([1] : List Int))[i] = x at *
        have hcell : wr.cell? ⟨w.heap.size, i, none⟩ = some (.int .i64 x) := by
          have := ho.cells (g := w.heap.size) rfl i _ (vI_at hlt2)
          rw [Addr.add_lit, Nat.zero_add] at this; exact this
        have hfz := ho.frozenAt i
        have hs2 := ho.stored i (.int .i64 (clmp x : Int))
        rw [vI_set, hst] at hs2
        obtain ⟨y, hy⟩ : ∃ y, y = (clmp x : Int) := ⟨_, rfl⟩
        rw [← hy] at hs2
        have hmm : min (max x 1) 8 = y := by rw [hy]; exact (clmp_eq x).symm
        have HS : Hid ((wr.setCell ⟨w.heap.size, i, none⟩ (.int .i64 y)).ownsRow w.heap.size 3 1 (.slice (some ⟨w.heap.size, 0, none⟩) (([1] : List Int)).length 1) (([1] : List Int)).length (vI (brought ([1] : List Int) (i + 1))) ∧ Below w.heap.size w (wr.setCell ⟨w.heap.size, i, none⟩ (.int .i64 y))) := ⟨hs2.1, hbr.setCell (p := ⟨w.heap.size, i, none⟩) hgg _⟩
        have hltz : (i : Int) < (1 : Int) := by have : i < 1 := hlt; omega
        clear ho hbr hs2 hst hlt2 hc hy
        go_wp2_with fail
        go_roundw
        case rel => exact ⟨i + 1, by omega, by go_num, HS.out.1, HS.out.2, hgg⟩
        case measure => (simp [intOf]; try omega)
      · obtain rfl : i = (([1] : List Int)).length := by omega
        have hgez : ¬ ((1 : Nat) : Int) < (1 : Int) := by omega
        rw [brought_all] at ho
        have HF : Hid _ := new_laid (L := ([1] : List Int)) (by simp) hbr hgg ho
        have HF : Hid (SkAt _ _ _ _ ∧ _) := HF.out
        clear ho
        go_wp2_with fail
        go_ret
        exact ⟨⟨wr.heap.size + 1, wr.heap.size, w.heap.size, 1⟩, rfl, by rw [HE.out]; exact HF.out.1, HF.out.2.1, by simpa using HF.out.2.2⟩
  · obtain ⟨a, rfl⟩ : ∃ a, ao = some a := by
      cases ao with
      | none => exact absurd (List.eq_nil_of_length_eq_zero (hn rfl)) hl0
      | some a => exact ⟨a, rfl⟩
    have hpos : (0 : Int) < (l.length : Int) := by have := List.length_pos_iff.2 hl0; omega
    have hbe : Below w.heap.size w (w.alloc (.cells #[.int .i64 1] 3)) := (Below.refl _ _).alloc (Nat.le_refl _) _
    have C : Hid (Calls Try.prog 25 #[.slice (some a) l.length cap] (w.alloc (.cells #[.int .i64 1] 3)) fun e w' => ∃ v, e = .returned v ∧ w'.ownsRow (w.alloc (.cells #[.int .i64 1] 3)).heap.size 3 1 v l.length (vI l) ∧ Below (w.alloc (.cells #[.int .i64 1] 3)).heap.size (w.alloc (.cells #[.int .i64 1] 3)) w') := cloneI_any a l cap _ (hs.below hbe (Nat.le_refl _)) hl
    have HL0 : Hid (l ≠ []) := hl0
    have HBE : Hid (Below w.heap.size w (w.alloc (.cells #[.int .i64 1] 3))) := hbe
    have HE : Hid (lvls l = l.map clmp) := if_neg hl0
    clear hs hn hl0 hbe
    go_enter Try.func9, Try.ntmps9
    go_wp2_with fail
    refine C.out.mono ?_
    rintro e w1 ⟨v, rfl, ho1, hb1⟩
    have HB1 : Hid (Below w.heap.size w w1) := HBE.out.trans (hb1.mono HBE.out.size)
    rcases ho1.2 with ⟨_, h0⟩ | ⟨g, cap', cur, hv, hgb, _⟩
    · have := HL0.out; exact absurd (List.eq_nil_of_length_eq_zero h0) this
    subst hv
    have HGG : Hid (w.heap.size ≤ g) := by rw [World.size_alloc] at hgb; exact Nat.le_trans (Nat.le_succ _) hgb
    have HO : Hid (w1.ownsRow w.heap.size 3 1 (.slice (some ⟨g, 0, none⟩) l.length cap') l.length (vI l)) := by
      refine ⟨ho1.1, ?_⟩
      rcases ho1.2 with hh | ⟨g', c', cur', e1, e2, e3⟩
      · exact .inl hh
      · exact .inr ⟨g', c', cur', e1, Nat.le_trans HBE.out.size e2, e3⟩
    clear ho1 hb1 C hgb
    go_wp2_with fail
    go_loopw [14] (fun s14 wr => ∃ i : Nat, i ≤ (l).length ∧ s14 = .int .i64 i ∧ wr.ownsRow w.heap.size 3 1 (.slice (some ⟨g, 0, none⟩) (l).length cap') (l).length (vI (brought l i)) ∧ Below w.heap.size w wr ∧ w.heap.size ≤ g) (fun s14 _ => (l).length - (intOf s14).toNat)
    case atStart => exact ⟨0, by omega, rfl, by rw [show brought l 0 = l by simp [brought]]; exact HO.out, HB1.out, HGG.out⟩
    case round =>
      obtain ⟨i, hi, rfl, ho, hbr, hgg⟩ := hrel
      clear HO HB1 HGG
      rcases Nat.lt_or_ge i (l).length with hlt | hge
      · have hc : (l)[i]? = some (l)[i] := List.getElem?_eq_getElem hlt
        have hlt2 := brought_at hc
        have hst := brought_step hc
        generalize (l)[i] = x at *
        have hcell : wr.cell? ⟨g, i, none⟩ = some (.int .i64 x) := by
          have := ho.cells (g := g) rfl i _ (vI_at hlt2)
          rw [Addr.add_lit, Nat.zero_add] at this; exact this
        have hfz := ho.frozenAt i
        have hs2 := ho.stored i (.int .i64 (clmp x : Int))
        rw [vI_set, hst] at hs2
        obtain ⟨y, hy⟩ : ∃ y, y = (clmp x : Int) := ⟨_, rfl⟩
        rw [← hy] at hs2
        have hmm : min (max x 1) 8 = y := by rw [hy]; exact (clmp_eq x).symm
        have HS : Hid ((wr.setCell ⟨g, i, none⟩ (.int .i64 y)).ownsRow w.heap.size 3 1 (.slice (some ⟨g, 0, none⟩) (l).length cap') (l).length (vI (brought l (i + 1))) ∧ Below w.heap.size w (wr.setCell ⟨g, i, none⟩ (.int .i64 y))) := ⟨hs2.1, hbr.setCell (p := ⟨g, i, none⟩) hgg _⟩
        have hltz : (i : Int) < (l.length : Int) := by have : i < l.length := hlt; omega
        clear ho hbr hs2 hst hlt2 hc hy
        go_wp2_with fail
        go_roundw
        case rel => exact ⟨i + 1, by omega, by go_num, HS.out.1, HS.out.2, hgg⟩
        case measure => (simp [intOf]; try omega)
      · obtain rfl : i = (l).length := by omega
        have hgez : ¬ ((l.length : Nat) : Int) < (l.length : Int) := by omega
        rw [brought_all] at ho
        have HF : Hid _ := new_laid (L := l) HL0.out hbr hgg ho
        have HF : Hid (SkAt _ _ _ _ ∧ _) := HF.out
        clear ho
        go_wp2_with fail
        go_ret
        exact ⟨⟨wr.heap.size + 1, wr.heap.size, g, cap'⟩, rfl, by rw [HE.out]; exact HF.out.1, HF.out.2.1, by simpa using HF.out.2.2⟩
end Go.Proofs.Ytlhojbgpmjcjlaa
