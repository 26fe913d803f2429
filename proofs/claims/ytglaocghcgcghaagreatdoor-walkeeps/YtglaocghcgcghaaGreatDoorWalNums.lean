/-
  CONTRACT: the numbers of the segments on a disk (numbers).
-/
import Derived.Test.YtglaocghcgcghaaGreatDoorMany16
import Derived.Test.YtglaocghcgcghaaGreatDoorMany5
import Derived.Sort.OwnSortedInts
namespace Go.Proofs.YtglaocghcgcghaaGreatDoor
open Go.RowKit Go.Sort

theorem sort_ownI {w : World} {base cap : Nat} {ao : Option Addr} {l : List Int} (h : w.ownsRow base 3 1 (.slice ao l.length cap) l.length (vI l)) (hm : l.length ≤ 1000000) :
    Calls Tryz.prog 58 #[.slice ao l.length cap] w fun e w' => e = .returned (.tuple #[]) ∧ w'.ownsRow base 3 1 (.slice ao l.length cap) l.length (vI (l.mergeSort fun x y => decide (x ≤ y))) ∧ (∀ B, B ≤ base → B ≤ w.heap.size → Below B w w') := by
  rcases h.2 with ⟨h1, h0⟩ | ⟨g, cap', cur, hv, hbase, hb, h1, h2, h3, h4⟩
  · obtain rfl : l = [] := List.eq_nil_of_length_eq_zero h0
    injection h1 with e1 e2 e3
    subst e1 e3
    refine (Tryz.slices_Sort_int_none none 0 w).mono ?_
    rintro e w' ⟨rfl, rfl⟩
    refine ⟨rfl, ?_, fun B _ _ => Below.refl _ _⟩
    have : ([] : List Int).mergeSort (fun x y => decide (x ≤ y)) = [] := by simp
    rw [this]; exact World.ownsRow_nil _ _ _ _
  · cases hv
    have C := Tryz.slices_Sort_int g 0 cap l w (holds_of_blockI hb (by rw [Nat.mul_one] at h4; exact h4)) (Array.getElem?_eq_some_iff.1 hb).1 (by omega)
    refine C.mono ?_
    rintro e w' ⟨rfl, nn, os, rfl⟩
    refine ⟨rfl, ownsRow_sortedI (ss := l) (by simp) hbase hb h1 h2 h3, fun B hB1 hB2 => ?_⟩
    have hg := grownBy_sortedI (w := w) (g := g) (n := nn) (os := os) (l.mergeSort fun x y => decide (x ≤ y)).toArray
    exact ⟨hg.os, hg.tape, hg.output, hg.size, fun k hk => hg.block k (by omega) fun e => by cases e; omega⟩
theorem src_one_intW (w : World) (k : Int) : Src Tryz.prog 1 78 (.slice (some ⟨w.heap.size, 0, none⟩) 1 1) 1 [.int .i64 k] (w.alloc (.cells #[.int .i64 k] 3)) := by
  refine Src.ofSlice _ Tryz.underlying78 _ _ 1 _ rfl (fun j u hu => ?_) (fun u hu => by rw [List.mem_singleton.1 hu]; rfl)
  have hj : j = 0 := by have := (List.getElem?_eq_some_iff.1 hu).1; simp at this; exact this
  subst hj
  obtain rfl : Value.int .i64 k = u := by simpa using hu
  rw [Addr.add_lit]
  simp only [World.cell?, heap_alloc_new]
  rfl
/-- The number of a name, if it has one. -/
def numO (s : List UInt8) : Option Int := if (numR s).2 then some (numR s).1 else none
theorem fm_succ {L : List (List UInt8)} {i : Nat} {s : List UInt8} (h : L[i]? = some s) : (L.take (i + 1)).filterMap numO = (L.take i).filterMap numO ++ (numO s).toList := by
  rw [List.take_add_one, h, List.filterMap_append]
  congr 1
theorem fm_len (L : List (List UInt8)) (i : Nat) : ((L.take i).filterMap numO).length ≤ L.length := by
  have h1 := List.length_filterMap_le numO (L.take i)
  rw [List.length_take] at h1; omega
theorem listL_any {w0 : World} {d lb : Nat} {A : Ab} {n : Int} {w : World} (h : Lg w0 d lb A n w) (hon : A.on = true) (hl : A.sp.length ≤ 1000) :
    Calls Tryz.prog 19 #[.pointer (some ⟨d, 0, none⟩)] w fun e w' => ∃ (ao : Option Addr) (cap : Nat) (L : List (List UInt8)), e = .returned (.slice ao L.length cap) ∧ L.Perm (A.sp.map Sig.nm) ∧ L.Pairwise (fun a b => decide (a ≤ b) = true) ∧ (∀ i s, L[i]? = some s → ∃ b, ao = some ⟨b, 0, none⟩ ∧ w'.cell? ⟨b, i, none⟩ = some (.string (tB s))) ∧ Below w.heap.size w w' := by
  obtain ⟨ft, ⟨bm, fs, hD, hss, _⟩, _⟩ := h
  have hlen : fs.length = A.sp.length := by rw [← hss, List.length_map]
  refine (list_on hD hon (by show fs.length ≤ _; omega)).mono ?_
  rintro e w' ⟨v, ss, rfl, hp, ho, hb⟩
  have hsl : (ss.mergeSort (fun x y => decide (x ≤ y))).length = ss.length := List.length_mergeSort _
  have hnm : fs.map Ent.nm = A.sp.map Sig.nm := by rw [← hss, List.map_map]; rfl
  have hpp : (ss.mergeSort (fun x y => decide (x ≤ y))).Perm (A.sp.map Sig.nm) := (List.mergeSort_perm _ _).trans (by rw [← hnm]; exact hp)
  have hso : (ss.mergeSort (fun x y => decide (x ≤ y))).Pairwise (fun a b => decide (a ≤ b) = true) := List.pairwise_mergeSort (fun a b c h1 h2 => by simp only [decide_eq_true_eq] at *; exact List.le_trans h1 h2) (fun a b => by simp only [Bool.or_eq_true, decide_eq_true_eq]; exact List.le_total a b) _
  rw [← hsl] at ho
  generalize ss.mergeSort (fun x y => decide (x ≤ y)) = L at *
  rcases ho.2 with ⟨h1, h0⟩ | ⟨g, cap', cur, rfl, hbase, hbb, h1, h2, h3, h4⟩
  · subst h1
    exact ⟨none, 0, L, by rw [h0], hpp, hso, fun i s hi => by have := (List.getElem?_eq_some_iff.1 hi).1; omega, hb⟩
  · refine ⟨some ⟨g, 0, none⟩, cap', L, rfl, hpp, hso, fun i s hi => ⟨g, rfl, ?_⟩, hb⟩
    have hlt := (List.getElem?_eq_some_iff.1 hi).1
    rw [ho.cellAt i (by omega), List.getElem?_map, hi]; rfl
set_option maxRecDepth 100000 in
set_option maxHeartbeats 1000000 in
theorem numbersL_any {w0 : World} {d lb : Nat} {A : Ab} {n : Int} {w : World} (he : EnvW w0) (h : Lg w0 d lb A n w) (hon : A.on = true) (hl : A.sp.length ≤ 1000) (hsz : ∀ t ∈ A.sp, t.nm.length ≤ 1000) :
    Calls Tryz.prog 36 #[.pointer (some ⟨lb, 0, none⟩)] w fun e w' => ∃ (ao : Option Addr) (cap : Nat) (N : List Int), e = .returned (.slice ao N.length cap) ∧ ISees w' ao N ∧ (∀ a, ao = some a → w.heap.size ≤ a.block) ∧ N.Perm ((A.sp.map Sig.nm).filterMap numO) ∧ N.Pairwise (· ≤ ·) ∧ Below w.heap.size w w' := by
  obtain ⟨i1, hi1, hy0, hy1, hy2⟩ : ∃ i, Tryz.prog.info? 3 = some i ∧ i.zero = some (.int .i64 0) ∧ i.size = 1 ∧ i.bytes = 8 := by
    obtain ⟨i, hi, he⟩ := Option.map_eq_some_iff.1 infoInt
    exact ⟨i, hi, by injection he, by injection he with _ h2; injection h2, by injection he with _ h2; injection h2⟩
  have CL : Hid (Calls Tryz.prog 19 #[.pointer (some ⟨d, 0, none⟩)] w fun e w' => ∃ (ao : Option Addr) (cap : Nat) (L : List (List UInt8)), e = .returned (.slice ao L.length cap) ∧ L.Perm (A.sp.map Sig.nm) ∧ L.Pairwise (fun a b => decide (a ≤ b) = true) ∧ (∀ i s, L[i]? = some s → ∃ b, ao = some ⟨b, 0, none⟩ ∧ w'.cell? ⟨b, i, none⟩ = some (.string (tB s))) ∧ Below w.heap.size w w') := listL_any h hon hl
  have c0 := h.blk.cell 0 rfl
  have HBW : Hid (Below w0.heap.size w0 w) := h.bel
  have HE : Hid (∀ u, Below w.heap.size w u → EnvW u) := fun u hu => he.below (HBW.out.trans (hu.mono HBW.out.size)) (Nat.le_refl _)
  have HSZ : Hid (∀ L : List (List UInt8), L.Perm (A.sp.map Sig.nm) → L.length ≤ 1000 ∧ ∀ s ∈ L, s.length ≤ 1000) := fun L hp => by
    refine ⟨by rw [hp.length_eq, List.length_map]; exact hl, fun s hs => ?_⟩
    obtain ⟨t, ht, rfl⟩ := List.mem_map.1 (hp.subset hs)
    exact hsz t ht
  clear h he hon hl hsz
  go_enter Tryz.func36, Tryz.ntmps36
  go_wp2_with fail
  go_fit CL.out
  rintro e w1 ⟨ao, cap, L, rfl, hp, _, hcell, hB1⟩
  obtain ⟨hL, hLs⟩ := HSZ.out L hp
  have HCE : Hid (∀ i s, L[i]? = some s → ∃ b, ao = some ⟨b, 0, none⟩ ∧ w1.cell? ⟨b, i, none⟩ = some (.string (tB s))) := hcell
  have HPP : Hid (L.Perm (A.sp.map Sig.nm)) := hp
  have HLS : Hid (∀ s ∈ L, s.length ≤ 1000) := hLs
  have HB1 : Hid (Below w.heap.size w w1) := hB1
  have hLz : (L.length : Int) ≤ 1000 := by omega
  clear hp hcell hLs hB1 CL c0
  go_wp2_with fail
  go_loopw [3, 14] (fun s3 s14 wr => ∃ i : Nat, i ≤ L.length ∧ s14 = .int .i64 (i : Int) ∧ wr.ownsRow w1.heap.size 3 1 s3 ((L.take i).filterMap numO).length (vI ((L.take i).filterMap numO)) ∧ Below w1.heap.size w1 wr) (fun _ s14 _ => L.length - (intOf s14).toNat)
  case atStart => exact ⟨0, by omega, rfl, World.ownsRow_nil _ _ _ _, Below.refl _ _⟩
  case round =>
    obtain ⟨i, hi, rfl, hown, hbr⟩ := hrel
    have hfl := fm_len L i
    rcases Nat.lt_or_ge i L.length with hlt | hge
    · have hltz : (i : Int) < (L.length : Int) := by omega
      have hx : L[i]? = some L[i] := List.getElem?_eq_getElem hlt
      have hs := fm_succ hx
      have hsz := HLS.out L[i] (List.getElem_mem hlt)
      generalize L[i] = s at *
      obtain ⟨b, rfl, cb⟩ := HCE.out i s hx
      have c1 : wr.cell? ⟨b, i, none⟩ = some (.string (tB s)) := by rw [hbr.cell (World.block_lt_of_cell? _ _ cb)]; exact cb
      have CN : Hid (Calls Tryz.prog 61 #[.string (tB s)] wr fun x w' => x = .returned (.tuple #[.int .i64 (numR s).1, .bool (numR s).2]) ∧ Below wr.heap.size wr w') := by
        have := numberW_any (tB s) (by rw [tB_size]; omega) wr (HE.out wr (HB1.out.trans (hbr.mono HB1.out.size)))
        rw [tB_list] at this; exact this
      obtain ⟨⟨k, ok⟩, hnr⟩ : ∃ p, numR s = p := ⟨_, rfl⟩
      have hno : numO s = if ok then some k else none := by unfold numO; rw [hnr]
      rw [hnr] at CN
      have HBR : Hid (∀ u, RowKit.Below wr.heap.size wr u → RowKit.Below w1.heap.size w1 u) := fun u hu => hbr.trans (hu.mono hbr.size)
      have hbs : w1.heap.size ≤ wr.heap.size := hbr.size
      obtain ⟨a3, c3, rfl⟩ : ∃ a c, u3 = .slice a ((L.take i).filterMap numO).length c := by
        rcases hown.2 with ⟨rfl, h0⟩ | ⟨g, cap, cur, rfl, _⟩
        · exact ⟨_, _, by rw [h0]⟩
        · exact ⟨_, _, rfl⟩
      have HOW : Hid (∀ u, RowKit.Below wr.heap.size wr u → u.ownsRow w1.heap.size 3 1 (.slice a3 ((L.take i).filterMap numO).length c3) ((L.take i).filterMap numO).length (vI ((L.take i).filterMap numO))) := fun u hu => owns_carry hown fun g hg => hu.block g (hown.lt g hg).2
      have HLT : Hid (∀ g, (Value.slice a3 ((L.take i).filterMap numO).length c3).ownBlock = some g → w1.heap.size ≤ g) := fun g hg => (hown.lt g hg).1
      cases ok with
      | true =>
        have HS : Hid ((L.take (i + 1)).filterMap numO = (L.take i).filterMap numO ++ [k]) := by show _ = _; rw [hs, hno]; rfl
        clear hown hbr hs hno hnr hx cb hsz
        generalize (L.take i).filterMap numO = P at *
        go_wp2_with fail
        go_fit CN.out
        rintro e u1 ⟨rfl, hu1⟩
        have hsz1 : w1.heap.size ≤ u1.heap.size := Nat.le_trans hbs hu1.size
        have hou := HOW.out u1 hu1
        go_wp2_with (at_builtin; go_must (refine wpList_append_grew _ rfl _ _ 78 78 rfl w1.heap.size 3 i1 _ 1 8 Tryz.underlying78 hi1 hy0 hy1 hy2 rfl _ P.length (vI P) rfl (hou.alloc _) _ 1 [.int .i64 k] rfl (src_one_intW u1 k) (by unfold maxLen; omega) (by omega) (by rw [World.size_alloc]; omega) ?_; intro v3 w3 ho3 g3))
        have HN : Hid (w3.ownsRow w1.heap.size 3 1 v3 ((L.take (i + 1)).filterMap numO).length (vI ((L.take (i + 1)).filterMap numO)) ∧ RowKit.Below w1.heap.size w1 w3) := by
          rw [HS.out, List.length_append]
          refine ⟨?_, (HBR.out u1 hu1).trans (((RowKit.Below.refl _ _).alloc hsz1 _).trans (g3.below (by rw [World.size_alloc]; omega) HLT.out))⟩
          have e : vI (P ++ [k]) = vI P ++ [.int .i64 k] := by simp [vI]
          rw [e]; exact ho3
        clear ho3 g3 hou hu1
        go_roundw
        case rel => exact ⟨i + 1, by omega, by go_num, HN.out⟩
        case measure => (simp [intOf]; try omega)
      | false =>
        have HS : Hid ((L.take (i + 1)).filterMap numO = (L.take i).filterMap numO) := by show _ = _; rw [hs, hno]; simp
        clear hown hbr hs hno hnr hx cb hsz
        go_wp2_with fail
        go_fit CN.out
        rintro e u1 ⟨rfl, hu1⟩
        have HN : Hid (u1.ownsRow w1.heap.size 3 1 (.slice a3 ((L.take i).filterMap numO).length c3) ((L.take (i + 1)).filterMap numO).length (vI ((L.take (i + 1)).filterMap numO)) ∧ RowKit.Below w1.heap.size w1 u1) := by
          rw [HS.out]
          exact ⟨HOW.out u1 hu1, HBR.out u1 hu1⟩
        clear hu1
        go_wp2_with fail
        go_roundw
        case rel => exact ⟨i + 1, by omega, by go_num, HN.out⟩
        case measure => (simp [intOf]; try omega)
    · obtain rfl : i = L.length := by omega
      have hgez : ¬ (L.length : Int) < (L.length : Int) := by omega
      rw [List.take_length] at hown
      have hPl : (L.filterMap numO).length ≤ 1000000 := by have := List.length_filterMap_le numO L; omega
      obtain ⟨a3, c3, rfl⟩ : ∃ a c, u3 = .slice a (L.filterMap numO).length c := by
        rcases hown.2 with ⟨rfl, h0⟩ | ⟨g, cap, cur, rfl, _⟩
        · exact ⟨_, _, by rw [h0]⟩
        · exact ⟨_, _, rfl⟩
      have CS := sort_ownI hown hPl
      have HBR : Hid (RowKit.Below w1.heap.size w1 wr) := hbr
      have hperm : ((L.filterMap numO).mergeSort fun x y => decide (x ≤ y)).Perm ((A.sp.map Sig.nm).filterMap numO) := (List.mergeSort_perm _ _).trans (HPP.out.filterMap _)
      have hsort : ((L.filterMap numO).mergeSort fun x y => decide (x ≤ y)).Pairwise (· ≤ ·) := (List.pairwise_mergeSort (le := fun x y : Int => decide (x ≤ y)) (fun a b c h1 h2 => by simp at *; omega) (fun a b => by simp; omega) _).imp fun h => by simpa using h
      have hlen : ((L.filterMap numO).mergeSort fun x y => decide (x ≤ y)).length = (L.filterMap numO).length := List.length_mergeSort _
      have HQ : Hid (((L.filterMap numO).mergeSort fun x y => decide (x ≤ y)).Perm ((A.sp.map Sig.nm).filterMap numO) ∧ ((L.filterMap numO).mergeSort fun x y => decide (x ≤ y)).Pairwise (· ≤ ·) ∧ ((L.filterMap numO).mergeSort fun x y => decide (x ≤ y)).length = (L.filterMap numO).length) := ⟨hperm, hsort, hlen⟩
      clear hperm hsort hlen hown hbr hfl hge
      generalize (L.filterMap numO).mergeSort (fun x y => decide (x ≤ y)) = N at *
      generalize (L.filterMap numO).length = m at *
      go_wp2_with fail
      go_fit CS
      rintro e w3 ⟨rfl, ho3, hb3⟩
      have HF : Hid ((ISees w3 a3 N ∧ (∀ a, a3 = some a → w.heap.size ≤ a.block)) ∧ RowKit.Below w.heap.size w w3) := by
        obtain ⟨a', c', e', h'⟩ := owns_isees ho3
        obtain rfl : a3 = a' := by injection e'
        have hfr : ∀ a, a3 = some a → w.heap.size ≤ a.block := fun a e => by
          subst e
          have h1 : w1.heap.size ≤ a.block := (ho3.lt a.block rfl).1
          exact Nat.le_trans HB1.out.size h1
        exact ⟨⟨h', hfr⟩, HB1.out.trans ((HBR.out.trans (hb3 w1.heap.size (Nat.le_refl _) HBR.out.size)).mono HB1.out.size)⟩
      clear ho3 hb3
      go_wp2_with fail
      go_ret
      exact ⟨a3, c3, N, by rw [HQ.out.2.2]; rfl, HF.out.1.1, HF.out.1.2, HQ.out.1, HQ.out.2.1, HF.out.2⟩
end Go.Proofs.YtglaocghcgcghaaGreatDoor
