/-
  A RING IN MEMORY; rings that no call made. CONTRACTS: made, Copies, Points (with the library's Clone); Contains, the document's in.
-/
import Derived.Test.YtcnceipkoapcpaaDoorRngPlain
import Derived.Test.YtcnceipkoapcpaaDoorIntRow
import Derived.Test.YtcnceipkoapcpaaDoorBlk
import Derived.Test.YtcnceipkoapcpaaDoorRecs
import Derived.Test.YtcnceipkoapcpaaDoorSteps
namespace Go.Proofs.YtcnceipkoapcpaaDoor
open Go.RowKit

def ptV (p : Pt) : List Value := [.int .i64 p.tok, .int .i64 (p.nd : Int)]
theorem ptV_len (p : Pt) : (ptV p).length = 2 := rfl
theorem ptV_one (p : Pt) : ∀ u ∈ ptV p, u.oneCell' = true := by
  intro u hu
  simp only [ptV, List.mem_cons, List.not_mem_nil, or_false] at hu
  rcases hu with rfl | rfl <;> rfl
def ptsV (l : List Pt) : List Value := l.flatMap ptV
theorem ptsV_len (l : List Pt) : (ptsV l).length = l.length * 2 := flat_lenR ptV_len l
/-- Points in memory. -/
def PSees (w : World) (ao : Option Addr) (l : List Pt) : Prop := ∀ i p, l[i]? = some p → ∃ g, ao = some ⟨g, 0, none⟩ ∧ w.cell? ⟨g, i * 2, none⟩ = some (.int .i64 p.tok) ∧ w.cell? ⟨g, i * 2 + 1, none⟩ = some (.int .i64 (p.nd : Int))
theorem PSees.below {w w' : World} {ao : Option Addr} {l : List Pt} (h : PSees w ao l) {B : Nat} (hb : Below B w w') (hB : w.heap.size ≤ B) : PSees w' ao l := by
  intro i p hp
  obtain ⟨g, e, h1, h2⟩ := h i p hp
  have := World.block_lt_of_cell? _ _ h1
  exact ⟨g, e, by rw [hb.cell (show g < B from Nat.lt_of_lt_of_le this hB)]; exact h1, by rw [hb.cell (show g < B from Nat.lt_of_lt_of_le this hB)]; exact h2⟩
theorem PSees.of_owns {w : World} {base : Nat} {e : TypeId} {v : Value} {l : List Pt} {n : Nat} (h : w.ownsRow base e 2 v n (ptsV l)) : ∃ ao cap, v = .slice ao l.length cap ∧ l.length ≤ cap ∧ PSees w ao l ∧ (ao = none → l.length = 0) := by
  have hn : n = l.length := by
    have := h.1
    rw [ptsV_len] at this
    omega
  subst hn
  obtain ⟨ao, cap, rfl, hc, hr⟩ := owns_recs ptV_len (l := l) h
  refine ⟨ao, cap, rfl, hc, fun i p hp => ?_, fun he => ?_⟩
  · obtain ⟨g, e, _, hh⟩ := hr i p hp
    exact ⟨g, e, by have := hh 0 _ rfl; rwa [Nat.add_zero] at this, hh 1 _ rfl⟩
  · subst he
    rcases Nat.eq_zero_or_pos l.length with h0 | h0
    · exact h0
    · obtain ⟨g, e, _⟩ := hr 0 _ (List.getElem?_eq_getElem h0)
      cases e
/-- A ring (of the type t) in memory. -/
structure RgAt (w : World) (t : TypeId) (r : Nat) (l : List Pt) (c : Nat) : Prop where
  ex : ∃ g cap, Blk w r [.slice (some ⟨g, 0, none⟩) l.length cap, .int .i64 (c : Int)] t ∧ PSees w (some ⟨g, 0, none⟩) l
theorem RgAt.below {w w' : World} {t : TypeId} {r : Nat} {l : List Pt} {c : Nat} (h : RgAt w t r l c) {B : Nat} (hb : Below B w w') (hB : w.heap.size ≤ B) : RgAt w' t r l c := by
  obtain ⟨g, cap, h1, h2⟩ := h.ex
  exact ⟨g, cap, h1.carry (hb.block r (Nat.lt_of_lt_of_le h1.lt hB)), h2.below hb hB⟩
theorem RgAt.to {w w' : World} {t : TypeId} {r : Nat} {l : List Pt} {c : Nat} (h : RgAt w t r l c) (hb : Below w.heap.size w w') : RgAt w' t r l c := h.below hb (Nat.le_refl _)
/-- A ring that no call made. -/
def NoRg (w : World) (p : Option Addr) : Prop := p = none ∨ ∃ r, p = some ⟨r, 0, none⟩ ∧ Blk w r [.slice none 0 0, .int .i64 0] 48
theorem NoRg.to {w w' : World} {p : Option Addr} (h : NoRg w p) (hb : Below w.heap.size w w') : NoRg w' p := by
  rcases h with h | ⟨r, h1, h2⟩
  · exact .inl h
  · exact .inr ⟨r, h1, h2.carry (hb.block r h2.lt)⟩
set_option maxRecDepth 100000 in
theorem madeR_at {w : World} {r : Nat} {l : List Pt} {c : Nat} (h : RgAt w 48 r l c) (hc : 1 ≤ c) : Calls Tryd.prog 29 #[.pointer (some ⟨r, 0, none⟩)] w fun e w' => e = .returned (.bool true) ∧ w' = w := by
  obtain ⟨g, cap, h1, h2⟩ := h.ex
  have c1 := h1.cell 1 rfl
  have hcz : (0 : Int) < (c : Int) := by omega
  clear h h1 h2
  go_enter Tryd.func29, Tryd.ntmps29
  go_wp2_with fail
  go_ret
  exact ⟨ret_bool (decide_eq_true (by omega)), rfl⟩
set_option maxRecDepth 100000 in
theorem madeR_no {w : World} {p : Option Addr} (h : NoRg w p) : Calls Tryd.prog 29 #[.pointer p] w fun e w' => e = .returned (.bool false) ∧ w' = w := by
  rcases h with rfl | ⟨r, rfl, h1⟩
  · go_enter Tryd.func29, Tryd.ntmps29
    go_wp2_with fail
    go_ret
    exact ⟨rfl, rfl⟩
  · have c1 := h1.cell 1 rfl
    clear h1
    go_enter Tryd.func29, Tryd.ntmps29
    go_wp2_with fail
    go_ret
    exact ⟨rfl, rfl⟩
set_option maxRecDepth 100000 in
theorem copiesR_at {w : World} {r : Nat} {l : List Pt} {c : Nat} (h : RgAt w 48 r l c) (hc : 1 ≤ c) : Calls Tryd.prog 12 #[.pointer (some ⟨r, 0, none⟩)] w fun e w' => e = .returned (.int .i64 (c : Int)) ∧ w' = w := by
  have M : Hid (Calls Tryd.prog 29 #[.pointer (some ⟨r, 0, none⟩)] w fun e w' => e = .returned (.bool true) ∧ w' = w) := madeR_at h hc
  obtain ⟨g, cap, h1, h2⟩ := h.ex
  have c1 := h1.cell 1 rfl
  clear h h1 h2
  go_enter Tryd.func12, Tryd.ntmps12
  go_wp2_with (go_at_call 29; refine M.out.mono ?_; rintro e w1 ⟨rfl, rfl⟩)
  go_ret
  exact ⟨rfl, rfl⟩
set_option maxRecDepth 100000 in
theorem copiesR_no {w : World} {p : Option Addr} (h : NoRg w p) : Calls Tryd.prog 12 #[.pointer p] w fun e w' => e = .returned (.int .i64 0) ∧ w' = w := by
  have M : Hid (Calls Tryd.prog 29 #[.pointer p] w fun e w' => e = .returned (.bool false) ∧ w' = w) := madeR_no h
  clear h
  go_enter Tryd.func12, Tryd.ntmps12
  go_wp2_with (go_at_call 29; refine M.out.mono ?_; rintro e w1 ⟨rfl, rfl⟩)
  go_ret
  exact ⟨rfl, rfl⟩
theorem infoXR {t : TypeId} {z : Value} {k b : Nat} (h : (Tryd.prog.info? t).map (fun i => (i.zero, i.size, i.bytes)) = some (some z, k, b)) : ∃ i, Tryd.prog.info? t = some i ∧ i.zero = some z ∧ i.size = k ∧ i.bytes = b := by
  cases hi : Tryd.prog.info? t with
  | none => rw [hi] at h; cases h
  | some i =>
    rw [hi] at h
    simp only [Option.map_some, Option.some.injEq, Prod.mk.injEq] at h
    exact ⟨i, rfl, h.1, h.2.1, h.2.2⟩
theorem infoPt : (Tryd.prog.info? 40).map (fun i => (i.zero, i.size, i.bytes)) = some (some (.agg #[.int .i64 0, .int .i64 0]), 2, 16) := by kernel_rfl
theorem notNilP (a : Addr) (n cap : Nat) (w : World) : (binOp BinOp.eql 29 (.slice (some a) n cap) (.slice none 0 0)).run Tryd.prog w = .ok (.bool false) w := by kernel_rfl
theorem owns_noneP (w : World) (base : Nat) (hb : base ≤ w.heap.size) : (w.alloc (.cells #[] 40)).ownsRow base 40 2 (.slice (some ⟨w.heap.size, 0, none⟩) 0 0) 0 [] :=
  ⟨rfl, .inr ⟨w.heap.size, 0, #[], rfl, hb, heap_alloc_new w _, Nat.le_refl _, Nat.zero_le _, rfl, rfl⟩⟩
theorem src_pts {w : World} {g : Nat} {l : List Pt} (h : PSees w (some ⟨g, 0, none⟩) l) (cap : Nat) : Src Tryd.prog 2 29 (.slice (some ⟨g, 0, none⟩) l.length cap) l.length (ptsV l) w := by
  refine Src.ofSlice w Tryd.underlying29 _ _ cap _ (by rw [ptsV_len]) (fun j u hu => ?_) (flat_one ptV_one l)
  have hj : j < l.length * 2 := by have := (List.getElem?_eq_some_iff.1 hu).1; rwa [ptsV_len] at this
  have hi : j / 2 < l.length := by omega
  have hx : l[j / 2]? = some l[j / 2] := List.getElem?_eq_getElem hi
  obtain ⟨g', e, h1, h2⟩ := h _ _ hx
  cases e
  rw [Addr.add_lit, Nat.zero_add]
  rcases Nat.mod_two_eq_zero_or_one j with h0 | h0
  · have ej : j / 2 * 2 = j := by omega
    rw [ej] at h1
    have := flat_at ptV_len l (j / 2) 0 _ _ hx rfl
    rw [Nat.add_zero, ej] at this
    rw [ptsV, this] at hu
    obtain rfl := Option.some.inj hu
    exact h1
  · have ej : j / 2 * 2 + 1 = j := by omega
    rw [ej] at h2
    have := flat_at ptV_len l (j / 2) 1 _ _ hx rfl
    rw [ej] at this
    rw [ptsV, this] at hu
    obtain rfl := Option.some.inj hu
    exact h2
set_option maxRecDepth 100000 in
set_option maxHeartbeats 1000000 in
theorem cloneP_any (g : Nat) (l : List Pt) (cap : Nat) (w : World) (hs : PSees w (some ⟨g, 0, none⟩) l) (hl : l.length ≤ 1000000) :
    Calls Tryd.prog 30 #[.slice (some ⟨g, 0, none⟩) l.length cap] w fun e w' => ∃ v, e = .returned v ∧ w'.ownsRow w.heap.size 40 2 v l.length (ptsV l) ∧ Below w.heap.size w w' := by
  obtain ⟨i1, hi1, hy0, hy1, hy2⟩ := infoXR infoPt
  have hlz : (l.length : Int) ≤ 1000000 := by omega
  have hq := notNilP ⟨g, 0, none⟩ l.length cap w
  have hbe : Below w.heap.size w (w.alloc (.cells #[] 40)) := (Below.refl _ _).alloc (Nat.le_refl _) _
  have hs2 := hs.below hbe (Nat.le_refl _)
  go_enter Tryd.func30, Tryd.ntmps30
  go_wp2_with (at_builtin; go_must (refine wpList_append_grew _ rfl _ _ 29 29 rfl w.heap.size 40 i1 _ 2 16 Tryd.underlying29 hi1 hy0 hy1 hy2 rfl _ 0 [] rfl (owns_noneP w w.heap.size (Nat.le_refl _)) _ l.length (ptsV l) rfl (src_pts hs2 cap) (by unfold maxLen; omega) (by omega) (by rw [World.size_alloc]; omega) ?_; intro v2 w2 ho2 hg2; simp only [Nat.zero_add, List.nil_append] at ho2))
  go_ret
  refine ⟨_, rfl, ho2, hbe.trans (hg2.below (by rw [World.size_alloc]; omega) (fun g hg => ?_))⟩
  obtain rfl := Option.some.inj hg
  exact Nat.le_refl _
set_option maxRecDepth 100000 in
theorem pointsR_at {w : World} {r : Nat} {l : List Pt} {c : Nat} (h : RgAt w 48 r l c) (hc : 1 ≤ c) (hl : l.length ≤ 40) : Calls Tryd.prog 11 #[.pointer (some ⟨r, 0, none⟩)] w fun e w' => ∃ ao cap, e = .returned (.slice ao l.length cap) ∧ PSees w' ao l ∧ Below w.heap.size w w' := by
  have M : Hid (Calls Tryd.prog 29 #[.pointer (some ⟨r, 0, none⟩)] w fun e w' => e = .returned (.bool true) ∧ w' = w) := madeR_at h hc
  obtain ⟨g, cap, h1, h2⟩ := h.ex
  have CL : Hid (Calls Tryd.prog 30 #[.slice (some ⟨g, 0, none⟩) l.length cap] w fun e w' => ∃ ao cap, e = .returned (.slice ao l.length cap) ∧ PSees w' ao l ∧ Below w.heap.size w w') :=
    (cloneP_any g l cap w h2 (by omega)).mono fun e w' ⟨v, he, ho, hb⟩ => by
      obtain ⟨ao, cap2, rfl, _, hs, _⟩ := PSees.of_owns ho
      exact ⟨ao, cap2, he, hs, hb⟩
  have c0 := h1.cell 0 rfl
  clear h h1 h2
  go_enter Tryd.func11, Tryd.ntmps11
  go_wp2_with (first | (go_at_call 29; refine M.out.mono ?_; rintro e w1 ⟨rfl, rfl⟩) | (go_at_call 30; refine CL.out.mono ?_; rintro e w1 ⟨ao, cap2, rfl, hs, hb⟩))
  go_ret
  exact ⟨_, _, rfl, hs, hb⟩
set_option maxRecDepth 100000 in
theorem pointsR_no {w : World} {p : Option Addr} (h : NoRg w p) : Calls Tryd.prog 11 #[.pointer p] w fun e w' => e = .returned (.slice none 0 0) ∧ w' = w := by
  have M : Hid (Calls Tryd.prog 29 #[.pointer p] w fun e w' => e = .returned (.bool false) ∧ w' = w) := madeR_no h
  clear h
  go_enter Tryd.func11, Tryd.ntmps11
  go_wp2_with (go_at_call 29; refine M.out.mono ?_; rintro e w1 ⟨rfl, rfl⟩)
  go_ret
  exact ⟨rfl, rfl⟩
set_option maxRecDepth 100000 in
set_option maxHeartbeats 1000000 in
/-- Where a number stands first. -/
theorem indexI_any (ao : Option Addr) (l : List Int) (cap : Nat) (x : Int) (w : World) (h : ISees w ao l) (hl : l.length ≤ 1000000) :
    Calls Tryd.prog 42 #[.slice ao l.length cap, .int .i64 x] w fun e w' => (∃ k : Int, e = .returned (.int .i64 k) ∧ (0 ≤ k ↔ x ∈ l)) ∧ w' = w := by
  have hlz : (l.length : Int) ≤ 1000000 := by omega
  go_enter Tryd.func42, Tryd.ntmps42
  go_wp2_with fail
  go_loopw [8] (fun s8 wr => ∃ i : Nat, i ≤ l.length ∧ s8 = .int .i64 i ∧ x ∉ l.take i ∧ wr = w) (fun s8 _ => l.length - (intOf s8).toNat)
  case atStart => exact ⟨0, by omega, rfl, by simp, rfl⟩
  case round =>
    obtain ⟨i, hi, rfl, hno, rfl⟩ := hrel
    rcases Nat.lt_or_ge i l.length with hlt | hge
    · have hc : l[i]? = some l[i] := List.getElem?_eq_getElem hlt
      have HN : Hid (¬ x = l[i] → x ∉ l.take (i + 1)) := fun h1 => by
        rw [List.take_add_one, hc]
        simp only [Option.toList_some, List.mem_append, List.mem_singleton, not_or]
        exact ⟨hno, h1⟩
      have HY : Hid (x = l[i] → x ∈ l) := fun h1 => h1 ▸ List.getElem_mem hlt
      obtain ⟨b, off, rfl, cx⟩ := h i _ hc
      generalize l[i] = y at *
      have hltz : (i : Int) < (l.length : Int) := by omega
      clear h hc hno
      by_cases hxy : x = y
      · have HM : Hid (x ∈ l) := HY.out hxy
        clear HN HY
        subst hxy
        go_wp2_with fail
        go_ret
        exact ⟨⟨_, rfl, ⟨fun _ => HM.out, fun _ => by omega⟩⟩, rfl⟩
      · have HM : Hid (x ∉ l.take (i + 1)) := HN.out hxy
        clear HN HY
        go_wp2_with fail
        go_roundw
        case rel => exact ⟨i + 1, by omega, by go_num, HM.out, by first | rfl | trivial⟩
        case measure => (simp [intOf]; try omega)
    · have hgez : ¬ (i : Int) < (l.length : Int) := by omega
      have HM : Hid (x ∉ l) := by rwa [List.take_of_length_le hge] at hno
      clear h hno
      go_wp2_with fail
      go_ret
      exact ⟨⟨_, rfl, ⟨fun h => by omega, fun h => absurd h HM.out⟩⟩, rfl⟩
set_option maxRecDepth 100000 in
theorem containsI_any (ao : Option Addr) (l : List Int) (cap : Nat) (x : Int) (w : World) (h : ISees w ao l) (hl : l.length ≤ 1000000) :
    Calls Tryd.prog 34 #[.slice ao l.length cap, .int .i64 x] w fun e w' => e = .returned (.bool (decide (x ∈ l))) ∧ w' = w := by
  have C : Hid (Calls Tryd.prog 42 #[.slice ao l.length cap, .int .i64 x] w fun e w' => (∃ k : Int, e = .returned (.int .i64 k) ∧ (0 ≤ k ↔ x ∈ l)) ∧ w' = w) := indexI_any ao l cap x w h hl
  clear h
  go_enter Tryd.func34, Tryd.ntmps34
  go_wp2_with (go_at_call 42; refine C.out.mono ?_; rintro e w1 ⟨⟨k, rfl, hk⟩, rfl⟩)
  go_ret
  exact ⟨by first | rfl | exact ret_bool (decide_eq_decide.2 hk), rfl⟩
set_option maxRecDepth 100000 in
set_option maxHeartbeats 1000000 in
theorem in15_any (ao : Option Addr) (l : List Int) (cap : Nat) (x : Int) (w : World) (h : ISees w ao l) (hl : l.length ≤ 1000000) :
    Calls Tryd.prog 33 #[.slice ao l.length cap, .int .i64 x] w fun e w' => e = .returned (.bool (decide (x ∈ l))) ∧ w' = w := by
  have hlz : (l.length : Int) ≤ 1000000 := by omega
  go_enter Tryd.func33, Tryd.ntmps33
  go_wp2_with fail
  go_loopw [9] (fun s9 wr => ∃ i : Nat, i ≤ l.length ∧ s9 = .int .i64 i ∧ x ∉ l.take i ∧ wr = w) (fun s9 _ => l.length - (intOf s9).toNat)
  case atStart => exact ⟨0, by omega, rfl, by simp, rfl⟩
  case round =>
    obtain ⟨i, hi, rfl, hno, rfl⟩ := hrel
    rcases Nat.lt_or_ge i l.length with hlt | hge
    · have hc : l[i]? = some l[i] := List.getElem?_eq_getElem hlt
      have HN : Hid (¬ l[i] = x → x ∉ l.take (i + 1)) := fun h1 => by
        rw [List.take_add_one, hc]
        simp only [Option.toList_some, List.mem_append, List.mem_singleton, not_or]
        exact ⟨hno, fun e => h1 e.symm⟩
      have HY : Hid (l[i] = x → decide (x ∈ l) = true) := fun h1 => decide_eq_true (h1 ▸ List.getElem_mem hlt)
      obtain ⟨b, off, rfl, cx⟩ := h i _ hc
      generalize l[i] = y at *
      have hltz : (i : Int) < (l.length : Int) := by omega
      clear h hc hno
      by_cases hxy : y = x
      · have HM : Hid (decide (x ∈ l) = true) := HY.out hxy
        clear HN HY
        subst hxy
        go_wp2_with fail
        go_ret
        exact ⟨by rw [HM.out]; rfl, rfl⟩
      · have HM : Hid (x ∉ l.take (i + 1)) := HN.out hxy
        clear HN HY
        go_wp2_with fail
        go_roundw
        case rel => exact ⟨i + 1, by omega, by go_num, HM.out, by first | rfl | trivial⟩
        case measure => (simp [intOf]; try omega)
    · have hgez : ¬ (i : Int) < (l.length : Int) := by omega
      have HM : Hid (decide (x ∈ l) = false) := by
        rw [List.take_of_length_le hge] at hno
        exact decide_eq_false hno
      clear h hno
      go_wp2_with fail
      go_ret
      exact ⟨by rw [HM.out]; rfl, rfl⟩
end Go.Proofs.YtcnceipkoapcpaaDoor
