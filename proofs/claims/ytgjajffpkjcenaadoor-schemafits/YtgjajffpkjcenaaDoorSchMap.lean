/-
  CONTRACTS: where each name stands first (firstPlaces, has).
-/
import Derived.Test.YtgjajffpkjcenaaDoorSchCol
namespace Go.Proofs.YtgjajffpkjcenaaDoor
open Go.RowKit Go.Maps Go.WideMaps

/-- A map that says where each of these stands first. -/
structure FP (D : DataW Unit) (L : List (List UInt8)) : Prop where
  tidy : Tidy D
  has : ∀ x, Maps.has D (.string x) = decide (x ∈ L)
  at_ : ∀ x z, x ∈ L → D.atKey (.string x) z = .lit (.int .i64 (L.idxOf x : Nat))
  size : Maps.size D ≤ L.length ∧ (Maps.size D = L.length ↔ L.Nodup)
theorem FP.nil : FP (.map []) [] := ⟨tidy_empty, fun x => rfl, fun x z h => absurd h (by simp), ⟨by simp [Maps.size], by simp [Maps.size]⟩⟩
theorem FP.old {D : DataW Unit} {L : List (List UInt8)} {x : List UInt8} (h : FP D L) (hx : x ∈ L) : FP D (L ++ [x]) := by
  refine ⟨h.tidy, fun y => ?_, fun y z hy => ?_, ?_, ?_⟩
  · rw [h.has]
    by_cases e : y ∈ L
    · rw [decide_eq_true e, decide_eq_true (List.mem_append.2 (.inl e))]
    · rw [decide_eq_false e, decide_eq_false]
      intro hm
      rcases List.mem_append.1 hm with h1 | h1
      · exact e h1
      · exact e (by rw [List.mem_singleton.1 h1]; exact hx)
  · have hyL : y ∈ L := by
      rcases List.mem_append.1 hy with h1 | h1
      · exact h1
      · rw [List.mem_singleton.1 h1]; exact hx
    rw [h.at_ y z hyL, List.idxOf_append, if_pos hyL]
  · have := h.size.1
    rw [List.length_append]; omega
  · have := h.size.1
    rw [List.length_append]
    constructor
    · intro e; simp only [List.length_singleton] at e; omega
    · intro e
      rw [List.nodup_append] at e
      exact absurd rfl (e.2.2 x hx x (by simp))
theorem FP.new {D : DataW Unit} {L : List (List UInt8)} {x : List UInt8} (h : FP D L) (hx : ¬ x ∈ L) : FP (D.put (.string x) (.lit (.int .i64 (L.length : Nat)))) (L ++ [x]) := by
  have hk : WideAt.IsKeyLit (.string x) := trivial
  refine ⟨h.tidy.put hk _, fun y => ?_, fun y z hy => ?_, ?_⟩
  · by_cases e : y = x
    · subst e
      rw [has_put_same h.tidy.isMap hk, decide_eq_true (by simp)]
    · rw [has_put_other (by simpa using e), h.has]
      by_cases e2 : y ∈ L
      · rw [decide_eq_true e2, decide_eq_true (List.mem_append.2 (.inl e2))]
      · rw [decide_eq_false e2, decide_eq_false (fun hm => by rcases List.mem_append.1 hm with h1 | h1; exact e2 h1; exact e (List.mem_singleton.1 h1))]
  · by_cases e : y = x
    · subst e
      rw [atKey_put_same h.tidy.isMap hk, List.idxOf_append, if_neg hx]
      simp
    · have hyL : y ∈ L := by
        rcases List.mem_append.1 hy with h1 | h1
        · exact h1
        · exact absurd (List.mem_singleton.1 h1) e
      rw [atKey_put_other (by simpa using e), h.at_ y z hyL, List.idxOf_append, if_pos hyL]
  · have hh : Maps.has D (.string x) = false := by rw [h.has, decide_eq_false hx]
    have h1 := h.size.1
    have h2 := h.size.2
    rw [size_put h.tidy, hh, List.length_append]
    simp only [Bool.false_eq_true, if_false, List.length_singleton]
    refine ⟨by omega, ?_⟩
    rw [List.nodup_append]
    constructor
    · intro e
      refine ⟨h2.1 (by omega), by simp, fun a ha b hb => ?_⟩
      rintro rfl
      rw [List.mem_singleton.1 hb] at ha
      exact hx ha
    · rintro ⟨e, -⟩
      have := h2.2 e
      omega
theorem lawS : Keyed Tryd.prog 9 := string_keyed Tryd.underlying9
theorem zeroI (w : World) : (zeroValue 3).run Tryd.prog w = .ok (.int .i64 0) w := by kernel_rfl
/-- A map in memory. -/
def MAt (w : World) (B n : Nat) (D : DataW Unit) : Prop := w.ownsMap Tryd.prog 9 (plainElem Tryd.prog 3) B n D
theorem MAt.below {w w' : World} {B n : Nat} {D : DataW Unit} (h : MAt w B n D) (hb : Below w.heap.size w w') : MAt w' B n D :=
  World.ownsMap.kept (row := none) h ⟨hb.os, hb.tape, hb.output, hb.size, fun k hk _ => hb.block k hk⟩ (by simp)
set_option maxRecDepth 100000 in
theorem has_any (B n : Nat) (D : DataW Unit) (s : ByteArray) (w : World) (h : MAt w B n D) (hs : s.size ≤ maxLen) :
    Calls Tryd.prog 30 #[.map (some B), .string s] w fun e w' => e = .returned (.bool (Maps.has D (.string (nb s)))) ∧ w' = w := by
  have hkey : keyOf Tryd.prog 9 (.string s) = some (.string (nb s)) := keyOf_string_mk Tryd.underlying9 hs
  go_enter Tryd.func30, Tryd.ntmps30
  go_wp2_with (first | (at_lookup; refine wpList_lookup_own_ok_int _ rfl _ _ 55 rfl 9 3 .i64 lawS Tryd.underlying55 Tryd.underlying3 (zeroI _) B n D rfl h _ _ rfl hkey ?_; intro c hat hwc) | go_in)
  go_ret
  exact ⟨rfl, rfl⟩
set_option maxRecDepth 100000 in
set_option maxHeartbeats 1000000 in
theorem firstPlaces_any (ao : Option Addr) (l : List ByteArray) (cap : Nat) (w : World) (hN : NSee w ao l) (hl : l.length ≤ 1000000) (hs : ∀ s ∈ l, s.size ≤ maxLen) :
    Calls Tryd.prog 27 #[.slice ao l.length cap] w fun e w' => ∃ D, e = .returned (.map (some w.heap.size)) ∧ MAt w' w.heap.size l.length D ∧ FP D (l.map nb) ∧ Below w.heap.size w w' := by
  have HN : Hid (∀ wr, Below w.heap.size w wr → NSee wr ao l) := fun wr hb => hN.below hb
  have HL : Hid (l.length ≤ 1000000) := hl
  have hlz : (l.length : Int) ≤ 1000000 := by omega
  have HK : Hid (∀ s ∈ l, keyOf Tryd.prog 9 (.string s) = some (.string (nb s)) ∧ s.size ≤ maxLen) := fun s hm => ⟨keyOf_string_mk Tryd.underlying9 (hs s hm), hs s hm⟩
  have hmm := @run_makeMap Tryd.prog
  clear hN hl hs
  go_enter Tryd.func27, Tryd.ntmps27
  go_wp2_with fail
  go_loopw [9] (fun s9 wr => ∃ k : Nat, k ≤ l.length ∧ s9 = .int .i64 (k : Int) ∧ Below w.heap.size w wr ∧ ∃ D, MAt wr w.heap.size k D ∧ FP D ((l.take k).map nb)) (fun s9 _ => l.length - (intOf s9).toNat)
  case atStart => exact ⟨0, Nat.zero_le _, rfl, (Below.refl _ _).alloc (Nat.le_refl _) _, .map [], World.ownsMap_made _ _ _ _, FP.nil⟩
  case round =>
    obtain ⟨k, hk, rfl, hb, D, hD, hF⟩ := hrel
    rcases Nat.lt_or_ge k l.length with hlt | hge
    · have hcs : l[k]? = some l[k] := List.getElem?_eq_getElem hlt
      obtain ⟨b, off, rfl, k0⟩ := HN.out wr hb k _ hcs
      obtain ⟨hkey, hsz⟩ := HK.out _ (List.getElem_mem hlt)
      have hkz : (k : Int) < (l.length : Int) := by omega
      have hst : (l.take (k + 1)).map nb = (l.take k).map nb ++ [nb l[k]] := by
        rw [List.take_add_one, hcs, List.map_append]; rfl
      have hln : ((l.take k).map nb).length = k := by rw [List.length_map, List.length_take]; omega
      have hkm : k < maxLen := by have := HL.out; unfold maxLen; omega
      have hwf : (Lit.int .i64 (k : Int)).wf = true := WalkArith.wf_i64 (by have := HL.out; omega)
      have hHas := hF.has (nb l[k])
      have C := has_any w.heap.size k D l[k] wr hD hsz
      have HB : Hid (Below w.heap.size w wr) := hb
      by_cases hin : nb l[k] ∈ (l.take k).map nb
      · have HF : Hid (FP D ((l.take (k + 1)).map nb)) := by show FP _ _; rw [hst]; exact hF.old hin
        have HM : Hid (MAt wr w.heap.size (k + 1) D) := World.ownsMap.mono hD (Nat.le_succ _)
        rw [hHas, decide_eq_true hin] at C
        generalize l[k] = s at *
        clear hcs hst hln hF hin hHas hb hD hkm hkey
        go_wp2_with (go_at_call 30; refine C.mono ?_; rintro e w1 ⟨rfl, rfl⟩)
        go_roundw
        case rel => exact ⟨k + 1, by omega, by go_num, HB.out, D, HM.out, HF.out⟩
        case measure => simp [intOf]; omega
      · have HF : Hid (FP (D.put (.string (nb l[k])) (.lit (.int .i64 (k : Nat)))) ((l.take (k + 1)).map nb)) := by show FP _ _; rw [hst]; have := hF.new hin; rwa [hln] at this
        rw [hHas, decide_eq_false hin] at C
        generalize l[k] = s at *
        clear hcs hst hln hF hin hHas
        go_wp2_with (first | (go_at_call 30; refine C.mono ?_; rintro e w1 ⟨rfl, rfl⟩) | (at_mapUpdate; refine wpList_mapUpdate_own _ rfl _ _ _ 55 rfl 9 3 lawS Tryd.underlying55 _ w.heap.size k D rfl hD hkm _ _ _ rfl rfl hkey _ [] (plainElem_int Tryd.underlying3 hwf) ?_; intro w1 hown1 hgrow1; have hB1 := HB.out.grown hgrow1 HB.out.size (fun j hj => by cases hj; exact Nat.le_refl _)))
        go_roundw
        case rel => exact ⟨k + 1, by omega, by go_num, hB1, _, hown1, HF.out⟩
        case measure => simp [intOf]; omega
    · obtain rfl : k = l.length := by omega
      rw [List.take_length] at hF
      clear HN HK
      go_wp2_with fail
      go_ret
      exact ⟨D, rfl, hD, hF, hb⟩
end Go.Proofs.YtgjajffpkjcenaaDoor
