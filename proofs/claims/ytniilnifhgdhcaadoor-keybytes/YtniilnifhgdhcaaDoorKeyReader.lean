/-
  CONTRACTS: the program's reader: a text, a row, the end.
-/
import Derived.Test.YtniilnifhgdhcaaDoorKeyNext
namespace Go.Proofs.YtniilnifhgdhcaaDoor
open Go.RowKit

theorem tk_ne {x : UInt8} (h : x ≠ 0) (r : List UInt8) : tk (x :: r) = (tk r).map fun q => (x :: q.1, q.2) := by
  cases r with
  | nil => rfl
  | cons d l => conv => lhs; unfold tk
                rw [if_pos h]
theorem tk_end (r : List UInt8) : tk (0 :: 0 :: r) = some ([], r) := by simp [tk]
theorem tk_more (r : List UInt8) : tk (0 :: 255 :: r) = (tk r).map fun q => (0 :: q.1, q.2) := by
  conv => lhs; unfold tk
  simp
theorem tk_bad {d : UInt8} (h0 : d ≠ 0) (h1 : d ≠ 255) (r : List UInt8) : tk (0 :: d :: r) = none := by
  conv => lhs; unfold tk
  simp [h0, h1]
/-- What a text is read as: the text and what is behind it; or bytes that are none. -/
def TextRead (r : List UInt8) (b : Bool) (s r' : List UInt8) (b' : Bool) : Prop := (tk r = some (s, r') ∧ b' = b) ∨ (tk r = none ∧ b' = true)
theorem Rdr.grew {B : Nat} {w w' : World} {R : Nat} {r : List UInt8} {b : Bool} (h : Rdr B w R r b) {v v' : Value} (hg : Grew w w' v v') (hv : ∀ g, v.ownBlock = some g → B ≤ g) : Rdr B w' R r b := by
  obtain ⟨hRB, ao, cap, h, hlow⟩ := h
  refine ⟨hRB, ao, cap, ⟨?_, ?_, h.nil0, h.cap, h.apart⟩, hlow⟩
  · rw [hg.rows.block R h.lt (fun e => by have := hv R e.symm; omega), h.h]
  · by_cases h0 : r.length = 0
    · intro j hj; omega
    · exact h.sees.grew hg (fun a e he => by
        have := hv _ he
        rcases hlow a e with h1 | h1
        · exact h0 h1
        · omega)
theorem Rdr.alloc {B : Nat} {w : World} {R : Nat} {r : List UInt8} {b : Bool} (h : Rdr B w R r b) (o : Obj) : Rdr B (w.alloc o) R r b := by
  obtain ⟨hRB, ao, cap, h, hlow⟩ := h
  refine ⟨hRB, ao, cap, ⟨?_, h.sees.below ((Below.refl _ _).alloc (Nat.le_refl _) o) (Nat.le_refl _), h.nil0, h.cap, h.apart⟩, hlow⟩
  rw [Below.heap_alloc _ _ _ h.lt, h.h]
theorem nx_len (r : List UInt8) (b : Bool) : (nx r b).2.1.length ≤ r.length := by cases r with | nil => exact Nat.le_refl _ | cons => simp [nx]
theorem mo_len (r : List UInt8) (b : Bool) : (mo r b).2.1.length ≤ r.length := by
  have := nx_len r b
  unfold mo; split
  · exact this
  · split <;> exact this
theorem mo_cons (d : UInt8) (r : List UInt8) (b : Bool) : mo (d :: r) b = if d = 255 then (true, r, b) else if d = 0 then (false, r, b) else (false, r, true) := rfl
theorem nx_cons (d : UInt8) (r : List UInt8) (b : Bool) : nx (d :: r) b = (d, r, b) := rfl
/-- One round of a text's reading. -/
theorem round_go (r : List UInt8) (b : Bool) (h : (nx r b).1 ≠ 0) : r.length = (nx r b).2.1.length + 1 ∧ (nx r b).2.2 = b ∧ tk r = (tk (nx r b).2.1).map fun q => ((nx r b).1 :: q.1, q.2) := by
  cases r with
  | nil => exact absurd rfl h
  | cons c r => exact ⟨by simp [nx], rfl, tk_ne h r⟩
theorem round_more (r : List UInt8) (b : Bool) (h : (nx r b).1 = 0) (hm : (mo (nx r b).2.1 (nx r b).2.2).1 = true) :
    (mo (nx r b).2.1 (nx r b).2.2).2.1.length < r.length ∧ (mo (nx r b).2.1 (nx r b).2.2).2.2 = b ∧ tk r = (tk (mo (nx r b).2.1 (nx r b).2.2).2.1).map fun q => (0 :: q.1, q.2) := by
  cases r with
  | nil => simp [nx, mo] at hm
  | cons c r =>
    have hc : c = 0 := h
    subst hc
    cases r with
    | nil => simp [nx, mo] at hm
    | cons d r =>
      rw [nx_cons] at hm ⊢
      simp only at hm ⊢
      rw [mo_cons] at hm ⊢
      by_cases hd : d = 255
      · subst hd
        simp only [if_true]
        exact ⟨by simp only [List.length_cons]; omega, trivial, tk_more r⟩
      · rw [if_neg hd] at hm
        split at hm <;> cases hm
theorem round_end (r : List UInt8) (b : Bool) (h : (nx r b).1 = 0) (hm : (mo (nx r b).2.1 (nx r b).2.2).1 = false) :
    TextRead r b [] (mo (nx r b).2.1 (nx r b).2.2).2.1 (mo (nx r b).2.1 (nx r b).2.2).2.2 := by
  unfold TextRead
  cases r with
  | nil => right; simp [nx, mo, tk]
  | cons c r =>
    have hc : c = 0 := h
    subst hc
    cases r with
    | nil => right; simp [nx, mo, tk]
    | cons d r =>
      rw [nx_cons] at hm ⊢
      simp only at hm ⊢
      rw [mo_cons] at hm ⊢
      by_cases hd : d = 255
      · rw [if_pos hd] at hm; cases hm
      · rw [if_neg hd]
        by_cases h0 : d = 0
        · subst h0; left; rw [if_pos rfl]; exact ⟨tk_end r, rfl⟩
        · right; rw [if_neg h0]; exact ⟨tk_bad h0 hd r, rfl⟩
def restLen (R : Nat) (w : World) : Nat := match w.cell? ⟨R, 0, none⟩ with | some (.slice _ n _) => n | _ => 0
theorem Rdr.len {B : Nat} {w : World} {R : Nat} {r : List UInt8} {b : Bool} (h : Rdr B w R r b) : restLen R w = r.length := by
  obtain ⟨_, ao, cap, h, _⟩ := h
  unfold restLen; rw [h.c0]
theorem owns_grown {w w1 : World} {base n R : Nat} {v : Value} {l : List Value} (h : w.ownsRow base 5 1 v n l) (hg : w.grownBy w1 (some R)) (hR : R < base) : w1.ownsRow base 5 1 v n l := by
  refine ⟨h.1, h.2.imp id fun ⟨g, cap, cur, a, b, c, d⟩ => ⟨g, cap, cur, a, b, ?_, d⟩⟩
  have hlt : g < w.heap.size := (Array.getElem?_eq_some_iff.1 c).1
  rw [hg.block g hlt (fun e => by have := Option.some.inj e; omega), c]
theorem grown_grew {w w1 w2 : World} {R : Nat} {v v' : Value} (h : w.grownBy w1 (some R)) (k : Grew w1 w2 v v') (hv : ∀ g, v.ownBlock = some g → w.heap.size ≤ g) : w.grownBy w2 (some R) :=
  ⟨k.rows.os.trans h.os, k.rows.tape.trans h.tape, k.rows.output.trans h.output, Nat.le_trans h.size k.rows.size, fun i hi hne => (k.rows.block i (Nat.lt_of_lt_of_le hi h.size) (fun e => by have := hv i e.symm; omega)).trans (h.block i hi hne)⟩

set_option maxRecDepth 100000 in
set_option maxHeartbeats 2000000 in
theorem text_any (B R : Nat) (r : List UInt8) (b : Bool) (w : World) (hB : B ≤ w.heap.size) (h : Rdr B w R r b) (hl : r.length ≤ 100000) :
    Calls Tryd.prog 36 #[.pointer (some ⟨R, 0, none⟩)] w fun e w' => ∃ s r' b', e = .returned (.string (strB s)) ∧ TextRead r b s r' b' ∧ r'.length ≤ r.length ∧ w.grownBy w' (some R) ∧ Rdr B w' R r' b' := by
  obtain ⟨i0, hi, hz0, hz1, hz2⟩ := info_parts info8
  have hRB : R < w.heap.size := Nat.lt_of_lt_of_le h.1 hB
  go_enter Tryd.func36, Tryd.ntmps36
  go_wp2_with fail
  go_loopw [3] (fun s3 wr => ∃ (acc rk : List UInt8), wr.ownsRow w.heap.size 5 1 s3 acc.length (B8 acc) ∧ Rdr B wr R rk b ∧ acc.length + rk.length ≤ r.length ∧ tk r = (tk rk).map (fun q => (acc ++ q.1, q.2)) ∧ w.grownBy wr (some R)) (fun _ wr => restLen R wr)
  case atStart => exact ⟨[], r, World.ownsRow_nil w _ _ _, h, by simp, by simp, grown_refl w _⟩
  case round =>
    obtain ⟨acc, rk, ho, hR, hlen, htk, hg⟩ := hrel
    have hacc : acc.length ≤ 100000 := by omega
    have N : Hid (Calls Tryd.prog 47 #[.pointer (some ⟨R, 0, none⟩)] wr fun e w' => e = .returned (.int .u8 ((nx rk b).1.toNat : Int)) ∧ wr.grownBy w' (some R) ∧ Rdr B w' R (nx rk b).2.1 (nx rk b).2.2) := next_any _ R rk b wr hR (by omega)
    have HRL : Hid (restLen R wr = rk.length) := hR.len
    obtain ⟨x, hx⟩ : ∃ x, (((nx rk b).1.toNat : Nat) : Int) = x := ⟨_, rfl⟩
    rw [hx] at N
    have HO0 : Hid (wr.ownsRow w.heap.size 5 1 _ acc.length (B8 acc)) := ho
    have HG0 : Hid (w.grownBy wr (some R)) := hg
    have HTK : Hid (tk r = (tk rk).map (fun q => (acc ++ q.1, q.2))) := htk
    have HLen : Hid (acc.length + rk.length ≤ r.length) := hlen
    clear ho hg htk hR hlen
    by_cases h0 : (nx rk b).1 = 0
    · have hx0 : x = 0 := by rw [← hx, h0]; rfl
      subst hx0
      have M : Hid (∀ w1, Rdr B w1 R (nx rk b).2.1 (nx rk b).2.2 → Calls Tryd.prog 48 #[.pointer (some ⟨R, 0, none⟩)] w1 fun e w' => e = .returned (.bool (mo (nx rk b).2.1 (nx rk b).2.2).1) ∧ w1.grownBy w' (some R) ∧ Rdr B w' R (mo (nx rk b).2.1 (nx rk b).2.2).2.1 (mo (nx rk b).2.1 (nx rk b).2.2).2.2) := fun w1 hw1 => more_any _ R _ _ w1 hw1 (by have := nx_len rk b; have := HLen.out; omega)
      cases hm : (mo (nx rk b).2.1 (nx rk b).2.2).1
      · have hend := round_end rk b h0 hm
        rw [hm] at M
        have HT : Hid (TextRead r b acc (mo (nx rk b).2.1 (nx rk b).2.2).2.1 (mo (nx rk b).2.1 (nx rk b).2.2).2.2) := by
          show TextRead _ _ _ _ _
          unfold TextRead at hend ⊢
          rcases hend with ⟨e1, e2⟩ | ⟨e1, e2⟩
          · left; rw [HTK.out, e1]; exact ⟨by simp, e2⟩
          · right; rw [HTK.out, e1]; exact ⟨rfl, e2⟩
        have HL2 : Hid ((mo (nx rk b).2.1 (nx rk b).2.2).2.1.length ≤ r.length) := by
          show _ ≤ _; have := mo_len (nx rk b).2.1 (nx rk b).2.2; have := nx_len rk b; have := HLen.out; omega
        clear hend hm h0 hx
        generalize (mo (nx rk b).2.1 (nx rk b).2.2).2.1 = r' at *
        generalize (mo (nx rk b).2.1 (nx rk b).2.2).2.2 = b' at *
        go_wp2_with fail
        refine N.out.mono ?_
        rintro y w1 ⟨rfl, hg1, hR1⟩
        have hM := M.out w1 hR1
        have HM : Hid (Calls Tryd.prog 48 #[.pointer (some ⟨R, 0, none⟩)] w1 fun e w' => e = .returned (.bool false) ∧ w1.grownBy w' (some R) ∧ Rdr B w' R r' b') := hM
        clear hM
        go_wp2_with fail
        refine HM.out.mono ?_
        rintro y w2 ⟨rfl, hg2, hR2⟩
        have ho2 := owns_grown (owns_grown HO0.out hg1 hRB) hg2 hRB
        obtain ⟨ao, cap, hv, hsee, _, hn⟩ := owns_sees ho2
        subst hv
        have hconv := conv_sees hsee (fun h => (hn h).1) cap
        have HG2 : Hid (w.grownBy w2 (some R)) := grown_trans (grown_trans HG0.out hg1) hg2
        have HR2 : Hid (Rdr B w2 R r' b') := hR2
        clear ho2 hsee hn hg1 hg2 hR1 hR2 HO0 HG0
        go_wp2_with fail
        go_ret
        exact ⟨acc, r', b', rfl, HT.out, HL2.out, HG2.out, HR2.out⟩
      · obtain ⟨e1, e2, e3⟩ := round_more rk b h0 hm
        rw [hm, e2] at M
        have HT : Hid (tk r = (tk (mo (nx rk b).2.1 (nx rk b).2.2).2.1).map (fun q => (acc ++ [0] ++ q.1, q.2))) := by
          show _ = _
          rw [HTK.out, e3, Option.map_map]
          congr 1; funext q; simp
        have HL2 : Hid ((acc ++ [0]).length + (mo (nx rk b).2.1 (nx rk b).2.2).2.1.length ≤ r.length) := by
          show _ ≤ _; rw [List.length_append, List.length_singleton]; have := HLen.out; omega
        have HL3 : Hid ((mo (nx rk b).2.1 (nx rk b).2.2).2.1.length < rk.length) := e1
        clear e1 e2 e3 hm h0 hx
        generalize (mo (nx rk b).2.1 (nx rk b).2.2).2.1 = r' at *
        have Hsrc : Hid (∀ wa : World, Src Tryd.prog 1 32 (.slice (some ⟨wa.heap.size, 0, none⟩) 1 1) 1 (B8 [0]) (wa.alloc (.cells #[.int .u8 0] 5))) := fun wa => src_one wa 0 0 rfl
        go_wp2_with fail
        refine N.out.mono ?_
        rintro y w1 ⟨rfl, hg1, hR1⟩
        have hM := M.out w1 hR1
        have HM : Hid (Calls Tryd.prog 48 #[.pointer (some ⟨R, 0, none⟩)] w1 fun e w' => e = .returned (.bool true) ∧ w1.grownBy w' (some R) ∧ Rdr B w' R r' b) := hM
        clear hM
        go_wp2_with fail
        refine HM.out.mono ?_
        rintro y w2 ⟨rfl, hg2, hR2⟩
        have ho2 := owns_grown (owns_grown HO0.out hg1 hRB) hg2 hRB
        have HO : Hid (w2.ownsRow w.heap.size 5 1 _ acc.length (B8 acc)) := ho2
        have hgg := grown_trans (grown_trans HG0.out hg1) hg2
        have hgB : w.heap.size ≤ w2.heap.size := hgg.size
        have HG2 : Hid (w.grownBy w2 (some R)) := hgg
        have HR2 : Hid (Rdr B w2 R r' b) := hR2
        clear ho2 hg1 hg2 hR1 hR2 HO0 HG0 hgg
        go_wp2_with (at_builtin; go_must (refine wpList_append_grew _ rfl _ _ 32 32 rfl w.heap.size 5 i0 (.int .u8 0) 1 1 Tryd.underlying32 hi hz0 hz1 hz2 rfl _ _ _ rfl (HO.out.alloc _) _ 1 (B8 [0]) rfl (Hsrc.out _) (by unfold maxLen; omega) (by omega) (by rw [World.size_alloc]; have := hgB; omega) ?_; intro v9 w9 ho9 hg9))
        have hv9 := fun g hg => (HO.out.lt g hg).1
        have hR9 : Rdr B w9 R r' b := (HR2.out.alloc _).grew hg9 (fun g hg => Nat.le_trans hB (hv9 g hg))
        have hl9 := hR9.len
        have hG9 : w.grownBy w9 (some R) := grown_grew HG2.out hg9.alloc hv9
        refine ⟨⟨acc ++ [0], r', ?_, hR9, HL2.out, HT.out, hG9⟩, ?_⟩
        · rw [List.length_append, B8_append]; exact ho9
        · rw [hl9, HRL.out]; exact HL3.out
    · obtain ⟨e1, e2, e3⟩ := round_go rk b h0
      rw [e2] at N
      have hx0 : (x == 0) = false := by
        rw [beq_eq_false_iff_ne]; rintro rfl; apply h0; apply UInt8.toNat_inj.1; show _ = 0; omega
      have HT : Hid (tk r = (tk (nx rk b).2.1).map (fun q => (acc ++ [(nx rk b).1] ++ q.1, q.2))) := by
        show _ = _
        rw [HTK.out, e3, Option.map_map]
        congr 1; funext q; simp
      have HL2 : Hid ((acc ++ [(nx rk b).1]).length + (nx rk b).2.1.length ≤ r.length) := by
        show _ ≤ _; rw [List.length_append, List.length_singleton]; have := HLen.out; omega
      have HL3 : Hid ((nx rk b).2.1.length < rk.length) := by show _ < _; omega
      have Hsrc : Hid (∀ wa : World, Src Tryd.prog 1 32 (.slice (some ⟨wa.heap.size, 0, none⟩) 1 1) 1 (B8 [(nx rk b).1]) (wa.alloc (.cells #[.int .u8 x] 5))) := fun wa => src_one wa x _ hx
      clear e1 e2 e3 h0 hx
      generalize (nx rk b).2.1 = r' at *
      generalize (nx rk b).1 = c at *
      go_wp2_with fail
      refine N.out.mono ?_
      rintro y w2 ⟨rfl, hg1, hR2⟩
      have ho2 := owns_grown HO0.out hg1 hRB
      have HO : Hid (w2.ownsRow w.heap.size 5 1 _ acc.length (B8 acc)) := ho2
      have hgg := grown_trans HG0.out hg1
      have hgB : w.heap.size ≤ w2.heap.size := hgg.size
      have HG2 : Hid (w.grownBy w2 (some R)) := hgg
      have HR2 : Hid (Rdr B w2 R r' b) := hR2
      clear ho2 hg1 hR2 HO0 HG0 hgg
      go_wp2_with (at_builtin; go_must (refine wpList_append_grew _ rfl _ _ 32 32 rfl w.heap.size 5 i0 (.int .u8 0) 1 1 Tryd.underlying32 hi hz0 hz1 hz2 rfl _ _ _ rfl (HO.out.alloc _) _ 1 (B8 [c]) rfl (Hsrc.out _) (by unfold maxLen; omega) (by omega) (by rw [World.size_alloc]; have := hgB; omega) ?_; intro v9 w9 ho9 hg9))
      have hv9 := fun g hg => (HO.out.lt g hg).1
      have hR9 : Rdr B w9 R r' b := (HR2.out.alloc _).grew hg9 (fun g hg => Nat.le_trans hB (hv9 g hg))
      have hl9 := hR9.len
      have hG9 : w.grownBy w9 (some R) := grown_grew HG2.out hg9.alloc hv9
      refine ⟨⟨acc ++ [c], r', ?_, hR9, HL2.out, HT.out, hG9⟩, ?_⟩
      · rw [List.length_append, B8_append]; exact ho9
      · rw [hl9, HRL.out]; exact HL3.out
end Go.Proofs.YtniilnifhgdhcaaDoor
