/-
  THE DOCUMENT'S FILTER: Places, May.
-/
import Derived.Test.YtblblngcmgdnnaaBlmPlaces
import Derived.Test.YtblblngcmgdnnaaBlmMay
import Derived.Test.YtblblngcmgdnnaaMurRef
import Derived.Deep.CutRange
namespace Go.Proofs.Ytblblngcmgdnnaa
open Go.RowKit

/-- The document's filter in memory. -/
structure RAt (w : World) (m : FM) (k : Nat) (l : List UInt8) : Prop where
  head : Blk w m.d [.int .i64 (k : Int), .slice (some ⟨m.g, 0, none⟩) l.length m.cap] 39
  bits : Blk w m.g (B8 l ++ m.rest) 5
  ne : m.d ≠ m.g
  pos : 0 < l.length
  len : l.length ≤ 400000
  k1 : 1 ≤ k
  k2 : k ≤ 16
theorem RAt.carry {w w' : World} {m : FM} {k : Nat} {l : List UInt8} (h : RAt w m k l) (hd : w'.heap[m.d]? = w.heap[m.d]?) (hg : w'.heap[m.g]? = w.heap[m.g]?) : RAt w' m k l :=
  ⟨h.head.carry hd, h.bits.carry hg, h.ne, h.pos, h.len, h.k1, h.k2⟩
theorem RAt.below {w w' : World} {m : FM} {k : Nat} {l : List UInt8} (h : RAt w m k l) {B : Nat} (hB : Below B w w') (hs : w.heap.size ≤ B) : RAt w' m k l := by
  have h1 := h.head.lt
  have h2 := h.bits.lt
  exact h.carry (hB.block _ (by omega)) (hB.block _ (by omega))
theorem RAt.c0 {w : World} {m : FM} {k : Nat} {l : List UInt8} (h : RAt w m k l) : w.cell? ⟨m.d, 0, none⟩ = some (.int .i64 (k : Int)) := h.head.cell 0 rfl
theorem RAt.c1 {w : World} {m : FM} {k : Nat} {l : List UInt8} (h : RAt w m k l) : w.cell? ⟨m.d, 1, none⟩ = some (.slice (some ⟨m.g, 0, none⟩) l.length m.cap) := h.head.cell 1 rfl
theorem RAt.byte {w : World} {m : FM} {k : Nat} {l : List UInt8} (h : RAt w m k l) {i : Nat} (hi : i < l.length) : w.cell? ⟨m.g, i, none⟩ = some (.int .u8 ((l.getD i 0).toNat : Int)) :=
  h.bits.cell i (by rw [List.getElem?_append_left (by rw [B8_length]; exact hi)]; exact B8_at l i hi)
theorem RAt.set {w : World} {m : FM} {k : Nat} {l : List UInt8} (h : RAt w m k l) {i : Nat} (hi : i < l.length) (b : UInt8) : RAt (w.setCell ⟨m.g, i, none⟩ (.int .u8 (b.toNat : Int))) m k (l.set i b) := by
  have e : (B8 l ++ m.rest).set i (.int .u8 (b.toNat : Int)) = B8 (l.set i b) ++ m.rest := by
    rw [List.set_append_left _ _ (by rw [B8_length]; exact hi)]
    simp [B8, List.map_set]
  refine ⟨?_, h.bits.setTo i _ _ e, h.ne, by rw [List.length_set]; exact h.pos, by rw [List.length_set]; exact h.len, h.k1, h.k2⟩
  rw [List.length_set]
  exact h.head.carry (Below.heap_setCell _ _ _ _ (fun e => h.ne e))
theorem src_int (w : World) (p : Nat) : Src Try.prog 1 31 (.slice (some ⟨w.heap.size, 0, none⟩) 1 1) 1 (P64 [p]) (w.alloc (.cells #[.int .i64 (p : Int)] 3)) := by
  refine Src.ofSlice _ Try.underlying31 _ 1 1 _ (by simp [P64]) ?_ (fun u hu => ?_)
  · intro j u hu
    match j, hu with
    | 0, hu => simp [P64] at hu; subst hu; simp [Addr.add]
    | j + 1, hu => simp [P64] at hu
  · simp [P64] at hu
    subst hu
    rfl
theorem owns_belowR {w w' : World} {base : Nat} {e : TypeId} {size : Nat} {v : Value} {n : Nat} {xs : List Value} (h : w.ownsRow base e size v n xs) (hB : Below w.heap.size w w') : w'.ownsRow base e size v n xs :=
  h.kept (row := none) ⟨hB.os, hB.tape, hB.output, hB.size, fun i hi _ => hB.block i hi⟩ (by cases v.ownBlock <;> simp)
set_option maxRecDepth 100000 in
set_option maxHeartbeats 1000000 in
theorem refPlaces_any {w : World} {m : FM} {k : Nat} {l : List UInt8} (h : RAt w m k l) (ao : Option Addr) (b : List UInt8) (cap : Nat) (hb : b.length ≤ 140737488354000) (hs : Sees w ao b) :
    Calls Try.prog 12 #[m.v, .slice ao b.length cap] w fun e w' => ∃ v, e = .returned v ∧ w'.ownsRow w.heap.size 3 1 v k (P64 (plcs (sumB b 0#64) l.length k)) ∧ Below w.heap.size w w' := by
  obtain ⟨i1, hi1, hy0, hy1, hy2⟩ := info_parts info64
  have hSum := refSum_any ao b cap 0#64 w hb hs
  have HS := show Hid (Calls Try.prog 23 #[.slice ao b.length cap, .int .u64 0] w _) from hSum
  clear hSum
  have hlen := h.len
  have hpos := h.pos
  have hk2 := h.k2
  generalize sumB b 0#64 = hh at *
  go_enter Try.func12, Try.ntmps12
  go_wp2_with fail
  refine HS.out.mono ?_
  rintro e w1 ⟨rfl, rfl⟩
  clear HS
  obtain ⟨h1, h2⟩ := hh
  go_wp2_with fail
  go_loopw [7, 8] (fun s7 s8 wr => ∃ (i : Nat) (v : Value), i ≤ k ∧ v = s7 ∧ s8 = .int .i64 (i : Int) ∧ wr.ownsRow w1.heap.size 3 1 v i (P64 (plcs (h1, h2) l.length i)) ∧ Below w1.heap.size w1 wr) (fun _ s8 _ => k - (intOf s8).toNat)
  case atStart => exact ⟨0, _, Nat.zero_le _, rfl, rfl, World.ownsRow_nil _ _ _ _, Below.refl _ _⟩
  case round =>
    obtain ⟨i, v, hi, rfl, rfl, ho, hB⟩ := hrel
    have hr := h.below hB (Nat.le_refl _)
    have c0 := hr.c0
    have c1 := hr.c1
    have hsz := hB.size
    have HO : Hid (wr.ownsRow w1.heap.size 3 1 v i (P64 (plcs (h1, h2) l.length i))) := ho
    clear ho
    rcases Nat.lt_or_ge i k with hlt | hge
    · have hpl := plc_lt (h1, h2) l.length i hpos
      have Hst : Hid (plcs (h1, h2) l.length (i + 1) = plcs (h1, h2) l.length i ++ [plc (h1, h2) l.length i]) := plcs_step _ _ _
      have m2 : IntKind.u64.wrap ((i : Int) * (h2.toNat : Int)) = ((BitVec.ofNat 64 i * h2).toNat : Int) := by rw [u_lit i (by omega)]; exact u_mul _ _
      have m3 : IntKind.u64.wrap ((h1.toNat : Int) + ((BitVec.ofNat 64 i * h2).toNat : Int)) = ((h1 + BitVec.ofNat 64 i * h2).toNat : Int) := u_add _ _
      have m4 : ((h1 + BitVec.ofNat 64 i * h2).toNat : Int).tmod (8 * (l.length : Int)) = (plc (h1, h2) l.length i : Int) := by
        rw [show (8 * (l.length : Int)) = ((8 * l.length : Nat) : Int) by omega, tmod_nat]; rfl
      have m5 : ((h1 + BitVec.ofNat 64 i * h2).toNat : Int) % (8 * (l.length : Int)) = (plc (h1, h2) l.length i : Int) := by
        rw [show (8 * (l.length : Int)) = ((8 * l.length : Nat) : Int) by omega]; rfl
      generalize plc (h1, h2) l.length i = p at *
      generalize h1 + BitVec.ofNat 64 i * h2 = s at *
      generalize BitVec.ofNat 64 i * h2 = y at *
      go_wp2_with (at_builtin; go_must (refine wpList_append_grew _ rfl _ _ 31 31 rfl w1.heap.size 3 i1 (.int .i64 0) 1 8 Try.underlying31 hi1 hy0 hy1 hy2 rfl _ i _ rfl (HO.out.alloc _) _ 1 (P64 [p]) rfl (src_int _ _) (by unfold maxLen; omega) (by omega) (by rw [World.size_alloc]; omega) ?_; intro v2 wz hO3 hG3))
      have hG : Grew (wr.alloc (.cells #[.int .i64 (p : Int)] 3)) wz v v2 := hG3
      refine ⟨⟨i + 1, v2, by omega, rfl, by simp, ?_, ?_⟩, by simp only [intOf]; omega⟩
      · rw [Hst.out]
        unfold P64
        rw [List.map_append]
        exact hO3
      · exact (hB.alloc hsz _).trans (hG.below (by rw [World.size_alloc]; omega) (fun g hg => ((HO.out.alloc (.cells #[.int .i64 (p : Int)] 3)).lt g hg).1))
    · obtain rfl : i = k := by omega
      go_wp2_with fail
      go_ret
      exact ⟨_, rfl, HO.out, hB⟩
/-- A row of ints that a call made, as it is read. -/
theorem owns_ints {w : World} {base : Nat} {v : Value} {ps : List Nat} {n : Nat} (h : w.ownsRow base 3 1 v n (P64 ps)) (hl : 0 < n) : ∃ g cap, v = .slice (some ⟨g, 0, none⟩) n cap ∧ base ≤ g ∧ g < w.heap.size ∧ ∀ (i z : Nat), ps[i]? = some z → w.cell? ⟨g, i, none⟩ = some (.int .i64 (z : Int)) := by
  have hlt := h.lt
  rcases h.2 with ⟨_, h2⟩ | ⟨g, cap, cur, rfl, hb, hg, hn, hm, hs, ht⟩
  · omega
  · refine ⟨g, cap, rfl, hb, (hlt g rfl).2, fun i z hz => ?_⟩
    have := h.cells (g := g) rfl i (.int .i64 (z : Int)) (by unfold P64; rw [List.getElem?_map, hz]; rfl)
    rwa [Addr.add_lit, Nat.zero_add] at this
theorem shr_word (x : UInt8) (p : Nat) : ∃ z : Int, bits BinOp.and IntKind.u8 (((x.toNat / 2 ^ (p % 8) : Nat)) : Int) 1 = z ∧ (x.toNat.testBit (p % 8) = true → z ≠ 0) ∧ (x.toNat.testBit (p % 8) = false → z = 0) := by
  have hlt : x.toNat / 2 ^ (p % 8) < 256 := Nat.lt_of_le_of_lt (Nat.div_le_self _ _) x.toNat_lt
  have e := u8_and_nat (x.toNat / 2 ^ (p % 8)) 1 hlt (by decide)
  refine ⟨_, e, fun h => ?_, fun h => ?_⟩
  · rw [Nat.testBit_eq_decide_div_mod_eq, decide_eq_true_eq] at h
    rw [Nat.and_one_is_mod, h]
    decide
  · rw [Nat.testBit_eq_decide_div_mod_eq, decide_eq_false_iff_not] at h
    rw [Nat.and_one_is_mod]
    omega
set_option maxRecDepth 100000 in
set_option maxHeartbeats 1000000 in
theorem refMay_any {w : World} {m : FM} {k : Nat} {l : List UInt8} (h : RAt w m k l) (ao : Option Addr) (b : List UInt8) (cap : Nat) (hb : b.length ≤ 140737488354000) (hs : Sees w ao b) :
    Calls Try.prog 14 #[m.v, .slice ao b.length cap] w fun e w' => e = .returned (.bool (mayK l (sumB b 0#64) k)) ∧ Below w.heap.size w w' := by
  obtain ⟨md, mg, mc, mrest⟩ := m
  show Calls Try.prog 14 #[.pointer (some ⟨md, 0, none⟩), .slice ao b.length cap] w _
  have P : Calls Try.prog 12 #[.pointer (some ⟨md, 0, none⟩), .slice ao b.length cap] w _ := refPlaces_any h ao b cap hb hs
  have hlen := h.len
  have hk1 := h.k1
  have hk2 := h.k2
  generalize sumB b 0#64 = hh at *
  go_enter Try.func14, Try.ntmps14
  go_wp2_with fail
  refine P.mono ?_
  rintro e w1 ⟨v, rfl, ho, hB⟩
  obtain ⟨g, cp, rfl, hg, hgl, hcells⟩ := owns_ints ho (by omega)
  have h1 := h.below hB (Nat.le_refl _)
  have c1 : w1.cell? ⟨md, 1, none⟩ = some (.slice (some ⟨mg, 0, none⟩) l.length mc) := h1.c1
  have HC := show Hid (∀ (i z : Nat), (plcs hh l.length k)[i]? = some z → w1.cell? ⟨g, i, none⟩ = some (.int .i64 (z : Int))) from hcells
  clear P ho hcells
  go_wp2_with fail
  go_loopw [11] (fun s11 wr => ∃ i : Nat, i ≤ k ∧ s11 = .int .i64 (i : Int) ∧ mayK l hh i = true ∧ wr = w1) (fun s11 _ => k - (intOf s11).toNat)
  case atStart => exact ⟨0, Nat.zero_le _, rfl, rfl, rfl⟩
  case round =>
    obtain ⟨i, hi, rfl, hm, rfl⟩ := hrel
    rcases Nat.lt_or_ge i k with hlt | hge
    · have hci := HC.out i _ (plcs_at hh l.length k i hlt)
      have hpl := plc_lt hh l.length i h.pos
      have hms := may_step l hh i
      have hml := fun hf => may_less (l := l) (h := hh) hlt hf
      generalize plc hh l.length i = p at *
      have hp3 : p ≤ 3200000 := by omega
      have hq : p / 8 < l.length := by omega
      have cb : wr.cell? ⟨mg, p / 8, none⟩ = some (.int .u8 ((l.getD (p / 8) 0).toNat : Int)) := h1.byte hq
      obtain ⟨z, O, z1, z0⟩ := shr_word (l.getD (p / 8) 0) p
      have hhp : hasP l p = (l.getD (p / 8) 0).toNat.testBit (p % 8) := rfl
      rw [← hhp] at z1 z0
      clear hhp
      have hq8 : (p : Int) / 8 = ((p / 8 : Nat) : Int) := by omega
      have hr8 : (p : Int) % 8 = ((p % 8 : Nat) : Int) := by omega
      have hr7 : p % 8 < 8 := Nat.mod_lt _ (by decide)
      have hwq : Hid (IntKind.i64.wrap ((p / 8 : Nat) : Int) = ((p / 8 : Nat) : Int)) := by show _ = _; rw [IntKind.wrap_i64]; omega
      have IX : Hid (∀ w, (Instr.indexAt 29 (.slice (some ⟨mg, 0, none⟩) l.length mc) (.int .i64 ((p / 8 : Nat) : Int))).run Try.prog w = .ok (.pointer (some ⟨mg, p / 8, none⟩)) w) := fun w => index_byte _ _ _ _ hq w
      have hwr : Hid ((p : Int).tmod 8 = ((p % 8 : Nat) : Int)) := tmod_nat p 8
      have hur : Hid (IntKind.u64.wrap ((p % 8 : Nat) : Int) = ((p % 8 : Nat) : Int)) := by show _ = _; rw [IntKind.wrap_u64]; omega
      clear hq
      have SH : Hid (∀ w, (binOp .shr 5 (.int .u8 ((l.getD (p / 8) 0).toNat : Int)) (.int .u64 ((p % 8 : Nat) : Int))).run Try.prog w = .ok (.int .u8 (((l.getD (p / 8) 0).toNat : Int) / 2 ^ (p % 8))) w) := fun w => run_shr _ _ _ (Nat.mod_lt _ (by decide)) w
      generalize l.getD (p / 8) 0 = x at *
      generalize p / 8 = q at *
      generalize p % 8 = r at *
      rw [show ((x.toNat / 2 ^ r : Nat) : Int) = (x.toNat : Int) / 2 ^ r by rw [Int.natCast_ediv, Int.natCast_pow]; rfl] at O
      cases hp : hasP l p
      · obtain rfl := z0 hp
        have hrr := hml hp
        clear z1 z0 hml hms
        go_upto_region 4 with fail
        refine wp_region_lit ?_
        iterate 6 (refine wpList_plain rfl fun K hK => ?_; go_simp; refine hK _ _ ?_; clear hK K)
        rw [hwq.out]
        refine wpList_ix rfl rfl rfl rfl (IX.out _) ?_
        iterate 3 (refine wpList_plain rfl fun K hK => ?_; go_simp; refine hK _ _ ?_; clear hK K)
        rw [hwr.out]
        refine wpList_plain rfl fun K hK => ?_
        go_simp
        refine hK _ _ ?_
        clear hK K
        rw [hur.out]
        refine wpList_bin rfl rfl (.inl rfl) rfl rfl (SH.out _) ?_
        go_wp2_with fail
        go_ret
        exact ⟨ret_bool hrr.symm, hB⟩
      · have hz := z1 hp
        rw [hm, hp] at hms
        clear z1 z0 hml
        go_upto_region 4 with fail
        refine wp_region_lit ?_
        iterate 6 (refine wpList_plain rfl fun K hK => ?_; go_simp; refine hK _ _ ?_; clear hK K)
        rw [hwq.out]
        refine wpList_ix rfl rfl rfl rfl (IX.out _) ?_
        iterate 3 (refine wpList_plain rfl fun K hK => ?_; go_simp; refine hK _ _ ?_; clear hK K)
        rw [hwr.out]
        refine wpList_plain rfl fun K hK => ?_
        go_simp
        refine hK _ _ ?_
        clear hK K
        rw [hur.out]
        refine wpList_bin rfl rfl (.inl rfl) rfl rfl (SH.out _) ?_
        go_wp2_with fail
        exact ⟨⟨i + 1, by omega, by simp, hms, trivial⟩, by simp only [intOf]; omega⟩
    · obtain rfl : i = k := by omega
      go_wp2_with fail
      go_ret
      exact ⟨ret_bool hm.symm, hB⟩
end Go.Proofs.Ytblblngcmgdnnaa
