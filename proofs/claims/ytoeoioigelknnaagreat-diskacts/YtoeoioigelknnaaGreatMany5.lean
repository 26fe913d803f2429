/-
  SEVERAL TEXTS IN ONE: DskLose, DskActV, RowAid, ActAid.
-/
import Derived.Test.YtoeoioigelknnaaGreatMany3
import Derived.Test.YtoeoioigelknnaaGreatDskShelf
import Derived.Deep.DeepFit
import Derived.Test.YtoeoioigelknnaaGreatMany1
import Derived.Deep.MidRow
import Derived.Test.YtoeoioigelknnaaGreatOwn
import Derived.Test.YtoeoioigelknnaaGreatRows
import Derived.ProofKit
import Derived.OpenShut
import Derived.ShutString
import Derived.ChangeOld
import Derived.SizedLaws
import Derived.Lib.SmallJoins
namespace Go.Proofs.YtoeoioigelknnaaGreat
open Go.RowKit Go.Maps

/-- How many of a file's places are ahead of the end. -/
def keptN (e : Ent) (x : Nat) : Nat := e.pl.countP (· < x)
/-- How many bytes a file has behind a failure. -/
def lostAt (e : Ent) (x : Nat) : Nat := if keptN e x = 0 then e.wr else min e.bs.length ((e.wr / 16 + keptN e x) * 16)
/-- What a file is behind a failure. -/
def loseE (e : Ent) (x : Nat) : Ent := endE e (lostAt e x)
theorem lostAt_le {e : Ent} (h : e.wr ≤ e.bs.length) (x : Nat) : lostAt e x ≤ e.bs.length := by unfold lostAt; split <;> omega
theorem I64_at (l : List Nat) (i : Nat) (h : i < l.length) : (I64D l)[i]? = some (.int .i64 ((l.getD i 0 : Nat) : Int)) := by simp [I64D, h]
theorem count_cast (l : List Nat) (x : Nat) : (l.map fun n : Nat => (n : Int)).countP (· < (x : Int)) = l.countP (· < x) := by
  rw [List.countP_map]
  congr 1
  funext n
  simp
theorem search_any {w : World} {e : Ent} (h : EntAt w e) (hp : e.pl.Pairwise (· < ·)) (hm : e.pl.length ≤ 1099511627776) (x : Nat) :
    ∃ b, Calls Tryz.prog 80 #[e.v2, .int .i64 (x : Int)] w fun z w' => z = .returned (.tuple #[.int .i64 (keptN e x : Int), .bool b]) ∧ ∃ q, w' = w.drewN q := by
  rcases h.row2.2 with ⟨hv, hl⟩ | ⟨g, cap, cur, hv, _⟩
  · rw [hv]
    have hz : e.pl = [] := List.eq_nil_of_length_eq_zero hl
    refine ⟨false, (Tryz.slices_BinarySearch_int_empty none 0 x w).mono ?_⟩
    rintro z w' ⟨rfl, rfl⟩
    refine ⟨?_, 0, rfl⟩
    simp [keptN, hz]
  · rw [hv]
    refine ⟨((e.pl.map fun n : Nat => (n : Int)).take e.pl.length).contains (x : Int), (Tryz.slices_BinarySearch_int g 0 e.pl.length cap (e.pl.map fun n : Nat => (n : Int)) x w (by simp) (by omega) ?_ ?_).mono ?_⟩
    · intro j hj
      rw [List.length_map] at hj
      have := h.row2.cells (g := g) (by rw [hv]; rfl) j _ (I64_at e.pl j hj)
      rw [Addr.add_lit] at this
      rw [this]
      simp [List.getD, hj]
    · rw [List.take_of_length_le (by simp), List.pairwise_map]
      exact hp.imp fun h => by omega
    · rintro z w' ⟨rfl, q, rfl⟩
      refine ⟨?_, q, rfl⟩
      rw [List.take_of_length_le (by simp), count_cast]
      rfl

set_option maxRecDepth 100000 in
set_option maxHeartbeats 4000000 in
theorem lose_any {w : World} {e : Ent} (h : EntAt w e) (hp : e.pl.Pairwise (· < ·)) (hm : e.pl.length ≤ 1099511627776) (hw : e.wr ≤ e.bs.length) (hl : e.bs.length ≤ 1099511627776) (x : Nat) :
    Calls Tryz.prog 61 #[.pointer (some ⟨e.b, 0, none⟩), .int .i64 (x : Int)] w fun z w' => z = .returned (.tuple #[]) ∧ EntAt w' (loseE e x) ∧ Moved w w' e.foot (loseE e x).foot := by
  obtain ⟨bb, B⟩ := search_any h hp hm x
  have hk : keptN e x ≤ e.pl.length := List.countP_le_length
  have B : Hid (Calls Tryz.prog 80 #[e.v2, .int .i64 (x : Int)] w fun z w' => z = .returned (.tuple #[.int .i64 (keptN e x : Int), .bool bb]) ∧ ∃ q, w' = w.drewN q) := B
  have c0 := h.c0
  have c1 := h.c1
  have c2 := h.c2
  obtain ⟨ao, cap, hv, _⟩ := owns_form h.row1
  rw [hv] at c0
  clear hv hp
  by_cases hz : keptN e x = 0
  · have E : Hid (∀ q, Calls Tryz.prog 59 #[.pointer (some ⟨e.b, 0, none⟩), .int .i64 (e.wr : Int)] (w.drewN q) fun z w' => z = .returned (.tuple #[]) ∧ EntAt w' (endE e e.wr) ∧ Moved (w.drewN q) w' e.foot (endE e e.wr).foot) := fun q => endAt_any (h.carry (w' := w.drewN q) fun _ _ => rfl) e.wr hw
    have HL : Hid (lostAt e x = e.wr) := by show _ = _; unfold lostAt; rw [if_pos hz]
    rw [hz] at B
    clear h hz hk
    go_enter Tryz.func61, Tryz.ntmps61
    go_wp2_with (first | (go_at_call 80; refine B.out.mono ?_; rintro z w1 ⟨rfl, q, rfl⟩) | (go_at_call 59; refine (E.out _).mono ?_; rintro z w2 ⟨rfl, hE⟩))
    refine bodyPost_ret (results_none rfl _ _ _) rfl ?_
    obtain ⟨a1, a7⟩ := hE
    unfold loseE
    rw [HL.out]
    exact ⟨rfl, a1, ⟨a7.os, a7.tape, a7.output, a7.size, a7.kept, a7.news⟩⟩
  · have hzb : ((keptN e x : Int) == 0) = false := by rw [beq_eq_false_iff_ne]; omega
    have E : Hid (∀ n : Nat, n ≤ e.bs.length → ∀ q, Calls Tryz.prog 59 #[.pointer (some ⟨e.b, 0, none⟩), .int .i64 (n : Int)] (w.drewN q) fun z w' => z = .returned (.tuple #[]) ∧ EntAt w' (endE e n) ∧ Moved (w.drewN q) w' e.foot (endE e n).foot) := fun n hn q => endAt_any (h.carry (w' := w.drewN q) fun _ _ => rfl) n hn
    have HL : lostAt e x = min e.bs.length ((e.wr / 16 + keptN e x) * 16) := by unfold lostAt; rw [if_neg hz]
    have hval : min (e.bs.length : Int) (IntKind.i64.wrap (IntKind.i64.wrap (IntKind.i64.wrap ((e.wr : Int) / 16) + (keptN e x : Int)) * 16)) = ((lostAt e x : Nat) : Int) := by
      rw [HL, i64_wrap (x := (e.wr : Int) / 16) (by omega) (by omega), i64_wrap (x := (e.wr : Int) / 16 + (keptN e x : Int)) (by omega) (by omega), i64_wrap (by omega) (by omega)]
      omega
    have HE : Hid (∀ q, Calls Tryz.prog 59 #[.pointer (some ⟨e.b, 0, none⟩), .int .i64 (min (e.bs.length : Int) (IntKind.i64.wrap (IntKind.i64.wrap (IntKind.i64.wrap ((e.wr : Int) / 16) + (keptN e x : Int)) * 16)))] (w.drewN q) fun z w' => z = .returned (.tuple #[]) ∧ EntAt w' (endE e (lostAt e x)) ∧ Moved (w.drewN q) w' e.foot (endE e (lostAt e x)).foot) := by
      intro q
      rw [hval]
      exact E.out _ (lostAt_le hw x) q
    clear h hz hk E hval HL
    generalize keptN e x = kn at *
    go_enter Tryz.func61, Tryz.ntmps61
    go_wp2_with (go_at_call 80; refine B.out.mono ?_; rintro z w1 ⟨rfl, q, rfl⟩)
    go_region_with (go_at_call 59; refine (HE.out _).mono ?_; rintro z w2 ⟨rfl, hE⟩)
    all_goals
      go_end0
      obtain ⟨a1, a7⟩ := hE
      exact ⟨rfl, a1, ⟨a7.os, a7.tape, a7.output, a7.size, a7.kept, a7.news⟩⟩
end Go.Proofs.YtoeoioigelknnaaGreat
namespace Go.Proofs.YtoeoioigelknnaaGreat
open Go.RowKit

/-- An act: its kind, two texts, bytes, two numbers. -/
structure ActV where
  kind : Int
  sa : ByteArray
  sb : ByteArray
  ao : Option Addr
  data : List UInt8
  cap : Nat
  n : Int
  m : Int
def actA (c : ActV) : Array Value := #[.int .i64 c.kind, .string c.sa, .string c.sb, .slice c.ao c.data.length c.cap, .int .i64 c.n, .int .i64 c.m]
/-- The acts l can be read from the address on. -/
def ASees (w : World) (ao : Option Addr) (l : List ActV) : Prop := ∀ i c, l[i]? = some c → ∃ b off, ao = some ⟨b, off, none⟩ ∧ w.rangeAt b (off + i * 6) (actA c).toList
theorem ASees.below {w w' : World} {ao : Option Addr} {l : List ActV} (h : ASees w ao l) {B : Nat} (hb : Below B w w') (hB : w.heap.size ≤ B) : ASees w' ao l := by
  intro i c hc
  obtain ⟨b, off, e, hr⟩ := h i c hc
  refine ⟨b, off, e, fun j v hv => ?_⟩
  have h1 := hr j v hv
  have hlt := World.block_lt_of_cell? _ _ h1
  rw [hb.cell (p := ⟨b, off + i * 6 + j, none⟩) (by omega), h1]
/-- Six cells, one by one. -/
structure SixAt (w : World) (b o : Nat) (c : ActV) : Prop where
  c0 : w.cell? ⟨b, o, none⟩ = some (.int .i64 c.kind)
  c1 : w.cell? ⟨b, o + 1, none⟩ = some (.string c.sa)
  c2 : w.cell? ⟨b, o + 2, none⟩ = some (.string c.sb)
  c3 : w.cell? ⟨b, o + 3, none⟩ = some (.slice c.ao c.data.length c.cap)
  c4 : w.cell? ⟨b, o + 4, none⟩ = some (.int .i64 c.n)
  c5 : w.cell? ⟨b, o + 5, none⟩ = some (.int .i64 c.m)
theorem SixAt.of {w : World} {b o : Nat} {c : ActV} (h : w.rangeAt b o (actA c).toList) : SixAt w b o c := ⟨h 0 _ rfl, h 1 _ rfl, h 2 _ rfl, h 3 _ rfl, h 4 _ rfl, h 5 _ rfl⟩
theorem ASees.six {w : World} {ao : Option Addr} {l : List ActV} (h : ASees w ao l) {i : Nat} {c : ActV} (hc : l[i]? = some c) : ∃ b off, ao = some ⟨b, off, none⟩ ∧ SixAt w b (off + i * 6) c := by
  obtain ⟨b, off, e, hr⟩ := h i c hc
  exact ⟨b, off, e, .of hr⟩
/-- What came in is as it must be: its bytes lie in memory, numbers and sizes are such that can be. -/
structure ActV.Ok (w : World) (c : ActV) : Prop where
  sees : Sees w c.ao c.data
  zero : c.ao = none → c.data.length = 0
  kind : -9223372036854775808 ≤ c.kind ∧ c.kind ≤ 9223372036854775807
  n : -9223372036854775808 ≤ c.n ∧ c.n ≤ 9223372036854775807
  m : -9223372036854775808 ≤ c.m ∧ c.m ≤ 9223372036854775807
  big : c.data.length + c.sa.size + c.sb.size ≤ 562949953421312
theorem take_succ_act {α : Type} {l : List α} {i : Nat} {c : α} (h : l[i]? = some c) : l.take (i + 1) = l.take i ++ [c] := by
  rw [List.take_add_one, h]
  rfl
def hvA (c : ActV) : Nat := 1 + (c.data.length + c.sa.size + c.sb.size) / 40
def hvL (l : List ActV) : Nat := (l.map hvA).sum
theorem hvL_step {l : List ActV} {i : Nat} {c : ActV} (h : l[i]? = some c) : hvL (l.take (i + 1)) = hvL (l.take i) + hvA c := by
  rw [take_succ_act h]
  unfold hvL
  rw [List.map_append, List.sum_append]
  simp
theorem hvL_mem {l : List ActV} {c : ActV} (h : c ∈ l) : hvA c ≤ hvL l := by
  unfold hvL
  induction l with
  | nil => cases h
  | cons y r ih =>
    simp only [List.map_cons, List.sum_cons]
    rcases List.mem_cons.1 h with rfl | h
    · omega
    · have := ih h; omega
theorem hvL_len (l : List ActV) : l.length ≤ hvL l := by
  unfold hvL
  induction l with
  | nil => exact Nat.zero_le _
  | cons y r ih =>
    simp only [List.map_cons, List.sum_cons, List.length_cons]
    have : 1 ≤ hvA y := by unfold hvA; omega
    omega
set_option maxRecDepth 100000 in
set_option maxHeartbeats 1600000 in
theorem light_any (ao : Option Addr) (l : List ActV) (cap : Nat) (w : World) (ha : ASees w ao l) (hl : l.length ≤ 140737488355328) (hw : ∀ c ∈ l, c.data.length + c.sa.size + c.sb.size ≤ 562949953421312) :
    Calls Tryz.prog 6 #[.slice ao l.length cap] w fun e w' => (∃ z : Bool, e = .returned (.bool z) ∧ (z = true → hvL l ≤ 250)) ∧ Below w.heap.size w w' := by
  go_enter Tryz.func6, Tryz.ntmps6
  go_wp2
  go_loopw [3, 8] (fun s3 s8 wr => ∃ i z : Nat, i ≤ l.length ∧ s3 = .int .i64 z ∧ s8 = .int .i64 i ∧ z ≤ 250 ∧ hvL (l.take i) = z ∧ Below w.heap.size w wr) (fun _ s8 _ => l.length - (intOf s8).toNat)
  case atStart => exact ⟨0, 0, by omega, rfl, rfl, by omega, by simp [hvL], Below.refl _ _⟩
  case round =>
    obtain ⟨i, z, hi, rfl, rfl, hz, hwz, hbr⟩ := hrel
    rcases Nat.lt_or_ge i l.length with hlt | hge
    · have hc : l[i]? = some l[i] := List.getElem?_eq_getElem hlt
      have hcw := hw l[i] (List.getElem_mem hlt)
      have hst := hvL_step hc
      obtain ⟨b1, o1, rfl, h1⟩ := (ha.below hbr (Nat.le_refl _)).six hc
      generalize l[i] = c at *
      obtain ⟨kind, sa, sb, ao', data, cp, n, m⟩ := c
      obtain ⟨k0, k1, k2, k3, k4, k5⟩ := h1
      simp only at k0 k1 k2 k3 k4 k5
      unfold hvA at hst
      simp only at hcw hst
      have hb2 : Hid (∀ o, Below w.heap.size w (wr.alloc o)) := fun o => hbr.alloc hbr.size o
      have Hst : Hid _ := hst
      have Hw : Hid _ := hw
      clear hc ha hst hw
      have hsum : (data.length : Int) + sa.size + sb.size ≤ 562949953421312 := by omega
      generalize data.length = dl at *
      by_cases hbig : z + (1 + (dl + sa.size + sb.size) / 40) ≤ 250
      · have hq : ¬ ((250 : Int) < (z : Int) + (1 + ((dl : Int) + sa.size + sb.size) / 40)) := by omega
        go_wp2
        go_roundw
        case rel =>
          refine ⟨i + 1, z + (1 + (dl + sa.size + sb.size) / 40), by omega, ?_, by go_num, hbig, ?_, hb2.out _⟩
          · congr 1
          · rw [Hst.out, hwz]
        case measure => simp [intOf]; omega
      · have hq : ((250 : Int) < (z : Int) + (1 + ((dl : Int) + sa.size + sb.size) / 40)) := by omega
        go_wp2
        go_ret
        exact ⟨⟨false, rfl, fun h => by cases h⟩, hb2.out _⟩
    · obtain rfl : i = l.length := by omega
      rw [List.take_length] at hwz
      go_wp2
      go_ret
      exact ⟨⟨true, rfl, fun _ => by omega⟩, hbr⟩
end Go.Proofs.YtoeoioigelknnaaGreat
namespace Go.Proofs.YtoeoioigelknnaaGreat
open Go.ChangeShapes Go.WideShapes Go.ChangeAt Go.RowKit

theorem own : ownKnob Tryz.prog.godebug = none := by kernel_rfl
theorem laidOut : laidOutB Tryz.prog = true := by kernel_rfl
theorem byte_valR (n : Nat) (h : n < 256) : ((UInt8.ofNat n).toNat : Int) = n := by
  simp; omega
/-- Bytes that came in. -/
theorem bytes_open {H : Type} {enc : TypeId × Value → H} {W : World} {ao : Option Addr} {len cap : Nat} {d : DataW H} {p : List MemPlace}
    (h : DataW.Trod enc Tryz.prog W 0 (fun _ => true) true 29 (Value.slice ao len cap) d p) :
    ∃ l : List UInt8, l.length = len ∧ Sees W ao l ∧ (ao = none → l.length = 0) ∧ l.length ≤ maxLen ∧ l.length ≤ cap ∧ (l.length = 0 ∨ ∃ el sp, d = .slice el sp ∧ el.length = l.length) := by
  obtain ⟨fuel, hf⟩ := h
  rcases open_ints Tryz.underlying29 Tryz.underlying5 (by kernel_rfl) hf with ⟨hcs, _⟩ | ⟨x, n, c, zs, hcs, _, hl, hm, hz, hx, hcell, hwz⟩
  · simp [Value.cells] at hcs
    obtain ⟨rfl, rfl, rfl⟩ := hcs
    exact ⟨[], rfl, Sees.nil _ _, fun _ => rfl, Nat.zero_le _, Nat.zero_le _, .inl rfl⟩
  · simp [Value.cells] at hcs
    obtain ⟨rfl, rfl, rfl⟩ := hcs
    have hzl : zs.length = cap := by simpa using hz
    have hlen : ((zs.take len).map fun z : Int => UInt8.ofNat z.toNat).length = len := by simp; omega
    refine ⟨(zs.take len).map fun z : Int => UInt8.ofNat z.toNat, hlen, fun i hi => ⟨x, rfl, ?_⟩, (fun h => by cases h), by omega, by omega, .inr ⟨_, _, congrArg Prod.fst hx, by rw [hlen]; simp [lits]; omega⟩⟩
    rw [hlen] at hi
    have hi' : i < zs.length := by omega
    rw [hcell i hi']
    have hb := bounds_u8 (hwz (zs.getD i 0) (by simp [List.getD, hi']))
    have e : ((zs.take len).map fun z : Int => UInt8.ofNat z.toNat).getD i 0 = UInt8.ofNat (zs.getD i 0).toNat := by simp [List.getD, hi, hi']
    rw [e, byte_valR _ (by omega), Int.toNat_of_nonneg hb.1]
theorem bytes8 : Tryz.prog.bytesOf 5 = 1 := by kernel_rfl
/-- How many bytes can have come in. -/
theorem bytes_reach {H : Type} {ts : List TypeId} {ds : List (DataW H)} {j n : Nat} {d : DataW H} (h : (DataW.weightsEach Tryz.prog ts ds).all (· ≤ reachBytes) = true) (ht : ts[j]? = some 29) (hd : ds[j]? = some d)
    (hn : n = 0 ∨ ∃ el sp, d = .slice el sp ∧ el.length = n) : n ≤ 140737488351232 := by
  rcases hn with rfl | ⟨el, sp, rfl, rfl⟩
  · omega
  · have := sized_slice h ht hd Tryz.underlying29
    rw [bytes8] at this
    simp only [reachBytes] at this
    omega
end Go.Proofs.YtoeoioigelknnaaGreat
namespace Go.Proofs.YtoeoioigelknnaaGreat
open Go.ChangeShapes Go.WideShapes Go.ChangeAt Go.RowKit Go.Joins

theorem array6 {α : Type} {cs : Array α} (h : cs.size = 6) : ∃ c0 c1 c2 c3 c4 c5, cs = #[c0, c1, c2, c3, c4, c5] := by
  obtain ⟨l⟩ := cs
  match l, h with
  | [c0, c1, c2, c3, c4, c5], _ => exact ⟨c0, c1, c2, c3, c4, c5, rfl⟩
theorem cellsAct : Tryz.prog.cellsOf 31 = 6 := by kernel_rfl
theorem cellsInt : Tryz.prog.cellsOf 3 = 1 := by kernel_rfl
theorem cellsStr : Tryz.prog.cellsOf 9 = 1 := by kernel_rfl
theorem cellsByt : Tryz.prog.cellsOf 29 = 1 := by kernel_rfl
set_option maxRecDepth 100000 in
/-- An act that came in. -/
theorem act_open {H : Type} {enc : TypeId × Value → H} {W : World} {base : Nat} {v : Value} {d : DataW H} {p : List MemPlace} (hv : Value.okWide Tryz.prog W .any base 31 v)
    (h : DataW.Trod enc Tryz.prog W 0 (fun _ => true) true 31 v d p) : ∃ (kind n m : Int) (sa sb : ByteArray) (ao : Option Addr) (len cap : Nat), v = .agg #[.int .i64 kind, .string sa, .string sb, .slice ao len cap, .int .i64 n, .int .i64 m] := by
  obtain ⟨cs, rfl, hsz⟩ := okWide_struct Tryz.underlying31 hv
  obtain ⟨c0, c1, c2, c3, c4, c5, rfl⟩ := array6 (hsz.trans cellsAct)
  obtain ⟨fuel, hf⟩ := h
  obtain ⟨xs, n, _, _, hl, hlen, hf⟩ := DataW.trod_struct Tryz.underlying31 hf
  match xs, hlen with
  | [y0, y1, y2, y3, y4, y5], _ =>
    have h0 : DataW.trod enc Tryz.prog W 0 (fun _ => true) true n 3 ((([c0, c1, c2, c3, c4, c5] : List Value).drop 0).take (Tryz.prog.cellsOf 3)) = some y0 := hf 0 _ rfl
    rw [cellsInt] at h0
    have h1 : DataW.trod enc Tryz.prog W 0 (fun _ => true) true n 9 ((([c0, c1, c2, c3, c4, c5] : List Value).drop 1).take (Tryz.prog.cellsOf 9)) = some y1 := hf 1 _ rfl
    rw [cellsStr] at h1
    have h2 : DataW.trod enc Tryz.prog W 0 (fun _ => true) true n 9 ((([c0, c1, c2, c3, c4, c5] : List Value).drop 2).take (Tryz.prog.cellsOf 9)) = some y2 := hf 2 _ rfl
    rw [cellsStr] at h2
    have h3 : DataW.trod enc Tryz.prog W 0 (fun _ => true) true n 29 ((([c0, c1, c2, c3, c4, c5] : List Value).drop 3).take (Tryz.prog.cellsOf 29)) = some y3 := hf 3 _ rfl
    rw [cellsByt] at h3
    have h4 : DataW.trod enc Tryz.prog W 0 (fun _ => true) true n 3 ((([c0, c1, c2, c3, c4, c5] : List Value).drop 4).take (Tryz.prog.cellsOf 3)) = some y4 := hf 4 _ rfl
    rw [cellsInt] at h4
    have h5 : DataW.trod enc Tryz.prog W 0 (fun _ => true) true n 3 ((([c0, c1, c2, c3, c4, c5] : List Value).drop 5).take (Tryz.prog.cellsOf 3)) = some y5 := hf 5 _ rfl
    rw [cellsInt] at h5
    obtain ⟨k, e0, _, _⟩ := DataW.trod_int Tryz.underlying3 h0
    obtain ⟨sa, e1, _, _⟩ := DataW.trod_string Tryz.underlying9 h1
    obtain ⟨sb, e2, _, _⟩ := DataW.trod_string Tryz.underlying9 h2
    obtain ⟨a, l, c, e3⟩ := slice_form Tryz.underlying29 h3
    obtain ⟨n4, e4, _, _⟩ := DataW.trod_int Tryz.underlying3 h4
    obtain ⟨n5, e5, _, _⟩ := DataW.trod_int Tryz.underlying3 h5
    cases e0
    cases e1
    cases e2
    cases e3
    cases e4
    cases e5
    exact ⟨k, n4, n5, sa, sb, a, l, c, rfl⟩
end Go.Proofs.YtoeoioigelknnaaGreat
