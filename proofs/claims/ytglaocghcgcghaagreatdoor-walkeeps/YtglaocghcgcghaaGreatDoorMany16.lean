/-
  SEVERAL TEXTS IN ONE: WalWrite, CodAdd, CodPut, ShortPlain, TextPlain, KeyGood, Recs.
-/
import Derived.Test.YtglaocghcgcghaaGreatDoorMany15
import Derived.Test.YtglaocghcgcghaaGreatDoorMany14
import Derived.Test.YtglaocghcgcghaaGreatDoorMany13
import Derived.Test.YtglaocghcgcghaaGreatDoorMany9
import Derived.Test.YtglaocghcgcghaaGreatDoorOwn
import Derived.Laws.OwnMore
namespace Go.Proofs.YtglaocghcgcghaaGreatDoor
open Go.RowKit
attribute [local go_sem] Oper.pureAt Oper.pureUpon

/-- A log on a disk, the disk's blocks told. -/
def LgF (w0 : World) (d lb : Nat) (A : Ab) (n : Int) (ft : List Nat) (w : World) : Prop :=
  At d A ft w ∧ lb ∉ ft ∧ Blk w lb [.pointer (some ⟨d, 0, none⟩), .int .i64 n, .bool false] 65 ∧ (∀ i ∈ ft, w0.heap.size ≤ i) ∧ w0.heap.size ≤ lb ∧ Below w0.heap.size w0 w
theorem LgF.lg {w0 : World} {d lb : Nat} {A : Ab} {n : Int} {ft : List Nat} {w : World} (h : LgF w0 d lb A n ft w) : Lg w0 d lb A n w := ⟨ft, h⟩
theorem LgF.more {w0 : World} {d lb : Nat} {A : Ab} {n : Int} {ft : List Nat} {w u : World} (h : LgF w0 d lb A n ft w) (hb : Below w.heap.size w u) : LgF w0 d lb A n ft u := by
  obtain ⟨h1, h2, h3, h4, h5, h6⟩ := h
  exact ⟨h1.moved (moved_below (ft := []) hb) (by simp), h2, h3.carry (hb.block _ h3.lt), h4, h5, h6.trans (hb.mono h6.size)⟩
theorem lg_append {w0 : World} {d lb : Nat} {A : Ab} {n : Int} {ft : List Nat} {w : World} (h : LgF w0 d lb A n ft w) (s : ByteArray) (hs : s.size ≤ maxLen) (ao : Option Addr) (l : List UInt8) (c : Nat) (hb : Sees w ao l) (hne : ∀ a, ao = some a → 0 < l.length → a.block ∉ ft) (hF : A.Fine) (hl : A.left ≠ 1) (ho : A.ops ≤ 4611686018427387904) (hlm : A.left ≤ 9223372036854775807) (hnx : A.next ≤ 4611686018427387904) (hlen : ∀ t ∈ A.sp, t.bs.length + l.length ≤ 1099511627776) :
    Calls Tryz.prog 50 #[.pointer (some ⟨d, 0, none⟩), .string s, .slice ao l.length c] w fun x w' => x = .returned (.int .i64 (appendM A s l).1) ∧ Lg w0 d lb (appendM A s l).2 n w' := by
  obtain ⟨h1, h2, h3, h4, h5, h6⟩ := h
  exact (abx_append h1 s hs ao l c hb hne hF hl ho hlm hnx hlen).mono fun x w' ⟨hx, ft', ha, hm⟩ => ⟨hx, Lg.out h2 h3 h4 h5 h6 ha hm⟩
/-- Worlds in which a log says which disk and which segment it has. -/
structure LD (d lb : Nat) (n : Int) where
  u : World
  h : u.cell? ⟨lb, 0, none⟩ = some (.pointer (some ⟨d, 0, none⟩))
  k : u.cell? ⟨lb, 1, none⟩ = some (.int .i64 n)
theorem LD.of {w0 : World} {d lb : Nat} {A : Ab} {n : Int} {w : World} (h : Lg w0 d lb A n w) : ∃ p : LD d lb n, w = p.u := ⟨⟨w, h.blk.cell 0 rfl, h.blk.cell 1 rfl⟩, rfl⟩
set_option maxRecDepth 100000 in
set_option maxHeartbeats 1000000 in
theorem writeL_ok {w0 : World} {d lb : Nat} {A A1 A2 : Ab} {n : Int} {ft : List Nat} {w : World} (he : EnvW w0) (h : LgF w0 d lb A n ft w) (hn : okW n = true) (ao : Option Addr) (l : List UInt8) (c : Nat) (hb : Sees w ao l) (hne : ∀ a, ao = some a → 0 < l.length → a.block ∉ ft) (hF : A.Fine) (hl : A.left = 0) (ho : A.ops ≤ 1000000) (hnx : A.next ≤ 1000000) (hlen : ∀ t ∈ A.sp, t.bs.length + l.length ≤ 1099511627776)
    (h1 : appendM A (tB (nmW n)) l = (0, A1)) (hl1 : A1.left = 0) (ho1 : A1.ops ≤ 1000000) (h2 : syncM A1 (tB (nmW n)) = (0, A2)) :
    Calls Tryz.prog 27 #[.pointer (some ⟨lb, 0, none⟩), .slice ao l.length c] w fun x w' => x = .returned (.int .i64 0) ∧ Lg w0 d lb A2 n w' := by
  have hmm := okW_iff.1 hn
  have CN : Hid (∀ u, Below w0.heap.size w0 u → Calls Tryz.prog 38 #[.int .i64 n] u fun x w' => x = .returned (.string (tB (nmW n))) ∧ Below u.heap.size u w') := fun u hu => nameW_any n (by omega) (by omega) u (he.below hu (Nat.le_refl _))
  have hsz := tB_max (nmW n) (by have := nmW_len n; omega)
  have CC : Hid (∀ u, Below w.heap.size w u → Calls Tryz.prog 50 #[.pointer (some ⟨d, 0, none⟩), .string (tB (nmW n)), .slice ao l.length c] u fun x w' => x = .returned (.int .i64 0) ∧ Lg w0 d lb A1 n w') := fun u hu => by
    have := lg_append (h.more hu) (tB (nmW n)) hsz ao l c (hb.below hu (Nat.le_refl _)) hne hF (by omega) (by omega) (by omega) (by omega) hlen
    rw [h1] at this; exact this
  have CS : Hid (∀ u, Lg w0 d lb A1 n u → Calls Tryz.prog 51 #[.pointer (some ⟨d, 0, none⟩), .string (tB (nmW n))] u fun x w' => x = .returned (.int .i64 0) ∧ Lg w0 d lb A2 n w') := fun u hu => by
    have := lg_sync hu (tB (nmW n)) hsz (by omega) (by omega) (by omega)
    rw [h2] at this; exact this
  have c0 : ∀ q : LD d lb n, q.u.cell? ⟨lb, 0, none⟩ = some (.pointer (some ⟨d, 0, none⟩)) := fun q => q.h
  have c1 : ∀ q : LD d lb n, q.u.cell? ⟨lb, 1, none⟩ = some (.int .i64 n) := fun q => q.k
  obtain ⟨p0, hp0⟩ := LD.of h.lg
  haveI : Nonempty (LD d lb n) := ⟨p0⟩
  have HL : Hid (Lg w0 d lb A n w) := h.lg
  generalize tB (nmW n) = s at *
  clear h1 h2 hF hn h he hl ho hl1 ho1 hb hne hlen hnx hp0 p0
  go_enter Tryz.func27, Tryz.ntmps27
  go_wp2_with fail
  refine wp_region_sched (fun w' => ∃ p : LD d lb n, w' = p.u) [(0, true), (1, true), (2, true), (3, true), (4, true), (5, true), (6, true), (7, true), (9, true), (8, false), (10, false), (11, true)] rfl (by kernel_rfl) (by kernel_rfl) (by kernel_rfl) (LD.of HL.out.drew) ?_
  iterate 9 (refine sched_pure rfl (fun K hK => ?_); go_simp; refine hK _ ?_; clear hK K)
  refine sched_loud rfl (fun K hK => ?_)
  go_simp
  refine (CN.out _ HL.out.drew.bel).mono ?_
  rintro e u1 ⟨rfl, hu1⟩
  have hu1' : Below w.heap.size w u1 := (Below.refl _ _).drew.trans hu1
  refine hK _ _ (LD.of (HL.out.more hu1')) ?_
  clear hK K
  refine sched_loud rfl (fun K hK => ?_)
  go_simp
  refine (CC.out _ hu1').mono ?_
  rintro e u2 ⟨rfl, hu2⟩
  refine hK _ _ (LD.of hu2) ?_
  clear hK K
  refine sched_pure rfl (fun K hK => ?_)
  go_simp
  refine hK _ ?_
  clear hK K
  refine sched_nil ?_
  go_wp2_with fail
  refine wp_region_sched (fun w' => ∃ p : LD d lb n, w' = p.u) [(0, true), (1, true), (2, true), (3, true), (4, true), (5, true), (6, true), (7, true), (8, false), (9, false), (10, true)] rfl (by kernel_rfl) (by kernel_rfl) (by kernel_rfl) (LD.of hu2.drew) ?_
  iterate 8 (refine sched_pure rfl (fun K hK => ?_); go_simp; refine hK _ ?_; clear hK K)
  refine sched_loud rfl (fun K hK => ?_)
  go_simp
  refine (CN.out _ hu2.drew.bel).mono ?_
  rintro e u3 ⟨rfl, hu3⟩
  have hu3' := hu2.drew.more hu3
  refine hK _ _ (LD.of hu3') ?_
  clear hK K
  refine sched_loud rfl (fun K hK => ?_)
  go_simp
  refine (CS.out _ hu3').mono ?_
  rintro e u4 ⟨rfl, hu4⟩
  refine hK _ _ (LD.of hu4) ?_
  clear hK K
  refine sched_pure rfl (fun K hK => ?_)
  go_simp
  refine hK _ ?_
  clear hK K
  refine sched_nil ?_
  go_wp2_with fail
  go_ret
  exact ⟨rfl, hu4⟩
end Go.Proofs.YtglaocghcgcghaaGreatDoor
namespace Go.Proofs.YtglaocghcgcghaaGreatDoor
open Go.RowKit

theorem info8 : (Tryz.prog.info? 5).map (fun i => (i.zero, i.size, i.bytes)) = some (some (.int .u8 0), 1, 1) := by kernel_rfl

/-- One byte, laid in a block of its own, as a source. -/
theorem src_one (w : World) (z : Int) (b : UInt8) (h : (b.toNat : Int) = z) :
    Src Tryz.prog 1 37 (.slice (some ⟨w.heap.size, 0, none⟩) 1 1) 1 (B8 [b]) (w.alloc (.cells #[.int .u8 z] 5)) := by
  refine Src.ofSlice _ Tryz.underlying37 _ 1 1 _ (by simp [B8_length]) ?_ (B8_one _)
  intro j u hu
  match j, hu with
  | 0, hu => simp [B8] at hu; subst hu; simp [Addr.add, h]
  | j + 1, hu => simp [B8] at hu

set_option maxRecDepth 100000 in
set_option maxHeartbeats 400000 in
theorem addNumber_any (base : Nat) (v : Value) (n : Nat) (xs : List UInt8) (u : Nat) (w : World) (hown : w.ownsRow base 5 1 v n (B8 xs)) (hu : u < 18446744073709551616) (hn : n ≤ 140737488355000) (hb : base ≤ w.heap.size) :
    Calls Tryz.prog 55 #[v, .int .u64 u] w fun e w' => ∃ v', e = .returned v' ∧ w'.ownsRow base 5 1 v' (n + (numL u).length) (B8 (xs ++ numL u)) ∧ Grew w w' v v' := by
  obtain ⟨i0, hi, hz0, hz1, hz2⟩ := info_parts info8
  have Hu : Hid (NumAt u [] u) := NumAt.start hu
  clear hu
  go_enter Tryz.func55, Tryz.ntmps55
  go_wp2
  go_loopw [0, 1] (fun s0 s1 wr => ∃ (x : Nat) (d : List UInt8), s1 = .int .u64 x ∧ NumAt u d x ∧ wr.ownsRow base 5 1 s0 (n + d.length) (B8 (xs ++ d)) ∧ Grew w wr v s0 ∧ base ≤ wr.heap.size) (fun _ s1 _ => (intOf s1).toNat)
  case atStart => exact ⟨u, [], rfl, Hu.out, by simpa using hown, Grew.refl _ _, hb⟩
  case round =>
    obtain ⟨x, d, rfl, hd, ho, hg, hbr⟩ := hrel
    have hbd := hd.bd
    have hdl := hd.len
    by_cases hx : x < 128
    · have hbv := byte_val x (by omega)
      have Hfin : Hid (numL u = d ++ [UInt8.ofNat x]) := hd.done hx
      go_wp2_with (at_builtin; go_must (refine wpList_append_grew _ rfl _ _ 37 37 rfl base 5 i0 (.int .u8 0) 1 1 Tryz.underlying37 hi hz0 hz1 hz2 rfl _ _ _ rfl (ho.alloc _) _ 1 (B8 [UInt8.ofNat x]) rfl (src_one _ _ _ hbv) (by unfold maxLen; omega) (by omega) (by rw [World.size_alloc]; omega) ?_; intro v' w' ho' hg'))
      go_ret
      refine ⟨v', rfl, ?_, hg.trans hg'.alloc⟩
      rw [Hfin.out, ← List.append_assoc, B8_append _ [_], List.length_append, List.length_singleton, ← Nat.add_assoc]
      exact ho'
    · have hbv := byte_val (x % 128 + 128) (by omega)
      have hst := hd.step (by omega)
      go_wp2_with (at_builtin; go_must (refine wpList_append_grew _ rfl _ _ 37 37 rfl base 5 i0 (.int .u8 0) 1 1 Tryz.underlying37 hi hz0 hz1 hz2 rfl _ _ _ rfl (ho.alloc _) _ 1 (B8 [UInt8.ofNat (x % 128 + 128)]) rfl (src_one _ _ _ hbv) (by unfold maxLen; omega) (by omega) (by rw [World.size_alloc]; omega) ?_; intro v' w' ho' hg'))
      go_roundw
      case rel =>
        refine ⟨x / 128, _, by go_num, hst, ?_, hg.trans hg'.alloc, Nat.le_trans hbr (Nat.le_trans (by rw [World.size_alloc]; omega) hg'.rows.size)⟩
        rw [← List.append_assoc, B8_append _ [_], List.length_append, List.length_singleton, ← Nat.add_assoc]
        exact ho'
      case measure => simp [intOf]; omega

set_option maxRecDepth 100000 in
set_option maxHeartbeats 400000 in
theorem copyWithRoom_any (ao : Option Addr) (l : List UInt8) (cap room : Nat) (w : World) (hs : Sees w ao l) (hnone : ao = none → l.length = 0) (hl : l.length + room ≤ 140737488355000) :
    Calls Tryz.prog 161 #[.slice ao l.length cap, .int .i64 room] w fun e w' => ∃ v', e = .returned v' ∧ w'.ownsRow w.heap.size 5 1 v' l.length (B8 l) ∧ Below w.heap.size w w' := by
  obtain ⟨i0, hi, hz0, hz1, hz2⟩ := info_parts info8
  go_enter Tryz.func161, Tryz.ntmps161
  go_wp2_with (first
    | (at_make; go_must (refine wpList_make_own _ rfl _ _ 37 rfl w.heap.size 5 i0 (.int .u8 0) 1 Tryz.underlying37 hi hz0 hz1 .i64 .i64 _ (l.length + room) rfl rfl (by omega) (by rw [hz2]; omega) (by unfold maxLen; omega) (Nat.le_refl _) ?_; intro w1 ho1 hg1))
    | (at_builtin; go_must (refine wpList_append_grew _ rfl _ _ 37 37 rfl w.heap.size 5 i0 (.int .u8 0) 1 1 Tryz.underlying37 hi hz0 hz1 hz2 rfl _ _ _ rfl ho1 _ l.length (B8 l) rfl (src_sees Tryz.underlying37 (hs.below ((Below.refl _ _).grown hg1 (Nat.le_refl _) (fun k hk => by cases hk)) (Nat.le_refl _)) hnone cap) (by unfold maxLen; omega) (by omega) hg1.size ?_; intro v' w' ho' hg')))
  go_ret
  refine ⟨v', rfl, by simpa using ho', ?_⟩
  exact ((Below.refl _ _).grown hg1 (Nat.le_refl _) (fun k hk => by cases hk)).trans (hg'.below hg1.size (fun g hg => (ho1.lt g hg).1))
end Go.Proofs.YtglaocghcgcghaaGreatDoor
namespace Go.Proofs.YtglaocghcgcghaaGreatDoor
open Go.RowKit

/-- A text in bytes: its length, then it. -/
def txtL (s : List UInt8) : List UInt8 := numL s.length ++ s

set_option maxRecDepth 100000 in
set_option maxHeartbeats 400000 in
theorem addText_any (base : Nat) (v : Value) (n : Nat) (xs : List UInt8) (s : ByteArray) (w : World) (hown : w.ownsRow base 5 1 v n (B8 xs)) (hn : n + s.size ≤ 140737488354000) (hb : base ≤ w.heap.size) :
    Calls Tryz.prog 86 #[v, .string s] w fun e w' => ∃ v', e = .returned v' ∧ w'.ownsRow base 5 1 v' (n + (txtL s.data.toList).length) (B8 (xs ++ txtL s.data.toList)) ∧ Grew w w' v v' := by
  obtain ⟨i0, hi, hz0, hz1, hz2⟩ := info_parts info8
  have hnl := numL_length s.size
  have hsz : s.data.toList.length = s.size := by simp
  go_enter Tryz.func86, Tryz.ntmps86
  go_wp2_with (first
    | (go_at_call 55; go_must (refine (addNumber_any base v n xs s.size _ hown (by omega) (by omega) hb).mono ?_; rintro e w1 ⟨v1, rfl, ho1, hg1⟩))
    | (at_builtin; go_must (refine wpList_append_grew _ rfl _ _ 37 9 rfl base 5 i0 (.int .u8 0) 1 1 Tryz.underlying37 hi hz0 hz1 hz2 rfl _ _ _ rfl ho1 _ s.size (B8 s.data.toList) rfl (Src.ofString _ Tryz.underlying9 s) (by unfold maxLen; omega) (by omega) (Nat.le_trans hb hg1.rows.size) ?_; intro v' w' ho' hg')))
  go_ret
  refine ⟨v', rfl, ?_, hg1.trans hg'⟩
  unfold txtL
  rw [hsz, List.length_append, hsz, ← List.append_assoc, B8_append _ s.data.toList, ← Nat.add_assoc]
  exact ho'

theorem conv_sees {w : World} {ao : Option Addr} {l : List UInt8} (h : Sees w ao l) (hn : ao = none → l.length = 0) (cap : Nat) :
    (convert 37 9 (.slice ao l.length cap)).run Tryz.prog w = .ok (.string ⟨l.toArray⟩) w := by
  cases ao with
  | none =>
    obtain rfl : l = [] := List.eq_nil_of_length_eq_zero (hn rfl)
    rw [run_convert_bytes_string w 37 9 5 none _ cap Tryz.underlying37 Tryz.underlying5 Tryz.underlying9]
    rfl
  | some a =>
    refine run_convert_bytes_back w 37 9 5 a cap l Tryz.underlying37 Tryz.underlying5 Tryz.underlying9 fun j hj => ?_
    obtain ⟨a', e, hc⟩ := h j hj
    obtain rfl := Option.some.inj e
    rw [hc]; simp [List.getD, hj]

end Go.Proofs.YtglaocghcgcghaaGreatDoor
namespace Go.Proofs.YtglaocghcgcghaaGreatDoor
open Go.RowKit

theorem ofNat_toNat8 (x : Nat) (h : x < 256) : (UInt8.ofNat x).toNat = x := by simp; omega
theorem pow7 (i : Nat) : 2 ^ (7 * (i + 1)) = 128 * 2 ^ (7 * i) := by rw [show 7 * (i + 1) = 7 + 7 * i by omega, Nat.pow_add]
theorem digits (x p : Nat) : x % 128 * p + x / 128 * (128 * p) = x * p := by
  have h := Nat.div_add_mod x 128
  calc x % 128 * p + x / 128 * (128 * p) = (128 * (x / 128) + x % 128) * p := by rw [Nat.add_mul, Nat.mul_assoc, Nat.mul_left_comm, Nat.add_comm]
    _ = x * p := by rw [h]

theorem getN_back (k : Nat) : ∀ (i acc x : Nat) (rest : List UInt8), i + k = 9 → x < 2 * 128 ^ k → (0 < i → 0 < x) → getN i acc (numF k x ++ rest) = some (acc + x * 2 ^ (7 * i), rest) := by
  induction k with
  | zero =>
    intro i acc x rest hi hx hp
    have hx' : x < 2 := by simpa using hx
    have e : (UInt8.ofNat x).toNat = x := ofNat_toNat8 x (by omega)
    rw [numF, List.singleton_append, getN, e, if_neg (by omega), if_pos (by omega), Nat.mod_eq_of_lt (by omega)]
  | succ k ih =>
    intro i acc x rest hi hx hp
    by_cases h : x < 128
    · rw [numF_small _ _ h, List.singleton_append, getN, ofNat_toNat8 x (by omega), if_neg (by omega), if_pos h, Nat.mod_eq_of_lt h]
    · have hb : (UInt8.ofNat (x % 128 + 128)).toNat = x % 128 + 128 := ofNat_toNat8 _ (by omega)
      rw [numF_great _ _ (by omega), List.cons_append, getN, hb, if_neg (by omega), if_neg (by omega), ih (i + 1) _ (x / 128) rest (by omega) ?_ (by omega)]
      · rw [show (x % 128 + 128) % 128 = x % 128 by omega, pow7, Nat.add_assoc, digits]
      · rw [Nat.div_lt_iff_lt_mul (by omega)]
        rw [Nat.pow_succ] at hx
        omega
theorem getN_early (k : Nat) : ∀ (i acc x : Nat), i + k = 9 → x < 2 * 128 ^ k → getN i acc (numF k x).dropLast = none := by
  induction k with
  | zero => intro i acc x _ _; rfl
  | succ k ih =>
    intro i acc x hi hx
    by_cases h : x < 128
    · rw [numF_small _ _ h]; rfl
    · have hb : (UInt8.ofNat (x % 128 + 128)).toNat = x % 128 + 128 := ofNat_toNat8 _ (by omega)
      have hne : numF k (x / 128) ≠ [] := fun e => by have := (numF_length k (x / 128)).1; rw [e] at this; simp at this
      rw [numF_great _ _ (by omega), List.dropLast_cons_of_ne_nil hne, getN, hb, if_neg (by omega), if_neg (by omega)]
      refine ih (i + 1) _ (x / 128) (by omega) ?_
      rw [Nat.div_lt_iff_lt_mul (by omega)]
      rw [Nat.pow_succ] at hx
      omega
theorem getN_longer (k : Nat) : ∀ (i acc x : Nat) (y : UInt8), i + k = 9 → x < 2 * 128 ^ k → 128 ≤ y.toNat → getN i acc ((numF k x).dropLast ++ [y, 0]) = none := by
  induction k with
  | zero =>
    intro i acc x y hi _ hy
    show getN i acc [y, 0] = none
    rw [getN, if_pos (.inl ⟨by omega, by omega⟩)]
  | succ k ih =>
    intro i acc x y hi hx hy
    by_cases h : x < 128
    · rw [numF_small _ _ h]
      show getN i acc [y, 0] = none
      have h0 : (0 : UInt8).toNat = 0 := rfl
      rw [getN, if_neg (by omega), if_neg (by omega), getN, h0, if_pos (.inr ⟨by omega, rfl⟩)]
    · have hb : (UInt8.ofNat (x % 128 + 128)).toNat = x % 128 + 128 := ofNat_toNat8 _ (by omega)
      have hne : numF k (x / 128) ≠ [] := fun e => by have := (numF_length k (x / 128)).1; rw [e] at this; simp at this
      rw [numF_great _ _ (by omega), List.dropLast_cons_of_ne_nil hne, List.cons_append, getN, hb, if_neg (by omega), if_neg (by omega)]
      refine ih (i + 1) _ (x / 128) y (by omega) ?_ hy
      rw [Nat.div_lt_iff_lt_mul (by omega)]
      rw [Nat.pow_succ] at hx
      omega

theorem get_back (u : Nat) (h : u < 18446744073709551616) (rest : List UInt8) : getN 0 0 (numL u ++ rest) = some (u, rest) := by
  have := getN_back 9 0 0 u rest rfl h (by omega)
  unfold numL
  simpa using this
theorem get_early (u : Nat) (h : u < 18446744073709551616) : getN 0 0 ((numL u).take ((numL u).length - 1)) = none := by
  rw [← List.dropLast_eq_take]; exact getN_early 9 0 0 u rfl h
theorem get_longer (u : Nat) (h : u < 18446744073709551616) (y : UInt8) (hy : 128 ≤ y.toNat) : getN 0 0 ((numL u).set ((numL u).length - 1) y ++ [0]) = none := by
  have hl := numL_length u
  have e : (numL u).set ((numL u).length - 1) y ++ [0] = (numL u).dropLast ++ [y, 0] := by
    rw [List.set_eq_take_append_cons_drop, if_pos (by omega), List.dropLast_eq_take, List.drop_eq_nil_of_le (by omega)]
    simp
  rw [e]; exact getN_longer 9 0 0 u y rfl h hy
theorem or128 (x : Nat) (h : x < 128) : bits BinOp.or IntKind.u8 (x : Int) 128 = (x : Int) + 128 := by
  have h1 := u8_or_nat x 128 (by omega) (by omega)
  have h2 := Nat.two_pow_add_eq_or_of_lt (i := 7) (b := x) h 1
  rw [show ((128 : Nat) : Int) = 128 from rfl] at h1
  rw [h1, Nat.or_comm]
  have e : 128 ||| x = 128 + x := h2.symm
  rw [e]
  omega
end Go.Proofs.YtglaocghcgcghaaGreatDoor
namespace Go.Proofs.YtglaocghcgcghaaGreatDoor
open Go.RowKit

theorem getN_bd : ∀ (l : List UInt8) (i acc v : Nat) (r : List UInt8), i ≤ 9 → acc < 2 ^ (7 * i) → getN i acc l = some (v, r) → v < 18446744073709551616 ∧ r.length < l.length := by
  intro l
  induction l with
  | nil => intro i acc v r _ _ h; simp [getN] at h
  | cons b l ih =>
    intro i acc v r hi hacc h
    rw [getN] at h
    split at h
    · cases h
    · rename_i hno
      have hd := digit_bd i acc b.toNat hacc
      split at h
      · simp only [Option.some.injEq, Prod.mk.injEq] at h
        obtain ⟨rfl, rfl⟩ := h
        refine ⟨?_, by simp⟩
        rcases Nat.lt_or_ge i 9 with h1 | h1
        · have h2 : 2 ^ (7 * (i + 1)) ≤ 2 ^ 63 := Nat.pow_le_pow_right (by omega) (by omega)
          omega
        · obtain rfl : i = 9 := by omega
          have h3 : b.toNat % 128 * 2 ^ (7 * 9) ≤ 1 * 2 ^ 63 := Nat.mul_le_mul (by omega) (by decide)
          have h4 : acc < 2 ^ 63 := hacc
          omega
      · have hi' : i + 1 ≤ 9 := by omega
        have := ih (i + 1) _ v r hi' hd h
        simp only [List.length_cons]
        omega
theorem get_bd {l : List UInt8} {v : Nat} {r : List UInt8} (h : getN 0 0 l = some (v, r)) : v < 18446744073709551616 ∧ r.length < l.length := getN_bd l 0 0 v r (by omega) (by simp) h

/-- The text that bytes begin with, and what is left. -/
def textN (l : List UInt8) : Option (List UInt8 × List UInt8) := match getN 0 0 l with | none => none | some (v, r) => if v ≤ r.length then some (r.take v, r.drop v) else none
theorem textN_some {l s r' : List UInt8} (h : textN l = some (s, r')) : ∃ v r, getN 0 0 l = some (v, r) ∧ v ≤ r.length ∧ r.take v = s ∧ r.drop v = r' := by
  unfold textN at h
  split at h
  · cases h
  · rename_i v r hg
    split at h
    · rename_i hv
      simp only [Option.some.injEq, Prod.mk.injEq] at h
      exact ⟨v, r, hg, hv, h.1, h.2⟩
    · cases h
theorem textN_none {l : List UInt8} (h : textN l = none) : getN 0 0 l = none ∨ ∃ v r, getN 0 0 l = some (v, r) ∧ r.length < v := by
  unfold textN at h
  split at h
  · rename_i hg; exact .inl hg
  · rename_i v r hg
    split at h
    · cases h
    · exact .inr ⟨v, r, hg, by omega⟩
theorem textN_back (s rest : List UInt8) (h : s.length < 18446744073709551616) : textN (numL s.length ++ (s ++ rest)) = some (s, rest) := by
  unfold textN
  rw [get_back s.length h]
  simp
theorem getN_suffix : ∀ (l : List UInt8) (i acc v : Nat) (r : List UInt8), getN i acc l = some (v, r) → ∃ d, l = d ++ r := by
  intro l
  induction l with
  | nil => intro i acc v r h; simp [getN] at h
  | cons b l ih =>
    intro i acc v r h
    rw [getN] at h
    split at h
    · cases h
    · split at h
      · simp only [Option.some.injEq, Prod.mk.injEq] at h
        exact ⟨[b], by rw [h.2]; rfl⟩
      · obtain ⟨d, hd⟩ := ih _ _ _ _ h
        exact ⟨b :: d, by rw [hd]; rfl⟩
theorem getN_drop {l : List UInt8} {v : Nat} {r : List UInt8} (h : getN 0 0 l = some (v, r)) : l.drop (l.length - r.length) = r := by
  obtain ⟨d, rfl⟩ := getN_suffix l 0 0 v r h
  simp
end Go.Proofs.YtglaocghcgcghaaGreatDoor
namespace Go.Proofs.YtglaocghcgcghaaGreatDoor
open Go.RowKit

def goodK (k : Ky) : Bool := nameB k.t && decide (1 ≤ k.p.length) && decide (k.p.length ≤ 64) && (k.c == [] || nameB k.c)
def emptyB : ByteArray := ⟨#[]⟩
theorem nb_empty (s : ByteArray) : nb s = [] ↔ s.size = 0 := by
  rw [← nb_size]; exact List.length_eq_zero_iff.symm

theorem ba_isEmpty (c : ByteArray) : c.toList.isEmpty = decide (c.size = 0) := by
  rw [ba_list]
  by_cases h : c.size = 0
  · rw [(nb_empty c).2 h]; simp [h]
  · have := fun e => h ((nb_empty c).1 e)
    simp only [h, decide_false]; cases hn : nb c with | nil => exact absurd hn this | cons => rfl
set_option maxRecDepth 100000 in
set_option maxHeartbeats 1000000 in
theorem good_any (k : Kb) (w : World) (h1 : k.t.size ≤ maxLen) (h2 : k.p.size ≤ maxLen) (h3 : k.c.size ≤ maxLen) :
    Calls Tryz.prog 41 #[k.v] w fun e w' => e = .returned (.bool (goodK k.ky)) ∧ Below w.heap.size w w' := by
  obtain ⟨t, p, r, c⟩ := k
  simp only at h1 h2 h3
  have hp : (p.size : Int) ≤ 9223372036854775807 := by unfold maxLen at h2; omega
  have N1 : Hid (∀ w : World, Calls Tryz.prog 69 #[.string t] w fun e w' => e = .returned (.bool (nameB (nb t))) ∧ w' = w) := fun w => name_any t w h1
  have N2 : Hid (∀ w : World, Calls Tryz.prog 69 #[.string c] w fun e w' => e = .returned (.bool (nameB (nb c))) ∧ w' = w) := fun w => name_any c w h3
  have hR : Hid (goodK (Kb.ky ⟨t, p, r, c⟩) = (nameB (nb t) && decide (1 ≤ p.size) && decide (p.size ≤ 64) && (decide (c.size = 0) || nameB (nb c)))) := by
    show (_ && _ && _ && _) = _
    have e1 : (nb p).length = p.size := nb_size p
    have e2 : (nb c == []) = decide (c.size = 0) := by
      by_cases h : c.size = 0
      · rw [(nb_empty c).2 h]; simp [h]
      · have := fun e => h ((nb_empty c).1 e)
        simp only [h, decide_false, beq_eq_false_iff_ne, ne_eq]; exact this
    simp only [Kb.ky, e1, e2]
  have hB : Hid (∀ o : Obj, Below w.heap.size w (w.alloc o)) := fun o => (Below.refl _ _).alloc (Nat.le_refl _) _
  have hc := ba_isEmpty c
  clear h1 h2 h3
  simp only [Kb.v]
  generalize nameB (nb t) = b1 at *
  generalize nameB (nb c) = b2 at *
  cases b1
  · go_enter Tryz.func41, Tryz.ntmps41
    go_wp2_with (go_at_call 69; go_fit (N1.out _); rintro x w1 ⟨rfl, rfl⟩)
    go_ret
    exact ⟨ret_bool (by rw [hR.out]; rfl), hB.out _⟩
  by_cases hp1 : p.size = 0
  · have d1 : decide ((p.size : Int) < 1) = true := decide_eq_true (by omega)
    have hR' : Hid (goodK (Kb.ky ⟨t, p, r, c⟩) = false) := by show _ = _; rw [hR.out, hp1]; rfl
    clear hR
    go_enter Tryz.func41, Tryz.ntmps41
    go_wp2_with (go_at_call 69; go_fit (N1.out _); rintro x w1 ⟨rfl, rfl⟩)
    go_ret
    exact ⟨ret_bool hR'.out.symm, hB.out _⟩
  have d1 : decide ((p.size : Int) < 1) = false := decide_eq_false (by omega)
  by_cases hp2 : 64 < p.size
  · have d2 : decide (64 < (p.size : Int)) = true := decide_eq_true (by omega)
    have hR' : Hid (goodK (Kb.ky ⟨t, p, r, c⟩) = false) := by
      show _ = _; rw [hR.out]
      have : decide (p.size ≤ 64) = false := decide_eq_false (by omega)
      rw [this]; simp
    clear hR
    go_enter Tryz.func41, Tryz.ntmps41
    go_wp2_with (go_at_call 69; go_fit (N1.out _); rintro x w1 ⟨rfl, rfl⟩)
    go_ret
    exact ⟨ret_bool hR'.out.symm, hB.out _⟩
  have d2 : decide (64 < (p.size : Int)) = false := decide_eq_false (by omega)
  have hR2 : Hid (goodK (Kb.ky ⟨t, p, r, c⟩) = (decide (c.size = 0) || b2)) := by
    show _ = _; rw [hR.out]
    have e1 : decide (1 ≤ p.size) = true := decide_eq_true (by omega)
    have e2 : decide (p.size ≤ 64) = true := decide_eq_true (by omega)
    rw [e1, e2]; simp
  clear hR
  by_cases hc0 : c.size = 0
  · rw [decide_eq_true hc0] at hc
    have hR' : Hid (goodK (Kb.ky ⟨t, p, r, c⟩) = true) := by show _ = _; rw [hR2.out, hc0]; rfl
    clear hR2
    go_enter Tryz.func41, Tryz.ntmps41
    go_wp2_with (go_at_call 69; go_fit (N1.out _); rintro x w1 ⟨rfl, rfl⟩)
    go_ret
    exact ⟨ret_bool hR'.out.symm, hB.out _⟩
  · rw [decide_eq_false hc0] at hc
    have hR' : Hid (goodK (Kb.ky ⟨t, p, r, c⟩) = b2) := by show _ = _; rw [hR2.out, decide_eq_false hc0]; rfl
    clear hR2
    go_enter Tryz.func41, Tryz.ntmps41
    go_wp2_with (first | (go_at_call_of 69 (Value.string t); go_fit (N1.out _); rintro x w1 ⟨rfl, rfl⟩) | (go_at_call_of 69 (Value.string c); go_fit (N2.out _); rintro x w1 ⟨rfl, rfl⟩))
    go_ret
    exact ⟨ret_bool hR'.out.symm, hB.out _⟩

end Go.Proofs.YtglaocghcgcghaaGreatDoor
namespace Go.Proofs.YtglaocghcgcghaaGreatDoor
open Go.RowKit

section
variable {α : Type} {c : α → List Value} {k : Nat} (hk : ∀ a, (c a).length = k)
include hk
theorem flat_lenR (l : List α) : (l.flatMap c).length = l.length * k := by
  induction l with
  | nil => simp
  | cons x r ih => rw [List.flatMap_cons, List.length_append, hk, ih, List.length_cons, Nat.add_mul]; omega
theorem flat_at : ∀ (l : List α) (i j : Nat) (a : α) (v : Value), l[i]? = some a → (c a)[j]? = some v → (l.flatMap c)[i * k + j]? = some v
  | [], i, j, a, v, h, _ => by simp at h
  | x :: r, 0, j, a, v, h, hv => by
    simp at h
    subst h
    have hj : j < (c x).length := (List.getElem?_eq_some_iff.1 hv).1
    rw [List.flatMap_cons, Nat.zero_mul, Nat.zero_add, List.getElem?_append_left hj, hv]
  | x :: r, i + 1, j, a, v, h, hv => by
    have h' : r[i]? = some a := by simpa using h
    rw [List.flatMap_cons, List.getElem?_append_right (by rw [hk, Nat.add_mul]; omega), hk]
    have : (i + 1) * k + j - k = i * k + j := by rw [Nat.add_mul]; omega
    rw [this]
    exact flat_at r i j a v h' hv
theorem flat_set : ∀ (l : List α) (i j : Nat) (a a' : α) (v : Value), l[i]? = some a → j < k → c a' = (c a).set j v → (l.flatMap c).set (i * k + j) v = (l.set i a').flatMap c
  | [], i, j, a, a', v, h, _, _ => by simp at h
  | x :: r, 0, j, a, a', v, h, hj, hc => by
    simp at h
    subst h
    rw [List.flatMap_cons, Nat.zero_mul, Nat.zero_add, List.set_append_left _ _ (by rw [hk]; exact hj), ← hc]
    simp
  | x :: r, i + 1, j, a, a', v, h, hj, hc => by
    have h' : r[i]? = some a := by simpa using h
    rw [List.flatMap_cons, List.set_append_right _ _ (by rw [hk, Nat.add_mul]; omega), hk]
    have : (i + 1) * k + j - k = i * k + j := by rw [Nat.add_mul]; omega
    rw [this, flat_set r i j a a' v h' hj hc]
    simp
theorem owns_recs {w : World} {base : Nat} {e : TypeId} {v : Value} {l : List α} (h : w.ownsRow base e k v l.length (l.flatMap c)) : ∃ ao cap, v = .slice ao l.length cap ∧ l.length ≤ cap ∧ ∀ i a, l[i]? = some a → ∃ g, ao = some ⟨g, 0, none⟩ ∧ v.ownBlock = some g ∧ ∀ j u, (c a)[j]? = some u → w.cell? ⟨g, i * k + j, none⟩ = some u := by
  have h0 := h
  rcases h.2 with ⟨rfl, h2⟩ | ⟨g, cap, cur, rfl, hb, hg, hn, _⟩
  · refine ⟨none, 0, by rw [h2], by omega, fun i a hi => ?_⟩
    have := (List.getElem?_eq_some_iff.1 hi).1
    omega
  · refine ⟨some ⟨g, 0, none⟩, cap, rfl, hn, fun i a hi => ⟨g, rfl, rfl, fun j u hu => ?_⟩⟩
    have := h0.cells (g := g) rfl _ _ (flat_at hk l i j a u hi hu)
    simpa [Addr.add_lit] using this
end
theorem flat_one {α : Type} {c : α → List Value} (h1 : ∀ a, ∀ u ∈ c a, u.oneCell' = true) (l : List α) : ∀ u ∈ l.flatMap c, u.oneCell' = true := fun u hu => by
  obtain ⟨a, _, ha⟩ := List.mem_flatMap.1 hu
  exact h1 a u ha
end Go.Proofs.YtglaocghcgcghaaGreatDoor
