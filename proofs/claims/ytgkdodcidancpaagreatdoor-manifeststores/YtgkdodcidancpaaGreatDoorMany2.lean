/-
  SEVERAL TEXTS IN ONE: CodFrame, CodLives, CodRead, CrcPlain, TxtB, RegCl, AppRun, BytEq, SrtNat.
-/
import Derived.Test.YtgkdodcidancpaaGreatDoorMany1
import Derived.Laws.CopyOwn
import Derived.Deep.RegionWith
import Derived.Lib.SlBytesConst
import Derived.WalkLawsBesides
import Derived.WalkSmall
import Derived.Deep.QuietTactic
import Derived.BigQuiet
import Derived.Test.YtgkdodcidancpaaGreatDoorOwn
import Derived.WalkKit
import Derived.Test.YtgkdodcidancpaaGreatDoorChecked
namespace Go.Proofs.YtgkdodcidancpaaGreatDoor
open Go.RowKit

set_option maxRecDepth 100000 in
set_option maxHeartbeats 400000 in
theorem setWord_any (g off len cap : Nat) (l : List UInt8) (x : Nat) (w : World) (hx : x < 4294967296) (h4 : 4 ≤ len) (hlen : len ≤ 140737488355000) (hr : Row w g l) (hl : off + 4 ≤ l.length) :
    Calls Tryz.prog 91 #[.slice (some ⟨g, off, none⟩) len cap, .int .u32 x] w fun e w' => e = .returned (.tuple #[]) ∧ Row w' g (layL l off x 4) ∧ w.grownBy w' (some g) ∧ w'.heap.size = w.heap.size := by
  go_enter Tryz.func91, Tryz.ntmps91
  go_wp2
  go_loopw [5] (fun i wr => ∃ k : Nat, k ≤ 4 ∧ i = .int .i64 k ∧ Row wr g (layL l off x k) ∧ w.grownBy wr (some g) ∧ wr.heap.size = w.heap.size) (fun i _ => 4 - (intOf i).toNat)
  case atStart => exact ⟨0, Nat.zero_le _, rfl, by rw [layL_zero]; exact hr, World.grownBy.refl _ _, rfl⟩
  case round =>
    obtain ⟨k, hk, rfl, hrow, hg, hsz⟩ := hrel
    by_cases hlt : k < 4
    · have hcell := hrow.cell (off + k) (by rw [layL_length _ _ _ _ (by omega) (by omega)]; omega)
      have hfr := hrow.frozen (off + k)
      rcases (show k = 0 ∨ k = 1 ∨ k = 2 ∨ k = 3 by omega) with rfl | rfl | rfl | rfl
      all_goals
        try simp only [Nat.add_zero] at hcell hfr
        go_wp2
        go_roundw
        case rel =>
          refine ⟨_ + 1, by omega, rfl, ?_, grownBy_setCell hg, (size_setCell _ _ _).trans hsz⟩
          rw [← layL_step l off x _ (by omega) (by omega)]
          refine hrow.setZ _ _ _ ?_
          simp [fourL]
          try omega
        case measure => simp [intOf]
    · go_wp2
      go_end0
      obtain rfl : k = 4 := by omega
      exact ⟨rfl, hrow, hg, hsz⟩

set_option maxRecDepth 100000 in
set_option maxHeartbeats 400000 in
theorem frameSum_any (b off hn hcap : Nat) (h4 : List UInt8) (co : Option Addr) (l : List UInt8) (cap : Nat) (w : World) (h1 : 4 ≤ hn) (h2 : hn ≤ hcap) (hcm : hcap ≤ 9223372036854775807) (h3 : h4.length = 4) (hs : Sees w (some ⟨b, off, none⟩) h4) (hc : Sees w co l) (hl : l.length ≤ 140737488355000) (ht : Tab w) :
    Calls Tryz.prog 92 #[.slice (some ⟨b, off, none⟩) hn hcap, .slice co l.length cap] w fun e w' => e = .returned (.int .u32 (sumZ (h4 ++ l))) ∧ w' = w := by
  have hb4 := sumOnZ_bd 4294967295 h4 ⟨by decide, by decide⟩
  have hbd := sumOnZ_bd 4294967295 (h4 ++ l) ⟨by decide, by decide⟩
  have hn := not_u32 _ hbd.1 hbd.2
  have he : Hid (sumZ (h4 ++ l) = 4294967295 - sumOnZ 4294967295 (h4 ++ l)) := rfl
  rw [sumOnZ_append] at hn hbd he
  go_enter Tryz.func92, Tryz.ntmps92
  go_wp2_with fail
  refine (sumOn_len 4294967295 (some ⟨b, off, none⟩) h4 4 hcap _ ⟨by decide, by decide⟩ h3 (by decide) ht hs).mono ?_
  rintro e w' ⟨rfl, rfl⟩
  go_wp2_with fail
  refine (sumOn_any _ co l cap _ hb4 (by unfold maxLen; omega) ht hc).mono ?_
  rintro e w' ⟨rfl, rfl⟩
  go_wp2_with fail
  go_ret
  exact ⟨ret_int he.out.symm, rfl⟩

theorem Tab.below {w w' : World} (h : Tab w) {B : Nat} (hb : Below B w w') (hB : w.heap.size ≤ B) : Tab w' := by
  intro j hj
  have h1 := h j hj
  have hlt := World.block_lt_of_cell? _ _ h1
  rw [hb.cell (p := ⟨0, j, none⟩) (by omega), h1]

theorem made8 (m : Nat) : (madeCells (Value.int .u8 0).cells (m * 1)).toList = B8 (List.replicate m 0) := by
  have h : (Value.int .u8 0).cells = #[.int .u8 0] := rfl
  rw [h, Nat.mul_one]
  apply List.ext_getElem
  · simp [madeCells, B8]
  · intro i h1 h2
    simp [madeCells, B8, Nat.mod_one]

theorem frame_bytes (l : List UInt8) (n S : Nat) (hn : n = l.length) : splice (B8 (layL (layL (List.replicate (n + 8) 0) 0 n 4) 4 S 4)) 8 (B8 l) = B8 (fourL n ++ (fourL S ++ l)) := by
  have e : layL (layL (List.replicate (n + 8) 0) 0 n 4) 4 S 4 = fourL n ++ (fourL S ++ List.replicate n 0) := by
    simp [layL, fourL, Nat.add_sub_cancel]
  rw [e]
  have h1 : (B8 (fourL n ++ (fourL S ++ List.replicate n 0))).take 8 = B8 (fourL n ++ fourL S) := by simp [B8, fourL]
  have h2 : (B8 (fourL n ++ (fourL S ++ List.replicate n 0))).drop (8 + l.length) = [] := by
    rw [List.drop_eq_nil_of_le]
    rw [B8_length]
    simp [fourL]
    omega
  unfold splice
  rw [B8_length, h1, h2, ← List.append_assoc (fourL n), B8_append (fourL n ++ fourL S)]
  simp

theorem sees_cells {w : World} {ao : Option Addr} {l : List UInt8} (h : Sees w ao l) (hp : 0 < l.length) : ∃ ad, ao = some ad ∧ ∀ j v, (B8 l)[j]? = some v → w.cell? (ad.add j) = some v := by
  obtain ⟨a, rfl, _⟩ := h 0 hp
  exact ⟨a, rfl, h.cells⟩

/-- Too long for a frame. -/
theorem frame_long (ao : Option Addr) (n cap : Nat) (w : World) (h : 262144 < n) (hn : n ≤ 140737488355328) :
    Calls Tryz.prog 50 #[.slice ao n cap] w fun e w' => e = .returned (.slice none 0 0) ∧ w' = w := by
  go_enter Tryz.func50, Tryz.ntmps50
  go_wp2
  go_ret
  exact ⟨rfl, rfl⟩

set_option maxRecDepth 100000 in
set_option maxHeartbeats 800000 in
theorem frame_any (ao : Option Addr) (l : List UInt8) (cap : Nat) (w : World) (hl : l.length ≤ 262144) (hs : Sees w ao l) (hnone : ao = none → l.length = 0) (ht : Tab w) :
    Calls Tryz.prog 50 #[.slice ao l.length cap] w fun e w' => e = .returned (.slice (some ⟨w.heap.size, 0, none⟩) (l.length + 8) (l.length + 8)) ∧ Row w' w.heap.size (frameL l) ∧ Below w.heap.size w w' := by
  obtain ⟨i0, hi, hz0, hz1, hz2⟩ := info_parts info8
  have Hnone : Hid (ao = none → l.length = 0) := hnone
  clear hnone
  go_enter Tryz.func50, Tryz.ntmps50
  go_wp2_with (at_make; go_must (refine wpList_make_full _ rfl _ _ 58 rfl w.heap.size 5 i0 (.int .u8 0) 1 Tryz.underlying58 hi hz0 hz1 .i64 .i64 _ _ (l.length + 8) rfl rfl (by omega) (by omega) (by rw [hz2]; omega) (by unfold maxLen; omega) (Nat.le_refl _) ?_; intro w1 ho1 hg1))
  rw [made8] at ho1
  obtain ⟨hr1, hl1, _⟩ := Row.of_owns ho1
  have hb1 : Below w.heap.size w w1 := (Below.refl _ _).grown hg1 (Nat.le_refl _) (fun k hk => by cases hk)
  clear ho1
  refine (setWord_any w.heap.size 0 _ _ _ l.length _ (by omega) (by omega) (by omega) hr1 (by simp)).mono ?_
  rintro e w2 ⟨rfl, hr2, hg2, hsz2⟩
  have hb2 : Below w.heap.size w w2 := hb1.grown hg2 hb1.size (fun k hk => by cases hk; exact Nat.le_refl _)
  have hlen2 : (layL (List.replicate (l.length + 8) 0) 0 l.length 4).length = l.length + 8 := by rw [layL_length _ _ _ _ (by omega) (by simp)]; simp
  have hs4 : Sees w2 (some ⟨w.heap.size, 0, none⟩) (fourL l.length) := by
    have := hr2.sees 0 4 (by omega)
    simpa [layL, fourL] using this
  obtain ⟨S, hS⟩ := Int.eq_ofNat_of_zero_le (sumZ_bd (fourL l.length ++ l)).1
  have hS32 : S < 4294967296 := by have := (sumZ_bd (fourL l.length ++ l)).2; omega
  have HS : Hid (sumZ (fourL l.length ++ l) = (S : Int)) := hS
  clear hS
  have hs2 := hs.below hb2 (Nat.le_refl _)
  have ht2 := ht.below hb2 (Nat.le_refl _)
  go_wp2_with fail
  go_region_with (first
    | (go_at_call 92; go_must (refine (frameSum_any w.heap.size 0 (l.length + 8) (l.length + 8) (fourL l.length) ao l cap _ (by omega) (by omega) (by omega) rfl (by exact hs4) (by exact hs2) (by omega) (by exact ht2)).mono ?_; rintro e w' ⟨rfl, rfl⟩; rw [HS.out]))
    | (go_at_call 91; go_must (refine (setWord_any w.heap.size 4 _ _ (layL (List.replicate (l.length + 8) 0) 0 l.length 4) S _ hS32 (by omega) (by omega) (by exact hr2) (by omega)).mono ?_; rintro e w3 ⟨rfl, hr3, hg3, hsz3⟩)))
  all_goals
    have hb3 : Below w.heap.size w w3 := hb2.drew.grown hg3 hb2.size (fun k hk => by cases hk; exact Nat.le_refl _)
    have hs3 := hs.below hb3 (Nat.le_refl _)
    have hlen3 : (layL (layL (List.replicate (l.length + 8) 0) 0 l.length 4) 4 S 4).length = l.length + 8 := by rw [layL_length _ _ _ _ (by omega) (by omega)]; exact hlen2
    have hfin : Hid (splice (B8 (layL (layL (List.replicate (l.length + 8) 0) 0 l.length 4) 4 S 4)) 8 (B8 l) = B8 (frameL l)) := by
      unfold frameL
      rw [HS.out, Int.toNat_natCast]
      exact frame_bytes l l.length S rfl
    generalize layL (layL (List.replicate (l.length + 8) 0) 0 l.length 4) 4 S 4 = L3 at *
    clear hr1 hr2 hg1 hg2 hb1 hb2 hs2 ht2 hs4 hsz2 hlen2 hg3 hsz3 HS
    by_cases h0 : l.length = 0
    · go_wp2_with ((with_reducible (show wpList _ _ _ (Oper.mk _ (Op.call ⟨Callee.builtin Builtin.copy, _, _⟩) _ _ _ _ :: _) _ _)); go_must (refine wpList_copy_splice rfl _ _ 58 58 rfl 5 Tryz.underlying58 (by rw [hi]; simp [hz1]) _ _ _ _ _ _ rfl rfl w.heap.size 8 (B8 L3) 5 (by exact hr3) (B8 l) (by rw [B8_length, h0]; rfl) (fun h => by rw [B8_length] at h; omega) (by rw [B8_length, B8_length]; omega) (B8_one _) w.heap.size w hb3 (Nat.le_refl _) ?_; intro w4 hr4 hb4))
      go_ret
      refine ⟨by rw [h0]; rfl, ?_, hb4⟩
      unfold Row
      rw [hr4.out, hfin.out]
    · go_wp2_with ((with_reducible (show wpList _ _ _ (Oper.mk _ (Op.call ⟨Callee.builtin Builtin.copy, _, _⟩) _ _ _ _ :: _) _ _)); go_must (refine wpList_copy_splice rfl _ _ 58 58 rfl 5 Tryz.underlying58 (by rw [hi]; simp [hz1]) _ _ _ _ _ _ rfl rfl w.heap.size 8 (B8 L3) 5 (by exact hr3) (B8 l) (by rw [B8_length]; simp) (fun h => ⟨rfl, sees_cells hs3 (by omega)⟩) (by rw [B8_length, B8_length]; omega) (B8_one _) w.heap.size w hb3 (Nat.le_refl _) ?_; intro w4 hr4 hb4))
      go_ret
      refine ⟨rfl, ?_, hb4⟩
      unfold Row
      rw [hr4.out, hfin.out]
end Go.Proofs.YtgkdodcidancpaaGreatDoor
namespace Go.Proofs.YtgkdodcidancpaaGreatDoor
open Go.RowKit

theorem sees_lit (w : World) (l : List UInt8) (pr : Nat × Nat) : Sees (w.alloc (.cells (B8 l).toArray 5 pr)) (some ⟨w.heap.size, 0, none⟩) l := by
  intro i hi
  refine ⟨_, rfl, ?_⟩
  have h : (w.alloc (.cells (B8 l).toArray 5 pr)).heap[w.heap.size]? = some (.cells (B8 l).toArray 5 pr) := heap_alloc_new w _
  have e := B8_at l i hi
  rw [Addr.add_lit, Nat.zero_add]
  simp only [World.cell?, h]
  simpa using e

end Go.Proofs.YtgkdodcidancpaaGreatDoor
namespace Go.Proofs.YtgkdodcidancpaaGreatDoor
open Go.RowKit

/-- A reader in block R: its bytes are l (at ao), n of them are read. -/
structure Rd (w : World) (R : Nat) (ao : Option Addr) (l : List UInt8) (cap n : Nat) : Prop where
  c0 : w.cell? ⟨R, 0, none⟩ = some (.slice ao l.length cap)
  c1 : w.cell? ⟨R, 1, none⟩ = some (.int .i64 n)
  f1 : w.frozen? ⟨R, 1, none⟩ = false
  le : n ≤ l.length
  max : l.length ≤ 140737488355000
  sees : Sees w ao l
  ne : l.length ≠ 0 → ∀ a, ao = some a → a.block ≠ R
/-- What a reader panics with lies where it lies. -/
def Err (w : World) (u : TypeId) (pv : Value) : Prop := w.cell? ⟨1, 0, none⟩ = some (.iface u pv)

theorem Rd.drewN {w : World} {R : Nat} {ao : Option Addr} {l : List UInt8} {cap n : Nat} (h : Rd w R ao l cap n) (k : Nat) : Rd (w.drewN k) R ao l cap n := ⟨h.c0, h.c1, h.f1, h.le, h.max, h.sees, h.ne⟩

/-- The reader goes to another place. -/
theorem Rd.set {w : World} {R : Nat} {ao : Option Addr} {l : List UInt8} {cap n : Nat} (h : Rd w R ao l cap n) {m : Nat} (hm : m ≤ l.length) (z : Int) (hz : z = (m : Int)) : Rd (w.setCell ⟨R, 1, none⟩ (.int .i64 z)) R ao l cap m := by
  subst hz
  refine ⟨?_, ?_, ?_, hm, h.max, ?_, h.ne⟩
  · rw [World.cell?_setCell_other _ _ _ _ (by simp)]; exact h.c0
  · exact World.cell?_setCell_same _ _ _ h.c1
  · rw [World.frozen?_setCell]; exact h.f1
  · intro i hi
    obtain ⟨a, e, hc⟩ := h.sees i hi
    refine ⟨a, e, ?_⟩
    rw [World.cell?_setCell_other _ _ _ _ ?_]
    · exact hc
    · intro e'
      have := congrArg Addr.block e'
      rw [Addr.add_block] at this
      exact h.ne (by omega) a e this.symm
theorem grownBy_drewN {w w' : World} {r : Option Nat} (h : w.grownBy w' r) (k : Nat) : w.grownBy (w'.drewN k) r := ⟨h.os, h.tape, h.output, h.size, h.block⟩

set_option maxRecDepth 100000 in
set_option maxHeartbeats 400000 in
theorem octet_end (R : Nat) (ao : Option Addr) (l : List UInt8) (cap n : Nat) (w : World) (u : TypeId) (pv : Value) (h : Rd w R ao l cap n) (hn : n = l.length) (he : Err w u pv) :
    Calls Tryz.prog 141 #[.pointer (some ⟨R, 0, none⟩)] w fun e w' => e = .panicked [{ v := .iface u pv, recovered := false }] ∧ ∃ k, w' = w.drewN k := by
  have c0 := h.c0
  have c1 := h.c1
  have hm := h.max
  have hle := h.le
  have hcmp : ((n : Int) == (l.length : Int)) = true := by simp [hn]
  unfold Err at he
  clear h hn
  go_enter Tryz.func141, Tryz.ntmps141
  go_wp2
  go_quiet (fail)
  go_wp2
  exact ⟨rfl, rfl, nq, rfl⟩

theorem sees_at {w : World} {ao : Option Addr} {l : List UInt8} (h : Sees w ao l) {n : Nat} (hn : n < l.length) : ∃ b off, ao = some ⟨b, off, none⟩ ∧ w.cell? ⟨b, off + n, none⟩ = some (.int .u8 ((l.getD n 0).toNat : Int)) := by
  obtain ⟨a, rfl, hc⟩ := h n hn
  obtain ⟨a', e, hc0⟩ := h 0 (by omega)
  obtain rfl := Option.some.inj e
  obtain ⟨b, off, spot⟩ := a
  have hspot : spot = none := by simpa [Addr.add] using World.cell?_spot hc0
  subst hspot
  exact ⟨b, off, rfl, by rw [Addr.add_lit] at hc; exact hc⟩

set_option maxRecDepth 100000 in
set_option maxHeartbeats 400000 in
theorem octet_ok (R : Nat) (ao : Option Addr) (l : List UInt8) (cap n : Nat) (w : World) (h : Rd w R ao l cap n) (hn : n < l.length) :
    Calls Tryz.prog 141 #[.pointer (some ⟨R, 0, none⟩)] w fun e w' => e = .returned (.int .u8 ((l.getD n 0).toNat : Int)) ∧ Rd w' R ao l cap (n + 1) ∧ w.grownBy w' (some R) := by
  have c0 := h.c0
  have c1 := h.c1
  have f1 := h.f1
  have hm := h.max
  have hle := h.le
  have hcmp : ((n : Int) == (l.length : Int)) = false := by simp; omega
  obtain ⟨b, off, ha, hc⟩ := sees_at h.sees hn
  have hne : b ≠ R := h.ne (by omega) _ ha
  subst ha
  have H := h
  clear h
  go_enter Tryz.func141, Tryz.ntmps141
  go_wp2
  go_quiet (fail)
  go_wp2
  go_quiet (fail)
  go_wp2
  go_ret
  refine ⟨ret_int (by simp [hn]), (Rd.set (H.drewN _) (by omega) _ (by omega)).drewN _, grownBy_drewN (grownBy_setCell (grownBy_drewN (World.grownBy.refl _ _) _)) _⟩
end Go.Proofs.YtgkdodcidancpaaGreatDoor
namespace Go.Proofs.YtgkdodcidancpaaGreatDoor
open Go.RowKit

/-- One step of the sum, without a byte. -/
def crcF (c : Nat) : Nat := (c / 2) ^^^ (if c % 2 = 1 then 3988292384 else 0)
/-- One step of the sum, with bit k of a byte. -/
def crcS (c x k : Nat) : Nat := (c / 2) ^^^ (if (c + x / 2 ^ k) % 2 = 1 then 3988292384 else 0)
/-- The first j steps. -/
def crcSs (c x : Nat) : Nat → Nat
  | 0 => c
  | j + 1 => crcS (crcSs c x j) x j
theorem xor_half (a b : Nat) : (a ^^^ b) / 2 = a / 2 ^^^ b / 2 := Nat.xor_div_two
theorem xor_par (a b : Nat) : (a ^^^ b) % 2 = (a + b) % 2 := by
  have h := Nat.testBit_xor a b 0
  simp only [Nat.testBit_zero] at h
  rcases Nat.mod_two_eq_zero_or_one a with ha | ha <;> rcases Nat.mod_two_eq_zero_or_one b with hb | hb <;> rcases Nat.mod_two_eq_zero_or_one (a ^^^ b) with hc | hc <;> simp [ha, hb, hc] at h <;> omega
theorem crcF_xor (a b : Nat) : crcF (a ^^^ b) = crcF a ^^^ crcF b := by
  unfold crcF
  rw [xor_half, xor_par]
  have e : (if (a + b) % 2 = 1 then 3988292384 else 0) = (if a % 2 = 1 then 3988292384 else 0) ^^^ (if b % 2 = 1 then 3988292384 else 0) := by
    rcases Nat.mod_two_eq_zero_or_one a with ha | ha <;> rcases Nat.mod_two_eq_zero_or_one b with hb | hb <;> simp [Nat.add_mod, ha, hb]
  rw [e]
  ac_rfl
theorem crcS_xor (c x k : Nat) : crcS c x k ^^^ x / 2 ^ (k + 1) = crcF (c ^^^ x / 2 ^ k) := by
  unfold crcS crcF
  rw [xor_half, xor_par, Nat.div_div_eq_div_mul, ← Nat.pow_succ]
  ac_rfl
theorem crcSs_xor (c x : Nat) : ∀ j, crcSs c x j ^^^ x / 2 ^ j = Nat.repeat crcF j (c ^^^ x)
  | 0 => by simp [crcSs, Nat.repeat]
  | j + 1 => by rw [crcSs, crcS_xor, crcSs_xor c x j]; rfl
theorem crcF4 (s : Nat) : crcF (crcF (crcF (crcF s))) = (s / 16) ^^^ (tabZ.getD (s % 16) 0).toNat := by
  have e : s = (16 * (s / 16)) ^^^ (s % 16) := by
    apply Nat.eq_of_testBit_eq
    intro i
    rw [Nat.testBit_xor, show 16 * (s / 16) = 2 ^ 4 * (s / 2 ^ 4) by omega, Nat.testBit_two_pow_mul, show s % 16 = s % 2 ^ 4 by omega, Nat.testBit_mod_two_pow, Nat.testBit_div_two_pow]
    by_cases hi : i < 4
    · have h2 : ¬ 4 ≤ i := by omega
      simp [hi, h2]
    · have h2 : 4 ≤ i := by omega
      have h3 : i - 4 + 4 = i := by omega
      simp [hi, h2, h3]
  have ev : ∀ n, crcF (2 * n) = n := by intro n; unfold crcF; simp
  have e16 : ∀ q, crcF (crcF (crcF (crcF (16 * q)))) = q := by
    intro q
    rw [show 16 * q = 2 * (2 * (2 * (2 * q))) by omega, ev, ev, ev, ev]
  have er : ∀ r, r < 16 → crcF (crcF (crcF (crcF r))) = (tabZ.getD r 0).toNat := by decide
  rw [e, crcF_xor, crcF_xor, crcF_xor, crcF_xor, e16, er _ (by omega), ← e]

theorem tabZ_bd (r : Nat) : 0 ≤ tabZ.getD r 0 ∧ tabZ.getD r 0 < 4294967296 := by
  rcases Nat.lt_or_ge r 16 with h | h
  · have : ∀ r, r < 16 → 0 ≤ tabZ.getD r 0 ∧ tabZ.getD r 0 < 4294967296 := by decide
    exact this r h
  · have e : tabZ.getD r 0 = 0 := by simp [List.getD, List.getElem?_eq_none (show tabZ.length ≤ r from h)]
    omega
theorem fourZ_nat (s : Nat) (h : s < 4294967296) : fourZ (s : Int) = ((crcF (crcF (crcF (crcF s))) : Nat) : Int) := by
  unfold fourZ
  have e : ((s : Int) % 16).toNat = s % 16 := by omega
  have hb := tabZ_bd (s % 16)
  rw [e, crcF4, u32_xor _ _ (by omega) (by omega) hb.1 hb.2]
  congr 2
theorem crcF_lt (c : Nat) (h : c < 4294967296) : crcF c < 4294967296 := by
  unfold crcF
  have h1 : c / 2 < 2 ^ 32 := by omega
  have h2 : (if c % 2 = 1 then 3988292384 else 0) < 2 ^ 32 := by split <;> decide
  exact Nat.xor_lt_two_pow h1 h2
theorem crcSs_lt (c x : Nat) (h : c < 4294967296) : ∀ j, crcSs c x j < 4294967296
  | 0 => h
  | j + 1 => by
    have h1 : crcSs c x j / 2 < 2 ^ 32 := by have := crcSs_lt c x h j; omega
    have h2 : (if (crcSs c x j + x / 2 ^ j) % 2 = 1 then 3988292384 else 0) < 2 ^ 32 := by split <;> decide
    exact Nat.xor_lt_two_pow h1 h2
/-- Eight steps are what the codec makes of a byte. -/
theorem byteZ_nat (c x : Nat) (hc : c < 4294967296) (hx : x < 256) : byteZ (c : Int) (x : Int) = ((crcSs c x 8 : Nat) : Int) := by
  have h8 := crcSs_xor c x 8
  rw [show x / 2 ^ 8 = 0 by omega, Nat.xor_zero] at h8
  have hcx : c ^^^ x < 4294967296 := Nat.xor_lt_two_pow (n := 32) hc (by omega)
  unfold byteZ
  rw [u32_xor_nat c x hc (by omega), fourZ_nat _ hcx, fourZ_nat _ (crcF_lt _ (crcF_lt _ (crcF_lt _ (crcF_lt _ hcx)))), h8]
  rfl
theorem bit_text (c x k : Nat) (hc : c < 4294967296) (hx : x < 256) : bits BinOp.and IntKind.u32 (bits BinOp.xor IntKind.u32 (c : Int) ((x : Int) / 2 ^ k)) 1 = (((c + x / 2 ^ k) % 2 : Nat) : Int) := by
  have hk : x / 2 ^ k < 4294967296 := Nat.lt_of_le_of_lt (Nat.div_le_self _ _) (by omega)
  have e : (x : Int) / 2 ^ k = ((x / 2 ^ k : Nat) : Int) := by simp
  have hx2 : c ^^^ x / 2 ^ k < 4294967296 := Nat.xor_lt_two_pow (n := 32) hc hk
  rw [e, u32_xor_nat c _ hc hk]
  have h := u32_and_nat (c ^^^ x / 2 ^ k) 1 hx2 (by omega)
  rw [Nat.and_one_is_mod, xor_par] at h
  exact h
theorem bit_text2 (c x k : Nat) (hc : c < 4294967296) (hx : x < 256) : bits BinOp.and IntKind.u32 (bits BinOp.xor IntKind.u32 (c : Int) ((x : Int) / 2 ^ k % 4294967296)) 1 = (((c + x / 2 ^ k) % 2 : Nat) : Int) := by
  have hk : x / 2 ^ k < 4294967296 := Nat.lt_of_le_of_lt (Nat.div_le_self _ _) (by omega)
  have e : (x : Int) / 2 ^ k = ((x / 2 ^ k : Nat) : Int) := by simp
  have e2 : (x : Int) / 2 ^ k % 4294967296 = (x : Int) / 2 ^ k := by rw [e]; generalize x / 2 ^ k = q at hk ⊢; omega
  rw [e2]
  exact bit_text c x k hc hx
theorem crcS_yes (c x k : Nat) (hc : c < 4294967296) (h : (c + x / 2 ^ k) % 2 = 1) : bits BinOp.xor IntKind.u32 ((c : Int) / 2) 3988292384 = ((crcS c x k : Nat) : Int) := by
  unfold crcS
  rw [if_pos h]
  have e := u32_xor_nat (c / 2) 3988292384 (by omega) (by omega)
  have e2 : ((c / 2 : Nat) : Int) = (c : Int) / 2 := by simp
  rw [← e, e2]
  rfl
theorem crcS_no (c x k : Nat) (h : (c + x / 2 ^ k) % 2 = 0) : (c : Int) / 2 = ((crcS c x k : Nat) : Int) := by
  unfold crcS
  rw [if_neg (by omega), Nat.xor_zero]
  simp

/-! ### Words. -/
/-- The number that bytes are, the greatest first. -/
def wordL (l : List UInt8) : Nat := l.foldl (fun w b => w * 256 + b.toNat) 0
theorem or_byte (a x : Nat) (ha : a < 16777216) (hx : x < 256) : bits BinOp.or IntKind.u32 ((a : Int) * 256) (x : Int) = ((a * 256 + x : Nat) : Int) := by
  have e : (a : Int) * 256 = ((a * 256 : Nat) : Int) := by simp
  rw [e, u32_or_nat (a * 256) x (by omega) (by omega)]
  have h := Nat.two_pow_add_eq_or_of_lt (i := 8) (b := x) (by omega) a
  rw [show 2 ^ 8 * a = a * 256 by omega] at h
  rw [h]
theorem wordL_four (x : Nat) (h : x < 4294967296) : wordL (fourL x) = x := by
  simp [wordL, fourL]
  omega
theorem wordL_lt (l : List UInt8) (h : l.length ≤ 4) : wordL l < 4294967296 := by
  have hb : ∀ b : UInt8, b.toNat < 256 := fun b => b.toNat_lt
  match l, h with
  | [], _ => decide
  | [a], _ => have := hb a; simp [wordL]; omega
  | [a, b], _ => have := hb a; have := hb b; simp [wordL]; omega
  | [a, b, c], _ => have := hb a; have := hb b; have := hb c; simp [wordL]; omega
  | [a, b, c, d], _ => have := hb a; have := hb b; have := hb c; have := hb d; simp [wordL]; omega
theorem wordL_lt3 (l : List UInt8) (h : l.length ≤ 3) : wordL l < 16777216 := by
  have hb : ∀ b : UInt8, b.toNat < 256 := fun b => b.toNat_lt
  match l, h with
  | [], _ => decide
  | [a], _ => have := hb a; simp [wordL]; omega
  | [a, b], _ => have := hb a; have := hb b; simp [wordL]; omega
  | [a, b, c], _ => have := hb a; have := hb b; have := hb c; simp [wordL]; omega
/-- What lies above, and what lies below, a bit. -/
theorem or_at (p q k : Nat) (hk : q < 2 ^ k) (hp : 2 ^ k * p + q < 4294967296) : bits BinOp.or IntKind.u32 ((2 ^ k * p : Nat) : Int) (q : Int) = ((2 ^ k * p + q : Nat) : Int) := by
  rw [u32_or_nat _ _ (by omega) (by omega), ← Nat.two_pow_add_eq_or_of_lt hk p]
theorem fourth_text (a b c d : Nat) (ha : a < 256) (hb : b < 256) (hc : c < 256) (hd : d < 256) :
    bits BinOp.or IntKind.u32 (bits BinOp.or IntKind.u32 (bits BinOp.or IntKind.u32 ((a : Int) * 16777216) ((b : Int) * 65536)) ((c : Int) * 256)) (d : Int) = (a : Int) * 16777216 + (b : Int) * 65536 + (c : Int) * 256 + (d : Int) := by
  have h1 := or_at a (b * 65536) 24 (by omega) (by omega)
  have h2 := or_at (a * 256 + b) (c * 256) 16 (by omega) (by omega)
  have h3 := or_at (a * 65536 + b * 256 + c) d 8 (by omega) (by omega)
  rw [show ((2 ^ 24 * a : Nat) : Int) = (a : Int) * 16777216 by omega, show ((b * 65536 : Nat) : Int) = (b : Int) * 65536 by omega] at h1
  rw [h1]
  rw [show ((c * 256 : Nat) : Int) = (c : Int) * 256 by omega] at h2
  rw [show ((2 ^ 24 * a + b * 65536 : Nat) : Int) = ((2 ^ 16 * (a * 256 + b) : Nat) : Int) by omega, h2]
  rw [show ((2 ^ 16 * (a * 256 + b) + c * 256 : Nat) : Int) = ((2 ^ 8 * (a * 65536 + b * 256 + c) : Nat) : Int) by omega, h3]
  omega
end Go.Proofs.YtgkdodcidancpaaGreatDoor
namespace Go.Proofs.YtgkdodcidancpaaGreatDoor
open Go.RowKit

def tB (l : List UInt8) : ByteArray := ⟨l.toArray⟩
theorem tB_list (l : List UInt8) : (tB l).data.toList = l := by simp [tB]
theorem tB_size (l : List UInt8) : (tB l).size = l.length := by show l.toArray.size = _; simp
theorem tB_of (s : ByteArray) : tB s.data.toList = s := by cases s; simp [tB]
theorem tB_inj {a b : List UInt8} (h : tB a = tB b) : a = b := by rw [← tB_list a, h, tB_list]
theorem tB_app (a b : List UInt8) : tB a ++ tB b = tB (a ++ b) := by
  have h : ∀ x y : ByteArray, x.data.toList = y.data.toList → x = y := fun x y e => by rw [← tB_of x, ← tB_of y, e]
  apply h
  rw [ByteArray.data_append, Array.toList_append, tB_list, tB_list, tB_list]
theorem tB_max (l : List UInt8) (h : l.length ≤ 1000) : (tB l).size ≤ maxLen := by rw [tB_size]; unfold maxLen; omega
end Go.Proofs.YtgkdodcidancpaaGreatDoor
namespace Go.Proofs.YtgkdodcidancpaaGreatDoor
open Go.RowKit

/-- A world in which all blocks below n are as they were in w. -/
structure Cl (n : Nat) (w : World) where
  u : World
  h : Below n w u
theorem Cl.inh (n : Nat) (w : World) : Nonempty (Cl n w) := ⟨⟨w, Below.refl n w⟩⟩
theorem wp_region_cl {P : Program} {id : Nat} {Q : Exit → Act → World → Prop} {a : Act} {w : World} {l : List Oper} (n : Nat) (hm : P.follows .mixedOrders = true) (hB : Region.lexB .any l.toArray = true)
    (h : wpQuiet P l.toArray (fun w' => ∃ p : Cl n w, w' = p.u) (fun a' => ∀ w', (∃ p : Cl n w, w' = p.u) → Q .normal a' w') l a) : (Code.region id l.toArray true).wp P Q a w :=
  wp_region_quiet (C := fun w' => ∃ p : Cl n w, w' = p.u) hm hB ⟨⟨w.drew, (Below.refl n w).drew⟩, rfl⟩ (by simpa using h)
theorem Cl.calls {P : Program} {f : FuncId} {args : Array Value} {n : Nat} {w : World} {p : Cl n w} {v : Value} (hn : n ≤ w.heap.size)
    (h : Calls P f args p.u fun e w' => e = .returned v ∧ Below p.u.heap.size p.u w') : Calls P f args p.u fun e w'' => e = .returned v ∧ ∃ q : Cl n w, w'' = q.u :=
  h.mono fun _ w' ⟨he, hb⟩ => ⟨he, ⟨w', p.h.trans (hb.mono (Nat.le_trans hn p.h.size))⟩, rfl⟩
theorem Cl.cell {n : Nat} {w : World} (p : Cl n w) {a : Addr} {v : Value} (hb : a.block < n) (h : w.cell? a = some v) : p.u.cell? a = some v := by rw [p.h.cell hb, h]
end Go.Proofs.YtgkdodcidancpaaGreatDoor
namespace Go.Proofs.YtgkdodcidancpaaGreatDoor
open Go.RowKit

theorem wpList_append_run {P : Program} (w : World) {ops : Array Oper} {rest : List Oper} {o : Oper} {a : Act} {Q : Exit → Act → World → Prop} (hgd : o.guard = none) (s x : Operand) (t tx : TypeId)
    (ho : o.op = .call { callee := .builtin .append, args := #[s, x], argTypes := #[t, tx] }) (v xv : Value) (hs : a.eval s = v) (hx : a.eval x = xv) {v' : Value} {w' : World}
    (hr : (Builtin.append_ #[t, tx] o.type #[v, xv]).run P w = .ok v' w') (h : wpList P ops Q rest (a.put o.dst v') w') : wpList P ops Q (o :: rest) a w := by
  refine wpList_plain hgd fun _ hK => ?_
  unfold Oper.wp execOp
  simp only [ho, resolve, invoke, builtin, Sem.run_bind, Sem.run_pure, Result.andThen_ok, List.map_toArray, List.map_cons, List.map_nil, hs, hx, hr]
  exact hK _ _ h
end Go.Proofs.YtgkdodcidancpaaGreatDoor
namespace Go.Proofs.YtgkdodcidancpaaGreatDoor
open Go.RowKit

set_option maxRecDepth 100000 in
theorem equal_any (ao bo : Option Addr) (la lb : List UInt8) (ca cb : Nat) (w : World) (ha : Sees w ao la) (hb : Sees w bo lb) (hna : ao = none → la.length = 0) (hnb : bo = none → lb.length = 0) :
    Calls Tryz.prog 80 #[.slice ao la.length ca, .slice bo lb.length cb] w fun e w' => e = .returned (.bool (la == lb)) ∧ w' = w := by
  have c1 := conv_sees ha hna ca
  have c2 := conv_sees hb hnb cb
  go_enter Tryz.func80, Tryz.ntmps80
  go_wp2_with fail
  go_ret
  exact ⟨rfl, rfl⟩
end Go.Proofs.YtgkdodcidancpaaGreatDoor
namespace Go.Proofs.YtgkdodcidancpaaGreatDoor

theorem mergeSort_nat {l l' : List Nat} (h : l.Perm l') : l.mergeSort (fun a b => decide (a ≤ b)) = l'.mergeSort (fun a b => decide (a ≤ b)) := by
  have tr : ∀ a b c : Nat, decide (a ≤ b) = true → decide (b ≤ c) = true → decide (a ≤ c) = true := fun a b c h1 h2 => by simp at *; omega
  have to : ∀ a b : Nat, (decide (a ≤ b) || decide (b ≤ a)) = true := fun a b => by simp; omega
  refine List.Perm.eq_of_pairwise (le := fun a b => decide (a ≤ b) = true) (fun a b _ _ h1 h2 => by simp at h1 h2; omega) (List.pairwise_mergeSort tr to l) (List.pairwise_mergeSort tr to l') (((List.mergeSort_perm l _).trans h).trans (List.mergeSort_perm l' _).symm)
theorem mergeSort_cast (l : List Nat) : (l.map fun n : Nat => (n : Int)).mergeSort (fun x y => decide (x ≤ y)) = (l.mergeSort (fun a b => decide (a ≤ b))).map fun n : Nat => (n : Int) := by
  have tr : ∀ a b c : Int, decide (a ≤ b) = true → decide (b ≤ c) = true → decide (a ≤ c) = true := fun a b c h1 h2 => by simp at *; omega
  have to : ∀ a b : Int, (decide (a ≤ b) || decide (b ≤ a)) = true := fun a b => by simp; omega
  have trn : ∀ a b c : Nat, decide (a ≤ b) = true → decide (b ≤ c) = true → decide (a ≤ c) = true := fun a b c h1 h2 => by simp at *; omega
  have ton : ∀ a b : Nat, (decide (a ≤ b) || decide (b ≤ a)) = true := fun a b => by simp; omega
  refine List.Perm.eq_of_pairwise (le := fun a b : Int => decide (a ≤ b) = true) (fun a b _ _ h1 h2 => by simp at h1 h2; omega) (List.pairwise_mergeSort tr to _) ?_ ?_
  · rw [List.pairwise_map]
    exact (List.pairwise_mergeSort trn ton l).imp fun h => by simp at *; omega
  · exact (List.mergeSort_perm _ _).trans ((List.mergeSort_perm l _).symm.map _)
end Go.Proofs.YtgkdodcidancpaaGreatDoor
