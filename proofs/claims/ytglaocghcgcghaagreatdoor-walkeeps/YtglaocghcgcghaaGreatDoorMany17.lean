/-
  SEVERAL TEXTS IN ONE: VerPlain, CodFrame, WkBegin, BlmNew.
-/
import Derived.Test.YtglaocghcgcghaaGreatDoorMany16
import Derived.Laws.CopyOwn
import Derived.Deep.RegionWith
import Derived.Test.YtglaocghcgcghaaGreatDoorMany15
import Derived.Test.YtglaocghcgcghaaGreatDoorMany6
import Derived.Laws.OwnMore
namespace Go.Proofs.YtglaocghcgcghaaGreatDoor
open Go.RowKit

/-- A version: its texts as they lie in memory. -/
structure Vr where
  time : Int
  dead : Bool
  loc : Int
  kind : Int
  num : Int
  s : ByteArray
def Vr.v (a : Vr) : Value := .agg #[.int .i64 a.time, .bool a.dead, .int .i64 a.loc, .int .i64 a.kind, .int .i64 a.num, .string a.s]
/-- What of a version is looked at. -/
def b01 (b : Bool) : Int := if b then 1 else 0
def Vr.see (a : Vr) : Int × (Int × (Int × (Int × (Int × List UInt8)))) := if a.dead then (a.time, 1, a.loc, 0, 0, []) else (a.time, 0, 0, a.kind, a.num, nb a.s)
def vl : (Int × (Int × (Int × (Int × (Int × List UInt8))))) → (Int × (Int × (Int × (Int × (Int × List UInt8))))) → Int := lex ci (lex ci (lex ci (lex ci (lex ci cb))))
theorem vl_cmpr : Cmpr vl := ci_cmpr.lex (ci_cmpr.lex (ci_cmpr.lex (ci_cmpr.lex (ci_cmpr.lex cb_cmpr))))
def cv (a b : Vr) : Int := vl a.see b.see
theorem cv_self (a : Vr) : cv a a = 0 := (vl_cmpr.z _ _).2 rfl
theorem cv_n (a b : Vr) : cv a b = - cv b a := vl_cmpr.n _ _
theorem cv_r (a b : Vr) : cv a b = -1 ∨ cv a b = 0 ∨ cv a b = 1 := vl_cmpr.r _ _
theorem cv_t (a b c : Vr) (h : cv a b ≤ 0) (g : cv b c ≤ 0) : cv a c ≤ 0 := vl_cmpr.t _ _ _ h g
theorem ci_self (a : Int) : ci a a = 0 := (ci_cmpr.z a a).2 rfl
theorem ci_ne {a b : Int} (h : a ≠ b) : ci a b ≠ 0 := fun e => h ((ci_cmpr.z a b).1 e)
theorem cv_time {a b : Vr} (h : a.time ≠ b.time) : cv a b = ci a.time b.time := by
  unfold cv vl lex Vr.see
  split <;> split <;> exact th_of (ci_ne h) _
theorem cv_dead {a b : Vr} (h : a.time = b.time) (ha : a.dead = true) (hb : b.dead = true) : cv a b = ci a.loc b.loc := by
  unfold cv vl lex Vr.see
  rw [ha, hb, h]
  simp only [if_true]
  rw [ci_self, th_zero, ci_self, th_zero]
  show th _ (th (ci 0 0) (th (ci 0 0) (cb [] []))) = _
  rw [ci_self, th_zero, th_zero, cb_nil_nil]
  unfold th; split <;> omega
theorem cv_left {a b : Vr} (h : a.time = b.time) (ha : a.dead = true) (hb : b.dead = false) : cv a b = 1 := by
  unfold cv vl lex Vr.see
  rw [ha, hb, h]
  simp only [if_true, Bool.false_eq_true, if_false]
  rw [ci_self, th_zero]
  exact th_of (by decide) _
theorem cv_right {a b : Vr} (h : a.time = b.time) (ha : a.dead = false) (hb : b.dead = true) : cv a b = -1 := by
  have := cv_left h.symm hb ha
  have := cv_n a b
  omega
theorem cv_live {a b : Vr} (h : a.time = b.time) (ha : a.dead = false) (hb : b.dead = false) : cv a b = fu [ci a.kind b.kind, ci a.num b.num, cb (nb a.s) (nb b.s)] := by
  unfold cv vl lex Vr.see
  rw [ha, hb, h]
  simp only [Bool.false_eq_true, if_false]
  rw [ci_self, th_zero, ci_self, th_zero, th_zero]
  show th _ (th _ _) = th _ (th _ (th _ 0))
  have : ∀ x, th x 0 = x := fun x => by unfold th; split <;> omega
  rw [this]
/-- Two versions are one, as the walk spells it. -/
def eqV (a b : Vr) : Bool := a.time == b.time && (a.dead == b.dead && (a.loc == b.loc && (a.kind == b.kind && (a.num == b.num && a.s.toList == b.s.toList))))
theorem eqV_iff (a b : Vr) : eqV a b = true ↔ a = b := by
  unfold eqV
  rw [ba_same]
  cases a; cases b
  simp only [Bool.and_eq_true, decide_eq_true_eq, beq_iff_eq, Vr.mk.injEq]
theorem eqV_self (a : Vr) : eqV a a = true := (eqV_iff a a).2 rfl
/-- The greater one. -/
def jn (a b : Vr) : Vr := if cv a b < 0 then b else a
theorem jn_or (a b : Vr) : jn a b = a ∨ jn a b = b := by unfold jn; split <;> simp
theorem jn_ge (a b : Vr) : 0 ≤ cv (jn a b) a ∧ 0 ≤ cv (jn a b) b := by
  have h1 := cv_self a; have h2 := cv_self b; have h3 := cv_n a b
  unfold jn; split <;> constructor <;> omega
theorem jn_self (a : Vr) : jn a a = a := by unfold jn; split <;> rfl

/-! ### Good cells -/
def zeroVal (a : Vr) : Bool := a.kind == 0 && (a.num == 0 && decide (a.s.size = 0))
def goodV (mark : Bool) (a : Vr) : Bool :=
  if a.dead then zeroVal a
  else a.loc == 0 && (if mark then zeroVal a else (a.kind == 1 && decide (a.s.size = 0)) || (a.kind == 2 && (a.num == 0 && decide (a.s.size ≤ 64))))
theorem size0 {s : ByteArray} (h : s.size = 0) : s = ⟨#[]⟩ := by
  have := (nb_empty s).2 h
  have h2 : nb (⟨#[]⟩ : ByteArray) = [] := rfl
  rw [← h2] at this; exact nb_inj.1 this
/-- Of good versions only those that are the same are alike. -/
theorem good_inj {m : Bool} {a b : Vr} (ha : goodV m a = true) (hb : goodV m b = true) (h : cv a b = 0) : a = b := by
  have h := (vl_cmpr.z _ _).1 h
  obtain ⟨ta, da, la, ka, na, sa⟩ := a
  obtain ⟨tb, db, lb, kb, nb', sb⟩ := b
  cases da <;> cases db <;> simp [Vr.see, goodV, zeroVal] at h ha hb ⊢
  · obtain ⟨rfl, rfl, rfl, hs⟩ := h
    exact ⟨rfl, by omega, rfl, rfl, nb_inj.1 hs⟩
  · obtain ⟨rfl, rfl⟩ := h
    exact ⟨rfl, rfl, by omega, by omega, ha.2.2.trans hb.2.2.symm⟩
theorem cv_lt_trans {a b c : Vr} (h : cv a b < 0) (g : cv b c < 0) : cv a c < 0 := vl_cmpr.strict h g
theorem jn_comm {m : Bool} {a b : Vr} (ha : goodV m a = true) (hb : goodV m b = true) : jn a b = jn b a := by
  have h3 := cv_n a b
  unfold jn
  split <;> split
  · omega
  · rfl
  · rfl
  · exact good_inj ha hb (by omega)
theorem jn_good {m : Bool} {a b : Vr} (ha : goodV m a = true) (hb : goodV m b = true) : goodV m (jn a b) = true := by
  rcases jn_or a b with h | h <;> rw [h] <;> assumption
theorem cv_le_lt {a b c : Vr} (h : cv a b ≤ 0) (g : cv b c < 0) : cv a c < 0 := by
  have h1 := cv_t a b c h (by omega)
  by_cases e : cv a c = 0
  · have h2 := cv_n a c
    have h3 := cv_t c a b (by omega) h
    have h4 := cv_n b c
    omega
  · omega
theorem cv_lt_le {a b c : Vr} (h : cv a b < 0) (g : cv b c ≤ 0) : cv a c < 0 := by
  have h1 := cv_t a b c (by omega) g
  by_cases e : cv a c = 0
  · have h2 := cv_n a c
    have h3 := cv_t b c a g (by omega)
    have h4 := cv_n a b
    omega
  · omega
theorem jn_assoc (a b c : Vr) : jn (jn a b) c = jn a (jn b c) := by
  have n1 := cv_n a b
  have n2 := cv_n b c
  have n3 := cv_n a c
  by_cases h1 : cv a b < 0
  · have e1 : jn a b = b := by unfold jn; rw [if_pos h1]
    rw [e1]
    by_cases h2 : cv b c < 0
    · have e2 : jn b c = c := by unfold jn; rw [if_pos h2]
      have h3 := cv_lt_trans h1 h2
      rw [e2]; unfold jn; rw [if_pos h3]
    · have e2 : jn b c = b := by unfold jn; rw [if_neg h2]
      rw [e2, e1]
  · have e1 : jn a b = a := by unfold jn; rw [if_neg h1]
    rw [e1]
    by_cases h2 : cv b c < 0
    · have e2 : jn b c = c := by unfold jn; rw [if_pos h2]
      rw [e2]
    · have e2 : jn b c = b := by unfold jn; rw [if_neg h2]
      have h3 : ¬ cv a c < 0 := fun h => by
        have := cv_lt_le (a := a) (b := c) (c := b) h (by omega)
        omega
      rw [e2, e1]; unfold jn; rw [if_neg h3]
/-- How two versions compare, how they are joined, of their parts. -/
def Vr.Ok (a : Vr) : Prop := InI a.time ∧ InI a.loc ∧ InI a.kind ∧ InI a.num ∧ a.s.size ≤ maxLen
end Go.Proofs.YtglaocghcgcghaaGreatDoor
namespace Go.Proofs.YtglaocghcgcghaaGreatDoor
open Go.RowKit

set_option maxRecDepth 100000 in
set_option maxHeartbeats 400000 in
theorem setWord_any (g off len cap : Nat) (l : List UInt8) (x : Nat) (w : World) (hx : x < 4294967296) (h4 : 4 ≤ len) (hlen : len ≤ 140737488355000) (hr : Row w g l) (hl : off + 4 ≤ l.length) :
    Calls Tryz.prog 82 #[.slice (some ⟨g, off, none⟩) len cap, .int .u32 x] w fun e w' => e = .returned (.tuple #[]) ∧ Row w' g (layL l off x 4) ∧ w.grownBy w' (some g) ∧ w'.heap.size = w.heap.size := by
  go_enter Tryz.func82, Tryz.ntmps82
  go_wp2
  go_loopw [5] (fun i wr => ∃ k : Nat, k ≤ 4 ∧ i = .int .i64 k ∧ Row wr g (layL l off x k) ∧ w.grownBy wr (some g) ∧ wr.heap.size = w.heap.size) (fun i _ => 4 - (intOf i).toNat)
  case atStart => exact ⟨0, Nat.zero_le _, rfl, by rw [layL_zero]; exact hr, World.grownBy.refl _ _, rfl⟩
  case round =>
    obtain ⟨k, hk, rfl, hrow, hg, hsz⟩ := hrel
    by_cases hlt : k < 4
    · have hcell := hrow.cell (off + k) (by rw [layL_length _ _ _ _ (by omega) (by omega)]; omega)
      have hfr := hrow.frozen (off + k)
      rcases (show k = 0 ∨ k = 1 ∨ k = 2 ∨ k = 3 by omega) with rfl | rfl | rfl | rfl
      all_goals
        try simp only [Nat.add_zero] at hcell hfr
        go_wp2
        go_roundw
        case rel =>
          refine ⟨_ + 1, by omega, rfl, ?_, grownBy_setCell hg, (size_setCell _ _ _).trans hsz⟩
          rw [← layL_step l off x _ (by omega) (by omega)]
          refine hrow.setZ _ _ _ ?_
          simp [fourL]
          try omega
        case measure => simp [intOf]
    · go_wp2
      go_end0
      obtain rfl : k = 4 := by omega
      exact ⟨rfl, hrow, hg, hsz⟩

set_option maxRecDepth 100000 in
set_option maxHeartbeats 400000 in
theorem frameSum_any (b off hn hcap : Nat) (h4 : List UInt8) (co : Option Addr) (l : List UInt8) (cap : Nat) (w : World) (h1 : 4 ≤ hn) (h2 : hn ≤ hcap) (hcm : hcap ≤ 9223372036854775807) (h3 : h4.length = 4) (hs : Sees w (some ⟨b, off, none⟩) h4) (hc : Sees w co l) (hl : l.length ≤ 140737488355000) (ht : Tab w) :
    Calls Tryz.prog 83 #[.slice (some ⟨b, off, none⟩) hn hcap, .slice co l.length cap] w fun e w' => e = .returned (.int .u32 (sumZ (h4 ++ l))) ∧ w' = w := by
  have hb4 := sumOnZ_bd 4294967295 h4 ⟨by decide, by decide⟩
  have hbd := sumOnZ_bd 4294967295 (h4 ++ l) ⟨by decide, by decide⟩
  have hn := not_u32 _ hbd.1 hbd.2
  have he : Hid (sumZ (h4 ++ l) = 4294967295 - sumOnZ 4294967295 (h4 ++ l)) := rfl
  rw [sumOnZ_append] at hn hbd he
  go_enter Tryz.func83, Tryz.ntmps83
  go_wp2_with fail
  refine (sumOn_len 4294967295 (some ⟨b, off, none⟩) h4 4 hcap _ ⟨by decide, by decide⟩ h3 (by decide) ht hs).mono ?_
  rintro e w' ⟨rfl, rfl⟩
  go_wp2_with fail
  refine (sumOn_any _ co l cap _ hb4 (by unfold maxLen; omega) ht hc).mono ?_
  rintro e w' ⟨rfl, rfl⟩
  go_wp2_with fail
  go_ret
  exact ⟨ret_int he.out.symm, rfl⟩

theorem Tab.below {w w' : World} (h : Tab w) {B : Nat} (hb : Below B w w') (hB : w.heap.size ≤ B) : Tab w' := by
  intro j hj
  have h1 := h j hj
  have hlt := World.block_lt_of_cell? _ _ h1
  rw [hb.cell (p := ⟨0, j, none⟩) (by omega), h1]

theorem made8 (m : Nat) : (madeCells (Value.int .u8 0).cells (m * 1)).toList = B8 (List.replicate m 0) := by
  have h : (Value.int .u8 0).cells = #[.int .u8 0] := rfl
  rw [h, Nat.mul_one]
  apply List.ext_getElem
  · simp [madeCells, B8]
  · intro i h1 h2
    simp [madeCells, B8, Nat.mod_one]

theorem frame_bytes (l : List UInt8) (n S : Nat) (hn : n = l.length) : splice (B8 (layL (layL (List.replicate (n + 8) 0) 0 n 4) 4 S 4)) 8 (B8 l) = B8 (fourL n ++ (fourL S ++ l)) := by
  have e : layL (layL (List.replicate (n + 8) 0) 0 n 4) 4 S 4 = fourL n ++ (fourL S ++ List.replicate n 0) := by
    simp [layL, fourL, Nat.add_sub_cancel]
  rw [e]
  have h1 : (B8 (fourL n ++ (fourL S ++ List.replicate n 0))).take 8 = B8 (fourL n ++ fourL S) := by simp [B8, fourL]
  have h2 : (B8 (fourL n ++ (fourL S ++ List.replicate n 0))).drop (8 + l.length) = [] := by
    rw [List.drop_eq_nil_of_le]
    rw [B8_length]
    simp [fourL]
    omega
  unfold splice
  rw [B8_length, h1, h2, ← List.append_assoc (fourL n), B8_append (fourL n ++ fourL S)]
  simp

theorem sees_cells {w : World} {ao : Option Addr} {l : List UInt8} (h : Sees w ao l) (hp : 0 < l.length) : ∃ ad, ao = some ad ∧ ∀ j v, (B8 l)[j]? = some v → w.cell? (ad.add j) = some v := by
  obtain ⟨a, rfl, _⟩ := h 0 hp
  exact ⟨a, rfl, h.cells⟩

/-- Too long for a frame. -/
theorem frame_long (ao : Option Addr) (n cap : Nat) (w : World) (h : 262144 < n) (hn : n ≤ 140737488355328) :
    Calls Tryz.prog 54 #[.slice ao n cap] w fun e w' => e = .returned (.slice none 0 0) ∧ w' = w := by
  go_enter Tryz.func54, Tryz.ntmps54
  go_wp2
  go_ret
  exact ⟨rfl, rfl⟩

set_option maxRecDepth 100000 in
set_option maxHeartbeats 800000 in
theorem frame_any (ao : Option Addr) (l : List UInt8) (cap : Nat) (w : World) (hl : l.length ≤ 262144) (hs : Sees w ao l) (hnone : ao = none → l.length = 0) (ht : Tab w) :
    Calls Tryz.prog 54 #[.slice ao l.length cap] w fun e w' => e = .returned (.slice (some ⟨w.heap.size, 0, none⟩) (l.length + 8) (l.length + 8)) ∧ Row w' w.heap.size (frameL l) ∧ Below w.heap.size w w' := by
  obtain ⟨i0, hi, hz0, hz1, hz2⟩ := info_parts info8
  have Hnone : Hid (ao = none → l.length = 0) := hnone
  clear hnone
  go_enter Tryz.func54, Tryz.ntmps54
  go_wp2_with (at_make; go_must (refine wpList_make_full _ rfl _ _ 37 rfl w.heap.size 5 i0 (.int .u8 0) 1 Tryz.underlying37 hi hz0 hz1 .i64 .i64 _ _ (l.length + 8) rfl rfl (by omega) (by omega) (by rw [hz2]; omega) (by unfold maxLen; omega) (Nat.le_refl _) ?_; intro w1 ho1 hg1))
  rw [made8] at ho1
  obtain ⟨hr1, hl1, _⟩ := Row.of_owns ho1
  have hb1 : Below w.heap.size w w1 := (Below.refl _ _).grown hg1 (Nat.le_refl _) (fun k hk => by cases hk)
  clear ho1
  refine (setWord_any w.heap.size 0 _ _ _ l.length _ (by omega) (by omega) (by omega) hr1 (by simp)).mono ?_
  rintro e w2 ⟨rfl, hr2, hg2, hsz2⟩
  have hb2 : Below w.heap.size w w2 := hb1.grown hg2 hb1.size (fun k hk => by cases hk; exact Nat.le_refl _)
  have hlen2 : (layL (List.replicate (l.length + 8) 0) 0 l.length 4).length = l.length + 8 := by rw [layL_length _ _ _ _ (by omega) (by simp)]; simp
  have hs4 : Sees w2 (some ⟨w.heap.size, 0, none⟩) (fourL l.length) := by
    have := hr2.sees 0 4 (by omega)
    simpa [layL, fourL] using this
  obtain ⟨S, hS⟩ := Int.eq_ofNat_of_zero_le (sumZ_bd (fourL l.length ++ l)).1
  have hS32 : S < 4294967296 := by have := (sumZ_bd (fourL l.length ++ l)).2; omega
  have HS : Hid (sumZ (fourL l.length ++ l) = (S : Int)) := hS
  clear hS
  have hs2 := hs.below hb2 (Nat.le_refl _)
  have ht2 := ht.below hb2 (Nat.le_refl _)
  go_wp2_with fail
  go_region_with (first
    | (go_at_call 83; go_must (refine (frameSum_any w.heap.size 0 (l.length + 8) (l.length + 8) (fourL l.length) ao l cap _ (by omega) (by omega) (by omega) rfl (by exact hs4) (by exact hs2) (by omega) (by exact ht2)).mono ?_; rintro e w' ⟨rfl, rfl⟩; rw [HS.out]))
    | (go_at_call 82; go_must (refine (setWord_any w.heap.size 4 _ _ (layL (List.replicate (l.length + 8) 0) 0 l.length 4) S _ hS32 (by omega) (by omega) (by exact hr2) (by omega)).mono ?_; rintro e w3 ⟨rfl, hr3, hg3, hsz3⟩)))
  all_goals
    have hb3 : Below w.heap.size w w3 := hb2.drew.grown hg3 hb2.size (fun k hk => by cases hk; exact Nat.le_refl _)
    have hs3 := hs.below hb3 (Nat.le_refl _)
    have hlen3 : (layL (layL (List.replicate (l.length + 8) 0) 0 l.length 4) 4 S 4).length = l.length + 8 := by rw [layL_length _ _ _ _ (by omega) (by omega)]; exact hlen2
    have hfin : Hid (splice (B8 (layL (layL (List.replicate (l.length + 8) 0) 0 l.length 4) 4 S 4)) 8 (B8 l) = B8 (frameL l)) := by
      unfold frameL
      rw [HS.out, Int.toNat_natCast]
      exact frame_bytes l l.length S rfl
    generalize layL (layL (List.replicate (l.length + 8) 0) 0 l.length 4) 4 S 4 = L3 at *
    clear hr1 hr2 hg1 hg2 hb1 hb2 hs2 ht2 hs4 hsz2 hlen2 hg3 hsz3 HS
    by_cases h0 : l.length = 0
    · go_wp2_with ((with_reducible (show wpList _ _ _ (Oper.mk _ (Op.call ⟨Callee.builtin Builtin.copy, _, _⟩) _ _ _ _ :: _) _ _)); go_must (refine wpList_copy_splice rfl _ _ 37 37 rfl 5 Tryz.underlying37 (by rw [hi]; simp [hz1]) _ _ _ _ _ _ rfl rfl w.heap.size 8 (B8 L3) 5 (by exact hr3) (B8 l) (by rw [B8_length, h0]; rfl) (fun h => by rw [B8_length] at h; omega) (by rw [B8_length, B8_length]; omega) (B8_one _) w.heap.size w hb3 (Nat.le_refl _) ?_; intro w4 hr4 hb4))
      go_ret
      refine ⟨by rw [h0]; rfl, ?_, hb4⟩
      unfold Row
      rw [hr4.out, hfin.out]
    · go_wp2_with ((with_reducible (show wpList _ _ _ (Oper.mk _ (Op.call ⟨Callee.builtin Builtin.copy, _, _⟩) _ _ _ _ :: _) _ _)); go_must (refine wpList_copy_splice rfl _ _ 37 37 rfl 5 Tryz.underlying37 (by rw [hi]; simp [hz1]) _ _ _ _ _ _ rfl rfl w.heap.size 8 (B8 L3) 5 (by exact hr3) (B8 l) (by rw [B8_length]; simp) (fun h => ⟨rfl, sees_cells hs3 (by omega)⟩) (by rw [B8_length, B8_length]; omega) (B8_one _) w.heap.size w hb3 (Nat.le_refl _) ?_; intro w4 hr4 hb4))
      go_ret
      refine ⟨rfl, ?_, hb4⟩
      unfold Row
      rw [hr4.out, hfin.out]
end Go.Proofs.YtglaocghcgcghaaGreatDoor
namespace Go.Proofs.YtglaocghcgcghaaGreatDoor
open Go.RowKit
attribute [local go_sem] Oper.pureAt Oper.pureUpon

theorem chainW_mk0 (A1 : Ab) (f : Ab → Int × Ab) : chainW (0, A1) f = f A1 := chainW_ok rfl
theorem chainW_mk {c : Int} (h : c ≠ 0) (A1 : Ab) (f : Ab → Int × Ab) : chainW (c, A1) f = (c, A1) := chainW_no h
set_option maxRecDepth 100000 in
set_option maxHeartbeats 2000000 in
theorem beginY {w0 : World} {d lb : Nat} {A : Ab} {n m : Int} {b : Bool} {ft : List Nat} {w : World} (he : EnvW w0) (h : LyF w0 d lb A n b ft w) (hm : okW m = true) {k : Nat} (hN : Nice A k) (hk : k + 1 ≤ 2000) :
    Calls Tryz.prog 35 #[.pointer (some ⟨lb, 0, none⟩), .int .i64 m] w fun x w' => x = .returned (.int .i64 (beginX A m).1) ∧ LyR w0 d lb (beginX A m).2 (if (beginX A m).1 = 0 then m else n) b ft w w' := by
  have hmm := okW_iff.1 hm
  have CP : Hid (∀ u, Calls Tryz.prog 22 #[.int .i64 m] u fun e w' => e = .returned (.bool true) ∧ w' = u) := fun u => by have := possible_any m u; rw [hm] at this; exact this
  have CN : Hid (∀ u, Below w0.heap.size w0 u → Calls Tryz.prog 38 #[.int .i64 m] u fun x w' => x = .returned (.string (tB (nmW m))) ∧ Below u.heap.size u w') := fun u hu => nameW_any m (by omega) (by omega) u (he.below hu (Nat.le_refl _))
  have hsz := tB_max (nmW m) (by have := nmW_len m; omega)
  unfold beginX
  have CC0 := fun u f (hu : LyF w0 d lb A n b f u) => ly_create hu (tB (nmW m)) hsz hN (by omega)
  have hN1 := hN.create (tB (nmW m))
  have CS0 := fun u f (hu : LyF w0 d lb (createX A (tB (nmW m))).2 n b f u) => ly_sync hu (tB (nmW m)) hsz hN1 hk
  have HL : Hid (LyF w0 d lb A n b ft w) := h
  have c0 : ∀ q : LC d lb, q.u.cell? ⟨lb, 0, none⟩ = some (.pointer (some ⟨d, 0, none⟩)) := fun q => q.h
  haveI : Nonempty (LC d lb) := ⟨⟨w, h.blk.cell 0 rfl⟩⟩
  generalize createX A (tB (nmW m)) = q at *
  obtain ⟨c1, A1⟩ := q
  have CC : Hid (∀ u f, LyF w0 d lb A n b f u → Calls Tryz.prog 60 #[.pointer (some ⟨d, 0, none⟩), .string (tB (nmW m))] u fun x w' => x = .returned (.int .i64 c1) ∧ LyR w0 d lb A1 n b f u w') := CC0
  by_cases h1 : c1 = 0
  · subst h1
    rw [chainW_mk0]
    simp only at CS0
    generalize syncX A1 (tB (nmW m)) = q at *
    obtain ⟨c2, A2⟩ := q
    have CS : Hid (∀ u f, LyF w0 d lb A1 n b f u → Calls Tryz.prog 51 #[.pointer (some ⟨d, 0, none⟩), .string (tB (nmW m))] u fun x w' => x = .returned (.int .i64 c2) ∧ LyR w0 d lb A2 n b f u w') := CS0
    generalize tB (nmW m) = s at *
    clear CC0 CS0 hN1 hN hm h he hsz hk
    by_cases h2 : c2 = 0
    · subst h2
      rw [if_pos rfl]
      go_enter Tryz.func35, Tryz.ntmps35
      go_wp2_with (go_at_call 22; refine (CP.out _).mono ?_; rintro e w1 ⟨rfl, rfl⟩)
      refine wp_region_sched (fun w' => ∃ p : LC d lb, w' = p.u) [(0, true), (1, true), (2, true), (3, true), (4, true), (5, false), (6, false), (7, true)] rfl (by kernel_rfl) (by kernel_rfl) (by kernel_rfl) (LyC.of HL.out.drew) ?_
      iterate 5 (refine sched_pure rfl (fun K hK => ?_); go_simp; refine hK _ ?_; clear hK K)
      refine sched_loud rfl (fun K hK => ?_)
      go_simp
      refine (CN.out _ HL.out.drew.bel).mono ?_
      rintro e u1 ⟨rfl, hu1⟩
      have hu1f := HL.out.drew.more hu1
      have hu1b : Below w1.heap.size w1 u1 := (Below.refl _ _).drew.trans hu1
      refine hK _ _ (LyC.of hu1f) ?_
      clear hK K
      refine sched_loud rfl (fun K hK => ?_)
      go_simp
      refine (CC.out _ ft hu1f).mono ?_
      rintro e u2 ⟨rfl, r2⟩
      refine hK _ _ (LyC.ofR r2) ?_
      clear hK K
      refine sched_pure rfl (fun K hK => ?_)
      go_simp
      refine hK _ ?_
      clear hK K
      refine sched_nil ?_
      obtain ⟨f2, hF2, hM2⟩ := r2
      go_wp2_with fail
      refine wp_region_sched (fun w' => ∃ p : LC d lb, w' = p.u) [(0, true), (1, true), (2, true), (3, true), (4, true), (5, false), (6, false), (7, true)] rfl (by kernel_rfl) (by kernel_rfl) (by kernel_rfl) (LyC.of hF2.drew) ?_
      iterate 5 (refine sched_pure rfl (fun K hK => ?_); go_simp; refine hK _ ?_; clear hK K)
      refine sched_loud rfl (fun K hK => ?_)
      go_simp
      refine (CN.out _ hF2.drew.bel).mono ?_
      rintro e u3 ⟨rfl, hu3⟩
      have hu3f := hF2.drew.more hu3
      have hu3b : Below u2.heap.size u2 u3 := (Below.refl _ _).drew.trans hu3
      refine hK _ _ (LyC.of hu3f) ?_
      clear hK K
      refine sched_loud rfl (fun K hK => ?_)
      go_simp
      refine (CS.out _ f2 hu3f).mono ?_
      rintro e u4 ⟨rfl, r4⟩
      refine hK _ _ (LyC.ofR r4) ?_
      clear hK K
      refine sched_pure rfl (fun K hK => ?_)
      go_simp
      refine hK _ ?_
      clear hK K
      refine sched_nil ?_
      obtain ⟨f4, hF4, hM4⟩ := r4
      have d1 := hF4.blk.cell 1 rfl
      have g1 := hF4.blk.frozen 1
      go_wp2_with fail
      go_ret
      obtain ⟨f5, hF5, hM5⟩ := ly_set hF4 m
      exact ⟨rfl, f5, hF5, ((((moved_below hu1b).trans hM2).trans (moved_below hu3b)).trans hM4).trans hM5⟩
    · have h2b : (c2 != 0) = true := by simpa using h2
      rw [if_neg h2]
      go_enter Tryz.func35, Tryz.ntmps35
      go_wp2_with (go_at_call 22; refine (CP.out _).mono ?_; rintro e w1 ⟨rfl, rfl⟩)
      refine wp_region_sched (fun w' => ∃ p : LC d lb, w' = p.u) [(0, true), (1, true), (2, true), (3, true), (4, true), (5, false), (6, false), (7, true)] rfl (by kernel_rfl) (by kernel_rfl) (by kernel_rfl) (LyC.of HL.out.drew) ?_
      iterate 5 (refine sched_pure rfl (fun K hK => ?_); go_simp; refine hK _ ?_; clear hK K)
      refine sched_loud rfl (fun K hK => ?_)
      go_simp
      refine (CN.out _ HL.out.drew.bel).mono ?_
      rintro e u1 ⟨rfl, hu1⟩
      have hu1f := HL.out.drew.more hu1
      have hu1b : Below w1.heap.size w1 u1 := (Below.refl _ _).drew.trans hu1
      refine hK _ _ (LyC.of hu1f) ?_
      clear hK K
      refine sched_loud rfl (fun K hK => ?_)
      go_simp
      refine (CC.out _ ft hu1f).mono ?_
      rintro e u2 ⟨rfl, r2⟩
      refine hK _ _ (LyC.ofR r2) ?_
      clear hK K
      refine sched_pure rfl (fun K hK => ?_)
      go_simp
      refine hK _ ?_
      clear hK K
      refine sched_nil ?_
      obtain ⟨f2, hF2, hM2⟩ := r2
      go_wp2_with fail
      refine wp_region_sched (fun w' => ∃ p : LC d lb, w' = p.u) [(0, true), (1, true), (2, true), (3, true), (4, true), (5, false), (6, false), (7, true)] rfl (by kernel_rfl) (by kernel_rfl) (by kernel_rfl) (LyC.of hF2.drew) ?_
      iterate 5 (refine sched_pure rfl (fun K hK => ?_); go_simp; refine hK _ ?_; clear hK K)
      refine sched_loud rfl (fun K hK => ?_)
      go_simp
      refine (CN.out _ hF2.drew.bel).mono ?_
      rintro e u3 ⟨rfl, hu3⟩
      have hu3f := hF2.drew.more hu3
      have hu3b : Below u2.heap.size u2 u3 := (Below.refl _ _).drew.trans hu3
      refine hK _ _ (LyC.of hu3f) ?_
      clear hK K
      refine sched_loud rfl (fun K hK => ?_)
      go_simp
      refine (CS.out _ f2 hu3f).mono ?_
      rintro e u4 ⟨rfl, r4⟩
      refine hK _ _ (LyC.ofR r4) ?_
      clear hK K
      refine sched_pure rfl (fun K hK => ?_)
      go_simp
      refine hK _ ?_
      clear hK K
      refine sched_nil ?_
      obtain ⟨f4, hF4, hM4⟩ := r4
      go_wp2_with fail
      go_ret
      exact ⟨rfl, f4, hF4, (((moved_below hu1b).trans hM2).trans (moved_below hu3b)).trans hM4⟩
  · have h1b : (c1 != 0) = true := by simpa using h1
    rw [chainW_mk h1, if_neg h1]
    generalize tB (nmW m) = s at *
    clear CC0 CS0 hN1 hN hm h he hsz hk
    go_enter Tryz.func35, Tryz.ntmps35
    go_wp2_with (go_at_call 22; refine (CP.out _).mono ?_; rintro e w1 ⟨rfl, rfl⟩)
    refine wp_region_sched (fun w' => ∃ p : LC d lb, w' = p.u) [(0, true), (1, true), (2, true), (3, true), (4, true), (5, false), (6, false), (7, true)] rfl (by kernel_rfl) (by kernel_rfl) (by kernel_rfl) (LyC.of HL.out.drew) ?_
    iterate 5 (refine sched_pure rfl (fun K hK => ?_); go_simp; refine hK _ ?_; clear hK K)
    refine sched_loud rfl (fun K hK => ?_)
    go_simp
    refine (CN.out _ HL.out.drew.bel).mono ?_
    rintro e u1 ⟨rfl, hu1⟩
    have hu1f := HL.out.drew.more hu1
    have hu1b : Below w1.heap.size w1 u1 := (Below.refl _ _).drew.trans hu1
    refine hK _ _ (LyC.of hu1f) ?_
    clear hK K
    refine sched_loud rfl (fun K hK => ?_)
    go_simp
    refine (CC.out _ ft hu1f).mono ?_
    rintro e u2 ⟨rfl, r2⟩
    refine hK _ _ (LyC.ofR r2) ?_
    clear hK K
    refine sched_pure rfl (fun K hK => ?_)
    go_simp
    refine hK _ ?_
    clear hK K
    refine sched_nil ?_
    obtain ⟨f2, hF2, hM2⟩ := r2
    go_wp2_with fail
    go_ret
    exact ⟨rfl, f2, hF2, (moved_below hu1b).trans hM2⟩
end Go.Proofs.YtglaocghcgcghaaGreatDoor
namespace Go.Proofs.YtglaocghcgcghaaGreatDoor
open Go.RowKit

set_option maxRecDepth 100000 in
theorem made8m (m : Nat) : (madeCells (Value.int .u8 0).cells (m * 1)).toList = B8 (List.replicate m 0) := by
  have h : (Value.int .u8 0).cells = #[.int .u8 0] := rfl
  rw [h, Nat.mul_one]
  apply List.ext_getElem
  · simp [madeCells, B8]
  · intro i h1 h2
    simp [madeCells, B8, Nat.mod_one]
set_option maxRecDepth 100000 in
theorem make_row (n : Nat) (hn : n ≤ 1099511627776) (w : World) : ∃ w', (Instr.makeSlice 37 (.int .i64 (n : Int)) (.int .i64 (n : Int))).run Tryz.prog w = .ok (.slice (some ⟨w.heap.size, 0, none⟩) n n) w' ∧ Blk w' w.heap.size (B8 (List.replicate n 0)) 5 ∧ w.grownBy w' none := by
  obtain ⟨i0, hi, hz0, hz1, hz2⟩ := info_parts info8
  have := run_make_full (P := Tryz.prog) w w.heap.size 37 5 i0 (.int .u8 0) 1 Tryz.underlying37 hi hz0 hz1 .i64 .i64 n (by rw [hz2]; omega) (by unfold maxLen; omega) (Nat.le_refl _)
  rw [made8m] at this
  obtain ⟨w', h1, h2, h3⟩ := this
  exact ⟨w', h1, (Row.of_owns h2).1, h3⟩
def kOf (b : Nat) : Nat := min (max (b * 7 / 10) 1) 16
def nOf (n b : Nat) : Nat := max ((n * b + 7) / 8) 1
end Go.Proofs.YtglaocghcgcghaaGreatDoor
