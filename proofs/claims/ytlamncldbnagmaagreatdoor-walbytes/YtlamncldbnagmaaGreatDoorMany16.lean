/-
  SEVERAL TEXTS IN ONE: KeyName, KeyGood, VerPlain, VerCmp, VerJoin.
-/
import Derived.Test.YtlamncldbnagmaaGreatDoorMany15
import Derived.Test.YtlamncldbnagmaaGreatDoorMany3
namespace Go.Proofs.YtlamncldbnagmaaGreatDoor
open Go.RowKit

def isL (x : Int) : Bool := decide (97 ≤ x) && decide (x ≤ 122)
def isD (x : Int) : Bool := decide (48 ≤ x) && decide (x ≤ 57)
def okC (x : Int) : Bool := isL x || isD x || x == 95
def nameB (l : List UInt8) : Bool := decide (1 ≤ l.length) && decide (l.length ≤ 16) && isL ((l.getD 0 0).toNat : Int) && l.all fun b => okC (b.toNat : Int)
theorem name_iff (l : List UInt8) : nameB l = true ↔ 1 ≤ l.length ∧ l.length ≤ 16 ∧ isL ((l.getD 0 0).toNat : Int) = true ∧ ∀ j, j < l.length → okC ((l.getD j 0).toNat : Int) = true := by
  unfold nameB
  simp only [Bool.and_eq_true, decide_eq_true_eq, List.all_eq_true, and_assoc]
  constructor
  · rintro ⟨h1, h2, h3, h4⟩
    refine ⟨h1, h2, h3, fun j hj => ?_⟩
    have e : l.getD j 0 = l[j] := by simp [List.getD, hj]
    rw [e]; exact h4 _ (List.getElem_mem hj)
  · rintro ⟨h1, h2, h3, h4⟩
    refine ⟨h1, h2, h3, fun b hb => ?_⟩
    obtain ⟨j, hj, rfl⟩ := List.getElem_of_mem hb
    have e : l.getD j 0 = l[j] := by simp [List.getD, hj]
    have := h4 j hj
    rwa [e] at this
theorem letter_any (x : Int) (w : World) : Calls Tryz.prog 140 #[.int .u8 x] w fun e w' => e = .returned (.bool (isL x)) ∧ w' = w := by
  unfold isL
  by_cases h : 97 ≤ x
  · have d : decide (97 ≤ x) = true := decide_eq_true h
    go_enter Tryz.func140, Tryz.ntmps140
    go_wp2_with fail
    go_ret
    exact ⟨ret_bool (by first | rfl | (rw [d]; simp)), rfl⟩
  · have d : decide (97 ≤ x) = false := decide_eq_false h
    go_enter Tryz.func140, Tryz.ntmps140
    go_wp2_with fail
    go_ret
    exact ⟨ret_bool (by first | rfl | (rw [d]; simp)), rfl⟩
theorem digit_any (x : Int) (w : World) : Calls Tryz.prog 141 #[.int .u8 x] w fun e w' => e = .returned (.bool (isD x)) ∧ w' = w := by
  unfold isD
  by_cases h : 48 ≤ x
  · have d : decide (48 ≤ x) = true := decide_eq_true h
    go_enter Tryz.func141, Tryz.ntmps141
    go_wp2_with fail
    go_ret
    exact ⟨ret_bool (by first | rfl | (rw [d]; simp)), rfl⟩
  · have d : decide (48 ≤ x) = false := decide_eq_false h
    go_enter Tryz.func141, Tryz.ntmps141
    go_wp2_with fail
    go_ret
    exact ⟨ret_bool (by first | rfl | (rw [d]; simp)), rfl⟩

theorem at_nb (s : ByteArray) (k : Nat) (hk : k < s.size) : (nb s).getD k 0 = s[k] := by
  have : k < s.data.toList.length := by simpa using hk
  unfold nb
  rw [List.getD_eq_getElem?_getD, List.getElem?_eq_getElem this]
  rfl
theorem name_no {l : List UInt8} (h : ¬ (1 ≤ l.length ∧ l.length ≤ 16 ∧ isL ((l.getD 0 0).toNat : Int) = true ∧ ∀ j, j < l.length → okC ((l.getD j 0).toNat : Int) = true)) : nameB l = false := by
  cases hg : nameB l
  · rfl
  · exact absurd ((name_iff l).1 hg) h

set_option maxRecDepth 100000 in
set_option maxHeartbeats 1000000 in
theorem name_any (s : ByteArray) (w : World) (hs : s.size ≤ maxLen) :
    Calls Tryz.prog 101 #[.string s] w fun e w' => e = .returned (.bool (nameB (nb s))) ∧ w' = w := by
  have hsz : (s.size : Int) ≤ 9223372036854775807 := by unfold maxLen at hs; omega
  have Hi : Hid _ := name_iff (nb s)
  have Hn : Hid _ := @name_no (nb s)
  rw [nb_size] at Hi Hn
  have Hat : Hid _ := at_nb s
  have L : Hid (∀ (x : Int) (w : World), Calls Tryz.prog 140 #[.int .u8 x] w fun e w' => e = .returned (.bool (isL x)) ∧ w' = w) := letter_any
  have D : Hid (∀ (x : Int) (w : World), Calls Tryz.prog 141 #[.int .u8 x] w fun e w' => e = .returned (.bool (isD x)) ∧ w' = w) := digit_any
  clear hs
  by_cases h0 : s.size = 0
  · go_enter Tryz.func101, Tryz.ntmps101
    go_wp2_with fail
    go_ret
    exact ⟨ret_bool (Hn.out (by omega)).symm, rfl⟩
  by_cases h16 : 16 < s.size
  · go_enter Tryz.func101, Tryz.ntmps101
    go_wp2_with fail
    go_ret
    exact ⟨ret_bool (Hn.out (by omega)).symm, rfl⟩
  have hb1 : decide ((s.size : Int) < 1) = false := decide_eq_false (by omega)
  have hb2 : decide (16 < (s.size : Int)) = false := decide_eq_false (by omega)
  have hsi : (s.size : Int) ≤ 16 := by omega
  have hpos : 0 < s.size := by omega
  have Hsz : Hid (s.size ≤ 16) := by show s.size ≤ 16; omega
  clear h0 h16
  obtain ⟨x0, hx0⟩ : ∃ x, ((s[0].toNat : Nat) : Int) = x := ⟨_, rfl⟩
  cases hl0 : isL x0
  · have HF : Hid (nameB (nb s) = false) := Hn.out (fun hh => by have := hh.2.2.1; rw [Hat.out 0 hpos, hx0, hl0] at this; cases this)
    have L0 := L.out x0
    rw [hl0] at L0
    have L0' : Hid (∀ w : World, Calls Tryz.prog 140 #[.int .u8 x0] w fun e w' => e = .returned (.bool false) ∧ w' = w) := L0
    clear L0 L D
    go_enter Tryz.func101, Tryz.ntmps101
    go_wp2_with (go_at_call 140; go_fit (L0'.out _); rintro e w1 ⟨rfl, rfl⟩)
    go_ret
    exact ⟨ret_bool HF.out.symm, rfl⟩
  have HL0 : Hid (isL (((nb s).getD 0 0).toNat : Int) = true) := by show isL _ = true; rw [Hat.out 0 hpos, hx0, hl0]
  have L0 := L.out x0
  rw [hl0] at L0
  have L0' : Hid (∀ w : World, Calls Tryz.prog 140 #[.int .u8 x0] w fun e w' => e = .returned (.bool true) ∧ w' = w) := L0
  clear L0 hl0
  go_enter Tryz.func101, Tryz.ntmps101
  go_wp2_with (go_at_call 140; go_fit (L0'.out _); rintro e w1 ⟨rfl, rfl⟩)
  clear hx0 L0'
  go_loop [20] (fun i => ∃ k : Nat, k ≤ s.size ∧ i = .int .i64 k ∧ ∀ j, j < k → okC (((nb s).getD j 0).toNat : Int) = true) (fun i => s.size - (intOf i).toNat)
  case atStart => exact ⟨0, Nat.zero_le _, rfl, fun j hj => absurd hj (Nat.not_lt_zero _)⟩
  case round =>
    obtain ⟨k, hk, rfl, hall⟩ := hrel
    have HA : Hid (∀ j, j < k → okC (((nb s).getD j 0).toNat : Int) = true) := hall
    clear hall
    by_cases hlt : k < s.size
    · obtain ⟨x, hx⟩ : ∃ x, ((s[k].toNat : Nat) : Int) = x := ⟨_, rfl⟩
      have HB : Hid (okC x = false → nameB (nb s) = false) := fun h => Hn.out fun hh => by have := hh.2.2.2 k hlt; rw [Hat.out k hlt, hx, h] at this; cases this
      have HN : Hid (okC x = true → ∀ j, j < k + 1 → okC (((nb s).getD j 0).toNat : Int) = true) := fun h j hj => by
        by_cases e : j = k
        · subst e; rw [Hat.out j hlt, hx]; exact h
        · exact HA.out j (by omega)
      have L1 : Hid (∀ w : World, Calls Tryz.prog 140 #[.int .u8 x] w fun e w' => e = .returned (.bool (isL x)) ∧ w' = w) := L.out x
      have D1 : Hid (∀ w : World, Calls Tryz.prog 141 #[.int .u8 x] w fun e w' => e = .returned (.bool (isD x)) ∧ w' = w) := D.out x
      have HO : Hid (okC x = (isL x || isD x || x == 95)) := rfl
      generalize isL x = bl at *
      generalize isD x = bd at *
      generalize okC x = bo at *
      clear Hi Hn Hat HA HL0 L D
      cases bl
      · cases bd
        · by_cases h95 : x = 95
          · subst h95
            have HN' : Hid (∀ j, j < k + 1 → okC (((nb s).getD j 0).toNat : Int) = true) := HN.out (by rw [HO.out]; rfl)
            clear HN HB HO
            go_wp2_with (first | (go_at_call 140; go_fit (L1.out _); rintro e w1 ⟨rfl, rfl⟩) | (go_at_call 141; go_fit (D1.out _); rintro e w1 ⟨rfl, rfl⟩))
            go_round
            case rel => exact ⟨k + 1, by omega, by go_num, HN'.out⟩
            case measure => simp [intOf]; omega
          · have e95 : (x == 95) = false := by rw [beq_eq_false_iff_ne]; exact h95
            have HF : Hid (nameB (nb s) = false) := HB.out (by rw [HO.out, e95]; rfl)
            clear HN HB HO
            go_wp2_with (first | (go_at_call 140; go_fit (L1.out _); rintro e w1 ⟨rfl, rfl⟩) | (go_at_call 141; go_fit (D1.out _); rintro e w1 ⟨rfl, rfl⟩))
            go_ret
            exact ⟨ret_bool HF.out.symm, rfl⟩
        · have HN' : Hid (∀ j, j < k + 1 → okC (((nb s).getD j 0).toNat : Int) = true) := HN.out (by rw [HO.out]; rfl)
          clear HN HB HO
          go_wp2_with (first | (go_at_call 140; go_fit (L1.out _); rintro e w1 ⟨rfl, rfl⟩) | (go_at_call 141; go_fit (D1.out _); rintro e w1 ⟨rfl, rfl⟩))
          go_round
          case rel => exact ⟨k + 1, by omega, by go_num, HN'.out⟩
          case measure => simp [intOf]; omega
      · have HN' : Hid (∀ j, j < k + 1 → okC (((nb s).getD j 0).toNat : Int) = true) := HN.out (by rw [HO.out]; rfl)
        clear HN HB HO
        go_wp2_with (first | (go_at_call 140; go_fit (L1.out _); rintro e w1 ⟨rfl, rfl⟩) | (go_at_call 141; go_fit (D1.out _); rintro e w1 ⟨rfl, rfl⟩))
        go_round
        case rel => exact ⟨k + 1, by omega, by go_num, HN'.out⟩
        case measure => simp [intOf]; omega
    · obtain rfl : k = s.size := by omega
      have HT : Hid (nameB (nb s) = true) := Hi.out.2 ⟨hpos, Hsz.out, HL0.out, HA.out⟩
      clear Hi Hn HA
      go_wp2_with fail
      go_ret
      exact ⟨ret_bool HT.out.symm, rfl⟩
end Go.Proofs.YtlamncldbnagmaaGreatDoor
namespace Go.Proofs.YtlamncldbnagmaaGreatDoor
open Go.RowKit

def goodK (k : Ky) : Bool := nameB k.t && decide (1 ≤ k.p.length) && decide (k.p.length ≤ 64) && (k.c == [] || nameB k.c)
def emptyB : ByteArray := ⟨#[]⟩
theorem nb_empty (s : ByteArray) : nb s = [] ↔ s.size = 0 := by
  rw [← nb_size]; exact List.length_eq_zero_iff.symm

theorem ba_isEmpty (c : ByteArray) : c.toList.isEmpty = decide (c.size = 0) := by
  rw [ba_list]
  by_cases h : c.size = 0
  · rw [(nb_empty c).2 h]; simp [h]
  · have := fun e => h ((nb_empty c).1 e)
    simp only [h, decide_false]; cases hn : nb c with | nil => exact absurd hn this | cons => rfl
set_option maxRecDepth 100000 in
set_option maxHeartbeats 1000000 in
theorem good_any (k : Kb) (w : World) (h1 : k.t.size ≤ maxLen) (h2 : k.p.size ≤ maxLen) (h3 : k.c.size ≤ maxLen) :
    Calls Tryz.prog 58 #[k.v] w fun e w' => e = .returned (.bool (goodK k.ky)) ∧ Below w.heap.size w w' := by
  obtain ⟨t, p, r, c⟩ := k
  simp only at h1 h2 h3
  have hp : (p.size : Int) ≤ 9223372036854775807 := by unfold maxLen at h2; omega
  have N1 : Hid (∀ w : World, Calls Tryz.prog 101 #[.string t] w fun e w' => e = .returned (.bool (nameB (nb t))) ∧ w' = w) := fun w => name_any t w h1
  have N2 : Hid (∀ w : World, Calls Tryz.prog 101 #[.string c] w fun e w' => e = .returned (.bool (nameB (nb c))) ∧ w' = w) := fun w => name_any c w h3
  have hR : Hid (goodK (Kb.ky ⟨t, p, r, c⟩) = (nameB (nb t) && decide (1 ≤ p.size) && decide (p.size ≤ 64) && (decide (c.size = 0) || nameB (nb c)))) := by
    show (_ && _ && _ && _) = _
    have e1 : (nb p).length = p.size := nb_size p
    have e2 : (nb c == []) = decide (c.size = 0) := by
      by_cases h : c.size = 0
      · rw [(nb_empty c).2 h]; simp [h]
      · have := fun e => h ((nb_empty c).1 e)
        simp only [h, decide_false, beq_eq_false_iff_ne, ne_eq]; exact this
    simp only [Kb.ky, e1, e2]
  have hB : Hid (∀ o : Obj, Below w.heap.size w (w.alloc o)) := fun o => (Below.refl _ _).alloc (Nat.le_refl _) _
  have hc := ba_isEmpty c
  clear h1 h2 h3
  simp only [Kb.v]
  generalize nameB (nb t) = b1 at *
  generalize nameB (nb c) = b2 at *
  cases b1
  · go_enter Tryz.func58, Tryz.ntmps58
    go_wp2_with (go_at_call 101; go_fit (N1.out _); rintro x w1 ⟨rfl, rfl⟩)
    go_ret
    exact ⟨ret_bool (by rw [hR.out]; rfl), hB.out _⟩
  by_cases hp1 : p.size = 0
  · have d1 : decide ((p.size : Int) < 1) = true := decide_eq_true (by omega)
    have hR' : Hid (goodK (Kb.ky ⟨t, p, r, c⟩) = false) := by show _ = _; rw [hR.out, hp1]; rfl
    clear hR
    go_enter Tryz.func58, Tryz.ntmps58
    go_wp2_with (go_at_call 101; go_fit (N1.out _); rintro x w1 ⟨rfl, rfl⟩)
    go_ret
    exact ⟨ret_bool hR'.out.symm, hB.out _⟩
  have d1 : decide ((p.size : Int) < 1) = false := decide_eq_false (by omega)
  by_cases hp2 : 64 < p.size
  · have d2 : decide (64 < (p.size : Int)) = true := decide_eq_true (by omega)
    have hR' : Hid (goodK (Kb.ky ⟨t, p, r, c⟩) = false) := by
      show _ = _; rw [hR.out]
      have : decide (p.size ≤ 64) = false := decide_eq_false (by omega)
      rw [this]; simp
    clear hR
    go_enter Tryz.func58, Tryz.ntmps58
    go_wp2_with (go_at_call 101; go_fit (N1.out _); rintro x w1 ⟨rfl, rfl⟩)
    go_ret
    exact ⟨ret_bool hR'.out.symm, hB.out _⟩
  have d2 : decide (64 < (p.size : Int)) = false := decide_eq_false (by omega)
  have hR2 : Hid (goodK (Kb.ky ⟨t, p, r, c⟩) = (decide (c.size = 0) || b2)) := by
    show _ = _; rw [hR.out]
    have e1 : decide (1 ≤ p.size) = true := decide_eq_true (by omega)
    have e2 : decide (p.size ≤ 64) = true := decide_eq_true (by omega)
    rw [e1, e2]; simp
  clear hR
  by_cases hc0 : c.size = 0
  · rw [decide_eq_true hc0] at hc
    have hR' : Hid (goodK (Kb.ky ⟨t, p, r, c⟩) = true) := by show _ = _; rw [hR2.out, hc0]; rfl
    clear hR2
    go_enter Tryz.func58, Tryz.ntmps58
    go_wp2_with (go_at_call 101; go_fit (N1.out _); rintro x w1 ⟨rfl, rfl⟩)
    go_ret
    exact ⟨ret_bool hR'.out.symm, hB.out _⟩
  · rw [decide_eq_false hc0] at hc
    have hR' : Hid (goodK (Kb.ky ⟨t, p, r, c⟩) = b2) := by show _ = _; rw [hR2.out, decide_eq_false hc0]; rfl
    clear hR2
    go_enter Tryz.func58, Tryz.ntmps58
    go_wp2_with (first | (go_at_call_of 101 (Value.string t); go_fit (N1.out _); rintro x w1 ⟨rfl, rfl⟩) | (go_at_call_of 101 (Value.string c); go_fit (N2.out _); rintro x w1 ⟨rfl, rfl⟩))
    go_ret
    exact ⟨ret_bool hR'.out.symm, hB.out _⟩

end Go.Proofs.YtlamncldbnagmaaGreatDoor
namespace Go.Proofs.YtlamncldbnagmaaGreatDoor
open Go.RowKit

/-- A version: its texts as they lie in memory. -/
structure Vr where
  time : Int
  dead : Bool
  loc : Int
  kind : Int
  num : Int
  s : ByteArray
def Vr.v (a : Vr) : Value := .agg #[.int .i64 a.time, .bool a.dead, .int .i64 a.loc, .int .i64 a.kind, .int .i64 a.num, .string a.s]
/-- What of a version is looked at. -/
def b01 (b : Bool) : Int := if b then 1 else 0
def Vr.see (a : Vr) : Int × (Int × (Int × (Int × (Int × List UInt8)))) := if a.dead then (a.time, 1, a.loc, 0, 0, []) else (a.time, 0, 0, a.kind, a.num, nb a.s)
def vl : (Int × (Int × (Int × (Int × (Int × List UInt8))))) → (Int × (Int × (Int × (Int × (Int × List UInt8))))) → Int := lex ci (lex ci (lex ci (lex ci (lex ci cb))))
theorem vl_cmpr : Cmpr vl := ci_cmpr.lex (ci_cmpr.lex (ci_cmpr.lex (ci_cmpr.lex (ci_cmpr.lex cb_cmpr))))
def cv (a b : Vr) : Int := vl a.see b.see
theorem cv_self (a : Vr) : cv a a = 0 := (vl_cmpr.z _ _).2 rfl
theorem cv_n (a b : Vr) : cv a b = - cv b a := vl_cmpr.n _ _
theorem cv_r (a b : Vr) : cv a b = -1 ∨ cv a b = 0 ∨ cv a b = 1 := vl_cmpr.r _ _
theorem cv_t (a b c : Vr) (h : cv a b ≤ 0) (g : cv b c ≤ 0) : cv a c ≤ 0 := vl_cmpr.t _ _ _ h g
theorem ci_self (a : Int) : ci a a = 0 := (ci_cmpr.z a a).2 rfl
theorem ci_ne {a b : Int} (h : a ≠ b) : ci a b ≠ 0 := fun e => h ((ci_cmpr.z a b).1 e)
theorem cv_time {a b : Vr} (h : a.time ≠ b.time) : cv a b = ci a.time b.time := by
  unfold cv vl lex Vr.see
  split <;> split <;> exact th_of (ci_ne h) _
theorem cv_dead {a b : Vr} (h : a.time = b.time) (ha : a.dead = true) (hb : b.dead = true) : cv a b = ci a.loc b.loc := by
  unfold cv vl lex Vr.see
  rw [ha, hb, h]
  simp only [if_true]
  rw [ci_self, th_zero, ci_self, th_zero]
  show th _ (th (ci 0 0) (th (ci 0 0) (cb [] []))) = _
  rw [ci_self, th_zero, th_zero, cb_nil_nil]
  unfold th; split <;> omega
theorem cv_left {a b : Vr} (h : a.time = b.time) (ha : a.dead = true) (hb : b.dead = false) : cv a b = 1 := by
  unfold cv vl lex Vr.see
  rw [ha, hb, h]
  simp only [if_true, Bool.false_eq_true, if_false]
  rw [ci_self, th_zero]
  exact th_of (by decide) _
theorem cv_right {a b : Vr} (h : a.time = b.time) (ha : a.dead = false) (hb : b.dead = true) : cv a b = -1 := by
  have := cv_left h.symm hb ha
  have := cv_n a b
  omega
theorem cv_live {a b : Vr} (h : a.time = b.time) (ha : a.dead = false) (hb : b.dead = false) : cv a b = fu [ci a.kind b.kind, ci a.num b.num, cb (nb a.s) (nb b.s)] := by
  unfold cv vl lex Vr.see
  rw [ha, hb, h]
  simp only [Bool.false_eq_true, if_false]
  rw [ci_self, th_zero, ci_self, th_zero, th_zero]
  show th _ (th _ _) = th _ (th _ (th _ 0))
  have : ∀ x, th x 0 = x := fun x => by unfold th; split <;> omega
  rw [this]
/-- Two versions are one, as the walk spells it. -/
def eqV (a b : Vr) : Bool := a.time == b.time && (a.dead == b.dead && (a.loc == b.loc && (a.kind == b.kind && (a.num == b.num && a.s.toList == b.s.toList))))
theorem eqV_iff (a b : Vr) : eqV a b = true ↔ a = b := by
  unfold eqV
  rw [ba_same]
  cases a; cases b
  simp only [Bool.and_eq_true, decide_eq_true_eq, beq_iff_eq, Vr.mk.injEq]
theorem eqV_self (a : Vr) : eqV a a = true := (eqV_iff a a).2 rfl
/-- The greater one. -/
def jn (a b : Vr) : Vr := if cv a b < 0 then b else a
theorem jn_or (a b : Vr) : jn a b = a ∨ jn a b = b := by unfold jn; split <;> simp
theorem jn_ge (a b : Vr) : 0 ≤ cv (jn a b) a ∧ 0 ≤ cv (jn a b) b := by
  have h1 := cv_self a; have h2 := cv_self b; have h3 := cv_n a b
  unfold jn; split <;> constructor <;> omega
theorem jn_self (a : Vr) : jn a a = a := by unfold jn; split <;> rfl

/-! ### Good cells -/
def zeroVal (a : Vr) : Bool := a.kind == 0 && (a.num == 0 && decide (a.s.size = 0))
def goodV (mark : Bool) (a : Vr) : Bool :=
  if a.dead then zeroVal a
  else a.loc == 0 && (if mark then zeroVal a else (a.kind == 1 && decide (a.s.size = 0)) || (a.kind == 2 && (a.num == 0 && decide (a.s.size ≤ 64))))
theorem size0 {s : ByteArray} (h : s.size = 0) : s = ⟨#[]⟩ := by
  have := (nb_empty s).2 h
  have h2 : nb (⟨#[]⟩ : ByteArray) = [] := rfl
  rw [← h2] at this; exact nb_inj.1 this
/-- Of good versions only those that are the same are alike. -/
theorem good_inj {m : Bool} {a b : Vr} (ha : goodV m a = true) (hb : goodV m b = true) (h : cv a b = 0) : a = b := by
  have h := (vl_cmpr.z _ _).1 h
  obtain ⟨ta, da, la, ka, na, sa⟩ := a
  obtain ⟨tb, db, lb, kb, nb', sb⟩ := b
  cases da <;> cases db <;> simp [Vr.see, goodV, zeroVal] at h ha hb ⊢
  · obtain ⟨rfl, rfl, rfl, hs⟩ := h
    exact ⟨rfl, by omega, rfl, rfl, nb_inj.1 hs⟩
  · obtain ⟨rfl, rfl⟩ := h
    exact ⟨rfl, rfl, by omega, by omega, ha.2.2.trans hb.2.2.symm⟩
theorem cv_lt_trans {a b c : Vr} (h : cv a b < 0) (g : cv b c < 0) : cv a c < 0 := vl_cmpr.strict h g
theorem jn_comm {m : Bool} {a b : Vr} (ha : goodV m a = true) (hb : goodV m b = true) : jn a b = jn b a := by
  have h3 := cv_n a b
  unfold jn
  split <;> split
  · omega
  · rfl
  · rfl
  · exact good_inj ha hb (by omega)
theorem jn_good {m : Bool} {a b : Vr} (ha : goodV m a = true) (hb : goodV m b = true) : goodV m (jn a b) = true := by
  rcases jn_or a b with h | h <;> rw [h] <;> assumption
theorem cv_le_lt {a b c : Vr} (h : cv a b ≤ 0) (g : cv b c < 0) : cv a c < 0 := by
  have h1 := cv_t a b c h (by omega)
  by_cases e : cv a c = 0
  · have h2 := cv_n a c
    have h3 := cv_t c a b (by omega) h
    have h4 := cv_n b c
    omega
  · omega
theorem cv_lt_le {a b c : Vr} (h : cv a b < 0) (g : cv b c ≤ 0) : cv a c < 0 := by
  have h1 := cv_t a b c (by omega) g
  by_cases e : cv a c = 0
  · have h2 := cv_n a c
    have h3 := cv_t b c a g (by omega)
    have h4 := cv_n a b
    omega
  · omega
theorem jn_assoc (a b c : Vr) : jn (jn a b) c = jn a (jn b c) := by
  have n1 := cv_n a b
  have n2 := cv_n b c
  have n3 := cv_n a c
  by_cases h1 : cv a b < 0
  · have e1 : jn a b = b := by unfold jn; rw [if_pos h1]
    rw [e1]
    by_cases h2 : cv b c < 0
    · have e2 : jn b c = c := by unfold jn; rw [if_pos h2]
      have h3 := cv_lt_trans h1 h2
      rw [e2]; unfold jn; rw [if_pos h3]
    · have e2 : jn b c = b := by unfold jn; rw [if_neg h2]
      rw [e2, e1]
  · have e1 : jn a b = a := by unfold jn; rw [if_neg h1]
    rw [e1]
    by_cases h2 : cv b c < 0
    · have e2 : jn b c = c := by unfold jn; rw [if_pos h2]
      rw [e2]
    · have e2 : jn b c = b := by unfold jn; rw [if_neg h2]
      have h3 : ¬ cv a c < 0 := fun h => by
        have := cv_lt_le (a := a) (b := c) (c := b) h (by omega)
        omega
      rw [e2, e1]; unfold jn; rw [if_neg h3]
/-- How two versions compare, how they are joined, of their parts. -/
def Vr.Ok (a : Vr) : Prop := InI a.time ∧ InI a.loc ∧ InI a.kind ∧ InI a.num ∧ a.s.size ≤ maxLen
end Go.Proofs.YtlamncldbnagmaaGreatDoor
namespace Go.Proofs.YtlamncldbnagmaaGreatDoor
open Go.RowKit

/-- A version whose cells lie in memory. -/
structure VAt (w : World) (g o : Nat) (a : Vr) : Prop where
  time : w.cell? ⟨g, o, none⟩ = some (.int .i64 a.time)
  dead : w.cell? ⟨g, o + 1, none⟩ = some (.bool a.dead)
  loc : w.cell? ⟨g, o + 2, none⟩ = some (.int .i64 a.loc)
  kind : w.cell? ⟨g, o + 3, none⟩ = some (.int .i64 a.kind)
  num : w.cell? ⟨g, o + 4, none⟩ = some (.int .i64 a.num)
  s : w.cell? ⟨g, o + 5, none⟩ = some (.string a.s)
def Vr.a (a : Vr) : Array Value := #[.int .i64 a.time, .bool a.dead, .int .i64 a.loc, .int .i64 a.kind, .int .i64 a.num, .string a.s]
theorem VAt.below {w w' : World} {g o : Nat} {k : Vr} (h : VAt w g o k) {B : Nat} (hb : Below B w w') (hg : g < B) : VAt w' g o k :=
  ⟨by rw [hb.cell hg, h.time], by rw [hb.cell hg, h.dead], by rw [hb.cell hg, h.loc], by rw [hb.cell hg, h.kind], by rw [hb.cell hg, h.num], by rw [hb.cell hg, h.s]⟩
theorem VAt.of {w : World} {g : Nat} {k : Vr} {ty : TypeId} {z : Nat × Nat} (h : w.heap[g]? = some (.cells k.a ty z)) : VAt w g 0 k :=
  ⟨by simp [World.cell?, h, Vr.a], by simp [World.cell?, h, Vr.a], by simp [World.cell?, h, Vr.a], by simp [World.cell?, h, Vr.a], by simp [World.cell?, h, Vr.a], by simp [World.cell?, h, Vr.a]⟩
theorem VAt.lt {w : World} {g o : Nat} {k : Vr} (h : VAt w g o k) : g < w.heap.size := World.block_lt_of_cell? _ _ h.time
theorem VAt.new (w : World) (k : Vr) (ty : TypeId) : VAt (w.alloc (.cells k.a ty)) w.heap.size 0 k := VAt.of (heap_alloc_new w _)
theorem VAt.alloc {w : World} {g o : Nat} {k : Vr} (h : VAt w g o k) (ob : Obj) : VAt (w.alloc ob) g o k := h.below ((Below.refl w.heap.size w).alloc (Nat.le_refl _) ob) h.lt
/-- Two boxes. -/
theorem boxes2 (w : World) (a b : Vr) : VAt ((w.alloc (.cells a.a 65)).alloc (.cells b.a 65)) w.heap.size 0 a ∧ VAt ((w.alloc (.cells a.a 65)).alloc (.cells b.a 65)) (w.heap.size + 1) 0 b ∧ Below w.heap.size w ((w.alloc (.cells a.a 65)).alloc (.cells b.a 65)) := by
  refine ⟨(VAt.new w a _).alloc _, ?_, ((Below.refl _ _).alloc (Nat.le_refl _) _).alloc (by simp) _⟩
  have := VAt.new (w.alloc (.cells a.a 65)) b 65
  rwa [World.size_alloc] at this
theorem verEq_run (a b : Vr) (w : World) : (binOp BinOp.eql 65 (.agg a.a) (.agg b.a)).run Tryz.prog w = .ok (.bool (eqV a b)) w := by
  unfold Vr.a eqV
  obtain ⟨t1, d1, l1, k1, n1, s1⟩ := a
  obtain ⟨t2, d2, l2, k2, n2, s2⟩ := b
  go_simp
  by_cases e1 : t1 = t2 <;> by_cases e2 : d1 = d2 <;> by_cases e3 : l1 = l2 <;> by_cases e4 : k1 = k2 <;> by_cases e5 : n1 = n2 <;> by_cases e6 : s1.toList = s2.toList <;> simp [e1, e2, e3, e4, e5, e6]
theorem ne_parts {t1 t2 l1 l2 k1 k2 n1 n2 : Int} {d1 d2 : Bool} {s1 s2 : ByteArray} (h : ¬ (⟨t1, d1, l1, k1, n1, s1⟩ : Vr) = ⟨t2, d2, l2, k2, n2, s2⟩) (ht : t1 = t2) (hd : d1 = d2) :
    l1 ≠ l2 ∨ (l1 = l2 ∧ k1 ≠ k2) ∨ (l1 = l2 ∧ k1 = k2 ∧ n1 ≠ n2) ∨ (l1 = l2 ∧ k1 = k2 ∧ n1 = n2 ∧ s1.toList ≠ s2.toList) := by
  by_cases e3 : l1 = l2
  · by_cases e4 : k1 = k2
    · by_cases e5 : n1 = n2
      · refine Or.inr (Or.inr (Or.inr ⟨e3, e4, e5, fun e6 => h ?_⟩))
        rw [ba_list, ba_list] at e6
        rw [ht, hd, e3, e4, e5, nb_inj.1 e6]
      · exact Or.inr (Or.inr (Or.inl ⟨e3, e4, e5⟩))
    · exact Or.inr (Or.inl ⟨e3, e4⟩)
  · exact Or.inl e3
end Go.Proofs.YtlamncldbnagmaaGreatDoor
namespace Go.Proofs.YtlamncldbnagmaaGreatDoor
open Go.RowKit

theorem frozen_at {w : World} {g : Nat} {cs : Array Value} {ty : TypeId} (h : w.heap[g]? = some (.cells cs ty)) (i : Nat) : w.frozen? ⟨g, i, none⟩ = false := by simp [World.frozen?, h]
def zeroV : Vr := ⟨0, false, 0, 0, 0, ⟨#[]⟩⟩
theorem set6 {w : World} {g : Nat} {a : Vr} {ty : TypeId} (h : w.heap[g]? = some (.cells a.a ty)) (v0 v1 v2 v3 v4 v5 : Value) :
    ((((((w.setCell ⟨g, 0, none⟩ v0).setCell ⟨g, 1, none⟩ v1).setCell ⟨g, 2, none⟩ v2).setCell ⟨g, 3, none⟩ v3).setCell ⟨g, 4, none⟩ v4).setCell ⟨g, 5, none⟩ v5).heap[g]? = some (.cells #[v0, v1, v2, v3, v4, v5] ty) := by
  simp only [World.setCell, Array.getElem?_modify, h, Vr.a]
  simp
theorem boxes3 (w : World) (a b c : Vr) : ∃ wa, wa = ((w.alloc (.cells a.a 65)).alloc (.cells b.a 65)).alloc (.cells c.a 65) ∧ VAt wa w.heap.size 0 a ∧ VAt wa (w.heap.size + 1) 0 b ∧ VAt wa (w.heap.size + 1 + 1) 0 c ∧ wa.heap[w.heap.size + 1 + 1]? = some (.cells c.a 65) ∧ Below w.heap.size w wa := by
  refine ⟨_, rfl, ((VAt.new w a _).alloc _).alloc _, ?_, ?_, ?_, (((Below.refl _ _).alloc (Nat.le_refl _) _).alloc (by simp) _).alloc (by rw [World.size_alloc, World.size_alloc]; omega) _⟩
  · have := VAt.new (w.alloc (.cells a.a 65)) b 65
    rw [World.size_alloc] at this; exact this.alloc _
  · have := VAt.new ((w.alloc (.cells a.a 65)).alloc (.cells b.a 65)) c 65
    rw [World.size_alloc, World.size_alloc] at this; exact this
  · have := heap_alloc_new ((w.alloc (.cells a.a 65)).alloc (.cells b.a 65)) (.cells c.a 65)
    rw [World.size_alloc, World.size_alloc] at this; exact this
theorem below6 {B : Nat} {w w1 : World} (h : Below B w w1) {g : Nat} (hg : B ≤ g) (v0 v1 v2 v3 v4 v5 : Value) : Below B w ((((((w1.setCell ⟨g, 0, none⟩ v0).setCell ⟨g, 1, none⟩ v1).setCell ⟨g, 2, none⟩ v2).setCell ⟨g, 3, none⟩ v3).setCell ⟨g, 4, none⟩ v4).setCell ⟨g, 5, none⟩ v5) :=
  (((((h.setCell (p := ⟨g, 0, none⟩) hg _).setCell (p := ⟨g, 1, none⟩) hg _).setCell (p := ⟨g, 2, none⟩) hg _).setCell (p := ⟨g, 3, none⟩) hg _).setCell (p := ⟨g, 4, none⟩) hg _).setCell (p := ⟨g, 5, none⟩) hg _

/-- Which values may be, of a version that lives. -/
def goodU (mark : Bool) (k n : Int) (s : ByteArray) : Bool := if mark then k == 0 && (n == 0 && decide (s.size = 0)) else (k == 1 && decide (s.size = 0)) || (k == 2 && (n == 0 && decide (s.size ≤ 64)))
theorem goodU_any (m : Bool) (k n : Int) (s : ByteArray) (w : World) (hs : s.size ≤ maxLen) :
    Calls Tryz.prog 59 #[.agg #[.int .i64 k, .int .i64 n, .string s], .bool m] w fun x w' => x = .returned (.bool (goodU m k n s)) ∧ Below w.heap.size w w' := by
  have hs' : (s.size : Int) ≤ 9223372036854775807 := by unfold maxLen at hs; omega
  have hE : Hid (∀ o : Obj, Below w.heap.size w (w.alloc o)) := fun o => (Below.refl _ _).alloc (Nat.le_refl _) _
  have he := ba_isEmpty s
  clear hs
  obtain ⟨R, hR⟩ : ∃ R, R = goodU m k n s := ⟨_, rfl⟩
  rw [← hR]
  have HR : Hid (R = goodU m k n s) := hR
  clear hR
  cases m
  · by_cases h1 : k = 1
    · subst h1
      go_enter Tryz.func59, Tryz.ntmps59
      go_wp2_with fail
      go_ret
      exact ⟨ret_bool (by rw [HR.out]; simp [goodU]), hE.out _⟩
    · by_cases h2 : k = 2
      · subst h2
        by_cases h3 : n = 0
        · subst h3
          go_enter Tryz.func59, Tryz.ntmps59
          go_wp2_with fail
          go_ret
          exact ⟨ret_bool (by rw [HR.out]; simp [goodU]; omega), hE.out _⟩
        · go_enter Tryz.func59, Tryz.ntmps59
          go_wp2_with fail
          go_ret
          exact ⟨ret_bool (by rw [HR.out]; simp [goodU, h3]), hE.out _⟩
      · go_enter Tryz.func59, Tryz.ntmps59
        go_wp2_with fail
        go_ret
        exact ⟨ret_bool (by rw [HR.out]; simp [goodU, h1, h2]), hE.out _⟩
  · by_cases h1 : k = 0 <;> by_cases h2 : n = 0 <;> by_cases h3 : s.size = 0 <;> (simp only [h3, decide_true, decide_false] at he; go_enter Tryz.func59, Tryz.ntmps59; go_wp2_with fail; go_ret; exact ⟨ret_bool (by rw [HR.out]; simp [goodU, h1, h2, h3]), hE.out _⟩)
end Go.Proofs.YtlamncldbnagmaaGreatDoor
