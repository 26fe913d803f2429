/-
  SEVERAL TEXTS IN ONE: KeyShelf, KeyCmp, KeyName, KeyGood, VerPlain, VerCmp, VerJoin, VerLives, CxWeigh, CxDigest.
-/
import Derived.Test.YtabkgcmlfabmgaaGreatDoorDskShelf
import Derived.Test.YtabkgcmlfabmgaaGreatDoorChecked
import Derived.Test.YtabkgcmlfabmgaaGreatDoorKeyPlain
import Derived.Test.YtabkgcmlfabmgaaGreatDoorOwn
import Derived.WalkKit
import Derived.Laws.Cover1
import Derived.StillTailTactics
import Derived.Test.YtabkgcmlfabmgaaGreatDoorRegCl
import Derived.Test.YtabkgcmlfabmgaaGreatDoorCellMany
import Derived.Test.YtabkgcmlfabmgaaGreatDoorMurSum
namespace Go.Proofs.YtabkgcmlfabmgaaGreatDoor
open Go.RowKit

/-- A text's bytes. -/
def nb (s : ByteArray) : List UInt8 := s.data.toList
def strB (l : List UInt8) : ByteArray := ⟨l.toArray⟩
theorem strB_nb (s : ByteArray) : strB (nb s) = s := by obtain ⟨a⟩ := s; simp [strB, nb]
theorem nb_strB (l : List UInt8) : nb (strB l) = l := by simp [strB, nb]
theorem nb_size (s : ByteArray) : (nb s).length = s.size := by show s.data.toList.length = s.data.size; exact Array.length_toList
theorem nb_inj {a b : ByteArray} : nb a = nb b ↔ a = b := ⟨fun h => by rw [← strB_nb a, h, strB_nb], fun h => by rw [h]⟩
theorem ba_list (s : ByteArray) : s.toList = nb s := Go.ByteArray.toList_eq s
theorem ba_same (a b : ByteArray) : (a.toList == b.toList) = decide (a = b) := by
  rw [ba_list, ba_list]
  by_cases h : a = b
  · simp [h]
  · simp only [h, decide_false, beq_eq_false_iff_ne]; exact fun e => h (nb_inj.1 e)
theorem ba_less (a b : ByteArray) : Op.bytesLess a.toList b.toList = decide (cb (nb a) (nb b) = -1) := by
  rw [ba_list, ba_list]; exact less_cb _ _


/-! ### Of numbers, the first that is not 0 -/
def fu : List Int → Int
  | [] => 0
  | x :: l => th x (fu l)
theorem fu_skip : ∀ (k : Nat) (l : List Int), (∀ j, j < k → l.getD j 0 = 0) → fu l = fu (l.drop k)
  | 0, _, _ => rfl
  | k + 1, [], _ => rfl
  | k + 1, x :: l, h => by
    have h0 : x = 0 := by have := h 0 (by omega); simpa using this
    subst h0
    rw [fu, th_zero, List.drop_succ_cons]
    exact fu_skip k l fun j hj => by have := h (j + 1) (by omega); simpa using this
theorem fu_at (k : Nat) (l : List Int) (h : ∀ j, j < k → l.getD j 0 = 0) (hk : k < l.length) (hn : l.getD k 0 ≠ 0) : fu l = l.getD k 0 := by
  rw [fu_skip k l h, List.drop_eq_getElem_cons hk, fu]
  have : l.getD k 0 = l[k] := by simp [List.getD, hk]
  rw [this] at hn ⊢
  exact th_of hn _
theorem zero_snoc {l : List Int} {k : Nat} (h : ∀ j, j < k → l.getD j 0 = 0) (h0 : l.getD k 0 = 0) : ∀ j, j < k + 1 → l.getD j 0 = 0 := by
  intro j hj
  rcases Nat.lt_or_ge j k with g | g
  · exact h j g
  · have : j = k := by omega
    rw [this]; exact h0
/-! ### Keys in memory -/
structure Kb where
  t : ByteArray
  p : ByteArray
  r : Int
  c : ByteArray
def Kb.ky (k : Kb) : Ky := ⟨nb k.t, nb k.p, k.r, nb k.c⟩
def Kb.v (k : Kb) : Value := .agg #[.string k.t, .string k.p, .int .i64 k.r, .string k.c]
theorem Kb.ky_inj {a b : Kb} : a.ky = b.ky ↔ a = b := by
  constructor
  · intro h
    cases a; cases b
    simp only [Kb.ky, Ky.mk.injEq, nb_inj] at h
    obtain ⟨rfl, rfl, rfl, rfl⟩ := h; rfl
  · rintro rfl; rfl

theorem texts_any (a b : ByteArray) (w : World) :
    Calls Tryz.prog 142 #[.string a, .string b] w fun x w' => x = .returned (.int .i64 (cb (nb a) (nb b))) ∧ w' = w := by
  have h1 := ba_less a b
  have h2 := ba_same a b
  rcases cb_cmpr.r (nb a) (nb b) with h | h | h
  · rw [h] at h1
    rw [decide_eq_true rfl] at h1
    go_enter Tryz.func142, Tryz.ntmps142
    go_wp2_with fail
    go_ret
    exact ⟨ret_int h.symm, rfl⟩
  · rw [h] at h1
    rw [decide_eq_false (by omega)] at h1
    have e : a = b := nb_inj.1 ((cb_cmpr.z _ _).1 h)
    subst e
    rw [decide_eq_true rfl] at h2
    go_enter Tryz.func142, Tryz.ntmps142
    go_wp2_with fail
    go_ret
    exact ⟨ret_int h.symm, rfl⟩
  · have e : a ≠ b := by rintro rfl; rw [cb_self] at h; omega
    rw [h, decide_eq_false (by omega)] at h1
    rw [decide_eq_false e] at h2
    go_enter Tryz.func142, Tryz.ntmps142
    go_wp2_with fail
    go_ret
    exact ⟨ret_int h.symm, rfl⟩
theorem refCmp_any (a b : Kb) (w : World) :
    Calls Tryz.prog 106 #[a.v, b.v] w fun x w' => x = .returned (.int .i64 (kc a.ky b.ky)) ∧ Below w.heap.size w w' := by
  obtain ⟨t1, p1, r1, c1⟩ := a
  obtain ⟨t2, p2, r2, c2⟩ := b
  have T : Hid (∀ (a b : ByteArray) (w : World), Calls Tryz.prog 142 #[.string a, .string b] w fun x w' => x = .returned (.int .i64 (cb (nb a) (nb b))) ∧ w' = w) := texts_any
  have h1 := ba_same t1 t2
  have h2 := ba_same p1 p2
  have hB : Hid (∀ o1 o2 : Obj, Below w.heap.size w ((w.alloc o1).alloc o2)) := fun o1 o2 => ((Below.refl _ _).alloc (Nat.le_refl _) _).alloc (by simp) _
  obtain ⟨R, hR⟩ : ∃ R, R = kc (Kb.ky ⟨t1, p1, r1, c1⟩) (Kb.ky ⟨t2, p2, r2, c2⟩) := ⟨_, rfl⟩
  rw [← hR]
  simp only [kc, Kb.ky] at hR
  simp only [Kb.v]
  by_cases e1 : t1 = t2
  · subst e1
    rw [decide_eq_true rfl] at h1
    rw [cb_self, th_zero] at hR
    by_cases e2 : p1 = p2
    · subst e2
      rw [decide_eq_true rfl] at h2
      rw [cb_self, th_zero] at hR
      rcases Int.lt_trichotomy r1 r2 with e3 | e3 | e3
      · have : ci r1 r2 = -1 := by unfold ci; rw [if_pos e3]
        rw [this, th_of (by omega)] at hR
        go_enter Tryz.func106, Tryz.ntmps106
        go_wp2_with fail
        go_ret
        exact ⟨ret_int hR.symm, hB.out _ _⟩
      · subst e3
        rw [(ci_cmpr.z _ _).2 rfl, th_zero] at hR
        go_enter Tryz.func106, Tryz.ntmps106
        go_wp2_with (go_at_call 142; go_fit (T.out _ _ _); rintro x w1 ⟨rfl, rfl⟩)
        go_ret
        exact ⟨ret_int hR.symm, hB.out _ _⟩
      · have : ci r1 r2 = 1 := by unfold ci; rw [if_neg (by omega), if_pos e3]
        rw [this, th_of (by omega)] at hR
        have e4 : ¬ r1 < r2 := by omega
        go_enter Tryz.func106, Tryz.ntmps106
        have hR' : Hid (R = 1) := hR
        clear hR
        go_wp2_with fail
        go_ret
        exact ⟨ret_int hR'.out.symm, hB.out _ _⟩
    · rw [decide_eq_false e2] at h2
      rw [th_of (fun h => e2 (nb_inj.1 ((cb_cmpr.z _ _).1 h)))] at hR
      go_enter Tryz.func106, Tryz.ntmps106
      go_wp2_with (go_at_call 142; go_fit (T.out _ _ _); rintro x w1 ⟨rfl, rfl⟩)
      go_ret
      exact ⟨ret_int hR.symm, hB.out _ _⟩
  · rw [decide_eq_false e1] at h1
    rw [th_of (fun h => e1 (nb_inj.1 ((cb_cmpr.z _ _).1 h)))] at hR
    go_enter Tryz.func106, Tryz.ntmps106
    go_wp2_with (go_at_call 142; go_fit (T.out _ _ _); rintro x w1 ⟨rfl, rfl⟩)
    go_ret
    exact ⟨ret_int hR.symm, hB.out _ _⟩

theorem box_cells (w : World) (o : Obj) (t : TypeId) (cs : Array Value) (i : Nat) (v : Value) (h : cs[i]? = some v) : ((w.alloc (.cells cs t)).alloc o).cell? ⟨w.heap.size, i, none⟩ = some v ∧ (o = .cells cs t → ((w.alloc o).alloc (.cells cs t)).cell? ⟨w.heap.size + 1, i, none⟩ = some v) := by
  have h1 : ((w.alloc (.cells cs t)).alloc o).heap[w.heap.size]? = some (.cells cs t) := by
    rw [Below.heap_alloc _ _ _ (by rw [World.size_alloc]; omega)]; exact heap_alloc_new w _
  have h2 : ((w.alloc o).alloc (.cells cs t)).heap[w.heap.size + 1]? = some (.cells cs t) := by
    have := heap_alloc_new (w.alloc o) (.cells cs t); rwa [World.size_alloc] at this
  refine ⟨?_, fun _ => ?_⟩
  · simp only [World.cell?, h1]; simpa using h
  · simp only [World.cell?, h2]; simpa using h
theorem box_cells2 (w : World) (o : Obj) (t : TypeId) (cs : Array Value) (i : Nat) (v : Value) (h : cs[i]? = some v) : ((w.alloc o).alloc (.cells cs t)).cell? ⟨w.heap.size + 1, i, none⟩ = some v := by
  have h2 : ((w.alloc o).alloc (.cells cs t)).heap[w.heap.size + 1]? = some (.cells cs t) := by
    have := heap_alloc_new (w.alloc o) (.cells cs t); rwa [World.size_alloc] at this
  simp only [World.cell?, h2]; simpa using h
theorem kc_fu (t1 t2 p1 p2 c1 c2 : ByteArray) (r1 r2 : Int) : kc (Kb.ky ⟨t1, p1, r1, c1⟩) (Kb.ky ⟨t2, p2, r2, c2⟩) = fu [cb (nb t1) (nb t2), cb (nb p1) (nb p2), ci r1 r2, cb (nb c1) (nb c2)] := by
  show th _ (th _ (th _ _)) = th _ (th _ (th _ (th _ 0)))
  have : ∀ x, th x 0 = x := fun x => by unfold th; split <;> omega
  rw [this]; rfl

structure Kb.Ok (k : Kb) : Prop where
  t : k.t.size ≤ 5000
  p : k.p.size ≤ 5000
  c : k.c.size ≤ 5000
  r : InI k.r
structure Kb.Big (k : Kb) : Prop where
  t : k.t.size ≤ 2000000
  p : k.p.size ≤ 2000000
  c : k.c.size ≤ 2000000
  r : InI k.r
theorem Kb.Ok.big {k : Kb} (h : k.Ok) : k.Big := ⟨Nat.le_trans h.t (by decide), Nat.le_trans h.p (by decide), Nat.le_trans h.c (by decide), h.r⟩
end Go.Proofs.YtabkgcmlfabmgaaGreatDoor
namespace Go.Proofs.YtabkgcmlfabmgaaGreatDoor
open Go.RowKit

def isL (x : Int) : Bool := decide (97 ≤ x) && decide (x ≤ 122)
def isD (x : Int) : Bool := decide (48 ≤ x) && decide (x ≤ 57)
def okC (x : Int) : Bool := isL x || isD x || x == 95
def nameB (l : List UInt8) : Bool := decide (1 ≤ l.length) && decide (l.length ≤ 16) && isL ((l.getD 0 0).toNat : Int) && l.all fun b => okC (b.toNat : Int)
theorem name_iff (l : List UInt8) : nameB l = true ↔ 1 ≤ l.length ∧ l.length ≤ 16 ∧ isL ((l.getD 0 0).toNat : Int) = true ∧ ∀ j, j < l.length → okC ((l.getD j 0).toNat : Int) = true := by
  unfold nameB
  simp only [Bool.and_eq_true, decide_eq_true_eq, List.all_eq_true, and_assoc]
  constructor
  · rintro ⟨h1, h2, h3, h4⟩
    refine ⟨h1, h2, h3, fun j hj => ?_⟩
    have e : l.getD j 0 = l[j] := by simp [List.getD, hj]
    rw [e]; exact h4 _ (List.getElem_mem hj)
  · rintro ⟨h1, h2, h3, h4⟩
    refine ⟨h1, h2, h3, fun b hb => ?_⟩
    obtain ⟨j, hj, rfl⟩ := List.getElem_of_mem hb
    have e : l.getD j 0 = l[j] := by simp [List.getD, hj]
    have := h4 j hj
    rwa [e] at this
theorem letter_any (x : Int) (w : World) : Calls Tryz.prog 146 #[.int .u8 x] w fun e w' => e = .returned (.bool (isL x)) ∧ w' = w := by
  unfold isL
  by_cases h : 97 ≤ x
  · have d : decide (97 ≤ x) = true := decide_eq_true h
    go_enter Tryz.func146, Tryz.ntmps146
    go_wp2_with fail
    go_ret
    exact ⟨ret_bool (by first | rfl | (rw [d]; simp)), rfl⟩
  · have d : decide (97 ≤ x) = false := decide_eq_false h
    go_enter Tryz.func146, Tryz.ntmps146
    go_wp2_with fail
    go_ret
    exact ⟨ret_bool (by first | rfl | (rw [d]; simp)), rfl⟩
theorem digit_any (x : Int) (w : World) : Calls Tryz.prog 147 #[.int .u8 x] w fun e w' => e = .returned (.bool (isD x)) ∧ w' = w := by
  unfold isD
  by_cases h : 48 ≤ x
  · have d : decide (48 ≤ x) = true := decide_eq_true h
    go_enter Tryz.func147, Tryz.ntmps147
    go_wp2_with fail
    go_ret
    exact ⟨ret_bool (by first | rfl | (rw [d]; simp)), rfl⟩
  · have d : decide (48 ≤ x) = false := decide_eq_false h
    go_enter Tryz.func147, Tryz.ntmps147
    go_wp2_with fail
    go_ret
    exact ⟨ret_bool (by first | rfl | (rw [d]; simp)), rfl⟩

theorem at_nb (s : ByteArray) (k : Nat) (hk : k < s.size) : (nb s).getD k 0 = s[k] := by
  have : k < s.data.toList.length := by simpa using hk
  unfold nb
  rw [List.getD_eq_getElem?_getD, List.getElem?_eq_getElem this]
  rfl
theorem name_no {l : List UInt8} (h : ¬ (1 ≤ l.length ∧ l.length ≤ 16 ∧ isL ((l.getD 0 0).toNat : Int) = true ∧ ∀ j, j < l.length → okC ((l.getD j 0).toNat : Int) = true)) : nameB l = false := by
  cases hg : nameB l
  · rfl
  · exact absurd ((name_iff l).1 hg) h

set_option maxRecDepth 100000 in
set_option maxHeartbeats 1000000 in
theorem name_any (s : ByteArray) (w : World) (hs : s.size ≤ maxLen) :
    Calls Tryz.prog 111 #[.string s] w fun e w' => e = .returned (.bool (nameB (nb s))) ∧ w' = w := by
  have hsz : (s.size : Int) ≤ 9223372036854775807 := by unfold maxLen at hs; omega
  have Hi : Hid _ := name_iff (nb s)
  have Hn : Hid _ := @name_no (nb s)
  rw [nb_size] at Hi Hn
  have Hat : Hid _ := at_nb s
  have L : Hid (∀ (x : Int) (w : World), Calls Tryz.prog 146 #[.int .u8 x] w fun e w' => e = .returned (.bool (isL x)) ∧ w' = w) := letter_any
  have D : Hid (∀ (x : Int) (w : World), Calls Tryz.prog 147 #[.int .u8 x] w fun e w' => e = .returned (.bool (isD x)) ∧ w' = w) := digit_any
  clear hs
  by_cases h0 : s.size = 0
  · go_enter Tryz.func111, Tryz.ntmps111
    go_wp2_with fail
    go_ret
    exact ⟨ret_bool (Hn.out (by omega)).symm, rfl⟩
  by_cases h16 : 16 < s.size
  · go_enter Tryz.func111, Tryz.ntmps111
    go_wp2_with fail
    go_ret
    exact ⟨ret_bool (Hn.out (by omega)).symm, rfl⟩
  have hb1 : decide ((s.size : Int) < 1) = false := decide_eq_false (by omega)
  have hb2 : decide (16 < (s.size : Int)) = false := decide_eq_false (by omega)
  have hsi : (s.size : Int) ≤ 16 := by omega
  have hpos : 0 < s.size := by omega
  have Hsz : Hid (s.size ≤ 16) := by show s.size ≤ 16; omega
  clear h0 h16
  obtain ⟨x0, hx0⟩ : ∃ x, ((s[0].toNat : Nat) : Int) = x := ⟨_, rfl⟩
  cases hl0 : isL x0
  · have HF : Hid (nameB (nb s) = false) := Hn.out (fun hh => by have := hh.2.2.1; rw [Hat.out 0 hpos, hx0, hl0] at this; cases this)
    have L0 := L.out x0
    rw [hl0] at L0
    have L0' : Hid (∀ w : World, Calls Tryz.prog 146 #[.int .u8 x0] w fun e w' => e = .returned (.bool false) ∧ w' = w) := L0
    clear L0 L D
    go_enter Tryz.func111, Tryz.ntmps111
    go_wp2_with (go_at_call 146; go_fit (L0'.out _); rintro e w1 ⟨rfl, rfl⟩)
    go_ret
    exact ⟨ret_bool HF.out.symm, rfl⟩
  have HL0 : Hid (isL (((nb s).getD 0 0).toNat : Int) = true) := by show isL _ = true; rw [Hat.out 0 hpos, hx0, hl0]
  have L0 := L.out x0
  rw [hl0] at L0
  have L0' : Hid (∀ w : World, Calls Tryz.prog 146 #[.int .u8 x0] w fun e w' => e = .returned (.bool true) ∧ w' = w) := L0
  clear L0 hl0
  go_enter Tryz.func111, Tryz.ntmps111
  go_wp2_with (go_at_call 146; go_fit (L0'.out _); rintro e w1 ⟨rfl, rfl⟩)
  clear hx0 L0'
  go_loop [20] (fun i => ∃ k : Nat, k ≤ s.size ∧ i = .int .i64 k ∧ ∀ j, j < k → okC (((nb s).getD j 0).toNat : Int) = true) (fun i => s.size - (intOf i).toNat)
  case atStart => exact ⟨0, Nat.zero_le _, rfl, fun j hj => absurd hj (Nat.not_lt_zero _)⟩
  case round =>
    obtain ⟨k, hk, rfl, hall⟩ := hrel
    have HA : Hid (∀ j, j < k → okC (((nb s).getD j 0).toNat : Int) = true) := hall
    clear hall
    by_cases hlt : k < s.size
    · obtain ⟨x, hx⟩ : ∃ x, ((s[k].toNat : Nat) : Int) = x := ⟨_, rfl⟩
      have HB : Hid (okC x = false → nameB (nb s) = false) := fun h => Hn.out fun hh => by have := hh.2.2.2 k hlt; rw [Hat.out k hlt, hx, h] at this; cases this
      have HN : Hid (okC x = true → ∀ j, j < k + 1 → okC (((nb s).getD j 0).toNat : Int) = true) := fun h j hj => by
        by_cases e : j = k
        · subst e; rw [Hat.out j hlt, hx]; exact h
        · exact HA.out j (by omega)
      have L1 : Hid (∀ w : World, Calls Tryz.prog 146 #[.int .u8 x] w fun e w' => e = .returned (.bool (isL x)) ∧ w' = w) := L.out x
      have D1 : Hid (∀ w : World, Calls Tryz.prog 147 #[.int .u8 x] w fun e w' => e = .returned (.bool (isD x)) ∧ w' = w) := D.out x
      have HO : Hid (okC x = (isL x || isD x || x == 95)) := rfl
      generalize isL x = bl at *
      generalize isD x = bd at *
      generalize okC x = bo at *
      clear Hi Hn Hat HA HL0 L D
      cases bl
      · cases bd
        · by_cases h95 : x = 95
          · subst h95
            have HN' : Hid (∀ j, j < k + 1 → okC (((nb s).getD j 0).toNat : Int) = true) := HN.out (by rw [HO.out]; rfl)
            clear HN HB HO
            go_wp2_with (first | (go_at_call 146; go_fit (L1.out _); rintro e w1 ⟨rfl, rfl⟩) | (go_at_call 147; go_fit (D1.out _); rintro e w1 ⟨rfl, rfl⟩))
            go_round
            case rel => exact ⟨k + 1, by omega, by go_num, HN'.out⟩
            case measure => simp [intOf]; omega
          · have e95 : (x == 95) = false := by rw [beq_eq_false_iff_ne]; exact h95
            have HF : Hid (nameB (nb s) = false) := HB.out (by rw [HO.out, e95]; rfl)
            clear HN HB HO
            go_wp2_with (first | (go_at_call 146; go_fit (L1.out _); rintro e w1 ⟨rfl, rfl⟩) | (go_at_call 147; go_fit (D1.out _); rintro e w1 ⟨rfl, rfl⟩))
            go_ret
            exact ⟨ret_bool HF.out.symm, rfl⟩
        · have HN' : Hid (∀ j, j < k + 1 → okC (((nb s).getD j 0).toNat : Int) = true) := HN.out (by rw [HO.out]; rfl)
          clear HN HB HO
          go_wp2_with (first | (go_at_call 146; go_fit (L1.out _); rintro e w1 ⟨rfl, rfl⟩) | (go_at_call 147; go_fit (D1.out _); rintro e w1 ⟨rfl, rfl⟩))
          go_round
          case rel => exact ⟨k + 1, by omega, by go_num, HN'.out⟩
          case measure => simp [intOf]; omega
      · have HN' : Hid (∀ j, j < k + 1 → okC (((nb s).getD j 0).toNat : Int) = true) := HN.out (by rw [HO.out]; rfl)
        clear HN HB HO
        go_wp2_with (first | (go_at_call 146; go_fit (L1.out _); rintro e w1 ⟨rfl, rfl⟩) | (go_at_call 147; go_fit (D1.out _); rintro e w1 ⟨rfl, rfl⟩))
        go_round
        case rel => exact ⟨k + 1, by omega, by go_num, HN'.out⟩
        case measure => simp [intOf]; omega
    · obtain rfl : k = s.size := by omega
      have HT : Hid (nameB (nb s) = true) := Hi.out.2 ⟨hpos, Hsz.out, HL0.out, HA.out⟩
      clear Hi Hn HA
      go_wp2_with fail
      go_ret
      exact ⟨ret_bool HT.out.symm, rfl⟩
end Go.Proofs.YtabkgcmlfabmgaaGreatDoor
namespace Go.Proofs.YtabkgcmlfabmgaaGreatDoor
open Go.RowKit

def goodK (k : Ky) : Bool := nameB k.t && decide (1 ≤ k.p.length) && decide (k.p.length ≤ 64) && (k.c == [] || nameB k.c)
def emptyB : ByteArray := ⟨#[]⟩
theorem nb_empty (s : ByteArray) : nb s = [] ↔ s.size = 0 := by
  rw [← nb_size]; exact List.length_eq_zero_iff.symm

theorem ba_isEmpty (c : ByteArray) : c.toList.isEmpty = decide (c.size = 0) := by
  rw [ba_list]
  by_cases h : c.size = 0
  · rw [(nb_empty c).2 h]; simp [h]
  · have := fun e => h ((nb_empty c).1 e)
    simp only [h, decide_false]; cases hn : nb c with | nil => exact absurd hn this | cons => rfl
set_option maxRecDepth 100000 in
set_option maxHeartbeats 1000000 in
theorem good_any (k : Kb) (w : World) (h1 : k.t.size ≤ maxLen) (h2 : k.p.size ≤ maxLen) (h3 : k.c.size ≤ maxLen) :
    Calls Tryz.prog 70 #[k.v] w fun e w' => e = .returned (.bool (goodK k.ky)) ∧ Below w.heap.size w w' := by
  obtain ⟨t, p, r, c⟩ := k
  simp only at h1 h2 h3
  have hp : (p.size : Int) ≤ 9223372036854775807 := by unfold maxLen at h2; omega
  have N1 : Hid (∀ w : World, Calls Tryz.prog 111 #[.string t] w fun e w' => e = .returned (.bool (nameB (nb t))) ∧ w' = w) := fun w => name_any t w h1
  have N2 : Hid (∀ w : World, Calls Tryz.prog 111 #[.string c] w fun e w' => e = .returned (.bool (nameB (nb c))) ∧ w' = w) := fun w => name_any c w h3
  have hR : Hid (goodK (Kb.ky ⟨t, p, r, c⟩) = (nameB (nb t) && decide (1 ≤ p.size) && decide (p.size ≤ 64) && (decide (c.size = 0) || nameB (nb c)))) := by
    show (_ && _ && _ && _) = _
    have e1 : (nb p).length = p.size := nb_size p
    have e2 : (nb c == []) = decide (c.size = 0) := by
      by_cases h : c.size = 0
      · rw [(nb_empty c).2 h]; simp [h]
      · have := fun e => h ((nb_empty c).1 e)
        simp only [h, decide_false, beq_eq_false_iff_ne, ne_eq]; exact this
    simp only [Kb.ky, e1, e2]
  have hB : Hid (∀ o : Obj, Below w.heap.size w (w.alloc o)) := fun o => (Below.refl _ _).alloc (Nat.le_refl _) _
  have hc := ba_isEmpty c
  clear h1 h2 h3
  simp only [Kb.v]
  generalize nameB (nb t) = b1 at *
  generalize nameB (nb c) = b2 at *
  cases b1
  · go_enter Tryz.func70, Tryz.ntmps70
    go_wp2_with (go_at_call 111; go_fit (N1.out _); rintro x w1 ⟨rfl, rfl⟩)
    go_ret
    exact ⟨ret_bool (by rw [hR.out]; rfl), hB.out _⟩
  by_cases hp1 : p.size = 0
  · have d1 : decide ((p.size : Int) < 1) = true := decide_eq_true (by omega)
    have hR' : Hid (goodK (Kb.ky ⟨t, p, r, c⟩) = false) := by show _ = _; rw [hR.out, hp1]; rfl
    clear hR
    go_enter Tryz.func70, Tryz.ntmps70
    go_wp2_with (go_at_call 111; go_fit (N1.out _); rintro x w1 ⟨rfl, rfl⟩)
    go_ret
    exact ⟨ret_bool hR'.out.symm, hB.out _⟩
  have d1 : decide ((p.size : Int) < 1) = false := decide_eq_false (by omega)
  by_cases hp2 : 64 < p.size
  · have d2 : decide (64 < (p.size : Int)) = true := decide_eq_true (by omega)
    have hR' : Hid (goodK (Kb.ky ⟨t, p, r, c⟩) = false) := by
      show _ = _; rw [hR.out]
      have : decide (p.size ≤ 64) = false := decide_eq_false (by omega)
      rw [this]; simp
    clear hR
    go_enter Tryz.func70, Tryz.ntmps70
    go_wp2_with (go_at_call 111; go_fit (N1.out _); rintro x w1 ⟨rfl, rfl⟩)
    go_ret
    exact ⟨ret_bool hR'.out.symm, hB.out _⟩
  have d2 : decide (64 < (p.size : Int)) = false := decide_eq_false (by omega)
  have hR2 : Hid (goodK (Kb.ky ⟨t, p, r, c⟩) = (decide (c.size = 0) || b2)) := by
    show _ = _; rw [hR.out]
    have e1 : decide (1 ≤ p.size) = true := decide_eq_true (by omega)
    have e2 : decide (p.size ≤ 64) = true := decide_eq_true (by omega)
    rw [e1, e2]; simp
  clear hR
  by_cases hc0 : c.size = 0
  · rw [decide_eq_true hc0] at hc
    have hR' : Hid (goodK (Kb.ky ⟨t, p, r, c⟩) = true) := by show _ = _; rw [hR2.out, hc0]; rfl
    clear hR2
    go_enter Tryz.func70, Tryz.ntmps70
    go_wp2_with (go_at_call 111; go_fit (N1.out _); rintro x w1 ⟨rfl, rfl⟩)
    go_ret
    exact ⟨ret_bool hR'.out.symm, hB.out _⟩
  · rw [decide_eq_false hc0] at hc
    have hR' : Hid (goodK (Kb.ky ⟨t, p, r, c⟩) = b2) := by show _ = _; rw [hR2.out, decide_eq_false hc0]; rfl
    clear hR2
    go_enter Tryz.func70, Tryz.ntmps70
    go_wp2_with (first | (go_at_call_of 111 (Value.string t); go_fit (N1.out _); rintro x w1 ⟨rfl, rfl⟩) | (go_at_call_of 111 (Value.string c); go_fit (N2.out _); rintro x w1 ⟨rfl, rfl⟩))
    go_ret
    exact ⟨ret_bool hR'.out.symm, hB.out _⟩

end Go.Proofs.YtabkgcmlfabmgaaGreatDoor
namespace Go.Proofs.YtabkgcmlfabmgaaGreatDoor
open Go.RowKit

/-- A version: its texts as they lie in memory. -/
structure Vr where
  time : Int
  dead : Bool
  loc : Int
  kind : Int
  num : Int
  s : ByteArray
def Vr.v (a : Vr) : Value := .agg #[.int .i64 a.time, .bool a.dead, .int .i64 a.loc, .int .i64 a.kind, .int .i64 a.num, .string a.s]
/-- What of a version is looked at. -/
def b01 (b : Bool) : Int := if b then 1 else 0
def Vr.see (a : Vr) : Int × (Int × (Int × (Int × (Int × List UInt8)))) := if a.dead then (a.time, 1, a.loc, 0, 0, []) else (a.time, 0, 0, a.kind, a.num, nb a.s)
def vl : (Int × (Int × (Int × (Int × (Int × List UInt8))))) → (Int × (Int × (Int × (Int × (Int × List UInt8))))) → Int := lex ci (lex ci (lex ci (lex ci (lex ci cb))))
theorem vl_cmpr : Cmpr vl := ci_cmpr.lex (ci_cmpr.lex (ci_cmpr.lex (ci_cmpr.lex (ci_cmpr.lex cb_cmpr))))
def cv (a b : Vr) : Int := vl a.see b.see
theorem cv_self (a : Vr) : cv a a = 0 := (vl_cmpr.z _ _).2 rfl
theorem cv_n (a b : Vr) : cv a b = - cv b a := vl_cmpr.n _ _
theorem cv_r (a b : Vr) : cv a b = -1 ∨ cv a b = 0 ∨ cv a b = 1 := vl_cmpr.r _ _
theorem cv_t (a b c : Vr) (h : cv a b ≤ 0) (g : cv b c ≤ 0) : cv a c ≤ 0 := vl_cmpr.t _ _ _ h g
theorem ci_self (a : Int) : ci a a = 0 := (ci_cmpr.z a a).2 rfl
theorem ci_ne {a b : Int} (h : a ≠ b) : ci a b ≠ 0 := fun e => h ((ci_cmpr.z a b).1 e)
theorem cv_time {a b : Vr} (h : a.time ≠ b.time) : cv a b = ci a.time b.time := by
  unfold cv vl lex Vr.see
  split <;> split <;> exact th_of (ci_ne h) _
theorem cv_dead {a b : Vr} (h : a.time = b.time) (ha : a.dead = true) (hb : b.dead = true) : cv a b = ci a.loc b.loc := by
  unfold cv vl lex Vr.see
  rw [ha, hb, h]
  simp only [if_true]
  rw [ci_self, th_zero, ci_self, th_zero]
  show th _ (th (ci 0 0) (th (ci 0 0) (cb [] []))) = _
  rw [ci_self, th_zero, th_zero, cb_nil_nil]
  unfold th; split <;> omega
theorem cv_left {a b : Vr} (h : a.time = b.time) (ha : a.dead = true) (hb : b.dead = false) : cv a b = 1 := by
  unfold cv vl lex Vr.see
  rw [ha, hb, h]
  simp only [if_true, Bool.false_eq_true, if_false]
  rw [ci_self, th_zero]
  exact th_of (by decide) _
theorem cv_right {a b : Vr} (h : a.time = b.time) (ha : a.dead = false) (hb : b.dead = true) : cv a b = -1 := by
  have := cv_left h.symm hb ha
  have := cv_n a b
  omega
theorem cv_live {a b : Vr} (h : a.time = b.time) (ha : a.dead = false) (hb : b.dead = false) : cv a b = fu [ci a.kind b.kind, ci a.num b.num, cb (nb a.s) (nb b.s)] := by
  unfold cv vl lex Vr.see
  rw [ha, hb, h]
  simp only [Bool.false_eq_true, if_false]
  rw [ci_self, th_zero, ci_self, th_zero, th_zero]
  show th _ (th _ _) = th _ (th _ (th _ 0))
  have : ∀ x, th x 0 = x := fun x => by unfold th; split <;> omega
  rw [this]
/-- Two versions are one, as the walk spells it. -/
def eqV (a b : Vr) : Bool := a.time == b.time && (a.dead == b.dead && (a.loc == b.loc && (a.kind == b.kind && (a.num == b.num && a.s.toList == b.s.toList))))
theorem eqV_iff (a b : Vr) : eqV a b = true ↔ a = b := by
  unfold eqV
  rw [ba_same]
  cases a; cases b
  simp only [Bool.and_eq_true, decide_eq_true_eq, beq_iff_eq, Vr.mk.injEq]
theorem eqV_self (a : Vr) : eqV a a = true := (eqV_iff a a).2 rfl
/-- The greater one. -/
def jn (a b : Vr) : Vr := if cv a b < 0 then b else a
theorem jn_or (a b : Vr) : jn a b = a ∨ jn a b = b := by unfold jn; split <;> simp
theorem jn_ge (a b : Vr) : 0 ≤ cv (jn a b) a ∧ 0 ≤ cv (jn a b) b := by
  have h1 := cv_self a; have h2 := cv_self b; have h3 := cv_n a b
  unfold jn; split <;> constructor <;> omega
theorem jn_self (a : Vr) : jn a a = a := by unfold jn; split <;> rfl

/-! ### Good cells -/
def zeroVal (a : Vr) : Bool := a.kind == 0 && (a.num == 0 && decide (a.s.size = 0))
def goodV (mark : Bool) (a : Vr) : Bool :=
  if a.dead then zeroVal a
  else a.loc == 0 && (if mark then zeroVal a else (a.kind == 1 && decide (a.s.size = 0)) || (a.kind == 2 && (a.num == 0 && decide (a.s.size ≤ 64))))
theorem size0 {s : ByteArray} (h : s.size = 0) : s = ⟨#[]⟩ := by
  have := (nb_empty s).2 h
  have h2 : nb (⟨#[]⟩ : ByteArray) = [] := rfl
  rw [← h2] at this; exact nb_inj.1 this
/-- Of good versions only those that are the same are alike. -/
theorem good_inj {m : Bool} {a b : Vr} (ha : goodV m a = true) (hb : goodV m b = true) (h : cv a b = 0) : a = b := by
  have h := (vl_cmpr.z _ _).1 h
  obtain ⟨ta, da, la, ka, na, sa⟩ := a
  obtain ⟨tb, db, lb, kb, nb', sb⟩ := b
  cases da <;> cases db <;> simp [Vr.see, goodV, zeroVal] at h ha hb ⊢
  · obtain ⟨rfl, rfl, rfl, hs⟩ := h
    exact ⟨rfl, by omega, rfl, rfl, nb_inj.1 hs⟩
  · obtain ⟨rfl, rfl⟩ := h
    exact ⟨rfl, rfl, by omega, by omega, ha.2.2.trans hb.2.2.symm⟩
theorem cv_lt_trans {a b c : Vr} (h : cv a b < 0) (g : cv b c < 0) : cv a c < 0 := vl_cmpr.strict h g
theorem jn_comm {m : Bool} {a b : Vr} (ha : goodV m a = true) (hb : goodV m b = true) : jn a b = jn b a := by
  have h3 := cv_n a b
  unfold jn
  split <;> split
  · omega
  · rfl
  · rfl
  · exact good_inj ha hb (by omega)
theorem jn_good {m : Bool} {a b : Vr} (ha : goodV m a = true) (hb : goodV m b = true) : goodV m (jn a b) = true := by
  rcases jn_or a b with h | h <;> rw [h] <;> assumption
theorem cv_le_lt {a b c : Vr} (h : cv a b ≤ 0) (g : cv b c < 0) : cv a c < 0 := by
  have h1 := cv_t a b c h (by omega)
  by_cases e : cv a c = 0
  · have h2 := cv_n a c
    have h3 := cv_t c a b (by omega) h
    have h4 := cv_n b c
    omega
  · omega
theorem cv_lt_le {a b c : Vr} (h : cv a b < 0) (g : cv b c ≤ 0) : cv a c < 0 := by
  have h1 := cv_t a b c (by omega) g
  by_cases e : cv a c = 0
  · have h2 := cv_n a c
    have h3 := cv_t b c a g (by omega)
    have h4 := cv_n a b
    omega
  · omega
theorem jn_assoc (a b c : Vr) : jn (jn a b) c = jn a (jn b c) := by
  have n1 := cv_n a b
  have n2 := cv_n b c
  have n3 := cv_n a c
  by_cases h1 : cv a b < 0
  · have e1 : jn a b = b := by unfold jn; rw [if_pos h1]
    rw [e1]
    by_cases h2 : cv b c < 0
    · have e2 : jn b c = c := by unfold jn; rw [if_pos h2]
      have h3 := cv_lt_trans h1 h2
      rw [e2]; unfold jn; rw [if_pos h3]
    · have e2 : jn b c = b := by unfold jn; rw [if_neg h2]
      rw [e2, e1]
  · have e1 : jn a b = a := by unfold jn; rw [if_neg h1]
    rw [e1]
    by_cases h2 : cv b c < 0
    · have e2 : jn b c = c := by unfold jn; rw [if_pos h2]
      rw [e2]
    · have e2 : jn b c = b := by unfold jn; rw [if_neg h2]
      have h3 : ¬ cv a c < 0 := fun h => by
        have := cv_lt_le (a := a) (b := c) (c := b) h (by omega)
        omega
      rw [e2, e1]; unfold jn; rw [if_neg h3]
/-- How two versions compare, how they are joined, of their parts. -/
def Vr.Ok (a : Vr) : Prop := InI a.time ∧ InI a.loc ∧ InI a.kind ∧ InI a.num ∧ a.s.size ≤ maxLen
end Go.Proofs.YtabkgcmlfabmgaaGreatDoor
namespace Go.Proofs.YtabkgcmlfabmgaaGreatDoor
open Go.RowKit

/-- A version whose cells lie in memory. -/
structure VAt (w : World) (g o : Nat) (a : Vr) : Prop where
  time : w.cell? ⟨g, o, none⟩ = some (.int .i64 a.time)
  dead : w.cell? ⟨g, o + 1, none⟩ = some (.bool a.dead)
  loc : w.cell? ⟨g, o + 2, none⟩ = some (.int .i64 a.loc)
  kind : w.cell? ⟨g, o + 3, none⟩ = some (.int .i64 a.kind)
  num : w.cell? ⟨g, o + 4, none⟩ = some (.int .i64 a.num)
  s : w.cell? ⟨g, o + 5, none⟩ = some (.string a.s)
def Vr.a (a : Vr) : Array Value := #[.int .i64 a.time, .bool a.dead, .int .i64 a.loc, .int .i64 a.kind, .int .i64 a.num, .string a.s]
theorem VAt.below {w w' : World} {g o : Nat} {k : Vr} (h : VAt w g o k) {B : Nat} (hb : Below B w w') (hg : g < B) : VAt w' g o k :=
  ⟨by rw [hb.cell hg, h.time], by rw [hb.cell hg, h.dead], by rw [hb.cell hg, h.loc], by rw [hb.cell hg, h.kind], by rw [hb.cell hg, h.num], by rw [hb.cell hg, h.s]⟩
theorem VAt.of {w : World} {g : Nat} {k : Vr} {ty : TypeId} {z : Nat × Nat} (h : w.heap[g]? = some (.cells k.a ty z)) : VAt w g 0 k :=
  ⟨by simp [World.cell?, h, Vr.a], by simp [World.cell?, h, Vr.a], by simp [World.cell?, h, Vr.a], by simp [World.cell?, h, Vr.a], by simp [World.cell?, h, Vr.a], by simp [World.cell?, h, Vr.a]⟩
theorem VAt.lt {w : World} {g o : Nat} {k : Vr} (h : VAt w g o k) : g < w.heap.size := World.block_lt_of_cell? _ _ h.time
theorem VAt.new (w : World) (k : Vr) (ty : TypeId) : VAt (w.alloc (.cells k.a ty)) w.heap.size 0 k := VAt.of (heap_alloc_new w _)
theorem VAt.alloc {w : World} {g o : Nat} {k : Vr} (h : VAt w g o k) (ob : Obj) : VAt (w.alloc ob) g o k := h.below ((Below.refl w.heap.size w).alloc (Nat.le_refl _) ob) h.lt
/-- Two boxes. -/
theorem boxes2 (w : World) (a b : Vr) : VAt ((w.alloc (.cells a.a 73)).alloc (.cells b.a 73)) w.heap.size 0 a ∧ VAt ((w.alloc (.cells a.a 73)).alloc (.cells b.a 73)) (w.heap.size + 1) 0 b ∧ Below w.heap.size w ((w.alloc (.cells a.a 73)).alloc (.cells b.a 73)) := by
  refine ⟨(VAt.new w a _).alloc _, ?_, ((Below.refl _ _).alloc (Nat.le_refl _) _).alloc (by simp) _⟩
  have := VAt.new (w.alloc (.cells a.a 73)) b 73
  rwa [World.size_alloc] at this
theorem verEq_run (a b : Vr) (w : World) : (binOp BinOp.eql 73 (.agg a.a) (.agg b.a)).run Tryz.prog w = .ok (.bool (eqV a b)) w := by
  unfold Vr.a eqV
  obtain ⟨t1, d1, l1, k1, n1, s1⟩ := a
  obtain ⟨t2, d2, l2, k2, n2, s2⟩ := b
  go_simp
  by_cases e1 : t1 = t2 <;> by_cases e2 : d1 = d2 <;> by_cases e3 : l1 = l2 <;> by_cases e4 : k1 = k2 <;> by_cases e5 : n1 = n2 <;> by_cases e6 : s1.toList = s2.toList <;> simp [e1, e2, e3, e4, e5, e6]
theorem ne_parts {t1 t2 l1 l2 k1 k2 n1 n2 : Int} {d1 d2 : Bool} {s1 s2 : ByteArray} (h : ¬ (⟨t1, d1, l1, k1, n1, s1⟩ : Vr) = ⟨t2, d2, l2, k2, n2, s2⟩) (ht : t1 = t2) (hd : d1 = d2) :
    l1 ≠ l2 ∨ (l1 = l2 ∧ k1 ≠ k2) ∨ (l1 = l2 ∧ k1 = k2 ∧ n1 ≠ n2) ∨ (l1 = l2 ∧ k1 = k2 ∧ n1 = n2 ∧ s1.toList ≠ s2.toList) := by
  by_cases e3 : l1 = l2
  · by_cases e4 : k1 = k2
    · by_cases e5 : n1 = n2
      · refine Or.inr (Or.inr (Or.inr ⟨e3, e4, e5, fun e6 => h ?_⟩))
        rw [ba_list, ba_list] at e6
        rw [ht, hd, e3, e4, e5, nb_inj.1 e6]
      · exact Or.inr (Or.inr (Or.inl ⟨e3, e4, e5⟩))
    · exact Or.inr (Or.inl ⟨e3, e4⟩)
  · exact Or.inl e3
end Go.Proofs.YtabkgcmlfabmgaaGreatDoor
namespace Go.Proofs.YtabkgcmlfabmgaaGreatDoor
open Go.RowKit

theorem frozen_at {w : World} {g : Nat} {cs : Array Value} {ty : TypeId} (h : w.heap[g]? = some (.cells cs ty)) (i : Nat) : w.frozen? ⟨g, i, none⟩ = false := by simp [World.frozen?, h]
def zeroV : Vr := ⟨0, false, 0, 0, 0, ⟨#[]⟩⟩
theorem set6 {w : World} {g : Nat} {a : Vr} {ty : TypeId} (h : w.heap[g]? = some (.cells a.a ty)) (v0 v1 v2 v3 v4 v5 : Value) :
    ((((((w.setCell ⟨g, 0, none⟩ v0).setCell ⟨g, 1, none⟩ v1).setCell ⟨g, 2, none⟩ v2).setCell ⟨g, 3, none⟩ v3).setCell ⟨g, 4, none⟩ v4).setCell ⟨g, 5, none⟩ v5).heap[g]? = some (.cells #[v0, v1, v2, v3, v4, v5] ty) := by
  simp only [World.setCell, Array.getElem?_modify, h, Vr.a]
  simp
theorem boxes3 (w : World) (a b c : Vr) : ∃ wa, wa = ((w.alloc (.cells a.a 73)).alloc (.cells b.a 73)).alloc (.cells c.a 73) ∧ VAt wa w.heap.size 0 a ∧ VAt wa (w.heap.size + 1) 0 b ∧ VAt wa (w.heap.size + 1 + 1) 0 c ∧ wa.heap[w.heap.size + 1 + 1]? = some (.cells c.a 73) ∧ Below w.heap.size w wa := by
  refine ⟨_, rfl, ((VAt.new w a _).alloc _).alloc _, ?_, ?_, ?_, (((Below.refl _ _).alloc (Nat.le_refl _) _).alloc (by simp) _).alloc (by rw [World.size_alloc, World.size_alloc]; omega) _⟩
  · have := VAt.new (w.alloc (.cells a.a 73)) b 73
    rw [World.size_alloc] at this; exact this.alloc _
  · have := VAt.new ((w.alloc (.cells a.a 73)).alloc (.cells b.a 73)) c 73
    rw [World.size_alloc, World.size_alloc] at this; exact this
  · have := heap_alloc_new ((w.alloc (.cells a.a 73)).alloc (.cells b.a 73)) (.cells c.a 73)
    rw [World.size_alloc, World.size_alloc] at this; exact this
theorem below6 {B : Nat} {w w1 : World} (h : Below B w w1) {g : Nat} (hg : B ≤ g) (v0 v1 v2 v3 v4 v5 : Value) : Below B w ((((((w1.setCell ⟨g, 0, none⟩ v0).setCell ⟨g, 1, none⟩ v1).setCell ⟨g, 2, none⟩ v2).setCell ⟨g, 3, none⟩ v3).setCell ⟨g, 4, none⟩ v4).setCell ⟨g, 5, none⟩ v5) :=
  (((((h.setCell (p := ⟨g, 0, none⟩) hg _).setCell (p := ⟨g, 1, none⟩) hg _).setCell (p := ⟨g, 2, none⟩) hg _).setCell (p := ⟨g, 3, none⟩) hg _).setCell (p := ⟨g, 4, none⟩) hg _).setCell (p := ⟨g, 5, none⟩) hg _

/-- Which values may be, of a version that lives. -/
def goodU (mark : Bool) (k n : Int) (s : ByteArray) : Bool := if mark then k == 0 && (n == 0 && decide (s.size = 0)) else (k == 1 && decide (s.size = 0)) || (k == 2 && (n == 0 && decide (s.size ≤ 64)))
theorem goodU_any (m : Bool) (k n : Int) (s : ByteArray) (w : World) (hs : s.size ≤ maxLen) :
    Calls Tryz.prog 71 #[.agg #[.int .i64 k, .int .i64 n, .string s], .bool m] w fun x w' => x = .returned (.bool (goodU m k n s)) ∧ Below w.heap.size w w' := by
  have hs' : (s.size : Int) ≤ 9223372036854775807 := by unfold maxLen at hs; omega
  have hE : Hid (∀ o : Obj, Below w.heap.size w (w.alloc o)) := fun o => (Below.refl _ _).alloc (Nat.le_refl _) _
  have he := ba_isEmpty s
  clear hs
  obtain ⟨R, hR⟩ : ∃ R, R = goodU m k n s := ⟨_, rfl⟩
  rw [← hR]
  have HR : Hid (R = goodU m k n s) := hR
  clear hR
  cases m
  · by_cases h1 : k = 1
    · subst h1
      go_enter Tryz.func71, Tryz.ntmps71
      go_wp2_with fail
      go_ret
      exact ⟨ret_bool (by rw [HR.out]; simp [goodU]), hE.out _⟩
    · by_cases h2 : k = 2
      · subst h2
        by_cases h3 : n = 0
        · subst h3
          go_enter Tryz.func71, Tryz.ntmps71
          go_wp2_with fail
          go_ret
          exact ⟨ret_bool (by rw [HR.out]; simp [goodU]; omega), hE.out _⟩
        · go_enter Tryz.func71, Tryz.ntmps71
          go_wp2_with fail
          go_ret
          exact ⟨ret_bool (by rw [HR.out]; simp [goodU, h3]), hE.out _⟩
      · go_enter Tryz.func71, Tryz.ntmps71
        go_wp2_with fail
        go_ret
        exact ⟨ret_bool (by rw [HR.out]; simp [goodU, h1, h2]), hE.out _⟩
  · by_cases h1 : k = 0 <;> by_cases h2 : n = 0 <;> by_cases h3 : s.size = 0 <;> (simp only [h3, decide_true, decide_false] at he; go_enter Tryz.func71, Tryz.ntmps71; go_wp2_with fail; go_ret; exact ⟨ret_bool (by rw [HR.out]; simp [goodU, h1, h2, h3]), hE.out _⟩)
end Go.Proofs.YtabkgcmlfabmgaaGreatDoor
namespace Go.Proofs.YtabkgcmlfabmgaaGreatDoor
open Go.RowKit

/-- A cell. -/
structure Cx where
  k : Kb
  v : Vr
def Cx.a (c : Cx) : Array Value := #[.string c.k.t, .string c.k.p, .int .i64 c.k.r, .string c.k.c, .int .i64 c.v.time, .bool c.v.dead, .int .i64 c.v.loc, .int .i64 c.v.kind, .int .i64 c.v.num, .string c.v.s]
def Cx.val (c : Cx) : Value := .agg c.a
def goodC (c : Cx) : Bool := goodK c.k.ky && goodV (decide (c.k.c.size = 0)) c.v
theorem goodV_dead {m : Bool} {a : Vr} (h : a.dead = true) : goodV m a = (a.kind == 0 && (a.num == 0 && decide (a.s.size = 0))) := by unfold goodV zeroVal; rw [if_pos h]
theorem goodV_live {m : Bool} {a : Vr} (h : a.dead = false) : goodV m a = (a.loc == 0 && goodU m a.kind a.num a.s) := by unfold goodV zeroVal goodU; rw [if_neg (by rw [h]; simp)]
theorem size_none (s : ByteArray) (h : s.size = 0) : s = ⟨#[]⟩ := size0 h

theorem goodX_world (w : World) (c : Cx) : ∃ wa, wa = (w.alloc (.cells c.a 75)).alloc (.cells c.v.a 73) ∧ VAt wa (w.heap.size + 1) 0 c.v ∧ wa.cell? ⟨w.heap.size, 3, none⟩ = some (.string c.k.c) ∧ w.heap.size < wa.heap.size ∧ Below w.heap.size w wa := by
  refine ⟨_, rfl, ?_, ?_, by rw [World.size_alloc, World.size_alloc]; omega, ((Below.refl _ _).alloc (Nat.le_refl _) _).alloc (by simp) _⟩
  · have := VAt.new (w.alloc (.cells c.a 75)) c.v 73
    rwa [World.size_alloc] at this
  · exact (box_cells w _ _ _ 3 _ rfl).1
set_option maxRecDepth 100000 in
set_option maxHeartbeats 1000000 in
theorem goodX_any (c : Cx) (w : World) (h1 : c.k.t.size ≤ maxLen) (h2 : c.k.p.size ≤ maxLen) (h3 : c.k.c.size ≤ maxLen) (h4 : c.v.s.size ≤ maxLen) :
    Calls Tryz.prog 36 #[c.val] w fun x w' => x = .returned (.bool (goodC c)) ∧ Below w.heap.size w w' := by
  have G : Hid (∀ w : World, Calls Tryz.prog 70 #[c.k.v] w fun e w' => e = .returned (.bool (goodK c.k.ky)) ∧ Below w.heap.size w w') := fun w => good_any c.k w h1 h2 h3
  have U : Hid (∀ (m : Bool) (w : World), Calls Tryz.prog 71 #[.agg #[.int .i64 c.v.kind, .int .i64 c.v.num, .string c.v.s], .bool m] w fun x w' => x = .returned (.bool (goodU m c.v.kind c.v.num c.v.s)) ∧ Below w.heap.size w w') := fun m w => goodU_any m _ _ _ w h4
  obtain ⟨wa, hwa, va, kc', hlt, hB⟩ := goodX_world w c
  have lv := va.lt
  have HF : Hid (∀ w1, Below wa.heap.size wa w1 → VAt w1 (w.heap.size + 1) 0 c.v ∧ w1.cell? ⟨w.heap.size, 3, none⟩ = some (.string c.k.c) ∧ Below w.heap.size w w1) := fun w1 h => ⟨va.below h lv, by rw [h.cell hlt]; exact kc', hB.trans (h.mono hB.size)⟩
  have e1 := ba_isEmpty c.k.c
  have e2 := ba_isEmpty c.v.s
  have hg : Hid (goodC c = (goodK c.k.ky && goodV (decide (c.k.c.size = 0)) c.v)) := rfl
  have hd : Hid (c.v.dead = true → goodV (decide (c.k.c.size = 0)) c.v = (c.v.kind == 0 && (c.v.num == 0 && decide (c.v.s.size = 0)))) := goodV_dead
  have hl : Hid (c.v.dead = false → goodV (decide (c.k.c.size = 0)) c.v = (c.v.loc == 0 && goodU (decide (c.k.c.size = 0)) c.v.kind c.v.num c.v.s)) := goodV_live
  generalize goodC c = R at *
  generalize goodV (decide (c.k.c.size = 0)) c.v = V at *
  generalize goodK c.k.ky = K at *
  clear va kc' hlt lv hB h1 h2 h3 h4
  obtain ⟨⟨kt, kp, kr, kcol⟩, ⟨t1, d1, l1, k1, n1, s1⟩⟩ := c
  simp only [Cx.val, Cx.a, Vr.a, Kb.v] at *
  go_enter Tryz.func36, Tryz.ntmps36
  go_wp2_with fail
  rw [← hwa]
  clear hwa
  refine (G.out _).mono ?_
  rintro x w1 ⟨rfl, hb1⟩
  obtain ⟨⟨x1, x2, x3, x4, x5, x6⟩, y, hB⟩ := HF.out w1 hb1
  have HB : Hid (Below w.heap.size w w1) := hB
  simp only [Nat.zero_add] at x1 x2 x3 x4 x5 x6
  clear hB hb1 HF
  cases K
  · have hR : Hid (R = false) := hg.out
    clear hg
    go_wp2_with fail
    go_ret
    exact ⟨ret_bool hR.out.symm, HB.out⟩
  · cases d1
    · have hR : Hid (R = (l1 == 0 && goodU (decide (kcol.size = 0)) k1 n1 s1)) := hg.out.trans (hl.out rfl)
      clear hg hd hl
      by_cases hz : l1 = 0
      · subst hz
        obtain ⟨U1, hU1⟩ : ∃ U1, U1 = goodU (decide (kcol.size = 0)) k1 n1 s1 := ⟨_, rfl⟩
        have U' : Hid (Calls Tryz.prog 71 #[.agg #[.int .i64 k1, .int .i64 n1, .string s1], .bool kcol.toList.isEmpty] w1 fun x w' => x = .returned (.bool U1) ∧ Below w1.heap.size w1 w') := by rw [hU1, e1]; exact U.out _ w1
        have hR' : Hid (R = U1) := by rw [hU1]; exact hR.out
        clear U hR hU1 e1
        go_wp2_with fail
        refine U'.out.mono ?_
        rintro x w2 ⟨rfl, hb2⟩
        go_wp2_with fail
        go_ret
        exact ⟨ret_bool hR'.out.symm, HB.out.trans (hb2.mono HB.out.size)⟩
      · have hR' : Hid (R = false) := hR.out.trans (by rw [beq_false_of_ne hz]; rfl)
        clear hR
        go_wp2_with fail
        go_ret
        exact ⟨ret_bool hR'.out.symm, HB.out⟩
    · have hR : Hid (R = (k1 == 0 && (n1 == 0 && decide (s1.size = 0)))) := hg.out.trans (hd.out rfl)
      clear hg hd hl U
      by_cases h1 : k1 = 0 <;> by_cases h2 : n1 = 0 <;> by_cases h3 : s1.size = 0 <;> (simp only [h3, decide_true, decide_false] at e2; go_wp2_with fail; go_ret; exact ⟨ret_bool (by rw [hR.out]; simp [h1, h2, h3]), HB.out⟩)

theorem chain_next (t1 t2 l1 l2 k1 k2 n1 n2 : Int) (d1 d2 : Bool) (s1 s2 : ByteArray) (w : World) : (if t1 = t2 then if d1 = d2 then if l1 = l2 then if k1 = k2 then if n1 = n2 then if s1.toList = s2.toList then Result.ok (Next.value (Value.bool true)) w else Result.ok (Next.value (Value.bool false)) w else Result.ok (Next.value (Value.bool false)) w else Result.ok (Next.value (Value.bool false)) w else Result.ok (Next.value (Value.bool false)) w else Result.ok (Next.value (Value.bool false)) w else Result.ok (Next.value (Value.bool false)) w) = Result.ok (Next.value (Value.bool (eqV ⟨t1, d1, l1, k1, n1, s1⟩ ⟨t2, d2, l2, k2, n2, s2⟩))) w := by
  unfold eqV
  by_cases e1 : t1 = t2 <;> by_cases e2 : d1 = d2 <;> by_cases e3 : l1 = l2 <;> by_cases e4 : k1 = k2 <;> by_cases e5 : n1 = n2 <;> by_cases e6 : s1.toList = s2.toList <;> simp [e1, e2, e3, e4, e5, e6]
def vA : Vr := ⟨5, false, 0, 2, 0, ⟨#[97]⟩⟩
def vB : Vr := ⟨5, false, 0, 2, 0, ⟨#[98]⟩⟩
def vD : Vr := ⟨5, true, 3, 0, 0, ⟨#[]⟩⟩
def vL : Vr := ⟨6, false, 0, 2, 0, ⟨#[97]⟩⟩
theorem jAD : jn vA vD = vD := by unfold jn; rw [if_pos (by decide)]
theorem jDL : jn vD vL = vL := by unfold jn; rw [if_pos (by decide)]
theorem jBA : jn vB vA = vB := by unfold jn; rw [if_neg (by decide)]
def cA : Cx := ⟨⟨⟨#[116]⟩, ⟨#[120]⟩, 1, ⟨#[97]⟩⟩, vA⟩
theorem gA : goodC cA = true := by decide
theorem boxes4 (w : World) (a b c d : Vr) : ∃ wa, wa = (((w.alloc (.cells a.a 73)).alloc (.cells b.a 73)).alloc (.cells c.a 73)).alloc (.cells d.a 73) ∧ VAt wa w.heap.size 0 a ∧ VAt wa (w.heap.size + 1) 0 b ∧ VAt wa (w.heap.size + 1 + 1) 0 c ∧ VAt wa (w.heap.size + 1 + 1 + 1) 0 d ∧ Below w.heap.size w wa := by
  obtain ⟨w3, rfl, v1, v2, v3, _, hB⟩ := boxes3 w a b c
  refine ⟨_, rfl, v1.alloc _, v2.alloc _, v3.alloc _, ?_, hB.alloc hB.size _⟩
  have := VAt.new (((w.alloc (.cells a.a 73)).alloc (.cells b.a 73)).alloc (.cells c.a 73)) d 73
  rwa [World.size_alloc, World.size_alloc, World.size_alloc] at this
theorem VAt.cl {w : World} {g : Nat} {a : Vr} (h : VAt w g 0 a) (q : Cl w.heap.size w) : VAt q.u g 0 a := h.below q.h h.lt
end Go.Proofs.YtabkgcmlfabmgaaGreatDoor
namespace Go.Proofs.YtabkgcmlfabmgaaGreatDoor
open Go.RowKit

/-- Ten cells, one by one. -/
structure TenX (w : World) (b o : Nat) (c : Cx) : Prop where
  c0 : w.cell? ⟨b, o, none⟩ = some (.string c.k.t)
  c1 : w.cell? ⟨b, o + 1, none⟩ = some (.string c.k.p)
  c2 : w.cell? ⟨b, o + 2, none⟩ = some (.int .i64 c.k.r)
  c3 : w.cell? ⟨b, o + 3, none⟩ = some (.string c.k.c)
  c4 : w.cell? ⟨b, o + 4, none⟩ = some (.int .i64 c.v.time)
  c5 : w.cell? ⟨b, o + 5, none⟩ = some (.bool c.v.dead)
  c6 : w.cell? ⟨b, o + 6, none⟩ = some (.int .i64 c.v.loc)
  c7 : w.cell? ⟨b, o + 7, none⟩ = some (.int .i64 c.v.kind)
  c8 : w.cell? ⟨b, o + 8, none⟩ = some (.int .i64 c.v.num)
  c9 : w.cell? ⟨b, o + 9, none⟩ = some (.string c.v.s)
theorem TenX.lt {w : World} {b o : Nat} {c : Cx} (h : TenX w b o c) : b < w.heap.size := World.block_lt_of_cell? _ _ h.c0
theorem TenX.below {w w' : World} {b o : Nat} {c : Cx} (h : TenX w b o c) {B : Nat} (hb : Below B w w') (hB : b < B) : TenX w' b o c :=
  ⟨by rw [hb.cell hB, h.c0], by rw [hb.cell hB, h.c1], by rw [hb.cell hB, h.c2], by rw [hb.cell hB, h.c3], by rw [hb.cell hB, h.c4], by rw [hb.cell hB, h.c5], by rw [hb.cell hB, h.c6], by rw [hb.cell hB, h.c7], by rw [hb.cell hB, h.c8], by rw [hb.cell hB, h.c9]⟩
theorem TenX.alloc {w : World} {b o : Nat} {c : Cx} (h : TenX w b o c) (ob : Obj) : TenX (w.alloc ob) b o c := h.below ((Below.refl w.heap.size w).alloc (Nat.le_refl _) ob) h.lt
theorem TenX.of {w : World} {g : Nat} {c : Cx} {ty : TypeId} {z : Nat × Nat} (h : w.heap[g]? = some (.cells c.a ty z)) : TenX w g 0 c := by
  constructor <;> simp [World.cell?, h, Cx.a]
theorem TenX.new (w : World) (c : Cx) (ty : TypeId) : TenX (w.alloc (.cells c.a ty)) w.heap.size 0 c := TenX.of (heap_alloc_new w _)
/-- The cells l can be read from the address on. -/
def XSees (w : World) (ao : Option Addr) (l : List Cx) : Prop := ∀ i c, l[i]? = some c → ∃ b off, ao = some ⟨b, off, none⟩ ∧ TenX w b (off + i * 10) c
theorem XSees.below {w w' : World} {ao : Option Addr} {l : List Cx} (h : XSees w ao l) {B : Nat} (hb : Below B w w') (hB : w.heap.size ≤ B) : XSees w' ao l := by
  intro i c hc
  obtain ⟨b, off, e, hr⟩ := h i c hc
  exact ⟨b, off, e, hr.below hb (Nat.lt_of_lt_of_le hr.lt hB)⟩
/-- The bytes of a cell's texts. -/
def wtX (c : Cx) : Nat := c.k.t.size + c.k.p.size + c.k.c.size + c.v.s.size
def wtXs (l : List Cx) : Nat := (l.map wtX).sum
theorem takeX_succ {α : Type} {l : List α} {i : Nat} {c : α} (h : l[i]? = some c) : l.take (i + 1) = l.take i ++ [c] := by
  rw [List.take_add_one, h]
  rfl
end Go.Proofs.YtabkgcmlfabmgaaGreatDoor
namespace Go.Proofs.YtabkgcmlfabmgaaGreatDoor
open Go.RowKit

def toC (c : Cx) : CellV := ⟨⟨c.k.t, c.k.p, c.k.r, c.k.c⟩, ⟨c.v.time, c.v.dead, c.v.loc, ⟨c.v.kind, c.v.num, c.v.s⟩⟩⟩
theorem XSees.c {w : World} {ao : Option Addr} {l : List Cx} (h : XSees w ao l) : CSees w ao (l.map toC) := by
  intro i c hc
  rw [List.getElem?_map] at hc
  cases hl : l[i]? with
  | none => rw [hl] at hc; cases hc
  | some x =>
    rw [hl] at hc
    obtain rfl : toC x = c := by simpa using hc
    obtain ⟨b, off, e, t⟩ := h i x hl
    refine ⟨b, off, e, fun j v hv => ?_⟩
    match j, hv with
    | 0, hv => obtain rfl := Option.some.inj hv; exact t.c0
    | 1, hv => obtain rfl := Option.some.inj hv; exact t.c1
    | 2, hv => obtain rfl := Option.some.inj hv; exact t.c2
    | 3, hv => obtain rfl := Option.some.inj hv; exact t.c3
    | 4, hv => obtain rfl := Option.some.inj hv; exact t.c4
    | 5, hv => obtain rfl := Option.some.inj hv; exact t.c5
    | 6, hv => obtain rfl := Option.some.inj hv; exact t.c6
    | 7, hv => obtain rfl := Option.some.inj hv; exact t.c7
    | 8, hv => obtain rfl := Option.some.inj hv; exact t.c8
    | 9, hv => obtain rfl := Option.some.inj hv; exact t.c9
    | j + 10, hv => exact absurd hv (by simp [cellA])
/-- What numbers a cell has. -/
structure Cx.Nums (c : Cx) : Prop where
  r : InI c.k.r
  n : InI c.v.time ∧ InI c.v.loc ∧ InI c.v.kind ∧ InI c.v.num
theorem Cx.Nums.ok {c : Cx} (h : c.Nums) : (toC c).Ok := ⟨⟨h.r⟩, ⟨h.n.1, h.n.2.1, ⟨h.n.2.2.1, h.n.2.2.2⟩⟩⟩
/-- The bytes of texts that are written. -/
def wtY (c : Cx) : Nat := c.k.t.size + c.k.p.size + c.k.c.size + (if c.v.dead then 0 else c.v.s.size)
def wtYs (l : List Cx) : Nat := (l.map wtY).sum
theorem wtL_toC (l : List Cx) : wtLD (l.map toC) = wtYs l := by
  unfold wtLD wtYs
  rw [List.map_map]; rfl
theorem wtYs_le (l : List Cx) : wtYs l ≤ wtXs l := by
  induction l with
  | nil => simp [wtYs, wtXs]
  | cons c l ih =>
    have h : wtY c ≤ wtX c := by unfold wtY wtX; split <;> omega
    unfold wtYs wtXs at *
    simp only [List.map_cons, List.sum_cons]
    omega
/-- The digest. -/
def dgB (l : List UInt8) : Int := ((sumB l 0#64).1.toNat : Int)
/-- What the digest does not look at. -/
def blur (k n : Int) (s : ByteArray) (loc : Int) (c : Cx) : Cx := if c.v.dead then ⟨c.k, ⟨c.v.time, c.v.dead, c.v.loc, k, n, s⟩⟩ else ⟨c.k, ⟨c.v.time, c.v.dead, loc, c.v.kind, c.v.num, c.v.s⟩⟩
theorem blur_bytes (k n : Int) (s : ByteArray) (loc : Int) (c : Cx) : cellL (toC (blur k n s loc c)) = cellL (toC c) := by
  unfold blur
  split
  · rename_i h
    unfold cellL verL toC keyL
    simp only [h, if_true]
  · rename_i h
    unfold cellL verL toC keyL
    simp only [h]
    rfl
theorem blur_wt (k n : Int) (s : ByteArray) (loc : Int) (c : Cx) : wtY (blur k n s loc c) = wtY c := by
  unfold blur wtY
  cases c.v.dead <;> simp
theorem blur_wts (k n : Int) (s : ByteArray) (loc : Int) (l : List Cx) : wtYs (l.map (blur k n s loc)) = wtYs l := by
  unfold wtYs
  rw [List.map_map]
  congr 1
  exact List.map_congr_left fun c _ => blur_wt k n s loc c
theorem blur_nums {k n loc : Int} (s : ByteArray) {c : Cx} (hk : InI k) (hn : InI n) (hl : InI loc) (h : c.Nums) : (blur k n s loc c).Nums := by
  unfold blur
  split
  · exact ⟨h.r, h.n.1, h.n.2.1, hk, hn⟩
  · exact ⟨h.r, h.n.1, hl, h.n.2.2.1, h.n.2.2.2⟩
theorem blur_cells (k n : Int) (s : ByteArray) (loc : Int) (l : List Cx) : cellsL ((l.map (blur k n s loc)).map toC) = cellsL (l.map toC) := by
  unfold cellsL
  rw [List.length_map, List.length_map, List.length_map]
  congr 1
  unfold manyL
  induction l with
  | nil => rfl
  | cons c l ih =>
    simp only [List.map_cons, List.flatMap_cons]
    rw [ih, blur_bytes]
end Go.Proofs.YtabkgcmlfabmgaaGreatDoor
