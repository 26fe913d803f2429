/-
  SEVERAL TEXTS IN ONE: TabFrame, TabNum, KeyPlain, KeyShelf, KeyCmp, KeyName, KeyGood, VerPlain, RegCl, VerCmp, VerJoin, VerLives, CxWeigh, CxDigest, Recs, CxRow, CxSorted, KeyAdd, KeyRow, KeyBytes, Loud, BlmBytes, TabPlain, TabChunk, RegClIn, LoudIn, TabRound, TabCut, BlmCanon, TabEnd, BlmRead, BlmPlaces.
-/
import Derived.Test.YtdookhmaiapclaaGreatDoorBlk
import Derived.Test.YtdookhmaiapclaaGreatDoorCodFrame
import Derived.Test.YtdookhmaiapclaaGreatDoorCodPut
import Derived.WalkKit
import Derived.PlainAid
import Derived.OpenShut
import Derived.Lib.Bytealg
import Derived.Lib.Small
import Derived.Shelf.Small.Strs
import Derived.Shelf.Small.Wraps
import Derived.Ground.Names2Prog
import Derived.Shelf.Slices.SearchI
import Derived.Test.YtdookhmaiapclaaGreatDoorChecked
import Derived.Test.YtdookhmaiapclaaGreatDoorOwn
import Derived.Laws.Cover1
import Derived.StillTailTactics
import Derived.Deep.QuietTactic
import Derived.BigQuiet
import Derived.Test.YtdookhmaiapclaaGreatDoorCellMany
import Derived.Test.YtdookhmaiapclaaGreatDoorMurSum
import Derived.Laws.OwnMore
import Derived.Test.YtdookhmaiapclaaGreatDoorBlmMem
import Derived.Test.YtdookhmaiapclaaGreatDoorBlmNew
import Derived.RangeFuncBox
import Derived.RangeFuncNested
import Derived.RangeFuncBound
import Derived.RangeFuncCalls
import Derived.RangeFuncLeaves
import Derived.Shelf.Abstract
import Derived.Shelf.RegionOpen
import Derived.OwnWalkIn
import Derived.TacticsInMore
import Derived.LoopNIn
import Derived.LoopIn
import Derived.Maps.AppendAt
import Derived.Sort.QuietTacIn
import Derived.Test.YtdookhmaiapclaaGreatDoorCodUnframe
import Derived.Test.YtdookhmaiapclaaGreatDoorShortPlain
import Derived.Test.YtdookhmaiapclaaGreatDoorRefGet
import Derived.Test.YtdookhmaiapclaaGreatDoorRefLend
import Derived.Deep.DeepFit
import Derived.Test.YtdookhmaiapclaaGreatDoorCodGot
import Derived.Test.YtdookhmaiapclaaGreatDoorBlmOps
import Derived.Test.YtdookhmaiapclaaGreatDoorBlmIx
namespace Go.Proofs.YtdookhmaiapclaaGreatDoor
open Go.RowKit

/-- A writer in memory: its bytes lie in a row of the call's own. -/
structure WAt (w : World) (W base : Nat) (v : Value) (xs : List UInt8) : Prop where
  blk : Blk w W [v, .bool false] 65
  row : w.ownsRow base 5 1 v xs.length (B8 xs)
def ownL (v : Value) : List Nat := v.ownBlock.toList
theorem mem_ownL {v : Value} {g : Nat} : g ∈ ownL v ↔ v.ownBlock = some g := by unfold ownL; cases v.ownBlock <;> simp [eq_comm]
theorem Blk.not_row {w : World} {g : Nat} {cs : List Value} {t e : TypeId} (h : Blk w g cs t) (hte : t ≠ e) {base size k : Nat} {v : Value} {xs : List Value} (hr : w.ownsRow base e size v k xs) : v.ownBlock ≠ some g := fun he => by
  rcases hr.2 with ⟨rfl, -⟩ | ⟨g', cap, cur, rfl, -, hh, -⟩
  · simp [Value.ownBlock] at he
  · obtain rfl : g' = g := by simpa [Value.ownBlock] using he
    rw [show w.heap[g']? = _ from h] at hh
    simp at hh
    exact hte hh.2
theorem WAt.carry {w w' : World} {W base : Nat} {v : Value} {xs : List UInt8} (h : WAt w W base v xs) (e : w'.heap[W]? = w.heap[W]?) (er : ∀ g, v.ownBlock = some g → w'.heap[g]? = w.heap[g]?) : WAt w' W base v xs := by
  refine ⟨h.blk.carry e, h.row.1, ?_⟩
  rcases h.row.2 with h2 | ⟨g, cap, cur, rfl, e2, r, rest⟩
  · exact .inl h2
  · exact .inr ⟨g, cap, cur, rfl, e2, (er g (by simp [Value.ownBlock])).trans r, rest⟩
theorem WAt.below {w w' : World} {W base : Nat} {v : Value} {xs : List UInt8} (h : WAt w W base v xs) {B : Nat} (hb : Below B w w') (hB : w.heap.size ≤ B) : WAt w' W base v xs :=
  h.carry (hb.block _ (Nat.lt_of_lt_of_le h.blk.lt hB)) fun g hg => hb.block _ (Nat.lt_of_lt_of_le (h.row.lt g hg).2 hB)
theorem WAt.moved {w w' : World} {W base : Nat} {v : Value} {xs : List UInt8} {a b : List Nat} (h : WAt w W base v xs) (hm : Moved w w' a b) (h1 : W ∉ a) (h2 : ∀ g, v.ownBlock = some g → g ∉ a) : WAt w' W base v xs :=
  h.carry (hm.kept _ h.blk.lt h1) fun g hg => hm.kept _ (h.row.lt g hg).2 (h2 g hg)
theorem Moved.of_below {w w' : World} (h : Below w.heap.size w w') (ft : List Nat) : Moved w w' ft ft := ⟨h.os, h.tape, h.output, h.size, fun i hi _ => h.block i hi, fun _ h => .inl h⟩
theorem Grew.moved {w w' : World} {v v' : Value} (h : Grew w w' v v') : Moved w w' (ownL v) (ownL v') :=
  ⟨h.rows.os, h.rows.tape, h.rows.output, h.rows.size, fun i hi hn => h.rows.block i hi fun e => hn (mem_ownL.2 e.symm), fun i hi => by
    rcases h.own i (mem_ownL.1 hi) with h1 | h1
    · exact .inl (mem_ownL.2 h1)
    · exact .inr h1⟩
theorem frameL_len' (l : List UInt8) : (frameL l).length = l.length + 8 := by simp [frameL, fourL]
/-- The last step: the row that was appended to is stored in the writer's head. -/
theorem WAt.stored {w w1 w2 : World} {W base : Nat} {v v' : Value} {xs ys : List UInt8} {n : Nat} (h : WAt w1 W base v xs) (hm : Moved w w1 (W :: ownL v) (W :: ownL v)) (ho : w2.ownsRow base 5 1 v' n (B8 ys)) (hn : n = ys.length) (hg : Grew w1 w2 v v') :
    WAt (w2.setCell ⟨W, 0, none⟩ v') W base v' ys ∧ Moved w (w2.setCell ⟨W, 0, none⟩ v') (W :: ownL v) (W :: ownL v') := by
  subst hn
  have hne := h.blk.not_row (by decide) h.row
  have hB2 : Blk w2 W [v, .bool false] 65 := h.blk.carry (hg.rows.block _ h.blk.lt fun e => hne e.symm)
  have hne2 := hB2.not_row (by decide) ho
  refine ⟨⟨hB2.setTo 0 v' _ rfl, ?_⟩, ?_⟩
  · refine ⟨ho.1, ?_⟩
    rcases ho.2 with h2 | ⟨g, cap, cur, rfl, e2, r, rest⟩
    · exact .inl h2
    · exact .inr ⟨g, cap, cur, rfl, e2, (Below.heap_setCell _ _ _ _ (fun e => hne2 (by show some g = some W; rw [show g = W from e]))).trans r, rest⟩
  · have h1 : Moved w1 w2 (W :: ownL v) (W :: ownL v') := hg.moved.wider (fun i hi => .inl (by simp [hi])) fun i hi => by
      rcases List.mem_cons.1 hi with rfl | hi
      · exact .inl (by simp)
      · exact .inr (.inl hi)
    exact (hm.trans h1).trans ((Moved.of_set W 0 v').wider (fun i hi => .inl (by simp at hi; simp [hi])) fun i hi => .inl hi)
set_option maxRecDepth 100000 in
set_option maxHeartbeats 1000000 in
theorem frameW_any {w : World} {W base : Nat} {v : Value} {xs : List UInt8} (h : WAt w W base v xs) (ao : Option Addr) (c : List UInt8) (cap : Nat) (hs : Sees w ao c) (hnone : ao = none → c.length = 0) (hl : c.length + 8 ≤ 262144) (hx : xs.length ≤ 100000000) (hb : base ≤ w.heap.size) (ht : Tab w) :
    Calls Tryz.prog 56 #[.pointer (some ⟨W, 0, none⟩), .slice ao c.length cap] w fun e w' => e = .returned (.int .i64 ((c.length + 8 : Nat) : Int)) ∧ ∃ v', WAt w' W base v' (xs ++ frameL c) ∧ Moved w w' (W :: ownL v) (W :: ownL v') := by
  obtain ⟨i0, hi, hz0, hz1, hz2⟩ := info_parts info8
  have F : Hid (Calls Tryz.prog 91 #[.slice ao c.length cap] w fun e w' => e = .returned (.slice (some ⟨w.heap.size, 0, none⟩) (c.length + 8) (c.length + 8)) ∧ Row w' w.heap.size (frameL c) ∧ Below w.heap.size w w') := frame_any ao c cap w (by omega) hs hnone ht
  have hfl := frameL_len' c
  clear hs hnone ht
  have hlz : (c.length : Int) + 8 ≤ 262144 := by omega
  generalize frameL c = f at *
  obtain ⟨n, hn⟩ : ∃ n, n = c.length + 8 := ⟨_, rfl⟩
  rw [← hn] at F hfl ⊢
  have hnz : (n : Int) ≤ 262144 := by omega
  have hn0 : (n : Int) ≠ 0 := by omega
  have hn1 : n ≠ 0 := by omega
  have d0 : ((n : Int) == 0) = false := by simpa using hn0
  have d1 : decide ((262144 : Int) < (n : Int)) = false := decide_eq_false (by omega)
  clear hn hlz
  go_enter Tryz.func56, Tryz.ntmps56
  go_wp2_with fail
  refine F.out.mono ?_
  rintro e w1 ⟨rfl, hr1, hb1⟩
  have h1 := h.below hb1 (Nat.le_refl _)
  have hm1 : Moved w w1 (W :: ownL v) (W :: ownL v) := Moved.of_below hb1 _
  have c0 := h1.blk.cell 0 rfl
  have f0 := h1.blk.frozen 0
  have hsee : Sees w1 (some ⟨w.heap.size, 0, none⟩) f := by
    have := hr1.sees 0 f.length (by omega)
    simpa using this
  have hsrc : Src Tryz.prog 1 29 (.slice (some ⟨w.heap.size, 0, none⟩) n n) n (B8 f) w1 := by
    have := src_sees (P := Tryz.prog) Tryz.underlying29 hsee (fun e => by cases e) n
    rwa [hfl] at this
  have hbs := Nat.le_trans hb hb1.size
  clear hsee hr1 F
  go_wp2_with (at_builtin; go_must (refine wpList_append_grew _ rfl _ _ 29 29 rfl base 5 i0 (.int .u8 0) 1 1 Tryz.underlying29 hi hz0 hz1 hz2 rfl _ xs.length _ rfl h1.row _ n (B8 f) rfl hsrc (by unfold maxLen; omega) (by omega) hbs ?_; intro v2 w2 ho2 hg2; obtain ⟨ao2, cap2, rfl, -, -, -⟩ := owns_sees (l := xs ++ f) (by rw [B8_append]; exact ho2); have f2 := (h1.blk.carry (hg2.rows.block _ h1.blk.lt fun e => h1.blk.not_row (by decide) h1.row e.symm)).frozen 0; have g2 := (h1.blk.carry (hg2.rows.block _ h1.blk.lt fun e => h1.blk.not_row (by decide) h1.row e.symm)).cell 0 rfl))
  go_ret
  refine ⟨rfl, .slice ao2 (xs.length + n) cap2, ?_⟩
  exact h1.stored hm1 (ys := xs ++ f) (by rw [B8_append]; exact ho2) (by rw [List.length_append, hfl]) hg2
end Go.Proofs.YtdookhmaiapclaaGreatDoor
namespace Go.Proofs.YtdookhmaiapclaaGreatDoor
open Go.RowKit

theorem blocksOf_any (n : Nat) (hn : n ≤ 1000000000) (w : World) : Calls Tryz.prog 45 #[.int .i64 (n : Int)] w fun e w' => e = .returned (.int .i64 (((n + 7) / 8 : Nat) : Int)) ∧ w' = w := by
  have hz : (n : Int) ≤ 1000000000 := by omega
  go_enter Tryz.func45, Tryz.ntmps45
  go_wp2
  go_ret
  exact ⟨ret_int (by omega), rfl⟩
/-- Numbers in bytes, one behind the other. -/
def numsL (us : List Nat) : List UInt8 := us.flatMap numL
/-- Numbers in memory. -/
def USees (w : World) (g : Nat) (us : List Nat) : Prop := ∀ i u : Nat, us[i]? = some u → w.cell? ⟨g, i, none⟩ = some (.int .u64 (u : Int))
theorem USees.below {w w' : World} {g : Nat} {us : List Nat} (h : USees w g us) {B : Nat} (hb : Below B w w') (hg : g < B) : USees w' g us := fun i u hu => by
  rw [hb.cell (p := ⟨g, i, none⟩) hg]; exact h i u hu
set_option maxRecDepth 100000 in
set_option maxHeartbeats 800000 in
theorem numbers_any (g : Nat) (us : List Nat) (cap : Nat) (w : World) (hs : USees w g us) (hg : g < w.heap.size) (hl : us.length ≤ 100) (hu : ∀ u ∈ us, u < 18446744073709551616) :
    Calls Tryz.prog 60 #[.slice (some ⟨g, 0, none⟩) us.length cap] w fun e w' => ∃ v, e = .returned v ∧ w'.ownsRow w.heap.size 5 1 v (numsL us).length (B8 (numsL us)) ∧ Below w.heap.size w w' := by
  have hlz : (us.length : Int) ≤ 100 := by omega
  have Hs : Hid (USees w g us) := hs
  have Hu : Hid (∀ u ∈ us, u < 18446744073709551616) := hu
  clear hs hu
  have hfl : ∀ k, (numsL (us.take k)).length ≤ 10 * k := by
    intro k
    have H : ∀ l : List Nat, (l.flatMap numL).length ≤ 10 * l.length := by
      intro l
      induction l with
      | nil => simp
      | cons x l ih => have := (numL_length x).2; rw [List.flatMap_cons, List.length_append, List.length_cons]; omega
    have h1 := H (us.take k)
    rw [List.length_take] at h1
    unfold numsL
    omega
  go_enter Tryz.func60, Tryz.ntmps60
  go_wp2_with fail
  go_loopw [8, 3] (fun i s wr => ∃ k : Nat, k ≤ us.length ∧ i = .int .i64 k ∧ wr.ownsRow w.heap.size 5 1 s (numsL (us.take k)).length (B8 (numsL (us.take k))) ∧ Below w.heap.size w wr) (fun i _ _ => us.length - (intOf i).toNat)
  case atStart => exact ⟨0, Nat.zero_le _, rfl, World.ownsRow_nil _ _ _ _, Below.refl _ _⟩
  case round =>
    obtain ⟨k, hk, rfl, ho, hb⟩ := hrel
    by_cases hlt : k < us.length
    · have hc := (Hs.out.below hb hg) k us[k] (List.getElem?_eq_getElem hlt)
      have hub := Hu.out us[k] (List.getElem_mem hlt)
      have hts : Hid (numsL (us.take (k + 1)) = numsL (us.take k) ++ numL us[k]) := by
        show _ = _
        unfold numsL; rw [List.take_succ_eq_append_getElem hlt, List.flatMap_append]; simp
      have hkf := hfl k
      generalize us[k] = u at *
      have hltz : (k : Int) < (us.length : Int) := by omega
      obtain ⟨ao, cap1, rfl, hsee, hll, hnn⟩ := owns_sees ho
      have P : Hid (Calls Tryz.prog 94 #[.slice ao (numsL (us.take k)).length cap1, .int .u64 (u : Int)] wr fun e w' => ∃ v', e = .returned v' ∧ w'.ownsRow wr.heap.size 5 1 v' ((numsL (us.take k)).length + (numL u).length) (B8 (numsL (us.take k) ++ numL u)) ∧ Below wr.heap.size wr w') :=
        put_any ao _ cap1 u wr hsee (fun e => (hnn e).1 ▸ rfl) (by omega) hub
      clear hsee hnn hll ho
      go_wp2_with fail
      refine P.out.mono ?_
      rintro e w1 ⟨v1, rfl, ho1, hb1⟩
      go_wp2_with fail
      go_roundw
      case rel =>
        refine ⟨k + 1, by omega, by simp, ?_, hb.trans (hb1.mono hb.size)⟩
        rw [hts.out, List.length_append]
        exact ⟨ho1.1, ho1.2.imp id fun ⟨g, cap, cur, a, b, c⟩ => ⟨g, cap, cur, a, Nat.le_trans hb.size b, c⟩⟩
      case measure => simp [intOf]; omega
    · obtain rfl : k = us.length := by omega
      rw [List.take_length] at ho
      go_wp2_with fail
      go_ret
      exact ⟨_, rfl, ho, hb⟩
end Go.Proofs.YtdookhmaiapclaaGreatDoor
namespace Go.Proofs.YtdookhmaiapclaaGreatDoor
open Go.RowKit

/-! ### Comparisons -/
/-- The first, unless it tells nothing. -/
def th (x y : Int) : Int := if x ≠ 0 then x else y
theorem th_zero (y : Int) : th 0 y = y := by simp [th]
theorem th_of {x : Int} (h : x ≠ 0) (y : Int) : th x y = x := by simp [th, h]

structure Cmpr {α : Type} (f : α → α → Int) : Prop where
  z : ∀ a b, f a b = 0 ↔ a = b
  n : ∀ a b, f a b = - f b a
  t : ∀ a b c, f a b ≤ 0 → f b c ≤ 0 → f a c ≤ 0
  r : ∀ a b, f a b = -1 ∨ f a b = 0 ∨ f a b = 1

theorem Cmpr.strict {α : Type} {f : α → α → Int} (F : Cmpr f) {a b c : α} (h : f a b < 0) (g : f b c < 0) : f a c < 0 := by
  have := F.t a b c (by omega) (by omega)
  by_cases e : f a c = 0
  · have := (F.z a c).1 e; subst this
    have := F.n a b; omega
  · omega

def lex {α β : Type} (f : α → α → Int) (g : β → β → Int) (a b : α × β) : Int := th (f a.1 b.1) (g a.2 b.2)
theorem Cmpr.lex {α β : Type} {f : α → α → Int} {g : β → β → Int} (F : Cmpr f) (G : Cmpr g) : Cmpr (lex f g) where
  z := by
    rintro ⟨a, x⟩ ⟨b, y⟩
    unfold Go.Proofs.YtdookhmaiapclaaGreatDoor.lex th
    have := F.z a b; have := G.z x y
    split <;> rename_i h
    · constructor
      · intro e; exact absurd e h
      · intro e; exact absurd ((F.z a b).2 (congrArg Prod.fst e)) h
    · have h0 : f a b = 0 := by simpa using h
      have := (F.z a b).1 h0; subst this
      constructor
      · intro e; rw [(G.z x y).1 e]
      · intro e; exact (G.z x y).2 (congrArg Prod.snd e)
  n := by
    rintro ⟨a, x⟩ ⟨b, y⟩
    unfold Go.Proofs.YtdookhmaiapclaaGreatDoor.lex th
    have h1 := F.n a b; have h2 := G.n x y
    dsimp only
    by_cases e : f a b = 0
    · have e' : f b a = 0 := by omega
      simp only [e, e', ne_eq, not_true, if_false]; exact h2
    · have e' : f b a ≠ 0 := by omega
      simp only [ne_eq, e, e', not_false_eq_true, if_true]; exact h1
  t := by
    rintro ⟨a, x⟩ ⟨b, y⟩ ⟨c, z⟩
    unfold Go.Proofs.YtdookhmaiapclaaGreatDoor.lex th
    dsimp only
    intro h1 h2
    by_cases e1 : f a b = 0
    · have := (F.z a b).1 e1; subst this
      rw [if_neg (by simp [e1])] at h1
      by_cases e2 : f a c = 0
      · rw [if_neg (by simp [e2])] at h2 ⊢
        exact G.t _ _ _ h1 h2
      · rw [if_pos e2] at h2 ⊢; exact h2
    · rw [if_pos e1] at h1
      by_cases e2 : f b c = 0
      · have := (F.z b c).1 e2; subst this
        rw [if_pos e1]; exact h1
      · rw [if_pos e2] at h2
        have := F.strict (a := a) (b := b) (c := c) (by omega) (by omega)
        rw [if_pos (by omega)]; omega
  r := by
    rintro ⟨a, x⟩ ⟨b, y⟩
    unfold Go.Proofs.YtdookhmaiapclaaGreatDoor.lex th
    split
    · exact F.r a b
    · exact G.r x y

/-! ### Texts -/
def cb (a b : List UInt8) : Int := Lib.compareBytes a b
theorem cb_self : ∀ a : List UInt8, cb a a = 0
  | [] => rfl
  | a :: r => by show Lib.compareBytes _ _ = _; unfold Lib.compareBytes; simp only [UInt8.lt_irrefl, if_false]; exact cb_self r
theorem u8_tri (a b : UInt8) : a < b ∨ a = b ∨ b < a := by
  rcases Nat.lt_trichotomy a.toNat b.toNat with h | h | h
  · exact Or.inl (UInt8.lt_iff_toNat_lt.2 h)
  · exact Or.inr (Or.inl (UInt8.toNat_inj.1 h))
  · exact Or.inr (Or.inr (UInt8.lt_iff_toNat_lt.2 h))
theorem u8_asymm {a b : UInt8} (h : a < b) : ¬ b < a := by
  rw [UInt8.lt_iff_toNat_lt] at h ⊢; omega
theorem cb_lt {a b : UInt8} (h : a < b) (r s : List UInt8) : cb (a :: r) (b :: s) = -1 := by
  show Lib.compareBytes _ _ = _; unfold Lib.compareBytes; rw [if_pos h]
theorem cb_gt {a b : UInt8} (h : b < a) (r s : List UInt8) : cb (a :: r) (b :: s) = 1 := by
  show Lib.compareBytes _ _ = _; unfold Lib.compareBytes; rw [if_neg (u8_asymm h), if_pos h]
theorem cb_eq (a : UInt8) (r s : List UInt8) : cb (a :: r) (a :: s) = cb r s := by
  show Lib.compareBytes _ _ = _; conv => lhs; unfold Lib.compareBytes
  rw [if_neg (UInt8.lt_irrefl a), if_neg (UInt8.lt_irrefl a)]; rfl
theorem cb_nil_cons (b : UInt8) (s : List UInt8) : cb [] (b :: s) = -1 := rfl
theorem cb_cons_nil (b : UInt8) (s : List UInt8) : cb (b :: s) [] = 1 := rfl
theorem cb_nil_nil : cb [] [] = 0 := rfl
theorem cb_nil_le (s : List UInt8) : cb [] s ≤ 0 := by cases s with | nil => exact Int.le_refl _ | cons => rw [cb_nil_cons]; omega

theorem cb_cmpr : Cmpr cb where
  z := by
    intro a b
    constructor
    · induction a generalizing b with
      | nil => cases b with | nil => intro _; rfl | cons => intro h; rw [cb_nil_cons] at h; omega
      | cons x a ih =>
        cases b with
        | nil => intro h; rw [cb_cons_nil] at h; omega
        | cons y b =>
          rcases u8_tri x y with h | h | h
          · rw [cb_lt h]; omega
          · subst h; rw [cb_eq]; intro e; rw [ih b e]
          · rw [cb_gt h]; omega
    · rintro rfl; exact cb_self a
  n := by
    intro a
    induction a with
    | nil => intro b; cases b with | nil => rfl | cons => rfl
    | cons x a ih =>
      intro b
      cases b with
      | nil => rfl
      | cons y b =>
        rcases u8_tri x y with h | h | h
        · rw [cb_lt h, cb_gt h]; 
        · subst h; rw [cb_eq, cb_eq]; exact ih b
        · rw [cb_gt h, cb_lt h]; rfl
  t := by
    intro a
    induction a with
    | nil => intro b c _ _; exact cb_nil_le c
    | cons x a ih =>
      intro b c h g
      cases b with
      | nil => rw [cb_cons_nil] at h; omega
      | cons y b =>
        cases c with
        | nil => rw [cb_cons_nil] at g; omega
        | cons z c =>
          rcases u8_tri x y with h1 | h1 | h1
          · rcases u8_tri y z with h2 | h2 | h2
            · have : x < z := by rw [UInt8.lt_iff_toNat_lt] at *; omega
              rw [cb_lt this]; omega
            · subst h2; rw [cb_lt h1]; omega
            · rw [cb_gt h2] at g; omega
          · subst h1
            rw [cb_eq] at h
            rcases u8_tri x z with h2 | h2 | h2
            · rw [cb_lt h2]; omega
            · subst h2; rw [cb_eq] at g ⊢; exact ih b c h g
            · rw [cb_gt h2] at g; omega
          · rw [cb_gt h1] at h; omega
  r := by
    intro a
    induction a with
    | nil => intro b; cases b with | nil => exact Or.inr (Or.inl rfl) | cons => exact Or.inl rfl
    | cons x a ih =>
      intro b
      cases b with
      | nil => exact Or.inr (Or.inr rfl)
      | cons y b =>
        rcases u8_tri x y with h | h | h
        · exact Or.inl (cb_lt h _ _)
        · subst h; rw [cb_eq]; exact ih b
        · exact Or.inr (Or.inr (cb_gt h _ _))

theorem less_cb : ∀ a b : List UInt8, Op.bytesLess a b = decide (cb a b = -1)
  | [], [] => rfl
  | [], _ :: _ => rfl
  | _ :: _, [] => rfl
  | a :: r, b :: s => by
    rcases u8_tri a b with h | h | h
    · rw [cb_lt h]; simp [Op.bytesLess, h]
    · subst h; rw [cb_eq]; simp [Op.bytesLess, less_cb r s]
    · rw [cb_gt h]
      have h1 := u8_asymm h
      have h2 : ¬ a = b := by rintro rfl; exact UInt8.lt_irrefl _ h
      simp [Op.bytesLess, h1, h2]

/-! ### Numbers -/
def ci (x y : Int) : Int := if x < y then -1 else if x > y then 1 else 0
theorem ci_cmpr : Cmpr ci where
  z := by intro a b; unfold ci; split; · omega
          split <;> omega
  n := by intro a b; unfold ci; split <;> split <;> (try split) <;> omega
  t := by intro a b c; unfold ci; split <;> split <;> split <;> (try split) <;> (try split) <;> (try split) <;> omega
  r := by intro a b; unfold ci; split; · omega
          split <;> omega

/-! ### Keys -/
structure Ky where
  t : List UInt8
  p : List UInt8
  r : Int
  c : List UInt8
def kc (a b : Ky) : Int := th (cb a.t b.t) (th (cb a.p b.p) (th (ci a.r b.r) (cb a.c b.c)))
def Ky.tup (k : Ky) : List UInt8 × List UInt8 × Int × List UInt8 := (k.t, k.p, k.r, k.c)
theorem kc_cmpr : Cmpr kc := by
  have F := cb_cmpr.lex (cb_cmpr.lex (ci_cmpr.lex cb_cmpr))
  have e : ∀ a b : Ky, kc a b = lex cb (lex cb (lex ci cb)) a.tup b.tup := fun a b => rfl
  refine ⟨fun a b => ?_, fun a b => ?_, fun a b c h g => ?_, fun a b => ?_⟩
  · rw [e, F.z]
    constructor
    · intro h
      cases a; cases b
      simp only [Ky.tup, Prod.mk.injEq] at h
      obtain ⟨rfl, rfl, rfl, rfl⟩ := h; rfl
    · rintro rfl; rfl
  · rw [e, e]; exact F.n _ _
  · rw [e] at *; exact F.t _ _ _ h g
  · rw [e]; exact F.r _ _

def Ky.mark (k : Ky) : Ky := { k with c := [] }
theorem mark_le (k : Ky) : kc k.mark k ≤ 0 := by
  unfold kc Ky.mark; rw [cb_self, th_zero, cb_self, th_zero, (ci_cmpr.z _ _).2 rfl, th_zero]; exact cb_nil_le _
theorem mark_zero (k : Ky) : kc k.mark k = 0 ↔ k.c = [] := by
  rw [kc_cmpr.z]
  cases k; simp only [Ky.mark, Ky.mk.injEq, true_and]; exact ⟨Eq.symm, Eq.symm⟩
theorem mark_mark (k : Ky) : k.mark.mark = k.mark := rfl
theorem row_lt {a b : Ky} (h1 : a.t = b.t) (h2 : a.p = b.p) (h : a.r < b.r) : kc a b = -1 := by
  unfold kc; rw [h1, h2, cb_self, th_zero, cb_self, th_zero]
  have : ci a.r b.r = -1 := by unfold ci; rw [if_pos h]
  rw [this, th_of (by omega)]
theorem between {a b c : Ky} (h1 : a.t = b.t) (h2 : a.p = b.p) (g : kc a c ≤ 0) (g' : kc c b ≤ 0) : c.t = a.t ∧ c.p = a.p ∧ (a.r = b.r → c.r = a.r) := by
  have part : ∀ {α : Type} {f : α → α → Int} (F : Cmpr f) {x y : α} {u v : Int}, th (f x y) u ≤ 0 → th (f y x) v ≤ 0 → y = x ∧ u ≤ 0 ∧ v ≤ 0 := by
    intro α f F x y u v h g
    have n := F.n x y
    unfold th at h g
    by_cases e : f x y = 0
    · have e' : f y x = 0 := by omega
      rw [if_neg (by simp [e])] at h; rw [if_neg (by simp [e'])] at g
      exact ⟨((F.z _ _).1 e').symm ▸ rfl, h, g⟩
    · have e' : f y x ≠ 0 := by omega
      rw [if_pos e] at h; rw [if_pos e'] at g
      omega
  unfold kc at g g'
  rw [← h1, ← h2] at g'
  obtain ⟨e1, g, g'⟩ := part cb_cmpr g g'
  obtain ⟨e2, g, g'⟩ := part cb_cmpr g g'
  refine ⟨e1, e2, fun hr => ?_⟩
  rw [← hr] at g'
  exact (part ci_cmpr g g').1

/-! ### Bytes -/
def esc : List UInt8 → List UInt8
  | [] => []
  | b :: l => if b = 0 then 0 :: 255 :: esc l else b :: esc l
def encT (s : List UInt8) : List UInt8 := esc s ++ [0, 0]
theorem esc_append (a b : List UInt8) : esc (a ++ b) = esc a ++ esc b := by
  induction a with
  | nil => rfl
  | cons x a ih => simp only [List.cons_append, esc, ih]; split <;> rfl
theorem u8_pos {b : UInt8} (h : b ≠ 0) : (0 : UInt8) < b := by
  rcases u8_tri 0 b with g | g | g
  · exact g
  · exact absurd g.symm h
  · rw [UInt8.lt_iff_toNat_lt] at g; simp at g
theorem cb_encT : ∀ (s t x y : List UInt8), cb (encT s ++ x) (encT t ++ y) = th (cb s t) (cb x y)
  | [], [], x, y => by simp only [encT, esc, List.nil_append, List.cons_append]; rw [cb_eq, cb_eq, cb_nil_nil, th_zero]
  | [], b :: t, x, y => by
    rw [cb_nil_cons, th_of (by omega)]
    by_cases h : b = 0
    · simp only [encT, esc, h, if_true, List.nil_append, List.cons_append]; rw [cb_eq, cb_lt (by decide)]
    · simp only [encT, esc, h, if_false, List.nil_append, List.cons_append]; rw [cb_lt (u8_pos h)]
  | a :: s, [], x, y => by
    rw [cb_cons_nil, th_of (by omega)]
    by_cases h : a = 0
    · simp only [encT, esc, h, if_true, List.nil_append, List.cons_append]; rw [cb_eq, cb_gt (by decide)]
    · simp only [encT, esc, h, if_false, List.nil_append, List.cons_append]; rw [cb_gt (u8_pos h)]
  | a :: s, b :: t, x, y => by
    have ih := cb_encT s t x y
    have e : ∀ (c : UInt8) (l z : List UInt8), encT (c :: l) ++ z = if c = 0 then 0 :: 255 :: (encT l ++ z) else c :: (encT l ++ z) := by
      intro c l z; simp only [encT, esc]; split <;> simp
    rcases u8_tri a b with h | h | h
    · rw [cb_lt h, th_of (by omega), e, e, if_neg (c := b = 0) (by rintro rfl; rw [UInt8.lt_iff_toNat_lt] at h; simp at h)]
      split
      · rename_i g; rw [← g, cb_lt h]
      · rw [cb_lt h]
    · subst h
      rw [cb_eq, e, e]
      split
      · rw [cb_eq, cb_eq]; exact ih
      · rw [cb_eq]; exact ih
    · rw [cb_gt h, th_of (by omega), e, e, if_neg (c := a = 0) (by rintro rfl; rw [UInt8.lt_iff_toNat_lt] at h; simp at h)]
      split
      · rename_i g; rw [← g, cb_gt h]
      · rw [cb_gt h]

/-- The n lowest bytes of u, the highest first. -/
def be : Nat → Nat → List UInt8
  | 0, _ => []
  | n + 1, u => UInt8.ofNat (u / 256 ^ n % 256) :: be n u
theorem be_length : ∀ n u, (be n u).length = n
  | 0, _ => rfl
  | n + 1, u => by simp [be, be_length n u]
theorem ofNat_lt {a b : Nat} (hb : b < 256) (h : a < b) : UInt8.ofNat a < UInt8.ofNat b := by
  rw [UInt8.lt_iff_toNat_lt, UInt8.toNat_ofNat_of_lt' (by show a < 256; omega), UInt8.toNat_ofNat_of_lt' hb]; exact h
theorem cb_be : ∀ (n u v : Nat) (x y : List UInt8), cb (be n u ++ x) (be n v ++ y) = th (ci ((u % 256 ^ n : Nat) : Int) ((v % 256 ^ n : Nat) : Int)) (cb x y)
  | 0, u, v, x, y => by
    simp only [be, List.nil_append, Nat.pow_zero, Nat.mod_one]
    rw [(ci_cmpr.z _ _).2 rfl, th_zero]
  | n + 1, u, v, x, y => by
    have ih := cb_be n u v x y
    have hu := Nat.mod_pow_succ (b := 256) (k := n) (x := u)
    have hv := Nat.mod_pow_succ (b := 256) (k := n) (x := v)
    have lu : u / 256 ^ n % 256 < 256 := Nat.mod_lt _ (by decide)
    have lv : v / 256 ^ n % 256 < 256 := Nat.mod_lt _ (by decide)
    have p : 0 < 256 ^ n := Nat.pow_pos (by decide)
    have mu : u % 256 ^ n < 256 ^ n := Nat.mod_lt _ p
    have mv : v % 256 ^ n < 256 ^ n := Nat.mod_lt _ p
    simp only [be, List.cons_append]
    generalize u / 256 ^ n % 256 = a at *
    generalize v / 256 ^ n % 256 = b at *
    have key : ∀ {a b c d m : Nat}, a < b → c < m → m * a + c < m * b + d := by
      intro a b c d m h hc
      have : m * (a + 1) ≤ m * b := Nat.mul_le_mul_left m h
      rw [Nat.mul_add] at this; omega
    rcases Nat.lt_trichotomy a b with h | h | h
    · have hlt : u % 256 ^ (n + 1) < v % 256 ^ (n + 1) := by
        rw [hu, hv]; have := key (d := v % 256 ^ n) h mu; omega
      rw [cb_lt (ofNat_lt lv h)]
      have : ci ((u % 256 ^ (n + 1) : Nat) : Int) ((v % 256 ^ (n + 1) : Nat) : Int) = -1 := by unfold ci; rw [if_pos (by omega)]
      rw [this, th_of (by omega)]
    · subst h
      rw [cb_eq, ih, hu, hv]
      congr 1
      unfold ci
      split <;> split <;> (try split) <;> (try split) <;> omega
    · have hlt : v % 256 ^ (n + 1) < u % 256 ^ (n + 1) := by
        rw [hu, hv]; have := key (d := u % 256 ^ n) h mv; omega
      rw [cb_gt (ofNat_lt lu h)]
      have : ci ((u % 256 ^ (n + 1) : Nat) : Int) ((v % 256 ^ (n + 1) : Nat) : Int) = 1 := by unfold ci; rw [if_neg (by omega), if_pos (by omega)]
      rw [this, th_of (by omega)]

def two63 : Int := 9223372036854775808
def InI (r : Int) : Prop := -9223372036854775808 ≤ r ∧ r ≤ 9223372036854775807
def encR (r : Int) : List UInt8 := be 8 (r + 9223372036854775808).toNat
def encK (k : Ky) : List UInt8 := encT k.t ++ (encT k.p ++ (encR k.r ++ encT k.c))
theorem cb_encK (a b : Ky) (ha : InI a.r) (hb : InI b.r) : cb (encK a) (encK b) = kc a b := by
  unfold encK kc
  rw [cb_encT, cb_encT]
  congr 2
  unfold encR
  rw [cb_be]
  congr 1
  · unfold InI at ha hb
    rw [Nat.mod_eq_of_lt (by show _ < 18446744073709551616; omega), Nat.mod_eq_of_lt (by show _ < 18446744073709551616; omega)]
    unfold ci
    split <;> split <;> (try split) <;> (try split) <;> omega
  · have := cb_encT a.c b.c [] []
    rw [List.append_nil, List.append_nil, cb_nil_nil] at this
    rw [this]; unfold th; split <;> omega

/-! ### Reading -/
/-- The text that bytes begin with, and what is behind it. -/
def tk : List UInt8 → Option (List UInt8 × List UInt8)
  | [] => none
  | [_] => none
  | b :: d :: l => if b ≠ 0 then (tk (d :: l)).map fun q => (b :: q.1, q.2) else if d = 0 then some ([], l) else if d = 255 then (tk l).map fun q => (0 :: q.1, q.2) else none
theorem tk_encT : ∀ (s x : List UInt8), tk (encT s ++ x) = some (s, x)
  | [], x => by simp [encT, esc, tk]
  | b :: s, x => by
    have ih := tk_encT s x
    by_cases h : b = 0
    · have e : encT (b :: s) ++ x = 0 :: 255 :: (encT s ++ x) := by simp [encT, esc, h]
      rw [e, h]; unfold tk; rw [ih]; simp
    · have e : encT (b :: s) ++ x = b :: (encT s ++ x) := by simp [encT, esc, h]
      rw [e]
      obtain ⟨d, l, hd⟩ : ∃ d l, encT s ++ x = d :: l := by
        cases hh : encT s ++ x with
        | nil => simp [encT] at hh
        | cons d l => exact ⟨d, l, rfl⟩
      rw [hd] at ih ⊢; unfold tk; rw [ih]; simp [h]
def unbe (l : List UInt8) : Nat := l.foldl (fun u b => u * 256 + b.toNat) 0
theorem unbe_go : ∀ (n u a : Nat), (be n u).foldl (fun u b => u * 256 + b.toNat) a = a * 256 ^ n + u % 256 ^ n
  | 0, u, a => by simp [be, Nat.mod_one]
  | n + 1, u, a => by
    rw [be, List.foldl_cons, unbe_go n u, Nat.mod_pow_succ, UInt8.toNat_ofNat_of_lt' (Nat.mod_lt _ (by decide)), Nat.pow_succ, Nat.add_mul]
    have : a * 256 * 256 ^ n = a * (256 ^ n * 256) := by rw [Nat.mul_assoc, Nat.mul_comm 256]
    rw [this, Nat.mul_comm (u / 256 ^ n % 256)]; omega
def decR (l : List UInt8) : Int := (unbe l : Int) - 9223372036854775808
theorem decR_encR (r : Int) (h : InI r) : decR (encR r) = r := by
  unfold decR encR unbe; rw [unbe_go, Nat.mod_eq_of_lt (by unfold InI at h; show _ < 18446744073709551616; omega)]
  unfold InI at h; omega
theorem unbe_lt : ∀ (l : List UInt8) (a : Nat), l.foldl (fun u b => u * 256 + b.toNat) a < (a + 1) * 256 ^ l.length
  | [], a => by simp
  | b :: l, a => by
    rw [List.foldl_cons, List.length_cons, Nat.pow_succ]
    have := unbe_lt l (a * 256 + b.toNat)
    have hb : b.toNat < 256 := b.toNat_lt
    have h2 : (a * 256 + b.toNat + 1) * 256 ^ l.length ≤ ((a + 1) * 256) * 256 ^ l.length := Nat.mul_le_mul_right _ (by omega)
    have h3 : (a + 1) * 256 * 256 ^ l.length = (a + 1) * (256 ^ l.length * 256) := by rw [Nat.mul_assoc, Nat.mul_comm 256]
    omega
def rd (l : List UInt8) : Option Ky :=
  match tk l with
  | none => none
  | some (t, l1) => match tk l1 with
    | none => none
    | some (p, l2) => if l2.length < 8 then none else match tk (l2.drop 8) with
      | none => none
      | some (c, l3) => if l3 = [] then some ⟨t, p, decR (l2.take 8), c⟩ else none
theorem rd_enc (k : Ky) (x : List UInt8) (h : InI k.r) : rd (encK k ++ x) = if x = [] then some k else none := by
  unfold rd encK
  simp only [List.append_assoc]
  rw [tk_encT]; dsimp only
  rw [tk_encT]; dsimp only
  have hl : (encR k.r).length = 8 := be_length _ _
  rw [if_neg (by rw [List.length_append]; omega), List.drop_left' hl, List.take_left' hl, tk_encT]
  dsimp only
  rw [decR_encR k.r h]
end Go.Proofs.YtdookhmaiapclaaGreatDoor
namespace Go.Proofs
open Go.Shelf
def Tryz.lays213_ren : Go.Shelf.Ren := ⟨fun | 213 => 127 | 265 => 147 | n => n, fun | 9 => 9 | 3 => 3 | n => n, fun | n => n⟩
theorem Tryz.lays213 : Go.Proofs.Lays.n213 Tryz.prog Tryz.lays213_ren := {
  mixed := by kernel_rfl
  f213 := Tryz.func127.trans (congrArg some (by kernel_rfl))
  f265 := Tryz.func147.trans (congrArg some (by kernel_rfl))
  t3 := Tryz.underlying3
  a3 := Tryz.isAgg3
  z3 := Tryz.sizeOf3
  v3 := Tryz.zeroValue3
  t9 := Tryz.underlying9
  a9 := Tryz.isAgg9
  z9 := Tryz.sizeOf9
  v9 := Tryz.zeroValue9 }
open Go.RowKit in
theorem Tryz.bytealg_CompareString (a b : ByteArray) (w : World) :
    Calls Tryz.prog 127 #[.string a, .string b] w fun e w' => e = .returned (.int .i64 (Lib.compareBytes a.data.toList b.data.toList)) ∧ w' = w := Any.bytealg_CompareString Tryz.lays213 a b w
def Tryz.lays106_ren : Go.Shelf.Ren := ⟨fun | 106 => 103 | 213 => 127 | 265 => 147 | n => n, fun | 9 => 9 | 3 => 3 | n => n, fun | n => n⟩
theorem Tryz.lays106 : Go.Proofs.Lays.n106 Tryz.prog Tryz.lays106_ren := {
  mixed := by kernel_rfl
  f106 := Tryz.func103.trans (congrArg some (by kernel_rfl))
  f213 := Tryz.func127.trans (congrArg some (by kernel_rfl))
  f265 := Tryz.func147.trans (congrArg some (by kernel_rfl))
  t3 := Tryz.underlying3
  a3 := Tryz.isAgg3
  z3 := Tryz.sizeOf3
  v3 := Tryz.zeroValue3
  t9 := Tryz.underlying9
  a9 := Tryz.isAgg9
  z9 := Tryz.sizeOf9
  v9 := Tryz.zeroValue9 }
open Go.RowKit in
theorem Tryz.strings_Compare (a b : ByteArray) (w : World) :
    Calls Tryz.prog 103 #[.string a, .string b] w fun e w' => e = .returned (.int .i64 (Lib.compareBytes a.data.toList b.data.toList)) ∧ w' = w := Any.strings_Compare Tryz.lays106 a b w
def Tryz.lays215_ren : Go.Shelf.Ren := ⟨fun | 215 => 128 | n => n, fun | 3 => 3 | 4 => 4 | n => n, fun | n => n⟩
theorem Tryz.lays215 : Go.Proofs.Lays.n215 Tryz.prog Tryz.lays215_ren := {
  mixed := by kernel_rfl
  f215 := Tryz.func128.trans (congrArg some (by kernel_rfl))
  t3 := Tryz.underlying3
  a3 := Tryz.isAgg3
  z3 := Tryz.sizeOf3
  v3 := Tryz.zeroValue3
  t4 := Tryz.underlying4
  a4 := Tryz.isAgg4
  z4 := Tryz.sizeOf4
  v4 := Tryz.zeroValue4 }
open Go.RowKit in
theorem Tryz.cmp_isNaN_int (x : Int) (w : World) :
    Calls Tryz.prog 128 #[.int .i64 x] w fun e w' => e = .returned (.bool false) ∧ w' = w := Any.cmp_isNaN_int Tryz.lays215 x w
def Tryz.lays122_ren : Go.Shelf.Ren := ⟨fun | 122 => 104 | 215 => 128 | n => n, fun | 3 => 3 | 4 => 4 | n => n, fun | n => n⟩
theorem Tryz.lays122 : Go.Proofs.Lays.n122 Tryz.prog Tryz.lays122_ren := {
  mixed := by kernel_rfl
  f122 := Tryz.func104.trans (congrArg some (by kernel_rfl))
  f215 := Tryz.func128.trans (congrArg some (by kernel_rfl))
  t3 := Tryz.underlying3
  a3 := Tryz.isAgg3
  z3 := Tryz.sizeOf3
  v3 := Tryz.zeroValue3
  t4 := Tryz.underlying4
  a4 := Tryz.isAgg4
  z4 := Tryz.sizeOf4
  v4 := Tryz.zeroValue4 }
open Go.RowKit in
theorem Tryz.cmp_Compare_int (x y : Int) (w : World) :
    Calls Tryz.prog 104 #[.int .i64 x, .int .i64 y] w fun e w' => e = .returned (.int .i64 (Lib.compareInt x y)) ∧ w' = w := Any.cmp_Compare_int Tryz.lays122 x y w
def Tryz.laysNm237_ren : Go.Shelf.Ren := ⟨fun | 37 => 128 | n => n, fun | 3 => 3 | 4 => 4 | n => n, fun | n => n⟩
theorem Tryz.laysNm237 : Go.Proofs.Lays2.n37 Tryz.prog Tryz.laysNm237_ren := {
  mixed := by kernel_rfl
  f37 := Tryz.func128.trans (congrArg some (by kernel_rfl))
  t3 := Tryz.underlying3
  a3 := Tryz.isAgg3
  z3 := Tryz.sizeOf3
  v3 := Tryz.zeroValue3
  t4 := Tryz.underlying4
  a4 := Tryz.isAgg4
  z4 := Tryz.sizeOf4
  v4 := Tryz.zeroValue4 }
open Go.RowKit Go.Lib in
theorem Tryz.cmp_isNaN_int2 (x : Int) (w : World) :
    Calls Tryz.prog 128 #[.int .i64 x] w fun e w' => e = .returned (.bool false) ∧ w' = w := Any.cmp_isNaN_int2 Tryz.laysNm237 x w
end Go.Proofs
namespace Go.Proofs.YtdookhmaiapclaaGreatDoor
open Go.RowKit

/-- A text's bytes. -/
def nb (s : ByteArray) : List UInt8 := s.data.toList
def strB (l : List UInt8) : ByteArray := ⟨l.toArray⟩
theorem strB_nb (s : ByteArray) : strB (nb s) = s := by obtain ⟨a⟩ := s; simp [strB, nb]
theorem nb_strB (l : List UInt8) : nb (strB l) = l := by simp [strB, nb]
theorem nb_size (s : ByteArray) : (nb s).length = s.size := by show s.data.toList.length = s.data.size; exact Array.length_toList
theorem nb_inj {a b : ByteArray} : nb a = nb b ↔ a = b := ⟨fun h => by rw [← strB_nb a, h, strB_nb], fun h => by rw [h]⟩
theorem ba_list (s : ByteArray) : s.toList = nb s := Go.ByteArray.toList_eq s
theorem ba_same (a b : ByteArray) : (a.toList == b.toList) = decide (a = b) := by
  rw [ba_list, ba_list]
  by_cases h : a = b
  · simp [h]
  · simp only [h, decide_false, beq_eq_false_iff_ne]; exact fun e => h (nb_inj.1 e)
theorem ba_less (a b : ByteArray) : Op.bytesLess a.toList b.toList = decide (cb (nb a) (nb b) = -1) := by
  rw [ba_list, ba_list]; exact less_cb _ _


/-! ### Of numbers, the first that is not 0 -/
def fu : List Int → Int
  | [] => 0
  | x :: l => th x (fu l)
theorem fu_skip : ∀ (k : Nat) (l : List Int), (∀ j, j < k → l.getD j 0 = 0) → fu l = fu (l.drop k)
  | 0, _, _ => rfl
  | k + 1, [], _ => rfl
  | k + 1, x :: l, h => by
    have h0 : x = 0 := by have := h 0 (by omega); simpa using this
    subst h0
    rw [fu, th_zero, List.drop_succ_cons]
    exact fu_skip k l fun j hj => by have := h (j + 1) (by omega); simpa using this
theorem fu_at (k : Nat) (l : List Int) (h : ∀ j, j < k → l.getD j 0 = 0) (hk : k < l.length) (hn : l.getD k 0 ≠ 0) : fu l = l.getD k 0 := by
  rw [fu_skip k l h, List.drop_eq_getElem_cons hk, fu]
  have : l.getD k 0 = l[k] := by simp [List.getD, hk]
  rw [this] at hn ⊢
  exact th_of hn _
theorem zero_snoc {l : List Int} {k : Nat} (h : ∀ j, j < k → l.getD j 0 = 0) (h0 : l.getD k 0 = 0) : ∀ j, j < k + 1 → l.getD j 0 = 0 := by
  intro j hj
  rcases Nat.lt_or_ge j k with g | g
  · exact h j g
  · have : j = k := by omega
    rw [this]; exact h0
theorem firstUnlike_any (a : Addr) (l : List Int) (cap : Nat) (w : World) (h : ∀ i, i < l.length → w.cell? (a.add i) = some (.int .i64 (l.getD i 0))) (hl : l.length ≤ 1000000) :
    Calls Tryz.prog 102 #[.slice (some a) l.length cap] w fun x w' => x = .returned (.int .i64 (fu l)) ∧ w' = w := by
  have hl' : (l.length : Int) ≤ 1000000 := by omega
  go_enter Tryz.func102, Tryz.ntmps102
  go_wp2_with fail
  go_loop [7] (fun i => ∃ k : Nat, k ≤ l.length ∧ i = .int .i64 k ∧ ∀ j, j < k → l.getD j 0 = 0) (fun i => l.length - (intOf i).toNat)
  case atStart => exact ⟨0, by omega, rfl, fun j hj => by omega⟩
  case round =>
    obtain ⟨k, hk, rfl, hz⟩ := hrel
    by_cases hlt : k < l.length
    · have hc := h k hlt
      have h1 : (k : Int) < (l.length : Int) := by omega
      obtain ⟨x, hx⟩ : ∃ x, x = l.getD k 0 := ⟨_, rfl⟩
      rw [← hx] at hc
      by_cases h0 : x = 0
      · subst h0
        have Hz : Hid (∀ j, j < k → l.getD j 0 = 0) := hz
        have Hx : Hid ((0 : Int) = l.getD k 0) := hx
        clear hz hx h
        go_wp2_with fail
        exact ⟨⟨k + 1, by omega, by go_num, zero_snoc Hz.out Hx.out.symm⟩, by simp [intOf]; omega⟩
      · have he : Hid (fu l = x) := by rw [hx]; exact fu_at k l hz hlt (by rw [← hx]; exact h0)
        clear hz hx h
        go_wp2_with fail
        go_ret
        exact ⟨ret_int he.out.symm, rfl⟩
    · obtain rfl : k = l.length := by omega
      have he : Hid (fu l = 0) := by
        have := fu_skip l.length l hz
        rw [List.drop_length] at this; exact this
      clear hz h
      go_wp2_with fail
      go_ret
      exact ⟨ret_int he.out.symm, rfl⟩
/-! ### Keys in memory -/
structure Kb where
  t : ByteArray
  p : ByteArray
  r : Int
  c : ByteArray
def Kb.ky (k : Kb) : Ky := ⟨nb k.t, nb k.p, k.r, nb k.c⟩
def Kb.v (k : Kb) : Value := .agg #[.string k.t, .string k.p, .int .i64 k.r, .string k.c]
theorem Kb.ky_inj {a b : Kb} : a.ky = b.ky ↔ a = b := by
  constructor
  · intro h
    cases a; cases b
    simp only [Kb.ky, Ky.mk.injEq, nb_inj] at h
    obtain ⟨rfl, rfl, rfl, rfl⟩ := h; rfl
  · rintro rfl; rfl

theorem texts_any (a b : ByteArray) (w : World) :
    Calls Tryz.prog 96 #[.string a, .string b] w fun x w' => x = .returned (.int .i64 (cb (nb a) (nb b))) ∧ w' = w := by
  have h1 := ba_less a b
  have h2 := ba_same a b
  rcases cb_cmpr.r (nb a) (nb b) with h | h | h
  · rw [h] at h1
    rw [decide_eq_true rfl] at h1
    go_enter Tryz.func96, Tryz.ntmps96
    go_wp2_with fail
    go_ret
    exact ⟨ret_int h.symm, rfl⟩
  · rw [h] at h1
    rw [decide_eq_false (by omega)] at h1
    have e : a = b := nb_inj.1 ((cb_cmpr.z _ _).1 h)
    subst e
    rw [decide_eq_true rfl] at h2
    go_enter Tryz.func96, Tryz.ntmps96
    go_wp2_with fail
    go_ret
    exact ⟨ret_int h.symm, rfl⟩
  · have e : a ≠ b := by rintro rfl; rw [cb_self] at h; omega
    rw [h, decide_eq_false (by omega)] at h1
    rw [decide_eq_false e] at h2
    go_enter Tryz.func96, Tryz.ntmps96
    go_wp2_with fail
    go_ret
    exact ⟨ret_int h.symm, rfl⟩
theorem refCmp_any (a b : Kb) (w : World) :
    Calls Tryz.prog 61 #[a.v, b.v] w fun x w' => x = .returned (.int .i64 (kc a.ky b.ky)) ∧ Below w.heap.size w w' := by
  obtain ⟨t1, p1, r1, c1⟩ := a
  obtain ⟨t2, p2, r2, c2⟩ := b
  have T : Hid (∀ (a b : ByteArray) (w : World), Calls Tryz.prog 96 #[.string a, .string b] w fun x w' => x = .returned (.int .i64 (cb (nb a) (nb b))) ∧ w' = w) := texts_any
  have h1 := ba_same t1 t2
  have h2 := ba_same p1 p2
  have hB : Hid (∀ o1 o2 : Obj, Below w.heap.size w ((w.alloc o1).alloc o2)) := fun o1 o2 => ((Below.refl _ _).alloc (Nat.le_refl _) _).alloc (by simp) _
  obtain ⟨R, hR⟩ : ∃ R, R = kc (Kb.ky ⟨t1, p1, r1, c1⟩) (Kb.ky ⟨t2, p2, r2, c2⟩) := ⟨_, rfl⟩
  rw [← hR]
  simp only [kc, Kb.ky] at hR
  simp only [Kb.v]
  by_cases e1 : t1 = t2
  · subst e1
    rw [decide_eq_true rfl] at h1
    rw [cb_self, th_zero] at hR
    by_cases e2 : p1 = p2
    · subst e2
      rw [decide_eq_true rfl] at h2
      rw [cb_self, th_zero] at hR
      rcases Int.lt_trichotomy r1 r2 with e3 | e3 | e3
      · have : ci r1 r2 = -1 := by unfold ci; rw [if_pos e3]
        rw [this, th_of (by omega)] at hR
        go_enter Tryz.func61, Tryz.ntmps61
        go_wp2_with fail
        go_ret
        exact ⟨ret_int hR.symm, hB.out _ _⟩
      · subst e3
        rw [(ci_cmpr.z _ _).2 rfl, th_zero] at hR
        go_enter Tryz.func61, Tryz.ntmps61
        go_wp2_with (go_at_call 96; go_fit (T.out _ _ _); rintro x w1 ⟨rfl, rfl⟩)
        go_ret
        exact ⟨ret_int hR.symm, hB.out _ _⟩
      · have : ci r1 r2 = 1 := by unfold ci; rw [if_neg (by omega), if_pos e3]
        rw [this, th_of (by omega)] at hR
        have e4 : ¬ r1 < r2 := by omega
        go_enter Tryz.func61, Tryz.ntmps61
        have hR' : Hid (R = 1) := hR
        clear hR
        go_wp2_with fail
        go_ret
        exact ⟨ret_int hR'.out.symm, hB.out _ _⟩
    · rw [decide_eq_false e2] at h2
      rw [th_of (fun h => e2 (nb_inj.1 ((cb_cmpr.z _ _).1 h)))] at hR
      go_enter Tryz.func61, Tryz.ntmps61
      go_wp2_with (go_at_call 96; go_fit (T.out _ _ _); rintro x w1 ⟨rfl, rfl⟩)
      go_ret
      exact ⟨ret_int hR.symm, hB.out _ _⟩
  · rw [decide_eq_false e1] at h1
    rw [th_of (fun h => e1 (nb_inj.1 ((cb_cmpr.z _ _).1 h)))] at hR
    go_enter Tryz.func61, Tryz.ntmps61
    go_wp2_with (go_at_call 96; go_fit (T.out _ _ _); rintro x w1 ⟨rfl, rfl⟩)
    go_ret
    exact ⟨ret_int hR.symm, hB.out _ _⟩

theorem box_cells (w : World) (o : Obj) (t : TypeId) (cs : Array Value) (i : Nat) (v : Value) (h : cs[i]? = some v) : ((w.alloc (.cells cs t)).alloc o).cell? ⟨w.heap.size, i, none⟩ = some v ∧ (o = .cells cs t → ((w.alloc o).alloc (.cells cs t)).cell? ⟨w.heap.size + 1, i, none⟩ = some v) := by
  have h1 : ((w.alloc (.cells cs t)).alloc o).heap[w.heap.size]? = some (.cells cs t) := by
    rw [Below.heap_alloc _ _ _ (by rw [World.size_alloc]; omega)]; exact heap_alloc_new w _
  have h2 : ((w.alloc o).alloc (.cells cs t)).heap[w.heap.size + 1]? = some (.cells cs t) := by
    have := heap_alloc_new (w.alloc o) (.cells cs t); rwa [World.size_alloc] at this
  refine ⟨?_, fun _ => ?_⟩
  · simp only [World.cell?, h1]; simpa using h
  · simp only [World.cell?, h2]; simpa using h
theorem box_cells2 (w : World) (o : Obj) (t : TypeId) (cs : Array Value) (i : Nat) (v : Value) (h : cs[i]? = some v) : ((w.alloc o).alloc (.cells cs t)).cell? ⟨w.heap.size + 1, i, none⟩ = some v := by
  have h2 : ((w.alloc o).alloc (.cells cs t)).heap[w.heap.size + 1]? = some (.cells cs t) := by
    have := heap_alloc_new (w.alloc o) (.cells cs t); rwa [World.size_alloc] at this
  simp only [World.cell?, h2]; simpa using h
theorem first4 (w : World) (x1 x2 x3 x4 : Int) : Calls Tryz.prog 102 #[.slice (some ⟨w.heap.size, 0, none⟩) 4 4] (w.alloc (.cells #[.int .i64 x1, .int .i64 x2, .int .i64 x3, .int .i64 x4] 3)).drew fun x w' => x = .returned (.int .i64 (fu [x1, x2, x3, x4])) ∧ w' = (w.alloc (.cells #[.int .i64 x1, .int .i64 x2, .int .i64 x3, .int .i64 x4] 3)).drew := by
  have hg : (w.alloc (.cells #[.int .i64 x1, .int .i64 x2, .int .i64 x3, .int .i64 x4] 3)).drew.heap[w.heap.size]? = some (.cells #[.int .i64 x1, .int .i64 x2, .int .i64 x3, .int .i64 x4] 3) := heap_alloc_new w _
  refine firstUnlike_any ⟨w.heap.size, 0, none⟩ [x1, x2, x3, x4] 4 _ (fun i hi => ?_) (by simp)
  rw [Addr.add_lit, Nat.zero_add]
  simp only [World.cell?, hg]
  simp only [List.length_cons, List.length_nil] at hi
  rcases i with _ | _ | _ | _ | i
  · rfl
  · rfl
  · rfl
  · rfl
  · omega
theorem kc_fu (t1 t2 p1 p2 c1 c2 : ByteArray) (r1 r2 : Int) : kc (Kb.ky ⟨t1, p1, r1, c1⟩) (Kb.ky ⟨t2, p2, r2, c2⟩) = fu [cb (nb t1) (nb t2), cb (nb p1) (nb p2), ci r1 r2, cb (nb c1) (nb c2)] := by
  show th _ (th _ (th _ _)) = th _ (th _ (th _ (th _ 0)))
  have : ∀ x, th x 0 = x := fun x => by unfold th; split <;> omega
  rw [this]; rfl

set_option maxRecDepth 100000 in
set_option maxHeartbeats 1000000 in
theorem cmp_any (a b : Kb) (w : World) :
    Calls Tryz.prog 73 #[a.v, b.v] w fun x w' => x = .returned (.int .i64 (kc a.ky b.ky)) ∧ Below w.heap.size w w' := by
  obtain ⟨t1, p1, r1, c1⟩ := a
  obtain ⟨t2, p2, r2, c2⟩ := b
  have T : Hid (∀ (a b : ByteArray) (w : World), Calls Tryz.prog 103 #[.string a, .string b] w fun x w' => x = .returned (.int .i64 (cb (nb a) (nb b))) ∧ w' = w) := Tryz.strings_Compare
  have T3 : Hid (∀ (w : World), Calls Tryz.prog 104 #[.int .i64 r1, .int .i64 r2] w fun x w' => x = .returned (.int .i64 (ci r1 r2)) ∧ w' = w) := fun w => Tryz.cmp_Compare_int r1 r2 w
  have hR : Hid (kc (Kb.ky ⟨t1, p1, r1, c1⟩) (Kb.ky ⟨t2, p2, r2, c2⟩) = fu [cb (nb t1) (nb t2), cb (nb p1) (nb p2), ci r1 r2, cb (nb c1) (nb c2)]) := kc_fu _ _ _ _ _ _ _ _
  simp only [Kb.v]
  go_enter Tryz.func73, Tryz.ntmps73
  go_wp2_with fail
  have a0 := (box_cells w (.cells #[.string t2, .string p2, .int .i64 r2, .string c2] 24) 24 #[.string t1, .string p1, .int .i64 r1, .string c1] 0 _ rfl).1
  have a1 := (box_cells w (.cells #[.string t2, .string p2, .int .i64 r2, .string c2] 24) 24 #[.string t1, .string p1, .int .i64 r1, .string c1] 1 _ rfl).1
  have a2 := (box_cells w (.cells #[.string t2, .string p2, .int .i64 r2, .string c2] 24) 24 #[.string t1, .string p1, .int .i64 r1, .string c1] 2 _ rfl).1
  have a3 := (box_cells w (.cells #[.string t2, .string p2, .int .i64 r2, .string c2] 24) 24 #[.string t1, .string p1, .int .i64 r1, .string c1] 3 _ rfl).1
  have b0 := box_cells2 w (.cells #[.string t1, .string p1, .int .i64 r1, .string c1] 24) 24 #[.string t2, .string p2, .int .i64 r2, .string c2] 0 _ rfl
  have b1 := box_cells2 w (.cells #[.string t1, .string p1, .int .i64 r1, .string c1] 24) 24 #[.string t2, .string p2, .int .i64 r2, .string c2] 1 _ rfl
  have b2 := box_cells2 w (.cells #[.string t1, .string p1, .int .i64 r1, .string c1] 24) 24 #[.string t2, .string p2, .int .i64 r2, .string c2] 2 _ rfl
  have b3 := box_cells2 w (.cells #[.string t1, .string p1, .int .i64 r1, .string c1] 24) 24 #[.string t2, .string p2, .int .i64 r2, .string c2] 3 _ rfl
  have hB : Hid (Below w.heap.size w ((w.alloc (.cells #[.string t1, .string p1, .int .i64 r1, .string c1] 24)).alloc (.cells #[.string t2, .string p2, .int .i64 r2, .string c2] 24))) := ((Below.refl _ _).alloc (Nat.le_refl _) _).alloc (by simp) _
  generalize (w.alloc (.cells #[.string t1, .string p1, .int .i64 r1, .string c1] 24)).alloc (.cells #[.string t2, .string p2, .int .i64 r2, .string c2] 24) = wa at *
  have F : Hid (∀ (x1 x2 x3 x4 : Int), Calls Tryz.prog 102 #[.slice (some ⟨wa.heap.size, 0, none⟩) 4 4] (wa.alloc (.cells #[.int .i64 x1, .int .i64 x2, .int .i64 x3, .int .i64 x4] 3)).drew fun x w' => x = .returned (.int .i64 (fu [x1, x2, x3, x4])) ∧ w' = (wa.alloc (.cells #[.int .i64 x1, .int .i64 x2, .int .i64 x3, .int .i64 x4] 3)).drew) := first4 wa
  have hE : Hid (∀ o, Below w.heap.size w (wa.alloc o).drew) := fun o => Below.drew (hB.out.alloc hB.out.size o)
  clear hB
  refine wp_region_still_tail 20 (by kernel_rfl) (by kernel_rfl) ?_
  simp only [List.take_succ_cons, List.take_zero, List.drop_succ_cons, List.drop_zero]
  refine wpStill_step (fun K hK => ?_)
  go_simp
  refine hK _ ?_
  clear hK K
  refine wpStill_step (fun K hK => ?_)
  go_simp
  refine hK _ ?_
  clear hK K
  refine wpStill_step (fun K hK => ?_)
  go_simp
  refine hK _ ?_
  clear hK K
  refine wpStill_step (fun K hK => ?_)
  go_simp
  refine hK _ ?_
  clear hK K
  refine wpStill_step (fun K hK => ?_)
  go_simp
  refine ⟨_, T.out _ _ _, hK _ ?_⟩
  clear hK K
  refine wpStill_step (fun K hK => ?_)
  go_simp
  refine hK _ ?_
  clear hK K
  refine wpStill_step (fun K hK => ?_)
  go_simp
  refine hK _ ?_
  clear hK K
  refine wpStill_step (fun K hK => ?_)
  go_simp
  refine hK _ ?_
  clear hK K
  refine wpStill_step (fun K hK => ?_)
  go_simp
  refine hK _ ?_
  clear hK K
  refine wpStill_step (fun K hK => ?_)
  go_simp
  refine ⟨_, T.out _ _ _, hK _ ?_⟩
  clear hK K
  refine wpStill_step (fun K hK => ?_)
  go_simp
  refine hK _ ?_
  clear hK K
  refine wpStill_step (fun K hK => ?_)
  go_simp
  refine hK _ ?_
  clear hK K
  refine wpStill_step (fun K hK => ?_)
  go_simp
  refine hK _ ?_
  clear hK K
  refine wpStill_step (fun K hK => ?_)
  go_simp
  refine hK _ ?_
  clear hK K
  refine wpStill_step (fun K hK => ?_)
  go_simp
  refine ⟨_, T3.out _, hK _ ?_⟩
  clear hK K
  refine wpStill_step (fun K hK => ?_)
  go_simp
  refine hK _ ?_
  clear hK K
  refine wpStill_step (fun K hK => ?_)
  go_simp
  refine hK _ ?_
  clear hK K
  refine wpStill_step (fun K hK => ?_)
  go_simp
  refine hK _ ?_
  clear hK K
  refine wpStill_step (fun K hK => ?_)
  go_simp
  refine hK _ ?_
  clear hK K
  refine wpStill_step (fun K hK => ?_)
  go_simp
  refine ⟨_, T.out _ _ _, hK _ ?_⟩
  clear hK K
  refine wpStill_nil ?_
  go_wp2_with (go_at_call 102; go_fit (F.out _ _ _ _); rintro x w1 ⟨rfl, rfl⟩)
  go_ret
  exact ⟨ret_int hR.out.symm, hE.out _⟩
structure Kb.Ok (k : Kb) : Prop where
  t : k.t.size ≤ 5000
  p : k.p.size ≤ 5000
  c : k.c.size ≤ 5000
  r : InI k.r
structure Kb.Big (k : Kb) : Prop where
  t : k.t.size ≤ 2000000
  p : k.p.size ≤ 2000000
  c : k.c.size ≤ 2000000
  r : InI k.r
theorem Kb.Ok.big {k : Kb} (h : k.Ok) : k.Big := ⟨Nat.le_trans h.t (by decide), Nat.le_trans h.p (by decide), Nat.le_trans h.c (by decide), h.r⟩
end Go.Proofs.YtdookhmaiapclaaGreatDoor
namespace Go.Proofs.YtdookhmaiapclaaGreatDoor
open Go.RowKit

def isL (x : Int) : Bool := decide (97 ≤ x) && decide (x ≤ 122)
def isD (x : Int) : Bool := decide (48 ≤ x) && decide (x ≤ 57)
def okC (x : Int) : Bool := isL x || isD x || x == 95
def nameB (l : List UInt8) : Bool := decide (1 ≤ l.length) && decide (l.length ≤ 16) && isL ((l.getD 0 0).toNat : Int) && l.all fun b => okC (b.toNat : Int)
theorem name_iff (l : List UInt8) : nameB l = true ↔ 1 ≤ l.length ∧ l.length ≤ 16 ∧ isL ((l.getD 0 0).toNat : Int) = true ∧ ∀ j, j < l.length → okC ((l.getD j 0).toNat : Int) = true := by
  unfold nameB
  simp only [Bool.and_eq_true, decide_eq_true_eq, List.all_eq_true, and_assoc]
  constructor
  · rintro ⟨h1, h2, h3, h4⟩
    refine ⟨h1, h2, h3, fun j hj => ?_⟩
    have e : l.getD j 0 = l[j] := by simp [List.getD, hj]
    rw [e]; exact h4 _ (List.getElem_mem hj)
  · rintro ⟨h1, h2, h3, h4⟩
    refine ⟨h1, h2, h3, fun b hb => ?_⟩
    obtain ⟨j, hj, rfl⟩ := List.getElem_of_mem hb
    have e : l.getD j 0 = l[j] := by simp [List.getD, hj]
    have := h4 j hj
    rwa [e] at this
theorem letter_any (x : Int) (w : World) : Calls Tryz.prog 139 #[.int .u8 x] w fun e w' => e = .returned (.bool (isL x)) ∧ w' = w := by
  unfold isL
  by_cases h : 97 ≤ x
  · have d : decide (97 ≤ x) = true := decide_eq_true h
    go_enter Tryz.func139, Tryz.ntmps139
    go_wp2_with fail
    go_ret
    exact ⟨ret_bool (by first | rfl | (rw [d]; simp)), rfl⟩
  · have d : decide (97 ≤ x) = false := decide_eq_false h
    go_enter Tryz.func139, Tryz.ntmps139
    go_wp2_with fail
    go_ret
    exact ⟨ret_bool (by first | rfl | (rw [d]; simp)), rfl⟩
theorem digit_any (x : Int) (w : World) : Calls Tryz.prog 140 #[.int .u8 x] w fun e w' => e = .returned (.bool (isD x)) ∧ w' = w := by
  unfold isD
  by_cases h : 48 ≤ x
  · have d : decide (48 ≤ x) = true := decide_eq_true h
    go_enter Tryz.func140, Tryz.ntmps140
    go_wp2_with fail
    go_ret
    exact ⟨ret_bool (by first | rfl | (rw [d]; simp)), rfl⟩
  · have d : decide (48 ≤ x) = false := decide_eq_false h
    go_enter Tryz.func140, Tryz.ntmps140
    go_wp2_with fail
    go_ret
    exact ⟨ret_bool (by first | rfl | (rw [d]; simp)), rfl⟩

theorem at_nb (s : ByteArray) (k : Nat) (hk : k < s.size) : (nb s).getD k 0 = s[k] := by
  have : k < s.data.toList.length := by simpa using hk
  unfold nb
  rw [List.getD_eq_getElem?_getD, List.getElem?_eq_getElem this]
  rfl
theorem name_no {l : List UInt8} (h : ¬ (1 ≤ l.length ∧ l.length ≤ 16 ∧ isL ((l.getD 0 0).toNat : Int) = true ∧ ∀ j, j < l.length → okC ((l.getD j 0).toNat : Int) = true)) : nameB l = false := by
  cases hg : nameB l
  · rfl
  · exact absurd ((name_iff l).1 hg) h

set_option maxRecDepth 100000 in
set_option maxHeartbeats 1000000 in
theorem name_any (s : ByteArray) (w : World) (hs : s.size ≤ maxLen) :
    Calls Tryz.prog 116 #[.string s] w fun e w' => e = .returned (.bool (nameB (nb s))) ∧ w' = w := by
  have hsz : (s.size : Int) ≤ 9223372036854775807 := by unfold maxLen at hs; omega
  have Hi : Hid _ := name_iff (nb s)
  have Hn : Hid _ := @name_no (nb s)
  rw [nb_size] at Hi Hn
  have Hat : Hid _ := at_nb s
  have L : Hid (∀ (x : Int) (w : World), Calls Tryz.prog 139 #[.int .u8 x] w fun e w' => e = .returned (.bool (isL x)) ∧ w' = w) := letter_any
  have D : Hid (∀ (x : Int) (w : World), Calls Tryz.prog 140 #[.int .u8 x] w fun e w' => e = .returned (.bool (isD x)) ∧ w' = w) := digit_any
  clear hs
  by_cases h0 : s.size = 0
  · go_enter Tryz.func116, Tryz.ntmps116
    go_wp2_with fail
    go_ret
    exact ⟨ret_bool (Hn.out (by omega)).symm, rfl⟩
  by_cases h16 : 16 < s.size
  · go_enter Tryz.func116, Tryz.ntmps116
    go_wp2_with fail
    go_ret
    exact ⟨ret_bool (Hn.out (by omega)).symm, rfl⟩
  have hb1 : decide ((s.size : Int) < 1) = false := decide_eq_false (by omega)
  have hb2 : decide (16 < (s.size : Int)) = false := decide_eq_false (by omega)
  have hsi : (s.size : Int) ≤ 16 := by omega
  have hpos : 0 < s.size := by omega
  have Hsz : Hid (s.size ≤ 16) := by show s.size ≤ 16; omega
  clear h0 h16
  obtain ⟨x0, hx0⟩ : ∃ x, ((s[0].toNat : Nat) : Int) = x := ⟨_, rfl⟩
  cases hl0 : isL x0
  · have HF : Hid (nameB (nb s) = false) := Hn.out (fun hh => by have := hh.2.2.1; rw [Hat.out 0 hpos, hx0, hl0] at this; cases this)
    have L0 := L.out x0
    rw [hl0] at L0
    have L0' : Hid (∀ w : World, Calls Tryz.prog 139 #[.int .u8 x0] w fun e w' => e = .returned (.bool false) ∧ w' = w) := L0
    clear L0 L D
    go_enter Tryz.func116, Tryz.ntmps116
    go_wp2_with (go_at_call 139; go_fit (L0'.out _); rintro e w1 ⟨rfl, rfl⟩)
    go_ret
    exact ⟨ret_bool HF.out.symm, rfl⟩
  have HL0 : Hid (isL (((nb s).getD 0 0).toNat : Int) = true) := by show isL _ = true; rw [Hat.out 0 hpos, hx0, hl0]
  have L0 := L.out x0
  rw [hl0] at L0
  have L0' : Hid (∀ w : World, Calls Tryz.prog 139 #[.int .u8 x0] w fun e w' => e = .returned (.bool true) ∧ w' = w) := L0
  clear L0 hl0
  go_enter Tryz.func116, Tryz.ntmps116
  go_wp2_with (go_at_call 139; go_fit (L0'.out _); rintro e w1 ⟨rfl, rfl⟩)
  clear hx0 L0'
  go_loop [20] (fun i => ∃ k : Nat, k ≤ s.size ∧ i = .int .i64 k ∧ ∀ j, j < k → okC (((nb s).getD j 0).toNat : Int) = true) (fun i => s.size - (intOf i).toNat)
  case atStart => exact ⟨0, Nat.zero_le _, rfl, fun j hj => absurd hj (Nat.not_lt_zero _)⟩
  case round =>
    obtain ⟨k, hk, rfl, hall⟩ := hrel
    have HA : Hid (∀ j, j < k → okC (((nb s).getD j 0).toNat : Int) = true) := hall
    clear hall
    by_cases hlt : k < s.size
    · obtain ⟨x, hx⟩ : ∃ x, ((s[k].toNat : Nat) : Int) = x := ⟨_, rfl⟩
      have HB : Hid (okC x = false → nameB (nb s) = false) := fun h => Hn.out fun hh => by have := hh.2.2.2 k hlt; rw [Hat.out k hlt, hx, h] at this; cases this
      have HN : Hid (okC x = true → ∀ j, j < k + 1 → okC (((nb s).getD j 0).toNat : Int) = true) := fun h j hj => by
        by_cases e : j = k
        · subst e; rw [Hat.out j hlt, hx]; exact h
        · exact HA.out j (by omega)
      have L1 : Hid (∀ w : World, Calls Tryz.prog 139 #[.int .u8 x] w fun e w' => e = .returned (.bool (isL x)) ∧ w' = w) := L.out x
      have D1 : Hid (∀ w : World, Calls Tryz.prog 140 #[.int .u8 x] w fun e w' => e = .returned (.bool (isD x)) ∧ w' = w) := D.out x
      have HO : Hid (okC x = (isL x || isD x || x == 95)) := rfl
      generalize isL x = bl at *
      generalize isD x = bd at *
      generalize okC x = bo at *
      clear Hi Hn Hat HA HL0 L D
      cases bl
      · cases bd
        · by_cases h95 : x = 95
          · subst h95
            have HN' : Hid (∀ j, j < k + 1 → okC (((nb s).getD j 0).toNat : Int) = true) := HN.out (by rw [HO.out]; rfl)
            clear HN HB HO
            go_wp2_with (first | (go_at_call 139; go_fit (L1.out _); rintro e w1 ⟨rfl, rfl⟩) | (go_at_call 140; go_fit (D1.out _); rintro e w1 ⟨rfl, rfl⟩))
            go_round
            case rel => exact ⟨k + 1, by omega, by go_num, HN'.out⟩
            case measure => simp [intOf]; omega
          · have e95 : (x == 95) = false := by rw [beq_eq_false_iff_ne]; exact h95
            have HF : Hid (nameB (nb s) = false) := HB.out (by rw [HO.out, e95]; rfl)
            clear HN HB HO
            go_wp2_with (first | (go_at_call 139; go_fit (L1.out _); rintro e w1 ⟨rfl, rfl⟩) | (go_at_call 140; go_fit (D1.out _); rintro e w1 ⟨rfl, rfl⟩))
            go_ret
            exact ⟨ret_bool HF.out.symm, rfl⟩
        · have HN' : Hid (∀ j, j < k + 1 → okC (((nb s).getD j 0).toNat : Int) = true) := HN.out (by rw [HO.out]; rfl)
          clear HN HB HO
          go_wp2_with (first | (go_at_call 139; go_fit (L1.out _); rintro e w1 ⟨rfl, rfl⟩) | (go_at_call 140; go_fit (D1.out _); rintro e w1 ⟨rfl, rfl⟩))
          go_round
          case rel => exact ⟨k + 1, by omega, by go_num, HN'.out⟩
          case measure => simp [intOf]; omega
      · have HN' : Hid (∀ j, j < k + 1 → okC (((nb s).getD j 0).toNat : Int) = true) := HN.out (by rw [HO.out]; rfl)
        clear HN HB HO
        go_wp2_with (first | (go_at_call 139; go_fit (L1.out _); rintro e w1 ⟨rfl, rfl⟩) | (go_at_call 140; go_fit (D1.out _); rintro e w1 ⟨rfl, rfl⟩))
        go_round
        case rel => exact ⟨k + 1, by omega, by go_num, HN'.out⟩
        case measure => simp [intOf]; omega
    · obtain rfl : k = s.size := by omega
      have HT : Hid (nameB (nb s) = true) := Hi.out.2 ⟨hpos, Hsz.out, HL0.out, HA.out⟩
      clear Hi Hn HA
      go_wp2_with fail
      go_ret
      exact ⟨ret_bool HT.out.symm, rfl⟩
end Go.Proofs.YtdookhmaiapclaaGreatDoor
namespace Go.Proofs.YtdookhmaiapclaaGreatDoor
open Go.RowKit

def goodK (k : Ky) : Bool := nameB k.t && decide (1 ≤ k.p.length) && decide (k.p.length ≤ 64) && (k.c == [] || nameB k.c)
def emptyB : ByteArray := ⟨#[]⟩
theorem nb_empty (s : ByteArray) : nb s = [] ↔ s.size = 0 := by
  rw [← nb_size]; exact List.length_eq_zero_iff.symm

theorem ba_isEmpty (c : ByteArray) : c.toList.isEmpty = decide (c.size = 0) := by
  rw [ba_list]
  by_cases h : c.size = 0
  · rw [(nb_empty c).2 h]; simp [h]
  · have := fun e => h ((nb_empty c).1 e)
    simp only [h, decide_false]; cases hn : nb c with | nil => exact absurd hn this | cons => rfl
set_option maxRecDepth 100000 in
set_option maxHeartbeats 1000000 in
theorem good_any (k : Kb) (w : World) (h1 : k.t.size ≤ maxLen) (h2 : k.p.size ≤ maxLen) (h3 : k.c.size ≤ maxLen) :
    Calls Tryz.prog 86 #[k.v] w fun e w' => e = .returned (.bool (goodK k.ky)) ∧ Below w.heap.size w w' := by
  obtain ⟨t, p, r, c⟩ := k
  simp only at h1 h2 h3
  have hp : (p.size : Int) ≤ 9223372036854775807 := by unfold maxLen at h2; omega
  have N1 : Hid (∀ w : World, Calls Tryz.prog 116 #[.string t] w fun e w' => e = .returned (.bool (nameB (nb t))) ∧ w' = w) := fun w => name_any t w h1
  have N2 : Hid (∀ w : World, Calls Tryz.prog 116 #[.string c] w fun e w' => e = .returned (.bool (nameB (nb c))) ∧ w' = w) := fun w => name_any c w h3
  have hR : Hid (goodK (Kb.ky ⟨t, p, r, c⟩) = (nameB (nb t) && decide (1 ≤ p.size) && decide (p.size ≤ 64) && (decide (c.size = 0) || nameB (nb c)))) := by
    show (_ && _ && _ && _) = _
    have e1 : (nb p).length = p.size := nb_size p
    have e2 : (nb c == []) = decide (c.size = 0) := by
      by_cases h : c.size = 0
      · rw [(nb_empty c).2 h]; simp [h]
      · have := fun e => h ((nb_empty c).1 e)
        simp only [h, decide_false, beq_eq_false_iff_ne, ne_eq]; exact this
    simp only [Kb.ky, e1, e2]
  have hB : Hid (∀ o : Obj, Below w.heap.size w (w.alloc o)) := fun o => (Below.refl _ _).alloc (Nat.le_refl _) _
  have hc := ba_isEmpty c
  clear h1 h2 h3
  simp only [Kb.v]
  generalize nameB (nb t) = b1 at *
  generalize nameB (nb c) = b2 at *
  cases b1
  · go_enter Tryz.func86, Tryz.ntmps86
    go_wp2_with (go_at_call 116; go_fit (N1.out _); rintro x w1 ⟨rfl, rfl⟩)
    go_ret
    exact ⟨ret_bool (by rw [hR.out]; rfl), hB.out _⟩
  by_cases hp1 : p.size = 0
  · have d1 : decide ((p.size : Int) < 1) = true := decide_eq_true (by omega)
    have hR' : Hid (goodK (Kb.ky ⟨t, p, r, c⟩) = false) := by show _ = _; rw [hR.out, hp1]; rfl
    clear hR
    go_enter Tryz.func86, Tryz.ntmps86
    go_wp2_with (go_at_call 116; go_fit (N1.out _); rintro x w1 ⟨rfl, rfl⟩)
    go_ret
    exact ⟨ret_bool hR'.out.symm, hB.out _⟩
  have d1 : decide ((p.size : Int) < 1) = false := decide_eq_false (by omega)
  by_cases hp2 : 64 < p.size
  · have d2 : decide (64 < (p.size : Int)) = true := decide_eq_true (by omega)
    have hR' : Hid (goodK (Kb.ky ⟨t, p, r, c⟩) = false) := by
      show _ = _; rw [hR.out]
      have : decide (p.size ≤ 64) = false := decide_eq_false (by omega)
      rw [this]; simp
    clear hR
    go_enter Tryz.func86, Tryz.ntmps86
    go_wp2_with (go_at_call 116; go_fit (N1.out _); rintro x w1 ⟨rfl, rfl⟩)
    go_ret
    exact ⟨ret_bool hR'.out.symm, hB.out _⟩
  have d2 : decide (64 < (p.size : Int)) = false := decide_eq_false (by omega)
  have hR2 : Hid (goodK (Kb.ky ⟨t, p, r, c⟩) = (decide (c.size = 0) || b2)) := by
    show _ = _; rw [hR.out]
    have e1 : decide (1 ≤ p.size) = true := decide_eq_true (by omega)
    have e2 : decide (p.size ≤ 64) = true := decide_eq_true (by omega)
    rw [e1, e2]; simp
  clear hR
  by_cases hc0 : c.size = 0
  · rw [decide_eq_true hc0] at hc
    have hR' : Hid (goodK (Kb.ky ⟨t, p, r, c⟩) = true) := by show _ = _; rw [hR2.out, hc0]; rfl
    clear hR2
    go_enter Tryz.func86, Tryz.ntmps86
    go_wp2_with (go_at_call 116; go_fit (N1.out _); rintro x w1 ⟨rfl, rfl⟩)
    go_ret
    exact ⟨ret_bool hR'.out.symm, hB.out _⟩
  · rw [decide_eq_false hc0] at hc
    have hR' : Hid (goodK (Kb.ky ⟨t, p, r, c⟩) = b2) := by show _ = _; rw [hR2.out, decide_eq_false hc0]; rfl
    clear hR2
    go_enter Tryz.func86, Tryz.ntmps86
    go_wp2_with (first | (go_at_call_of 116 (Value.string t); go_fit (N1.out _); rintro x w1 ⟨rfl, rfl⟩) | (go_at_call_of 116 (Value.string c); go_fit (N2.out _); rintro x w1 ⟨rfl, rfl⟩))
    go_ret
    exact ⟨ret_bool hR'.out.symm, hB.out _⟩

end Go.Proofs.YtdookhmaiapclaaGreatDoor
namespace Go.Proofs.YtdookhmaiapclaaGreatDoor
open Go.RowKit

/-- A version: its texts as they lie in memory. -/
structure Vr where
  time : Int
  dead : Bool
  loc : Int
  kind : Int
  num : Int
  s : ByteArray
def Vr.v (a : Vr) : Value := .agg #[.int .i64 a.time, .bool a.dead, .int .i64 a.loc, .int .i64 a.kind, .int .i64 a.num, .string a.s]
/-- What of a version is looked at. -/
def b01 (b : Bool) : Int := if b then 1 else 0
def Vr.see (a : Vr) : Int × (Int × (Int × (Int × (Int × List UInt8)))) := if a.dead then (a.time, 1, a.loc, 0, 0, []) else (a.time, 0, 0, a.kind, a.num, nb a.s)
def vl : (Int × (Int × (Int × (Int × (Int × List UInt8))))) → (Int × (Int × (Int × (Int × (Int × List UInt8))))) → Int := lex ci (lex ci (lex ci (lex ci (lex ci cb))))
theorem vl_cmpr : Cmpr vl := ci_cmpr.lex (ci_cmpr.lex (ci_cmpr.lex (ci_cmpr.lex (ci_cmpr.lex cb_cmpr))))
def cv (a b : Vr) : Int := vl a.see b.see
theorem cv_self (a : Vr) : cv a a = 0 := (vl_cmpr.z _ _).2 rfl
theorem cv_n (a b : Vr) : cv a b = - cv b a := vl_cmpr.n _ _
theorem cv_r (a b : Vr) : cv a b = -1 ∨ cv a b = 0 ∨ cv a b = 1 := vl_cmpr.r _ _
theorem cv_t (a b c : Vr) (h : cv a b ≤ 0) (g : cv b c ≤ 0) : cv a c ≤ 0 := vl_cmpr.t _ _ _ h g
theorem ci_self (a : Int) : ci a a = 0 := (ci_cmpr.z a a).2 rfl
theorem ci_ne {a b : Int} (h : a ≠ b) : ci a b ≠ 0 := fun e => h ((ci_cmpr.z a b).1 e)
theorem cv_time {a b : Vr} (h : a.time ≠ b.time) : cv a b = ci a.time b.time := by
  unfold cv vl lex Vr.see
  split <;> split <;> exact th_of (ci_ne h) _
theorem cv_dead {a b : Vr} (h : a.time = b.time) (ha : a.dead = true) (hb : b.dead = true) : cv a b = ci a.loc b.loc := by
  unfold cv vl lex Vr.see
  rw [ha, hb, h]
  simp only [if_true]
  rw [ci_self, th_zero, ci_self, th_zero]
  show th _ (th (ci 0 0) (th (ci 0 0) (cb [] []))) = _
  rw [ci_self, th_zero, th_zero, cb_nil_nil]
  unfold th; split <;> omega
theorem cv_left {a b : Vr} (h : a.time = b.time) (ha : a.dead = true) (hb : b.dead = false) : cv a b = 1 := by
  unfold cv vl lex Vr.see
  rw [ha, hb, h]
  simp only [if_true, Bool.false_eq_true, if_false]
  rw [ci_self, th_zero]
  exact th_of (by decide) _
theorem cv_right {a b : Vr} (h : a.time = b.time) (ha : a.dead = false) (hb : b.dead = true) : cv a b = -1 := by
  have := cv_left h.symm hb ha
  have := cv_n a b
  omega
theorem cv_live {a b : Vr} (h : a.time = b.time) (ha : a.dead = false) (hb : b.dead = false) : cv a b = fu [ci a.kind b.kind, ci a.num b.num, cb (nb a.s) (nb b.s)] := by
  unfold cv vl lex Vr.see
  rw [ha, hb, h]
  simp only [Bool.false_eq_true, if_false]
  rw [ci_self, th_zero, ci_self, th_zero, th_zero]
  show th _ (th _ _) = th _ (th _ (th _ 0))
  have : ∀ x, th x 0 = x := fun x => by unfold th; split <;> omega
  rw [this]
/-- Two versions are one, as the walk spells it. -/
def eqV (a b : Vr) : Bool := a.time == b.time && (a.dead == b.dead && (a.loc == b.loc && (a.kind == b.kind && (a.num == b.num && a.s.toList == b.s.toList))))
theorem eqV_iff (a b : Vr) : eqV a b = true ↔ a = b := by
  unfold eqV
  rw [ba_same]
  cases a; cases b
  simp only [Bool.and_eq_true, decide_eq_true_eq, beq_iff_eq, Vr.mk.injEq]
theorem eqV_self (a : Vr) : eqV a a = true := (eqV_iff a a).2 rfl
/-- The greater one. -/
def jn (a b : Vr) : Vr := if cv a b < 0 then b else a
theorem jn_or (a b : Vr) : jn a b = a ∨ jn a b = b := by unfold jn; split <;> simp
theorem jn_ge (a b : Vr) : 0 ≤ cv (jn a b) a ∧ 0 ≤ cv (jn a b) b := by
  have h1 := cv_self a; have h2 := cv_self b; have h3 := cv_n a b
  unfold jn; split <;> constructor <;> omega
theorem jn_self (a : Vr) : jn a a = a := by unfold jn; split <;> rfl

/-! ### Good cells -/
def zeroVal (a : Vr) : Bool := a.kind == 0 && (a.num == 0 && decide (a.s.size = 0))
def goodV (mark : Bool) (a : Vr) : Bool :=
  if a.dead then zeroVal a
  else a.loc == 0 && (if mark then zeroVal a else (a.kind == 1 && decide (a.s.size = 0)) || (a.kind == 2 && (a.num == 0 && decide (a.s.size ≤ 64))))
theorem size0 {s : ByteArray} (h : s.size = 0) : s = ⟨#[]⟩ := by
  have := (nb_empty s).2 h
  have h2 : nb (⟨#[]⟩ : ByteArray) = [] := rfl
  rw [← h2] at this; exact nb_inj.1 this
/-- Of good versions only those that are the same are alike. -/
theorem good_inj {m : Bool} {a b : Vr} (ha : goodV m a = true) (hb : goodV m b = true) (h : cv a b = 0) : a = b := by
  have h := (vl_cmpr.z _ _).1 h
  obtain ⟨ta, da, la, ka, na, sa⟩ := a
  obtain ⟨tb, db, lb, kb, nb', sb⟩ := b
  cases da <;> cases db <;> simp [Vr.see, goodV, zeroVal] at h ha hb ⊢
  · obtain ⟨rfl, rfl, rfl, hs⟩ := h
    exact ⟨rfl, by omega, rfl, rfl, nb_inj.1 hs⟩
  · obtain ⟨rfl, rfl⟩ := h
    exact ⟨rfl, rfl, by omega, by omega, ha.2.2.trans hb.2.2.symm⟩
theorem cv_lt_trans {a b c : Vr} (h : cv a b < 0) (g : cv b c < 0) : cv a c < 0 := vl_cmpr.strict h g
theorem jn_comm {m : Bool} {a b : Vr} (ha : goodV m a = true) (hb : goodV m b = true) : jn a b = jn b a := by
  have h3 := cv_n a b
  unfold jn
  split <;> split
  · omega
  · rfl
  · rfl
  · exact good_inj ha hb (by omega)
theorem jn_good {m : Bool} {a b : Vr} (ha : goodV m a = true) (hb : goodV m b = true) : goodV m (jn a b) = true := by
  rcases jn_or a b with h | h <;> rw [h] <;> assumption
theorem cv_le_lt {a b c : Vr} (h : cv a b ≤ 0) (g : cv b c < 0) : cv a c < 0 := by
  have h1 := cv_t a b c h (by omega)
  by_cases e : cv a c = 0
  · have h2 := cv_n a c
    have h3 := cv_t c a b (by omega) h
    have h4 := cv_n b c
    omega
  · omega
theorem cv_lt_le {a b c : Vr} (h : cv a b < 0) (g : cv b c ≤ 0) : cv a c < 0 := by
  have h1 := cv_t a b c (by omega) g
  by_cases e : cv a c = 0
  · have h2 := cv_n a c
    have h3 := cv_t b c a g (by omega)
    have h4 := cv_n a b
    omega
  · omega
theorem jn_assoc (a b c : Vr) : jn (jn a b) c = jn a (jn b c) := by
  have n1 := cv_n a b
  have n2 := cv_n b c
  have n3 := cv_n a c
  by_cases h1 : cv a b < 0
  · have e1 : jn a b = b := by unfold jn; rw [if_pos h1]
    rw [e1]
    by_cases h2 : cv b c < 0
    · have e2 : jn b c = c := by unfold jn; rw [if_pos h2]
      have h3 := cv_lt_trans h1 h2
      rw [e2]; unfold jn; rw [if_pos h3]
    · have e2 : jn b c = b := by unfold jn; rw [if_neg h2]
      rw [e2, e1]
  · have e1 : jn a b = a := by unfold jn; rw [if_neg h1]
    rw [e1]
    by_cases h2 : cv b c < 0
    · have e2 : jn b c = c := by unfold jn; rw [if_pos h2]
      rw [e2]
    · have e2 : jn b c = b := by unfold jn; rw [if_neg h2]
      have h3 : ¬ cv a c < 0 := fun h => by
        have := cv_lt_le (a := a) (b := c) (c := b) h (by omega)
        omega
      rw [e2, e1]; unfold jn; rw [if_neg h3]
/-- How two versions compare, how they are joined, of their parts. -/
def Vr.Ok (a : Vr) : Prop := InI a.time ∧ InI a.loc ∧ InI a.kind ∧ InI a.num ∧ a.s.size ≤ maxLen
end Go.Proofs.YtdookhmaiapclaaGreatDoor
namespace Go.Proofs.YtdookhmaiapclaaGreatDoor
open Go.RowKit

/-- A world in which all blocks below n are as they were in w. -/
structure Cl (n : Nat) (w : World) where
  u : World
  h : Below n w u
theorem Cl.inh (n : Nat) (w : World) : Nonempty (Cl n w) := ⟨⟨w, Below.refl n w⟩⟩
theorem wp_region_cl {P : Program} {id : Nat} {Q : Exit → Act → World → Prop} {a : Act} {w : World} {l : List Oper} (n : Nat) (hm : P.follows .mixedOrders = true) (hB : Region.lexB .any l.toArray = true)
    (h : wpQuiet P l.toArray (fun w' => ∃ p : Cl n w, w' = p.u) (fun a' => ∀ w', (∃ p : Cl n w, w' = p.u) → Q .normal a' w') l a) : (Code.region id l.toArray true).wp P Q a w :=
  wp_region_quiet (C := fun w' => ∃ p : Cl n w, w' = p.u) hm hB ⟨⟨w.drew, (Below.refl n w).drew⟩, rfl⟩ (by simpa using h)
theorem Cl.calls {P : Program} {f : FuncId} {args : Array Value} {n : Nat} {w : World} {p : Cl n w} {v : Value} (hn : n ≤ w.heap.size)
    (h : Calls P f args p.u fun e w' => e = .returned v ∧ Below p.u.heap.size p.u w') : Calls P f args p.u fun e w'' => e = .returned v ∧ ∃ q : Cl n w, w'' = q.u :=
  h.mono fun _ w' ⟨he, hb⟩ => ⟨he, ⟨w', p.h.trans (hb.mono (Nat.le_trans hn p.h.size))⟩, rfl⟩
theorem Cl.cell {n : Nat} {w : World} (p : Cl n w) {a : Addr} {v : Value} (hb : a.block < n) (h : w.cell? a = some v) : p.u.cell? a = some v := by rw [p.h.cell hb, h]
end Go.Proofs.YtdookhmaiapclaaGreatDoor
namespace Go.Proofs.YtdookhmaiapclaaGreatDoor
open Go.RowKit

/-- A version whose cells lie in memory. -/
structure VAt (w : World) (g o : Nat) (a : Vr) : Prop where
  time : w.cell? ⟨g, o, none⟩ = some (.int .i64 a.time)
  dead : w.cell? ⟨g, o + 1, none⟩ = some (.bool a.dead)
  loc : w.cell? ⟨g, o + 2, none⟩ = some (.int .i64 a.loc)
  kind : w.cell? ⟨g, o + 3, none⟩ = some (.int .i64 a.kind)
  num : w.cell? ⟨g, o + 4, none⟩ = some (.int .i64 a.num)
  s : w.cell? ⟨g, o + 5, none⟩ = some (.string a.s)
def Vr.a (a : Vr) : Array Value := #[.int .i64 a.time, .bool a.dead, .int .i64 a.loc, .int .i64 a.kind, .int .i64 a.num, .string a.s]
theorem VAt.below {w w' : World} {g o : Nat} {k : Vr} (h : VAt w g o k) {B : Nat} (hb : Below B w w') (hg : g < B) : VAt w' g o k :=
  ⟨by rw [hb.cell hg, h.time], by rw [hb.cell hg, h.dead], by rw [hb.cell hg, h.loc], by rw [hb.cell hg, h.kind], by rw [hb.cell hg, h.num], by rw [hb.cell hg, h.s]⟩
theorem VAt.of {w : World} {g : Nat} {k : Vr} {ty : TypeId} {z : Nat × Nat} (h : w.heap[g]? = some (.cells k.a ty z)) : VAt w g 0 k :=
  ⟨by simp [World.cell?, h, Vr.a], by simp [World.cell?, h, Vr.a], by simp [World.cell?, h, Vr.a], by simp [World.cell?, h, Vr.a], by simp [World.cell?, h, Vr.a], by simp [World.cell?, h, Vr.a]⟩
theorem VAt.lt {w : World} {g o : Nat} {k : Vr} (h : VAt w g o k) : g < w.heap.size := World.block_lt_of_cell? _ _ h.time
theorem VAt.new (w : World) (k : Vr) (ty : TypeId) : VAt (w.alloc (.cells k.a ty)) w.heap.size 0 k := VAt.of (heap_alloc_new w _)
theorem VAt.alloc {w : World} {g o : Nat} {k : Vr} (h : VAt w g o k) (ob : Obj) : VAt (w.alloc ob) g o k := h.below ((Below.refl w.heap.size w).alloc (Nat.le_refl _) ob) h.lt
/-- Two boxes. -/
theorem boxes2 (w : World) (a b : Vr) : VAt ((w.alloc (.cells a.a 48)).alloc (.cells b.a 48)) w.heap.size 0 a ∧ VAt ((w.alloc (.cells a.a 48)).alloc (.cells b.a 48)) (w.heap.size + 1) 0 b ∧ Below w.heap.size w ((w.alloc (.cells a.a 48)).alloc (.cells b.a 48)) := by
  refine ⟨(VAt.new w a _).alloc _, ?_, ((Below.refl _ _).alloc (Nat.le_refl _) _).alloc (by simp) _⟩
  have := VAt.new (w.alloc (.cells a.a 48)) b 48
  rwa [World.size_alloc] at this
theorem verEq_run (a b : Vr) (w : World) : (binOp BinOp.eql 48 (.agg a.a) (.agg b.a)).run Tryz.prog w = .ok (.bool (eqV a b)) w := by
  unfold Vr.a eqV
  obtain ⟨t1, d1, l1, k1, n1, s1⟩ := a
  obtain ⟨t2, d2, l2, k2, n2, s2⟩ := b
  go_simp
  by_cases e1 : t1 = t2 <;> by_cases e2 : d1 = d2 <;> by_cases e3 : l1 = l2 <;> by_cases e4 : k1 = k2 <;> by_cases e5 : n1 = n2 <;> by_cases e6 : s1.toList = s2.toList <;> simp [e1, e2, e3, e4, e5, e6]
theorem ne_parts {t1 t2 l1 l2 k1 k2 n1 n2 : Int} {d1 d2 : Bool} {s1 s2 : ByteArray} (h : ¬ (⟨t1, d1, l1, k1, n1, s1⟩ : Vr) = ⟨t2, d2, l2, k2, n2, s2⟩) (ht : t1 = t2) (hd : d1 = d2) :
    l1 ≠ l2 ∨ (l1 = l2 ∧ k1 ≠ k2) ∨ (l1 = l2 ∧ k1 = k2 ∧ n1 ≠ n2) ∨ (l1 = l2 ∧ k1 = k2 ∧ n1 = n2 ∧ s1.toList ≠ s2.toList) := by
  by_cases e3 : l1 = l2
  · by_cases e4 : k1 = k2
    · by_cases e5 : n1 = n2
      · refine Or.inr (Or.inr (Or.inr ⟨e3, e4, e5, fun e6 => h ?_⟩))
        rw [ba_list, ba_list] at e6
        rw [ht, hd, e3, e4, e5, nb_inj.1 e6]
      · exact Or.inr (Or.inr (Or.inl ⟨e3, e4, e5⟩))
    · exact Or.inr (Or.inl ⟨e3, e4⟩)
  · exact Or.inl e3
end Go.Proofs.YtdookhmaiapclaaGreatDoor
namespace Go.Proofs.YtdookhmaiapclaaGreatDoor
open Go.RowKit

theorem frozen_at {w : World} {g : Nat} {cs : Array Value} {ty : TypeId} (h : w.heap[g]? = some (.cells cs ty)) (i : Nat) : w.frozen? ⟨g, i, none⟩ = false := by simp [World.frozen?, h]
def zeroV : Vr := ⟨0, false, 0, 0, 0, ⟨#[]⟩⟩
theorem set6 {w : World} {g : Nat} {a : Vr} {ty : TypeId} (h : w.heap[g]? = some (.cells a.a ty)) (v0 v1 v2 v3 v4 v5 : Value) :
    ((((((w.setCell ⟨g, 0, none⟩ v0).setCell ⟨g, 1, none⟩ v1).setCell ⟨g, 2, none⟩ v2).setCell ⟨g, 3, none⟩ v3).setCell ⟨g, 4, none⟩ v4).setCell ⟨g, 5, none⟩ v5).heap[g]? = some (.cells #[v0, v1, v2, v3, v4, v5] ty) := by
  simp only [World.setCell, Array.getElem?_modify, h, Vr.a]
  simp
theorem boxes3 (w : World) (a b c : Vr) : ∃ wa, wa = ((w.alloc (.cells a.a 48)).alloc (.cells b.a 48)).alloc (.cells c.a 48) ∧ VAt wa w.heap.size 0 a ∧ VAt wa (w.heap.size + 1) 0 b ∧ VAt wa (w.heap.size + 1 + 1) 0 c ∧ wa.heap[w.heap.size + 1 + 1]? = some (.cells c.a 48) ∧ Below w.heap.size w wa := by
  refine ⟨_, rfl, ((VAt.new w a _).alloc _).alloc _, ?_, ?_, ?_, (((Below.refl _ _).alloc (Nat.le_refl _) _).alloc (by simp) _).alloc (by rw [World.size_alloc, World.size_alloc]; omega) _⟩
  · have := VAt.new (w.alloc (.cells a.a 48)) b 48
    rw [World.size_alloc] at this; exact this.alloc _
  · have := VAt.new ((w.alloc (.cells a.a 48)).alloc (.cells b.a 48)) c 48
    rw [World.size_alloc, World.size_alloc] at this; exact this
  · have := heap_alloc_new ((w.alloc (.cells a.a 48)).alloc (.cells b.a 48)) (.cells c.a 48)
    rw [World.size_alloc, World.size_alloc] at this; exact this
theorem below6 {B : Nat} {w w1 : World} (h : Below B w w1) {g : Nat} (hg : B ≤ g) (v0 v1 v2 v3 v4 v5 : Value) : Below B w ((((((w1.setCell ⟨g, 0, none⟩ v0).setCell ⟨g, 1, none⟩ v1).setCell ⟨g, 2, none⟩ v2).setCell ⟨g, 3, none⟩ v3).setCell ⟨g, 4, none⟩ v4).setCell ⟨g, 5, none⟩ v5) :=
  (((((h.setCell (p := ⟨g, 0, none⟩) hg _).setCell (p := ⟨g, 1, none⟩) hg _).setCell (p := ⟨g, 2, none⟩) hg _).setCell (p := ⟨g, 3, none⟩) hg _).setCell (p := ⟨g, 4, none⟩) hg _).setCell (p := ⟨g, 5, none⟩) hg _

/-- Which values may be, of a version that lives. -/
def goodU (mark : Bool) (k n : Int) (s : ByteArray) : Bool := if mark then k == 0 && (n == 0 && decide (s.size = 0)) else (k == 1 && decide (s.size = 0)) || (k == 2 && (n == 0 && decide (s.size ≤ 64)))
theorem goodU_any (m : Bool) (k n : Int) (s : ByteArray) (w : World) (hs : s.size ≤ maxLen) :
    Calls Tryz.prog 87 #[.agg #[.int .i64 k, .int .i64 n, .string s], .bool m] w fun x w' => x = .returned (.bool (goodU m k n s)) ∧ Below w.heap.size w w' := by
  have hs' : (s.size : Int) ≤ 9223372036854775807 := by unfold maxLen at hs; omega
  have hE : Hid (∀ o : Obj, Below w.heap.size w (w.alloc o)) := fun o => (Below.refl _ _).alloc (Nat.le_refl _) _
  have he := ba_isEmpty s
  clear hs
  obtain ⟨R, hR⟩ : ∃ R, R = goodU m k n s := ⟨_, rfl⟩
  rw [← hR]
  have HR : Hid (R = goodU m k n s) := hR
  clear hR
  cases m
  · by_cases h1 : k = 1
    · subst h1
      go_enter Tryz.func87, Tryz.ntmps87
      go_wp2_with fail
      go_ret
      exact ⟨ret_bool (by rw [HR.out]; simp [goodU]), hE.out _⟩
    · by_cases h2 : k = 2
      · subst h2
        by_cases h3 : n = 0
        · subst h3
          go_enter Tryz.func87, Tryz.ntmps87
          go_wp2_with fail
          go_ret
          exact ⟨ret_bool (by rw [HR.out]; simp [goodU]; omega), hE.out _⟩
        · go_enter Tryz.func87, Tryz.ntmps87
          go_wp2_with fail
          go_ret
          exact ⟨ret_bool (by rw [HR.out]; simp [goodU, h3]), hE.out _⟩
      · go_enter Tryz.func87, Tryz.ntmps87
        go_wp2_with fail
        go_ret
        exact ⟨ret_bool (by rw [HR.out]; simp [goodU, h1, h2]), hE.out _⟩
  · by_cases h1 : k = 0 <;> by_cases h2 : n = 0 <;> by_cases h3 : s.size = 0 <;> (simp only [h3, decide_true, decide_false] at he; go_enter Tryz.func87, Tryz.ntmps87; go_wp2_with fail; go_ret; exact ⟨ret_bool (by rw [HR.out]; simp [goodU, h1, h2, h3]), hE.out _⟩)
end Go.Proofs.YtdookhmaiapclaaGreatDoor
namespace Go.Proofs.YtdookhmaiapclaaGreatDoor
open Go.RowKit

/-- A cell. -/
structure Cx where
  k : Kb
  v : Vr
def Cx.a (c : Cx) : Array Value := #[.string c.k.t, .string c.k.p, .int .i64 c.k.r, .string c.k.c, .int .i64 c.v.time, .bool c.v.dead, .int .i64 c.v.loc, .int .i64 c.v.kind, .int .i64 c.v.num, .string c.v.s]
def Cx.val (c : Cx) : Value := .agg c.a
def goodC (c : Cx) : Bool := goodK c.k.ky && goodV (decide (c.k.c.size = 0)) c.v
theorem goodV_dead {m : Bool} {a : Vr} (h : a.dead = true) : goodV m a = (a.kind == 0 && (a.num == 0 && decide (a.s.size = 0))) := by unfold goodV zeroVal; rw [if_pos h]
theorem goodV_live {m : Bool} {a : Vr} (h : a.dead = false) : goodV m a = (a.loc == 0 && goodU m a.kind a.num a.s) := by unfold goodV zeroVal goodU; rw [if_neg (by rw [h]; simp)]
theorem size_none (s : ByteArray) (h : s.size = 0) : s = ⟨#[]⟩ := size0 h

theorem goodX_world (w : World) (c : Cx) : ∃ wa, wa = (w.alloc (.cells c.a 59)).alloc (.cells c.v.a 48) ∧ VAt wa (w.heap.size + 1) 0 c.v ∧ wa.cell? ⟨w.heap.size, 3, none⟩ = some (.string c.k.c) ∧ w.heap.size < wa.heap.size ∧ Below w.heap.size w wa := by
  refine ⟨_, rfl, ?_, ?_, by rw [World.size_alloc, World.size_alloc]; omega, ((Below.refl _ _).alloc (Nat.le_refl _) _).alloc (by simp) _⟩
  · have := VAt.new (w.alloc (.cells c.a 59)) c.v 48
    rwa [World.size_alloc] at this
  · exact (box_cells w _ _ _ 3 _ rfl).1
set_option maxRecDepth 100000 in
set_option maxHeartbeats 1000000 in
theorem goodX_any (c : Cx) (w : World) (h1 : c.k.t.size ≤ maxLen) (h2 : c.k.p.size ≤ maxLen) (h3 : c.k.c.size ≤ maxLen) (h4 : c.v.s.size ≤ maxLen) :
    Calls Tryz.prog 54 #[c.val] w fun x w' => x = .returned (.bool (goodC c)) ∧ Below w.heap.size w w' := by
  have G : Hid (∀ w : World, Calls Tryz.prog 86 #[c.k.v] w fun e w' => e = .returned (.bool (goodK c.k.ky)) ∧ Below w.heap.size w w') := fun w => good_any c.k w h1 h2 h3
  have U : Hid (∀ (m : Bool) (w : World), Calls Tryz.prog 87 #[.agg #[.int .i64 c.v.kind, .int .i64 c.v.num, .string c.v.s], .bool m] w fun x w' => x = .returned (.bool (goodU m c.v.kind c.v.num c.v.s)) ∧ Below w.heap.size w w') := fun m w => goodU_any m _ _ _ w h4
  obtain ⟨wa, hwa, va, kc', hlt, hB⟩ := goodX_world w c
  have lv := va.lt
  have HF : Hid (∀ w1, Below wa.heap.size wa w1 → VAt w1 (w.heap.size + 1) 0 c.v ∧ w1.cell? ⟨w.heap.size, 3, none⟩ = some (.string c.k.c) ∧ Below w.heap.size w w1) := fun w1 h => ⟨va.below h lv, by rw [h.cell hlt]; exact kc', hB.trans (h.mono hB.size)⟩
  have e1 := ba_isEmpty c.k.c
  have e2 := ba_isEmpty c.v.s
  have hg : Hid (goodC c = (goodK c.k.ky && goodV (decide (c.k.c.size = 0)) c.v)) := rfl
  have hd : Hid (c.v.dead = true → goodV (decide (c.k.c.size = 0)) c.v = (c.v.kind == 0 && (c.v.num == 0 && decide (c.v.s.size = 0)))) := goodV_dead
  have hl : Hid (c.v.dead = false → goodV (decide (c.k.c.size = 0)) c.v = (c.v.loc == 0 && goodU (decide (c.k.c.size = 0)) c.v.kind c.v.num c.v.s)) := goodV_live
  generalize goodC c = R at *
  generalize goodV (decide (c.k.c.size = 0)) c.v = V at *
  generalize goodK c.k.ky = K at *
  clear va kc' hlt lv hB h1 h2 h3 h4
  obtain ⟨⟨kt, kp, kr, kcol⟩, ⟨t1, d1, l1, k1, n1, s1⟩⟩ := c
  simp only [Cx.val, Cx.a, Vr.a, Kb.v] at *
  go_enter Tryz.func54, Tryz.ntmps54
  go_wp2_with fail
  rw [← hwa]
  clear hwa
  refine (G.out _).mono ?_
  rintro x w1 ⟨rfl, hb1⟩
  obtain ⟨⟨x1, x2, x3, x4, x5, x6⟩, y, hB⟩ := HF.out w1 hb1
  have HB : Hid (Below w.heap.size w w1) := hB
  simp only [Nat.zero_add] at x1 x2 x3 x4 x5 x6
  clear hB hb1 HF
  cases K
  · have hR : Hid (R = false) := hg.out
    clear hg
    go_wp2_with fail
    go_ret
    exact ⟨ret_bool hR.out.symm, HB.out⟩
  · cases d1
    · have hR : Hid (R = (l1 == 0 && goodU (decide (kcol.size = 0)) k1 n1 s1)) := hg.out.trans (hl.out rfl)
      clear hg hd hl
      by_cases hz : l1 = 0
      · subst hz
        obtain ⟨U1, hU1⟩ : ∃ U1, U1 = goodU (decide (kcol.size = 0)) k1 n1 s1 := ⟨_, rfl⟩
        have U' : Hid (Calls Tryz.prog 87 #[.agg #[.int .i64 k1, .int .i64 n1, .string s1], .bool kcol.toList.isEmpty] w1 fun x w' => x = .returned (.bool U1) ∧ Below w1.heap.size w1 w') := by rw [hU1, e1]; exact U.out _ w1
        have hR' : Hid (R = U1) := by rw [hU1]; exact hR.out
        clear U hR hU1 e1
        go_wp2_with fail
        refine U'.out.mono ?_
        rintro x w2 ⟨rfl, hb2⟩
        go_wp2_with fail
        go_ret
        exact ⟨ret_bool hR'.out.symm, HB.out.trans (hb2.mono HB.out.size)⟩
      · have hR' : Hid (R = false) := hR.out.trans (by rw [beq_false_of_ne hz]; rfl)
        clear hR
        go_wp2_with fail
        go_ret
        exact ⟨ret_bool hR'.out.symm, HB.out⟩
    · have hR : Hid (R = (k1 == 0 && (n1 == 0 && decide (s1.size = 0)))) := hg.out.trans (hd.out rfl)
      clear hg hd hl U
      by_cases h1 : k1 = 0 <;> by_cases h2 : n1 = 0 <;> by_cases h3 : s1.size = 0 <;> (simp only [h3, decide_true, decide_false] at e2; go_wp2_with fail; go_ret; exact ⟨ret_bool (by rw [hR.out]; simp [h1, h2, h3]), HB.out⟩)

theorem chain_next (t1 t2 l1 l2 k1 k2 n1 n2 : Int) (d1 d2 : Bool) (s1 s2 : ByteArray) (w : World) : (if t1 = t2 then if d1 = d2 then if l1 = l2 then if k1 = k2 then if n1 = n2 then if s1.toList = s2.toList then Result.ok (Next.value (Value.bool true)) w else Result.ok (Next.value (Value.bool false)) w else Result.ok (Next.value (Value.bool false)) w else Result.ok (Next.value (Value.bool false)) w else Result.ok (Next.value (Value.bool false)) w else Result.ok (Next.value (Value.bool false)) w else Result.ok (Next.value (Value.bool false)) w) = Result.ok (Next.value (Value.bool (eqV ⟨t1, d1, l1, k1, n1, s1⟩ ⟨t2, d2, l2, k2, n2, s2⟩))) w := by
  unfold eqV
  by_cases e1 : t1 = t2 <;> by_cases e2 : d1 = d2 <;> by_cases e3 : l1 = l2 <;> by_cases e4 : k1 = k2 <;> by_cases e5 : n1 = n2 <;> by_cases e6 : s1.toList = s2.toList <;> simp [e1, e2, e3, e4, e5, e6]
def vA : Vr := ⟨5, false, 0, 2, 0, ⟨#[97]⟩⟩
def vB : Vr := ⟨5, false, 0, 2, 0, ⟨#[98]⟩⟩
def vD : Vr := ⟨5, true, 3, 0, 0, ⟨#[]⟩⟩
def vL : Vr := ⟨6, false, 0, 2, 0, ⟨#[97]⟩⟩
theorem jAD : jn vA vD = vD := by unfold jn; rw [if_pos (by decide)]
theorem jDL : jn vD vL = vL := by unfold jn; rw [if_pos (by decide)]
theorem jBA : jn vB vA = vB := by unfold jn; rw [if_neg (by decide)]
def cA : Cx := ⟨⟨⟨#[116]⟩, ⟨#[120]⟩, 1, ⟨#[97]⟩⟩, vA⟩
theorem gA : goodC cA = true := by decide
theorem boxes4 (w : World) (a b c d : Vr) : ∃ wa, wa = (((w.alloc (.cells a.a 48)).alloc (.cells b.a 48)).alloc (.cells c.a 48)).alloc (.cells d.a 48) ∧ VAt wa w.heap.size 0 a ∧ VAt wa (w.heap.size + 1) 0 b ∧ VAt wa (w.heap.size + 1 + 1) 0 c ∧ VAt wa (w.heap.size + 1 + 1 + 1) 0 d ∧ Below w.heap.size w wa := by
  obtain ⟨w3, rfl, v1, v2, v3, _, hB⟩ := boxes3 w a b c
  refine ⟨_, rfl, v1.alloc _, v2.alloc _, v3.alloc _, ?_, hB.alloc hB.size _⟩
  have := VAt.new (((w.alloc (.cells a.a 48)).alloc (.cells b.a 48)).alloc (.cells c.a 48)) d 48
  rwa [World.size_alloc, World.size_alloc, World.size_alloc] at this
theorem VAt.cl {w : World} {g : Nat} {a : Vr} (h : VAt w g 0 a) (q : Cl w.heap.size w) : VAt q.u g 0 a := h.below q.h h.lt
end Go.Proofs.YtdookhmaiapclaaGreatDoor
namespace Go.Proofs.YtdookhmaiapclaaGreatDoor
open Go.RowKit

/-- Ten cells, one by one. -/
structure TenX (w : World) (b o : Nat) (c : Cx) : Prop where
  c0 : w.cell? ⟨b, o, none⟩ = some (.string c.k.t)
  c1 : w.cell? ⟨b, o + 1, none⟩ = some (.string c.k.p)
  c2 : w.cell? ⟨b, o + 2, none⟩ = some (.int .i64 c.k.r)
  c3 : w.cell? ⟨b, o + 3, none⟩ = some (.string c.k.c)
  c4 : w.cell? ⟨b, o + 4, none⟩ = some (.int .i64 c.v.time)
  c5 : w.cell? ⟨b, o + 5, none⟩ = some (.bool c.v.dead)
  c6 : w.cell? ⟨b, o + 6, none⟩ = some (.int .i64 c.v.loc)
  c7 : w.cell? ⟨b, o + 7, none⟩ = some (.int .i64 c.v.kind)
  c8 : w.cell? ⟨b, o + 8, none⟩ = some (.int .i64 c.v.num)
  c9 : w.cell? ⟨b, o + 9, none⟩ = some (.string c.v.s)
theorem TenX.lt {w : World} {b o : Nat} {c : Cx} (h : TenX w b o c) : b < w.heap.size := World.block_lt_of_cell? _ _ h.c0
theorem TenX.below {w w' : World} {b o : Nat} {c : Cx} (h : TenX w b o c) {B : Nat} (hb : Below B w w') (hB : b < B) : TenX w' b o c :=
  ⟨by rw [hb.cell hB, h.c0], by rw [hb.cell hB, h.c1], by rw [hb.cell hB, h.c2], by rw [hb.cell hB, h.c3], by rw [hb.cell hB, h.c4], by rw [hb.cell hB, h.c5], by rw [hb.cell hB, h.c6], by rw [hb.cell hB, h.c7], by rw [hb.cell hB, h.c8], by rw [hb.cell hB, h.c9]⟩
theorem TenX.alloc {w : World} {b o : Nat} {c : Cx} (h : TenX w b o c) (ob : Obj) : TenX (w.alloc ob) b o c := h.below ((Below.refl w.heap.size w).alloc (Nat.le_refl _) ob) h.lt
theorem TenX.of {w : World} {g : Nat} {c : Cx} {ty : TypeId} {z : Nat × Nat} (h : w.heap[g]? = some (.cells c.a ty z)) : TenX w g 0 c := by
  constructor <;> simp [World.cell?, h, Cx.a]
theorem TenX.new (w : World) (c : Cx) (ty : TypeId) : TenX (w.alloc (.cells c.a ty)) w.heap.size 0 c := TenX.of (heap_alloc_new w _)
/-- The cells l can be read from the address on. -/
def XSees (w : World) (ao : Option Addr) (l : List Cx) : Prop := ∀ i c, l[i]? = some c → ∃ b off, ao = some ⟨b, off, none⟩ ∧ TenX w b (off + i * 10) c
theorem XSees.below {w w' : World} {ao : Option Addr} {l : List Cx} (h : XSees w ao l) {B : Nat} (hb : Below B w w') (hB : w.heap.size ≤ B) : XSees w' ao l := by
  intro i c hc
  obtain ⟨b, off, e, hr⟩ := h i c hc
  exact ⟨b, off, e, hr.below hb (Nat.lt_of_lt_of_le hr.lt hB)⟩
/-- The bytes of a cell's texts. -/
def wtX (c : Cx) : Nat := c.k.t.size + c.k.p.size + c.k.c.size + c.v.s.size
def wtXs (l : List Cx) : Nat := (l.map wtX).sum
theorem takeX_succ {α : Type} {l : List α} {i : Nat} {c : α} (h : l[i]? = some c) : l.take (i + 1) = l.take i ++ [c] := by
  rw [List.take_add_one, h]
  rfl
end Go.Proofs.YtdookhmaiapclaaGreatDoor
namespace Go.Proofs.YtdookhmaiapclaaGreatDoor
open Go.RowKit

def toC (c : Cx) : CellV := ⟨⟨c.k.t, c.k.p, c.k.r, c.k.c⟩, ⟨c.v.time, c.v.dead, c.v.loc, ⟨c.v.kind, c.v.num, c.v.s⟩⟩⟩
theorem XSees.c {w : World} {ao : Option Addr} {l : List Cx} (h : XSees w ao l) : CSees w ao (l.map toC) := by
  intro i c hc
  rw [List.getElem?_map] at hc
  cases hl : l[i]? with
  | none => rw [hl] at hc; cases hc
  | some x =>
    rw [hl] at hc
    obtain rfl : toC x = c := by simpa using hc
    obtain ⟨b, off, e, t⟩ := h i x hl
    refine ⟨b, off, e, fun j v hv => ?_⟩
    match j, hv with
    | 0, hv => obtain rfl := Option.some.inj hv; exact t.c0
    | 1, hv => obtain rfl := Option.some.inj hv; exact t.c1
    | 2, hv => obtain rfl := Option.some.inj hv; exact t.c2
    | 3, hv => obtain rfl := Option.some.inj hv; exact t.c3
    | 4, hv => obtain rfl := Option.some.inj hv; exact t.c4
    | 5, hv => obtain rfl := Option.some.inj hv; exact t.c5
    | 6, hv => obtain rfl := Option.some.inj hv; exact t.c6
    | 7, hv => obtain rfl := Option.some.inj hv; exact t.c7
    | 8, hv => obtain rfl := Option.some.inj hv; exact t.c8
    | 9, hv => obtain rfl := Option.some.inj hv; exact t.c9
    | j + 10, hv => exact absurd hv (by simp [cellA])
/-- What numbers a cell has. -/
structure Cx.Nums (c : Cx) : Prop where
  r : InI c.k.r
  n : InI c.v.time ∧ InI c.v.loc ∧ InI c.v.kind ∧ InI c.v.num
theorem Cx.Nums.ok {c : Cx} (h : c.Nums) : (toC c).Ok := ⟨⟨h.r⟩, ⟨h.n.1, h.n.2.1, ⟨h.n.2.2.1, h.n.2.2.2⟩⟩⟩
/-- The bytes of texts that are written. -/
def wtY (c : Cx) : Nat := c.k.t.size + c.k.p.size + c.k.c.size + (if c.v.dead then 0 else c.v.s.size)
def wtYs (l : List Cx) : Nat := (l.map wtY).sum
theorem wtL_toC (l : List Cx) : wtLD (l.map toC) = wtYs l := by
  unfold wtLD wtYs
  rw [List.map_map]; rfl
theorem wtYs_le (l : List Cx) : wtYs l ≤ wtXs l := by
  induction l with
  | nil => simp [wtYs, wtXs]
  | cons c l ih =>
    have h : wtY c ≤ wtX c := by unfold wtY wtX; split <;> omega
    unfold wtYs wtXs at *
    simp only [List.map_cons, List.sum_cons]
    omega
/-- The digest. -/
def dgB (l : List UInt8) : Int := ((sumB l 0#64).1.toNat : Int)
/-- What the digest does not look at. -/
def blur (k n : Int) (s : ByteArray) (loc : Int) (c : Cx) : Cx := if c.v.dead then ⟨c.k, ⟨c.v.time, c.v.dead, c.v.loc, k, n, s⟩⟩ else ⟨c.k, ⟨c.v.time, c.v.dead, loc, c.v.kind, c.v.num, c.v.s⟩⟩
theorem blur_bytes (k n : Int) (s : ByteArray) (loc : Int) (c : Cx) : cellL (toC (blur k n s loc c)) = cellL (toC c) := by
  unfold blur
  split
  · rename_i h
    unfold cellL verL toC keyL
    simp only [h, if_true]
  · rename_i h
    unfold cellL verL toC keyL
    simp only [h]
    rfl
theorem blur_wt (k n : Int) (s : ByteArray) (loc : Int) (c : Cx) : wtY (blur k n s loc c) = wtY c := by
  unfold blur wtY
  cases c.v.dead <;> simp
theorem blur_wts (k n : Int) (s : ByteArray) (loc : Int) (l : List Cx) : wtYs (l.map (blur k n s loc)) = wtYs l := by
  unfold wtYs
  rw [List.map_map]
  congr 1
  exact List.map_congr_left fun c _ => blur_wt k n s loc c
theorem blur_nums {k n loc : Int} (s : ByteArray) {c : Cx} (hk : InI k) (hn : InI n) (hl : InI loc) (h : c.Nums) : (blur k n s loc c).Nums := by
  unfold blur
  split
  · exact ⟨h.r, h.n.1, h.n.2.1, hk, hn⟩
  · exact ⟨h.r, h.n.1, hl, h.n.2.2.1, h.n.2.2.2⟩
theorem blur_cells (k n : Int) (s : ByteArray) (loc : Int) (l : List Cx) : cellsL ((l.map (blur k n s loc)).map toC) = cellsL (l.map toC) := by
  unfold cellsL
  rw [List.length_map, List.length_map, List.length_map]
  congr 1
  unfold manyL
  induction l with
  | nil => rfl
  | cons c l ih =>
    simp only [List.map_cons, List.flatMap_cons]
    rw [ih, blur_bytes]
end Go.Proofs.YtdookhmaiapclaaGreatDoor
namespace Go.Proofs.YtdookhmaiapclaaGreatDoor
open Go.RowKit

section
variable {α : Type} {c : α → List Value} {k : Nat} (hk : ∀ a, (c a).length = k)
include hk
theorem flat_lenR (l : List α) : (l.flatMap c).length = l.length * k := by
  induction l with
  | nil => simp
  | cons x r ih => rw [List.flatMap_cons, List.length_append, hk, ih, List.length_cons, Nat.add_mul]; omega
theorem flat_at : ∀ (l : List α) (i j : Nat) (a : α) (v : Value), l[i]? = some a → (c a)[j]? = some v → (l.flatMap c)[i * k + j]? = some v
  | [], i, j, a, v, h, _ => by simp at h
  | x :: r, 0, j, a, v, h, hv => by
    simp at h
    subst h
    have hj : j < (c x).length := (List.getElem?_eq_some_iff.1 hv).1
    rw [List.flatMap_cons, Nat.zero_mul, Nat.zero_add, List.getElem?_append_left hj, hv]
  | x :: r, i + 1, j, a, v, h, hv => by
    have h' : r[i]? = some a := by simpa using h
    rw [List.flatMap_cons, List.getElem?_append_right (by rw [hk, Nat.add_mul]; omega), hk]
    have : (i + 1) * k + j - k = i * k + j := by rw [Nat.add_mul]; omega
    rw [this]
    exact flat_at r i j a v h' hv
theorem flat_set : ∀ (l : List α) (i j : Nat) (a a' : α) (v : Value), l[i]? = some a → j < k → c a' = (c a).set j v → (l.flatMap c).set (i * k + j) v = (l.set i a').flatMap c
  | [], i, j, a, a', v, h, _, _ => by simp at h
  | x :: r, 0, j, a, a', v, h, hj, hc => by
    simp at h
    subst h
    rw [List.flatMap_cons, Nat.zero_mul, Nat.zero_add, List.set_append_left _ _ (by rw [hk]; exact hj), ← hc]
    simp
  | x :: r, i + 1, j, a, a', v, h, hj, hc => by
    have h' : r[i]? = some a := by simpa using h
    rw [List.flatMap_cons, List.set_append_right _ _ (by rw [hk, Nat.add_mul]; omega), hk]
    have : (i + 1) * k + j - k = i * k + j := by rw [Nat.add_mul]; omega
    rw [this, flat_set r i j a a' v h' hj hc]
    simp
theorem owns_recs {w : World} {base : Nat} {e : TypeId} {v : Value} {l : List α} (h : w.ownsRow base e k v l.length (l.flatMap c)) : ∃ ao cap, v = .slice ao l.length cap ∧ l.length ≤ cap ∧ ∀ i a, l[i]? = some a → ∃ g, ao = some ⟨g, 0, none⟩ ∧ v.ownBlock = some g ∧ ∀ j u, (c a)[j]? = some u → w.cell? ⟨g, i * k + j, none⟩ = some u := by
  have h0 := h
  rcases h.2 with ⟨rfl, h2⟩ | ⟨g, cap, cur, rfl, hb, hg, hn, _⟩
  · refine ⟨none, 0, by rw [h2], by omega, fun i a hi => ?_⟩
    have := (List.getElem?_eq_some_iff.1 hi).1
    omega
  · refine ⟨some ⟨g, 0, none⟩, cap, rfl, hn, fun i a hi => ⟨g, rfl, rfl, fun j u hu => ?_⟩⟩
    have := h0.cells (g := g) rfl _ _ (flat_at hk l i j a u hi hu)
    simpa [Addr.add_lit] using this
end
theorem flat_one {α : Type} {c : α → List Value} (h1 : ∀ a, ∀ u ∈ c a, u.oneCell' = true) (l : List α) : ∀ u ∈ l.flatMap c, u.oneCell' = true := fun u hu => by
  obtain ⟨a, _, ha⟩ := List.mem_flatMap.1 hu
  exact h1 a u ha
end Go.Proofs.YtdookhmaiapclaaGreatDoor
namespace Go.Proofs.YtdookhmaiapclaaGreatDoor
open Go.RowKit

def xs10 (c : Cx) : List Value := c.a.toList
theorem xs10_len (c : Cx) : (xs10 c).length = 10 := rfl
theorem xs10_one (c : Cx) : ∀ u ∈ xs10 c, u.oneCell' = true := by
  intro u hu
  simp only [xs10, Cx.a, List.mem_cons, List.not_mem_nil, or_false] at hu
  rcases hu with rfl | rfl | rfl | rfl | rfl | rfl | rfl | rfl | rfl | rfl <;> rfl
theorem infoCx : (Tryz.prog.info? 59).map (fun i => (i.zero, i.size, i.bytes)) = some (some (.agg (Cx.a ⟨⟨⟨#[]⟩, ⟨#[]⟩, 0, ⟨#[]⟩⟩, zeroV⟩)), 10, 112) := by kernel_rfl
theorem infoX {t : TypeId} {z : Value} {k b : Nat} (h : (Tryz.prog.info? t).map (fun i => (i.zero, i.size, i.bytes)) = some (some z, k, b)) : ∃ i, Tryz.prog.info? t = some i ∧ i.zero = some z ∧ i.size = k ∧ i.bytes = b := by
  cases hi : Tryz.prog.info? t with
  | none => rw [hi] at h; cases h
  | some i =>
    rw [hi] at h
    simp only [Option.map_some, Option.some.injEq, Prod.mk.injEq] at h
    exact ⟨i, rfl, h.1, h.2.1, h.2.2⟩
theorem flat_inv (l : List Cx) (j : Nat) (u : Value) (h : (l.flatMap xs10)[j]? = some u) : ∃ a, l[j / 10]? = some a ∧ (xs10 a)[j % 10]? = some u := by
  have hj := (List.getElem?_eq_some_iff.1 h).1
  rw [flat_lenR xs10_len] at hj
  have hi : j / 10 < l.length := by omega
  have hr : j % 10 < (xs10 l[j / 10]).length := by rw [xs10_len]; omega
  have h1 : l[j / 10]? = some l[j / 10] := List.getElem?_eq_getElem hi
  have h2 : (xs10 l[j / 10])[j % 10]? = some (xs10 l[j / 10])[j % 10] := List.getElem?_eq_getElem hr
  have h3 := flat_at xs10_len l (j / 10) (j % 10) _ _ h1 h2
  have h4 : j / 10 * 10 + j % 10 = j := by omega
  rw [h4, h] at h3
  exact ⟨_, h1, by rw [h2]; exact h3.symm⟩
theorem TenX.at {w : World} {b o : Nat} {c : Cx} (t : TenX w b o c) (j : Nat) (v : Value) (hv : (xs10 c)[j]? = some v) : w.cell? ⟨b, o + j, none⟩ = some v := by
  match j, hv with
  | 0, hv => obtain rfl := Option.some.inj hv; exact t.c0
  | 1, hv => obtain rfl := Option.some.inj hv; exact t.c1
  | 2, hv => obtain rfl := Option.some.inj hv; exact t.c2
  | 3, hv => obtain rfl := Option.some.inj hv; exact t.c3
  | 4, hv => obtain rfl := Option.some.inj hv; exact t.c4
  | 5, hv => obtain rfl := Option.some.inj hv; exact t.c5
  | 6, hv => obtain rfl := Option.some.inj hv; exact t.c6
  | 7, hv => obtain rfl := Option.some.inj hv; exact t.c7
  | 8, hv => obtain rfl := Option.some.inj hv; exact t.c8
  | 9, hv => obtain rfl := Option.some.inj hv; exact t.c9
  | j + 10, hv => exact absurd hv (by simp [xs10, Cx.a])
theorem src_cells {w : World} {ao : Option Addr} {l : List Cx} (h : XSees w ao l) (hn : ao = none → l.length = 0) (cap : Nat) : Src Tryz.prog 10 22 (.slice ao l.length cap) l.length (l.flatMap xs10) w := by
  cases ao with
  | none =>
    obtain rfl : l = [] := List.eq_nil_of_length_eq_zero (hn rfl)
    exact Src.ofNil w Tryz.underlying22 cap
  | some a =>
    refine Src.ofSlice w Tryz.underlying22 a _ cap _ (flat_lenR xs10_len l) (fun j u hu => ?_) (flat_one xs10_one l)
    obtain ⟨c, h1, h2⟩ := flat_inv l j u hu
    obtain ⟨b, off, e, t⟩ := h _ _ h1
    obtain rfl := Option.some.inj e
    have := t.at _ _ h2
    rw [Addr.add_lit]
    have e2 : off + j / 10 * 10 + j % 10 = off + j := by omega
    rwa [e2] at this
/-- Cells of a row of the call's own can be read. -/
theorem owns_xsees {w : World} {base : Nat} {v : Value} {l : List Cx} (h : w.ownsRow base 59 10 v l.length (l.flatMap xs10)) : ∃ ao cap, v = .slice ao l.length cap ∧ XSees w ao l ∧ ∀ i c, l[i]? = some c → ∃ g, ao = some ⟨g, 0, none⟩ ∧ base ≤ g ∧ TenX w g (i * 10) c := by
  obtain ⟨ao, cap, rfl, _, hr⟩ := owns_recs xs10_len h
  have hT : ∀ i c, l[i]? = some c → ∃ g, ao = some ⟨g, 0, none⟩ ∧ base ≤ g ∧ TenX w g (i * 10) c := fun i c hc => by
    obtain ⟨g, rfl, hg, hv⟩ := hr i c hc
    exact ⟨g, rfl, (h.lt g hg).1, ⟨hv 0 _ rfl, hv 1 _ rfl, hv 2 _ rfl, hv 3 _ rfl, hv 4 _ rfl, hv 5 _ rfl, hv 6 _ rfl, hv 7 _ rfl, hv 8 _ rfl, hv 9 _ rfl⟩⟩
  refine ⟨ao, cap, rfl, fun i c hc => ?_, hT⟩
  obtain ⟨g, rfl, _, t⟩ := hT i c hc
  exact ⟨g, 0, rfl, by rwa [Nat.zero_add]⟩
/-- An empty row. -/
theorem owns_noneX (w : World) (base : Nat) (hb : base ≤ w.heap.size) : (w.alloc (.cells #[] 59)).ownsRow base 59 10 (.slice (some ⟨w.heap.size, 0, none⟩) 0 0) 0 [] :=
  ⟨rfl, .inr ⟨w.heap.size, 0, #[], rfl, hb, heap_alloc_new w _, Nat.le_refl _, Nat.zero_le _, rfl, rfl⟩⟩
end Go.Proofs.YtdookhmaiapclaaGreatDoor
namespace Go.Proofs.YtdookhmaiapclaaGreatDoor
open Go.RowKit

set_option maxHeartbeats 800000 in
theorem cmpKeys_any (a b : Cx) (w : World) : Calls Tryz.prog 84 #[a.val, b.val] w fun x w' => x = .returned (.int .i64 (kc a.k.ky b.k.ky)) ∧ Below w.heap.size w w' := by
  have C : Hid (∀ w : World, Calls Tryz.prog 73 #[a.k.v, b.k.v] w fun x w' => x = .returned (.int .i64 (kc a.k.ky b.k.ky)) ∧ Below w.heap.size w w') := fun w => cmp_any a.k b.k w
  have hB : Hid (∀ o1 o2 : Obj, Below w.heap.size w ((w.alloc o1).alloc o2)) := fun o1 o2 => ((Below.refl _ _).alloc (Nat.le_refl _) _).alloc (by simp) _
  generalize kc a.k.ky b.k.ky = R at *
  obtain ⟨⟨a1, p1, r1, c1⟩, ⟨t1, d1, l1, k1, n1, s1⟩⟩ := a
  obtain ⟨⟨a2, p2, r2, c2⟩, ⟨t2, d2, l2, k2, n2, s2⟩⟩ := b
  simp only [Cx.val, Cx.a, Kb.v] at *
  go_enter Tryz.func84, Tryz.ntmps84
  go_wp2_with fail
  refine (C.out _).mono ?_
  rintro x w1 ⟨rfl, hb1⟩
  go_wp2_with fail
  go_ret
  exact ⟨rfl, (hB.out _ _).trans (hb1.mono (hB.out _ _).size)⟩

/-- The keys rise up to the place i. -/
def Rise (l : List Cx) (i : Nat) : Prop := ∀ j x y, j + 1 < i → l[j]? = some x → l[j + 1]? = some y → kc x.k.ky y.k.ky < 0
noncomputable def srtB (l : List Cx) : Bool := @decide (Rise l l.length) (Classical.propDecidable _)
theorem srtB_true {l : List Cx} (h : Rise l l.length) : srtB l = true := @decide_eq_true _ (Classical.propDecidable _) h
theorem srtB_false {l : List Cx} (h : ¬ Rise l l.length) : srtB l = false := @decide_eq_false _ (Classical.propDecidable _) h
theorem Rise.step {l : List Cx} {i : Nat} {x y : Cx} (h : Rise l i) (hx : l[i - 1]? = some x) (hy : l[i]? = some y) (hc : kc x.k.ky y.k.ky < 0) : Rise l (i + 1) := by
  intro j u v hj hu hv
  rcases Nat.lt_or_ge (j + 1) i with g | g
  · exact h j u v g hu hv
  · have e : j + 1 = i := by omega
    have e2 : j = i - 1 := by omega
    rw [e, hy] at hv
    rw [e2, hx] at hu
    obtain rfl := Option.some.inj hu
    obtain rfl := Option.some.inj hv
    exact hc
attribute [local irreducible] wpQuiet
set_option maxRecDepth 100000 in
set_option maxHeartbeats 2000000 in
theorem sorted_any (ao : Option Addr) (l : List Cx) (cap : Nat) (w : World) (hs : XSees w ao l) (hl : l.length ≤ 1000000) :
    Calls Tryz.prog 51 #[.slice ao l.length cap] w fun e w' => e = .returned (.bool (srtB l)) ∧ Below w.heap.size w w' := by
  have hlz : (l.length : Int) ≤ 1000000 := by omega
  go_enter Tryz.func51, Tryz.ntmps51
  go_wp2_with fail
  go_loopw [3] (fun s3 wr => ∃ i : Nat, 1 ≤ i ∧ i ≤ l.length + 1 ∧ s3 = .int .i64 i ∧ Rise l i ∧ Below w.heap.size w wr) (fun s3 _ => l.length + 1 - (intOf s3).toNat)
  case atStart => exact ⟨1, by omega, by omega, rfl, fun j x y h => by omega, Below.refl _ _⟩
  case round =>
    obtain ⟨i, h1, hi, rfl, hr, hbr⟩ := hrel
    rcases Nat.lt_or_ge i l.length with hlt | hge
    · obtain ⟨p, rfl⟩ : ∃ p, i = p + 1 := ⟨i - 1, by omega⟩
      obtain ⟨x, hx⟩ : ∃ x, l[p]? = some x := ⟨_, List.getElem?_eq_getElem (by omega)⟩
      obtain ⟨y, hy⟩ : ∃ y, l[p + 1]? = some y := ⟨_, List.getElem?_eq_getElem (by omega)⟩
      obtain ⟨b, off, rfl, tx⟩ := (hs.below hbr (Nat.le_refl _)) _ _ hx
      obtain ⟨b', off', e, ty⟩ := (hs.below hbr (Nat.le_refl _)) _ _ hy
      injection e with e
      injection e with e1 e2
      subst e1
      subst e2
      have hyes : Hid (kc x.k.ky y.k.ky < 0 → Rise l (p + 1 + 1)) := fun h => hr.step hx hy h
      have hno : Hid (¬ kc x.k.ky y.k.ky < 0 → srtB l = false) := fun h => srtB_false (fun g => h (g p x y (by omega) hx hy))
      have C : Hid (∀ w : World, Calls Tryz.prog 84 #[x.val, y.val] w fun e w' => e = .returned (.int .i64 (kc x.k.ky y.k.ky)) ∧ Below w.heap.size w w') := fun w => cmpKeys_any x y w
      generalize kc x.k.ky y.k.ky = R at *
      obtain ⟨⟨xa, xp, xr, xc⟩, ⟨xt, xd, xl, xk, xn, xs⟩⟩ := x
      obtain ⟨⟨ya, yp, yr, yc⟩, ⟨yt, yd, yl, yk, yn, ys⟩⟩ := y
      simp only [Cx.val, Cx.a] at C
      have HE : Hid (∀ w', Below wr.heap.size wr w' → Below w.heap.size w w') := fun w' h => hbr.trans (h.mono hbr.size)
      have qx0 : ∀ q : Cl wr.heap.size wr, q.u.cell? ⟨b, off + p * 10, none⟩ = some (.string xa) := fun q => (tx.below q.h tx.lt).c0
      have qx1 : ∀ q : Cl wr.heap.size wr, q.u.cell? ⟨b, off + p * 10 + 1, none⟩ = some (.string xp) := fun q => (tx.below q.h tx.lt).c1
      have qx2 : ∀ q : Cl wr.heap.size wr, q.u.cell? ⟨b, off + p * 10 + 2, none⟩ = some (.int .i64 xr) := fun q => (tx.below q.h tx.lt).c2
      have qx3 : ∀ q : Cl wr.heap.size wr, q.u.cell? ⟨b, off + p * 10 + 3, none⟩ = some (.string xc) := fun q => (tx.below q.h tx.lt).c3
      have qx4 : ∀ q : Cl wr.heap.size wr, q.u.cell? ⟨b, off + p * 10 + 4, none⟩ = some (.int .i64 xt) := fun q => (tx.below q.h tx.lt).c4
      have qx5 : ∀ q : Cl wr.heap.size wr, q.u.cell? ⟨b, off + p * 10 + 5, none⟩ = some (.bool xd) := fun q => (tx.below q.h tx.lt).c5
      have qx6 : ∀ q : Cl wr.heap.size wr, q.u.cell? ⟨b, off + p * 10 + 6, none⟩ = some (.int .i64 xl) := fun q => (tx.below q.h tx.lt).c6
      have qx7 : ∀ q : Cl wr.heap.size wr, q.u.cell? ⟨b, off + p * 10 + 7, none⟩ = some (.int .i64 xk) := fun q => (tx.below q.h tx.lt).c7
      have qx8 : ∀ q : Cl wr.heap.size wr, q.u.cell? ⟨b, off + p * 10 + 8, none⟩ = some (.int .i64 xn) := fun q => (tx.below q.h tx.lt).c8
      have qx9 : ∀ q : Cl wr.heap.size wr, q.u.cell? ⟨b, off + p * 10 + 9, none⟩ = some (.string xs) := fun q => (tx.below q.h tx.lt).c9
      have qy0 : ∀ q : Cl wr.heap.size wr, q.u.cell? ⟨b, off + (p + 1) * 10, none⟩ = some (.string ya) := fun q => (ty.below q.h ty.lt).c0
      have qy1 : ∀ q : Cl wr.heap.size wr, q.u.cell? ⟨b, off + (p + 1) * 10 + 1, none⟩ = some (.string yp) := fun q => (ty.below q.h ty.lt).c1
      have qy2 : ∀ q : Cl wr.heap.size wr, q.u.cell? ⟨b, off + (p + 1) * 10 + 2, none⟩ = some (.int .i64 yr) := fun q => (ty.below q.h ty.lt).c2
      have qy3 : ∀ q : Cl wr.heap.size wr, q.u.cell? ⟨b, off + (p + 1) * 10 + 3, none⟩ = some (.string yc) := fun q => (ty.below q.h ty.lt).c3
      have qy4 : ∀ q : Cl wr.heap.size wr, q.u.cell? ⟨b, off + (p + 1) * 10 + 4, none⟩ = some (.int .i64 yt) := fun q => (ty.below q.h ty.lt).c4
      have qy5 : ∀ q : Cl wr.heap.size wr, q.u.cell? ⟨b, off + (p + 1) * 10 + 5, none⟩ = some (.bool yd) := fun q => (ty.below q.h ty.lt).c5
      have qy6 : ∀ q : Cl wr.heap.size wr, q.u.cell? ⟨b, off + (p + 1) * 10 + 6, none⟩ = some (.int .i64 yl) := fun q => (ty.below q.h ty.lt).c6
      have qy7 : ∀ q : Cl wr.heap.size wr, q.u.cell? ⟨b, off + (p + 1) * 10 + 7, none⟩ = some (.int .i64 yk) := fun q => (ty.below q.h ty.lt).c7
      have qy8 : ∀ q : Cl wr.heap.size wr, q.u.cell? ⟨b, off + (p + 1) * 10 + 8, none⟩ = some (.int .i64 yn) := fun q => (ty.below q.h ty.lt).c8
      have qy9 : ∀ q : Cl wr.heap.size wr, q.u.cell? ⟨b, off + (p + 1) * 10 + 9, none⟩ = some (.string ys) := fun q => (ty.below q.h ty.lt).c9
      clear tx ty hx hy hs hr hbr
      haveI := Cl.inh wr.heap.size wr
      have hpz : (p : Int) + 1 < (l.length : Int) := by omega
      have hpz2 : (p : Int) < (l.length : Int) := by omega
      have hwp : IntKind.i64.wrap (p : Int) = (p : Int) := by rw [IntKind.wrap_i64]; omega
      have p0 : (0 : Int) ≤ (p : Int) + 1 := by omega
      have e0 : ((p : Int) + 1).toNat = p + 1 := by omega
      by_cases hR : R < 0
      · have hR' := hyes.out hR
        have d : decide (0 ≤ R) = false := decide_eq_false (by omega)
        have HR : Hid (Rise l (p + 1 + 1)) := hR'
        clear hR' hyes hno hR
        go_wp2_with fail
        refine wp_region_cl wr.heap.size (by kernel_rfl) (by kernel_rfl) ?_
        repeat (quiet_step (first | (go_at_call 84; exact Cl.calls (Nat.le_refl _) (C.out _))))
        refine wpQuiet_nil ?_
        rintro w0 ⟨q, rfl⟩
        have hq := HE.out _ q.h
        go_wp2_with fail
        go_roundw
        case rel => exact ⟨p + 1 + 1, by omega, by omega, by go_num, HR.out, hq⟩
        case measure => simp [intOf]; omega
      · have hR' : Hid (srtB l = false) := hno.out hR
        have d : decide (0 ≤ R) = true := decide_eq_true (by omega)
        clear hyes hno hR
        go_wp2_with fail
        refine wp_region_cl wr.heap.size (by kernel_rfl) (by kernel_rfl) ?_
        repeat (quiet_step (first | (go_at_call 84; exact Cl.calls (Nat.le_refl _) (C.out _))))
        refine wpQuiet_nil ?_
        rintro w0 ⟨q, rfl⟩
        have hq := HE.out _ q.h
        go_wp2_with fail
        go_ret
        exact ⟨ret_bool hR'.out.symm, hq⟩
    · have hR' : Hid (srtB l = true) := srtB_true (fun j x y hj hx hy => hr j x y (by omega) hx hy)
      clear hs hr
      have hge' : ¬ (i : Int) < (l.length : Int) := by omega
      go_wp2_with fail
      go_ret
      exact ⟨ret_bool hR'.out.symm, hbr⟩
end Go.Proofs.YtdookhmaiapclaaGreatDoor
namespace Go.Proofs.YtdookhmaiapclaaGreatDoor
open Go.RowKit

theorem info8K : (Tryz.prog.info? 5).map (fun i => (i.zero, i.size, i.bytes)) = some (some (.int .u8 0), 1, 1) := by kernel_rfl
/-- One byte, laid in a block of its own, as a source. -/
theorem src_oneK (w : World) (z : Int) (b : UInt8) (h : (b.toNat : Int) = z) :
    Src Tryz.prog 1 29 (.slice (some ⟨w.heap.size, 0, none⟩) 1 1) 1 (B8 [b]) (w.alloc (.cells #[.int .u8 z] 5)) := by
  refine Src.ofSlice _ Tryz.underlying29 _ 1 1 _ (by simp [B8_length]) ?_ (B8_one _)
  intro j u hu
  match j, hu with
  | 0, hu => simp [B8] at hu; subst hu; simp [Addr.add, h]
  | j + 1, hu => simp [B8] at hu
theorem sees_litK (w : World) (l : List UInt8) (pr : Nat × Nat) : Sees (w.alloc (.cells (B8 l).toArray 5 pr)) (some ⟨w.heap.size, 0, none⟩) l := by
  intro i hi
  refine ⟨_, rfl, ?_⟩
  have h : (w.alloc (.cells (B8 l).toArray 5 pr)).heap[w.heap.size]? = some (.cells (B8 l).toArray 5 pr) := heap_alloc_new w _
  have e := B8_at l i hi
  rw [Addr.add_lit, Nat.zero_add]
  simp only [World.cell?, h]
  simpa using e
theorem esc_len : ∀ l : List UInt8, (esc l).length ≤ 2 * l.length
  | [] => by simp [esc]
  | b :: l => by have := esc_len l; simp only [esc]; split <;> simp only [List.length_cons] <;> omega
theorem esc_succ (l : List UInt8) (k : Nat) (hk : k < l.length) : esc (l.take (k + 1)) = esc (l.take k) ++ (if l.getD k 0 = 0 then [0, 255] else [l.getD k 0]) := by
  have e : l.getD k 0 = l[k] := by simp [List.getD, hk]
  rw [List.take_succ_eq_append_getElem hk, esc_append, e]
  simp only [esc]
theorem encT_len (l : List UInt8) : (encT l).length = (esc l).length + 2 := by simp [encT]

set_option maxRecDepth 100000 in
set_option maxHeartbeats 1000000 in
theorem addTextK_any (base : Nat) (v : Value) (n : Nat) (xs : List UInt8) (s : ByteArray) (w : World) (hown : w.ownsRow base 5 1 v n (B8 xs)) (hs : s.size ≤ 2000000) (hn : n ≤ 100000000) (hb : base ≤ w.heap.size) :
    Calls Tryz.prog 77 #[v, .string s] w fun e w' => ∃ v', e = .returned v' ∧ w'.ownsRow base 5 1 v' (n + (encT (nb s)).length) (B8 (xs ++ encT (nb s))) ∧ Grew w w' v v' := by
  obtain ⟨i0, hi, hz0, hz1, hz2⟩ := info_parts info8K
  have hsz : (s.size : Int) ≤ 2000000 := by omega
  have Hat : Hid _ := at_nb s
  have Hlen : Hid ((nb s).length = s.size) := nb_size s
  go_enter Tryz.func77, Tryz.ntmps77
  go_wp2_with fail
  go_loopw [0, 8] (fun s0 s1 wr => ∃ k : Nat, k ≤ s.size ∧ s1 = .int .i64 k ∧ wr.ownsRow base 5 1 s0 (n + (esc ((nb s).take k)).length) (B8 (xs ++ esc ((nb s).take k))) ∧ Grew w wr v s0 ∧ base ≤ wr.heap.size) (fun _ s1 _ => s.size - (intOf s1).toNat)
  case atStart => exact ⟨0, Nat.zero_le _, rfl, by simpa [esc] using hown, Grew.refl _ _, hb⟩
  case round =>
    obtain ⟨k, hk, rfl, ho, hg, hbr⟩ := hrel
    have hle : (esc ((nb s).take k)).length ≤ 4000000 := by
      have := esc_len ((nb s).take k); rw [List.length_take, Hlen.out] at this; omega
    by_cases hlt : k < s.size
    · have Hsucc : Hid _ := esc_succ (nb s) k (by rw [Hlen.out]; exact hlt)
      rw [Hat.out k hlt] at Hsucc
      generalize hE : esc ((nb s).take k) = E at *
      by_cases h0 : s[k] = 0
      · have hx : ((s[k].toNat : Nat) : Int) = 0 := by rw [h0]; rfl
        have Hnew : Hid (esc ((nb s).take (k + 1)) = E ++ [0] ++ [255]) := by show _ = _; rw [Hsucc.out, if_pos h0, List.append_assoc]; rfl
        clear Hsucc h0 hE
        go_wp2_with (first
          | (at_builtin; have h9 := ho1; go_must (refine wpList_append_grew _ rfl _ _ 29 29 rfl base 5 i0 (.int .u8 0) 1 1 Tryz.underlying29 hi hz0 hz1 hz2 rfl _ _ _ rfl (ho1.alloc _) _ 1 (B8 [255]) rfl (src_oneK _ _ _ rfl) (by unfold maxLen; omega) (by omega) (by rw [World.size_alloc]; have h1 := hg1.rows.size; rw [World.size_alloc] at h1; omega) ?_; intro v2 w2 ho2 hg2))
          | (at_builtin; go_must (refine wpList_append_grew _ rfl _ _ 29 29 rfl base 5 i0 (.int .u8 0) 1 1 Tryz.underlying29 hi hz0 hz1 hz2 rfl _ _ _ rfl (ho.alloc _) _ 1 (B8 [0]) rfl (src_oneK _ _ _ rfl) (by unfold maxLen; omega) (by omega) (by rw [World.size_alloc]; omega) ?_; intro v1 w1 ho1 hg1)))
        go_roundw
        case rel =>
          refine ⟨k + 1, by omega, by go_num, ?_, (hg.trans hg1.alloc).trans hg2.alloc, ?_⟩
          · rw [Hnew.out, ← List.append_assoc, ← List.append_assoc, B8_append _ [255], B8_append _ [0], List.length_append, List.length_append, ← Nat.add_assoc, ← Nat.add_assoc]
            exact ho2
          · have h1 := hg1.rows.size; have h2 := hg2.rows.size; rw [World.size_alloc] at h1 h2; omega
        case measure => simp [intOf]; omega
      · obtain ⟨x, hx⟩ : ∃ x, ((s[k].toNat : Nat) : Int) = x := ⟨_, rfl⟩
        have hx0 : (x == 0) = false := by
          rw [beq_eq_false_iff_ne]; rintro rfl; apply h0; apply UInt8.toNat_inj.1; show s[k].toNat = 0; omega
        have Hnew : Hid (esc ((nb s).take (k + 1)) = E ++ [s[k]]) := by show _ = _; rw [Hsucc.out, if_neg h0]
        have Hsrc : Hid _ := fun wa : World => src_oneK wa x s[k] hx
        clear Hsucc h0 hE
        go_wp2_with (at_builtin; go_must (refine wpList_append_grew _ rfl _ _ 29 29 rfl base 5 i0 (.int .u8 0) 1 1 Tryz.underlying29 hi hz0 hz1 hz2 rfl _ _ _ rfl (ho.alloc _) _ 1 (B8 [s[k]]) rfl (Hsrc.out _) (by unfold maxLen; omega) (by omega) (by rw [World.size_alloc]; omega) ?_; intro v1 w1 ho1 hg1))
        go_roundw
        case rel =>
          refine ⟨k + 1, by omega, by go_num, ?_, hg.trans hg1.alloc, ?_⟩
          · rw [Hnew.out, ← List.append_assoc, B8_append _ [_], List.length_append, ← Nat.add_assoc]
            exact ho1
          · have h1 := hg1.rows.size; rw [World.size_alloc] at h1; omega
        case measure => simp [intOf]; omega
    · obtain rfl : k = s.size := by omega
      have e : (nb s).take s.size = nb s := by rw [← Hlen.out, List.take_length]
      rw [e] at ho hle
      clear e
      go_wp2_with (at_builtin; go_must (refine wpList_append_grew _ rfl _ _ 29 29 rfl base 5 i0 (.int .u8 0) 1 1 Tryz.underlying29 hi hz0 hz1 hz2 rfl _ _ _ rfl (ho.alloc _) _ 2 (B8 [0, 0]) rfl (src_sees Tryz.underlying29 (sees_litK _ [0, 0] (0, 0)) (fun h => by cases h) 2) (by unfold maxLen; omega) (by omega) (by rw [World.size_alloc]; omega) ?_; intro v1 w1 ho1 hg1))
      go_ret
      refine ⟨v1, rfl, ?_, hg.trans hg1.alloc⟩
      rw [encT, ← List.append_assoc, B8_append _ [0, 0], List.length_append, ← Nat.add_assoc]
      exact ho1
set_option maxRecDepth 100000 in
set_option maxHeartbeats 1000000 in
theorem refText_any (base : Nat) (v : Value) (n : Nat) (xs : List UInt8) (s : ByteArray) (w : World) (hown : w.ownsRow base 5 1 v n (B8 xs)) (hs : s.size ≤ 2000000) (hn : n ≤ 100000000) (hb : base ≤ w.heap.size) :
    Calls Tryz.prog 65 #[v, .string s] w fun e w' => ∃ v', e = .returned v' ∧ w'.ownsRow base 5 1 v' (n + (encT (nb s)).length) (B8 (xs ++ encT (nb s))) ∧ Grew w w' v v' := by
  obtain ⟨i0, hi, hz0, hz1, hz2⟩ := info_parts info8K
  have hsz : (s.size : Int) ≤ 2000000 := by omega
  have Hat : Hid _ := at_nb s
  have Hlen : Hid ((nb s).length = s.size) := nb_size s
  go_enter Tryz.func65, Tryz.ntmps65
  go_wp2_with fail
  go_loopw [0, 5] (fun s0 s1 wr => ∃ k : Nat, k ≤ s.size ∧ s1 = .int .i64 k ∧ wr.ownsRow base 5 1 s0 (n + (esc ((nb s).take k)).length) (B8 (xs ++ esc ((nb s).take k))) ∧ Grew w wr v s0 ∧ base ≤ wr.heap.size) (fun _ s1 _ => s.size - (intOf s1).toNat)
  case atStart => exact ⟨0, Nat.zero_le _, rfl, by simpa [esc] using hown, Grew.refl _ _, hb⟩
  case round =>
    obtain ⟨k, hk, rfl, ho, hg, hbr⟩ := hrel
    have hle : (esc ((nb s).take k)).length ≤ 4000000 := by
      have := esc_len ((nb s).take k); rw [List.length_take, Hlen.out] at this; omega
    by_cases hlt : k < s.size
    · have Hsucc : Hid _ := esc_succ (nb s) k (by rw [Hlen.out]; exact hlt)
      rw [Hat.out k hlt] at Hsucc
      generalize hE : esc ((nb s).take k) = E at *
      by_cases h0 : s[k] = 0
      · have hx : ((s[k].toNat : Nat) : Int) = 0 := by rw [h0]; rfl
        have Hnew : Hid (esc ((nb s).take (k + 1)) = E ++ [0] ++ [255]) := by show _ = _; rw [Hsucc.out, if_pos h0, List.append_assoc]; rfl
        clear Hsucc h0 hE
        go_wp2_with (first
          | (at_builtin; have h9 := ho1; go_must (refine wpList_append_grew _ rfl _ _ 29 29 rfl base 5 i0 (.int .u8 0) 1 1 Tryz.underlying29 hi hz0 hz1 hz2 rfl _ _ _ rfl (ho1.alloc _) _ 1 (B8 [255]) rfl (src_oneK _ _ _ rfl) (by unfold maxLen; omega) (by omega) (by rw [World.size_alloc]; have h1 := hg1.rows.size; rw [World.size_alloc] at h1; omega) ?_; intro v2 w2 ho2 hg2))
          | (at_builtin; go_must (refine wpList_append_grew _ rfl _ _ 29 29 rfl base 5 i0 (.int .u8 0) 1 1 Tryz.underlying29 hi hz0 hz1 hz2 rfl _ _ _ rfl (ho.alloc _) _ 1 (B8 [0]) rfl (src_oneK _ _ _ rfl) (by unfold maxLen; omega) (by omega) (by rw [World.size_alloc]; omega) ?_; intro v1 w1 ho1 hg1)))
        go_roundw
        case rel =>
          refine ⟨k + 1, by omega, by go_num, ?_, (hg.trans hg1.alloc).trans hg2.alloc, ?_⟩
          · rw [Hnew.out, ← List.append_assoc, ← List.append_assoc, B8_append _ [255], B8_append _ [0], List.length_append, List.length_append, ← Nat.add_assoc, ← Nat.add_assoc]
            exact ho2
          · have h1 := hg1.rows.size; have h2 := hg2.rows.size; rw [World.size_alloc] at h1 h2; omega
        case measure => simp [intOf]; omega
      · obtain ⟨x, hx⟩ : ∃ x, ((s[k].toNat : Nat) : Int) = x := ⟨_, rfl⟩
        have hx0 : (x == 0) = false := by
          rw [beq_eq_false_iff_ne]; rintro rfl; apply h0; apply UInt8.toNat_inj.1; show s[k].toNat = 0; omega
        have Hnew : Hid (esc ((nb s).take (k + 1)) = E ++ [s[k]]) := by show _ = _; rw [Hsucc.out, if_neg h0]
        have Hsrc : Hid _ := fun wa : World => src_oneK wa x s[k] hx
        clear Hsucc h0 hE
        go_wp2_with (at_builtin; go_must (refine wpList_append_grew _ rfl _ _ 29 29 rfl base 5 i0 (.int .u8 0) 1 1 Tryz.underlying29 hi hz0 hz1 hz2 rfl _ _ _ rfl (ho.alloc _) _ 1 (B8 [s[k]]) rfl (Hsrc.out _) (by unfold maxLen; omega) (by omega) (by rw [World.size_alloc]; omega) ?_; intro v1 w1 ho1 hg1))
        go_roundw
        case rel =>
          refine ⟨k + 1, by omega, by go_num, ?_, hg.trans hg1.alloc, ?_⟩
          · rw [Hnew.out, ← List.append_assoc, B8_append _ [_], List.length_append, ← Nat.add_assoc]
            exact ho1
          · have h1 := hg1.rows.size; rw [World.size_alloc] at h1; omega
        case measure => simp [intOf]; omega
    · obtain rfl : k = s.size := by omega
      have e : (nb s).take s.size = nb s := by rw [← Hlen.out, List.take_length]
      rw [e] at ho hle
      clear e
      go_wp2_with (at_builtin; go_must (refine wpList_append_grew _ rfl _ _ 29 29 rfl base 5 i0 (.int .u8 0) 1 1 Tryz.underlying29 hi hz0 hz1 hz2 rfl _ _ _ rfl (ho.alloc _) _ 2 (B8 [0, 0]) rfl (src_sees Tryz.underlying29 (sees_litK _ [0, 0] (0, 0)) (fun h => by cases h) 2) (by unfold maxLen; omega) (by omega) (by rw [World.size_alloc]; omega) ?_; intro v1 w1 ho1 hg1))
      go_ret
      refine ⟨v1, rfl, ?_, hg.trans hg1.alloc⟩
      rw [encT, ← List.append_assoc, B8_append _ [0, 0], List.length_append, ← Nat.add_assoc]
      exact ho1
end Go.Proofs.YtdookhmaiapclaaGreatDoor
namespace Go.Proofs.YtdookhmaiapclaaGreatDoor
open Go.RowKit

theorem be_succ (u : Nat) : ∀ (n k : Nat), k < n → (be n u).take (k + 1) = (be n u).take k ++ [UInt8.ofNat (u / 256 ^ (n - 1 - k) % 256)]
  | 0, k, h => by omega
  | n + 1, 0, _ => by simp [be]
  | n + 1, k + 1, h => by
    have := be_succ u n k (by omega)
    simp only [be, List.take_succ_cons, List.cons_append]
    rw [this]
    have e : n - 1 - k = n + 1 - 1 - (k + 1) := by omega
    rw [e]
theorem xor_top (a : Nat) (h : a < 18446744073709551616) : a ^^^ 9223372036854775808 = if a < 9223372036854775808 then a + 9223372036854775808 else a - 9223372036854775808 := by
  have h1 : (a ^^^ 2 ^ 63) % 2 ^ 63 = a % 2 ^ 63 := by rw [Nat.xor_mod_two_pow]; simp
  have h2 : (a ^^^ 2 ^ 63) / 2 ^ 63 = (a / 2 ^ 63) ^^^ 1 := by rw [Nat.xor_div_two_pow]
  have h3 := Nat.div_add_mod (a ^^^ 2 ^ 63) (2 ^ 63)
  have h4 := Nat.div_add_mod a (2 ^ 63)
  have e : (2 : Nat) ^ 63 = 9223372036854775808 := by decide
  rw [h1, h2] at h3
  rw [e] at h3 h4
  split
  · have h5 : a / 9223372036854775808 = 0 := by omega
    rw [h5] at h3 h4
    have : (0 ^^^ 1 : Nat) = 1 := rfl
    rw [this] at h3; omega
  · have h5 : a / 9223372036854775808 = 1 := by omega
    rw [h5] at h3 h4
    have : (1 ^^^ 1 : Nat) = 0 := rfl
    rw [this] at h3; omega
theorem row_bits (r : Int) (h : InI r) : bits BinOp.xor IntKind.u64 (IntKind.u64.wrap r) 9223372036854775808 = (((r + 9223372036854775808).toNat : Nat) : Int) := by
  unfold InI at h
  have e : IntKind.u64.wrap r = (((r % 18446744073709551616).toNat : Nat) : Int) := by rw [IntKind.wrap_u64]; omega
  have e2 : (9223372036854775808 : Int) = ((9223372036854775808 : Nat) : Int) := rfl
  rw [e, e2, u64_xor_nat _ _ (by omega) (by decide), xor_top _ (by omega)]
  split <;> omega
set_option maxRecDepth 100000 in
set_option maxHeartbeats 1000000 in
theorem addRow_any (base : Nat) (v : Value) (n : Nat) (xs : List UInt8) (r : Int) (w : World) (hr : InI r) (hown : w.ownsRow base 5 1 v n (B8 xs)) (hn : n ≤ 100000000) (hb : base ≤ w.heap.size) :
    Calls Tryz.prog 78 #[v, .int .i64 r] w fun e w' => ∃ v', e = .returned v' ∧ w'.ownsRow base 5 1 v' (n + 8) (B8 (xs ++ encR r)) ∧ Grew w w' v v' := by
  obtain ⟨i0, hi, hz0, hz1, hz2⟩ := info_parts info8K
  obtain ⟨u, hu⟩ : ∃ u, u = (r + 9223372036854775808).toNat := ⟨_, rfl⟩
  have hX := row_bits r hr
  rw [← hu] at hX
  have HR : Hid (encR r = be 8 u) := by show encR r = be 8 u; rw [hu]; rfl
  have hub : u < 18446744073709551616 := by unfold InI at hr; omega
  clear hu
  go_enter Tryz.func78, Tryz.ntmps78
  go_wp2_with fail
  go_loopw [0, 10] (fun s0 s1 wr => ∃ k : Nat, k ≤ 8 ∧ s1 = .int .i64 k ∧ wr.ownsRow base 5 1 s0 (n + k) (B8 (xs ++ (encR r).take k)) ∧ Grew w wr v s0 ∧ base ≤ wr.heap.size) (fun _ s1 _ => 8 - (intOf s1).toNat)
  case atStart => exact ⟨0, Nat.zero_le _, rfl, by simpa [esc] using hown, Grew.refl _ _, hb⟩
  case round =>
    obtain ⟨k, hk, rfl, ho, hg, hbr⟩ := hrel
    by_cases hlt : k < 8
    · have h1 : (k : Int) < 8 := by omega
      obtain ⟨b, hbb⟩ : ∃ b : UInt8, b = UInt8.ofNat (u / 256 ^ (7 - k) % 256) := ⟨_, rfl⟩
      have Hnew : Hid ((encR r).take (k + 1) = (encR r).take k ++ [b]) := by show _ = _; rw [HR.out, be_succ u 8 k hlt, hbb]
      have Hsrc : Hid (∀ wa : World, Src Tryz.prog 1 29 (.slice (some ⟨wa.heap.size, 0, none⟩) 1 1) 1 (B8 [b]) (wa.alloc (.cells #[.int .u8 ((u : Int) / 2 ^ (8 * (7 - k)) % 256)] 5))) := fun wa => src_oneK wa _ b (by
        rw [hbb, UInt8.toNat_ofNat_of_lt' (Nat.mod_lt _ (by decide)), Int.natCast_emod, Int.natCast_ediv]
        have : (256 : Nat) ^ (7 - k) = 2 ^ (8 * (7 - k)) := by rw [show (256 : Nat) = 2 ^ 8 from rfl, ← Nat.pow_mul]
        rw [this]; simp)
      clear hbb
      go_wp2_with (at_builtin; go_must (refine wpList_append_grew _ rfl _ _ 29 29 rfl base 5 i0 (.int .u8 0) 1 1 Tryz.underlying29 hi hz0 hz1 hz2 rfl _ _ _ rfl (ho.alloc _) _ 1 (B8 [b]) rfl (Hsrc.out _) (by unfold maxLen; omega) (by omega) (by rw [World.size_alloc]; omega) ?_; intro v1 w1 ho1 hg1))
      go_roundw
      case rel =>
        refine ⟨k + 1, by omega, by go_num, ?_, hg.trans hg1.alloc, ?_⟩
        · rw [Hnew.out, ← List.append_assoc, B8_append _ [_], ← Nat.add_assoc]
          exact ho1
        · have h1 := hg1.rows.size; rw [World.size_alloc] at h1; omega
      case measure => simp [intOf]; omega
    · obtain rfl : k = 8 := by omega
      have e : (encR r).take 8 = encR r := List.take_of_length_le (by rw [HR.out, be_length]; exact Nat.le_refl _)
      rw [e] at ho
      clear e
      go_wp2_with fail
      go_ret
      exact ⟨_, rfl, ho, hg⟩
end Go.Proofs.YtdookhmaiapclaaGreatDoor
namespace Go.Proofs.YtdookhmaiapclaaGreatDoor
open Go.RowKit

/-- The bytes l in a row that is new since wa; all that was there is as it was. -/
structure Aw (wa : World) (w1 : World) (v : Value) (l : List UInt8) : Prop where
  own : w1.ownsRow wa.heap.size 5 1 v l.length (B8 l)
  bel : Below wa.heap.size wa w1
theorem aw_text {wa w1 : World} {v : Value} {l : List UInt8} (h : Aw wa w1 v l) (s : ByteArray) (hs : s.size ≤ 2000000) (hn : l.length ≤ 100000000) :
    Calls Tryz.prog 77 #[v, .string s] w1 fun e w2 => ∃ v2, e = .returned v2 ∧ Aw wa w2 v2 (l ++ encT (nb s)) :=
  (addTextK_any wa.heap.size v l.length l s w1 h.own hs hn h.bel.size).mono fun e w2 ⟨v2, h1, h2, h3⟩ =>
    ⟨v2, h1, by rw [List.length_append]; exact h2, h.bel.trans (h3.below h.bel.size fun g hg => (h.own.lt g hg).1)⟩
theorem aw_row {wa w1 : World} {v : Value} {l : List UInt8} (h : Aw wa w1 v l) (r : Int) (hr : InI r) (hn : l.length ≤ 100000000) :
    Calls Tryz.prog 78 #[v, .int .i64 r] w1 fun e w2 => ∃ v2, e = .returned v2 ∧ Aw wa w2 v2 (l ++ encR r) :=
  (addRow_any wa.heap.size v l.length l r w1 hr h.own hn h.bel.size).mono fun e w2 ⟨v2, h1, h2, h3⟩ =>
    ⟨v2, h1, by rw [List.length_append, show (encR r).length = 8 from be_length _ _]; exact h2, h.bel.trans (h3.below h.bel.size fun g hg => (h.own.lt g hg).1)⟩
theorem Aw.cell {wa w1 : World} {v : Value} {l : List UInt8} (h : Aw wa w1 v l) {a : Addr} {u : Value} (hc : wa.cell? a = some u) : w1.cell? a = some u := by
  rw [h.bel.cell (World.block_lt_of_cell? _ _ hc), hc]
theorem Aw.start {wa w : World} (hB : Below w.heap.size w wa) {w1 : World} {v : Value} {l : List UInt8} (h : Aw wa w1 v l) : Aw w w1 v l :=
  ⟨⟨h.own.1, h.own.2.imp id fun ⟨g, cap, cur, a, b, c⟩ => ⟨g, cap, cur, a, Nat.le_trans hB.size b, c⟩⟩, hB.trans (h.bel.mono hB.size)⟩
theorem encT_le (s : ByteArray) (h : s.size ≤ 2000000) : (encT (nb s)).length ≤ 4000002 := by
  rw [encT_len]; have := esc_len (nb s); rw [nb_size] at this; omega

set_option maxRecDepth 100000 in
set_option maxHeartbeats 1000000 in
theorem bytes_big (k : Kb) (w : World) (hk : k.Big) :
    Calls Tryz.prog 43 #[k.v] w fun e w' => ∃ v, e = .returned v ∧ Aw w w' v (encK k.ky) := by
  obtain ⟨t, p, r, c⟩ := k
  obtain ⟨ht, hp, hc, hr⟩ := hk
  simp only at ht hp hc hr
  have lt := encT_le t ht
  have lp := encT_le p hp
  have lr : (encR r).length = 8 := be_length _ _
  have ht' : (t.size : Int) ≤ 2000000 := by omega
  have hp' : (p.size : Int) ≤ 2000000 := by omega
  have hc' : (c.size : Int) ≤ 2000000 := by omega
  have HK : Hid (encK (Kb.ky ⟨t, p, r, c⟩) = [] ++ encT (nb t) ++ encT (nb p) ++ encR r ++ encT (nb c)) := by
    show encT (nb t) ++ (encT (nb p) ++ (encR r ++ encT (nb c))) = _
    simp [List.append_assoc]
  obtain ⟨i0, hi, hz0, hz1, hz2⟩ := info_parts info8K
  obtain ⟨wa, hwa⟩ : ∃ wa, wa = w.alloc (.cells #[.string t, .string p, .int .i64 r, .string c] 24) := ⟨_, rfl⟩
  have hB : Hid (Below w.heap.size w wa) := by show Below _ _ _; rw [hwa]; exact (Below.refl _ _).alloc (Nat.le_refl _) _
  have hS : Hid (∀ (w5 : World) (v5 : Value) (l : List UInt8), Aw wa w5 v5 l → Aw w w5 v5 l) := fun _ _ _ h => h.start hB.out
  clear hB
  have hg : wa.heap[w.heap.size]? = some (.cells #[.string t, .string p, .int .i64 r, .string c] 24) := by rw [hwa]; exact heap_alloc_new w _
  have a0 : wa.cell? ⟨w.heap.size, 0, none⟩ = some (.string t) := by simp [World.cell?, hg]
  have a1 : wa.cell? ⟨w.heap.size, 1, none⟩ = some (.string p) := by simp [World.cell?, hg]
  have a2 : wa.cell? ⟨w.heap.size, 2, none⟩ = some (.int .i64 r) := by simp [World.cell?, hg]
  have a3 : wa.cell? ⟨w.heap.size, 3, none⟩ = some (.string c) := by simp [World.cell?, hg]
  obtain ⟨w1, hmk, ho1, hg1⟩ := run_make_own (P := Tryz.prog) wa.drew wa.heap.size 29 5 i0 (.int .u8 0) 1 Tryz.underlying29 hi hz0 hz1 .i64 .i64 (t.size + p.size + c.size + 14) (by rw [hz2]; omega) (by unfold maxLen; omega) (Nat.le_refl _)
  have A1 : Aw wa w1 (.slice (some ⟨wa.heap.size, 0, none⟩) 0 (t.size + p.size + c.size + 14)) [] := ⟨ho1, (Below.refl _ _).drew.grown hg1 (Nat.le_refl _) (fun k hk => by cases hk)⟩
  have hcast : (((t.size + p.size + c.size + 14 : Nat)) : Int) = (t.size : Int) + (p.size : Int) + (c.size : Int) + 6 + 8 := by omega
  rw [hcast] at hmk
  have hmk' : Sem.run Tryz.prog (Instr.makeSlice 29 (.int .i64 0) (.int .i64 ((t.size : Int) + (p.size : Int) + (c.size : Int) + 6 + 8))) wa.drew = .ok (.slice (some ⟨wa.heap.size, 0, none⟩) 0 (t.size + p.size + c.size + 14)) w1 := hmk
  have T1 : Hid (Calls Tryz.prog 77 #[.slice (some ⟨wa.heap.size, 0, none⟩) 0 (t.size + p.size + c.size + 14), .string t] w1 fun e w2 => ∃ v2, e = .returned v2 ∧ Aw wa w2 v2 ([] ++ encT (nb t))) := aw_text A1 t ht (by simp)
  have c10 := A1.cell a0
  clear hg hcast hmk ho1 hg1 hi hz0 hz1 hz2
  simp only [Kb.v]
  go_enter Tryz.func43, Tryz.ntmps43
  go_wp2_with fail
  rw [← hwa]
  clear hwa
  generalize w.heap.size = g at *
  go_region_law (go_simp; go_at_call 77; refine T1.out.mono ?_; rintro x w2 ⟨v2, rfl, A2⟩)
  all_goals
    have T2 : Hid (Calls Tryz.prog 77 #[v2, .string p] w2 fun e w3 => ∃ v3, e = .returned v3 ∧ Aw wa w3 v3 ([] ++ encT (nb t) ++ encT (nb p))) := aw_text A2 p hp (by simp only [List.nil_append]; omega)
    have c21 := A2.cell a1
    go_wp2_with fail
    refine T2.out.mono ?_
    rintro x w3 ⟨v3, rfl, A3⟩
    have T3 : Hid (Calls Tryz.prog 78 #[v3, .int .i64 r] w3 fun e w4 => ∃ v4, e = .returned v4 ∧ Aw wa w4 v4 ([] ++ encT (nb t) ++ encT (nb p) ++ encR r)) := aw_row A3 r hr (by simp only [List.nil_append, List.length_append]; omega)
    have c32 := A3.cell a2
    go_wp2_with fail
    refine T3.out.mono ?_
    rintro x w4 ⟨v4, rfl, A4⟩
    have T4 : Hid (Calls Tryz.prog 77 #[v4, .string c] w4 fun e w5 => ∃ v5, e = .returned v5 ∧ Aw wa w5 v5 ([] ++ encT (nb t) ++ encT (nb p) ++ encR r ++ encT (nb c))) := aw_text A4 c hc (by simp only [List.nil_append, List.length_append]; omega)
    have c43 := A4.cell a3
    go_wp2_with fail
    refine T4.out.mono ?_
    rintro x w5 ⟨v5, rfl, A5⟩
    go_wp2_with fail
    go_ret
    exact ⟨v5, rfl, by rw [HK.out]; exact hS.out _ _ _ A5⟩
theorem bytes_any (k : Kb) (w : World) (hk : k.Ok) :
    Calls Tryz.prog 43 #[k.v] w fun e w' => ∃ v, e = .returned v ∧ Aw w w' v (encK k.ky) := bytes_big k w hk.big
end Go.Proofs.YtdookhmaiapclaaGreatDoor
namespace Go.Proofs.YtdookhmaiapclaaGreatDoor
open Go.RowKit

section
variable {P : Program} {ops : Array Oper} {md : Region.Mode} {C : World → Prop}
/-- An operation that does what it likes, but leaves no other way than by its end. -/
def louOp (P : Program) (ops : Array Oper) (i : Nat) (K : Act → World → Prop) (a : Act) (w : World) : Prop :=
  match ops[i]? with
  | none => False
  | some o => if Region.wanted o (yielded ops a.tmps) then o.wp P a w K (fun _ _ _ => False) else K (a.put o.dst undef) w
theorem lou_mono {o : Oper} {a : Act} {w : World} {K K' : Act → World → Prop} {Q : Exit → Act → World → Prop} (h : ∀ a w, K a w → K' a w) (hh : o.wp P a w K (fun _ _ _ => False)) : o.wp P a w K' Q := by
  unfold Oper.wp at *
  generalize (execOp a.eval o).run P w = r at *
  cases r with
  | ok n w' =>
    cases n <;> simp only [Oper.upon] at hh ⊢
    case value v => exact h _ _ hh
    case skip => exact h _ _ hh
    case defer d => exact h _ _ hh
    case enter f args =>
      refine hh.mono fun e w'' he => ?_
      cases e with
      | returned v => exact h _ _ he
      | panicked c => exact he.elim
      | outgrown => exact absurd he (by simp [LetsOut])
    case row r args => exact hh.mono fun v w'' hv => h _ _ hv
  | halt x w' =>
    cases x <;> simp only [Oper.upon] at hh
theorem louOp_mono {i : Nat} {a : Act} {w : World} {K K' : Act → World → Prop} (h : ∀ a w, K a w → K' a w) (hh : louOp P ops i K a w) : louOp P ops i K' a w := by
  unfold louOp at *
  split
  · rename_i ho; simp only [ho] at hh
  · rename_i o ho
    simp only [ho] at hh
    split
    · rename_i hw; simp only [hw, if_true] at hh; exact lou_mono h hh
    · rename_i hw; simp only [hw] at hh; exact h _ _ hh
theorem wpOp_of_lou {i : Nat} {a : Act} {w : World} {K K' : Act → World → Prop} {Q : Exit → Act → World → Prop} (h : ∀ a w, K a w → K' a w) (hh : louOp P ops i K a w) : wpOp P ops Q i K' a w := by
  unfold louOp at hh
  unfold wpOp
  split
  · rename_i ho; simp only [ho] at hh
  · rename_i o ho
    simp only [ho] at hh
    split
    · rename_i hw; simp only [hw, if_true] at hh; exact .inl (lou_mono h hh)
    · rename_i hw; simp only [hw] at hh; exact h _ _ hh
/-- Whatever order is picked, all worlds being of the class; operation z, which waits for all others, may leave it. -/
def wpAnyC (P : Program) (md : Region.Mode) (ops : Array Oper) (C : World → Prop) (z : Nat) (Q : Act → World → Prop) : Nat → Array Bool → Act → World → Prop
  | 0, listed, a, w => Region.ready md ops listed = [] ∧ Q a w
  | fuel + 1, listed, a, w => (Region.ready md ops listed = [] → Q a w) ∧ ∀ i ∈ Region.ready md ops listed, louOp P ops i (fun a' w' => (i ≠ z → C w') ∧ wpAnyC P md ops C z Q fuel (listed.setIfInBounds i true) a' w') a w
theorem wpAny_of_C {Q : Act → World → Prop} {Q' : Exit → Act → World → Prop} {z : Nat} (hQ : ∀ a w, Q a w → Q' .normal a w) : ∀ (fuel : Nat) (listed : Array Bool) (a : Act) (w : World), wpAnyC P md ops C z Q fuel listed a w → wpAny P md ops Q' fuel listed a w
  | 0, _, _, _, h => ⟨h.1, hQ _ _ h.2⟩
  | fuel + 1, _, _, _, h => ⟨fun h0 => hQ _ _ (h.1 h0), fun i hi => wpOp_of_lou (fun a' w' hh => wpAny_of_C hQ fuel _ a' w' hh.2) (h.2 i hi)⟩
/-- What operations wait for. -/
def waits (md : Region.Mode) (ops : Array Oper) (j : Nat) : List Nat :=
  match ops[j]? with
  | none => []
  | some o => (o.after.toList.filter fun e => Region.binds md e).map fun e => e.on
def waitsN (md : Region.Mode) (ops : Array Oper) : Nat → List Nat → List Nat
  | 0, S => S
  | n + 1, S => waitsN md ops n (S ++ S.flatMap (waits md ops)).eraseDups
/-- Does operation z wait for all others (or is there none)? -/
def waitsAll (md : Region.Mode) (ops : Array Oper) (z : Nat) : Bool :=
  match ops[z]? with
  | none => true
  | some _ => (List.range ops.size).all fun k => k == z || (waitsN md ops 3 (waits md ops z)).contains k
/-- What is listed has all that it waits for listed. -/
def closedB (md : Region.Mode) (ops : Array Oper) (listed : Array Bool) : Bool := (List.range ops.size).all fun j => !listed.getD j false || (waits md ops j).all fun k => listed.getD k false
def Closed (md : Region.Mode) (ops : Array Oper) (listed : Array Bool) : Prop := ∀ j, listed.getD j false = true → ∀ k ∈ waits md ops j, listed.getD k false = true
theorem closed_of {listed : Array Bool} (h : closedB md ops listed = true) : Closed md ops listed := fun j hj k hk => by
  have hjo : j < ops.size := by
    rcases Nat.lt_or_ge j ops.size with h1 | h1
    · exact h1
    · unfold waits at hk
      rw [Array.getElem?_eq_none h1] at hk; cases hk
  have h1 := List.all_eq_true.1 h j (List.mem_range.2 hjo)
  rw [hj] at h1
  simp only [Bool.not_true, Bool.false_or] at h1
  exact List.all_eq_true.1 h1 k hk
theorem waits_ready {listed : Array Bool} {j : Nat} (hj : j ∈ Region.ready md ops listed) : ∀ k ∈ waits md ops j, listed.getD k false = true := fun k hk => by
  obtain ⟨-, o, ho, hall⟩ := mem_ready.1 hj
  unfold waits at hk
  simp only [ho] at hk
  obtain ⟨e, he, rfl⟩ := List.mem_map.1 hk
  obtain ⟨he1, he2⟩ := List.mem_filter.1 he
  exact hall e (by simpa using he1) he2
theorem Closed.set {listed : Array Bool} (h : Closed md ops listed) {i : Nat} (hi : i ∈ Region.ready md ops listed) : Closed md ops (listed.setIfInBounds i true) := fun j hj k hk => by
  by_cases hij : i = j
  · subst hij; exact getD_set_true (waits_ready hi k hk)
  · rw [getD_set_ne false hij] at hj
    exact getD_set_true (h j hj k hk)
theorem waitsN_listed {listed : Array Bool} (h : Closed md ops listed) : ∀ (n : Nat) (S : List Nat), (∀ k ∈ S, listed.getD k false = true) → ∀ k ∈ waitsN md ops n S, listed.getD k false = true
  | 0, _, hS => hS
  | n + 1, S, hS => waitsN_listed h n _ fun k hk => by
    rw [List.mem_eraseDups] at hk
    rcases List.mem_append.1 hk with hk | hk
    · exact hS k hk
    · obtain ⟨j, hj, hk⟩ := List.mem_flatMap.1 hk
      exact h j (hS j hj) k hk
theorem waitsAll_spec {z : Nat} (h : waitsAll md ops z = true) {listed : Array Bool} (hc : Closed md ops listed) {i : Nat} (hi : i ∈ Region.ready md ops listed) (hne : i ≠ z) : z ∉ Region.ready md ops listed := fun hz => by
  obtain ⟨hi0, oi, hoi, -⟩ := mem_ready.1 hi
  obtain ⟨-, o, ho, -⟩ := mem_ready.1 hz
  unfold waitsAll at h
  simp only [ho, List.all_eq_true, List.mem_range] at h
  have h1 := h i (Array.getElem?_eq_some_iff.1 hoi).1
  simp only [Bool.or_eq_true, beq_iff_eq, hne, false_or, List.contains_iff_mem] at h1
  have h2 := waitsN_listed hc 3 _ (waits_ready hz) i h1
  rcases Nat.lt_or_ge i listed.size with h' | h'
  · simp [h'] at hi0 h2; rw [hi0] at h2; cases h2
  · simp [Array.getElem?_eq_none h'] at h2
/-- One value in every world of the class, and the world left alone. -/
def Oper.pureUpon (w : World) (v : Value) : Result Next → Prop
  | .ok (.value u) w' => w' = w ∧ u = v
  | .ok .skip w' => w' = w ∧ v = undef
  | _ => False
def Oper.pureAt (P : Program) (o : Oper) (a : Act) (w : World) (v : Value) : Prop := Oper.pureUpon w v ((execOp a.eval o).run P w)
def YieldsC (P : Program) (ops : Array Oper) (C : World → Prop) (o : Oper) (v : Value) (a : Act) : Prop :=
  (Region.wanted o (yielded ops a.tmps) = true ∧ ∀ w, C w → Oper.pureAt P o a w v) ∨ (Region.wanted o (yielded ops a.tmps) = false ∧ v = undef)
theorem YieldsC.lou {i : Nat} {o : Oper} {v : Value} {a : Act} {w : World} (hi : ops[i]? = some o) (hy : YieldsC P ops C o v a) (hw : C w) {K : Act → World → Prop} (h : K (a.put o.dst v) w) : louOp P ops i K a w := by
  unfold louOp
  simp only [hi]
  rcases hy with ⟨hwd, hv⟩ | ⟨hwd, rfl⟩
  · simp only [hwd, if_true]
    have h3 := hv w hw
    unfold Oper.pureAt at h3
    unfold Oper.wp
    generalize (execOp a.eval o).run P w = r at *
    cases r with
    | ok x w' =>
      cases x <;> simp only [Oper.pureUpon] at h3 <;> simp only [Oper.upon]
      case value u => obtain ⟨e1, e2⟩ := h3; rw [e1, e2]; exact h
      case skip => obtain ⟨e1, e2⟩ := h3; rw [e1, ← e2]; exact h
    | halt x w' => simp only [Oper.pureUpon] at h3
  · simp only [hwd, Bool.false_eq_true, if_false]; exact h
theorem YieldsC.of_same {o : Oper} {v : Value} {a a' : Act} (hy : YieldsC P ops C o v a) (he : execOp a'.eval o = execOp a.eval o) (hw : Region.wanted o (yielded ops a'.tmps) = Region.wanted o (yielded ops a.tmps)) : YieldsC P ops C o v a' := by
  unfold YieldsC Oper.pureAt at *
  rw [he, hw]
  exact hy
theorem put_defers (a : Act) (x : Option Tmp) (v : Value) : (a.put x v).defers = a.defers := by cases x <;> rfl
theorem put_with (a : Act) (x : Option Tmp) (v : Value) (ds : List Deferred) : { a.put x v with defers := ds } = ({ a with defers := ds } : Act).put x v := by cases x <;> rfl
theorem louOp_put {j : Nat} {oi oj : Oper} {v : Value} (hj : ops[j]? = some oj) (hap : oi.apart ops oj = true) (hsi : ∀ cs b, oi.op ≠ .select cs b) (hsj : ∀ cs b, oj.op ≠ .select cs b) {K : Act → World → Prop} {a : Act} {w : World}
    (hy : YieldsC P ops C oi v a) (h : louOp P ops j K (a.put oi.dst v) w) : louOp P ops j (fun a' w' => YieldsC P ops C oi v a' ∧ K (a'.put oi.dst v) w') a w := by
  obtain ⟨h1, h2, h3⟩ := Oper.apart_spec hap
  have keep : ∀ (b : Act), execOp b.eval oi = execOp a.eval oi → Region.wanted oi (yielded ops b.tmps) = Region.wanted oi (yielded ops a.tmps) → ∀ u, YieldsC P ops C oi v (b.put oj.dst u) := fun b e1 e2 u =>
    hy.of_same ((execOp_put oi hsi b oj.dst u h3).trans e1) ((wanted_put oi b oj.dst u h3).trans e2)
  unfold louOp at *
  simp only [hj] at *
  rw [wanted_put oj a oi.dst v h1] at h
  split
  · rename_i hw
    simp only [hw, if_true] at h
    unfold Oper.wp at *
    rw [execOp_put oj hsj a oi.dst v h1] at h
    generalize (execOp a.eval oj).run P w = r at *
    cases r with
    | ok n w' =>
      cases n <;> simp only [Oper.upon] at h ⊢
      case value u => exact ⟨keep a rfl rfl u, by rw [← Act.put_comm a v u h2]; exact h⟩
      case skip => exact ⟨keep a rfl rfl undef, by rw [← Act.put_comm a v undef h2]; exact h⟩
      case defer d =>
        refine ⟨keep { a with defers := d :: a.defers } rfl rfl undef, ?_⟩
        rw [← Act.put_comm _ v undef h2]
        rw [put_defers, put_with] at h
        exact h
      case enter f args =>
        refine h.mono fun e w'' he => ?_
        cases e with
        | returned u => exact ⟨keep a rfl rfl u, by rw [← Act.put_comm a v u h2]; exact he⟩
        | panicked c => exact he
        | outgrown => exact he
      case row r args => exact h.mono fun u w'' he => ⟨keep a rfl rfl u, by rw [← Act.put_comm a v u h2]; exact he⟩
    | halt x w' => cases x <;> simp only [Oper.upon] at h
  · rename_i hw
    simp only [hw] at h
    exact ⟨keep a rfl rfl _, by rw [← Act.put_comm a v undef h2]; exact h⟩
theorem wpAnyC_first {Q : Act → World → Prop} {z i : Nat} {oi : Oper} {v : Value} (hi : ops[i]? = some oi) (hsel : ∀ (j : Nat) (o : Oper) cs b, ops[j]? = some o → o.op ≠ .select cs b) (hz : waitsAll md ops z = true) (hiz : i ≠ z) :
    ∀ (fuel : Nat) (listed : Array Bool) (a : Act) (w : World),
      (∀ j oj, ops[j]? = some oj → j ≠ i → listed.getD j true = false → (∀ e ∈ oj.after, Region.binds md e = true → e.on ≠ i) → oi.apart ops oj = true) →
      i ∈ Region.ready md ops listed → Closed md ops listed → YieldsC P ops C oi v a → C w →
      wpAnyC P md ops C z Q fuel (listed.setIfInBounds i true) (a.put oi.dst v) w → wpAnyC P md ops C z Q (fuel + 1) listed a w := by
  intro fuel
  induction fuel with
  | zero =>
    intro listed a w _ hr _ hy hC H
    refine ⟨fun h => (by rw [h] at hr; cases hr), fun j hj => ?_⟩
    by_cases hji : j = i
    · subst hji; exact hy.lou hi hC ⟨fun _ => hC, H⟩
    · have := ready_mono hj hji
      rw [H.1] at this
      cases this
  | succ fuel ih =>
    intro listed a w hfree hr hcl hy hC H
    refine ⟨fun h => (by rw [h] at hr; cases hr), fun j hj => ?_⟩
    by_cases hji : j = i
    · subst hji; exact hy.lou hi hC ⟨fun _ => hC, H⟩
    · have h1 := H.2 j (ready_mono hj hji)
      have hjz : j ≠ z := fun e => waitsAll_spec hz hcl hr hiz (e ▸ hj)
      obtain ⟨hjun, oj, hoj, hall⟩ := mem_ready.1 hj
      have hnot : ∀ e ∈ oj.after, Region.binds md e = true → e.on ≠ i := fun e he hb heq => by
        have h1 := hall e he hb
        have h0 := (mem_ready.1 hr).1
        rw [heq] at h1
        rcases Nat.lt_or_ge i listed.size with h' | h'
        · simp [h'] at h0 h1; rw [h0] at h1; cases h1
        · simp [Array.getElem?_eq_none h'] at h1
      have h2 := louOp_put hoj (hfree j oj hoj hji hjun hnot) (fun cs b => hsel i oi cs b hi) (fun cs b => hsel j oj cs b hoj) hy h1
      have hfree' : ∀ k ok, ops[k]? = some ok → k ≠ i → (listed.setIfInBounds j true).getD k true = false →
          (∀ e ∈ ok.after, Region.binds md e = true → e.on ≠ i) → oi.apart ops ok = true := fun k ok hk hki hun hno => by
        refine hfree k ok hk hki ?_ hno
        by_cases hjk : j = k
        · subst hjk; exact hjun
        · rw [getD_set_ne true hjk] at hun; exact hun
      refine louOp_mono (fun a' w' h3 => ?_) h2
      obtain ⟨hC', h4⟩ := h3.2
      refine ⟨hC', ih (listed.setIfInBounds j true) a' w' hfree' (ready_mono hr (Ne.symm hji)) (hcl.set hj) h3.1 (hC' hjz) ?_⟩
      rw [Array.setIfInBounds_comm _ _ hji]
      exact h4
/-- A schedule: operations with 'true' only read, each of the others is the only one that may come up. -/
def wpSched (P : Program) (ops : Array Oper) (C : World → Prop) (Q : Act → World → Prop) : List (Nat × Bool) → Act → World → Prop
  | [], a, w => Q a w
  | (i, true) :: s, a, w => ∃ o v, ops[i]? = some o ∧ YieldsC P ops C o v a ∧ wpSched P ops C Q s (a.put o.dst v) w
  | (i, false) :: s, a, w => louOp P ops i (fun a' w' => C w' ∧ wpSched P ops C Q s a' w') a w
def schedB (md : Region.Mode) (ops : Array Oper) : List (Nat × Bool) → Array Bool → Bool
  | [], listed => (Region.ready md ops listed).isEmpty
  | (i, true) :: s, listed => (Region.ready md ops listed).contains i && Region.free md ops listed i && schedB md ops s (listed.setIfInBounds i true)
  | (i, false) :: s, listed => (Region.ready md ops listed == [i]) && schedB md ops s (listed.setIfInBounds i true)
theorem wpAnyC_sched {Q : Act → World → Prop} (hs : Region.noSelect ops = true) : ∀ (s : List (Nat × Bool)) (listed : Array Bool) (a : Act) (w : World), schedB md ops s listed = true → Closed md ops listed → C w → wpSched P ops C Q s a w → wpAnyC P md ops C ops.size Q s.length listed a w
  | [], _, _, _, hB, _, _, h => ⟨by simpa [schedB] using hB, h⟩
  | (i, true) :: s, listed, a, w, hB, hcl, hC, h => by
    simp only [schedB, Bool.and_eq_true] at hB
    obtain ⟨⟨hr, hf⟩, hB'⟩ := hB
    obtain ⟨o, v, ho, hy, hK⟩ := h
    exact wpAnyC_first ho (Region.noSelect_spec hs) (by simp [waitsAll]) (by have := (Array.getElem?_eq_some_iff.1 ho).1; omega) s.length listed a w (Region.free_spec ho hf) (by simpa using hr) hcl hy hC (wpAnyC_sched hs s _ _ w hB' (hcl.set (by simpa using hr)) hC hK)
  | (i, false) :: s, listed, a, w, hB, hcl, hC, h => by
    simp only [schedB, Bool.and_eq_true, beq_iff_eq] at hB
    obtain ⟨hr, hB'⟩ := hB
    refine ⟨(fun h0 => by rw [hr] at h0; cases h0), fun j hj => ?_⟩
    rw [hr] at hj
    obtain rfl : j = i := by simpa using hj
    exact louOp_mono (fun a' w' h' => ⟨fun _ => h'.1, wpAnyC_sched hs s _ a' w' hB' (hcl.set (by rw [hr]; simp)) h'.1 h'.2⟩) h
theorem getD_replicate_false' (m j : Nat) : (Array.replicate m false).getD j false = false := by
  rcases Nat.lt_or_ge j m with h | h
  · simp [h]
  · simp [Array.getElem?_eq_none (xs := Array.replicate m false) (by simpa using h)]
theorem wp_region_sched {id : Nat} {Q : Exit → Act → World → Prop} {a : Act} {w : World} (C : World → Prop) (s : List (Nat × Bool)) (hl : s.length = ops.size) (hm : P.follows .mixedOrders = true) (hs : Region.noSelect ops = true) (hB : schedB .any ops s (Array.replicate ops.size false) = true)
    (hC : C w.drew) (h : wpSched P ops C (fun a' w' => Q .normal a' w') s a w.drew) : (Code.region id ops true).wp P Q a w := by
  refine wp_region_any hm (wpAny_of_C (C := C) (z := ops.size) (Q := fun a' w' => Q .normal a' w') (fun _ _ h => h) _ _ _ _ ?_)
  have := wpAnyC_sched hs s (Array.replicate ops.size false) a w.drew hB (fun j hj => by rw [getD_replicate_false'] at hj; cases hj) hC h
  rw [hl] at this
  exact this
theorem sched_nil {Q : Act → World → Prop} {a : Act} {w : World} (h : Q a w) : wpSched P ops C Q [] a w := h
/-- An operation that only reads. -/
theorem sched_pure {Q : Act → World → Prop} {a : Act} {w : World} {i : Nat} {o : Oper} {s : List (Nat × Bool)} (ho : ops[i]? = some o)
    (h : ∀ K : Act → Prop, (∀ a', wpSched P ops C Q s a' w → K a') → if Region.wanted o (yielded ops a.tmps) then ∃ v, (∀ w', C w' → Oper.pureAt P o a w' v) ∧ K (a.put o.dst v) else K (a.put o.dst undef)) : wpSched P ops C Q ((i, true) :: s) a w := by
  have h1 := h (fun a' => wpSched P ops C Q s a' w) (fun _ h => h)
  by_cases hw : Region.wanted o (yielded ops a.tmps) = true
  · rw [if_pos hw] at h1
    obtain ⟨v, hv, hK⟩ := h1
    exact ⟨o, v, ho, .inl ⟨hw, hv⟩, hK⟩
  · rw [if_neg hw] at h1
    exact ⟨o, undef, ho, .inr ⟨by simpa using hw, rfl⟩, h1⟩
/-- One that does what it likes. -/
theorem sched_loud {Q : Act → World → Prop} {a : Act} {w : World} {i : Nat} {o : Oper} {s : List (Nat × Bool)} (ho : ops[i]? = some o)
    (h : ∀ K : Act → World → Prop, (∀ a' w', C w' → wpSched P ops C Q s a' w' → K a' w') → if Region.wanted o (yielded ops a.tmps) then o.wp P a w K (fun _ _ _ => False) else K (a.put o.dst undef) w) : wpSched P ops C Q ((i, false) :: s) a w := by
  show louOp P ops i _ a w
  unfold louOp
  simp only [ho]
  exact h _ (fun a' w' h1 h2 => ⟨h1, h2⟩)
/-! ### Step by step, where two operations that do what they like may come up -/
theorem anyC_pure {Q : Act → World → Prop} {z fuel : Nat} {listed : Array Bool} {a : Act} {w : World} (i : Nat) {o : Oper} (ho : ops[i]? = some o) (hs : Region.noSelect ops = true) (hz : (waitsAll md ops z && (!(i == z) && closedB md ops listed)) = true) (hr : ((Region.ready md ops listed).contains i && Region.free md ops listed i) = true) (hC : C w)
    (h : ∀ K : Act → Prop, (∀ a', wpAnyC P md ops C z Q fuel (listed.setIfInBounds i true) a' w → K a') → if Region.wanted o (yielded ops a.tmps) then ∃ v, (∀ w', C w' → Oper.pureAt P o a w' v) ∧ K (a.put o.dst v) else K (a.put o.dst undef)) : wpAnyC P md ops C z Q (fuel + 1) listed a w := by
  simp only [Bool.and_eq_true, Bool.not_eq_true', beq_eq_false_iff_ne] at hr hz
  have h1 := h (fun a' => wpAnyC P md ops C z Q fuel (listed.setIfInBounds i true) a' w) (fun _ h => h)
  by_cases hw : Region.wanted o (yielded ops a.tmps) = true
  · rw [if_pos hw] at h1
    obtain ⟨v, hv, hK⟩ := h1
    exact wpAnyC_first ho (Region.noSelect_spec hs) hz.1 hz.2.1 fuel listed a w (Region.free_spec ho hr.2) (by simpa using hr.1) (closed_of hz.2.2) (.inl ⟨hw, hv⟩) hC hK
  · rw [if_neg hw] at h1
    exact wpAnyC_first ho (Region.noSelect_spec hs) hz.1 hz.2.1 fuel listed a w (Region.free_spec ho hr.2) (by simpa using hr.1) (closed_of hz.2.2) (.inr ⟨by simpa using hw, rfl⟩) hC h1
theorem lou_of {i : Nat} {o : Oper} {K : Act → World → Prop} {a : Act} {w : World} (ho : ops[i]? = some o) (h : ∀ K' : Act → World → Prop, (∀ a' w', K a' w' → K' a' w') → if Region.wanted o (yielded ops a.tmps) then o.wp P a w K' (fun _ _ _ => False) else K' (a.put o.dst undef) w) : louOp P ops i K a w := by
  unfold louOp
  simp only [ho]
  exact h _ (fun _ _ h => h)
theorem anyC_loud {Q : Act → World → Prop} {z fuel : Nat} {listed : Array Bool} {a : Act} {w : World} (i : Nat) (hr : Region.ready md ops listed = [i]) (h : louOp P ops i (fun a' w' => (i ≠ z → C w') ∧ wpAnyC P md ops C z Q fuel (listed.setIfInBounds i true) a' w') a w) : wpAnyC P md ops C z Q (fuel + 1) listed a w := by
  refine ⟨(fun h0 => by rw [hr] at h0; cases h0), fun j hj => ?_⟩
  rw [hr] at hj
  obtain rfl : j = i := by simpa using hj
  exact h
theorem anyC_loud2 {Q : Act → World → Prop} {z fuel : Nat} {listed : Array Bool} {a : Act} {w : World} (i k : Nat) (hr : Region.ready md ops listed = [i, k]) (h : louOp P ops i (fun a' w' => (i ≠ z → C w') ∧ wpAnyC P md ops C z Q fuel (listed.setIfInBounds i true) a' w') a w) (h2 : louOp P ops k (fun a' w' => (k ≠ z → C w') ∧ wpAnyC P md ops C z Q fuel (listed.setIfInBounds k true) a' w') a w) : wpAnyC P md ops C z Q (fuel + 1) listed a w := by
  refine ⟨(fun h0 => by rw [hr] at h0; cases h0), fun j hj => ?_⟩
  rw [hr] at hj
  rcases List.mem_cons.1 hj with rfl | hj
  · exact h
  · obtain rfl : j = k := by simpa using hj
    exact h2
theorem anyC_done {Q : Act → World → Prop} {z fuel : Nat} {listed : Array Bool} {a : Act} {w : World} (hr : Region.ready md ops listed = []) (h : Q a w) : wpAnyC P md ops C z Q fuel listed a w := by
  cases fuel with
  | zero => exact ⟨hr, h⟩
  | succ f => exact ⟨fun _ => h, fun j hj => by rw [hr] at hj; cases hj⟩
/-- The region, cut off from what follows. -/
theorem wp_region_C {id : Nat} {Q : Exit → Act → World → Prop} {a : Act} {w : World} (C : World → Prop) (z : Nat) (I : Act → World → Prop) (hm : P.follows .mixedOrders = true) (h : wpAnyC P .any ops C z I ops.size (Array.replicate ops.size false) a w.drew) (hQ : ∀ a' w', I a' w' → Q .normal a' w') : (Code.region id ops true).wp P Q a w :=
  wp_region_any hm (wpAny_of_C (C := C) (z := z) (Q := I) hQ _ _ _ _ h)
/-- An append, its run being known. -/
theorem lou_append {i : Nat} {o : Oper} {K : Act → World → Prop} {a : Act} {w : World} (ho : ops[i]? = some o) (hgd : o.guard = none) (s x : Operand) (t tx : TypeId) (hop : o.op = .call { callee := .builtin .append, args := #[s, x], argTypes := #[t, tx] }) (v xv : Value) (hs : a.eval s = v) (hx : a.eval x = xv) {v' : Value} {w' : World}
    (hr : (Builtin.append_ #[t, tx] o.type #[v, xv]).run P w = .ok v' w') (h : K (a.put o.dst v') w') : louOp P ops i K a w := by
  unfold louOp
  simp only [ho]
  have hw : Region.wanted o (yielded ops a.tmps) = true := by simp [Region.wanted, hgd]
  rw [if_pos hw]
  unfold Oper.wp
  simp [execOp, hop, resolve, invoke, builtin, hs, hx, hr, Result.andThen, Oper.upon]
  exact h
end
end Go.Proofs.YtdookhmaiapclaaGreatDoor
namespace Go.Proofs.YtdookhmaiapclaaGreatDoor
open Go.RowKit

attribute [local go_sem] Oper.pureAt Oper.pureUpon
theorem owns_monoB {w : World} {base base' : Nat} {e : TypeId} {size : Nat} {v : Value} {n : Nat} {xs : List Value} (h : w.ownsRow base e size v n xs) (hb : base' ≤ base) : w.ownsRow base' e size v n xs := by
  refine ⟨h.1, ?_⟩
  rcases h.2 with h2 | ⟨g, cap, cur, e1, e2, r⟩
  · exact .inl h2
  · exact .inr ⟨g, cap, cur, e1, Nat.le_trans hb e2, r⟩
/-- A filter in bytes. -/
def encF (k : Nat) (l : List UInt8) : List UInt8 := numL k ++ numL l.length ++ l
theorem FAt.sees {w : World} {m : FM} {k : Nat} {l : List UInt8} (h : FAt w m k l) : Sees w (some ⟨m.g, 0, none⟩) l := by
  intro i hi
  refine ⟨_, rfl, ?_⟩
  rw [Addr.add_lit, Nat.zero_add]
  exact h.byte hi
set_option maxRecDepth 100000 in
set_option maxHeartbeats 1000000 in
theorem fbytes_any {w : World} {m : FM} {k : Nat} {l : List UInt8} (h : FAt w m k l) :
    Calls Tryz.prog 58 #[m.v] w fun e w' => ∃ v, e = .returned v ∧ w'.ownsRow w.heap.size 5 1 v (encF k l).length (B8 (encF k l)) ∧ Below w.heap.size w w' := by
  obtain ⟨i0, hi, hz0, hz1, hz2⟩ := info_parts info8
  have M := made_any h
  have hlen := h.len
  have hk2 := h.k2
  have l1 := h.head.lt
  have hn1 : (numL k).length ≤ 10 := (numL_length k).2
  have hn2 : (numL l.length).length ≤ 10 := (numL_length l.length).2
  have P1 : Hid (∀ u, Below w.heap.size w u → Calls Tryz.prog 94 #[.slice none 0 0, .int .u64 (k : Int)] u fun e w' => ∃ v', e = .returned v' ∧ w'.ownsRow w.heap.size 5 1 v' (numL k).length (B8 (numL k)) ∧ Below w.heap.size w w') := fun u hu => by
    refine (put_any none [] 0 k u (Sees.nil _ _) (fun _ => rfl) (by simp) (by omega)).mono ?_
    rintro e w' ⟨v, rfl, ho, hb⟩
    refine ⟨v, rfl, ?_, hu.trans (hb.mono hu.size)⟩
    simp only [List.length_nil, Nat.zero_add, List.nil_append] at ho
    exact owns_monoB ho hu.size
  have P2 : Hid (∀ u v, Below w.heap.size w u → u.ownsRow w.heap.size 5 1 v (numL k).length (B8 (numL k)) → Calls Tryz.prog 94 #[v, .int .u64 (l.length : Int)] u fun e w' => ∃ v', e = .returned v' ∧ w'.ownsRow w.heap.size 5 1 v' (numL k ++ numL l.length).length (B8 (numL k ++ numL l.length)) ∧ Below w.heap.size w w') := fun u v hu hv => by
    obtain ⟨ao, cap, rfl, hsee, hll, hnn⟩ := owns_sees hv
    refine (put_any ao (numL k) cap l.length u hsee (fun e => (hnn e).1 ▸ rfl) (by omega) (by omega)).mono ?_
    rintro e w' ⟨v, rfl, ho, hb⟩
    refine ⟨v, rfl, ?_, hu.trans (hb.mono hu.size)⟩
    rw [List.length_append]
    exact owns_monoB ho hu.size
  have c0 : ∀ q : Cl w.heap.size w, q.u.cell? ⟨m.d, 0, none⟩ = some (.int .i64 (k : Int)) := fun q => q.cell l1 h.c0
  have c1 : ∀ q : Cl w.heap.size w, q.u.cell? ⟨m.d, 1, none⟩ = some (.slice (some ⟨m.g, 0, none⟩) l.length m.cap) := fun q => q.cell l1 h.c1
  have Wk : Hid (IntKind.u64.wrap (k : Int) = (k : Int)) := by show _ = _; rw [IntKind.wrap_u64]; omega
  have Wl : Hid (IntKind.u64.wrap (l.length : Int) = (l.length : Int)) := by show _ = _; rw [IntKind.wrap_u64]; omega
  haveI := Cl.inh w.heap.size w
  go_enter Tryz.func58, Tryz.ntmps58
  go_wp2_with fail
  refine M.mono ?_
  rintro e w1 ⟨rfl, rfl⟩
  clear M
  go_wp2_with fail
  refine wp_region_sched (fun w' => ∃ p : Cl w1.heap.size w1, w' = p.u) [(0, true), (1, true), (2, true), (3, true), (4, true), (6, true), (7, true), (8, true), (9, true), (10, true), (11, true), (5, false), (12, false), (13, true)] rfl (by kernel_rfl) (by kernel_rfl) (by kernel_rfl) ⟨⟨_, (Below.refl _ _).drew⟩, rfl⟩ ?_
  iterate 11 (refine sched_pure rfl (fun K hK => ?_); go_simp; refine hK _ ?_; clear hK K)
  rw [Wk.out, Wl.out]
  refine sched_loud rfl (fun K hK => ?_)
  go_simp
  refine (P1.out _ (Below.refl _ _).drew).mono ?_
  rintro e u1 ⟨v1, rfl, x1, y1⟩
  refine hK _ _ ⟨⟨u1, y1⟩, rfl⟩ ?_
  clear hK K
  refine sched_loud rfl (fun K hK => ?_)
  go_simp
  refine (P2.out _ _ y1 x1).mono ?_
  rintro e u2 ⟨v2, rfl, x2, y2⟩
  refine hK _ _ ⟨⟨u2, y2⟩, rfl⟩ ?_
  clear hK K
  refine sched_pure rfl (fun K hK => ?_)
  go_simp
  refine hK _ ?_
  clear hK K
  refine sched_nil ?_
  have h2 := h.below y2 (Nat.le_refl _)
  have d1 := h2.c1
  have hl2 : (numL k ++ numL l.length).length ≤ 20 := by rw [List.length_append]; omega
  go_wp2_with (at_builtin; go_must (refine wpList_append_grew _ rfl _ _ 29 29 rfl w1.heap.size 5 i0 (.int .u8 0) 1 1 Tryz.underlying29 hi hz0 hz1 hz2 rfl _ (numL k ++ numL l.length).length _ rfl x2 _ l.length (B8 l) rfl (src_sees Tryz.underlying29 h2.sees (fun e => by cases e) _) (by unfold maxLen; omega) (by omega) y2.size ?_; intro v3 w3 ho3 hG3))
  go_ret
  refine ⟨_, rfl, ?_, y2.trans (hG3.below y2.size (fun g hg => (x2.lt g hg).1))⟩
  unfold encF
  rw [List.length_append, B8_append]
  exact ho3
end Go.Proofs.YtdookhmaiapclaaGreatDoor
namespace Go.Proofs.YtdookhmaiapclaaGreatDoor
open Go.RowKit

/-- How many blocks so many cells have. -/
def nBk (n : Nat) : Nat := (n + 7) / 8
/-- A block's cells. -/
def chk (l : List Cx) (k : Nat) : List Cx := (l.drop (8 * k)).take 8
/-- Cells in bytes. -/
def cxB (l : List Cx) : List UInt8 := cellsL (l.map toC)
def blkB (l : List Cx) (k : Nat) : List UInt8 := frameL (cxB (chk l k))
def blksB (l : List Cx) (ks : List Nat) : List UInt8 := ks.flatMap (blkB l)
/-- The bytes of the first cell's key. -/
def kyB : List Cx → List UInt8
  | [] => []
  | c :: _ => encK c.k.ky
def ixB (l : List Cx) (k : Nat) : List UInt8 := txtL (kyB (chk l k)) ++ numL (blkB l k).length
def idxB (l : List Cx) (ks : List Nat) : List UInt8 := numL (nBk l.length) ++ ks.flatMap (ixB l)
/-- The filter's bits. -/
def filB (n : Nat) (l : List Cx) : List UInt8 := l.foldl (fun f c => addK f (sumB (encK c.k.ky) 0#64) 7) (List.replicate (nOf n 10) 0)
def fltB (l : List Cx) : List UInt8 := encF 7 (filB l.length l)
def allK (l : List Cx) : List Nat := List.range (nBk l.length)
def headB (l : List Cx) : List UInt8 := blksB l (allK l) ++ frameL (idxB l (allK l)) ++ frameL (fltB l)
def endC (l : List Cx) : List UInt8 := numL l.length ++ (numL (blksB l (allK l)).length ++ (numL (frameL (idxB l (allK l))).length ++ (numL (frameL (fltB l)).length ++ numL (sumZ (headB l)).toNat)))
def encTb (l : List Cx) : List UInt8 := headB l ++ frameL (endC l) ++ [UInt8.ofNat (frameL (endC l)).length]
/-- May cells be a table? -/
noncomputable def wrtB (l : List Cx) : Bool := decide (0 < l.length) && (srtB l && l.all goodC)

theorem frameL_len (l : List UInt8) : (frameL l).length = l.length + 8 := by simp [frameL, fourL]
theorem numL_two (u : Nat) (h : u < 16384) : (numL u).length ≤ 2 := by
  unfold numL
  by_cases h1 : u < 128
  · rw [numF_small _ _ h1]; simp
  · rw [numF_great _ _ (by omega), numF_small _ _ (by omega)]; simp
theorem chk_len (l : List Cx) (k : Nat) : (chk l k).length ≤ 8 := by unfold chk; rw [List.length_take]; omega
theorem chk_mem {l : List Cx} {k : Nat} {c : Cx} (h : c ∈ chk l k) : c ∈ l := List.mem_of_mem_drop (List.mem_of_mem_take h)
/-- How great a good cell is. -/
structure SmallX (x : Cx) : Prop where
  t : x.k.t.size ≤ 16
  p : x.k.p.size ≤ 64
  c : x.k.c.size ≤ 16
  s : x.v.s.size ≤ 64
theorem good_small {c : Cx} (h : goodC c = true) : SmallX c := by
  unfold goodC at h
  rw [Bool.and_eq_true] at h
  obtain ⟨h1, h2⟩ := h
  unfold goodK Kb.ky at h1
  simp only [Bool.and_eq_true, decide_eq_true_eq, Bool.or_eq_true, beq_iff_eq] at h1
  obtain ⟨⟨⟨h3, -⟩, h4⟩, h5⟩ := h1
  have h6 := (name_iff _).1 h3
  refine ⟨by rw [← nb_size]; exact h6.2.1, by rw [← nb_size]; exact h4, ?_, ?_⟩
  · rcases h5 with h5 | h5
    · rw [← nb_size, h5]; decide
    · rw [← nb_size]; exact ((name_iff _).1 h5).2.1
  · unfold goodV zeroVal at h2
    split at h2
    · simp only [Bool.and_eq_true, decide_eq_true_eq] at h2; omega
    · rw [Bool.and_eq_true] at h2
      have h7 := h2.2
      split at h7
      · simp only [Bool.and_eq_true, decide_eq_true_eq] at h7; omega
      · simp only [Bool.and_eq_true, Bool.or_eq_true, decide_eq_true_eq] at h7; omega
theorem SmallX.ok {c : Cx} (h : SmallX c) (hr : InI c.k.r) : c.k.Ok := ⟨Nat.le_trans h.t (by decide), Nat.le_trans h.p (by decide), Nat.le_trans h.c (by decide), hr⟩
theorem wtYs_small : ∀ {l : List Cx}, (∀ c ∈ l, SmallX c) → wtYs l ≤ 160 * l.length
  | [], _ => by simp [wtYs]
  | c :: l, h => by
    have h1 := wtYs_small (l := l) fun x hx => h x (List.mem_cons_of_mem _ hx)
    have h2 := h c (by simp)
    obtain ⟨a, b, d, e⟩ := h2
    have h3 : wtY c ≤ 160 := by unfold wtY; split <;> omega
    unfold wtYs at *
    simp only [List.map_cons, List.sum_cons, List.length_cons]
    omega
theorem cxB_len {l : List Cx} (h : ∀ c ∈ l, SmallX c) : (cxB l).length ≤ 10 + 241 * l.length := by
  have h1 := wtYs_small h
  have h2 := manyL_leD (l.map toC)
  have h3 := (numL_length (l.map toC).length).2
  rw [wtL_toC, List.length_map] at h2
  unfold cxB cellsL
  rw [List.length_append]
  omega
theorem encK_len {c : Cx} (h : SmallX c) : (encK c.k.ky).length ≤ 206 := by
  obtain ⟨a, b, d, -⟩ := h
  have h1 := esc_len (nb c.k.t)
  have h2 := esc_len (nb c.k.p)
  have h3 := esc_len (nb c.k.c)
  have h4 : (encR c.k.r).length = 8 := be_length _ _
  rw [nb_size] at h1 h2 h3
  unfold encK Kb.ky
  simp only [List.length_append, encT_len, h4]
  omega
theorem kyB_len {l : List Cx} (h : ∀ c ∈ l, SmallX c) : (kyB l).length ≤ 206 := by
  cases l with
  | nil => simp [kyB]
  | cons c l => exact encK_len (h c (by simp))
theorem chkB_len {l : List Cx} (h : ∀ c ∈ l, SmallX c) (k : Nat) : (cxB (chk l k)).length ≤ 1938 := by
  have h1 := cxB_len (l := chk l k) fun c hc => h c (chk_mem hc)
  have h2 := chk_len l k
  omega
theorem ixB_len {l : List Cx} (h : ∀ c ∈ l, SmallX c) (k : Nat) : (ixB l k).length ≤ 210 := by
  have h1 := kyB_len (l := chk l k) fun c hc => h c (chk_mem hc)
  have h2 := chkB_len h k
  have h3 := numL_two (kyB (chk l k)).length (by omega)
  have h4 := numL_two (blkB l k).length (by unfold blkB; rw [frameL_len]; omega)
  unfold ixB txtL
  simp only [List.length_append]
  omega
theorem flat_le {α β : Type} (f : α → List β) (m : Nat) (h : ∀ x, (f x).length ≤ m) : ∀ l : List α, (l.flatMap f).length ≤ m * l.length
  | [] => by simp
  | x :: l => by
    have h1 := flat_le f m h l
    have h2 := h x
    rw [List.flatMap_cons, List.length_append, List.length_cons, Nat.mul_succ]
    omega
theorem blksB_len {l : List Cx} (h : ∀ c ∈ l, SmallX c) (ks : List Nat) : (blksB l ks).length ≤ 1946 * ks.length :=
  flat_le _ _ (fun k => by unfold blkB; rw [frameL_len]; have := chkB_len h k; omega) ks
theorem idxB_len {l : List Cx} (h : ∀ c ∈ l, SmallX c) (ks : List Nat) : (idxB l ks).length ≤ 10 + 210 * ks.length := by
  have h1 := flat_le (ixB l) 210 (ixB_len h) ks
  have h2 := (numL_length (nBk l.length)).2
  unfold idxB
  rw [List.length_append]
  omega
theorem filB_len : ∀ (n : Nat) (l : List Cx), (filB n l).length = nOf n 10 := by
  intro n l
  have H : ∀ (l : List Cx) (f : List UInt8), (l.foldl (fun f c => addK f (sumB (encK c.k.ky) 0#64) 7) f).length = f.length := by
    intro l
    induction l with
    | nil => intro f; rfl
    | cons c l ih => intro f; rw [List.foldl_cons, ih, addK_length]
  unfold filB
  rw [H, List.length_replicate]
theorem fltB_len (l : List Cx) : (fltB l).length ≤ 20 + nOf l.length 10 := by
  have h1 := (numL_length 7).2
  have h2 := (numL_length (filB l.length l).length).2
  have h3 := filB_len l.length l
  unfold fltB encF
  simp only [List.length_append]
  omega
theorem endC_len (l : List Cx) : (endC l).length ≤ 50 := by
  have h1 := (numL_length l.length).2
  have h2 := (numL_length (blksB l (allK l)).length).2
  have h3 := (numL_length (frameL (idxB l (allK l))).length).2
  have h4 := (numL_length (frameL (fltB l)).length).2
  have h5 := (numL_length (sumZ (headB l)).toNat).2
  unfold endC
  simp only [List.length_append]
  omega
theorem allK_len (l : List Cx) : (allK l).length = nBk l.length := List.length_range
end Go.Proofs.YtdookhmaiapclaaGreatDoor
namespace Go.Proofs.YtdookhmaiapclaaGreatDoor
open Go.RowKit Go.Shelf

attribute [local go_sem] Oper.semAt_some

/-- Two blocks are as they were. -/
structure Two (b1 b2 : Nat) (w w' : World) : Prop where
  fst : w'.heap[b1]? = w.heap[b1]?
  snd : w'.heap[b2]? = w.heap[b2]?
theorem Two.refl (b1 b2 : Nat) (w : World) : Two b1 b2 w w := ⟨rfl, rfl⟩
theorem Two.trans {b1 b2 : Nat} {a b c : World} (h : Two b1 b2 a b) (g : Two b1 b2 b c) : Two b1 b2 a c := ⟨g.fst.trans h.fst, g.snd.trans h.snd⟩
theorem twoK_b {b1 b2 : Nat} {w : World} (h1 : b1 < w.heap.size) (h2 : b2 < w.heap.size) (W : World) (l : Nat) (o o' : Obj) (hl : w.heap.size ≤ l) (_ : W.heap[l]? = some o) (_ : o.isCells = false) (_ : o.isWalk = false) : Two b1 b2 W (W.putObj l o') :=
  ⟨World.putObj_heap_other (by omega), World.putObj_heap_other (by omega)⟩
/-- A block's cells, as a slice. -/
def chkV (b off m k : Nat) : Value := .slice (some ⟨b, off + 8 * k * 10, none⟩) (min 8 (m - 8 * k)) (min 8 (m - 8 * k))
theorem range_snoc (k : Nat) : List.range (k + 1) = List.range k ++ [k] := List.range_succ
set_option maxRecDepth 100000 in
set_option maxHeartbeats 2000000 in
theorem chunk1_in (F : Fence) (n : Nat) (hf : F.fn 117) (hro : F.round = none) (hn : 1 ≤ n) (l b1 b2 b off m cap : Nat) (hm : m ≤ 20000) (hcap : m ≤ cap) (J Jx : List Nat → World → Prop)
    (hY : ∀ pre x W, J pre W → x < nBk m → pre.length < nBk m → YieldAt F (n - 1) Tryz.prog l #[chkV b off m x] W fun e W' =>
      (e = .returned (.bool true) ∧ J (pre ++ [x]) W' ∧ Two b1 b2 W W') ∨ (e = .returned (.bool false) ∧ Jx (pre ++ [x]) W'))
    (W : World) (hc1 : W.cell? ⟨b1, 0, none⟩ = some (.slice (some ⟨b, off, none⟩) m cap)) (hc2 : W.cell? ⟨b2, 0, none⟩ = some (.int .i64 8)) (hA : AbidesFrom W.heap.size J) (h0 : J [] W) :
    CallsIn F n Tryz.prog 117 #[.func (.yield l) #[] #[], .pointer (some ⟨b1, 0, none⟩), .pointer (some ⟨b2, 0, none⟩)] W fun e W' => (∃ v, e = .returned v) ∧
      ((∃ ys, ys = List.range (nBk m) ∧ J ys W') ∨ (∃ pre, pre <+: List.range (nBk m) ∧ Jx pre W')) := by
  refine callsIn_of_wp Tryz.func117 rfl hf ?_ hro
  simp only [Tryz.ntmps117, List.size_toArray, List.length_cons, List.length_nil, Nat.reduceAdd, Nat.reduceSub, Array.replicate_succ, Array.replicate_zero, List.push_toArray, List.append_toArray, List.nil_append, List.cons_append]
  have hmz : (m : Int) ≤ 20000 := by omega
  gi_wp2
  gi_loopw [4] (fun i wr => ∃ k j : Nat, j = 8 * k ∧ k ≤ nBk m ∧ i = .int .i64 j ∧ J (List.range k) wr ∧ Two b1 b2 W wr) (fun i _ => m - (intOf i).toNat)
  case atStart => exact ⟨0, 0, rfl, Nat.zero_le _, rfl, h0, Two.refl _ _ _⟩
  case round =>
    obtain ⟨k, j, hj, hk, rfl, hJs, hnx⟩ := hrel
    have k1 : wr.cell? ⟨b1, 0, none⟩ = some (.slice (some ⟨b, off, none⟩) m cap) := by rw [World.cell?_of_block hnx.fst]; exact hc1
    have k2 : wr.cell? ⟨b2, 0, none⟩ = some (.int .i64 8) := by rw [World.cell?_of_block hnx.snd]; exact hc2
    have hJ0 : ∀ wz, wz = wr.drew → J (List.range k) wz := fun wz e => by
      subst e
      exact hA _ wr wr.drew none hJs ⟨rfl, rfl, rfl, Nat.le_refl _, fun _ _ _ => rfl⟩ (fun r e => by cases e)
    have hnd : Two b1 b2 W wr.drew := ⟨hnx.fst, hnx.snd⟩
    by_cases hlt : j < m
    · have hkk : k < nBk m := by unfold nBk; omega
      obtain ⟨fn, tmps, assign, body, hy, hR⟩ := hY _ k wr.drew (hJ0 _ rfl) hkk (by rw [List.length_range]; exact hkk)
      have hpre : List.range (k + 1) <+: List.range (nBk m) := by
        refine ⟨(List.range (nBk m)).drop (k + 1), ?_⟩
        have e : List.range (k + 1) = (List.range (nBk m)).take (k + 1) := by rw [List.take_range]; congr 1; omega
        rw [e, List.take_append_drop]
      obtain ⟨r, hr⟩ : ∃ r, r = min 8 (m - j) := ⟨_, rfl⟩
      have hv : chkV b off m k = .slice (some ⟨b, off + j * 10, none⟩) r r := by unfold chkV; rw [hr, hj]
      rw [hv] at hy
      have hltz : (j : Int) < (m : Int) := by omega
      have hJ9 := range_snoc k
      have hr8 : (8 : Int) ≤ (m : Int) - (j : Int) → r = 8 := by omega
      have hr9 : (m : Int) - (j : Int) < 8 → (r : Int) = (m : Int) - (j : Int) := by omega
      clear hA hJ0 hY
      have Hj : Hid (j = 8 * k) := hj
      clear hj
      have e1 : ((j : Int) + min 8 ((m - j : Nat) : Int)).toNat - j = r := by omega
      have hR2 : Hid (RoundIn F (n - 1) Tryz.prog l fn tmps assign body wr.drew fun e W' => e = Ending.returned (.bool true) ∧ J (List.range k ++ [k]) W' ∧ Two b1 b2 wr.drew W' ∨ e = Ending.returned (.bool false) ∧ Jx (List.range k ++ [k]) W') := hR
      have hnr : Hid (∃ q, m - j = q + 1) := ⟨m - j - 1, by omega⟩
      clear hr hr8 hr9 hv hR
      gi_wp2
      gi_region
      all_goals gi_wp2
      all_goals
        refine hR2.out.mono ?_
        rintro e W3 (⟨rfl, hJ3, hk3⟩ | ⟨rfl, hJx3⟩)
        · have k3 : W3.cell? ⟨b2, 0, none⟩ = some (.int .i64 8) := by rw [World.cell?_of_block (hnd.trans hk3).snd]; exact hc2
          dsimp only
          gi_wp2
          go_roundw
          case rel => exact ⟨k + 1, j + 8, by have := Hj.out; omega, hkk, by simp, by rw [hJ9]; exact hJ3, hnd.trans hk3⟩
          case measure => simp [intOf]; omega
        · dsimp only
          gi_wp2
          refine bodyPost_ret (results_none rfl _ _ _) rfl ?_
          exact ⟨⟨_, rfl⟩, .inr ⟨_, hpre, by rw [hJ9]; exact hJx3⟩⟩
    · obtain rfl : k = nBk m := by unfold nBk at hk ⊢; omega
      clear hA hJ0 hY
      gi_wp2
      go_end0
      exact ⟨⟨_, rfl⟩, .inl ⟨_, rfl, hJs⟩⟩
set_option maxRecDepth 100000 in
theorem chunk_any (ao : Option Addr) (m cap : Nat) (w : World) :
    Calls Tryz.prog 88 #[.slice ao m cap, .int .i64 8] w fun e w' => e = .returned (.func (.func 117) #[] #[.pointer (some ⟨w.heap.size, 0, none⟩), .pointer (some ⟨w.heap.size + 1, 0, none⟩)]) ∧ w' = (w.alloc (.cells #[.slice ao m cap] 22)).alloc (.cells #[.int .i64 8] 3) := by
  have b2 := (Boxed.new (w.alloc (.cells #[.slice ao m cap] 22)) 3 (.int .i64 8)).cell
  rw [World.size_alloc] at b2
  go_enter Tryz.func88, Tryz.ntmps88
  go_wp2_with fail
  go_ret
  exact ⟨rfl, rfl⟩
/-- Rows of numbers below a bound. -/
def vals {N : Nat} (l : List (Fin N)) : List Nat := l.map Fin.val
theorem vals_snoc {N : Nat} (l : List (Fin N)) (x : Fin N) : vals (l ++ [x]) = vals l ++ [x.1] := by simp [vals]
theorem chunk_stops (F : Fence) (n : Nat) (hf : F.fn 117) (hro : F.round = none) (hn : 1 ≤ n) (b1 b2 b off m cap : Nat) (hm : m ≤ 20000) (hcap : m ≤ cap) (w : World) (h1 : Boxed w b1 22 (.slice (some ⟨b, off, none⟩) m cap)) (h2 : Boxed w b2 3 (.int .i64 8)) :
    SeqStopsK F n Tryz.prog 117 #[.pointer (some ⟨b1, 0, none⟩), .pointer (some ⟨b2, 0, none⟩)] (fun k : Fin (nBk m) => #[chkV b off m k.1]) (Two b1 b2) (fun ys => vals ys = List.range (nBk m)) (fun _ => True) (nBk m) w := fun l J Jx W hW hA _ hY h0 => by
  refine (chunk1_in F n hf hro hn l b1 b2 b off m cap hm hcap (fun ks W => ∃ pre : List (Fin (nBk m)), vals pre = ks ∧ J pre W) (fun ks W => ∃ pre : List (Fin (nBk m)), vals pre = ks ∧ Jx pre W) ?_ W ((hW.cell (p := ⟨b1, 0, none⟩) h1.lt).trans h1.cell) ((hW.cell (p := ⟨b2, 0, none⟩) h2.lt).trans h2.cell) ?_ ⟨[], rfl, h0⟩).mono ?_
  · rintro ks x W1 ⟨pre, rfl, hJ⟩ hx hl
    obtain ⟨fn, tmps, assign, body, hy, hR⟩ := hY pre ⟨x, hx⟩ W1 hJ (by simpa [vals] using hl)
    refine ⟨fn, tmps, assign, body, hy, hR.mono ?_⟩
    rintro e W' (⟨he, hj, ht⟩ | ⟨he, hj⟩)
    · exact .inl ⟨he, ⟨_, vals_snoc _ _, hj⟩, ht⟩
    · exact .inr ⟨he, ⟨_, vals_snoc _ _, hj⟩⟩
  · rintro ks A B row ⟨pre, rfl, hJ⟩ hg hr
    exact ⟨pre, rfl, hA pre A B row hJ hg hr⟩
  · rintro e W' ⟨he, ⟨ys, rfl, pre, hp, hJ⟩ | ⟨ks, -, pre, -, hJ⟩⟩
    · exact ⟨he, .inl ⟨pre, hp, hJ⟩⟩
    · exact ⟨he, .inr ⟨pre, trivial, hJ⟩⟩
end Go.Proofs.YtdookhmaiapclaaGreatDoor
namespace Go.Proofs.YtdookhmaiapclaaGreatDoor
open Go.RowKit

/-- No operation is a defer statement. -/
def noDefer (ops : Array Oper) : Bool := ops.toList.all fun o => match o.op with | .defer _ => false | _ => true
theorem noDefer_at {ops : Array Oper} (h : noDefer ops = true) {i : Nat} {o : Oper} (ho : ops[i]? = some o) : ∀ c, o.op ≠ .defer c := fun c hc => by
  have hm : o ∈ ops.toList := by
    have := List.mem_of_getElem? (l := ops.toList) (i := i) (a := o) (by simpa using ho)
    exact this
  have h1 := List.all_eq_true.1 h o hm
  rw [hc] at h1
  cases h1
section
variable {F : Fence} {n : Nat} {P : Program} {ops : Array Oper} {md : Region.Mode} {C : World → Prop}
theorem wpInR_of_quiet {o : Oper} {a : Act} {K : Act → Prop} {K' : Act → World → Prop} {Q' : Exit → Act → World → Prop} {w : World} (hnd : ∀ c, o.op ≠ .defer c) (hw : C w) (h : ∀ a w', C w' → K a → K' a w')
    (ha : o.askedIn F P a C) (hh : o.quietIn F n P a C K) : o.wpIn F n P a w K' Q' := by
  obtain ⟨v, h1, h2⟩ := hh
  have h3 := h1 w hw
  unfold Oper.quietAtIn at h3
  unfold Oper.wpIn
  refine ⟨ha w hw, ?_⟩
  rw [Oper.semAt_plain F _ _ hnd]
  generalize (execOp a.eval o).run P w = r at *
  cases r with
  | ok x w' =>
    cases x <;> simp only [Oper.quietUponIn] at h3 <;> simp only [Oper.uponIn]
    case value u =>
      obtain ⟨e1, e2⟩ := h3
      rw [e1, e2]
      exact h _ _ hw h2
    case skip =>
      obtain ⟨e1, e2⟩ := h3
      rw [e1, ← e2]
      exact h _ _ hw h2
    case enter f args =>
      obtain ⟨e1, hd, hc⟩ := h3
      rw [e1]
      exact ⟨hd, hc.mono fun e w'' ⟨he, hw''⟩ => by subst he; exact h _ _ hw'' h2⟩
  | halt x w' => simp only [Oper.quietUponIn] at h3
theorem wpOpInR_of_qOpIn {i : Nat} {a : Act} {K : Act → Prop} {K' : Act → World → Prop} {Q' : Exit → Act → World → Prop} {w : World} (hnd : noDefer ops = true) (hC : C w) (h : ∀ a w', C w' → K a → K' a w')
    (hh : qOpIn F n P ops C i K a) : wpOpIn F n P ops Q' i K' a w := by
  unfold qOpIn at hh
  unfold wpOpIn
  split
  · rename_i ho; simp only [ho] at hh; exact h _ _ hC hh
  · rename_i o ho
    simp only [ho] at hh
    obtain ⟨ha, hh⟩ := hh
    split
    · rename_i hw; simp only [hw, if_true] at hh; exact wpInR_of_quiet (noDefer_at hnd ho) hC h ha hh
    · rename_i hw; simp only [hw] at hh; exact ⟨ha w hC, h _ _ hC hh⟩
theorem wpAnyInR_of_quiet {Q : Act → Prop} {Q' : Exit → Act → World → Prop} (hnd : noDefer ops = true) (hQ : ∀ a w, C w → Q a → Q' .normal a w) : ∀ (fuel : Nat) (listed : Array Bool) (a : Act) (w : World), C w →
    wpAnyQIn F n P md ops C Q fuel listed a → wpAnyIn F n P md ops Q' fuel listed a w
  | 0, _, _, _, hw, h => ⟨h.1, hQ _ _ hw h.2⟩
  | fuel + 1, _, _, _, hw, h => ⟨fun h0 => hQ _ _ hw (h.1 h0), fun i hi => wpOpInR_of_qOpIn hnd hw (fun a' w' hw' => wpAnyInR_of_quiet hnd hQ fuel _ a' w' hw') (h.2 i hi)⟩
theorem wpInR_region_quiet {id : Nat} {Q : Exit → Act → World → Prop} {a : Act} {w : World} (hnd : noDefer ops = true) (hm : P.follows .mixedOrders = true) (hB : Region.lexB .any ops = true) (hC : C { w with drawn := w.drawn + 1 })
    (h : wpQuietIn F n P ops C (fun a' => ∀ w', C w' → Q .normal a' w') ops.toList a) : (Code.region id ops true).wpIn F n P Q a w := by
  simp only [Region.lexB, Bool.and_eq_true] at hB
  refine wpIn_region_any hm (wpAnyInR_of_quiet (Q := fun a' => ∀ w', C w' → Q .normal a' w') hnd (fun _ w' hw' h => h w' hw') _ _ _ _ hC ?_)
  have := wpAnyQIn_lex (F := F) (n := n) (C := C) (md := .any) hB.1 ops.toList 0 (Array.replicate ops.size false) a (by simp) (by simpa using hB.2) h
  simpa using this
end
/-- A region of a round that draws its order, over the class of worlds in which all blocks below m are as they were. -/
theorem wpInR_region_cl {F : Fence} {n : Nat} {P : Program} {id : Nat} {Q : Exit → Act → World → Prop} {a : Act} {w : World} {l : List Oper} (m : Nat) (hnd : noDefer l.toArray = true) (hm : P.follows .mixedOrders = true) (hB : Region.lexB .any l.toArray = true)
    (h : wpQuietIn F n P l.toArray (fun w' => ∃ p : Cl m w, w' = p.u) (fun a' => ∀ w', (∃ p : Cl m w, w' = p.u) → Q .normal a' w') l a) : (Code.region id l.toArray true).wpIn F n P Q a w :=
  wpInR_region_quiet (C := fun w' => ∃ p : Cl m w, w' = p.u) hnd hm hB ⟨⟨w.drew, (Below.refl m w).drew⟩, rfl⟩ (by simpa using h)
theorem Cl.callsIn {n : Nat} {P : Program} {f : FuncId} {args : Array Value} {m l : Nat} {w : World} {p : Cl m w} {v : Value} (hn : m ≤ w.heap.size)
    (h : Calls P f args p.u fun e w' => e = .returned v ∧ Below p.u.heap.size p.u w') : CallsIn (Fence.wide.inRound l) n P f args p.u fun e w'' => e = .returned v ∧ ∃ q : Cl m w, w'' = q.u :=
  CallsIn.inRound l (callsIn_wide.2 (Cl.calls hn h))
end Go.Proofs.YtdookhmaiapclaaGreatDoor
namespace Go.Proofs.YtdookhmaiapclaaGreatDoor
open Go.RowKit

section
variable {n l : Nat} {P : Program} {ops : Array Oper} {md : Region.Mode} {C : World → Prop}
theorem wpInR_of_lou {o : Oper} {a : Act} {w : World} {K K' : Act → World → Prop} {Q : Exit → Act → World → Prop} (hnd : ∀ c, o.op ≠ .defer c) (h : ∀ a w, K a w → K' a w)
    (hh : o.wp P a w K (fun _ _ _ => False)) : o.wpIn (Fence.wide.inRound l) n P a w K' Q := by
  unfold Oper.wp at hh
  unfold Oper.wpIn
  refine ⟨fun _ _ => trivial, ?_⟩
  rw [Oper.semAt_plain _ _ _ hnd]
  generalize (execOp a.eval o).run P w = r at *
  cases r with
  | ok x w' =>
    cases x <;> simp only [Oper.upon] at hh <;> simp only [Oper.uponIn]
    case value u => exact h _ _ hh
    case skip => exact h _ _ hh
    case defer d => exact h _ _ hh
    case enter f args =>
      refine ⟨(fun h => by cases h), CallsIn.inRound l (callsIn_wide.2 (hh.mono fun e w'' he => ?_))⟩
      cases e with
      | returned v => exact h _ _ he
      | panicked c => exact he.elim
      | outgrown => exact absurd he (by simp [LetsOut])
    case row r args => exact ⟨(fun h => by cases h), fun c cs _ => let ⟨v, w'', r, s⟩ := hh c cs; ⟨v, w'', h _ _ r, stepsIn_wide.2 s⟩⟩
  | halt x w' =>
    cases x <;> simp only [Oper.upon] at hh
theorem wpOpInR_of_lou {i : Nat} {a : Act} {w : World} {K K' : Act → World → Prop} {Q : Exit → Act → World → Prop} (hnd : noDefer ops = true) (h : ∀ a w, K a w → K' a w) (hh : louOp P ops i K a w) : wpOpIn (Fence.wide.inRound l) n P ops Q i K' a w := by
  unfold louOp at hh
  unfold wpOpIn
  split
  · rename_i ho; simp only [ho] at hh
  · rename_i o ho
    simp only [ho] at hh
    split
    · rename_i hw; simp only [hw, if_true] at hh; exact wpInR_of_lou (noDefer_at hnd ho) h hh
    · rename_i hw; simp only [hw] at hh; exact ⟨fun _ _ => trivial, h _ _ hh⟩
theorem wpAnyIn_of_C {Q : Act → World → Prop} {Q' : Exit → Act → World → Prop} {z : Nat} (hnd : noDefer ops = true) (hQ : ∀ a w, Q a w → Q' .normal a w) : ∀ (fuel : Nat) (listed : Array Bool) (a : Act) (w : World), wpAnyC P md ops C z Q fuel listed a w → wpAnyIn (Fence.wide.inRound l) n P md ops Q' fuel listed a w
  | 0, _, _, _, h => ⟨h.1, hQ _ _ h.2⟩
  | fuel + 1, _, _, _, h => ⟨fun h0 => hQ _ _ (h.1 h0), fun i hi => wpOpInR_of_lou hnd (fun a' w' hh => wpAnyIn_of_C hnd hQ fuel _ a' w' hh.2) (h.2 i hi)⟩
/-- The region, cut off from what follows, in a round. -/
theorem wpInR_region_C {id : Nat} {Q : Exit → Act → World → Prop} {a : Act} {w : World} (C : World → Prop) (z : Nat) (I : Act → World → Prop) (hm : P.follows .mixedOrders = true) (hnd : noDefer ops = true) (h : wpAnyC P .any ops C z I ops.size (Array.replicate ops.size false) a w.drew) (hQ : ∀ a' w', I a' w' → Q .normal a' w') : (Code.region id ops true).wpIn (Fence.wide.inRound l) n P Q a w :=
  wpIn_region_any hm (wpAnyIn_of_C (C := C) (z := z) (Q := I) hnd hQ _ _ _ _ h)
/-- By a schedule, in a round. -/
theorem wpInR_region_sched {id : Nat} {Q : Exit → Act → World → Prop} {a : Act} {w : World} (C : World → Prop) (s : List (Nat × Bool)) (hl : s.length = ops.size) (hm : P.follows .mixedOrders = true) (hnd : noDefer ops = true) (hs : Region.noSelect ops = true) (hB : schedB .any ops s (Array.replicate ops.size false) = true)
    (hC : C w.drew) (h : wpSched P ops C (fun a' w' => Q .normal a' w') s a w.drew) : (Code.region id ops true).wpIn (Fence.wide.inRound l) n P Q a w := by
  refine wpIn_region_any hm (wpAnyIn_of_C (C := C) (z := ops.size) (Q := fun a' w' => Q .normal a' w') hnd (fun _ _ h => h) _ _ _ _ ?_)
  have := wpAnyC_sched hs s (Array.replicate ops.size false) a w.drew hB (fun j hj => by rw [getD_replicate_false'] at hj; cases hj) hC h
  rw [hl] at this
  exact this
end
end Go.Proofs.YtdookhmaiapclaaGreatDoor
namespace Go.Proofs.YtdookhmaiapclaaGreatDoor
open Go.RowKit Go.Shelf

/-- Worlds in which some cells hold some values. -/
structure Cd (ps : List (Addr × Value)) where
  u : World
  h : ∀ a v, (a, v) ∈ ps → u.cell? a = some v
/-- A row of bytes of the call's own, in a box. -/
structure IAt (w : World) (ib n1 : Nat) (v : Value) (xs : List UInt8) : Prop where
  box : Boxed w ib 29 v
  row : w.ownsRow n1 5 1 v xs.length (B8 xs)
theorem own_carry {w w' : World} {base n : Nat} {v : Value} {xs : List Value} (h : w.ownsRow base 5 1 v n xs) (er : ∀ g, v.ownBlock = some g → w'.heap[g]? = w.heap[g]?) : w'.ownsRow base 5 1 v n xs := by
  refine ⟨h.1, ?_⟩
  rcases h.2 with h2 | ⟨g, cap, cur, rfl, e2, r, rest⟩
  · exact .inl h2
  · exact .inr ⟨g, cap, cur, rfl, e2, (er g (by simp [Value.ownBlock])).trans r, rest⟩
theorem IAt.carry {w w' : World} {ib n1 : Nat} {v : Value} {xs : List UInt8} (h : IAt w ib n1 v xs) (e : w'.heap[ib]? = w.heap[ib]?) (er : ∀ g, v.ownBlock = some g → w'.heap[g]? = w.heap[g]?) : IAt w' ib n1 v xs :=
  ⟨e.trans h.box, own_carry h.row er⟩
theorem IAt.stored {w1 w2 : World} {ib n1 : Nat} {v v' : Value} {xs ys : List UInt8} {n : Nat} (h : IAt w1 ib n1 v xs) (ho : w2.ownsRow n1 5 1 v' n (B8 ys)) (hn : n = ys.length) (hg : Grew w1 w2 v v') :
    IAt (w2.setCell ⟨ib, 0, none⟩ v') ib n1 v' ys ∧ Moved w1 (w2.setCell ⟨ib, 0, none⟩ v') (ib :: ownL v) (ib :: ownL v') := by
  subst hn
  have hne : v.ownBlock ≠ some ib := fun e => h.box.not_row (by decide) h.row e.symm
  have hB2 : Boxed w2 ib 29 v := (hg.rows.block _ h.box.lt fun e => hne e.symm).trans h.box
  have hne2 : v'.ownBlock ≠ some ib := fun e => hB2.not_row (by decide) ho e.symm
  refine ⟨⟨hB2.set v', own_carry ho fun g hg' => Below.heap_setCell _ _ _ _ (fun e => hne2 (by rw [hg', show g = ib from e]))⟩, ?_⟩
  have h1 : Moved w1 w2 (ib :: ownL v) (ib :: ownL v') := hg.moved.wider (fun i hi => .inl (by simp [hi])) fun i hi => by
    rcases List.mem_cons.1 hi with rfl | hi
    · exact .inl (by simp)
    · exact .inr (.inl hi)
  exact h1.trans ((Moved.of_set ib 0 v').wider (fun i hi => .inl (by simp at hi; simp [hi])) fun i hi => .inl hi)
/-- The writer and the index beside it, and the loop's boxes. -/
structure Bk (w X0 : World) (W base n1 bw ib b1 b2 : Nat) (lv v iv : Value) (xs ys : List UInt8) (X : World) : Prop where
  wr : WAt X W base v xs
  ix : IAt X ib n1 iv ys
  dj : ∀ g, v.ownBlock = some g → iv.ownBlock ≠ some g
  bw : Boxed X bw 102 (.pointer (some ⟨W, 0, none⟩))
  b1 : Boxed X b1 22 lv
  b2 : Boxed X b2 3 (.int .i64 8)
  bel : Below base w X
  hW : base ≤ W
  hib : base ≤ ib
  hn1 : base ≤ n1
  sz : n1 ≤ X.heap.size
  ko : KeepsOthers X0 X
theorem boxed_ne {X : World} {a b : Nat} {s t : TypeId} {u v : Value} (h : Boxed X a s u) (g : Boxed X b t v) (hne : s ≠ t) : a ≠ b := fun e => by
  subst e
  have := Option.some.inj (Eq.trans (Eq.symm (show X.heap[a]? = _ from h)) g)
  simp at this
  exact hne this.2
theorem boxed_blk {X : World} {a b : Nat} {s t : TypeId} {u : Value} {cs : List Value} (h : Boxed X a s u) (g : Blk X b cs t) (hne : s ≠ t) : a ≠ b := fun e => by
  subst e
  have := Option.some.inj (Eq.trans (Eq.symm (show X.heap[a]? = _ from h)) g)
  simp at this
  exact hne this.2
section
variable {w X0 X X2 : World} {W base n1 bw ib b1 b2 : Nat} {lv v iv v2 iv2 : Value} {xs ys xs2 ys2 : List UInt8}
theorem Bk.below (h : Bk w X0 W base n1 bw ib b1 b2 lv v iv xs ys X) (hB : Below X.heap.size X X2) : Bk w X0 W base n1 bw ib b1 b2 lv v iv xs ys X2 :=
  ⟨h.wr.below hB (Nat.le_refl _), h.ix.carry (hB.block _ h.ix.box.lt) fun g hg => hB.block _ (h.ix.row.lt g hg).2, h.dj, (hB.block _ h.bw.lt).trans h.bw, (hB.block _ h.b1.lt).trans h.b1, (hB.block _ h.b2.lt).trans h.b2,
    h.bel.trans (hB.mono (by have := h.hn1; have := h.sz; omega)), h.hW, h.hib, h.hn1, Nat.le_trans h.sz hB.size, h.ko.trans ⟨hB.size, fun k o hk _ => (hB.block k (Array.getElem?_eq_some_iff.1 hk).1).trans hk⟩⟩
theorem Bk.writer (h : Bk w X0 W base n1 bw ib b1 b2 lv v iv xs ys X) (hw : WAt X2 W base v2 xs2) (hm : Moved X X2 (W :: ownL v) (W :: ownL v2)) : Bk w X0 W base n1 bw ib b1 b2 lv v2 iv xs2 ys X2 := by
  have box : ∀ {a : Nat} {t : TypeId} {u : Value}, Boxed X a t u → t ≠ 65 → t ≠ 5 → Boxed X2 a t u := fun {a t u} hb h1 h2 => by
    refine (hm.kept _ hb.lt fun e => ?_).trans hb
    rcases List.mem_cons.1 e with e | e
    · exact boxed_blk hb h.wr.blk h1 e
    · exact hb.not_row h2 h.wr.row (mem_ownL.1 e).symm
  refine ⟨hw, ⟨box h.ix.box (by decide) (by decide), own_carry h.ix.row fun g hg => hm.kept _ (h.ix.row.lt g hg).2 fun e => ?_⟩, fun g hg he => ?_, box h.bw (by decide) (by decide), box h.b1 (by decide) (by decide), box h.b2 (by decide) (by decide), h.bel.trans ?_, h.hW, h.hib, h.hn1, Nat.le_trans h.sz hm.size, h.ko.trans ⟨hm.size, fun k o hk hc => (hm.kept k (Array.getElem?_eq_some_iff.1 hk).1 fun e => ?_).trans hk⟩⟩
  · rcases List.mem_cons.1 e with rfl | e
    · exact h.wr.blk.not_row (by decide) h.ix.row hg
    · exact h.dj g (mem_ownL.1 e) hg
  · rcases hm.news g (by simp [mem_ownL.2 hg]) with e | e
    · rcases List.mem_cons.1 e with rfl | e
      · exact h.wr.blk.not_row (by decide) h.ix.row he
      · exact h.dj g (mem_ownL.1 e) he
    · have := (h.ix.row.lt g he).2; omega
  · refine hm.below (by have := h.hn1; have := h.sz; omega) fun i hi => ?_
    rcases List.mem_cons.1 hi with rfl | hi
    · exact h.hW
    · exact (h.wr.row.lt i (mem_ownL.1 hi)).1
  · rcases List.mem_cons.1 e with rfl | e
    · rw [show X.heap[k]? = _ from h.wr.blk] at hk; cases hk; cases hc
    · rcases h.wr.row.2 with ⟨e2, -⟩ | ⟨g, cap, cur, e2, -, r, -⟩
      · rw [e2] at e; simp [ownL, Value.ownBlock] at e
      · rw [e2] at e
        obtain rfl : k = g := by simpa [ownL, Value.ownBlock] using e
        rw [r] at hk; cases hk; cases hc
theorem Bk.index (h : Bk w X0 W base n1 bw ib b1 b2 lv v iv xs ys X) (hw : IAt X2 ib n1 iv2 ys2) (hm : Moved X X2 (ib :: ownL iv) (ib :: ownL iv2)) : Bk w X0 W base n1 bw ib b1 b2 lv v iv2 xs ys2 X2 := by
  have box : ∀ {a : Nat} {t : TypeId} {u : Value}, Boxed X a t u → t ≠ 29 → t ≠ 5 → Boxed X2 a t u := fun {a t u} hb h1 h2 => by
    refine (hm.kept _ hb.lt fun e => ?_).trans hb
    rcases List.mem_cons.1 e with e | e
    · exact boxed_ne hb h.ix.box h1 e
    · exact hb.not_row h2 h.ix.row (mem_ownL.1 e).symm
  have hWib : W ≠ ib := fun e => boxed_blk h.ix.box h.wr.blk (by decide) e.symm
  have hvib : ∀ g, v.ownBlock = some g → g ∉ ib :: ownL iv := fun g hg e => by
    rcases List.mem_cons.1 e with rfl | e
    · exact h.ix.box.not_row (by decide) h.wr.row hg.symm
    · exact h.dj g hg (mem_ownL.1 e)
  refine ⟨h.wr.moved hm (fun e => ?_) hvib, hw, fun g hg he => ?_, box h.bw (by decide) (by decide), box h.b1 (by decide) (by decide), box h.b2 (by decide) (by decide), h.bel.trans ?_, h.hW, h.hib, h.hn1, Nat.le_trans h.sz hm.size, h.ko.trans ⟨hm.size, fun k o hk hc => (hm.kept k (Array.getElem?_eq_some_iff.1 hk).1 fun e => ?_).trans hk⟩⟩
  · rcases List.mem_cons.1 e with e | e
    · exact hWib e
    · exact h.wr.blk.not_row (by decide) h.ix.row (mem_ownL.1 e)
  · rcases hm.news g (by simp [mem_ownL.2 he]) with e | e
    · exact hvib g hg e
    · have := (h.wr.row.lt g hg).2; omega
  · refine hm.below (by have := h.hn1; have := h.sz; omega) fun i hi => ?_
    rcases List.mem_cons.1 hi with rfl | hi
    · exact h.hib
    · have := (h.ix.row.lt i (mem_ownL.1 hi)).1; have := h.hn1; omega
  · rcases List.mem_cons.1 e with rfl | e
    · rw [show X.heap[k]? = _ from h.ix.box] at hk; cases hk; cases hc
    · rcases h.ix.row.2 with ⟨e2, -⟩ | ⟨g, cap, cur, e2, -, r, -⟩
      · rw [e2] at e; simp [ownL, Value.ownBlock] at e
      · rw [e2] at e
        obtain rfl : k = g := by simpa [ownL, Value.ownBlock] using e
        rw [r] at hk; cases hk; cases hc
theorem Bk.restart (h : Bk w X0 W base n1 bw ib b1 b2 lv v iv xs ys X) : Bk w X W base n1 bw ib b1 b2 lv v iv xs ys X := ⟨h.wr, h.ix, h.dj, h.bw, h.b1, h.b2, h.bel, h.hW, h.hib, h.hn1, h.sz, KeepsOthers.refl _⟩
theorem Bk.two (h : Bk w X0 W base n1 bw ib b1 b2 lv v iv xs ys X) {v' iv' : Value} {xs' ys' : List UInt8} (h' : Bk w X0 W base n1 bw ib b1 b2 lv v' iv' xs' ys' X2) : Two b1 b2 X X2 := ⟨h'.b1.trans h.b1.symm, h'.b2.trans h.b2.symm⟩
end
/-- What the loop keeps. -/
def BkI (w : World) (W base n1 bw ib b1 b2 : Nat) (lv : Value) (xs : List UInt8) (l : List Cx) (pre : List (Fin (nBk l.length))) (X : World) : Prop :=
  ∃ v iv, Bk w X W base n1 bw ib b1 b2 lv v iv (xs ++ blksB l (vals pre)) (idxB l (vals pre)) X
theorem bkI_own (w : World) (W base n1 bw ib b1 b2 : Nat) (lv : Value) (xs : List UInt8) (l : List Cx) {B : Nat} (hB : base ≤ B) : OwnFrom B (BkI w W base n1 bw ib b1 b2 lv xs l) := by
  rintro pre X X2 row ⟨v, iv, h⟩ hg hr
  have keep : ∀ {k : Nat} {cs : Array Value} {t : TypeId} {z : Nat × Nat}, X.heap[k]? = some (.cells cs t z) → X2.heap[k]? = X.heap[k]? := fun {k cs t z} hk => hg.block k (Array.getElem?_eq_some_iff.1 hk).1 fun e => by
    obtain ⟨-, o, ho, hc⟩ := hr k e.symm
    rw [hk] at ho; cases ho; cases hc
  have own : ∀ {n : Nat} {base : Nat} {u : Value} {zs : List Value}, X.ownsRow base 5 1 u n zs → ∀ g, u.ownBlock = some g → X2.heap[g]? = X.heap[g]? := fun {n base u zs} ho g hgu => by
    rcases ho.2 with ⟨e2, -⟩ | ⟨g', cap, cur, e2, -, r, -⟩
    · rw [e2] at hgu; simp [Value.ownBlock] at hgu
    · rw [e2] at hgu
      obtain rfl : g' = g := by simpa [Value.ownBlock] using hgu
      exact keep r
  refine ⟨v, iv, h.wr.carry (keep h.wr.blk) (own h.wr.row), h.ix.carry (keep h.ix.box) (own h.ix.row), h.dj, (keep h.bw).trans h.bw, (keep h.b1).trans h.b1, (keep h.b2).trans h.b2, h.bel.trans ⟨hg.os, hg.tape, hg.output, hg.size, fun k hk => ?_⟩, h.hW, h.hib, h.hn1, Nat.le_trans h.sz hg.size, KeepsOthers.refl _⟩
  refine hg.block k ?_ fun e => ?_
  · have := h.hn1; have := h.sz; omega
  · have := (hr k e.symm).1; omega
end Go.Proofs.YtdookhmaiapclaaGreatDoor
namespace Go.Proofs.YtdookhmaiapclaaGreatDoor
open Go.RowKit

/-- What is left of a table's bytes, in memory. -/
structure PAt (w : World) (P b off : Nat) (r : List UInt8) (cap : Nat) : Prop where
  box : Boxed w P 92 (.slice (some ⟨b, off, none⟩) r.length cap)
  see : Sees w (some ⟨b, off, none⟩) r
  fits : r.length ≤ cap
  top : cap ≤ 9223372036854775807
  len : r.length ≤ 1000000000
  ne : b ≠ P
theorem Sees.set {w : World} {b off : Nat} {r : List UInt8} (h : Sees w (some ⟨b, off, none⟩) r) {P : Nat} (hne : b ≠ P) (v : Value) : Sees (w.setCell ⟨P, 0, none⟩ v) (some ⟨b, off, none⟩) r := fun i hi => by
  obtain ⟨a, e, hc⟩ := h i hi
  cases e
  refine ⟨_, rfl, ?_⟩
  rw [← hc]
  exact World.cell?_of_block (Below.heap_setCell _ _ _ _ (by rw [Addr.add_block]; exact hne))
theorem Sees.dropS {w : World} {b off : Nat} {r : List UInt8} (h : Sees w (some ⟨b, off, none⟩) r) (k : Nat) : Sees w (some ⟨b, off + k, none⟩) (r.drop k) := fun i hi => by
  rw [List.length_drop] at hi
  obtain ⟨a, e, hc⟩ := h (k + i) (by omega)
  cases e
  refine ⟨_, rfl, ?_⟩
  rw [Addr.add_lit, Nat.add_assoc]
  rw [Addr.add_lit] at hc
  rw [hc]
  simp [List.getD]
theorem Sees.takeS {w : World} {ao : Option Addr} {r : List UInt8} (h : Sees w ao r) (k : Nat) : Sees w ao (r.take k) := fun i hi => by
  rw [List.length_take] at hi
  obtain ⟨a, e, hc⟩ := h i (by omega)
  refine ⟨a, e, ?_⟩
  rw [hc]
  have : i < k := by omega
  simp [List.getD, this]
theorem PAt.cutTo {w : World} {P b off : Nat} {r : List UInt8} {cap : Nat} (h : PAt w P b off r cap) (k : Nat) (hk : k ≤ r.length) : PAt (w.setCell ⟨P, 0, none⟩ (.slice (some ⟨b, off, none⟩) k cap)) P b off (r.take k) cap := by
  have hl : (r.take k).length = k := by rw [List.length_take]; omega
  have h1 := h.fits
  have h2 := h.len
  refine ⟨?_, (h.see.set h.ne _).takeS k, by omega, h.top, by omega, h.ne⟩
  rw [hl]; exact h.box.set _
theorem PAt.moved {w w' : World} {P b off : Nat} {r : List UInt8} {cap : Nat} {a c : List Nat} (h : PAt w P b off r cap) (hm : Moved w w' a c) (h1 : P ∉ a) (h2 : b ∉ a) : PAt w' P b off r cap := by
  refine ⟨(hm.kept _ h.box.lt h1).trans h.box, fun i hi => ?_, h.fits, h.top, h.len, h.ne⟩
  obtain ⟨a, e, hc⟩ := h.see i hi
  cases e
  refine ⟨_, rfl, ?_⟩
  rw [← hc]
  have hlt := World.block_lt_of_cell? _ _ hc
  rw [Addr.add_block] at hlt
  exact World.cell?_of_block (by rw [Addr.add_block]; exact hm.kept _ hlt h2)
theorem PAt.below {w w' : World} {P b off : Nat} {r : List UInt8} {cap : Nat} (h : PAt w P b off r cap) (hb : Below w.heap.size w w') : PAt w' P b off r cap := h.moved (Moved.of_below hb []) (by simp) (by simp)
set_option maxRecDepth 100000 in
theorem cut_no {w : World} {P n cap : Nat} {ao : Option Addr} (h : Boxed w P 92 (.slice ao n cap)) (hn : n ≤ 1000000000) (u : Nat) (hu : n < u) (hu2 : u < 18446744073709551616) :
    Calls Tryz.prog 48 #[.pointer (some ⟨P, 0, none⟩), .int .u64 (u : Int)] w fun e w' => e = .returned (.tuple #[.slice none 0 0, .bool false]) ∧ w' = w := by
  have c0 := h.cell
  have wr : IntKind.u64.wrap (n : Int) = (n : Int) := by rw [IntKind.wrap_u64]; omega
  have hz : (n : Int) < (u : Int) := by omega
  clear hu2
  go_enter Tryz.func48, Tryz.ntmps48
  go_wp2_with fail
  go_ret2
  exact ⟨rfl, rfl⟩
set_option maxRecDepth 100000 in
set_option maxHeartbeats 1000000 in
theorem cut_ok {w : World} {P b off : Nat} {r : List UInt8} {cap : Nat} (h : PAt w P b off r cap) (u : Nat) (hu : u ≤ r.length) :
    Calls Tryz.prog 48 #[.pointer (some ⟨P, 0, none⟩), .int .u64 (u : Int)] w fun e w' => ∃ o c, e = .returned (.tuple #[.slice (some ⟨b, o, none⟩) u c, .bool true]) ∧ Sees w (some ⟨b, o, none⟩) (r.drop (r.length - u)) ∧ u ≤ c ∧ c ≤ cap ∧ w' = w.setCell ⟨P, 0, none⟩ (.slice (some ⟨b, off, none⟩) (r.length - u) cap) := by
  have c0 := h.box.cell
  have f0 := h.box.frozen
  have hl := h.len
  have hcap := h.fits
  have htop := h.top
  have hse := h.see.dropS (r.length - u)
  have hsz : r.length - u = r.length → Sees w (some ⟨b, off, none⟩) (r.drop (r.length - u)) := fun e => by
    rw [e]; rw [List.drop_length]; exact Sees.nil _ _
  obtain ⟨n, hn⟩ : ∃ n, n = r.length := ⟨_, rfl⟩
  rw [← hn] at c0 hl hcap hse hsz hu ⊢
  obtain ⟨k, hk⟩ : ∃ k, k = n - u := ⟨_, rfl⟩
  rw [← hk] at hse hsz ⊢
  have wr : IntKind.u64.wrap (n : Int) = (n : Int) := by rw [IntKind.wrap_u64]; omega
  have wi : IntKind.i64.wrap (u : Int) = (u : Int) := by rw [IntKind.wrap_i64]; omega
  have hz : ¬ ((n : Int) < (u : Int)) := by omega
  have hz2 : decide ((n : Int) < (u : Int)) = false := decide_eq_false hz
  have hkz : (n : Int) - (u : Int) = (k : Int) := by omega
  have hkn : k ≤ n := by omega
  have hks : n - k = u := by omega
  have hkc : k ≤ cap := by omega
  have HS : Hid (Sees w (some ⟨b, off + k, none⟩) (r.drop k)) := hse
  have HZ : Hid (k = n → Sees w (some ⟨b, off, none⟩) (r.drop k)) := hsz
  clear hse hsz hk hn h
  by_cases hc : cap = k
  · have hu0 : Hid (u = 0) := by show u = 0; omega
    have hkn2 : Hid (k = n) := by show k = n; omega
    go_enter Tryz.func48, Tryz.ntmps48
    go_wp2_with fail
    go_ret2
    refine ⟨off, cap - k, ?_, HZ.out hkn2.out, by have := hu0.out; omega, by omega, rfl⟩
    simp [hc]
  · go_enter Tryz.func48, Tryz.ntmps48
    go_wp2_with fail
    go_ret2
    refine ⟨off + k, cap - k, ?_, HS.out, by omega, by omega, rfl⟩
    simp
theorem Moved.of_setP {w : World} (P : Nat) (v : Value) : Moved w (w.setCell ⟨P, 0, none⟩ v) [P] [P] := Moved.of_set P 0 v
theorem Moved.and_below {w w1 w2 : World} {a : List Nat} (h : Moved w w1 a a) (hb : Below w1.heap.size w1 w2) : Moved w w2 a a := h.trans (Moved.of_below hb a)
set_option maxRecDepth 100000 in
theorem cutFrame_no {w : World} {P n cap : Nat} {ao : Option Addr} (h : Boxed w P 92 (.slice ao n cap)) (hn : n ≤ 1000000000) (u : Nat) (hu : n < u) (hu2 : u < 18446744073709551616) :
    Calls Tryz.prog 79 #[.pointer (some ⟨P, 0, none⟩), .int .u64 (u : Int)] w fun e w' => e = .returned (.tuple #[.slice none 0 0, .bool false]) ∧ w' = w := by
  have C : Hid (Calls Tryz.prog 48 #[.pointer (some ⟨P, 0, none⟩), .int .u64 (u : Int)] w fun e w' => e = .returned (.tuple #[.slice none 0 0, .bool false]) ∧ w' = w) := cut_no h hn u hu hu2
  clear h hn hu hu2
  go_enter Tryz.func79, Tryz.ntmps79
  go_wp2_with fail
  refine C.out.mono ?_
  rintro e w' ⟨rfl, rfl⟩
  go_wp2_with fail
  go_ret2
  exact ⟨rfl, rfl⟩
set_option maxRecDepth 100000 in
set_option maxHeartbeats 1000000 in
theorem cutFrame_ok {w : World} {P b off : Nat} {r : List UInt8} {cap : Nat} (h : PAt w P b off r cap) (u : Nat) (hu : u ≤ r.length) (ht : Tab w) (hP : 0 ≠ P) :
    Calls Tryz.prog 79 #[.pointer (some ⟨P, 0, none⟩), .int .u64 (u : Int)] w fun e w' => ∃ v, e = .returned (.tuple #[v, .bool (decide (unfE (r.drop (r.length - u)) = 0))]) ∧ w'.ownsRow w.heap.size 5 1 v (unfB (r.drop (r.length - u))).length (B8 (unfB (r.drop (r.length - u)))) ∧ PAt w' P b off (r.take (r.length - u)) cap ∧ Moved w w' [P] [P] := by
  have C : Hid (Calls Tryz.prog 48 #[.pointer (some ⟨P, 0, none⟩), .int .u64 (u : Int)] w fun e w' => ∃ o c, e = .returned (.tuple #[.slice (some ⟨b, o, none⟩) u c, .bool true]) ∧ Sees w (some ⟨b, o, none⟩) (r.drop (r.length - u)) ∧ u ≤ c ∧ c ≤ cap ∧ w' = w.setCell ⟨P, 0, none⟩ (.slice (some ⟨b, off, none⟩) (r.length - u) cap)) := cut_ok h u hu
  have hP2 := h.cutTo (r.length - u) (by omega)
  have hM : Moved w (w.setCell ⟨P, 0, none⟩ (.slice (some ⟨b, off, none⟩) (r.length - u) cap)) [P] [P] := Moved.of_setP P _
  have ht2 : Tab (w.setCell ⟨P, 0, none⟩ (.slice (some ⟨b, off, none⟩) (r.length - u) cap)) := fun j hj => by
    rw [← ht j hj]
    exact World.cell?_of_block (Below.heap_setCell _ _ _ _ hP)
  have hlen : (r.drop (r.length - u)).length = u := by rw [List.length_drop]; omega
  have hl := h.len
  have htop := h.top
  have hsz : (w.setCell ⟨P, 0, none⟩ (.slice (some ⟨b, off, none⟩) (r.length - u) cap)).heap.size = w.heap.size := size_setCell _ _ _
  have hne := h.ne
  clear h ht hP
  generalize hw1 : w.setCell ⟨P, 0, none⟩ (.slice (some ⟨b, off, none⟩) (r.length - u) cap) = w1 at *
  obtain ⟨part, hpart⟩ : ∃ part, part = r.drop (r.length - u) := ⟨_, rfl⟩
  rw [← hpart] at C hlen ⊢
  clear hpart
  have HP : Hid (PAt w1 P b off (r.take (r.length - u)) cap) := hP2
  clear hP2
  generalize r.length - u = k at *
  go_enter Tryz.func79, Tryz.ntmps79
  go_wp2_with fail
  refine C.out.mono ?_
  rintro e w' ⟨o, c, rfl, hs, huc, hcc, rfl⟩
  have hs1 : Sees w' (some ⟨b, o, none⟩) part := by rw [← hw1]; exact hs.set hne _
  have U : Hid (Calls Tryz.prog 82 #[.slice (some ⟨b, o, none⟩) u c] w' fun e w'' => ∃ v', e = .returned (.tuple #[v', .int .i64 (unfN part), .int .i64 (unfE part)]) ∧ w''.ownsRow w'.heap.size 5 1 v' (unfB part).length (B8 (unfB part)) ∧ Below w'.heap.size w' w'') := by
    have := unframe_any (some ⟨b, o, none⟩) part c w' hs1 (by omega) (by omega) (by omega) ht2
    rw [hlen] at this
    exact this
  clear C hs hs1 hw1
  go_wp2_with fail
  refine U.out.mono ?_
  rintro e w2 ⟨v', rfl, ho, hb⟩
  rw [hsz] at ho
  go_wp2_with fail
  go_ret2
  refine ⟨v', ?_, ho, HP.out.below hb, hM.and_below hb⟩
  by_cases he : unfE part = 0
  · simp [he]
  · simp [he]
end Go.Proofs.YtdookhmaiapclaaGreatDoor
namespace Go.Proofs.YtdookhmaiapclaaGreatDoor
open Go.RowKit

set_option maxRecDepth 100000 in
theorem byte_back (b : UInt8) : UInt8.ofNat b.toNat = b := by simp
set_option maxRecDepth 100000 in
theorem getN_shape (k : Nat) : ∀ (i acc : Nat) (l : List UInt8) (v : Nat) (r : List UInt8), i + k = 9 → getN i acc l = some (v, r) → ∃ x, x < 2 * 128 ^ k ∧ (0 < i → 0 < x) ∧ v = acc + x * 2 ^ (7 * i) ∧ l = numF k x ++ r := by
  induction k with
  | zero =>
    intro i acc l v r hi hg
    cases l with
    | nil => simp [getN] at hg
    | cons b r' =>
      rw [getN] at hg
      by_cases h1 : (i = 9 ∧ 1 < b.toNat) ∨ (0 < i ∧ b.toNat = 0)
      · rw [if_pos h1] at hg; cases hg
      · rw [if_neg h1, if_pos (by omega)] at hg
        cases hg
        refine ⟨b.toNat, by simp; omega, fun _ => by omega, by rw [Nat.mod_eq_of_lt (by omega)], ?_⟩
        rw [numF, byte_back]
        rfl
  | succ k ih =>
    intro i acc l v r hi hg
    cases l with
    | nil => simp [getN] at hg
    | cons b r' =>
      rw [getN] at hg
      by_cases h1 : (i = 9 ∧ 1 < b.toNat) ∨ (0 < i ∧ b.toNat = 0)
      · rw [if_pos h1] at hg; cases hg
      · rw [if_neg h1] at hg
        have hpw : 0 < 128 ^ k := Nat.pow_pos (by decide)
        by_cases h2 : b.toNat < 128
        · rw [if_pos h2] at hg
          cases hg
          refine ⟨b.toNat, by rw [Nat.pow_succ]; omega, fun _ => by omega, by rw [Nat.mod_eq_of_lt h2], ?_⟩
          rw [numF_small _ _ h2, byte_back]
          rfl
        · rw [if_neg h2] at hg
          obtain ⟨x, hx, hp, rfl, rfl⟩ := ih (i + 1) _ r' v r (by omega) hg
          have hb := b.toNat_lt
          have hm : b.toNat % 128 = b.toNat - 128 := by omega
          have hx0 := hp (by omega)
          have e1 : (x * 128 + (b.toNat - 128)) % 128 = b.toNat - 128 := by omega
          have e2 : (x * 128 + (b.toNat - 128)) / 128 = x := by omega
          refine ⟨x * 128 + (b.toNat - 128), by rw [Nat.pow_succ]; omega, fun _ => by omega, ?_, ?_⟩
          · rw [hm, pow7, Nat.add_mul, Nat.mul_assoc, Nat.add_assoc, Nat.add_comm ((b.toNat - 128) * 2 ^ (7 * i))]
          · rw [numF_great _ _ (by omega), e1, e2, show b.toNat - 128 + 128 = b.toNat by omega, byte_back]
            rfl
set_option maxRecDepth 100000 in
theorem get_canon {l : List UInt8} (h : getK l ≠ 0) : l = numL (getV l) ++ l.drop (getK l) ∧ getK l = (numL (getV l)).length ∧ getV l < 18446744073709551616 ∧ getN 0 0 l = some (getV l, l.drop (getK l)) := by
  cases hg : getN 0 0 l with
  | none => exact absurd (by unfold getK; rw [hg]) h
  | some vr =>
    obtain ⟨v, r⟩ := vr
    obtain ⟨x, hx, _, hv, hl⟩ := getN_shape 9 0 0 l v r rfl hg
    have hv' : v = x := by simpa using hv
    subst hv'
    have h1 : getV l = v := by unfold getV; rw [hg]
    have h2 : getK l = (numL v).length := by unfold getK; rw [hg]; show l.length - r.length = _; rw [hl, List.length_append]; unfold numL; omega
    have h3 : l.drop (getK l) = r := by rw [h2, hl]; exact List.drop_left
    rw [h3, h1]
    exact ⟨hl, h2, hx, rfl⟩
set_option maxRecDepth 100000 in
theorem getK_zero {l : List UInt8} (h : getK l = 0) : getV l = 0 := by
  cases hg : getN 0 0 l with
  | none => unfold getV; rw [hg]
  | some vr =>
    obtain ⟨v, r⟩ := vr
    obtain ⟨x, _, _, _, hl⟩ := getN_shape 9 0 0 l v r rfl hg
    have h2 : getK l = (numF 9 x).length := by unfold getK; rw [hg]; show l.length - r.length = _; rw [hl, List.length_append]; omega
    have := (numF_length 9 x).1
    omega
set_option maxRecDepth 100000 in
theorem getK_le (l : List UInt8) : getK l ≤ l.length := by
  unfold getK
  cases getN 0 0 l with
  | none => exact Nat.zero_le _
  | some vr => exact Nat.sub_le _ _
set_option maxRecDepth 100000 in
theorem getV_lt (l : List UInt8) : getV l < 18446744073709551616 := by
  by_cases h : getK l = 0
  · rw [getK_zero h]; decide
  · exact (get_canon h).2.2.1
/-- Are bytes a filter? -/
def okF (B : List UInt8) : Bool := decide (1 ≤ getV B ∧ getV B ≤ 16 ∧ 1 ≤ getV (B.drop (getK B)) ∧ getV (B.drop (getK B)) ≤ 400000 ∧ B.length - (getK B + getK (B.drop (getK B))) = getV (B.drop (getK B)))
set_option maxRecDepth 100000 in
theorem okF_enc {B : List UInt8} {k p q : Nat} {l : List UInt8} (hp : getK B = p) (hk : getV B = k) (hp0 : p ≠ 0) (hq : getK (B.drop p) = q) (hq0 : q ≠ 0) (hl : B.drop (p + q) = l) (hn : getV (B.drop p) = l.length) : B = numL k ++ numL l.length ++ l := by
  have h1 := get_canon (l := B) (by omega)
  have h2 := get_canon (l := B.drop p) (by omega)
  rw [hp, hk] at h1
  rw [hq, hn, List.drop_drop, hl] at h2
  rw [List.append_assoc, ← h2.1]
  exact h1.1
end Go.Proofs.YtdookhmaiapclaaGreatDoor
namespace Go.Proofs.YtdookhmaiapclaaGreatDoor
open Go.RowKit

theorem toHidE {p : Prop} (h : p) : Hid p := h
/-- What stands behind so many numbers. -/
def behN : Nat → List UInt8 → List UInt8
  | 0, c => c
  | k + 1, c => (behN k c).drop (getK (behN k c))
theorem behN_len (k : Nat) (c : List UInt8) : (behN k c).length ≤ c.length := by
  induction k with
  | zero => exact Nat.le_refl _
  | succ k ih => unfold behN; rw [List.length_drop]; omega
/-- The end: how many bytes are ahead of it, and two numbers of it. -/
def endN (r : List UInt8) : Option (Nat × Nat × Nat) :=
  if r.length = 0 then none
  else if r.length - 1 < (r.getD (r.length - 1) 0).toNat then none
  else if unfE ((r.take (r.length - 1)).drop (r.length - 1 - (r.getD (r.length - 1) 0).toNat)) = 0 then
    some (r.length - 1 - (r.getD (r.length - 1) 0).toNat, getV (behN 2 (unfB ((r.take (r.length - 1)).drop (r.length - 1 - (r.getD (r.length - 1) 0).toNat)))), getV (behN 3 (unfB ((r.take (r.length - 1)).drop (r.length - 1 - (r.getD (r.length - 1) 0).toNat)))))
  else none
/-- Four numbers, as far as they are told. -/
def toldV (c : List UInt8) (k : Nat) : List Value := (List.range 4).map fun j => if j < k then Value.int .u64 (getV (behN j c) : Int) else Value.int .u64 0
theorem toldV_zero (c : List UInt8) : toldV c 0 = [.int .u64 0, .int .u64 0, .int .u64 0, .int .u64 0] := rfl
theorem toldV_set (c : List UInt8) (k : Nat) (hk : k < 4) : (toldV c k).set k (.int .u64 (getV (behN k c) : Int)) = toldV c (k + 1) := by
  match k, hk with
  | 0, _ => rfl
  | 1, _ => rfl
  | 2, _ => rfl
  | 3, _ => rfl
set_option maxRecDepth 100000 in
set_option maxHeartbeats 1000000 in
theorem cutEnd_nil {w : World} {P cap : Nat} {ao : Option Addr} (h : Boxed w P 92 (.slice ao 0 cap)) :
    Calls Tryz.prog 46 #[.pointer (some ⟨P, 0, none⟩)] w fun e w' => e = .returned (.tuple #[.int .u64 0, .int .u64 0, .bool false]) ∧ w' = w := by
  have C : Hid (Calls Tryz.prog 48 #[.pointer (some ⟨P, 0, none⟩), .int .u64 1] w fun e w' => e = .returned (.tuple #[.slice none 0 0, .bool false]) ∧ w' = w) := cut_no h (by omega) 1 (by omega) (by omega)
  clear h
  go_enter Tryz.func46, Tryz.ntmps46
  go_wp2_with fail
  refine C.out.mono ?_
  rintro e w' ⟨rfl, rfl⟩
  go_wp2_with fail
  go_ret3
  exact ⟨rfl, rfl⟩
set_option maxRecDepth 100000 in
set_option maxHeartbeats 3000000 in
theorem cutEnd_any {w : World} {P b off : Nat} {r : List UInt8} {cap : Nat} (h : PAt w P b off r cap) (hr : 0 < r.length) (ht : Tab w) (hP : 0 ≠ P) (hP2 : 1 ≠ P) (ue : TypeId) (pv : Value) (he : Err w ue pv) :
    Calls Tryz.prog 46 #[.pointer (some ⟨P, 0, none⟩)] w fun e w' => Moved w w' [P] [P] ∧
      ((endN r = none ∧ e = .returned (.tuple #[.int .u64 0, .int .u64 0, .bool false])) ∨
       (∃ m x y, endN r = some (m, x, y) ∧ m ≤ r.length ∧ e = .returned (.tuple #[.int .u64 (x : Int), .int .u64 (y : Int), .bool true]) ∧ PAt w' P b off (r.take m) cap)) := by
  obtain ⟨n, hn⟩ : ∃ n, r.length = n + 1 := ⟨r.length - 1, by omega⟩
  have hl := h.len
  have C : Hid (Calls Tryz.prog 48 #[.pointer (some ⟨P, 0, none⟩), .int .u64 1] w fun e w' => ∃ o c, e = .returned (.tuple #[.slice (some ⟨b, o, none⟩) 1 c, .bool true]) ∧ Sees w (some ⟨b, o, none⟩) (r.drop n) ∧ 1 ≤ c ∧ c ≤ cap ∧ w' = w.setCell ⟨P, 0, none⟩ (.slice (some ⟨b, off, none⟩) n cap)) := by
    have := cut_ok h 1 (by omega)
    rw [hn, Nat.add_sub_cancel] at this
    exact this
  have hP1 : PAt (w.setCell ⟨P, 0, none⟩ (.slice (some ⟨b, off, none⟩) n cap)) P b off (r.take n) cap := h.cutTo n (by omega)
  have hM1 : Moved w (w.setCell ⟨P, 0, none⟩ (.slice (some ⟨b, off, none⟩) n cap)) [P] [P] := Moved.of_setP P _
  have ht1 : Tab (w.setCell ⟨P, 0, none⟩ (.slice (some ⟨b, off, none⟩) n cap)) := fun j hj => by
    rw [← ht j hj]; exact World.cell?_of_block (Below.heap_setCell _ _ _ _ hP)
  have he1 : Err (w.setCell ⟨P, 0, none⟩ (.slice (some ⟨b, off, none⟩) n cap)) ue pv := by
    unfold Err at he ⊢
    rw [← he]; exact World.cell?_of_block (Below.heap_setCell _ _ _ _ hP2)
  have hne := h.ne
  have hd0 : (r.drop n).getD 0 0 = r.getD n 0 := by simp [List.getD]
  have hdl : (r.drop n).length = 1 := by rw [List.length_drop]; omega
  obtain ⟨s, hs⟩ : ∃ s, s = (r.getD n 0).toNat := ⟨_, rfl⟩
  have hs8 : s < 256 := by rw [hs]; exact (r.getD n 0).toNat_lt
  have hE : endN r = if n < s then none else if unfE ((r.take n).drop (n - s)) = 0 then some (n - s, getV (behN 2 (unfB ((r.take n).drop (n - s)))), getV (behN 3 (unfB ((r.take n).drop (n - s))))) else none := by
    unfold endN
    rw [hn, Nat.add_sub_cancel, if_neg (by omega), hs]
  have htl : (r.take n).length = n := by rw [List.length_take]; omega
  generalize hw1 : w.setCell ⟨P, 0, none⟩ (.slice (some ⟨b, off, none⟩) n cap) = w1 at *
  clear h ht he
  have wr : IntKind.u64.wrap (s : Int) = (s : Int) := by rw [IntKind.wrap_u64]; omega
  have hcell : ∀ o, Sees w (some ⟨b, o, none⟩) (r.drop n) → w1.cell? ⟨b, o, none⟩ = some (.int .u8 (s : Int)) := fun o hso => by
    obtain ⟨a, e, hc⟩ := (hso.set hne (.slice (some ⟨b, off, none⟩) n cap)) 0 (by omega)
    cases e
    rw [hw1, hd0, ← hs, Addr.add_lit, Nat.add_zero] at hc
    exact hc
  have HP1 : Hid (PAt w1 P b off (r.take n) cap) := hP1
  have HE : Hid (endN r = if n < s then none else if unfE ((r.take n).drop (n - s)) = 0 then some (n - s, getV (behN 2 (unfB ((r.take n).drop (n - s)))), getV (behN 3 (unfB ((r.take n).drop (n - s))))) else none) := hE
  have HN : Hid (r.length = n + 1) := hn
  clear hP1 hE hd0 hdl hn hr
  by_cases hns : n < s
  · have CF : Hid (Calls Tryz.prog 79 #[.pointer (some ⟨P, 0, none⟩), .int .u64 (s : Int)] w1 fun e w' => e = .returned (.tuple #[.slice none 0 0, .bool false]) ∧ w' = w1) := by
      have hb := HP1.out.box
      rw [htl] at hb
      exact cutFrame_no hb (by omega) s hns (by omega)
    have HE2 : Hid (endN r = none) := by show _ = _; rw [HE.out, if_pos hns]
    clear htl hs
    go_enter Tryz.func46, Tryz.ntmps46
    go_wp2_with fail
    refine C.out.mono ?_
    rintro e w' ⟨o, c, rfl, hso, hc1, hcc, rfl⟩
    have z0 := hcell o hso
    go_wp2_with fail
    refine CF.out.mono ?_
    rintro e w2 ⟨rfl, rfl⟩
    go_wp2_with fail
    go_ret3
    exact ⟨hM1, .inl ⟨HE2.out, rfl⟩⟩
  · have CF : Hid (Calls Tryz.prog 79 #[.pointer (some ⟨P, 0, none⟩), .int .u64 (s : Int)] w1 fun e w' => ∃ v, e = .returned (.tuple #[v, .bool (decide (unfE ((r.take n).drop (n - s)) = 0))]) ∧ w'.ownsRow w1.heap.size 5 1 v (unfB ((r.take n).drop (n - s))).length (B8 (unfB ((r.take n).drop (n - s)))) ∧ PAt w' P b off ((r.take n).take (n - s)) cap ∧ Moved w1 w' [P] [P]) := by
      have := cutFrame_ok HP1.out s (by omega) ht1 hP
      rw [htl] at this
      exact this
    by_cases hu : unfE ((r.take n).drop (n - s)) = 0
    · have HE2 : Hid (endN r = some (n - s, getV (behN 2 (unfB ((r.take n).drop (n - s)))), getV (behN 3 (unfB ((r.take n).drop (n - s)))))) := by show _ = _; rw [HE.out, if_neg hns, if_pos hu]
      have hcl : (unfB ((r.take n).drop (n - s))).length ≤ 1000000000 := by
        unfold unfB
        rw [if_pos hu, List.length_take, List.length_drop, List.length_drop, List.length_take]; omega
      have htt : (r.take n).take (n - s) = r.take (n - s) := by rw [List.take_take]; congr 1; omega
      rw [decide_eq_true hu, htt] at CF
      clear hu htt HE
      generalize unfB ((r.take n).drop (n - s)) = c0 at *
      have hms : n - s ≤ r.length := by have := HN.out; omega
      clear htl hs
      generalize n - s = m at *
      have hsz1 : w1.heap.size = w.heap.size := by rw [← hw1]; exact size_setCell _ _ _
      clear hw1
      go_enter Tryz.func46, Tryz.ntmps46
      go_wp2_with fail
      refine C.out.mono ?_
      rintro e w' ⟨o, c, rfl, hso, hc1, hcc, rfl⟩
      have z0 := hcell o hso
      clear hcell hso
      go_wp2_with fail
      refine CF.out.mono ?_
      rintro e w2 ⟨v2, rfl, ho2, hP3, hM2⟩
      obtain ⟨a2, k2, rfl, hs2, -, hn2⟩ := owns_sees ho2
      have hk2 : c0.length ≤ k2 ∧ k2 ≤ 9223372036854775807 := by
        rcases ho2.2 with ⟨h1, h2⟩ | ⟨g, cap', cur, h, _, _, hn, hm, _⟩
        · injection h1 with e1 e2 e3; omega
        · injection h with e1 e2 e3; unfold maxLen at hm; omega
      have he2 : Err w2 ue pv := by
        unfold Err at he1 ⊢
        rw [← he1]
        exact World.cell?_of_block (hM2.kept _ (World.block_lt_of_cell? _ _ he1) (by simp; exact hP2))
      obtain ⟨wt, hwt⟩ : ∃ wt, wt = w2.alloc (.cells #[.int .u64 0, .int .u64 0, .int .u64 0, .int .u64 0] 126) := ⟨_, rfl⟩
      have hB0 : Blk wt w2.heap.size (toldV c0 0) 126 := by rw [hwt, toldV_zero]; exact Blk.new w2 _ _
      have hbt : Below w2.heap.size w2 wt := by rw [hwt]; exact (Below.refl _ _).alloc (Nat.le_refl _) _
      have hst : Sees wt a2 (behN 0 c0) := hs2.below hbt (Nat.le_refl _)
      have hat : a2 = none ∧ c0.length = 0 ∨ ∃ g o, a2 = some ⟨g, o, none⟩ ∧ g ≠ w2.heap.size := by
        rcases ho2.2 with ⟨h1, h2⟩ | ⟨g, cap', cur, h, _⟩
        · injection h1 with e1 e2 e3; exact .inl ⟨e1, e2⟩
        · injection h with e1 e2 e3
          refine .inr ⟨g, 0, e1, ?_⟩
          have := (ho2.lt g (by rw [e1]; rfl)).2
          omega
      have HER0 : Hid (w2.cell? ⟨1, 0, none⟩ = some _) := he2
      have het := he2.below hbt (Nat.le_refl _)
      have HST : Hid (∃ ao cc, Value.slice a2 c0.length k2 = .slice ao (behN 0 c0).length cc ∧ Sees wt ao (behN 0 c0) ∧ (behN 0 c0).length ≤ cc ∧ cc ≤ 9223372036854775807 ∧ (ao = none ∧ (behN 0 c0).length = 0 ∨ ∃ g o, ao = some ⟨g, o, none⟩ ∧ g ≠ w2.heap.size)) := ⟨a2, k2, rfl, hst, hk2.1, hk2.2, hat⟩
      have HP3 : Hid (PAt w2 P b off (r.take m) cap) := hP3
      have HM : Hid (Moved w w2 [P] [P]) := hM1.trans hM2
      have HBT : Hid (Below w2.heap.size w2 wt) := hbt
      clear hP3 hM1 hM2 hs2 hn2 ho2 hst hat hk2 hbt he2 C CF
      go_wp2_with fail
      rw [← hwt]
      clear hwt
      go_loopw [29, 6] (fun i s wr => ∃ k : Nat, k ≤ 4 ∧ i = .int .i64 k ∧ (∃ ao cc, s = .slice ao (behN k c0).length cc ∧ Sees wr ao (behN k c0) ∧ (behN k c0).length ≤ cc ∧ cc ≤ 9223372036854775807 ∧ (ao = none ∧ (behN k c0).length = 0 ∨ ∃ g o, ao = some ⟨g, o, none⟩ ∧ g ≠ w2.heap.size)) ∧ Blk wr w2.heap.size (toldV c0 k) 126 ∧ Below w2.heap.size w2 wr ∧ Err wr ue pv) (fun i _ _ => 4 - (intOf i).toNat)
      case atStart => exact ⟨0, by omega, rfl, HST.out, hB0, HBT.out, het⟩
      case round =>
        obtain ⟨k, hk, rfl, ⟨ao, cc, rfl, hs, hcc, htop, hao⟩, hBk, hbr, her⟩ := hrel
        have hbl := behN_len k c0
        by_cases hk4 : k < 4
        · have G : Hid (Calls Tryz.prog 80 #[.slice ao (behN k c0).length cc] wr fun e w' => e = .returned (.tuple #[.int .u64 (getV (behN k c0)), .int .i64 (getK (behN k c0))]) ∧ Below wr.heap.size wr w') := codGet_any ao _ cc wr ue pv hs (by omega) her
          have hgk := getK_le (behN k c0)
          have hk4z : (k : Int) < 4 := by omega
          have Hset := toldV_set c0 k hk4
          have Hbeh : Hid (behN (k + 1) c0 = (behN k c0).drop (getK (behN k c0))) := rfl
          have hne2 : w2.heap.size ≠ 1 := by
            have := World.block_lt_of_cell? _ _ her
            have h2 := World.block_lt_of_cell? _ _ HER0.out
            simp only at h2
            omega
          obtain ⟨q, hq⟩ : ∃ q, (toldV c0 k)[k]? = some q := ⟨_, List.getElem?_eq_getElem (by unfold toldV; rw [List.length_map, List.length_range]; exact hk4)⟩
          have hvv := getV_lt (behN k c0)
          obtain ⟨k1, hk1⟩ : ∃ k1, k1 = k + 1 := ⟨_, rfl⟩
          rw [← hk1] at Hset Hbeh
          have Hk1 : Hid (k1 = k + 1) := hk1
          clear hk1
          obtain ⟨B2, hB2⟩ : ∃ B2, B2 = behN k1 c0 := ⟨_, rfl⟩
          obtain ⟨T2, hT2⟩ : ∃ T2, T2 = toldV c0 k1 := ⟨_, rfl⟩
          rw [← hB2] at Hbeh
          rw [← hT2] at Hset
          have HB2 : Hid (B2 = behN k1 c0) := hB2
          have HT2 : Hid (T2 = toldV c0 k1) := hT2
          clear hB2 hT2
          generalize toldV c0 k = T1 at *
          generalize behN k c0 = B1 at *
          generalize getV B1 = vv at *
          generalize getK B1 = kk at *
          have HL2 : Hid (B2.length = B1.length - kk) := by show _ = _; rw [Hbeh.out, List.length_drop]
          have HEND : Hid (∀ (wz : World) (a3 : Option Addr), Below wr.heap.size wr wz → (a3 = none ∧ B2.length = 0 ∨ ∃ g o, a3 = some ⟨g, o, none⟩ ∧ g ≠ w2.heap.size) → Sees wz a3 B2 → Blk (wz.setCell ⟨w2.heap.size, k, none⟩ (.int .u64 (vv : Int))) w2.heap.size T2 126 ∧ Below w2.heap.size w2 (wz.setCell ⟨w2.heap.size, k, none⟩ (.int .u64 (vv : Int))) ∧ Err (wz.setCell ⟨w2.heap.size, k, none⟩ (.int .u64 (vv : Int))) ue pv ∧ Sees (wz.setCell ⟨w2.heap.size, k, none⟩ (.int .u64 (vv : Int))) a3 B2) := fun wz a3 hz ha3 hs3 => by
            have hBz : Blk wz w2.heap.size T1 126 := hBk.carry (hz.block _ hBk.lt)
            refine ⟨hBz.setTo k _ _ Hset, ?_, ?_, fun i hi => ?_⟩
            · have h3 := hbr.trans (hz.mono hbr.size)
              exact ⟨h3.os, h3.tape, h3.output, by rw [size_setCell]; exact h3.size, fun j hj => (Below.heap_setCell _ _ _ _ (by show j ≠ w2.heap.size; omega)).trans (h3.block j hj)⟩
            · have := her.below hz (Nat.le_refl _)
              unfold Err at this ⊢
              rw [← this]
              exact World.cell?_of_block (Below.heap_setCell _ _ _ _ (fun e => hne2 e.symm))
            · obtain ⟨a, e, hc⟩ := hs3 i hi
              refine ⟨a, e, ?_⟩
              rw [← hc]
              rcases ha3 with ⟨-, h0⟩ | ⟨g, o, e2, hg⟩
              · omega
              · rw [e2] at e; cases e
                exact World.cell?_of_block (Below.heap_setCell _ _ _ _ (by rw [Addr.add_block]; exact hg))
          have HCELL : Hid (∀ wz, Below wr.heap.size wr wz → wz.cell? ⟨w2.heap.size, k, none⟩ = some q ∧ wz.frozen? ⟨w2.heap.size, k, none⟩ = false) := fun wz hz => by
            have hBz : Blk wz w2.heap.size T1 126 := hBk.carry (hz.block _ hBk.lt)
            exact ⟨hBz.cell k hq, hBz.frozen k⟩
          have HSE : Hid (∀ (wz : World) (g o : Nat), ao = some ⟨g, o, none⟩ → Below wr.heap.size wr wz → Sees wz (some ⟨g, o + kk, none⟩) B2) := fun wz g o e hz => by
            rw [Hbeh.out]
            have := hs.below hz (Nat.le_refl _)
            rw [e] at this
            exact this.dropS kk
          clear Hset hBk hs hq Hbeh
          rcases hao with ⟨rfl, hb0⟩ | ⟨g, o, rfl, hg⟩
          · have hkk : kk = 0 := by omega
            subst hkk
            have hb20 : Hid (B2.length = 0) := by show _ = _; rw [HL2.out, hb0]
            rw [hb0] at G
            rcases (show k = 0 ∨ k = 1 ∨ k = 2 ∨ k = 3 by omega) with rfl | rfl | rfl | rfl
            all_goals (
              go_wp2_with fail
              go_fit G.out
              rintro e w3 ⟨rfl, hb3⟩
              have z1 := (HCELL.out w3 hb3).1
              have z2 := (HCELL.out w3 hb3).2
              have HFH := toHidE (HEND.out w3 (none) hb3 (.inl ⟨rfl, hb20.out⟩) (fun i hi => by have := hb20.out; omega))
              clear HEND HCELL HSE G HP3 HST HE2 HM HBT
              go_wp2_with fail
              go_roundw
              case rel =>
                obtain ⟨g1, g2, g3, g4⟩ := Hid.out HFH
                have hk1 := Hk1.out
                refine ⟨k1, by omega, by rw [hk1]; rfl, ?_, by rw [← HT2.out]; exact g1, g2, g3⟩
                rw [← HB2.out]
                exact ⟨none, _, by rw [hb20.out], g4, by rw [hb20.out]; exact Nat.zero_le _, by omega, .inl ⟨rfl, hb20.out⟩⟩
              case measure => simp [intOf])
          · have hkz : (kk : Int) ≤ (B1.length : Int) := by omega
            by_cases hc : cc = kk
            · have hb20 : Hid (B2.length = 0) := by show _ = _; rw [HL2.out]; omega
              subst hc
              rcases (show k = 0 ∨ k = 1 ∨ k = 2 ∨ k = 3 by omega) with rfl | rfl | rfl | rfl
              all_goals (
                go_wp2_with fail
                go_fit G.out
                rintro e w3 ⟨rfl, hb3⟩
                have z1 := (HCELL.out w3 hb3).1
                have z2 := (HCELL.out w3 hb3).2
                have HFH := toHidE (HEND.out w3 (some ⟨g, o, none⟩) hb3 (.inr ⟨g, o, rfl, hg⟩) (fun i hi => by have := hb20.out; omega))
                clear HEND HCELL HSE G HP3 HST HE2 HM HBT
                go_wp2_with fail
                go_roundw
                case rel =>
                  obtain ⟨g1, g2, g3, g4⟩ := Hid.out HFH
                  have hk1 := Hk1.out
                  refine ⟨k1, by omega, by rw [hk1]; rfl, ?_, by rw [← HT2.out]; exact g1, g2, g3⟩
                  rw [← HB2.out]
                  exact ⟨some ⟨g, o, none⟩, 0, by rw [hb20.out], g4, by rw [hb20.out]; exact Nat.zero_le _, by omega, .inr ⟨g, o, rfl, hg⟩⟩
                case measure => simp [intOf])
            · rcases (show k = 0 ∨ k = 1 ∨ k = 2 ∨ k = 3 by omega) with rfl | rfl | rfl | rfl
              all_goals (
                go_wp2_with fail
                go_fit G.out
                rintro e w3 ⟨rfl, hb3⟩
                have z1 := (HCELL.out w3 hb3).1
                have z2 := (HCELL.out w3 hb3).2
                have HFH := toHidE (HEND.out w3 (some ⟨g, o + kk, none⟩) hb3 (.inr ⟨g, o + kk, rfl, hg⟩) (HSE.out w3 g o rfl hb3))
                clear HEND HCELL HSE G HP3 HST HE2 HM HBT
                go_wp2_with fail
                go_roundw
                case rel =>
                  obtain ⟨g1, g2, g3, g4⟩ := Hid.out HFH
                  have hk1 := Hk1.out
                  refine ⟨k1, by omega, by rw [hk1]; rfl, ?_, by rw [← HT2.out]; exact g1, g2, g3⟩
                  rw [← HB2.out]
                  exact ⟨some ⟨g, o + kk, none⟩, _, by rw [HL2.out], g4, by rw [HL2.out]; omega, by omega, .inr ⟨g, o + kk, rfl, hg⟩⟩
                case measure => simp [intOf])
        · obtain rfl : k = 4 := by omega
          have t2 : wr.cell? ⟨w2.heap.size, 2, none⟩ = some (.int .u64 (getV (behN 2 c0) : Int)) := hBk.cell 2 rfl
          have t3 : wr.cell? ⟨w2.heap.size, 3, none⟩ = some (.int .u64 (getV (behN 3 c0) : Int)) := hBk.cell 3 rfl
          generalize getV (behN 2 c0) = x at *
          generalize getV (behN 3 c0) = y at *
          have HFIN : Hid (Moved w wr.drew [P] [P] ∧ PAt wr.drew P b off (r.take m) cap) := ⟨HM.out.and_below hbr.drew, HP3.out.below hbr.drew⟩
          clear hBk hs hao hcc
          go_wp2_with fail
          go_region
          all_goals (
            go_wp2_with fail
            go_ret3
            exact ⟨HFIN.out.1, .inr ⟨m, x, y, HE2.out, hms, rfl, HFIN.out.2⟩⟩)
    · have HE2 : Hid (endN r = none) := by show _ = _; rw [HE.out, if_neg hns, if_neg hu]
      rw [decide_eq_false hu] at CF
      clear htl hs
      go_enter Tryz.func46, Tryz.ntmps46
      go_wp2_with fail
      refine C.out.mono ?_
      rintro e w' ⟨o, c, rfl, hso, hc1, hcc, rfl⟩
      have z0 := hcell o hso
      go_wp2_with fail
      refine CF.out.mono ?_
      rintro e w2 ⟨v2, rfl, ho2, hP2, hM2⟩
      go_wp2_with fail
      go_ret3
      exact ⟨hM1.trans hM2, .inl ⟨HE2.out, rfl⟩⟩
end Go.Proofs.YtdookhmaiapclaaGreatDoor
namespace Go.Proofs.YtdookhmaiapclaaGreatDoor
open Go.RowKit

set_option maxRecDepth 100000 in
set_option maxHeartbeats 400000 in
theorem clone_any (a : Addr) (l : List UInt8) (cap : Nat) (w : World) (hs : Sees w (some a) l) (hl : l.length ≤ 140737488354000) :
    Calls Tryz.prog 110 #[.slice (some a) l.length cap] w fun e w' => ∃ v, e = .returned v ∧ w'.ownsRow w.heap.size 5 1 v l.length (B8 l) ∧ Below w.heap.size w w' := by
  obtain ⟨i0, hi, hz0, hz1, hz2⟩ := info_parts info8
  have hown : (w.alloc (.cells #[] 5)).ownsRow w.heap.size 5 1 (.slice (some ⟨w.heap.size, 0, none⟩) 0 0) 0 (B8 []) := by
    have h : Row (w.alloc (.cells #[] 5)) w.heap.size [] := heap_alloc_new w _
    exact h.owns (Nat.le_refl _) (by simp)
  have hs2 : Sees (w.alloc (.cells #[] 5)) (some a) l := hs.below ((Below.refl w.heap.size w).alloc (Nat.le_refl _) _) (Nat.le_refl _)
  have NE : ∀ w, (binOp BinOp.eql 29 (.slice (some a) l.length cap) (.slice none 0 0)).run Tryz.prog w = .ok (.bool false) w := fun w => by kernel_rfl
  go_enter Tryz.func110, Tryz.ntmps110
  go_wp2_with (at_builtin; go_must (refine wpList_append_grew _ rfl _ _ 29 29 rfl w.heap.size 5 i0 (.int .u8 0) 1 1 Tryz.underlying29 hi hz0 hz1 hz2 rfl _ 0 _ rfl hown _ l.length (B8 l) rfl (src_sees Tryz.underlying29 hs2 (fun e => by cases e) _) (by unfold maxLen; omega) (by omega) (by rw [World.size_alloc]; omega) ?_; intro v3 w3 ho3 hG3))
  go_ret
  refine ⟨_, rfl, ?_, ?_⟩
  · rw [Nat.zero_add] at ho3
    exact ho3
  · exact ((Below.refl w.heap.size w).alloc (Nat.le_refl _) _).trans (hG3.below (by rw [World.size_alloc]; omega) (fun g hg => (hown.lt g hg).1))
set_option maxRecDepth 100000 in
theorem owns_fat {w : World} {base : Nat} {v : Value} {l : List UInt8} (h : w.ownsRow base 5 1 v l.length (B8 l)) (hl : 0 < l.length) : ∃ g cap rest, v = .slice (some ⟨g, 0, none⟩) l.length cap ∧ base ≤ g ∧ Blk w g (B8 l ++ rest) 5 ∧ l.length ≤ cap := by
  rcases h.2 with ⟨_, h2⟩ | ⟨g, cap, cur, rfl, hb, hg, hn, hm, hs, ht⟩
  · omega
  · refine ⟨g, cap, cur.toList.drop l.length, rfl, hb, ?_, hn⟩
    unfold Blk
    rw [hg, ← ht, Nat.mul_one, List.take_append_drop]
set_option maxRecDepth 100000 in
set_option maxHeartbeats 1000000 in
theorem read_core (b off k p q N : Nat) (B r l : List UInt8) (cap : Nat) (w : World) (hs : Sees w (some ⟨b, off, none⟩) B) (hN : B.length = N) (hcap : N ≤ cap) (hcm : cap ≤ 9223372036854775807) (hbm : N ≤ 140737488354000) (g1 : getN 0 0 B = some (k, r)) (g2 : getN 0 0 r = some (l.length, l))
    (hp : N - r.length = p) (hr : r.length < N) (hq : r.length - l.length = q) (hlr : l.length < r.length) (d1 : B.drop p = r) (d2 : r.drop q = l) (hk1 : 1 ≤ k) (hk2 : k ≤ 16) (hl1 : 0 < l.length) (hl2 : l.length ≤ 400000) :
    Calls Tryz.prog 81 #[.slice (some ⟨b, off, none⟩) N cap] w fun e w' => ∃ m : FM, e = .returned (.tuple #[m.v, .int .i64 0]) ∧ FAt w' m k l ∧ w.heap.size ≤ m.d ∧ w.heap.size ≤ m.g ∧ Below w.heap.size w w' := by
  have s1 : Sees w (some ⟨b, off + p, none⟩) r := by have := sees_drop hs p; rwa [d1] at this
  have s2 : Sees w (some ⟨b, off + (p + q), none⟩) l := by have := sees_drop s1 q; rwa [d2, Nat.add_assoc] at this
  have G1 : Hid (Calls Tryz.prog 80 #[.slice (some ⟨b, off, none⟩) N cap] w fun e w' => e = .returned (.tuple #[.int .u64 (k : Int), .int .i64 (p : Int)]) ∧ Below w.heap.size w w') := get_ok_at _ B _ cap w k _ _ hN hp hs (by omega) g1
  have G2 : Hid (∀ w1, Below w.heap.size w w1 → ∀ c, Calls Tryz.prog 80 #[.slice (some ⟨b, off + p, none⟩) (N - p) c] w1 fun e w' => e = .returned (.tuple #[.int .u64 (l.length : Int), .int .i64 (q : Int)]) ∧ Below w1.heap.size w1 w') := fun w1 hb c => get_ok_at _ r _ c w1 l.length q l (by omega) (by omega) (s1.below hb (Nat.le_refl _)) (by omega) g2
  have G3 : Hid (∀ w1, Below w.heap.size w w1 → ∀ c, Calls Tryz.prog 110 #[.slice (some ⟨b, off + (p + q), none⟩) l.length c] w1 fun e w' => ∃ v, e = .returned v ∧ w'.ownsRow w1.heap.size 5 1 v l.length (B8 l) ∧ Below w1.heap.size w1 w') := fun w1 hb c => clone_any ⟨b, off + (p + q), none⟩ l c w1 (s2.below hb (Nat.le_refl _)) (by omega)
  have hnl : N - (p + q) = l.length := by omega
  have hpq : p + q + l.length = N := by omega
  have hp0 : 0 < p := by omega
  have hq0 : 0 < q := by omega
  clear g1 g2 d1 d2 s1 s2 hs hlr hN hp hr hq
  go_enter Tryz.func81, Tryz.ntmps81
  go_wp2_with fail
  refine G1.out.mono ?_
  rintro e w1 ⟨rfl, hB1⟩
  go_wp2_with fail
  refine (G2.out _ hB1 _).mono ?_
  rintro e w2 ⟨rfl, hB2⟩
  have hB02 : Below w.heap.size w w2 := hB1.trans (hB2.mono hB1.size)
  go_wp2_with fail
  refine (G3.out _ hB02 _).mono ?_
  rintro e w3 ⟨v, rfl, ho, hB3⟩
  have hB03 : Below w.heap.size w w3 := hB02.trans (hB3.mono hB02.size)
  obtain ⟨g, cp, rest, rfl, hg, hblk, hcp⟩ := owns_fat ho hl1
  go_wp2_with fail
  go_ret2
  have hs2 := hB02.size
  have hs3 := hB3.size
  have hgl := hblk.lt
  refine ⟨⟨w3.heap.size, g, cp, rest⟩, rfl, ⟨Blk.new w3 [.int .i64 (k : Int), .slice (some ⟨g, 0, none⟩) l.length cp] 122, hblk.alloc _, by show w3.heap.size ≠ g; omega, hl1, hl2, hk1, hk2⟩, by show w.heap.size ≤ w3.heap.size; omega, by show w.heap.size ≤ g; omega, hB03.alloc (by omega) _⟩
set_option maxRecDepth 100000 in
theorem read_back (b off k : Nat) (l : List UInt8) (cap : Nat) (w : World) (hs : Sees w (some ⟨b, off, none⟩) (encF k l)) (hcap : (encF k l).length ≤ cap) (hcm : cap ≤ 9223372036854775807) (hk1 : 1 ≤ k) (hk2 : k ≤ 16) (hl1 : 0 < l.length) (hl2 : l.length ≤ 400000) :
    Calls Tryz.prog 81 #[.slice (some ⟨b, off, none⟩) (encF k l).length cap] w fun e w' => ∃ m : FM, e = .returned (.tuple #[m.v, .int .i64 0]) ∧ FAt w' m k l ∧ w.heap.size ≤ m.d ∧ w.heap.size ≤ m.g ∧ Below w.heap.size w w' := by
  have n1 := numL_length k
  have n2 := numL_length l.length
  have e0 : encF k l = numL k ++ (numL l.length ++ l) := by unfold encF; rw [List.append_assoc]
  have e1 : (encF k l).length = (numL k).length + (numL l.length ++ l).length := by rw [e0, List.length_append]
  have e2 : (numL l.length ++ l).length = (numL l.length).length + l.length := List.length_append
  refine read_core b off k (numL k).length (numL l.length).length _ (encF k l) (numL l.length ++ l) l cap w hs rfl hcap hcm (by omega) ?_ (get_back _ (by omega) _) (by omega) (by omega) (by omega) (by omega) ?_ List.drop_left hk1 hk2 hl1 hl2
  · rw [e0]; exact get_back k (by omega) _
  · rw [e0]; exact List.drop_left
end Go.Proofs.YtdookhmaiapclaaGreatDoor
namespace Go.Proofs.YtdookhmaiapclaaGreatDoor
open Go.RowKit

/-- Ints, as cells. -/
def P64 (l : List Nat) : List Value := l.map fun p : Nat => Value.int .i64 (p : Int)
theorem P64_length (l : List Nat) : (P64 l).length = l.length := List.length_map _
theorem P64_at (l : List Nat) (i : Nat) (h : i < l.length) : (P64 l)[i]? = some (.int .i64 ((l.getD i 0 : Nat) : Int)) := by simp [P64, h]
theorem info64 : (Tryz.prog.info? 3).map (fun i => (i.zero, i.size, i.bytes)) = some (some (.int .i64 0), 1, 8) := by kernel_rfl
theorem made64 (m : Nat) : (madeCells (Value.int .i64 0).cells (m * 1)).toList = P64 (List.replicate m 0) := by
  have h : (Value.int .i64 0).cells = #[.int .i64 0] := rfl
  rw [h, Nat.mul_one]
  apply List.ext_getElem
  · simp [madeCells, P64]
  · intro i h1 h2
    simp [madeCells, P64, Nat.mod_one]
theorem make_ints (n : Nat) (hn : n ≤ 1099511627776) (w : World) : ∃ w', (Instr.makeSlice 146 (.int .i64 (n : Int)) (.int .i64 (n : Int))).run Tryz.prog w = .ok (.slice (some ⟨w.heap.size, 0, none⟩) n n) w' ∧ Blk w' w.heap.size (P64 (List.replicate n 0)) 3 ∧ w.grownBy w' none := by
  obtain ⟨i0, hi, hz0, hz1, hz2⟩ := info_parts info64
  have := run_make_full (P := Tryz.prog) w w.heap.size 146 3 i0 (.int .i64 0) 1 Tryz.underlying146 hi hz0 hz1 .i64 .i64 n (by rw [hz2]; omega) (by unfold maxLen; omega) (Nat.le_refl _)
  rw [made64] at this
  obtain ⟨w', h1, h2, h3⟩ := this
  refine ⟨w', h1, ?_, h3⟩
  obtain ⟨hl, h2⟩ := h2
  rcases h2 with ⟨h2, _⟩ | ⟨g', cap, cur, hv, hg, hh, hn, hm, hs, ht⟩
  · cases h2
  · cases hv
    unfold Blk
    rw [hh, ← ht, List.take_of_length_le (by simp; omega)]
theorem row_step (hh : BitVec 64 × BitVec 64) (n k i : Nat) (hi : i < k) : (P64 (plcs hh n i ++ List.replicate (k - i) 0)).set i (.int .i64 (plc hh n i : Int)) = P64 (plcs hh n (i + 1) ++ List.replicate (k - (i + 1)) 0) := by
  have e : k - i = (k - (i + 1)) + 1 := by omega
  rw [e, List.replicate_succ, plcs_step]
  unfold P64
  rw [List.map_append, List.set_append_right _ _ (by simp [plcs_length]), List.length_map, plcs_length]
  simp
theorem row_cell (hh : BitVec 64 × BitVec 64) (n k i : Nat) (hi : i < k) : (P64 (plcs hh n i ++ List.replicate (k - i) 0))[i]? = some (.int .i64 0) := by
  unfold P64
  rw [List.map_append, List.getElem?_append_right (by simp [plcs_length]), List.length_map, plcs_length, Nat.sub_self]
  have : 0 < k - i := by omega
  simp [this]
end Go.Proofs.YtdookhmaiapclaaGreatDoor
