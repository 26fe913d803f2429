/-
  SEVERAL TEXTS IN ONE: WalRetire, WalStates, WkStep, TabGood, CodRead, SrtRange.
-/
import Derived.Test.YtglaocghcgcghaaGreatDoorMany20
import Derived.Test.YtglaocghcgcghaaGreatDoorMany15
import Derived.Test.YtglaocghcgcghaaGreatDoorMany21
import Derived.Test.YtglaocghcgcghaaGreatDoorMany18
import Derived.WalkLawsBesides
import Derived.WalkSmall
import Derived.Deep.QuietTactic
import Derived.BigQuiet
namespace Go.Proofs.YtglaocghcgcghaaGreatDoor
open Go.RowKit
attribute [local go_sem] Oper.pureAt Oper.pureUpon

set_option maxRecDepth 100000 in
set_option maxHeartbeats 2000000 in
theorem retireL_two {w0 : World} {d lb : Nat} {A A1 : Ab} {w : World} (he : EnvW w0) (h : Lg w0 d lb A 2 w) (hon : A.on = true) (hsp : A.sp.length ≤ 1000) (hsz : ∀ t ∈ A.sp, t.nm.length ≤ 1000) (hnm : (A.sp.map Sig.nm).filterMap numO = [1, 2]) (hl : A.left = 0) (ho : A.ops ≤ 1000000) (h1 : removeM A (tB (nmW 1)) = (0, A1)) :
    Calls Tryz.prog 17 #[.pointer (some ⟨lb, 0, none⟩), .int .i64 2] w fun x w' => x = .returned (.int .i64 0) ∧ Lg w0 d lb A1 2 w' := by
  have CR : Hid (Calls Tryz.prog 25 #[.pointer (some ⟨lb, 0, none⟩)] w fun e w' => e = .returned (.int .i64 0) ∧ w' = w) := refusalL_any h (by omega) hon
  have CN : Hid (Calls Tryz.prog 36 #[.pointer (some ⟨lb, 0, none⟩)] w fun e w' => ∃ (b o cap : Nat), e = .returned (.slice (some ⟨b, o, none⟩) 2 cap) ∧ w'.cell? ⟨b, o, none⟩ = some (.int .i64 1) ∧ w'.cell? ⟨b, o + 1, none⟩ = some (.int .i64 2) ∧ w.heap.size ≤ b ∧ Below w.heap.size w w') := by
    refine (numbersL_any he h hon hsp hsz).mono ?_
    rintro e w' ⟨ao, cap, N, rfl, hI, hfr, hp, hso, hb⟩
    rw [hnm] at hp
    have hN : N = [1, 2] := List.Perm.eq_of_pairwise (le := (· ≤ ·)) (fun a b _ _ h1 h2 => by omega) hso (by decide) hp
    subst hN
    obtain ⟨b, o, rfl, c1⟩ := hI 0 1 rfl
    obtain ⟨b', o', e', c2⟩ := hI 1 2 rfl
    cases e'
    exact ⟨b, o, cap, rfl, by simpa using c1, c2, hfr _ rfl, hb⟩
  obtain ⟨ft, hG⟩ := h
  have hft : ∀ i ∈ ft, i < w.heap.size := hG.1.lt
  have hszn := tB_max (nmW 1) (by have := nmW_len 1; omega)
  have CM : Hid (∀ u, LgF w0 d lb A 2 ft u → Calls Tryz.prog 37 #[.pointer (some ⟨d, 0, none⟩), .string (tB (nmW 1))] u fun x w' => x = .returned (.int .i64 0) ∧ Lg w0 d lb A1 2 w' ∧ ∀ i, i < u.heap.size → i ∉ ft → w'.heap[i]? = u.heap[i]?) := fun u hu => by
    obtain ⟨g1, g2, g3, g4, g5, g6⟩ := hu
    have := abx_remove g1 (tB (nmW 1)) hszn (by omega) (by omega) (by omega)
    rw [h1] at this
    exact this.mono fun x w' ⟨hx, ft', ha, hm⟩ => ⟨hx, Lg.out g2 g3 g4 g5 g6 ha hm, hm.kept⟩
  have CA : Hid (∀ u, Below w0.heap.size w0 u → Calls Tryz.prog 38 #[.int .i64 1] u fun x w' => x = .returned (.string (tB (nmW 1))) ∧ Below u.heap.size u w') := fun u hu => nameW_any 1 (by omega) (by omega) u (he.below hu (Nat.le_refl _))
  have CT : Hid (∀ u, Calls Tryz.prog 26 #[.pointer (some ⟨lb, 0, none⟩), .int .i64 0] u fun x w' => x = .returned (.int .i64 0) ∧ w' = u) := fun u => noted_any lb 0 u (by omega)
  have HG : Hid (LgF w0 d lb A 2 ft w) := hG
  have HFT : Hid (∀ i ∈ ft, i < w.heap.size) := hft
  have c0 : ∀ q : LC d lb, q.u.cell? ⟨lb, 0, none⟩ = some (.pointer (some ⟨d, 0, none⟩)) := fun q => q.h
  haveI : Nonempty (LC d lb) := ⟨⟨w, hG.2.2.1.cell 0 rfl⟩⟩
  generalize tB (nmW 1) = s at *
  clear hG hft he hon hsp hsz hnm hl ho h1 hszn
  go_enter Tryz.func17, Tryz.ntmps17
  go_wp2_with (go_at_call 25; refine CR.out.mono ?_; rintro e w1 ⟨rfl, rfl⟩)
  go_fit CN.out
  rintro e w2 ⟨b, o, cap, rfl, k1, k2, hbf, hB2⟩
  have hbl : b < w2.heap.size := World.block_lt_of_cell? _ _ k1
  have HS0 : Hid (w2.cell? ⟨b, o, none⟩ = some (.int .i64 1) ∧ w2.cell? ⟨b, o + 1, none⟩ = some (.int .i64 2) ∧ b < w2.heap.size ∧ LgF w0 d lb A 2 ft w2) := ⟨k1, k2, hbl, HG.out.more hB2⟩
  have hbn : b ∉ ft := fun hi => by have := HFT.out b hi; omega
  clear k1 k2 hbl CR CN hB2 HG HFT hbf
  go_wp2_with fail
  go_loopw [17] (fun s17 wr => ∃ i : Nat, i ≤ 2 ∧ s17 = .int .i64 (i : Int) ∧ wr.cell? ⟨b, o, none⟩ = some (.int .i64 1) ∧ wr.cell? ⟨b, o + 1, none⟩ = some (.int .i64 2) ∧ b < wr.heap.size ∧ ((i = 0 ∧ LgF w0 d lb A 2 ft wr) ∨ (0 < i ∧ Lg w0 d lb A1 2 wr))) (fun s17 _ => 2 - (intOf s17).toNat)
  case atStart => exact ⟨0, by omega, rfl, HS0.out.1, HS0.out.2.1, HS0.out.2.2.1, .inl ⟨rfl, HS0.out.2.2.2⟩⟩
  case round =>
    obtain ⟨i, hi, rfl, k1, k2, hbl, hst⟩ := hrel
    clear HS0
    rcases hst with ⟨rfl, hG⟩ | ⟨hpos, hL⟩
    · have d1 := hG.2.2.1.cell 1 rfl
      have HG : Hid (LgF w0 d lb A 2 ft wr) := hG
      have HK : Hid (wr.cell? ⟨b, o, none⟩ = some (.int .i64 1) ∧ wr.cell? ⟨b, o + 1, none⟩ = some (.int .i64 2)) := ⟨k1, k2⟩
      clear hG
      go_wp2_with fail
      refine wp_region_sched (fun w' => ∃ p : LC d lb, w' = p.u) [(0, true), (1, true), (2, true), (3, true), (4, true), (5, true), (6, false), (7, false), (8, false), (9, true)] rfl (by kernel_rfl) (by kernel_rfl) (by kernel_rfl) (LC.of HG.out.lg.drew) ?_
      iterate 6 (refine sched_pure rfl (fun K hK => ?_); go_simp; refine hK _ ?_; clear hK K)
      refine sched_loud rfl (fun K hK => ?_)
      go_simp
      refine (CA.out _ HG.out.lg.drew.bel).mono ?_
      rintro e u1 ⟨rfl, hu1⟩
      have hu1' : Below wr.heap.size wr u1 := (Below.refl _ _).drew.trans hu1
      have hG1 := HG.out.more hu1'
      have hk1 : u1.cell? ⟨b, o, none⟩ = some (.int .i64 1) := by rw [hu1'.cell hbl]; exact HK.out.1
      have hk2 : u1.cell? ⟨b, o + 1, none⟩ = some (.int .i64 2) := by rw [hu1'.cell hbl]; exact HK.out.2
      have hbl1 : b < u1.heap.size := Nat.lt_of_lt_of_le hbl hu1'.size
      refine hK _ _ (LC.of hG1.lg) ?_
      clear hK K
      refine sched_loud rfl (fun K hK => ?_)
      go_simp
      refine (CM.out _ hG1).mono ?_
      rintro e u2 ⟨rfl, hL2, hkeep⟩
      have hb2 := hkeep b hbl1 hbn
      have HN : Hid (u2.cell? ⟨b, o, none⟩ = some (.int .i64 1) ∧ u2.cell? ⟨b, o + 1, none⟩ = some (.int .i64 2) ∧ b < u2.heap.size) := by
        have e1 : u2.cell? ⟨b, o, none⟩ = some (.int .i64 1) := by rw [World.cell?_of_block (a := ⟨b, o, none⟩) hb2]; exact hk1
        exact ⟨e1, by rw [World.cell?_of_block (a := ⟨b, o + 1, none⟩) hb2]; exact hk2, World.block_lt_of_cell? _ _ e1⟩
      refine hK _ _ (LC.of hL2) ?_
      clear hK K hkeep hb2 hk1 hk2 hG1 hu1 hu1' k1 k2 d1
      refine sched_loud rfl (fun K hK => ?_)
      go_simp
      refine (CT.out _).mono ?_
      rintro e u3 ⟨rfl, rfl⟩
      refine hK _ _ (LC.of hL2) ?_
      clear hK K
      refine sched_pure rfl (fun K hK => ?_)
      go_simp
      refine hK _ ?_
      clear hK K
      refine sched_nil ?_
      go_wp2_with fail
      go_roundw
      case rel => exact ⟨1, by omega, by go_num, HN.out.1, HN.out.2.1, HN.out.2.2, .inr ⟨by omega, hL2⟩⟩
      case measure => (simp [intOf]; try omega)
    · have hi2 : i = 1 ∨ i = 2 := by omega
      rcases hi2 with rfl | rfl
      · go_wp2_with fail
        go_roundw
        case rel => exact ⟨2, by omega, by go_num, k1, k2, hbl, .inr ⟨by omega, hL⟩⟩
        case measure => (simp [intOf]; try omega)
      · go_wp2_with fail
        go_ret
        exact ⟨rfl, hL⟩
end Go.Proofs.YtglaocghcgcghaaGreatDoor
namespace Go.Proofs.YtglaocghcgcghaaGreatDoor
open Go.RowKit

def q1 : List UInt8 := [108, 111, 103, 45, 49]
def q2 : List UInt8 := [108, 111, 103, 45, 50]
theorem nm_one : nmW 1 = q1 := by
  unfold nmW Lib.itoa
  rw [if_pos (show okW 1 = true from rfl), if_neg (by omega), Lib.decDigits_one (by decide)]; rfl
theorem nm_two : nmW 2 = q2 := by
  unfold nmW Lib.itoa
  rw [if_pos (show okW 2 = true from rfl), if_neg (by omega), Lib.decDigits_one (by decide)]; rfl
theorem nameOf_tB (l : List UInt8) : nameOf (tB l) = l := tB_list l
theorem good1 : refuse true [tB q1] = 0 := by unfold refuse; simp only [List.all_cons, List.all_nil, nameOf_tB]; rfl
theorem good2 : refuse true [tB q2] = 0 := by unfold refuse; simp only [List.all_cons, List.all_nil, nameOf_tB]; rfl
/-- One file, all of it sure. -/
structure St1 (A : Ab) (B : List UInt8) (k : Nat) : Prop where
  sp : A.sp = [⟨q1, B, B.length, []⟩]
  room : A.room = 1000
  on : A.on = true
  left : A.left = 0
  ops : A.ops ≤ 10 * k
  next : A.next ≤ 100 * k
theorem St1.fine {A : Ab} {B : List UInt8} {k : Nat} (h : St1 A B k) (hB : B.length ≤ 1000) : A.Fine := by
  refine ⟨?_, ?_, ?_, ?_, by rw [h.room]; omega, ?_, ?_⟩
  · rw [h.sp]; intro t ht; rw [List.mem_singleton.1 ht]; exact Nat.le_refl _
  · rw [h.sp]; intro t ht; rw [List.mem_singleton.1 ht]; show B.length ≤ _; omega
  · rw [h.sp]; intro t ht; rw [List.mem_singleton.1 ht]; exact List.Pairwise.nil
  · rw [h.sp]; intro t ht; rw [List.mem_singleton.1 ht]; intro q hq; cases hq
  · rw [h.sp]; simp [usedT]; omega
  · rw [h.sp]; simp [dirtyT]
theorem find1 (B : List UInt8) (wr : Nat) (pl : List Nat) : findT [⟨q1, B, wr, pl⟩] q1 = some ⟨q1, B, wr, pl⟩ := by simp [findT]
theorem newA_fine : (newA 1000).Fine := ⟨(fun t h => by cases h), (fun t h => by cases h), (fun t h => by cases h), (fun t h => by cases h), by decide, by decide, by decide⟩
/-- The first segment. -/
theorem step_new : ∃ A1 A2, createM (newA 1000) (tB (nmW 1)) = (0, A1) ∧ A1.left = 0 ∧ A1.ops ≤ 1000000 ∧ syncM A1 (tB (nmW 1)) = (0, A2) ∧ St1 A2 [] 1 := by
  rw [nm_one]
  refine ⟨crT (newA 1000) q1, syT (crT (newA 1000) q1) q1 ⟨q1, [], 0, []⟩, ?_, rfl, by show 1 ≤ 1000000; omega, ?_, ⟨?_, rfl, rfl, rfl, by show 2 ≤ 10; omega, by show 0 ≤ 100; omega⟩⟩
  · unfold createM
    rw [show (newA 1000).on = true from rfl, if_pos good1, nameOf_tB]
    rfl
  · unfold syncM
    rw [show (crT (newA 1000) q1).on = true from rfl, if_pos good1, nameOf_tB]
    rfl
  · show upd (putT [] ⟨q1, [], 0, []⟩) q1 _ = _
    simp [putT, dropT, insT, upd]
/-- One record more. -/
theorem step_app {A : Ab} {B R : List UInt8} {k : Nat} (h : St1 A B k) (hk : k ≤ 100) (hB : B.length ≤ 400) (hR : R.length ≤ 400) (hR0 : R ≠ []) :
    ∃ A1 A2, appendM A (tB (nmW 1)) R = (0, A1) ∧ A1.left = 0 ∧ A1.ops ≤ 1000000 ∧ syncM A1 (tB (nmW 1)) = (0, A2) ∧ St1 A2 (B ++ R) (k + 1) := by
  rw [nm_one]
  have hu : usedT A.sp = 1 + (B.length + 15) / 16 := by rw [h.sp]; simp [usedT]
  have hlack : lackT ⟨q1, B, B.length, []⟩ R ≤ 60 := by
    unfold lackT
    show secI ((B.length : Int) + (R.length : Int)) - secI (B.length : Int) ≤ 60
    rw [← Int.natCast_add, secI_nat, secI_nat]; omega
  refine ⟨appT A q1 ⟨q1, B, B.length, []⟩ R, syT (appT A q1 ⟨q1, B, B.length, []⟩ R) q1 ⟨q1, B ++ R, B.length, [] ++ List.range' A.next (growT ⟨q1, B, B.length, []⟩ R)⟩, ?_, ?_, ?_, ?_, ⟨?_, h.room, h.on, ?_, ?_, ?_⟩⟩
  · unfold appendM
    rw [h.on, if_pos good1, nameOf_tB, h.sp, find1]
    simp only
    rw [← h.sp, h.room, hu, if_neg (by omega)]
  · show A.left - 1 = 0
    rw [h.left]
  · show A.ops + 1 ≤ _
    have := h.ops; omega
  · unfold syncM
    rw [show (appT A q1 ⟨q1, B, B.length, []⟩ R).on = A.on from rfl, h.on, if_pos good1, nameOf_tB]
    have e : (appT A q1 ⟨q1, B, B.length, []⟩ R).sp = [⟨q1, B ++ R, B.length, [] ++ List.range' A.next (growT ⟨q1, B, B.length, []⟩ R)⟩] := by
      show upd A.sp q1 _ = _
      rw [h.sp]; simp [upd]
    rw [e, find1]
  · show upd (upd A.sp q1 _) q1 _ = _
    rw [h.sp]; simp [upd]
  · show A.left - 1 - 1 = 0
    rw [h.left]
  · show A.ops + 1 + 1 ≤ _
    have := h.ops; omega
  · show A.next + growT ⟨q1, B, B.length, []⟩ R ≤ _
    have hg : growT ⟨q1, B, B.length, []⟩ R ≤ 60 := by
      unfold growT
      rw [if_neg hR0]
      unfold growN
      show (B.length + R.length + 15) / 16 - B.length / 16 - 0 ≤ 60
      omega
    have := h.next; omega
/-- A second segment. -/
structure St2 (A : Ab) (B : List UInt8) : Prop where
  sp : A.sp = [⟨q1, B, B.length, []⟩, ⟨q2, [], 0, []⟩]
  on : A.on = true
  left : A.left = 0
  ops : A.ops ≤ 1000000
theorem step_roll {A : Ab} {B : List UInt8} {k : Nat} (h : St1 A B k) (hk : k ≤ 100) (hB : B.length ≤ 1000) :
    ∃ A1 A2, createM A (tB (nmW (1 + 1))) = (0, A1) ∧ A1.left = 0 ∧ A1.ops ≤ 1000000 ∧ syncM A1 (tB (nmW (1 + 1))) = (0, A2) ∧ St2 A2 B := by
  rw [show (1 + 1 : Int) = 2 from rfl, nm_two]
  have hu : usedT A.sp = 1 + (B.length + 15) / 16 := by rw [h.sp]; simp [usedT]
  have hput : putT A.sp ⟨q2, [], 0, []⟩ = [⟨q1, B, B.length, []⟩, ⟨q2, [], 0, []⟩] := by
    rw [h.sp]
    have h1 : (q1 == q2) = false := by decide
    have h2 : bytesBefore q2 q1 = false := by decide
    simp [putT, dropT, insT, h1, h2]
  have hf : findT A.sp q2 = none := by
    rw [h.sp]
    have h1 : (q1 == q2) = false := by decide
    simp [findT, h1]
  refine ⟨crT A q2, syT (crT A q2) q2 ⟨q2, [], 0, []⟩, ?_, ?_, ?_, ?_, ⟨?_, h.on, ?_, ?_⟩⟩
  · unfold createM
    rw [h.on, if_pos good2, nameOf_tB, hf]
    simp only
    rw [if_neg (by rw [hu, h.room, h.sp]; simp; omega)]
  · show A.left - 1 = 0
    rw [h.left]
  · show A.ops + 1 ≤ _
    have := h.ops; omega
  · unfold syncM
    rw [show (crT A q2).on = A.on from rfl, h.on, if_pos good2, nameOf_tB]
    have e : findT (crT A q2).sp q2 = some ⟨q2, [], 0, []⟩ := by
      show findT (putT A.sp ⟨q2, [], 0, []⟩) q2 = _
      rw [hput]
      have h1 : (q1 == q2) = false := by decide
      simp [findT, h1]
    rw [e]
  · show upd (putT A.sp ⟨q2, [], 0, []⟩) q2 _ = _
    rw [hput]
    have h1 : q1 ≠ q2 := by decide
    simp [upd, h1]
  · show A.left - 1 - 1 = 0
    rw [h.left]
  · show A.ops + 1 + 1 ≤ _
    have := h.ops; omega
theorem step_remove {A : Ab} {B : List UInt8} (h : St2 A B) : ∃ A1, removeM A (tB (nmW 1)) = (0, A1) ∧ A1.sp = [⟨q2, [], 0, []⟩] ∧ A1.on = true := by
  rw [nm_one]
  have h1 : (q2 == q1) = false := by decide
  refine ⟨rmT A q1, ?_, ?_, h.on⟩
  · unfold removeM
    rw [h.on, if_pos good1, nameOf_tB]
    have e : findT A.sp q1 = some ⟨q1, B, B.length, []⟩ := by rw [h.sp]; simp [findT]
    rw [e]
  · show dropT A.sp q1 = _
    rw [h.sp]; simp [dropT, h1]
theorem numO1 : numO q1 = some 1 := by unfold numO; rw [← nm_one, num_name rfl]; rfl
theorem numO2 : numO q2 = some 2 := by unfold numO; rw [← nm_two, num_name rfl]; rfl
theorem St2.nums {A : Ab} {B : List UInt8} (h : St2 A B) : (A.sp.map Sig.nm).filterMap numO = [1, 2] := by rw [h.sp]; simp [numO1, numO2]
end Go.Proofs.YtglaocghcgcghaaGreatDoor
namespace Go.Proofs.YtglaocghcgcghaaGreatDoor
open Go.RowKit

/-- A file all of whose bytes are sure. -/
def suW (nm E : List UInt8) : Sig := ⟨nm, E, E.length, []⟩
theorem lose_su (nm E : List UInt8) (x : Nat) : loseT (suW nm E) x = suW nm E := by
  have h : lostT (suW nm E) x = E.length := by unfold lostT keptT suW; simp
  unfold loseT
  rw [h]
  simp [suW]
/-- Of a file whose first bytes are sure something of the rest is lost. -/
theorem lose_part (nm B R : List UInt8) (pl : List Nat) (x : Nat) : ∃ j, j ≤ R.length ∧ loseT ⟨nm, B ++ R, B.length, pl⟩ x = suW nm (B ++ R.take j) := by
  have h1 : B.length ≤ lostT ⟨nm, B ++ R, B.length, pl⟩ x := by
    unfold lostT
    split
    · exact Nat.le_refl _
    · show B.length ≤ min (B ++ R).length ((B.length / 16 + keptT ⟨nm, B ++ R, B.length, pl⟩ x) * 16)
      rw [List.length_append]
      omega
  have h2 : lostT ⟨nm, B ++ R, B.length, pl⟩ x ≤ B.length + R.length := by
    have := lost_leN (t := ⟨nm, B ++ R, B.length, pl⟩) (by show B.length ≤ (B ++ R).length; rw [List.length_append]; omega) x
    rw [List.length_append] at this
    exact this
  obtain ⟨m, hm⟩ : ∃ m, lostT ⟨nm, B ++ R, B.length, pl⟩ x = m := ⟨_, rfl⟩
  rw [hm] at h1 h2
  refine ⟨m - B.length, by omega, ?_⟩
  unfold loseT
  rw [hm]
  have e : (B ++ R).take m = B ++ R.take (m - B.length) := by rw [List.take_append, List.take_of_length_le h1]
  show (⟨nm, (B ++ R).take m, m, []⟩ : Sig) = _
  rw [e]
  unfold suW
  congr 1
  rw [List.length_append, List.length_take]
  omega
theorem goodN : refuse true [tB spW] = 0 := by unfold refuse; simp only [List.all_cons, List.all_nil, nameOf_tB]; rfl
theorem goodN1 : refuse true [tB spW, tB q1] = 0 := by unfold refuse; simp only [List.all_cons, List.all_nil, nameOf_tB]; rfl
def q3 : List UInt8 := [108, 111, 103, 45, 51]
theorem nm_three : nmW 3 = q3 := by
  unfold nmW Lib.itoa
  rw [if_pos (show okW 3 = true from rfl), if_neg (by omega), Lib.decDigits_one (by decide)]; rfl
theorem good3 : refuse true [tB q3] = 0 := by unfold refuse; simp only [List.all_cons, List.all_nil, nameOf_tB]; rfl
theorem numO3 : numO q3 = some 3 := by unfold numO; rw [← nm_three, num_name rfl]; rfl
/-- What an operation leaves: it is done, or the power failed. -/
def Stp (A : Ab) (q : Int × Ab) (sp' : List Sig) (C : List Sig → Prop) : Prop :=
  (A.left ≠ 1 ∧ q.1 = 0 ∧ q.2.sp = sp' ∧ q.2.on = true ∧ q.2.left = A.left - 1) ∨ (A.left = 1 ∧ q.1 = 9 ∧ q.2.on = false ∧ C q.2.sp)
theorem stp_turn {A A' : Ab} {sp' : List Sig} {C : List Sig → Prop} (h1 : A'.sp = sp') (h2 : A'.on = true) (h3 : A'.left = A.left - 1) (h4 : ∀ x, C (A.sp.map fun t => loseT t x)) : Stp A (turnX A (0, A')) sp' C := by
  by_cases hl : A.left = 1
  · refine .inr ⟨hl, ?_⟩
    rw [turnX_cut hl rfl]
    exact ⟨rfl, rfl, h4 _⟩
  · refine .inl ⟨hl, ?_⟩
    rw [turnX_ok hl]
    exact ⟨rfl, h1, h2, h3⟩
theorem used_le {A : Ab} {k : Nat} (hN : Nice A k) (hc : A.sp.length ≤ 10) : usedT A.sp ≤ 400000 := by
  have h1 := sum_leN (fun t => 1 + (t.bs.length + 15) / 16) 40000 A.sp (fun t ht => by have := (hN.file t ht).len; show 1 + (t.bs.length + 15) / 16 ≤ 40000; omega)
  unfold usedT
  omega
theorem find_su (nm E : List UInt8) (r : List Sig) : findT (suW nm E :: r) nm = some (suW nm E) := by
  unfold findT
  have : ((suW nm E).nm == nm) = true := by show (nm == nm) = true; simp
  rw [List.find?_cons, this]
theorem find_ne {nm nm' : List UInt8} (h : (nm == nm') = false) (E : List UInt8) (r : List Sig) : findT (suW nm E :: r) nm' = findT r nm' := by
  unfold findT
  have : ((suW nm E).nm == nm') = false := h
  rw [List.find?_cons, this]
theorem find_at (t : Sig) (nm : List UInt8) (h : t.nm = nm) (r : List Sig) : findT (t :: r) nm = some t := by
  unfold findT
  have : (t.nm == nm) = true := by rw [h]; simp
  rw [List.find?_cons, this]
/-- A file is created, one of that name or none being there. -/
theorem create_stp {A : Ab} {k : Nat} (hN : Nice A k) (hon : A.on = true) (hc : A.sp.length ≤ 10) {nm : List UInt8} (hg : refuse true [tB nm] = 0) {sp' : List Sig} (hp : putT A.sp ⟨nm, [], 0, []⟩ = sp') (hl : ∀ x, A.sp.map (fun t => loseT t x) = A.sp) {C : List Sig → Prop} (hC : C A.sp) : Stp A (createX A (tB nm)) sp' C := by
  have hu := used_le hN hc
  have hr := hN.room
  have e : createM A (tB nm) = (0, crT A nm) := by
    unfold createM
    rw [hon, if_pos hg, nameOf_tB]
    cases findT A.sp nm with
    | none =>
      simp only
      rw [if_neg (by omega)]
    | some t => rfl
  unfold createX
  rw [e]
  exact stp_turn hp hon rfl fun x => by rw [hl]; exact hC
theorem sync_stp {A : Ab} (hon : A.on = true) {nm : List UInt8} (hg : refuse true [tB nm] = 0) {t : Sig} (ht : findT A.sp nm = some t) {sp' : List Sig} (hp : upd A.sp nm (suW nm t.bs) = sp') {C : List Sig → Prop} (hC : ∀ x, C (A.sp.map fun t => loseT t x)) : Stp A (syncX A (tB nm)) sp' C := by
  have e : syncM A (tB nm) = (0, syT A nm t) := by
    unfold syncM
    rw [hon, if_pos hg, nameOf_tB, ht]
  unfold syncX
  rw [e]
  exact stp_turn hp hon rfl hC
theorem append_stp {A : Ab} {k : Nat} (hN : Nice A k) (hon : A.on = true) (hc : A.sp.length ≤ 10) {nm : List UInt8} (hg : refuse true [tB nm] = 0) {t : Sig} (ht : findT A.sp nm = some t) (l : List UInt8) (hl : t.bs.length + l.length ≤ 600000) {C : List Sig → Prop}
    (hC : ∀ x, C ((upd A.sp nm ⟨nm, t.bs ++ l, t.wr, t.pl ++ List.range' A.next (growT t l)⟩).map fun t => loseT t x)) : Stp A (appendX A (tB nm) l) (upd A.sp nm ⟨nm, t.bs ++ l, t.wr, t.pl ++ List.range' A.next (growT t l)⟩) C := by
  have hu := used_le hN hc
  have hr := hN.room
  have hlk : lackT t l ≤ 40000 := by
    unfold lackT
    rw [← Int.natCast_add, secI_nat, secI_nat]; omega
  have e : appendM A (tB nm) l = (0, appT A nm t l) := by
    unfold appendM
    rw [hon, if_pos hg, nameOf_tB, ht]
    simp only
    rw [if_neg (by omega)]
  unfold appendX
  rw [e, nameOf_tB, ht]
  by_cases h1 : A.left = 1
  · rw [if_pos ⟨h1, rfl⟩]
    exact .inr ⟨h1, rfl, rfl, hC _⟩
  · rw [if_neg (fun h => h1 h.1)]
    exact .inl ⟨h1, rfl, rfl, hon, rfl⟩
theorem rename_stp {A : Ab} (hon : A.on = true) {nm to : List UInt8} (hg : refuse true [tB nm, tB to] = 0) {t : Sig} (ht : findT A.sp nm = some t) {sp' : List Sig} (hp : putT (dropT A.sp nm) ⟨to, t.bs, t.wr, t.pl⟩ = sp') (hl : ∀ x, A.sp.map (fun t => loseT t x) = A.sp) {C : List Sig → Prop} (hC : C A.sp) : Stp A (renameX A (tB nm) (tB to)) sp' C := by
  have e : renameM A (tB nm) (tB to) = (0, rnT A nm to t) := by
    unfold renameM
    rw [hon, if_pos hg, nameOf_tB, nameOf_tB, ht]
  unfold renameX
  rw [e]
  exact stp_turn hp hon rfl fun x => by rw [hl]; exact hC
/-! ### the files of a log that is opened -/
theorem ne_1n : (q1 == spW) = false := by decide
theorem ne_n1 : (spW == q1) = false := by decide
theorem ne_12 : (q1 == q2) = false := by decide
theorem ne_21 : (q2 == q1) = false := by decide
theorem ne_13 : (q1 == q3) = false := by decide
theorem ne_23 : (q2 == q3) = false := by decide
theorem put_n1 (E X : List UInt8) (r : List Sig) (hr : r = [] ∨ ∃ X, r = [suW spW X]) : putT (suW q1 E :: r) (suW spW X) = [suW q1 E, suW spW X] := by
  have e1 : ((suW q1 E).nm == spW) = false := ne_1n
  have e3 : bytesBefore spW (suW q1 E).nm = false := by show bytesBefore spW q1 = false; decide
  have e4 : (suW spW X).nm = spW := rfl
  rcases hr with rfl | ⟨Y, rfl⟩
  · simp [putT, dropT, insT, e1, e3, e4]
  · have e2 : ((suW spW Y).nm == spW) = true := by show (spW == spW) = true; decide
    simp [putT, dropT, insT, e1, e2, e3, e4]
theorem upd_n1 (E : List UInt8) (t t' : Sig) (h : t.nm = spW) : upd [suW q1 E, t] spW t' = [suW q1 E, t'] := by
  have e1 : ((suW q1 E).nm == spW) = false := ne_1n
  have e2 : (t.nm == spW) = true := by rw [h]; decide
  show [if ((suW q1 E).nm == spW) = true then t' else suW q1 E, if (t.nm == spW) = true then t' else t] = _
  rw [if_pos e2, if_neg (by rw [e1]; simp)]
theorem ren_n1 (E S : List UInt8) : putT (dropT [suW q1 E, suW spW S] spW) (suW q1 S) = [suW q1 S] := by
  have e1 : ((suW q1 E).nm == spW) = false := ne_1n
  have e2 : ((suW spW S).nm == spW) = true := by show (spW == spW) = true; decide
  have e3 : ((suW q1 E).nm == (suW q1 S).nm) = true := by show (q1 == q1) = true; decide
  simp [putT, dropT, insT, e1, e2, e3]
theorem put_12 (E : List UInt8) : putT [suW q1 E] (suW q2 []) = [suW q1 E, suW q2 []] := by
  have e1 : ((suW q1 E).nm == (suW q2 []).nm) = false := ne_12
  have e3 : bytesBefore (suW q2 []).nm (suW q1 E).nm = false := by show bytesBefore q2 q1 = false; decide
  simp [putT, dropT, insT, e1, e3]
theorem put_12n (E X : List UInt8) : putT [suW q1 E, suW spW X] (suW q2 []) = [suW q1 E, suW q2 [], suW spW X] := by
  have e1 : ((suW q1 E).nm == (suW q2 []).nm) = false := ne_12
  have e2 : ((suW spW X).nm == (suW q2 []).nm) = false := by show (spW == q2) = false; decide
  have e3 : bytesBefore (suW q2 []).nm (suW q1 E).nm = false := by show bytesBefore q2 q1 = false; decide
  have e4 : bytesBefore (suW q2 []).nm (suW spW X).nm = true := by show bytesBefore q2 spW = true; decide
  simp [putT, dropT, insT, e1, e2, e3, e4]
theorem put_123 (E : List UInt8) : putT [suW q1 E, suW q2 []] (suW q3 []) = [suW q1 E, suW q2 [], suW q3 []] := by
  have e1 : ((suW q1 E).nm == (suW q3 []).nm) = false := ne_13
  have e2 : ((suW q2 []).nm == (suW q3 []).nm) = false := ne_23
  have e3 : bytesBefore (suW q3 []).nm (suW q1 E).nm = false := by show bytesBefore q3 q1 = false; decide
  have e4 : bytesBefore (suW q3 []).nm (suW q2 []).nm = false := by show bytesBefore q3 q2 = false; decide
  simp [putT, dropT, insT, e1, e2, e3, e4]
end Go.Proofs.YtglaocghcgcghaaGreatDoor
namespace Go.Proofs.YtglaocghcgcghaaGreatDoor
open Go.RowKit

/-- Texts that memory can hold. -/
structure Cx.Fit (x : Cx) : Prop where
  t : x.k.t.size ≤ maxLen
  p : x.k.p.size ≤ maxLen
  c : x.k.c.size ≤ maxLen
  s : x.v.s.size ≤ maxLen
end Go.Proofs.YtglaocghcgcghaaGreatDoor
namespace Go.Proofs.YtglaocghcgcghaaGreatDoor
open Go.RowKit

/-- A reader in block R: its bytes are l (at ao), n of them are read. -/
structure Rd (w : World) (R : Nat) (ao : Option Addr) (l : List UInt8) (cap n : Nat) : Prop where
  c0 : w.cell? ⟨R, 0, none⟩ = some (.slice ao l.length cap)
  c1 : w.cell? ⟨R, 1, none⟩ = some (.int .i64 n)
  f1 : w.frozen? ⟨R, 1, none⟩ = false
  le : n ≤ l.length
  max : l.length ≤ 140737488355000
  sees : Sees w ao l
  ne : l.length ≠ 0 → ∀ a, ao = some a → a.block ≠ R
/-- What a reader panics with lies where it lies. -/
def Err (w : World) (u : TypeId) (pv : Value) : Prop := w.cell? ⟨4, 0, none⟩ = some (.iface u pv)

theorem Rd.drewN {w : World} {R : Nat} {ao : Option Addr} {l : List UInt8} {cap n : Nat} (h : Rd w R ao l cap n) (k : Nat) : Rd (w.drewN k) R ao l cap n := ⟨h.c0, h.c1, h.f1, h.le, h.max, h.sees, h.ne⟩

/-- The reader goes to another place. -/
theorem Rd.set {w : World} {R : Nat} {ao : Option Addr} {l : List UInt8} {cap n : Nat} (h : Rd w R ao l cap n) {m : Nat} (hm : m ≤ l.length) (z : Int) (hz : z = (m : Int)) : Rd (w.setCell ⟨R, 1, none⟩ (.int .i64 z)) R ao l cap m := by
  subst hz
  refine ⟨?_, ?_, ?_, hm, h.max, ?_, h.ne⟩
  · rw [World.cell?_setCell_other _ _ _ _ (by simp)]; exact h.c0
  · exact World.cell?_setCell_same _ _ _ h.c1
  · rw [World.frozen?_setCell]; exact h.f1
  · intro i hi
    obtain ⟨a, e, hc⟩ := h.sees i hi
    refine ⟨a, e, ?_⟩
    rw [World.cell?_setCell_other _ _ _ _ ?_]
    · exact hc
    · intro e'
      have := congrArg Addr.block e'
      rw [Addr.add_block] at this
      exact h.ne (by omega) a e this.symm
theorem grownBy_drewN {w w' : World} {r : Option Nat} (h : w.grownBy w' r) (k : Nat) : w.grownBy (w'.drewN k) r := ⟨h.os, h.tape, h.output, h.size, h.block⟩

set_option maxRecDepth 100000 in
set_option maxHeartbeats 400000 in
theorem octet_end (R : Nat) (ao : Option Addr) (l : List UInt8) (cap n : Nat) (w : World) (u : TypeId) (pv : Value) (h : Rd w R ao l cap n) (hn : n = l.length) (he : Err w u pv) :
    Calls Tryz.prog 172 #[.pointer (some ⟨R, 0, none⟩)] w fun e w' => e = .panicked [{ v := .iface u pv, recovered := false }] ∧ ∃ k, w' = w.drewN k := by
  have c0 := h.c0
  have c1 := h.c1
  have hm := h.max
  have hle := h.le
  have hcmp : ((n : Int) == (l.length : Int)) = true := by simp [hn]
  unfold Err at he
  clear h hn
  go_enter Tryz.func172, Tryz.ntmps172
  go_wp2
  go_quiet (fail)
  go_wp2
  exact ⟨rfl, rfl, nq, rfl⟩

theorem sees_at {w : World} {ao : Option Addr} {l : List UInt8} (h : Sees w ao l) {n : Nat} (hn : n < l.length) : ∃ b off, ao = some ⟨b, off, none⟩ ∧ w.cell? ⟨b, off + n, none⟩ = some (.int .u8 ((l.getD n 0).toNat : Int)) := by
  obtain ⟨a, rfl, hc⟩ := h n hn
  obtain ⟨a', e, hc0⟩ := h 0 (by omega)
  obtain rfl := Option.some.inj e
  obtain ⟨b, off, spot⟩ := a
  have hspot : spot = none := by simpa [Addr.add] using World.cell?_spot hc0
  subst hspot
  exact ⟨b, off, rfl, by rw [Addr.add_lit] at hc; exact hc⟩

set_option maxRecDepth 100000 in
set_option maxHeartbeats 400000 in
theorem octet_ok (R : Nat) (ao : Option Addr) (l : List UInt8) (cap n : Nat) (w : World) (h : Rd w R ao l cap n) (hn : n < l.length) :
    Calls Tryz.prog 172 #[.pointer (some ⟨R, 0, none⟩)] w fun e w' => e = .returned (.int .u8 ((l.getD n 0).toNat : Int)) ∧ Rd w' R ao l cap (n + 1) ∧ w.grownBy w' (some R) := by
  have c0 := h.c0
  have c1 := h.c1
  have f1 := h.f1
  have hm := h.max
  have hle := h.le
  have hcmp : ((n : Int) == (l.length : Int)) = false := by simp; omega
  obtain ⟨b, off, ha, hc⟩ := sees_at h.sees hn
  have hne : b ≠ R := h.ne (by omega) _ ha
  subst ha
  have H := h
  clear h
  go_enter Tryz.func172, Tryz.ntmps172
  go_wp2
  go_quiet (fail)
  go_wp2
  go_quiet (fail)
  go_wp2
  go_ret
  refine ⟨ret_int (by simp [hn]), (Rd.set (H.drewN _) (by omega) _ (by omega)).drewN _, grownBy_drewN (grownBy_setCell (grownBy_drewN (World.grownBy.refl _ _) _)) _⟩
end Go.Proofs.YtglaocghcgcghaaGreatDoor
namespace Go.Proofs.YtglaocghcgcghaaGreatDoor
open Go.RowKit

theorem Rx.drew {w : World} {B g cap : Nat} {L : List Cx} (h : Rx w B g cap L) : Rx w.drew B g cap L := h
theorem grown_drew {w w' : World} {r : Option Nat} (h : w.grownBy w' r) : w.grownBy w'.drew r := ⟨h.os, h.tape, h.output, h.size, h.block⟩
end Go.Proofs.YtglaocghcgcghaaGreatDoor
