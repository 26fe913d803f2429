/-
  SEVERAL TEXTS IN ONE: WkPh, WkTwice, WkOff.
-/
import Derived.Test.YtglaocghcgcghaaGreatDoorMany32
import Derived.Test.YtglaocghcgcghaaGreatDoorWalLives
namespace Go.Proofs.YtglaocghcgcghaaGreatDoor
open Go.RowKit Go.Proofs.YtglaocghcgcghaaGreatDoor.walBack

set_option maxRecDepth 100000 in
set_option maxHeartbeats 1000000 in
theorem weighK_any (ao : Option Addr) (l : List Cx) (cap m : Nat) (w : World) (ha : XSees w ao l) (hm : m ≤ 500) (hl : l.length ≤ 140737488355328) (hw : ∀ c ∈ l, wtX c ≤ 562949953421312) :
    Calls Tryz.prog 4 #[.slice ao l.length cap, .int .i64 m] w fun e w' => (∃ z : Nat, e = .returned (.int .i64 z) ∧ z ≤ 1000000000000000 ∧ (z ≤ m → l.length ≤ z)) ∧ Below w.heap.size w w' := by
  go_enter Tryz.func4, Tryz.ntmps4
  go_wp2
  go_loopw [5, 10] (fun s5 s10 wr => ∃ i z : Nat, i ≤ l.length ∧ s5 = .int .i64 z ∧ s10 = .int .i64 i ∧ i ≤ z ∧ z ≤ m ∧ wtXs (l.take i) ≤ 20 * z ∧ Below w.heap.size w wr) (fun _ s10 _ => l.length - (intOf s10).toNat)
  case atStart => exact ⟨0, 0, by omega, rfl, rfl, by omega, by omega, by simp [wtXs], Below.refl _ _⟩
  case round =>
    obtain ⟨i, z, hi, rfl, rfl, hiz, hz, hwz, hbr⟩ := hrel
    rcases Nat.lt_or_ge i l.length with hlt | hge
    · have hc : l[i]? = some l[i] := List.getElem?_eq_getElem hlt
      have hcw := hw l[i] (List.getElem_mem hlt)
      have hst : wtXs (l.take (i + 1)) = wtXs (l.take i) + wtX l[i] := by
        rw [takeX_succ hc]
        unfold wtXs
        rw [List.map_append, List.sum_append]
        simp
      obtain ⟨b1, o1, rfl, h1⟩ := (ha.below hbr (Nat.le_refl _)) i _ hc
      generalize l[i] = c at *
      obtain ⟨⟨table, part, row, col⟩, ⟨time, dead, loc, kind, num, s⟩⟩ := c
      obtain ⟨k0, k1, k2, k3, k4, k5, k6, k7, k8, k9⟩ := h1
      simp only at k0 k1 k2 k3 k4 k5 k6 k7 k8 k9
      unfold wtX at hcw hst
      simp only at hcw hst
      have hb2 : Below w.heap.size w (wr.alloc (.cells (Cx.a ⟨⟨table, part, row, col⟩, ⟨time, dead, loc, kind, num, s⟩⟩) 50)) := hbr.alloc hbr.size _
      have Hst : Hid (wtXs (l.take (i + 1)) = wtXs (l.take i) + (table.size + part.size + col.size + s.size)) := hst
      clear hc ha hst hw
      have hsum : (table.size : Int) + part.size + col.size + s.size ≤ 562949953421312 := by omega
      by_cases hbig : z + (1 + (table.size + part.size + col.size + s.size) / 20) ≤ m
      · have hq : ¬ ((m : Int) < (z : Int) + (1 + ((table.size : Int) + part.size + col.size + s.size) / 20)) := by omega
        go_wp2
        go_roundw
        case rel =>
          refine ⟨i + 1, z + (1 + (table.size + part.size + col.size + s.size) / 20), by omega, ?_, by go_num, by omega, hbig, ?_, hb2⟩
          · congr 1
          · rw [Hst.out]
            omega
        case measure => simp [intOf]; omega
      · have hq : ((m : Int) < (z : Int) + (1 + ((table.size : Int) + part.size + col.size + s.size) / 20)) := by omega
        go_wp2
        go_ret
        refine ⟨⟨z + (1 + (table.size + part.size + col.size + s.size) / 20), ret_int (by omega), by omega, fun h => absurd h hbig⟩, hb2⟩
    · obtain rfl : i = l.length := by omega
      rw [List.take_length] at hwz
      clear ha hw
      go_wp2
      go_ret
      exact ⟨⟨z, rfl, by omega, fun _ => by omega⟩, hbr⟩
section
variable {w0 : World} {d lb : Nat} {A : Ab} {n : Int} {b : Bool} {ft : List Nat} {w : World}
theorem kd_start (h : Kd w0 d A ft w) : Calls Tryz.prog 13 #[.pointer (some ⟨d, 0, none⟩)] w fun x w' => x = .returned (.tuple #[]) ∧ KdR w0 d { A with on := true, left := 0 } ft w w' :=
  (ab_start h.1).mono fun _ _ ⟨hx, ha, hm⟩ => ⟨hx, KdR.out h ha hm⟩
theorem kd_crash (h : Kd w0 d A ft w) {k : Nat} (hN : Nice A k) (hk : k ≤ 2000) (m : Int) (h1 : -9223372036854775808 ≤ m) (h2 : m ≤ 9223372036854775807) : Calls Tryz.prog 12 #[.pointer (some ⟨d, 0, none⟩), .int .i64 m] w fun x w' => x = .returned (.tuple #[]) ∧ KdR w0 d (if A.on then offA A m.toNat else A) ft w w' :=
  (any_crash h.1 (hN.fine hk) m h1 h2).mono fun _ _ ⟨hx, _, ha, hm⟩ => ⟨hx, KdR.out h ha hm⟩
theorem kd_arm (h : Kd w0 d A ft w) (a m : Int) : Calls Tryz.prog 8 #[.pointer (some ⟨d, 0, none⟩), .int .i64 a, .int .i64 m] w fun x w' => x = .returned (.int .i64 (armX A a m).1) ∧ KdR w0 d (armX A a m).2 ft w w' :=
  (any_arm h.1 a m).mono fun _ _ ⟨hx, _, ha, hm⟩ => ⟨hx, KdR.out h ha hm⟩
theorem kd_on (h : Kd w0 d A ft w) : Calls Tryz.prog 11 #[.pointer (some ⟨d, 0, none⟩)] w fun e w' => e = .returned (.bool A.on) ∧ w' = w := by
  obtain ⟨⟨bm, fs, hD, _, _⟩, _⟩ := h
  exact on_any hD
theorem ly_arm (h : LyF w0 d lb A n b ft w) (a m : Int) : Calls Tryz.prog 8 #[.pointer (some ⟨d, 0, none⟩), .int .i64 a, .int .i64 m] w fun x w' => x = .returned (.int .i64 (armX A a m).1) ∧ LyR w0 d lb (armX A a m).2 n b ft w w' :=
  (any_arm h.1 a m).mono fun _ _ ⟨hx, _, ha, hm⟩ => ⟨hx, LyR.out h ha hm⟩
theorem LyF.kd (h : LyF w0 d lb A n b ft w) : Kd w0 d A ft w := ⟨h.1, h.2.2.2.1, h.2.2.2.2.2⟩
/-- A row that is none of the disk's lies as it lay. -/
theorem row_apart {w' : World} {e : TypeId} {k m B : Nat} {v : Value} {xs : List Value} {a a' : List Nat} (ho : w.ownsRow B e k v m xs) (hap : ∀ g, v.ownBlock = some g → g ∉ a) (hm : Moved w w' a a') : w'.ownsRow B e k v m xs ∧ ∀ g, v.ownBlock = some g → g ∉ a' := by
  refine ⟨owns_heap ho fun g hg => hm.kept g (ho.lt g hg).2 (hap g hg), fun g hg hi => ?_⟩
  rcases hm.news g hi with h | h
  · exact hap g hg h
  · have := (ho.lt g hg).2; omega
/-- An append onto a row that is none of the log's. -/
theorem LyF.grew {w' : World} {v v' : Value} (h : LyF w0 d lb A n b ft w) (hg : Grew w w' v v') (hap : ∀ g, v.ownBlock = some g → g ∉ lb :: ft) (hb : ∀ g, v.ownBlock = some g → w0.heap.size ≤ g) : LyF w0 d lb A n b ft w' := by
  obtain ⟨h1, h2, h3, h4, h5, h6⟩ := h
  have hm : Moved w w' v.ownBlock.toList v.ownBlock.toList := Moved.of_grown hg.rows
  refine ⟨h1.moved hm fun i hi he => ?_, h2, h3.carry (hg.rows.block lb h3.lt fun e => hap lb e.symm List.mem_cons_self), h4, h5, h6.trans (hg.below h6.size hb)⟩
  rw [Option.mem_toList] at he
  exact hap i he (List.mem_cons_of_mem _ hi)
end
theorem Kd.alloc {w0 : World} {d : Nat} {A : Ab} {ft : List Nat} {w : World} (h : Kd w0 d A ft w) (o : Obj) : Kd w0 d A ft (w.alloc o) := h.more ((Below.refl _ _).alloc (Nat.le_refl _) _)
/-- The first segment is there. -/
theorem step_new4 : ∃ A1 A2, createM (newA 4194304) (tB (nmW 1)) = (0, A1) ∧ A1.left = 0 ∧ A1.ops ≤ 1000000 ∧ syncM A1 (tB (nmW 1)) = (0, A2) ∧ A2.sp = [suW q1 []] ∧ A2.on = true ∧ Nice A2 2 := by
  rw [nm_one]
  have hsp : (syT (crT (newA 4194304) q1) q1 ⟨q1, [], 0, []⟩).sp = [suW q1 []] := by
    show upd (putT [] ⟨q1, [], 0, []⟩) q1 _ = _
    simp [putT, dropT, insT, upd, suW]
  refine ⟨crT (newA 4194304) q1, syT (crT (newA 4194304) q1) q1 ⟨q1, [], 0, []⟩, ?_, rfl, by show 1 ≤ 1000000; omega, ?_, hsp, rfl, ⟨by rw [hsp]; simp, ?_, by show 2 ≤ 2; omega, by show 0 ≤ _; omega, rfl, by show 0 ≤ _; omega, by show (-9223372036854775808 : Int) ≤ 0; decide, by show (0 : Int) ≤ 9223372036854775807; decide⟩⟩
  · unfold createM
    rw [show (newA 4194304).on = true from rfl, if_pos good1, nameOf_tB]
    rfl
  · unfold syncM
    rw [show (crT (newA 4194304) q1).on = true from rfl, if_pos good1, nameOf_tB]
    rfl
  · rw [hsp]
    intro t ht
    rw [List.mem_singleton.1 ht]
    exact NiceT.sure _ _ _ (Nat.zero_le _)
theorem newA4_fine : (newA 4194304).Fine := nice_new.fine (by omega)
/-- How many cells a record has. -/
def wl (v : Lvx) : Nat := if recB v.l then v.l.length else 0
def sW (vs : List Lvx) : Nat := (vs.map wl).sum
theorem sW_snoc {vs : List Lvx} {i : Nat} {v : Lvx} (h : vs[i]? = some v) : sW (vs.take (i + 1)) = sW (vs.take i) + wl v := by
  rw [List.take_add_one, h]
  unfold sW
  rw [List.map_append, List.sum_append]
  simp
theorem sW_le (vs : List Lvx) (i : Nat) : sW (vs.take i) ≤ sW vs := by
  have : vs = vs.take i ++ vs.drop i := (List.take_append_drop i vs).symm
  conv => rhs; rw [this]
  unfold sW
  rw [List.map_append, List.sum_append]
  omega
def cutLk : Option Lvx → Nat
  | none => 0
  | some r => (recL r.l).length
/-- What holds while records are appended: those that were answered OK (R), and the one that was cut off. -/
structure Ph (wb : World) (vs : List Lvx) (d lb i : Nat) (R : List Lvx) (cut : Option Lvx) (A : Ab) (b : Bool) (ft : List Nat) (v14 : Value) (W : World) : Prop where
  log : LyF wb d lb A 1 b ft W
  row : W.ownsRow wb.heap.size 26 1 v14 R.length (R.map Lvx.s)
  apart : ∀ g, v14.ownBlock = some g → g ∉ lb :: ft
  sub : ∀ r ∈ R, r ∈ vs ∧ recB r.l = true
  cuts : ∀ r, cut = some r → r ∈ vs ∧ recB r.l = true
  nice : Nice A (2 + 2 * i)
  len : (encW (R.map Lvx.l)).length + cutLk cut ≤ 259 * sW (vs.take i)
  cnt : R.length ≤ i
  live : b = false → A.on = true ∧ cut = none ∧ A.sp = [suW q1 (encW (R.map Lvx.l))]
  dead : b = true → A.on = false ∧ ∃ r j, cut = some r ∧ A.sp = [suW q1 (encW (R.map Lvx.l) ++ (recL r.l).take j)]
section
variable {wb : World} {vs : List Lvx} {d lb i : Nat} {R : List Lvx} {cut : Option Lvx} {A : Ab} {b : Bool} {ft : List Nat} {v14 : Value} {W W' : World}
theorem Ph.same (h : Ph wb vs d lb i R cut A b ft v14 W) {v : Lvx} (hv : vs[i]? = some v) (hR : LyR wb d lb A 1 b ft W W') : ∃ ft', Ph wb vs d lb (i + 1) R cut A b ft' v14 W' := by
  obtain ⟨ft', h1, hm⟩ := hR
  obtain ⟨h2, h3⟩ := row_apart h.row h.apart hm
  exact ⟨ft', h1, h2, h3, h.sub, h.cuts, h.nice.mono (by omega), (by have := h.len; rw [sW_snoc hv]; omega), (by have := h.cnt; omega), h.live, h.dead⟩
theorem Ph.cutOff (h : Ph wb vs d lb i R cut A false ft v14 W) {v : Lvx} (hv : vs[i]? = some v) (hr : recB v.l = true) {A' : Ab} (hN : Nice A' (2 + 2 * i + 2)) (hoff : A'.on = false) {j : Nat} (hsp : A'.sp = [suW q1 (encW (R.map Lvx.l) ++ (recL v.l).take j)]) (hR : LyR wb d lb A' 1 true ft W W') : ∃ ft', Ph wb vs d lb (i + 1) R (some v) A' true ft' v14 W' := by
  obtain ⟨ft', h1, hm⟩ := hR
  obtain ⟨h2, h3⟩ := row_apart h.row h.apart hm
  refine ⟨ft', h1, h2, h3, h.sub, fun r hr' => ?_, hN, ?_, (by have := h.cnt; omega), fun hb => (by cases hb), fun _ => ⟨hoff, v, j, rfl, hsp⟩⟩
  · obtain rfl := Option.some.inj hr'
    exact ⟨List.mem_of_getElem? hv, hr⟩
  · have h4 := h.len
    obtain ⟨-, hc, -⟩ := h.live rfl
    rw [hc] at h4
    have h5 := recL_len hr
    rw [sW_snoc hv]
    unfold wl
    rw [if_pos hr]
    show _ + (recL v.l).length ≤ _
    unfold cutLk at h4
    omega
theorem Ph.keep (h : Ph wb vs d lb i R cut A false ft v14 W) {v : Lvx} (hv : vs[i]? = some v) (hr : recB v.l = true) {A' : Ab} (hN : Nice A' (2 + 2 * i + 2)) (hon : A'.on = true) (hsp : A'.sp = [suW q1 (encW (R.map Lvx.l) ++ recL v.l)]) {ft' : List Nat} (h1 : LyF wb d lb A' 1 false ft' W') (hm : Moved W W' (lb :: ft) (lb :: ft'))
    {o : Obj} {W2 : World} {v' : Value} (ho : W2.ownsRow wb.heap.size 26 1 v' (R.length + 1) (R.map Lvx.s ++ [v.s])) (hg : Grew (W'.alloc o) W2 v14 v') : Ph wb vs d lb (i + 1) (R ++ [v]) cut A' false ft' v' W2 := by
  obtain ⟨h2, h3⟩ := row_apart h.row h.apart hm
  have hb2 : Below W'.heap.size W' (W'.alloc o) := (Below.refl _ _).alloc (Nat.le_refl _) _
  have hF2 : LyF wb d lb A' 1 false ft' (W'.alloc o) := h1.more hb2
  refine ⟨hF2.grew hg h3 fun g e => (h2.lt g e).1, ?_, fun g e hi => ?_, fun r hr' => ?_, h.cuts, hN, ?_, ?_, fun _ => ⟨hon, (h.live rfl).2.1, ?_⟩, fun hb => (by cases hb)⟩
  · rw [List.map_append, List.length_append]; exact ho
  · rcases hg.own g e with h4 | h4
    · exact h3 g h4 hi
    · rcases List.mem_cons.1 hi with rfl | hi
      · have := hF2.blk.lt; omega
      · have := hF2.1.lt g hi; omega
  · rcases List.mem_append.1 hr' with h4 | h4
    · exact h.sub r h4
    · rw [List.mem_singleton] at h4; subst h4; exact ⟨List.mem_of_getElem? hv, hr⟩
  · have h4 := h.len
    have h5 := recL_len hr
    rw [sW_snoc hv, List.map_append, List.map_cons, List.map_nil, encW_snoc, List.length_append]
    unfold wl
    rw [if_pos hr]
    omega
  · have := h.cnt
    rw [List.length_append, List.length_singleton]; omega
  · rw [hsp, List.map_append, List.map_cons, List.map_nil, encW_snoc]
theorem Ph.room (h : Ph wb vs d lb i R cut A false ft v14 W) {v : Lvx} (hv : vs[i]? = some v) (hs : sW vs ≤ 800) (hr : recB v.l = true) : (encW (R.map Lvx.l)).length + (recL v.l).length ≤ 600000 := by
  have h1 := h.len
  have h2 := recL_len hr
  have h3 := sW_le vs (i + 1)
  rw [sW_snoc hv] at h3
  unfold wl at h3
  rw [if_pos hr] at h3
  omega
end
end Go.Proofs.YtglaocghcgcghaaGreatDoor
namespace Go.Proofs.YtglaocghcgcghaaGreatDoor
open Go.RowKit Go.Proofs.YtglaocghcgcghaaGreatDoor.walBack

theorem numO_spare : numO spW = none := by
  unfold numO
  split
  · rename_i h
    have e := num_ok h
    generalize (numR spW).1 = n at e
    unfold nmW at e
    split at e
    · have := congrArg (fun l => l.getD 3 0) e
      simp [preW, spW] at this
    · cases e
  · rfl
theorem q1_len : q1.length ≤ 1000 := by decide
theorem q2_len : q2.length ≤ 1000 := by decide
theorem spW_len : spW.length ≤ 1000 := by decide
theorem good_nm1 : refuse true [tB (nmW 1)] = 0 := by rw [nm_one]; exact good1
theorem good_nm2 : refuse true [tB (nmW 2)] = 0 := by rw [nm_two]; exact good2
/-- One segment, and what is read of it. -/
theorem segs_one {A : Ab} {E : List UInt8} {r : List Sig} (hsp : A.sp = suW q1 E :: r) (hE : E.length ≤ 600000) {rs : List (List Cx)} {n : Nat} (hT : ToldW E rs n) : Segs A [1] (fun _ => E) (fun _ => rs) (fun _ => n) := by
  refine ⟨fun m hm => ?_, fun m hm => ?_, fun _ _ => hE, fun _ _ => hT, fun i m hi hl => ?_, by simp⟩
  · rw [List.mem_singleton] at hm; subst hm; rfl
  · rw [List.mem_singleton] at hm; subst hm
    exact ⟨suW q1 E, by rw [hsp, nm_one, find_su], rfl⟩
  · simp at hl
/-- Two segments, of which the second has no record. -/
theorem segs_two {A : Ab} {S : List UInt8} (hsp : A.sp = [suW q1 S, suW q2 []]) (hS : S.length ≤ 600000) {rs : List (List Cx)} (hT : ToldW S rs S.length) : Segs A [1, 2] (fun m => if m = 1 then S else []) (fun m => if m = 1 then rs else []) (fun m => if m = 1 then S.length else 0) := by
  refine ⟨fun m hm => ?_, fun m hm => ?_, fun m _ => ?_, fun m _ => ?_, fun i m hi hl => ?_, by simp⟩
  · simp only [List.mem_cons, List.not_mem_nil, or_false] at hm
    rcases hm with rfl | rfl <;> rfl
  · simp only [List.mem_cons, List.not_mem_nil, or_false] at hm
    rcases hm with rfl | rfl
    · exact ⟨suW q1 S, by rw [hsp, nm_one, find_su], rfl⟩
    · exact ⟨suW q2 [], by rw [hsp, nm_two, find_ne ne_12, find_su], rfl⟩
  · show (if m = 1 then S else []).length ≤ _
    split
    · exact hS
    · exact Nat.zero_le _
  · show ToldW (if m = 1 then S else []) (if m = 1 then rs else []) (if m = 1 then S.length else 0)
    by_cases h : m = 1
    · rw [if_pos h, if_pos h, if_pos h]; exact hT
    · rw [if_neg h, if_neg h, if_neg h]; exact told_none
  · have h0 : i = 0 := by simp at hl; omega
    subst h0
    simp at hi
    subst hi
    simp
/-- What the first segment tells. -/
structure TE (E : List UInt8) (rs : List (List Cx)) : Prop where
  told : ToldW E rs (encW rs).length
  take : E.take (encW rs).length = encW rs
  le : (encW rs).length ≤ E.length
  len : E.length ≤ 600000
  good : ∀ r ∈ rs, recB r = true ∧ ∀ c ∈ r, c.Nums
section
variable {w0 : World} {d : Nat} {A : Ab} {ft : List Nat} {w : World} {E : List UInt8} {rs : List (List Cx)} {k : Nat}
/-- Open of one segment, a spare file beside it or not. -/
theorem openOne (he : EnvW w0) (ht : Tab w0) (ue : TypeId) (pv : Value) (hE : Err w0 ue pv) (h : Kd w0 d A ft w) (hon : A.on = true) (hN : Nice A k) (hk : k + 10 ≤ 2000) {F : List UInt8} {r : List Sig} (hsp : A.sp = suW q1 F :: r) (hr : r = [] ∨ ∃ X, r = [suW spW X]) (hX : A.left = 1 → r = []) (hF : F.length ≤ 600000) {n : Nat} (hT : ToldW F rs n) :
    Calls Tryz.prog 7 #[.pointer (some ⟨d, 0, none⟩), .int .i64 1] w fun x w' => ∃ p v, x = .returned (.tuple #[p, v, .int .i64 (openX A (decide (n < F.length)) (F.take n) 1 2).1]) ∧ KdR w0 d (openX A (decide (n < F.length)) (F.take n) 1 2).2 ft w w' ∧ ((openX A (decide (n < F.length)) (F.take n) 1 2).1 = 0 → ToldR w.heap.size rs v w') := by
  have hle := hT.le.1
  have := openWY (N := [1]) (L := 0) (m := 1) (q := openX A (decide (n < F.length)) (F.take n) 1 2) he ht ue pv hE h hon rfl rfl (fun x hx => by rw [List.mem_singleton] at hx; omega) (List.pairwise_singleton _ _) ?_ (segs_one hsp hF hT) (fun m hm => by rw [List.mem_singleton] at hm; subst hm; exact good_nm1) rfl ?_ ?_ hN hk (spare_small hN hon hsp hr (by omega) hX) rfl
  · refine this.mono ?_
    rintro x w' ⟨p, v, h1, h2, h3⟩
    refine ⟨p, v, h1, h2, fun h0 => ?_⟩
    have := h3 h0
    simpa using this
  · rw [hsp]
    rcases hr with rfl | ⟨X, rfl⟩
    · show [q1].filterMap numO = [1]
      simp [numO1]
    · show [q1, spW].filterMap numO = [1]
      simp [numO1, numO_spare]
  · rw [hsp]
    rcases hr with rfl | ⟨X, rfl⟩ <;> simp
  · rw [hsp]
    intro t ht
    rcases hr with rfl | ⟨X, rfl⟩
    · rw [List.mem_singleton] at ht; subst ht; exact q1_len
    · simp only [List.mem_cons, List.not_mem_nil, or_false] at ht
      rcases ht with rfl | rfl
      · exact q1_len
      · exact spW_len
theorem openSecond (he : EnvW w0) (ht : Tab w0) (ue : TypeId) (pv : Value) (hE : Err w0 ue pv) (h : Kd w0 d A ft w) (hon : A.on = true) (hN : Nice A k) (hk : k + 10 ≤ 2000) (hsp : A.sp = [suW q1 E]) (hT : TE E rs) :
    Calls Tryz.prog 7 #[.pointer (some ⟨d, 0, none⟩), .int .i64 1] w fun x w' => ∃ p v c A', x = .returned (.tuple #[p, v, .int .i64 c]) ∧ (c = 0 ∨ c = 9) ∧ KdR w0 d A' ft w w' ∧ Cls E (encW rs).length A'.sp ∧ Nice A' (k + 6) := by
  have hp := open_plan hN hon hsp hT.len hT.le
  have hNo : Nice (openX A (decide ((encW rs).length < E.length)) (E.take (encW rs).length) 1 2).2 (k + 6) := hN.open (spare_small hN hon hsp (.inl rfl) (by rw [List.length_take]; have := hT.len; omega) (fun _ => rfl))
  refine (openOne he ht ue pv hE h hon hN hk hsp (.inl rfl) (fun _ => rfl) hT.len hT.told).mono ?_
  rintro x w' ⟨p, v, h1, h2, _⟩
  exact ⟨p, v, _, _, h1, hp.1, h2, hp.2, hNo⟩
theorem openThird (he : EnvW w0) (ht : Tab w0) (ue : TypeId) (pv : Value) (hE : Err w0 ue pv) (h : Kd w0 d A ft w) (hon : A.on = true) (hl : A.left = 0) (hN : Nice A k) (hk : k + 10 ≤ 2000) (hT : TE E rs) (hC : Cls E (encW rs).length A.sp) :
    Calls Tryz.prog 7 #[.pointer (some ⟨d, 0, none⟩), .int .i64 1] w fun x w' => ∃ p v, x = .returned (.tuple #[p, v, .int .i64 0]) ∧ (∃ A', KdR w0 d A' ft w w') ∧ ToldR w.heap.size rs v w' := by
  have hle := hT.le
  have hlen := hT.len
  have one : ∀ (F : List UInt8) (r : List Sig) (n : Nat), A.sp = suW q1 F :: r → (r = [] ∨ n < F.length ∧ ∃ X, r = [suW spW X]) → F.length ≤ 600000 → ToldW F rs n → Calls Tryz.prog 7 #[.pointer (some ⟨d, 0, none⟩), .int .i64 1] w fun x w' => ∃ p v, x = .returned (.tuple #[p, v, .int .i64 0]) ∧ (∃ A', KdR w0 d A' ft w w') ∧ ToldR w.heap.size rs v w' := fun F r n hsp hr hF hTF => by
    have h0 := open_free hN hon hl hsp hr hF
    refine (openOne he ht ue pv hE h hon hN hk hsp (hr.imp id fun h => h.2) (fun h => by omega) hF hTF).mono ?_
    rintro x w' ⟨p, v, h1, h2, h3⟩
    exact ⟨p, v, by rw [h1, h0], ⟨_, h2⟩, h3 h0⟩
  have hfull : ToldW (encW rs) rs (encW rs).length := told_all rs hT.good
  rcases hC with hC | ⟨ht1, X, hC⟩ | hC | hC
  · exact one E [] _ hC (.inl rfl) hlen hT.told
  · exact one E _ _ hC (.inr ⟨ht1, X, rfl⟩) hlen hT.told
  · rw [hT.take] at hC
    exact one (encW rs) [] _ hC (.inl rfl) (by omega) hfull
  · rw [hT.take] at hC
    have hS : (encW rs).length ≤ 600000 := by omega
    have hb := begin_three hN hon hl hC
    have hox : openX A (decide ((0 : Nat) < ([] : List UInt8).length)) (([] : List UInt8).take 0) 2 3 = beginX A 3 := by
      unfold openX
      rw [decide_eq_false (by simp), if_neg (by simp)]
      exact chainW_mk0 A fun A1 => beginX A1 3
    have := openWY (N := [1, 2]) (L := 1) (m := 2) (q := beginX A 3) he ht ue pv hE h hon rfl rfl (fun x hx => by simp only [List.mem_cons, List.not_mem_nil, or_false] at hx; omega) (by simp) ?_ (segs_two hC hS hfull) (fun m hm => by
      simp only [List.mem_cons, List.not_mem_nil, or_false] at hm
      rcases hm with rfl | rfl
      · exact good_nm1
      · exact good_nm2) rfl ?_ ?_ hN hk ?_ hox
    · refine this.mono ?_
      rintro x w' ⟨p, v, h1, h2, h3⟩
      refine ⟨p, v, by rw [h1, hb], ⟨_, h2⟩, ?_⟩
      have := h3 hb
      simpa using this
    · rw [hC]
      show [q1, q2].filterMap numO = [1, 2]
      simp [numO1, numO2]
    · rw [hC]; simp
    · rw [hC]
      intro t ht
      simp only [List.mem_cons, List.not_mem_nil, or_false] at ht
      rcases ht with rfl | rfl
      · exact q1_len
      · exact q2_len
    · intro t ht
      have h3 := ((hN.create (tB spW)).file t (findT_mem ht).1).len
      show t.bs.length + (if (2 : Int) = 1 then _ else 0) ≤ _
      rw [if_neg (by decide)]
      omega
end
end Go.Proofs.YtglaocghcgcghaaGreatDoor
namespace Go.Proofs.YtglaocghcgcghaaGreatDoor
open Go.RowKit Go.Proofs.YtglaocghcgcghaaGreatDoor.walBack

theorem Ph.tail {wb : World} {vs : List Lvx} {d lb i : Nat} {R : List Lvx} {cut : Option Lvx} {A : Ab} {b : Bool} {ft : List Nat} {v14 : Value} {W : World} (h : Ph wb vs d lb i R cut A b ft v14 W) (hs : sW vs ≤ 800) (hn : ∀ v ∈ vs, ∀ c ∈ v.l, c.Nums) :
    ∃ E rs, A.sp = [suW q1 E] ∧ TE E rs ∧ (rs = R.map Lvx.l ∨ ∃ r, cut = some r ∧ rs = R.map Lvx.l ++ [r.l]) := by
  have hK : ∀ x ∈ R.map Lvx.l, recB x = true ∧ ∀ c ∈ x, c.Nums := fun x hx => by
    obtain ⟨r, hr, rfl⟩ := List.mem_map.1 hx
    exact ⟨(h.sub r hr).2, hn r (h.sub r hr).1⟩
  have h1 := h.len
  have h2 := sW_le vs i
  cases b with
  | false =>
    refine ⟨encW (R.map Lvx.l), R.map Lvx.l, (h.live rfl).2.2, ⟨told_all _ hK, List.take_length, Nat.le_refl _, by omega, hK⟩, .inl rfl⟩
  | true =>
    obtain ⟨-, r, j, rfl, hsp⟩ := h.dead rfl
    have hr := h.cuts r rfl
    have hrn : recB r.l = true ∧ ∀ c ∈ r.l, c.Nums := ⟨hr.2, hn r hr.1⟩
    obtain ⟨rs, e, t1, t2, t3⟩ := told_tail (R.map Lvx.l) r.l j hK hrn
    refine ⟨_, rs, hsp, ⟨t1, t2, t3, ?_, fun x hx => ?_⟩, e.imp id fun e => ⟨r, rfl, e⟩⟩
    · rw [List.length_append, List.length_take]
      have : cutLk (some r) = (recL r.l).length := rfl
      omega
    · rcases e with rfl | rfl
      · exact hK x hx
      · rcases List.mem_append.1 hx with hx | hx
        · exact hK x hx
        · rw [List.mem_singleton] at hx; subst hx; exact hrn
theorem off_sp {A : Ab} {E : List UInt8} (h : A.sp = [suW q1 E]) (x : Nat) : (offA A x).sp = [suW q1 E] := by
  show A.sp.map _ = _
  rw [h]
  exact map_lose_1 E _
/-- The plan is made. -/
theorem arm_kd {w0 : World} {d : Nat} {A : Ab} {ft : List Nat} {w : World} (h : Kd w0 d A ft w) {k : Nat} (hN : Nice A k) (hon : A.on = true) (a m : Int) (ha : 0 ≤ a) (ha2 : a ≤ 1000) (hm : -9223372036854775808 ≤ m ∧ m ≤ 9223372036854775807) :
    Calls Tryz.prog 8 #[.pointer (some ⟨d, 0, none⟩), .int .i64 a, .int .i64 m] w fun x w' => x = .returned (.int .i64 0) ∧ ∃ A', KdR w0 d A' ft w w' ∧ A'.on = true ∧ A'.sp = A.sp ∧ Nice A' k := by
  have e : armX A a m = (0, { A with left := a.toNat, keep := m }) := by
    unfold armX
    rw [if_pos hon, if_neg (by omega)]
  have h1 := kd_arm h a m
  have h2 := hN.arm (a := a) (m := m) (by omega) hm
  rw [e] at h1 h2
  exact h1.mono fun _ _ ⟨hx, hR⟩ => ⟨hx, _, hR, hon, rfl, h2⟩
/-- The law's row of records, beside the disk. -/
structure Rw (wb : World) (R : List Lvx) (ft : List Nat) (v14 : Value) (W : World) : Prop where
  row : W.ownsRow wb.heap.size 26 1 v14 R.length (R.map Lvx.s)
  apart : ∀ g, v14.ownBlock = some g → g ∉ ft
theorem Rw.moved {wb : World} {R : List Lvx} {ft ft' : List Nat} {v14 : Value} {W W' : World} (h : Rw wb R ft v14 W) (hm : Moved W W' ft ft') : Rw wb R ft' v14 W' := by
  obtain ⟨h1, h2⟩ := row_apart h.row h.apart hm
  exact ⟨h1, h2⟩
theorem Ph.rw {wb : World} {vs : List Lvx} {d lb i : Nat} {R : List Lvx} {cut : Option Lvx} {A : Ab} {b : Bool} {ft : List Nat} {v14 : Value} {W : World} (h : Ph wb vs d lb i R cut A b ft v14 W) : Rw wb R ft v14 W := ⟨h.row, fun g e hi => h.apart g e (List.mem_cons_of_mem _ hi)⟩
/-- What was told, as lists. -/
theorem ToldR.lists {n0 : Nat} {rs : List (List Cx)} {v : Value} {w : World} (h : ToldR n0 rs v w) : ∃ a c ys, v = .slice a ys.length c ∧ ys.map Lvx.l = rs ∧ LSees w a ys ∧ ∀ y ∈ ys, XSees w y.ao y.l := by
  obtain ⟨T, h1, h2, h3⟩ := h
  have em : T.map Yl.v = (T.map fun x => (⟨x.a, x.c, x.r⟩ : Lvx)).map Lvx.s := by rw [List.map_map]; rfl
  have el : T.length = (T.map fun x => (⟨x.a, x.c, x.r⟩ : Lvx)).length := by rw [List.length_map]
  rw [em, el] at h1
  obtain ⟨a, c, rfl, h4, -, -⟩ := rows_lists h1
  refine ⟨a, c, _, rfl, ?_, h4, fun y hy => ?_⟩
  · rw [List.map_map, ← h3]; rfl
  · obtain ⟨x, hx, rfl⟩ := List.mem_map.1 hy
    obtain ⟨a2, c2, e2, h5, -⟩ := owns_xsees (h2 x hx).1
    unfold Yl.v at e2
    simp only [Value.slice.injEq] at e2
    rw [← e2.1] at h5
    exact h5
end Go.Proofs.YtglaocghcgcghaaGreatDoor
