/-
  SEVERAL TEXTS IN ONE: DskLives, DskLive, DskAb, DskSpoil, DskSpoilE.
-/
import Derived.Test.YtglaocghcgcghaaGreatDoorDskAppend
import Derived.Test.YtglaocghcgcghaaGreatDoorMany7
import Derived.Test.YtglaocghcgcghaaGreatDoorDskMore
namespace Go.Proofs.YtglaocghcgcghaaGreatDoor
open Go.RowKit Go.Maps

theorem made8D (m : Nat) : (madeCells (Value.int .u8 0).cells (m * 1)).toList = B8 (List.replicate m 0) := by
  have h : (Value.int .u8 0).cells = #[.int .u8 0] := rfl
  rw [h, Nat.mul_one]
  apply List.ext_getElem
  · simp [madeCells, B8]
  · intro i h1 h2
    simp [madeCells, B8, Nat.mod_one]
theorem make_bytes (n : Nat) (hn : n ≤ 1099511627776) : ∃ f : World → World, ∀ w, (Instr.makeSlice 37 (.int .i64 (n : Int)) (.int .i64 (n : Int))).run Tryz.prog w = .ok (.slice (some ⟨w.heap.size, 0, none⟩) n n) (f w) ∧ (f w).ownsRow w.heap.size 5 1 (.slice (some ⟨w.heap.size, 0, none⟩) n n) n (B8 (List.replicate n 0)) ∧ w.grownBy (f w) none := by
  obtain ⟨i0, hi, hz0, hz1, hz2⟩ := info_parts info8D
  have h : ∀ w : World, ∃ w', (Instr.makeSlice 37 (.int .i64 (n : Int)) (.int .i64 (n : Int))).run Tryz.prog w = .ok (.slice (some ⟨w.heap.size, 0, none⟩) n n) w' ∧ w'.ownsRow w.heap.size 5 1 (.slice (some ⟨w.heap.size, 0, none⟩) n n) n (B8 (List.replicate n 0)) ∧ w.grownBy w' none := fun w => by
    have := run_make_full (P := Tryz.prog) w w.heap.size 37 5 i0 (.int .u8 0) 1 Tryz.underlying37 hi hz0 hz1 .i64 .i64 n (by rw [hz2]; omega) (by unfold maxLen; omega) (Nat.le_refl _)
    rwa [made8D] at this
  exact ⟨fun w => Classical.choose (h w), fun w => Classical.choose_spec (h w)⟩

def nmA : ByteArray := ⟨#[97]⟩
/-- The example's disk: one file. -/
def Lv (w : World) (d : Nat) (on : Bool) (ops next : Nat) (bs : List UInt8) (wr : Nat) (pl : List Nat) (w1 : World) : Prop :=
  ∃ bm e, DiskAt w1 d bm ⟨[e], 10, on, ops, next, 0, 0⟩ ∧ e.nm = [97] ∧ e.bs = bs ∧ e.wr = wr ∧ e.pl = pl ∧ Moved w w1 [] (foot d bm [e])
def Nv (w : World) (d : Nat) (w1 : World) : Prop := ∃ bm, DiskAt w1 d bm (newS 10) ∧ Moved w w1 [] (foot d bm [])
theorem nmA_size : nmA.size ≤ maxLen := by show 1 ≤ maxLen; unfold maxLen; omega
theorem nmA_good : refuse true [nmA] = 0 := by decide
theorem find_one {e : Ent} (h : e.nm = [97]) : find [e] (nameOf nmA) = some e := by
  unfold find
  rw [List.find?_cons, h]
  rfl
theorem swap_one (e e' : Ent) : swap [e] e e' = [e'] := by simp [swap]
theorem moved_nil {w w1 w2 : World} {a b : List Nat} (h : Moved w w1 [] a) (k : Moved w1 w2 a b) : Moved w w2 [] b := h.trans k

theorem lv_new (w : World) : Calls Tryz.prog 6 #[.int .i64 10] w fun x w1 => ∃ d, x = .returned (.pointer (some ⟨d, 0, none⟩)) ∧ Nv w d w1 := by
  refine (new_ok 10 (by omega) w).mono ?_
  rintro x w1 ⟨d, bm, rfl, hD, hg, h1, h2⟩
  refine ⟨d, rfl, bm, hD, (Moved.of_grown hg).wider (by simp) (fun i hi => .inr (.inr ?_))⟩
  simp [foot, feet] at hi
  rcases hi with rfl | rfl <;> assumption
theorem lv_create {w w1 : World} {d : Nat} (h : Nv w d w1) : Calls Tryz.prog 60 #[.pointer (some ⟨d, 0, none⟩), .string nmA] w1 fun x w2 => x = .returned (.int .i64 0) ∧ Lv w d true 1 0 [] 0 [] w2 := by
  obtain ⟨bm, hD, hM⟩ := h
  refine (create_new hD nmA nmA_size nmA_good rfl (by simp [newS]) (by simp [newS, sumUsed]) (by simp [newS]) (by simp [newS]) (by simp [newS]) (by simp [newS])).mono ?_
  rintro x w2 ⟨rfl, b, hD2, hM2⟩
  exact ⟨rfl, bm, newE (nameOf nmA) b, hD2, rfl, rfl, rfl, rfl, moved_nil hM hM2⟩
theorem lv_append {w w1 : World} {d ops next wr : Nat} {bs : List UInt8} {pl : List Nat} (h : Lv w d true ops next bs wr pl w1) (n g : Nat) (hn : 0 < n) (f : World → World) (hf : (f w1).ownsRow w1.heap.size 5 1 (.slice (some ⟨w1.heap.size, 0, none⟩) n n) n (B8 (List.replicate n 0)) ∧ w1.grownBy (f w1) none)
    (ho : ops ≤ 100) (hnx : next ≤ 100) (hlen : bs.length + n ≤ 1000) (hpl : pl.length ≤ 100) (hwr : wr ≤ 1000) (hg : growN (bs.length + n) wr pl.length = g) (full : Bool) (hfull : decide ((10 : Int) - ((1 + (bs.length + 15) / 16 : Nat) : Int) < secI ((bs.length : Int) + (n : Int)) - secI (bs.length : Int)) = full) :
    Calls Tryz.prog 50 #[.pointer (some ⟨d, 0, none⟩), .string nmA, .slice (some ⟨w1.heap.size, 0, none⟩) n n] (f w1) fun x w2 => match full with | true => x = .returned (.int .i64 7) ∧ Lv w d true ops next bs wr pl w2 | false => x = .returned (.int .i64 0) ∧ Lv w d true (ops + 1) (next + g) (bs ++ List.replicate n 0) wr (pl ++ List.range' next g) w2 := by
  obtain ⟨bm, e, hD, e1, rfl, rfl, rfl, hM⟩ := h
  have hD2 : DiskAt (f w1) d bm ⟨[e], 10, true, ops, next, 0, 0⟩ := hD.carry fun i hi => hf.2.block i (hD.lt i hi) (by simp)
  have hM2 : Moved w (f w1) [] (foot d bm [e]) := moved_nil hM (Moved.none_of hf.2 _)
  obtain ⟨ao, cap, hv, hsee, hll, _⟩ := owns_sees hf.1
  cases hv
  have hsum : sumUsed [e] = 1 + (e.bs.length + 15) / 16 := by simp [sumUsed]
  have hgr : growS e (List.replicate n 0) = g := by
    unfold growS
    rw [if_neg (by intro h0; have := congrArg List.length h0; simp at this; omega), List.length_replicate, hg]
  have A := append_ok hD2 nmA nmA_size (some ⟨w1.heap.size, 0, none⟩) (List.replicate n 0) n hsee nmA_good (find_one e1) (fun a ha _ hi => by cases ha; exact absurd (hD.lt _ hi) (Nat.lt_irrefl _)) (by simp) (show ops ≤ _ by omega) (by simp) (by rw [List.length_replicate]; omega) (show next ≤ _ by omega) (by omega) (by omega) (by simp) (by rw [hsum]; omega) full (by rw [← hfull, List.length_replicate]; show decide ((10 : Int) - ((sumUsed [e] : Nat) : Int) < _) = _; rw [hsum])
  rw [List.length_replicate] at A
  refine A.mono ?_
  cases full
  · rintro x w2 ⟨rfl, e', a1, a2, a3, a4, a5, a6, a7⟩
    rw [swap_one] at a6 a7
    rw [hgr] at a5 a6
    exact ⟨rfl, bm, e', a6, a1.trans e1, a3, a4, a5, moved_nil hM2 a7⟩
  · rintro x w2 ⟨rfl, a6, a7⟩
    exact ⟨rfl, bm, e, a6, e1, rfl, rfl, rfl, moved_nil hM2 a7⟩
theorem lv_sync {w w1 : World} {d ops next wr : Nat} {bs : List UInt8} {pl : List Nat} (h : Lv w d true ops next bs wr pl w1) (ho : ops ≤ 100) : Calls Tryz.prog 51 #[.pointer (some ⟨d, 0, none⟩), .string nmA] w1 fun x w2 => x = .returned (.int .i64 0) ∧ Lv w d true (ops + 1) next bs bs.length [] w2 := by
  obtain ⟨bm, e, hD, e1, rfl, rfl, rfl, hM⟩ := h
  refine (sync_ok hD nmA nmA_size nmA_good (find_one e1) (by simp) (show ops ≤ _ by omega) (by simp)).mono ?_
  rintro x w2 ⟨rfl, a6, a7⟩
  rw [swap_one] at a6 a7
  exact ⟨rfl, bm, _, a6, e1, by simp [endE], rfl, rfl, moved_nil hM a7⟩
theorem lv_used {w w1 : World} {d ops next wr : Nat} {bs : List UInt8} {pl : List Nat} (h : Lv w d true ops next bs wr pl w1) (hb : bs.length ≤ 1000) : Calls Tryz.prog 101 #[.pointer (some ⟨d, 0, none⟩)] w1 fun x w2 => x = .returned (.int .i64 ((1 + (bs.length + 15) / 16 : Nat) : Int)) ∧ Lv w d true ops next bs wr pl w2 := by
  obtain ⟨bm, e, hD, e1, rfl, rfl, rfl, hM⟩ := h
  have hs : sumUsed [e] = 1 + (e.bs.length + 15) / 16 := by simp [sumUsed]
  refine (used_any hD rfl (by rw [hs]; omega)).mono ?_
  rintro x w2 ⟨rfl, hg⟩
  exact ⟨by rw [hs], bm, e, hD.carry (fun i hi => hg.block i (hD.lt i hi) (by simp)), e1, rfl, rfl, rfl, moved_nil hM (Moved.none_of hg _)⟩
theorem lv_start {w w1 : World} {d ops next wr : Nat} {on : Bool} {bs : List UInt8} {pl : List Nat} (h : Lv w d on ops next bs wr pl w1) : Calls Tryz.prog 13 #[.pointer (some ⟨d, 0, none⟩)] w1 fun x w2 => x = .returned (.tuple #[]) ∧ Lv w d true ops next bs wr pl w2 := by
  obtain ⟨bm, e, hD, e1, rfl, rfl, rfl, hM⟩ := h
  refine (start_any hD).mono ?_
  rintro x w2 ⟨rfl, a6, a7⟩
  exact ⟨rfl, bm, e, a6, e1, rfl, rfl, rfl, moved_nil hM (a7.wider (fun i hi => .inl (by simp at hi; simp [foot, hi])) (fun i hi => .inl hi))⟩
theorem lv_read {w w1 : World} {d ops next wr : Nat} {bs : List UInt8} {pl : List Nat} (h : Lv w d true ops next bs wr pl w1) (hb : bs.length ≤ 1000) : Calls Tryz.prog 21 #[.pointer (some ⟨d, 0, none⟩), .string nmA] w1 fun x w2 => ∃ ao cap, x = .returned (.tuple #[.slice ao bs.length cap, .int .i64 0]) ∧ Lv w d true ops next bs wr pl w2 := by
  obtain ⟨bm, e, hD, e1, rfl, rfl, rfl, hM⟩ := h
  refine (read_ok hD nmA nmA_size nmA_good (find_one e1) (by omega)).mono ?_
  rintro x w2 ⟨v, rfl, ho, hg⟩
  obtain ⟨ao, cap, rfl, _⟩ := owns_form ho
  exact ⟨ao, cap, rfl, bm, e, hD.carry (fun i hi => hg.block i (hD.lt i hi) (by simp)), e1, rfl, rfl, rfl, moved_nil hM (Moved.none_of hg _)⟩
theorem lv_crash {w w1 : World} {d ops : Nat} {bs : List UInt8} (h : Lv w d true ops 5 bs 20 [2, 3, 4] w1) (hb : bs.length = 50) : Calls Tryz.prog 12 #[.pointer (some ⟨d, 0, none⟩), .int .i64 1] w1 fun x w2 => x = .returned (.tuple #[]) ∧ Lv w d false ops 5 (bs.take 32) 32 [] w2 := by
  obtain ⟨bm, e, hD, e1, rfl, e3, e4, hM⟩ := h
  have hs : sumUsed [e] = 1 + (e.bs.length + 15) / 16 := by simp [sumUsed]
  have hs2 : sumDirty [e] = 3 := by simp [sumDirty, e4]
  have hfine : St.Fine ⟨[e], 10, true, ops, 5, 0, 0⟩ := by
    refine ⟨fun x hx => ?_, by simp, by show sumUsed [e] ≤ _; rw [hs]; omega, by show sumDirty [e] ≤ _; rw [hs2]; omega⟩
    have : x = e := by simpa using hx
    subst this
    exact ⟨by omega, by omega, by rw [e4]; simp, by rw [e4]; decide, by rw [e4]; intro p hp; simp at hp; show p < 5; omega⟩
  have hln : lineEndN ⟨[e], 10, true, ops, 5, 0, 0⟩ (1 : Int).toNat = 3 := by
    have hl : linesOf [e] = [2, 3, 4] := by simp [linesOf, e4]
    have hm : ([2, 3, 4] : List Nat).mergeSort (fun a b => decide (a ≤ b)) = [2, 3, 4] := List.mergeSort_of_pairwise (by decide)
    unfold lineEndN
    simp only [hl, hm]
    rfl
  have hlost : lostAt e 3 = 32 := by
    have hk : keptN e 3 = 1 := by unfold keptN; rw [e4]; rfl
    unfold lostAt
    rw [hk, e3, hb]
    rfl
  refine (crash_on hD rfl hfine 1 (by omega) (by omega)).mono ?_
  rintro x w2 ⟨rfl, a6, a7⟩
  rw [hln] at a6
  refine ⟨rfl, bm, loseE e 3, a6, e1, by show e.bs.take (lostAt e 3) = _; rw [hlost], hlost, rfl, moved_nil hM (a7.sub fun i hi => ?_)⟩
  simp only [foot, feet, List.flatMap_cons, List.flatMap_nil, List.append_nil, List.mem_cons] at hi ⊢
  exact hi.imp id fun h => h.imp id lose_foot
end Go.Proofs.YtglaocghcgcghaaGreatDoor
namespace Go.Proofs.YtglaocghcgcghaaGreatDoor
open Go.RowKit Go.Maps

theorem Lv.below {w w1 : World} {d ops next wr : Nat} {on : Bool} {bs : List UInt8} {pl : List Nat} (h : Lv w d on ops next bs wr pl w1) : Below w.heap.size w w1 := by
  obtain ⟨bm, e, _, _, _, _, _, hM⟩ := h
  exact hM.below (Nat.le_refl _) (by simp)
def b20 : List UInt8 := List.replicate 20 0
def b50 : List UInt8 := b20 ++ List.replicate 30 0
def b32 : List UInt8 := b50.take 32
end Go.Proofs.YtglaocghcgcghaaGreatDoor
namespace Go.Proofs.YtglaocghcgcghaaGreatDoor
open Go.RowKit Go.Maps

/-- A file, without its memory. -/
structure Sig where
  nm : List UInt8
  bs : List UInt8
  wr : Nat
  pl : List Nat
def sig (e : Ent) : Sig := ⟨e.nm, e.bs, e.wr, e.pl⟩
/-- A disk, without its memory. -/
structure Ab where
  sp : List Sig
  room : Nat
  on : Bool
  ops : Nat
  next : Nat
  left : Nat
  keep : Int
def Ab.st (A : Ab) (fs : List Ent) : St := ⟨fs, A.room, A.on, A.ops, A.next, A.left, A.keep⟩
/-- The disk lies in memory, in the blocks of the list. -/
def At (d : Nat) (A : Ab) (ft : List Nat) (w : World) : Prop := ∃ bm fs, DiskAt w d bm (A.st fs) ∧ fs.map sig = A.sp ∧ ft = foot d bm fs
theorem At.lt {d : Nat} {A : Ab} {ft : List Nat} {w : World} (h : At d A ft w) : ∀ i ∈ ft, i < w.heap.size := by
  obtain ⟨bm, fs, hD, _, rfl⟩ := h
  exact hD.lt
theorem At.moved {d : Nat} {A : Ab} {ft : List Nat} {w w' : World} {a b : List Nat} (h : At d A ft w) (hm : Moved w w' a b) (hd : ∀ i ∈ ft, i ∉ a) : At d A ft w' := by
  obtain ⟨bm, fs, hD, hs, rfl⟩ := h
  exact ⟨bm, fs, hD.moved hm hd, hs, rfl⟩
theorem At.grown {d : Nat} {A : Ab} {ft : List Nat} {w w' : World} (h : At d A ft w) (hg : w.grownBy w' none) : At d A ft w' := h.moved (Moved.none_of hg []) (by simp)
def findT (sp : List Sig) (nm : List UInt8) : Option Sig := sp.find? fun t => t.nm == nm
theorem find_sig {fs : List Ent} {sp : List Sig} (h : fs.map sig = sp) (nm : List UInt8) : (find fs nm).map sig = findT sp nm := by
  subst h
  unfold find findT
  rw [List.find?_map]
  rfl
theorem find_sig_some {fs : List Ent} {sp : List Sig} (h : fs.map sig = sp) {nm : List UInt8} {t : Sig} (ht : findT sp nm = some t) : ∃ e, find fs nm = some e ∧ sig e = t := by
  rw [← find_sig h] at ht
  cases hf : find fs nm with
  | none => rw [hf] at ht; cases ht
  | some e => rw [hf] at ht; exact ⟨e, rfl, Option.some.inj ht⟩
theorem find_sig_none {fs : List Ent} {sp : List Sig} (h : fs.map sig = sp) {nm : List UInt8} (ht : findT sp nm = none) : find fs nm = none := by
  rw [← find_sig h] at ht
  cases hf : find fs nm with
  | none => rfl
  | some e => rw [hf] at ht; cases ht
def upd (sp : List Sig) (nm : List UInt8) (t' : Sig) : List Sig := sp.map fun t => if t.nm == nm then t' else t
theorem swap_sig {w : World} {d bm : Nat} {S : St} (h : DiskAt w d bm S) {e e' : Ent} (he : e ∈ S.fs) : (swap S.fs e e').map sig = upd (S.fs.map sig) e.nm (sig e') := by
  have hp := h.names
  have hn := (nodup_d h.apart).2.2.2
  unfold swap upd
  rw [List.map_map, List.map_map]
  apply List.map_congr_left
  intro x hx
  simp only [Function.comp]
  by_cases hxe : x = e
  · subst hxe
    have : ((sig x).nm == x.nm) = true := by simp [sig]
    simp [this]
  · have h1 : x.b ≠ e.b := fun hb => hxe (feet_same hn hx he (i := e.b) (hb ▸ b_mem) b_mem)
    have h2 : ((sig x).nm == e.nm) = false := by
      rw [beq_eq_false_iff_ne]
      intro hnm
      have a1 := find_of_mem hp hx
      have a2 := find_of_mem hp he
      have hnm' : x.nm = e.nm := hnm
      rw [hnm', a2] at a1
      exact hxe (Option.some.inj a1).symm
    rw [if_neg h1, h2]
    rfl
def insT (t : Sig) : List Sig → List Sig
  | [] => [t]
  | y :: r => if bytesBefore t.nm y.nm then t :: y :: r else y :: insT t r
def dropT (sp : List Sig) (nm : List UInt8) : List Sig := sp.filter fun x => !(x.nm == nm)
def putT (sp : List Sig) (t : Sig) : List Sig := insT t (dropT sp t.nm)
theorem ins_sig (e : Ent) (fs : List Ent) : (insE e fs).map sig = insT (sig e) (fs.map sig) := by
  induction fs with
  | nil => rfl
  | cons y r ih =>
    simp only [insE, List.map_cons, insT]
    have : bytesBefore (sig e).nm (sig y).nm = bytesBefore e.nm y.nm := rfl
    rw [this, ← ih]
    split <;> rfl
theorem drop_sig (fs : List Ent) (nm : List UInt8) : (dropE fs nm).map sig = dropT (fs.map sig) nm := by
  unfold dropE dropT
  rw [List.filter_map]
  rfl
theorem put_sig (fs : List Ent) (e : Ent) : (putE fs e).map sig = putT (fs.map sig) (sig e) := by
  unfold putE putT
  rw [ins_sig, drop_sig]
  rfl
def usedT (sp : List Sig) : Nat := (sp.map fun t => 1 + (t.bs.length + 15) / 16).sum
def dirtyT (sp : List Sig) : Nat := (sp.map fun t => t.pl.length).sum
theorem used_sig (fs : List Ent) : sumUsed fs = usedT (fs.map sig) := by unfold sumUsed usedT; rw [List.map_map]; rfl
theorem dirty_sig (fs : List Ent) : sumDirty fs = dirtyT (fs.map sig) := by unfold sumDirty dirtyT; rw [List.map_map]; rfl
def keptT (t : Sig) (x : Nat) : Nat := t.pl.countP (· < x)
def lostT (t : Sig) (x : Nat) : Nat := if keptT t x = 0 then t.wr else min t.bs.length ((t.wr / 16 + keptT t x) * 16)
def loseT (t : Sig) (x : Nat) : Sig := ⟨t.nm, t.bs.take (lostT t x), lostT t x, []⟩
theorem lose_sig (e : Ent) (x : Nat) : sig (loseE e x) = loseT (sig e) x := rfl
def linesT (sp : List Sig) : List Nat := sp.flatMap Sig.pl
def endT (A : Ab) (keep : Nat) : Nat := if (linesT A.sp).length ≤ keep then A.next else ((linesT A.sp).mergeSort (fun a b => decide (a ≤ b))).getD keep 0
theorem lines_sig (fs : List Ent) : linesOf fs = linesT (fs.map sig) := by unfold linesOf linesT; rw [List.flatMap_map]; rfl
/-- What a disk must be like. -/
structure Ab.Fine (A : Ab) : Prop where
  wr : ∀ t ∈ A.sp, t.wr ≤ t.bs.length
  len : ∀ t ∈ A.sp, t.bs.length ≤ 1099511627776
  rise : ∀ t ∈ A.sp, t.pl.Pairwise (· < ·)
  ahead : ∀ t ∈ A.sp, ∀ q ∈ t.pl, q < A.next
  room : A.room ≤ 1073741824
  used : usedT A.sp ≤ 1099511627776
  dirty : dirtyT A.sp ≤ 1099511627776
theorem Ab.Fine.pln {A : Ab} (h : A.Fine) {t : Sig} (ht : t ∈ A.sp) : t.pl.length ≤ 1099511627776 := by
  have := h.dirty
  have h2 : t.pl.length ≤ dirtyT A.sp := List.single_le_sum_nat (List.mem_map.2 ⟨t, ht, rfl⟩)
  omega
theorem Ab.Fine.st {A : Ab} (h : A.Fine) {fs : List Ent} (hs : fs.map sig = A.sp) : (A.st fs).Fine := by
  have hm : ∀ e ∈ fs, sig e ∈ A.sp := fun e he => hs ▸ List.mem_map.2 ⟨e, he, rfl⟩
  refine ⟨fun e he => ⟨h.wr _ (hm e he), h.len _ (hm e he), h.pln (hm e he), h.rise _ (hm e he), h.ahead _ (hm e he)⟩, h.room, ?_, ?_⟩
  · show sumUsed fs ≤ _
    rw [used_sig, hs]
    exact h.used
  · show sumDirty fs ≤ _
    rw [dirty_sig, hs]
    exact h.dirty

/-! ### the calls -/
section
variable {d : Nat} {A : Ab} {ft : List Nat} {w : World} (h : At d A ft w)
include h
theorem ab_used (hF : A.Fine) (hon : A.on = true) : Calls Tryz.prog 101 #[.pointer (some ⟨d, 0, none⟩)] w fun x w' => x = .returned (.int .i64 (usedT A.sp : Int)) ∧ w.grownBy w' none := by
  obtain ⟨bm, fs, hD, hs, rfl⟩ := h
  have := used_any hD hon (hF.st hs).used
  have e : sumUsed (A.st fs).fs = usedT A.sp := by show sumUsed fs = _; rw [used_sig, hs]
  rwa [e] at this
theorem ab_start : Calls Tryz.prog 13 #[.pointer (some ⟨d, 0, none⟩)] w fun x w' => x = .returned (.tuple #[]) ∧ At d { A with on := true, left := 0 } ft w' ∧ Moved w w' ft ft := by
  obtain ⟨bm, fs, hD, hs, rfl⟩ := h
  refine (start_any hD).mono ?_
  rintro x w' ⟨rfl, h1, h2⟩
  exact ⟨rfl, ⟨bm, fs, h1, hs, rfl⟩, h2.wider (fun i hi => .inl (by simp at hi; simp [foot, hi])) (fun i hi => .inl hi)⟩
theorem ab_crash (hon : A.on = true) (hF : A.Fine) (keep : Int) (hk1 : -9223372036854775808 ≤ keep) (hk2 : keep ≤ 9223372036854775807) : Calls Tryz.prog 12 #[.pointer (some ⟨d, 0, none⟩), .int .i64 keep] w fun x w' => x = .returned (.tuple #[]) ∧ ∃ ft', At d { A with on := false, sp := A.sp.map fun t => loseT t (endT A keep.toNat) } ft' w' ∧ Moved w w' ft ft' := by
  obtain ⟨bm, fs, hD, hs, rfl⟩ := h
  refine (crash_on hD hon (hF.st hs) keep hk1 hk2).mono ?_
  rintro x w' ⟨rfl, h1, h2⟩
  have he : lineEndN (A.st fs) keep.toNat = endT A keep.toNat := by
    unfold lineEndN endT
    show (if (linesOf fs).length ≤ _ then _ else ((linesOf fs).mergeSort _).getD _ _) = _
    rw [lines_sig, hs]
    rfl
  rw [he] at h1
  refine ⟨rfl, _, ⟨bm, _, h1, ?_, rfl⟩, h2.sub fun i hi => ?_⟩
  · show (fs.map fun e => loseE e (endT A keep.toNat)).map sig = _
    rw [List.map_map, ← hs, List.map_map]
    rfl
  · simp only [foot, List.mem_cons] at hi ⊢
    refine hi.imp id fun h => h.imp id fun h => ?_
    obtain ⟨y, hy, hi⟩ := feet_mem.1 h
    obtain ⟨e, he, rfl⟩ := List.mem_map.1 hy
    exact feet_mem.2 ⟨e, he, lose_foot hi⟩
variable (s : ByteArray) (hs : s.size ≤ maxLen)
include hs
theorem ab_read (hc : refuse A.on [s] = 0) {t : Sig} (ht : findT A.sp (nameOf s) = some t) (hl : t.bs.length ≤ 1099511627776) : Calls Tryz.prog 21 #[.pointer (some ⟨d, 0, none⟩), .string s] w fun x w' => ∃ v, x = .returned (.tuple #[v, .int .i64 0]) ∧ w'.ownsRow w.heap.size 5 1 v t.bs.length (B8 t.bs) ∧ w.grownBy w' none := by
  obtain ⟨bm, fs, hD, hss, rfl⟩ := h
  obtain ⟨e, he, rfl⟩ := find_sig_some hss ht
  exact read_ok hD s hs hc he hl
theorem ab_sync (hc : refuse A.on [s] = 0) {t : Sig} (ht : findT A.sp (nameOf s) = some t) (hl : A.left ≠ 1) (ho : A.ops ≤ 4611686018427387904) (hlm : A.left ≤ 9223372036854775807) : Calls Tryz.prog 51 #[.pointer (some ⟨d, 0, none⟩), .string s] w fun x w' => x = .returned (.int .i64 0) ∧ ∃ ft', At d { A with ops := A.ops + 1, left := A.left - 1, sp := upd A.sp (nameOf s) ⟨nameOf s, t.bs, t.bs.length, []⟩ } ft' w' ∧ Moved w w' ft ft' := by
  obtain ⟨bm, fs, hD, hss, rfl⟩ := h
  obtain ⟨e, he, rfl⟩ := find_sig_some hss ht
  refine (sync_ok hD s hs hc he hl ho hlm).mono ?_
  rintro x w' ⟨rfl, h1, h2⟩
  obtain ⟨hm, hn⟩ := find_some he
  refine ⟨rfl, _, ⟨bm, _, h1, ?_, rfl⟩, h2⟩
  have hsw : (swap fs e (endE e e.bs.length)).map sig = upd (fs.map sig) e.nm (sig (endE e e.bs.length)) := swap_sig (S := A.st fs) hD hm
  show (swap fs e (endE e e.bs.length)).map sig = _
  rw [hsw, hss, hn]
  have : sig (endE e e.bs.length) = ⟨nameOf s, (sig e).bs, (sig e).bs.length, []⟩ := by simp [sig, endE, hn]
  rw [this]
theorem ab_create (hc : refuse A.on [s] = 0) (ht : findT A.sp (nameOf s) = none) (hlen : A.sp.length < 48) (hu : usedT A.sp < A.room) (hr : A.room ≤ 1073741824) (hl : A.left ≠ 1) (ho : A.ops ≤ 4611686018427387904) (hlm : A.left ≤ 9223372036854775807) : Calls Tryz.prog 60 #[.pointer (some ⟨d, 0, none⟩), .string s] w fun x w' => x = .returned (.int .i64 0) ∧ ∃ ft', At d { A with ops := A.ops + 1, left := A.left - 1, sp := putT A.sp ⟨nameOf s, [], 0, []⟩ } ft' w' ∧ Moved w w' ft ft' := by
  obtain ⟨bm, fs, hD, hss, rfl⟩ := h
  have hlen' : fs.length < 48 := by rw [← hss, List.length_map] at hlen; exact hlen
  have hu' : sumUsed fs < A.room := by rw [used_sig, hss]; exact hu
  refine (create_new hD s hs hc (find_sig_none hss ht) hlen' hu' hr hl ho hlm).mono ?_
  rintro x w' ⟨rfl, b, h1, h2⟩
  refine ⟨rfl, _, ⟨bm, _, h1, ?_, rfl⟩, h2⟩
  show (putE fs _).map sig = _
  rw [put_sig, hss]
  rfl
end
def growT (t : Sig) (l : List UInt8) : Nat := if l = [] then 0 else growN (t.bs.length + l.length) t.wr t.pl.length
def lackT (t : Sig) (l : List UInt8) : Int := secI ((t.bs.length : Int) + (l.length : Int)) - secI (t.bs.length : Int)
def appT (A : Ab) (nm : List UInt8) (t : Sig) (l : List UInt8) : Ab := { A with ops := A.ops + 1, left := A.left - 1, next := A.next + growT t l, sp := upd A.sp nm ⟨nm, t.bs ++ l, t.wr, t.pl ++ List.range' A.next (growT t l)⟩ }
theorem ab_append {d : Nat} {A : Ab} {ft : List Nat} {w : World} (h : At d A ft w) (s : ByteArray) (hs : s.size ≤ maxLen) (ao : Option Addr) (l : List UInt8) (c : Nat) (hb : Sees w ao l) (hne : ∀ a, ao = some a → 0 < l.length → a.block ∉ ft) (hc : refuse A.on [s] = 0) {t : Sig} (ht : findT A.sp (nameOf s) = some t) (hl : A.left ≠ 1) (ho : A.ops ≤ 4611686018427387904) (hlm : A.left ≤ 9223372036854775807) (hF : A.Fine) (hlen : t.bs.length + l.length ≤ 1099511627776) (hnx : A.next ≤ 4611686018427387904) (hroom : lackT t l ≤ (A.room : Int) - (usedT A.sp : Int)) :
    Calls Tryz.prog 50 #[.pointer (some ⟨d, 0, none⟩), .string s, .slice ao l.length c] w fun x w' => x = .returned (.int .i64 0) ∧ ∃ ft', At d (appT A (nameOf s) t l) ft' w' ∧ Moved w w' ft ft' := by
  obtain ⟨bm, fs, hD, hss, rfl⟩ := h
  obtain ⟨e, he, rfl⟩ := find_sig_some hss ht
  obtain ⟨hm, hn⟩ := find_some he
  have hme : sig e ∈ A.sp := hss ▸ List.mem_map.2 ⟨e, hm, rfl⟩
  have hu : sumUsed fs = usedT A.sp := by rw [used_sig, hss]
  have hfull : decide ((A.room : Int) - (sumUsed fs : Int) < secI ((e.bs.length : Int) + (l.length : Int)) - secI (e.bs.length : Int)) = false := by
    rw [hu]
    exact decide_eq_false (by unfold lackT at hroom; show ¬ _; exact Int.not_lt.2 hroom)
  refine (append_ok hD s hs ao l c hb hc he hne hl ho hlm hlen hnx (hF.pln hme) (Nat.le_trans (hF.wr _ hme) (hF.len _ hme)) hF.room (hF.st hss).used false hfull).mono ?_
  rintro x w' ⟨rfl, e', a1, a2, a3, a4, a5, a6, a7⟩
  refine ⟨rfl, _, ⟨bm, _, a6, ?_, rfl⟩, a7⟩
  have hsw : (swap fs e e').map sig = upd (fs.map sig) e.nm (sig e') := swap_sig (S := A.st fs) hD hm
  show (swap fs e e').map sig = _
  rw [hsw, hss, hn]
  have : sig e' = ⟨nameOf s, (sig e).bs ++ l, (sig e).wr, (sig e).pl ++ List.range' A.next (growT (sig e) l)⟩ := by
    unfold sig
    rw [a1, a3, a4, a5, hn]
    rfl
  rw [this]
  rfl
def newA (room : Nat) : Ab := ⟨[], room, true, 0, 0, 0, 0⟩
theorem ab_new (room : Nat) (hr : room ≤ 1073741824) (w : World) : Calls Tryz.prog 6 #[.int .i64 (room : Int)] w fun x w' => ∃ d ft, x = .returned (.pointer (some ⟨d, 0, none⟩)) ∧ At d (newA room) ft w' ∧ w.grownBy w' none ∧ ∀ i ∈ ft, w.heap.size ≤ i := by
  refine (new_ok room hr w).mono ?_
  rintro x w1 ⟨d, bm, rfl, hD, hg, h1, h2⟩
  refine ⟨d, _, rfl, ⟨bm, [], hD, rfl, rfl⟩, hg, fun i hi => ?_⟩
  simp [foot, feet] at hi
  rcases hi with rfl | rfl <;> assumption
end Go.Proofs.YtglaocghcgcghaaGreatDoor
namespace Go.Proofs.YtglaocghcgcghaaGreatDoor
open Go.RowKit Go.Maps

/-- A byte with one bit turned. -/
def flipB (b : UInt8) (k : Nat) : UInt8 := b ^^^ UInt8.ofNat (2 ^ k)
/-- The file e with one bit turned: it lies in memory so. -/
theorem ent_flip {w : World} {e : Ent} (h : EntAt w e) {g cap : Nat} (hv : e.v1 = .slice (some ⟨g, 0, none⟩) e.bs.length cap) (i : Nat) (b : UInt8) (y : Int) (hy : (b.toNat : Int) = y) :
    EntAt (w.setCell ⟨g, i, none⟩ (.int .u8 y)).drew { e with bs := e.bs.set i b } ∧ Moved w (w.setCell ⟨g, i, none⟩ (.int .u8 y)).drew e.foot e.foot := by
  subst hy
  have hap := h.apart
  simp only [Ent.foot, List.nodup_cons, List.mem_append, not_or, List.nodup_append] at hap
  have hog : e.v1.ownBlock = some g := by rw [hv]; rfl
  have hk : ∀ j, j ≠ g → (w.setCell ⟨g, i, none⟩ (.int .u8 (b.toNat : Int))).drew.heap[j]? = w.heap[j]? := fun j hj => Below.heap_setCell _ _ _ _ hj
  refine ⟨⟨h.head.carry (hk _ fun e1 => hap.1.1 (mem_own.2 (e1 ▸ hog))), ?_, owns_carry h.row2 fun j hj => hk j fun e1 => hap.2.2.2 g (mem_own.2 hog) j (mem_own.2 hj) e1.symm, h.apart⟩, ((Moved.of_set g i _).drew).wider (fun j hj => .inl (by simp at hj; subst hj; simp only [Ent.foot, List.mem_cons, List.mem_append]; exact .inr (.inl (mem_own.2 hog)))) (fun j hj => .inl hj)⟩
  show World.ownsRow _ 0 5 1 e.v1 (e.bs.set i b).length (B8 (e.bs.set i b))
  have hr := h.row1
  rw [hv] at hr ⊢
  have := hr.stored i (.int .u8 (b.toNat : Int))
  rw [List.length_set]
  have hB : B8 (e.bs.set i b) = (B8 e.bs).set i (.int .u8 (b.toNat : Int)) := by simp [B8, List.map_set]
  rw [hB]
  exact this.1
theorem flip_text0 : ∀ n : Nat, n < 256 → bits BinOp.xor IntKind.u8 (n : Int) 1 = ((flipB (UInt8.ofNat n) 0).toNat : Int) := by decide +kernel
theorem flip_text1 : ∀ n : Nat, n < 256 → bits BinOp.xor IntKind.u8 (n : Int) 2 = ((flipB (UInt8.ofNat n) 1).toNat : Int) := by decide +kernel
theorem flip_text2 : ∀ n : Nat, n < 256 → bits BinOp.xor IntKind.u8 (n : Int) 4 = ((flipB (UInt8.ofNat n) 2).toNat : Int) := by decide +kernel
theorem flip_text3 : ∀ n : Nat, n < 256 → bits BinOp.xor IntKind.u8 (n : Int) 8 = ((flipB (UInt8.ofNat n) 3).toNat : Int) := by decide +kernel
theorem flip_text4 : ∀ n : Nat, n < 256 → bits BinOp.xor IntKind.u8 (n : Int) 16 = ((flipB (UInt8.ofNat n) 4).toNat : Int) := by decide +kernel
theorem flip_text5 : ∀ n : Nat, n < 256 → bits BinOp.xor IntKind.u8 (n : Int) 32 = ((flipB (UInt8.ofNat n) 5).toNat : Int) := by decide +kernel
theorem flip_text6 : ∀ n : Nat, n < 256 → bits BinOp.xor IntKind.u8 (n : Int) 64 = ((flipB (UInt8.ofNat n) 6).toNat : Int) := by decide +kernel
theorem flip_text7 : ∀ n : Nat, n < 256 → bits BinOp.xor IntKind.u8 (n : Int) 128 = ((flipB (UInt8.ofNat n) 7).toNat : Int) := by decide +kernel
end Go.Proofs.YtglaocghcgcghaaGreatDoor
namespace Go.Proofs.YtglaocghcgcghaaGreatDoor
open Go.RowKit Go.Maps

end Go.Proofs.YtglaocghcgcghaaGreatDoor
