/-
  SEVERAL TEXTS IN ONE: BlmBytes, BlmNew, TabPlain, TabGood, CellRead.
-/
import Derived.Test.YtlamncldbnagmaaGreatDoorMany19
import Derived.Test.YtlamncldbnagmaaGreatDoorMany7
import Derived.Test.YtlamncldbnagmaaGreatDoorMany10
import Derived.Test.YtlamncldbnagmaaGreatDoorMany6
import Derived.Laws.OwnMore
import Derived.Test.YtlamncldbnagmaaGreatDoorMany17
import Derived.Test.YtlamncldbnagmaaGreatDoorMany12
import Derived.Test.YtlamncldbnagmaaGreatDoorMany14
namespace Go.Proofs.YtlamncldbnagmaaGreatDoor
open Go.RowKit

attribute [local go_sem] Oper.pureAt Oper.pureUpon
theorem owns_monoB {w : World} {base base' : Nat} {e : TypeId} {size : Nat} {v : Value} {n : Nat} {xs : List Value} (h : w.ownsRow base e size v n xs) (hb : base' ≤ base) : w.ownsRow base' e size v n xs := by
  refine ⟨h.1, ?_⟩
  rcases h.2 with h2 | ⟨g, cap, cur, e1, e2, r⟩
  · exact .inl h2
  · exact .inr ⟨g, cap, cur, e1, Nat.le_trans hb e2, r⟩
/-- A filter in bytes. -/
def encF (k : Nat) (l : List UInt8) : List UInt8 := numL k ++ numL l.length ++ l
end Go.Proofs.YtlamncldbnagmaaGreatDoor
namespace Go.Proofs.YtlamncldbnagmaaGreatDoor
open Go.RowKit

set_option maxRecDepth 100000 in
theorem made8m (m : Nat) : (madeCells (Value.int .u8 0).cells (m * 1)).toList = B8 (List.replicate m 0) := by
  have h : (Value.int .u8 0).cells = #[.int .u8 0] := rfl
  rw [h, Nat.mul_one]
  apply List.ext_getElem
  · simp [madeCells, B8]
  · intro i h1 h2
    simp [madeCells, B8, Nat.mod_one]
set_option maxRecDepth 100000 in
theorem make_row (n : Nat) (hn : n ≤ 1099511627776) (w : World) : ∃ w', (Instr.makeSlice 23 (.int .i64 (n : Int)) (.int .i64 (n : Int))).run Tryz.prog w = .ok (.slice (some ⟨w.heap.size, 0, none⟩) n n) w' ∧ Blk w' w.heap.size (B8 (List.replicate n 0)) 5 ∧ w.grownBy w' none := by
  obtain ⟨i0, hi, hz0, hz1, hz2⟩ := info_parts info8
  have := run_make_full (P := Tryz.prog) w w.heap.size 23 5 i0 (.int .u8 0) 1 Tryz.underlying23 hi hz0 hz1 .i64 .i64 n (by rw [hz2]; omega) (by unfold maxLen; omega) (Nat.le_refl _)
  rw [made8m] at this
  obtain ⟨w', h1, h2, h3⟩ := this
  exact ⟨w', h1, (Row.of_owns h2).1, h3⟩
def kOf (b : Nat) : Nat := min (max (b * 7 / 10) 1) 16
def nOf (n b : Nat) : Nat := max ((n * b + 7) / 8) 1
end Go.Proofs.YtlamncldbnagmaaGreatDoor
namespace Go.Proofs.YtlamncldbnagmaaGreatDoor
open Go.RowKit

/-- How many blocks so many cells have. -/
def nBk (n : Nat) : Nat := (n + 7) / 8
/-- A block's cells. -/
def chk (l : List Cx) (k : Nat) : List Cx := (l.drop (8 * k)).take 8
/-- Cells in bytes. -/
def cxB (l : List Cx) : List UInt8 := cellsL (l.map toC)
def blkB (l : List Cx) (k : Nat) : List UInt8 := frameL (cxB (chk l k))
def blksB (l : List Cx) (ks : List Nat) : List UInt8 := ks.flatMap (blkB l)
/-- The bytes of the first cell's key. -/
def kyB : List Cx → List UInt8
  | [] => []
  | c :: _ => encK c.k.ky
def ixB (l : List Cx) (k : Nat) : List UInt8 := txtL (kyB (chk l k)) ++ numL (blkB l k).length
def idxB (l : List Cx) (ks : List Nat) : List UInt8 := numL (nBk l.length) ++ ks.flatMap (ixB l)
/-- The filter's bits. -/
def filB (n : Nat) (l : List Cx) : List UInt8 := l.foldl (fun f c => addK f (sumB (encK c.k.ky) 0#64) 7) (List.replicate (nOf n 10) 0)
def fltB (l : List Cx) : List UInt8 := encF 7 (filB l.length l)
def allK (l : List Cx) : List Nat := List.range (nBk l.length)
def headB (l : List Cx) : List UInt8 := blksB l (allK l) ++ frameL (idxB l (allK l)) ++ frameL (fltB l)
def endC (l : List Cx) : List UInt8 := numL l.length ++ (numL (blksB l (allK l)).length ++ (numL (frameL (idxB l (allK l))).length ++ (numL (frameL (fltB l)).length ++ numL (sumZ (headB l)).toNat)))
def encTb (l : List Cx) : List UInt8 := headB l ++ frameL (endC l) ++ [UInt8.ofNat (frameL (endC l)).length]
/-- May cells be a table? -/
noncomputable def wrtB (l : List Cx) : Bool := decide (0 < l.length) && (srtB l && l.all goodC)

theorem frameL_len (l : List UInt8) : (frameL l).length = l.length + 8 := by simp [frameL, fourL]
theorem numL_two (u : Nat) (h : u < 16384) : (numL u).length ≤ 2 := by
  unfold numL
  by_cases h1 : u < 128
  · rw [numF_small _ _ h1]; simp
  · rw [numF_great _ _ (by omega), numF_small _ _ (by omega)]; simp
theorem chk_len (l : List Cx) (k : Nat) : (chk l k).length ≤ 8 := by unfold chk; rw [List.length_take]; omega
theorem chk_mem {l : List Cx} {k : Nat} {c : Cx} (h : c ∈ chk l k) : c ∈ l := List.mem_of_mem_drop (List.mem_of_mem_take h)
/-- How great a good cell is. -/
structure SmallX (x : Cx) : Prop where
  t : x.k.t.size ≤ 16
  p : x.k.p.size ≤ 64
  c : x.k.c.size ≤ 16
  s : x.v.s.size ≤ 64
theorem good_small {c : Cx} (h : goodC c = true) : SmallX c := by
  unfold goodC at h
  rw [Bool.and_eq_true] at h
  obtain ⟨h1, h2⟩ := h
  unfold goodK Kb.ky at h1
  simp only [Bool.and_eq_true, decide_eq_true_eq, Bool.or_eq_true, beq_iff_eq] at h1
  obtain ⟨⟨⟨h3, -⟩, h4⟩, h5⟩ := h1
  have h6 := (name_iff _).1 h3
  refine ⟨by rw [← nb_size]; exact h6.2.1, by rw [← nb_size]; exact h4, ?_, ?_⟩
  · rcases h5 with h5 | h5
    · rw [← nb_size, h5]; decide
    · rw [← nb_size]; exact ((name_iff _).1 h5).2.1
  · unfold goodV zeroVal at h2
    split at h2
    · simp only [Bool.and_eq_true, decide_eq_true_eq] at h2; omega
    · rw [Bool.and_eq_true] at h2
      have h7 := h2.2
      split at h7
      · simp only [Bool.and_eq_true, decide_eq_true_eq] at h7; omega
      · simp only [Bool.and_eq_true, Bool.or_eq_true, decide_eq_true_eq] at h7; omega
theorem SmallX.ok {c : Cx} (h : SmallX c) (hr : InI c.k.r) : c.k.Ok := ⟨Nat.le_trans h.t (by decide), Nat.le_trans h.p (by decide), Nat.le_trans h.c (by decide), hr⟩
theorem wtYs_small : ∀ {l : List Cx}, (∀ c ∈ l, SmallX c) → wtYs l ≤ 160 * l.length
  | [], _ => by simp [wtYs]
  | c :: l, h => by
    have h1 := wtYs_small (l := l) fun x hx => h x (List.mem_cons_of_mem _ hx)
    have h2 := h c (by simp)
    obtain ⟨a, b, d, e⟩ := h2
    have h3 : wtY c ≤ 160 := by unfold wtY; split <;> omega
    unfold wtYs at *
    simp only [List.map_cons, List.sum_cons, List.length_cons]
    omega
theorem cxB_len {l : List Cx} (h : ∀ c ∈ l, SmallX c) : (cxB l).length ≤ 10 + 241 * l.length := by
  have h1 := wtYs_small h
  have h2 := manyL_leD (l.map toC)
  have h3 := (numL_length (l.map toC).length).2
  rw [wtL_toC, List.length_map] at h2
  unfold cxB cellsL
  rw [List.length_append]
  omega
theorem encK_len {c : Cx} (h : SmallX c) : (encK c.k.ky).length ≤ 206 := by
  obtain ⟨a, b, d, -⟩ := h
  have h1 := esc_len (nb c.k.t)
  have h2 := esc_len (nb c.k.p)
  have h3 := esc_len (nb c.k.c)
  have h4 : (encR c.k.r).length = 8 := be_length _ _
  rw [nb_size] at h1 h2 h3
  unfold encK Kb.ky
  simp only [List.length_append, encT_len, h4]
  omega
theorem kyB_len {l : List Cx} (h : ∀ c ∈ l, SmallX c) : (kyB l).length ≤ 206 := by
  cases l with
  | nil => simp [kyB]
  | cons c l => exact encK_len (h c (by simp))
theorem chkB_len {l : List Cx} (h : ∀ c ∈ l, SmallX c) (k : Nat) : (cxB (chk l k)).length ≤ 1938 := by
  have h1 := cxB_len (l := chk l k) fun c hc => h c (chk_mem hc)
  have h2 := chk_len l k
  omega
theorem ixB_len {l : List Cx} (h : ∀ c ∈ l, SmallX c) (k : Nat) : (ixB l k).length ≤ 210 := by
  have h1 := kyB_len (l := chk l k) fun c hc => h c (chk_mem hc)
  have h2 := chkB_len h k
  have h3 := numL_two (kyB (chk l k)).length (by omega)
  have h4 := numL_two (blkB l k).length (by unfold blkB; rw [frameL_len]; omega)
  unfold ixB txtL
  simp only [List.length_append]
  omega
theorem flat_le {α β : Type} (f : α → List β) (m : Nat) (h : ∀ x, (f x).length ≤ m) : ∀ l : List α, (l.flatMap f).length ≤ m * l.length
  | [] => by simp
  | x :: l => by
    have h1 := flat_le f m h l
    have h2 := h x
    rw [List.flatMap_cons, List.length_append, List.length_cons, Nat.mul_succ]
    omega
theorem blksB_len {l : List Cx} (h : ∀ c ∈ l, SmallX c) (ks : List Nat) : (blksB l ks).length ≤ 1946 * ks.length :=
  flat_le _ _ (fun k => by unfold blkB; rw [frameL_len]; have := chkB_len h k; omega) ks
theorem idxB_len {l : List Cx} (h : ∀ c ∈ l, SmallX c) (ks : List Nat) : (idxB l ks).length ≤ 10 + 210 * ks.length := by
  have h1 := flat_le (ixB l) 210 (ixB_len h) ks
  have h2 := (numL_length (nBk l.length)).2
  unfold idxB
  rw [List.length_append]
  omega
theorem filB_len : ∀ (n : Nat) (l : List Cx), (filB n l).length = nOf n 10 := by
  intro n l
  have H : ∀ (l : List Cx) (f : List UInt8), (l.foldl (fun f c => addK f (sumB (encK c.k.ky) 0#64) 7) f).length = f.length := by
    intro l
    induction l with
    | nil => intro f; rfl
    | cons c l ih => intro f; rw [List.foldl_cons, ih, addK_length]
  unfold filB
  rw [H, List.length_replicate]
theorem fltB_len (l : List Cx) : (fltB l).length ≤ 20 + nOf l.length 10 := by
  have h1 := (numL_length 7).2
  have h2 := (numL_length (filB l.length l).length).2
  have h3 := filB_len l.length l
  unfold fltB encF
  simp only [List.length_append]
  omega
theorem endC_len (l : List Cx) : (endC l).length ≤ 50 := by
  have h1 := (numL_length l.length).2
  have h2 := (numL_length (blksB l (allK l)).length).2
  have h3 := (numL_length (frameL (idxB l (allK l))).length).2
  have h4 := (numL_length (frameL (fltB l)).length).2
  have h5 := (numL_length (sumZ (headB l)).toNat).2
  unfold endC
  simp only [List.length_append]
  omega
theorem allK_len (l : List Cx) : (allK l).length = nBk l.length := List.length_range
end Go.Proofs.YtlamncldbnagmaaGreatDoor
namespace Go.Proofs.YtlamncldbnagmaaGreatDoor
open Go.RowKit

/-- Texts that memory can hold. -/
structure Cx.Fit (x : Cx) : Prop where
  t : x.k.t.size ≤ maxLen
  p : x.k.p.size ≤ maxLen
  c : x.k.c.size ≤ maxLen
  s : x.v.s.size ≤ maxLen
end Go.Proofs.YtlamncldbnagmaaGreatDoor
namespace Go.Proofs.YtlamncldbnagmaaGreatDoor
open Go.RowKit

/-- How a method of the reader ends: with what the bytes begin with, or with the readers' panic. -/
def Reads {α : Type} (p : Option (α × List UInt8)) (val : α → Value) (u : TypeId) (pv : Value) (w : World) (R : Nat) (ao : Option Addr) (l : List UInt8) (cap n : Nat) (e : Ending) (w' : World) : Prop :=
  match p with
  | some (x, r) => e = .returned (val x) ∧ ∃ m, Rd w' R ao l cap m ∧ l.drop m = r ∧ n < m ∧ w.grownBy w' (some R)
  | none => e = .panicked [{ v := .iface u pv, recovered := false }] ∧ ∃ m, Rd w' R ao l cap m ∧ w.grownBy w' (some R)

/-- What a method of the reader needs: the reader, in memory that has what it panics with. -/
structure Ready (w : World) (u : TypeId) (pv : Value) (R : Nat) (ao : Option Addr) (l : List UInt8) (cap n : Nat) : Prop where
  rd : Rd w R ao l cap n
  err : Err w u pv
  ne : R ≠ 3
  cap : l.length ≤ cap

/-- Inside a method: two blocks of its own are laid; what it knows of them. -/
structure Mid (w wr : World) (u : TypeId) (pv : Value) (R : Nat) (ao : Option Addr) (l : List UInt8) (cap m : Nat) (t : TypeId) (zero cs : Array Value) : Prop where
  ready : Ready wr u pv R ao l cap m
  grown : w.grownBy wr (some R)
  res : Box wr w.heap.size zero t
  box : Box wr (w.heap.size + 1) cs t

theorem Ready.grown {w w' : World} {u : TypeId} {pv : Value} {R : Nat} {ao : Option Addr} {l : List UInt8} {cap n m : Nat} (h : Ready w u pv R ao l cap n) (hr : Rd w' R ao l cap m) (hg : w.grownBy w' (some R)) : Ready w' u pv R ao l cap m :=
  ⟨hr, err_grown h.err hg h.ne, h.ne, h.cap⟩
theorem Box.grown {w w' : World} {g : Nat} {cs : Array Value} {t : TypeId} {R : Nat} (h : Box w g cs t) (hg : w.grownBy w' (some R)) (hne : R ≠ g) : Box w' g cs t :=
  h.carry (hg.block g h.lt (fun e => hne (Option.some.inj e).symm))
theorem Box.set {w : World} {g : Nat} {cs : Array Value} {t : TypeId} (h : Box w g cs t) (i : Nat) (v : Value) : Box (w.setCell ⟨g, i, none⟩ v) g (cs.setIfInBounds i v) t := by
  refine ⟨?_⟩
  simp only [World.setCell, Array.getElem?_modify, h.heap]
  simp
theorem Box.setOther {w : World} {g : Nat} {cs : Array Value} {t : TypeId} (h : Box w g cs t) {a : Addr} (v : Value) (hne : a.block ≠ g) : Box (w.setCell a v) g cs t :=
  h.carry (Below.heap_setCell _ _ _ _ (fun e => hne e.symm))

section
variable {w wr : World} {u : TypeId} {pv : Value} {R : Nat} {ao : Option Addr} {l : List UInt8} {cap n m : Nat} {t : TypeId} {zero cs : Array Value}
theorem Mid.start (h : Ready w u pv R ao l cap n) (t : TypeId) (zero : Array Value) : Mid w ((w.alloc (.cells zero t)).alloc (.cells zero t)) u pv R ao l cap n t zero zero := by
  have e : ∀ k, k < w.heap.size → ((w.alloc (.cells zero t)).alloc (.cells zero t)).heap[k]? = w.heap[k]? := fun k hk => by
    rw [Below.heap_alloc _ _ _ (by rw [World.size_alloc]; omega), Below.heap_alloc _ _ _ hk]
  have hb : w.grownBy ((w.alloc (.cells zero t)).alloc (.cells zero t)) (some R) := ⟨rfl, rfl, rfl, by rw [World.size_alloc, World.size_alloc]; omega, fun k hk _ => e k hk⟩
  refine ⟨⟨h.rd.carry e, err_alloc (err_alloc h.err _) _, h.ne, h.cap⟩, hb, (Box.new w zero t).alloc _, ?_⟩
  have := Box.new (w.alloc (.cells zero t)) zero t
  rwa [World.size_alloc] at this
theorem Mid.call {w' : World} {m' : Nat} (h : Mid w wr u pv R ao l cap m t zero cs) (hR : R < w.heap.size) (hr : Rd w' R ao l cap m') (hg : wr.grownBy w' (some R)) : Mid w w' u pv R ao l cap m' t zero cs :=
  ⟨h.ready.grown hr hg, grownBy_trans h.grown hg, h.res.grown hg (by omega), h.box.grown hg (by omega)⟩
theorem Mid.set (h : Mid w wr u pv R ao l cap m t zero cs) (h0 : Ready w u pv R ao l cap n) (i : Nat) (v : Value) : Mid w (wr.setCell ⟨w.heap.size + 1, i, none⟩ v) u pv R ao l cap m t zero (cs.setIfInBounds i v) := by
  have hE : 3 < w.heap.size := World.block_lt_of_cell? w ⟨3, 0, none⟩ h0.err
  refine ⟨⟨h.ready.rd.setOther h0.rd.sees h0.rd.lt (by simp) _, ?_, h.ready.ne, h.ready.cap⟩, grownBy_setNew h.grown (by simp), h.res.setOther _ (by simp), h.box.set i v⟩
  have := h.ready.err
  unfold Err at this ⊢
  rw [World.cell?_setCell_other _ _ _ _ (by intro e; have h' : w.heap.size + 1 = 3 := congrArg Addr.block e; omega)]
  exact this
theorem Mid.put (h : Mid w wr u pv R ao l cap m t zero cs) (h0 : Ready w u pv R ao l cap n) (i : Nat) (v : Value) : Mid w (wr.setCell ⟨w.heap.size, i, none⟩ v) u pv R ao l cap m t (zero.setIfInBounds i v) cs := by
  have hE : 3 < w.heap.size := World.block_lt_of_cell? w ⟨3, 0, none⟩ h0.err
  refine ⟨⟨h.ready.rd.setOther h0.rd.sees h0.rd.lt (by simp) _, ?_, h.ready.ne, h.ready.cap⟩, grownBy_setNew h.grown (by simp), h.res.set i v, h.box.setOther _ (by simp)⟩
  have := h.ready.err
  unfold Err at this ⊢
  rw [World.cell?_setCell_other _ _ _ _ (by intro e; have h' : w.heap.size = 3 := congrArg Addr.block e; omega)]
  exact this
end

theorem kindZ_wrap {v : Nat} (h : v < 18446744073709551616) : IntKind.i64.wrap (v : Int) = kindZ v := by
  unfold kindZ
  rw [IntKind.wrap_i64]
  split <;> omega
theorem zag_nat (v : Nat) (w : World) (h : v < 18446744073709551616) : Calls Tryz.prog 210 #[.int .u64 v] w fun e w' => e = .returned (.int .i64 (zagZ v)) ∧ w' = w := zag_any v w (by omega) (by omega)

theorem number_any (R : Nat) (ao : Option Addr) (l : List UInt8) (cap n : Nat) (w : World) (u : TypeId) (pv : Value) (h : Ready w u pv R ao l cap n) :
    Calls Tryz.prog 182 #[.pointer (some ⟨R, 0, none⟩)] w (Reads (getN 0 0 (l.drop n)) (fun v : Nat => .int .u64 (v : Int)) u pv w R ao l cap n) := by
  unfold Reads
  cases hg : getN 0 0 (l.drop n) with
  | none => exact number_no R ao l cap n w u pv h.rd hg h.err h.ne
  | some x => exact number_ok R ao l cap n w x.1 x.2 h.rd hg
theorem text_any (R : Nat) (ao : Option Addr) (l : List UInt8) (cap n : Nat) (w : World) (u : TypeId) (pv : Value) (h : Ready w u pv R ao l cap n) :
    Calls Tryz.prog 203 #[.pointer (some ⟨R, 0, none⟩)] w (Reads (textN (l.drop n)) (fun s : List UInt8 => .string (bytesOf s)) u pv w R ao l cap n) := by
  unfold Reads
  cases hg : textN (l.drop n) with
  | none => exact text_no R ao l cap n w u pv h.rd hg h.err h.ne
  | some x => exact text_ok R ao l cap n w x.1 x.2 h.rd h.cap hg

set_option maxRecDepth 100000 in
set_option maxHeartbeats 800000 in
theorem signed_any (R : Nat) (ao : Option Addr) (l : List UInt8) (cap n : Nat) (w : World) (u : TypeId) (pv : Value) (h : Ready w u pv R ao l cap n) :
    Calls Tryz.prog 204 #[.pointer (some ⟨R, 0, none⟩)] w (Reads (signN (l.drop n)) (fun v : Int => .int .i64 v) u pv w R ao l cap n) := by
  have Hc : Hid _ := number_any R ao l cap n w u pv h
  cases hg : getN 0 0 (l.drop n) with
  | none =>
    have hp : signN (l.drop n) = none := by unfold signN; rw [hg]
    rw [hp]
    rw [hg] at Hc
    clear hg hp
    go_enter Tryz.func204, Tryz.ntmps204
    go_wp2_with fail
    refine Calls.mono (Hid.out Hc) ?_
    rintro e w1 ⟨rfl, m, hR1, hg1⟩
    go_wp2_with fail
    exact ⟨rfl, rfl, m, hR1, hg1⟩
  | some x =>
    obtain ⟨v, r⟩ := x
    have hp : signN (l.drop n) = some (zagZ v, r) := by unfold signN; rw [hg]
    have Hv : Hid (v < 18446744073709551616) := (get_bd hg).1
    rw [hp]
    rw [hg] at Hc
    clear hg hp
    go_enter Tryz.func204, Tryz.ntmps204
    go_wp2_with fail
    refine Calls.mono (Hid.out Hc) ?_
    rintro e w1 ⟨rfl, m, hR1, hd1, hm1, hg1⟩
    go_wp2_with fail
    refine Calls.mono (zag_nat v _ Hv.out) ?_
    rintro e w2 ⟨rfl, rfl⟩
    go_wp2_with fail
    go_ret
    exact ⟨rfl, m, hR1, hd1, hm1, hg1⟩

def keyZ : Array Value := #[.string ⟨#[]⟩, .string ⟨#[]⟩, .int .i64 0, .string ⟨#[]⟩]
set_option maxRecDepth 100000 in
set_option maxHeartbeats 1600000 in
theorem key_any (R : Nat) (ao : Option Addr) (l : List UInt8) (cap n : Nat) (w : World) (u : TypeId) (pv : Value) (h : Ready w u pv R ao l cap n) :
    Calls Tryz.prog 183 #[.pointer (some ⟨R, 0, none⟩)] w (Reads (keyN (l.drop n)) (fun k : KeyV => .agg (keyA k)) u pv w R ao l cap n) := by
  have H0 : Hid (Mid _ _ _ _ _ _ _ _ _ _ _ _) := Mid.start h 61 keyZ
  have HR : Hid (R < w.heap.size) := h.rd.lt
  have Hr : Hid (Ready _ _ _ _ _ _ _ _) := h
  clear h
  unfold keyZ at *
  go_enter Tryz.func183, Tryz.ntmps183
  go_wp2_with fail
  have Hc : Hid _ := text_any R ao l cap n _ u pv H0.out.ready
  cases h1 : textN (l.drop n) with
  | none =>
    have hp : keyN (l.drop n) = none := by unfold keyN; simp only [h1]
    rw [h1] at Hc
    refine Calls.mono (Hid.out Hc) ?_
    rintro e w1 ⟨rfl, m, hR1, hg1⟩
    clear h1
    have HM := H0.out.call HR.out hR1 hg1
    go_wp2_with fail
    rw [hp]
    exact ⟨rfl, rfl, m, hR1, HM.grown⟩
  | some x1 =>
  obtain ⟨s1, r1⟩ := x1
  rw [h1] at Hc
  refine Calls.mono (Hid.out Hc) ?_
  rintro e w1 ⟨rfl, m1, hR1, hd1, hm1, hg1⟩
  have H1a : Hid (Mid _ _ _ _ _ _ _ _ _ _ _ _) := H0.out.call HR.out hR1 hg1
  have p0 := H1a.out.box.cell 0
  have q0 := H1a.out.box.frozen 0
  have Hh1 : Hid _ := h1
  have H1 : Hid (Mid _ _ _ _ _ _ _ _ _ _ _ _) := H1a.out.set Hr.out 0 (.string (bytesOf s1))
  clear Hc h1 hR1 hg1
  go_wp2_with fail
  clear p0 q0
  have Hc : Hid _ := text_any R ao l cap m1 _ u pv H1.out.ready
  cases h2 : textN (l.drop m1) with
  | none =>
    have hp : keyN (l.drop n) = none := by unfold keyN; simp only [Hid.out Hh1, ← hd1, h2]
    rw [h2] at Hc
    refine Calls.mono (Hid.out Hc) ?_
    rintro e w2 ⟨rfl, m, hR2, hg2⟩
    clear h2
    have HM := H1.out.call HR.out hR2 hg2
    go_wp2_with fail
    rw [hp]
    exact ⟨rfl, rfl, m, hR2, HM.grown⟩
  | some x2 =>
  obtain ⟨s2, r2⟩ := x2
  rw [h2] at Hc
  refine Calls.mono (Hid.out Hc) ?_
  rintro e w2 ⟨rfl, m2, hR2, hd2, hm2, hg2⟩
  have H2a : Hid (Mid _ _ _ _ _ _ _ _ _ _ _ _) := H1.out.call HR.out hR2 hg2
  have p1 := H2a.out.box.cell 1
  have q1 := H2a.out.box.frozen 1
  have Hh2 : Hid _ := h2
  have H2 : Hid (Mid _ _ _ _ _ _ _ _ _ _ _ _) := H2a.out.set Hr.out 1 (.string (bytesOf s2))
  clear Hc h2 hR2 hg2
  go_wp2_with fail
  clear p1 q1
  have Hc : Hid _ := signed_any R ao l cap m2 _ u pv H2.out.ready
  cases h3 : signN (l.drop m2) with
  | none =>
    have hp : keyN (l.drop n) = none := by unfold keyN; simp only [Hid.out Hh1, Hid.out Hh2, ← hd1, ← hd2, h3]
    rw [h3] at Hc
    refine Calls.mono (Hid.out Hc) ?_
    rintro e w3 ⟨rfl, m, hR3, hg3⟩
    clear h3
    have HM := H2.out.call HR.out hR3 hg3
    go_wp2_with fail
    rw [hp]
    exact ⟨rfl, rfl, m, hR3, HM.grown⟩
  | some x3 =>
  obtain ⟨s3, r3⟩ := x3
  rw [h3] at Hc
  refine Calls.mono (Hid.out Hc) ?_
  rintro e w3 ⟨rfl, m3, hR3, hd3, hm3, hg3⟩
  have H3a : Hid (Mid _ _ _ _ _ _ _ _ _ _ _ _) := H2.out.call HR.out hR3 hg3
  have p2 := H3a.out.box.cell 2
  have q2 := H3a.out.box.frozen 2
  have Hh3 : Hid _ := h3
  have H3 : Hid (Mid _ _ _ _ _ _ _ _ _ _ _ _) := H3a.out.set Hr.out 2 (.int .i64 s3)
  clear Hc h3 hR3 hg3
  go_wp2_with fail
  clear p2 q2
  have Hc : Hid _ := text_any R ao l cap m3 _ u pv H3.out.ready
  cases h4 : textN (l.drop m3) with
  | none =>
    have hp : keyN (l.drop n) = none := by unfold keyN; simp only [Hid.out Hh1, Hid.out Hh2, Hid.out Hh3, ← hd1, ← hd2, ← hd3, h4]
    rw [h4] at Hc
    refine Calls.mono (Hid.out Hc) ?_
    rintro e w4 ⟨rfl, m, hR4, hg4⟩
    clear h4
    have HM := H3.out.call HR.out hR4 hg4
    go_wp2_with fail
    rw [hp]
    exact ⟨rfl, rfl, m, hR4, HM.grown⟩
  | some x4 =>
  obtain ⟨s4, r4⟩ := x4
  rw [h4] at Hc
  refine Calls.mono (Hid.out Hc) ?_
  rintro e w4 ⟨rfl, m4, hR4, hd4, hm4, hg4⟩
  have H4a : Hid (Mid _ _ _ _ _ _ _ _ _ _ _ _) := H3.out.call HR.out hR4 hg4
  have p3 := H4a.out.box.cell 3
  have q3 := H4a.out.box.frozen 3
  have Hh4 : Hid _ := h4
  have H4 : Hid (Mid _ _ _ _ _ _ _ _ _ _ _ _) := H4a.out.set Hr.out 3 (.string (bytesOf s4))
  clear Hc h4 hR4 hg4
  have z0 := H4.out.res.cell 0
  have y0 := H4.out.res.frozen 0
  have z1 := H4.out.res.cell 1
  have y1 := H4.out.res.frozen 1
  have z2 := H4.out.res.cell 2
  have y2 := H4.out.res.frozen 2
  have z3 := H4.out.res.cell 3
  have y3 := H4.out.res.frozen 3
  have x0 := H4.out.box.cell 0
  have x1 := H4.out.box.cell 1
  have x2 := H4.out.box.cell 2
  have x3 := H4.out.box.cell 3
  go_wp2_with fail
  have HF : Mid _ _ _ _ _ _ _ _ _ _ _ _ := ((((H4.out.put Hr.out 0 (.string (bytesOf s1))).put Hr.out 1 (.string (bytesOf s2))).put Hr.out 2 (.int .i64 s3)).put Hr.out 3 (.string (bytesOf s4)))
  have hp : keyN (l.drop n) = some ((⟨bytesOf s1, bytesOf s2, s3, bytesOf s4⟩ : KeyV), r4) := by unfold keyN; simp only [Hid.out Hh1, Hid.out Hh2, Hid.out Hh3, Hid.out Hh4, ← hd1, ← hd2, ← hd3]
  rw [hp]
  refine bodyPost_ret (v := .agg (keyA (⟨bytesOf s1, bytesOf s2, s3, bytesOf s4⟩ : KeyV))) (results_cell_row Tryz.results183 _ _ w.heap.size 61 _ _ _ rfl (by exact HF.res.heap) Tryz.underlying61 rfl (by kernel_rfl)) rfl ?_
  exact ⟨rfl, m4, HF.ready.rd, hd4, by omega, HF.grown⟩
def valZ : Array Value := #[.int .i64 0, .int .i64 0, .string ⟨#[]⟩]
set_option maxRecDepth 100000 in
set_option maxHeartbeats 1600000 in
theorem value_any (R : Nat) (ao : Option Addr) (l : List UInt8) (cap n : Nat) (w : World) (u : TypeId) (pv : Value) (h : Ready w u pv R ao l cap n) :
    Calls Tryz.prog 205 #[.pointer (some ⟨R, 0, none⟩)] w (Reads (valN (l.drop n)) (fun k : ValV => .agg (valA k)) u pv w R ao l cap n) := by
  have H0 : Hid (Mid _ _ _ _ _ _ _ _ _ _ _ _) := Mid.start h 63 valZ
  have HR : Hid (R < w.heap.size) := h.rd.lt
  have Hr : Hid (Ready _ _ _ _ _ _ _ _) := h
  clear h
  unfold valZ at *
  go_enter Tryz.func205, Tryz.ntmps205
  go_wp2_with fail
  have Hc : Hid _ := number_any R ao l cap n _ u pv H0.out.ready
  cases h1 : getN 0 0 (l.drop n) with
  | none =>
    have hp : valN (l.drop n) = none := by unfold valN; simp only [h1]
    rw [h1] at Hc
    refine Calls.mono (Hid.out Hc) ?_
    rintro e w1 ⟨rfl, m, hR1, hg1⟩
    clear h1
    have HM := H0.out.call HR.out hR1 hg1
    go_wp2_with fail
    rw [hp]
    exact ⟨rfl, rfl, m, hR1, HM.grown⟩
  | some x1 =>
  obtain ⟨s1, r1⟩ := x1
  rw [h1] at Hc
  refine Calls.mono (Hid.out Hc) ?_
  rintro e w1 ⟨rfl, m1, hR1, hd1, hm1, hg1⟩
  have H1a : Hid (Mid _ _ _ _ _ _ _ _ _ _ _ _) := H0.out.call HR.out hR1 hg1
  have p0 := H1a.out.box.cell 0
  have q0 := H1a.out.box.frozen 0
  have Hh1 : Hid _ := h1
  have H1 : Hid (Mid _ _ _ _ _ _ _ _ _ _ _ _) := H1a.out.set Hr.out 0 (.int .i64 (kindZ s1))
  clear Hc h1 hR1 hg1
  have hkz := kindZ_wrap (get_bd Hh1.out).1
  go_wp2_with fail
  clear p0 q0
  have Hc : Hid _ := signed_any R ao l cap m1 _ u pv H1.out.ready
  cases h2 : signN (l.drop m1) with
  | none =>
    have hp : valN (l.drop n) = none := by unfold valN; simp only [Hid.out Hh1, ← hd1, h2]
    rw [h2] at Hc
    refine Calls.mono (Hid.out Hc) ?_
    rintro e w2 ⟨rfl, m, hR2, hg2⟩
    clear h2
    have HM := H1.out.call HR.out hR2 hg2
    go_wp2_with fail
    rw [hp]
    exact ⟨rfl, rfl, m, hR2, HM.grown⟩
  | some x2 =>
  obtain ⟨s2, r2⟩ := x2
  rw [h2] at Hc
  refine Calls.mono (Hid.out Hc) ?_
  rintro e w2 ⟨rfl, m2, hR2, hd2, hm2, hg2⟩
  have H2a : Hid (Mid _ _ _ _ _ _ _ _ _ _ _ _) := H1.out.call HR.out hR2 hg2
  have p1 := H2a.out.box.cell 1
  have q1 := H2a.out.box.frozen 1
  have Hh2 : Hid _ := h2
  have H2 : Hid (Mid _ _ _ _ _ _ _ _ _ _ _ _) := H2a.out.set Hr.out 1 (.int .i64 s2)
  clear Hc h2 hR2 hg2
  go_wp2_with fail
  clear p1 q1
  have Hc : Hid _ := text_any R ao l cap m2 _ u pv H2.out.ready
  cases h3 : textN (l.drop m2) with
  | none =>
    have hp : valN (l.drop n) = none := by unfold valN; simp only [Hid.out Hh1, Hid.out Hh2, ← hd1, ← hd2, h3]
    rw [h3] at Hc
    refine Calls.mono (Hid.out Hc) ?_
    rintro e w3 ⟨rfl, m, hR3, hg3⟩
    clear h3
    have HM := H2.out.call HR.out hR3 hg3
    go_wp2_with fail
    rw [hp]
    exact ⟨rfl, rfl, m, hR3, HM.grown⟩
  | some x3 =>
  obtain ⟨s3, r3⟩ := x3
  rw [h3] at Hc
  refine Calls.mono (Hid.out Hc) ?_
  rintro e w3 ⟨rfl, m3, hR3, hd3, hm3, hg3⟩
  have H3a : Hid (Mid _ _ _ _ _ _ _ _ _ _ _ _) := H2.out.call HR.out hR3 hg3
  have p2 := H3a.out.box.cell 2
  have q2 := H3a.out.box.frozen 2
  have Hh3 : Hid _ := h3
  have H3 : Hid (Mid _ _ _ _ _ _ _ _ _ _ _ _) := H3a.out.set Hr.out 2 (.string (bytesOf s3))
  clear Hc h3 hR3 hg3
  have z0 := H3.out.res.cell 0
  have y0 := H3.out.res.frozen 0
  have z1 := H3.out.res.cell 1
  have y1 := H3.out.res.frozen 1
  have z2 := H3.out.res.cell 2
  have y2 := H3.out.res.frozen 2
  have x0 := H3.out.box.cell 0
  have x1 := H3.out.box.cell 1
  have x2 := H3.out.box.cell 2
  go_wp2_with fail
  have HF : Mid _ _ _ _ _ _ _ _ _ _ _ _ := (((H3.out.put Hr.out 0 (.int .i64 (kindZ s1))).put Hr.out 1 (.int .i64 s2)).put Hr.out 2 (.string (bytesOf s3)))
  have hp : valN (l.drop n) = some ((⟨kindZ s1, s2, bytesOf s3⟩ : ValV), r3) := by unfold valN; simp only [Hid.out Hh1, Hid.out Hh2, Hid.out Hh3, ← hd1, ← hd2]
  rw [hp]
  refine bodyPost_ret (v := .agg (valA (⟨kindZ s1, s2, bytesOf s3⟩ : ValV))) (results_cell_row Tryz.results205 _ _ w.heap.size 63 _ _ _ rfl (by exact HF.res.heap) Tryz.underlying63 rfl (by kernel_rfl)) rfl ?_
  exact ⟨rfl, m3, HF.ready.rd, hd3, by omega, HF.grown⟩
end Go.Proofs.YtlamncldbnagmaaGreatDoor
