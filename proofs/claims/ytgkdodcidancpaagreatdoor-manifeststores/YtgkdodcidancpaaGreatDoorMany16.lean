/-
  SEVERAL TEXTS IN ONE: DskAb, DskKeepsP, DskArm, DskList.
-/
import Derived.Test.YtgkdodcidancpaaGreatDoorMany15
import Derived.Laws.BytesString
import Derived.Test.YtgkdodcidancpaaGreatDoorDskMore
import Derived.Test.YtgkdodcidancpaaGreatDoorMany7
namespace Go.Proofs.YtgkdodcidancpaaGreatDoor
open Go.RowKit Go.Maps

/-- A file, without its memory. -/
structure Sig where
  nm : List UInt8
  bs : List UInt8
  wr : Nat
  pl : List Nat
def sig (e : Ent) : Sig := ⟨e.nm, e.bs, e.wr, e.pl⟩
/-- A disk, without its memory. -/
structure Ab where
  sp : List Sig
  room : Nat
  on : Bool
  ops : Nat
  next : Nat
  left : Nat
  keep : Int
def Ab.st (A : Ab) (fs : List Ent) : St := ⟨fs, A.room, A.on, A.ops, A.next, A.left, A.keep⟩
/-- The disk lies in memory, in the blocks of the list. -/
def At (d : Nat) (A : Ab) (ft : List Nat) (w : World) : Prop := ∃ bm fs, DiskAt w d bm (A.st fs) ∧ fs.map sig = A.sp ∧ ft = foot d bm fs
theorem At.lt {d : Nat} {A : Ab} {ft : List Nat} {w : World} (h : At d A ft w) : ∀ i ∈ ft, i < w.heap.size := by
  obtain ⟨bm, fs, hD, _, rfl⟩ := h
  exact hD.lt
theorem At.moved {d : Nat} {A : Ab} {ft : List Nat} {w w' : World} {a b : List Nat} (h : At d A ft w) (hm : Moved w w' a b) (hd : ∀ i ∈ ft, i ∉ a) : At d A ft w' := by
  obtain ⟨bm, fs, hD, hs, rfl⟩ := h
  exact ⟨bm, fs, hD.moved hm hd, hs, rfl⟩
theorem At.grown {d : Nat} {A : Ab} {ft : List Nat} {w w' : World} (h : At d A ft w) (hg : w.grownBy w' none) : At d A ft w' := h.moved (Moved.none_of hg []) (by simp)
def findT (sp : List Sig) (nm : List UInt8) : Option Sig := sp.find? fun t => t.nm == nm
theorem find_sig {fs : List Ent} {sp : List Sig} (h : fs.map sig = sp) (nm : List UInt8) : (find fs nm).map sig = findT sp nm := by
  subst h
  unfold find findT
  rw [List.find?_map]
  rfl
theorem find_sig_some {fs : List Ent} {sp : List Sig} (h : fs.map sig = sp) {nm : List UInt8} {t : Sig} (ht : findT sp nm = some t) : ∃ e, find fs nm = some e ∧ sig e = t := by
  rw [← find_sig h] at ht
  cases hf : find fs nm with
  | none => rw [hf] at ht; cases ht
  | some e => rw [hf] at ht; exact ⟨e, rfl, Option.some.inj ht⟩
theorem find_sig_none {fs : List Ent} {sp : List Sig} (h : fs.map sig = sp) {nm : List UInt8} (ht : findT sp nm = none) : find fs nm = none := by
  rw [← find_sig h] at ht
  cases hf : find fs nm with
  | none => rfl
  | some e => rw [hf] at ht; cases ht
def upd (sp : List Sig) (nm : List UInt8) (t' : Sig) : List Sig := sp.map fun t => if t.nm == nm then t' else t
theorem swap_sig {w : World} {d bm : Nat} {S : St} (h : DiskAt w d bm S) {e e' : Ent} (he : e ∈ S.fs) : (swap S.fs e e').map sig = upd (S.fs.map sig) e.nm (sig e') := by
  have hp := h.names
  have hn := (nodup_d h.apart).2.2.2
  unfold swap upd
  rw [List.map_map, List.map_map]
  apply List.map_congr_left
  intro x hx
  simp only [Function.comp]
  by_cases hxe : x = e
  · subst hxe
    have : ((sig x).nm == x.nm) = true := by simp [sig]
    simp [this]
  · have h1 : x.b ≠ e.b := fun hb => hxe (feet_same hn hx he (i := e.b) (hb ▸ b_mem) b_mem)
    have h2 : ((sig x).nm == e.nm) = false := by
      rw [beq_eq_false_iff_ne]
      intro hnm
      have a1 := find_of_mem hp hx
      have a2 := find_of_mem hp he
      have hnm' : x.nm = e.nm := hnm
      rw [hnm', a2] at a1
      exact hxe (Option.some.inj a1).symm
    rw [if_neg h1, h2]
    rfl
def insT (t : Sig) : List Sig → List Sig
  | [] => [t]
  | y :: r => if bytesBefore t.nm y.nm then t :: y :: r else y :: insT t r
def dropT (sp : List Sig) (nm : List UInt8) : List Sig := sp.filter fun x => !(x.nm == nm)
def putT (sp : List Sig) (t : Sig) : List Sig := insT t (dropT sp t.nm)
theorem ins_sig (e : Ent) (fs : List Ent) : (insE e fs).map sig = insT (sig e) (fs.map sig) := by
  induction fs with
  | nil => rfl
  | cons y r ih =>
    simp only [insE, List.map_cons, insT]
    have : bytesBefore (sig e).nm (sig y).nm = bytesBefore e.nm y.nm := rfl
    rw [this, ← ih]
    split <;> rfl
theorem drop_sig (fs : List Ent) (nm : List UInt8) : (dropE fs nm).map sig = dropT (fs.map sig) nm := by
  unfold dropE dropT
  rw [List.filter_map]
  rfl
theorem put_sig (fs : List Ent) (e : Ent) : (putE fs e).map sig = putT (fs.map sig) (sig e) := by
  unfold putE putT
  rw [ins_sig, drop_sig]
  rfl
def usedT (sp : List Sig) : Nat := (sp.map fun t => 1 + (t.bs.length + 15) / 16).sum
def dirtyT (sp : List Sig) : Nat := (sp.map fun t => t.pl.length).sum
theorem used_sig (fs : List Ent) : sumUsed fs = usedT (fs.map sig) := by unfold sumUsed usedT; rw [List.map_map]; rfl
theorem dirty_sig (fs : List Ent) : sumDirty fs = dirtyT (fs.map sig) := by unfold sumDirty dirtyT; rw [List.map_map]; rfl
def keptT (t : Sig) (x : Nat) : Nat := t.pl.countP (· < x)
def lostT (t : Sig) (x : Nat) : Nat := if keptT t x = 0 then t.wr else min t.bs.length ((t.wr / 16 + keptT t x) * 16)
def loseT (t : Sig) (x : Nat) : Sig := ⟨t.nm, t.bs.take (lostT t x), lostT t x, []⟩
theorem lose_sig (e : Ent) (x : Nat) : sig (loseE e x) = loseT (sig e) x := rfl
def linesT (sp : List Sig) : List Nat := sp.flatMap Sig.pl
def endT (A : Ab) (keep : Nat) : Nat := if (linesT A.sp).length ≤ keep then A.next else ((linesT A.sp).mergeSort (fun a b => decide (a ≤ b))).getD keep 0
theorem lines_sig (fs : List Ent) : linesOf fs = linesT (fs.map sig) := by unfold linesOf linesT; rw [List.flatMap_map]; rfl
/-- What a disk must be like. -/
structure Ab.Fine (A : Ab) : Prop where
  wr : ∀ t ∈ A.sp, t.wr ≤ t.bs.length
  len : ∀ t ∈ A.sp, t.bs.length ≤ 1099511627776
  rise : ∀ t ∈ A.sp, t.pl.Pairwise (· < ·)
  ahead : ∀ t ∈ A.sp, ∀ q ∈ t.pl, q < A.next
  room : A.room ≤ 1073741824
  used : usedT A.sp ≤ 1099511627776
  dirty : dirtyT A.sp ≤ 1099511627776
theorem Ab.Fine.pln {A : Ab} (h : A.Fine) {t : Sig} (ht : t ∈ A.sp) : t.pl.length ≤ 1099511627776 := by
  have := h.dirty
  have h2 : t.pl.length ≤ dirtyT A.sp := List.single_le_sum_nat (List.mem_map.2 ⟨t, ht, rfl⟩)
  omega
theorem Ab.Fine.st {A : Ab} (h : A.Fine) {fs : List Ent} (hs : fs.map sig = A.sp) : (A.st fs).Fine := by
  have hm : ∀ e ∈ fs, sig e ∈ A.sp := fun e he => hs ▸ List.mem_map.2 ⟨e, he, rfl⟩
  refine ⟨fun e he => ⟨h.wr _ (hm e he), h.len _ (hm e he), h.pln (hm e he), h.rise _ (hm e he), h.ahead _ (hm e he)⟩, h.room, ?_, ?_⟩
  · show sumUsed fs ≤ _
    rw [used_sig, hs]
    exact h.used
  · show sumDirty fs ≤ _
    rw [dirty_sig, hs]
    exact h.dirty

/-! ### the calls -/
section
variable {d : Nat} {A : Ab} {ft : List Nat} {w : World} (h : At d A ft w)
include h
theorem ab_used (hF : A.Fine) (hon : A.on = true) : Calls Tryz.prog 96 #[.pointer (some ⟨d, 0, none⟩)] w fun x w' => x = .returned (.int .i64 (usedT A.sp : Int)) ∧ w.grownBy w' none := by
  obtain ⟨bm, fs, hD, hs, rfl⟩ := h
  have := used_any hD hon (hF.st hs).used
  have e : sumUsed (A.st fs).fs = usedT A.sp := by show sumUsed fs = _; rw [used_sig, hs]
  rwa [e] at this
theorem ab_crash (hon : A.on = true) (hF : A.Fine) (keep : Int) (hk1 : -9223372036854775808 ≤ keep) (hk2 : keep ≤ 9223372036854775807) : Calls Tryz.prog 97 #[.pointer (some ⟨d, 0, none⟩), .int .i64 keep] w fun x w' => x = .returned (.tuple #[]) ∧ ∃ ft', At d { A with on := false, sp := A.sp.map fun t => loseT t (endT A keep.toNat) } ft' w' ∧ Moved w w' ft ft' := by
  obtain ⟨bm, fs, hD, hs, rfl⟩ := h
  refine (crash_on hD hon (hF.st hs) keep hk1 hk2).mono ?_
  rintro x w' ⟨rfl, h1, h2⟩
  have he : lineEndN (A.st fs) keep.toNat = endT A keep.toNat := by
    unfold lineEndN endT
    show (if (linesOf fs).length ≤ _ then _ else ((linesOf fs).mergeSort _).getD _ _) = _
    rw [lines_sig, hs]
    rfl
  rw [he] at h1
  refine ⟨rfl, _, ⟨bm, _, h1, ?_, rfl⟩, h2.sub fun i hi => ?_⟩
  · show (fs.map fun e => loseE e (endT A keep.toNat)).map sig = _
    rw [List.map_map, ← hs, List.map_map]
    rfl
  · simp only [foot, List.mem_cons] at hi ⊢
    refine hi.imp id fun h => h.imp id fun h => ?_
    obtain ⟨y, hy, hi⟩ := feet_mem.1 h
    obtain ⟨e, he, rfl⟩ := List.mem_map.1 hy
    exact feet_mem.2 ⟨e, he, lose_foot hi⟩
variable (s : ByteArray) (hs : s.size ≤ maxLen)
include hs
theorem ab_read (hc : refuse A.on [s] = 0) {t : Sig} (ht : findT A.sp (nameOf s) = some t) (hl : t.bs.length ≤ 1099511627776) : Calls Tryz.prog 37 #[.pointer (some ⟨d, 0, none⟩), .string s] w fun x w' => ∃ v, x = .returned (.tuple #[v, .int .i64 0]) ∧ w'.ownsRow w.heap.size 5 1 v t.bs.length (B8 t.bs) ∧ w.grownBy w' none := by
  obtain ⟨bm, fs, hD, hss, rfl⟩ := h
  obtain ⟨e, he, rfl⟩ := find_sig_some hss ht
  exact read_ok hD s hs hc he hl
theorem ab_sync (hc : refuse A.on [s] = 0) {t : Sig} (ht : findT A.sp (nameOf s) = some t) (hl : A.left ≠ 1) (ho : A.ops ≤ 4611686018427387904) (hlm : A.left ≤ 9223372036854775807) : Calls Tryz.prog 31 #[.pointer (some ⟨d, 0, none⟩), .string s] w fun x w' => x = .returned (.int .i64 0) ∧ ∃ ft', At d { A with ops := A.ops + 1, left := A.left - 1, sp := upd A.sp (nameOf s) ⟨nameOf s, t.bs, t.bs.length, []⟩ } ft' w' ∧ Moved w w' ft ft' := by
  obtain ⟨bm, fs, hD, hss, rfl⟩ := h
  obtain ⟨e, he, rfl⟩ := find_sig_some hss ht
  refine (sync_ok hD s hs hc he hl ho hlm).mono ?_
  rintro x w' ⟨rfl, h1, h2⟩
  obtain ⟨hm, hn⟩ := find_some he
  refine ⟨rfl, _, ⟨bm, _, h1, ?_, rfl⟩, h2⟩
  have hsw : (swap fs e (endE e e.bs.length)).map sig = upd (fs.map sig) e.nm (sig (endE e e.bs.length)) := swap_sig (S := A.st fs) hD hm
  show (swap fs e (endE e e.bs.length)).map sig = _
  rw [hsw, hss, hn]
  have : sig (endE e e.bs.length) = ⟨nameOf s, (sig e).bs, (sig e).bs.length, []⟩ := by simp [sig, endE, hn]
  rw [this]
theorem ab_create (hc : refuse A.on [s] = 0) (ht : findT A.sp (nameOf s) = none) (hlen : A.sp.length < 48) (hu : usedT A.sp < A.room) (hr : A.room ≤ 1073741824) (hl : A.left ≠ 1) (ho : A.ops ≤ 4611686018427387904) (hlm : A.left ≤ 9223372036854775807) : Calls Tryz.prog 27 #[.pointer (some ⟨d, 0, none⟩), .string s] w fun x w' => x = .returned (.int .i64 0) ∧ ∃ ft', At d { A with ops := A.ops + 1, left := A.left - 1, sp := putT A.sp ⟨nameOf s, [], 0, []⟩ } ft' w' ∧ Moved w w' ft ft' := by
  obtain ⟨bm, fs, hD, hss, rfl⟩ := h
  have hlen' : fs.length < 48 := by rw [← hss, List.length_map] at hlen; exact hlen
  have hu' : sumUsed fs < A.room := by rw [used_sig, hss]; exact hu
  refine (create_new hD s hs hc (find_sig_none hss ht) hlen' hu' hr hl ho hlm).mono ?_
  rintro x w' ⟨rfl, b, h1, h2⟩
  refine ⟨rfl, _, ⟨bm, _, h1, ?_, rfl⟩, h2⟩
  show (putE fs _).map sig = _
  rw [put_sig, hss]
  rfl
end
def growT (t : Sig) (l : List UInt8) : Nat := if l = [] then 0 else growN (t.bs.length + l.length) t.wr t.pl.length
def lackT (t : Sig) (l : List UInt8) : Int := secI ((t.bs.length : Int) + (l.length : Int)) - secI (t.bs.length : Int)
def appT (A : Ab) (nm : List UInt8) (t : Sig) (l : List UInt8) : Ab := { A with ops := A.ops + 1, left := A.left - 1, next := A.next + growT t l, sp := upd A.sp nm ⟨nm, t.bs ++ l, t.wr, t.pl ++ List.range' A.next (growT t l)⟩ }
theorem ab_append {d : Nat} {A : Ab} {ft : List Nat} {w : World} (h : At d A ft w) (s : ByteArray) (hs : s.size ≤ maxLen) (ao : Option Addr) (l : List UInt8) (c : Nat) (hb : Sees w ao l) (hne : ∀ a, ao = some a → 0 < l.length → a.block ∉ ft) (hc : refuse A.on [s] = 0) {t : Sig} (ht : findT A.sp (nameOf s) = some t) (hl : A.left ≠ 1) (ho : A.ops ≤ 4611686018427387904) (hlm : A.left ≤ 9223372036854775807) (hF : A.Fine) (hlen : t.bs.length + l.length ≤ 1099511627776) (hnx : A.next ≤ 4611686018427387904) (hroom : lackT t l ≤ (A.room : Int) - (usedT A.sp : Int)) :
    Calls Tryz.prog 29 #[.pointer (some ⟨d, 0, none⟩), .string s, .slice ao l.length c] w fun x w' => x = .returned (.int .i64 0) ∧ ∃ ft', At d (appT A (nameOf s) t l) ft' w' ∧ Moved w w' ft ft' := by
  obtain ⟨bm, fs, hD, hss, rfl⟩ := h
  obtain ⟨e, he, rfl⟩ := find_sig_some hss ht
  obtain ⟨hm, hn⟩ := find_some he
  have hme : sig e ∈ A.sp := hss ▸ List.mem_map.2 ⟨e, hm, rfl⟩
  have hu : sumUsed fs = usedT A.sp := by rw [used_sig, hss]
  have hfull : decide ((A.room : Int) - (sumUsed fs : Int) < secI ((e.bs.length : Int) + (l.length : Int)) - secI (e.bs.length : Int)) = false := by
    rw [hu]
    exact decide_eq_false (by unfold lackT at hroom; show ¬ _; exact Int.not_lt.2 hroom)
  refine (append_ok hD s hs ao l c hb hc he hne hl ho hlm hlen hnx (hF.pln hme) (Nat.le_trans (hF.wr _ hme) (hF.len _ hme)) hF.room (hF.st hss).used false hfull).mono ?_
  rintro x w' ⟨rfl, e', a1, a2, a3, a4, a5, a6, a7⟩
  refine ⟨rfl, _, ⟨bm, _, a6, ?_, rfl⟩, a7⟩
  have hsw : (swap fs e e').map sig = upd (fs.map sig) e.nm (sig e') := swap_sig (S := A.st fs) hD hm
  show (swap fs e e').map sig = _
  rw [hsw, hss, hn]
  have : sig e' = ⟨nameOf s, (sig e).bs ++ l, (sig e).wr, (sig e).pl ++ List.range' A.next (growT (sig e) l)⟩ := by
    unfold sig
    rw [a1, a3, a4, a5, hn]
    rfl
  rw [this]
  rfl
def newA (room : Nat) : Ab := ⟨[], room, true, 0, 0, 0, 0⟩
theorem ab_new (room : Nat) (hr : room ≤ 1073741824) (w : World) : Calls Tryz.prog 4 #[.int .i64 (room : Int)] w fun x w' => ∃ d ft, x = .returned (.pointer (some ⟨d, 0, none⟩)) ∧ At d (newA room) ft w' ∧ w.grownBy w' none ∧ ∀ i ∈ ft, w.heap.size ≤ i := by
  refine (new_ok room hr w).mono ?_
  rintro x w1 ⟨d, bm, rfl, hD, hg, h1, h2⟩
  refine ⟨d, _, rfl, ⟨bm, [], hD, rfl, rfl⟩, hg, fun i hi => ?_⟩
  simp [foot, feet] at hi
  rcases hi with rfl | rfl <;> assumption
end Go.Proofs.YtgkdodcidancpaaGreatDoor
namespace Go.Proofs.YtgkdodcidancpaaGreatDoor
open Go.RowKit Go.Maps

theorem conv_seesD {w : World} {ao : Option Addr} {l : List UInt8} (h : Sees w ao l) (hn : ao = none → l.length = 0) (cap : Nat) :
    (convert 58 9 (.slice ao l.length cap)).run Tryz.prog w = .ok (.string ⟨l.toArray⟩) w := by
  cases ao with
  | none =>
    obtain rfl : l = [] := List.eq_nil_of_length_eq_zero (hn rfl)
    rw [run_convert_bytes_string w 58 9 5 none _ cap Tryz.underlying58 Tryz.underlying5 Tryz.underlying9]
    rfl
  | some a =>
    refine run_convert_bytes_back w 58 9 5 a cap l Tryz.underlying58 Tryz.underlying5 Tryz.underlying9 fun j hj => ?_
    obtain ⟨a', e, hc⟩ := h j hj
    obtain rfl := Option.some.inj e
    rw [hc]; simp [List.getD, hj]
/-- The disk lies in memory that is new since w0; all that was there is as it was. -/
def Kp (w0 : World) (d : Nat) (A : Ab) (w1 : World) : Prop := ∃ ft, At d A ft w1 ∧ Moved w0 w1 [] ft
theorem Kp.grown {w0 : World} {d : Nat} {A : Ab} {w1 w2 : World} (h : Kp w0 d A w1) (hg : w1.grownBy w2 none) : Kp w0 d A w2 := by
  obtain ⟨ft, h1, h2⟩ := h
  exact ⟨ft, h1.grown hg, h2.trans (Moved.none_of hg _)⟩
theorem Kp.below {w0 : World} {d : Nat} {A : Ab} {w1 : World} (h : Kp w0 d A w1) : Below w0.heap.size w0 w1 := by
  obtain ⟨ft, _, h2⟩ := h
  exact h2.below (Nat.le_refl _) (by simp)
theorem Kp.sees {w0 : World} {d : Nat} {A : Ab} {w1 : World} (h : Kp w0 d A w1) {ao : Option Addr} {l : List UInt8} (hs : Sees w0 ao l) : Sees w1 ao l := hs.below h.below (Nat.le_refl _)
def syT (A : Ab) (nm : List UInt8) (t : Sig) : Ab := { A with ops := A.ops + 1, left := A.left - 1, sp := upd A.sp nm ⟨nm, t.bs, t.bs.length, []⟩ }
def crT (A : Ab) (nm : List UInt8) : Ab := { A with ops := A.ops + 1, left := A.left - 1, sp := putT A.sp ⟨nm, [], 0, []⟩ }
section
variable {w0 : World} {d : Nat} {A : Ab} {w1 : World} (h : Kp w0 d A w1) (s : ByteArray) (hs : s.size ≤ maxLen)
include h
theorem kp_crash (hon : A.on = true) (hF : A.Fine) (keep : Int) (hk1 : -9223372036854775808 ≤ keep) (hk2 : keep ≤ 9223372036854775807) : Calls Tryz.prog 97 #[.pointer (some ⟨d, 0, none⟩), .int .i64 keep] w1 fun x w' => x = .returned (.tuple #[]) ∧ Kp w0 d { A with on := false, sp := A.sp.map fun t => loseT t (endT A keep.toNat) } w' := by
  obtain ⟨ft, h1, h2⟩ := h
  exact (ab_crash h1 hon hF keep hk1 hk2).mono fun x w' ⟨e, ft', a1, a2⟩ => ⟨e, ft', a1, h2.trans a2⟩
include hs
theorem kp_read (hc : refuse A.on [s] = 0) {t : Sig} (ht : findT A.sp (nameOf s) = some t) (hl : t.bs.length ≤ 1099511627776) : Calls Tryz.prog 37 #[.pointer (some ⟨d, 0, none⟩), .string s] w1 fun x w' => ∃ ao c, x = .returned (.tuple #[.slice ao t.bs.length c, .int .i64 0]) ∧ Sees w' ao t.bs ∧ (ao = none → t.bs.length = 0) ∧ t.bs.length ≤ c ∧ w1.grownBy w' none ∧ Kp w0 d A w' := by
  have h0 := h
  obtain ⟨ft, h1, h2⟩ := h
  refine (ab_read h1 s hs hc ht hl).mono ?_
  rintro x w' ⟨v, rfl, ho, hg⟩
  obtain ⟨ao, c, rfl, hsee, _, hn⟩ := owns_sees ho
  obtain ⟨_, _, he, hcap, _⟩ := owns_form ho
  cases he
  exact ⟨ao, c, rfl, hsee, fun e => (hn e).1, hcap, hg, h0.grown hg⟩
theorem kp_sync (hc : refuse A.on [s] = 0) {t : Sig} (ht : findT A.sp (nameOf s) = some t) (hl : A.left ≠ 1) (ho : A.ops ≤ 4611686018427387904) (hlm : A.left ≤ 9223372036854775807) : Calls Tryz.prog 31 #[.pointer (some ⟨d, 0, none⟩), .string s] w1 fun x w' => x = .returned (.int .i64 0) ∧ Kp w0 d (syT A (nameOf s) t) w' := by
  obtain ⟨ft, h1, h2⟩ := h
  exact (ab_sync h1 s hs hc ht hl ho hlm).mono fun x w' ⟨e, ft', a1, a2⟩ => ⟨e, ft', a1, h2.trans a2⟩
theorem kp_create (hc : refuse A.on [s] = 0) (ht : findT A.sp (nameOf s) = none) (hlen : A.sp.length < 48) (hu : usedT A.sp < A.room) (hr : A.room ≤ 1073741824) (hl : A.left ≠ 1) (ho : A.ops ≤ 4611686018427387904) (hlm : A.left ≤ 9223372036854775807) : Calls Tryz.prog 27 #[.pointer (some ⟨d, 0, none⟩), .string s] w1 fun x w' => x = .returned (.int .i64 0) ∧ Kp w0 d (crT A (nameOf s)) w' := by
  obtain ⟨ft, h1, h2⟩ := h
  exact (ab_create h1 s hs hc ht hlen hu hr hl ho hlm).mono fun x w' ⟨e, ft', a1, a2⟩ => ⟨e, ft', a1, h2.trans a2⟩
theorem kp_append (ao : Option Addr) (l : List UInt8) (c : Nat) (hb : Sees w0 ao l) (hc : refuse A.on [s] = 0) {t : Sig} (ht : findT A.sp (nameOf s) = some t) (hl : A.left ≠ 1) (ho : A.ops ≤ 4611686018427387904) (hlm : A.left ≤ 9223372036854775807) (hF : A.Fine) (hlen : t.bs.length + l.length ≤ 1099511627776) (hnx : A.next ≤ 4611686018427387904) (hroom : lackT t l ≤ (A.room : Int) - (usedT A.sp : Int)) :
    Calls Tryz.prog 29 #[.pointer (some ⟨d, 0, none⟩), .string s, .slice ao l.length c] w1 fun x w' => x = .returned (.int .i64 0) ∧ Kp w0 d (appT A (nameOf s) t l) w' := by
  have hsee := h.sees hb
  obtain ⟨ft, h1, h2⟩ := h
  refine (ab_append h1 s hs ao l c hsee (fun a ha h0 hi => ?_) hc ht hl ho hlm hF hlen hnx hroom).mono fun x w' ⟨e, ft', a1, a2⟩ => ⟨e, ft', a1, h2.trans a2⟩
  have := hb.lt ha h0
  rcases h2.news _ hi with h3 | h3
  · simp at h3
  · omega
end
theorem kp_new (room : Nat) (hr : room ≤ 1073741824) (w : World) : Calls Tryz.prog 4 #[.int .i64 (room : Int)] w fun x w' => ∃ d, x = .returned (.pointer (some ⟨d, 0, none⟩)) ∧ Kp w d (newA room) w' := by
  refine (ab_new room hr w).mono ?_
  rintro x w1 ⟨d, ft, rfl, hA, hg, hn⟩
  exact ⟨d, rfl, ft, hA, (Moved.of_grown hg).wider (by simp) (fun i hi => .inr (.inr (hn i hi)))⟩

/-! ### the states -/
def nmB : ByteArray := ⟨#[98]⟩
section
variable (l1 l2 l3 : List UInt8)
def kt1 : Sig := ⟨[97], [], 0, []⟩
def kA1 : Ab := crT (newA 10000) [97]
def kA2 : Ab := appT kA1 [97] kt1 l1
def kt2 : Sig := ⟨[97], l1, 0, List.range' 0 (growT kt1 l1)⟩
def kA3 : Ab := syT (kA2 l1) [97] (kt2 l1)
def kt3 : Sig := ⟨[97], l1, l1.length, []⟩
def kA4 : Ab := crT (kA3 l1) [98]
def ku4 : Sig := ⟨[98], [], 0, []⟩
def kA5 : Ab := appT (kA4 l1) [98] ku4 l3
def ku5 : Sig := ⟨[98], l3, 0, List.range' (kA4 l1).next (growT ku4 l3)⟩
def kA6 : Ab := appT (kA5 l1 l3) [97] (kt3 l1) l2
def kt6 : Sig := ⟨[97], l1 ++ l2, l1.length, List.range' (kA5 l1 l3).next (growT (kt3 l1) l2)⟩
def kA7 : Ab := syT (kA6 l1 l2 l3) [98] (ku5 l1 l3)
def ku7 : Sig := ⟨[98], l3, l3.length, []⟩
theorem sp1 : kA1.sp = [kt1] := rfl
theorem sp2 : (kA2 l1).sp = [kt2 l1] := by simp [kA2, appT, kA1, crT, upd, putT, insT, dropT, newA, kt1, kt2]
theorem sp3 : (kA3 l1).sp = [kt3 l1] := by simp [kA3, syT, sp2, upd, kt2, kt3]
theorem sp4 : (kA4 l1).sp = [kt3 l1, ku4] := by
  have : dropT [kt3 l1] [98] = [kt3 l1] := rfl
  simp only [kA4, crT, sp3, putT, this]
  rfl
theorem sp5 : (kA5 l1 l3).sp = [kt3 l1, ku5 l1 l3] := by simp [kA5, appT, sp4, upd, kt3, ku4, ku5]
theorem sp6 : (kA6 l1 l2 l3).sp = [kt6 l1 l2 l3, ku5 l1 l3] := by simp [kA6, appT, sp5, upd, kt3, ku5, kt6]
theorem sp7 : (kA7 l1 l2 l3).sp = [kt6 l1 l2 l3, ku7 l3] := by simp [kA7, syT, sp6, upd, kt6, ku5, ku7]
end
end Go.Proofs.YtgkdodcidancpaaGreatDoor
namespace Go.Proofs.YtgkdodcidancpaaGreatDoor
open Go.RowKit Go.Maps

theorem arm_refused {w : World} {d bm : Nat} {S : St} (h : DiskAt w d bm S) (n m : Int) (hon : S.on = false) :
    Calls Tryz.prog 7 #[.pointer (some ⟨d, 0, none⟩), .int .i64 n, .int .i64 m] w fun x w' => x = .returned (.int .i64 9) ∧ w' = w := by
  have R := refusal_nil h
  rw [hon] at R
  have R : Hid (Calls Tryz.prog 21 #[.pointer (some ⟨d, 0, none⟩), .slice none 0 0] w fun x w' => x = .returned (.int .i64 9) ∧ w' = w) := R
  clear h
  go_enter Tryz.func7, Tryz.ntmps7
  go_wp2_with (go_at_call 21; go_fit R.out; rintro x w1 ⟨rfl, rfl⟩)
  go_ret
  exact ⟨rfl, rfl⟩
theorem arm_arg {w : World} {d bm : Nat} {S : St} (h : DiskAt w d bm S) (n m : Int) (hon : S.on = true) (hn : n < 0) :
    Calls Tryz.prog 7 #[.pointer (some ⟨d, 0, none⟩), .int .i64 n, .int .i64 m] w fun x w' => x = .returned (.int .i64 2) ∧ w' = w := by
  have R := refusal_nil h
  rw [hon] at R
  have R : Hid (Calls Tryz.prog 21 #[.pointer (some ⟨d, 0, none⟩), .slice none 0 0] w fun x w' => x = .returned (.int .i64 0) ∧ w' = w) := R
  clear h
  go_enter Tryz.func7, Tryz.ntmps7
  go_wp2_with (go_at_call 21; go_fit R.out; rintro x w1 ⟨rfl, rfl⟩)
  go_ret
  exact ⟨rfl, rfl⟩
theorem arm_ok {w : World} {d bm : Nat} {S : St} (h : DiskAt w d bm S) (n : Nat) (m : Int) (hon : S.on = true) :
    Calls Tryz.prog 7 #[.pointer (some ⟨d, 0, none⟩), .int .i64 (n : Int), .int .i64 m] w fun x w' => x = .returned (.int .i64 0) ∧ DiskAt w' d bm { S with left := n, keep := m } ∧ Moved w w' [d] [d] := by
  have R := refusal_nil h
  rw [hon] at R
  have R : Hid (Calls Tryz.prog 21 #[.pointer (some ⟨d, 0, none⟩), .slice none 0 0] w fun x w' => x = .returned (.int .i64 0) ∧ w' = w) := R
  have c5 := h.c5
  have c6 := h.c6
  have f5 := h.head.frozen 5
  have f6 := h.head.frozen 6
  have k1 := h.put (S' := { S with left := n }) rfl 5 (.int .i64 (n : Int)) rfl
  have HE : Hid (DiskAt ((w.setCell ⟨d, 5, none⟩ (.int .i64 (n : Int))).setCell ⟨d, 6, none⟩ (.int .i64 m)) d bm { S with left := n, keep := m }) := k1.put (S' := { S with left := n, keep := m }) rfl 6 (.int .i64 m) rfl
  clear h k1
  go_enter Tryz.func7, Tryz.ntmps7
  go_wp2_with (go_at_call 21; go_fit R.out; rintro x w1 ⟨rfl, rfl⟩)
  go_ret
  exact ⟨rfl, HE.out, (Moved.of_set d 5 _).trans (Moved.of_set d 6 _)⟩

/-- The plan strikes, and the operation does nothing. -/
theorem operate_cut {w : World} {d bm : Nat} {S : St} (h : DiskAt w d bm S) (hon : S.on = true) (hl : S.left = 1) (ho : S.ops ≤ 4611686018427387904) (hF : S.Fine) (hk : -9223372036854775808 ≤ S.keep ∧ S.keep ≤ 9223372036854775807) (v : Value) :
    Calls Tryz.prog 55 #[.pointer (some ⟨d, 0, none⟩), v, .func (.func 57) #[] #[]] w fun x w' => x = .returned (.int .i64 9) ∧ DiskAt w' d bm { S with on := false, ops := S.ops + 1, fs := S.fs.map fun e => loseE e (lineEndN S S.keep.toNat) } ∧ Moved w w' (foot d bm S.fs) (foot d bm S.fs) := by
  have c3 := h.c3
  have f3 := h.head.frozen 3
  have c5 := h.c5
  rw [hl] at c5
  have c6 := h.c6
  have h1 := h.put (S' := { S with ops := S.ops + 1 }) rfl 3 (.int .i64 ((S.ops + 1 : Nat) : Int)) rfl
  have hF1 : St.Fine { S with ops := S.ops + 1 } := ⟨hF.files, hF.room, hF.used, hF.dirty⟩
  have M : Moved w (w.setCell ⟨d, 3, none⟩ (.int .i64 ((S.ops + 1 : Nat) : Int))) (foot d bm S.fs) (foot d bm S.fs) := (Moved.of_set d 3 _).wider (fun i hi => .inl (by simp at hi; simp [foot, hi])) (fun i hi => .inl hi)
  have hc := crash_on h1 hon hF1 S.keep hk.1 hk.2
  have t1 := ops_text S.ops ho
  generalize hA : ((S.ops + 1 : Nat) : Int) = A at *
  have HC : Hid (Calls Tryz.prog 97 #[.pointer (some ⟨d, 0, none⟩), .int .i64 S.keep] (w.setCell ⟨d, 3, none⟩ (.int .i64 A)) fun x w' => x = .returned (.tuple #[]) ∧ DiskAt w' d bm { S with on := false, ops := S.ops + 1, fs := S.fs.map fun e => loseE e (lineEndN S S.keep.toNat) } ∧ Moved w w' (foot d bm S.fs) (foot d bm S.fs)) := hc.mono fun x w' hh => ⟨hh.1, hh.2.1, M.trans hh.2.2⟩
  have NO : Hid (∀ w, Calls Tryz.prog 57 #[] w fun e w' => e = .returned (.tuple #[]) ∧ w' = w) := nothing_any
  clear h h1 M hc ho hl hA hF hF1 hon
  go_enter Tryz.func55, Tryz.ntmps55
  go_wp2_with (first | (go_at_call 57; go_fit (NO.out _); rintro x w1 ⟨rfl, rfl⟩) | (go_at_call 97; go_fit HC.out; rintro x w2 ⟨rfl, hQ⟩))
  go_ret
  exact ⟨rfl, hQ⟩
end Go.Proofs.YtgkdodcidancpaaGreatDoor
namespace Go.Proofs.YtgkdodcidancpaaGreatDoor
open Go.RowKit Go.Maps Go.Sort Go.Shelf

theorem keys_datum (fs : List Ent) : strKeys (datum fs) = fs.map Ent.nm := by
  unfold strKeys datum
  simp
  intro a _
  rfl
theorem size_datum (fs : List Ent) : Maps.size (datum fs) = fs.length := by
  unfold Maps.size datum
  simp
set_option maxHeartbeats 1000000 in
theorem list_on {w : World} {d bm : Nat} {S : St} (h : DiskAt w d bm S) (hon : S.on = true) (hn : S.fs.length ≤ 1000000) :
    Calls Tryz.prog 17 #[.pointer (some ⟨d, 0, none⟩)] w fun e w' => ∃ (v : Value) (ss : List (List UInt8)), e = .returned v ∧ ss.Perm (S.fs.map Ent.nm) ∧
      w'.ownsRow w.heap.size 9 1 v ss.length ((ss.mergeSort (fun x y => decide (x ≤ y))).map encStr) ∧ Below w.heap.size w w' := by
  have R := refusal_nil h
  rw [hon] at R
  have R : Hid (CallsIn Fence.wide 5 Tryz.prog 21 #[.pointer (some ⟨d, 0, none⟩), .slice none 0 0] w fun x w' => x = .returned (.int .i64 0) ∧ w' = w) := callsIn_wide.2 R
  have c0 := h.c0
  have hown := h.map
  have hz := size_datum S.fs
  have hmax : Maps.size (datum S.fs) ≤ maxLen := by rw [hz]; unfold maxLen; omega
  have hbytes : Maps.size (datum S.fs) * 16 ≤ 140737488355328 := by rw [hz]; omega
  clear h hz hon hn
  refine (callsIn_wide (n := 6)).1 ?_
  have hfR : Fence.wide.fn 21 := trivial
  have hfK : Fence.wide.fn 46 := trivial
  have hfS : Fence.wide.fn 45 := trivial
  refine callsIn_of_wp Tryz.func17 rfl trivial ?_ rfl
  simp only [Tryz.ntmps17, List.size_toArray, List.length_cons, List.length_nil, Nat.reduceAdd, Nat.reduceSub, Array.replicate_succ, Array.replicate_zero, List.push_toArray, List.append_toArray, List.nil_append, List.cons_append]
  gi_wp2_with (first
    | (gi_at_call 21; refine R.out.mono ?_; rintro e w1 ⟨rfl, rfl⟩)
    | (gi_at_call 46; refine (Tryz.maps_Keys_46 _ _).mono ?_; rintro e w' ⟨rfl, rfl⟩)
    | (gi_at_call 45; refine (Tryz.slices_Sorted_keys_45_46 bm S.fs.length (datum S.fs) ptrElem w1 hown hmax hbytes).mono ?_; rintro e w' ⟨v, ss, rfl, hS, hrow, hnil, hb⟩))
  go_ret
  rw [keys_datum] at hS
  exact ⟨v, ss, rfl, hS, ownsRow_base_a hrow (by simp), ((Below.refl _ w1).alloc (Nat.le_refl _) _).trans (hb.mono (by simp))⟩
theorem list_off {w : World} {d bm : Nat} {S : St} (h : DiskAt w d bm S) (hon : S.on = false) :
    Calls Tryz.prog 17 #[.pointer (some ⟨d, 0, none⟩)] w fun e w' => e = .returned (.slice none 0 0) ∧ w' = w := by
  have R := refusal_nil h
  rw [hon] at R
  have R : Hid (Calls Tryz.prog 21 #[.pointer (some ⟨d, 0, none⟩), .slice none 0 0] w fun x w' => x = .returned (.int .i64 9) ∧ w' = w) := R
  clear h hon
  go_enter Tryz.func17, Tryz.ntmps17
  go_wp2_with (go_at_call 21; refine R.out.mono ?_; rintro x w1 ⟨rfl, rfl⟩)
  go_ret
  exact ⟨rfl, rfl⟩
end Go.Proofs.YtgkdodcidancpaaGreatDoor
