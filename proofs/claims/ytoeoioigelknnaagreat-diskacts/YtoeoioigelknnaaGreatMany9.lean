/-
  SEVERAL TEXTS IN ONE: DskAb, DskRemove.
-/
import Derived.Test.YtoeoioigelknnaaGreatMany8
import Derived.Test.YtoeoioigelknnaaGreatMany7
namespace Go.Proofs.YtoeoioigelknnaaGreat
open Go.RowKit Go.Maps

/-- A file, without its memory. -/
structure Sig where
  nm : List UInt8
  bs : List UInt8
  wr : Nat
  pl : List Nat
def sig (e : Ent) : Sig := ⟨e.nm, e.bs, e.wr, e.pl⟩
/-- A disk, without its memory. -/
structure Ab where
  sp : List Sig
  room : Nat
  on : Bool
  ops : Nat
  next : Nat
  left : Nat
  keep : Int
def Ab.st (A : Ab) (fs : List Ent) : St := ⟨fs, A.room, A.on, A.ops, A.next, A.left, A.keep⟩
/-- The disk lies in memory, in the blocks of the list. -/
def At (d : Nat) (A : Ab) (ft : List Nat) (w : World) : Prop := ∃ bm fs, DiskAt w d bm (A.st fs) ∧ fs.map sig = A.sp ∧ ft = foot d bm fs
theorem At.lt {d : Nat} {A : Ab} {ft : List Nat} {w : World} (h : At d A ft w) : ∀ i ∈ ft, i < w.heap.size := by
  obtain ⟨bm, fs, hD, _, rfl⟩ := h
  exact hD.lt
theorem At.moved {d : Nat} {A : Ab} {ft : List Nat} {w w' : World} {a b : List Nat} (h : At d A ft w) (hm : Moved w w' a b) (hd : ∀ i ∈ ft, i ∉ a) : At d A ft w' := by
  obtain ⟨bm, fs, hD, hs, rfl⟩ := h
  exact ⟨bm, fs, hD.moved hm hd, hs, rfl⟩
theorem At.grown {d : Nat} {A : Ab} {ft : List Nat} {w w' : World} (h : At d A ft w) (hg : w.grownBy w' none) : At d A ft w' := h.moved (Moved.none_of hg []) (by simp)
def findT (sp : List Sig) (nm : List UInt8) : Option Sig := sp.find? fun t => t.nm == nm
theorem find_sig {fs : List Ent} {sp : List Sig} (h : fs.map sig = sp) (nm : List UInt8) : (find fs nm).map sig = findT sp nm := by
  subst h
  unfold find findT
  rw [List.find?_map]
  rfl
theorem find_sig_some {fs : List Ent} {sp : List Sig} (h : fs.map sig = sp) {nm : List UInt8} {t : Sig} (ht : findT sp nm = some t) : ∃ e, find fs nm = some e ∧ sig e = t := by
  rw [← find_sig h] at ht
  cases hf : find fs nm with
  | none => rw [hf] at ht; cases ht
  | some e => rw [hf] at ht; exact ⟨e, rfl, Option.some.inj ht⟩
theorem find_sig_none {fs : List Ent} {sp : List Sig} (h : fs.map sig = sp) {nm : List UInt8} (ht : findT sp nm = none) : find fs nm = none := by
  rw [← find_sig h] at ht
  cases hf : find fs nm with
  | none => rfl
  | some e => rw [hf] at ht; cases ht
def upd (sp : List Sig) (nm : List UInt8) (t' : Sig) : List Sig := sp.map fun t => if t.nm == nm then t' else t
theorem swap_sig {w : World} {d bm : Nat} {S : St} (h : DiskAt w d bm S) {e e' : Ent} (he : e ∈ S.fs) : (swap S.fs e e').map sig = upd (S.fs.map sig) e.nm (sig e') := by
  have hp := h.names
  have hn := (nodup_d h.apart).2.2.2
  unfold swap upd
  rw [List.map_map, List.map_map]
  apply List.map_congr_left
  intro x hx
  simp only [Function.comp]
  by_cases hxe : x = e
  · subst hxe
    have : ((sig x).nm == x.nm) = true := by simp [sig]
    simp [this]
  · have h1 : x.b ≠ e.b := fun hb => hxe (feet_same hn hx he (i := e.b) (hb ▸ b_mem) b_mem)
    have h2 : ((sig x).nm == e.nm) = false := by
      rw [beq_eq_false_iff_ne]
      intro hnm
      have a1 := find_of_mem hp hx
      have a2 := find_of_mem hp he
      have hnm' : x.nm = e.nm := hnm
      rw [hnm', a2] at a1
      exact hxe (Option.some.inj a1).symm
    rw [if_neg h1, h2]
    rfl
def insT (t : Sig) : List Sig → List Sig
  | [] => [t]
  | y :: r => if bytesBefore t.nm y.nm then t :: y :: r else y :: insT t r
def dropT (sp : List Sig) (nm : List UInt8) : List Sig := sp.filter fun x => !(x.nm == nm)
def putT (sp : List Sig) (t : Sig) : List Sig := insT t (dropT sp t.nm)
theorem ins_sig (e : Ent) (fs : List Ent) : (insE e fs).map sig = insT (sig e) (fs.map sig) := by
  induction fs with
  | nil => rfl
  | cons y r ih =>
    simp only [insE, List.map_cons, insT]
    have : bytesBefore (sig e).nm (sig y).nm = bytesBefore e.nm y.nm := rfl
    rw [this, ← ih]
    split <;> rfl
theorem drop_sig (fs : List Ent) (nm : List UInt8) : (dropE fs nm).map sig = dropT (fs.map sig) nm := by
  unfold dropE dropT
  rw [List.filter_map]
  rfl
theorem put_sig (fs : List Ent) (e : Ent) : (putE fs e).map sig = putT (fs.map sig) (sig e) := by
  unfold putE putT
  rw [ins_sig, drop_sig]
  rfl
def usedT (sp : List Sig) : Nat := (sp.map fun t => 1 + (t.bs.length + 15) / 16).sum
def dirtyT (sp : List Sig) : Nat := (sp.map fun t => t.pl.length).sum
theorem used_sig (fs : List Ent) : sumUsed fs = usedT (fs.map sig) := by unfold sumUsed usedT; rw [List.map_map]; rfl
theorem dirty_sig (fs : List Ent) : sumDirty fs = dirtyT (fs.map sig) := by unfold sumDirty dirtyT; rw [List.map_map]; rfl
def keptT (t : Sig) (x : Nat) : Nat := t.pl.countP (· < x)
def lostT (t : Sig) (x : Nat) : Nat := if keptT t x = 0 then t.wr else min t.bs.length ((t.wr / 16 + keptT t x) * 16)
def loseT (t : Sig) (x : Nat) : Sig := ⟨t.nm, t.bs.take (lostT t x), lostT t x, []⟩
theorem lose_sig (e : Ent) (x : Nat) : sig (loseE e x) = loseT (sig e) x := rfl
def linesT (sp : List Sig) : List Nat := sp.flatMap Sig.pl
def endT (A : Ab) (keep : Nat) : Nat := if (linesT A.sp).length ≤ keep then A.next else ((linesT A.sp).mergeSort (fun a b => decide (a ≤ b))).getD keep 0
theorem lines_sig (fs : List Ent) : linesOf fs = linesT (fs.map sig) := by unfold linesOf linesT; rw [List.flatMap_map]; rfl
/-- What a disk must be like. -/
structure Ab.Fine (A : Ab) : Prop where
  wr : ∀ t ∈ A.sp, t.wr ≤ t.bs.length
  len : ∀ t ∈ A.sp, t.bs.length ≤ 1099511627776
  rise : ∀ t ∈ A.sp, t.pl.Pairwise (· < ·)
  ahead : ∀ t ∈ A.sp, ∀ q ∈ t.pl, q < A.next
  room : A.room ≤ 1073741824
  used : usedT A.sp ≤ 1099511627776
  dirty : dirtyT A.sp ≤ 1099511627776
theorem Ab.Fine.pln {A : Ab} (h : A.Fine) {t : Sig} (ht : t ∈ A.sp) : t.pl.length ≤ 1099511627776 := by
  have := h.dirty
  have h2 : t.pl.length ≤ dirtyT A.sp := List.single_le_sum_nat (List.mem_map.2 ⟨t, ht, rfl⟩)
  omega
theorem Ab.Fine.st {A : Ab} (h : A.Fine) {fs : List Ent} (hs : fs.map sig = A.sp) : (A.st fs).Fine := by
  have hm : ∀ e ∈ fs, sig e ∈ A.sp := fun e he => hs ▸ List.mem_map.2 ⟨e, he, rfl⟩
  refine ⟨fun e he => ⟨h.wr _ (hm e he), h.len _ (hm e he), h.pln (hm e he), h.rise _ (hm e he), h.ahead _ (hm e he)⟩, h.room, ?_, ?_⟩
  · show sumUsed fs ≤ _
    rw [used_sig, hs]
    exact h.used
  · show sumDirty fs ≤ _
    rw [dirty_sig, hs]
    exact h.dirty

/-! ### the calls -/
section
variable {d : Nat} {A : Ab} {ft : List Nat} {w : World} (h : At d A ft w)
include h
theorem ab_dirty (hF : A.Fine) (hon : A.on = true) : Calls Tryz.prog 14 #[.pointer (some ⟨d, 0, none⟩)] w fun x w' => x = .returned (.int .i64 (dirtyT A.sp : Int)) ∧ w.grownBy w' none := by
  obtain ⟨bm, fs, hD, hs, rfl⟩ := h
  have := dirty_any hD hon (hF.st hs).dirty
  have e : sumDirty (A.st fs).fs = dirtyT A.sp := by show sumDirty fs = _; rw [dirty_sig, hs]
  rwa [e] at this
theorem ab_used (hF : A.Fine) (hon : A.on = true) : Calls Tryz.prog 12 #[.pointer (some ⟨d, 0, none⟩)] w fun x w' => x = .returned (.int .i64 (usedT A.sp : Int)) ∧ w.grownBy w' none := by
  obtain ⟨bm, fs, hD, hs, rfl⟩ := h
  have := used_any hD hon (hF.st hs).used
  have e : sumUsed (A.st fs).fs = usedT A.sp := by show sumUsed fs = _; rw [used_sig, hs]
  rwa [e] at this
theorem ab_start : Calls Tryz.prog 22 #[.pointer (some ⟨d, 0, none⟩)] w fun x w' => x = .returned (.tuple #[]) ∧ At d { A with on := true, left := 0 } ft w' ∧ Moved w w' ft ft := by
  obtain ⟨bm, fs, hD, hs, rfl⟩ := h
  refine (start_any hD).mono ?_
  rintro x w' ⟨rfl, h1, h2⟩
  exact ⟨rfl, ⟨bm, fs, h1, hs, rfl⟩, h2.wider (fun i hi => .inl (by simp at hi; simp [foot, hi])) (fun i hi => .inl hi)⟩
theorem ab_crash (hon : A.on = true) (hF : A.Fine) (keep : Int) (hk1 : -9223372036854775808 ≤ keep) (hk2 : keep ≤ 9223372036854775807) : Calls Tryz.prog 21 #[.pointer (some ⟨d, 0, none⟩), .int .i64 keep] w fun x w' => x = .returned (.tuple #[]) ∧ ∃ ft', At d { A with on := false, sp := A.sp.map fun t => loseT t (endT A keep.toNat) } ft' w' ∧ Moved w w' ft ft' := by
  obtain ⟨bm, fs, hD, hs, rfl⟩ := h
  refine (crash_on hD hon (hF.st hs) keep hk1 hk2).mono ?_
  rintro x w' ⟨rfl, h1, h2⟩
  have he : lineEndN (A.st fs) keep.toNat = endT A keep.toNat := by
    unfold lineEndN endT
    show (if (linesOf fs).length ≤ _ then _ else ((linesOf fs).mergeSort _).getD _ _) = _
    rw [lines_sig, hs]
    rfl
  rw [he] at h1
  refine ⟨rfl, _, ⟨bm, _, h1, ?_, rfl⟩, h2.sub fun i hi => ?_⟩
  · show (fs.map fun e => loseE e (endT A keep.toNat)).map sig = _
    rw [List.map_map, ← hs, List.map_map]
    rfl
  · simp only [foot, List.mem_cons] at hi ⊢
    refine hi.imp id fun h => h.imp id fun h => ?_
    obtain ⟨y, hy, hi⟩ := feet_mem.1 h
    obtain ⟨e, he, rfl⟩ := List.mem_map.1 hy
    exact feet_mem.2 ⟨e, he, lose_foot hi⟩
variable (s : ByteArray) (hs : s.size ≤ maxLen)
include hs
theorem ab_read (hc : refuse A.on [s] = 0) {t : Sig} (ht : findT A.sp (nameOf s) = some t) (hl : t.bs.length ≤ 1099511627776) : Calls Tryz.prog 23 #[.pointer (some ⟨d, 0, none⟩), .string s] w fun x w' => ∃ v, x = .returned (.tuple #[v, .int .i64 0]) ∧ w'.ownsRow w.heap.size 5 1 v t.bs.length (B8 t.bs) ∧ w.grownBy w' none := by
  obtain ⟨bm, fs, hD, hss, rfl⟩ := h
  obtain ⟨e, he, rfl⟩ := find_sig_some hss ht
  exact read_ok hD s hs hc he hl
theorem ab_sync (hc : refuse A.on [s] = 0) {t : Sig} (ht : findT A.sp (nameOf s) = some t) (hl : A.left ≠ 1) (ho : A.ops ≤ 4611686018427387904) (hlm : A.left ≤ 9223372036854775807) : Calls Tryz.prog 20 #[.pointer (some ⟨d, 0, none⟩), .string s] w fun x w' => x = .returned (.int .i64 0) ∧ ∃ ft', At d { A with ops := A.ops + 1, left := A.left - 1, sp := upd A.sp (nameOf s) ⟨nameOf s, t.bs, t.bs.length, []⟩ } ft' w' ∧ Moved w w' ft ft' := by
  obtain ⟨bm, fs, hD, hss, rfl⟩ := h
  obtain ⟨e, he, rfl⟩ := find_sig_some hss ht
  refine (sync_ok hD s hs hc he hl ho hlm).mono ?_
  rintro x w' ⟨rfl, h1, h2⟩
  obtain ⟨hm, hn⟩ := find_some he
  refine ⟨rfl, _, ⟨bm, _, h1, ?_, rfl⟩, h2⟩
  have hsw : (swap fs e (endE e e.bs.length)).map sig = upd (fs.map sig) e.nm (sig (endE e e.bs.length)) := swap_sig (S := A.st fs) hD hm
  show (swap fs e (endE e e.bs.length)).map sig = _
  rw [hsw, hss, hn]
  have : sig (endE e e.bs.length) = ⟨nameOf s, (sig e).bs, (sig e).bs.length, []⟩ := by simp [sig, endE, hn]
  rw [this]
theorem ab_create (hc : refuse A.on [s] = 0) (ht : findT A.sp (nameOf s) = none) (hlen : A.sp.length < 48) (hu : usedT A.sp < A.room) (hr : A.room ≤ 1073741824) (hl : A.left ≠ 1) (ho : A.ops ≤ 4611686018427387904) (hlm : A.left ≤ 9223372036854775807) : Calls Tryz.prog 18 #[.pointer (some ⟨d, 0, none⟩), .string s] w fun x w' => x = .returned (.int .i64 0) ∧ ∃ ft', At d { A with ops := A.ops + 1, left := A.left - 1, sp := putT A.sp ⟨nameOf s, [], 0, []⟩ } ft' w' ∧ Moved w w' ft ft' := by
  obtain ⟨bm, fs, hD, hss, rfl⟩ := h
  have hlen' : fs.length < 48 := by rw [← hss, List.length_map] at hlen; exact hlen
  have hu' : sumUsed fs < A.room := by rw [used_sig, hss]; exact hu
  refine (create_new hD s hs hc (find_sig_none hss ht) hlen' hu' hr hl ho hlm).mono ?_
  rintro x w' ⟨rfl, b, h1, h2⟩
  refine ⟨rfl, _, ⟨bm, _, h1, ?_, rfl⟩, h2⟩
  show (putE fs _).map sig = _
  rw [put_sig, hss]
  rfl
end
def growT (t : Sig) (l : List UInt8) : Nat := if l = [] then 0 else growN (t.bs.length + l.length) t.wr t.pl.length
def lackT (t : Sig) (l : List UInt8) : Int := secI ((t.bs.length : Int) + (l.length : Int)) - secI (t.bs.length : Int)
def appT (A : Ab) (nm : List UInt8) (t : Sig) (l : List UInt8) : Ab := { A with ops := A.ops + 1, left := A.left - 1, next := A.next + growT t l, sp := upd A.sp nm ⟨nm, t.bs ++ l, t.wr, t.pl ++ List.range' A.next (growT t l)⟩ }
theorem ab_append {d : Nat} {A : Ab} {ft : List Nat} {w : World} (h : At d A ft w) (s : ByteArray) (hs : s.size ≤ maxLen) (ao : Option Addr) (l : List UInt8) (c : Nat) (hb : Sees w ao l) (hne : ∀ a, ao = some a → 0 < l.length → a.block ∉ ft) (hc : refuse A.on [s] = 0) {t : Sig} (ht : findT A.sp (nameOf s) = some t) (hl : A.left ≠ 1) (ho : A.ops ≤ 4611686018427387904) (hlm : A.left ≤ 9223372036854775807) (hF : A.Fine) (hlen : t.bs.length + l.length ≤ 1099511627776) (hnx : A.next ≤ 4611686018427387904) (hroom : lackT t l ≤ (A.room : Int) - (usedT A.sp : Int)) :
    Calls Tryz.prog 19 #[.pointer (some ⟨d, 0, none⟩), .string s, .slice ao l.length c] w fun x w' => x = .returned (.int .i64 0) ∧ ∃ ft', At d (appT A (nameOf s) t l) ft' w' ∧ Moved w w' ft ft' := by
  obtain ⟨bm, fs, hD, hss, rfl⟩ := h
  obtain ⟨e, he, rfl⟩ := find_sig_some hss ht
  obtain ⟨hm, hn⟩ := find_some he
  have hme : sig e ∈ A.sp := hss ▸ List.mem_map.2 ⟨e, hm, rfl⟩
  have hu : sumUsed fs = usedT A.sp := by rw [used_sig, hss]
  have hfull : decide ((A.room : Int) - (sumUsed fs : Int) < secI ((e.bs.length : Int) + (l.length : Int)) - secI (e.bs.length : Int)) = false := by
    rw [hu]
    exact decide_eq_false (by unfold lackT at hroom; show ¬ _; exact Int.not_lt.2 hroom)
  refine (append_ok hD s hs ao l c hb hc he hne hl ho hlm hlen hnx (hF.pln hme) (Nat.le_trans (hF.wr _ hme) (hF.len _ hme)) hF.room (hF.st hss).used false hfull).mono ?_
  rintro x w' ⟨rfl, e', a1, a2, a3, a4, a5, a6, a7⟩
  refine ⟨rfl, _, ⟨bm, _, a6, ?_, rfl⟩, a7⟩
  have hsw : (swap fs e e').map sig = upd (fs.map sig) e.nm (sig e') := swap_sig (S := A.st fs) hD hm
  show (swap fs e e').map sig = _
  rw [hsw, hss, hn]
  have : sig e' = ⟨nameOf s, (sig e).bs ++ l, (sig e).wr, (sig e).pl ++ List.range' A.next (growT (sig e) l)⟩ := by
    unfold sig
    rw [a1, a3, a4, a5, hn]
    rfl
  rw [this]
  rfl
def newA (room : Nat) : Ab := ⟨[], room, true, 0, 0, 0, 0⟩
theorem ab_new (room : Nat) (hr : room ≤ 1073741824) (w : World) : Calls Tryz.prog 4 #[.int .i64 (room : Int)] w fun x w' => ∃ d ft, x = .returned (.pointer (some ⟨d, 0, none⟩)) ∧ At d (newA room) ft w' ∧ w.grownBy w' none ∧ ∀ i ∈ ft, w.heap.size ≤ i := by
  refine (new_ok room hr w).mono ?_
  rintro x w1 ⟨d, bm, rfl, hD, hg, h1, h2⟩
  refine ⟨d, _, rfl, ⟨bm, [], hD, rfl, rfl⟩, hg, fun i hi => ?_⟩
  simp [foot, feet] at hi
  rcases hi with rfl | rfl <;> assumption
end Go.Proofs.YtoeoioigelknnaaGreat
namespace Go.Proofs.YtoeoioigelknnaaGreat
open Go.RowKit Go.Maps

theorem remove_refused {w : World} {d bm : Nat} {S : St} (h : DiskAt w d bm S) (s : ByteArray) (hs : s.size ≤ maxLen) {c : Int} (hc : refuse S.on [s] = c) (hc0 : c ≠ 0) :
    Calls Tryz.prog 32 #[.pointer (some ⟨d, 0, none⟩), .string s] w fun x w' => x = .returned (.int .i64 c) ∧ w.grownBy w' none := by
  have F : Hid (Calls Tryz.prog 54 #[.pointer (some ⟨d, 0, none⟩), .string s] ((w.alloc (.cells #[.pointer (some ⟨d, 0, none⟩)] 23)).alloc (.cells #[.string s] 9)) fun x w' => x = .returned (.tuple #[.pointer none, .int .i64 c]) ∧ ((w.alloc (.cells #[.pointer (some ⟨d, 0, none⟩)] 23)).alloc (.cells #[.string s] 9)).grownBy w' none) := find_refused ((h.alloc _).alloc _) s hs hc hc0
  have hcb : (c == 0) = false := by rw [beq_eq_false_iff_ne]; exact hc0
  clear h hs hc
  go_enter Tryz.func32, Tryz.ntmps32
  go_wp2_with (go_at_call 54; go_fit F.out; rintro x w1 ⟨rfl, hg⟩)
  go_ret
  exact ⟨rfl, ((World.grownBy_alloc _ _ none).andThen (World.grownBy_alloc _ _ none) (fun j hj => by cases hj)).andThen hg (fun j hj => by cases hj)⟩
theorem remove_none {w : World} {d bm : Nat} {S : St} (h : DiskAt w d bm S) (s : ByteArray) (hs : s.size ≤ maxLen) (hc : refuse S.on [s] = 0) (hf : find S.fs (nameOf s) = none) :
    Calls Tryz.prog 32 #[.pointer (some ⟨d, 0, none⟩), .string s] w fun x w' => x = .returned (.int .i64 4) ∧ w.grownBy w' none := by
  have F : Hid (Calls Tryz.prog 54 #[.pointer (some ⟨d, 0, none⟩), .string s] ((w.alloc (.cells #[.pointer (some ⟨d, 0, none⟩)] 23)).alloc (.cells #[.string s] 9)) fun x w' => x = .returned (.tuple #[.pointer none, .int .i64 4]) ∧ ((w.alloc (.cells #[.pointer (some ⟨d, 0, none⟩)] 23)).alloc (.cells #[.string s] 9)).grownBy w' none) := find_none ((h.alloc _).alloc _) s hs hc hf
  clear h hs hc hf
  go_enter Tryz.func32, Tryz.ntmps32
  go_wp2_with (go_at_call 54; go_fit F.out; rintro x w1 ⟨rfl, hg⟩)
  go_ret
  exact ⟨rfl, ((World.grownBy_alloc _ _ none).andThen (World.grownBy_alloc _ _ none) (fun j hj => by cases hj)).andThen hg (fun j hj => by cases hj)⟩
theorem remove_ok {w : World} {d bm : Nat} {S : St} (h : DiskAt w d bm S) (s : ByteArray) (hs : s.size ≤ maxLen) (hc : refuse S.on [s] = 0) {e : Ent} (hf : find S.fs (nameOf s) = some e) (hl : S.left ≠ 1) (ho : S.ops ≤ 4611686018427387904) (hlm : S.left ≤ 9223372036854775807) :
    Calls Tryz.prog 32 #[.pointer (some ⟨d, 0, none⟩), .string s] w fun x w' => x = .returned (.int .i64 0) ∧ DiskAt w' d bm { S with ops := S.ops + 1, left := S.left - 1, fs := dropE S.fs (nameOf s) } ∧ Moved w w' (foot d bm S.fs) (foot d bm (dropE S.fs (nameOf s))) := by
  have hmf : ∀ (fn : Fn) (first cap : Array Value) (w : World), (Instr.makeFunc fn first cap).run Tryz.prog w = .ok (.func fn first cap) w := fun _ _ _ _ => rfl
  have hB := Boxed2.start h s
  have F : Hid (Calls Tryz.prog 54 #[.pointer (some ⟨d, 0, none⟩), .string s] ((w.alloc (.cells #[.pointer (some ⟨d, 0, none⟩)] 23)).alloc (.cells #[.string s] 9)) fun x w' => x = .returned (.tuple #[.pointer (some ⟨e.b, 0, none⟩), .int .i64 0]) ∧ Boxed2 w d bm S s w') := (find_ok hB.disk s hs hc hf).mono fun x w' hh => ⟨hh.1, hB.grown hh.2⟩
  have hdl := h.head.lt
  have O : Hid (∀ w1, Boxed2 w d bm S s w1 → ∀ v, Calls Tryz.prog 51 #[.pointer (some ⟨d, 0, none⟩), .func (.func 74) #[] #[.pointer (some ⟨w.heap.size, 0, none⟩), .pointer (some ⟨w.heap.size + 1, 0, none⟩)], v] w1 fun x w' => x = .returned (.int .i64 0) ∧ DiskAt w' d bm { S with ops := S.ops + 1, left := S.left - 1, fs := dropE S.fs (nameOf s) } ∧ Moved w w' (foot d bm S.fs) (foot d bm (dropE S.fs (nameOf s)))) := by
    intro w1 hB1 v
    refine operateRemove hB1.disk hl ho hlm w.heap.size (w.heap.size + 1) v _ fun w2 hD2 hM2 => ?_
    have hk : ∀ i, i < w1.heap.size → i ≠ d → w2.heap[i]? = w1.heap[i]? := fun i hi hne => hM2.kept i hi (by simpa using hne)
    have hz := hB1.size
    have e1 : w2.cell? ⟨w.heap.size, 0, none⟩ = some (.pointer (some ⟨d, 0, none⟩)) := (World.cell?_of_block (a := ⟨w.heap.size, 0, none⟩) (hk w.heap.size (by omega) (by omega))).trans hB1.k1
    have e2 : w2.cell? ⟨w.heap.size + 1, 0, none⟩ = some (.string s) := (World.cell?_of_block (a := ⟨w.heap.size + 1, 0, none⟩) (hk (w.heap.size + 1) (by omega) (by omega))).trans hB1.k2
    refine (remove1_any hD2 e1 e2 hs).mono ?_
    rintro x w3 ⟨rfl, hD3, hM3⟩
    exact ⟨rfl, hD3, (hB1.moved.trans (hM2.wider (fun i hi => .inl (by simp at hi; simp [foot, hi])) (fun i hi => .inl hi))).trans hM3⟩
  clear h hs hc hf hB
  go_enter Tryz.func32, Tryz.ntmps32
  go_wp2_with (first | (go_at_call 54; go_fit F.out; rintro x w1 ⟨rfl, hB1⟩; have k1 := hB1.k1) | (go_at_call 51; go_fit (O.out _ hB1 _); rintro x w2 ⟨rfl, hE⟩))
  go_ret
  exact ⟨rfl, hE⟩
end Go.Proofs.YtoeoioigelknnaaGreat
