/-
  SEVERAL TEXTS IN ONE: DskRef5, DskRef6, DskRefP, DskTie.
-/
import Derived.Test.YtgkdodcidancpaaGreatDoorMany25
import Derived.Test.YtgkdodcidancpaaGreatDoorMany19
import Derived.Test.YtgkdodcidancpaaGreatDoorMany7
namespace Go.Proofs.YtgkdodcidancpaaGreatDoor
open Go.RowKit Go.Maps Go.WideAt Go.WideShapes

def RF.sig (f : RF) : Sig := ⟨f.nm, f.bs, f.wr, []⟩
/-- The document's disk: its files by names, its line, its room, is it off, its operations, what is planned. -/
structure RA where
  L : List Sig
  line : List (List UInt8 × Nat)
  room : Nat
  off : Bool
  ops : Nat
  fail : Nat
  keep : Int
def RM.abs (R : RM) : RA := ⟨R.fs.map RF.sig, R.line, R.room, R.off, R.ops, R.fail, R.keep⟩
/-- Each file's slice has room for its bytes. -/
def CapOk (fs : List RF) : Prop := ∀ f ∈ fs, f.bs.length ≤ f.cap
def RAt (r : Nat) (Q : RA) (fr : List Nat) (w : World) : Prop := ∃ R, RefAt w r R ∧ R.abs = Q ∧ fr = R.foot r ∧ CapOk R.fs
theorem RAt.lt {r : Nat} {Q : RA} {fr : List Nat} {w : World} (h : RAt r Q fr w) : ∀ i ∈ fr, i < w.heap.size := by
  obtain ⟨R, h1, _, rfl, _⟩ := h
  exact h1.lt
theorem RAt.moved {r : Nat} {Q : RA} {fr : List Nat} {w w' : World} {a b : List Nat} (h : RAt r Q fr w) (hm : Moved w w' a b) (hd : ∀ i ∈ fr, i ∉ a) : RAt r Q fr w' := by
  obtain ⟨R, h1, h2, rfl, h4⟩ := h
  exact ⟨R, h1.moved hm hd, h2, rfl, h4⟩
theorem RAt.grown {r : Nat} {Q : RA} {fr : List Nat} {w w' : World} (h : RAt r Q fr w) (hg : w.grownBy w' none) : RAt r Q fr w' := h.moved (Moved.none_of hg []) (by simp)
/-- What the document's disk must be like. -/
structure RA.Ok (Q : RA) : Prop where
  few : Q.L.length ≤ 1000000
  line : Q.line.length ≤ 1000000
  used : usedT Q.L ≤ 1099511627776
  sorted : Q.L.Pairwise (fun x y => bytesBefore x.nm y.nm = true)
  room : Q.room ≤ 1073741824
  ops : Q.ops ≤ 4611686018427387904
  fail : Q.fail ≤ 9223372036854775807
theorem usedF_sig (fs : List RF) : usedF fs = usedT (fs.map RF.sig) := by
  unfold usedF usedT
  rw [List.map_map]
  rfl
theorem len_sig (fs : List RF) : (fs.map RF.sig).length = fs.length := List.length_map _
theorem ins_sigR (f : RF) (fs : List RF) : (insR f fs).map RF.sig = insT f.sig (fs.map RF.sig) := by
  induction fs with
  | nil => rfl
  | cons y r ih =>
    simp only [insR, List.map_cons, insT]
    have : bytesBefore f.sig.nm y.sig.nm = bytesBefore f.nm y.nm := rfl
    rw [this, ← ih]
    split <;> rfl
theorem drop_sigR (fs : List RF) (nm : List UInt8) : (fs.filter (fun p => !(p.nm == nm))).map RF.sig = dropT (fs.map RF.sig) nm := by
  unfold dropT
  rw [List.filter_map]
  rfl
theorem sorted_sig {fs : List RF} (h : (fs.map RF.sig).Pairwise (fun x y => bytesBefore x.nm y.nm = true)) : fs.Pairwise (fun x y => bytesBefore x.nm y.nm = true) := by
  rw [List.pairwise_map] at h
  exact h
/-- A file's place, and the file. -/
theorem at_cases (fs : List RF) (nm : List UInt8) : (atI fs nm = -1 ∧ findT (fs.map RF.sig) nm = none) ∨ ∃ (i : Nat) (f : RF), atI fs nm = (i : Int) ∧ fs[i]? = some f ∧ f.nm = nm ∧ findT (fs.map RF.sig) nm = some f.sig := by
  have hm : findT (fs.map RF.sig) nm = (fs.find? fun f => f.nm == nm).map RF.sig := by
    unfold findT
    rw [List.find?_map]
    rfl
  cases hf : fs.findIdx? (fun f => f.nm == nm) with
  | none =>
    left
    have h0 : ∀ f ∈ fs, f.nm ≠ nm := fun f hf' => by
      have := List.findIdx?_eq_none_iff.1 hf f hf'
      simpa using this
    refine ⟨atI_none h0, ?_⟩
    rw [hm, List.find?_eq_none.2 (fun f hf' => by simpa using h0 f hf')]
    rfl
  | some i =>
    right
    obtain ⟨hi, h1, h2⟩ := List.findIdx?_eq_some_iff_getElem.1 hf
    have h1' : fs[i].nm = nm := by simpa using h1
    refine ⟨i, fs[i], ?_, List.getElem?_eq_getElem hi, h1', ?_⟩
    · unfold atI
      rw [hf]
    · have hfind : fs.find? (fun f => f.nm == nm) = some fs[i] := List.find?_eq_some_iff_getElem.2 ⟨h1, i, hi, rfl, fun j hj => by simpa using h2 j hj⟩
      rw [hm, hfind]
      rfl
def newR (room : Nat) : RA := ⟨[], [], room, false, 0, 0, 0⟩
/-- A call that answered a number. -/
def ROut (r : Nat) (fr : List Nat) (w : World) (q : Int × RA) (x : Ending) (w' : World) : Prop := x = .returned (.int .i64 q.1) ∧ ∃ fr', RAt r q.2 fr' w' ∧ Moved w w' fr fr'
theorem ra_new (room : Nat) (hr : room ≤ 1073741824) (w : World) : Calls Tryz.prog 5 #[.int .i64 (room : Int)] w fun x w' => ∃ r fr, x = .returned (.pointer (some ⟨r, 0, none⟩)) ∧ RAt r (newR room) fr w' ∧ w.grownBy w' none ∧ ∀ i ∈ fr, w.heap.size ≤ i := by
  have hz : (room : Int) ≤ 1073741824 := by omega
  have h0 : ¬ (room : Int) < 0 := by omega
  have HF : Hid (∀ w : World, RefAt (w.alloc (.cells #[.int .i64 (room : Int), .slice none 0 0, .slice none 0 0, .bool false, .int .i64 0, .int .i64 0, .int .i64 0] 50)) w.heap.size ⟨.slice none 0 0, .slice none 0 0, [], [], room, false, 0, 0, 0⟩) := fun w => ⟨Blk.new w _ _, World.ownsRow_nil _ _ _ _, World.ownsRow_nil _ _ _ _, (fun f hf => by cases hf), (fun f hf => by cases hf), (fun f hf => by cases hf), (fun f hf => by cases hf), (by simp [Value.ownBlock]), (by simp [Value.ownBlock]), (fun g hg => by cases hg)⟩
  go_enter Tryz.func5, Tryz.ntmps5
  go_wp2_with fail
  go_ret
  refine ⟨w.heap.size, rfl, RM.foot w.heap.size ⟨.slice none 0 0, .slice none 0 0, [], [], room, false, 0, 0, 0⟩, ⟨_, HF.out w, rfl, rfl, fun f hf => by cases hf⟩, World.grownBy_alloc _ _ _, fun i hi => ?_⟩
  simp [RM.foot, Value.ownBlock] at hi
  omega
theorem ra_new_nil (room : Int) (hr : room < 0 ∨ 1073741824 < room) (w : World) : Calls Tryz.prog 5 #[.int .i64 room] w fun x w' => x = .returned (.pointer none) ∧ w' = w := by
  rcases hr with h | h
  · go_enter Tryz.func5, Tryz.ntmps5
    go_wp2_with fail
    go_ret
    exact ⟨rfl, rfl⟩
  · have h0 : ¬ room < 0 := by omega
    go_enter Tryz.func5, Tryz.ntmps5
    go_wp2_with fail
    go_ret
    exact ⟨rfl, rfl⟩
section
variable {r : Nat} {Q : RA} {fr : List Nat} {w : World} (h : RAt r Q fr w)
include h
def armQ (Q : RA) (n m : Int) : Int × RA := if Q.off then (9, Q) else if n < 0 then (2, Q) else (0, { Q with fail := n.toNat, keep := m })
theorem ra_Arm (n m : Int) : Calls Tryz.prog 8 #[.pointer (some ⟨r, 0, none⟩), .int .i64 n, .int .i64 m] w (ROut r fr w (armQ Q n m)) := by
  obtain ⟨R, h1, rfl, rfl, hcap⟩ := h
  refine (ref_Arm h1 n m).mono fun x w' hh => ?_
  have e : armQ R.abs n m = ((armR R n m).1, (armR R n m).2.abs) := by
    unfold armQ armR
    show (if R.off then _ else _) = _
    split
    · rfl
    · split <;> rfl
  rw [e]
  exact ⟨hh.1, _, ⟨_, hh.2.1, rfl, rfl, by
    unfold armR
    split
    · exact hcap
    · split <;> exact hcap⟩, hh.2.2⟩
end
def knownQ (Q : RA) (s : ByteArray) : Int := if Q.off then 9 else if goodB (nameOf s) then (match findT Q.L (nameOf s) with | none => 4 | some _ => 0) else 3
set_option maxHeartbeats 800000 in
theorem ref_known {w : World} {r : Nat} {R : RM} (h : RefAt w r R) (hn : R.fs.length ≤ 1000000) (s : ByteArray) (hs : s.size ≤ maxLen) : Calls Tryz.prog 81 #[.pointer (some ⟨r, 0, none⟩), .string s] w fun x w' => x = .returned (.int .i64 (knownQ R.abs s)) ∧ w' = w := by
  have G : Hid (Calls Tryz.prog 71 #[.string s] w fun e w' => e = .returned (.bool (goodB (nameOf s))) ∧ w' = w) := refGood_any s w hs
  have A : Hid (Calls Tryz.prog 72 #[.pointer (some ⟨r, 0, none⟩), .string s] w fun x w' => x = .returned (.int .i64 (atI R.fs (nameOf s))) ∧ w' = w) := ref_at h hn s
  have c3 := h.c3
  have hc := at_cases R.fs (nameOf s)
  have HK : Hid (knownQ R.abs s = if R.off then 9 else if goodB (nameOf s) then (match findT (R.fs.map RF.sig) (nameOf s) with | none => 4 | some _ => 0) else 3) := rfl
  generalize knownQ R.abs s = kq at *
  clear h
  cases hoff : R.off
  · rw [hoff] at c3 HK
    cases hgd : goodB (nameOf s)
    · rw [hgd] at G HK
      go_enter Tryz.func81, Tryz.ntmps81
      go_wp2_with (go_at_call 71; go_fit G.out; rintro x w1 ⟨rfl, rfl⟩)
      go_ret
      exact ⟨ret_int HK.out.symm, rfl⟩
    · rw [hgd] at G HK
      rcases hc with ⟨e1, e2⟩ | ⟨i, f, e1, _, _, e2⟩
      · rw [e1] at A
        rw [e2] at HK
        clear e1 e2
        go_enter Tryz.func81, Tryz.ntmps81
        go_wp2_with (first | (go_at_call 71; go_fit G.out; rintro x w1 ⟨rfl, rfl⟩) | (go_at_call 72; go_fit A.out; rintro x w2 ⟨rfl, rfl⟩))
        go_ret
        exact ⟨ret_int HK.out.symm, rfl⟩
      · rw [e1] at A
        rw [e2] at HK
        clear e1 e2
        have hi : ¬ (i : Int) < 0 := by omega
        go_enter Tryz.func81, Tryz.ntmps81
        go_wp2_with (first | (go_at_call 71; go_fit G.out; rintro x w1 ⟨rfl, rfl⟩) | (go_at_call 72; go_fit A.out; rintro x w2 ⟨rfl, rfl⟩))
        go_ret
        exact ⟨ret_int HK.out.symm, rfl⟩
  · rw [hoff] at c3 HK
    go_enter Tryz.func81, Tryz.ntmps81
    go_wp2_with fail
    go_ret
    exact ⟨ret_int HK.out.symm, rfl⟩
end Go.Proofs.YtgkdodcidancpaaGreatDoor
namespace Go.Proofs.YtgkdodcidancpaaGreatDoor
open Go.RowKit Go.Maps Go.WideAt Go.WideShapes

/-- One cell of a file is stored anew, the rest having grown. -/
theorem RefAt.putFile {w0 wr : World} {r : Nat} {R : RM} (h : RefAt w0 r R) (hg : w0.grownBy wr none) {i : Nat} {f : RF} (hi : R.fs[i]? = some f) {g c : Nat} (hv : R.vL = .slice (some ⟨g, 0, none⟩) R.fs.length c) (j : Nat) (hj : j < 3) (v : Value) (f' : RF) (hc : f'.cells = f.cells.set j v)
    (hs : Sees wr f'.ao f'.bs) (hz : f'.ao = none → f'.bs.length = 0) (hb : ∀ k ∈ f'.blk, k ∈ f.blk ∨ (w0.heap.size ≤ k ∧ k < wr.heap.size)) :
    RefAt (wr.setCell ⟨g, i * 3 + j, none⟩ v) r { R with fs := R.fs.set i f' } ∧ Moved w0 (wr.setCell ⟨g, i * 3 + j, none⟩ v) (R.foot r) (({ R with fs := R.fs.set i f' } : RM).foot r) := by
  have hw := h.grown hg
  have hgo : R.vL.ownBlock = some g := by rw [hv]; rfl
  have hgl : g < w0.heap.size := (h.rowL.lt g hgo).2
  have hk : ∀ k, k ≠ g → (wr.setCell ⟨g, i * 3 + j, none⟩ v).heap[k]? = wr.heap[k]? := fun k hk => Below.heap_setCell _ _ _ _ hk
  have hmem : f ∈ R.fs := List.mem_of_getElem? hi
  have hrl := h.head.lt
  have hf' : ∀ k ∈ f'.blk, k ≠ r ∧ k ≠ g ∧ R.vN.ownBlock ≠ some k ∧ k < wr.heap.size := by
    intro k hkb
    rcases hb k hkb with h1 | ⟨h1, h2⟩
    · have a := h.apart f hmem k h1
      exact ⟨a.1, fun e => a.2.1 (by rw [hgo, e]), a.2.2, Nat.lt_of_lt_of_le (h.blt f hmem k h1) hg.size⟩
    · exact ⟨fun e => by omega, by omega, fun e => by have := (h.rowN.lt k e).2; omega, h2⟩
  have hset : ∀ x ∈ R.fs.set i f', x ∈ R.fs ∨ x = f' := fun x hx => List.mem_or_eq_of_mem_set hx
  have hrow := hw.rowL
  rw [hv] at hrow
  have st := (hrow.stored (i * 3 + j) v).1
  rw [flat_set RF.cells_len R.fs i j f f' v hi hj hc] at st
  refine ⟨⟨hw.head.carry (hk r fun e => h.ne1 (by rw [hgo, e])), ?_, owns_carry hw.rowN fun k hkk => hk k (fun e => h.ne3 g hgo (by rw [← e]; exact hkk)), fun x hx => ?_, fun x hx => ?_, fun x hx k hkb => ?_, fun x hx k hkb => ?_, h.ne1, h.ne2, h.ne3⟩, ?_⟩
  · show (wr.setCell ⟨g, i * 3 + j, none⟩ v).ownsRow 0 86 3 R.vL (R.fs.set i f').length ((R.fs.set i f').flatMap RF.cells)
    rw [List.length_set, hv]
    exact st
  · rcases hset x hx with h1 | rfl
    · exact (hw.sees x h1).kept fun a ha _ => hk _ fun e => (h.apart x h1 a.block (by simp [RF.blk, ha])).2.1 (by rw [hgo, e])
    · exact hs.kept fun a ha _ => hk _ (hf' a.block (by simp [RF.blk, ha])).2.1
  · rcases hset x hx with h1 | rfl
    · exact h.zero x h1
    · exact hz
  · rw [size_setCell]
    rcases hset x hx with h1 | rfl
    · exact hw.blt x h1 k hkb
    · exact (hf' k hkb).2.2.2
  · rcases hset x hx with h1 | rfl
    · exact h.apart x h1 k hkb
    · exact ⟨(hf' k hkb).1, fun e => (hf' k hkb).2.1 (by rw [hgo] at e; exact (Option.some.inj e).symm), (hf' k hkb).2.2.1⟩
  · refine ⟨hg.os, hg.tape, hg.output, by rw [size_setCell]; exact hg.size, fun k hk1 hk2 => (hk k fun e => hk2 (foot_iff.2 (.inr (.inl (by rw [hgo, e]))))).trans (hg.block k hk1 (by simp)), fun k hkf => ?_⟩
    rcases foot_iff.1 hkf with h1 | h1 | h1 | ⟨x, hx, h1⟩
    · exact .inl (foot_iff.2 (.inl h1))
    · exact .inl (foot_iff.2 (.inr (.inl h1)))
    · exact .inl (foot_iff.2 (.inr (.inr (.inl h1))))
    · rcases hset x hx with h2 | rfl
      · exact .inl (foot_iff.2 (.inr (.inr (.inr ⟨x, h2, h1⟩))))
      · rcases hb k h1 with h3 | h3
        · exact .inl (foot_iff.2 (.inr (.inr (.inr ⟨f, hmem, h3⟩))))
        · exact .inr h3.1
/-- A file's place turned, without the memory. -/
theorem set_sig : ∀ (fs : List RF) (i : Nat) (f f' : RF), (fs.map RF.sig).Pairwise (fun x y => bytesBefore x.nm y.nm = true) → fs[i]? = some f → (fs.set i f').map RF.sig = upd (fs.map RF.sig) f.nm f'.sig
  | [], i, f, f', _, h => by simp at h
  | y :: t, 0, f, f', hs, h => by
    simp at h
    subst h
    rw [List.map_cons, List.pairwise_cons] at hs
    have hne : ∀ x ∈ t.map RF.sig, x.nm ≠ y.nm := fun x hx e => by
      have := hs.1 x hx
      have e2 : y.sig.nm = y.nm := rfl
      rw [e2, ← e, bytes_irrefl] at this
      cases this
    have h3 : upd (y.sig :: t.map RF.sig) y.nm f'.sig = (if y.sig.nm == y.nm then f'.sig else y.sig) :: upd (t.map RF.sig) y.nm f'.sig := rfl
    rw [List.set_cons_zero, List.map_cons, List.map_cons, h3, upd_none hne]
    have : (y.sig.nm == y.nm) = true := beq_iff_eq.2 rfl
    rw [this]
    rfl
  | y :: t, i + 1, f, f', hs, h => by
    rw [List.map_cons, List.pairwise_cons] at hs
    have h' : t[i]? = some f := by simpa using h
    have hne : (y.sig.nm == f.nm) = false := by
      rw [beq_eq_false_iff_ne]
      intro e
      have := hs.1 f.sig (List.mem_map.2 ⟨f, List.mem_of_getElem? h', rfl⟩)
      have e2 : f.sig.nm = f.nm := rfl
      rw [e2, e, bytes_irrefl] at this
      cases this
    have h3 : upd (y.sig :: t.map RF.sig) f.nm f'.sig = (if y.sig.nm == f.nm then f'.sig else y.sig) :: upd (t.map RF.sig) f.nm f'.sig := rfl
    rw [List.set_cons_succ, List.map_cons, List.map_cons, h3, hne, set_sig t i f f' hs.2 h']
    rfl
end Go.Proofs.YtgkdodcidancpaaGreatDoor
namespace Go.Proofs.YtgkdodcidancpaaGreatDoor
open Go.RowKit Go.Maps Go.WideAt Go.WideShapes

/-- One place that was kept: its file's bytes are written up to its end. -/
def keepS (L : List Sig) (p : List UInt8 × Nat) : List Sig := match findT L p.1 with
  | some t => upd L p.1 ⟨p.1, t.bs, min ((p.2 + 1) * 16) t.bs.length, t.pl⟩
  | none => L
def keepL (L : List Sig) (ps : List (List UInt8 × Nat)) : List Sig := ps.foldl keepS L
theorem keepL_step (L : List Sig) (ps : List (List UInt8 × Nat)) {t : Nat} (h : t < ps.length) : keepL L (ps.take (t + 1)) = keepS (keepL L (ps.take t)) ps[t] := by
  unfold keepL
  rw [take_succ_ref h, List.foldl_append]
  rfl
theorem upd_names (L : List Sig) (nm : List UInt8) (t' : Sig) (h : t'.nm = nm) : (upd L nm t').map (·.nm) = L.map (·.nm) := by
  unfold upd
  rw [List.map_map]
  refine List.map_congr_left fun x _ => ?_
  simp only [Function.comp]
  by_cases e : x.nm = nm
  · have e2 : (x.nm == nm) = true := beq_iff_eq.2 e
    rw [e2]
    simp [h, e]
  · have e2 : (x.nm == nm) = false := beq_eq_false_iff_ne.2 e
    rw [e2]
    simp
theorem keepS_names (L : List Sig) (p : List UInt8 × Nat) : (keepS L p).map (·.nm) = L.map (·.nm) := by
  unfold keepS
  cases h : findT L p.1 with
  | none => rfl
  | some t => exact upd_names L p.1 _ rfl
theorem keepL_names (L : List Sig) (ps : List (List UInt8 × Nat)) : (keepL L ps).map (·.nm) = L.map (·.nm) := by
  unfold keepL
  induction ps generalizing L with
  | nil => rfl
  | cons p r ih => rw [List.foldl_cons, ih, keepS_names]
theorem sorted_names {L L' : List Sig} (h : L.map (·.nm) = L'.map (·.nm)) (hs : L'.Pairwise (fun x y => bytesBefore x.nm y.nm = true)) : L.Pairwise (fun x y => bytesBefore x.nm y.nm = true) := by
  have e : ∀ K : List Sig, K.Pairwise (fun x y => bytesBefore x.nm y.nm = true) ↔ (K.map (·.nm)).Pairwise (fun x y => bytesBefore x y = true) := fun K => by rw [List.pairwise_map]
  rw [e, h, ← e]
  exact hs
/-- What is written is no more than there is. -/
def WrOk (L : List Sig) : Prop := ∀ t ∈ L, t.wr ≤ t.bs.length
theorem keepS_wr {L : List Sig} (h : WrOk L) (p : List UInt8 × Nat) : WrOk (keepS L p) := by
  unfold keepS
  cases hf : findT L p.1 with
  | none => exact h
  | some t =>
    intro x hx
    rcases mem_upd hx with rfl | h1
    · exact Nat.min_le_right _ _
    · exact h x h1
theorem keepL_wr {L : List Sig} (h : WrOk L) (ps : List (List UInt8 × Nat)) : WrOk (keepL L ps) := by
  unfold keepL
  induction ps generalizing L with
  | nil => exact h
  | cons p r ih => rw [List.foldl_cons]; exact ih (keepS_wr h p)
/-- Bytes stay as they were, but for what is written. -/
theorem keepS_bytes {L : List Sig} {p : List UInt8 × Nat} {x : Sig} (h : x ∈ keepS L p) : ∃ y ∈ L, y.nm = x.nm ∧ y.bs = x.bs := by
  unfold keepS at h
  cases hf : findT L p.1 with
  | none => rw [hf] at h; exact ⟨x, h, rfl, rfl⟩
  | some t =>
    rw [hf] at h
    rcases mem_upd h with rfl | h1
    · exact ⟨t, (findT_mem hf).1, (findT_mem hf).2, rfl⟩
    · exact ⟨x, h1, rfl, rfl⟩
theorem keepL_bytes {L : List Sig} {ps : List (List UInt8 × Nat)} {x : Sig} (h : x ∈ keepL L ps) : ∃ y ∈ L, y.nm = x.nm ∧ y.bs = x.bs := by
  unfold keepL at h
  induction ps generalizing L with
  | nil => exact ⟨x, h, rfl, rfl⟩
  | cons p r ih =>
    rw [List.foldl_cons] at h
    obtain ⟨y, hy, e1, e2⟩ := ih h
    obtain ⟨z, hz, e3, e4⟩ := keepS_bytes hy
    exact ⟨z, hz, e3.trans e1, e4.trans e2⟩
/-- A file that lost what was not written. -/
def cutS (t : Sig) : Sig := ⟨t.nm, t.bs.take t.wr, t.wr, t.pl⟩
/-- The disk behind a failure. -/
def crashQ (Q : RA) (k : Int) : RA := if Q.off then Q else { Q with L := (keepL Q.L (Q.line.take k.toNat)).map cutS, line := [], off := true }
end Go.Proofs.YtgkdodcidancpaaGreatDoor
namespace Go.Proofs.YtgkdodcidancpaaGreatDoor

/-- A file's sectors that are not synced: its number, and which. -/
def secs (wr len : Nat) : Nat := if wr = len then 0 else (len + 15) / 16 - wr / 16
abbrev Ln := Nat × (List UInt8 × Nat)
def lnF (t : Sig) : List Ln := t.pl.zipIdx.map fun x => (x.1, (t.nm, t.wr / 16 + x.2))
def lnOf (sp : List Sig) : List Ln := sp.flatMap lnF
def strip (t : Sig) : Sig := ⟨t.nm, t.bs, t.wr, []⟩
theorem lnF_name {t : Sig} {x : Ln} (h : x ∈ lnF t) : x.2.1 = t.nm := by
  obtain ⟨y, _, rfl⟩ := List.mem_map.1 h
  rfl
theorem lnF_fst (t : Sig) : (lnF t).map (·.1) = t.pl := by
  unfold lnF
  rw [List.map_map]
  show t.pl.zipIdx.map (fun x => x.1) = t.pl
  rw [List.zipIdx_map_fst]
theorem lnF_len (t : Sig) : (lnF t).length = t.pl.length := by
  unfold lnF
  rw [List.length_map, List.length_zipIdx]
theorem lnOf_cons (t : Sig) (r : List Sig) : lnOf (t :: r) = lnF t ++ lnOf r := List.flatMap_cons
theorem lnOf_fst (sp : List Sig) : (lnOf sp).map (·.1) = linesT sp := by
  unfold linesT
  induction sp with
  | nil => rfl
  | cons t r ih => rw [lnOf_cons, List.map_append, ih, lnF_fst, List.flatMap_cons]
theorem lnF_filter_same (t : Sig) (nm : List UInt8) (h : t.nm = nm) : (lnF t).filter (fun x => !(x.2.1 == nm)) = [] := by
  rw [List.filter_eq_nil_iff]
  intro x hx
  have := lnF_name hx
  simp [this, h]
theorem lnF_filter_other (t : Sig) (nm : List UInt8) (h : t.nm ≠ nm) : (lnF t).filter (fun x => !(x.2.1 == nm)) = lnF t := by
  rw [List.filter_eq_self]
  intro x hx
  have := lnF_name hx
  simp [this, h]
theorem lnOf_drop (sp : List Sig) (nm : List UInt8) : lnOf (dropT sp nm) = (lnOf sp).filter (fun x => !(x.2.1 == nm)) := by
  unfold dropT
  induction sp with
  | nil => rfl
  | cons t r ih =>
    rw [List.filter_cons, lnOf_cons, List.filter_append]
    by_cases e : t.nm = nm
    · have h1 : (!(t.nm == nm)) = false := by simp [e]
      rw [h1, lnF_filter_same t nm e]
      simpa using ih
    · have h1 : (!(t.nm == nm)) = true := by simp [e]
      rw [h1, lnF_filter_other t nm e]
      simp only [if_true]
      rw [lnOf_cons, ih]
theorem lnOf_ins (t : Sig) (sp : List Sig) : (lnOf (insT t sp)).Perm (lnF t ++ lnOf sp) := by
  induction sp with
  | nil => rw [insT, lnOf_cons]
  | cons y r ih =>
    rw [insT]
    split
    · rw [lnOf_cons]
    · rw [lnOf_cons, lnOf_cons]
      refine (ih.append_left (lnF y)).trans ?_
      rw [← List.append_assoc, ← List.append_assoc]
      exact (List.perm_append_comm).append_right _
theorem lnF_rename (t : Sig) (nm : List UInt8) : lnF ⟨nm, t.bs, t.wr, t.pl⟩ = (lnF t).map fun x => (x.1, (nm, x.2.2)) := by
  unfold lnF
  rw [List.map_map]
  rfl
theorem lnF_app (nm bs bs' : List UInt8) (wr : Nat) (pl : List Nat) (next n : Nat) : lnF ⟨nm, bs', wr, pl ++ List.range' next n⟩ = lnF ⟨nm, bs, wr, pl⟩ ++ (List.range n).map fun i => (next + i, (nm, wr / 16 + (pl.length + i))) := by
  unfold lnF
  rw [List.zipIdx_append, List.map_append]
  congr 1
  apply List.ext_getElem?
  intro i
  rw [List.getElem?_map, List.getElem?_map, List.getElem?_zipIdx]
  by_cases h : i < n
  · rw [List.getElem?_range' h, List.getElem?_range h]
    simp
  · rw [List.getElem?_eq_none (by simp; omega), List.getElem?_eq_none (by simp; omega)]
    rfl
end Go.Proofs.YtgkdodcidancpaaGreatDoor
