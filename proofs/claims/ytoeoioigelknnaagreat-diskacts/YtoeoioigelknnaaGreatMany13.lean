/-
  SEVERAL TEXTS IN ONE: DskRoomP, CodGet, CodGot, RefNum.
-/
import Derived.Test.YtoeoioigelknnaaGreatMany12
import Derived.Test.YtoeoioigelknnaaGreatMany10
import Derived.Test.YtoeoioigelknnaaGreatCodNum
import Derived.Defers
import Derived.Recover
import Derived.Laws.Pointers
import Derived.WideLaws
namespace Go.Proofs.YtoeoioigelknnaaGreat
open Go.RowKit Go.Maps Go.Sort Go.Shelf

/-- All names are good. -/
def Ab.Gd (A : Ab) : Prop := ∀ t ∈ A.sp, goodB t.nm = true
theorem good_of {on : Bool} {s : ByteArray} (h : refuse on [s] = 0) : goodB (nameOf s) = true := by
  have ho := refuse_on h
  subst ho
  rw [refuse_name] at h
  cases hg : goodB (nameOf s)
  · rw [hg] at h; simp at h
  · rfl
theorem good_two {on : Bool} {s u : ByteArray} (h : refuse on [s, u] = 0) : goodB (nameOf u) = true := by
  have ho := refuse_on h
  subst ho
  unfold refuse at h
  simp only [if_true] at h
  split at h
  · rename_i h1
    simp at h1
    exact h1.2
  · cases h
/-- What an operation does to a disk. -/
structure Did (A : Ab) (k : Nat) (r : Int × Ab) : Prop where
  inv : r.2.Inv (k + 1)
  gd : r.2.Gd
  room : r.2.room = A.room
  no : r.1 ≠ 0 → r.2 = A
  yes : r.1 = 0 → r.2.ops = A.ops + 1
section
variable {A : Ab} {k : Nat} (hi : A.Inv k) (hg : A.Gd)
include hi hg
theorem did_no {c : Int} (hc : c ≠ 0) : Did A k (c, A) := ⟨hi.more (by omega), hg, rfl, fun _ => rfl, fun h => absurd h hc⟩
theorem did_create (s : ByteArray) : Did A k (createM A s) := by
  have hinv := createM_inv hi s
  unfold createM at *
  by_cases hc : refuse A.on [s] = 0
  · rw [if_pos hc] at *
    have hcr : ∀ t ∈ (crT A (nameOf s)).sp, goodB t.nm = true := fun t ht => by
      rcases mem_put ht with rfl | h
      · exact good_of hc
      · exact hg t h
    cases hf : findT A.sp (nameOf s) with
    | none =>
      rw [hf] at hinv
      simp only at *
      split
      · exact did_no hi hg (by omega)
      · rename_i h1
        rw [if_neg h1] at hinv
        exact ⟨hinv, hcr, rfl, fun h => absurd rfl h, fun _ => rfl⟩
    | some t =>
      rw [hf] at hinv
      exact ⟨hinv, hcr, rfl, fun h => absurd rfl h, fun _ => rfl⟩
  · rw [if_neg hc] at *
    exact did_no hi hg hc
theorem did_sync (hN : A.sp.Pairwise fun x y => x.nm ≠ y.nm) (s : ByteArray) : Did A k (syncM A s) := by
  have hinv := syncM_inv hi hN s
  unfold syncM at *
  by_cases hc : refuse A.on [s] = 0
  · rw [if_pos hc] at *
    cases hf : findT A.sp (nameOf s) with
    | none => exact did_no hi hg (by omega)
    | some t =>
      rw [hf] at hinv
      refine ⟨hinv, fun x hx => ?_, rfl, fun h => absurd rfl h, fun _ => rfl⟩
      rcases mem_upd hx with rfl | h
      · exact good_of hc
      · exact hg x h
  · rw [if_neg hc] at *
    exact did_no hi hg hc
theorem did_remove (s : ByteArray) : Did A k (removeM A s) := by
  have hinv := removeM_inv hi s
  unfold removeM at *
  by_cases hc : refuse A.on [s] = 0
  · rw [if_pos hc] at *
    cases hf : findT A.sp (nameOf s) with
    | none => exact did_no hi hg (by omega)
    | some t =>
      rw [hf] at hinv
      exact ⟨hinv, fun x hx => hg x (mem_drop hx), rfl, fun h => absurd rfl h, fun _ => rfl⟩
  · rw [if_neg hc] at *
    exact did_no hi hg hc
theorem did_rename (s u : ByteArray) : Did A k (renameM A s u) := by
  have hinv := renameM_inv hi s u
  unfold renameM at *
  by_cases hc : refuse A.on [s, u] = 0
  · rw [if_pos hc] at *
    cases hf : findT A.sp (nameOf s) with
    | none => exact did_no hi hg (by omega)
    | some t =>
      rw [hf] at hinv
      refine ⟨hinv, fun x hx => ?_, rfl, fun h => absurd rfl h, fun _ => rfl⟩
      rcases mem_put hx with rfl | h
      · exact good_two hc
      · exact hg x (mem_drop h)
  · rw [if_neg hc] at *
    exact did_no hi hg hc
theorem did_append (hN : A.sp.Pairwise fun x y => x.nm ≠ y.nm) (s : ByteArray) (l : List UInt8) : Did A k (appendM A s l) := by
  have hinv := appendM_inv hi hN s l
  unfold appendM at *
  by_cases hc : refuse A.on [s] = 0
  · rw [if_pos hc] at *
    cases hf : findT A.sp (nameOf s) with
    | none => exact did_no hi hg (by omega)
    | some t =>
      rw [hf] at hinv
      simp only at *
      split
      · exact did_no hi hg (by omega)
      · rename_i h1
        rw [if_neg h1] at hinv
        refine ⟨hinv, fun x hx => ?_, rfl, fun h => absurd rfl h, fun _ => rfl⟩
        rcases mem_upd hx with rfl | h
        · exact good_of hc
        · exact hg x h
  · rw [if_neg hc] at *
    exact did_no hi hg hc
end
/-- An operation's answer, and the disk behind it. -/
def RmOut (w0 : World) (d : Nat) (A : Ab) (k : Nat) (x : Ending) (w' : World) : Prop := ∃ c A', x = .returned (.int .i64 c) ∧ Did A k (c, A') ∧ Kp w0 d A' w'
section
variable {w0 : World} {d : Nat} {A : Ab} {k : Nat} {w1 : World} (h : Kp w0 d A w1) (hi : A.Inv k) (hg : A.Gd) (hk : k ≤ 1000) (s : ByteArray) (hs : s.size ≤ maxLen)
include h hi hg hk hs
theorem rm_create : Calls Tryz.prog 18 #[.pointer (some ⟨d, 0, none⟩), .string s] w1 (RmOut w0 d A k) := (kpm_create h hi hk s hs).mono fun _ _ hh => ⟨_, _, hh.1, did_create hi hg s, hh.2.2⟩
theorem rm_sync : Calls Tryz.prog 20 #[.pointer (some ⟨d, 0, none⟩), .string s] w1 (RmOut w0 d A k) := (kpm_sync h hi hk s hs).mono fun _ _ hh => ⟨_, _, hh.1, did_sync hi hg h.names s, hh.2.2⟩
theorem rm_remove : Calls Tryz.prog 32 #[.pointer (some ⟨d, 0, none⟩), .string s] w1 (RmOut w0 d A k) := (kpm_remove h hi hk s hs).mono fun _ _ hh => ⟨_, _, hh.1, did_remove hi hg s, hh.2.2⟩
theorem rm_rename (u : ByteArray) (hu : u.size ≤ maxLen) : Calls Tryz.prog 30 #[.pointer (some ⟨d, 0, none⟩), .string s, .string u] w1 (RmOut w0 d A k) := (kpm_rename h hi hk s hs u hu).mono fun _ _ hh => ⟨_, _, hh.1, did_rename hi hg s u, hh.2.2⟩
theorem rm_append (ao : Option Addr) (l : List UInt8) (c : Nat) (hb : Sees w0 ao l) (hl : l.length ≤ 1000000000) : Calls Tryz.prog 19 #[.pointer (some ⟨d, 0, none⟩), .string s, .slice ao l.length c] w1 (RmOut w0 d A k) := (kpm_append h hi hk s hs ao l c hb hl).mono fun _ _ hh => ⟨_, _, hh.1, did_append hi hg h.names s l, hh.2.2⟩
end
section
variable {w0 : World} {d : Nat} {A : Ab} {k : Nat} {w1 : World} (h : Kp w0 d A w1) (hi : A.Inv k)
include h hi
theorem rm_used : Calls Tryz.prog 12 #[.pointer (some ⟨d, 0, none⟩)] w1 fun x w' => x = .returned (.int .i64 (usedT A.sp : Int)) ∧ w1.grownBy w' none ∧ Kp w0 d A w' := by
  have h0 := h
  obtain ⟨ft, h1, h2⟩ := h
  exact (ab_used h1 hi.fine hi.on).mono fun x w' hh => ⟨hh.1, hh.2, h0.grown hh.2⟩
theorem rm_dirty : Calls Tryz.prog 14 #[.pointer (some ⟨d, 0, none⟩)] w1 fun x w' => x = .returned (.int .i64 (dirtyT A.sp : Int)) ∧ w1.grownBy w' none ∧ Kp w0 d A w' := by
  have h0 := h
  obtain ⟨ft, h1, h2⟩ := h
  exact (ab_dirty h1 hi.fine hi.on).mono fun x w' hh => ⟨hh.1, hh.2, h0.grown hh.2⟩
omit hi in
theorem rm_ops : Calls Tryz.prog 16 #[.pointer (some ⟨d, 0, none⟩)] w1 fun x w' => x = .returned (.int .i64 (A.ops : Int)) ∧ w' = w1 := by
  obtain ⟨ft, h1, h2⟩ := h
  obtain ⟨bm, fs, hD, hs, rfl⟩ := h1
  exact ops_any hD
end
/-! ### the names, and what goes -/
theorem good_len {n : List UInt8} (h : goodB n = true) : n.length ≤ 40 := by
  unfold goodB at h
  simp at h
  exact h.1.1.2
/-- The disk, and beside it names in a row of the call's own. -/
def Rx (w0 : World) (d : Nat) (A : Ab) (v : Value) (nl : List (List UInt8)) (w1 : World) : Prop := ∃ ft, At d A ft w1 ∧ Moved w0 w1 [] ft ∧ w1.ownsRow w0.heap.size 9 1 v nl.length (nl.map encStr) ∧ ∀ g, v.ownBlock = some g → g ∉ ft
/-- What is left of the disk while its names are gone over. -/
structure Left (A : Ab) (k : Nat) (nl : List (List UInt8)) (j : Nat) : Prop where
  inv : A.Inv k
  gd : A.Gd
  in_ : ∀ t ∈ A.sp, t.nm ∈ nl.drop j
  at_ : ∀ n ∈ nl.drop j, ∃ t, findT A.sp n = some t
  nd : nl.Nodup
theorem findT_of_mem {sp : List Sig} (hN : sp.Pairwise fun x y => x.nm ≠ y.nm) {t : Sig} (ht : t ∈ sp) : findT sp t.nm = some t := by
  induction sp with
  | nil => cases ht
  | cons y r ih =>
    rw [List.pairwise_cons] at hN
    rw [findT_cons]
    rcases List.mem_cons.1 ht with rfl | h
    · rw [if_pos rfl]
    · rw [if_neg (hN.1 t h)]
      exact ih hN.2 h
theorem list_len {A : Ab} {k : Nat} (hi : A.Inv k) (hr : A.room ≤ 1000000) : A.sp.length ≤ 1000000 := by
  have := len_used A.sp
  have := hi.used
  omega
theorem rx_list {w0 : World} {d : Nat} {A : Ab} {k : Nat} {w1 : World} (h : Kp w0 d A w1) (hi : A.Inv k) (hg : A.Gd) (hr : A.room ≤ 1000000) : Calls Tryz.prog 10 #[.pointer (some ⟨d, 0, none⟩)] w1 fun x w' => ∃ ao c nl, x = .returned (.slice ao nl.length c) ∧ Rx w0 d A (.slice ao nl.length c) nl w' ∧ Left A k nl 0 ∧ nl.length ≤ A.room := by
  have hN := h.names
  obtain ⟨ft, h1, h2⟩ := h
  have h1' := h1
  obtain ⟨bm, fs, hD, hs, hft⟩ := h1
  have hlen : fs.length = A.sp.length := by rw [← hs, List.length_map]
  have hll := list_len hi hr
  refine (list_on hD hi.on (by show fs.length ≤ 1000000; omega)).mono ?_
  rintro x w' ⟨v, ss, rfl, hp, ho, hb⟩
  have hgr := grown_of_below hb
  have hml : (ss.mergeSort (fun x y => decide (x ≤ y))).length = ss.length := List.length_mergeSort _
  obtain ⟨ao, c, rfl, _⟩ := owns_form ho
  have hpm : (ss.mergeSort (fun x y => decide (x ≤ y))).Perm (A.sp.map Sig.nm) := by
    refine (List.mergeSort_perm _ _).trans (hp.trans ?_)
    show (fs.map Ent.nm).Perm _
    rw [← hs, List.map_map]
    exact List.Perm.refl _
  generalize ss.mergeSort (fun x y => decide (x ≤ y)) = nl at *
  have hz := h2.size
  have hlt := h1'.lt
  refine ⟨ao, c, nl, by rw [hml], ⟨ft, h1'.grown hgr, h2.trans (Moved.none_of hgr _), ?_, fun g hgg hi2 => ?_⟩, ⟨hi, hg, fun t ht => ?_, fun n hn => ?_, ?_⟩, ?_⟩
  · rw [hml]
    refine ⟨ho.1, ho.2.imp id ?_⟩
    rintro ⟨g, cap, cur, e, hb', r⟩
    exact ⟨g, cap, cur, e, by omega, r⟩
  · have h3 := (ho.lt g (by rw [hml] at hgg; exact hgg)).1
    have := hlt g hi2
    omega
  · rw [List.drop_zero]
    exact hpm.mem_iff.2 (List.mem_map.2 ⟨t, ht, rfl⟩)
  · rw [List.drop_zero] at hn
    obtain ⟨t, ht, rfl⟩ := List.mem_map.1 (hpm.mem_iff.1 hn)
    exact ⟨t, findT_of_mem hN ht⟩
  · rw [hpm.nodup_iff]
    unfold List.Nodup
    rw [List.pairwise_map]
    exact hN
  · have h5 := hpm.length_eq
    rw [List.length_map] at h5
    have := len_used A.sp
    have := hi.used
    omega
def strB (n : List UInt8) : ByteArray := ⟨n.toArray⟩
theorem nameOf_strB (n : List UInt8) : nameOf (strB n) = n := by simp [nameOf, strB]
theorem rx_cell {w0 : World} {d : Nat} {A : Ab} {ao : Option Addr} {c : Nat} {nl : List (List UInt8)} {w1 : World} (h : Rx w0 d A (.slice ao nl.length c) nl w1) {j : Nat} (hj : j < nl.length) : ∃ g, ao = some ⟨g, 0, none⟩ ∧ w1.cell? ⟨g, j, none⟩ = some (.string (strB (nl.getD j []))) := by
  obtain ⟨ft, h1, h2, h3, h4⟩ := h
  rcases h3.2 with ⟨e, e2⟩ | ⟨g, cap, cur, e, _⟩
  · omega
  · cases e
    refine ⟨g, rfl, ?_⟩
    have := h3.cells (g := g) rfl j (.string (strB (nl.getD j []))) (by
      rw [List.getElem?_map, List.getElem?_eq_getElem hj]
      simp [encStr, strB, List.getD, hj])
    simpa [Addr.add_lit] using this
theorem rx_remove {w0 : World} {d : Nat} {A : Ab} {k : Nat} {v : Value} {nl : List (List UInt8)} {j : Nat} {w1 : World} (h : Rx w0 d A v nl w1) (hL : Left A k nl j) (hj : j < nl.length) (hk : k ≤ 1000) : Calls Tryz.prog 32 #[.pointer (some ⟨d, 0, none⟩), .string (strB (nl.getD j []))] w1 fun x w' => x = .returned (.int .i64 0) ∧ ∃ A', Rx w0 d A' v nl w' ∧ Left A' (k + 1) nl (j + 1) := by
  obtain ⟨ft, h1, h2, h3, h4⟩ := h
  have hdrop : nl.drop j = nl.getD j [] :: nl.drop (j + 1) := by
    rw [List.drop_eq_getElem_cons hj]
    simp [List.getD, hj]
  have hnd : (nl.getD j [] :: nl.drop (j + 1)).Nodup := by
    rw [← hdrop]
    exact hL.nd.sublist (List.drop_sublist _ _)
  rw [List.nodup_cons] at hnd
  obtain ⟨t, hf⟩ := hL.at_ (nl.getD j []) (by rw [hdrop]; exact List.mem_cons_self)
  have htm := findT_mem hf
  have hgood : goodB (nl.getD j []) = true := by rw [← htm.2]; exact hL.gd t htm.1
  have hsz : (strB (nl.getD j [])).size ≤ maxLen := by
    have := good_len hgood
    show (nl.getD j []).toArray.size ≤ maxLen
    rw [List.size_toArray]
    unfold maxLen
    omega
  have hi := hL.inv
  have e : removeM A (strB (nl.getD j [])) = (0, rmT A (nl.getD j [])) := by
    unfold removeM
    rw [nameOf_strB, if_pos (by rw [hi.on, refuse_name, nameOf_strB, hgood]; rfl), hf]
  have hC := abx_remove h1 (strB (nl.getD j [])) hsz hi.left1 (hi.ops1 (by omega)) hi.left2
  have hI := removeM_inv hi (strB (nl.getD j []))
  rw [e] at hC hI
  refine hC.mono ?_
  rintro x w' ⟨rfl, ft', a1, a2⟩
  refine ⟨rfl, rmT A (nl.getD j []), ⟨ft', a1, h2.trans a2, owns_carry h3 fun g hg => a2.kept g (h3.lt g hg).2 (h4 g hg), fun g hg hi2 => ?_⟩, hI, fun x hx => hL.gd x (mem_drop hx), fun x hx => ?_, fun n hn => ?_, hL.nd⟩
  · rcases a2.news g hi2 with h5 | h5
    · exact h4 g hg h5
    · have := (h3.lt g hg).2; omega
  · have hx2 := List.mem_filter.1 hx
    have hx3 := hL.in_ x hx2.1
    rw [hdrop] at hx3
    rcases List.mem_cons.1 hx3 with h5 | h5
    · have h6 := hx2.2
      rw [h5] at h6
      simp at h6
    · exact h5
  · have hne : n ≠ nl.getD j [] := fun e => hnd.1 (e ▸ hn)
    obtain ⟨y, hy⟩ := hL.at_ n (by rw [hdrop]; exact List.mem_cons_of_mem _ hn)
    exact ⟨y, (findT_drop hne).trans hy⟩
theorem left_end {A : Ab} {k : Nat} {nl : List (List UInt8)} (h : Left A k nl nl.length) : A.sp = [] := by
  cases hs : A.sp with
  | nil => rfl
  | cons t r =>
    have := h.in_ t (by rw [hs]; exact List.mem_cons_self)
    rw [List.drop_length] at this
    cases this
theorem Rx.kp {w0 : World} {d : Nat} {A : Ab} {v : Value} {nl : List (List UInt8)} {w1 : World} (h : Rx w0 d A v nl w1) : Kp w0 d A w1 := by
  obtain ⟨ft, h1, h2, _⟩ := h
  exact ⟨ft, h1, h2⟩
theorem rx_used {w0 : World} {d : Nat} {A : Ab} {k : Nat} {nl : List (List UInt8)} {v : Value} {w1 : World} (h : Rx w0 d A v nl w1) (hL : Left A k nl nl.length) : Calls Tryz.prog 12 #[.pointer (some ⟨d, 0, none⟩)] w1 fun x w' => x = .returned (.int .i64 0) ∧ Kp w0 d A w' := by
  have := rm_used h.kp hL.inv
  rw [left_end hL] at this
  exact this.mono fun x w' hh => ⟨hh.1, hh.2.2⟩
theorem rx_dirty {w0 : World} {d : Nat} {A : Ab} {k : Nat} {nl : List (List UInt8)} {w1 : World} (h : Kp w0 d A w1) (hL : Left A k nl nl.length) : Calls Tryz.prog 14 #[.pointer (some ⟨d, 0, none⟩)] w1 fun x w' => x = .returned (.int .i64 0) ∧ Kp w0 d A w' := by
  have := rm_dirty h hL.inv
  rw [left_end hL] at this
  exact this.mono fun x w' hh => ⟨hh.1, hh.2.2⟩
end Go.Proofs.YtoeoioigelknnaaGreat
namespace Go.Proofs.YtoeoioigelknnaaGreat
open Go.RowKit

theorem Rd.lt {w : World} {R : Nat} {ao : Option Addr} {l : List UInt8} {cap n : Nat} (h : Rd w R ao l cap n) : R < w.heap.size := World.block_lt_of_cell? _ _ h.c0
/-- Whatever leaves the reader's block and the bytes alone leaves the reader as it was. -/
theorem Rd.carry {w w' : World} {R : Nat} {ao : Option Addr} {l : List UInt8} {cap n : Nat} (h : Rd w R ao l cap n) (hb : ∀ k, k < w.heap.size → w'.heap[k]? = w.heap[k]?) : Rd w' R ao l cap n := by
  have e : ∀ p : Addr, p.block < w.heap.size → w'.cell? p = w.cell? p := fun p hp => World.cell?_of_block (hb p.block hp)
  refine ⟨?_, ?_, ?_, h.le, h.max, ?_, h.ne⟩
  · rw [e ⟨R, 0, none⟩ h.lt]; exact h.c0
  · rw [e ⟨R, 1, none⟩ h.lt]; exact h.c1
  · rw [World.frozen?_of_block (a := ⟨R, 1, none⟩) (hb R h.lt)]; exact h.f1
  · intro i hi
    obtain ⟨a, ea, hc⟩ := h.sees i hi
    exact ⟨a, ea, by rw [e _ (World.block_lt_of_cell? _ _ hc)]; exact hc⟩

theorem Rd.setOther {w w0 : World} {R : Nat} {ao : Option Addr} {l : List UInt8} {cap n : Nat} (h : Rd w R ao l cap n) (hs : Sees w0 ao l) (hR : R < w0.heap.size) {p : Addr} (hp : w0.heap.size ≤ p.block) (x : Value) : Rd (w.setCell p x) R ao l cap n := by
  have e : ∀ q : Addr, q.block < w0.heap.size → (w.setCell p x).cell? q = w.cell? q := fun q hq => World.cell?_setCell_other _ _ _ _ (fun e' => by rw [e'] at hp; omega)
  refine ⟨?_, ?_, ?_, h.le, h.max, ?_, h.ne⟩
  · rw [e ⟨R, 0, none⟩ hR]; exact h.c0
  · rw [e ⟨R, 1, none⟩ hR]; exact h.c1
  · rw [World.frozen?_setCell]; exact h.f1
  · intro i hi
    obtain ⟨a, ea, hc⟩ := h.sees i hi
    obtain ⟨a', ea', hc'⟩ := hs i hi
    obtain rfl := Option.some.inj (ea.symm.trans ea')
    exact ⟨a, ea, by rw [e _ (World.block_lt_of_cell? _ _ hc')]; exact hc⟩
/-- Beside the reader's block only new ones were written. -/
theorem grownBy_setNew {w w' : World} {R : Option Nat} {p : Addr} {x : Value} (h : w.grownBy w' R) (hp : w.heap.size ≤ p.block) : w.grownBy (w'.setCell p x) R :=
  ⟨h.os, h.tape, h.output, by rw [size_setCell]; exact h.size, fun k hk hne => (Below.heap_setCell _ _ _ _ (by omega)).trans (h.block k hk hne)⟩
theorem grownBy_alloc {w w' : World} {R : Option Nat} {o : Obj} (h : (w.alloc o).grownBy w' R) : w.grownBy w' R := by
  have hs := h.size
  rw [World.size_alloc] at hs
  exact ⟨h.os, h.tape, h.output, by omega, fun k hk hne => (h.block k (by rw [World.size_alloc]; omega) hne).trans (Below.heap_alloc _ _ _ hk)⟩

end Go.Proofs.YtoeoioigelknnaaGreat
namespace Go.Proofs.YtoeoioigelknnaaGreat
open Go.RowKit

theorem below_made {w w' : World} {o : Obj} (h : (w.alloc o).grownBy w' (some w.heap.size)) : Below w.heap.size w w' :=
  ⟨h.os, h.tape, h.output, by have := h.size; rw [World.size_alloc] at this; omega, fun k hk => (h.block k (by rw [World.size_alloc]; omega) (fun e => by have := Option.some.inj e; omega)).trans (Below.heap_alloc _ _ _ hk)⟩
theorem owns_heap {w w' : World} {base : Nat} {e : TypeId} {size : Nat} {v : Value} {n : Nat} {xs : List Value} (h : w.ownsRow base e size v n xs) (hb : ∀ k, v.ownBlock = some k → w'.heap[k]? = w.heap[k]?) : w'.ownsRow base e size v n xs := by
  refine ⟨h.1, ?_⟩
  rcases h.2 with hn | ⟨g, cap, cur, rfl, hg, hh, r⟩
  · exact .inl hn
  · exact .inr ⟨g, cap, cur, rfl, hg, (hb g rfl).trans hh, r⟩
end Go.Proofs.YtoeoioigelknnaaGreat
namespace Go.Proofs.YtoeoioigelknnaaGreat
open Go.RowKit

/-- A row of nothing, just made. -/
theorem owns_none (w : World) : (w.alloc (.cells #[] 5)).ownsRow w.heap.size 5 1 (.slice (some ⟨w.heap.size, 0, none⟩) 0 0) 0 [] := World.ownsRow_made w #[] 0 (Nat.le_refl _) (by decide) rfl
theorem below_none {w w' : World} {v : Value} (h : Grew (w.alloc (.cells #[] 5)) w' (.slice (some ⟨w.heap.size, 0, none⟩) 0 0) v) : Below w.heap.size w w' :=
  ((Below.refl _ _).alloc (Nat.le_refl _) _).trans (h.below (by rw [World.size_alloc]; omega) (fun k hk => by cases hk; exact Nat.le_refl _))

end Go.Proofs.YtoeoioigelknnaaGreat
