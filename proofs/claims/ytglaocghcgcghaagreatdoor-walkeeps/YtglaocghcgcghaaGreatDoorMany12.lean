/-
  SEVERAL TEXTS IN ONE: DskInv, CodPlain.
-/
import Derived.Test.YtglaocghcgcghaaGreatDoorMany10
import Derived.WalkKit
import Derived.PlainAid
import Derived.OpenShut
import Derived.Laws.BitsAllLaws
namespace Go.Proofs.YtglaocghcgcghaaGreatDoor
open Go.RowKit Go.Maps

def uT (t : Sig) : Nat := 1 + (t.bs.length + 15) / 16
theorem usedT_cons (t : Sig) (r : List Sig) : usedT (t :: r) = uT t + usedT r := by unfold usedT uT; simp
theorem usedT_nil : usedT [] = 0 := rfl
theorem usedT_ins (t : Sig) (sp : List Sig) : usedT (insT t sp) = uT t + usedT sp := by
  induction sp with
  | nil => rw [insT, usedT_cons]
  | cons y r ih =>
    rw [insT]
    split
    · rw [usedT_cons]
    · rw [usedT_cons, ih, usedT_cons]; omega
theorem usedT_drop (sp : List Sig) (nm : List UInt8) : usedT (dropT sp nm) ≤ usedT sp := by
  unfold dropT
  induction sp with
  | nil => exact Nat.le_refl _
  | cons y r ih =>
    rw [List.filter_cons]
    split
    · rw [usedT_cons, usedT_cons]; omega
    · rw [usedT_cons]; omega
theorem findT_cons (y : Sig) (r : List Sig) (nm : List UInt8) : findT (y :: r) nm = if y.nm = nm then some y else findT r nm := by
  unfold findT
  rw [List.find?_cons]
  by_cases h : y.nm = nm
  · simp [h]
  · have : (y.nm == nm) = false := by rw [beq_eq_false_iff_ne]; exact h
    simp [h, this]
theorem usedT_drop_found {sp : List Sig} {nm : List UInt8} {t : Sig} (h : findT sp nm = some t) : usedT (dropT sp nm) + uT t ≤ usedT sp := by
  induction sp with
  | nil => cases h
  | cons y r ih =>
    rw [findT_cons] at h
    unfold dropT at ih ⊢
    rw [List.filter_cons]
    by_cases e : y.nm = nm
    · rw [if_pos e] at h
      cases h
      have : (!(t.nm == nm)) = false := by simp [e]
      rw [this, usedT_cons]
      have := usedT_drop r nm
      unfold dropT at this
      simp only [Bool.false_eq_true, if_false]
      omega
    · rw [if_neg e] at h
      have hn : (y.nm == nm) = false := by rw [beq_eq_false_iff_ne]; exact e
      have := ih h
      rw [hn, usedT_cons]
      simp only [Bool.not_false, if_true]
      rw [usedT_cons]
      omega
theorem upd_none {sp : List Sig} {nm : List UInt8} {t' : Sig} (h : ∀ x ∈ sp, x.nm ≠ nm) : upd sp nm t' = sp := by
  unfold upd
  rw [List.map_congr_left (g := id), List.map_id]
  intro x hx
  have : (x.nm == nm) = false := by rw [beq_eq_false_iff_ne]; exact h x hx
  simp [this]
theorem usedT_upd {sp : List Sig} (hN : sp.Pairwise fun x y => x.nm ≠ y.nm) {nm : List UInt8} {t : Sig} (h : findT sp nm = some t) (t' : Sig) : usedT (upd sp nm t') + uT t = usedT sp + uT t' := by
  induction sp with
  | nil => cases h
  | cons y r ih =>
    rw [findT_cons] at h
    rw [List.pairwise_cons] at hN
    by_cases e : y.nm = nm
    · rw [if_pos e] at h
      cases h
      have hr : upd r nm t' = r := upd_none fun x hx hh => hN.1 x hx (e.trans hh.symm)
      have : upd (t :: r) nm t' = t' :: r := by
        have h2 : upd (t :: r) nm t' = (if t.nm == nm then t' else t) :: upd r nm t' := rfl
        rw [h2, hr, e]
        simp
      rw [this, usedT_cons, usedT_cons]
      omega
    · rw [if_neg e] at h
      have hn : (y.nm == nm) = false := by rw [beq_eq_false_iff_ne]; exact e
      have h2 : upd (y :: r) nm t' = y :: upd r nm t' := by
        have h3 : upd (y :: r) nm t' = (if y.nm == nm then t' else y) :: upd r nm t' := rfl
        rw [h3, hn]
        simp
      have := ih hN.2 h
      rw [h2, usedT_cons, usedT_cons]
      omega
theorem mem_upd {sp : List Sig} {nm : List UInt8} {t' x : Sig} (h : x ∈ upd sp nm t') : x = t' ∨ x ∈ sp := by
  obtain ⟨y, hy, rfl⟩ := List.mem_map.1 h
  split
  · exact .inl rfl
  · exact .inr hy
theorem mem_ins {sp : List Sig} {t x : Sig} : x ∈ insT t sp ↔ x = t ∨ x ∈ sp := by
  induction sp with
  | nil => simp [insT]
  | cons y r ih =>
    rw [insT]
    split
    · simp
    · simp only [List.mem_cons, ih]
      constructor
      · rintro (h | h | h)
        · exact .inr (.inl h)
        · exact .inl h
        · exact .inr (.inr h)
      · rintro (h | h | h)
        · exact .inr (.inl h)
        · exact .inl h
        · exact .inr (.inr h)
theorem mem_drop {sp : List Sig} {nm : List UInt8} {x : Sig} (h : x ∈ dropT sp nm) : x ∈ sp := (List.mem_filter.1 h).1
theorem mem_put {sp : List Sig} {t x : Sig} (h : x ∈ putT sp t) : x = t ∨ x ∈ sp := (mem_ins.1 h).imp id mem_drop
/-! ### another file's -/
theorem findT_upd {sp : List Sig} {nm n : List UInt8} {t' : Sig} (ht : t'.nm = nm) (hn : n ≠ nm) : findT (upd sp nm t') n = findT sp n := by
  induction sp with
  | nil => rfl
  | cons y r ih =>
    have h3 : upd (y :: r) nm t' = (if y.nm == nm then t' else y) :: upd r nm t' := rfl
    rw [h3, findT_cons, findT_cons, ih]
    by_cases e : y.nm = nm
    · have h1 : (y.nm == nm) = true := by simp [e]
      rw [h1]
      simp only [if_true]
      rw [if_neg (by rw [ht]; exact fun hh => hn hh.symm), if_neg (by rw [e]; exact fun hh => hn hh.symm)]
    · have h1 : (y.nm == nm) = false := by rw [beq_eq_false_iff_ne]; exact e
      rw [h1]
      simp
theorem findT_drop {sp : List Sig} {nm n : List UInt8} (hn : n ≠ nm) : findT (dropT sp nm) n = findT sp n := by
  unfold dropT
  induction sp with
  | nil => rfl
  | cons y r ih =>
    rw [List.filter_cons]
    by_cases e : y.nm = nm
    · have h1 : (!(y.nm == nm)) = false := by simp [e]
      have h2 : y.nm ≠ n := by rw [e]; exact fun hh => hn hh.symm
      rw [h1, findT_cons]
      simp only [Bool.false_eq_true, if_false, if_neg h2]
      exact ih
    · have h1 : (!(y.nm == nm)) = true := by simp [e]
      rw [h1]
      simp only [if_true]
      rw [findT_cons, findT_cons, ih]
theorem findT_ins {sp : List Sig} {n : List UInt8} {t : Sig} (hn : n ≠ t.nm) : findT (insT t sp) n = findT sp n := by
  induction sp with
  | nil => rw [insT, findT_cons, if_neg (fun hh => hn hh.symm)]
  | cons y r ih =>
    rw [insT]
    split
    · rw [findT_cons, if_neg (fun hh => hn hh.symm)]
    · rw [findT_cons, findT_cons, ih]
theorem findT_put {sp : List Sig} {n : List UInt8} {t : Sig} (hn : n ≠ t.nm) : findT (putT sp t) n = findT sp n := by
  unfold putT
  rw [findT_ins hn, findT_drop hn]
theorem create_other (A : Ab) (s : ByteArray) {n : List UInt8} (hn : n ≠ nameOf s) : findT (createM A s).2.sp n = findT A.sp n := by
  unfold createM
  split
  · split
    · split
      · rfl
      · exact findT_put (t := ⟨nameOf s, [], 0, []⟩) hn
    · exact findT_put (t := ⟨nameOf s, [], 0, []⟩) hn
  · rfl
theorem append_other (A : Ab) (s : ByteArray) (l : List UInt8) {n : List UInt8} (hn : n ≠ nameOf s) : findT (appendM A s l).2.sp n = findT A.sp n := by
  unfold appendM
  split
  · split
    · rfl
    · split
      · rfl
      · exact findT_upd rfl hn
  · rfl
theorem sync_other (A : Ab) (s : ByteArray) {n : List UInt8} (hn : n ≠ nameOf s) : findT (syncM A s).2.sp n = findT A.sp n := by
  unfold syncM
  split
  · split
    · rfl
    · exact findT_upd rfl hn
  · rfl
theorem remove_other (A : Ab) (s : ByteArray) {n : List UInt8} (hn : n ≠ nameOf s) : findT (removeM A s).2.sp n = findT A.sp n := by
  unfold removeM
  split
  · split
    · rfl
    · exact findT_drop hn
  · rfl
theorem rename_other (A : Ab) (s u : ByteArray) {n : List UInt8} (hn : n ≠ nameOf s) (hu : n ≠ nameOf u) : findT (renameM A s u).2.sp n = findT A.sp n := by
  unfold renameM
  split
  · split
    · rfl
    · rename_i t _
      exact (findT_put (t := ⟨nameOf u, t.bs, t.wr, t.pl⟩) hu).trans (findT_drop hn)
  · rfl
theorem spoil_other (A : Ab) (s : ByteArray) (i k : Int) {n : List UInt8} (hn : n ≠ nameOf s) : findT (spoilM A s i k).2.sp n = findT A.sp n := by
  unfold spoilM
  split
  · split
    · rfl
    · split
      · rfl
      · exact findT_upd rfl hn
  · rfl

/-- What holds on a law's road, where nothing is planned: at most k operations so far. -/
structure Ab.Inv (A : Ab) (k : Nat) : Prop where
  wr : ∀ t ∈ A.sp, t.wr ≤ t.bs.length
  rise : ∀ t ∈ A.sp, t.pl.Pairwise (· < ·)
  ahead : ∀ t ∈ A.sp, ∀ q ∈ t.pl, q < A.next
  few : ∀ t ∈ A.sp, t.pl.length ≤ (t.bs.length + 15) / 16
  room : A.room ≤ 1073741824
  used : usedT A.sp ≤ A.room
  ops : A.ops ≤ k
  next : A.next ≤ 1073741824 * k
  left : A.left = 0
  on : A.on = true
theorem dirty_used {sp : List Sig} (h : ∀ t ∈ sp, t.pl.length ≤ (t.bs.length + 15) / 16) : dirtyT sp ≤ usedT sp := by
  unfold dirtyT usedT
  induction sp with
  | nil => exact Nat.le_refl _
  | cons y r ih =>
    simp only [List.map_cons, List.sum_cons]
    have h1 := h y List.mem_cons_self
    have h2 := ih fun t ht => h t (List.mem_cons_of_mem _ ht)
    omega
section
variable {A : Ab} {k : Nat}
theorem Ab.Inv.len (h : A.Inv k) {t : Sig} (ht : t ∈ A.sp) : t.bs.length ≤ 17179869184 := by
  have h1 := used_len ht
  have h2 := h.used
  have h3 := h.room
  omega
theorem Ab.Inv.fine (h : A.Inv k) : A.Fine := by
  have h2 := h.used
  have h3 := h.room
  have h4 := dirty_used h.few
  exact ⟨h.wr, fun t ht => by have := h.len ht; omega, h.rise, h.ahead, h.room, by omega, by omega⟩
theorem Ab.Inv.more (h : A.Inv k) {k' : Nat} (hk : k ≤ k') : A.Inv k' := ⟨h.wr, h.rise, h.ahead, h.few, h.room, h.used, by have := h.ops; omega, by have := h.next; omega, h.left, h.on⟩
theorem Ab.Inv.left1 (h : A.Inv k) : A.left ≠ 1 := by rw [h.left]; omega
theorem Ab.Inv.left2 (h : A.Inv k) : A.left ≤ 9223372036854775807 := by rw [h.left]; omega
theorem Ab.Inv.ops1 (h : A.Inv k) (hk : k ≤ 1000000) : A.ops ≤ 4611686018427387904 := by have := h.ops; omega
theorem Ab.Inv.next1 (h : A.Inv k) (hk : k ≤ 1000000) : A.next ≤ 4611686018427387904 := by have := h.next; omega
theorem newA_inv (room : Nat) (hr : room ≤ 1073741824) : (newA room).Inv 0 := ⟨by simp [newA], by simp [newA], by simp [newA], by simp [newA], hr, Nat.zero_le _, Nat.le_refl _, Nat.zero_le _, rfl, rfl⟩
theorem crT_inv (h : A.Inv k) (nm : List UInt8) (hu : usedT (dropT A.sp nm) + 1 ≤ A.room) : (crT A nm).Inv (k + 1) := by
  have hm : ∀ t ∈ (crT A nm).sp, t = ⟨nm, [], 0, []⟩ ∨ t ∈ A.sp := fun t ht => mem_put ht
  refine ⟨fun t ht => ?_, fun t ht => ?_, fun t ht => ?_, fun t ht => ?_, h.room, ?_, by have := h.ops; show A.ops + 1 ≤ _; omega, by have := h.next; show A.next ≤ _; omega, by show A.left - 1 = 0; rw [h.left], h.on⟩
  · rcases hm t ht with rfl | h1
    · exact Nat.le_refl _
    · exact h.wr t h1
  · rcases hm t ht with rfl | h1
    · exact List.Pairwise.nil
    · exact h.rise t h1
  · rcases hm t ht with rfl | h1
    · intro q hq; cases hq
    · exact h.ahead t h1
  · rcases hm t ht with rfl | h1
    · exact Nat.zero_le _
    · exact h.few t h1
  · show usedT (putT A.sp ⟨nm, [], 0, []⟩) ≤ A.room
    unfold putT
    rw [usedT_ins]
    have : uT ⟨nm, [], 0, []⟩ = 1 := by simp [uT]
    rw [this]
    show 1 + usedT (dropT A.sp nm) ≤ _
    omega
theorem createM_inv (h : A.Inv k) (s : ByteArray) : (createM A s).2.Inv (k + 1) := by
  unfold createM
  split
  · split
    · split
      · exact h.more (by omega)
      · rename_i hu
        exact crT_inv h _ (by have := usedT_drop A.sp (nameOf s); omega)
    · rename_i t ht
      refine crT_inv h _ ?_
      have h1 := usedT_drop_found ht
      have h2 := h.used
      have h3 : 1 ≤ uT t := by unfold uT; omega
      omega
  · exact h.more (by omega)
theorem syncM_inv (h : A.Inv k) (hN : A.sp.Pairwise fun x y => x.nm ≠ y.nm) (s : ByteArray) : (syncM A s).2.Inv (k + 1) := by
  unfold syncM
  split
  · split
    · exact h.more (by omega)
    · rename_i t ht
      have hm : ∀ x ∈ (syT A (nameOf s) t).sp, x = ⟨nameOf s, t.bs, t.bs.length, []⟩ ∨ x ∈ A.sp := fun x hx => mem_upd hx
      refine ⟨fun x hx => ?_, fun x hx => ?_, fun x hx => ?_, fun x hx => ?_, h.room, ?_, by have := h.ops; show A.ops + 1 ≤ _; omega, by have := h.next; show A.next ≤ _; omega, by show A.left - 1 = 0; rw [h.left], h.on⟩
      · rcases hm x hx with rfl | h1
        · exact Nat.le_refl _
        · exact h.wr x h1
      · rcases hm x hx with rfl | h1
        · exact List.Pairwise.nil
        · exact h.rise x h1
      · rcases hm x hx with rfl | h1
        · intro q hq; cases hq
        · exact h.ahead x h1
      · rcases hm x hx with rfl | h1
        · exact Nat.zero_le _
        · exact h.few x h1
      · have h1 := usedT_upd hN ht ⟨nameOf s, t.bs, t.bs.length, []⟩
        have h2 : uT ⟨nameOf s, t.bs, t.bs.length, []⟩ = uT t := rfl
        have h3 := h.used
        show usedT (upd A.sp (nameOf s) ⟨nameOf s, t.bs, t.bs.length, []⟩) ≤ A.room
        omega
  · exact h.more (by omega)
theorem spoilM_inv (h : A.Inv k) (hN : A.sp.Pairwise fun x y => x.nm ≠ y.nm) (s : ByteArray) (i j : Int) : (spoilM A s i j).2.Inv (k + 1) := by
  unfold spoilM
  split
  · split
    · exact h.more (by omega)
    · rename_i t ht
      split
      · exact h.more (by omega)
      · have ht1 := (findT_mem ht).1
        generalize hb : t.bs.set i.toNat (flipB (t.bs.getD i.toNat 0) j.toNat) = bs
        have hbl : bs.length = t.bs.length := by rw [← hb, List.length_set]
        have he : (spT A (nameOf s) t i.toNat j.toNat).sp = upd A.sp (nameOf s) ⟨nameOf s, bs, t.wr, t.pl⟩ := by rw [← hb]; rfl
        have hm : ∀ x ∈ (spT A (nameOf s) t i.toNat j.toNat).sp, x = ⟨nameOf s, bs, t.wr, t.pl⟩ ∨ x ∈ A.sp := fun x hx => mem_upd (he ▸ hx)
        refine ⟨fun x hx => ?_, fun x hx => ?_, fun x hx => ?_, fun x hx => ?_, h.room, ?_, by have := h.ops; show A.ops ≤ _; omega, by have := h.next; show A.next ≤ _; omega, h.left, h.on⟩
        · rcases hm x hx with rfl | h1
          · have := h.wr t ht1; show t.wr ≤ bs.length; omega
          · exact h.wr x h1
        · rcases hm x hx with rfl | h1
          · exact h.rise t ht1
          · exact h.rise x h1
        · rcases hm x hx with rfl | h1
          · exact h.ahead t ht1
          · exact h.ahead x h1
        · rcases hm x hx with rfl | h1
          · have := h.few t ht1; show t.pl.length ≤ (bs.length + 15) / 16; omega
          · exact h.few x h1
        · have h1 := usedT_upd hN ht ⟨nameOf s, bs, t.wr, t.pl⟩
          have h2 : uT ⟨nameOf s, bs, t.wr, t.pl⟩ = uT t := by show 1 + (bs.length + 15) / 16 = 1 + (t.bs.length + 15) / 16; rw [hbl]
          have h3 := h.used
          rw [he]
          show usedT (upd A.sp (nameOf s) ⟨nameOf s, bs, t.wr, t.pl⟩) ≤ A.room
          omega
  · exact h.more (by omega)
theorem removeM_inv (h : A.Inv k) (s : ByteArray) : (removeM A s).2.Inv (k + 1) := by
  unfold removeM
  split
  · split
    · exact h.more (by omega)
    · have hm : ∀ x ∈ (rmT A (nameOf s)).sp, x ∈ A.sp := fun x hx => mem_drop hx
      exact ⟨fun x hx => h.wr x (hm x hx), fun x hx => h.rise x (hm x hx), fun x hx => h.ahead x (hm x hx), fun x hx => h.few x (hm x hx), h.room, Nat.le_trans (usedT_drop _ _) h.used, by have := h.ops; show A.ops + 1 ≤ _; omega, by have := h.next; show A.next ≤ _; omega, by show A.left - 1 = 0; rw [h.left], h.on⟩
  · exact h.more (by omega)
theorem renameM_inv (h : A.Inv k) (s u : ByteArray) : (renameM A s u).2.Inv (k + 1) := by
  unfold renameM
  split
  · split
    · exact h.more (by omega)
    · rename_i t ht
      have ht1 := (findT_mem ht).1
      have hm : ∀ x ∈ (rnT A (nameOf s) (nameOf u) t).sp, x = ⟨nameOf u, t.bs, t.wr, t.pl⟩ ∨ x ∈ A.sp := fun x hx => (mem_put hx).imp id mem_drop
      refine ⟨fun x hx => ?_, fun x hx => ?_, fun x hx => ?_, fun x hx => ?_, h.room, ?_, by have := h.ops; show A.ops + 1 ≤ _; omega, by have := h.next; show A.next ≤ _; omega, by show A.left - 1 = 0; rw [h.left], h.on⟩
      · rcases hm x hx with rfl | h1
        · exact h.wr t ht1
        · exact h.wr x h1
      · rcases hm x hx with rfl | h1
        · exact h.rise t ht1
        · exact h.rise x h1
      · rcases hm x hx with rfl | h1
        · exact h.ahead t ht1
        · exact h.ahead x h1
      · rcases hm x hx with rfl | h1
        · exact h.few t ht1
        · exact h.few x h1
      · have h1 := usedT_drop_found ht
        have h2 := h.used
        have h4 := usedT_drop (dropT A.sp (nameOf s)) (nameOf u)
        show usedT (putT (dropT A.sp (nameOf s)) ⟨nameOf u, t.bs, t.wr, t.pl⟩) ≤ A.room
        unfold putT
        rw [usedT_ins]
        have h3 : uT ⟨nameOf u, t.bs, t.wr, t.pl⟩ = uT t := rfl
        rw [h3]
        show uT t + usedT (dropT (dropT A.sp (nameOf s)) (nameOf u)) ≤ _
        omega
  · exact h.more (by omega)
theorem growT_few (t : Sig) (l : List UInt8) (h : t.pl.length ≤ (t.bs.length + 15) / 16) : t.pl.length + growT t l ≤ (t.bs.length + l.length + 15) / 16 := by
  unfold growT growN
  split
  · omega
  · omega
theorem appendM_inv (h : A.Inv k) (hN : A.sp.Pairwise fun x y => x.nm ≠ y.nm) (s : ByteArray) (l : List UInt8) : (appendM A s l).2.Inv (k + 1) := by
  unfold appendM
  split
  · split
    · exact h.more (by omega)
    · rename_i t ht
      split
      · exact h.more (by omega)
      · rename_i hroom
        have ht1 := (findT_mem ht).1
        have hf := growT_few t l (h.few t ht1)
        generalize hg : growT t l = g at hf
        have hb : (t.bs ++ l).length = t.bs.length + l.length := List.length_append
        have he : (appT A (nameOf s) t l).sp = upd A.sp (nameOf s) ⟨nameOf s, t.bs ++ l, t.wr, t.pl ++ List.range' A.next g⟩ := by rw [← hg]; rfl
        have hnx : (appT A (nameOf s) t l).next = A.next + g := by rw [← hg]; rfl
        have hm : ∀ x ∈ (appT A (nameOf s) t l).sp, x = ⟨nameOf s, t.bs ++ l, t.wr, t.pl ++ List.range' A.next g⟩ ∨ x ∈ A.sp := fun x hx => mem_upd (he ▸ hx)
        have h1 := usedT_upd hN ht ⟨nameOf s, t.bs ++ l, t.wr, t.pl ++ List.range' A.next g⟩
        have h2 : uT ⟨nameOf s, t.bs ++ l, t.wr, t.pl ++ List.range' A.next g⟩ = 1 + (t.bs.length + l.length + 15) / 16 := by show 1 + ((t.bs ++ l).length + 15) / 16 = _; rw [hb]
        have h3 : lackT t l = (((t.bs.length + l.length + 15) / 16 : Nat) : Int) - (((t.bs.length + 15) / 16 : Nat) : Int) := by
          unfold lackT
          have a1 := secI_nat (t.bs.length + l.length)
          have a2 := secI_nat t.bs.length
          rw [← a1, ← a2]
          simp
        have h4 : uT t = 1 + (t.bs.length + 15) / 16 := rfl
        have h5 : usedT (appT A (nameOf s) t l).sp ≤ A.room := by
          rw [he]
          omega
        have h6 := h.room
        have h7 := h.used
        have h8 := used_len ht1
        refine ⟨fun x hx => ?_, fun x hx => ?_, fun x hx => ?_, fun x hx => ?_, h.room, h5, by have := h.ops; show A.ops + 1 ≤ _; omega, ?_, by show A.left - 1 = 0; rw [h.left], h.on⟩
        · rcases hm x hx with rfl | h1
          · have := h.wr t ht1; show t.wr ≤ (t.bs ++ l).length; omega
          · exact h.wr x h1
        · rcases hm x hx with rfl | h1
          · show (t.pl ++ List.range' A.next g).Pairwise (· < ·)
            rw [List.pairwise_append]
            refine ⟨h.rise t ht1, List.pairwise_lt_range', fun a ha b hb' => ?_⟩
            have := h.ahead t ht1 a ha
            have := (List.mem_range'_1.1 hb').1
            omega
          · exact h.rise x h1
        · rcases hm x hx with rfl | h1
          · intro q hq
            rw [hnx]
            rcases List.mem_append.1 hq with h1 | h1
            · have := h.ahead t ht1 q h1; omega
            · have := (List.mem_range'_1.1 h1).2; omega
          · intro q hq
            have := h.ahead x h1 q hq
            rw [hnx]
            omega
        · rcases hm x hx with rfl | h1
          · show (t.pl ++ List.range' A.next g).length ≤ ((t.bs ++ l).length + 15) / 16
            rw [List.length_append, List.length_range', hb]
            exact hf
          · exact h.few x h1
        · have := h.next
          rw [hnx]
          omega
  · exact h.more (by omega)
end
theorem At.names {d : Nat} {A : Ab} {ft : List Nat} {w : World} (h : At d A ft w) : A.sp.Pairwise fun x y => x.nm ≠ y.nm := by
  obtain ⟨bm, fs, hD, hs, _⟩ := h
  rw [← hs, List.pairwise_map]
  exact hD.names
end Go.Proofs.YtglaocghcgcghaaGreatDoor
namespace Go.Proofs.YtglaocghcgcghaaGreatDoor
open Go.RowKit

/-- An int without a sign. -/
def zigZ (n : Int) : Int := if n < 0 then -2 * n - 1 else 2 * n
/-- The other way round. -/
def zagZ (u : Int) : Int := if u % 2 = 1 then -(u / 2) - 1 else u / 2

theorem zigZ_bd (n : Int) (h1 : -9223372036854775808 ≤ n) (h2 : n ≤ 9223372036854775807) : 0 ≤ zigZ n ∧ zigZ n ≤ 18446744073709551615 := by
  unfold zigZ; split <;> omega
theorem zagZ_bd (u : Int) (h1 : 0 ≤ u) (h2 : u ≤ 18446744073709551615) : -9223372036854775808 ≤ zagZ u ∧ zagZ u ≤ 9223372036854775807 := by
  unfold zagZ; split <;> omega
theorem zag_zig (n : Int) : zagZ (zigZ n) = n := by unfold zigZ zagZ; split <;> split <;> omega
theorem zig_zag (u : Int) (h1 : 0 ≤ u) : zigZ (zagZ u) = u := by unfold zigZ zagZ; split <;> split <;> omega

theorem xor_ones (a : Nat) (ha : a < 18446744073709551616) : a ^^^ 18446744073709551615 = 18446744073709551615 - a := by
  have h : (BitVec.ofNat 64 a ^^^ BitVec.allOnes 64).toNat = (~~~ BitVec.ofNat 64 a).toNat := by rw [BitVec.xor_allOnes]
  rw [BitVec.toNat_xor, BitVec.toNat_not, BitVec.toNat_allOnes, BitVec.toNat_ofNat, Nat.mod_eq_of_lt (by omega)] at h
  exact h

/-- What Zig's text reckons is zigZ. -/
theorem zig_text (n : Int) (h1 : -9223372036854775808 ≤ n) (h2 : n ≤ 9223372036854775807) :
    bits BinOp.xor IntKind.u64 (IntKind.u64.wrap (IntKind.u64.wrap n * 2)) (IntKind.u64.wrap (n / 9223372036854775808)) = zigZ n := by
  unfold zigZ
  by_cases h : n < 0
  · rw [if_pos h, PlainAid.shr63_neg h h1, IntKind.wrap_u64, IntKind.wrap_u64, IntKind.wrap_u64, u64_xor _ _ (by omega) (by omega) (by omega) (by omega)]
    have e1 : (n % 18446744073709551616 * 2 % 18446744073709551616).toNat = (2 * n + 18446744073709551616).toNat := by omega
    have e2 : ((-1 : Int) % 18446744073709551616).toNat = 18446744073709551615 := by decide
    rw [e1, e2, xor_ones _ (by omega)]
    omega
  · rw [if_neg h, PlainAid.shr63_nonneg (by omega) h2, IntKind.wrap_u64, IntKind.wrap_u64, IntKind.wrap_u64, u64_xor _ _ (by omega) (by omega) (by omega) (by omega)]
    have e2 : ((0 : Int) % 18446744073709551616).toNat = 0 := by decide
    rw [e2, Nat.xor_zero]
    omega

/-! ### The sum. -/
def tabZ : List Int := [0, 498536548, 997073096, 651767980, 1994146192, 1802195444, 1303535960, 1342533948, 3988292384, 4027552580, 3604390888, 3412177804, 2607071920, 2262029012, 2685067896, 3183342108]
/-- Four steps of the sum at once. -/
def fourZ (s : Int) : Int := bits BinOp.xor IntKind.u32 (s / 16) (tabZ.getD (s % 16).toNat 0)
/-- The sum goes on by one byte. -/
def byteZ (s x : Int) : Int := fourZ (fourZ (bits BinOp.xor IntKind.u32 s x))
def sumOnZ (s : Int) (l : List UInt8) : Int := l.foldl (fun s b => byteZ s (b.toNat : Int)) s

theorem bits_u32 (op : BinOp) (x y : Int) : 0 ≤ bits op IntKind.u32 x y ∧ bits op IntKind.u32 x y ≤ 4294967295 := by
  exact bounds_u32 (wf_bits op .u32 x y)
theorem fourZ_bd (s : Int) : 0 ≤ fourZ s ∧ fourZ s ≤ 4294967295 := bits_u32 _ _ _
theorem byteZ_bd (s x : Int) : 0 ≤ byteZ s x ∧ byteZ s x ≤ 4294967295 := fourZ_bd _
theorem sumOnZ_bd (s : Int) (l : List UInt8) (h : 0 ≤ s ∧ s ≤ 4294967295) : 0 ≤ sumOnZ s l ∧ sumOnZ s l ≤ 4294967295 := by
  unfold sumOnZ
  induction l generalizing s with
  | nil => exact h
  | cons x l ih => exact ih _ (byteZ_bd s _)
theorem sumOnZ_take (s : Int) (l : List UInt8) (k : Nat) (h : k < l.length) : sumOnZ s (l.take (k + 1)) = byteZ (sumOnZ s (l.take k)) ((l.getD k 0).toNat : Int) := by
  unfold sumOnZ
  rw [List.take_succ_eq_append_getElem h, List.foldl_append]
  simp [List.getD, h]
/-- The bytes' sum. -/
def sumZ (l : List UInt8) : Int := 4294967295 - sumOnZ 4294967295 l
theorem not_u32 (a : Int) (h0 : 0 ≤ a) (h1 : a ≤ 4294967295) : bits BinOp.xor IntKind.u32 IntKind.u32.max a = 4294967295 - a := by
  show bits BinOp.xor IntKind.u32 4294967295 a = 4294967295 - a
  rw [u32_xor _ _ (by omega) (by omega) (by omega) (by omega)]
  have h : (BitVec.allOnes 32 ^^^ BitVec.ofNat 32 a.toNat).toNat = (~~~ BitVec.ofNat 32 a.toNat).toNat := by rw [BitVec.allOnes_xor]
  rw [BitVec.toNat_xor, BitVec.toNat_not, BitVec.toNat_allOnes, BitVec.toNat_ofNat, Nat.mod_eq_of_lt (by omega)] at h
  have e : (4294967295 : Int).toNat = 2 ^ 32 - 1 := by decide
  rw [e, h]
  omega
theorem sumOnZ_append (s : Int) (a b : List UInt8) : sumOnZ s (a ++ b) = sumOnZ (sumOnZ s a) b := List.foldl_append
theorem sumZ_bd (l : List UInt8) : 0 ≤ sumZ l ∧ sumZ l ≤ 4294967295 := by
  have := sumOnZ_bd 4294967295 l ⟨by decide, by decide⟩
  unfold sumZ; omega

/-! ### Numbers in bytes. -/
/-- A number to base 128, the least digit first, at most k + 1 digits. -/
def numF : Nat → Nat → List UInt8
  | 0, u => [UInt8.ofNat u]
  | k + 1, u => if u < 128 then [UInt8.ofNat u] else UInt8.ofNat (u % 128 + 128) :: numF k (u / 128)
def numL (u : Nat) : List UInt8 := numF 9 u
theorem numF_small (k u : Nat) (h : u < 128) : numF k u = [UInt8.ofNat u] := by
  cases k with
  | zero => rfl
  | succ k => rw [numF, if_pos h]
theorem numF_great (k u : Nat) (h : 128 ≤ u) : numF (k + 1) u = UInt8.ofNat (u % 128 + 128) :: numF k (u / 128) := by
  rw [numF, if_neg (by omega)]
theorem numF_length (k u : Nat) : 1 ≤ (numF k u).length ∧ (numF k u).length ≤ k + 1 := by
  induction k generalizing u with
  | zero => exact ⟨Nat.le_refl _, Nat.le_refl _⟩
  | succ k ih =>
    unfold numF
    split
    · exact ⟨by simp, by simp⟩
    · have := ih (u / 128)
      simp only [List.length_cons]
      omega
theorem numL_length (u : Nat) : 1 ≤ (numL u).length ∧ (numL u).length ≤ 10 := numF_length 9 u
/-- Of u the digits d are written; x is left. -/
structure NumAt (u : Nat) (d : List UInt8) (x : Nat) : Prop where
  ex : ∃ k, numL u = d ++ numF k x ∧ d.length + k = 9 ∧ x < 2 * 128 ^ k
theorem NumAt.start {u : Nat} (h : u < 18446744073709551616) : NumAt u [] u := ⟨9, rfl, rfl, h⟩
theorem NumAt.step {u x : Nat} {d : List UInt8} (h : NumAt u d x) (hx : 128 ≤ x) : NumAt u (d ++ [UInt8.ofNat (x % 128 + 128)]) (x / 128) := by
  obtain ⟨k, h1, h2, h3⟩ := h.ex
  cases k with
  | zero => omega
  | succ k =>
    refine ⟨k, ?_, ?_, ?_⟩
    · rw [h1, numF_great k x hx]; simp
    · simp; omega
    · rw [Nat.div_lt_iff_lt_mul (by omega)]
      rw [Nat.pow_succ] at h3
      omega
theorem NumAt.done {u x : Nat} {d : List UInt8} (h : NumAt u d x) (hx : x < 128) : numL u = d ++ [UInt8.ofNat x] := by
  obtain ⟨k, h1, _, _⟩ := h.ex
  rw [h1, numF_small k x hx]
theorem NumAt.len {u x : Nat} {d : List UInt8} (h : NumAt u d x) : d.length ≤ 9 := by
  obtain ⟨k, _, h2, _⟩ := h.ex
  omega
theorem NumAt.bd {u x : Nat} {d : List UInt8} (h : NumAt u d x) : (x : Int) ≤ 18446744073709551615 := by
  obtain ⟨k, _, h2, h3⟩ := h.ex
  have h4 : 128 ^ k ≤ 128 ^ 9 := Nat.pow_le_pow_right (by omega) (by omega)
  have h5 : 2 * 128 ^ 9 = 18446744073709551616 := by decide
  omega
theorem byte_val (x : Nat) (h : x < 256) : ((UInt8.ofNat x).toNat : Int) = (x : Int) := by
  simp; omega

/-! ### Words of four bytes. -/
def fourL (x : Nat) : List UInt8 := [UInt8.ofNat (x / 16777216), UInt8.ofNat (x / 65536), UInt8.ofNat (x / 256), UInt8.ofNat x]
/-- The first k bytes of a word, laid from a place on. -/
def layL (l : List UInt8) (off : Nat) (x k : Nat) : List UInt8 := l.take off ++ (fourL x).take k ++ l.drop (off + k)
theorem layL_zero (l : List UInt8) (off x : Nat) : layL l off x 0 = l := by simp [layL]
theorem layL_length (l : List UInt8) (off x k : Nat) (hk : k ≤ 4) (h : off + k ≤ l.length) : (layL l off x k).length = l.length := by
  simp [layL, fourL]; omega
theorem layL_step (l : List UInt8) (off x k : Nat) (hk : k < 4) (h : off + k < l.length) : (layL l off x k).set (off + k) ((fourL x).getD k 0) = layL l off x (k + 1) := by
  unfold layL
  have hf : k < (fourL x).length := by simp [fourL]; omega
  have h1 : (List.take off l).length = off := by simp; omega
  have h2 : (List.take k (fourL x)).length = k := by simp [fourL]; omega
  rw [List.append_assoc, List.set_append_right _ _ (by omega), h1, Nat.add_sub_cancel_left, List.set_append_right _ _ (by omega), h2, Nat.sub_self, List.take_succ_eq_append_getElem hf, List.append_assoc, List.append_assoc,
    List.drop_eq_getElem_cons h, List.set_cons_zero]
  simp [List.getD, hf, Nat.add_assoc]
/-- A frame: the count, the sum of the count and the content, the content. -/
def frameL (l : List UInt8) : List UInt8 := fourL l.length ++ (fourL (sumZ (fourL l.length ++ l)).toNat ++ l)
theorem fourL_length (x : Nat) : (fourL x).length = 4 := rfl
theorem frameL_length (l : List UInt8) : (frameL l).length = l.length + 8 := by simp [frameL, fourL]
end Go.Proofs.YtglaocghcgcghaaGreatDoor
