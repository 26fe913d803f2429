/-
  SEVERAL TEXTS IN ONE: DskInv, DskNamesWalk.
-/
import Derived.Test.YtgkdodcidancpaaGreatDoorMany17
import Derived.Test.YtgkdodcidancpaaGreatDoorMany15
namespace Go.Proofs.YtgkdodcidancpaaGreatDoor
open Go.RowKit Go.Maps

def uT (t : Sig) : Nat := 1 + (t.bs.length + 15) / 16
theorem usedT_cons (t : Sig) (r : List Sig) : usedT (t :: r) = uT t + usedT r := by unfold usedT uT; simp
theorem usedT_nil : usedT [] = 0 := rfl
theorem usedT_ins (t : Sig) (sp : List Sig) : usedT (insT t sp) = uT t + usedT sp := by
  induction sp with
  | nil => rw [insT, usedT_cons]
  | cons y r ih =>
    rw [insT]
    split
    · rw [usedT_cons]
    · rw [usedT_cons, ih, usedT_cons]; omega
theorem usedT_drop (sp : List Sig) (nm : List UInt8) : usedT (dropT sp nm) ≤ usedT sp := by
  unfold dropT
  induction sp with
  | nil => exact Nat.le_refl _
  | cons y r ih =>
    rw [List.filter_cons]
    split
    · rw [usedT_cons, usedT_cons]; omega
    · rw [usedT_cons]; omega
theorem findT_cons (y : Sig) (r : List Sig) (nm : List UInt8) : findT (y :: r) nm = if y.nm = nm then some y else findT r nm := by
  unfold findT
  rw [List.find?_cons]
  by_cases h : y.nm = nm
  · simp [h]
  · have : (y.nm == nm) = false := by rw [beq_eq_false_iff_ne]; exact h
    simp [h, this]
theorem usedT_drop_found {sp : List Sig} {nm : List UInt8} {t : Sig} (h : findT sp nm = some t) : usedT (dropT sp nm) + uT t ≤ usedT sp := by
  induction sp with
  | nil => cases h
  | cons y r ih =>
    rw [findT_cons] at h
    unfold dropT at ih ⊢
    rw [List.filter_cons]
    by_cases e : y.nm = nm
    · rw [if_pos e] at h
      cases h
      have : (!(t.nm == nm)) = false := by simp [e]
      rw [this, usedT_cons]
      have := usedT_drop r nm
      unfold dropT at this
      simp only [Bool.false_eq_true, if_false]
      omega
    · rw [if_neg e] at h
      have hn : (y.nm == nm) = false := by rw [beq_eq_false_iff_ne]; exact e
      have := ih h
      rw [hn, usedT_cons]
      simp only [Bool.not_false, if_true]
      rw [usedT_cons]
      omega
theorem upd_none {sp : List Sig} {nm : List UInt8} {t' : Sig} (h : ∀ x ∈ sp, x.nm ≠ nm) : upd sp nm t' = sp := by
  unfold upd
  rw [List.map_congr_left (g := id), List.map_id]
  intro x hx
  have : (x.nm == nm) = false := by rw [beq_eq_false_iff_ne]; exact h x hx
  simp [this]
theorem usedT_upd {sp : List Sig} (hN : sp.Pairwise fun x y => x.nm ≠ y.nm) {nm : List UInt8} {t : Sig} (h : findT sp nm = some t) (t' : Sig) : usedT (upd sp nm t') + uT t = usedT sp + uT t' := by
  induction sp with
  | nil => cases h
  | cons y r ih =>
    rw [findT_cons] at h
    rw [List.pairwise_cons] at hN
    by_cases e : y.nm = nm
    · rw [if_pos e] at h
      cases h
      have hr : upd r nm t' = r := upd_none fun x hx hh => hN.1 x hx (e.trans hh.symm)
      have : upd (t :: r) nm t' = t' :: r := by
        have h2 : upd (t :: r) nm t' = (if t.nm == nm then t' else t) :: upd r nm t' := rfl
        rw [h2, hr, e]
        simp
      rw [this, usedT_cons, usedT_cons]
      omega
    · rw [if_neg e] at h
      have hn : (y.nm == nm) = false := by rw [beq_eq_false_iff_ne]; exact e
      have h2 : upd (y :: r) nm t' = y :: upd r nm t' := by
        have h3 : upd (y :: r) nm t' = (if y.nm == nm then t' else y) :: upd r nm t' := rfl
        rw [h3, hn]
        simp
      have := ih hN.2 h
      rw [h2, usedT_cons, usedT_cons]
      omega
theorem mem_upd {sp : List Sig} {nm : List UInt8} {t' x : Sig} (h : x ∈ upd sp nm t') : x = t' ∨ x ∈ sp := by
  obtain ⟨y, hy, rfl⟩ := List.mem_map.1 h
  split
  · exact .inl rfl
  · exact .inr hy
theorem mem_ins {sp : List Sig} {t x : Sig} : x ∈ insT t sp ↔ x = t ∨ x ∈ sp := by
  induction sp with
  | nil => simp [insT]
  | cons y r ih =>
    rw [insT]
    split
    · simp
    · simp only [List.mem_cons, ih]
      constructor
      · rintro (h | h | h)
        · exact .inr (.inl h)
        · exact .inl h
        · exact .inr (.inr h)
      · rintro (h | h | h)
        · exact .inr (.inl h)
        · exact .inl h
        · exact .inr (.inr h)
theorem mem_drop {sp : List Sig} {nm : List UInt8} {x : Sig} (h : x ∈ dropT sp nm) : x ∈ sp := (List.mem_filter.1 h).1
theorem mem_put {sp : List Sig} {t x : Sig} (h : x ∈ putT sp t) : x = t ∨ x ∈ sp := (mem_ins.1 h).imp id mem_drop
/-! ### another file's -/
theorem findT_upd {sp : List Sig} {nm n : List UInt8} {t' : Sig} (ht : t'.nm = nm) (hn : n ≠ nm) : findT (upd sp nm t') n = findT sp n := by
  induction sp with
  | nil => rfl
  | cons y r ih =>
    have h3 : upd (y :: r) nm t' = (if y.nm == nm then t' else y) :: upd r nm t' := rfl
    rw [h3, findT_cons, findT_cons, ih]
    by_cases e : y.nm = nm
    · have h1 : (y.nm == nm) = true := by simp [e]
      rw [h1]
      simp only [if_true]
      rw [if_neg (by rw [ht]; exact fun hh => hn hh.symm), if_neg (by rw [e]; exact fun hh => hn hh.symm)]
    · have h1 : (y.nm == nm) = false := by rw [beq_eq_false_iff_ne]; exact e
      rw [h1]
      simp
theorem findT_drop {sp : List Sig} {nm n : List UInt8} (hn : n ≠ nm) : findT (dropT sp nm) n = findT sp n := by
  unfold dropT
  induction sp with
  | nil => rfl
  | cons y r ih =>
    rw [List.filter_cons]
    by_cases e : y.nm = nm
    · have h1 : (!(y.nm == nm)) = false := by simp [e]
      have h2 : y.nm ≠ n := by rw [e]; exact fun hh => hn hh.symm
      rw [h1, findT_cons]
      simp only [Bool.false_eq_true, if_false, if_neg h2]
      exact ih
    · have h1 : (!(y.nm == nm)) = true := by simp [e]
      rw [h1]
      simp only [if_true]
      rw [findT_cons, findT_cons, ih]
theorem findT_ins {sp : List Sig} {n : List UInt8} {t : Sig} (hn : n ≠ t.nm) : findT (insT t sp) n = findT sp n := by
  induction sp with
  | nil => rw [insT, findT_cons, if_neg (fun hh => hn hh.symm)]
  | cons y r ih =>
    rw [insT]
    split
    · rw [findT_cons, if_neg (fun hh => hn hh.symm)]
    · rw [findT_cons, findT_cons, ih]
theorem findT_put {sp : List Sig} {n : List UInt8} {t : Sig} (hn : n ≠ t.nm) : findT (putT sp t) n = findT sp n := by
  unfold putT
  rw [findT_ins hn, findT_drop hn]
theorem create_other (A : Ab) (s : ByteArray) {n : List UInt8} (hn : n ≠ nameOf s) : findT (createM A s).2.sp n = findT A.sp n := by
  unfold createM
  split
  · split
    · split
      · rfl
      · exact findT_put (t := ⟨nameOf s, [], 0, []⟩) hn
    · exact findT_put (t := ⟨nameOf s, [], 0, []⟩) hn
  · rfl
theorem append_other (A : Ab) (s : ByteArray) (l : List UInt8) {n : List UInt8} (hn : n ≠ nameOf s) : findT (appendM A s l).2.sp n = findT A.sp n := by
  unfold appendM
  split
  · split
    · rfl
    · split
      · rfl
      · exact findT_upd rfl hn
  · rfl
theorem sync_other (A : Ab) (s : ByteArray) {n : List UInt8} (hn : n ≠ nameOf s) : findT (syncM A s).2.sp n = findT A.sp n := by
  unfold syncM
  split
  · split
    · rfl
    · exact findT_upd rfl hn
  · rfl
theorem remove_other (A : Ab) (s : ByteArray) {n : List UInt8} (hn : n ≠ nameOf s) : findT (removeM A s).2.sp n = findT A.sp n := by
  unfold removeM
  split
  · split
    · rfl
    · exact findT_drop hn
  · rfl
theorem rename_other (A : Ab) (s u : ByteArray) {n : List UInt8} (hn : n ≠ nameOf s) (hu : n ≠ nameOf u) : findT (renameM A s u).2.sp n = findT A.sp n := by
  unfold renameM
  split
  · split
    · rfl
    · rename_i t _
      exact (findT_put (t := ⟨nameOf u, t.bs, t.wr, t.pl⟩) hu).trans (findT_drop hn)
  · rfl
theorem spoil_other (A : Ab) (s : ByteArray) (i k : Int) {n : List UInt8} (hn : n ≠ nameOf s) : findT (spoilM A s i k).2.sp n = findT A.sp n := by
  unfold spoilM
  split
  · split
    · rfl
    · split
      · rfl
      · exact findT_upd rfl hn
  · rfl

/-- What holds on a law's road, where nothing is planned: at most k operations so far. -/
structure Ab.Inv (A : Ab) (k : Nat) : Prop where
  wr : ∀ t ∈ A.sp, t.wr ≤ t.bs.length
  rise : ∀ t ∈ A.sp, t.pl.Pairwise (· < ·)
  ahead : ∀ t ∈ A.sp, ∀ q ∈ t.pl, q < A.next
  few : ∀ t ∈ A.sp, t.pl.length ≤ (t.bs.length + 15) / 16
  room : A.room ≤ 1073741824
  used : usedT A.sp ≤ A.room
  ops : A.ops ≤ k
  next : A.next ≤ 1073741824 * k
  left : A.left = 0
  on : A.on = true
theorem dirty_used {sp : List Sig} (h : ∀ t ∈ sp, t.pl.length ≤ (t.bs.length + 15) / 16) : dirtyT sp ≤ usedT sp := by
  unfold dirtyT usedT
  induction sp with
  | nil => exact Nat.le_refl _
  | cons y r ih =>
    simp only [List.map_cons, List.sum_cons]
    have h1 := h y List.mem_cons_self
    have h2 := ih fun t ht => h t (List.mem_cons_of_mem _ ht)
    omega
section
variable {A : Ab} {k : Nat}
theorem Ab.Inv.len (h : A.Inv k) {t : Sig} (ht : t ∈ A.sp) : t.bs.length ≤ 17179869184 := by
  have h1 := used_len ht
  have h2 := h.used
  have h3 := h.room
  omega
theorem Ab.Inv.fine (h : A.Inv k) : A.Fine := by
  have h2 := h.used
  have h3 := h.room
  have h4 := dirty_used h.few
  exact ⟨h.wr, fun t ht => by have := h.len ht; omega, h.rise, h.ahead, h.room, by omega, by omega⟩
theorem Ab.Inv.more (h : A.Inv k) {k' : Nat} (hk : k ≤ k') : A.Inv k' := ⟨h.wr, h.rise, h.ahead, h.few, h.room, h.used, by have := h.ops; omega, by have := h.next; omega, h.left, h.on⟩
theorem Ab.Inv.left1 (h : A.Inv k) : A.left ≠ 1 := by rw [h.left]; omega
theorem Ab.Inv.left2 (h : A.Inv k) : A.left ≤ 9223372036854775807 := by rw [h.left]; omega
theorem Ab.Inv.ops1 (h : A.Inv k) (hk : k ≤ 1000000) : A.ops ≤ 4611686018427387904 := by have := h.ops; omega
theorem Ab.Inv.next1 (h : A.Inv k) (hk : k ≤ 1000000) : A.next ≤ 4611686018427387904 := by have := h.next; omega
theorem newA_inv (room : Nat) (hr : room ≤ 1073741824) : (newA room).Inv 0 := ⟨by simp [newA], by simp [newA], by simp [newA], by simp [newA], hr, Nat.zero_le _, Nat.le_refl _, Nat.zero_le _, rfl, rfl⟩
theorem crT_inv (h : A.Inv k) (nm : List UInt8) (hu : usedT (dropT A.sp nm) + 1 ≤ A.room) : (crT A nm).Inv (k + 1) := by
  have hm : ∀ t ∈ (crT A nm).sp, t = ⟨nm, [], 0, []⟩ ∨ t ∈ A.sp := fun t ht => mem_put ht
  refine ⟨fun t ht => ?_, fun t ht => ?_, fun t ht => ?_, fun t ht => ?_, h.room, ?_, by have := h.ops; show A.ops + 1 ≤ _; omega, by have := h.next; show A.next ≤ _; omega, by show A.left - 1 = 0; rw [h.left], h.on⟩
  · rcases hm t ht with rfl | h1
    · exact Nat.le_refl _
    · exact h.wr t h1
  · rcases hm t ht with rfl | h1
    · exact List.Pairwise.nil
    · exact h.rise t h1
  · rcases hm t ht with rfl | h1
    · intro q hq; cases hq
    · exact h.ahead t h1
  · rcases hm t ht with rfl | h1
    · exact Nat.zero_le _
    · exact h.few t h1
  · show usedT (putT A.sp ⟨nm, [], 0, []⟩) ≤ A.room
    unfold putT
    rw [usedT_ins]
    have : uT ⟨nm, [], 0, []⟩ = 1 := by simp [uT]
    rw [this]
    show 1 + usedT (dropT A.sp nm) ≤ _
    omega
theorem createM_inv (h : A.Inv k) (s : ByteArray) : (createM A s).2.Inv (k + 1) := by
  unfold createM
  split
  · split
    · split
      · exact h.more (by omega)
      · rename_i hu
        exact crT_inv h _ (by have := usedT_drop A.sp (nameOf s); omega)
    · rename_i t ht
      refine crT_inv h _ ?_
      have h1 := usedT_drop_found ht
      have h2 := h.used
      have h3 : 1 ≤ uT t := by unfold uT; omega
      omega
  · exact h.more (by omega)
theorem syncM_inv (h : A.Inv k) (hN : A.sp.Pairwise fun x y => x.nm ≠ y.nm) (s : ByteArray) : (syncM A s).2.Inv (k + 1) := by
  unfold syncM
  split
  · split
    · exact h.more (by omega)
    · rename_i t ht
      have hm : ∀ x ∈ (syT A (nameOf s) t).sp, x = ⟨nameOf s, t.bs, t.bs.length, []⟩ ∨ x ∈ A.sp := fun x hx => mem_upd hx
      refine ⟨fun x hx => ?_, fun x hx => ?_, fun x hx => ?_, fun x hx => ?_, h.room, ?_, by have := h.ops; show A.ops + 1 ≤ _; omega, by have := h.next; show A.next ≤ _; omega, by show A.left - 1 = 0; rw [h.left], h.on⟩
      · rcases hm x hx with rfl | h1
        · exact Nat.le_refl _
        · exact h.wr x h1
      · rcases hm x hx with rfl | h1
        · exact List.Pairwise.nil
        · exact h.rise x h1
      · rcases hm x hx with rfl | h1
        · intro q hq; cases hq
        · exact h.ahead x h1
      · rcases hm x hx with rfl | h1
        · exact Nat.zero_le _
        · exact h.few x h1
      · have h1 := usedT_upd hN ht ⟨nameOf s, t.bs, t.bs.length, []⟩
        have h2 : uT ⟨nameOf s, t.bs, t.bs.length, []⟩ = uT t := rfl
        have h3 := h.used
        show usedT (upd A.sp (nameOf s) ⟨nameOf s, t.bs, t.bs.length, []⟩) ≤ A.room
        omega
  · exact h.more (by omega)
theorem spoilM_inv (h : A.Inv k) (hN : A.sp.Pairwise fun x y => x.nm ≠ y.nm) (s : ByteArray) (i j : Int) : (spoilM A s i j).2.Inv (k + 1) := by
  unfold spoilM
  split
  · split
    · exact h.more (by omega)
    · rename_i t ht
      split
      · exact h.more (by omega)
      · have ht1 := (findT_mem ht).1
        generalize hb : t.bs.set i.toNat (flipB (t.bs.getD i.toNat 0) j.toNat) = bs
        have hbl : bs.length = t.bs.length := by rw [← hb, List.length_set]
        have he : (spT A (nameOf s) t i.toNat j.toNat).sp = upd A.sp (nameOf s) ⟨nameOf s, bs, t.wr, t.pl⟩ := by rw [← hb]; rfl
        have hm : ∀ x ∈ (spT A (nameOf s) t i.toNat j.toNat).sp, x = ⟨nameOf s, bs, t.wr, t.pl⟩ ∨ x ∈ A.sp := fun x hx => mem_upd (he ▸ hx)
        refine ⟨fun x hx => ?_, fun x hx => ?_, fun x hx => ?_, fun x hx => ?_, h.room, ?_, by have := h.ops; show A.ops ≤ _; omega, by have := h.next; show A.next ≤ _; omega, h.left, h.on⟩
        · rcases hm x hx with rfl | h1
          · have := h.wr t ht1; show t.wr ≤ bs.length; omega
          · exact h.wr x h1
        · rcases hm x hx with rfl | h1
          · exact h.rise t ht1
          · exact h.rise x h1
        · rcases hm x hx with rfl | h1
          · exact h.ahead t ht1
          · exact h.ahead x h1
        · rcases hm x hx with rfl | h1
          · have := h.few t ht1; show t.pl.length ≤ (bs.length + 15) / 16; omega
          · exact h.few x h1
        · have h1 := usedT_upd hN ht ⟨nameOf s, bs, t.wr, t.pl⟩
          have h2 : uT ⟨nameOf s, bs, t.wr, t.pl⟩ = uT t := by show 1 + (bs.length + 15) / 16 = 1 + (t.bs.length + 15) / 16; rw [hbl]
          have h3 := h.used
          rw [he]
          show usedT (upd A.sp (nameOf s) ⟨nameOf s, bs, t.wr, t.pl⟩) ≤ A.room
          omega
  · exact h.more (by omega)
theorem removeM_inv (h : A.Inv k) (s : ByteArray) : (removeM A s).2.Inv (k + 1) := by
  unfold removeM
  split
  · split
    · exact h.more (by omega)
    · have hm : ∀ x ∈ (rmT A (nameOf s)).sp, x ∈ A.sp := fun x hx => mem_drop hx
      exact ⟨fun x hx => h.wr x (hm x hx), fun x hx => h.rise x (hm x hx), fun x hx => h.ahead x (hm x hx), fun x hx => h.few x (hm x hx), h.room, Nat.le_trans (usedT_drop _ _) h.used, by have := h.ops; show A.ops + 1 ≤ _; omega, by have := h.next; show A.next ≤ _; omega, by show A.left - 1 = 0; rw [h.left], h.on⟩
  · exact h.more (by omega)
theorem renameM_inv (h : A.Inv k) (s u : ByteArray) : (renameM A s u).2.Inv (k + 1) := by
  unfold renameM
  split
  · split
    · exact h.more (by omega)
    · rename_i t ht
      have ht1 := (findT_mem ht).1
      have hm : ∀ x ∈ (rnT A (nameOf s) (nameOf u) t).sp, x = ⟨nameOf u, t.bs, t.wr, t.pl⟩ ∨ x ∈ A.sp := fun x hx => (mem_put hx).imp id mem_drop
      refine ⟨fun x hx => ?_, fun x hx => ?_, fun x hx => ?_, fun x hx => ?_, h.room, ?_, by have := h.ops; show A.ops + 1 ≤ _; omega, by have := h.next; show A.next ≤ _; omega, by show A.left - 1 = 0; rw [h.left], h.on⟩
      · rcases hm x hx with rfl | h1
        · exact h.wr t ht1
        · exact h.wr x h1
      · rcases hm x hx with rfl | h1
        · exact h.rise t ht1
        · exact h.rise x h1
      · rcases hm x hx with rfl | h1
        · exact h.ahead t ht1
        · exact h.ahead x h1
      · rcases hm x hx with rfl | h1
        · exact h.few t ht1
        · exact h.few x h1
      · have h1 := usedT_drop_found ht
        have h2 := h.used
        have h4 := usedT_drop (dropT A.sp (nameOf s)) (nameOf u)
        show usedT (putT (dropT A.sp (nameOf s)) ⟨nameOf u, t.bs, t.wr, t.pl⟩) ≤ A.room
        unfold putT
        rw [usedT_ins]
        have h3 : uT ⟨nameOf u, t.bs, t.wr, t.pl⟩ = uT t := rfl
        rw [h3]
        show uT t + usedT (dropT (dropT A.sp (nameOf s)) (nameOf u)) ≤ _
        omega
  · exact h.more (by omega)
theorem growT_few (t : Sig) (l : List UInt8) (h : t.pl.length ≤ (t.bs.length + 15) / 16) : t.pl.length + growT t l ≤ (t.bs.length + l.length + 15) / 16 := by
  unfold growT growN
  split
  · omega
  · omega
theorem appendM_inv (h : A.Inv k) (hN : A.sp.Pairwise fun x y => x.nm ≠ y.nm) (s : ByteArray) (l : List UInt8) : (appendM A s l).2.Inv (k + 1) := by
  unfold appendM
  split
  · split
    · exact h.more (by omega)
    · rename_i t ht
      split
      · exact h.more (by omega)
      · rename_i hroom
        have ht1 := (findT_mem ht).1
        have hf := growT_few t l (h.few t ht1)
        generalize hg : growT t l = g at hf
        have hb : (t.bs ++ l).length = t.bs.length + l.length := List.length_append
        have he : (appT A (nameOf s) t l).sp = upd A.sp (nameOf s) ⟨nameOf s, t.bs ++ l, t.wr, t.pl ++ List.range' A.next g⟩ := by rw [← hg]; rfl
        have hnx : (appT A (nameOf s) t l).next = A.next + g := by rw [← hg]; rfl
        have hm : ∀ x ∈ (appT A (nameOf s) t l).sp, x = ⟨nameOf s, t.bs ++ l, t.wr, t.pl ++ List.range' A.next g⟩ ∨ x ∈ A.sp := fun x hx => mem_upd (he ▸ hx)
        have h1 := usedT_upd hN ht ⟨nameOf s, t.bs ++ l, t.wr, t.pl ++ List.range' A.next g⟩
        have h2 : uT ⟨nameOf s, t.bs ++ l, t.wr, t.pl ++ List.range' A.next g⟩ = 1 + (t.bs.length + l.length + 15) / 16 := by show 1 + ((t.bs ++ l).length + 15) / 16 = _; rw [hb]
        have h3 : lackT t l = (((t.bs.length + l.length + 15) / 16 : Nat) : Int) - (((t.bs.length + 15) / 16 : Nat) : Int) := by
          unfold lackT
          have a1 := secI_nat (t.bs.length + l.length)
          have a2 := secI_nat t.bs.length
          rw [← a1, ← a2]
          simp
        have h4 : uT t = 1 + (t.bs.length + 15) / 16 := rfl
        have h5 : usedT (appT A (nameOf s) t l).sp ≤ A.room := by
          rw [he]
          omega
        have h6 := h.room
        have h7 := h.used
        have h8 := used_len ht1
        refine ⟨fun x hx => ?_, fun x hx => ?_, fun x hx => ?_, fun x hx => ?_, h.room, h5, by have := h.ops; show A.ops + 1 ≤ _; omega, ?_, by show A.left - 1 = 0; rw [h.left], h.on⟩
        · rcases hm x hx with rfl | h1
          · have := h.wr t ht1; show t.wr ≤ (t.bs ++ l).length; omega
          · exact h.wr x h1
        · rcases hm x hx with rfl | h1
          · show (t.pl ++ List.range' A.next g).Pairwise (· < ·)
            rw [List.pairwise_append]
            refine ⟨h.rise t ht1, List.pairwise_lt_range', fun a ha b hb' => ?_⟩
            have := h.ahead t ht1 a ha
            have := (List.mem_range'_1.1 hb').1
            omega
          · exact h.rise x h1
        · rcases hm x hx with rfl | h1
          · intro q hq
            rw [hnx]
            rcases List.mem_append.1 hq with h1 | h1
            · have := h.ahead t ht1 q h1; omega
            · have := (List.mem_range'_1.1 h1).2; omega
          · intro q hq
            have := h.ahead x h1 q hq
            rw [hnx]
            omega
        · rcases hm x hx with rfl | h1
          · show (t.pl ++ List.range' A.next g).length ≤ ((t.bs ++ l).length + 15) / 16
            rw [List.length_append, List.length_range', hb]
            exact hf
          · exact h.few x h1
        · have := h.next
          rw [hnx]
          omega
  · exact h.more (by omega)
end
theorem At.names {d : Nat} {A : Ab} {ft : List Nat} {w : World} (h : At d A ft w) : A.sp.Pairwise fun x y => x.nm ≠ y.nm := by
  obtain ⟨bm, fs, hD, hs, _⟩ := h
  rw [← hs, List.pairwise_map]
  exact hD.names
end Go.Proofs.YtgkdodcidancpaaGreatDoor
namespace Go.Proofs.YtgkdodcidancpaaGreatDoor
open Go.RowKit Go.Maps

/-- May this byte stand at this place? -/
def okB (k : Nat) (x : Int) : Bool := letterI x || (decide (0 < k) && (decide (48 ≤ x) && decide (x ≤ 57) || x == 46 || x == 45))
theorem okB_iff (k : Nat) (x : Int) : okB k x = true ↔ (97 ≤ x ∧ x ≤ 122) ∨ (0 < k ∧ ((48 ≤ x ∧ x ≤ 57) ∨ x = 46 ∨ x = 45)) := by
  simp [okB, letterI, or_assoc]
theorem good_iff (l : List UInt8) : goodB l = true ↔ 0 < l.length ∧ l.length ≤ 40 ∧ ∀ j, j < l.length → okB j ((l.getD j 0).toNat : Int) = true := by
  unfold goodB
  simp only [Bool.and_eq_true, decide_eq_true_eq, List.all_eq_true]
  constructor
  · rintro ⟨⟨⟨h1, h2⟩, h3⟩, h4⟩
    refine ⟨h1, h2, fun j hj => ?_⟩
    have hm : l.getD j 0 ∈ l := by
      rw [List.getD_eq_getElem?_getD, List.getElem?_eq_getElem hj]
      exact List.getElem_mem hj
    have ha := h4 _ hm
    by_cases h0 : j = 0
    · subst h0
      unfold okB
      rw [h3]
      rfl
    · have hp : decide (0 < j) = true := decide_eq_true (by omega)
      unfold okB
      rw [hp, Bool.true_and]
      unfold allowedI at ha
      simpa [Bool.or_assoc] using ha
  · rintro ⟨h1, h2, h3⟩
    refine ⟨⟨⟨h1, h2⟩, ?_⟩, fun c hc => ?_⟩
    · have := h3 0 h1
      simpa [okB] using this
    · obtain ⟨j, hj, rfl⟩ := List.getElem_of_mem hc
      have := h3 j hj
      rw [List.getD_eq_getElem?_getD, List.getElem?_eq_getElem hj] at this
      rw [okB_iff] at this
      simp only [Option.getD_some] at this
      unfold allowedI letterI
      simp only [Bool.or_eq_true, Bool.and_eq_true, decide_eq_true_eq, beq_iff_eq]
      omega
set_option maxRecDepth 100000 in
set_option maxHeartbeats 1000000 in
theorem refGood_any (s : ByteArray) (w : World) (hs : s.size ≤ maxLen) :
    Calls Tryz.prog 71 #[.string s] w fun e w' => e = .returned (.bool (goodB s.data.toList)) ∧ w' = w := by
  have hsz : (s.size : Int) ≤ 9223372036854775807 := by unfold maxLen at hs; omega
  have Hlen : Hid (s.data.toList.length = s.size) := by show _ = _; simp
  have Hg : Hid (goodB s.data.toList = true ↔ 0 < s.size ∧ s.size ≤ 40 ∧ ∀ j, j < s.size → okB j ((s.data.toList.getD j 0).toNat : Int) = true) := by
    have := good_iff s.data.toList
    rw [Hlen.out] at this
    exact this
  have Hat : Hid (∀ k (hk : k < s.size), s.data.toList.getD k 0 = s[k]) := by
    intro k hk
    have : k < s.data.toList.length := by simpa using hk
    rw [List.getD_eq_getElem?_getD, List.getElem?_eq_getElem this]
    rfl
  have Hno : Hid (∀ P : Prop, (¬ (0 < s.size ∧ s.size ≤ 40 ∧ ∀ j, j < s.size → okB j ((s.data.toList.getD j 0).toNat : Int) = true)) → goodB s.data.toList = false) := fun _ h => by
    cases hg : goodB s.data.toList
    · rfl
    · exact absurd (Hg.out.1 hg) h
  clear hs
  by_cases h0 : s.size = 0
  · go_enter Tryz.func71, Tryz.ntmps71
    go_wp2_with fail
    go_ret
    exact ⟨ret_bool (Hno.out True (by omega)).symm, rfl⟩
  by_cases h40 : 40 < s.size
  · go_enter Tryz.func71, Tryz.ntmps71
    go_wp2_with fail
    go_ret
    exact ⟨ret_bool (Hno.out True (by omega)).symm, rfl⟩
  have hb1 : decide ((s.size : Int) < 1) = false := decide_eq_false (by omega)
  have hb2 : decide (40 < (s.size : Int)) = false := decide_eq_false (by omega)
  have hsi : (s.size : Int) ≤ 40 := by omega
  have hpos : 0 < s.size := by omega
  clear h0 h40
  go_enter Tryz.func71, Tryz.ntmps71
  go_wp2_with fail
  go_loop [3] (fun i => ∃ k : Nat, k ≤ s.size ∧ i = .int .i64 k ∧ ∀ j, j < k → okB j ((s.data.toList.getD j 0).toNat : Int) = true) (fun i => s.size - (intOf i).toNat)
  case atStart => exact ⟨0, Nat.zero_le _, rfl, fun j hj => absurd hj (Nat.not_lt_zero _)⟩
  case round =>
    obtain ⟨k, hk, rfl, hall⟩ := hrel
    have HA : Hid (∀ j, j < k → okB j ((s.data.toList.getD j 0).toNat : Int) = true) := hall
    clear hall
    by_cases hlt : k < s.size
    · have HB : Hid (okB k ((s[k].toNat : Nat) : Int) = false → goodB s.data.toList = false) := fun h => Hno.out True fun hh => by have := hh.2.2 k hlt; rw [Hat.out k hlt, h] at this; cases this
      have HN : Hid (okB k ((s[k].toNat : Nat) : Int) = true → ∀ j, j < k + 1 → okB j ((s.data.toList.getD j 0).toNat : Int) = true) := fun h j hj => by
        by_cases e : j = k
        · subst e; rw [Hat.out j hlt]; exact h
        · exact HA.out j (by omega)
      obtain ⟨x, hx⟩ : ∃ x, ((s[k].toNat : Nat) : Int) = x := ⟨_, rfl⟩
      rw [hx] at HB HN
      have h8 : (x < 45 ∨ x = 47 ∨ (58 ≤ x ∧ x < 97) ∨ 122 < x) ∨ (97 ≤ x ∧ x ≤ 122) ∨ (48 ≤ x ∧ x ≤ 57) ∨ x = 45 ∨ x = 46 := by omega
      by_cases hk0 : k = 0
      · have hkb : ((k : Int) == 0) = true := by rw [beq_iff_eq]; omega
        have HB' : Hid (¬ (97 ≤ x ∧ x ≤ 122) → goodB s.data.toList = false) := fun h => HB.out (by rw [Bool.eq_false_iff, ne_eq, okB_iff]; omega)
        by_cases hL : 97 ≤ x ∧ x ≤ 122
        · have HN' : Hid (∀ j, j < k + 1 → okB j ((s.data.toList.getD j 0).toNat : Int) = true) := HN.out (by rw [okB_iff]; omega)
          have d1 : decide (97 ≤ x) = true := decide_eq_true hL.1
          have d2 : decide (x ≤ 122) = true := decide_eq_true hL.2
          clear h8 hL hk0 HB HN HB'
          go_wp2_with fail
          go_round
          case rel => exact ⟨k + 1, by omega, by go_num, HN'.out⟩
          case measure => simp [intOf]; omega
        · have HF : Hid (goodB s.data.toList = false) := HB'.out hL
          have hd : (decide (97 ≤ x) = false) ∨ (decide (97 ≤ x) = true ∧ decide (x ≤ 122) = false) := by
            by_cases h : 97 ≤ x
            · exact .inr ⟨decide_eq_true h, decide_eq_false (by omega)⟩
            · exact .inl (decide_eq_false h)
          clear h8 hL hk0 HB HN HB'
          rcases hd with d1 | ⟨d1, d2⟩
          · go_wp2_with fail
            go_ret
            exact ⟨ret_bool HF.out.symm, rfl⟩
          · go_wp2_with fail
            go_ret
            exact ⟨ret_bool HF.out.symm, rfl⟩
      · have hkb : ((k : Int) == 0) = false := by rw [beq_eq_false_iff_ne]; omega
        have HB' : Hid ((x < 45 ∨ x = 47 ∨ (58 ≤ x ∧ x < 97) ∨ 122 < x) → goodB s.data.toList = false) := fun h => HB.out (by rw [Bool.eq_false_iff, ne_eq, okB_iff]; omega)
        have HN' : Hid (((97 ≤ x ∧ x ≤ 122) ∨ (48 ≤ x ∧ x ≤ 57) ∨ x = 45 ∨ x = 46) → ∀ j, j < k + 1 → okB j ((s.data.toList.getD j 0).toNat : Int) = true) := fun h => HN.out (by rw [okB_iff]; omega)
        clear HB HN hk0
        rcases h8 with h | h
        · have HF : Hid (goodB s.data.toList = false) := HB'.out h
          have d5 : (x == 46) = false := by rw [beq_eq_false_iff_ne]; omega
          have d6 : (x == 45) = false := by rw [beq_eq_false_iff_ne]; omega
          clear HB' HN'
          rcases h with h | h | ⟨h1, h2⟩ | h
          · have d1 : decide (97 ≤ x) = false := decide_eq_false (by omega)
            have d3 : decide (48 ≤ x) = false := decide_eq_false (by omega)
            go_wp2_with fail
            go_ret
            exact ⟨ret_bool HF.out.symm, rfl⟩
          · subst h
            go_wp2_with fail
            go_ret
            exact ⟨ret_bool HF.out.symm, rfl⟩
          · have d1 : decide (97 ≤ x) = false := decide_eq_false (by omega)
            have d3 : decide (48 ≤ x) = true := decide_eq_true (by omega)
            have d4 : decide (x ≤ 57) = false := decide_eq_false (by omega)
            go_wp2_with fail
            go_ret
            exact ⟨ret_bool HF.out.symm, rfl⟩
          · have d1 : decide (97 ≤ x) = true := decide_eq_true (by omega)
            have d2 : decide (x ≤ 122) = false := decide_eq_false (by omega)
            have d3 : decide (48 ≤ x) = true := decide_eq_true (by omega)
            have d4 : decide (x ≤ 57) = false := decide_eq_false (by omega)
            go_wp2_with fail
            go_ret
            exact ⟨ret_bool HF.out.symm, rfl⟩
        · have HO : Hid (∀ j, j < k + 1 → okB j ((s.data.toList.getD j 0).toNat : Int) = true) := HN'.out h
          clear HB' HN'
          rcases h with ⟨h1, h2⟩ | ⟨h1, h2⟩ | h | h
          · have d1 : decide (97 ≤ x) = true := decide_eq_true h1
            have d2 : decide (x ≤ 122) = true := decide_eq_true h2
            go_wp2_with fail
            go_round
            case rel => exact ⟨k + 1, by omega, by go_num, HO.out⟩
            case measure => simp [intOf]; omega
          · have d1 : decide (97 ≤ x) = false := decide_eq_false (by omega)
            have d3 : decide (48 ≤ x) = true := decide_eq_true (by omega)
            have d4 : decide (x ≤ 57) = true := decide_eq_true (by omega)
            go_wp2_with fail
            go_round
            case rel => exact ⟨k + 1, by omega, by go_num, HO.out⟩
            case measure => simp [intOf]; omega
          · subst h
            go_wp2_with fail
            go_round
            case rel => exact ⟨k + 1, by omega, by go_num, HO.out⟩
            case measure => simp [intOf]; omega
          · subst h
            go_wp2_with fail
            go_round
            case rel => exact ⟨k + 1, by omega, by go_num, HO.out⟩
            case measure => simp [intOf]; omega
    · obtain rfl : k = s.size := by omega
      go_wp2_with fail
      go_ret
      exact ⟨ret_bool (Hg.out.2 ⟨hpos, by omega, HA.out⟩).symm, rfl⟩

end Go.Proofs.YtgkdodcidancpaaGreatDoor
