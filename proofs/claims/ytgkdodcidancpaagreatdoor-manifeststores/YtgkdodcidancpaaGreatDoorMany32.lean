/-
  SEVERAL TEXTS IN ONE: DskBoth, DskSml, DskTwo, DskActC, DskActR, DskNames2.
-/
import Derived.Test.YtgkdodcidancpaaGreatDoorMany31
import Derived.Test.YtgkdodcidancpaaGreatDoorDskRefM
import Derived.Test.YtgkdodcidancpaaGreatDoorMany30
import Derived.Test.YtgkdodcidancpaaGreatDoorMany7
import Derived.Test.YtgkdodcidancpaaGreatDoorMany11
import Derived.Test.YtgkdodcidancpaaGreatDoorMany4
import Derived.Test.YtgkdodcidancpaaGreatDoorMany20
namespace Go.Proofs.YtgkdodcidancpaaGreatDoor
open Go.RowKit Go.Maps Go.WideAt Go.WideShapes

/-- Both answered the same, and both disks are as one. -/
def Both (a : Int × Ab) (q : Int × RA) : Prop := a.1 = q.1 ∧ Tie a.2 q.2
theorem refuse_one (on : Bool) (s : ByteArray) : refuse on [s] = if on then (if goodB (nameOf s) then 0 else 3) else 9 := by
  unfold refuse
  simp
theorem refuse_both (on : Bool) (s u : ByteArray) : refuse on [s, u] = if on then (if goodB (nameOf s) && goodB (nameOf u) then 0 else 3) else 9 := by
  unfold refuse
  simp
theorem Tie.on_off {A : Ab} {Q : RA} (h : Tie A Q) (hon : A.on = true) : Q.off = false := by rw [h.off, hon]; rfl
theorem Tie.off_on {A : Ab} {Q : RA} (h : Tie A Q) (hon : A.on = false) : Q.off = true := by rw [h.off, hon]; rfl
theorem Tie.find_none {A : Ab} {Q : RA} (h : Tie A Q) {nm : List UInt8} (hf : findT A.sp nm = none) : findT Q.L nm = none := by rw [h.find, hf]; rfl
theorem Tie.find_some {A : Ab} {Q : RA} (h : Tie A Q) {nm : List UInt8} {t : Sig} (hf : findT A.sp nm = some t) : findT Q.L nm = some (strip t) := by rw [h.find, hf]; rfl
theorem both_same {A : Ab} {Q : RA} (h : Tie A Q) {c : Int} {a : Int × Ab} {q : Int × RA} (e1 : a = (c, A)) (e2 : q = (c, Q)) : Both a q := by
  rw [e1, e2]
  exact ⟨rfl, h⟩
/-- A turn, whatever is planned. -/
theorem both_turn {A A' : Ab} {Q Q' : RA} (h : Tie A Q) (hon : A.on = true) (h' : Tie A' Q') {a : Int × Ab} {q : Int × RA} (e1 : a = turnX A (0, A')) (e2 : q = if Q.fail = 1 then (9, crashQ (turnQ Q) Q.keep) else (0, Q')) : Both a q := by
  rw [e1, e2, h.fail hon]
  by_cases hl : A.left = 1
  · rw [turnX_cut hl rfl, if_pos hl]
    exact ⟨rfl, h.cut hon⟩
  · rw [turnX_ok hl, if_neg hl]
    exact ⟨rfl, h'⟩
theorem both_create {A : Ab} {Q : RA} (h : Tie A Q) (s : ByteArray) : Both (createX A s) (createQ Q s) := by
  unfold createX createQ createM
  rw [refuse_one]
  cases hon : A.on
  · exact both_same h (c := 9) (by simp [turnX]) (by simp [h.off_on hon])
  have ho := h.on_off hon
  cases hg : goodB (nameOf s)
  · exact both_same h (c := 3) (by simp [turnX]) (by simp [ho])
  simp only [if_true, ho, Bool.false_eq_true, if_false]
  have hc := h.create (nameOf s)
  cases ht : findT A.sp (nameOf s) with
  | none =>
    simp only
    have e0 := h.find_none ht
    have e1 : fullQ Q (nameOf s) = decide (48 ≤ A.sp.length ∨ A.room ≤ usedT A.sp) := by
      unfold fullQ
      rw [e0, h.count, h.used, h.room]
      simp
    by_cases hf : 48 ≤ A.sp.length ∨ A.room ≤ usedT A.sp
    · rw [e1, decide_eq_true hf, if_pos hf]
      exact both_same h (c := 7) (turnX_bad (by show (7 : Int) ≠ 0; decide)) rfl
    · rw [e1, decide_eq_false hf, if_neg hf]
      exact both_turn h hon hc rfl (by simp)
  | some t =>
    simp only
    have e1 : fullQ Q (nameOf s) = false := by
      unfold fullQ
      rw [h.find_some ht]
      simp
    rw [e1]
    exact both_turn h hon hc rfl (by simp)
theorem known_eq {A : Ab} {Q : RA} (h : Tie A Q) (hon : A.on = true) {s : ByteArray} (hg : goodB (nameOf s) = true) : knownQ Q s = match findT A.sp (nameOf s) with | none => 4 | some _ => 0 := by
  unfold knownQ
  rw [h.on_off hon, hg, h.find]
  simp only [Bool.false_eq_true, if_false, if_true]
  cases findT A.sp (nameOf s) <;> rfl
theorem known_bad {A : Ab} {Q : RA} (h : Tie A Q) (hon : A.on = true) {s : ByteArray} (hg : goodB (nameOf s) = false) : knownQ Q s = 3 := by
  unfold knownQ
  rw [h.on_off hon, hg]
  rfl
theorem known_offA {A : Ab} {Q : RA} (h : Tie A Q) (hon : A.on = false) (s : ByteArray) : knownQ Q s = 9 := by
  unfold knownQ
  rw [h.off_on hon]
  rfl
theorem both_sync {A : Ab} {Q : RA} (h : Tie A Q) (s : ByteArray) : Both (syncX A s) (syncQ Q s) := by
  unfold syncX syncQ syncM
  rw [refuse_one]
  cases hon : A.on
  · exact both_same h (c := 9) (by simp [turnX]) (by simp [known_offA h hon s])
  cases hg : goodB (nameOf s)
  · exact both_same h (c := 3) (by simp [turnX]) (by simp [known_bad h hon hg])
  have hk := known_eq h hon hg
  cases ht : findT A.sp (nameOf s) with
  | none =>
    rw [ht] at hk
    exact both_same h (c := 4) (by simp [turnX]) (by simp [hk])
  | some t =>
    rw [ht] at hk
    simp only [if_true, hk, h.find_some ht]
    exact both_turn h hon (h.sync ht) rfl rfl
theorem both_remove {A : Ab} {Q : RA} (h : Tie A Q) (s : ByteArray) : Both (removeX A s) (removeQ Q s) := by
  unfold removeX removeQ removeM
  rw [refuse_one]
  cases hon : A.on
  · exact both_same h (c := 9) (by simp [turnX]) (by simp [known_offA h hon s])
  cases hg : goodB (nameOf s)
  · exact both_same h (c := 3) (by simp [turnX]) (by simp [known_bad h hon hg])
  have hk := known_eq h hon hg
  cases ht : findT A.sp (nameOf s) with
  | none =>
    rw [ht] at hk
    exact both_same h (c := 4) (by simp [turnX]) (by simp [hk])
  | some t =>
    rw [ht] at hk
    simp only [if_true, hk]
    exact both_turn h hon (h.drop (nameOf s)) rfl rfl
theorem both_spoil {A : Ab} {Q : RA} (h : Tie A Q) (s : ByteArray) (i k : Int) : Both (spoilM A s i k) (spoilQ Q s i k) := by
  unfold spoilM spoilQ
  rw [refuse_one]
  cases hon : A.on
  · exact both_same h (c := 9) (by simp) (by simp [known_offA h hon s])
  cases hg : goodB (nameOf s)
  · exact both_same h (c := 3) (by simp) (by simp [known_bad h hon hg])
  have hk := known_eq h hon hg
  cases ht : findT A.sp (nameOf s) with
  | none =>
    rw [ht] at hk
    exact both_same h (c := 4) (by simp) (by simp [hk])
  | some t =>
    rw [ht] at hk
    simp only [if_true, hk, h.find_some ht]
    have e1 : (strip t).bs = t.bs := rfl
    rw [e1]
    by_cases hb : i < 0 ∨ (t.bs.length : Int) ≤ i ∨ k < 0 ∨ 7 < k
    · rw [if_pos hb, if_pos hb]
      exact ⟨rfl, h⟩
    · rw [if_neg hb, if_neg hb]
      exact ⟨rfl, h.spoil ht i.toNat k.toNat⟩
theorem both_rename {A : Ab} {Q : RA} (h : Tie A Q) (s u : ByteArray) : Both (renameX A s u) (renameQ Q s u) := by
  unfold renameX renameQ renameM
  rw [refuse_both]
  cases hon : A.on
  · exact both_same h (c := 9) (by simp [turnX]) (by simp [h.off_on hon])
  have ho := h.on_off hon
  cases hg : (goodB (nameOf s) && goodB (nameOf u))
  · exact both_same h (c := 3) (by simp [turnX]) (by simp [ho])
  simp only [if_true, ho, Bool.false_eq_true, if_false]
  cases ht : findT A.sp (nameOf s) with
  | none =>
    simp only [h.find_none ht]
    exact both_same h (c := 4) (by simp [turnX]) rfl
  | some t =>
    simp only [h.find_some ht]
    by_cases e : s = u
    · subst e
      simp only [if_true]
      exact both_turn h hon (h.renameSame ht) rfl rfl
    · have hne : nameOf s ≠ nameOf u := fun hh => e (by
        obtain ⟨a⟩ := s
        obtain ⟨b⟩ := u
        have : a.toList = b.toList := hh
        rw [Array.toList_inj.1 this])
      simp only [if_neg e]
      exact both_turn h hon (h.rename hne ht) rfl rfl
theorem lackT_strip (t : Sig) (l : List UInt8) : lackT (strip t) l = lackT t l := rfl
theorem both_append {A : Ab} {Q : RA} (h : Tie A Q) (s : ByteArray) (l : List UInt8) : Both (appendX A s l) (appendQ Q s l) := by
  unfold appendX appendQ appendM
  rw [refuse_one]
  cases hon : A.on
  · exact both_same h (c := 9) (by simp) (by simp [h.off_on hon])
  have ho := h.on_off hon
  cases hg : goodB (nameOf s)
  · exact both_same h (c := 3) (by simp) (by simp [ho])
  simp only [if_true, ho, Bool.false_eq_true, if_false]
  cases ht : findT A.sp (nameOf s) with
  | none =>
    simp only [h.find_none ht]
    exact both_same h (c := 4) (by simp) rfl
  | some t =>
    simp only [h.find_some ht]
    have el : lackQ Q (strip t) l = decide ((A.room : Int) - (usedT A.sp : Int) < lackT t l) := by
      unfold lackQ
      rw [h.room, h.used, lackT_strip]
    rw [el]
    by_cases hf : (A.room : Int) - (usedT A.sp : Int) < lackT t l
    · simp only [if_pos hf, decide_eq_true hf, if_true]
      exact both_same h (c := 7) (by simp) rfl
    · simp only [if_neg hf, decide_eq_false hf, Bool.false_eq_true, if_false, h.fail hon, and_true]
      have ha := h.append ht l
      by_cases hl : A.left = 1
      · rw [if_pos hl, if_pos hl]
        have c := ha.crash hon Q.keep
        have ek := h.keep
        rw [← ek]
        refine ⟨rfl, c.L, c.room, c.ops, fun hh => (by cases hh), c.keep, c.off, c.line, c.sorted, c.pls, c.wr, c.ahead, c.rise⟩
      · rw [if_neg hl, if_neg hl]
        exact ⟨rfl, ha⟩
theorem both_arm {A : Ab} {Q : RA} (h : Tie A Q) (n m : Int) : Both (armX A n m) (armQ Q n m) := by
  unfold armX armQ
  by_cases hon : A.on = true
  · have ho : ¬ Q.off = true := by rw [h.on_off hon]; decide
    rw [if_pos hon, if_neg ho]
    by_cases hn : n < 0
    · rw [if_pos hn, if_pos hn]
      exact ⟨rfl, h⟩
    · rw [if_neg hn, if_neg hn]
      exact ⟨rfl, h.arm n.toNat m⟩
  · have ho : Q.off = true := h.off_on (by simpa using hon)
    rw [if_neg hon, if_pos ho]
    exact ⟨rfl, h⟩
theorem tie_crash {A : Ab} {Q : RA} (h : Tie A Q) (k : Int) : Tie (if A.on then offA A k.toNat else A) (crashQ Q k) := by
  cases hon : A.on
  · simp only [Bool.false_eq_true, if_false]
    unfold crashQ
    rw [h.off_on hon]
    exact h
  · simp only [if_true]
    exact h.crash hon k
end Go.Proofs.YtgkdodcidancpaaGreatDoor
namespace Go.Proofs.YtgkdodcidancpaaGreatDoor
open Go.RowKit Go.Maps Go.WideAt Go.WideShapes

/-- A disk behind acts of so much weight. -/
structure Sml (A : Ab) (n : Nat) : Prop where
  cnt : A.sp.length ≤ n
  len : ∀ t ∈ A.sp, t.bs.length ≤ 40 * n
  next : A.next ≤ 1000 * n
  ops : A.ops ≤ n
  room : A.room ≤ 1073741824
  left : A.left ≤ 9223372036854775807
  keep : -9223372036854775808 ≤ A.keep ∧ A.keep ≤ 9223372036854775807
theorem Sml.mono {A : Ab} {n m : Nat} (h : Sml A n) (hm : n ≤ m) : Sml A m := ⟨by have := h.cnt; omega, fun t ht => by have := h.len t ht; omega, by have := h.next; omega, by have := h.ops; omega, h.room, h.left, h.keep⟩
theorem sml_new {room : Nat} (hr : room ≤ 1073741824) (n : Nat) : Sml (newA room) n := ⟨Nat.zero_le _, (fun t ht => by cases ht), Nat.zero_le _, Nat.zero_le _, hr, Nat.zero_le _, by show (-9223372036854775808 : Int) ≤ 0; decide, by show (0 : Int) ≤ 9223372036854775807; decide⟩
theorem sum_leD (f : Sig → Nat) (B : Nat) : ∀ sp : List Sig, (∀ t ∈ sp, f t ≤ B) → (sp.map f).sum ≤ sp.length * B
  | [], _ => by simp
  | t :: r, h => by
    have h1 := h t List.mem_cons_self
    have h2 := sum_leD f B r fun x hx => h x (List.mem_cons_of_mem _ hx)
    simp only [List.map_cons, List.sum_cons, List.length_cons, Nat.add_mul, Nat.one_mul]
    omega
theorem secs_le {wr len : Nat} : secs wr len ≤ (len + 15) / 16 := by unfold secs; split <;> omega
theorem Sml.used {A : Ab} {n : Nat} (h : Sml A n) (hn : n ≤ 251) : usedT A.sp ≤ 175700 := by
  have := sum_leD (fun t => 1 + (t.bs.length + 15) / 16) 700 A.sp (fun t ht => by have := h.len t ht; omega)
  have h2 : A.sp.length * 700 ≤ 175700 := by have := h.cnt; omega
  exact Nat.le_trans this h2
theorem Sml.dirty {A : Ab} {Q : RA} {n : Nat} (hT : Tie A Q) (h : Sml A n) (hn : n ≤ 251) : dirtyT A.sp ≤ 175700 := by
  have := sum_leD (fun t => t.pl.length) 700 A.sp (fun t ht => by
    have h1 := h.len t ht
    have h2 := hT.pls t ht
    have h3 := secs_le (wr := t.wr) (len := t.bs.length)
    omega)
  have h2 : A.sp.length * 700 ≤ 175700 := by have := h.cnt; omega
  exact Nat.le_trans this h2
theorem sml_fine {A : Ab} {Q : RA} {n : Nat} (hT : Tie A Q) (h : Sml A n) (hn : n ≤ 251) : A.Fine :=
  ⟨hT.wr, fun t ht => (by have := h.len t ht; omega), hT.rise, hT.ahead, h.room, by have := h.used hn; omega, by have := Sml.dirty hT h hn; omega⟩
theorem sml_fit {A : Ab} {Q : RA} {n : Nat} (hT : Tie A Q) (h : Sml A n) (hn : n ≤ 251) (hf : Q.fail ≤ 9223372036854775807) : Q.Fit := by
  have hm : ∀ t ∈ Q.L, ∃ t' ∈ A.sp, t = strip t' := fun t ht => by
    rw [hT.L] at ht
    obtain ⟨t', h1, rfl⟩ := List.mem_map.1 ht
    exact ⟨t', h1, rfl⟩
  have hl : ∀ p ∈ Q.line, ∃ t ∈ A.sp, t.nm = p.1 ∧ p.2 < t.wr / 16 + t.pl.length := fun p hp => by
    obtain ⟨M, h1, h2, h3⟩ := hT.line
    rw [← h2] at hp
    obtain ⟨x, hx, rfl⟩ := List.mem_map.1 hp
    obtain ⟨t, ht, hx2⟩ := List.mem_flatMap.1 (h3.mem_iff.1 hx)
    have h4 := lnF_name hx2
    exact ⟨t, ht, h4.symm, ((mem_lnF (j := x.2.2) rfl).1 ⟨x.1, by rw [← h4]; exact hx2⟩).2⟩
  refine ⟨by rw [hT.count]; have := h.cnt; omega, by rw [hT.lines]; have := Sml.dirty hT h hn; omega, by rw [hT.used]; have := h.used hn; omega, ?_, by rw [hT.room]; exact h.room, by rw [hT.ops]; have := h.ops; omega, hf, fun t ht => ?_, fun p hp => ?_, fun p hp => ?_, fun t ht => ?_⟩
  · rw [hT.L, List.pairwise_map]
    exact hT.sorted
  · obtain ⟨t', h1, rfl⟩ := hm t ht
    exact hT.wr t' h1
  · obtain ⟨t, h1, h2, _⟩ := hl p hp
    rw [← h2, hT.find_some (find_mine hT.ne h1)]
    simp
  · obtain ⟨t, h1, _, h3⟩ := hl p hp
    have h4 := hT.pls t h1
    have h5 := h.len t h1
    have h6 := secs_le (wr := t.wr) (len := t.bs.length)
    have h7 := hT.wr t h1
    omega
  · obtain ⟨t', h1, rfl⟩ := hm t ht
    have := h.len t' h1
    show t'.bs.length ≤ _
    omega
/-! ### what each call leaves -/
theorem ins_len (t : Sig) (sp : List Sig) : (insT t sp).length = sp.length + 1 := by
  induction sp with
  | nil => rfl
  | cons y r ih =>
    rw [insT]
    split
    · rfl
    · rw [List.length_cons, ih, List.length_cons]
theorem drop_len (sp : List Sig) (nm : List UInt8) : (dropT sp nm).length ≤ sp.length := List.length_filter_le _ _
theorem upd_len (sp : List Sig) (nm : List UInt8) (t : Sig) : (upd sp nm t).length = sp.length := by unfold upd; rw [List.length_map]
theorem Sml.off {A : Ab} {n : Nat} (h : Sml A n) (k : Nat) : Sml (offA A k) n := by
  refine ⟨by show (A.sp.map _).length ≤ n; rw [List.length_map]; exact h.cnt, fun t ht => ?_, h.next, h.ops, h.room, h.left, h.keep⟩
  obtain ⟨t', h1, rfl⟩ := List.mem_map.1 ht
  have := h.len t' h1
  show (t'.bs.take _).length ≤ _
  rw [List.length_take]
  omega
theorem Sml.cut {A : Ab} {n m : Nat} (h : Sml A n) (hm : n + 1 ≤ m) : Sml (cutA A) m := by
  have h1 := (h.off A.keep.toNat).mono (show n ≤ m by omega)
  exact ⟨h1.cnt, h1.len, h1.next, by show A.ops + 1 ≤ m; have := h.ops; omega, h1.room, h1.left, h1.keep⟩
theorem Sml.turn {A A' : Ab} {n m : Nat} {c : Int} (h : Sml A n) (hm : n + 1 ≤ m) (h' : Sml A' m) : Sml (turnX A (c, A')).2 m := by
  unfold turnX
  split
  · exact h.cut hm
  · exact h'
theorem Sml.step {A A' : Ab} {n m : Nat} (h : Sml A n) (hm : n + 1 ≤ m) (e1 : A'.ops = A.ops + 1) (e2 : A'.left = A.left - 1) (e3 : A'.keep = A.keep) (e4 : A'.room = A.room) (e5 : A'.next ≤ 1000 * m) (c : A'.sp.length ≤ A.sp.length + 1) (l : ∀ t ∈ A'.sp, t.bs.length ≤ 40 * m) : Sml A' m :=
  ⟨by have := h.cnt; omega, l, e5, by have := h.ops; omega, by rw [e4]; exact h.room, by have := h.left; omega, by rw [e3]; exact h.keep⟩
theorem Sml.create {A : Ab} {n m : Nat} (h : Sml A n) (hm : n + 1 ≤ m) (s : ByteArray) : Sml (createX A s).2 m := by
  have h1 := h.mono (show n ≤ m by omega)
  have h2 : Sml (crT A (nameOf s)) m := h.step hm rfl rfl rfl rfl (by show A.next ≤ _; exact h1.next) (by
      show (insT _ (dropT A.sp (nameOf s))).length ≤ _
      rw [ins_len]
      have := drop_len A.sp (nameOf s)
      omega) (fun t ht => by
      rcases mem_ins.1 ht with rfl | ht
      · exact Nat.zero_le _
      · exact h1.len t (mem_drop ht))
  unfold createX createM
  split
  · split
    · split
      · exact h.turn hm h1
      · exact h.turn hm h2
    · exact h.turn hm h2
  · exact h.turn hm h1
theorem Sml.sync {A : Ab} {n m : Nat} (h : Sml A n) (hm : n + 1 ≤ m) (s : ByteArray) : Sml (syncX A s).2 m := by
  have h1 := h.mono (show n ≤ m by omega)
  unfold syncX syncM
  split
  · split
    · exact h.turn hm h1
    · rename_i t ht
      refine h.turn hm (h.step hm rfl rfl rfl rfl (by show A.next ≤ _; exact h1.next) (by show (upd A.sp _ _).length ≤ _; rw [upd_len]; omega) fun x hx => ?_)
      rcases mem_upd hx with rfl | hx
      · exact h1.len t (findT_mem ht).1
      · exact h1.len x hx
  · exact h.turn hm h1
theorem Sml.remove {A : Ab} {n m : Nat} (h : Sml A n) (hm : n + 1 ≤ m) (s : ByteArray) : Sml (removeX A s).2 m := by
  have h1 := h.mono (show n ≤ m by omega)
  unfold removeX removeM
  split
  · split
    · exact h.turn hm h1
    · exact h.turn hm (h.step hm rfl rfl rfl rfl (by show A.next ≤ _; exact h1.next) (by have := drop_len A.sp (nameOf s); show (dropT A.sp _).length ≤ _; omega) fun x hx => h1.len x (mem_drop hx))
  · exact h.turn hm h1
theorem Sml.rename {A : Ab} {n m : Nat} (h : Sml A n) (hm : n + 1 ≤ m) (s u : ByteArray) : Sml (renameX A s u).2 m := by
  have h1 := h.mono (show n ≤ m by omega)
  unfold renameX renameM
  split
  · split
    · exact h.turn hm h1
    · rename_i t ht
      refine h.turn hm (h.step hm rfl rfl rfl rfl (by show A.next ≤ _; exact h1.next) (by
        have := drop_len A.sp (nameOf s)
        have := drop_len (dropT A.sp (nameOf s)) (nameOf u)
        show (insT _ (dropT (dropT A.sp _) _)).length ≤ _
        rw [ins_len]
        show (dropT (dropT A.sp (nameOf s)) (nameOf u)).length + 1 ≤ _
        omega) fun x hx => ?_)
      rcases mem_ins.1 hx with rfl | hx
      · exact h1.len t (findT_mem ht).1
      · exact h1.len x (mem_drop (mem_drop hx))
  · exact h.turn hm h1
theorem Sml.spoil {A : Ab} {n m : Nat} (h : Sml A n) (hm : n ≤ m) (s : ByteArray) (i k : Int) : Sml (spoilM A s i k).2 m := by
  have h1 := h.mono hm
  unfold spoilM
  split
  · split
    · exact h1
    · rename_i t ht
      split
      · exact h1
      · refine ⟨by show (upd A.sp _ _).length ≤ _; rw [upd_len]; exact h1.cnt, fun x hx => ?_, h1.next, h1.ops, h1.room, h1.left, h1.keep⟩
        rcases mem_upd hx with rfl | hx
        · show (t.bs.set _ _).length ≤ _
          rw [List.length_set]
          exact h1.len t (findT_mem ht).1
        · exact h1.len x hx
  · exact h1
theorem Sml.app {A : Ab} {Q : RA} {n m : Nat} (hT : Tie A Q) (h : Sml A n) (hm : n + 1 ≤ m) (hm2 : m ≤ 251) {l : List UInt8} (hl : l.length ≤ 40 * (m - n)) {nm : List UInt8} {t : Sig} (ht : findT A.sp nm = some t) : Sml (appT A nm t l) m := by
  have htm := (findT_mem ht).1
  have hb := h.len t htm
  refine h.step hm rfl rfl rfl rfl ?_ (by show (upd A.sp _ _).length ≤ _; rw [upd_len]; omega) fun x hx => ?_
  · show A.next + growT t l ≤ _
    rw [grow_secs (hT.pls t htm) (hT.wr t htm)]
    have := secs_le (wr := t.wr) (len := t.bs.length + l.length)
    have := h.next
    omega
  · rcases mem_upd hx with rfl | hx
    · show (t.bs ++ l).length ≤ _
      rw [List.length_append]
      omega
    · have := h.len x hx
      omega
theorem Sml.apl {A : Ab} {Q : RA} {n m : Nat} (hT : Tie A Q) (h : Sml A n) (hm : n + 1 ≤ m) (hm2 : m ≤ 251) {l : List UInt8} (hl : l.length ≤ 40 * (m - n)) {nm : List UInt8} {t : Sig} (ht : findT A.sp nm = some t) : Sml (apL A nm t l) m := by
  have h1 := Sml.app hT h hm hm2 hl ht
  exact ⟨h1.cnt, h1.len, h1.next, h1.ops, h1.room, h.left, h1.keep⟩
theorem Sml.append {A : Ab} {Q : RA} {n m : Nat} (hT : Tie A Q) (h : Sml A n) (hm : n + 1 ≤ m) (hm2 : m ≤ 251) (s : ByteArray) {l : List UInt8} (hl : l.length ≤ 40 * (m - n)) : Sml (appendX A s l).2 m := by
  have h1 := h.mono (show n ≤ m by omega)
  unfold appendX
  split
  · split
    · exact h1
    · rename_i t ht
      exact (Sml.apl hT h hm hm2 hl ht).off _
  · unfold appendM
    split
    · split
      · exact h1
      · rename_i t ht
        split
        · exact h1
        · exact Sml.app hT h hm hm2 hl ht
    · exact h1
theorem Sml.arm {A : Ab} {n m : Nat} (h : Sml A n) (hm : n ≤ m) {a k : Int} (ha : a ≤ 9223372036854775807) (hk : -9223372036854775808 ≤ k ∧ k ≤ 9223372036854775807) : Sml (armX A a k).2 m := by
  have h1 := h.mono hm
  unfold armX
  split
  · split
    · exact h1
    · exact ⟨h1.cnt, h1.len, h1.next, h1.ops, h1.room, by show a.toNat ≤ _; omega, hk⟩
  · exact h1
theorem Sml.start {A : Ab} {n : Nat} (h : Sml A n) : Sml { A with on := true, left := 0 } n := ⟨h.cnt, h.len, h.next, h.ops, h.room, Nat.zero_le _, h.keep⟩
/-! ### what is planned, on the document's disk -/
theorem crash_fail (Q : RA) (k : Int) : (crashQ Q k).fail = Q.fail := by unfold crashQ; split <;> rfl
theorem turn_fail (Q : RA) : (turnQ Q).fail ≤ Q.fail := Nat.sub_le _ _
theorem fail_create (Q : RA) (s : ByteArray) : (createQ Q s).2.fail ≤ Q.fail := by
  unfold createQ
  split
  · exact Nat.le_refl _
  · split
    · split
      · exact Nat.le_refl _
      · split
        · show (crashQ (turnQ Q) Q.keep).fail ≤ _
          rw [crash_fail]
          exact turn_fail Q
        · exact turn_fail Q
    · exact Nat.le_refl _
theorem fail_sync (Q : RA) (s : ByteArray) : (syncQ Q s).2.fail ≤ Q.fail := by
  unfold syncQ
  split
  · split
    · show (crashQ (turnQ Q) Q.keep).fail ≤ _
      rw [crash_fail]
      exact turn_fail Q
    · split
      · exact turn_fail Q
      · exact Nat.le_refl _
  · exact Nat.le_refl _
theorem fail_remove (Q : RA) (s : ByteArray) : (removeQ Q s).2.fail ≤ Q.fail := by
  unfold removeQ
  split
  · split
    · show (crashQ (turnQ Q) Q.keep).fail ≤ _
      rw [crash_fail]
      exact turn_fail Q
    · exact turn_fail Q
  · exact Nat.le_refl _
theorem fail_rename (Q : RA) (s u : ByteArray) : (renameQ Q s u).2.fail ≤ Q.fail := by
  unfold renameQ
  split
  · exact Nat.le_refl _
  · split
    · split
      · exact Nat.le_refl _
      · split
        · show (crashQ (turnQ Q) Q.keep).fail ≤ _
          rw [crash_fail]
          exact turn_fail Q
        · split
          · exact turn_fail Q
          · exact turn_fail Q
    · exact Nat.le_refl _
theorem fail_append (Q : RA) (s : ByteArray) (l : List UInt8) : (appendQ Q s l).2.fail ≤ Q.fail := by
  unfold appendQ
  split
  · exact Nat.le_refl _
  · split
    · split
      · exact Nat.le_refl _
      · rename_i t _
        split
        · exact Nat.le_refl _
        · split
          · show (crashQ (appQ Q (nameOf s) t l) Q.keep).fail ≤ _
            rw [crash_fail]
            exact turn_fail Q
          · exact turn_fail Q
    · exact Nat.le_refl _
theorem fail_spoil (Q : RA) (s : ByteArray) (i k : Int) : (spoilQ Q s i k).2.fail = Q.fail := by
  unfold spoilQ
  split
  · split
    · rfl
    · split <;> rfl
  · rfl
theorem fail_arm {Q : RA} (hf : Q.fail ≤ 9223372036854775807) {a k : Int} (ha : a ≤ 9223372036854775807) : (armQ Q a k).2.fail ≤ 9223372036854775807 := by
  unfold armQ
  split
  · exact hf
  · split
    · exact hf
    · show a.toNat ≤ _; omega
end Go.Proofs.YtgkdodcidancpaaGreatDoor
namespace Go.Proofs.YtgkdodcidancpaaGreatDoor
open Go.RowKit Go.Maps Go.WideAt Go.WideShapes

/-- Both disks lie in memory, in the blocks of the list. -/
def Two (d r : Nat) (A : Ab) (Q : RA) (fs : List Nat) (w : World) : Prop := ∃ ft fr, At d A ft w ∧ RAt r Q fr w ∧ (∀ i ∈ ft, i ∉ fr) ∧ fs = ft ++ fr
section
variable {d r : Nat} {A : Ab} {Q : RA} {fs : List Nat} {w : World} (h : Two d r A Q fs w)
include h
theorem Two.lt : ∀ i ∈ fs, i < w.heap.size := by
  obtain ⟨ft, fr, h1, h2, _, rfl⟩ := h
  intro i hi
  rcases List.mem_append.1 hi with hi | hi
  · exact h1.lt i hi
  · exact h2.lt i hi
theorem Two.moved {w' : World} {a b : List Nat} (hm : Moved w w' a b) (hd : ∀ i ∈ fs, i ∉ a) : Two d r A Q fs w' := by
  obtain ⟨ft, fr, h1, h2, h3, rfl⟩ := h
  exact ⟨ft, fr, h1.moved hm (fun i hi => hd i (List.mem_append.2 (.inl hi))), h2.moved hm (fun i hi => hd i (List.mem_append.2 (.inr hi))), h3, rfl⟩
theorem Two.grown {w' : World} (hg : w.grownBy w' none) : Two d r A Q fs w' := h.moved (Moved.none_of hg []) (by simp)
theorem Two.drew : Two d r A Q fs w.drew := h.moved (Moved.refl w []).drew (by simp)
/-- A call of the program's disk. -/
theorem Two.prog {F : Nat} {args : Array Value} {q : Int × Ab} (hc : ∀ ft, At d A ft w → (∀ i ∈ ft, i ∈ fs) → Calls Tryz.prog F args w (Out d ft w q)) : Calls Tryz.prog F args w fun x w' => x = .returned (.int .i64 q.1) ∧ ∃ fs', Two d r q.2 Q fs' w' ∧ Moved w w' fs fs' := by
  obtain ⟨ft, fr, h1, h2, h3, rfl⟩ := h
  refine (hc ft h1 (fun i hi => List.mem_append.2 (.inl hi))).mono ?_
  rintro x w' ⟨rfl, ft', a1, a2⟩
  refine ⟨rfl, _, ⟨ft', fr, a1, h2.moved a2 (fun i hi hh => h3 i hh hi), fun i hi hh => ?_, rfl⟩, a2.wider (fun i hi => .inl (List.mem_append.2 (.inl hi))) (fun i hi => ?_)⟩
  · rcases a2.news i hi with h5 | h5
    · exact h3 i h5 hh
    · have := h2.lt i hh; omega
  · rcases List.mem_append.1 hi with h5 | h5
    · exact .inr (.inl h5)
    · exact .inl (List.mem_append.2 (.inr h5))
/-- A call of the document's disk. -/
theorem Two.ref {F : Nat} {args : Array Value} {q : Int × RA} (hc : ∀ fr, RAt r Q fr w → (∀ i ∈ fr, i ∈ fs) → Calls Tryz.prog F args w (ROut r fr w q)) : Calls Tryz.prog F args w fun x w' => x = .returned (.int .i64 q.1) ∧ ∃ fs', Two d r A q.2 fs' w' ∧ Moved w w' fs fs' := by
  obtain ⟨ft, fr, h1, h2, h3, rfl⟩ := h
  refine (hc fr h2 (fun i hi => List.mem_append.2 (.inr hi))).mono ?_
  rintro x w' ⟨rfl, fr', a1, a2⟩
  refine ⟨rfl, _, ⟨ft, fr', h1.moved a2 (fun i hi hh => h3 i hi hh), a1, fun i hi hh => ?_, rfl⟩, a2.wider (fun i hi => .inl (List.mem_append.2 (.inr hi))) (fun i hi => ?_)⟩
  · rcases a2.news i hh with h5 | h5
    · exact h3 i hi h5
    · have := h1.lt i hi; omega
  · rcases List.mem_append.1 hi with h5 | h5
    · exact .inl (List.mem_append.2 (.inl h5))
    · exact .inr (.inl h5)
end
/-- Worlds in which a block holds what it does. -/
structure CB (b : Nat) (o : Option Obj) where
  u : World
  h : u.heap[b]? = o
theorem CB.cell {b : Nat} {o : Option Obj} (p : CB b o) {w : World} (hw : w.heap[b]? = o) {i : Nat} {v : Value} (hc : w.cell? ⟨b, i, none⟩ = some v) : p.u.cell? ⟨b, i, none⟩ = some v := (World.cell?_of_block (a := ⟨b, i, none⟩) (p.h.trans hw.symm)).trans hc
end Go.Proofs.YtgkdodcidancpaaGreatDoor
namespace Go.Proofs.YtgkdodcidancpaaGreatDoor
open Go.RowKit Go.Maps Go.WideAt Go.WideShapes
attribute [local go_sem] Oper.pureAt Oper.pureUpon
attribute [local irreducible] wpQuiet

end Go.Proofs.YtgkdodcidancpaaGreatDoor
namespace Go.Proofs.YtgkdodcidancpaaGreatDoor
open Go.RowKit Go.Maps Go.WideAt Go.WideShapes
attribute [local go_sem] Oper.pureAt Oper.pureUpon
attribute [local irreducible] wpQuiet

theorem sees_grown {w w' : World} {ao : Option Addr} {l : List UInt8} (h : Sees w ao l) (hg : w.grownBy w' none) : Sees w' ao l := h.kept fun a ha h0 => hg.block _ (h.lt ha h0) (by simp)
theorem sees_moved {w w' : World} {ao : Option Addr} {l : List UInt8} {a b : List Nat} (h : Sees w ao l) (hm : Moved w w' a b) (hn : ∀ p, ao = some p → 0 < l.length → p.block ∉ a) : Sees w' ao l := h.kept fun p hp h0 => hm.kept _ (h.lt hp h0) (hn p hp h0)
end Go.Proofs.YtgkdodcidancpaaGreatDoor
namespace Go.Proofs.YtgkdodcidancpaaGreatDoor
open Go.RowKit Go.Maps Go.WideAt Go.WideShapes

theorem before_le : ∀ {a b : List UInt8}, bytesBefore a b = true → a ≤ b
  | [], b, _ => List.nil_le b
  | x :: a, [], h => by simp [bytesBefore] at h
  | x :: a, y :: b, h => by
    unfold bytesBefore at h
    rw [List.cons_le_cons_iff]
    by_cases h1 : x < y
    · exact .inl h1
    · by_cases h2 : x = y
      · subst h2
        refine .inr ⟨rfl, before_le (a := a) (b := b) ?_⟩
        simpa using h
      · exfalso
        simp_all
theorem names_sorted {ss : List (List UInt8)} {L : List (List UInt8)} (hp : ss.Perm L) (hs : L.Pairwise (fun x y => bytesBefore x y = true)) : ss.mergeSort (fun x y => decide (x ≤ y)) = L := by
  refine ((List.mergeSort_perm _ _).trans hp).eq_of_pairwise (le := fun x y => decide (x ≤ y) = true) (fun a b _ _ h2 h3 => ?_) (List.pairwise_mergeSort (fun a b c h2 h3 => ?_) (fun a b => ?_) _) ?_
  · simp only [decide_eq_true_eq] at h2 h3
    exact List.le_antisymm h2 h3
  · simp only [decide_eq_true_eq] at h2 h3 ⊢
    exact List.le_trans h2 h3
  · simp only [Bool.or_eq_true, decide_eq_true_eq]
    exact List.le_total a b
  · exact hs.imp fun h => by simp only [decide_eq_true_eq]; exact before_le h
end Go.Proofs.YtgkdodcidancpaaGreatDoor
