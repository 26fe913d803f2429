/-
  CONTRACTS: the closures of the disk's operations, for every disk in memory.
-/
import Derived.Test.YtglaocghcgcghaaGreatDoorMany6
import Derived.Test.YtglaocghcgcghaaGreatDoorDskLay
namespace Go.Proofs.YtglaocghcgcghaaGreatDoor
open Go.RowKit Go.Maps

theorem feet_drop {fs : List Ent} {nm : List UInt8} {i : Nat} (h : i ∈ feet (dropE fs nm)) : i ∈ feet fs := by
  obtain ⟨e, he, hi⟩ := feet_mem.1 h
  exact feet_mem.2 ⟨e, (mem_dropE.1 he).1, hi⟩
theorem drop_nodup {fs : List Ent} {nm : List UInt8} (h : (feet fs).Nodup) : (feet (dropE fs nm)).Nodup := by
  induction fs with
  | nil => exact h
  | cons x r ih =>
    have h0 := h
    simp only [feet, List.flatMap_cons, List.nodup_append] at h
    unfold dropE
    rw [List.filter_cons]
    split
    · show (feet (x :: dropE r nm)).Nodup
      simp only [feet, List.flatMap_cons, List.nodup_append]
      exact ⟨h.1, ih h.2.1, fun i hi j hj hij => h.2.2 i hi j (feet_drop hj) hij⟩
    · exact ih h.2.1
/-- A name goes. -/
theorem DiskAt.dropped {w w' : World} {d bm n : Nat} {S : St} (h : DiskAt w d bm S) (nm : List UInt8) (ho : w'.ownsMap Tryz.prog 9 ptrElem bm n (datum (dropE S.fs nm))) (hg : w.grownBy w' (some bm)) :
    DiskAt w' d bm { S with fs := dropE S.fs nm } ∧ Moved w w' (foot d bm S.fs) (foot d bm (dropE S.fs nm)) := by
  have hn := nodup_d h.apart
  have hk : ∀ i, i < w.heap.size → i ≠ bm → w'.heap[i]? = w.heap[i]? := fun i hi hne => hg.block i hi (fun e => hne (Option.some.inj e))
  refine ⟨⟨h.head.carry (hk d h.head.lt hn.1), ?_, fun e he => ?_, ?_⟩, ?_⟩
  · have := map_tight ho
    rwa [datum_size] at this
  · have he' := (mem_dropE.1 he).1
    exact (h.ents e he').carry fun i hi => hk i ((h.ents e he').lt i hi) fun e1 => hn.2.2.1 (e1 ▸ feet_mem.2 ⟨e, he', hi⟩)
  · simp only [foot, List.nodup_cons, List.mem_cons, not_or]
    exact ⟨⟨hn.1, fun hi => hn.2.1 (feet_drop hi)⟩, fun hi => hn.2.2.1 (feet_drop hi), drop_nodup hn.2.2.2⟩
  · refine (Moved.of_grown hg).wider (fun i hi => .inl (by simp at hi; simp [foot, hi])) (fun i hi => .inl ?_)
    simp only [foot, List.mem_cons] at hi ⊢
    exact hi.imp id fun h => h.imp id feet_drop
/-- A file is called so. -/
theorem DiskAt.placed {w w' : World} {d bm n : Nat} {S : St} (h : DiskAt w d bm S) {e : Ent} (hE : EntAt w e) (hd : ∀ i ∈ e.foot, i ∉ foot d bm S.fs) (ho : w'.ownsMap Tryz.prog 9 ptrElem bm n (datum (putE S.fs e))) (hg : w.grownBy w' (some bm)) :
    DiskAt w' d bm { S with fs := putE S.fs e } ∧ Moved w w' (e.foot ++ foot d bm S.fs) (foot d bm (putE S.fs e)) := by
  have hn := nodup_d h.apart
  have hk : ∀ i, i < w.heap.size → i ≠ bm → w'.heap[i]? = w.heap[i]? := fun i hi hne => hg.block i hi (fun e => hne (Option.some.inj e))
  have hp := perm_putE S.fs e
  have hf : ∀ i, i ∈ feet (putE S.fs e) ↔ i ∈ e.foot ∨ i ∈ feet (dropE S.fs e.nm) := fun i => by
    rw [(feet_perm hp).mem_iff]
    simp only [feet, List.flatMap_cons, List.mem_append]
  refine ⟨⟨h.head.carry (hk d h.head.lt hn.1), ?_, fun x hx => ?_, ?_⟩, ?_⟩
  · have := map_tight ho
    rwa [datum_size] at this
  · rcases List.mem_cons.1 (hp.mem_iff.1 hx) with rfl | hx
    · exact hE.carry fun i hi => hk i (hE.lt i hi) fun e1 => hd i hi (by rw [e1]; simp [foot])
    · have hx' := (mem_dropE.1 hx).1
      exact (h.ents x hx').carry fun i hi => hk i ((h.ents x hx').lt i hi) fun e1 => hn.2.2.1 (e1 ▸ feet_mem.2 ⟨x, hx', hi⟩)
  · simp only [foot, List.nodup_cons, List.mem_cons, not_or]
    refine ⟨⟨hn.1, fun hi => ?_⟩, fun hi => ?_, ?_⟩
    · rcases (hf d).1 hi with h1 | h1
      · exact hd d h1 (by simp [foot])
      · exact hn.2.1 (feet_drop h1)
    · rcases (hf bm).1 hi with h1 | h1
      · exact hd bm h1 (by simp [foot])
      · exact hn.2.2.1 (feet_drop h1)
    · rw [(feet_perm hp).nodup_iff]
      show (feet (e :: dropE S.fs e.nm)).Nodup
      simp only [feet, List.flatMap_cons, List.nodup_append]
      exact ⟨hE.apart, drop_nodup hn.2.2.2, fun i hi j hj hij => hd i hi (by subst hij; simp only [foot, List.mem_cons]; exact .inr (.inr (feet_drop hj)))⟩
  · refine (Moved.of_grown hg).wider (fun i hi => .inl (by simp at hi; simp [foot, hi])) (fun i hi => .inl ?_)
    simp only [foot, List.mem_cons, List.mem_append] at hi ⊢
    rcases hi with h1 | h1 | h1
    · exact .inr (.inl h1)
    · exact .inr (.inr (.inl h1))
    · rcases (hf i).1 h1 with h2 | h2
      · exact .inl h2
      · exact .inr (.inr (.inr (feet_drop h2)))
def newE (nm : List UInt8) (b : Nat) : Ent := ⟨nm, b, .slice none 0 0, .slice none 0 0, [], 0, []⟩
theorem put_run {w : World} {bm n : Nat} {fs : List Ent} (h : w.ownsMap Tryz.prog 9 ptrElem bm n (datum fs)) (hn : n < maxLen) {s : ByteArray} (hs : s.size ≤ maxLen) (e : Ent) (he : e.nm = nameOf s) :
    ∃ w', (Instr.mapUpdate 59 (.map (some bm)) (.string s) (.pointer (some ⟨e.b, 0, none⟩))).run Tryz.prog w = .ok () w' ∧ w'.ownsMap Tryz.prog 9 ptrElem bm (n + 1) (datum (putE fs e)) ∧ w.grownBy w' (some bm) := by
  have := h.update law Tryz.underlying59 hn (WideMaps.keyOf_string_mk (P := Tryz.prog) Tryz.underlying9 hs) (ptrElem_mk e.b)
  have hk : (datum fs).put (.string s.data.toList) (.lit (.int .i64 (e.b : Int))) = datum (putE fs e) := by rw [← datum_put, he]; rfl
  rwa [hk] at this
theorem del_run {w : World} {bm n : Nat} {fs : List Ent} (h : w.ownsMap Tryz.prog 9 ptrElem bm n (datum fs)) {s : ByteArray} (hs : s.size ≤ maxLen) (ty : TypeId) :
    ∃ w', (Builtin.delete_ #[59, 9] ty #[.map (some bm), .string s]).run Tryz.prog w = .ok (.tuple #[]) w' ∧ w'.ownsMap Tryz.prog 9 ptrElem bm n (datum (dropE fs (nameOf s))) ∧ w.grownBy w' (some bm) := by
  obtain ⟨w', h1, h2, h3⟩ := h.drop law Tryz.underlying59 (WideMaps.keyOf_string_mk (P := Tryz.prog) Tryz.underlying9 hs) ty
  exact ⟨w', h1, by rw [← datum_drop]; exact h2, h3.grown⟩

set_option maxRecDepth 100000 in
theorem create1_any {w : World} {d bm p1 p2 : Nat} {S : St} {s : ByteArray} (h : DiskAt w d bm S) (h1 : w.cell? ⟨p1, 0, none⟩ = some (.pointer (some ⟨d, 0, none⟩))) (h2 : w.cell? ⟨p2, 0, none⟩ = some (.string s)) (hs : s.size ≤ maxLen) (hn : S.fs.length < maxLen) :
    Calls Tryz.prog 89 #[.pointer (some ⟨p1, 0, none⟩), .pointer (some ⟨p2, 0, none⟩)] w fun x w' => x = .returned (.tuple #[]) ∧ ∃ b, DiskAt w' d bm { S with fs := putE S.fs (newE (nameOf s) b) } ∧ Moved w w' (foot d bm S.fs) (foot d bm (putE S.fs (newE (nameOf s) b))) := by
  have c0 := h.c0
  have hd := h.head.lt
  have q1 := World.block_lt_of_cell? _ _ h1
  have q2 := World.block_lt_of_cell? _ _ h2
  have hA := (h.alloc (.cells #[.slice none 0 0, .int .i64 0, .slice none 0 0] 92)).drew
  obtain ⟨w2, hrun, hown, hg⟩ := put_run hA.map hn hs (newE (nameOf s) w.heap.size) rfl
  have hE : EntAt (w.alloc (.cells #[.slice none 0 0, .int .i64 0, .slice none 0 0] 92)).drew (newE (nameOf s) w.heap.size) :=
    ⟨Blk.new w [.slice none 0 0, .int .i64 0, .slice none 0 0] _, World.ownsRow_nil _ _ _ _, World.ownsRow_nil _ _ _ _, by simp [Ent.foot, newE, Value.ownBlock]⟩
  have hf : (newE (nameOf s) w.heap.size).foot = [w.heap.size] := rfl
  have hP := hA.placed hE (fun i hi hi2 => by rw [hf] at hi; simp at hi; subst hi; exact absurd (h.lt _ hi2) (Nat.lt_irrefl _)) hown hg
  have hM : Moved w (w.alloc (.cells #[.slice none 0 0, .int .i64 0, .slice none 0 0] 92)).drew (foot d bm S.fs) (foot d bm S.fs) := (Moved.alloc _ _).drew
  have HE : Hid (∃ b, DiskAt w2 d bm { S with fs := putE S.fs (newE (nameOf s) b) } ∧ Moved w w2 (foot d bm S.fs) (foot d bm (putE S.fs (newE (nameOf s) b)))) :=
    ⟨_, hP.1, (hM.wider (b' := (newE (nameOf s) w.heap.size).foot ++ foot d bm S.fs) (fun i hi => .inl hi) (fun i hi => by
      rcases List.mem_append.1 hi with h1 | h1
      · rw [hf] at h1; simp at h1; exact .inr (.inr (by omega))
      · exact .inl h1)).trans hP.2⟩
  have hrun : (Instr.mapUpdate 59 (.map (some bm)) (.string s) (.pointer (some ⟨w.heap.size, 0, none⟩))).run Tryz.prog (w.alloc (.cells #[.slice none 0 0, .int .i64 0, .slice none 0 0] 92)).drew = .ok () w2 := hrun
  clear hP hE hM hA hown hg h hf
  go_enter Tryz.func89, Tryz.ntmps89
  go_wp2
  go_region
  go_end0
  exact ⟨rfl, HE.out⟩

/-! ### bytes at a file's end -/
def growS (e : Ent) (l : List UInt8) : Nat := if l = [] then 0 else growN (e.bs.length + l.length) e.wr e.pl.length
theorem lay_all {w : World} {e : Ent} (h : EntAt w e) (ao : Option Addr) (l : List UInt8) (c next : Nat) (hs : Sees w ao l) (hlen : e.bs.length + l.length ≤ 1099511627776) (hnx : next ≤ 4611686018427387904) (hpl : e.pl.length ≤ 1099511627776) (hwr : e.wr ≤ 1099511627776) :
    Calls Tryz.prog 79 #[.pointer (some ⟨e.b, 0, none⟩), .slice ao l.length c, .int .i64 (next : Int)] w fun x w' =>
      x = .returned (.int .i64 ((next + growS e l : Nat) : Int)) ∧ ∃ e', EntAt w' e' ∧ e'.nm = e.nm ∧ e'.b = e.b ∧ e'.bs = e.bs ++ l ∧ e'.wr = e.wr ∧ e'.pl = e.pl ++ List.range' next (growS e l) ∧ Moved w w' e.foot e'.foot := by
  by_cases hl : l = []
  · subst hl
    refine (lay_none (e := e) ao c next).mono ?_
    rintro x w' ⟨rfl, rfl⟩
    exact ⟨by simp [growS], e, h, rfl, rfl, by simp, rfl, by simp [growS], Moved.refl _ _⟩
  · have h0 : 0 < l.length := List.length_pos_iff.2 hl
    refine (lay_any h ao l c next hs h0 hlen hnx hpl hwr).mono ?_
    rintro x w' ⟨rfl, e', a1, a2, a3, a4, a5, a6, a7⟩
    have hg : growS e l = growN (e.bs.length + l.length) e.wr e.pl.length := by unfold growS; rw [if_neg hl]
    rw [hg]
    exact ⟨rfl, e', a1, a2, a3, a4, a5, a6, a7⟩
theorem DiskAt.head_moved {w w' : World} {d bm : Nat} {S : St} (h : DiskAt w d bm S) {e : Ent} (he : e ∈ S.fs) {b : List Nat} (hm : Moved w w' e.foot b) : Blk w' d (headOf bm S) 61 :=
  h.head.carry (hm.kept d h.head.lt fun hi => (nodup_d h.apart).2.1 (feet_mem.2 ⟨e, he, hi⟩))
set_option maxRecDepth 100000 in
theorem sync1_any {w : World} {d bm p1 : Nat} {S : St} (h : DiskAt w d bm S) {e : Ent} (he : e ∈ S.fs) (h1 : w.cell? ⟨p1, 0, none⟩ = some (.pointer (some ⟨e.b, 0, none⟩))) :
    Calls Tryz.prog 80 #[.pointer (some ⟨p1, 0, none⟩)] w fun x w' => x = .returned (.tuple #[]) ∧ DiskAt w' d bm { S with fs := swap S.fs e (endE e e.bs.length) } ∧ Moved w w' (foot d bm S.fs) (foot d bm (swap S.fs e (endE e e.bs.length))) := by
  have hE := h.ents e he
  have c0 := hE.c0
  obtain ⟨ao, cap, hv, _⟩ := owns_form hE.row1
  rw [hv] at c0
  have C : Hid (∀ k, Calls Tryz.prog 59 #[.pointer (some ⟨e.b, 0, none⟩), .int .i64 (e.bs.length : Int)] (w.drewN k) fun x w' => x = .returned (.tuple #[]) ∧ EntAt w' (endE e e.bs.length) ∧ Moved (w.drewN k) w' e.foot (endE e e.bs.length).foot) := fun k => endAt_any (hE.carry (w' := w.drewN k) fun _ _ => rfl) _ (Nat.le_refl _)
  have K : Hid (DiskAt w d bm S ∧ e ∈ S.fs) := ⟨h, he⟩
  clear h he hE hv
  go_enter Tryz.func80, Tryz.ntmps80
  go_wp2
  go_region_with (go_at_call 59; refine (C.out _).mono ?_; rintro x w1 ⟨rfl, a1, a7⟩)
  all_goals
    go_end0
    have hm : Moved w w1 e.foot (endE e e.bs.length).foot := ⟨a7.os, a7.tape, a7.output, a7.size, a7.kept, a7.news⟩
    exact ⟨rfl, K.out.1.turn K.out.2 hm a1 rfl rfl⟩

set_option maxRecDepth 100000 in
theorem remove1_any {w : World} {d bm p1 p2 : Nat} {S : St} {s : ByteArray} (h : DiskAt w d bm S) (h1 : w.cell? ⟨p1, 0, none⟩ = some (.pointer (some ⟨d, 0, none⟩))) (h2 : w.cell? ⟨p2, 0, none⟩ = some (.string s)) (hs : s.size ≤ maxLen) :
    Calls Tryz.prog 63 #[.pointer (some ⟨p1, 0, none⟩), .pointer (some ⟨p2, 0, none⟩)] w fun x w' => x = .returned (.tuple #[]) ∧ DiskAt w' d bm { S with fs := dropE S.fs (nameOf s) } ∧ Moved w w' (foot d bm S.fs) (foot d bm (dropE S.fs (nameOf s))) := by
  have c0 := h.c0
  obtain ⟨w2, hrun, hown, hg⟩ := del_run h.drew.map hs 0
  have HE : Hid (DiskAt w2 d bm { S with fs := dropE S.fs (nameOf s) } ∧ Moved w w2 (foot d bm S.fs) (foot d bm (dropE S.fs (nameOf s)))) := by
    have := h.drew.dropped (nameOf s) hown hg
    exact ⟨this.1, ⟨this.2.os, this.2.tape, this.2.output, this.2.size, this.2.kept, this.2.news⟩⟩
  clear hown hg h
  go_enter Tryz.func63, Tryz.ntmps63
  go_wp2
  go_region
  go_end0
  exact ⟨rfl, HE.out⟩
end Go.Proofs.YtglaocghcgcghaaGreatDoor
