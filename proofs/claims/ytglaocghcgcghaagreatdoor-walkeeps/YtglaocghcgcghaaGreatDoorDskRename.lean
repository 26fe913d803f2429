/-
  CONTRACTS: a file gets another name, where nothing is planned, for every disk in memory.
-/
import Derived.Test.YtglaocghcgcghaaGreatDoorMany7
namespace Go.Proofs.YtglaocghcgcghaaGreatDoor
open Go.RowKit Go.Maps

def named (e : Ent) (nm : List UInt8) : Ent := { e with nm := nm }
theorem EntAt.named {w : World} {e : Ent} (h : EntAt w e) (nm : List UInt8) : EntAt w (named e nm) := ⟨h.head, h.row1, h.row2, h.apart⟩
set_option maxRecDepth 100000 in
theorem rename1_any {w : World} {d bm p1 p2 p3 p4 : Nat} {S : St} {s t : ByteArray} (h : DiskAt w d bm S) {e : Ent} (he : find S.fs (nameOf s) = some e) (h1 : w.cell? ⟨p1, 0, none⟩ = some (.pointer (some ⟨d, 0, none⟩))) (h2 : w.cell? ⟨p2, 0, none⟩ = some (.string s)) (h3 : w.cell? ⟨p3, 0, none⟩ = some (.pointer (some ⟨e.b, 0, none⟩))) (h4 : w.cell? ⟨p4, 0, none⟩ = some (.string t))
    (hp : p1 ≠ bm ∧ p3 ≠ bm ∧ p4 ≠ bm) (hs : s.size ≤ maxLen) (ht : t.size ≤ maxLen) (hn : S.fs.length < maxLen) :
    Calls Tryz.prog 99 #[.pointer (some ⟨p1, 0, none⟩), .pointer (some ⟨p2, 0, none⟩), .pointer (some ⟨p3, 0, none⟩), .pointer (some ⟨p4, 0, none⟩)] w fun x w' => x = .returned (.tuple #[]) ∧ DiskAt w' d bm { S with fs := putE (dropE S.fs (nameOf s)) (named e (nameOf t)) } ∧ Moved w w' (foot d bm S.fs) (foot d bm (putE (dropE S.fs (nameOf s)) (named e (nameOf t)))) := by
  have c0 := h.c0
  have hnd := nodup_d h.apart
  obtain ⟨hem, hnm⟩ := find_some he
  obtain ⟨w2, hrun, hown, hg⟩ := del_run h.drew.map hs 0
  have hD := h.drew.dropped (nameOf s) hown hg
  have hD2 := hD.1.drew
  have hup : ∀ p v, w.cell? ⟨p, 0, none⟩ = some v → p ≠ bm → w2.cell? ⟨p, 0, none⟩ = some v := fun p v hc hne => (World.cell?_of_block (a := ⟨p, 0, none⟩) (hg.block p (World.block_lt_of_cell? _ _ hc) (fun e => hne (Option.some.inj e)))).trans hc
  have k1 := hup p1 _ h1 hp.1
  have k3 := hup p3 _ h3 hp.2.1
  have k4 := hup p4 _ h4 hp.2.2
  have hc2 := hD.1.c0
  have hln : (dropE S.fs (nameOf s)).length < maxLen := Nat.lt_of_le_of_lt (by unfold dropE; exact List.length_filter_le _ _) hn
  obtain ⟨w3, hrun3, hown3, hg3⟩ := put_run hD2.map hln ht (named e (nameOf t)) rfl
  have hE0 : EntAt w2.drew (named e (nameOf t)) := ((h.ents e hem).carry (w' := w2.drew) fun i hi => hg.block i ((h.ents e hem).lt i hi) fun e1 => hnd.2.2.1 (Option.some.inj e1 ▸ feet_mem.2 ⟨e, hem, hi⟩)).named _
  have hdis : ∀ i ∈ (named e (nameOf t)).foot, i ∉ foot d bm (dropE S.fs (nameOf s)) := fun i hi hi2 => by
    have hi' : i ∈ e.foot := hi
    simp only [foot, List.mem_cons] at hi2
    rcases hi2 with rfl | rfl | h5
    · exact hnd.2.1 (feet_mem.2 ⟨e, hem, hi'⟩)
    · exact hnd.2.2.1 (feet_mem.2 ⟨e, hem, hi'⟩)
    · obtain ⟨x, hx, hix⟩ := feet_mem.1 h5
      have hx2 := mem_dropE.1 hx
      have := feet_same hnd.2.2.2 hx2.1 hem hix hi'
      exact hx2.2 (by rw [this, hnm])
  have hP := hD2.placed hE0 hdis hown3 hg3
  have HE : Hid (DiskAt w3 d bm { S with fs := putE (dropE S.fs (nameOf s)) (named e (nameOf t)) } ∧ Moved w w3 (foot d bm S.fs) (foot d bm (putE (dropE S.fs (nameOf s)) (named e (nameOf t))))) := by
    refine ⟨hP.1, ?_⟩
    have m1 : Moved w w2.drew (foot d bm S.fs) (foot d bm (dropE S.fs (nameOf s))) := ⟨hD.2.os, hD.2.tape, hD.2.output, hD.2.size, hD.2.kept, hD.2.news⟩
    exact (m1.wider (b' := (named e (nameOf t)).foot ++ foot d bm (dropE S.fs (nameOf s))) (fun i hi => .inl hi) (fun i hi => by
      rcases List.mem_append.1 hi with h6 | h6
      · exact .inl (by simp only [foot, List.mem_cons]; exact .inr (.inr (feet_mem.2 ⟨e, hem, h6⟩)))
      · exact .inr (.inl h6))).trans hP.2
  have hrun3 : (Instr.mapUpdate 59 (.map (some bm)) (.string t) (.pointer (some ⟨e.b, 0, none⟩))).run Tryz.prog w2.drew = .ok () w3 := hrun3
  clear hP hE0 hD2 hown3 hg3 hD hown hup hdis hg h hln he hem hnm hnd
  go_enter Tryz.func99, Tryz.ntmps99
  go_wp2
  go_region
  all_goals
    go_wp2
    go_region
  all_goals
    go_end0
    exact ⟨rfl, HE.out⟩
/-- Behind the boxes of a call: the disk is as it was, the boxes hold the disk and the two names. -/
structure Boxed5 (w : World) (d bm : Nat) (S : St) (s t : ByteArray) (w1 : World) : Prop where
  disk : DiskAt w1 d bm S
  moved : Moved w w1 (foot d bm S.fs) (foot d bm S.fs)
  k1 : w1.cell? ⟨w.heap.size, 0, none⟩ = some (.pointer (some ⟨d, 0, none⟩))
  k2 : w1.cell? ⟨w.heap.size + 1, 0, none⟩ = some (.string s)
  k3 : w1.cell? ⟨w.heap.size + 2, 0, none⟩ = some (.string t)
  size : w.heap.size + 3 ≤ w1.heap.size
theorem Boxed5.start {w : World} {d bm : Nat} {S : St} (h : DiskAt w d bm S) (s t : ByteArray) : Boxed5 w d bm S s t (((w.alloc (.cells #[.pointer (some ⟨d, 0, none⟩)] 29)).alloc (.cells #[.string s] 9)).alloc (.cells #[.string t] 9)) := by
  have hB := Boxed2.start h s
  have hg := World.grownBy_alloc ((w.alloc (.cells #[.pointer (some ⟨d, 0, none⟩)] 29)).alloc (.cells #[.string s] 9)) (.cells #[.string t] 9) none
  have hB2 := hB.grown hg
  refine ⟨hB2.disk, hB2.moved, hB2.k1, hB2.k2, ?_, by simp⟩
  have := box_new ((w.alloc (.cells #[.pointer (some ⟨d, 0, none⟩)] 29)).alloc (.cells #[.string s] 9)) (.string t) 9
  simpa using this
theorem Boxed5.grown {w : World} {d bm : Nat} {S : St} {s t : ByteArray} {w1 w2 : World} (h : Boxed5 w d bm S s t w1) (hg : w1.grownBy w2 none) : Boxed5 w d bm S s t w2 :=
  ⟨h.disk.carry fun i hi => hg.block i (h.disk.lt i hi) (by simp), h.moved.trans (Moved.none_of hg _), hg.cell h.k1 (by simp), hg.cell h.k2 (by simp), hg.cell h.k3 (by simp), Nat.le_trans h.size hg.size⟩
theorem two_cells (w : World) (s u : ByteArray) (t : TypeId) : ∀ i, i < [s, u].length → (w.alloc (.cells #[.string s, .string u] t)).cell? ⟨w.heap.size, i, none⟩ = some (.string ([s, u].getD i ByteArray.empty)) := by
  intro i hi
  have hi2 : i = 0 ∨ i = 1 := by simp at hi; omega
  rcases hi2 with rfl | rfl
  · exact (Blk.new w [.string s, .string u] t).cell 0 rfl
  · exact (Blk.new w [.string s, .string u] t).cell 1 rfl
theorem refused_two {w : World} {d bm : Nat} {S : St} (h : DiskAt w d bm S) (s t : ByteArray) (hs : s.size ≤ maxLen) (ht : t.size ≤ maxLen) :
    Calls Tryz.prog 24 #[.pointer (some ⟨d, 0, none⟩), .slice (some ⟨w.heap.size + 3, 0, none⟩) 2 2] ((((w.alloc (.cells #[.pointer (some ⟨d, 0, none⟩)] 29)).alloc (.cells #[.string s] 9)).alloc (.cells #[.string t] 9)).alloc (.cells #[.string s, .string t] 9)) fun x w1 => x = .returned (.int .i64 (refuse S.on [s, t])) ∧ Boxed5 w d bm S s t w1 := by
  have hB := Boxed5.start h s t
  have hsz : (((w.alloc (.cells #[.pointer (some ⟨d, 0, none⟩)] 29)).alloc (.cells #[.string s] 9)).alloc (.cells #[.string t] 9)).heap.size = w.heap.size + 3 := by simp
  have R := refusal_any (hB.disk.alloc (.cells #[.string s, .string t] 9)) (w.heap.size + 3) 2 [s, t] (by simp) (by simp [hs, ht]) (by rw [← hsz]; exact two_cells _ s t _)
  refine R.mono ?_
  rintro x w1 ⟨rfl, rfl⟩
  exact ⟨rfl, hB.grown (World.grownBy_alloc _ _ _)⟩
section
variable {w : World} {d bm : Nat} {S : St}
theorem rename_refused (h : DiskAt w d bm S) (s t : ByteArray) (hs : s.size ≤ maxLen) (ht : t.size ≤ maxLen) {c : Int} (hc : refuse S.on [s, t] = c) (hc0 : c ≠ 0) :
    Calls Tryz.prog 73 #[.pointer (some ⟨d, 0, none⟩), .string s, .string t] w fun x w' => x = .returned (.int .i64 c) ∧ DiskAt w' d bm S ∧ Moved w w' (foot d bm S.fs) (foot d bm S.fs) := by
  have R := refused_two h s t hs ht
  rw [hc] at R
  have R : Hid (Calls Tryz.prog 24 #[.pointer (some ⟨d, 0, none⟩), .slice (some ⟨w.heap.size + 3, 0, none⟩) 2 2] ((((w.alloc (.cells #[.pointer (some ⟨d, 0, none⟩)] 29)).alloc (.cells #[.string s] 9)).alloc (.cells #[.string t] 9)).alloc (.cells #[.string s, .string t] 9)) fun x w1 => x = .returned (.int .i64 c) ∧ Boxed5 w d bm S s t w1) := R
  have hcb : (c == 0) = false := by rw [beq_eq_false_iff_ne]; exact hc0
  clear h hs ht hc
  go_enter Tryz.func73, Tryz.ntmps73
  go_wp2_with (go_at_call 24; go_fit R.out; rintro x w1 ⟨rfl, hB⟩)
  go_ret
  exact ⟨rfl, hB.disk, hB.moved⟩
theorem rename_none (h : DiskAt w d bm S) (s t : ByteArray) (hs : s.size ≤ maxLen) (ht : t.size ≤ maxLen) (hc : refuse S.on [s, t] = 0) (hc1 : refuse S.on [s] = 0) (hf : find S.fs (nameOf s) = none) :
    Calls Tryz.prog 73 #[.pointer (some ⟨d, 0, none⟩), .string s, .string t] w fun x w' => x = .returned (.int .i64 4) ∧ DiskAt w' d bm S ∧ Moved w w' (foot d bm S.fs) (foot d bm S.fs) := by
  have R := refused_two h s t hs ht
  rw [hc] at R
  have R : Hid (Calls Tryz.prog 24 #[.pointer (some ⟨d, 0, none⟩), .slice (some ⟨w.heap.size + 3, 0, none⟩) 2 2] ((((w.alloc (.cells #[.pointer (some ⟨d, 0, none⟩)] 29)).alloc (.cells #[.string s] 9)).alloc (.cells #[.string t] 9)).alloc (.cells #[.string s, .string t] 9)) fun x w1 => x = .returned (.int .i64 0) ∧ Boxed5 w d bm S s t w1) := R
  have F : Hid (∀ w1, Boxed5 w d bm S s t w1 → Calls Tryz.prog 43 #[.pointer (some ⟨d, 0, none⟩), .string s] w1 fun x w' => x = .returned (.tuple #[.pointer none, .int .i64 4]) ∧ Boxed5 w d bm S s t w') := fun w1 hB => (find_none hB.disk s hs hc1 hf).mono fun x w' hh => ⟨hh.1, hB.grown hh.2⟩
  clear h hs ht hc hc1 hf
  go_enter Tryz.func73, Tryz.ntmps73
  go_wp2_with (first | (go_at_call 24; go_fit R.out; rintro x w1 ⟨rfl, hB⟩; have k1 := hB.k1; have k2 := hB.k2) | (go_at_call 43; go_fit (F.out _ hB); rintro x w2 ⟨rfl, hB2⟩))
  go_ret
  have hB3 := hB2.grown (World.grownBy_alloc w2 (.cells #[.pointer none] 76) none)
  exact ⟨rfl, hB3.disk, hB3.moved⟩
theorem rename_ok (h : DiskAt w d bm S) (s t : ByteArray) (hs : s.size ≤ maxLen) (ht : t.size ≤ maxLen) (hc : refuse S.on [s, t] = 0) (hc1 : refuse S.on [s] = 0) {e : Ent} (hf : find S.fs (nameOf s) = some e) (hl : S.left ≠ 1) (ho : S.ops ≤ 4611686018427387904) (hlm : S.left ≤ 9223372036854775807) (hn : S.fs.length < maxLen) :
    Calls Tryz.prog 73 #[.pointer (some ⟨d, 0, none⟩), .string s, .string t] w fun x w' => x = .returned (.int .i64 0) ∧ DiskAt w' d bm { S with ops := S.ops + 1, left := S.left - 1, fs := putE (dropE S.fs (nameOf s)) (named e (nameOf t)) } ∧ Moved w w' (foot d bm S.fs) (foot d bm (putE (dropE S.fs (nameOf s)) (named e (nameOf t)))) := by
  have hmf : ∀ (fn : Fn) (first cap : Array Value) (w : World), (Instr.makeFunc fn first cap).run Tryz.prog w = .ok (.func fn first cap) w := fun _ _ _ _ => rfl
  have R := refused_two h s t hs ht
  rw [hc] at R
  have R : Hid (Calls Tryz.prog 24 #[.pointer (some ⟨d, 0, none⟩), .slice (some ⟨w.heap.size + 3, 0, none⟩) 2 2] ((((w.alloc (.cells #[.pointer (some ⟨d, 0, none⟩)] 29)).alloc (.cells #[.string s] 9)).alloc (.cells #[.string t] 9)).alloc (.cells #[.string s, .string t] 9)) fun x w1 => x = .returned (.int .i64 0) ∧ Boxed5 w d bm S s t w1) := R
  have F : Hid (∀ w1, Boxed5 w d bm S s t w1 → Calls Tryz.prog 43 #[.pointer (some ⟨d, 0, none⟩), .string s] w1 fun x w' => x = .returned (.tuple #[.pointer (some ⟨e.b, 0, none⟩), .int .i64 0]) ∧ Boxed5 w d bm S s t w') := fun w1 hB => (find_ok hB.disk s hs hc1 hf).mono fun x w' hh => ⟨hh.1, hB.grown hh.2⟩
  have hlt := h.lt
  have hd : d < w.heap.size := hlt d (by simp [foot])
  have hbm : bm < w.heap.size := hlt bm (by simp [foot])
  have O : Hid (∀ w1, Boxed5 w d bm S s t w1 → ∀ v, Calls Tryz.prog 62 #[.pointer (some ⟨d, 0, none⟩), .func (.func 99) #[] #[.pointer (some ⟨w.heap.size, 0, none⟩), .pointer (some ⟨w.heap.size + 1, 0, none⟩), .pointer (some ⟨w1.heap.size, 0, none⟩), .pointer (some ⟨w.heap.size + 2, 0, none⟩)], v] (w1.alloc (.cells #[.pointer (some ⟨e.b, 0, none⟩)] 76)) fun x w' => x = .returned (.int .i64 0) ∧ DiskAt w' d bm { S with ops := S.ops + 1, left := S.left - 1, fs := putE (dropE S.fs (nameOf s)) (named e (nameOf t)) } ∧ Moved w w' (foot d bm S.fs) (foot d bm (putE (dropE S.fs (nameOf s)) (named e (nameOf t))))) := by
    intro w1 hB1 v
    have hB2 := hB1.grown (World.grownBy_alloc w1 (.cells #[.pointer (some ⟨e.b, 0, none⟩)] 76) none)
    have hz := hB1.size
    have hz2 : (w1.alloc (.cells #[.pointer (some ⟨e.b, 0, none⟩)] 76)).heap.size = w1.heap.size + 1 := by simp
    refine operateRename hB2.disk hl ho hlm w.heap.size (w.heap.size + 1) w1.heap.size (w.heap.size + 2) v _ fun w2 hD2 hM2 => ?_
    have hk : ∀ i, i < w1.heap.size + 1 → i ≠ d → w2.heap[i]? = (w1.alloc (.cells #[.pointer (some ⟨e.b, 0, none⟩)] 76)).heap[i]? := fun i hi hne => hM2.kept i (by omega) (by simpa using hne)
    have e1 : w2.cell? ⟨w.heap.size, 0, none⟩ = some (.pointer (some ⟨d, 0, none⟩)) := (World.cell?_of_block (a := ⟨w.heap.size, 0, none⟩) (hk w.heap.size (by omega) (by omega))).trans hB2.k1
    have e2 : w2.cell? ⟨w.heap.size + 1, 0, none⟩ = some (.string s) := (World.cell?_of_block (a := ⟨w.heap.size + 1, 0, none⟩) (hk (w.heap.size + 1) (by omega) (by omega))).trans hB2.k2
    have e3 : w2.cell? ⟨w1.heap.size, 0, none⟩ = some (.pointer (some ⟨e.b, 0, none⟩)) := (World.cell?_of_block (a := ⟨w1.heap.size, 0, none⟩) (hk w1.heap.size (by omega) (by omega))).trans (box_new w1 _ _)
    have e4 : w2.cell? ⟨w.heap.size + 2, 0, none⟩ = some (.string t) := (World.cell?_of_block (a := ⟨w.heap.size + 2, 0, none⟩) (hk (w.heap.size + 2) (by omega) (by omega))).trans hB2.k3
    refine (rename1_any hD2 hf e1 e2 e3 e4 ⟨by omega, by omega, by omega⟩ hs ht hn).mono ?_
    rintro x w3 ⟨rfl, hD3, hM3⟩
    exact ⟨rfl, hD3, (hB2.moved.trans (hM2.wider (fun i hi => .inl (by simp at hi; simp [foot, hi])) (fun i hi => .inl hi))).trans hM3⟩
  clear h hs ht hc hc1 hf hlt
  go_enter Tryz.func73, Tryz.ntmps73
  go_wp2_with (first | (go_at_call 24; go_fit R.out; rintro x w1 ⟨rfl, hB⟩; have k1 := hB.k1; have k2 := hB.k2) | (go_at_call 43; go_fit (F.out _ hB); rintro x w2 ⟨rfl, hB2⟩; have k1' := hB2.k1; have hzz : w.heap.size < w2.heap.size := by (have := hB2.size; omega)) | (go_at_call 62; go_fit (O.out _ hB2 _); rintro x w3 ⟨rfl, hE⟩))
  go_ret
  exact ⟨rfl, hE⟩
end
end Go.Proofs.YtglaocghcgcghaaGreatDoor
