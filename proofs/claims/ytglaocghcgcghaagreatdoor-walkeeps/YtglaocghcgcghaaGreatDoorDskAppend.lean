/-
  CONTRACTS: bytes at a file's end, for every disk in memory.
-/
import Derived.Test.YtglaocghcgcghaaGreatDoorMany7
import Derived.Test.YtglaocghcgcghaaGreatDoorDskApp
namespace Go.Proofs.YtglaocghcgcghaaGreatDoor
open Go.RowKit Go.Maps

theorem Sees.kept {w w' : World} {ao : Option Addr} {l : List UInt8} (h : Sees w ao l) (hk : ∀ a, ao = some a → 0 < l.length → w'.heap[a.block]? = w.heap[a.block]?) : Sees w' ao l := by
  intro i hi
  obtain ⟨a, e, hc⟩ := h i hi
  refine ⟨a, e, ?_⟩
  have hb : w'.heap[(a.add i).block]? = w.heap[(a.add i).block]? := by rw [Addr.add_block]; exact hk a e (by omega)
  exact (World.cell?_of_block hb).trans hc
theorem Sees.lt {w : World} {ao : Option Addr} {l : List UInt8} (h : Sees w ao l) {a : Addr} (ha : ao = some a) (h0 : 0 < l.length) : a.block < w.heap.size := by
  obtain ⟨a', e, hc⟩ := h 0 h0
  rw [ha] at e
  cases e
  have := World.block_lt_of_cell? _ _ hc
  rwa [Addr.add_block] at this
/-- Behind the boxes of a call: the disk and the bytes are as they were, the boxes hold the disk, the bytes, the file. -/
structure Boxed3 (w : World) (d bm : Nat) (S : St) (e : Ent) (ao : Option Addr) (l : List UInt8) (c g : Nat) (w1 : World) : Prop where
  disk : DiskAt w1 d bm S
  moved : Moved w w1 (foot d bm S.fs) (foot d bm S.fs)
  k1 : w1.cell? ⟨w.heap.size, 0, none⟩ = some (.pointer (some ⟨d, 0, none⟩))
  k2 : w1.cell? ⟨w.heap.size + 1, 0, none⟩ = some (.slice ao l.length c)
  k3 : w1.cell? ⟨g, 0, none⟩ = some (.pointer (some ⟨e.b, 0, none⟩))
  sees : Sees w1 ao l
  size : w.heap.size + 2 ≤ g
section
variable {w : World} {d bm : Nat} {S : St} {e : Ent} {ao : Option Addr} {l : List UInt8} {c g : Nat} {w1 w2 : World}
theorem Boxed3.drewN (h : Boxed3 w d bm S e ao l c g w1) (k : Nat) : Boxed3 w d bm S e ao l c g (w1.drewN k) := ⟨h.disk.drewN k, h.moved.drewN k, h.k1, h.k2, h.k3, h.sees, h.size⟩
theorem Boxed3.grown (h : Boxed3 w d bm S e ao l c g w1) (hg : w1.grownBy w2 none) : Boxed3 w d bm S e ao l c g w2 :=
  ⟨h.disk.carry fun i hi => hg.block i (h.disk.lt i hi) (by simp), h.moved.trans (Moved.none_of hg _), hg.cell h.k1 (by simp), hg.cell h.k2 (by simp), hg.cell h.k3 (by simp), h.sees.kept fun a ha h0 => hg.block _ (h.sees.lt ha h0) (by simp), h.size⟩
end
theorem boxes_two {w : World} {d bm : Nat} {S : St} (h : DiskAt w d bm S) {ao : Option Addr} {l : List UInt8} (c : Nat) (hs : Sees w ao l) {w1 : World} (hg : ((w.alloc (.cells #[.pointer (some ⟨d, 0, none⟩)] 29)).alloc (.cells #[.slice ao l.length c] 37)).grownBy w1 none) (e : Ent) :
    Boxed3 w d bm S e ao l c w1.heap.size (w1.alloc (.cells #[.pointer (some ⟨e.b, 0, none⟩)] 76)) := by
  have hz := hg.size
  simp only [World.size_alloc] at hz
  have hD0 : DiskAt ((w.alloc (.cells #[.pointer (some ⟨d, 0, none⟩)] 29)).alloc (.cells #[.slice ao l.length c] 37)) d bm S := (h.alloc _).alloc _
  have hM0 : Moved w ((w.alloc (.cells #[.pointer (some ⟨d, 0, none⟩)] 29)).alloc (.cells #[.slice ao l.length c] 37)) (foot d bm S.fs) (foot d bm S.fs) := (Moved.alloc _ _).trans (Moved.alloc _ _)
  have b1 := ((Blk.new w [.pointer (some ⟨d, 0, none⟩)] 29).alloc (.cells #[.slice ao l.length c] 37)).cell 0 rfl
  have b2 := box_new (w.alloc (.cells #[.pointer (some ⟨d, 0, none⟩)] 29)) (.slice ao l.length c) 37
  rw [World.size_alloc] at b2
  have hs0 : Sees ((w.alloc (.cells #[.pointer (some ⟨d, 0, none⟩)] 29)).alloc (.cells #[.slice ao l.length c] 37)) ao l := hs.kept fun a ha h0 => by
    have hl := hs.lt ha h0
    exact (Below.heap_alloc _ _ _ (by simp; omega)).trans (Below.heap_alloc _ _ _ hl)
  have hg2 := World.grownBy_alloc w1 (.cells #[.pointer (some ⟨e.b, 0, none⟩)] 76) none
  exact ⟨(hD0.carry fun i hi => hg.block i (hD0.lt i hi) (by simp)).alloc _, (hM0.trans (Moved.none_of hg _)).trans (Moved.alloc _ _), hg2.cell (hg.cell b1 (by simp)) (by simp), hg2.cell (hg.cell b2 (by simp)) (by simp), box_new _ _ _,
    (hs0.kept (w' := w1) fun a ha h0 => hg.block _ (hs0.lt ha h0) (by simp)).kept fun a ha h0 => Below.heap_alloc _ _ _ ((hs0.kept (w' := w1) fun a ha h0 => hg.block _ (hs0.lt ha h0) (by simp)).lt ha h0), by omega⟩

/-- The file e has got the bytes l, and the operation is counted. -/
def AppX (w : World) (d bm : Nat) (S : St) (e : Ent) (l : List UInt8) (w' : World) : Prop := ∃ e', e'.nm = e.nm ∧ e'.b = e.b ∧ e'.bs = e.bs ++ l ∧ e'.wr = e.wr ∧ e'.pl = e.pl ++ List.range' S.next (growS e l) ∧ DiskAt w' d bm { S with ops := S.ops + 1, left := S.left - 1, next := S.next + growS e l, fs := swap S.fs e e' } ∧ Moved w w' (foot d bm S.fs) (foot d bm (swap S.fs e e'))
def AppOut (w : World) (d bm : Nat) (S : St) (e : Ent) (l : List UInt8) : Bool → Ending → World → Prop
  | true, x, w' => x = .returned (.int .i64 7) ∧ DiskAt w' d bm S ∧ Moved w w' (foot d bm S.fs) (foot d bm S.fs)
  | false, x, w' => x = .returned (.int .i64 0) ∧ AppX w d bm S e l w'
theorem append_operate {w : World} {d bm : Nat} {S : St} {e : Ent} {ao : Option Addr} {l : List UInt8} {c g : Nat} {w1 : World} (hB : Boxed3 w d bm S e ao l c g w1) (he : e ∈ S.fs) (hdw : ∀ i ∈ foot d bm S.fs, i < w.heap.size) (hne : ∀ a, ao = some a → 0 < l.length → a.block ∉ foot d bm S.fs) (hl : S.left ≠ 1) (ho : S.ops ≤ 4611686018427387904) (hlm : S.left ≤ 9223372036854775807)
    (hlen : e.bs.length + l.length ≤ 1099511627776) (hnx : S.next ≤ 4611686018427387904) (hpl : e.pl.length ≤ 1099511627776) (hwr : e.wr ≤ 1099511627776) (v : Value) :
    Calls Tryz.prog 62 #[.pointer (some ⟨d, 0, none⟩), .func (.func 78) #[] #[.pointer (some ⟨g, 0, none⟩), .pointer (some ⟨w.heap.size + 1, 0, none⟩), .pointer (some ⟨w.heap.size, 0, none⟩)], v] w1 fun x w' => x = .returned (.int .i64 0) ∧ AppX w d bm S e l w' := by
  have hd : d < w.heap.size := hdw d (by simp [foot])
  refine operateAppend hB.disk hl ho hlm g (w.heap.size + 1) w.heap.size v _ fun w2 hD2 hM2 => ?_
  have hk : ∀ i, i < w1.heap.size → i ≠ d → w2.heap[i]? = w1.heap[i]? := fun i hi hne => hM2.kept i hi (by simpa using hne)
  have hz := hB.size
  have z1 := World.block_lt_of_cell? _ _ hB.k1
  have z2 := World.block_lt_of_cell? _ _ hB.k2
  have z3 := World.block_lt_of_cell? _ _ hB.k3
  have e1 : w2.cell? ⟨w.heap.size, 0, none⟩ = some (.pointer (some ⟨d, 0, none⟩)) := (World.cell?_of_block (a := ⟨w.heap.size, 0, none⟩) (hk w.heap.size z1 (by omega))).trans hB.k1
  have e2 : w2.cell? ⟨w.heap.size + 1, 0, none⟩ = some (.slice ao l.length c) := (World.cell?_of_block (a := ⟨w.heap.size + 1, 0, none⟩) (hk (w.heap.size + 1) z2 (by omega))).trans hB.k2
  have e3 : w2.cell? ⟨g, 0, none⟩ = some (.pointer (some ⟨e.b, 0, none⟩)) := (World.cell?_of_block (a := ⟨g, 0, none⟩) (hk g z3 (by omega))).trans hB.k3
  have hs2 : Sees w2 ao l := hB.sees.kept fun a ha h0 => hk _ (hB.sees.lt ha h0) fun e => hne a ha h0 (by rw [e]; simp [foot])
  refine (append1_any hD2 he e3 e2 e1 hs2 hlen hnx hpl hwr ?_).mono ?_
  · intro hi
    have := hdw w.heap.size (by simp only [foot, List.mem_cons]; exact .inr (.inr (feet_mem.2 ⟨e, he, hi⟩)))
    omega
  · rintro x w3 ⟨rfl, e', a1, a2, a3, a4, a5, a6, a7⟩
    exact ⟨rfl, e', a1, a2, a3, a4, a5, a6, (hB.moved.trans (hM2.wider (fun i hi => .inl (by simp at hi; simp [foot, hi])) (fun i hi => .inl hi))).trans a7⟩

section
variable {w : World} {d bm : Nat} {S : St} (h : DiskAt w d bm S) (s : ByteArray) (hs : s.size ≤ maxLen) (ao : Option Addr) (l : List UInt8) (c : Nat) (hb : Sees w ao l)
include h hs hb
set_option maxRecDepth 100000 in
set_option maxHeartbeats 2000000 in
theorem append_ok (hc : refuse S.on [s] = 0) {e : Ent} (hf : find S.fs (nameOf s) = some e) (hne : ∀ a, ao = some a → 0 < l.length → a.block ∉ foot d bm S.fs) (hl : S.left ≠ 1) (ho : S.ops ≤ 4611686018427387904) (hlm : S.left ≤ 9223372036854775807)
    (hlen : e.bs.length + l.length ≤ 1099511627776) (hnx : S.next ≤ 4611686018427387904) (hpl : e.pl.length ≤ 1099511627776) (hwr : e.wr ≤ 1099511627776) (hr : S.room ≤ 1073741824) (hu : sumUsed S.fs ≤ 1099511627776) (full : Bool) (hfull : decide ((S.room : Int) - (sumUsed S.fs : Int) < secI ((e.bs.length : Int) + (l.length : Int)) - secI (e.bs.length : Int)) = full) :
    Calls Tryz.prog 50 #[.pointer (some ⟨d, 0, none⟩), .string s, .slice ao l.length c] w fun x w' => AppOut w d bm S e l full x w' := by
  have hmf : ∀ (fn : Fn) (first cap : Array Value) (w : World), (Instr.makeFunc fn first cap).run Tryz.prog w = .ok (.func fn first cap) w := fun _ _ _ _ => rfl
  have he := (find_some hf).1
  have FN : Hid (Calls Tryz.prog 43 #[.pointer (some ⟨d, 0, none⟩), .string s] ((w.alloc (.cells #[.pointer (some ⟨d, 0, none⟩)] 29)).alloc (.cells #[.slice ao l.length c] 37)) fun x w' => x = .returned (.tuple #[.pointer (some ⟨e.b, 0, none⟩), .int .i64 0]) ∧ ((w.alloc (.cells #[.pointer (some ⟨d, 0, none⟩)] 29)).alloc (.cells #[.slice ao l.length c] 37)).grownBy w' none) := find_ok ((h.alloc _).alloc _) s hs hc hf
  have BX : Hid (∀ w1, ((w.alloc (.cells #[.pointer (some ⟨d, 0, none⟩)] 29)).alloc (.cells #[.slice ao l.length c] 37)).grownBy w1 none → Boxed3 w d bm S e ao l c w1.heap.size (w1.alloc (.cells #[.pointer (some ⟨e.b, 0, none⟩)] 76))) := fun w1 hg => boxes_two h c hb hg e
  have LC : Hid (∀ g w3, Boxed3 w d bm S e ao l c g w3 → ∀ k, Calls Tryz.prog 76 #[.pointer (some ⟨e.b, 0, none⟩), .int .i64 (l.length : Int)] (w3.drewN k) fun x w4 => x = .returned (.int .i64 (secI ((e.bs.length : Int) + (l.length : Int)) - secI (e.bs.length : Int))) ∧ Boxed3 w d bm S e ao l c g w4) := fun g w3 hB k => (lacks_any ((hB.drewN k).disk.ents e he) l.length (by omega)).mono fun x w4 hh => ⟨hh.1, by obtain ⟨k', hk'⟩ := hh.2; rw [hk']; exact (hB.drewN k).drewN k'⟩
  have FC : Hid (∀ g w3, Boxed3 w d bm S e ao l c g w3 → ∀ k, Calls Tryz.prog 77 #[.pointer (some ⟨d, 0, none⟩)] (w3.drewN k) fun x w4 => x = .returned (.int .i64 ((S.room : Int) - (sumUsed S.fs : Int))) ∧ Boxed3 w d bm S e ao l c g w4) := fun g w3 hB k => (free_any (hB.drewN k).disk (refuse_on hc) hu hr).mono fun x w4 hh => ⟨hh.1, (hB.drewN k).grown hh.2⟩
  have LP : Hid (∀ g w3, Boxed3 w d bm S e ao l c g w3 → Calls Tryz.prog 76 #[.pointer (some ⟨e.b, 0, none⟩), .int .i64 (l.length : Int)] w3 fun x w4 => x = .returned (.int .i64 (secI ((e.bs.length : Int) + (l.length : Int)) - secI (e.bs.length : Int))) ∧ Boxed3 w d bm S e ao l c g w4) := fun g w3 hB => LC.out g w3 hB 0
  have FP : Hid (∀ g w3, Boxed3 w d bm S e ao l c g w3 → Calls Tryz.prog 77 #[.pointer (some ⟨d, 0, none⟩)] w3 fun x w4 => x = .returned (.int .i64 ((S.room : Int) - (sumUsed S.fs : Int))) ∧ Boxed3 w d bm S e ao l c g w4) := fun g w3 hB => FC.out g w3 hB 0
  have O : Hid (∀ g w1, Boxed3 w d bm S e ao l c g w1 → ∀ v, Calls Tryz.prog 62 #[.pointer (some ⟨d, 0, none⟩), .func (.func 78) #[] #[.pointer (some ⟨g, 0, none⟩), .pointer (some ⟨w.heap.size + 1, 0, none⟩), .pointer (some ⟨w.heap.size, 0, none⟩)], v] w1 fun x w' => x = .returned (.int .i64 0) ∧ AppX w d bm S e l w') := fun g w1 hB v => append_operate hB he h.lt hne hl ho hlm hlen hnx hpl hwr v
  have hd := h.head.lt
  have ha := secI_bd (x := (e.bs.length : Int) + (l.length : Int)) ⟨by omega, by omega⟩
  clear hb he hf hc hs hne hl ho hlm hnx hpl hwr hlen h
  generalize (S.room : Int) - (sumUsed S.fs : Int) = fr at *
  generalize secI ((e.bs.length : Int) + (l.length : Int)) - secI (e.bs.length : Int) = lk at *
  clear ha
  go_enter Tryz.func50, Tryz.ntmps50
  go_wp2_with (go_at_call 43; go_fit FN.out; rintro x w1 ⟨rfl, hg⟩)
  have hB := BX.out w1 hg
  have k1 := hB.k1
  have k2 := hB.k2
  have k3 := hB.k3
  generalize w1.alloc (.cells #[.pointer (some ⟨e.b, 0, none⟩)] 76) = wb at *
  generalize w1.heap.size = g at *
  clear hg FN BX
  go_region_law (first
    | (go_simp; go_at_call 76; first | (have hX := hBF; go_fit (LP.out g _ hBF); rintro x w5 ⟨rfl, hBL⟩) | (go_fit (LC.out g _ hB _); rintro x w5 ⟨rfl, hBL⟩; have m1 := hBL.k1; have m2 := hBL.k2; have m3 := hBL.k3))
    | (go_simp; go_at_call 77; first | (have hX := hBL; go_fit (FP.out g _ hBL); rintro x w6 ⟨rfl, hBF⟩) | (go_fit (FC.out g _ hB _); rintro x w6 ⟨rfl, hBF⟩; have n1 := hBF.k1; have n2 := hBF.k2; have n3 := hBF.k3)))
  all_goals
    have z1 := hBF.k1
    cases full
    · go_wp2_with (go_at_call 62; go_fit (O.out g _ hBF _); rintro x w7 ⟨rfl, hE⟩)
      go_ret
      exact ⟨rfl, hE⟩
    · go_wp2
      go_ret
      exact ⟨rfl, hBF.disk, hBF.moved⟩
end
end Go.Proofs.YtglaocghcgcghaaGreatDoor
