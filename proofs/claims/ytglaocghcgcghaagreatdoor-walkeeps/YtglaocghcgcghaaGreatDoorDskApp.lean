/-
  CONTRACT: the closure that lays bytes at a file's end, for every disk in memory.
-/
import Derived.Test.YtglaocghcgcghaaGreatDoorDskOps
import Derived.Deep.RegionLaw
namespace Go.Proofs.YtglaocghcgcghaaGreatDoor
open Go.RowKit Go.Maps

/-- The file e has got the bytes l. -/
def LayX (w : World) (e : Ent) (l : List UInt8) (next gr : Nat) (w' : World) : Prop := ∃ e', EntAt w' e' ∧ e'.nm = e.nm ∧ e'.b = e.b ∧ e'.bs = e.bs ++ l ∧ e'.wr = e.wr ∧ e'.pl = e.pl ++ List.range' next gr ∧ Moved w w' e.foot e'.foot
set_option maxRecDepth 100000 in
set_option maxHeartbeats 1000000 in
theorem append1_any {w : World} {d bm p1 p2 p3 : Nat} {S : St} (h : DiskAt w d bm S) {e : Ent} (he : e ∈ S.fs) (h1 : w.cell? ⟨p1, 0, none⟩ = some (.pointer (some ⟨e.b, 0, none⟩))) {ao : Option Addr} {l : List UInt8} {c : Nat} (h2 : w.cell? ⟨p2, 0, none⟩ = some (.slice ao l.length c)) (h3 : w.cell? ⟨p3, 0, none⟩ = some (.pointer (some ⟨d, 0, none⟩)))
    (hs : Sees w ao l) (hlen : e.bs.length + l.length ≤ 1099511627776) (hnx : S.next ≤ 4611686018427387904) (hpl : e.pl.length ≤ 1099511627776) (hwr : e.wr ≤ 1099511627776) (hp3 : p3 ∉ e.foot) :
    Calls Tryz.prog 78 #[.pointer (some ⟨p1, 0, none⟩), .pointer (some ⟨p2, 0, none⟩), .pointer (some ⟨p3, 0, none⟩)] w fun x w' => x = .returned (.tuple #[]) ∧
      ∃ e', e'.nm = e.nm ∧ e'.b = e.b ∧ e'.bs = e.bs ++ l ∧ e'.wr = e.wr ∧ e'.pl = e.pl ++ List.range' S.next (growS e l) ∧ DiskAt w' d bm { S with next := S.next + growS e l, fs := swap S.fs e e' } ∧ Moved w w' (foot d bm S.fs) (foot d bm (swap S.fs e e')) := by
  have c4 := h.c4
  have hd := h.head.lt
  have q3 := World.block_lt_of_cell? _ _ h3
  have L : Hid (∀ k, Calls Tryz.prog 79 #[.pointer (some ⟨e.b, 0, none⟩), .slice ao l.length c, .int .i64 (S.next : Int)] (w.drewN k) fun x w' =>
      x = .returned (.int .i64 ((S.next + growS e l : Nat) : Int)) ∧ LayX w e l S.next (growS e l) w') := fun k => (lay_all ((h.ents e he).carry (w' := w.drewN k) fun _ _ => rfl) ao l c S.next hs hlen hnx hpl hwr).mono (fun x w' hh => by
    obtain ⟨h1, e', a1, a2, a3, a4, a5, a6, a7⟩ := hh
    exact ⟨h1, e', a1, a2, a3, a4, a5, a6, ⟨a7.os, a7.tape, a7.output, a7.size, a7.kept, a7.news⟩⟩)
  have K : Hid (DiskAt w d bm S ∧ e ∈ S.fs) := ⟨h, he⟩
  have Hcell : Hid (∀ w1, LayX w e l S.next (growS e l) w1 → w1.cell? ⟨p3, 0, none⟩ = some (.pointer (some ⟨d, 0, none⟩)) ∧ w1.cell? ⟨d, 4, none⟩ = some (.int .i64 (S.next : Int)) ∧ w1.frozen? ⟨d, 4, none⟩ = false) := fun w1 hx => by
    obtain ⟨e', _, _, _, _, _, _, hm⟩ := hx
    exact ⟨(World.cell?_of_block (a := ⟨p3, 0, none⟩) (hm.kept p3 q3 hp3)).trans h3, (h.head_moved he hm).cell 4 rfl, (h.head_moved he hm).frozen 4⟩
  have Hend : Hid (∀ w1, LayX w e l S.next (growS e l) w1 → ∃ e', e'.nm = e.nm ∧ e'.b = e.b ∧ e'.bs = e.bs ++ l ∧ e'.wr = e.wr ∧ e'.pl = e.pl ++ List.range' S.next (growS e l) ∧ DiskAt (w1.setCell ⟨d, 4, none⟩ (.int .i64 ((S.next : Int) + (growS e l : Int)))) d bm { S with next := S.next + growS e l, fs := swap S.fs e e' } ∧ Moved w (w1.setCell ⟨d, 4, none⟩ (.int .i64 ((S.next : Int) + (growS e l : Int)))) (foot d bm S.fs) (foot d bm (swap S.fs e e'))) := fun w1 hx => by
    obtain ⟨e', a1, a2, a3, a4, a5, a6, a7⟩ := hx
    have hT := h.turn he a7 a1 a3 a2
    have hP := hT.1.put (S' := { S with next := S.next + growS e l, fs := swap S.fs e e' }) rfl 4 (.int .i64 ((S.next : Int) + (growS e l : Int))) (by simp [headOf])
    exact ⟨e', a2, a3, a4, a5, a6, hP, hT.2.trans ((Moved.of_set d 4 _).wider (fun i hi => .inl (by simp at hi; simp [foot, hi])) (fun i hi => .inl hi))⟩
  clear h he hs hlen hnx hpl hwr
  generalize growS e l = gr at *
  go_enter Tryz.func78, Tryz.ntmps78
  go_wp2
  go_region_law (go_simp; go_at_call 79; refine (L.out _).mono ?_; rintro x w1 ⟨rfl, hX⟩; obtain ⟨g3, g4, g5⟩ := Hcell.out w1 hX)
  all_goals
    go_end0
    exact ⟨rfl, Hend.out _ hX⟩

end Go.Proofs.YtglaocghcgcghaaGreatDoor
