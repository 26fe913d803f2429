/-
  CONTRACT: a file's bytes are read, for every disk in memory.
-/
import Derived.Test.YthihljjefncfoaaGreatDoorDskCalls
import Derived.Test.YthihljjefncfoaaGreatDoorDskShelf
namespace Go.Proofs.YthihljjefncfoaaGreatDoor
open Go.RowKit Go.Maps

theorem owns_base {w : World} {base base' e n : Nat} {v : Value} {xs : List Value} (h : w.ownsRow base e 1 v n xs) (hb : base' ≤ base) : w.ownsRow base' e 1 v n xs := by
  refine ⟨h.1, ?_⟩
  rcases h.2 with hn | ⟨g, cap, cur, rfl, h1, rest⟩
  · exact .inl hn
  · exact .inr ⟨g, cap, cur, rfl, Nat.le_trans hb h1, rest⟩
theorem B8_ints (l : List UInt8) : (l.map fun b => (b.toNat : Int)).map (Value.int .u8) = B8 l := by simp [B8, List.map_map]
/-- A copy of a file's bytes. -/
theorem clone_any {w : World} {e : Ent} (h : EntAt w e) (hl : e.bs.length ≤ 1099511627776) :
    Calls Tryz.prog 84 #[e.v1] w fun x w' => ∃ v, x = .returned v ∧ w'.ownsRow w.heap.size 5 1 v e.bs.length (B8 e.bs) ∧ w.grownBy w' none := by
  rcases h.row1.2 with ⟨hv, h0⟩ | ⟨g, cap, cur, hv, _⟩
  · rw [hv]
    refine (Tryz.bytes_Clone_nil 0 0 w).mono ?_
    rintro x w' ⟨rfl, rfl⟩
    have hz : e.bs = [] := List.eq_nil_of_length_eq_zero h0
    exact ⟨_, rfl, by rw [hz]; exact World.ownsRow_nil _ _ _ _, World.grownBy.refl _ _⟩
  · rw [hv]
    refine (Tryz.bytes_Clone_at ⟨g, 0, none⟩ e.bs.length cap (e.bs.map fun b => (b.toNat : Int)) w (List.length_map _) (by omega) ?_).mono ?_
    · intro i hi
      have := h.row1.cells (g := g) (by rw [hv]; rfl) i _ (B8_at e.bs i hi)
      rw [this]
      simp [List.getD, hi]
    · rintro x w' ⟨v', rfl, ho, _, hb⟩
      rw [B8_ints] at ho
      exact ⟨v', rfl, ho, ⟨hb.os, hb.tape, hb.output, hb.size, fun k hk _ => hb.block k hk⟩⟩
section
variable {w : World} {d bm : Nat} {S : St} (h : DiskAt w d bm S) (s : ByteArray) (hs : s.size ≤ maxLen)
include h hs
theorem read_ok (hc : refuse S.on [s] = 0) {e : Ent} (hf : find S.fs (nameOf s) = some e) (hl : e.bs.length ≤ 1099511627776) :
    Calls Tryz.prog 43 #[.pointer (some ⟨d, 0, none⟩), .string s] w fun x w' => ∃ v, x = .returned (.tuple #[v, .int .i64 0]) ∧ w'.ownsRow w.heap.size 5 1 v e.bs.length (B8 e.bs) ∧ w.grownBy w' none := by
  have F : Hid (Calls Tryz.prog 65 #[.pointer (some ⟨d, 0, none⟩), .string s] w fun x w' => x = .returned (.tuple #[.pointer (some ⟨e.b, 0, none⟩), .int .i64 0]) ∧ w.grownBy w' none) := find_ok h s hs hc hf
  have he := (find_some hf).1
  have C : Hid (∀ w1, w.grownBy w1 none → EntAt w1 e ∧ Calls Tryz.prog 84 #[e.v1] w1 fun x w' => ∃ v, x = .returned v ∧ w'.ownsRow w.heap.size 5 1 v e.bs.length (B8 e.bs) ∧ w.grownBy w' none) := by
    intro w1 hg
    have hE : EntAt w1 e := (h.ents e he).carry fun i hi => hg.block i ((h.ents e he).lt i hi) (by simp)
    refine ⟨hE, (clone_any hE hl).mono ?_⟩
    rintro x w' ⟨v, rfl, ho, hg2⟩
    exact ⟨v, rfl, owns_base ho hg.size, hg.andThen hg2 (fun j hj => by cases hj)⟩
  clear h hs hc hf he hl
  go_enter Tryz.func43, Tryz.ntmps43
  go_wp2_with (first | (go_at_call 65; refine F.out.mono ?_; rintro x w1 ⟨rfl, hg⟩; obtain ⟨hE, hC⟩ := C.out w1 hg; have c0 := hE.c0; have HC : Hid (Calls Tryz.prog 84 #[e.v1] w1 fun x w' => ∃ v, x = .returned v ∧ w'.ownsRow w.heap.size 5 1 v e.bs.length (B8 e.bs) ∧ w.grownBy w' none) := hC; clear hC hE) | (go_at_call 84; go_fit HC.out; rintro x w2 ⟨v, rfl, hv⟩))
  go_ret2
  exact ⟨v, rfl, hv⟩
end
end Go.Proofs.YthihljjefncfoaaGreatDoor
