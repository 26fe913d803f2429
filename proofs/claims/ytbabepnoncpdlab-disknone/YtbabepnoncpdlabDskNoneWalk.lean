/-
  The law DiskNone.
-/
import Derived.Test.YtbabepnoncpdlabDskLive
import Derived.Test.YtbabepnoncpdlabDskNone
namespace Go.Proofs.Ytbabepnoncpdlab
open Go.RowKit Go.Maps

/-- Between the calls: the act's box and the disk that no call made are as they were. -/
structure OkW (w0 : World) (b : Nat) (p : Option Addr) (n m : Int) (sa sb : ByteArray) (ao : Option Addr) (len cap : Nat) (w : World) : Prop where
  g : w0.grownBy w none
  nm : NM p w
  e1 : w.cell? ⟨b, 1, none⟩ = some (.string sa)
  e2 : w.cell? ⟨b, 2, none⟩ = some (.string sb)
  e3 : w.cell? ⟨b, 3, none⟩ = some (.slice ao len cap)
  e4 : w.cell? ⟨b, 4, none⟩ = some (.int .i64 n)
  e5 : w.cell? ⟨b, 5, none⟩ = some (.int .i64 m)
theorem OkW.grown {w0 : World} {b : Nat} {p : Option Addr} {n m : Int} {sa sb : ByteArray} {ao : Option Addr} {len cap : Nat} {w w' : World} (h : OkW w0 b p n m sa sb ao len cap w) (hg : w.grownBy w' none) : OkW w0 b p n m sa sb ao len cap w' :=
  ⟨grown_two h.g hg, h.nm.grown hg, hg.cell h.e1 (by simp), hg.cell h.e2 (by simp), hg.cell h.e3 (by simp), hg.cell h.e4 (by simp), hg.cell h.e5 (by simp)⟩
theorem index_0 (a : Option Addr) (w : World) : (Instr.index 29 (.agg #[.pointer none, .pointer a]) (.int .i64 0)).run Try.prog w = .ok (.pointer none) w := by kernel_rfl
theorem index_1 (a : Option Addr) (w : World) : (Instr.index 29 (.agg #[.pointer none, .pointer a]) (.int .i64 1)).run Try.prog w = .ok (.pointer a) w := by kernel_rfl
set_option maxRecDepth 100000 in
set_option maxHeartbeats 4000000 in
theorem diskNone.walk (kind n m : Int) (sa sb : ByteArray) (ao : Option Addr) (len cap : Nat) (w : World) :
    Calls Try.prog 3 #[.agg #[.int .i64 kind, .string sa, .string sb, .slice ao len cap, .int .i64 n, .int .i64 m]] w fun e w' => e = .returned (.bool true) ∧ Below w.heap.size w w' := by
  have L : Hid (∀ w, Calls Try.prog 19 #[] w fun x w' => x = .returned (.bool true) ∧ Below w.heap.size w w') := lives_any
  obtain ⟨w0, hw0⟩ : ∃ w0, (w.alloc (.cells #[.int .i64 kind, .string sa, .string sb, .slice ao len cap, .int .i64 n, .int .i64 m] 24)).alloc (.cells #[.map none, .int .i64 0, .bool false, .int .i64 0, .int .i64 0, .int .i64 0, .int .i64 0] 27) = w0 := ⟨_, rfl⟩
  have B1 : Blk w0 w.heap.size [.int .i64 kind, .string sa, .string sb, .slice ao len cap, .int .i64 n, .int .i64 m] 24 := by rw [← hw0]; exact (Blk.new w _ _).alloc _
  have B2 : Blk w0 (w.heap.size + 1) [.map none, .int .i64 0, .bool false, .int .i64 0, .int .i64 0, .int .i64 0, .int .i64 0] 27 := by
    rw [← hw0]
    have := Blk.new (w.alloc (.cells #[.int .i64 kind, .string sa, .string sb, .slice ao len cap, .int .i64 n, .int .i64 m] 24)) [.map none, .int .i64 0, .bool false, .int .i64 0, .int .i64 0, .int .i64 0, .int .i64 0] 27
    rwa [World.size_alloc] at this
  have Hb : Hid (Below w.heap.size w w0) := by show Below _ _ _; rw [← hw0]; exact ((Below.refl _ w).alloc (Nat.le_refl _) _).alloc (by simp) _
  have Hf : Hid (∀ wr, w0.grownBy wr none → wr.cell? ⟨w.heap.size, 1, none⟩ = some (.string sa) ∧ wr.cell? ⟨w.heap.size, 2, none⟩ = some (.string sb) ∧ wr.cell? ⟨w.heap.size, 3, none⟩ = some (.slice ao len cap) ∧ wr.cell? ⟨w.heap.size, 4, none⟩ = some (.int .i64 n) ∧ wr.cell? ⟨w.heap.size, 5, none⟩ = some (.int .i64 m)) := fun wr hg =>
    ⟨hg.cell (B1.cell 1 rfl) (by simp), hg.cell (B1.cell 2 rfl) (by simp), hg.cell (B1.cell 3 rfl) (by simp), hg.cell (B1.cell 4 rfl) (by simp), hg.cell (B1.cell 5 rfl) (by simp)⟩
  have Hz : Hid (∀ wr, w0.grownBy wr none → NM none wr ∧ NM (some ⟨w.heap.size + 1, 0, none⟩) wr) := fun wr hg => ⟨.inl rfl, .inr ⟨_, rfl, hg.cell (B2.cell 0 rfl) (by simp)⟩⟩
  clear B1 B2
  obtain ⟨b, hbb⟩ : ∃ b, w.heap.size = b := ⟨_, rfl⟩
  have C1 : Hid (∀ p w, OkW w0 b p n m sa sb ao len cap w → Calls Try.prog 4 #[.pointer p, .int .i64 n] w fun x w' => x = .returned (.tuple #[]) ∧ OkW w0 b p n m sa sb ao len cap w') := fun p w h => (crash_no h.nm n).mono fun x w' hh => ⟨hh.1, hh.2 ▸ h⟩
  have C2 : Hid (∀ p w, OkW w0 b p n m sa sb ao len cap w → Calls Try.prog 5 #[.pointer p] w fun x w' => x = .returned (.tuple #[]) ∧ OkW w0 b p n m sa sb ao len cap w') := fun p w h => (start_no h.nm).mono fun x w' hh => ⟨hh.1, hh.2 ▸ h⟩
  have C3 : Hid (∀ p w, OkW w0 b p n m sa sb ao len cap w → Calls Try.prog 6 #[.pointer p, .string sa] w fun x w' => x = .returned (.tuple #[.slice none 0 0, .int .i64 1]) ∧ OkW w0 b p n m sa sb ao len cap w') := fun p w h => (read_no h.nm sa).mono fun x w' hh => ⟨hh.1, h.grown hh.2⟩
  have C4 : Hid (∀ p w, OkW w0 b p n m sa sb ao len cap w → Calls Try.prog 7 #[.pointer p, .string sa] w fun x w' => x = .returned (.int .i64 1) ∧ OkW w0 b p n m sa sb ao len cap w') := fun p w h => (create_no h.nm sa).mono fun x w' hh => ⟨hh.1, h.grown hh.2⟩
  have C5 : Hid (∀ p w, OkW w0 b p n m sa sb ao len cap w → Calls Try.prog 8 #[.pointer p, .string sa, .slice ao len cap] w fun x w' => x = .returned (.int .i64 1) ∧ OkW w0 b p n m sa sb ao len cap w') := fun p w h => (append_no h.nm sa ao len cap).mono fun x w' hh => ⟨hh.1, h.grown hh.2⟩
  have C6 : Hid (∀ p w, OkW w0 b p n m sa sb ao len cap w → Calls Try.prog 9 #[.pointer p, .string sa] w fun x w' => x = .returned (.int .i64 1) ∧ OkW w0 b p n m sa sb ao len cap w') := fun p w h => (sync_no h.nm sa).mono fun x w' hh => ⟨hh.1, h.grown hh.2⟩
  have C7 : Hid (∀ p w, OkW w0 b p n m sa sb ao len cap w → Calls Try.prog 10 #[.pointer p, .string sa, .string sb] w fun x w' => x = .returned (.int .i64 1) ∧ OkW w0 b p n m sa sb ao len cap w') := fun p w h => (rename_no h.nm sa sb).mono fun x w' hh => ⟨hh.1, h.grown hh.2⟩
  have C8 : Hid (∀ p w, OkW w0 b p n m sa sb ao len cap w → Calls Try.prog 11 #[.pointer p, .string sa] w fun x w' => x = .returned (.int .i64 1) ∧ OkW w0 b p n m sa sb ao len cap w') := fun p w h => (remove_no h.nm sa).mono fun x w' hh => ⟨hh.1, h.grown hh.2⟩
  have C9 : Hid (∀ p w, OkW w0 b p n m sa sb ao len cap w → Calls Try.prog 12 #[.pointer p, .int .i64 n, .int .i64 m] w fun x w' => x = .returned (.int .i64 1) ∧ OkW w0 b p n m sa sb ao len cap w') := fun p w h => (arm_no h.nm n m).mono fun x w' hh => ⟨hh.1, hh.2 ▸ h⟩
  have C10 : Hid (∀ p w, OkW w0 b p n m sa sb ao len cap w → Calls Try.prog 13 #[.pointer p, .string sa, .int .i64 n, .int .i64 m] w fun x w' => x = .returned (.int .i64 1) ∧ OkW w0 b p n m sa sb ao len cap w') := fun p w h => (spoil_no h.nm sa n m).mono fun x w' hh => ⟨hh.1, h.grown hh.2⟩
  have C11 : Hid (∀ p w, OkW w0 b p n m sa sb ao len cap w → Calls Try.prog 14 #[.pointer p] w fun x w' => x = .returned (.slice none 0 0) ∧ OkW w0 b p n m sa sb ao len cap w') := fun p w h => (list_no h.nm).mono fun x w' hh => ⟨hh.1, hh.2 ▸ h⟩
  have C12 : Hid (∀ p w, OkW w0 b p n m sa sb ao len cap w → Calls Try.prog 15 #[.pointer p] w fun x w' => x = .returned (.int .i64 0) ∧ OkW w0 b p n m sa sb ao len cap w') := fun p w h => (used_no h.nm).mono fun x w' hh => ⟨hh.1, hh.2 ▸ h⟩
  have C13 : Hid (∀ p w, OkW w0 b p n m sa sb ao len cap w → Calls Try.prog 16 #[.pointer p] w fun x w' => x = .returned (.int .i64 0) ∧ OkW w0 b p n m sa sb ao len cap w') := fun p w h => (dirty_no h.nm).mono fun x w' hh => ⟨hh.1, hh.2 ▸ h⟩
  have C14 : Hid (∀ p w, OkW w0 b p n m sa sb ao len cap w → Calls Try.prog 17 #[.pointer p] w fun x w' => x = .returned (.int .i64 0) ∧ OkW w0 b p n m sa sb ao len cap w') := fun p w h => (ops_no h.nm).mono fun x w' hh => ⟨hh.1, hh.2 ▸ h⟩
  have C15 : Hid (∀ p w, OkW w0 b p n m sa sb ao len cap w → Calls Try.prog 18 #[.pointer p] w fun x w' => x = .returned (.bool false) ∧ OkW w0 b p n m sa sb ao len cap w') := fun p w h => (on_no h.nm).mono fun x w' hh => ⟨hh.1, hh.2 ▸ h⟩
  rw [hbb] at Hf
  have Hz : Hid (∀ wr, w0.grownBy wr none → NM none wr ∧ NM (some ⟨b + 1, 0, none⟩) wr) := by rw [← hbb]; exact Hz
  have HB : Hid (∀ wr, w0.grownBy wr none → ∀ w', Below wr.heap.size wr w' → Below b w w') := fun wr hg w' hb => by
    have h0 := Hb.out
    rw [hbb] at h0
    have h1 : Below b w0 wr := ⟨hg.os, hg.tape, hg.output, hg.size, fun i hi => hg.block i (by have := h0.size; omega) (by simp)⟩
    exact (h0.trans h1).trans (hb.mono (by have := h0.size; have := hg.size; omega))
  have hi0 := index_0 (some ⟨b + 1, 0, none⟩)
  have hi1 := index_1 (some ⟨b + 1, 0, none⟩)
  go_enter Try.func3, Try.ntmps3
  go_wp2_with fail
  go_loopw [9] (fun i wr => ∃ k : Nat, k ≤ 2 ∧ i = .int .i64 (k : Int) ∧ w0.grownBy wr none) (fun i _ => 2 - (intOf i).toNat)
  case atStart => exact ⟨0, by omega, rfl, World.grownBy.refl _ _⟩
  case round =>
    obtain ⟨k, hk, rfl, hg⟩ := hrel
    obtain ⟨q1, q2, q3, q4, q5⟩ := Hf.out wr hg
    have hz := Hz.out wr hg
    clear hw0
    have hk3 : k = 0 ∨ k = 1 ∨ k = 2 := by omega
    rcases hk3 with rfl | rfl | rfl
    · have o0 : OkW w0 b none n m sa sb ao len cap wr := ⟨hg, hz.1, q1, q2, q3, q4, q5⟩
      clear hg hk hz
      go_wp2_with (first
        | (go_at_call 4; go_fit (C1.out _ _ o0); rintro x w1 ⟨rfl, o1⟩; have a1 := o1.e1; have b1 := o1.e2; have c1 := o1.e3; have d1 := o1.e4; have f1 := o1.e5)
        | (go_at_call 5; go_fit (C2.out _ _ o1); rintro x w2 ⟨rfl, o2⟩; have a2 := o2.e1; have b2 := o2.e2; have c2 := o2.e3; have d2 := o2.e4; have f2 := o2.e5)
        | (go_at_call 6; go_fit (C3.out _ _ o2); rintro x w3 ⟨rfl, o3⟩; have a3 := o3.e1; have b3 := o3.e2; have c3 := o3.e3; have d3 := o3.e4; have f3 := o3.e5)
        | (go_at_call 7; go_fit (C4.out _ _ o3); rintro x w4 ⟨rfl, o4⟩; have a4 := o4.e1; have b4 := o4.e2; have c4 := o4.e3; have d4 := o4.e4; have f4 := o4.e5)
        | (go_at_call 8; go_fit (C5.out _ _ o4); rintro x w5 ⟨rfl, o5⟩; have a5 := o5.e1; have b5 := o5.e2; have c5 := o5.e3; have d5 := o5.e4; have f5 := o5.e5)
        | (go_at_call 9; go_fit (C6.out _ _ o5); rintro x w6 ⟨rfl, o6⟩; have a6 := o6.e1; have b6 := o6.e2; have c6 := o6.e3; have d6 := o6.e4; have f6 := o6.e5)
        | (go_at_call 10; go_fit (C7.out _ _ o6); rintro x w7 ⟨rfl, o7⟩; have a7 := o7.e1; have b7 := o7.e2; have c7 := o7.e3; have d7 := o7.e4; have f7 := o7.e5)
        | (go_at_call 11; go_fit (C8.out _ _ o7); rintro x w8 ⟨rfl, o8⟩; have a8 := o8.e1; have b8 := o8.e2; have c8 := o8.e3; have d8 := o8.e4; have f8 := o8.e5)
        | (go_at_call 12; go_fit (C9.out _ _ o8); rintro x w9 ⟨rfl, o9⟩; have a9 := o9.e1; have b9 := o9.e2; have c9 := o9.e3; have d9 := o9.e4; have f9 := o9.e5)
        | (go_at_call 13; go_fit (C10.out _ _ o9); rintro x w10 ⟨rfl, o10⟩; have a10 := o10.e1; have b10 := o10.e2; have c10 := o10.e3; have d10 := o10.e4; have f10 := o10.e5)
        | (go_at_call 14; go_fit (C11.out _ _ o10); rintro x w11 ⟨rfl, o11⟩; have a11 := o11.e1; have b11 := o11.e2; have c11 := o11.e3; have d11 := o11.e4; have f11 := o11.e5)
        | (go_at_call 15; go_fit (C12.out _ _ o11); rintro x w12 ⟨rfl, o12⟩; have a12 := o12.e1; have b12 := o12.e2; have c12 := o12.e3; have d12 := o12.e4; have f12 := o12.e5)
        | (go_at_call 16; go_fit (C13.out _ _ o12); rintro x w13 ⟨rfl, o13⟩; have a13 := o13.e1; have b13 := o13.e2; have c13 := o13.e3; have d13 := o13.e4; have f13 := o13.e5)
        | (go_at_call 17; go_fit (C14.out _ _ o13); rintro x w14 ⟨rfl, o14⟩; have a14 := o14.e1; have b14 := o14.e2; have c14 := o14.e3; have d14 := o14.e4; have f14 := o14.e5)
        | (go_at_call 18; go_fit (C15.out _ _ o14); rintro x w15 ⟨rfl, o15⟩; have a15 := o15.e1; have b15 := o15.e2; have c15 := o15.e3; have d15 := o15.e4; have f15 := o15.e5))
      have hgg := o15.g
      go_round
      case rel => exact ⟨1, by omega, rfl, hgg⟩
      case measure => simp [intOf]
    · have o0 : OkW w0 b (some ⟨b + 1, 0, none⟩) n m sa sb ao len cap wr := ⟨hg, hz.2, q1, q2, q3, q4, q5⟩
      clear hg hk hz
      go_wp2_with (first
        | (go_at_call 4; go_fit (C1.out _ _ o0); rintro x w1 ⟨rfl, o1⟩; have a1 := o1.e1; have b1 := o1.e2; have c1 := o1.e3; have d1 := o1.e4; have f1 := o1.e5)
        | (go_at_call 5; go_fit (C2.out _ _ o1); rintro x w2 ⟨rfl, o2⟩; have a2 := o2.e1; have b2 := o2.e2; have c2 := o2.e3; have d2 := o2.e4; have f2 := o2.e5)
        | (go_at_call 6; go_fit (C3.out _ _ o2); rintro x w3 ⟨rfl, o3⟩; have a3 := o3.e1; have b3 := o3.e2; have c3 := o3.e3; have d3 := o3.e4; have f3 := o3.e5)
        | (go_at_call 7; go_fit (C4.out _ _ o3); rintro x w4 ⟨rfl, o4⟩; have a4 := o4.e1; have b4 := o4.e2; have c4 := o4.e3; have d4 := o4.e4; have f4 := o4.e5)
        | (go_at_call 8; go_fit (C5.out _ _ o4); rintro x w5 ⟨rfl, o5⟩; have a5 := o5.e1; have b5 := o5.e2; have c5 := o5.e3; have d5 := o5.e4; have f5 := o5.e5)
        | (go_at_call 9; go_fit (C6.out _ _ o5); rintro x w6 ⟨rfl, o6⟩; have a6 := o6.e1; have b6 := o6.e2; have c6 := o6.e3; have d6 := o6.e4; have f6 := o6.e5)
        | (go_at_call 10; go_fit (C7.out _ _ o6); rintro x w7 ⟨rfl, o7⟩; have a7 := o7.e1; have b7 := o7.e2; have c7 := o7.e3; have d7 := o7.e4; have f7 := o7.e5)
        | (go_at_call 11; go_fit (C8.out _ _ o7); rintro x w8 ⟨rfl, o8⟩; have a8 := o8.e1; have b8 := o8.e2; have c8 := o8.e3; have d8 := o8.e4; have f8 := o8.e5)
        | (go_at_call 12; go_fit (C9.out _ _ o8); rintro x w9 ⟨rfl, o9⟩; have a9 := o9.e1; have b9 := o9.e2; have c9 := o9.e3; have d9 := o9.e4; have f9 := o9.e5)
        | (go_at_call 13; go_fit (C10.out _ _ o9); rintro x w10 ⟨rfl, o10⟩; have a10 := o10.e1; have b10 := o10.e2; have c10 := o10.e3; have d10 := o10.e4; have f10 := o10.e5)
        | (go_at_call 14; go_fit (C11.out _ _ o10); rintro x w11 ⟨rfl, o11⟩; have a11 := o11.e1; have b11 := o11.e2; have c11 := o11.e3; have d11 := o11.e4; have f11 := o11.e5)
        | (go_at_call 15; go_fit (C12.out _ _ o11); rintro x w12 ⟨rfl, o12⟩; have a12 := o12.e1; have b12 := o12.e2; have c12 := o12.e3; have d12 := o12.e4; have f12 := o12.e5)
        | (go_at_call 16; go_fit (C13.out _ _ o12); rintro x w13 ⟨rfl, o13⟩; have a13 := o13.e1; have b13 := o13.e2; have c13 := o13.e3; have d13 := o13.e4; have f13 := o13.e5)
        | (go_at_call 17; go_fit (C14.out _ _ o13); rintro x w14 ⟨rfl, o14⟩; have a14 := o14.e1; have b14 := o14.e2; have c14 := o14.e3; have d14 := o14.e4; have f14 := o14.e5)
        | (go_at_call 18; go_fit (C15.out _ _ o14); rintro x w15 ⟨rfl, o15⟩; have a15 := o15.e1; have b15 := o15.e2; have c15 := o15.e3; have d15 := o15.e4; have f15 := o15.e5))
      have hgg := o15.g
      go_round
      case rel => exact ⟨2, by omega, rfl, hgg⟩
      case measure => simp [intOf]
    · have HB2 := HB.out wr hg
      clear hk hz hg
      go_wp2_with (go_at_call 19; go_fit (L.out _); rintro x w1 ⟨rfl, hb1⟩)
      go_ret
      exact ⟨rfl, by rw [hbb]; exact HB2 _ hb1⟩
end Go.Proofs.Ytbabepnoncpdlab
