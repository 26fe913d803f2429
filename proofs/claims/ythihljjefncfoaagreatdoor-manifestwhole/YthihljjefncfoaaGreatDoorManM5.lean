/-
  SEVERAL TEXTS IN ONE: ManTurn, ManStore, ManStoreR, ManPlan, ManPlanS, ManWhole, ManWholeL.
-/
import Derived.Test.YthihljjefncfoaaGreatDoorManLives
import Derived.Test.YthihljjefncfoaaGreatDoorDskModel
import Derived.Test.YthihljjefncfoaaGreatDoorDskCut
namespace Go.Proofs.YthihljjefncfoaaGreatDoor
open Go.RowKit Go.Maps

/-- What a step leaves: it answered 0, or another number. -/
def Upon (R : World → Prop) (F : Int → World → Prop) (e : Ending) (u : World) : Prop := ∃ x : Int, e = .returned (.int .i64 x) ∧ ((x = 0 ∧ R u) ∨ (x ≠ 0 ∧ F x u))
/-- The row of the steps of a Store. -/
def stepsV (b2 b3 b5 : Nat) : List Value := [.func (.func 29) #[] #[.pointer (some ⟨b2, 0, none⟩)], .func (.func 31) #[] #[.pointer (some ⟨b3, 0, none⟩), .pointer (some ⟨b5, 0, none⟩)], .func (.func 32) #[] #[.pointer (some ⟨b2, 0, none⟩)], .func (.func 34) #[] #[.pointer (some ⟨b2, 0, none⟩), .pointer (some ⟨b5, 0, none⟩)], .func (.func 36) #[] #[.pointer (some ⟨b2, 0, none⟩)], .func (.func 38) #[] #[.pointer (some ⟨b2, 0, none⟩)]]
set_option maxRecDepth 100000 in
set_option maxHeartbeats 2000000 in
theorem inTurn_six (g b2 b3 b5 : Nat) (R : Nat → World → Prop) (F : Int → World → Prop) (w : World) (h0 : R 0 w) (ty : TypeId)
    (hc : ∀ k u, k < 6 → R k u → Blk u g (stepsV b2 b3 b5) ty)
    (C0 : ∀ u, R 0 u → Calls Tryz.prog 29 #[.pointer (some ⟨b2, 0, none⟩)] u (Upon (R 1) F))
    (C1 : ∀ u, R 1 u → Calls Tryz.prog 31 #[.pointer (some ⟨b3, 0, none⟩), .pointer (some ⟨b5, 0, none⟩)] u (Upon (R 2) F))
    (C2 : ∀ u, R 2 u → Calls Tryz.prog 32 #[.pointer (some ⟨b2, 0, none⟩)] u (Upon (R 3) F))
    (C3 : ∀ u, R 3 u → Calls Tryz.prog 34 #[.pointer (some ⟨b2, 0, none⟩), .pointer (some ⟨b5, 0, none⟩)] u (Upon (R 4) F))
    (C4 : ∀ u, R 4 u → Calls Tryz.prog 36 #[.pointer (some ⟨b2, 0, none⟩)] u (Upon (R 5) F))
    (C5 : ∀ u, R 5 u → Calls Tryz.prog 38 #[.pointer (some ⟨b2, 0, none⟩)] u (Upon (R 6) F)) :
    Calls Tryz.prog 28 #[.slice (some ⟨g, 0, none⟩) 6 6] w (Upon (R 6) F) := by
  have HC : Hid (∀ k u, k < 6 → R k u → Blk u g (stepsV b2 b3 b5) ty) := hc
  have H0 : Hid (R 0 w) := h0
  have D0 : Hid (∀ u, R 0 u → Calls Tryz.prog 29 #[.pointer (some ⟨b2, 0, none⟩)] u (Upon (R 1) F)) := C0
  have D1 : Hid (∀ u, R 1 u → Calls Tryz.prog 31 #[.pointer (some ⟨b3, 0, none⟩), .pointer (some ⟨b5, 0, none⟩)] u (Upon (R 2) F)) := C1
  have D2 : Hid (∀ u, R 2 u → Calls Tryz.prog 32 #[.pointer (some ⟨b2, 0, none⟩)] u (Upon (R 3) F)) := C2
  have D3 : Hid (∀ u, R 3 u → Calls Tryz.prog 34 #[.pointer (some ⟨b2, 0, none⟩), .pointer (some ⟨b5, 0, none⟩)] u (Upon (R 4) F)) := C3
  have D4 : Hid (∀ u, R 4 u → Calls Tryz.prog 36 #[.pointer (some ⟨b2, 0, none⟩)] u (Upon (R 5) F)) := C4
  have D5 : Hid (∀ u, R 5 u → Calls Tryz.prog 38 #[.pointer (some ⟨b2, 0, none⟩)] u (Upon (R 6) F)) := C5
  clear hc h0 C0 C1 C2 C3 C4 C5
  go_enter Tryz.func28, Tryz.ntmps28
  go_wp2_with fail
  go_loopw [8] (fun i wr => ∃ k : Nat, k ≤ 6 ∧ i = .int .i64 (k : Int) ∧ R k wr) (fun i _ => 6 - (intOf i).toNat)
  case atStart => exact ⟨0, by omega, rfl, H0.out⟩
  case round =>
    clear H0
    obtain ⟨k, hk, rfl, hR⟩ := hrel
    rcases (show k = 0 ∨ k = 1 ∨ k = 2 ∨ k = 3 ∨ k = 4 ∨ k = 5 ∨ k = 6 by omega) with rfl | rfl | rfl | rfl | rfl | rfl | rfl
    · have c0 := (HC.out 0 wr (by omega) hR).cell 0 rfl
      have Q := D0.out wr hR
      clear hR hk
      go_wp2_with fail
      go_fit Q
      rintro e w1 ⟨x, rfl, hx⟩
      by_cases hx0 : x = 0
      · subst hx0
        have HR : Hid (R 1 w1) := by
          rcases hx with h | h
          · exact h.2
          · exact absurd rfl h.1
        clear hx Q
        go_wp2_with fail
        go_roundw
        case rel => exact ⟨1, by omega, by go_num, HR.out⟩
        case measure => (simp [intOf]; try omega)
      · have HF : Hid (F x w1) := by
          rcases hx with h | h
          · exact absurd h.1 hx0
          · exact h.2
        have HX : Hid (x ≠ 0) := hx0
        have hxb : (x == 0) = false := by rw [beq_eq_false_iff_ne]; exact hx0
        clear hx Q hx0
        go_wp2_with fail
        go_ret
        exact ⟨x, rfl, .inr ⟨HX.out, HF.out⟩⟩
    · have c0 := (HC.out 1 wr (by omega) hR).cell 1 rfl
      have Q := D1.out wr hR
      clear hR hk
      go_wp2_with fail
      go_fit Q
      rintro e w1 ⟨x, rfl, hx⟩
      by_cases hx0 : x = 0
      · subst hx0
        have HR : Hid (R 2 w1) := by
          rcases hx with h | h
          · exact h.2
          · exact absurd rfl h.1
        clear hx Q
        go_wp2_with fail
        go_roundw
        case rel => exact ⟨2, by omega, by go_num, HR.out⟩
        case measure => (simp [intOf]; try omega)
      · have HF : Hid (F x w1) := by
          rcases hx with h | h
          · exact absurd h.1 hx0
          · exact h.2
        have HX : Hid (x ≠ 0) := hx0
        have hxb : (x == 0) = false := by rw [beq_eq_false_iff_ne]; exact hx0
        clear hx Q hx0
        go_wp2_with fail
        go_ret
        exact ⟨x, rfl, .inr ⟨HX.out, HF.out⟩⟩
    · have c0 := (HC.out 2 wr (by omega) hR).cell 2 rfl
      have Q := D2.out wr hR
      clear hR hk
      go_wp2_with fail
      go_fit Q
      rintro e w1 ⟨x, rfl, hx⟩
      by_cases hx0 : x = 0
      · subst hx0
        have HR : Hid (R 3 w1) := by
          rcases hx with h | h
          · exact h.2
          · exact absurd rfl h.1
        clear hx Q
        go_wp2_with fail
        go_roundw
        case rel => exact ⟨3, by omega, by go_num, HR.out⟩
        case measure => (simp [intOf]; try omega)
      · have HF : Hid (F x w1) := by
          rcases hx with h | h
          · exact absurd h.1 hx0
          · exact h.2
        have HX : Hid (x ≠ 0) := hx0
        have hxb : (x == 0) = false := by rw [beq_eq_false_iff_ne]; exact hx0
        clear hx Q hx0
        go_wp2_with fail
        go_ret
        exact ⟨x, rfl, .inr ⟨HX.out, HF.out⟩⟩
    · have c0 := (HC.out 3 wr (by omega) hR).cell 3 rfl
      have Q := D3.out wr hR
      clear hR hk
      go_wp2_with fail
      go_fit Q
      rintro e w1 ⟨x, rfl, hx⟩
      by_cases hx0 : x = 0
      · subst hx0
        have HR : Hid (R 4 w1) := by
          rcases hx with h | h
          · exact h.2
          · exact absurd rfl h.1
        clear hx Q
        go_wp2_with fail
        go_roundw
        case rel => exact ⟨4, by omega, by go_num, HR.out⟩
        case measure => (simp [intOf]; try omega)
      · have HF : Hid (F x w1) := by
          rcases hx with h | h
          · exact absurd h.1 hx0
          · exact h.2
        have HX : Hid (x ≠ 0) := hx0
        have hxb : (x == 0) = false := by rw [beq_eq_false_iff_ne]; exact hx0
        clear hx Q hx0
        go_wp2_with fail
        go_ret
        exact ⟨x, rfl, .inr ⟨HX.out, HF.out⟩⟩
    · have c0 := (HC.out 4 wr (by omega) hR).cell 4 rfl
      have Q := D4.out wr hR
      clear hR hk
      go_wp2_with fail
      go_fit Q
      rintro e w1 ⟨x, rfl, hx⟩
      by_cases hx0 : x = 0
      · subst hx0
        have HR : Hid (R 5 w1) := by
          rcases hx with h | h
          · exact h.2
          · exact absurd rfl h.1
        clear hx Q
        go_wp2_with fail
        go_roundw
        case rel => exact ⟨5, by omega, by go_num, HR.out⟩
        case measure => (simp [intOf]; try omega)
      · have HF : Hid (F x w1) := by
          rcases hx with h | h
          · exact absurd h.1 hx0
          · exact h.2
        have HX : Hid (x ≠ 0) := hx0
        have hxb : (x == 0) = false := by rw [beq_eq_false_iff_ne]; exact hx0
        clear hx Q hx0
        go_wp2_with fail
        go_ret
        exact ⟨x, rfl, .inr ⟨HX.out, HF.out⟩⟩
    · have c0 := (HC.out 5 wr (by omega) hR).cell 5 rfl
      have Q := D5.out wr hR
      clear hR hk
      go_wp2_with fail
      go_fit Q
      rintro e w1 ⟨x, rfl, hx⟩
      by_cases hx0 : x = 0
      · subst hx0
        have HR : Hid (R 6 w1) := by
          rcases hx with h | h
          · exact h.2
          · exact absurd rfl h.1
        clear hx Q
        go_wp2_with fail
        go_roundw
        case rel => exact ⟨6, by omega, by go_num, HR.out⟩
        case measure => (simp [intOf]; try omega)
      · have HF : Hid (F x w1) := by
          rcases hx with h | h
          · exact absurd h.1 hx0
          · exact h.2
        have HX : Hid (x ≠ 0) := hx0
        have hxb : (x == 0) = false := by rw [beq_eq_false_iff_ne]; exact hx0
        clear hx Q hx0
        go_wp2_with fail
        go_ret
        exact ⟨x, rfl, .inr ⟨HX.out, HF.out⟩⟩
    · have HR : Hid (R 6 wr) := hR
      clear hR
      go_wp2_with fail
      go_ret
      exact ⟨0, rfl, .inl ⟨rfl, HR.out⟩⟩
end Go.Proofs.YthihljjefncfoaaGreatDoor
namespace Go.Proofs.YthihljjefncfoaaGreatDoor
open Go.RowKit Go.Maps

def nmN : ByteArray := ⟨#[109, 97, 110, 105, 102, 101, 115, 116, 46, 110, 101, 119]⟩
theorem nmN_size : nmN.size ≤ maxLen := by show 12 ≤ maxLen; unfold maxLen; omega
theorem nmN_good : refuse true [nmN] = 0 := by decide
theorem nmNM_good : refuse true [nmN, nmM] = 0 := by decide
theorem moved_belowM {w u : World} {ft : List Nat} (h : Below w.heap.size w u) : Moved w u ft ft := ⟨h.os, h.tape, h.output, h.size, fun i hi _ => h.block i hi, fun _ hi => .inl hi⟩
set_option maxRecDepth 100000 in
theorem refusalM_on {d : Nat} {A : Ab} {ft : List Nat} {w : World} (h : At d A ft w) (hon : A.on = true) : Calls Tryz.prog 30 #[.pointer (some ⟨d, 0, none⟩)] w fun e w' => e = .returned (.int .i64 0) ∧ w.grownBy w' none := by
  have CR : Hid (Calls Tryz.prog 43 #[.pointer (some ⟨d, 0, none⟩), .string ⟨#[]⟩] w fun x w' => x = .returned (.tuple #[.slice none 0 0, .int .i64 3]) ∧ w.grownBy w' none) := by
    obtain ⟨bm, fs, hD, _, _⟩ := h
    exact read_refused hD ⟨#[]⟩ (by show 0 ≤ maxLen; exact Nat.zero_le _) (c := 3) (by show refuse A.on [⟨#[]⟩] = 3; rw [hon]; rfl) (by omega)
  clear h hon
  go_enter Tryz.func30, Tryz.ntmps30
  go_wp2_with fail
  go_fit CR.out
  rintro e w1 ⟨rfl, hg⟩
  have HG : Hid (w.grownBy w1 none) := hg
  clear hg
  go_wp2_with fail
  go_ret
  exact ⟨rfl, HG.out⟩
set_option maxRecDepth 100000 in
theorem step1 {d b2 : Nat} {A : Ab} {ft : List Nat} {w : World} (h : At d A ft w) (hon : A.on = true) (hk : Blk w b2 [.pointer (some ⟨d, 0, none⟩)] 26) : Calls Tryz.prog 29 #[.pointer (some ⟨b2, 0, none⟩)] w fun e w' => e = .returned (.int .i64 0) ∧ w.grownBy w' none := by
  have CR : Hid (Calls Tryz.prog 30 #[.pointer (some ⟨d, 0, none⟩)] w fun e w' => e = .returned (.int .i64 0) ∧ w.grownBy w' none) := refusalM_on h hon
  have c0 := hk.cell 0 rfl
  clear h hon hk
  go_enter Tryz.func29, Tryz.ntmps29
  go_wp2_with fail
  go_fit CR.out
  rintro e w1 ⟨rfl, hg⟩
  have HG : Hid (w.grownBy w1 none) := hg
  clear hg
  go_wp2_with fail
  go_ret
  exact ⟨rfl, HG.out⟩
set_option maxRecDepth 100000 in
theorem step2_ok (b3 b5 : Nat) (ao : Option Addr) (cap : Nat) (m : Mf) (w : World) (h : MSees w ao cap m) (hc : cap ≤ 9223372036854775807) (ht : Tab w) (hg : goodM m = true) (k3 : Blk w b3 [.slice ao m.ts.length cap, .int .i64 m.nx, .int .i64 m.fr] 36) (k5 : Blk w b5 [.slice none 0 0] 62) :
    Calls Tryz.prog 31 #[.pointer (some ⟨b3, 0, none⟩), .pointer (some ⟨b5, 0, none⟩)] w fun e w' => e = .returned (.int .i64 0) ∧ ∃ g, w.heap.size ≤ g ∧ Row w' g (encM m) ∧ Blk w' b5 [.slice (some ⟨g, 0, none⟩) (encM m).length (encM m).length] 62 ∧ w.grownBy w' (some b5) := by
  have CB : Hid (Calls Tryz.prog 25 #[.agg #[.slice ao m.ts.length cap, .int .i64 m.nx, .int .i64 m.fr]] w fun e w' => ∃ g, e = .returned (.tuple #[.slice (some ⟨g, 0, none⟩) (encM m).length (encM m).length, .int .i64 0]) ∧ w.heap.size ≤ g ∧ Row w' g (encM m) ∧ Below w.heap.size w w') := bytesM_ok ao cap m w h hc ht hg
  have c0 := k3.cell 0 rfl
  have c1 := k3.cell 1 rfl
  have c2 := k3.cell 2 rfl
  have H5 : Hid (Blk w b5 [.slice none 0 0] 62) := k5
  clear h hc ht hg k3 k5
  generalize encM m = E at *
  go_enter Tryz.func31, Tryz.ntmps31
  go_wp2_with fail
  go_fit CB.out
  rintro e w1 ⟨g, rfl, hgg, hr, hB⟩
  have k5' := H5.out.carry (hB.block _ H5.out.lt)
  have d0 := k5'.cell 0 rfl
  have f0 := k5'.frozen 0
  have hlt := H5.out.lt
  have HE : Hid (∃ q, w.heap.size ≤ q ∧ Row (w1.setCell ⟨b5, 0, none⟩ (.slice (some ⟨g, 0, none⟩) E.length E.length)) q E ∧ Blk (w1.setCell ⟨b5, 0, none⟩ (.slice (some ⟨g, 0, none⟩) E.length E.length)) b5 [.slice (some ⟨q, 0, none⟩) E.length E.length] 62 ∧ w.grownBy (w1.setCell ⟨b5, 0, none⟩ (.slice (some ⟨g, 0, none⟩) E.length E.length)) (some b5)) :=
    ⟨g, hgg, (Below.heap_setCell _ _ _ _ (by show g ≠ b5; omega)).trans hr, k5'.setTo 0 _ _ rfl, ⟨hB.os, hB.tape, hB.output, by rw [size_setCell]; exact hB.size, fun i hi hne => by rw [Below.heap_setCell _ _ _ _ (fun e => hne (by rw [e]))]; exact hB.block i hi⟩⟩
  clear k5' hr hB hgg hlt
  go_wp2_with fail
  go_ret
  exact ⟨rfl, HE.out⟩
set_option maxRecDepth 100000 in
theorem step2_bad (b3 b5 : Nat) (ao : Option Addr) (cap : Nat) (m : Mf) (w : World) (h : MSees w ao cap m) (hl : m.ts.length ≤ 1000000) (hc : cap ≤ 9223372036854775807) (hg : goodM m = false) (k3 : Blk w b3 [.slice ao m.ts.length cap, .int .i64 m.nx, .int .i64 m.fr] 36) (k5 : Blk w b5 [.slice none 0 0] 62) :
    Calls Tryz.prog 31 #[.pointer (some ⟨b3, 0, none⟩), .pointer (some ⟨b5, 0, none⟩)] w fun e w' => e = .returned (.int .i64 2) ∧ w.grownBy w' (some b5) := by
  have CB : Hid (Calls Tryz.prog 25 #[.agg #[.slice ao m.ts.length cap, .int .i64 m.nx, .int .i64 m.fr]] w fun e w' => e = .returned (.tuple #[.slice none 0 0, .int .i64 2]) ∧ Below w.heap.size w w') := bytesM_bad ao cap m w h hl hc hg
  have c0 := k3.cell 0 rfl
  have c1 := k3.cell 1 rfl
  have c2 := k3.cell 2 rfl
  have H5 : Hid (Blk w b5 [.slice none 0 0] 62) := k5
  clear h hc hl hg k3 k5
  go_enter Tryz.func31, Tryz.ntmps31
  go_wp2_with fail
  go_fit CB.out
  rintro e w1 ⟨rfl, hB⟩
  have k5' := H5.out.carry (hB.block _ H5.out.lt)
  have d0 := k5'.cell 0 rfl
  have f0 := k5'.frozen 0
  have HE : Hid (w.grownBy (w1.setCell ⟨b5, 0, none⟩ (.slice none 0 0)) (some b5)) := ⟨hB.os, hB.tape, hB.output, by rw [size_setCell]; exact hB.size, fun i hi hne => by rw [Below.heap_setCell _ _ _ _ (fun e => hne (by rw [e]))]; exact hB.block i hi⟩
  clear k5' hB
  go_wp2_with fail
  go_ret
  exact ⟨rfl, HE.out⟩
set_option maxRecDepth 100000 in
theorem step_disk {d b2 : Nat} {w : World} {R : World → Prop} {F : Int → World → Prop} (hk : w.cell? ⟨b2, 0, none⟩ = some (.pointer (some ⟨d, 0, none⟩))) (C : Calls Tryz.prog 33 #[.pointer (some ⟨d, 0, none⟩), .string nmN] w (Upon R F)) :
    Calls Tryz.prog 32 #[.pointer (some ⟨b2, 0, none⟩)] w (Upon R F) := by
  have HC : Hid (Calls Tryz.prog 33 #[.pointer (some ⟨d, 0, none⟩), .string ⟨#[109, 97, 110, 105, 102, 101, 115, 116, 46, 110, 101, 119]⟩] w (Upon R F)) := C
  clear C
  go_enter Tryz.func32, Tryz.ntmps32
  go_wp2_with fail
  go_fit HC.out
  rintro e w1 ⟨x, rfl, hq⟩
  have HQ : Hid ((x = 0 ∧ R w1) ∨ (x ≠ 0 ∧ F x w1)) := hq
  clear hq
  go_wp2_with fail
  go_ret
  exact ⟨x, rfl, HQ.out⟩
set_option maxRecDepth 100000 in
theorem step_sync {d b2 : Nat} {w : World} {R : World → Prop} {F : Int → World → Prop} (hk : w.cell? ⟨b2, 0, none⟩ = some (.pointer (some ⟨d, 0, none⟩))) (C : Calls Tryz.prog 37 #[.pointer (some ⟨d, 0, none⟩), .string nmN] w (Upon R F)) :
    Calls Tryz.prog 36 #[.pointer (some ⟨b2, 0, none⟩)] w (Upon R F) := by
  have HC : Hid (Calls Tryz.prog 37 #[.pointer (some ⟨d, 0, none⟩), .string ⟨#[109, 97, 110, 105, 102, 101, 115, 116, 46, 110, 101, 119]⟩] w (Upon R F)) := C
  clear C
  go_enter Tryz.func36, Tryz.ntmps36
  go_wp2_with fail
  go_fit HC.out
  rintro e w1 ⟨x, rfl, hq⟩
  have HQ : Hid ((x = 0 ∧ R w1) ∨ (x ≠ 0 ∧ F x w1)) := hq
  clear hq
  go_wp2_with fail
  go_ret
  exact ⟨x, rfl, HQ.out⟩
set_option maxRecDepth 100000 in
theorem step_rename {d b2 : Nat} {w : World} {R : World → Prop} {F : Int → World → Prop} (hk : w.cell? ⟨b2, 0, none⟩ = some (.pointer (some ⟨d, 0, none⟩))) (C : Calls Tryz.prog 39 #[.pointer (some ⟨d, 0, none⟩), .string nmN, .string nmM] w (Upon R F)) :
    Calls Tryz.prog 38 #[.pointer (some ⟨b2, 0, none⟩)] w (Upon R F) := by
  have HC : Hid (Calls Tryz.prog 39 #[.pointer (some ⟨d, 0, none⟩), .string ⟨#[109, 97, 110, 105, 102, 101, 115, 116, 46, 110, 101, 119]⟩, .string ⟨#[109, 97, 110, 105, 102, 101, 115, 116]⟩] w (Upon R F)) := C
  clear C
  go_enter Tryz.func38, Tryz.ntmps38
  go_wp2_with fail
  go_fit HC.out
  rintro e w1 ⟨x, rfl, hq⟩
  have HQ : Hid ((x = 0 ∧ R w1) ∨ (x ≠ 0 ∧ F x w1)) := hq
  clear hq
  go_wp2_with fail
  go_ret
  exact ⟨x, rfl, HQ.out⟩
set_option maxRecDepth 100000 in
theorem step_append {d b2 b5 n c : Nat} {a : Option Addr} {w : World} {R : World → Prop} {F : Int → World → Prop} (hk : w.cell? ⟨b2, 0, none⟩ = some (.pointer (some ⟨d, 0, none⟩))) (h5 : w.cell? ⟨b5, 0, none⟩ = some (.slice a n c)) (C : Calls Tryz.prog 35 #[.pointer (some ⟨d, 0, none⟩), .string nmN, .slice a n c] w (Upon R F)) :
    Calls Tryz.prog 34 #[.pointer (some ⟨b2, 0, none⟩), .pointer (some ⟨b5, 0, none⟩)] w (Upon R F) := by
  have HC : Hid (Calls Tryz.prog 35 #[.pointer (some ⟨d, 0, none⟩), .string ⟨#[109, 97, 110, 105, 102, 101, 115, 116, 46, 110, 101, 119]⟩, .slice a n c] w (Upon R F)) := C
  clear C
  go_enter Tryz.func34, Tryz.ntmps34
  go_wp2_with fail
  go_fit HC.out
  rintro e w1 ⟨x, rfl, hq⟩
  have HQ : Hid ((x = 0 ∧ R w1) ∨ (x ≠ 0 ∧ F x w1)) := hq
  clear hq
  go_wp2_with fail
  go_ret
  exact ⟨x, rfl, HQ.out⟩
end Go.Proofs.YthihljjefncfoaaGreatDoor
namespace Go.Proofs.YthihljjefncfoaaGreatDoor
open Go.RowKit Go.Maps

/-- The disk is one of these, and nothing else was written. -/
def Res (T : Ab → Prop) (d : Nat) (u : World) (f : List Nat) (u' : World) : Prop := ∃ A f', T A ∧ At d A f' u' ∧ Moved u u' f f'
theorem Res.after {T : Ab → Prop} {d : Nat} {u u1 u' : World} {f f1 : List Nat} (hm : Moved u u1 f f1) (h : Res T d u1 f1 u') : Res T d u f u' := by
  obtain ⟨A, f', h1, h2, h3⟩ := h
  exact ⟨A, f', h1, h2, hm.trans h3⟩
/-- What lies ready once the bytes are there. -/
structure P5 (w : World) (b3 : Nat) (E : List UInt8) (d : Nat) (w5 : World) (ge : Nat) (ty : TypeId) : Prop where
  bel : Below w.heap.size w w5
  k2 : Blk w5 w.heap.size [.pointer (some ⟨d, 0, none⟩)] 26
  k5 : Blk w5 (w.heap.size + 2) [.slice (some ⟨ge, 0, none⟩) E.length E.length] 62
  kg : Blk w5 (w.heap.size + 3) (stepsV w.heap.size b3 (w.heap.size + 2)) ty
  row : Row w5 ge E
  ge : w.heap.size ≤ ge
theorem moved_blk {w5 u : World} {ft f : List Nat} {i : Nat} {cs : List Value} {t : TypeId} (hm : Moved w5 u ft f) (hi : i ∉ ft) (h : Blk w5 i cs t) : Blk u i cs t := h.carry (hm.kept i h.lt hi)
set_option maxRecDepth 100000 in
set_option maxHeartbeats 2000000 in
theorem storeM_run {d : Nat} {A : Ab} {ft : List Nat} {w : World} (hA : At d A ft w) (hon : A.on = true) (ao : Option Addr) (cap : Nat) (m : Mf) (hm : MSees w ao cap m) (hcp : cap ≤ 9223372036854775807) (ht : Tab w) (hg : goodM m = true) (T1 T2 T3 T4 : Ab → Prop) (G : Int → Ab → Prop)
    (H3 : ∀ u f, At d A f u → Calls Tryz.prog 33 #[.pointer (some ⟨d, 0, none⟩), .string nmN] u (Upon (Res T1 d u f) (fun x => Res (G x) d u f)))
    (H4 : ∀ A1, T1 A1 → ∀ u f a, At d A1 f u → Sees u (some ⟨a, 0, none⟩) (encM m) → a ∉ f → Calls Tryz.prog 35 #[.pointer (some ⟨d, 0, none⟩), .string nmN, .slice (some ⟨a, 0, none⟩) (encM m).length (encM m).length] u (Upon (Res T2 d u f) (fun x => Res (G x) d u f)))
    (H5 : ∀ A2, T2 A2 → ∀ u f, At d A2 f u → Calls Tryz.prog 37 #[.pointer (some ⟨d, 0, none⟩), .string nmN] u (Upon (Res T3 d u f) (fun x => Res (G x) d u f)))
    (H6 : ∀ A3, T3 A3 → ∀ u f, At d A3 f u → Calls Tryz.prog 39 #[.pointer (some ⟨d, 0, none⟩), .string nmN, .string nmM] u (Upon (Res T4 d u f) (fun x => Res (G x) d u f))) :
    Calls Tryz.prog 10 #[.pointer (some ⟨d, 0, none⟩), mval ao cap m] w (Upon (Res T4 d w ft) (fun x => Res (G x) d w ft)) := by
  have hft := hA.lt
  obtain ⟨w3, hw3⟩ : ∃ w3, w3 = ((w.alloc (.cells #[.pointer (some ⟨d, 0, none⟩)] 26)).alloc (.cells #[.slice ao m.ts.length cap, .int .i64 m.nx, .int .i64 m.fr] 36)).alloc (.cells #[.slice none 0 0] 62) := ⟨_, rfl⟩
  have b1 := Blk.new w [.pointer (some ⟨d, 0, none⟩)] 26
  have b2 := Blk.new (w.alloc (.cells #[.pointer (some ⟨d, 0, none⟩)] 26)) [.slice ao m.ts.length cap, .int .i64 m.nx, .int .i64 m.fr] 36
  have b3 := Blk.new ((w.alloc (.cells #[.pointer (some ⟨d, 0, none⟩)] 26)).alloc (.cells #[.slice ao m.ts.length cap, .int .i64 m.nx, .int .i64 m.fr] 36)) [.slice none 0 0] 62
  rw [World.size_alloc] at b2
  rw [World.size_alloc, World.size_alloc] at b3
  have k1 : Blk w3 w.heap.size [.pointer (some ⟨d, 0, none⟩)] 26 := by rw [hw3]; exact (b1.alloc _).alloc _
  have k2 : Blk w3 (w.heap.size + 1) [.slice ao m.ts.length cap, .int .i64 m.nx, .int .i64 m.fr] 36 := by rw [hw3]; exact b2.alloc _
  have k3 : Blk w3 (w.heap.size + 2) [.slice none 0 0] 62 := by rw [hw3]; exact b3
  have hs3 : w3.heap.size = w.heap.size + 3 := by rw [hw3]; simp
  have hB3 : Below w.heap.size w w3 := by
    rw [hw3]
    exact (((Below.refl _ _).alloc (Nat.le_refl _) _).alloc (by simp) _).alloc (by simp; omega) _
  clear b1 b2 b3
  have k4 : Blk (w3.alloc (.cells (stepsV w.heap.size (w.heap.size + 1) (w.heap.size + 2)).toArray 69)) (w.heap.size + 3) (stepsV w.heap.size (w.heap.size + 1) (w.heap.size + 2)) 69 := by
    have := Blk.new w3 (stepsV w.heap.size (w.heap.size + 1) (w.heap.size + 2)) 69
    rw [hs3] at this; exact this
  have hB4 : Below w.heap.size w (w3.alloc (.cells (stepsV w.heap.size (w.heap.size + 1) (w.heap.size + 2)).toArray 69)) := hB3.alloc hB3.size _
  have kk1 := k1.alloc (.cells (stepsV w.heap.size (w.heap.size + 1) (w.heap.size + 2)).toArray 69)
  have kk2 := k2.alloc (.cells (stepsV w.heap.size (w.heap.size + 1) (w.heap.size + 2)).toArray 69)
  have kk3 := k3.alloc (.cells (stepsV w.heap.size (w.heap.size + 1) (w.heap.size + 2)).toArray 69)
  obtain ⟨w4, hw4⟩ : ∃ w4, w4 = w3.alloc (.cells (stepsV w.heap.size (w.heap.size + 1) (w.heap.size + 2)).toArray 69) := ⟨_, rfl⟩
  rw [← hw4] at k4 hB4 kk1 kk2 kk3
  have hs4 : w4.heap.size = w.heap.size + 4 := by rw [hw4, World.size_alloc, hs3]
  have hA4 : At d A ft w4 := hA.moved (moved_belowM (ft := []) hB4) (by simp)
  have hnf : ∀ i, w.heap.size ≤ i → i ∉ ft := fun i hi h => by have := hft i h; omega
  -- the steps
  have CT : Calls Tryz.prog 28 #[.slice (some ⟨w.heap.size + 3, 0, none⟩) 6 6] w4 (Upon (Res T4 d w ft) (fun x => Res (G x) d w ft)) := by
    have key : ∀ (T : Ab → Prop) u, (∃ w5 ge, P5 w (w.heap.size + 1) (encM m) d w5 ge 69 ∧ Res T d w5 ft u) → Res T d w ft u := fun T u ⟨w5, ge, hp, hr⟩ => hr.after (moved_belowM hp.bel)
    refine (inTurn_six (w.heap.size + 3) w.heap.size (w.heap.size + 1) (w.heap.size + 2) (fun k u => match k with
      | 0 => u = w4
      | 1 => w4.grownBy u none
      | k + 2 => ∃ w5 ge, P5 w (w.heap.size + 1) (encM m) d w5 ge 69 ∧ Res (match k with | 0 => fun A' => A' = A | 1 => T1 | 2 => T2 | 3 => T3 | _ => T4) d w5 ft u) (fun x => Res (G x) d w ft) w4 rfl 69 ?_ ?_ ?_ ?_ ?_ ?_ ?_).mono ?_
    · intro k u hk hR
      match k, hR with
      | 0, hR => cases hR; exact k4
      | 1, hR => exact k4.carry (World.grownBy.block hR _ k4.lt (by simp))
      | k + 2, ⟨w5, ge, hp, A', f', _, _, hm'⟩ => exact moved_blk hm' (hnf _ (by omega)) hp.kg
    · rintro u rfl
      refine (step1 hA4 hon kk1).mono ?_
      rintro e u' ⟨rfl, hg'⟩
      exact ⟨0, rfl, .inl ⟨rfl, hg'⟩⟩
    · intro u hu
      have hu' : w4.grownBy u none := hu
      have hBu : Below w.heap.size w u := hB4.trans (((Below.refl _ _).grown hu' (Nat.le_refl _) (fun k hk => by cases hk)).mono hB4.size)
      refine (step2_ok (w.heap.size + 1) (w.heap.size + 2) ao cap m u (hm.below hBu (Nat.le_refl _)) hcp (ht.below hBu (Nat.le_refl _)) hg (kk2.carry (hu'.block _ kk2.lt (by simp))) (kk3.carry (hu'.block _ kk3.lt (by simp)))).mono ?_
      rintro e u' ⟨rfl, ge, hge, hr, h5, hg'⟩
      have hus := hu'.size
      refine ⟨0, rfl, .inl ⟨rfl, u', ge, ⟨hBu.grown hg' hBu.size (fun k hk => by cases hk; omega), (kk1.carry (hu'.block _ kk1.lt (by simp))).carry (hg'.block _ (by have := kk1.lt; omega) (by simp)), h5, (k4.carry (hu'.block _ k4.lt (by simp))).carry (hg'.block _ (by have := k4.lt; omega) (by simp)), hr, by omega⟩, A, ft, rfl, ?_, ?_⟩⟩
      · refine (hA4.grown hu').moved (a := [w.heap.size + 2]) (b := [w.heap.size + 2]) ⟨hg'.os, hg'.tape, hg'.output, hg'.size, fun i hi hne => hg'.block i hi (fun e => hne (by cases e; simp)), fun _ h => .inl h⟩ (fun i hi h => ?_)
        rw [List.mem_singleton] at h
        subst h
        exact hnf _ (by omega) hi
      · exact moved_belowM (Below.refl _ _)
    · rintro u ⟨w5, ge, hp, A', f', hA', hat, hmv⟩
      have hA'' : A' = A := hA'
      subst hA''
      refine step_disk ((moved_blk hmv (hnf _ (Nat.le_refl _)) hp.k2).cell 0 rfl) ((H3 u f' hat).mono ?_)
      rintro e u' ⟨x, rfl, hx⟩
      exact ⟨x, rfl, hx.imp (fun h => ⟨h.1, w5, ge, hp, h.2.after hmv⟩) (fun h => ⟨h.1, (h.2.after hmv).after (moved_belowM hp.bel)⟩)⟩
    · rintro u ⟨w5, ge, hp, A1, f', hA1, hat, hmv⟩
      have hrow : Row u ge (encM m) := (hmv.kept ge hp.row.lt (hnf _ hp.ge)).trans hp.row
      have hsee : Sees u (some ⟨ge, 0, none⟩) (encM m) := by have := hrow.sees 0 (encM m).length (by omega); simpa using this
      have hng : ge ∉ f' := fun h => by
        rcases hmv.news ge h with h | h
        · exact hnf _ hp.ge h
        · have := hp.row.lt; omega
      refine step_append ((moved_blk hmv (hnf _ (Nat.le_refl _)) hp.k2).cell 0 rfl) ((moved_blk hmv (hnf _ (by omega)) hp.k5).cell 0 rfl) ((H4 A1 hA1 u f' ge hat hsee hng).mono ?_)
      rintro e u' ⟨x, rfl, hx⟩
      exact ⟨x, rfl, hx.imp (fun h => ⟨h.1, w5, ge, hp, h.2.after hmv⟩) (fun h => ⟨h.1, (h.2.after hmv).after (moved_belowM hp.bel)⟩)⟩
    · rintro u ⟨w5, ge, hp, A1, f', hA1, hat, hmv⟩
      refine step_sync ((moved_blk hmv (hnf _ (Nat.le_refl _)) hp.k2).cell 0 rfl) ((H5 A1 hA1 u f' hat).mono ?_)
      rintro e u' ⟨x, rfl, hx⟩
      exact ⟨x, rfl, hx.imp (fun h => ⟨h.1, w5, ge, hp, h.2.after hmv⟩) (fun h => ⟨h.1, (h.2.after hmv).after (moved_belowM hp.bel)⟩)⟩
    · rintro u ⟨w5, ge, hp, A1, f', hA1, hat, hmv⟩
      refine step_rename ((moved_blk hmv (hnf _ (Nat.le_refl _)) hp.k2).cell 0 rfl) ((H6 A1 hA1 u f' hat).mono ?_)
      rintro e u' ⟨x, rfl, hx⟩
      exact ⟨x, rfl, hx.imp (fun h => ⟨h.1, w5, ge, hp, h.2.after hmv⟩) (fun h => ⟨h.1, (h.2.after hmv).after (moved_belowM hp.bel)⟩)⟩
    · rintro e u' ⟨x, rfl, hx⟩
      exact ⟨x, rfl, hx.imp (fun h => ⟨h.1, key T4 u' h.2⟩) id⟩
  have hmf : ∀ (fn : Fn) (first cap : Array Value) (w : World), (Instr.makeFunc fn first cap).run Tryz.prog w = .ok (.func fn first cap) w := fun _ _ _ _ => rfl
  rw [hw4, hw3] at CT
  clear hA hon hm hcp ht hg H3 H4 H5 H6 hft k1 k2 k3 hs3 hB3 k4 hB4 kk1 kk2 kk3 hs4 hA4 hnf hw4 hw3
  unfold stepsV at CT
  have HCT : Hid (Calls Tryz.prog 28 #[.slice (some ⟨w.heap.size + 3, 0, none⟩) 6 6] _ (Upon (Res T4 d w ft) (fun x => Res (G x) d w ft))) := CT
  unfold mval
  go_enter Tryz.func10, Tryz.ntmps10
  go_wp2_with fail
  go_fit HCT.out
  rintro e w9 ⟨x, rfl, hx⟩
  have HX : Hid ((x = 0 ∧ Res T4 d w ft w9) ∨ (x ≠ 0 ∧ Res (G x) d w ft w9)) := hx
  clear hx HCT CT
  go_wp2_with fail
  go_ret
  exact ⟨x, rfl, HX.out⟩
end Go.Proofs.YthihljjefncfoaaGreatDoor
namespace Go.Proofs.YthihljjefncfoaaGreatDoor
open Go.RowKit Go.Maps

def lM : List UInt8 := [109, 97, 110, 105, 102, 101, 115, 116]
def lN : List UInt8 := [109, 97, 110, 105, 102, 101, 115, 116, 46, 110, 101, 119]
theorem nameM : nameOf nmM = lM := rfl
theorem nameN : nameOf nmN = lN := rfl
/-- A file all of whose bytes are sure. -/
def sureT (nm E : List UInt8) : Sig := ⟨nm, E, E.length, []⟩
/-- The disk's files: the manifest, if there is one. -/
def spO : Option (List UInt8) → List Sig
  | none => []
  | some E => [sureT lM E]
theorem lose_sure (nm E : List UInt8) (x : Nat) : loseT (sureT nm E) x = sureT nm E := by
  have h : lostT (sureT nm E) x = E.length := by unfold lostT keptT sureT; simp
  unfold loseT
  rw [h]
  simp [sureT]
theorem lose_nm (t : Sig) (x : Nat) : (loseT t x).nm = t.nm := rfl
theorem findT_lose (sp : List Sig) (x : Nat) (nm : List UInt8) : findT (sp.map fun t => loseT t x) nm = (findT sp nm).map fun t => loseT t x := by
  unfold findT
  rw [List.find?_map]
  rfl
def fO (o : Option (List UInt8)) : Option Sig := o.map (sureT lM)
theorem find_spO (o : Option (List UInt8)) : findT (spO o) lM = fO o := by cases o <;> rfl
theorem find_two (o : Option (List UInt8)) (t : Sig) (h : t.nm = lN) : findT (spO o ++ [t]) lM = fO o ∧ findT (spO o ++ [t]) lN = some t := by
  have e1 : (t.nm == lM) = false := by rw [h]; decide
  have e2 : (t.nm == lN) = true := by rw [h]; decide
  cases o with
  | none => simp [spO, fO, findT, e1, e2]
  | some E =>
    have e3 : ((sureT lM E).nm == lM) = true := by show (lM == lM) = true; decide
    have e4 : ((sureT lM E).nm == lN) = false := by show (lM == lN) = false; decide
    simp [spO, fO, findT, e2, e3, e4]
theorem find_cut (o : Option (List UInt8)) (sp : List Sig) (x : Nat) (h : findT sp lM = fO o) : findT (sp.map fun t => loseT t x) lM = fO o := by
  rw [findT_lose, h]
  cases o with
  | none => rfl
  | some E => simp [fO, lose_sure]
/-! ### the states -/
theorem sp_create (o : Option (List UInt8)) : putT (spO o) ⟨lN, [], 0, []⟩ = spO o ++ [⟨lN, [], 0, []⟩] := by
  cases o with
  | none => rfl
  | some E =>
    have e : dropT (spO (some E)) lN = spO (some E) := by
      have : ((sureT lM E).nm == lN) = false := by show (lM == lN) = false; decide
      simp [dropT, spO, this]
    have e2 : bytesBefore lN (sureT lM E).nm = false := by show bytesBefore lN lM = false; decide
    show insT _ (dropT (spO (some E)) lN) = _
    rw [e]
    simp [spO, insT, e2]
theorem sp_upd (o : Option (List UInt8)) (t t' : Sig) (h : t.nm = lN) : upd (spO o ++ [t]) lN t' = spO o ++ [t'] := by
  have e2 : (t.nm == lN) = true := by rw [h]; decide
  cases o with
  | none =>
    show [if (t.nm == lN) = true then t' else t] = [t']
    rw [if_pos e2]
  | some E =>
    have e4 : ((sureT lM E).nm == lN) = false := by show (lM == lN) = false; decide
    show [if ((sureT lM E).nm == lN) = true then t' else sureT lM E, if (t.nm == lN) = true then t' else t] = [sureT lM E, t']
    rw [if_pos e2, if_neg (by rw [e4]; simp)]
theorem sp_rename (o : Option (List UInt8)) (t : Sig) (h : t.nm = lN) (E : List UInt8) : putT (dropT (spO o ++ [t]) lN) (sureT lM E) = spO (some E) := by
  have e2 : (t.nm == lN) = true := by rw [h]; decide
  cases o with
  | none => simp [spO, dropT, putT, e2, insT]
  | some E' =>
    have e4 : ((sureT lM E').nm == lN) = false := by show (lM == lN) = false; decide
    have e5 : ((sureT lM E').nm == (sureT lM E).nm) = true := by show (lM == lM) = true; decide
    simp [spO, dropT, putT, e2, e4, e5, insT]
/-- A disk that is as the law has it: the manifest o on it, nothing else. -/
structure Pl (A : Ab) (o : Option (List UInt8)) : Prop where
  sp : A.sp = spO o
  on : A.on = true
  room : A.room = 100000
  ops : A.ops ≤ 100
  next : A.next ≤ 1000
  left : A.left ≤ 8
  keep : -9223372036854775808 ≤ A.keep ∧ A.keep ≤ 9223372036854775807
  small : ∀ E, o = some E → E.length ≤ 400
theorem fine_gen {A : Ab} {o : Option (List UInt8)} {r : List Sig} (hsp : A.sp = spO o ++ r) (hroom : A.room = 100000) (hs : ∀ E, o = some E → E.length ≤ 400) (hr : r.length ≤ 1) (h : ∀ t ∈ r, t.wr ≤ t.bs.length ∧ t.bs.length ≤ 400 ∧ t.pl.Pairwise (· < ·) ∧ (∀ q ∈ t.pl, q < A.next) ∧ t.pl.length ≤ 400) : A.Fine := by
  have hall : ∀ t ∈ A.sp, t.wr ≤ t.bs.length ∧ t.bs.length ≤ 400 ∧ t.pl.Pairwise (· < ·) ∧ (∀ q ∈ t.pl, q < A.next) ∧ t.pl.length ≤ 400 := by
    rw [hsp]
    intro t ht
    rcases List.mem_append.1 ht with ht | ht
    · cases o with
      | none => cases ht
      | some E =>
        simp only [spO, List.mem_singleton] at ht
        subst ht
        exact ⟨Nat.le_refl _, hs E rfl, List.Pairwise.nil, by simp [sureT], by simp [sureT]⟩
    · exact h t ht
  have hlen : A.sp.length ≤ 2 := by rw [hsp, List.length_append]; cases o <;> simp [spO] <;> omega
  have hsum : ∀ (f : Sig → Nat) (l : List Sig), (∀ t ∈ l, f t ≤ 1000) → (l.map f).sum ≤ 1000 * l.length := by
    intro f l
    induction l with
    | nil => intro _; simp
    | cons a l ih =>
      intro hh
      have h1 := ih (fun t ht => hh t (List.mem_cons_of_mem _ ht))
      have h2 := hh a (by simp)
      simp only [List.map_cons, List.sum_cons, List.length_cons]
      omega
  refine ⟨fun t ht => (hall t ht).1, fun t ht => by have := (hall t ht).2.1; omega, fun t ht => (hall t ht).2.2.1, fun t ht => (hall t ht).2.2.2.1, by omega, ?_, ?_⟩
  · have := hsum (fun t => 1 + (t.bs.length + 15) / 16) A.sp (fun t ht => by have := (hall t ht).2.1; omega)
    unfold usedT; omega
  · have := hsum (fun t => t.pl.length) A.sp (fun t ht => by have := (hall t ht).2.2.2.2; omega)
    unfold dirtyT; omega
theorem used_gen {A : Ab} {o : Option (List UInt8)} {r : List Sig} (hsp : A.sp = spO o ++ r) (hs : ∀ E, o = some E → E.length ≤ 400) (hr : r.length ≤ 1) (h : ∀ t ∈ r, t.bs.length ≤ 400) : usedT A.sp ≤ 100 := by
  have h1 : usedT A.sp = usedT (spO o) + usedT r := by rw [hsp]; simp [usedT]
  have h2 : usedT (spO o) ≤ 30 := by
    cases o with
    | none => simp [spO, usedT]
    | some E => have := hs E rfl; simp [spO, usedT, sureT]; omega
  have h3 : usedT r ≤ 30 := by
    match r, hr with
    | [], _ => simp [usedT]
    | [t], _ => have := h t (by simp); simp [usedT]; omega
  omega
/-! ### what a failure leaves -/
theorem at_cut {w w' : World} {d bm : Nat} {A : Ab} {fs : List Ent} (hs : fs.map sig = A.sp) {x : Ending} (h : Cut w d bm (A.st fs) x w') : x = .returned (.int .i64 9) ∧ ∃ ft', At d { A with on := false, ops := A.ops + 1, sp := A.sp.map fun t => loseT t (endT A A.keep.toNat) } ft' w' ∧ Moved w w' (foot d bm fs) ft' := by
  obtain ⟨rfl, h1, h2⟩ := h
  have he : lineEndN (A.st fs) (A.st fs).keep.toNat = endT A A.keep.toNat := by
    unfold lineEndN endT
    show (if (linesOf fs).length ≤ _ then _ else ((linesOf fs).mergeSort _).getD _ _) = _
    rw [lines_sig, hs]
    rfl
  rw [he] at h1
  refine ⟨rfl, _, ⟨bm, _, h1, ?_, rfl⟩, h2.sub fun i hi => ?_⟩
  · show (fs.map fun e => loseE e (endT A A.keep.toNat)).map sig = _
    rw [List.map_map, ← hs, List.map_map]
    rfl
  · simp only [foot, List.mem_cons] at hi ⊢
    refine hi.imp id fun h => h.imp id fun h => ?_
    obtain ⟨y, hy, hi⟩ := feet_mem.1 h
    obtain ⟨e, he, rfl⟩ := List.mem_map.1 hy
    exact feet_mem.2 ⟨e, he, lose_foot hi⟩
end Go.Proofs.YthihljjefncfoaaGreatDoor
namespace Go.Proofs.YthihljjefncfoaaGreatDoor
open Go.RowKit Go.Maps

theorem growT_few' (t : Sig) (l : List UInt8) (h : t.bs.length + l.length ≤ 400) : growT t l ≤ 26 := by unfold growT growN; split <;> omega
theorem upon_ok {d : Nat} {A' : Ab} {f : List Nat} {u : World} {T : Ab → Prop} {F : Int → World → Prop} (hT : T A') {x : Ending} {u' : World} (h : Out d f u (0, A') x u') : Upon (Res T d u f) F x u' := by
  obtain ⟨rfl, f', h1, h2⟩ := h
  exact ⟨0, rfl, .inl ⟨rfl, A', f', hT, h1, h2⟩⟩
/-- What is left where the power failed. -/
def Gone (A : Ab) (o : Option (List UInt8)) (x : Int) (A' : Ab) : Prop := x = 9 ∧ A.left ≠ 0 ∧ A'.on = false ∧ findT A'.sp lM = fO o
theorem upon_cut {d bm : Nat} {A B : Ab} {o : Option (List UInt8)} {fs : List Ent} {u : World} {R : World → Prop} (hs : fs.map sig = B.sp) (hl : A.left ≠ 0) (hf : findT B.sp lM = fO o) {x : Ending} {u' : World} (h : Cut u d bm (B.st fs) x u') : Upon R (fun x => Res (Gone A o x) d u (foot d bm fs)) x u' := by
  obtain ⟨rfl, ft', h1, h2⟩ := at_cut hs h
  exact ⟨9, rfl, .inr ⟨by decide, _, ft', ⟨rfl, hl, rfl, find_cut o _ _ hf⟩, h1, h2⟩⟩
section
variable {A : Ab} {o : Option (List UInt8)} (hP : Pl A o) (E : List UInt8) (hE : E.length ≤ 400)
def t1M : Sig := ⟨lN, [], 0, []⟩
def A1M (A : Ab) : Ab := crT A lN
def t2M (A : Ab) (E : List UInt8) : Sig := ⟨lN, E, 0, List.range' A.next (growT t1M E)⟩
def A2M (A : Ab) (E : List UInt8) : Ab := appT (A1M A) lN t1M E
def A3M (A : Ab) (E : List UInt8) : Ab := syT (A2M A E) lN (t2M A E)
def A4M (A : Ab) (E : List UInt8) : Ab := rnT (A3M A E) lN lM (sureT lN E)
include hP
theorem sp1M : (A1M A).sp = spO o ++ [t1M] := by
  show putT A.sp ⟨lN, [], 0, []⟩ = _
  rw [hP.sp, sp_create]; rfl
theorem sp2M : (A2M A E).sp = spO o ++ [t2M A E] := by
  show upd (A1M A).sp lN ⟨lN, [] ++ E, 0, [] ++ List.range' A.next (growT t1M E)⟩ = _
  rw [sp1M hP, sp_upd o t1M _ rfl]; rfl
theorem sp3M : (A3M A E).sp = spO o ++ [sureT lN E] := by
  show upd (A2M A E).sp lN ⟨lN, E, E.length, []⟩ = _
  rw [sp2M hP, sp_upd o (t2M A E) _ rfl]; rfl
theorem sp4M : (A4M A E).sp = spO (some E) := by
  show putT (dropT (A3M A E).sp lN) ⟨lM, E, E.length, []⟩ = _
  rw [sp3M hP]; exact sp_rename o (sureT lN E) rfl E
theorem fine0M : A.Fine := fine_gen (r := []) (by rw [hP.sp, List.append_nil]) hP.room hP.small (by simp) (by simp)
theorem fine1M : (A1M A).Fine := fine_gen (sp1M hP) hP.room hP.small (by simp) (by simp [t1M])
include hE
theorem fine2M : (A2M A E).Fine := fine_gen (sp2M hP E) hP.room hP.small (by simp) (fun t ht => by
  rw [List.mem_singleton] at ht
  subst ht
  have hg := growT_few' t1M E (by show 0 + E.length ≤ _; omega)
  refine ⟨Nat.zero_le _, hE, List.pairwise_lt_range', fun q hq => ?_, by show (List.range' _ _).length ≤ _; rw [List.length_range']; omega⟩
  exact (List.mem_range'_1.1 hq).2)
theorem fine3M : (A3M A E).Fine := fine_gen (sp3M hP E) hP.room hP.small (by simp) (fun t ht => by
  rw [List.mem_singleton] at ht
  subst ht
  exact ⟨Nat.le_refl _, hE, List.Pairwise.nil, by simp [sureT], by simp [sureT]⟩)
omit hE in
theorem h3M {d : Nat} (u : World) (f : List Nat) (h : At d A f u) : Calls Tryz.prog 33 #[.pointer (some ⟨d, 0, none⟩), .string nmN] u (Upon (Res (fun A1 => A.left ≠ 1 ∧ A1 = A1M A) d u f) (fun x => Res (Gone A o x) d u f)) := by
  have hu := used_gen (A := A) (r := []) (by rw [hP.sp, List.append_nil]) hP.small (by simp) (by simp)
  have hfd : findT A.sp lN = none := by rw [hP.sp]; cases o <;> rfl
  have hln : A.sp.length ≤ 1 := by rw [hP.sp]; cases o <;> simp [spO]
  have hops := hP.ops
  have hleft := hP.left
  have hrm := hP.room
  by_cases hl : A.left = 1
  · obtain ⟨bm, fs, hD, hss, rfl⟩ := h
    have hlen : fs.length = A.sp.length := by rw [← hss, List.length_map]
    refine (create_new_cut hD nmN nmN_size (by show refuse A.on [nmN] = 0; rw [hP.on]; exact nmN_good) (find_sig_none hss hfd) (by show fs.length < 48; omega) (by show sumUsed fs < A.room; rw [used_sig, hss]; omega) (by show A.room ≤ _; omega) hl (by show A.ops ≤ _; omega) ((fine0M hP).st hss) hP.keep).mono ?_
    intro x u' hc
    exact upon_cut hss (by omega) (by rw [hP.sp]; exact find_spO o) hc
  · have := abx_create h nmN nmN_size (fine0M hP) hl (by omega) (by omega)
    have e : createM A nmN = (0, A1M A) := by
      unfold createM
      rw [if_pos (by rw [hP.on]; exact nmN_good), nameN, hfd]
      dsimp only
      rw [if_neg (by omega)]
      rfl
    rw [e] at this
    exact this.mono fun x u' hh => upon_ok ⟨hl, rfl⟩ hh
theorem h4M {d : Nat} (hl1 : A.left ≠ 1) (u : World) (f : List Nat) (a : Nat) (h : At d (A1M A) f u) (hs : Sees u (some ⟨a, 0, none⟩) E) (ha : a ∉ f) : Calls Tryz.prog 35 #[.pointer (some ⟨d, 0, none⟩), .string nmN, .slice (some ⟨a, 0, none⟩) E.length E.length] u (Upon (Res (fun A2 => A.left ≠ 1 ∧ A.left ≠ 2 ∧ A2 = A2M A E) d u f) (fun x => Res (Gone A o x) d u f)) := by
  have hu := used_gen (sp1M hP) hP.small (by simp) (by simp [t1M])
  have hfd : findT (A1M A).sp lN = some t1M := by rw [sp1M hP]; exact (find_two o t1M rfl).2
  have hops := hP.ops
  have hleft := hP.left
  have hrm := hP.room
  have hnext := hP.next
  have hlk : lackT t1M E ≤ 26 := by
    unfold lackT t1M
    have h0 : secI ((([] : List UInt8).length : Nat) : Int) = 0 := rfl
    rw [h0]
    have := secI_nat (0 + E.length)
    simp only [List.length_nil, Int.natCast_zero, Int.zero_add, Nat.zero_add] at this ⊢
    rw [this]
    omega
  have hon : (A1M A).on = true := hP.on
  have hsm : ∀ t ∈ (A1M A).sp, t.bs.length ≤ 400 := by
    rw [sp1M hP]
    intro t ht
    rcases List.mem_append.1 ht with ht | ht
    · cases o with
      | none => cases ht
      | some E' =>
        simp only [spO, List.mem_singleton] at ht
        subst ht
        exact hP.small E' rfl
    · rw [List.mem_singleton] at ht
      subst ht
      show 0 ≤ _
      omega
  by_cases hl : A.left = 2
  · obtain ⟨bm, fs, hD, hss, rfl⟩ := h
    obtain ⟨e, he, hse⟩ := find_sig_some hss hfd
    obtain ⟨hem, hen⟩ := find_some he
    have q1 : e.nm = lN := hen
    have q2 : e.bs = [] := congrArg Sig.bs hse
    have q3 : e.wr = 0 := congrArg Sig.wr hse
    have q4 : e.pl = [] := congrArg Sig.pl hse
    have hgs : growS e E = growT t1M E := by unfold growS growT; rw [q2, q3, q4]; rfl
    have hg := growT_few' t1M E (by show 0 + E.length ≤ _; omega)
    have hsw : ∀ e' : Ent, e'.nm = e.nm → e'.bs = e.bs ++ E → e'.wr = e.wr → e'.pl = e.pl ++ List.range' (A1M A).next (growS e E) → (swap fs e e').map sig = spO o ++ [t2M A E] := fun e' h1 h2 h3 h4 => by
      have := swap_sig (S := (A1M A).st fs) hD (e' := e') hem
      have this2 : (swap fs e e').map sig = upd (fs.map sig) e.nm (sig e') := this
      rw [this2, hss, sp1M hP, q1, sp_upd o t1M _ rfl]
      have : sig e' = t2M A E := by
        unfold sig t2M
        rw [h1, h2, h3, h4, q1, q2, q3, q4, hgs]
        rfl
      rw [this]
    refine (append_cut hD nmN nmN_size (some ⟨a, 0, none⟩) E E.length hs (by show refuse (A1M A).on [nmN] = 0; rw [hon]; exact nmN_good) he (fun a' e' _ => by cases e'; exact ha) (by show A.left - 1 = 1; omega) (by show A.ops + 1 ≤ _; omega) hP.keep ?_ (by rw [q2]; simp; omega) (by show A.next ≤ _; omega) (by rw [q4]; simp) (by rw [q3]; omega) (by show A.room ≤ _; omega) (by show sumUsed fs ≤ _; rw [used_sig, hss]; omega) ?_).mono ?_
    · intro e' h1 h2 h3 h4 h5
      have hsp := hsw e' h1 h3 h4 h5
      have hF : Ab.Fine ⟨spO o ++ [t2M A E], A.room, true, A.ops + 2, A.next + growT t1M E, A.left - 1, A.keep⟩ := fine_gen rfl hP.room hP.small (by simp) (fun t ht => by
        rw [List.mem_singleton] at ht
        subst ht
        refine ⟨Nat.zero_le _, hE, List.pairwise_lt_range', fun q hq => ?_, by show (List.range' _ _).length ≤ _; rw [List.length_range']; omega⟩
        exact (List.mem_range'_1.1 hq).2)
      have := hF.st hsp
      rw [hgs]
      have hon2 : ((A1M A).st fs).on = true := hP.on
      exact ⟨this.files, this.room, this.used, this.dirty⟩
    · apply decide_eq_false
      show ¬ ((A.room : Int) - (sumUsed fs : Int) < _)
      rw [used_sig, hss]
      have : lackT t1M E = secI ((e.bs.length : Int) + (E.length : Int)) - secI (e.bs.length : Int) := by rw [q2]; rfl
      rw [← this]
      omega
    · rintro x u' ⟨rfl, e', h1, h2, h3, h4, h5, S1, hS1, h6, h7⟩
      have hsp := hsw e' h1 h3 h4 h5
      generalize lineEndN S1 ((A1M A).st fs).keep.toNat = X at h6 h7
      subst hS1
      dsimp only at h6 h7
      refine ⟨9, rfl, .inr ⟨by decide, ⟨((swap fs e e').map fun e => loseE e X).map sig, A.room, false, A.ops + 2, A.next + growS e E, A.left - 1, A.keep⟩, _, ⟨rfl, by omega, rfl, ?_⟩, ⟨bm, _, h6, rfl, rfl⟩, h7⟩⟩
      have e2 : (((swap fs e e').map fun e => loseE e X).map sig) = ((swap fs e e').map sig).map (fun t => loseT t X) := by rw [List.map_map, List.map_map]; rfl
      show findT (((swap fs e e').map fun e => loseE e X).map sig) lM = _
      rw [e2, hsp]
      exact find_cut o _ _ (find_two o (t2M A E) rfl).1
  · have := abx_append h nmN nmN_size (some ⟨a, 0, none⟩) E E.length hs (fun a' e' _ => by cases e'; exact ha) (fine1M hP) (by show A.left - 1 ≠ 1; omega) (by show A.ops + 1 ≤ _; omega) (by show A.left - 1 ≤ _; omega) (by show A.next ≤ _; omega) (fun t ht => by have := hsm t ht; omega)
    have e : appendM (A1M A) nmN E = (0, A2M A E) := by
      unfold appendM
      rw [if_pos (by rw [hon]; exact nmN_good), nameN, hfd]
      dsimp only
      rw [if_neg (by show ¬ (A.room : Int) - _ < _; omega)]
      rfl
    rw [e] at this
    exact this.mono fun x u' hh => upon_ok ⟨hl1, hl, rfl⟩ hh
theorem h5M {d : Nat} (hl1 : A.left ≠ 1) (hl2 : A.left ≠ 2) (u : World) (f : List Nat) (h : At d (A2M A E) f u) : Calls Tryz.prog 37 #[.pointer (some ⟨d, 0, none⟩), .string nmN] u (Upon (Res (fun A3 => A.left ≠ 1 ∧ A.left ≠ 2 ∧ A.left ≠ 3 ∧ A3 = A3M A E) d u f) (fun x => Res (Gone A o x) d u f)) := by
  have hfd : findT (A2M A E).sp lN = some (t2M A E) := by rw [sp2M hP]; exact (find_two o (t2M A E) rfl).2
  have hops := hP.ops
  have hleft := hP.left
  have hon : (A2M A E).on = true := hP.on
  by_cases hl : A.left = 3
  · obtain ⟨bm, fs, hD, hss, rfl⟩ := h
    obtain ⟨e, he, hse⟩ := find_sig_some hss hfd
    refine (sync_cut hD nmN nmN_size (by show refuse (A2M A E).on [nmN] = 0; rw [hon]; exact nmN_good) he (by show A.left - 1 - 1 = 1; omega) (by show A.ops + 1 + 1 ≤ _; omega) ((fine2M hP E hE).st hss) hP.keep).mono ?_
    intro x u' hc
    exact upon_cut hss (by omega) (by rw [sp2M hP]; exact (find_two o (t2M A E) rfl).1) hc
  · have := abx_sync h nmN nmN_size (by show A.left - 1 - 1 ≠ 1; omega) (by show A.ops + 1 + 1 ≤ _; omega) (by show A.left - 1 - 1 ≤ _; omega)
    have e : syncM (A2M A E) nmN = (0, A3M A E) := by
      unfold syncM
      rw [if_pos (by rw [hon]; exact nmN_good), nameN, hfd]
      rfl
    rw [e] at this
    exact this.mono fun x u' hh => upon_ok ⟨hl1, hl2, hl, rfl⟩ hh
theorem h6M {d : Nat} (u : World) (f : List Nat) (h : At d (A3M A E) f u) : Calls Tryz.prog 39 #[.pointer (some ⟨d, 0, none⟩), .string nmN, .string nmM] u (Upon (Res (fun A4 => A4 = A4M A E) d u f) (fun x => Res (Gone A o x) d u f)) := by
  have hfd : findT (A3M A E).sp lN = some (sureT lN E) := by rw [sp3M hP]; exact (find_two o (sureT lN E) rfl).2
  have hops := hP.ops
  have hleft := hP.left
  have hon : (A3M A E).on = true := hP.on
  by_cases hl : A.left = 4
  · obtain ⟨bm, fs, hD, hss, rfl⟩ := h
    obtain ⟨e, he, hse⟩ := find_sig_some hss hfd
    refine (rename_cut hD nmN nmM nmN_size nmM_size (by show refuse (A3M A E).on [nmN, nmM] = 0; rw [hon]; exact nmNM_good) (by show refuse (A3M A E).on [nmN] = 0; rw [hon]; exact nmN_good) he (by show A.left - 1 - 1 - 1 = 1; omega) (by show A.ops + 1 + 1 + 1 ≤ _; omega) ((fine3M hP E hE).st hss) hP.keep).mono ?_
    intro x u' hc
    exact upon_cut hss (by omega) (by rw [sp3M hP]; exact (find_two o (sureT lN E) rfl).1) hc
  · have := abx_rename h nmN nmN_size nmM nmM_size (fine3M hP E hE) (by show A.left - 1 - 1 - 1 ≠ 1; omega) (by show A.ops + 1 + 1 + 1 ≤ _; omega) (by show A.left - 1 - 1 - 1 ≤ _; omega)
    have e : renameM (A3M A E) nmN nmM = (0, A4M A E) := by
      unfold renameM
      rw [if_pos (by rw [hon]; exact nmNM_good), nameN, hfd]
      rfl
    rw [e] at this
    exact this.mono fun x u' hh => upon_ok (T := fun A4 => A4 = A4M A E) rfl hh
end
theorem storeM_plan {d : Nat} {A : Ab} {o : Option (List UInt8)} {ft : List Nat} {w : World} (hA : At d A ft w) (hP : Pl A o) (ao : Option Addr) (cap : Nat) (m : Mf) (hm : MSees w ao cap m) (hcp : cap ≤ 9223372036854775807) (ht : Tab w) (hg : goodM m = true) :
    Calls Tryz.prog 10 #[.pointer (some ⟨d, 0, none⟩), mval ao cap m] w (Upon (Res (fun A4 => A4 = A4M A (encM m)) d w ft) (fun x => Res (Gone A o x) d w ft)) := by
  have hE : (encM m).length ≤ 400 := by have := good_len hg; rw [encM_len]; omega
  refine storeM_run hA hP.on ao cap m hm hcp ht hg (fun A1 => A.left ≠ 1 ∧ A1 = A1M A) (fun A2 => A.left ≠ 1 ∧ A.left ≠ 2 ∧ A2 = A2M A (encM m)) (fun A3 => A.left ≠ 1 ∧ A.left ≠ 2 ∧ A.left ≠ 3 ∧ A3 = A3M A (encM m)) (fun A4 => A4 = A4M A (encM m)) (Gone A o) (h3M hP) ?_ ?_ ?_
  · rintro A1 ⟨h1, rfl⟩ u f a hat hs ha
    exact h4M hP (encM m) hE h1 u f a hat hs ha
  · rintro A2 ⟨h1, h2, rfl⟩ u f hat
    exact h5M hP (encM m) hE h1 h2 u f hat
  · rintro A3 ⟨_, _, _, rfl⟩ u f hat
    exact h6M hP (encM m) hE u f hat
end Go.Proofs.YthihljjefncfoaaGreatDoor
namespace Go.Proofs.YthihljjefncfoaaGreatDoor
open Go.RowKit Go.Maps

/-- A block, what it holds, its type. -/
abbrev Bx := Nat × List Value × TypeId
/-- The law's disk, and boxes beside it, all of it new since w. -/
def LW (w : World) (d : Nat) (A : Ab) (bx : List Bx) (u : World) : Prop :=
  ∃ ft, At d A ft u ∧ (∀ q ∈ bx, Blk u q.1 q.2.1 q.2.2 ∧ q.1 ∉ ft ∧ w.heap.size ≤ q.1) ∧ (∀ i ∈ ft, w.heap.size ≤ i) ∧ Below w.heap.size w u
section
variable {w : World} {d : Nat} {A : Ab} {bx : List Bx} {u : World}
theorem LW.bel (h : LW w d A bx u) : Below w.heap.size w u := by obtain ⟨ft, _, _, _, h4⟩ := h; exact h4
theorem LW.blk (h : LW w d A bx u) {q : Bx} (hq : q ∈ bx) : Blk u q.1 q.2.1 q.2.2 := by obtain ⟨ft, _, h2, _, _⟩ := h; exact (h2 q hq).1
theorem LW.step {A' : Ab} {ft ft' : List Nat} {u' : World} (h2 : ∀ q ∈ bx, Blk u q.1 q.2.1 q.2.2 ∧ q.1 ∉ ft ∧ w.heap.size ≤ q.1) (h3 : ∀ i ∈ ft, w.heap.size ≤ i) (h4 : Below w.heap.size w u) (ha : At d A' ft' u') (hm : Moved u u' ft ft') : LW w d A' bx u' := by
  have hs := h4.size
  refine ⟨ft', ha, fun q hq => ?_, fun i hi => ?_, h4.trans ⟨hm.os, hm.tape, hm.output, hm.size, fun i hi => hm.kept i (by omega) fun h => by have := h3 i h; omega⟩⟩
  · obtain ⟨b1, b2, b3⟩ := h2 q hq
    refine ⟨b1.carry (hm.kept _ b1.lt b2), fun h => ?_, b3⟩
    rcases hm.news _ h with h | h
    · exact b2 h
    · have := b1.lt; omega
  · rcases hm.news i hi with h | h
    · exact h3 i h
    · omega
theorem LW.more (h : LW w d A bx u) {u' : World} (hb : Below u.heap.size u u') : LW w d A bx u' := by
  obtain ⟨ft, h1, h2, h3, h4⟩ := h
  exact LW.step h2 h3 h4 (h1.moved (moved_belowM (ft := []) hb) (by simp)) (moved_belowM hb)
theorem LW.grown (h : LW w d A bx u) {u' : World} (hg : u.grownBy u' none) : LW w d A bx u' := h.more ((Below.refl _ _).grown hg (Nat.le_refl _) (fun k hk => by cases hk))
theorem LW.push (h : LW w d A bx u) (cs : List Value) (t : TypeId) : LW w d A ((u.heap.size, cs, t) :: bx) (u.alloc (.cells cs.toArray t)) := by
  have hb : Below u.heap.size u (u.alloc (.cells cs.toArray t)) := (Below.refl _ _).alloc (Nat.le_refl _) _
  have hs := h.bel.size
  obtain ⟨ft, h1, h2, h3, h4⟩ := h
  obtain ⟨ft', g1, g2, g3, g4⟩ := LW.step h2 h3 h4 (h1.moved (moved_belowM (ft := []) hb) (by simp)) (moved_belowM (ft := ft) hb)
  have hlt := h1.lt
  refine ⟨ft, h1.moved (moved_belowM (ft := []) hb) (by simp), fun q hq => ?_, h3, g4⟩
  rcases List.mem_cons.1 hq with rfl | hq
  · exact ⟨Blk.new u cs t, fun h => by have := hlt _ h; exact absurd this (Nat.lt_irrefl _), hs⟩
  · exact ⟨(g2 q hq).1, (h2 q hq).2⟩
theorem LW.sub (h : LW w d A bx u) {bx' : List Bx} (hs : ∀ q ∈ bx', q ∈ bx) : LW w d A bx' u := by
  obtain ⟨ft, h1, h2, h3, h4⟩ := h
  exact ⟨ft, h1, fun q hq => h2 q (hs q hq), h3, h4⟩
/-- A box is written. -/
theorem LW.put {b : Nat} {cs cs' : List Value} {t : TypeId} (h : LW w d A ((b, cs, t) :: bx) u) {u' : World} (hk : Blk u' b cs' t) (ho : ∀ i, i ≠ b → u'.heap[i]? = u.heap[i]?) (hr : u'.os = u.os ∧ u'.tape = u.tape ∧ u'.output = u.output ∧ u'.heap.size = u.heap.size) (hne : ∀ q ∈ bx, q.1 ≠ b) : LW w d A ((b, cs', t) :: bx) u' := by
  obtain ⟨ft, h1, h2, h3, h4⟩ := h
  have hb := h2 _ (List.mem_cons_self ..)
  have hmv : Moved u u' [b] [b] := ⟨hr.1, hr.2.1, hr.2.2.1, Nat.le_of_eq hr.2.2.2.symm, fun i _ hi => ho i (by simpa using hi), fun _ hi => .inl hi⟩
  refine ⟨ft, h1.moved hmv (fun i hi h => by rw [List.mem_singleton] at h; subst h; exact hb.2.1 hi), fun q hq => ?_, h3, h4.trans ⟨hr.1, hr.2.1, hr.2.2.1, Nat.le_of_eq hr.2.2.2.symm, fun i hi => ho i (by have := hb.2.2; dsimp only at this; omega)⟩⟩
  rcases List.mem_cons.1 hq with rfl | hq
  · exact ⟨hk, hb.2⟩
  · have := h2 q (List.mem_cons_of_mem _ hq)
    exact ⟨this.1.carry (ho _ (hne q hq)), this.2⟩
end
theorem LW.set3 {w : World} {d : Nat} {A : Ab} {bx : List Bx} {u : World} {b : Nat} {v0 v1 v2 x0 x1 x2 : Value} {t : TypeId} (h : LW w d A ((b, [v0, v1, v2], t) :: bx) u) (hne : ∀ q ∈ bx, q.1 ≠ b) : LW w d A ((b, [x0, x1, x2], t) :: bx) (((u.setCell ⟨b, 0, none⟩ x0).setCell ⟨b, 1, none⟩ x1).setCell ⟨b, 2, none⟩ x2) :=
  h.put ((((h.blk (List.mem_cons_self ..)).setTo 0 x0 [x0, v1, v2] rfl).setTo 1 x1 [x0, x1, v2] rfl).setTo 2 x2 [x0, x1, x2] rfl) (fun i hi => by rw [Below.heap_setCell _ _ _ _ (by exact hi), Below.heap_setCell _ _ _ _ (by exact hi), Below.heap_setCell _ _ _ _ (by exact hi)]) ⟨rfl, rfl, rfl, by rw [size_setCell, size_setCell, size_setCell]⟩ hne
theorem newPl : Pl (newA 100000) none := ⟨rfl, rfl, rfl, Nat.zero_le _, Nat.zero_le _, Nat.zero_le _, by decide, by simp⟩
theorem lw_new (w u : World) (bx : List Bx) (hb : Below w.heap.size w u) (hbx : ∀ q ∈ bx, Blk u q.1 q.2.1 q.2.2 ∧ w.heap.size ≤ q.1) : Calls Tryz.prog 5 #[.int .i64 100000] u fun x u' => ∃ d, x = .returned (.pointer (some ⟨d, 0, none⟩)) ∧ LW w d (newA 100000) bx u' := by
  refine (ab_new 100000 (by omega) u).mono ?_
  rintro x u' ⟨d, ft, rfl, hA, hg, hn⟩
  have hs := hb.size
  refine ⟨d, rfl, ft, hA, fun q hq => ⟨(hbx q hq).1.carry (hg.block _ (hbx q hq).1.lt (by simp)), fun h => ?_, (hbx q hq).2⟩, fun i hi => by have := hn i hi; omega, hb.grown hg hs (fun k hk => by cases hk)⟩
  have := hn _ h
  have := (hbx q hq).1.lt
  omega
section
variable {w : World} {d : Nat} {A : Ab} {bx : List Bx} {u : World} (h : LW w d A bx u)
include h
theorem lw_store {o : Option (List UInt8)} (hP : Pl A o) (ao : Option Addr) (cap : Nat) (m : Mf) (hm : MSees w ao cap m) (hcp : cap ≤ 9223372036854775807) (ht : Tab w) (hg : goodM m = true) :
    Calls Tryz.prog 10 #[.pointer (some ⟨d, 0, none⟩), mval ao cap m] u fun e u' => ∃ x : Int, e = .returned (.int .i64 x) ∧ ((x = 0 ∧ LW w d (A4M A (encM m)) bx u') ∨ (x = 9 ∧ A.left ≠ 0 ∧ ∃ A', A'.on = false ∧ findT A'.sp lM = fO o ∧ LW w d A' bx u')) := by
  obtain ⟨ft, h1, h2, h3, h4⟩ := h
  refine (storeM_plan h1 hP ao cap m (hm.below h4 (Nat.le_refl _)) hcp (ht.below h4 (Nat.le_refl _)) hg).mono ?_
  rintro e u' ⟨x, rfl, hx⟩
  refine ⟨x, rfl, hx.imp (fun hh => ⟨hh.1, ?_⟩) (fun hh => ?_)⟩
  · obtain ⟨A', f', rfl, g1, g2⟩ := hh.2
    exact LW.step h2 h3 h4 g1 g2
  · obtain ⟨A', f', ⟨rfl, q2, q3, q4⟩, g1, g2⟩ := hh.2
    exact ⟨rfl, q2, A', q3, q4, LW.step h2 h3 h4 g1 g2⟩
theorem lw_arm (hon : A.on = true) (n : Nat) (k : Int) : Calls Tryz.prog 8 #[.pointer (some ⟨d, 0, none⟩), .int .i64 (n : Int), .int .i64 k] u fun e u' => e = .returned (.int .i64 0) ∧ LW w d { A with left := n, keep := k } bx u' := by
  obtain ⟨ft, ⟨bm, fs, hD, hss, rfl⟩, h2, h3, h4⟩ := h
  refine (arm_ok hD n k hon).mono ?_
  rintro x u' ⟨rfl, g1, g2⟩
  exact ⟨rfl, LW.step h2 h3 h4 ⟨bm, fs, g1, hss, rfl⟩ (g2.wider (fun i hi => .inl (by simp at hi; simp [foot, hi])) (fun i hi => .inl hi))⟩
theorem lw_on : Calls Tryz.prog 22 #[.pointer (some ⟨d, 0, none⟩)] u fun e u' => e = .returned (.bool A.on) ∧ u' = u := by
  obtain ⟨ft, ⟨bm, fs, hD, hss, rfl⟩, h2, h3, h4⟩ := h
  exact on_any hD
theorem lw_start : Calls Tryz.prog 24 #[.pointer (some ⟨d, 0, none⟩)] u fun e u' => e = .returned (.tuple #[]) ∧ LW w d { A with on := true, left := 0 } bx u' := by
  obtain ⟨ft, h1, h2, h3, h4⟩ := h
  exact (ab_start h1).mono fun x u' hh => ⟨hh.1, LW.step h2 h3 h4 hh.2.1 hh.2.2⟩
theorem lw_crash {o : Option (List UInt8)} (hP : Pl A o) (keep : Int) (hk : -9223372036854775808 ≤ keep ∧ keep ≤ 9223372036854775807) : Calls Tryz.prog 23 #[.pointer (some ⟨d, 0, none⟩), .int .i64 keep] u fun e u' => e = .returned (.tuple #[]) ∧ ∃ A', A'.on = false ∧ findT A'.sp lM = fO o ∧ LW w d A' bx u' := by
  obtain ⟨ft, h1, h2, h3, h4⟩ := h
  refine (ab_crash h1 hP.on (fine0M hP) keep hk.1 hk.2).mono ?_
  rintro x u' ⟨rfl, ft', g1, g2⟩
  exact ⟨rfl, _, rfl, find_cut o _ _ (by rw [hP.sp]; exact find_spO o), LW.step h2 h3 h4 g1 g2⟩
end
end Go.Proofs.YthihljjefncfoaaGreatDoor
namespace Go.Proofs.YthihljjefncfoaaGreatDoor
open Go.RowKit Go.Maps

set_option maxRecDepth 100000 in
set_option maxHeartbeats 2000000 in
theorem storeM_bad {d : Nat} {A : Ab} {ft : List Nat} {w : World} (hA : At d A ft w) (hon : A.on = true) (ao : Option Addr) (cap : Nat) (m : Mf) (hm : MSees w ao cap m) (hl : m.ts.length ≤ 1000000) (hcp : cap ≤ 9223372036854775807) (hg : goodM m = false) :
    Calls Tryz.prog 10 #[.pointer (some ⟨d, 0, none⟩), mval ao cap m] w fun e w' => e = .returned (.int .i64 2) ∧ Below w.heap.size w w' := by
  obtain ⟨w3, hw3⟩ : ∃ w3, w3 = ((w.alloc (.cells #[.pointer (some ⟨d, 0, none⟩)] 26)).alloc (.cells #[.slice ao m.ts.length cap, .int .i64 m.nx, .int .i64 m.fr] 36)).alloc (.cells #[.slice none 0 0] 62) := ⟨_, rfl⟩
  have b1 := Blk.new w [.pointer (some ⟨d, 0, none⟩)] 26
  have b2 := Blk.new (w.alloc (.cells #[.pointer (some ⟨d, 0, none⟩)] 26)) [.slice ao m.ts.length cap, .int .i64 m.nx, .int .i64 m.fr] 36
  have b3 := Blk.new ((w.alloc (.cells #[.pointer (some ⟨d, 0, none⟩)] 26)).alloc (.cells #[.slice ao m.ts.length cap, .int .i64 m.nx, .int .i64 m.fr] 36)) [.slice none 0 0] 62
  rw [World.size_alloc] at b2
  rw [World.size_alloc, World.size_alloc] at b3
  have k1 : Blk w3 w.heap.size [.pointer (some ⟨d, 0, none⟩)] 26 := by rw [hw3]; exact (b1.alloc _).alloc _
  have k2 : Blk w3 (w.heap.size + 1) [.slice ao m.ts.length cap, .int .i64 m.nx, .int .i64 m.fr] 36 := by rw [hw3]; exact b2.alloc _
  have k3 : Blk w3 (w.heap.size + 2) [.slice none 0 0] 62 := by rw [hw3]; exact b3
  have hs3 : w3.heap.size = w.heap.size + 3 := by rw [hw3]; simp
  have hB3 : Below w.heap.size w w3 := by
    rw [hw3]
    exact (((Below.refl _ _).alloc (Nat.le_refl _) _).alloc (by simp) _).alloc (by simp; omega) _
  clear b1 b2 b3
  have k4 : Blk (w3.alloc (.cells (stepsV w.heap.size (w.heap.size + 1) (w.heap.size + 2)).toArray 69)) (w.heap.size + 3) (stepsV w.heap.size (w.heap.size + 1) (w.heap.size + 2)) 69 := by
    have := Blk.new w3 (stepsV w.heap.size (w.heap.size + 1) (w.heap.size + 2)) 69
    rw [hs3] at this; exact this
  have hB4 : Below w.heap.size w (w3.alloc (.cells (stepsV w.heap.size (w.heap.size + 1) (w.heap.size + 2)).toArray 69)) := hB3.alloc hB3.size _
  have kk1 := k1.alloc (.cells (stepsV w.heap.size (w.heap.size + 1) (w.heap.size + 2)).toArray 69)
  have kk2 := k2.alloc (.cells (stepsV w.heap.size (w.heap.size + 1) (w.heap.size + 2)).toArray 69)
  have kk3 := k3.alloc (.cells (stepsV w.heap.size (w.heap.size + 1) (w.heap.size + 2)).toArray 69)
  obtain ⟨w4, hw4⟩ : ∃ w4, w4 = w3.alloc (.cells (stepsV w.heap.size (w.heap.size + 1) (w.heap.size + 2)).toArray 69) := ⟨_, rfl⟩
  rw [← hw4] at k4 hB4 kk1 kk2 kk3
  have hA4 : At d A ft w4 := hA.moved (moved_belowM (ft := []) hB4) (by simp)
  have CT : Calls Tryz.prog 28 #[.slice (some ⟨w.heap.size + 3, 0, none⟩) 6 6] w4 (Upon (fun _ => False) (fun x u => x = 2 ∧ Below w.heap.size w u)) := by
    refine (inTurn_six (w.heap.size + 3) w.heap.size (w.heap.size + 1) (w.heap.size + 2) (fun k u => match k with | 0 => u = w4 | 1 => w4.grownBy u none | _ => False) (fun x u => x = 2 ∧ Below w.heap.size w u) w4 rfl 69 ?_ ?_ ?_ ?_ ?_ ?_ ?_).mono ?_
    · intro k u hk hR
      match k, hR with
      | 0, hR => cases hR; exact k4
      | 1, hR => exact k4.carry (World.grownBy.block hR _ k4.lt (by simp))
      | k + 2, hR => exact hR.elim
    · rintro u rfl
      refine (step1 hA4 hon kk1).mono ?_
      rintro e u' ⟨rfl, hg'⟩
      exact ⟨0, rfl, .inl ⟨rfl, hg'⟩⟩
    · intro u hu
      have hu' : w4.grownBy u none := hu
      have hBu : Below w.heap.size w u := hB4.trans (((Below.refl _ _).grown hu' (Nat.le_refl _) (fun k hk => by cases hk)).mono hB4.size)
      refine (step2_bad (w.heap.size + 1) (w.heap.size + 2) ao cap m u (hm.below hBu (Nat.le_refl _)) hl hcp hg (kk2.carry (hu'.block _ kk2.lt (by simp))) (kk3.carry (hu'.block _ kk3.lt (by simp)))).mono ?_
      rintro e u' ⟨rfl, hg'⟩
      exact ⟨2, rfl, .inr ⟨by decide, rfl, hBu.grown hg' hBu.size (fun k hk => by cases hk; omega)⟩⟩
    · intro u hu; exact hu.elim
    · intro u hu; exact hu.elim
    · intro u hu; exact hu.elim
    · intro u hu; exact hu.elim
    · rintro e u' ⟨x, rfl, hx⟩
      exact ⟨x, rfl, hx.imp (fun h => ⟨h.1, h.2.elim⟩) id⟩
  have hmf : ∀ (fn : Fn) (first cap : Array Value) (w : World), (Instr.makeFunc fn first cap).run Tryz.prog w = .ok (.func fn first cap) w := fun _ _ _ _ => rfl
  rw [hw4, hw3] at CT
  clear hA hon hm hcp hl hg k1 k2 k3 hs3 hB3 k4 hB4 kk1 kk2 kk3 hA4 hw4 hw3
  unfold stepsV at CT
  have HCT : Hid (Calls Tryz.prog 28 #[.slice (some ⟨w.heap.size + 3, 0, none⟩) 6 6] _ (Upon (fun _ => False) (fun x u => x = 2 ∧ Below w.heap.size w u))) := CT
  unfold mval
  go_enter Tryz.func10, Tryz.ntmps10
  go_wp2_with fail
  go_fit HCT.out
  rintro e w9 ⟨x, rfl, hx⟩
  have HX : Hid (x = 2 ∧ Below w.heap.size w w9) := by
    rcases hx with h | h
    · exact h.2.elim
    · exact h.2
  clear hx HCT CT
  go_wp2_with fail
  go_ret
  exact ⟨ret_int HX.out.1, HX.out.2⟩
set_option maxRecDepth 100000 in
set_option maxHeartbeats 2000000 in
theorem loadM_some {d : Nat} {A : Ab} {ft : List Nat} {w : World} (h : At d A ft w) (hon : A.on = true) (m : Mf) (hg : goodM m = true) (hf : findT A.sp lM = some (sureT lM (encM m))) (ht : Tab w) (ue : TypeId) (pv : Value) (he : Err w ue pv) :
    Calls Tryz.prog 13 #[.pointer (some ⟨d, 0, none⟩)] w fun e w' => ∃ a5 c5, e = .returned (.tuple #[.agg #[.slice a5 m.ts.length c5, .int .i64 m.nx, .int .i64 m.fr], .int .i64 0]) ∧ MSees w' a5 c5 m ∧ Below w.heap.size w w' := by
  have hEl : (encM m).length ≤ 400 := by have := good_len hg; rw [encM_len]; omega
  have k0 := Blk.new w [.slice none 0 0, .int .i64 0, .int .i64 0] 36
  have hB0 : Below w.heap.size w (w.alloc (.cells #[.slice none 0 0, .int .i64 0, .int .i64 0] 36)) := (Below.refl _ _).alloc (Nat.le_refl _) _
  have hA0 : At d A ft (w.alloc (.cells #[.slice none 0 0, .int .i64 0, .int .i64 0] 36)) := h.moved (moved_belowM (ft := []) hB0) (by simp)
  have CR : Hid (Calls Tryz.prog 43 #[.pointer (some ⟨d, 0, none⟩), .string ⟨#[109, 97, 110, 105, 102, 101, 115, 116]⟩] (w.alloc (.cells #[.slice none 0 0, .int .i64 0, .int .i64 0] 36)) fun x w' => ∃ a c, x = .returned (.tuple #[.slice a (encM m).length c, .int .i64 0]) ∧ Sees w' a (encM m) ∧ (a = none → (encM m).length = 0) ∧ (encM m).length ≤ c ∧ c ≤ 9223372036854775807 ∧ Below w.heap.size w w' ∧ Blk w' w.heap.size [.slice none 0 0, .int .i64 0, .int .i64 0] 36) := by
    refine (ab_read hA0 nmM nmM_size (by rw [hon]; exact nmM_good) (t := sureT lM (encM m)) hf (by show (encM m).length ≤ _; omega)).mono ?_
    rintro x w' ⟨v, rfl, ho, hg'⟩
    have ho' : w'.ownsRow _ 5 1 v (encM m).length (B8 (encM m)) := ho
    obtain ⟨a, c, rfl, hs, hl', hn⟩ := owns_sees ho'
    obtain ⟨_, _, e2, hc1, hc2⟩ := owns_form ho'
    cases e2
    exact ⟨a, c, rfl, hs, fun e => (hn e).1, hc1, hc2, hB0.grown hg' hB0.size (fun k hk => by cases hk), k0.carry (hg'.block _ k0.lt (by simp))⟩
  have CD : Hid (∀ u a c, Below w.heap.size w u → Sees u a (encM m) → (a = none → (encM m).length = 0) → (encM m).length ≤ c → c ≤ 9223372036854775807 → Calls Tryz.prog 44 #[.slice a (encM m).length c] u fun e w' => ∃ a5 c5, e = .returned (.tuple #[.agg #[.slice a5 m.ts.length c5, .int .i64 m.nx, .int .i64 m.fr], .int .i64 0]) ∧ MSees w' a5 c5 m ∧ (∀ q, a5 = some q → u.heap.size ≤ q.block) ∧ Below u.heap.size u w') := fun u a c hu hs hn h1 h2 => by
    obtain ⟨e1, e2⟩ := rd_some (rdM_enc hg)
    have he' : Err u ue pv := by unfold Err at he ⊢; rw [hu.cell (World.block_lt_of_cell? _ _ he)]; exact he
    refine (readM_any a (encM m) c u hs hn h1 h2 (by omega) (ht.below hu (Nat.le_refl _)) ue pv he').mono ?_
    rintro e w' ⟨a5, c5, rfl, hm, _, ha, hb⟩
    rw [e1] at hm ⊢
    rw [e2]
    exact ⟨a5, c5, rfl, hm, ha, hb⟩
  clear h hon hg hf ht he k0 hB0 hA0 hEl
  obtain ⟨ts, nx, fr⟩ := m
  dsimp only at *
  generalize encM ⟨ts, nx, fr⟩ = E at *
  go_enter Tryz.func13, Tryz.ntmps13
  go_wp2_with fail
  go_fit CR.out
  rintro e w2 ⟨a, c, rfl, hs, hn, h1, h2, hB2, hk2⟩
  have C2 := CD.out w2 a c hB2 hs hn h1 h2
  clear hs hn h1 h2 CD CR
  generalize E.length = n at *
  go_wp2_with fail
  go_fit C2
  rintro e w5 ⟨a5, c5, rfl, hm5, ha5, hB5⟩
  have hB5' : Below w.heap.size w w5 := hB2.trans (hB5.mono hB2.size)
  have hk5 := hk2.carry (hB5.block _ hk2.lt)
  have ha5' : ∀ q, a5 = some q → w.heap.size < q.block := fun q e => Nat.lt_of_lt_of_le hk2.lt (ha5 q e)
  have f0 := hk5.frozen 0
  have f1 := hk5.frozen 1
  have f2 := hk5.frozen 2
  have n0 := hk5.cell 0 rfl
  have n1 := hk5.cell 1 rfl
  have n2 := hk5.cell 2 rfl
  have HK : Hid (Blk (((w5.setCell ⟨w.heap.size, 0, none⟩ (.slice a5 ts.length c5)).setCell ⟨w.heap.size, 1, none⟩ (.int .i64 nx)).setCell ⟨w.heap.size, 2, none⟩ (.int .i64 fr)) w.heap.size [.slice a5 ts.length c5, .int .i64 nx, .int .i64 fr] 36) := ((hk5.setTo 0 _ _ rfl).setTo 1 _ _ rfl).setTo 2 _ _ rfl
  have HE : Hid (MSees (((w5.setCell ⟨w.heap.size, 0, none⟩ (.slice a5 ts.length c5)).setCell ⟨w.heap.size, 1, none⟩ (.int .i64 nx)).setCell ⟨w.heap.size, 2, none⟩ (.int .i64 fr)) a5 c5 ⟨ts, nx, fr⟩ ∧ Below w.heap.size w (((w5.setCell ⟨w.heap.size, 0, none⟩ (.slice a5 ts.length c5)).setCell ⟨w.heap.size, 1, none⟩ (.int .i64 nx)).setCell ⟨w.heap.size, 2, none⟩ (.int .i64 fr))) := by
    refine ⟨⟨fun i x hx => ?_, hm5.nil, hm5.cap⟩, ((hB5'.setCell (Nat.le_refl _) _).setCell (Nat.le_refl _) _).setCell (Nat.le_refl _) _⟩
    obtain ⟨q, off, e, hc⟩ := hm5.see i x hx
    have hq := ha5' _ e
    refine ⟨q, off, e, ?_⟩
    rw [World.cell?_of_block (w := w5)]
    · exact hc
    · show (((w5.setCell _ _).setCell _ _).setCell _ _).heap[q]? = _
      rw [Below.heap_setCell _ _ _ _ (by show q ≠ w.heap.size; exact Nat.ne_of_gt hq), Below.heap_setCell _ _ _ _ (by show q ≠ w.heap.size; exact Nat.ne_of_gt hq), Below.heap_setCell _ _ _ _ (by show q ≠ w.heap.size; exact Nat.ne_of_gt hq)]
  clear hk5 hB5 hB5' hB2 hk2 hm5 ha5 ha5' C2
  go_wp2_with fail
  refine bodyPost_ret (v := .tuple #[.agg #[.slice a5 ts.length c5, .int .i64 nx, .int .i64 fr], .int .i64 0]) (results_row_tmpM Tryz.results13 _ _ w.heap.size 36 _ _ _ _ rfl rfl HK.out Tryz.underlying36 rfl (by kernel_rfl)) rfl ?_
  exact ⟨a5, c5, rfl, HE.out⟩
theorem lw_store_bad {w : World} {d : Nat} {A : Ab} {bx : List Bx} {u : World} (h : LW w d A bx u) (hon : A.on = true) (ao : Option Addr) (cap : Nat) (m : Mf) (hm : MSees w ao cap m) (hl : m.ts.length ≤ 1000000) (hcp : cap ≤ 9223372036854775807) (hg : goodM m = false) :
    Calls Tryz.prog 10 #[.pointer (some ⟨d, 0, none⟩), mval ao cap m] u fun e u' => e = .returned (.int .i64 2) ∧ LW w d A bx u' := by
  have h0 := h
  obtain ⟨ft, h1, h2, h3, h4⟩ := h
  exact (storeM_bad h1 hon ao cap m (hm.below h4 (Nat.le_refl _)) hl hcp hg).mono fun e u' hh => ⟨hh.1, h0.more hh.2⟩
theorem pl_after {A : Ab} {o : Option (List UInt8)} (hP : Pl A o) (E : List UInt8) (hE : E.length ≤ 400) (h1 : A.ops ≤ 50) (h2 : A.next ≤ 500) : Pl (A4M A E) (some E) ∧ (A4M A E).left = A.left - 1 - 1 - 1 - 1 ∧ (A4M A E).ops = A.ops + 4 ∧ (A4M A E).next ≤ A.next + 26 := by
  have hg := growT_few' t1M E (by show 0 + E.length ≤ _; omega)
  have hn : (A4M A E).next = A.next + growT t1M E := rfl
  have ho : (A4M A E).ops = A.ops + 1 + 1 + 1 + 1 := rfl
  have hl : (A4M A E).left = A.left - 1 - 1 - 1 - 1 := rfl
  have h8 := hP.left
  exact ⟨⟨sp4M hP E, hP.on, hP.room, by omega, by omega, by omega, hP.keep, fun E' e => by cases e; exact hE⟩, hl, by omega, by omega⟩
theorem pl_armed {A : Ab} {o : Option (List UInt8)} (hP : Pl A o) (n : Nat) (k : Int) (hn : n ≤ 8) (hk : -9223372036854775808 ≤ k ∧ k ≤ 9223372036854775807) : Pl { A with left := n, keep := k } o := ⟨hP.sp, hP.on, hP.room, hP.ops, hP.next, hn, hk, hP.small⟩
/-- Load, where the manifest om is on the disk. -/
theorem lw_load {w : World} {d : Nat} {A : Ab} {bx : List Bx} {u : World} (h : LW w d A bx u) (hon : A.on = true) (om : Option Mf) (hgo : ∀ m, om = some m → goodM m = true) (hf : findT A.sp lM = fO (om.map encM)) (ht : Tab w) (ue : TypeId) (pv : Value) (he : Err w ue pv) :
    Calls Tryz.prog 13 #[.pointer (some ⟨d, 0, none⟩)] u fun e u' => ∃ a5 c5, e = .returned (.tuple #[mval a5 c5 (om.getD begM), .int .i64 0]) ∧ MSees u' a5 c5 (om.getD begM) ∧ LW w d A bx u' := by
  have h0 := h
  obtain ⟨ft, h1, h2, h3, h4⟩ := h
  cases om with
  | none =>
    obtain ⟨bm, fs, hD, hss, rfl⟩ := h1
    refine (load_none hD hon (find_sig_none hss hf)).mono ?_
    rintro e u' ⟨rfl, hg⟩
    exact ⟨none, 0, rfl, ⟨fun i x hx => by simp [begM] at hx, fun _ => rfl, Nat.le_refl _⟩, h0.grown hg⟩
  | some m =>
    have he' : Err u ue pv := by unfold Err at he ⊢; rw [h4.cell (World.block_lt_of_cell? _ _ he)]; exact he
    refine (loadM_some h1 hon m (hgo m rfl) hf (ht.below h4 (Nat.le_refl _)) ue pv he').mono ?_
    rintro e u' ⟨a5, c5, rfl, hm, hb⟩
    exact ⟨a5, c5, rfl, hm, h0.more hb⟩
end Go.Proofs.YthihljjefncfoaaGreatDoor
