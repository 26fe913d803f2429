/-
  FOR THE LAW DiskKeeps: the disk's states on its road.
-/
import Derived.Test.YthihljjefncfoaaGreatDoorDskAb
import Derived.Laws.BytesString
namespace Go.Proofs.YthihljjefncfoaaGreatDoor
open Go.RowKit Go.Maps

theorem conv_seesD {w : World} {ao : Option Addr} {l : List UInt8} (h : Sees w ao l) (hn : ao = none → l.length = 0) (cap : Nat) :
    (convert 62 9 (.slice ao l.length cap)).run Tryz.prog w = .ok (.string ⟨l.toArray⟩) w := by
  cases ao with
  | none =>
    obtain rfl : l = [] := List.eq_nil_of_length_eq_zero (hn rfl)
    rw [run_convert_bytes_string w 62 9 5 none _ cap Tryz.underlying62 Tryz.underlying5 Tryz.underlying9]
    rfl
  | some a =>
    refine run_convert_bytes_back w 62 9 5 a cap l Tryz.underlying62 Tryz.underlying5 Tryz.underlying9 fun j hj => ?_
    obtain ⟨a', e, hc⟩ := h j hj
    obtain rfl := Option.some.inj e
    rw [hc]; simp [List.getD, hj]
/-- The disk lies in memory that is new since w0; all that was there is as it was. -/
def Kp (w0 : World) (d : Nat) (A : Ab) (w1 : World) : Prop := ∃ ft, At d A ft w1 ∧ Moved w0 w1 [] ft
theorem Kp.grown {w0 : World} {d : Nat} {A : Ab} {w1 w2 : World} (h : Kp w0 d A w1) (hg : w1.grownBy w2 none) : Kp w0 d A w2 := by
  obtain ⟨ft, h1, h2⟩ := h
  exact ⟨ft, h1.grown hg, h2.trans (Moved.none_of hg _)⟩
theorem Kp.below {w0 : World} {d : Nat} {A : Ab} {w1 : World} (h : Kp w0 d A w1) : Below w0.heap.size w0 w1 := by
  obtain ⟨ft, _, h2⟩ := h
  exact h2.below (Nat.le_refl _) (by simp)
theorem Kp.sees {w0 : World} {d : Nat} {A : Ab} {w1 : World} (h : Kp w0 d A w1) {ao : Option Addr} {l : List UInt8} (hs : Sees w0 ao l) : Sees w1 ao l := hs.below h.below (Nat.le_refl _)
def syT (A : Ab) (nm : List UInt8) (t : Sig) : Ab := { A with ops := A.ops + 1, left := A.left - 1, sp := upd A.sp nm ⟨nm, t.bs, t.bs.length, []⟩ }
def crT (A : Ab) (nm : List UInt8) : Ab := { A with ops := A.ops + 1, left := A.left - 1, sp := putT A.sp ⟨nm, [], 0, []⟩ }
section
variable {w0 : World} {d : Nat} {A : Ab} {w1 : World} (h : Kp w0 d A w1) (s : ByteArray) (hs : s.size ≤ maxLen)
include h
theorem kp_start : Calls Tryz.prog 24 #[.pointer (some ⟨d, 0, none⟩)] w1 fun x w' => x = .returned (.tuple #[]) ∧ Kp w0 d { A with on := true, left := 0 } w' := by
  obtain ⟨ft, h1, h2⟩ := h
  exact (ab_start h1).mono fun x w' hh => ⟨hh.1, ft, hh.2.1, h2.trans hh.2.2⟩
theorem kp_crash (hon : A.on = true) (hF : A.Fine) (keep : Int) (hk1 : -9223372036854775808 ≤ keep) (hk2 : keep ≤ 9223372036854775807) : Calls Tryz.prog 23 #[.pointer (some ⟨d, 0, none⟩), .int .i64 keep] w1 fun x w' => x = .returned (.tuple #[]) ∧ Kp w0 d { A with on := false, sp := A.sp.map fun t => loseT t (endT A keep.toNat) } w' := by
  obtain ⟨ft, h1, h2⟩ := h
  exact (ab_crash h1 hon hF keep hk1 hk2).mono fun x w' ⟨e, ft', a1, a2⟩ => ⟨e, ft', a1, h2.trans a2⟩
include hs
theorem kp_read (hc : refuse A.on [s] = 0) {t : Sig} (ht : findT A.sp (nameOf s) = some t) (hl : t.bs.length ≤ 1099511627776) : Calls Tryz.prog 43 #[.pointer (some ⟨d, 0, none⟩), .string s] w1 fun x w' => ∃ ao c, x = .returned (.tuple #[.slice ao t.bs.length c, .int .i64 0]) ∧ Sees w' ao t.bs ∧ (ao = none → t.bs.length = 0) ∧ t.bs.length ≤ c ∧ w1.grownBy w' none ∧ Kp w0 d A w' := by
  have h0 := h
  obtain ⟨ft, h1, h2⟩ := h
  refine (ab_read h1 s hs hc ht hl).mono ?_
  rintro x w' ⟨v, rfl, ho, hg⟩
  obtain ⟨ao, c, rfl, hsee, _, hn⟩ := owns_sees ho
  obtain ⟨_, _, he, hcap, _⟩ := owns_form ho
  cases he
  exact ⟨ao, c, rfl, hsee, fun e => (hn e).1, hcap, hg, h0.grown hg⟩
theorem kp_sync (hc : refuse A.on [s] = 0) {t : Sig} (ht : findT A.sp (nameOf s) = some t) (hl : A.left ≠ 1) (ho : A.ops ≤ 4611686018427387904) (hlm : A.left ≤ 9223372036854775807) : Calls Tryz.prog 37 #[.pointer (some ⟨d, 0, none⟩), .string s] w1 fun x w' => x = .returned (.int .i64 0) ∧ Kp w0 d (syT A (nameOf s) t) w' := by
  obtain ⟨ft, h1, h2⟩ := h
  exact (ab_sync h1 s hs hc ht hl ho hlm).mono fun x w' ⟨e, ft', a1, a2⟩ => ⟨e, ft', a1, h2.trans a2⟩
theorem kp_create (hc : refuse A.on [s] = 0) (ht : findT A.sp (nameOf s) = none) (hlen : A.sp.length < 48) (hu : usedT A.sp < A.room) (hr : A.room ≤ 1073741824) (hl : A.left ≠ 1) (ho : A.ops ≤ 4611686018427387904) (hlm : A.left ≤ 9223372036854775807) : Calls Tryz.prog 33 #[.pointer (some ⟨d, 0, none⟩), .string s] w1 fun x w' => x = .returned (.int .i64 0) ∧ Kp w0 d (crT A (nameOf s)) w' := by
  obtain ⟨ft, h1, h2⟩ := h
  exact (ab_create h1 s hs hc ht hlen hu hr hl ho hlm).mono fun x w' ⟨e, ft', a1, a2⟩ => ⟨e, ft', a1, h2.trans a2⟩
theorem kp_append (ao : Option Addr) (l : List UInt8) (c : Nat) (hb : Sees w0 ao l) (hc : refuse A.on [s] = 0) {t : Sig} (ht : findT A.sp (nameOf s) = some t) (hl : A.left ≠ 1) (ho : A.ops ≤ 4611686018427387904) (hlm : A.left ≤ 9223372036854775807) (hF : A.Fine) (hlen : t.bs.length + l.length ≤ 1099511627776) (hnx : A.next ≤ 4611686018427387904) (hroom : lackT t l ≤ (A.room : Int) - (usedT A.sp : Int)) :
    Calls Tryz.prog 35 #[.pointer (some ⟨d, 0, none⟩), .string s, .slice ao l.length c] w1 fun x w' => x = .returned (.int .i64 0) ∧ Kp w0 d (appT A (nameOf s) t l) w' := by
  have hsee := h.sees hb
  obtain ⟨ft, h1, h2⟩ := h
  refine (ab_append h1 s hs ao l c hsee (fun a ha h0 hi => ?_) hc ht hl ho hlm hF hlen hnx hroom).mono fun x w' ⟨e, ft', a1, a2⟩ => ⟨e, ft', a1, h2.trans a2⟩
  have := hb.lt ha h0
  rcases h2.news _ hi with h3 | h3
  · simp at h3
  · omega
end
theorem kp_new (room : Nat) (hr : room ≤ 1073741824) (w : World) : Calls Tryz.prog 5 #[.int .i64 (room : Int)] w fun x w' => ∃ d, x = .returned (.pointer (some ⟨d, 0, none⟩)) ∧ Kp w d (newA room) w' := by
  refine (ab_new room hr w).mono ?_
  rintro x w1 ⟨d, ft, rfl, hA, hg, hn⟩
  exact ⟨d, rfl, ft, hA, (Moved.of_grown hg).wider (by simp) (fun i hi => .inr (.inr (hn i hi)))⟩

/-! ### the states -/
def nmB : ByteArray := ⟨#[98]⟩
section
variable (l1 l2 l3 : List UInt8)
def kt1 : Sig := ⟨[97], [], 0, []⟩
def kA1 : Ab := crT (newA 10000) [97]
def kA2 : Ab := appT kA1 [97] kt1 l1
def kt2 : Sig := ⟨[97], l1, 0, List.range' 0 (growT kt1 l1)⟩
def kA3 : Ab := syT (kA2 l1) [97] (kt2 l1)
def kt3 : Sig := ⟨[97], l1, l1.length, []⟩
def kA4 : Ab := crT (kA3 l1) [98]
def ku4 : Sig := ⟨[98], [], 0, []⟩
def kA5 : Ab := appT (kA4 l1) [98] ku4 l3
def ku5 : Sig := ⟨[98], l3, 0, List.range' (kA4 l1).next (growT ku4 l3)⟩
def kA6 : Ab := appT (kA5 l1 l3) [97] (kt3 l1) l2
def kt6 : Sig := ⟨[97], l1 ++ l2, l1.length, List.range' (kA5 l1 l3).next (growT (kt3 l1) l2)⟩
def kA7 : Ab := syT (kA6 l1 l2 l3) [98] (ku5 l1 l3)
def ku7 : Sig := ⟨[98], l3, l3.length, []⟩
theorem sp1 : kA1.sp = [kt1] := rfl
theorem sp2 : (kA2 l1).sp = [kt2 l1] := by simp [kA2, appT, kA1, crT, upd, putT, insT, dropT, newA, kt1, kt2]
theorem sp3 : (kA3 l1).sp = [kt3 l1] := by simp [kA3, syT, sp2, upd, kt2, kt3]
theorem sp4 : (kA4 l1).sp = [kt3 l1, ku4] := by
  have : dropT [kt3 l1] [98] = [kt3 l1] := rfl
  simp only [kA4, crT, sp3, putT, this]
  rfl
theorem sp5 : (kA5 l1 l3).sp = [kt3 l1, ku5 l1 l3] := by simp [kA5, appT, sp4, upd, kt3, ku4, ku5]
theorem sp6 : (kA6 l1 l2 l3).sp = [kt6 l1 l2 l3, ku5 l1 l3] := by simp [kA6, appT, sp5, upd, kt3, ku5, kt6]
theorem sp7 : (kA7 l1 l2 l3).sp = [kt6 l1 l2 l3, ku7 l3] := by simp [kA7, syT, sp6, upd, kt6, ku5, ku7]
end
end Go.Proofs.YthihljjefncfoaaGreatDoor
