/-
  SEVERAL TEXTS IN ONE: DskKeepsP, DskSpoilE, DskList, NumPlain.
-/
import Derived.Test.YtoeoioigelknnaaGreatMany9
import Derived.Laws.BytesString
import Derived.Test.YtoeoioigelknnaaGreatDskSpoil
import Derived.Test.YtoeoioigelknnaaGreatMany2
import Derived.Test.YtoeoioigelknnaaGreatMany6
namespace Go.Proofs.YtoeoioigelknnaaGreat
open Go.RowKit Go.Maps

theorem conv_seesD {w : World} {ao : Option Addr} {l : List UInt8} (h : Sees w ao l) (hn : ao = none → l.length = 0) (cap : Nat) :
    (convert 29 9 (.slice ao l.length cap)).run Tryz.prog w = .ok (.string ⟨l.toArray⟩) w := by
  cases ao with
  | none =>
    obtain rfl : l = [] := List.eq_nil_of_length_eq_zero (hn rfl)
    rw [run_convert_bytes_string w 29 9 5 none _ cap Tryz.underlying29 Tryz.underlying5 Tryz.underlying9]
    rfl
  | some a =>
    refine run_convert_bytes_back w 29 9 5 a cap l Tryz.underlying29 Tryz.underlying5 Tryz.underlying9 fun j hj => ?_
    obtain ⟨a', e, hc⟩ := h j hj
    obtain rfl := Option.some.inj e
    rw [hc]; simp [List.getD, hj]
set_option maxHeartbeats 400000 in
theorem same_anyD (ao bo : Option Addr) (la lb : List UInt8) (ca cb : Nat) (w : World) (ha : Sees w ao la) (hb : Sees w bo lb) (hna : ao = none → la.length = 0) (hnb : bo = none → lb.length = 0) :
    Calls Tryz.prog 35 #[.slice ao la.length ca, .slice bo lb.length cb] w fun e w' => e = .returned (.bool (la == lb)) ∧ w' = w := by
  have c1 := conv_seesD ha hna ca
  have c2 := conv_seesD hb hnb cb
  go_enter Tryz.func35, Tryz.ntmps35
  go_wp2
  go_ret
  exact ⟨rfl, rfl⟩

/-- The disk lies in memory that is new since w0; all that was there is as it was. -/
def Kp (w0 : World) (d : Nat) (A : Ab) (w1 : World) : Prop := ∃ ft, At d A ft w1 ∧ Moved w0 w1 [] ft
theorem Kp.grown {w0 : World} {d : Nat} {A : Ab} {w1 w2 : World} (h : Kp w0 d A w1) (hg : w1.grownBy w2 none) : Kp w0 d A w2 := by
  obtain ⟨ft, h1, h2⟩ := h
  exact ⟨ft, h1.grown hg, h2.trans (Moved.none_of hg _)⟩
theorem Kp.below {w0 : World} {d : Nat} {A : Ab} {w1 : World} (h : Kp w0 d A w1) : Below w0.heap.size w0 w1 := by
  obtain ⟨ft, _, h2⟩ := h
  exact h2.below (Nat.le_refl _) (by simp)
theorem Kp.sees {w0 : World} {d : Nat} {A : Ab} {w1 : World} (h : Kp w0 d A w1) {ao : Option Addr} {l : List UInt8} (hs : Sees w0 ao l) : Sees w1 ao l := hs.below h.below (Nat.le_refl _)
def syT (A : Ab) (nm : List UInt8) (t : Sig) : Ab := { A with ops := A.ops + 1, left := A.left - 1, sp := upd A.sp nm ⟨nm, t.bs, t.bs.length, []⟩ }
def crT (A : Ab) (nm : List UInt8) : Ab := { A with ops := A.ops + 1, left := A.left - 1, sp := putT A.sp ⟨nm, [], 0, []⟩ }
section
variable {w0 : World} {d : Nat} {A : Ab} {w1 : World} (h : Kp w0 d A w1) (s : ByteArray) (hs : s.size ≤ maxLen)
include h
theorem kp_dirty (hF : A.Fine) (hon : A.on = true) : Calls Tryz.prog 14 #[.pointer (some ⟨d, 0, none⟩)] w1 fun x w' => x = .returned (.int .i64 (dirtyT A.sp : Int)) ∧ w1.grownBy w' none ∧ Kp w0 d A w' := by
  have h0 := h
  obtain ⟨ft, h1, h2⟩ := h
  exact (ab_dirty h1 hF hon).mono fun x w' hh => ⟨hh.1, hh.2, h0.grown hh.2⟩
theorem kp_start : Calls Tryz.prog 22 #[.pointer (some ⟨d, 0, none⟩)] w1 fun x w' => x = .returned (.tuple #[]) ∧ Kp w0 d { A with on := true, left := 0 } w' := by
  obtain ⟨ft, h1, h2⟩ := h
  exact (ab_start h1).mono fun x w' hh => ⟨hh.1, ft, hh.2.1, h2.trans hh.2.2⟩
theorem kp_crash (hon : A.on = true) (hF : A.Fine) (keep : Int) (hk1 : -9223372036854775808 ≤ keep) (hk2 : keep ≤ 9223372036854775807) : Calls Tryz.prog 21 #[.pointer (some ⟨d, 0, none⟩), .int .i64 keep] w1 fun x w' => x = .returned (.tuple #[]) ∧ Kp w0 d { A with on := false, sp := A.sp.map fun t => loseT t (endT A keep.toNat) } w' := by
  obtain ⟨ft, h1, h2⟩ := h
  exact (ab_crash h1 hon hF keep hk1 hk2).mono fun x w' ⟨e, ft', a1, a2⟩ => ⟨e, ft', a1, h2.trans a2⟩
include hs
theorem kp_read (hc : refuse A.on [s] = 0) {t : Sig} (ht : findT A.sp (nameOf s) = some t) (hl : t.bs.length ≤ 1099511627776) : Calls Tryz.prog 23 #[.pointer (some ⟨d, 0, none⟩), .string s] w1 fun x w' => ∃ ao c, x = .returned (.tuple #[.slice ao t.bs.length c, .int .i64 0]) ∧ Sees w' ao t.bs ∧ (ao = none → t.bs.length = 0) ∧ t.bs.length ≤ c ∧ w1.grownBy w' none ∧ Kp w0 d A w' := by
  have h0 := h
  obtain ⟨ft, h1, h2⟩ := h
  refine (ab_read h1 s hs hc ht hl).mono ?_
  rintro x w' ⟨v, rfl, ho, hg⟩
  obtain ⟨ao, c, rfl, hsee, _, hn⟩ := owns_sees ho
  obtain ⟨_, _, he, hcap, _⟩ := owns_form ho
  cases he
  exact ⟨ao, c, rfl, hsee, fun e => (hn e).1, hcap, hg, h0.grown hg⟩
theorem kp_sync (hc : refuse A.on [s] = 0) {t : Sig} (ht : findT A.sp (nameOf s) = some t) (hl : A.left ≠ 1) (ho : A.ops ≤ 4611686018427387904) (hlm : A.left ≤ 9223372036854775807) : Calls Tryz.prog 20 #[.pointer (some ⟨d, 0, none⟩), .string s] w1 fun x w' => x = .returned (.int .i64 0) ∧ Kp w0 d (syT A (nameOf s) t) w' := by
  obtain ⟨ft, h1, h2⟩ := h
  exact (ab_sync h1 s hs hc ht hl ho hlm).mono fun x w' ⟨e, ft', a1, a2⟩ => ⟨e, ft', a1, h2.trans a2⟩
theorem kp_create (hc : refuse A.on [s] = 0) (ht : findT A.sp (nameOf s) = none) (hlen : A.sp.length < 48) (hu : usedT A.sp < A.room) (hr : A.room ≤ 1073741824) (hl : A.left ≠ 1) (ho : A.ops ≤ 4611686018427387904) (hlm : A.left ≤ 9223372036854775807) : Calls Tryz.prog 18 #[.pointer (some ⟨d, 0, none⟩), .string s] w1 fun x w' => x = .returned (.int .i64 0) ∧ Kp w0 d (crT A (nameOf s)) w' := by
  obtain ⟨ft, h1, h2⟩ := h
  exact (ab_create h1 s hs hc ht hlen hu hr hl ho hlm).mono fun x w' ⟨e, ft', a1, a2⟩ => ⟨e, ft', a1, h2.trans a2⟩
theorem kp_append (ao : Option Addr) (l : List UInt8) (c : Nat) (hb : Sees w0 ao l) (hc : refuse A.on [s] = 0) {t : Sig} (ht : findT A.sp (nameOf s) = some t) (hl : A.left ≠ 1) (ho : A.ops ≤ 4611686018427387904) (hlm : A.left ≤ 9223372036854775807) (hF : A.Fine) (hlen : t.bs.length + l.length ≤ 1099511627776) (hnx : A.next ≤ 4611686018427387904) (hroom : lackT t l ≤ (A.room : Int) - (usedT A.sp : Int)) :
    Calls Tryz.prog 19 #[.pointer (some ⟨d, 0, none⟩), .string s, .slice ao l.length c] w1 fun x w' => x = .returned (.int .i64 0) ∧ Kp w0 d (appT A (nameOf s) t l) w' := by
  have hsee := h.sees hb
  obtain ⟨ft, h1, h2⟩ := h
  refine (ab_append h1 s hs ao l c hsee (fun a ha h0 hi => ?_) hc ht hl ho hlm hF hlen hnx hroom).mono fun x w' ⟨e, ft', a1, a2⟩ => ⟨e, ft', a1, h2.trans a2⟩
  have := hb.lt ha h0
  rcases h2.news _ hi with h3 | h3
  · simp at h3
  · omega
end
theorem kp_new (room : Nat) (hr : room ≤ 1073741824) (w : World) : Calls Tryz.prog 4 #[.int .i64 (room : Int)] w fun x w' => ∃ d, x = .returned (.pointer (some ⟨d, 0, none⟩)) ∧ Kp w d (newA room) w' := by
  refine (ab_new room hr w).mono ?_
  rintro x w1 ⟨d, ft, rfl, hA, hg, hn⟩
  exact ⟨d, rfl, ft, hA, (Moved.of_grown hg).wider (by simp) (fun i hi => .inr (.inr (hn i hi)))⟩

/-! ### the states -/
def nmB : ByteArray := ⟨#[98]⟩
section
variable (l1 l2 l3 : List UInt8)
def kt1 : Sig := ⟨[97], [], 0, []⟩
def kA1 : Ab := crT (newA 10000) [97]
def kA2 : Ab := appT kA1 [97] kt1 l1
def kt2 : Sig := ⟨[97], l1, 0, List.range' 0 (growT kt1 l1)⟩
def kA3 : Ab := syT (kA2 l1) [97] (kt2 l1)
def kt3 : Sig := ⟨[97], l1, l1.length, []⟩
def kA4 : Ab := crT (kA3 l1) [98]
def ku4 : Sig := ⟨[98], [], 0, []⟩
def kA5 : Ab := appT (kA4 l1) [98] ku4 l3
def ku5 : Sig := ⟨[98], l3, 0, List.range' (kA4 l1).next (growT ku4 l3)⟩
def kA6 : Ab := appT (kA5 l1 l3) [97] (kt3 l1) l2
def kt6 : Sig := ⟨[97], l1 ++ l2, l1.length, List.range' (kA5 l1 l3).next (growT (kt3 l1) l2)⟩
def kA7 : Ab := syT (kA6 l1 l2 l3) [98] (ku5 l1 l3)
def ku7 : Sig := ⟨[98], l3, l3.length, []⟩
theorem sp1 : kA1.sp = [kt1] := rfl
theorem sp2 : (kA2 l1).sp = [kt2 l1] := by simp [kA2, appT, kA1, crT, upd, putT, insT, dropT, newA, kt1, kt2]
theorem sp3 : (kA3 l1).sp = [kt3 l1] := by simp [kA3, syT, sp2, upd, kt2, kt3]
theorem sp4 : (kA4 l1).sp = [kt3 l1, ku4] := by
  have : dropT [kt3 l1] [98] = [kt3 l1] := rfl
  simp only [kA4, crT, sp3, putT, this]
  rfl
theorem sp5 : (kA5 l1 l3).sp = [kt3 l1, ku5 l1 l3] := by simp [kA5, appT, sp4, upd, kt3, ku4, ku5]
theorem sp6 : (kA6 l1 l2 l3).sp = [kt6 l1 l2 l3, ku5 l1 l3] := by simp [kA6, appT, sp5, upd, kt3, ku5, kt6]
theorem sp7 : (kA7 l1 l2 l3).sp = [kt6 l1 l2 l3, ku7 l3] := by simp [kA7, syT, sp6, upd, kt6, ku5, ku7]
end
end Go.Proofs.YtoeoioigelknnaaGreat
namespace Go.Proofs.YtoeoioigelknnaaGreat
open Go.RowKit Go.Maps

theorem spoil_refused {w : World} {d bm : Nat} {S : St} (h : DiskAt w d bm S) (s : ByteArray) (hs : s.size ≤ maxLen) (i k : Int) {c : Int} (hc : refuse S.on [s] = c) (hc0 : c ≠ 0) :
    Calls Tryz.prog 36 #[.pointer (some ⟨d, 0, none⟩), .string s, .int .i64 i, .int .i64 k] w fun x w' => x = .returned (.int .i64 c) ∧ w.grownBy w' none := by
  have F : Hid (Calls Tryz.prog 54 #[.pointer (some ⟨d, 0, none⟩), .string s] w fun x w' => x = .returned (.tuple #[.pointer none, .int .i64 c]) ∧ w.grownBy w' none) := find_refused h s hs hc hc0
  have hcb : (c == 0) = false := by rw [beq_eq_false_iff_ne]; exact hc0
  clear h hs hc
  go_enter Tryz.func36, Tryz.ntmps36
  go_wp2_with (go_at_call 54; go_fit F.out; rintro x w1 ⟨rfl, hg⟩)
  go_ret
  exact ⟨rfl, hg⟩
theorem spoil_none {w : World} {d bm : Nat} {S : St} (h : DiskAt w d bm S) (s : ByteArray) (hs : s.size ≤ maxLen) (i k : Int) (hc : refuse S.on [s] = 0) (hf : find S.fs (nameOf s) = none) :
    Calls Tryz.prog 36 #[.pointer (some ⟨d, 0, none⟩), .string s, .int .i64 i, .int .i64 k] w fun x w' => x = .returned (.int .i64 4) ∧ w.grownBy w' none := by
  have F : Hid (Calls Tryz.prog 54 #[.pointer (some ⟨d, 0, none⟩), .string s] w fun x w' => x = .returned (.tuple #[.pointer none, .int .i64 4]) ∧ w.grownBy w' none) := find_none h s hs hc hf
  clear h hs hc hf
  go_enter Tryz.func36, Tryz.ntmps36
  go_wp2_with (go_at_call 54; go_fit F.out; rintro x w1 ⟨rfl, hg⟩)
  go_ret
  exact ⟨rfl, hg⟩
theorem spoil_arg1 {w : World} {d bm : Nat} {S : St} (h : DiskAt w d bm S) (s : ByteArray) (hs : s.size ≤ maxLen) (i k : Int) (hc : refuse S.on [s] = 0) {e : Ent} (hf : find S.fs (nameOf s) = some e) (h1 : i < 0) :
    Calls Tryz.prog 36 #[.pointer (some ⟨d, 0, none⟩), .string s, .int .i64 i, .int .i64 k] w fun x w' => x = .returned (.int .i64 2) ∧ w.grownBy w' none := by
  have F : Hid (Calls Tryz.prog 54 #[.pointer (some ⟨d, 0, none⟩), .string s] w fun x w' => x = .returned (.tuple #[.pointer (some ⟨e.b, 0, none⟩), .int .i64 0]) ∧ w.grownBy w' none) := find_ok h s hs hc hf
  have hE := h.ents e (find_some hf).1
  obtain ⟨ao, cap, hv, _⟩ := owns_form hE.row1
  have FC : Hid (∀ w1, w.grownBy w1 none → w1.cell? ⟨e.b, 0, none⟩ = some (.slice ao e.bs.length cap)) := by
    intro w1 hg1
    have hE1 : EntAt w1 e := hE.carry fun j hj => hg1.block j (hE.lt j hj) (by simp)
    have hc0 := hE1.c0
    rwa [hv] at hc0
  clear h hs hc hf hE hv
  generalize e.bs.length = n at *
  go_enter Tryz.func36, Tryz.ntmps36
  go_wp2_with (go_at_call 54; go_fit F.out; rintro x w1 ⟨rfl, hg1⟩; have q0 := FC.out w1 hg1)
  go_ret
  exact ⟨rfl, hg1⟩
theorem spoil_arg2 {w : World} {d bm : Nat} {S : St} (h : DiskAt w d bm S) (s : ByteArray) (hs : s.size ≤ maxLen) (i k : Int) (hc : refuse S.on [s] = 0) {e : Ent} (hf : find S.fs (nameOf s) = some e) (h1 : 0 ≤ i) (h2 : (e.bs.length : Int) ≤ i) :
    Calls Tryz.prog 36 #[.pointer (some ⟨d, 0, none⟩), .string s, .int .i64 i, .int .i64 k] w fun x w' => x = .returned (.int .i64 2) ∧ w.grownBy w' none := by
  have F : Hid (Calls Tryz.prog 54 #[.pointer (some ⟨d, 0, none⟩), .string s] w fun x w' => x = .returned (.tuple #[.pointer (some ⟨e.b, 0, none⟩), .int .i64 0]) ∧ w.grownBy w' none) := find_ok h s hs hc hf
  have hE := h.ents e (find_some hf).1
  obtain ⟨ao, cap, hv, _⟩ := owns_form hE.row1
  have FC : Hid (∀ w1, w.grownBy w1 none → w1.cell? ⟨e.b, 0, none⟩ = some (.slice ao e.bs.length cap)) := by
    intro w1 hg1
    have hE1 : EntAt w1 e := hE.carry fun j hj => hg1.block j (hE.lt j hj) (by simp)
    have hc0 := hE1.c0
    rwa [hv] at hc0
  clear h hs hc hf hE hv
  generalize e.bs.length = n at *
  go_enter Tryz.func36, Tryz.ntmps36
  go_wp2_with (go_at_call 54; go_fit F.out; rintro x w1 ⟨rfl, hg1⟩; have q0 := FC.out w1 hg1)
  go_ret
  exact ⟨rfl, hg1⟩
theorem spoil_arg3 {w : World} {d bm : Nat} {S : St} (h : DiskAt w d bm S) (s : ByteArray) (hs : s.size ≤ maxLen) (i k : Int) (hc : refuse S.on [s] = 0) {e : Ent} (hf : find S.fs (nameOf s) = some e) (h1 : 0 ≤ i) (h2 : i < (e.bs.length : Int)) (h3 : k < 0) :
    Calls Tryz.prog 36 #[.pointer (some ⟨d, 0, none⟩), .string s, .int .i64 i, .int .i64 k] w fun x w' => x = .returned (.int .i64 2) ∧ w.grownBy w' none := by
  have F : Hid (Calls Tryz.prog 54 #[.pointer (some ⟨d, 0, none⟩), .string s] w fun x w' => x = .returned (.tuple #[.pointer (some ⟨e.b, 0, none⟩), .int .i64 0]) ∧ w.grownBy w' none) := find_ok h s hs hc hf
  have hE := h.ents e (find_some hf).1
  obtain ⟨ao, cap, hv, _⟩ := owns_form hE.row1
  have FC : Hid (∀ w1, w.grownBy w1 none → w1.cell? ⟨e.b, 0, none⟩ = some (.slice ao e.bs.length cap)) := by
    intro w1 hg1
    have hE1 : EntAt w1 e := hE.carry fun j hj => hg1.block j (hE.lt j hj) (by simp)
    have hc0 := hE1.c0
    rwa [hv] at hc0
  clear h hs hc hf hE hv
  generalize e.bs.length = n at *
  go_enter Tryz.func36, Tryz.ntmps36
  go_wp2_with (go_at_call 54; go_fit F.out; rintro x w1 ⟨rfl, hg1⟩; have q0 := FC.out w1 hg1)
  go_ret
  exact ⟨rfl, hg1⟩
theorem spoil_arg4 {w : World} {d bm : Nat} {S : St} (h : DiskAt w d bm S) (s : ByteArray) (hs : s.size ≤ maxLen) (i k : Int) (hc : refuse S.on [s] = 0) {e : Ent} (hf : find S.fs (nameOf s) = some e) (h1 : 0 ≤ i) (h2 : i < (e.bs.length : Int)) (h3 : 0 ≤ k) (h4 : 7 < k) :
    Calls Tryz.prog 36 #[.pointer (some ⟨d, 0, none⟩), .string s, .int .i64 i, .int .i64 k] w fun x w' => x = .returned (.int .i64 2) ∧ w.grownBy w' none := by
  have F : Hid (Calls Tryz.prog 54 #[.pointer (some ⟨d, 0, none⟩), .string s] w fun x w' => x = .returned (.tuple #[.pointer (some ⟨e.b, 0, none⟩), .int .i64 0]) ∧ w.grownBy w' none) := find_ok h s hs hc hf
  have hE := h.ents e (find_some hf).1
  obtain ⟨ao, cap, hv, _⟩ := owns_form hE.row1
  have FC : Hid (∀ w1, w.grownBy w1 none → w1.cell? ⟨e.b, 0, none⟩ = some (.slice ao e.bs.length cap)) := by
    intro w1 hg1
    have hE1 : EntAt w1 e := hE.carry fun j hj => hg1.block j (hE.lt j hj) (by simp)
    have hc0 := hE1.c0
    rwa [hv] at hc0
  clear h hs hc hf hE hv
  generalize e.bs.length = n at *
  go_enter Tryz.func36, Tryz.ntmps36
  go_wp2_with (go_at_call 54; go_fit F.out; rintro x w1 ⟨rfl, hg1⟩; have q0 := FC.out w1 hg1)
  go_ret
  exact ⟨rfl, hg1⟩
end Go.Proofs.YtoeoioigelknnaaGreat
namespace Go.Proofs.YtoeoioigelknnaaGreat
open Go.RowKit Go.Maps Go.Sort Go.Shelf

theorem keys_datum (fs : List Ent) : strKeys (datum fs) = fs.map Ent.nm := by
  unfold strKeys datum
  simp
  intro a _
  rfl
theorem size_datum (fs : List Ent) : Maps.size (datum fs) = fs.length := by
  unfold Maps.size datum
  simp
set_option maxHeartbeats 1000000 in
theorem list_on {w : World} {d bm : Nat} {S : St} (h : DiskAt w d bm S) (hon : S.on = true) (hn : S.fs.length ≤ 1000000) :
    Calls Tryz.prog 10 #[.pointer (some ⟨d, 0, none⟩)] w fun e w' => ∃ (v : Value) (ss : List (List UInt8)), e = .returned v ∧ ss.Perm (S.fs.map Ent.nm) ∧
      w'.ownsRow w.heap.size 9 1 v ss.length ((ss.mergeSort (fun x y => decide (x ≤ y))).map encStr) ∧ Below w.heap.size w w' := by
  have R := refusal_nil h
  rw [hon] at R
  have R : Hid (CallsIn Fence.wide 5 Tryz.prog 42 #[.pointer (some ⟨d, 0, none⟩), .slice none 0 0] w fun x w' => x = .returned (.int .i64 0) ∧ w' = w) := callsIn_wide.2 R
  have c0 := h.c0
  have hown := h.map
  have hz := size_datum S.fs
  have hmax : Maps.size (datum S.fs) ≤ maxLen := by rw [hz]; unfold maxLen; omega
  have hbytes : Maps.size (datum S.fs) * 16 ≤ 140737488355328 := by rw [hz]; omega
  clear h hz hon hn
  refine (callsIn_wide (n := 6)).1 ?_
  have hfR : Fence.wide.fn 42 := trivial
  have hfK : Fence.wide.fn 44 := trivial
  have hfS : Fence.wide.fn 43 := trivial
  refine callsIn_of_wp Tryz.func10 rfl trivial ?_ rfl
  simp only [Tryz.ntmps10, List.size_toArray, List.length_cons, List.length_nil, Nat.reduceAdd, Nat.reduceSub, Array.replicate_succ, Array.replicate_zero, List.push_toArray, List.append_toArray, List.nil_append, List.cons_append]
  gi_wp2_with (first
    | (gi_at_call 42; refine R.out.mono ?_; rintro e w1 ⟨rfl, rfl⟩)
    | (gi_at_call 44; refine (Tryz.maps_Keys_44 _ _).mono ?_; rintro e w' ⟨rfl, rfl⟩)
    | (gi_at_call 43; refine (Tryz.slices_Sorted_keys_43_44 bm S.fs.length (datum S.fs) ptrElem w1 hown hmax hbytes).mono ?_; rintro e w' ⟨v, ss, rfl, hS, hrow, hnil, hb⟩))
  go_ret
  rw [keys_datum] at hS
  exact ⟨v, ss, rfl, hS, ownsRow_base_a hrow (by simp), ((Below.refl _ w1).alloc (Nat.le_refl _) _).trans (hb.mono (by simp))⟩
theorem list_off {w : World} {d bm : Nat} {S : St} (h : DiskAt w d bm S) (hon : S.on = false) :
    Calls Tryz.prog 10 #[.pointer (some ⟨d, 0, none⟩)] w fun e w' => e = .returned (.slice none 0 0) ∧ w' = w := by
  have R := refusal_nil h
  rw [hon] at R
  have R : Hid (Calls Tryz.prog 42 #[.pointer (some ⟨d, 0, none⟩), .slice none 0 0] w fun x w' => x = .returned (.int .i64 9) ∧ w' = w) := R
  clear h hon
  go_enter Tryz.func10, Tryz.ntmps10
  go_wp2_with (go_at_call 42; refine R.out.mono ?_; rintro x w1 ⟨rfl, rfl⟩)
  go_ret
  exact ⟨rfl, rfl⟩
end Go.Proofs.YtoeoioigelknnaaGreat
namespace Go.Proofs.YtoeoioigelknnaaGreat
open Go.RowKit

/-! ### The number that bytes begin with. -/
/-- i digits, which come to acc, are read; l is left. -/
def getN : Nat → Nat → List UInt8 → Option (Nat × List UInt8)
  | _, _, [] => none
  | i, acc, b :: r =>
    if (i = 9 ∧ 1 < b.toNat) ∨ (0 < i ∧ b.toNat = 0) then none
    else if b.toNat < 128 then some (acc + b.toNat % 128 * 2 ^ (7 * i), r)
    else getN (i + 1) (acc + b.toNat % 128 * 2 ^ (7 * i)) r

theorem digit_bd (i acc x : Nat) (h : acc < 2 ^ (7 * i)) : acc + x % 128 * 2 ^ (7 * i) < 2 ^ (7 * (i + 1)) := by
  have e : 2 ^ (7 * (i + 1)) = 128 * 2 ^ (7 * i) := by rw [show 7 * (i + 1) = 7 + 7 * i by omega, Nat.pow_add]
  have h1 : x % 128 * 2 ^ (7 * i) ≤ 127 * 2 ^ (7 * i) := Nat.mul_le_mul_right _ (by omega)
  rw [e]
  omega
/-- What a round of number's text reckons. -/
theorem or_text (i acc x : Nat) (h : acc < 2 ^ (7 * i)) (hi : i ≤ 9) (h9 : i = 9 → x ≤ 1) :
    bits BinOp.or IntKind.u64 (acc : Int) (IntKind.u64.wrap ((x : Int) % 128 * 2 ^ (7 * i))) = ((acc + x % 128 * 2 ^ (7 * i) : Nat) : Int) := by
  have hp : 2 ^ (7 * i) ≤ 2 ^ 63 := Nat.pow_le_pow_right (by omega) (by omega)
  have hy : x % 128 * 2 ^ (7 * i) < 18446744073709551616 := by
    rcases Nat.lt_or_ge i 9 with h1 | h1
    · have h2 : 2 ^ (7 * i) ≤ 2 ^ 56 := Nat.pow_le_pow_right (by omega) (by omega)
      have h3 : x % 128 * 2 ^ (7 * i) ≤ 127 * 2 ^ 56 := Nat.mul_le_mul (by omega) h2
      omega
    · have hx := h9 (by omega)
      have h3 : x % 128 * 2 ^ (7 * i) ≤ 1 * 2 ^ 63 := Nat.mul_le_mul (by omega) hp
      omega
  have e : (x : Int) % 128 * 2 ^ (7 * i) = ((x % 128 * 2 ^ (7 * i) : Nat) : Int) := by simp
  rw [e, IntWalk.u64_in _ ⟨by omega, by omega⟩, u64_or_nat _ _ (by omega) hy]
  have h4 := Nat.two_pow_add_eq_or_of_lt h (x % 128)
  rw [Nat.or_comm, Nat.mul_comm, ← h4, Nat.mul_comm, Nat.add_comm]
end Go.Proofs.YtoeoioigelknnaaGreat
