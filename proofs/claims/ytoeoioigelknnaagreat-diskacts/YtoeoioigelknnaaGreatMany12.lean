/-
  SEVERAL TEXTS IN ONE: DskApartP, DskFull, CodRead.
-/
import Derived.Test.YtoeoioigelknnaaGreatDskInv
import Derived.Test.YtoeoioigelknnaaGreatDskAppend
import Derived.Test.YtoeoioigelknnaaGreatMany8
import Derived.WalkLawsBesides
import Derived.WalkSmall
import Derived.Deep.QuietTactic
import Derived.BigQuiet
namespace Go.Proofs.YtoeoioigelknnaaGreat
open Go.RowKit Go.Maps

theorem grown_of_below {w w' : World} (h : Below w.heap.size w w') : w.grownBy w' none := ⟨h.os, h.tape, h.output, h.size, fun k hk _ => h.block k hk⟩
theorem kp_out {w0 : World} {d : Nat} {A : Ab} {w1 : World} {F : Nat} {args : Array Value} {r : Int × Ab} (h : Kp w0 d A w1) (hc : ∀ ft, At d A ft w1 → Moved w0 w1 [] ft → Calls Tryz.prog F args w1 (Out d ft w1 r)) : Calls Tryz.prog F args w1 fun x w' => x = .returned (.int .i64 r.1) ∧ Kp w0 d r.2 w' := by
  obtain ⟨ft, h1, h2⟩ := h
  refine (hc ft h1 h2).mono ?_
  rintro x w' ⟨rfl, ft', a1, a2⟩
  exact ⟨rfl, ft', a1, h2.trans a2⟩
theorem Kp.names {w0 : World} {d : Nat} {A : Ab} {w1 : World} (h : Kp w0 d A w1) : A.sp.Pairwise fun x y => x.nm ≠ y.nm := by
  obtain ⟨ft, h1, _⟩ := h
  exact h1.names
theorem nameOf_ne {a b : ByteArray} (h : a ≠ b) : nameOf b ≠ nameOf a := fun e => h (by
  cases a
  cases b
  simp only [nameOf] at e
  congr 1
  exact (Array.toList_inj.1 e).symm)
section
variable {w0 : World} {d : Nat} {A : Ab} {k : Nat} {w1 : World} (h : Kp w0 d A w1) (hi : A.Inv k) (hk : k ≤ 1000) (s : ByteArray) (hs : s.size ≤ maxLen)
include h hi hk hs
theorem kpm_create : Calls Tryz.prog 18 #[.pointer (some ⟨d, 0, none⟩), .string s] w1 fun x w' => x = .returned (.int .i64 (createM A s).1) ∧ (createM A s).2.Inv (k + 1) ∧ Kp w0 d (createM A s).2 w' :=
  (kp_out h fun _ h1 _ => abx_create h1 s hs hi.fine hi.left1 (hi.ops1 (by omega)) hi.left2).mono fun _ _ hh => ⟨hh.1, createM_inv hi s, hh.2⟩
theorem kpm_sync : Calls Tryz.prog 20 #[.pointer (some ⟨d, 0, none⟩), .string s] w1 fun x w' => x = .returned (.int .i64 (syncM A s).1) ∧ (syncM A s).2.Inv (k + 1) ∧ Kp w0 d (syncM A s).2 w' :=
  (kp_out h fun _ h1 _ => abx_sync h1 s hs hi.left1 (hi.ops1 (by omega)) hi.left2).mono fun _ _ hh => ⟨hh.1, syncM_inv hi h.names s, hh.2⟩
theorem kpm_remove : Calls Tryz.prog 32 #[.pointer (some ⟨d, 0, none⟩), .string s] w1 fun x w' => x = .returned (.int .i64 (removeM A s).1) ∧ (removeM A s).2.Inv (k + 1) ∧ Kp w0 d (removeM A s).2 w' :=
  (kp_out h fun _ h1 _ => abx_remove h1 s hs hi.left1 (hi.ops1 (by omega)) hi.left2).mono fun _ _ hh => ⟨hh.1, removeM_inv hi s, hh.2⟩
theorem kpm_rename (u : ByteArray) (hu : u.size ≤ maxLen) : Calls Tryz.prog 30 #[.pointer (some ⟨d, 0, none⟩), .string s, .string u] w1 fun x w' => x = .returned (.int .i64 (renameM A s u).1) ∧ (renameM A s u).2.Inv (k + 1) ∧ Kp w0 d (renameM A s u).2 w' :=
  (kp_out h fun _ h1 _ => abx_rename h1 s hs u hu hi.fine hi.left1 (hi.ops1 (by omega)) hi.left2).mono fun _ _ hh => ⟨hh.1, renameM_inv hi s u, hh.2⟩
omit hk in
theorem kpm_spoil (i j : Int) : Calls Tryz.prog 36 #[.pointer (some ⟨d, 0, none⟩), .string s, .int .i64 i, .int .i64 j] w1 fun x w' => x = .returned (.int .i64 (spoilM A s i j).1) ∧ (spoilM A s i j).2.Inv (k + 1) ∧ Kp w0 d (spoilM A s i j).2 w' :=
  (kp_out h fun _ h1 _ => abx_spoil h1 s hs hi.fine i j).mono fun _ _ hh => ⟨hh.1, spoilM_inv hi h.names s i j, hh.2⟩
theorem kpm_append (ao : Option Addr) (l : List UInt8) (c : Nat) (hb : Sees w0 ao l) (hl : l.length ≤ 1000000000) : Calls Tryz.prog 19 #[.pointer (some ⟨d, 0, none⟩), .string s, .slice ao l.length c] w1 fun x w' => x = .returned (.int .i64 (appendM A s l).1) ∧ (appendM A s l).2.Inv (k + 1) ∧ Kp w0 d (appendM A s l).2 w' := by
  have hn := h.names
  have hse := h.sees hb
  refine (kp_out h fun ft h1 h2 => abx_append h1 s hs ao l c hse (fun a ha h0 hi => ?_) hi.fine hi.left1 (hi.ops1 (by omega)) hi.left2 (hi.next1 (by omega)) (fun t ht => by have := hi.len ht; omega)).mono fun _ _ hh => ⟨hh.1, appendM_inv hi hn s l, hh.2⟩
  have := hb.lt ha h0
  rcases h2.news _ hi with h3 | h3
  · simp at h3
  · omega
end
/-- The file has these bytes. -/
def KA (w0 : World) (d : Nat) (nm : List UInt8) (data : List UInt8) (k : Nat) (w1 : World) : Prop := ∃ A, A.Inv k ∧ (∃ t, findT A.sp nm = some t ∧ t.bs = data) ∧ Kp w0 d A w1
section
variable {w0 : World} {d : Nat} {nm data : List UInt8} {k : Nat} {w1 : World}
theorem KA.grown (h : KA w0 d nm data k w1) {w2 : World} (hg : w1.grownBy w2 none) : KA w0 d nm data k w2 := by
  obtain ⟨A, h1, h2, h3⟩ := h
  exact ⟨A, h1, h2, h3.grown hg⟩
theorem KA.more (h : KA w0 d nm data k w1) {k' : Nat} (hk : k ≤ k') : KA w0 d nm data k' w1 := by
  obtain ⟨A, h1, h2, h3⟩ := h
  exact ⟨A, h1.more hk, h2, h3⟩
theorem KA.below (h : KA w0 d nm data k w1) : Below w0.heap.size w0 w1 := by
  obtain ⟨A, h1, h2, h3⟩ := h
  exact h3.below
variable (h : KA w0 d nm data k w1) (hk : k ≤ 1000) (s : ByteArray) (hs : s.size ≤ maxLen) (hne : nm ≠ nameOf s)
include h hk hs hne
theorem ka_create : Calls Tryz.prog 18 #[.pointer (some ⟨d, 0, none⟩), .string s] w1 fun x w' => ∃ c, x = .returned (.int .i64 c) ∧ KA w0 d nm data (k + 1) w' := by
  obtain ⟨A, h1, ⟨t, h2, e⟩, h3⟩ := h
  exact (kpm_create h3 h1 hk s hs).mono fun x w' ⟨a, b, c⟩ => ⟨_, a, _, b, ⟨t, by rw [create_other A s hne]; exact h2, e⟩, c⟩
theorem ka_sync : Calls Tryz.prog 20 #[.pointer (some ⟨d, 0, none⟩), .string s] w1 fun x w' => ∃ c, x = .returned (.int .i64 c) ∧ KA w0 d nm data (k + 1) w' := by
  obtain ⟨A, h1, ⟨t, h2, e⟩, h3⟩ := h
  exact (kpm_sync h3 h1 hk s hs).mono fun x w' ⟨a, b, c⟩ => ⟨_, a, _, b, ⟨t, by rw [sync_other A s hne]; exact h2, e⟩, c⟩
theorem ka_remove : Calls Tryz.prog 32 #[.pointer (some ⟨d, 0, none⟩), .string s] w1 fun x w' => ∃ c, x = .returned (.int .i64 c) ∧ KA w0 d nm data (k + 1) w' := by
  obtain ⟨A, h1, ⟨t, h2, e⟩, h3⟩ := h
  exact (kpm_remove h3 h1 hk s hs).mono fun x w' ⟨a, b, c⟩ => ⟨_, a, _, b, ⟨t, by rw [remove_other A s hne]; exact h2, e⟩, c⟩
theorem ka_rename (u : ByteArray) (hu : u.size ≤ maxLen) (hnu : nm ≠ nameOf u) : Calls Tryz.prog 30 #[.pointer (some ⟨d, 0, none⟩), .string s, .string u] w1 fun x w' => ∃ c, x = .returned (.int .i64 c) ∧ KA w0 d nm data (k + 1) w' := by
  obtain ⟨A, h1, ⟨t, h2, e⟩, h3⟩ := h
  exact (kpm_rename h3 h1 hk s hs u hu).mono fun x w' ⟨a, b, c⟩ => ⟨_, a, _, b, ⟨t, by rw [rename_other A s u hne hnu]; exact h2, e⟩, c⟩
omit hk in
theorem ka_spoil (i j : Int) : Calls Tryz.prog 36 #[.pointer (some ⟨d, 0, none⟩), .string s, .int .i64 i, .int .i64 j] w1 fun x w' => ∃ c, x = .returned (.int .i64 c) ∧ KA w0 d nm data (k + 1) w' := by
  obtain ⟨A, h1, ⟨t, h2, e⟩, h3⟩ := h
  exact (kpm_spoil h3 h1 s hs i j).mono fun x w' ⟨a, b, c⟩ => ⟨_, a, _, b, ⟨t, by rw [spoil_other A s i j hne]; exact h2, e⟩, c⟩
theorem ka_append (ao : Option Addr) (l : List UInt8) (c : Nat) (hb : Sees w0 ao l) (hl : l.length ≤ 1000000000) : Calls Tryz.prog 19 #[.pointer (some ⟨d, 0, none⟩), .string s, .slice ao l.length c] w1 fun x w' => ∃ c, x = .returned (.int .i64 c) ∧ KA w0 d nm data (k + 1) w' := by
  obtain ⟨A, h1, ⟨t, h2, e⟩, h3⟩ := h
  exact (kpm_append h3 h1 hk s hs ao l c hb hl).mono fun x w' ⟨a, b, c⟩ => ⟨_, a, _, b, ⟨t, by rw [append_other A s l hne]; exact h2, e⟩, c⟩
end
section
variable {w0 : World} {d : Nat} {w1 : World}
theorem refuse_name (s : ByteArray) : refuse true [s] = if goodB (nameOf s) then 0 else 3 := by
  unfold refuse
  simp
/-- The first file, where the name is good. -/
theorem kb_create (h : Kp w0 d (newA 1048576) w1) (s : ByteArray) (hs : s.size ≤ maxLen) (hg : goodB (nameOf s) = true) : Calls Tryz.prog 18 #[.pointer (some ⟨d, 0, none⟩), .string s] w1 fun x w' => x = .returned (.int .i64 0) ∧ Kp w0 d (crT (newA 1048576) (nameOf s)) w' := by
  have e : createM (newA 1048576) s = (0, crT (newA 1048576) (nameOf s)) := by
    unfold createM
    rw [if_pos (show refuse (newA 1048576).on [s] = 0 by show refuse true [s] = 0; rw [refuse_name, hg]; rfl)]
    rfl
  have := kpm_create h (newA_inv 1048576 (by omega)) (by omega) s hs
  rw [e] at this
  exact this.mono fun _ _ hh => ⟨hh.1, hh.2.2⟩
theorem kb_wrong (h : Kp w0 d (newA 1048576) w1) (s : ByteArray) (hs : s.size ≤ maxLen) (hg : goodB (nameOf s) = false) : Calls Tryz.prog 18 #[.pointer (some ⟨d, 0, none⟩), .string s] w1 fun x w' => x = .returned (.int .i64 3) ∧ Kp w0 d (newA 1048576) w' := by
  have h3 : refuse (newA 1048576).on [s] = 3 := by show refuse true [s] = 3; rw [refuse_name, hg]; rfl
  have e : createM (newA 1048576) s = (3, newA 1048576) := by
    unfold createM
    rw [if_neg (by rw [h3]; omega), h3]
  have := kpm_create h (newA_inv 1048576 (by omega)) (by omega) s hs
  rw [e] at this
  exact this.mono fun _ _ hh => ⟨hh.1, hh.2.2⟩
theorem kb_append {s : ByteArray} (h : Kp w0 d (crT (newA 1048576) (nameOf s)) w1) (hs : s.size ≤ maxLen) (hg : goodB (nameOf s) = true) (ao : Option Addr) (l : List UInt8) (c : Nat) (hb : Sees w0 ao l) (hl : l.length ≤ 1000) : Calls Tryz.prog 19 #[.pointer (some ⟨d, 0, none⟩), .string s, .slice ao l.length c] w1 fun x w' => x = .returned (.int .i64 0) ∧ KA w0 d (nameOf s) l 2 w' := by
  have hr : refuse true [s] = 0 := by rw [refuse_name, hg]; rfl
  have hi : (crT (newA 1048576) (nameOf s)).Inv 1 := by
    refine crT_inv (newA_inv 1048576 (by omega)) _ ?_
    show usedT [] + 1 ≤ 1048576
    rw [usedT_nil]
    omega
  have hsp : (crT (newA 1048576) (nameOf s)).sp = [⟨nameOf s, [], 0, []⟩] := rfl
  have hf : findT (crT (newA 1048576) (nameOf s)).sp (nameOf s) = some ⟨nameOf s, [], 0, []⟩ := by rw [hsp, findT_cons, if_pos rfl]
  have hlack : ¬ ((crT (newA 1048576) (nameOf s)).room : Int) - (usedT (crT (newA 1048576) (nameOf s)).sp : Int) < lackT ⟨nameOf s, [], 0, []⟩ l := by
    rw [hsp, usedT_cons, usedT_nil]
    unfold lackT uT
    have a1 := secI_nat l.length
    have a2 := secI_nat 0
    simp only [List.length_nil]
    show ¬ (1048576 : Int) - _ < _
    rw [show ((0 : Nat) : Int) + (l.length : Int) = (l.length : Int) by omega, a1, a2]
    omega
  have e : appendM (crT (newA 1048576) (nameOf s)) s l = (0, appT (crT (newA 1048576) (nameOf s)) (nameOf s) ⟨nameOf s, [], 0, []⟩ l) := by
    unfold appendM
    rw [if_pos (show refuse (crT (newA 1048576) (nameOf s)).on [s] = 0 from hr), hf]
    simp only
    rw [if_neg hlack]
  have := kpm_append h hi (by omega) s hs ao l c hb (by omega)
  rw [e] at this
  refine this.mono fun x w' ⟨a, b, c⟩ => ⟨a, _, b, ⟨⟨nameOf s, [] ++ l, 0, [] ++ List.range' 0 (growT ⟨nameOf s, [], 0, []⟩ l)⟩, ?_, rfl⟩, c⟩
  show findT (upd (crT (newA 1048576) (nameOf s)).sp (nameOf s) _) (nameOf s) = _
  rw [hsp]
  have h2 : upd [⟨nameOf s, [], 0, []⟩] (nameOf s) ⟨nameOf s, [] ++ l, 0, [] ++ List.range' (crT (newA 1048576) (nameOf s)).next (growT ⟨nameOf s, [], 0, []⟩ l)⟩ = [⟨nameOf s, [] ++ l, 0, [] ++ List.range' (crT (newA 1048576) (nameOf s)).next (growT ⟨nameOf s, [], 0, []⟩ l)⟩] := by simp [upd]
  rw [h2, findT_cons, if_pos rfl]
  rfl
theorem kb_read {nm : ByteArray} {data : List UInt8} {k : Nat} (h : KA w0 d (nameOf nm) data k w1) (hs : nm.size ≤ maxLen) (hg : goodB (nameOf nm) = true) {ao : Option Addr} (cd : Nat) (hse : Sees w0 ao data) (hz : ao = none → data.length = 0) : Calls Tryz.prog 23 #[.pointer (some ⟨d, 0, none⟩), .string nm] w1 fun x w' => ∃ a2 c, x = .returned (.tuple #[.slice a2 data.length c, .int .i64 0]) ∧ Below w0.heap.size w0 w' ∧ Calls Tryz.prog 35 #[.slice a2 data.length c, .slice ao data.length cd] w' fun e w2 => e = .returned (.bool true) ∧ w2 = w' := by
  obtain ⟨A, hi, ⟨t, hf, rfl⟩, hK⟩ := h
  refine (kp_read hK nm hs (by rw [hi.on, refuse_name, hg]; rfl) hf (by have := hi.len (findT_mem hf).1; omega)).mono ?_
  rintro x w' ⟨a2, c, rfl, hs2, hn2, hc, hg2, hK2⟩
  have := same_anyD a2 ao t.bs t.bs c cd w' hs2 (hK2.sees hse) hn2 hz
  rw [beq_self_eq_true] at this
  exact ⟨a2, c, rfl, hK2.below, this⟩
end
end Go.Proofs.YtoeoioigelknnaaGreat
namespace Go.Proofs.YtoeoioigelknnaaGreat
open Go.RowKit Go.Maps

section
variable {w : World} {d bm : Nat} {S : St} (h : DiskAt w d bm S) (s : ByteArray) (hs : s.size ≤ maxLen) (ao : Option Addr) (l : List UInt8) (c : Nat) (hb : Sees w ao l)
include h hs hb
set_option maxRecDepth 100000 in
set_option maxHeartbeats 2000000 in
theorem append_full (hc : refuse S.on [s] = 0) {e : Ent} (hf : find S.fs (nameOf s) = some e) (hlen : e.bs.length + l.length ≤ 1099511627776) (hr : S.room ≤ 1073741824) (hu : sumUsed S.fs ≤ 1099511627776) (hfull : decide ((S.room : Int) - (sumUsed S.fs : Int) < secI ((e.bs.length : Int) + (l.length : Int)) - secI (e.bs.length : Int)) = true) :
    Calls Tryz.prog 19 #[.pointer (some ⟨d, 0, none⟩), .string s, .slice ao l.length c] w fun x w' => AppOut w d bm S e l true x w' := by
  have hmf : ∀ (fn : Fn) (first cap : Array Value) (w : World), (Instr.makeFunc fn first cap).run Tryz.prog w = .ok (.func fn first cap) w := fun _ _ _ _ => rfl
  have he := (find_some hf).1
  have FN : Hid (Calls Tryz.prog 54 #[.pointer (some ⟨d, 0, none⟩), .string s] ((w.alloc (.cells #[.pointer (some ⟨d, 0, none⟩)] 23)).alloc (.cells #[.slice ao l.length c] 29)) fun x w' => x = .returned (.tuple #[.pointer (some ⟨e.b, 0, none⟩), .int .i64 0]) ∧ ((w.alloc (.cells #[.pointer (some ⟨d, 0, none⟩)] 23)).alloc (.cells #[.slice ao l.length c] 29)).grownBy w' none) := find_ok ((h.alloc _).alloc _) s hs hc hf
  have BX : Hid (∀ w1, ((w.alloc (.cells #[.pointer (some ⟨d, 0, none⟩)] 23)).alloc (.cells #[.slice ao l.length c] 29)).grownBy w1 none → Boxed3 w d bm S e ao l c w1.heap.size (w1.alloc (.cells #[.pointer (some ⟨e.b, 0, none⟩)] 70))) := fun w1 hg => boxes_two h c hb hg e
  have LC : Hid (∀ g w3, Boxed3 w d bm S e ao l c g w3 → ∀ k, Calls Tryz.prog 55 #[.pointer (some ⟨e.b, 0, none⟩), .int .i64 (l.length : Int)] (w3.drewN k) fun x w4 => x = .returned (.int .i64 (secI ((e.bs.length : Int) + (l.length : Int)) - secI (e.bs.length : Int))) ∧ Boxed3 w d bm S e ao l c g w4) := fun g w3 hB k => (lacks_any ((hB.drewN k).disk.ents e he) l.length (by omega)).mono fun x w4 hh => ⟨hh.1, by obtain ⟨k', hk'⟩ := hh.2; rw [hk']; exact (hB.drewN k).drewN k'⟩
  have FC : Hid (∀ g w3, Boxed3 w d bm S e ao l c g w3 → ∀ k, Calls Tryz.prog 50 #[.pointer (some ⟨d, 0, none⟩)] (w3.drewN k) fun x w4 => x = .returned (.int .i64 ((S.room : Int) - (sumUsed S.fs : Int))) ∧ Boxed3 w d bm S e ao l c g w4) := fun g w3 hB k => (free_any (hB.drewN k).disk (refuse_on hc) hu hr).mono fun x w4 hh => ⟨hh.1, (hB.drewN k).grown hh.2⟩
  have LP : Hid (∀ g w3, Boxed3 w d bm S e ao l c g w3 → Calls Tryz.prog 55 #[.pointer (some ⟨e.b, 0, none⟩), .int .i64 (l.length : Int)] w3 fun x w4 => x = .returned (.int .i64 (secI ((e.bs.length : Int) + (l.length : Int)) - secI (e.bs.length : Int))) ∧ Boxed3 w d bm S e ao l c g w4) := fun g w3 hB => LC.out g w3 hB 0
  have FP : Hid (∀ g w3, Boxed3 w d bm S e ao l c g w3 → Calls Tryz.prog 50 #[.pointer (some ⟨d, 0, none⟩)] w3 fun x w4 => x = .returned (.int .i64 ((S.room : Int) - (sumUsed S.fs : Int))) ∧ Boxed3 w d bm S e ao l c g w4) := fun g w3 hB => FC.out g w3 hB 0
  have hd := h.head.lt
  have ha := secI_bd (x := (e.bs.length : Int) + (l.length : Int)) ⟨by omega, by omega⟩
  clear hb he hf hc hs hlen h
  generalize (S.room : Int) - (sumUsed S.fs : Int) = fr at *
  generalize secI ((e.bs.length : Int) + (l.length : Int)) - secI (e.bs.length : Int) = lk at *
  clear ha
  go_enter Tryz.func19, Tryz.ntmps19
  go_wp2_with (go_at_call 54; go_fit FN.out; rintro x w1 ⟨rfl, hg⟩)
  have hB := BX.out w1 hg
  have k1 := hB.k1
  have k2 := hB.k2
  have k3 := hB.k3
  generalize w1.alloc (.cells #[.pointer (some ⟨e.b, 0, none⟩)] 70) = wb at *
  generalize w1.heap.size = g at *
  clear hg FN BX
  go_region_law (first
    | (go_simp; go_at_call 55; first | (have hX := hBF; go_fit (LP.out g _ hBF); rintro x w5 ⟨rfl, hBL⟩) | (go_fit (LC.out g _ hB _); rintro x w5 ⟨rfl, hBL⟩; have m1 := hBL.k1; have m2 := hBL.k2; have m3 := hBL.k3))
    | (go_simp; go_at_call 50; first | (have hX := hBL; go_fit (FP.out g _ hBL); rintro x w6 ⟨rfl, hBF⟩) | (go_fit (FC.out g _ hB _); rintro x w6 ⟨rfl, hBF⟩; have n1 := hBF.k1; have n2 := hBF.k2; have n3 := hBF.k3)))
  all_goals
    have z1 := hBF.k1
    go_wp2
    go_ret
    exact ⟨rfl, hBF.disk, hBF.moved⟩
end
end Go.Proofs.YtoeoioigelknnaaGreat
namespace Go.Proofs.YtoeoioigelknnaaGreat
open Go.RowKit

/-- A reader in block R: its bytes are l (at ao), n of them are read. -/
structure Rd (w : World) (R : Nat) (ao : Option Addr) (l : List UInt8) (cap n : Nat) : Prop where
  c0 : w.cell? ⟨R, 0, none⟩ = some (.slice ao l.length cap)
  c1 : w.cell? ⟨R, 1, none⟩ = some (.int .i64 n)
  f1 : w.frozen? ⟨R, 1, none⟩ = false
  le : n ≤ l.length
  max : l.length ≤ 140737488355000
  sees : Sees w ao l
  ne : l.length ≠ 0 → ∀ a, ao = some a → a.block ≠ R
theorem Rd.drewN {w : World} {R : Nat} {ao : Option Addr} {l : List UInt8} {cap n : Nat} (h : Rd w R ao l cap n) (k : Nat) : Rd (w.drewN k) R ao l cap n := ⟨h.c0, h.c1, h.f1, h.le, h.max, h.sees, h.ne⟩

/-- The reader goes to another place. -/
theorem Rd.set {w : World} {R : Nat} {ao : Option Addr} {l : List UInt8} {cap n : Nat} (h : Rd w R ao l cap n) {m : Nat} (hm : m ≤ l.length) (z : Int) (hz : z = (m : Int)) : Rd (w.setCell ⟨R, 1, none⟩ (.int .i64 z)) R ao l cap m := by
  subst hz
  refine ⟨?_, ?_, ?_, hm, h.max, ?_, h.ne⟩
  · rw [World.cell?_setCell_other _ _ _ _ (by simp)]; exact h.c0
  · exact World.cell?_setCell_same _ _ _ h.c1
  · rw [World.frozen?_setCell]; exact h.f1
  · intro i hi
    obtain ⟨a, e, hc⟩ := h.sees i hi
    refine ⟨a, e, ?_⟩
    rw [World.cell?_setCell_other _ _ _ _ ?_]
    · exact hc
    · intro e'
      have := congrArg Addr.block e'
      rw [Addr.add_block] at this
      exact h.ne (by omega) a e this.symm
theorem grownBy_drewN {w w' : World} {r : Option Nat} (h : w.grownBy w' r) (k : Nat) : w.grownBy (w'.drewN k) r := ⟨h.os, h.tape, h.output, h.size, h.block⟩

theorem sees_at {w : World} {ao : Option Addr} {l : List UInt8} (h : Sees w ao l) {n : Nat} (hn : n < l.length) : ∃ b off, ao = some ⟨b, off, none⟩ ∧ w.cell? ⟨b, off + n, none⟩ = some (.int .u8 ((l.getD n 0).toNat : Int)) := by
  obtain ⟨a, rfl, hc⟩ := h n hn
  obtain ⟨a', e, hc0⟩ := h 0 (by omega)
  obtain rfl := Option.some.inj e
  obtain ⟨b, off, spot⟩ := a
  have hspot : spot = none := by simpa [Addr.add] using World.cell?_spot hc0
  subst hspot
  exact ⟨b, off, rfl, by rw [Addr.add_lit] at hc; exact hc⟩

end Go.Proofs.YtoeoioigelknnaaGreat
