/-
  SEVERAL TEXTS IN ONE: DskActL, DskObs.
-/
import Derived.Test.YtoeoioigelknnaaGreatMany22
import Derived.Test.YtoeoioigelknnaaGreatMany21
import Derived.Test.YtoeoioigelknnaaGreatMany10
namespace Go.Proofs.YtoeoioigelknnaaGreat
open Go.RowKit Go.Maps Go.WideAt Go.WideShapes

section
variable {d r : Nat} {A A' : Ab} {Q Q' : RA} {fs : List Nat} {w : World} (h : Two d r A Q fs w)
include h
theorem Two.progU {F : Nat} {args : Array Value} (hc : ∀ ft, At d A ft w → Calls Tryz.prog F args w fun x w' => x = .returned (.tuple #[]) ∧ ∃ ft', At d A' ft' w' ∧ Moved w w' ft ft') : Calls Tryz.prog F args w fun x w' => x = .returned (.tuple #[]) ∧ ∃ fs', Two d r A' Q fs' w' ∧ Moved w w' fs fs' := by
  obtain ⟨ft, fr, h1, h2, h3, rfl⟩ := h
  refine (hc ft h1).mono ?_
  rintro x w' ⟨rfl, ft', a1, a2⟩
  refine ⟨rfl, _, ⟨ft', fr, a1, h2.moved a2 (fun i hi hh => h3 i hh hi), fun i hi hh => ?_, rfl⟩, a2.wider (fun i hi => .inl (List.mem_append.2 (.inl hi))) (fun i hi => ?_)⟩
  · rcases a2.news i hi with h5 | h5
    · exact h3 i h5 hh
    · have := h2.lt i hh; omega
  · rcases List.mem_append.1 hi with h5 | h5
    · exact .inr (.inl h5)
    · exact .inl (List.mem_append.2 (.inr h5))
theorem Two.refU {F : Nat} {args : Array Value} (hc : ∀ fr, RAt r Q fr w → Calls Tryz.prog F args w fun x w' => x = .returned (.tuple #[]) ∧ ∃ fr', RAt r Q' fr' w' ∧ Moved w w' fr fr') : Calls Tryz.prog F args w fun x w' => x = .returned (.tuple #[]) ∧ ∃ fs', Two d r A Q' fs' w' ∧ Moved w w' fs fs' := by
  obtain ⟨ft, fr, h1, h2, h3, rfl⟩ := h
  refine (hc fr h2).mono ?_
  rintro x w' ⟨rfl, fr', a1, a2⟩
  refine ⟨rfl, _, ⟨ft, fr', h1.moved a2 (fun i hi hh => h3 i hi hh), a1, fun i hi hh => ?_, rfl⟩, a2.wider (fun i hi => .inl (List.mem_append.2 (.inr hi))) (fun i hi => ?_)⟩
  · rcases a2.news i hh with h5 | h5
    · exact h3 i hi h5
    · have := h1.lt i hi; omega
  · rcases List.mem_append.1 hi with h5 | h5
    · exact .inl (List.mem_append.2 (.inl h5))
    · exact .inr (.inl h5)
end
/-- Both disks in memory, as one, behind acts of so much weight. -/
def Duo (d r n : Nat) (fs : List Nat) (w : World) : Prop := ∃ A Q, Two d r A Q fs w ∧ Tie A Q ∧ Sml A n ∧ Q.fail ≤ 9223372036854775807
theorem Duo.moved {d r n : Nat} {fs : List Nat} {w w' : World} {a b : List Nat} (h : Duo d r n fs w) (hm : Moved w w' a b) (hd : ∀ i ∈ fs, i ∉ a) : Duo d r n fs w' := by
  obtain ⟨A, Q, h1, h2⟩ := h
  exact ⟨A, Q, h1.moved hm hd, h2⟩
theorem Duo.lt {d r n : Nat} {fs : List Nat} {w : World} (h : Duo d r n fs w) : ∀ i ∈ fs, i < w.heap.size := by
  obtain ⟨A, Q, h1, _⟩ := h
  exact h1.lt
theorem apl_fine {A : Ab} {nm : List UInt8} {t : Sig} {l : List UInt8} (h : (appT A nm t l).Fine) : (apL A nm t l).Fine := ⟨h.wr, h.len, h.rise, h.ahead, h.room, h.used, h.dirty⟩
set_option maxHeartbeats 1000000 in
theorem act_any {w : World} {d r n m : Nat} {fs : List Nat} (h : Duo d r n fs w) (c : ActV) (hc : c.Ok w) (hm : n + hvA c ≤ m) (hm2 : m ≤ 251) (hne : ∀ a, c.ao = some a → 0 < c.data.length → a.block ∉ fs) :
    Calls Tryz.prog 8 #[.pointer (some ⟨d, 0, none⟩), .pointer (some ⟨r, 0, none⟩), .agg (actA c)] w fun x w' => x = .returned (.bool true) ∧ ∃ fs', Duo d r m fs' w' ∧ Moved w w' fs fs' := by
  obtain ⟨A, Q, hT, hE, hS, hf⟩ := h
  obtain ⟨kind, sa, sb, ao, data, cap, a, k⟩ := c
  have hv : 1 ≤ hvA ⟨kind, sa, sb, ao, data, cap, a, k⟩ := by unfold hvA; omega
  have hdl : data.length ≤ 40 * (m - n) := by unfold hvA at hm; simp only at hm; omega
  have hm1 : n + 1 ≤ m := by omega
  have hnm : n ≤ m := by omega
  have hn251 : n ≤ 251 := by omega
  have hbig : data.length + sa.size + sb.size ≤ 562949953421312 := hc.big
  have hsa : sa.size ≤ maxLen := by unfold maxLen; omega
  have hsb : sb.size ≤ maxLen := by unfold maxLen; omega
  have hn1 : -9223372036854775808 ≤ a ∧ a ≤ 9223372036854775807 := hc.n
  have hk1 : -9223372036854775808 ≤ k ∧ k ≤ 9223372036854775807 := hc.m
  have hsee : Sees w ao data := hc.sees
  have hz : ao = none → data.length = 0 := hc.zero
  have hFA := sml_fine hE hS hn251
  have hFQ := sml_fit hE hS hn251 hf
  have ho : A.ops ≤ 4611686018427387904 := by have := hS.ops; omega
  have hlm := hS.left
  have hkp := hS.keep
  have fin : ∀ {A' : Ab} {Q' : RA} {x : Ending} {w' : World}, Tie A' Q' → Sml A' m → Q'.fail ≤ 9223372036854775807 → (x = .returned (.bool true) ∧ ∃ fs', Two d r A' Q' fs' w' ∧ Moved w w' fs fs') → x = .returned (.bool true) ∧ ∃ fs', Duo d r m fs' w' ∧ Moved w w' fs fs' := fun {A' Q' x w'} h1 h2 h3 ⟨h4, fs', h5, h6⟩ => ⟨h4, fs', ⟨A', Q', h5, h1, h2, h3⟩, h6⟩
  -- where the document's disk stands when the program's has changed: its own is as it was
  show Calls Tryz.prog 8 #[_, _, .agg #[.int .i64 kind, .string sa, .string sb, .slice ao data.length cap, .int .i64 a, .int .i64 k]] w _
  by_cases hk : kind < 0 ∨ 9 < kind
  · exact (act_other hT kind hk sa sb ao data.length cap a k).mono fun _ _ hh => fin hE (hS.mono hnm) hf hh
  have hk10 : kind = 0 ∨ kind = 1 ∨ kind = 2 ∨ kind = 3 ∨ kind = 4 ∨ kind = 5 ∨ kind = 6 ∨ kind = 7 ∨ kind = 8 ∨ kind = 9 := by omega
  clear hc
  rcases hk10 with rfl | rfl | rfl | rfl | rfl | rfl | rfl | rfl | rfl | rfl
  · have B := both_create hE sa
    refine (act_create (A' := (createX A sa).2) (Q' := (createQ Q sa).2) (c := (createX A sa).1) hT sa sb ao data.length cap a k (fun w1 h1 => h1.prog fun ft g1 _ => any_create g1 sa hsa hFA ho hlm hkp) (fun w1 fs1 h1 => ?_)).mono fun _ _ hh => fin B.2 (hS.create hm1 sa) (Nat.le_trans (fail_create Q sa) hf) hh
    rw [B.1]
    exact h1.ref fun fr g1 _ => ra_Create g1 hFQ sa hsa
  · have B := both_append hE sa data
    have hl1 : data.length ≤ 10040 := by omega
    refine (act_append (A' := (appendX A sa data).2) (Q' := (appendQ Q sa data).2) (c := (appendX A sa data).1) hT sa sb ao data cap a k hsee hz (by omega) hne (fun w1 g h1 hs1 hg => h1.prog fun ft g1 hsub => any_append g1 sa hsa (some ⟨g, 1, none⟩) data (data.length + 1) hs1 (fun p hp _ hh => ?_) hFA ho hlm hkp (by have := hS.next; omega) (fun t ht => by have := hS.len t ht; omega) (fun t ht _ => apl_fine (sml_fine (hE.append ht data) (Sml.app hE hS hm1 hm2 hdl ht) hm2))) (fun w1 fs1 h1 hs1 hn1 => ?_)).mono fun _ _ hh => fin B.2 (Sml.append hE hS hm1 hm2 sa hdl) (Nat.le_trans (fail_append Q sa data) hf) hh
    · cases hp
      exact hg (hsub g hh)
    · rw [B.1]
      refine h1.ref fun fr g1 hsub => ra_Append g1 hFQ sa hsa ao data cap hs1 hz (fun p hp h0 hh => hn1 p hp h0 (hsub _ hh)) (by omega) (fun t ht _ => ?_)
      cases hA : findT A.sp (nameOf sa) with
      | none => rw [hE.find_none hA] at ht; cases ht
      | some t' =>
        rw [hE.find_some hA] at ht
        cases ht
        exact sml_fit (hE.append hA data) (Sml.app hE hS hm1 hm2 hdl hA) hm2 (Nat.le_trans (turn_fail Q) hf)
  · have B := both_sync hE sa
    refine (act_sync (A' := (syncX A sa).2) (Q' := (syncQ Q sa).2) (c := (syncX A sa).1) hT sa sb ao data.length cap a k (fun w1 h1 => h1.prog fun ft g1 _ => any_sync g1 sa hsa hFA ho hlm hkp) (fun w1 fs1 h1 => ?_)).mono fun _ _ hh => fin B.2 (hS.sync hm1 sa) (Nat.le_trans (fail_sync Q sa) hf) hh
    rw [B.1]
    exact h1.ref fun fr g1 _ => ra_Sync g1 hFQ sa hsa
  · have B := both_rename hE sa sb
    refine (act_rename (A' := (renameX A sa sb).2) (Q' := (renameQ Q sa sb).2) (c := (renameX A sa sb).1) hT sa sb ao data.length cap a k (fun w1 h1 => h1.prog fun ft g1 _ => any_rename g1 sa hsa sb hsb hFA ho hlm hkp) (fun w1 fs1 h1 => ?_)).mono fun _ _ hh => fin B.2 (hS.rename hm1 sa sb) (Nat.le_trans (fail_rename Q sa sb) hf) hh
    rw [B.1]
    exact h1.ref fun fr g1 _ => ra_Rename g1 hFQ sa sb hsa hsb
  · have B := both_remove hE sa
    refine (act_remove (A' := (removeX A sa).2) (Q' := (removeQ Q sa).2) (c := (removeX A sa).1) hT sa sb ao data.length cap a k (fun w1 h1 => h1.prog fun ft g1 _ => any_remove g1 sa hsa hFA ho hlm hkp) (fun w1 fs1 h1 => ?_)).mono fun _ _ hh => fin B.2 (hS.remove hm1 sa) (Nat.le_trans (fail_remove Q sa) hf) hh
    rw [B.1]
    exact h1.ref fun fr g1 _ => ra_Remove g1 hFQ sa hsa
  · refine (act_read (e := (readM A sa).1) (l := (readM A sa).2) hT sa sb ao data.length cap a k (fun w1 h1 => ?_) (fun w1 h1 => ?_)).mono fun _ _ hh => fin hE (hS.mono hnm) hf hh
    · obtain ⟨ft, fr, g1, g2, _, _⟩ := h1
      exact any_read g1 sa hsa hFA
    · obtain ⟨ft, fr, g1, g2, _, _⟩ := h1
      exact ra_read hE g2 sa hsa hFQ
  · have B := both_spoil hE sa a k
    refine (act_spoil (A' := (spoilM A sa a k).2) (Q' := (spoilQ Q sa a k).2) (c := (spoilM A sa a k).1) hT sa sb ao data.length cap a k (fun w1 h1 => h1.prog fun ft g1 _ => abx_spoil g1 sa hsa hFA a k) (fun w1 fs1 h1 => ?_)).mono fun _ _ hh => fin B.2 (hS.spoil hnm sa a k) (by rw [fail_spoil]; exact hf) hh
    rw [B.1]
    exact h1.ref fun fr g1 _ => ra_Spoil g1 hFQ sa hsa a k
  · have B := both_arm hE a k
    refine (act_arm (A' := (armX A a k).2) (Q' := (armQ Q a k).2) (c := (armX A a k).1) hT sa sb ao data.length cap a k (fun w1 h1 => h1.prog fun ft g1 _ => any_arm g1 a k) (fun w1 fs1 h1 => ?_)).mono fun _ _ hh => fin B.2 (hS.arm hnm hn1.2 hk1) (fail_arm hf hn1.2) hh
    rw [B.1]
    exact h1.ref fun fr g1 _ => ra_Arm g1 a k
  · refine (act_crash (A' := if A.on then offA A a.toNat else A) (Q' := crashQ Q a) hT sa sb ao data.length cap a k (fun w1 h1 => h1.progU fun ft g1 => any_crash g1 hFA a hn1.1 hn1.2) (fun w1 fs1 h1 => h1.refU fun fr g1 => ra_Crash g1 hFQ a)).mono fun _ _ hh => fin (tie_crash hE a) ?_ (by rw [crash_fail]; exact hf) hh
    split
    · exact (hS.off _).mono hnm
    · exact hS.mono hnm
  · exact (act_start (A' := { A with on := true, left := 0 }) (Q' := { Q with off := false, fail := 0 }) hT sa sb ao data.length cap a k (fun w1 h1 => h1.progU fun ft g1 => (ab_start g1).mono fun _ _ hh => ⟨hh.1, ft, hh.2.1, hh.2.2⟩) (fun w1 fs1 h1 => h1.refU fun fr g1 => ra_Start g1)).mono fun _ _ hh => fin hE.start (hS.start.mono hnm) (Nat.zero_le _) hh
end Go.Proofs.YtoeoioigelknnaaGreat
namespace Go.Proofs.YtoeoioigelknnaaGreat
open Go.RowKit Go.Maps Go.WideAt Go.WideShapes

/-- Texts in memory. -/
def TS (w : World) (ao : Option Addr) (l : List ByteArray) : Prop := ∀ i s, l[i]? = some s → ∃ b, ao = some ⟨b, 0, none⟩ ∧ w.cell? ⟨b, i, none⟩ = some (.string s)
theorem TS.grown {w w' : World} {ao : Option Addr} {l : List ByteArray} (h : TS w ao l) (hg : w.grownBy w' none) : TS w' ao l := fun i s hi => by
  obtain ⟨b, e, hc⟩ := h i s hi
  exact ⟨b, e, hg.cell hc (by simp)⟩
theorem TS.of_row {w : World} {base : Nat} {v : Value} {l : List ByteArray} (h : w.ownsRow base 9 1 v l.length (l.map Value.string)) : ∃ ao c, v = .slice ao l.length c ∧ TS w ao l := by
  rcases h.2 with ⟨rfl, h0⟩ | ⟨g, cap, cur, rfl, hb, hg, hn, _⟩
  · rw [h0]
    exact ⟨none, 0, rfl, fun i s hi => by rw [List.eq_nil_of_length_eq_zero h0] at hi; cases hi⟩
  · refine ⟨_, cap, rfl, fun i s hi => ⟨g, rfl, ?_⟩⟩
    have hc := h.cells (g := g) rfl i (.string s) (by rw [List.getElem?_map, hi]; rfl)
    have e : (({ block := g, off := 0 } : Addr).add i) = ⟨g, i, none⟩ := by unfold Addr.add; simp; omega
    rwa [e] at hc
set_option maxRecDepth 100000 in
set_option maxHeartbeats 1000000 in
theorem texts_same (ao bo : Option Addr) (l : List ByteArray) (c c' : Nat) (w : World) (h1 : TS w ao l) (h2 : TS w bo l) (hl : l.length ≤ 1000000) :
    Calls Tryz.prog 9 #[.slice ao l.length c, .slice bo l.length c'] w fun e w' => e = .returned (.bool true) ∧ Below w.heap.size w w' := by
  have hlz : (l.length : Int) ≤ 1000000 := by omega
  go_enter Tryz.func9, Tryz.ntmps9
  go_wp2_with fail
  go_loopw [13] (fun s13 wr => ∃ i : Nat, i ≤ l.length ∧ s13 = .int .i64 (i : Int) ∧ Below w.heap.size w wr) (fun s13 _ => l.length - (intOf s13).toNat)
  case atStart => exact ⟨0, by omega, rfl, Below.refl _ _⟩
  case round =>
    obtain ⟨i, hi, rfl, hbr⟩ := hrel
    rcases Nat.lt_or_ge i l.length with hlt | hge
    · have hc : l[i]? = some l[i] := List.getElem?_eq_getElem hlt
      obtain ⟨b, rfl, k1⟩ := h1 i _ hc
      obtain ⟨b', rfl, k2⟩ := h2 i _ hc
      generalize l[i] = s at *
      have q0 : ∀ z : Cl wr.heap.size wr, z.u.cell? ⟨b, i, none⟩ = some (.string s) := fun z => by
        have e : wr.cell? ⟨b, i, none⟩ = some (.string s) := by rw [hbr.cell (World.block_lt_of_cell? _ _ k1)]; exact k1
        exact z.cell (World.block_lt_of_cell? _ _ e) e
      have q1 : ∀ z : Cl wr.heap.size wr, z.u.cell? ⟨b', i, none⟩ = some (.string s) := fun z => by
        have e : wr.cell? ⟨b', i, none⟩ = some (.string s) := by rw [hbr.cell (World.block_lt_of_cell? _ _ k2)]; exact k2
        exact z.cell (World.block_lt_of_cell? _ _ e) e
      have HE : Hid (∀ w', Below wr.heap.size wr w' → Below w.heap.size w w') := fun w' h => hbr.trans (h.mono hbr.size)
      have hiz : (i : Int) < (l.length : Int) := by omega
      clear h1 h2 hbr hc k1 k2
      haveI := Cl.inh wr.heap.size wr
      go_wp2_with fail
      refine wp_region_cl wr.heap.size (by kernel_rfl) (by kernel_rfl) ?_
      repeat quiet_step (fail)
      refine wpQuiet_nil ?_
      rintro w0 ⟨z, rfl⟩
      have hz := HE.out _ z.h
      go_wp2_with fail
      go_roundw
      case rel => exact ⟨i + 1, by omega, by go_num, hz⟩
      case measure => (simp [intOf]; try omega)
    · obtain rfl : i = l.length := by omega
      clear h1 h2
      have hiz : ¬ (l.length : Int) < (l.length : Int) := by omega
      go_wp2_with fail
      go_ret
      exact ⟨rfl, hbr⟩
/-! ### what they tell -/
def namesV (A : Ab) : List ByteArray := if A.on then A.sp.map fun t => strB t.nm else []
def usedV (A : Ab) : Int := if A.on then (usedT A.sp : Int) else 0
def dirtyV (A : Ab) : Int := if A.on then (dirtyT A.sp : Int) else 0
section
variable {d : Nat} {A : Ab} {Q : RA} {ft : List Nat} {w : World} (hT : Tie A Q) (hF : A.Fine) (h : At d A ft w)
include h
theorem ob_ops : Calls Tryz.prog 16 #[.pointer (some ⟨d, 0, none⟩)] w fun x w' => x = .returned (.int .i64 (A.ops : Int)) ∧ w' = w := by
  obtain ⟨bm, fs, hD, hss, rfl⟩ := h
  exact ops_any hD
theorem ob_on : Calls Tryz.prog 17 #[.pointer (some ⟨d, 0, none⟩)] w fun x w' => x = .returned (.bool A.on) ∧ w' = w := by
  obtain ⟨bm, fs, hD, hss, rfl⟩ := h
  exact on_any hD
include hF
theorem ob_used : Calls Tryz.prog 12 #[.pointer (some ⟨d, 0, none⟩)] w fun x w' => x = .returned (.int .i64 (usedV A)) ∧ w.grownBy w' none := by
  unfold usedV
  by_cases hon : A.on = true
  · rw [if_pos hon]
    exact ab_used h hF hon
  · rw [if_neg hon]
    obtain ⟨bm, fs, hD, hss, rfl⟩ := h
    refine (used_off hD (by show A.on = false; simpa using hon)).mono ?_
    rintro x w' ⟨rfl, rfl⟩
    exact ⟨rfl, World.grownBy.refl _ _⟩
theorem ob_dirty : Calls Tryz.prog 14 #[.pointer (some ⟨d, 0, none⟩)] w fun x w' => x = .returned (.int .i64 (dirtyV A)) ∧ w.grownBy w' none := by
  unfold dirtyV
  by_cases hon : A.on = true
  · rw [if_pos hon]
    exact ab_dirty h hF hon
  · rw [if_neg hon]
    obtain ⟨bm, fs, hD, hss, rfl⟩ := h
    refine (dirty_off hD (by show A.on = false; simpa using hon)).mono ?_
    rintro x w' ⟨rfl, rfl⟩
    exact ⟨rfl, World.grownBy.refl _ _⟩
include hT
omit hF in
theorem ob_list (hn : A.sp.length ≤ 1000000) : Calls Tryz.prog 10 #[.pointer (some ⟨d, 0, none⟩)] w fun x w' => ∃ ao c, x = .returned (.slice ao (namesV A).length c) ∧ TS w' ao (namesV A) ∧ w.grownBy w' none := by
  unfold namesV
  obtain ⟨bm, fs, hD, hss, rfl⟩ := h
  by_cases hon : A.on = true
  · rw [if_pos hon]
    have hlen : fs.length = A.sp.length := by rw [← hss, List.length_map]
    refine (list_on hD hon (by show fs.length ≤ _; omega)).mono ?_
    rintro x w' ⟨v, ss, rfl, hp, hrow, hb⟩
    have hp2 : ss.Perm (A.sp.map Sig.nm) := by
      rw [← hss, List.map_map]
      exact hp
    have hsn := hT.sorted
    rw [names_sorted hp2 (by rw [List.pairwise_map]; exact hsn)] at hrow
    have e : (A.sp.map Sig.nm).map encStr = (A.sp.map fun t => strB t.nm).map Value.string := by
      rw [List.map_map, List.map_map]
      rfl
    rw [e, hp2.length_eq, List.length_map, ← List.length_map (f := fun t : Sig => strB t.nm)] at hrow
    obtain ⟨ao, c, rfl, hts⟩ := TS.of_row hrow
    exact ⟨ao, c, rfl, hts, grown_of_below hb⟩
  · rw [if_neg hon]
    refine (list_off hD (by show A.on = false; simpa using hon)).mono ?_
    rintro x w' ⟨rfl, rfl⟩
    exact ⟨none, 0, rfl, (fun i s hi => by cases hi), World.grownBy.refl _ _⟩
end
section
variable {r : Nat} {A : Ab} {Q : RA} {fr : List Nat} {w : World} (hT : Tie A Q) (hF : Q.Fit) (h : RAt r Q fr w)
include hT h
theorem ob_rops : w.cell? ⟨r, 4, none⟩ = some (.int .i64 (A.ops : Int)) ∧ w.cell? ⟨r, 3, none⟩ = some (.bool (!A.on)) := by
  have e1 := hT.ops
  have e2 := hT.off
  obtain ⟨R, h1, rfl, rfl, _⟩ := h
  have e1' : R.ops = A.ops := e1
  have e2' : R.off = !A.on := e2
  rw [← e1', ← e2']
  exact ⟨h1.c4, h1.c3⟩
theorem ob_rdirty : Calls Tryz.prog 15 #[.pointer (some ⟨r, 0, none⟩)] w fun x w' => x = .returned (.int .i64 (dirtyV A)) ∧ w.grownBy w' none := by
  refine (ra_Dirty h).mono ?_
  rintro x w' ⟨rfl, rfl⟩
  refine ⟨?_, World.grownBy.refl _ _⟩
  unfold dirtyV
  rw [hT.off, hT.lines]
  cases A.on <;> rfl
include hF
theorem ob_rused : Calls Tryz.prog 13 #[.pointer (some ⟨r, 0, none⟩)] w fun x w' => x = .returned (.int .i64 (usedV A)) ∧ w.grownBy w' none := by
  refine (ra_used h ⟨hF.few, hF.line, hF.used, hF.sorted, hF.room, hF.ops, hF.fail⟩).mono ?_
  rintro x w' ⟨rfl, hg⟩
  refine ⟨?_, hg⟩
  unfold usedV
  rw [hT.off, hT.used]
  cases A.on <;> rfl
theorem ob_rlist : Calls Tryz.prog 11 #[.pointer (some ⟨r, 0, none⟩)] w fun x w' => ∃ ao c, x = .returned (.slice ao (namesV A).length c) ∧ TS w' ao (namesV A) ∧ w.grownBy w' none := by
  refine (ra_List h hF).mono ?_
  rintro x w' ⟨v, rfl, hg, ⟨ho, hrow⟩ | ⟨ho, rfl⟩⟩
  · have hon : A.on = true := by have := hT.off; rw [ho] at this; simpa using this.symm
    unfold namesV
    rw [if_pos hon]
    have e : nameRow Q.L = (A.sp.map fun t => strB t.nm).map Value.string := by
      unfold nameRow
      rw [hT.L, List.map_map, List.map_map]
      rfl
    rw [e, hT.count, ← List.length_map (f := fun t : Sig => strB t.nm)] at hrow
    obtain ⟨ao, c, rfl, hts⟩ := TS.of_row hrow
    exact ⟨ao, c, rfl, hts, hg⟩
  · have hon : ¬ A.on = true := by have := hT.off; rw [ho] at this; simpa using this.symm
    unfold namesV
    rw [if_neg hon]
    exact ⟨none, 0, rfl, (fun i s hi => by cases hi), hg⟩
end
end Go.Proofs.YtoeoioigelknnaaGreat
