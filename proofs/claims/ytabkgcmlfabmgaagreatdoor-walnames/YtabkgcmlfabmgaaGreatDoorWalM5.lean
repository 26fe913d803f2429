/-
  SEVERAL TEXTS IN ONE: WalRec, WalCalls, WalOpen, WalRetire, WalStates, WalLives, WalDoor.
-/
import Derived.Test.YtabkgcmlfabmgaaGreatDoorWalM4
import Derived.Test.YtabkgcmlfabmgaaGreatDoorWalM1
import Derived.Test.YtabkgcmlfabmgaaGreatDoorWalNums
import Derived.Test.YtabkgcmlfabmgaaGreatDoorCards
import Derived.Test.YtabkgcmlfabmgaaGreatDoorTie
import Derived.ProofKit
import Derived.OpenShut
import Derived.ShutString
import Derived.ChangeOld
import Derived.Deep.DeepHandedRow
import Derived.Deep.DeepWitnessRowRef
import Derived.Lib.LaidTab
import Derived.LaidHandle
import Derived.Stop.LaidErr
import Derived.SizedLaws
import Derived.Lay
namespace Go.Proofs.YtabkgcmlfabmgaaGreatDoor
open Go.RowKit

set_option maxRecDepth 100000 in
theorem notGood_any (c : Cx) (w : World) (h1 : c.k.t.size ≤ maxLen) (h2 : c.k.p.size ≤ maxLen) (h3 : c.k.c.size ≤ maxLen) (h4 : c.v.s.size ≤ maxLen) :
    Calls Tryz.prog 73 #[c.val] w fun x w' => x = .returned (.bool (!goodC c)) ∧ Below w.heap.size w w' := by
  have G : Hid (∀ u, Calls Tryz.prog 36 #[c.val] u fun x w' => x = .returned (.bool (goodC c)) ∧ Below u.heap.size u w') := fun u => goodX_any c u h1 h2 h3 h4
  have hb : Hid (Below w.heap.size w (w.alloc (.cells c.a 75))) := (Below.refl _ _).alloc (Nat.le_refl _) _
  generalize goodC c = g at *
  clear h1 h2 h3 h4
  obtain ⟨⟨ct, cp, cr, cc⟩, ⟨cti, cd, cl, ck, cn, cstr⟩⟩ := c
  simp only [Cx.val, Cx.a] at G hb ⊢
  go_enter Tryz.func73, Tryz.ntmps73
  go_wp2_with fail
  go_fit (G.out _)
  rintro e w1 ⟨rfl, hB⟩
  have HF : Hid (Below w.heap.size w w1) := hb.out.trans (hB.mono hb.out.size)
  clear hB hb
  go_wp2_with fail
  go_ret
  exact ⟨rfl, HF.out⟩
set_option maxRecDepth 100000 in
set_option maxHeartbeats 1000000 in
theorem indexRec_any (ao : Option Addr) (l : List Cx) (cap : Nat) (w : World) (p : Cx → Bool) (hs : XSees w ao l) (hl : l.length ≤ 1000000)
    (hf : ∀ (u : World) (c : Cx), c ∈ l → Below w.heap.size w u → Calls Tryz.prog 73 #[c.val] u fun e w' => e = .returned (.bool (p c)) ∧ Below u.heap.size u w') :
    Calls Tryz.prog 112 #[.slice ao l.length cap, .func (.func 73) #[] #[]] w fun e w' => ((e = .returned (.int .i64 (-1)) ∧ ∀ c ∈ l, p c = false) ∨ ∃ i : Nat, e = .returned (.int .i64 (i : Int)) ∧ i < l.length ∧ (∀ c ∈ l.take i, p c = false) ∧ ∃ c, l[i]? = some c ∧ p c = true) ∧ Below w.heap.size w w' := by
  have hlz : (l.length : Int) ≤ 1000000 := by omega
  have Hf : Hid (∀ (u : World) (c : Cx), c ∈ l → Below w.heap.size w u → Calls Tryz.prog 73 #[c.val] u fun e w' => e = .returned (.bool (p c)) ∧ Below u.heap.size u w') := hf
  clear hf
  go_enter Tryz.func112, Tryz.ntmps112
  go_wp2_with fail
  go_loopw [8] (fun s8 wr => ∃ i : Nat, i ≤ l.length ∧ s8 = .int .i64 i ∧ (∀ c ∈ l.take i, p c = false) ∧ Below w.heap.size w wr) (fun s8 _ => l.length - (intOf s8).toNat)
  case atStart => exact ⟨0, by omega, rfl, by simp, Below.refl _ _⟩
  case round =>
    obtain ⟨i, hi, rfl, hr, hbr⟩ := hrel
    have HR : Hid (∀ c ∈ l.take i, p c = false) := hr
    clear hr
    rcases Nat.lt_or_ge i l.length with hlt | hge
    · have hc : l[i]? = some l[i] := List.getElem?_eq_getElem hlt
      have HC : Hid (l[i]? = some l[i]) := hc
      have HT : Hid (l.take (i + 1) = l.take i ++ [l[i]]) := takeX_succ hc
      obtain ⟨b, off, rfl, x1⟩ := (hs.below hbr (Nat.le_refl _)) i _ hc
      have G : Hid (Calls Tryz.prog 73 #[l[i].val] wr fun x w' => x = .returned (.bool (p l[i])) ∧ Below wr.heap.size wr w') := Hf.out wr _ (List.getElem_mem hlt) hbr
      have hltz : (i : Int) < (l.length : Int) := by omega
      generalize l[i] = c at *
      clear hc
      cases hg : p c
      · rw [hg] at G
        have HG : Hid (p c = false) := hg
        clear hg
        obtain ⟨⟨ct, cp, cr, cc⟩, ⟨cti, cd, cl, ck, cn, cstr⟩⟩ := c
        obtain ⟨k0, k1, k2, k3, k4, k5, k6, k7, k8, k9⟩ := x1
        simp only [Cx.val, Cx.a] at k0 k1 k2 k3 k4 k5 k6 k7 k8 k9 G
        go_wp2_with fail
        refine G.out.mono ?_
        rintro e w1 ⟨rfl, hb1⟩
        go_wp2_with fail
        go_roundw
        case rel =>
          refine ⟨i + 1, by omega, by simp, ?_, hbr.trans (hb1.mono hbr.size)⟩
          intro c hc
          rw [HT.out, List.mem_append, List.mem_singleton] at hc
          rcases hc with h | rfl
          · exact HR.out c h
          · exact HG.out
        case measure => simp [intOf]; omega
      · rw [hg] at G
        have HG : Hid (p c = true) := hg
        clear hg
        obtain ⟨⟨ct, cp, cr, cc⟩, ⟨cti, cd, cl, ck, cn, cstr⟩⟩ := c
        obtain ⟨k0, k1, k2, k3, k4, k5, k6, k7, k8, k9⟩ := x1
        simp only [Cx.val, Cx.a] at k0 k1 k2 k3 k4 k5 k6 k7 k8 k9 G
        go_wp2_with fail
        refine G.out.mono ?_
        rintro e w1 ⟨rfl, hb1⟩
        go_wp2_with fail
        go_ret
        exact ⟨.inr ⟨i, rfl, hlt, HR.out, _, HC.out, HG.out⟩, hbr.trans (hb1.mono hbr.size)⟩
    · obtain rfl : i = l.length := by omega
      go_wp2_with fail
      go_ret
      exact ⟨.inl ⟨rfl, fun c hc => HR.out c (by rw [List.take_length]; exact hc)⟩, hbr⟩
/-- May cells be a record? -/
def recB (l : List Cx) : Bool := decide (0 < l.length ∧ l.length ≤ 400) && l.all goodC
/-- Cells as texts that are not too long. -/
def CxMax (c : Cx) : Prop := c.k.t.size ≤ maxLen ∧ c.k.p.size ≤ maxLen ∧ c.k.c.size ≤ maxLen ∧ c.v.s.size ≤ maxLen
set_option maxRecDepth 100000 in
theorem containsRec_any (ao : Option Addr) (l : List Cx) (cap : Nat) (w : World) (hs : XSees w ao l) (hl : l.length ≤ 1000000) (hc : ∀ c ∈ l, CxMax c) :
    Calls Tryz.prog 72 #[.slice ao l.length cap, .func (.func 73) #[] #[]] w fun e w' => e = .returned (.bool (!l.all goodC)) ∧ Below w.heap.size w w' := by
  have CI : Hid (Calls Tryz.prog 112 #[.slice ao l.length cap, .func (.func 73) #[] #[]] w fun e w' => ∃ k : Int, e = .returned (.int .i64 k) ∧ (decide (0 ≤ k)) = (!l.all goodC) ∧ Below w.heap.size w w') := by
    refine (indexRec_any ao l cap w (fun c => !goodC c) hs hl fun u c hcm _ => notGood_any c u (hc c hcm).1 (hc c hcm).2.1 (hc c hcm).2.2.1 (hc c hcm).2.2.2).mono ?_
    rintro e w' ⟨h, hb⟩
    rcases h with ⟨rfl, h⟩ | ⟨i, rfl, hi, _, c, h1, h2⟩
    · refine ⟨_, rfl, ?_, hb⟩
      have : l.all goodC = true := List.all_eq_true.2 fun c hc => by simpa using h c hc
      rw [this]; rfl
    · refine ⟨_, rfl, ?_, hb⟩
      have : l.all goodC = false := by
        rw [List.all_eq_false]
        exact ⟨c, List.mem_of_getElem? h1, by simpa using h2⟩
      rw [this]; simp
  generalize (!l.all goodC) = r at *
  clear hs hl hc
  go_enter Tryz.func72, Tryz.ntmps72
  go_wp2_with fail
  go_fit CI.out
  rintro e w1 ⟨k, rfl, hk, hB⟩
  go_wp2_with fail
  go_ret
  exact ⟨by rw [← hk]; rfl, hB⟩
set_option maxRecDepth 100000 in
theorem recordable_any (ao : Option Addr) (l : List Cx) (cap : Nat) (w : World) (hs : XSees w ao l) (hl : l.length ≤ 140737488355328) (hc : ∀ c ∈ l, CxMax c) :
    Calls Tryz.prog 37 #[.slice ao l.length cap] w fun e w' => e = .returned (.bool (recB l)) ∧ Below w.heap.size w w' := by
  have hlz : (l.length : Int) ≤ 140737488355328 := by omega
  by_cases h0 : 0 < l.length ∧ l.length ≤ 400
  · have CC : Hid (Calls Tryz.prog 72 #[.slice ao l.length cap, .func (.func 73) #[] #[]] w fun e w' => e = .returned (.bool (!l.all goodC)) ∧ Below w.heap.size w w') := containsRec_any ao l cap w hs (by omega) hc
    have HR : Hid (recB l = !(!l.all goodC)) := by show _ = _; unfold recB; rw [decide_eq_true h0]; simp
    have h1 : ¬ (l.length : Int) = 0 := by omega
    have h2 : ¬ (400 : Int) < (l.length : Int) := by omega
    generalize l.length = n at *
    generalize (!l.all goodC) = r at *
    clear hs hc hl h0
    go_enter Tryz.func37, Tryz.ntmps37
    go_wp2_with fail
    go_fit CC.out
    rintro e w1 ⟨rfl, hB⟩
    go_wp2_with fail
    go_ret
    exact ⟨ret_bool (by rw [HR.out]), hB⟩
  · have HR : Hid (recB l = false) := by show _ = _; unfold recB; rw [decide_eq_false h0]; rfl
    rw [HR.out]
    generalize l.length = n at *
    clear hs hc hl
    rcases Nat.eq_zero_or_pos n with hn | hn
    · have h1 : (n : Int) = 0 := by omega
      clear h0
      subst hn
      go_enter Tryz.func37, Tryz.ntmps37
      go_wp2_with fail
      go_ret
      exact ⟨rfl, Below.refl _ _⟩
    · have h1 : ¬ (n : Int) = 0 := by omega
      have h2 : (400 : Int) < (n : Int) := by omega
      clear h0
      go_enter Tryz.func37, Tryz.ntmps37
      go_wp2_with fail
      go_ret
      exact ⟨rfl, Below.refl _ _⟩
/-- A record's bytes. -/
def recL (l : List Cx) : List UInt8 := frameL (cellsL (l.map toC))
set_option maxRecDepth 100000 in
theorem framed_any (ao : Option Addr) (b : List UInt8) (cap : Nat) (w : World) (hb : b.length ≤ 262144) (hs : Sees w ao b) (hn : ao = none → b.length = 0) (ht : Tab w) :
    Calls Tryz.prog 38 #[.slice ao b.length cap] w fun e w' => e = .returned (.tuple #[.slice (some ⟨w.heap.size, 0, none⟩) (b.length + 8) (b.length + 8), .int .i64 0]) ∧ Row w' w.heap.size (frameL b) ∧ Below w.heap.size w w' := by
  have CF : Hid (Calls Tryz.prog 74 #[.slice ao b.length cap] w fun e w' => e = .returned (.slice (some ⟨w.heap.size, 0, none⟩) (b.length + 8) (b.length + 8)) ∧ Row w' w.heap.size (frameL b) ∧ Below w.heap.size w w') := frame_any ao b cap w hb hs hn ht
  generalize frameL b = F at *
  have hz : ¬ ((b.length + 8 : Nat) : Int) = 0 := by omega
  have hz2 : ((b.length + 8 : Nat) : Int) ≤ 1000000 := by omega
  clear hs hn ht hb
  generalize b.length + 8 = m at *
  generalize b.length = n at *
  have hz3 : ¬ m = 0 := by omega
  go_enter Tryz.func38, Tryz.ntmps38
  go_wp2_with fail
  go_fit CF.out
  rintro e w1 ⟨rfl, hR, hB⟩
  go_wp2_with fail
  go_ret2
  exact ⟨rfl, hR, hB⟩
set_option maxRecDepth 100000 in
theorem record_ok (ao : Option Addr) (l : List Cx) (cap : Nat) (w : World) (hs : XSees w ao l) (hl : l.length ≤ 400) (hc : ∀ c ∈ l, CxMax c) (hok : ∀ c ∈ l.map toC, c.Ok) (hw : wtLD (l.map toC) + 81 * (l.map toC).length ≤ 140737488330000) (hb : (cellsL (l.map toC)).length ≤ 262144) (hr : recB l = true) (ht : Tab w) :
    Calls Tryz.prog 10 #[.slice ao l.length cap] w fun e w' => ∃ g, e = .returned (.tuple #[.slice (some ⟨g, 0, none⟩) (recL l).length (recL l).length, .int .i64 0]) ∧ w.heap.size ≤ g ∧ Row w' g (recL l) ∧ Below w.heap.size w w' := by
  have CR : Hid (Calls Tryz.prog 37 #[.slice ao l.length cap] w fun e w' => e = .returned (.bool true) ∧ Below w.heap.size w w') := by
    have := recordable_any ao l cap w hs (by omega) hc
    rw [hr] at this; exact this
  have hlm : (l.map toC).length = l.length := List.length_map _
  have CC : Hid (∀ u, Below w.heap.size w u → Calls Tryz.prog 39 #[.slice ao l.length cap] u fun e w' => ∃ bo c, e = .returned (.slice bo (cellsL (l.map toC)).length c) ∧ Sees w' bo (cellsL (l.map toC)) ∧ (bo = none → (cellsL (l.map toC)).length = 0) ∧ Below u.heap.size u w') := fun u hu => by
    have := cells_anyD ao (l.map toC) cap u (hs.below hu (Nat.le_refl _)).c hok hw
    rw [hlm] at this
    refine this.mono fun e w' ⟨v, he, ho, hB⟩ => ?_
    obtain ⟨bo, c, rfl, h1, h2, h3⟩ := owns_sees ho
    exact ⟨bo, c, he, h1, fun e => (h3 e).1, hB⟩
  have HFL : Hid ((recL l).length = (cellsL (l.map toC)).length + 8) := frameL_length _
  have HTB : Hid (∀ u, Below w.heap.size w u → Tab u) := fun u hu => ht.below hu (Nat.le_refl _)
  have HRL : Hid (recL l = frameL (cellsL (l.map toC))) := rfl
  rw [HFL.out]
  generalize recL l = R at *
  generalize cellsL (l.map toC) = B at *
  clear hs hc hok hw hr ht hlm
  go_enter Tryz.func10, Tryz.ntmps10
  go_wp2_with fail
  go_fit CR.out
  rintro e w1 ⟨rfl, hB1⟩
  have C1 : Hid (Calls Tryz.prog 39 #[.slice ao l.length cap] w1 fun e w' => ∃ bo c, e = .returned (.slice bo B.length c) ∧ Sees w' bo B ∧ (bo = none → B.length = 0) ∧ Below w1.heap.size w1 w') := CC.out w1 hB1
  go_wp2_with fail
  go_fit C1.out
  rintro e w2 ⟨bo, c, rfl, hS2, hn2, hB2⟩
  have hB2' : Below w.heap.size w w2 := hB1.trans (hB2.mono hB1.size)
  have C2 : Hid (Calls Tryz.prog 38 #[.slice bo B.length c] w2 fun e w' => e = .returned (.tuple #[.slice (some ⟨w2.heap.size, 0, none⟩) (B.length + 8) (B.length + 8), .int .i64 0]) ∧ Row w' w2.heap.size (frameL B) ∧ Below w2.heap.size w2 w') := framed_any bo B c w2 hb hS2 hn2 (HTB.out w2 hB2')
  clear C1 CC CR hS2 hn2
  go_wp2_with fail
  go_fit C2.out
  rintro e w3 ⟨rfl, hR3, hB3⟩
  have HF : Hid (Row w3 w2.heap.size R ∧ w.heap.size ≤ w2.heap.size ∧ Below w.heap.size w w3) := ⟨by rw [HRL.out]; exact hR3, hB2'.size, hB2'.trans (hB3.mono hB2'.size)⟩
  clear hR3 hB3 hB2' hB2 hB1 C2
  go_wp2_with fail
  go_ret2
  exact ⟨_, rfl, HF.out.2.1, HF.out.1, HF.out.2.2⟩
end Go.Proofs.YtabkgcmlfabmgaaGreatDoor
namespace Go.Proofs.YtabkgcmlfabmgaaGreatDoor
open Go.RowKit
attribute [local go_sem] Oper.pureAt Oper.pureUpon

set_option maxRecDepth 100000 in
set_option maxHeartbeats 1000000 in
theorem appendL_ok {w0 : World} {d lb : Nat} {A A1 A2 : Ab} {n : Int} {w : World} (he : EnvW w0) (ht : Tab w0) (h : Lg w0 d lb A n w) (hn : okW n = true) (hon : A.on = true) (ao : Option Addr) (l : List Cx) (cap : Nat)
    (hs : XSees w ao l) (hll : l.length ≤ 400) (hc : ∀ c ∈ l, CxMax c) (hok : ∀ c ∈ l.map toC, c.Ok) (hw : wtLD (l.map toC) + 81 * (l.map toC).length ≤ 140737488330000) (hb : (cellsL (l.map toC)).length ≤ 262144) (hr : recB l = true)
    (hF : A.Fine) (hl : A.left = 0) (ho : A.ops ≤ 1000000) (hnx : A.next ≤ 1000000) (hlen : ∀ t ∈ A.sp, t.bs.length + (recL l).length ≤ 1099511627776)
    (h1 : appendM A (tB (nmW n)) (recL l) = (0, A1)) (hl1 : A1.left = 0) (ho1 : A1.ops ≤ 1000000) (h2 : syncM A1 (tB (nmW n)) = (0, A2)) :
    Calls Tryz.prog 23 #[.pointer (some ⟨lb, 0, none⟩), .slice ao l.length cap] w fun x w' => x = .returned (.int .i64 0) ∧ Lg w0 d lb A2 n w' := by
  have hmm := okW_iff.1 hn
  have CR : Hid (Calls Tryz.prog 55 #[.pointer (some ⟨lb, 0, none⟩)] w fun e w' => e = .returned (.int .i64 0) ∧ w' = w) := refusalL_any h (by omega) hon
  have CD : Hid (Calls Tryz.prog 10 #[.slice ao l.length cap] w fun e w' => ∃ g, e = .returned (.tuple #[.slice (some ⟨g, 0, none⟩) (recL l).length (recL l).length, .int .i64 0]) ∧ w.heap.size ≤ g ∧ Row w' g (recL l) ∧ Below w.heap.size w w') := record_ok ao l cap w hs hll hc hok hw hb hr (ht.below h.bel (Nat.le_refl _))
  obtain ⟨ft, hG⟩ := h
  have hft : ∀ i ∈ ft, i < w.heap.size := hG.1.lt
  have CW : Hid (∀ u g, Below w.heap.size w u → w.heap.size ≤ g → Row u g (recL l) → Calls Tryz.prog 57 #[.pointer (some ⟨lb, 0, none⟩), .slice (some ⟨g, 0, none⟩) (recL l).length (recL l).length] u fun x w' => x = .returned (.int .i64 0) ∧ Lg w0 d lb A2 n w') := fun u g hu hg hR => by
    have hsee : Sees u (some ⟨g, 0, none⟩) (recL l) := fun i hi => ⟨_, rfl, by rw [Addr.add_lit, Nat.zero_add]; exact hR.cell i hi⟩
    exact writeL_ok he (LgF.more hG hu) hn (some ⟨g, 0, none⟩) (recL l) (recL l).length hsee (fun a e _ hi => by cases e; have h9 : g < w.heap.size := hft _ hi; omega) hF hl ho hnx hlen h1 hl1 ho1 h2
  have CN : Hid (∀ u, Calls Tryz.prog 56 #[.pointer (some ⟨lb, 0, none⟩), .int .i64 0] u fun x w' => x = .returned (.int .i64 0) ∧ w' = u) := fun u => noted_any lb 0 u (by omega)
  generalize recL l = R at *
  generalize l.length = m at *
  clear hG hft h1 h2 hs hc hok hw hb hr hF hlen he ht hn hon
  go_enter Tryz.func23, Tryz.ntmps23
  go_wp2_with (go_at_call 55; refine CR.out.mono ?_; rintro e w1 ⟨rfl, rfl⟩)
  go_fit CD.out
  rintro e w2 ⟨g, rfl, hg, hR, hB2⟩
  have C2 : Hid (Calls Tryz.prog 57 #[.pointer (some ⟨lb, 0, none⟩), .slice (some ⟨g, 0, none⟩) R.length R.length] w2 fun x w' => x = .returned (.int .i64 0) ∧ Lg w0 d lb A2 n w') := CW.out w2 g hB2 hg hR
  clear CW CD CR hR hB2 hg
  go_wp2_with fail
  go_fit C2.out
  rintro e w3 ⟨rfl, hL3⟩
  go_wp2_with fail
  go_fit (CN.out _)
  rintro e w4 ⟨rfl, rfl⟩
  go_wp2_with fail
  go_ret
  exact ⟨rfl, hL3⟩
set_option maxRecDepth 100000 in
set_option maxHeartbeats 1000000 in
theorem rollL_ok {w0 : World} {d lb : Nat} {A A1 A2 : Ab} {n : Int} {w : World} (he : EnvW w0) (h : Lg w0 d lb A n w) (hn : okW n = true) (hm : okW (n + 1) = true) (hon : A.on = true) (hF : A.Fine) (hl : A.left = 0) (ho : A.ops ≤ 1000000) (h1 : createM A (tB (nmW (n + 1))) = (0, A1)) (hl1 : A1.left = 0) (ho1 : A1.ops ≤ 1000000) (h2 : syncM A1 (tB (nmW (n + 1))) = (0, A2)) :
    Calls Tryz.prog 27 #[.pointer (some ⟨lb, 0, none⟩)] w fun x w' => x = .returned (.tuple #[.int .i64 (n + 1), .int .i64 0]) ∧ Lg w0 d lb A2 (n + 1) w' := by
  have hmm := okW_iff.1 hn
  have CR : Hid (Calls Tryz.prog 55 #[.pointer (some ⟨lb, 0, none⟩)] w fun e w' => e = .returned (.int .i64 0) ∧ w' = w) := refusalL_any h (by omega) hon
  have CB : Hid (Calls Tryz.prog 61 #[.pointer (some ⟨lb, 0, none⟩), .int .i64 (n + 1)] w fun x w' => x = .returned (.int .i64 0) ∧ Lg w0 d lb A2 (n + 1) w') := beginL_ok he h hm hF hl ho h1 hl1 ho1 h2
  have CN : Hid (∀ u, Calls Tryz.prog 56 #[.pointer (some ⟨lb, 0, none⟩), .int .i64 0] u fun x w' => x = .returned (.int .i64 0) ∧ w' = u) := fun u => noted_any lb 0 u (by omega)
  have c1 := h.blk.cell 1 rfl
  clear h he h1 h2 hF hn hm hon
  go_enter Tryz.func27, Tryz.ntmps27
  go_wp2_with (go_at_call 55; refine CR.out.mono ?_; rintro e w1 ⟨rfl, rfl⟩)
  go_fit CB.out
  rintro e w3 ⟨rfl, hL3⟩
  go_wp2_with fail
  go_fit (CN.out _)
  rintro e w4 ⟨rfl, rfl⟩
  have d1 := hL3.blk.cell 1 rfl
  go_wp2_with fail
  go_ret2
  exact ⟨rfl, hL3⟩
theorem results_tct {P : Program} {fn : Func} {t0 p u : Tmp} {ty : TypeId} (h : fn.results = #[.tmp t0, .cell p ty, .tmp u]) (tmps : Array Value) (w : World) (g : Nat) (t : TypeId) (cs : Array Value) (fr : Nat × Nat) (d : TypeDesc)
    (hp : tmps.getD p undef = .pointer (some ⟨g, 0, none⟩)) (hg : w.heap[g]? = some (.cells cs t fr))
    (hu : P.underlying ty = some d) (hd : (match d with | .struct _ | .array _ _ => true | _ => false) = true) (hi : (P.info? ty).map (·.size) = some cs.size) :
    (results fn tmps).run P w = .ok (.tuple #[tmps.getD t0 undef, .agg cs, tmps.getD u undef]) w := by
  have hp' : tmps[p]?.getD undef = .pointer (some ⟨g, 0, none⟩) := by simpa using hp
  simp [results, h, hp', asAddr, run_loadVar_row w g t ty cs fr d hg hu hd hi]
set_option maxRecDepth 100000 in
set_option maxHeartbeats 1000000 in
theorem readL_nil (lb : Nat) (a : Option Addr) (c : Nat) (w : World) :
    Calls Tryz.prog 96 #[.pointer (some ⟨lb, 0, none⟩), .slice a 0 c] w fun x w' => x = .returned (.tuple #[.slice none 0 0, .agg #[.slice none 0 0, .bool false], .int .i64 0]) ∧ Below w.heap.size w w' := by
  obtain ⟨wa, hwa⟩ : ∃ wa, wa = (w.alloc (.cells #[.slice none 0 0, .bool false] 142)).alloc (.cells #[.slice none 0 0, .bool false] 142) := ⟨_, rfl⟩
  have hz : wa.heap.size = w.heap.size + 2 := by rw [hwa]; simp
  have k1 : Blk wa w.heap.size [.slice none 0 0, .bool false] 142 := by rw [hwa]; exact (Blk.new w _ _).alloc _
  have k2 : Blk wa (w.heap.size + 1) [.slice none 0 0, .bool false] 142 := by
    rw [hwa]
    have := Blk.new (w.alloc (.cells #[.slice none 0 0, .bool false] 142)) [.slice none 0 0, .bool false] 142
    rw [World.size_alloc] at this; exact this
  have HB : Hid (Below w.heap.size w wa) := by rw [hwa]; exact ((Below.refl _ _).alloc (Nat.le_refl _) _).alloc (by simp) _
  have HW : Hid ((w.alloc (.cells #[.slice none 0 0, .bool false] 142)).alloc (.cells #[.slice none 0 0, .bool false] 142) = wa) := hwa.symm
  have HK : Hid (Blk wa w.heap.size [.slice none 0 0, .bool false] 142 ∧ Blk wa (w.heap.size + 1) [.slice none 0 0, .bool false] 142) := ⟨k1, k2⟩
  clear hwa k1 k2 hz
  go_enter Tryz.func96, Tryz.ntmps96
  go_wp2_with fail
  rw [HW.out]
  clear HW
  go_loopw [7, 17] (fun s7 s17 wr => s7 = .slice none 0 0 ∧ s17 = .int .i64 0 ∧ wr = wa) (fun _ _ _ => 0)
  case atStart => exact ⟨rfl, rfl, rfl⟩
  case round =>
    obtain ⟨rfl, rfl, rfl⟩ := hrel
    have e0 := HK.out.1.cell 0 rfl
    have e1 := HK.out.1.cell 1 rfl
    have e2 := HK.out.2.cell 0 rfl
    have e3 := HK.out.2.cell 1 rfl
    have f0 := HK.out.1.frozen 0
    have f1 := HK.out.1.frozen 1
    go_wp2_with fail
    go_region
    have HN : Hid (Blk ((wr.setCell ⟨w.heap.size, 0, none⟩ (.slice none 0 0)).setCell ⟨w.heap.size, 1, none⟩ (.bool false)).drew w.heap.size [.slice none 0 0, .bool false] 142 ∧ Below w.heap.size w ((wr.setCell ⟨w.heap.size, 0, none⟩ (.slice none 0 0)).setCell ⟨w.heap.size, 1, none⟩ (.bool false)).drew) :=
      ⟨(HK.out.1.setTo 0 _ _ rfl).setTo 1 _ _ rfl, ((HB.out.setCell (by exact Nat.le_refl _) _).setCell (by exact Nat.le_refl _) _).drew⟩
    generalize ((wr.setCell ⟨w.heap.size, 0, none⟩ (.slice none 0 0)).setCell ⟨w.heap.size, 1, none⟩ (.bool false)).drew = wz at *
    clear e0 e1 e2 e3 f0 f1
    go_wp2_with fail
    refine bodyPost_ret (results_tct Tryz.results96 _ wz w.heap.size 142 _ (0, 0) _ rfl HN.out.1 Tryz.underlying142 rfl (by kernel_rfl)) rfl ?_
    exact ⟨rfl, HN.out.2⟩
end Go.Proofs.YtabkgcmlfabmgaaGreatDoor
namespace Go.Proofs.YtabkgcmlfabmgaaGreatDoor
open Go.RowKit

set_option maxRecDepth 100000 in
set_option maxHeartbeats 2000000 in
theorem openL_new {w0 : World} {d lb : Nat} {A A1 A2 : Ab} {w : World} (he : EnvW w0) (h : Lg w0 d lb A 0 w) (hsp : A.sp = []) (hon : A.on = true) (hF : A.Fine) (hl : A.left = 0) (ho : A.ops ≤ 1000000) (h1 : createM A (tB (nmW 1)) = (0, A1)) (hl1 : A1.left = 0) (ho1 : A1.ops ≤ 1000000) (h2 : syncM A1 (tB (nmW 1)) = (0, A2)) :
    Calls Tryz.prog 53 #[.pointer (some ⟨lb, 0, none⟩), .int .i64 1] w fun x w' => x = .returned (.tuple #[.slice none 0 0, .int .i64 0]) ∧ Lg w0 d lb A2 1 w' := by
  have CN : Hid (Calls Tryz.prog 62 #[.pointer (some ⟨lb, 0, none⟩)] w fun e w' => ∃ (ao : Option Addr) (cap : Nat), e = .returned (.slice ao 0 cap) ∧ Below w.heap.size w w') := by
    refine (numbersL_any he h hon (by rw [hsp]; simp) (by rw [hsp]; simp)).mono ?_
    rintro e w' ⟨ao, cap, N, rfl, _, _, hp, _, hb⟩
    rw [hsp] at hp
    have : N = [] := by simpa using hp.length_eq
    subst this
    exact ⟨ao, cap, rfl, hb⟩
  have CB : Hid (∀ (a : Option Addr) (c : Nat) (u : World), Calls Tryz.prog 95 #[.slice a 0 c, .int .i64 1] u fun e w' => e = .returned (.tuple #[.int .i64 0, .bool false]) ∧ w' = u) := fun a c u => Tryz.slices_BinarySearch_int_empty a c 1 u
  have CR : Hid (∀ (a : Option Addr) (c : Nat) (u : World), Calls Tryz.prog 96 #[.pointer (some ⟨lb, 0, none⟩), .slice a 0 c] u fun x w' => x = .returned (.tuple #[.slice none 0 0, .agg #[.slice none 0 0, .bool false], .int .i64 0]) ∧ Below u.heap.size u w') := readL_nil lb
  have CP : Hid (∀ u, Calls Tryz.prog 49 #[.int .i64 1] u fun e w' => e = .returned (.bool true) ∧ w' = u) := fun u => possible_any 1 u
  have CG : Hid (∀ u, Below w.heap.size w u → Calls Tryz.prog 61 #[.pointer (some ⟨lb, 0, none⟩), .int .i64 1] u fun x w' => x = .returned (.int .i64 0) ∧ Lg w0 d lb A2 1 w') := fun u hu => beginL_ok he (h.more hu) rfl hF hl ho h1 hl1 ho1 h2
  clear h he hsp hon hF hl ho h1 hl1 ho1 h2
  go_enter Tryz.func53, Tryz.ntmps53
  go_wp2_with fail
  go_fit CN.out
  rintro e w1 ⟨ao, cap, rfl, hB1⟩
  go_wp2_with (go_at_call 95; go_fit (CB.out _ _ _); rintro e u1 ⟨rfl, rfl⟩)
  go_fit (CR.out _ _ _)
  rintro e w2 ⟨rfl, hB2⟩
  have hB2' : Below w.heap.size w w2 := hB1.trans (hB2.mono hB1.size)
  have k1 : Blk (w2.alloc (.cells #[.slice none 0 0, .bool false] 142)) w2.heap.size [.slice none 0 0, .bool false] 142 := Blk.new w2 _ _
  have HB3 : Hid (Below w.heap.size w (w2.alloc (.cells #[.slice none 0 0, .bool false] 142))) := hB2'.alloc hB2'.size _
  have e1 := k1.cell 1 rfl
  clear hB1 hB2 hB2' k1
  go_wp2_with (go_at_call 49; refine (CP.out _).mono ?_; rintro e u2 ⟨rfl, hu2⟩)
  go_fit (CG.out _ HB3.out)
  rintro e w3 ⟨rfl, hL3⟩
  clear e1 hu2 HB3
  go_wp2_with fail
  go_ret2
  exact ⟨rfl, hL3⟩
theorem lg_new {w0 : World} {d : Nat} {A : Ab} {w : World} (h : Kp w0 d A w) : Lg w0 d w.heap.size A 0 (w.alloc (.cells #[.pointer (some ⟨d, 0, none⟩), .int .i64 0, .bool false] 56)) := by
  have hb := h.below
  obtain ⟨ft, ha, hm⟩ := h
  have hB : Below w.heap.size w (w.alloc (.cells #[.pointer (some ⟨d, 0, none⟩), .int .i64 0, .bool false] 56)) := (Below.refl _ _).alloc (Nat.le_refl _) _
  refine ⟨ft, ha.moved (moved_below (ft := []) hB) (by simp), fun hi => ?_, Blk.new w _ _, fun i hi => ?_, hb.size, hb.trans (hB.mono hb.size)⟩
  · have := ha.lt _ hi; omega
  · rcases hm.news i hi with h | h
    · cases h
    · exact h
set_option maxRecDepth 100000 in
set_option maxHeartbeats 2000000 in
theorem openW_new {w0 : World} {d : Nat} {A A1 A2 : Ab} {w : World} (he : EnvW w0) (h : Kp w0 d A w) (hsp : A.sp = []) (hon : A.on = true) (hF : A.Fine) (hl : A.left = 0) (ho : A.ops ≤ 1000000) (h1 : createM A (tB (nmW 1)) = (0, A1)) (hl1 : A1.left = 0) (ho1 : A1.ops ≤ 1000000) (h2 : syncM A1 (tB (nmW 1)) = (0, A2)) :
    Calls Tryz.prog 21 #[.pointer (some ⟨d, 0, none⟩), .int .i64 1] w fun x w' => ∃ lb, x = .returned (.tuple #[.pointer (some ⟨lb, 0, none⟩), .slice none 0 0, .int .i64 0]) ∧ Lg w0 d lb A2 1 w' := by
  have CD : Hid (Calls Tryz.prog 52 #[.pointer (some ⟨d, 0, none⟩), .string ⟨#[]⟩] w fun x w' => x = .returned (.tuple #[.slice none 0 0, .int .i64 3]) ∧ Kp w0 d A w') := by
    have h0 := h
    obtain ⟨ft, ⟨bm, fs, hD, hss, hft⟩, hm⟩ := h
    refine (read_refused hD ⟨#[]⟩ (by show 0 ≤ maxLen; exact Nat.zero_le _) (c := 3) (by show refuse A.on [⟨#[]⟩] = 3; rw [hon]; rfl) (by omega)).mono ?_
    rintro x w' ⟨rfl, hg⟩
    exact ⟨rfl, h0.grown hg⟩
  have CP : Hid (∀ u, Calls Tryz.prog 49 #[.int .i64 1] u fun e w' => e = .returned (.bool true) ∧ w' = u) := fun u => possible_any 1 u
  have CO : Hid (∀ u, Kp w0 d A u → Calls Tryz.prog 53 #[.pointer (some ⟨u.heap.size, 0, none⟩), .int .i64 1] (u.alloc (.cells #[.pointer (some ⟨d, 0, none⟩), .int .i64 0, .bool false] 56)) fun x w' => x = .returned (.tuple #[.slice none 0 0, .int .i64 0]) ∧ Lg w0 d u.heap.size A2 1 w') := fun u hu => openL_new he (lg_new hu) hsp hon hF hl ho h1 hl1 ho1 h2
  clear h he hsp hon hF hl ho h1 hl1 ho1 h2
  go_enter Tryz.func21, Tryz.ntmps21
  go_wp2_with fail
  go_fit CD.out
  rintro e w1 ⟨rfl, hK1⟩
  have C1 : Hid (Calls Tryz.prog 53 #[.pointer (some ⟨w1.heap.size, 0, none⟩), .int .i64 1] (w1.alloc (.cells #[.pointer (some ⟨d, 0, none⟩), .int .i64 0, .bool false] 56)) fun x w' => x = .returned (.tuple #[.slice none 0 0, .int .i64 0]) ∧ Lg w0 d w1.heap.size A2 1 w') := CO.out w1 hK1
  go_wp2_with (go_at_call 49; refine (CP.out _).mono ?_; rintro e u2 ⟨rfl, rfl⟩)
  go_fit C1.out
  rintro e w3 ⟨rfl, hL3⟩
  clear C1 CO hK1
  go_wp2_with fail
  go_ret3
  exact ⟨_, rfl, hL3⟩
end Go.Proofs.YtabkgcmlfabmgaaGreatDoor
namespace Go.Proofs.YtabkgcmlfabmgaaGreatDoor
open Go.RowKit
attribute [local go_sem] Oper.pureAt Oper.pureUpon

set_option maxRecDepth 100000 in
set_option maxHeartbeats 2000000 in
theorem retireL_two {w0 : World} {d lb : Nat} {A A1 : Ab} {w : World} (he : EnvW w0) (h : Lg w0 d lb A 2 w) (hon : A.on = true) (hsp : A.sp.length ≤ 1000) (hsz : ∀ t ∈ A.sp, t.nm.length ≤ 1000) (hnm : (A.sp.map Sig.nm).filterMap numO = [1, 2]) (hl : A.left = 0) (ho : A.ops ≤ 1000000) (h1 : removeM A (tB (nmW 1)) = (0, A1)) :
    Calls Tryz.prog 28 #[.pointer (some ⟨lb, 0, none⟩), .int .i64 2] w fun x w' => x = .returned (.int .i64 0) ∧ Lg w0 d lb A1 2 w' := by
  have CR : Hid (Calls Tryz.prog 55 #[.pointer (some ⟨lb, 0, none⟩)] w fun e w' => e = .returned (.int .i64 0) ∧ w' = w) := refusalL_any h (by omega) hon
  have CN : Hid (Calls Tryz.prog 62 #[.pointer (some ⟨lb, 0, none⟩)] w fun e w' => ∃ (b o cap : Nat), e = .returned (.slice (some ⟨b, o, none⟩) 2 cap) ∧ w'.cell? ⟨b, o, none⟩ = some (.int .i64 1) ∧ w'.cell? ⟨b, o + 1, none⟩ = some (.int .i64 2) ∧ w.heap.size ≤ b ∧ Below w.heap.size w w') := by
    refine (numbersL_any he h hon hsp hsz).mono ?_
    rintro e w' ⟨ao, cap, N, rfl, hI, hfr, hp, hso, hb⟩
    rw [hnm] at hp
    have hN : N = [1, 2] := List.Perm.eq_of_pairwise (le := (· ≤ ·)) (fun a b _ _ h1 h2 => by omega) hso (by decide) hp
    subst hN
    obtain ⟨b, o, rfl, c1⟩ := hI 0 1 rfl
    obtain ⟨b', o', e', c2⟩ := hI 1 2 rfl
    cases e'
    exact ⟨b, o, cap, rfl, by simpa using c1, c2, hfr _ rfl, hb⟩
  obtain ⟨ft, hG⟩ := h
  have hft : ∀ i ∈ ft, i < w.heap.size := hG.1.lt
  have hszn := tB_max (nmW 1) (by have := nmW_len 1; omega)
  have CM : Hid (∀ u, LgF w0 d lb A 2 ft u → Calls Tryz.prog 63 #[.pointer (some ⟨d, 0, none⟩), .string (tB (nmW 1))] u fun x w' => x = .returned (.int .i64 0) ∧ Lg w0 d lb A1 2 w' ∧ ∀ i, i < u.heap.size → i ∉ ft → w'.heap[i]? = u.heap[i]?) := fun u hu => by
    obtain ⟨g1, g2, g3, g4, g5, g6⟩ := hu
    have := abx_remove g1 (tB (nmW 1)) hszn (by omega) (by omega) (by omega)
    rw [h1] at this
    exact this.mono fun x w' ⟨hx, ft', ha, hm⟩ => ⟨hx, Lg.out g2 g3 g4 g5 g6 ha hm, hm.kept⟩
  have CA : Hid (∀ u, Below w0.heap.size w0 u → Calls Tryz.prog 18 #[.int .i64 1] u fun x w' => x = .returned (.string (tB (nmW 1))) ∧ Below u.heap.size u w') := fun u hu => nameW_any 1 (by omega) (by omega) u (he.below hu (Nat.le_refl _))
  have CT : Hid (∀ u, Calls Tryz.prog 56 #[.pointer (some ⟨lb, 0, none⟩), .int .i64 0] u fun x w' => x = .returned (.int .i64 0) ∧ w' = u) := fun u => noted_any lb 0 u (by omega)
  have HG : Hid (LgF w0 d lb A 2 ft w) := hG
  have HFT : Hid (∀ i ∈ ft, i < w.heap.size) := hft
  have c0 : ∀ q : LC d lb, q.u.cell? ⟨lb, 0, none⟩ = some (.pointer (some ⟨d, 0, none⟩)) := fun q => q.h
  haveI : Nonempty (LC d lb) := ⟨⟨w, hG.2.2.1.cell 0 rfl⟩⟩
  generalize tB (nmW 1) = s at *
  clear hG hft he hon hsp hsz hnm hl ho h1 hszn
  go_enter Tryz.func28, Tryz.ntmps28
  go_wp2_with (go_at_call 55; refine CR.out.mono ?_; rintro e w1 ⟨rfl, rfl⟩)
  go_fit CN.out
  rintro e w2 ⟨b, o, cap, rfl, k1, k2, hbf, hB2⟩
  have hbl : b < w2.heap.size := World.block_lt_of_cell? _ _ k1
  have HS0 : Hid (w2.cell? ⟨b, o, none⟩ = some (.int .i64 1) ∧ w2.cell? ⟨b, o + 1, none⟩ = some (.int .i64 2) ∧ b < w2.heap.size ∧ LgF w0 d lb A 2 ft w2) := ⟨k1, k2, hbl, HG.out.more hB2⟩
  have hbn : b ∉ ft := fun hi => by have := HFT.out b hi; omega
  clear k1 k2 hbl CR CN hB2 HG HFT hbf
  go_wp2_with fail
  go_loopw [17] (fun s17 wr => ∃ i : Nat, i ≤ 2 ∧ s17 = .int .i64 (i : Int) ∧ wr.cell? ⟨b, o, none⟩ = some (.int .i64 1) ∧ wr.cell? ⟨b, o + 1, none⟩ = some (.int .i64 2) ∧ b < wr.heap.size ∧ ((i = 0 ∧ LgF w0 d lb A 2 ft wr) ∨ (0 < i ∧ Lg w0 d lb A1 2 wr))) (fun s17 _ => 2 - (intOf s17).toNat)
  case atStart => exact ⟨0, by omega, rfl, HS0.out.1, HS0.out.2.1, HS0.out.2.2.1, .inl ⟨rfl, HS0.out.2.2.2⟩⟩
  case round =>
    obtain ⟨i, hi, rfl, k1, k2, hbl, hst⟩ := hrel
    clear HS0
    rcases hst with ⟨rfl, hG⟩ | ⟨hpos, hL⟩
    · have d1 := hG.2.2.1.cell 1 rfl
      have HG : Hid (LgF w0 d lb A 2 ft wr) := hG
      have HK : Hid (wr.cell? ⟨b, o, none⟩ = some (.int .i64 1) ∧ wr.cell? ⟨b, o + 1, none⟩ = some (.int .i64 2)) := ⟨k1, k2⟩
      clear hG
      go_wp2_with fail
      refine wp_region_sched (fun w' => ∃ p : LC d lb, w' = p.u) [(0, true), (1, true), (2, true), (3, true), (4, true), (5, true), (6, false), (7, false), (8, false), (9, true)] rfl (by kernel_rfl) (by kernel_rfl) (by kernel_rfl) (LC.of HG.out.lg.drew) ?_
      iterate 6 (refine sched_pure rfl (fun K hK => ?_); go_simp; refine hK _ ?_; clear hK K)
      refine sched_loud rfl (fun K hK => ?_)
      go_simp
      refine (CA.out _ HG.out.lg.drew.bel).mono ?_
      rintro e u1 ⟨rfl, hu1⟩
      have hu1' : Below wr.heap.size wr u1 := (Below.refl _ _).drew.trans hu1
      have hG1 := HG.out.more hu1'
      have hk1 : u1.cell? ⟨b, o, none⟩ = some (.int .i64 1) := by rw [hu1'.cell hbl]; exact HK.out.1
      have hk2 : u1.cell? ⟨b, o + 1, none⟩ = some (.int .i64 2) := by rw [hu1'.cell hbl]; exact HK.out.2
      have hbl1 : b < u1.heap.size := Nat.lt_of_lt_of_le hbl hu1'.size
      refine hK _ _ (LC.of hG1.lg) ?_
      clear hK K
      refine sched_loud rfl (fun K hK => ?_)
      go_simp
      refine (CM.out _ hG1).mono ?_
      rintro e u2 ⟨rfl, hL2, hkeep⟩
      have hb2 := hkeep b hbl1 hbn
      have HN : Hid (u2.cell? ⟨b, o, none⟩ = some (.int .i64 1) ∧ u2.cell? ⟨b, o + 1, none⟩ = some (.int .i64 2) ∧ b < u2.heap.size) := by
        have e1 : u2.cell? ⟨b, o, none⟩ = some (.int .i64 1) := by rw [World.cell?_of_block (a := ⟨b, o, none⟩) hb2]; exact hk1
        exact ⟨e1, by rw [World.cell?_of_block (a := ⟨b, o + 1, none⟩) hb2]; exact hk2, World.block_lt_of_cell? _ _ e1⟩
      refine hK _ _ (LC.of hL2) ?_
      clear hK K hkeep hb2 hk1 hk2 hG1 hu1 hu1' k1 k2 d1
      refine sched_loud rfl (fun K hK => ?_)
      go_simp
      refine (CT.out _).mono ?_
      rintro e u3 ⟨rfl, rfl⟩
      refine hK _ _ (LC.of hL2) ?_
      clear hK K
      refine sched_pure rfl (fun K hK => ?_)
      go_simp
      refine hK _ ?_
      clear hK K
      refine sched_nil ?_
      go_wp2_with fail
      go_roundw
      case rel => exact ⟨1, by omega, by go_num, HN.out.1, HN.out.2.1, HN.out.2.2, .inr ⟨by omega, hL2⟩⟩
      case measure => (simp [intOf]; try omega)
    · have hi2 : i = 1 ∨ i = 2 := by omega
      rcases hi2 with rfl | rfl
      · go_wp2_with fail
        go_roundw
        case rel => exact ⟨2, by omega, by go_num, k1, k2, hbl, .inr ⟨by omega, hL⟩⟩
        case measure => (simp [intOf]; try omega)
      · go_wp2_with fail
        go_ret
        exact ⟨rfl, hL⟩
end Go.Proofs.YtabkgcmlfabmgaaGreatDoor
namespace Go.Proofs.YtabkgcmlfabmgaaGreatDoor
open Go.RowKit

def q1 : List UInt8 := [108, 111, 103, 45, 49]
def q2 : List UInt8 := [108, 111, 103, 45, 50]
theorem nm_one : nmW 1 = q1 := by
  unfold nmW Lib.itoa
  rw [if_pos (show okW 1 = true from rfl), if_neg (by omega), Lib.decDigits_one (by decide)]; rfl
theorem nm_two : nmW 2 = q2 := by
  unfold nmW Lib.itoa
  rw [if_pos (show okW 2 = true from rfl), if_neg (by omega), Lib.decDigits_one (by decide)]; rfl
theorem nameOf_tB (l : List UInt8) : nameOf (tB l) = l := tB_list l
theorem good1 : refuse true [tB q1] = 0 := by unfold refuse; simp only [List.all_cons, List.all_nil, nameOf_tB]; rfl
theorem good2 : refuse true [tB q2] = 0 := by unfold refuse; simp only [List.all_cons, List.all_nil, nameOf_tB]; rfl
/-- One file, all of it sure. -/
structure St1 (A : Ab) (B : List UInt8) (k : Nat) : Prop where
  sp : A.sp = [⟨q1, B, B.length, []⟩]
  room : A.room = 1000
  on : A.on = true
  left : A.left = 0
  ops : A.ops ≤ 10 * k
  next : A.next ≤ 100 * k
theorem St1.fine {A : Ab} {B : List UInt8} {k : Nat} (h : St1 A B k) (hB : B.length ≤ 1000) : A.Fine := by
  refine ⟨?_, ?_, ?_, ?_, by rw [h.room]; omega, ?_, ?_⟩
  · rw [h.sp]; intro t ht; rw [List.mem_singleton.1 ht]; exact Nat.le_refl _
  · rw [h.sp]; intro t ht; rw [List.mem_singleton.1 ht]; show B.length ≤ _; omega
  · rw [h.sp]; intro t ht; rw [List.mem_singleton.1 ht]; exact List.Pairwise.nil
  · rw [h.sp]; intro t ht; rw [List.mem_singleton.1 ht]; intro q hq; cases hq
  · rw [h.sp]; simp [usedT]; omega
  · rw [h.sp]; simp [dirtyT]
theorem find1 (B : List UInt8) (wr : Nat) (pl : List Nat) : findT [⟨q1, B, wr, pl⟩] q1 = some ⟨q1, B, wr, pl⟩ := by simp [findT]
theorem newA_fine : (newA 1000).Fine := ⟨(fun t h => by cases h), (fun t h => by cases h), (fun t h => by cases h), (fun t h => by cases h), by decide, by decide, by decide⟩
/-- The first segment. -/
theorem step_new : ∃ A1 A2, createM (newA 1000) (tB (nmW 1)) = (0, A1) ∧ A1.left = 0 ∧ A1.ops ≤ 1000000 ∧ syncM A1 (tB (nmW 1)) = (0, A2) ∧ St1 A2 [] 1 := by
  rw [nm_one]
  refine ⟨crT (newA 1000) q1, syT (crT (newA 1000) q1) q1 ⟨q1, [], 0, []⟩, ?_, rfl, by show 1 ≤ 1000000; omega, ?_, ⟨?_, rfl, rfl, rfl, by show 2 ≤ 10; omega, by show 0 ≤ 100; omega⟩⟩
  · unfold createM
    rw [show (newA 1000).on = true from rfl, if_pos good1, nameOf_tB]
    rfl
  · unfold syncM
    rw [show (crT (newA 1000) q1).on = true from rfl, if_pos good1, nameOf_tB]
    rfl
  · show upd (putT [] ⟨q1, [], 0, []⟩) q1 _ = _
    simp [putT, dropT, insT, upd]
/-- One record more. -/
theorem step_app {A : Ab} {B R : List UInt8} {k : Nat} (h : St1 A B k) (hk : k ≤ 100) (hB : B.length ≤ 400) (hR : R.length ≤ 400) (hR0 : R ≠ []) :
    ∃ A1 A2, appendM A (tB (nmW 1)) R = (0, A1) ∧ A1.left = 0 ∧ A1.ops ≤ 1000000 ∧ syncM A1 (tB (nmW 1)) = (0, A2) ∧ St1 A2 (B ++ R) (k + 1) := by
  rw [nm_one]
  have hu : usedT A.sp = 1 + (B.length + 15) / 16 := by rw [h.sp]; simp [usedT]
  have hlack : lackT ⟨q1, B, B.length, []⟩ R ≤ 60 := by
    unfold lackT
    show secI ((B.length : Int) + (R.length : Int)) - secI (B.length : Int) ≤ 60
    rw [← Int.natCast_add, secI_nat, secI_nat]; omega
  refine ⟨appT A q1 ⟨q1, B, B.length, []⟩ R, syT (appT A q1 ⟨q1, B, B.length, []⟩ R) q1 ⟨q1, B ++ R, B.length, [] ++ List.range' A.next (growT ⟨q1, B, B.length, []⟩ R)⟩, ?_, ?_, ?_, ?_, ⟨?_, h.room, h.on, ?_, ?_, ?_⟩⟩
  · unfold appendM
    rw [h.on, if_pos good1, nameOf_tB, h.sp, find1]
    simp only
    rw [← h.sp, h.room, hu, if_neg (by omega)]
  · show A.left - 1 = 0
    rw [h.left]
  · show A.ops + 1 ≤ _
    have := h.ops; omega
  · unfold syncM
    rw [show (appT A q1 ⟨q1, B, B.length, []⟩ R).on = A.on from rfl, h.on, if_pos good1, nameOf_tB]
    have e : (appT A q1 ⟨q1, B, B.length, []⟩ R).sp = [⟨q1, B ++ R, B.length, [] ++ List.range' A.next (growT ⟨q1, B, B.length, []⟩ R)⟩] := by
      show upd A.sp q1 _ = _
      rw [h.sp]; simp [upd]
    rw [e, find1]
  · show upd (upd A.sp q1 _) q1 _ = _
    rw [h.sp]; simp [upd]
  · show A.left - 1 - 1 = 0
    rw [h.left]
  · show A.ops + 1 + 1 ≤ _
    have := h.ops; omega
  · show A.next + growT ⟨q1, B, B.length, []⟩ R ≤ _
    have hg : growT ⟨q1, B, B.length, []⟩ R ≤ 60 := by
      unfold growT
      rw [if_neg hR0]
      unfold growN
      show (B.length + R.length + 15) / 16 - B.length / 16 - 0 ≤ 60
      omega
    have := h.next; omega
/-- A second segment. -/
structure St2 (A : Ab) (B : List UInt8) : Prop where
  sp : A.sp = [⟨q1, B, B.length, []⟩, ⟨q2, [], 0, []⟩]
  on : A.on = true
  left : A.left = 0
  ops : A.ops ≤ 1000000
theorem step_roll {A : Ab} {B : List UInt8} {k : Nat} (h : St1 A B k) (hk : k ≤ 100) (hB : B.length ≤ 1000) :
    ∃ A1 A2, createM A (tB (nmW (1 + 1))) = (0, A1) ∧ A1.left = 0 ∧ A1.ops ≤ 1000000 ∧ syncM A1 (tB (nmW (1 + 1))) = (0, A2) ∧ St2 A2 B := by
  rw [show (1 + 1 : Int) = 2 from rfl, nm_two]
  have hu : usedT A.sp = 1 + (B.length + 15) / 16 := by rw [h.sp]; simp [usedT]
  have hput : putT A.sp ⟨q2, [], 0, []⟩ = [⟨q1, B, B.length, []⟩, ⟨q2, [], 0, []⟩] := by
    rw [h.sp]
    have h1 : (q1 == q2) = false := by decide
    have h2 : bytesBefore q2 q1 = false := by decide
    simp [putT, dropT, insT, h1, h2]
  have hf : findT A.sp q2 = none := by
    rw [h.sp]
    have h1 : (q1 == q2) = false := by decide
    simp [findT, h1]
  refine ⟨crT A q2, syT (crT A q2) q2 ⟨q2, [], 0, []⟩, ?_, ?_, ?_, ?_, ⟨?_, h.on, ?_, ?_⟩⟩
  · unfold createM
    rw [h.on, if_pos good2, nameOf_tB, hf]
    simp only
    rw [if_neg (by rw [hu, h.room, h.sp]; simp; omega)]
  · show A.left - 1 = 0
    rw [h.left]
  · show A.ops + 1 ≤ _
    have := h.ops; omega
  · unfold syncM
    rw [show (crT A q2).on = A.on from rfl, h.on, if_pos good2, nameOf_tB]
    have e : findT (crT A q2).sp q2 = some ⟨q2, [], 0, []⟩ := by
      show findT (putT A.sp ⟨q2, [], 0, []⟩) q2 = _
      rw [hput]
      have h1 : (q1 == q2) = false := by decide
      simp [findT, h1]
    rw [e]
  · show upd (putT A.sp ⟨q2, [], 0, []⟩) q2 _ = _
    rw [hput]
    have h1 : q1 ≠ q2 := by decide
    simp [upd, h1]
  · show A.left - 1 - 1 = 0
    rw [h.left]
  · show A.ops + 1 + 1 ≤ _
    have := h.ops; omega
theorem step_remove {A : Ab} {B : List UInt8} (h : St2 A B) : ∃ A1, removeM A (tB (nmW 1)) = (0, A1) ∧ A1.sp = [⟨q2, [], 0, []⟩] ∧ A1.on = true := by
  rw [nm_one]
  have h1 : (q2 == q1) = false := by decide
  refine ⟨rmT A q1, ?_, ?_, h.on⟩
  · unfold removeM
    rw [h.on, if_pos good1, nameOf_tB]
    have e : findT A.sp q1 = some ⟨q1, B, B.length, []⟩ := by rw [h.sp]; simp [findT]
    rw [e]
  · show dropT A.sp q1 = _
    rw [h.sp]; simp [dropT, h1]
theorem numO1 : numO q1 = some 1 := by unfold numO; rw [← nm_one, num_name rfl]; rfl
theorem numO2 : numO q2 = some 2 := by unfold numO; rw [← nm_two, num_name rfl]; rfl
theorem St2.nums {A : Ab} {B : List UInt8} (h : St2 A B) : (A.sp.map Sig.nm).filterMap numO = [1, 2] := by rw [h.sp]; simp [numO1, numO2]
end Go.Proofs.YtabkgcmlfabmgaaGreatDoor
namespace Go.Proofs.YtabkgcmlfabmgaaGreatDoor
open Go.RowKit

/-- The law's plain cell. -/
def atX (n : Int) : Cx := ⟨⟨⟨#[116]⟩, ⟨#[120]⟩, n, ⟨#[]⟩⟩, ⟨n, false, 0, 0, 0, ⟨#[]⟩⟩⟩
set_option maxRecDepth 100000 in
theorem at07_any (n : Int) (w : World) : Calls Tryz.prog 33 #[.int .i64 n] w fun x w' => x = .returned (atX n).val ∧ Below w.heap.size w w' := by
  simp only [Cx.val, Cx.a, atX]
  have hg : Hid (∀ o : Obj, (w.alloc o).heap[w.heap.size]? = some o) := fun o => heap_alloc_new w o
  go_enter Tryz.func33, Tryz.ntmps33
  go_wp2_with fail
  refine bodyPost_ret (v := .agg #[.string ⟨#[116]⟩, .string ⟨#[120]⟩, .int .i64 n, .string ⟨#[]⟩, .int .i64 n, .bool false, .int .i64 0, .int .i64 0, .int .i64 0, .string ⟨#[]⟩]) (results_cell_row Tryz.results33 _ _ w.heap.size 75 _ _ _ rfl (hg.out _) Tryz.underlying75 rfl (by kernel_rfl)) rfl ?_
  exact ⟨rfl, (Below.refl _ _).alloc (Nat.le_refl _) _⟩
theorem atX_good1 : goodC (atX 1) = true := by decide +kernel
theorem atX_good2 : goodC (atX 2) = true := by decide +kernel
set_option maxRecDepth 100000 in
theorem texts_one (b b' : Nat) (s : ByteArray) (c c' : Nat) (w : World) (h1 : w.cell? ⟨b, 0, none⟩ = some (.string s)) (h2 : w.cell? ⟨b', 0, none⟩ = some (.string s)) :
    Calls Tryz.prog 34 #[.slice (some ⟨b, 0, none⟩) 1 c, .slice (some ⟨b', 0, none⟩) 1 c'] w fun e w' => e = .returned (.bool true) ∧ Below w.heap.size w w' := by
  go_enter Tryz.func34, Tryz.ntmps34
  go_wp2_with fail
  go_loopw [13] (fun s13 wr => ∃ i : Nat, i ≤ 1 ∧ s13 = .int .i64 (i : Int) ∧ Below w.heap.size w wr) (fun s13 _ => 1 - (intOf s13).toNat)
  case atStart => exact ⟨0, by omega, rfl, Below.refl _ _⟩
  case round =>
    obtain ⟨i, hi, rfl, hbr⟩ := hrel
    rcases Nat.lt_or_ge i 1 with hlt | hge
    · obtain rfl : i = 0 := by omega
      have q0 : ∀ z : Cl wr.heap.size wr, z.u.cell? ⟨b, 0, none⟩ = some (.string s) := fun z => by
        have e : wr.cell? ⟨b, 0, none⟩ = some (.string s) := by rw [hbr.cell (World.block_lt_of_cell? _ _ h1)]; exact h1
        exact z.cell (World.block_lt_of_cell? _ _ e) e
      have q1 : ∀ z : Cl wr.heap.size wr, z.u.cell? ⟨b', 0, none⟩ = some (.string s) := fun z => by
        have e : wr.cell? ⟨b', 0, none⟩ = some (.string s) := by rw [hbr.cell (World.block_lt_of_cell? _ _ h2)]; exact h2
        exact z.cell (World.block_lt_of_cell? _ _ e) e
      have HE : Hid (∀ w', Below wr.heap.size wr w' → Below w.heap.size w w') := fun w' h => hbr.trans (h.mono hbr.size)
      clear h1 h2 hbr
      haveI := Cl.inh wr.heap.size wr
      go_wp2_with fail
      refine wp_region_cl wr.heap.size (by kernel_rfl) (by kernel_rfl) ?_
      repeat quiet_step (fail)
      refine wpQuiet_nil ?_
      rintro w0 ⟨z, rfl⟩
      have hz := HE.out _ z.h
      go_wp2_with fail
      go_roundw
      case rel => exact ⟨1, by omega, by go_num, hz⟩
      case measure => (simp [intOf]; try omega)
    · obtain rfl : i = 1 := by omega
      clear h1 h2
      go_wp2_with fail
      go_ret
      exact ⟨rfl, hbr⟩
set_option maxRecDepth 100000 in
theorem rec_len1 : (recL [atX 1]).length ≤ 100 := by decide +kernel
set_option maxRecDepth 100000 in
theorem rec_len2 : (recL [atX 2]).length ≤ 100 := by decide +kernel
theorem rec_ok1 : recB [atX 1] = true := by decide +kernel
theorem rec_ok2 : recB [atX 2] = true := by decide +kernel
theorem rec_ne (l : List Cx) : recL l ≠ [] := fun e => by
  have h1 := frameL_length (cellsL (l.map toC))
  have h2 : (recL l).length = 0 := by rw [e]; rfl
  unfold recL at h2
  omega
theorem one_sees (u : World) (c : Cx) : XSees (u.alloc (.cells c.a 75)) (some ⟨u.heap.size, 0, none⟩) [c] := by
  intro i x hx
  obtain ⟨rfl, rfl⟩ : i = 0 ∧ c = x := by
    have hi := (List.getElem?_eq_some_iff.1 hx).1
    simp only [List.length_cons, List.length_nil] at hi
    obtain rfl : i = 0 := by omega
    exact ⟨rfl, by simpa using hx⟩
  have hk : ∀ j v, c.a.toList[j]? = some v → (u.alloc (.cells c.a 75)).cell? ⟨u.heap.size, j, none⟩ = some v := fun j v hv => Blk.cell (cs := c.a.toList) (by show _ = _; rw [heap_alloc_new]) j hv
  exact ⟨_, _, rfl, ⟨hk 0 _ rfl, hk 1 _ rfl, hk 2 _ rfl, hk 3 _ rfl, hk 4 _ rfl, hk 5 _ rfl, hk 6 _ rfl, hk 7 _ rfl, hk 8 _ rfl, hk 9 _ rfl⟩⟩
theorem atX_max (n : Int) : CxMax (atX n) := ⟨by show 1 ≤ maxLen; unfold maxLen; omega, by show 1 ≤ maxLen; unfold maxLen; omega, by show 0 ≤ maxLen; exact Nat.zero_le _, by show 0 ≤ maxLen; exact Nat.zero_le _⟩
theorem atX_ok {n : Int} (h : InI n) : ∀ c ∈ [atX n].map toC, c.Ok := fun c hc => by
  rw [List.map_cons, List.map_nil, List.mem_singleton] at hc
  subst hc
  have z : InI 0 := ⟨by decide, by decide⟩
  exact Cx.Nums.ok ⟨h, h, z, z, z⟩
theorem atX_wt (n : Int) : wtLD ([atX n].map toC) + 81 * ([atX n].map toC).length ≤ 140737488330000 := by
  rw [wtL_toC]
  show (1 + 1 + 0 + 0) + 0 + 81 * 1 ≤ _
  omega
/-- Append of the law's plain cell to the first segment. -/
theorem append_at {w0 : World} {d lb : Nat} {A : Ab} {B : List UInt8} {k : Nat} {n : Int} {w : World} (he : EnvW w0) (ht : Tab w0) (h : Lg w0 d lb A 1 w) (hA : St1 A B k) (hk : k ≤ 50) (hB : B.length ≤ 300) (hn : InI n) (hr : recB [atX n] = true) (hlen : (recL [atX n]).length ≤ 100) :
    ∃ A2, St1 A2 (B ++ recL [atX n]) (k + 1) ∧ Calls Tryz.prog 23 #[.pointer (some ⟨lb, 0, none⟩), .slice (some ⟨w.heap.size, 0, none⟩) 1 1] (w.alloc (.cells (atX n).a 75)) fun x w' => x = .returned (.int .i64 0) ∧ Lg w0 d lb A2 1 w' := by
  obtain ⟨A1, A2, h1, hl1, ho1, h2, h3⟩ := step_app hA (by omega) (by omega) (show (recL [atX n]).length ≤ 400 by omega) (rec_ne _)
  have hcl : (cellsL ([atX n].map toC)).length ≤ 262144 := by
    have := frameL_length (cellsL ([atX n].map toC))
    unfold recL at hlen; omega
  refine ⟨A2, h3, appendL_ok he ht (h.more ((Below.refl _ _).alloc (Nat.le_refl _) _)) rfl hA.on _ [atX n] 1 (one_sees w (atX n)) (by simp) (fun c hc => by rw [List.mem_singleton.1 hc]; exact atX_max n) (atX_ok hn) (atX_wt n) hcl hr (hA.fine (by omega)) hA.left (by have := hA.ops; omega) (by have := hA.next; omega) (fun t ht => ?_) h1 hl1 ho1 h2⟩
  rw [hA.sp] at ht
  rw [List.mem_singleton.1 ht]
  show B.length + _ ≤ _
  omega
set_option maxRecDepth 100000 in
set_option maxHeartbeats 4000000 in
theorem lives07_any (w : World) (he : EnvW w) (ht : Tab w) : Calls Tryz.prog 9 #[] w fun e w' => e = .returned (.bool true) ∧ Below w.heap.size w w' := by
  obtain ⟨A1, A2, n1, n2, n3, n4, hS1⟩ := step_new
  have CD : Hid (Calls Tryz.prog 20 #[.int .i64 1000] w fun x w' => ∃ d, x = .returned (.pointer (some ⟨d, 0, none⟩)) ∧ Kp w d (newA 1000) w') := kp_new 1000 (by omega) w
  have CO : Hid (∀ d u, Kp w d (newA 1000) u → Calls Tryz.prog 21 #[.pointer (some ⟨d, 0, none⟩), .int .i64 1] u fun x w' => ∃ lb, x = .returned (.tuple #[.pointer (some ⟨lb, 0, none⟩), .slice none 0 0, .int .i64 0]) ∧ Lg w d lb A2 1 w') := fun d u hu => openW_new he hu rfl rfl newA_fine rfl (by show 0 ≤ 1000000; omega) n1 n2 n3 n4
  have CT : Hid (∀ (n : Int) (u : World), Calls Tryz.prog 33 #[.int .i64 n] u fun x w' => x = .returned (.agg #[.string ⟨#[116]⟩, .string ⟨#[120]⟩, .int .i64 n, .string ⟨#[]⟩, .int .i64 n, .bool false, .int .i64 0, .int .i64 0, .int .i64 0, .string ⟨#[]⟩]) ∧ Below u.heap.size u w') := at07_any
  have CA : Hid (∀ d lb u, Lg w d lb A2 1 u → ∃ A4, St1 A4 ([] ++ recL [atX 1]) 2 ∧ Calls Tryz.prog 23 #[.pointer (some ⟨lb, 0, none⟩), .slice (some ⟨u.heap.size, 0, none⟩) 1 1] (u.alloc (.cells #[.string ⟨#[116]⟩, .string ⟨#[120]⟩, .int .i64 1, .string ⟨#[]⟩, .int .i64 1, .bool false, .int .i64 0, .int .i64 0, .int .i64 0, .string ⟨#[]⟩] 75)) fun x w' => x = .returned (.int .i64 0) ∧ Lg w d lb A4 1 w') := fun d lb u hu => append_at he ht hu hS1 (by omega) (by simp) ⟨by decide, by decide⟩ rec_ok1 rec_len1
  have CA2 : Hid (∀ d lb u A4, St1 A4 ([] ++ recL [atX 1]) 2 → Lg w d lb A4 1 u → ∃ A6, St1 A6 ([] ++ recL [atX 1] ++ recL [atX 2]) 3 ∧ Calls Tryz.prog 23 #[.pointer (some ⟨lb, 0, none⟩), .slice (some ⟨u.heap.size, 0, none⟩) 1 1] (u.alloc (.cells #[.string ⟨#[116]⟩, .string ⟨#[120]⟩, .int .i64 2, .string ⟨#[]⟩, .int .i64 2, .bool false, .int .i64 0, .int .i64 0, .int .i64 0, .string ⟨#[]⟩] 75)) fun x w' => x = .returned (.int .i64 0) ∧ Lg w d lb A6 1 w') := fun d lb u A4 hS hu => append_at he ht hu hS (by omega) (by have := rec_len1; simp only [List.nil_append]; omega) ⟨by decide, by decide⟩ rec_ok2 rec_len2
  have CR : Hid (∀ d lb u A6, St1 A6 ([] ++ recL [atX 1] ++ recL [atX 2]) 3 → Lg w d lb A6 1 u → ∃ A8, St2 A8 ([] ++ recL [atX 1] ++ recL [atX 2]) ∧ Calls Tryz.prog 27 #[.pointer (some ⟨lb, 0, none⟩)] u fun x w' => x = .returned (.tuple #[.int .i64 2, .int .i64 0]) ∧ Lg w d lb A8 2 w') := fun d lb u A6 hS hu => by
    have hBl : ([] ++ recL [atX 1] ++ recL [atX 2]).length ≤ 1000 := by have := rec_len1; have := rec_len2; rw [List.nil_append, List.length_append]; omega
    obtain ⟨A7, A8, r1, r2, r3, r4, r5⟩ := step_roll hS (by omega) hBl
    exact ⟨A8, r5, rollL_ok he hu rfl rfl hS.on (hS.fine hBl) hS.left (by have := hS.ops; omega) r1 r2 r3 r4⟩
  have CX : Hid (∀ d lb u A8, St2 A8 ([] ++ recL [atX 1] ++ recL [atX 2]) → Lg w d lb A8 2 u → ∃ A9, A9.sp = [⟨q2, [], 0, []⟩] ∧ A9.on = true ∧ Calls Tryz.prog 28 #[.pointer (some ⟨lb, 0, none⟩), .int .i64 2] u fun x w' => x = .returned (.int .i64 0) ∧ Lg w d lb A9 2 w') := fun d lb u A8 hS hu => by
    obtain ⟨A9, s1, s2, s3⟩ := step_remove hS
    refine ⟨A9, s2, s3, retireL_two he hu hS.on (by rw [hS.sp]; simp) (fun t ht => ?_) hS.nums hS.left hS.ops s1⟩
    rw [hS.sp] at ht
    simp only [List.mem_cons, List.not_mem_nil, or_false] at ht
    rcases ht with rfl | rfl
    · decide
    · decide
  have CLs : Hid (∀ d lb u A9, A9.sp = [⟨q2, [], 0, []⟩] → A9.on = true → Lg w d lb A9 2 u → Calls Tryz.prog 35 #[.pointer (some ⟨d, 0, none⟩)] u fun e w' => ∃ b cap, e = .returned (.slice (some ⟨b, 0, none⟩) 1 cap) ∧ w'.cell? ⟨b, 0, none⟩ = some (.string ⟨#[108, 111, 103, 45, 50]⟩) ∧ Below u.heap.size u w') := fun d lb u A9 h1 h2 hu => by
    refine (listL_any hu h2 (by rw [h1]; simp)).mono ?_
    rintro e w' ⟨ao, cap, L, rfl, hp, _, hc, hb⟩
    rw [h1] at hp
    have hL : L = [q2] := List.perm_singleton.1 hp
    subst hL
    obtain ⟨b, rfl, hcb⟩ := hc 0 q2 rfl
    exact ⟨b, cap, rfl, hcb, hb⟩
  have CG : Hid (∀ u, Calls Tryz.prog 36 #[.agg #[.string ⟨#[116]⟩, .string ⟨#[120]⟩, .int .i64 1, .string ⟨#[]⟩, .int .i64 1, .bool false, .int .i64 0, .int .i64 0, .int .i64 0, .string ⟨#[]⟩]] u fun x w' => x = .returned (.bool true) ∧ Below u.heap.size u w') := fun u => by
    have := goodX_any (atX 1) u (atX_max 1).1 (atX_max 1).2.1 (atX_max 1).2.2.1 (atX_max 1).2.2.2
    rw [atX_good1] at this; exact this
  clear he ht n1 n2 n3 n4 hS1
  go_enter Tryz.func9, Tryz.ntmps9
  go_wp2_with fail
  go_fit CD.out
  rintro e w1 ⟨d, rfl, hK1⟩
  have C1 := CO.out d w1 hK1
  go_wp2_with fail
  go_fit C1
  rintro e w2 ⟨lb, rfl, hL2⟩
  clear C1 hK1 CO CD
  go_wp2_with fail
  go_fit (CT.out 1 w2)
  rintro e w3 ⟨rfl, hB3⟩
  have hL3 := hL2.more hB3
  obtain ⟨A4, hS4, C4⟩ := CA.out d lb w3 hL3
  clear hB3 hL2 CA
  go_wp2_with fail
  go_fit C4
  rintro e w4 ⟨rfl, hL4⟩
  clear C4 hL3
  go_wp2_with fail
  go_fit (CT.out 2 w4)
  rintro e w5 ⟨rfl, hB5⟩
  have hL5 := hL4.more hB5
  obtain ⟨A6, hS6, C6⟩ := CA2.out d lb w5 A4 hS4 hL5
  clear hB5 hL4 CA2
  go_wp2_with fail
  go_fit C6
  rintro e w6 ⟨rfl, hL6⟩
  obtain ⟨A8, hS8, C8⟩ := CR.out d lb w6 A6 hS6 hL6
  clear C6 hL5 CR
  go_wp2_with fail
  go_fit C8
  rintro e w7 ⟨rfl, hL7⟩
  obtain ⟨A9, hA9, hon9, C9⟩ := CX.out d lb w7 A8 hS8 hL7
  clear C8 hL6 CX
  go_wp2_with fail
  go_fit C9
  rintro e w8 ⟨rfl, hL8⟩
  have C10 := CLs.out d lb w8 A9 hA9 hon9 hL8
  clear C9 hL7 CLs
  go_wp2_with fail
  go_fit C10
  rintro e w9 ⟨b, cap, rfl, hc9, hB9⟩
  have hb0 : Below w.heap.size w w9 := hL8.bel.trans (hB9.mono hL8.bel.size)
  have hba : Below w9.heap.size w9 (w9.alloc (.cells #[.string ⟨#[108, 111, 103, 45, 50]⟩] 9)) := (Below.refl _ _).alloc (Nat.le_refl _) _
  have CX2 : Hid (Calls Tryz.prog 34 #[.slice (some ⟨b, 0, none⟩) 1 cap, .slice (some ⟨w9.heap.size, 0, none⟩) 1 1] (w9.alloc (.cells #[.string ⟨#[108, 111, 103, 45, 50]⟩] 9)) fun e w' => e = .returned (.bool true) ∧ Below w.heap.size w w') := by
    refine (texts_one b w9.heap.size ⟨#[108, 111, 103, 45, 50]⟩ cap 1 _ (by rw [hba.cell (World.block_lt_of_cell? _ _ hc9)]; exact hc9) (Blk.cell (Blk.new w9 [.string ⟨#[108, 111, 103, 45, 50]⟩] 9) 0 rfl)).mono fun e w' ⟨h1, h2⟩ => ⟨h1, ?_⟩
    exact (hb0.trans (hba.mono hb0.size)).trans (h2.mono (Nat.le_trans hb0.size hba.size))
  clear hb0 hba hc9 hB9 hL8 C10
  go_wp2_with fail
  go_fit CX2.out
  rintro e w10 ⟨rfl, hB10⟩
  go_wp2_with fail
  go_fit (CT.out 1 w10)
  rintro e w11 ⟨rfl, hB11⟩
  go_wp2_with fail
  go_fit (CG.out w11)
  rintro e w12 ⟨rfl, hB12⟩
  have HF : Hid (Below w.heap.size w w12) := (hB10.trans (hB11.mono hB10.size)).trans (hB12.mono (Nat.le_trans hB10.size hB11.size))
  clear hB10 hB11 hB12 CX2
  go_wp2_with fail
  go_ret
  exact ⟨rfl, HF.out⟩
end Go.Proofs.YtabkgcmlfabmgaaGreatDoor
namespace Go.Proofs.YtabkgcmlfabmgaaGreatDoor
open Go.ChangeShapes Go.WideShapes Go.ChangeAt Go.RowKit

theorem ownW : ownKnob Tryz.prog.godebug = none := by kernel_rfl
theorem laidOutW : laidOutB Tryz.prog = true := by kernel_rfl
/-- The list that each row has. -/
def laidSeven : List (String × DataW Unit) := [("math/bits.deBruijn32tab", Rows.laid_math_bits_deBruijn32tab), ("math/bits.deBruijn64tab", Rows.laid_math_bits_deBruijn64tab), ("internal/strconv.uint64pow10", Rows.laid_internal_strconv_uint64pow10), ("skerry/codec.fourSteps", Rows.laid_skerry_codec_fourSteps), ("skerry/codec.errNone", Rows.laid_skerry_codec_errNone), ("strconv.ErrRange", Rows.laid_strconv_ErrRange), ("strconv.ErrSyntax", Rows.laid_strconv_ErrSyntax)]
theorem gPowTypeW : (Tryz.prog.globals[4]?).map (·.type) = some 224 := by kernel_rfl
theorem cellsPowW : Tryz.prog.cellsOf 224 = 20 := by kernel_rfl
theorem cells64W : Tryz.prog.cellsOf 122 = 1 := by kernel_rfl
theorem gTabW : Tryz.prog.globalNamed "skerry/codec.fourSteps" = some 2 := by kernel_rfl
theorem gTabTypeW : (Tryz.prog.globals[2]?).map (·.type) = some 214 := by kernel_rfl
theorem cellsTabW : Tryz.prog.cellsOf 214 = 16 := by kernel_rfl
theorem cells32W : Tryz.prog.cellsOf 128 = 1 := by kernel_rfl
theorem gRng : Tryz.prog.globalNamed "strconv.ErrRange" = some 1 := by kernel_rfl
theorem gRngType : (Tryz.prog.globals[1]?).map (·.type) = some 93 := by kernel_rfl
theorem gSyn : Tryz.prog.globalNamed "strconv.ErrSyntax" = some 0 := by kernel_rfl
theorem gSynType : (Tryz.prog.globals[0]?).map (·.type) = some 93 := by kernel_rfl
theorem cellsErrW : Tryz.prog.cellsOf 222 = 1 := by kernel_rfl
theorem cellsStrW : Tryz.prog.cellsOf 9 = 1 := by kernel_rfl
theorem starW : "*" ++ "errors.errorString" = "*errors.errorString" := by decide
theorem rowErrW (u : TypeId) (h : Tryz.prog.typeName? 3 u = some "*errors.errorString") : u = 220 :=
  typeName_ptr_named (nm := "errors.errorString") (by rw [starW]; kernel_rfl) (by kernel_rfl) (by decide) u (by rw [starW]; exact h)

theorem met_of {W : World} (h : laidMetH Tryz.prog laidSeven W) : laidMet Tryz.prog laidSeven W := by rw [MakeChecks.laidMetH_plain _ _ _ (by kernel_rfl)] at h; exact h
theorem tab7 {W : World} (h : laidMetH Tryz.prog laidSeven W) : Tab W := by
  have h4 := laidMet.tail (laidMet.tail (laidMet.tail (met_of h)))
  have hT : Lib.TabIs Tryz.prog W "skerry/codec.fourSteps" .u32 tabZ := Lib.tabIs_of_head gTabW gTabTypeW Tryz.underlying214 Tryz.underlying128 cells32W cellsTabW h4
  exact fun j hj => hT.cell gTabW j hj
theorem env7 {W : World} (h : laidMetH Tryz.prog laidSeven W) : EnvW W := by
  have h3 := laidMet.tail (laidMet.tail (met_of h))
  have h6 := laidMet.tail (laidMet.tail (laidMet.tail h3))
  have h7 := laidMet.tail h6
  refine ⟨Lib.tabIs_of_head (zs := Lib.pow10Tab) gPowW gPowTypeW Tryz.underlying224 Tryz.underlying122 cells64W cellsPowW h3, ?_, ?_⟩
  · obtain ⟨a0, s0, hv0, _, _, _⟩ := laid_sentinel h7 gSyn gSynType Tryz.underlying93 rowErrW Tryz.underlying220 Tryz.underlying222 rfl rfl Tryz.underlying9 cellsErrW cellsStrW
    exact ⟨220, .pointer (some a0), World.var?_cell gSyn hv0 0⟩
  · obtain ⟨a0, s0, hv0, _, _, _⟩ := laid_sentinel h6 gRng gRngType Tryz.underlying93 rowErrW Tryz.underlying220 Tryz.underlying222 rfl rfl Tryz.underlying9 cellsErrW cellsStrW
    exact ⟨220, .pointer (some a0), World.var?_cell gRng hv0 0⟩
theorem door_met7 (os : Os) (args : Array Value) : laidMetH Tryz.prog laidSeven ((World.laidAll Tryz.prog os laidSeven).forCall (fun _ _ => 0) ⟨#[], args, []⟩).memory := by
  rw [MakeChecks.laidMetH_plain _ _ _ (by kernel_rfl)]; exact laidMet_laidAll _ (by kernel_rfl) (by kernel_rfl)
end Go.Proofs.YtabkgcmlfabmgaaGreatDoor
