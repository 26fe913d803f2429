/-
  SEVERAL TEXTS IN ONE: WalRec, WalCalls, WalOpen, CxSorted.
-/
import Derived.Test.YtglaocghcgcghaaGreatDoorMany19
import Derived.Test.YtglaocghcgcghaaGreatDoorMany17
import Derived.Test.YtglaocghcgcghaaGreatDoorWalNums
namespace Go.Proofs.YtglaocghcgcghaaGreatDoor
open Go.RowKit

set_option maxRecDepth 100000 in
theorem notGood_any (c : Cx) (w : World) (h1 : c.k.t.size ≤ maxLen) (h2 : c.k.p.size ≤ maxLen) (h3 : c.k.c.size ≤ maxLen) (h4 : c.v.s.size ≤ maxLen) :
    Calls Tryz.prog 53 #[c.val] w fun x w' => x = .returned (.bool (!goodC c)) ∧ Below w.heap.size w w' := by
  have G : Hid (∀ u, Calls Tryz.prog 20 #[c.val] u fun x w' => x = .returned (.bool (goodC c)) ∧ Below u.heap.size u w') := fun u => goodX_any c u h1 h2 h3 h4
  have hb : Hid (Below w.heap.size w (w.alloc (.cells c.a 50))) := (Below.refl _ _).alloc (Nat.le_refl _) _
  generalize goodC c = g at *
  clear h1 h2 h3 h4
  obtain ⟨⟨ct, cp, cr, cc⟩, ⟨cti, cd, cl, ck, cn, cstr⟩⟩ := c
  simp only [Cx.val, Cx.a] at G hb ⊢
  go_enter Tryz.func53, Tryz.ntmps53
  go_wp2_with fail
  go_fit (G.out _)
  rintro e w1 ⟨rfl, hB⟩
  have HF : Hid (Below w.heap.size w w1) := hb.out.trans (hB.mono hb.out.size)
  clear hB hb
  go_wp2_with fail
  go_ret
  exact ⟨rfl, HF.out⟩
set_option maxRecDepth 100000 in
set_option maxHeartbeats 1000000 in
theorem indexRec_any (ao : Option Addr) (l : List Cx) (cap : Nat) (w : World) (p : Cx → Bool) (hs : XSees w ao l) (hl : l.length ≤ 1000000)
    (hf : ∀ (u : World) (c : Cx), c ∈ l → Below w.heap.size w u → Calls Tryz.prog 53 #[c.val] u fun e w' => e = .returned (.bool (p c)) ∧ Below u.heap.size u w') :
    Calls Tryz.prog 81 #[.slice ao l.length cap, .func (.func 53) #[] #[]] w fun e w' => ((e = .returned (.int .i64 (-1)) ∧ ∀ c ∈ l, p c = false) ∨ ∃ i : Nat, e = .returned (.int .i64 (i : Int)) ∧ i < l.length ∧ (∀ c ∈ l.take i, p c = false) ∧ ∃ c, l[i]? = some c ∧ p c = true) ∧ Below w.heap.size w w' := by
  have hlz : (l.length : Int) ≤ 1000000 := by omega
  have Hf : Hid (∀ (u : World) (c : Cx), c ∈ l → Below w.heap.size w u → Calls Tryz.prog 53 #[c.val] u fun e w' => e = .returned (.bool (p c)) ∧ Below u.heap.size u w') := hf
  clear hf
  go_enter Tryz.func81, Tryz.ntmps81
  go_wp2_with fail
  go_loopw [8] (fun s8 wr => ∃ i : Nat, i ≤ l.length ∧ s8 = .int .i64 i ∧ (∀ c ∈ l.take i, p c = false) ∧ Below w.heap.size w wr) (fun s8 _ => l.length - (intOf s8).toNat)
  case atStart => exact ⟨0, by omega, rfl, by simp, Below.refl _ _⟩
  case round =>
    obtain ⟨i, hi, rfl, hr, hbr⟩ := hrel
    have HR : Hid (∀ c ∈ l.take i, p c = false) := hr
    clear hr
    rcases Nat.lt_or_ge i l.length with hlt | hge
    · have hc : l[i]? = some l[i] := List.getElem?_eq_getElem hlt
      have HC : Hid (l[i]? = some l[i]) := hc
      have HT : Hid (l.take (i + 1) = l.take i ++ [l[i]]) := takeX_succ hc
      obtain ⟨b, off, rfl, x1⟩ := (hs.below hbr (Nat.le_refl _)) i _ hc
      have G : Hid (Calls Tryz.prog 53 #[l[i].val] wr fun x w' => x = .returned (.bool (p l[i])) ∧ Below wr.heap.size wr w') := Hf.out wr _ (List.getElem_mem hlt) hbr
      have hltz : (i : Int) < (l.length : Int) := by omega
      generalize l[i] = c at *
      clear hc
      cases hg : p c
      · rw [hg] at G
        have HG : Hid (p c = false) := hg
        clear hg
        obtain ⟨⟨ct, cp, cr, cc⟩, ⟨cti, cd, cl, ck, cn, cstr⟩⟩ := c
        obtain ⟨k0, k1, k2, k3, k4, k5, k6, k7, k8, k9⟩ := x1
        simp only [Cx.val, Cx.a] at k0 k1 k2 k3 k4 k5 k6 k7 k8 k9 G
        go_wp2_with fail
        refine G.out.mono ?_
        rintro e w1 ⟨rfl, hb1⟩
        go_wp2_with fail
        go_roundw
        case rel =>
          refine ⟨i + 1, by omega, by simp, ?_, hbr.trans (hb1.mono hbr.size)⟩
          intro c hc
          rw [HT.out, List.mem_append, List.mem_singleton] at hc
          rcases hc with h | rfl
          · exact HR.out c h
          · exact HG.out
        case measure => simp [intOf]; omega
      · rw [hg] at G
        have HG : Hid (p c = true) := hg
        clear hg
        obtain ⟨⟨ct, cp, cr, cc⟩, ⟨cti, cd, cl, ck, cn, cstr⟩⟩ := c
        obtain ⟨k0, k1, k2, k3, k4, k5, k6, k7, k8, k9⟩ := x1
        simp only [Cx.val, Cx.a] at k0 k1 k2 k3 k4 k5 k6 k7 k8 k9 G
        go_wp2_with fail
        refine G.out.mono ?_
        rintro e w1 ⟨rfl, hb1⟩
        go_wp2_with fail
        go_ret
        exact ⟨.inr ⟨i, rfl, hlt, HR.out, _, HC.out, HG.out⟩, hbr.trans (hb1.mono hbr.size)⟩
    · obtain rfl : i = l.length := by omega
      go_wp2_with fail
      go_ret
      exact ⟨.inl ⟨rfl, fun c hc => HR.out c (by rw [List.take_length]; exact hc)⟩, hbr⟩
/-- May cells be a record? -/
def recB (l : List Cx) : Bool := decide (0 < l.length ∧ l.length ≤ 400) && l.all goodC
/-- Cells as texts that are not too long. -/
def CxMax (c : Cx) : Prop := c.k.t.size ≤ maxLen ∧ c.k.p.size ≤ maxLen ∧ c.k.c.size ≤ maxLen ∧ c.v.s.size ≤ maxLen
set_option maxRecDepth 100000 in
theorem containsRec_any (ao : Option Addr) (l : List Cx) (cap : Nat) (w : World) (hs : XSees w ao l) (hl : l.length ≤ 1000000) (hc : ∀ c ∈ l, CxMax c) :
    Calls Tryz.prog 52 #[.slice ao l.length cap, .func (.func 53) #[] #[]] w fun e w' => e = .returned (.bool (!l.all goodC)) ∧ Below w.heap.size w w' := by
  have CI : Hid (Calls Tryz.prog 81 #[.slice ao l.length cap, .func (.func 53) #[] #[]] w fun e w' => ∃ k : Int, e = .returned (.int .i64 k) ∧ (decide (0 ≤ k)) = (!l.all goodC) ∧ Below w.heap.size w w') := by
    refine (indexRec_any ao l cap w (fun c => !goodC c) hs hl fun u c hcm _ => notGood_any c u (hc c hcm).1 (hc c hcm).2.1 (hc c hcm).2.2.1 (hc c hcm).2.2.2).mono ?_
    rintro e w' ⟨h, hb⟩
    rcases h with ⟨rfl, h⟩ | ⟨i, rfl, hi, _, c, h1, h2⟩
    · refine ⟨_, rfl, ?_, hb⟩
      have : l.all goodC = true := List.all_eq_true.2 fun c hc => by simpa using h c hc
      rw [this]; rfl
    · refine ⟨_, rfl, ?_, hb⟩
      have : l.all goodC = false := by
        rw [List.all_eq_false]
        exact ⟨c, List.mem_of_getElem? h1, by simpa using h2⟩
      rw [this]; simp
  generalize (!l.all goodC) = r at *
  clear hs hl hc
  go_enter Tryz.func52, Tryz.ntmps52
  go_wp2_with fail
  go_fit CI.out
  rintro e w1 ⟨k, rfl, hk, hB⟩
  go_wp2_with fail
  go_ret
  exact ⟨by rw [← hk]; rfl, hB⟩
set_option maxRecDepth 100000 in
theorem recordable_any (ao : Option Addr) (l : List Cx) (cap : Nat) (w : World) (hs : XSees w ao l) (hl : l.length ≤ 140737488355328) (hc : ∀ c ∈ l, CxMax c) :
    Calls Tryz.prog 28 #[.slice ao l.length cap] w fun e w' => e = .returned (.bool (recB l)) ∧ Below w.heap.size w w' := by
  have hlz : (l.length : Int) ≤ 140737488355328 := by omega
  by_cases h0 : 0 < l.length ∧ l.length ≤ 400
  · have CC : Hid (Calls Tryz.prog 52 #[.slice ao l.length cap, .func (.func 53) #[] #[]] w fun e w' => e = .returned (.bool (!l.all goodC)) ∧ Below w.heap.size w w') := containsRec_any ao l cap w hs (by omega) hc
    have HR : Hid (recB l = !(!l.all goodC)) := by show _ = _; unfold recB; rw [decide_eq_true h0]; simp
    have h1 : ¬ (l.length : Int) = 0 := by omega
    have h2 : ¬ (400 : Int) < (l.length : Int) := by omega
    generalize l.length = n at *
    generalize (!l.all goodC) = r at *
    clear hs hc hl h0
    go_enter Tryz.func28, Tryz.ntmps28
    go_wp2_with fail
    go_fit CC.out
    rintro e w1 ⟨rfl, hB⟩
    go_wp2_with fail
    go_ret
    exact ⟨ret_bool (by rw [HR.out]), hB⟩
  · have HR : Hid (recB l = false) := by show _ = _; unfold recB; rw [decide_eq_false h0]; rfl
    rw [HR.out]
    generalize l.length = n at *
    clear hs hc hl
    rcases Nat.eq_zero_or_pos n with hn | hn
    · have h1 : (n : Int) = 0 := by omega
      clear h0
      subst hn
      go_enter Tryz.func28, Tryz.ntmps28
      go_wp2_with fail
      go_ret
      exact ⟨rfl, Below.refl _ _⟩
    · have h1 : ¬ (n : Int) = 0 := by omega
      have h2 : (400 : Int) < (n : Int) := by omega
      clear h0
      go_enter Tryz.func28, Tryz.ntmps28
      go_wp2_with fail
      go_ret
      exact ⟨rfl, Below.refl _ _⟩
/-- A record's bytes. -/
def recL (l : List Cx) : List UInt8 := frameL (cellsL (l.map toC))
set_option maxRecDepth 100000 in
theorem framed_any (ao : Option Addr) (b : List UInt8) (cap : Nat) (w : World) (hb : b.length ≤ 262144) (hs : Sees w ao b) (hn : ao = none → b.length = 0) (ht : Tab w) :
    Calls Tryz.prog 29 #[.slice ao b.length cap] w fun e w' => e = .returned (.tuple #[.slice (some ⟨w.heap.size, 0, none⟩) (b.length + 8) (b.length + 8), .int .i64 0]) ∧ Row w' w.heap.size (frameL b) ∧ Below w.heap.size w w' := by
  have CF : Hid (Calls Tryz.prog 54 #[.slice ao b.length cap] w fun e w' => e = .returned (.slice (some ⟨w.heap.size, 0, none⟩) (b.length + 8) (b.length + 8)) ∧ Row w' w.heap.size (frameL b) ∧ Below w.heap.size w w') := frame_any ao b cap w hb hs hn ht
  generalize frameL b = F at *
  have hz : ¬ ((b.length + 8 : Nat) : Int) = 0 := by omega
  have hz2 : ((b.length + 8 : Nat) : Int) ≤ 1000000 := by omega
  clear hs hn ht hb
  generalize b.length + 8 = m at *
  generalize b.length = n at *
  have hz3 : ¬ m = 0 := by omega
  go_enter Tryz.func29, Tryz.ntmps29
  go_wp2_with fail
  go_fit CF.out
  rintro e w1 ⟨rfl, hR, hB⟩
  go_wp2_with fail
  go_ret2
  exact ⟨rfl, hR, hB⟩
set_option maxRecDepth 100000 in
theorem record_ok (ao : Option Addr) (l : List Cx) (cap : Nat) (w : World) (hs : XSees w ao l) (hl : l.length ≤ 400) (hc : ∀ c ∈ l, CxMax c) (hok : ∀ c ∈ l.map toC, c.Ok) (hw : wtLD (l.map toC) + 81 * (l.map toC).length ≤ 140737488330000) (hb : (cellsL (l.map toC)).length ≤ 262144) (hr : recB l = true) (ht : Tab w) :
    Calls Tryz.prog 10 #[.slice ao l.length cap] w fun e w' => ∃ g, e = .returned (.tuple #[.slice (some ⟨g, 0, none⟩) (recL l).length (recL l).length, .int .i64 0]) ∧ w.heap.size ≤ g ∧ Row w' g (recL l) ∧ Below w.heap.size w w' := by
  have CR : Hid (Calls Tryz.prog 28 #[.slice ao l.length cap] w fun e w' => e = .returned (.bool true) ∧ Below w.heap.size w w') := by
    have := recordable_any ao l cap w hs (by omega) hc
    rw [hr] at this; exact this
  have hlm : (l.map toC).length = l.length := List.length_map _
  have CC : Hid (∀ u, Below w.heap.size w u → Calls Tryz.prog 30 #[.slice ao l.length cap] u fun e w' => ∃ bo c, e = .returned (.slice bo (cellsL (l.map toC)).length c) ∧ Sees w' bo (cellsL (l.map toC)) ∧ (bo = none → (cellsL (l.map toC)).length = 0) ∧ Below u.heap.size u w') := fun u hu => by
    have := cells_anyD ao (l.map toC) cap u (hs.below hu (Nat.le_refl _)).c hok hw
    rw [hlm] at this
    refine this.mono fun e w' ⟨v, he, ho, hB⟩ => ?_
    obtain ⟨bo, c, rfl, h1, h2, h3⟩ := owns_sees ho
    exact ⟨bo, c, he, h1, fun e => (h3 e).1, hB⟩
  have HFL : Hid ((recL l).length = (cellsL (l.map toC)).length + 8) := frameL_length _
  have HTB : Hid (∀ u, Below w.heap.size w u → Tab u) := fun u hu => ht.below hu (Nat.le_refl _)
  have HRL : Hid (recL l = frameL (cellsL (l.map toC))) := rfl
  rw [HFL.out]
  generalize recL l = R at *
  generalize cellsL (l.map toC) = B at *
  clear hs hc hok hw hr ht hlm
  go_enter Tryz.func10, Tryz.ntmps10
  go_wp2_with fail
  go_fit CR.out
  rintro e w1 ⟨rfl, hB1⟩
  have C1 : Hid (Calls Tryz.prog 30 #[.slice ao l.length cap] w1 fun e w' => ∃ bo c, e = .returned (.slice bo B.length c) ∧ Sees w' bo B ∧ (bo = none → B.length = 0) ∧ Below w1.heap.size w1 w') := CC.out w1 hB1
  go_wp2_with fail
  go_fit C1.out
  rintro e w2 ⟨bo, c, rfl, hS2, hn2, hB2⟩
  have hB2' : Below w.heap.size w w2 := hB1.trans (hB2.mono hB1.size)
  have C2 : Hid (Calls Tryz.prog 29 #[.slice bo B.length c] w2 fun e w' => e = .returned (.tuple #[.slice (some ⟨w2.heap.size, 0, none⟩) (B.length + 8) (B.length + 8), .int .i64 0]) ∧ Row w' w2.heap.size (frameL B) ∧ Below w2.heap.size w2 w') := framed_any bo B c w2 hb hS2 hn2 (HTB.out w2 hB2')
  clear C1 CC CR hS2 hn2
  go_wp2_with fail
  go_fit C2.out
  rintro e w3 ⟨rfl, hR3, hB3⟩
  have HF : Hid (Row w3 w2.heap.size R ∧ w.heap.size ≤ w2.heap.size ∧ Below w.heap.size w w3) := ⟨by rw [HRL.out]; exact hR3, hB2'.size, hB2'.trans (hB3.mono hB2'.size)⟩
  clear hR3 hB3 hB2' hB2 hB1 C2
  go_wp2_with fail
  go_ret2
  exact ⟨_, rfl, HF.out.2.1, HF.out.1, HF.out.2.2⟩
end Go.Proofs.YtglaocghcgcghaaGreatDoor
namespace Go.Proofs.YtglaocghcgcghaaGreatDoor
open Go.RowKit
attribute [local go_sem] Oper.pureAt Oper.pureUpon

set_option maxRecDepth 100000 in
set_option maxHeartbeats 1000000 in
theorem appendL_ok {w0 : World} {d lb : Nat} {A A1 A2 : Ab} {n : Int} {w : World} (he : EnvW w0) (ht : Tab w0) (h : Lg w0 d lb A n w) (hn : okW n = true) (hon : A.on = true) (ao : Option Addr) (l : List Cx) (cap : Nat)
    (hs : XSees w ao l) (hll : l.length ≤ 400) (hc : ∀ c ∈ l, CxMax c) (hok : ∀ c ∈ l.map toC, c.Ok) (hw : wtLD (l.map toC) + 81 * (l.map toC).length ≤ 140737488330000) (hb : (cellsL (l.map toC)).length ≤ 262144) (hr : recB l = true)
    (hF : A.Fine) (hl : A.left = 0) (ho : A.ops ≤ 1000000) (hnx : A.next ≤ 1000000) (hlen : ∀ t ∈ A.sp, t.bs.length + (recL l).length ≤ 1099511627776)
    (h1 : appendM A (tB (nmW n)) (recL l) = (0, A1)) (hl1 : A1.left = 0) (ho1 : A1.ops ≤ 1000000) (h2 : syncM A1 (tB (nmW n)) = (0, A2)) :
    Calls Tryz.prog 9 #[.pointer (some ⟨lb, 0, none⟩), .slice ao l.length cap] w fun x w' => x = .returned (.int .i64 0) ∧ Lg w0 d lb A2 n w' := by
  have hmm := okW_iff.1 hn
  have CR : Hid (Calls Tryz.prog 25 #[.pointer (some ⟨lb, 0, none⟩)] w fun e w' => e = .returned (.int .i64 0) ∧ w' = w) := refusalL_any h (by omega) hon
  have CD : Hid (Calls Tryz.prog 10 #[.slice ao l.length cap] w fun e w' => ∃ g, e = .returned (.tuple #[.slice (some ⟨g, 0, none⟩) (recL l).length (recL l).length, .int .i64 0]) ∧ w.heap.size ≤ g ∧ Row w' g (recL l) ∧ Below w.heap.size w w') := record_ok ao l cap w hs hll hc hok hw hb hr (ht.below h.bel (Nat.le_refl _))
  obtain ⟨ft, hG⟩ := h
  have hft : ∀ i ∈ ft, i < w.heap.size := hG.1.lt
  have CW : Hid (∀ u g, Below w.heap.size w u → w.heap.size ≤ g → Row u g (recL l) → Calls Tryz.prog 27 #[.pointer (some ⟨lb, 0, none⟩), .slice (some ⟨g, 0, none⟩) (recL l).length (recL l).length] u fun x w' => x = .returned (.int .i64 0) ∧ Lg w0 d lb A2 n w') := fun u g hu hg hR => by
    have hsee : Sees u (some ⟨g, 0, none⟩) (recL l) := fun i hi => ⟨_, rfl, by rw [Addr.add_lit, Nat.zero_add]; exact hR.cell i hi⟩
    exact writeL_ok he (LgF.more hG hu) hn (some ⟨g, 0, none⟩) (recL l) (recL l).length hsee (fun a e _ hi => by cases e; have h9 : g < w.heap.size := hft _ hi; omega) hF hl ho hnx hlen h1 hl1 ho1 h2
  have CN : Hid (∀ u, Calls Tryz.prog 26 #[.pointer (some ⟨lb, 0, none⟩), .int .i64 0] u fun x w' => x = .returned (.int .i64 0) ∧ w' = u) := fun u => noted_any lb 0 u (by omega)
  generalize recL l = R at *
  generalize l.length = m at *
  clear hG hft h1 h2 hs hc hok hw hb hr hF hlen he ht hn hon
  go_enter Tryz.func9, Tryz.ntmps9
  go_wp2_with (go_at_call 25; refine CR.out.mono ?_; rintro e w1 ⟨rfl, rfl⟩)
  go_fit CD.out
  rintro e w2 ⟨g, rfl, hg, hR, hB2⟩
  have C2 : Hid (Calls Tryz.prog 27 #[.pointer (some ⟨lb, 0, none⟩), .slice (some ⟨g, 0, none⟩) R.length R.length] w2 fun x w' => x = .returned (.int .i64 0) ∧ Lg w0 d lb A2 n w') := CW.out w2 g hB2 hg hR
  clear CW CD CR hR hB2 hg
  go_wp2_with fail
  go_fit C2.out
  rintro e w3 ⟨rfl, hL3⟩
  go_wp2_with fail
  go_fit (CN.out _)
  rintro e w4 ⟨rfl, rfl⟩
  go_wp2_with fail
  go_ret
  exact ⟨rfl, hL3⟩
set_option maxRecDepth 100000 in
set_option maxHeartbeats 1000000 in
theorem rollL_ok {w0 : World} {d lb : Nat} {A A1 A2 : Ab} {n : Int} {w : World} (he : EnvW w0) (h : Lg w0 d lb A n w) (hn : okW n = true) (hm : okW (n + 1) = true) (hon : A.on = true) (hF : A.Fine) (hl : A.left = 0) (ho : A.ops ≤ 1000000) (h1 : createM A (tB (nmW (n + 1))) = (0, A1)) (hl1 : A1.left = 0) (ho1 : A1.ops ≤ 1000000) (h2 : syncM A1 (tB (nmW (n + 1))) = (0, A2)) :
    Calls Tryz.prog 16 #[.pointer (some ⟨lb, 0, none⟩)] w fun x w' => x = .returned (.tuple #[.int .i64 (n + 1), .int .i64 0]) ∧ Lg w0 d lb A2 (n + 1) w' := by
  have hmm := okW_iff.1 hn
  have CR : Hid (Calls Tryz.prog 25 #[.pointer (some ⟨lb, 0, none⟩)] w fun e w' => e = .returned (.int .i64 0) ∧ w' = w) := refusalL_any h (by omega) hon
  have CB : Hid (Calls Tryz.prog 35 #[.pointer (some ⟨lb, 0, none⟩), .int .i64 (n + 1)] w fun x w' => x = .returned (.int .i64 0) ∧ Lg w0 d lb A2 (n + 1) w') := beginL_ok he h hm hF hl ho h1 hl1 ho1 h2
  have CN : Hid (∀ u, Calls Tryz.prog 26 #[.pointer (some ⟨lb, 0, none⟩), .int .i64 0] u fun x w' => x = .returned (.int .i64 0) ∧ w' = u) := fun u => noted_any lb 0 u (by omega)
  have c1 := h.blk.cell 1 rfl
  clear h he h1 h2 hF hn hm hon
  go_enter Tryz.func16, Tryz.ntmps16
  go_wp2_with (go_at_call 25; refine CR.out.mono ?_; rintro e w1 ⟨rfl, rfl⟩)
  go_fit CB.out
  rintro e w3 ⟨rfl, hL3⟩
  go_wp2_with fail
  go_fit (CN.out _)
  rintro e w4 ⟨rfl, rfl⟩
  have d1 := hL3.blk.cell 1 rfl
  go_wp2_with fail
  go_ret2
  exact ⟨rfl, hL3⟩
theorem results_tct {P : Program} {fn : Func} {t0 p u : Tmp} {ty : TypeId} (h : fn.results = #[.tmp t0, .cell p ty, .tmp u]) (tmps : Array Value) (w : World) (g : Nat) (t : TypeId) (cs : Array Value) (fr : Nat × Nat) (d : TypeDesc)
    (hp : tmps.getD p undef = .pointer (some ⟨g, 0, none⟩)) (hg : w.heap[g]? = some (.cells cs t fr))
    (hu : P.underlying ty = some d) (hd : (match d with | .struct _ | .array _ _ => true | _ => false) = true) (hi : (P.info? ty).map (·.size) = some cs.size) :
    (results fn tmps).run P w = .ok (.tuple #[tmps.getD t0 undef, .agg cs, tmps.getD u undef]) w := by
  have hp' : tmps[p]?.getD undef = .pointer (some ⟨g, 0, none⟩) := by simpa using hp
  simp [results, h, hp', asAddr, run_loadVar_row w g t ty cs fr d hg hu hd hi]
set_option maxRecDepth 100000 in
set_option maxHeartbeats 1000000 in
theorem readL_nil (lb : Nat) (a : Option Addr) (c : Nat) (w : World) :
    Calls Tryz.prog 46 #[.pointer (some ⟨lb, 0, none⟩), .slice a 0 c] w fun x w' => x = .returned (.tuple #[.slice none 0 0, .agg #[.slice none 0 0, .bool false], .int .i64 0]) ∧ Below w.heap.size w w' := by
  obtain ⟨wa, hwa⟩ : ∃ wa, wa = (w.alloc (.cells #[.slice none 0 0, .bool false] 96)).alloc (.cells #[.slice none 0 0, .bool false] 96) := ⟨_, rfl⟩
  have hz : wa.heap.size = w.heap.size + 2 := by rw [hwa]; simp
  have k1 : Blk wa w.heap.size [.slice none 0 0, .bool false] 96 := by rw [hwa]; exact (Blk.new w _ _).alloc _
  have k2 : Blk wa (w.heap.size + 1) [.slice none 0 0, .bool false] 96 := by
    rw [hwa]
    have := Blk.new (w.alloc (.cells #[.slice none 0 0, .bool false] 96)) [.slice none 0 0, .bool false] 96
    rw [World.size_alloc] at this; exact this
  have HB : Hid (Below w.heap.size w wa) := by rw [hwa]; exact ((Below.refl _ _).alloc (Nat.le_refl _) _).alloc (by simp) _
  have HW : Hid ((w.alloc (.cells #[.slice none 0 0, .bool false] 96)).alloc (.cells #[.slice none 0 0, .bool false] 96) = wa) := hwa.symm
  have HK : Hid (Blk wa w.heap.size [.slice none 0 0, .bool false] 96 ∧ Blk wa (w.heap.size + 1) [.slice none 0 0, .bool false] 96) := ⟨k1, k2⟩
  clear hwa k1 k2 hz
  go_enter Tryz.func46, Tryz.ntmps46
  go_wp2_with fail
  rw [HW.out]
  clear HW
  go_loopw [7, 17] (fun s7 s17 wr => s7 = .slice none 0 0 ∧ s17 = .int .i64 0 ∧ wr = wa) (fun _ _ _ => 0)
  case atStart => exact ⟨rfl, rfl, rfl⟩
  case round =>
    obtain ⟨rfl, rfl, rfl⟩ := hrel
    have e0 := HK.out.1.cell 0 rfl
    have e1 := HK.out.1.cell 1 rfl
    have e2 := HK.out.2.cell 0 rfl
    have e3 := HK.out.2.cell 1 rfl
    have f0 := HK.out.1.frozen 0
    have f1 := HK.out.1.frozen 1
    go_wp2_with fail
    go_region
    have HN : Hid (Blk ((wr.setCell ⟨w.heap.size, 0, none⟩ (.slice none 0 0)).setCell ⟨w.heap.size, 1, none⟩ (.bool false)).drew w.heap.size [.slice none 0 0, .bool false] 96 ∧ Below w.heap.size w ((wr.setCell ⟨w.heap.size, 0, none⟩ (.slice none 0 0)).setCell ⟨w.heap.size, 1, none⟩ (.bool false)).drew) :=
      ⟨(HK.out.1.setTo 0 _ _ rfl).setTo 1 _ _ rfl, ((HB.out.setCell (by exact Nat.le_refl _) _).setCell (by exact Nat.le_refl _) _).drew⟩
    generalize ((wr.setCell ⟨w.heap.size, 0, none⟩ (.slice none 0 0)).setCell ⟨w.heap.size, 1, none⟩ (.bool false)).drew = wz at *
    clear e0 e1 e2 e3 f0 f1
    go_wp2_with fail
    refine bodyPost_ret (results_tct Tryz.results46 _ wz w.heap.size 96 _ (0, 0) _ rfl HN.out.1 Tryz.underlying96 rfl (by kernel_rfl)) rfl ?_
    exact ⟨rfl, HN.out.2⟩
end Go.Proofs.YtglaocghcgcghaaGreatDoor
namespace Go.Proofs.YtglaocghcgcghaaGreatDoor
open Go.RowKit

set_option maxRecDepth 100000 in
set_option maxHeartbeats 2000000 in
theorem openL_new {w0 : World} {d lb : Nat} {A A1 A2 : Ab} {w : World} (he : EnvW w0) (h : Lg w0 d lb A 0 w) (hsp : A.sp = []) (hon : A.on = true) (hF : A.Fine) (hl : A.left = 0) (ho : A.ops ≤ 1000000) (h1 : createM A (tB (nmW 1)) = (0, A1)) (hl1 : A1.left = 0) (ho1 : A1.ops ≤ 1000000) (h2 : syncM A1 (tB (nmW 1)) = (0, A2)) :
    Calls Tryz.prog 23 #[.pointer (some ⟨lb, 0, none⟩), .int .i64 1] w fun x w' => x = .returned (.tuple #[.slice none 0 0, .int .i64 0]) ∧ Lg w0 d lb A2 1 w' := by
  have CN : Hid (Calls Tryz.prog 36 #[.pointer (some ⟨lb, 0, none⟩)] w fun e w' => ∃ (ao : Option Addr) (cap : Nat), e = .returned (.slice ao 0 cap) ∧ Below w.heap.size w w') := by
    refine (numbersL_any he h hon (by rw [hsp]; simp) (by rw [hsp]; simp)).mono ?_
    rintro e w' ⟨ao, cap, N, rfl, _, _, hp, _, hb⟩
    rw [hsp] at hp
    have : N = [] := by simpa using hp.length_eq
    subst this
    exact ⟨ao, cap, rfl, hb⟩
  have CB : Hid (∀ (a : Option Addr) (c : Nat) (u : World), Calls Tryz.prog 45 #[.slice a 0 c, .int .i64 1] u fun e w' => e = .returned (.tuple #[.int .i64 0, .bool false]) ∧ w' = u) := fun a c u => Tryz.slices_BinarySearch_int_empty a c 1 u
  have CR : Hid (∀ (a : Option Addr) (c : Nat) (u : World), Calls Tryz.prog 46 #[.pointer (some ⟨lb, 0, none⟩), .slice a 0 c] u fun x w' => x = .returned (.tuple #[.slice none 0 0, .agg #[.slice none 0 0, .bool false], .int .i64 0]) ∧ Below u.heap.size u w') := readL_nil lb
  have CP : Hid (∀ u, Calls Tryz.prog 22 #[.int .i64 1] u fun e w' => e = .returned (.bool true) ∧ w' = u) := fun u => possible_any 1 u
  have CG : Hid (∀ u, Below w.heap.size w u → Calls Tryz.prog 35 #[.pointer (some ⟨lb, 0, none⟩), .int .i64 1] u fun x w' => x = .returned (.int .i64 0) ∧ Lg w0 d lb A2 1 w') := fun u hu => beginL_ok he (h.more hu) rfl hF hl ho h1 hl1 ho1 h2
  clear h he hsp hon hF hl ho h1 hl1 ho1 h2
  go_enter Tryz.func23, Tryz.ntmps23
  go_wp2_with fail
  go_fit CN.out
  rintro e w1 ⟨ao, cap, rfl, hB1⟩
  go_wp2_with (go_at_call 45; go_fit (CB.out _ _ _); rintro e u1 ⟨rfl, rfl⟩)
  go_fit (CR.out _ _ _)
  rintro e w2 ⟨rfl, hB2⟩
  have hB2' : Below w.heap.size w w2 := hB1.trans (hB2.mono hB1.size)
  have k1 : Blk (w2.alloc (.cells #[.slice none 0 0, .bool false] 96)) w2.heap.size [.slice none 0 0, .bool false] 96 := Blk.new w2 _ _
  have HB3 : Hid (Below w.heap.size w (w2.alloc (.cells #[.slice none 0 0, .bool false] 96))) := hB2'.alloc hB2'.size _
  have e1 := k1.cell 1 rfl
  clear hB1 hB2 hB2' k1
  go_wp2_with (go_at_call 22; refine (CP.out _).mono ?_; rintro e u2 ⟨rfl, hu2⟩)
  go_fit (CG.out _ HB3.out)
  rintro e w3 ⟨rfl, hL3⟩
  clear e1 hu2 HB3
  go_wp2_with fail
  go_ret2
  exact ⟨rfl, hL3⟩
theorem lg_new {w0 : World} {d : Nat} {A : Ab} {w : World} (h : Kp w0 d A w) : Lg w0 d w.heap.size A 0 (w.alloc (.cells #[.pointer (some ⟨d, 0, none⟩), .int .i64 0, .bool false] 65)) := by
  have hb := h.below
  obtain ⟨ft, ha, hm⟩ := h
  have hB : Below w.heap.size w (w.alloc (.cells #[.pointer (some ⟨d, 0, none⟩), .int .i64 0, .bool false] 65)) := (Below.refl _ _).alloc (Nat.le_refl _) _
  refine ⟨ft, ha.moved (moved_below (ft := []) hB) (by simp), fun hi => ?_, Blk.new w _ _, fun i hi => ?_, hb.size, hb.trans (hB.mono hb.size)⟩
  · have := ha.lt _ hi; omega
  · rcases hm.news i hi with h | h
    · cases h
    · exact h
set_option maxRecDepth 100000 in
set_option maxHeartbeats 2000000 in
theorem openW_new {w0 : World} {d : Nat} {A A1 A2 : Ab} {w : World} (he : EnvW w0) (h : Kp w0 d A w) (hsp : A.sp = []) (hon : A.on = true) (hF : A.Fine) (hl : A.left = 0) (ho : A.ops ≤ 1000000) (h1 : createM A (tB (nmW 1)) = (0, A1)) (hl1 : A1.left = 0) (ho1 : A1.ops ≤ 1000000) (h2 : syncM A1 (tB (nmW 1)) = (0, A2)) :
    Calls Tryz.prog 7 #[.pointer (some ⟨d, 0, none⟩), .int .i64 1] w fun x w' => ∃ lb, x = .returned (.tuple #[.pointer (some ⟨lb, 0, none⟩), .slice none 0 0, .int .i64 0]) ∧ Lg w0 d lb A2 1 w' := by
  have CD : Hid (Calls Tryz.prog 21 #[.pointer (some ⟨d, 0, none⟩), .string ⟨#[]⟩] w fun x w' => x = .returned (.tuple #[.slice none 0 0, .int .i64 3]) ∧ Kp w0 d A w') := by
    have h0 := h
    obtain ⟨ft, ⟨bm, fs, hD, hss, hft⟩, hm⟩ := h
    refine (read_refused hD ⟨#[]⟩ (by show 0 ≤ maxLen; exact Nat.zero_le _) (c := 3) (by show refuse A.on [⟨#[]⟩] = 3; rw [hon]; rfl) (by omega)).mono ?_
    rintro x w' ⟨rfl, hg⟩
    exact ⟨rfl, h0.grown hg⟩
  have CP : Hid (∀ u, Calls Tryz.prog 22 #[.int .i64 1] u fun e w' => e = .returned (.bool true) ∧ w' = u) := fun u => possible_any 1 u
  have CO : Hid (∀ u, Kp w0 d A u → Calls Tryz.prog 23 #[.pointer (some ⟨u.heap.size, 0, none⟩), .int .i64 1] (u.alloc (.cells #[.pointer (some ⟨d, 0, none⟩), .int .i64 0, .bool false] 65)) fun x w' => x = .returned (.tuple #[.slice none 0 0, .int .i64 0]) ∧ Lg w0 d u.heap.size A2 1 w') := fun u hu => openL_new he (lg_new hu) hsp hon hF hl ho h1 hl1 ho1 h2
  clear h he hsp hon hF hl ho h1 hl1 ho1 h2
  go_enter Tryz.func7, Tryz.ntmps7
  go_wp2_with fail
  go_fit CD.out
  rintro e w1 ⟨rfl, hK1⟩
  have C1 : Hid (Calls Tryz.prog 23 #[.pointer (some ⟨w1.heap.size, 0, none⟩), .int .i64 1] (w1.alloc (.cells #[.pointer (some ⟨d, 0, none⟩), .int .i64 0, .bool false] 65)) fun x w' => x = .returned (.tuple #[.slice none 0 0, .int .i64 0]) ∧ Lg w0 d w1.heap.size A2 1 w') := CO.out w1 hK1
  go_wp2_with (go_at_call 22; refine (CP.out _).mono ?_; rintro e u2 ⟨rfl, rfl⟩)
  go_fit C1.out
  rintro e w3 ⟨rfl, hL3⟩
  clear C1 CO hK1
  go_wp2_with fail
  go_ret3
  exact ⟨_, rfl, hL3⟩
end Go.Proofs.YtglaocghcgcghaaGreatDoor
namespace Go.Proofs.YtglaocghcgcghaaGreatDoor
open Go.RowKit

/-- The keys rise up to the place i. -/
def Rise (l : List Cx) (i : Nat) : Prop := ∀ j x y, j + 1 < i → l[j]? = some x → l[j + 1]? = some y → kc x.k.ky y.k.ky < 0
noncomputable def srtB (l : List Cx) : Bool := @decide (Rise l l.length) (Classical.propDecidable _)
theorem srtB_true {l : List Cx} (h : Rise l l.length) : srtB l = true := @decide_eq_true _ (Classical.propDecidable _) h
theorem srtB_false {l : List Cx} (h : ¬ Rise l l.length) : srtB l = false := @decide_eq_false _ (Classical.propDecidable _) h
theorem Rise.step {l : List Cx} {i : Nat} {x y : Cx} (h : Rise l i) (hx : l[i - 1]? = some x) (hy : l[i]? = some y) (hc : kc x.k.ky y.k.ky < 0) : Rise l (i + 1) := by
  intro j u v hj hu hv
  rcases Nat.lt_or_ge (j + 1) i with g | g
  · exact h j u v g hu hv
  · have e : j + 1 = i := by omega
    have e2 : j = i - 1 := by omega
    rw [e, hy] at hv
    rw [e2, hx] at hu
    obtain rfl := Option.some.inj hu
    obtain rfl := Option.some.inj hv
    exact hc
attribute [local irreducible] wpQuiet
end Go.Proofs.YtglaocghcgcghaaGreatDoor
