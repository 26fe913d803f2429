/-
  SEVERAL TEXTS IN ONE: WalCalls, WalOpen, WalRetire, WalStates.
-/
import Derived.Test.YtlamncldbnagmaaGreatDoorWalNums
import Derived.Test.YtlamncldbnagmaaGreatDoorMany17
namespace Go.Proofs.YtlamncldbnagmaaGreatDoor
open Go.RowKit
attribute [local go_sem] Oper.pureAt Oper.pureUpon

set_option maxRecDepth 100000 in
set_option maxHeartbeats 1000000 in
theorem appendL_ok {w0 : World} {d lb : Nat} {A A1 A2 : Ab} {n : Int} {w : World} (he : EnvW w0) (ht : Tab w0) (h : Lg w0 d lb A n w) (hn : okW n = true) (hon : A.on = true) (ao : Option Addr) (l : List Cx) (cap : Nat)
    (hs : XSees w ao l) (hll : l.length ≤ 400) (hc : ∀ c ∈ l, CxMax c) (hok : ∀ c ∈ l.map toC, c.Ok) (hw : wtLD (l.map toC) + 81 * (l.map toC).length ≤ 140737488330000) (hb : (cellsL (l.map toC)).length ≤ 262144) (hr : recB l = true)
    (hF : A.Fine) (hl : A.left = 0) (ho : A.ops ≤ 1000000) (hnx : A.next ≤ 1000000) (hlen : ∀ t ∈ A.sp, t.bs.length + (recL l).length ≤ 1099511627776)
    (h1 : appendM A (tB (nmW n)) (recL l) = (0, A1)) (hl1 : A1.left = 0) (ho1 : A1.ops ≤ 1000000) (h2 : syncM A1 (tB (nmW n)) = (0, A2)) :
    Calls Tryz.prog 19 #[.pointer (some ⟨lb, 0, none⟩), .slice ao l.length cap] w fun x w' => x = .returned (.int .i64 0) ∧ Lg w0 d lb A2 n w' := by
  have hmm := okW_iff.1 hn
  have CR : Hid (Calls Tryz.prog 45 #[.pointer (some ⟨lb, 0, none⟩)] w fun e w' => e = .returned (.int .i64 0) ∧ w' = w) := refusalL_any h (by omega) hon
  have CD : Hid (Calls Tryz.prog 8 #[.slice ao l.length cap] w fun e w' => ∃ g, e = .returned (.tuple #[.slice (some ⟨g, 0, none⟩) (recL l).length (recL l).length, .int .i64 0]) ∧ w.heap.size ≤ g ∧ Row w' g (recL l) ∧ Below w.heap.size w w') := record_ok ao l cap w hs hll hc hok hw hb hr (ht.below h.bel (Nat.le_refl _))
  obtain ⟨ft, hG⟩ := h
  have hft : ∀ i ∈ ft, i < w.heap.size := hG.1.lt
  have CW : Hid (∀ u g, Below w.heap.size w u → w.heap.size ≤ g → Row u g (recL l) → Calls Tryz.prog 48 #[.pointer (some ⟨lb, 0, none⟩), .slice (some ⟨g, 0, none⟩) (recL l).length (recL l).length] u fun x w' => x = .returned (.int .i64 0) ∧ Lg w0 d lb A2 n w') := fun u g hu hg hR => by
    have hsee : Sees u (some ⟨g, 0, none⟩) (recL l) := fun i hi => ⟨_, rfl, by rw [Addr.add_lit, Nat.zero_add]; exact hR.cell i hi⟩
    exact writeL_ok he (LgF.more hG hu) hn (some ⟨g, 0, none⟩) (recL l) (recL l).length hsee (fun a e _ hi => by cases e; have h9 : g < w.heap.size := hft _ hi; omega) hF hl ho hnx hlen h1 hl1 ho1 h2
  have CN : Hid (∀ u, Calls Tryz.prog 46 #[.pointer (some ⟨lb, 0, none⟩), .int .i64 0] u fun x w' => x = .returned (.int .i64 0) ∧ w' = u) := fun u => noted_any lb 0 u (by omega)
  generalize recL l = R at *
  generalize l.length = m at *
  clear hG hft h1 h2 hs hc hok hw hb hr hF hlen he ht hn hon
  go_enter Tryz.func19, Tryz.ntmps19
  go_wp2_with (go_at_call 45; refine CR.out.mono ?_; rintro e w1 ⟨rfl, rfl⟩)
  go_fit CD.out
  rintro e w2 ⟨g, rfl, hg, hR, hB2⟩
  have C2 : Hid (Calls Tryz.prog 48 #[.pointer (some ⟨lb, 0, none⟩), .slice (some ⟨g, 0, none⟩) R.length R.length] w2 fun x w' => x = .returned (.int .i64 0) ∧ Lg w0 d lb A2 n w') := CW.out w2 g hB2 hg hR
  clear CW CD CR hR hB2 hg
  go_wp2_with fail
  go_fit C2.out
  rintro e w3 ⟨rfl, hL3⟩
  go_wp2_with fail
  go_fit (CN.out _)
  rintro e w4 ⟨rfl, rfl⟩
  go_wp2_with fail
  go_ret
  exact ⟨rfl, hL3⟩
set_option maxRecDepth 100000 in
set_option maxHeartbeats 1000000 in
theorem rollL_ok {w0 : World} {d lb : Nat} {A A1 A2 : Ab} {n : Int} {w : World} (he : EnvW w0) (h : Lg w0 d lb A n w) (hn : okW n = true) (hm : okW (n + 1) = true) (hon : A.on = true) (hF : A.Fine) (hl : A.left = 0) (ho : A.ops ≤ 1000000) (h1 : createM A (tB (nmW (n + 1))) = (0, A1)) (hl1 : A1.left = 0) (ho1 : A1.ops ≤ 1000000) (h2 : syncM A1 (tB (nmW (n + 1))) = (0, A2)) :
    Calls Tryz.prog 18 #[.pointer (some ⟨lb, 0, none⟩)] w fun x w' => x = .returned (.tuple #[.int .i64 (n + 1), .int .i64 0]) ∧ Lg w0 d lb A2 (n + 1) w' := by
  have hmm := okW_iff.1 hn
  have CR : Hid (Calls Tryz.prog 45 #[.pointer (some ⟨lb, 0, none⟩)] w fun e w' => e = .returned (.int .i64 0) ∧ w' = w) := refusalL_any h (by omega) hon
  have CB : Hid (Calls Tryz.prog 47 #[.pointer (some ⟨lb, 0, none⟩), .int .i64 (n + 1)] w fun x w' => x = .returned (.int .i64 0) ∧ Lg w0 d lb A2 (n + 1) w') := beginL_ok he h hm hF hl ho h1 hl1 ho1 h2
  have CN : Hid (∀ u, Calls Tryz.prog 46 #[.pointer (some ⟨lb, 0, none⟩), .int .i64 0] u fun x w' => x = .returned (.int .i64 0) ∧ w' = u) := fun u => noted_any lb 0 u (by omega)
  have c1 := h.blk.cell 1 rfl
  clear h he h1 h2 hF hn hm hon
  go_enter Tryz.func18, Tryz.ntmps18
  go_wp2_with (go_at_call 45; refine CR.out.mono ?_; rintro e w1 ⟨rfl, rfl⟩)
  go_fit CB.out
  rintro e w3 ⟨rfl, hL3⟩
  go_wp2_with fail
  go_fit (CN.out _)
  rintro e w4 ⟨rfl, rfl⟩
  have d1 := hL3.blk.cell 1 rfl
  go_wp2_with fail
  go_ret2
  exact ⟨rfl, hL3⟩
theorem results_tct {P : Program} {fn : Func} {t0 p u : Tmp} {ty : TypeId} (h : fn.results = #[.tmp t0, .cell p ty, .tmp u]) (tmps : Array Value) (w : World) (g : Nat) (t : TypeId) (cs : Array Value) (fr : Nat × Nat) (d : TypeDesc)
    (hp : tmps.getD p undef = .pointer (some ⟨g, 0, none⟩)) (hg : w.heap[g]? = some (.cells cs t fr))
    (hu : P.underlying ty = some d) (hd : (match d with | .struct _ | .array _ _ => true | _ => false) = true) (hi : (P.info? ty).map (·.size) = some cs.size) :
    (results fn tmps).run P w = .ok (.tuple #[tmps.getD t0 undef, .agg cs, tmps.getD u undef]) w := by
  have hp' : tmps[p]?.getD undef = .pointer (some ⟨g, 0, none⟩) := by simpa using hp
  simp [results, h, hp', asAddr, run_loadVar_row w g t ty cs fr d hg hu hd hi]
set_option maxRecDepth 100000 in
set_option maxHeartbeats 1000000 in
theorem readL_nil (lb : Nat) (a : Option Addr) (c : Nat) (w : World) :
    Calls Tryz.prog 92 #[.pointer (some ⟨lb, 0, none⟩), .slice a 0 c] w fun x w' => x = .returned (.tuple #[.slice none 0 0, .agg #[.slice none 0 0, .bool false], .int .i64 0]) ∧ Below w.heap.size w w' := by
  obtain ⟨wa, hwa⟩ : ∃ wa, wa = (w.alloc (.cells #[.slice none 0 0, .bool false] 136)).alloc (.cells #[.slice none 0 0, .bool false] 136) := ⟨_, rfl⟩
  have hz : wa.heap.size = w.heap.size + 2 := by rw [hwa]; simp
  have k1 : Blk wa w.heap.size [.slice none 0 0, .bool false] 136 := by rw [hwa]; exact (Blk.new w _ _).alloc _
  have k2 : Blk wa (w.heap.size + 1) [.slice none 0 0, .bool false] 136 := by
    rw [hwa]
    have := Blk.new (w.alloc (.cells #[.slice none 0 0, .bool false] 136)) [.slice none 0 0, .bool false] 136
    rw [World.size_alloc] at this; exact this
  have HB : Hid (Below w.heap.size w wa) := by rw [hwa]; exact ((Below.refl _ _).alloc (Nat.le_refl _) _).alloc (by simp) _
  have HW : Hid ((w.alloc (.cells #[.slice none 0 0, .bool false] 136)).alloc (.cells #[.slice none 0 0, .bool false] 136) = wa) := hwa.symm
  have HK : Hid (Blk wa w.heap.size [.slice none 0 0, .bool false] 136 ∧ Blk wa (w.heap.size + 1) [.slice none 0 0, .bool false] 136) := ⟨k1, k2⟩
  clear hwa k1 k2 hz
  go_enter Tryz.func92, Tryz.ntmps92
  go_wp2_with fail
  rw [HW.out]
  clear HW
  go_loopw [7, 17] (fun s7 s17 wr => s7 = .slice none 0 0 ∧ s17 = .int .i64 0 ∧ wr = wa) (fun _ _ _ => 0)
  case atStart => exact ⟨rfl, rfl, rfl⟩
  case round =>
    obtain ⟨rfl, rfl, rfl⟩ := hrel
    have e0 := HK.out.1.cell 0 rfl
    have e1 := HK.out.1.cell 1 rfl
    have e2 := HK.out.2.cell 0 rfl
    have e3 := HK.out.2.cell 1 rfl
    have f0 := HK.out.1.frozen 0
    have f1 := HK.out.1.frozen 1
    go_wp2_with fail
    go_region
    have HN : Hid (Blk ((wr.setCell ⟨w.heap.size, 0, none⟩ (.slice none 0 0)).setCell ⟨w.heap.size, 1, none⟩ (.bool false)).drew w.heap.size [.slice none 0 0, .bool false] 136 ∧ Below w.heap.size w ((wr.setCell ⟨w.heap.size, 0, none⟩ (.slice none 0 0)).setCell ⟨w.heap.size, 1, none⟩ (.bool false)).drew) :=
      ⟨(HK.out.1.setTo 0 _ _ rfl).setTo 1 _ _ rfl, ((HB.out.setCell (by exact Nat.le_refl _) _).setCell (by exact Nat.le_refl _) _).drew⟩
    generalize ((wr.setCell ⟨w.heap.size, 0, none⟩ (.slice none 0 0)).setCell ⟨w.heap.size, 1, none⟩ (.bool false)).drew = wz at *
    clear e0 e1 e2 e3 f0 f1
    go_wp2_with fail
    refine bodyPost_ret (results_tct Tryz.results92 _ wz w.heap.size 136 _ (0, 0) _ rfl HN.out.1 Tryz.underlying136 rfl (by kernel_rfl)) rfl ?_
    exact ⟨rfl, HN.out.2⟩
end Go.Proofs.YtlamncldbnagmaaGreatDoor
namespace Go.Proofs.YtlamncldbnagmaaGreatDoor
open Go.RowKit

set_option maxRecDepth 100000 in
set_option maxHeartbeats 2000000 in
theorem openL_new {w0 : World} {d lb : Nat} {A A1 A2 : Ab} {w : World} (he : EnvW w0) (h : Lg w0 d lb A 0 w) (hsp : A.sp = []) (hon : A.on = true) (hF : A.Fine) (hl : A.left = 0) (ho : A.ops ≤ 1000000) (h1 : createM A (tB (nmW 1)) = (0, A1)) (hl1 : A1.left = 0) (ho1 : A1.ops ≤ 1000000) (h2 : syncM A1 (tB (nmW 1)) = (0, A2)) :
    Calls Tryz.prog 53 #[.pointer (some ⟨lb, 0, none⟩), .int .i64 1] w fun x w' => x = .returned (.tuple #[.slice none 0 0, .int .i64 0]) ∧ Lg w0 d lb A2 1 w' := by
  have CN : Hid (Calls Tryz.prog 49 #[.pointer (some ⟨lb, 0, none⟩)] w fun e w' => ∃ (ao : Option Addr) (cap : Nat), e = .returned (.slice ao 0 cap) ∧ Below w.heap.size w w') := by
    refine (numbersL_any he h hon (by rw [hsp]; simp) (by rw [hsp]; simp)).mono ?_
    rintro e w' ⟨ao, cap, N, rfl, _, _, hp, _, hb⟩
    rw [hsp] at hp
    have : N = [] := by simpa using hp.length_eq
    subst this
    exact ⟨ao, cap, rfl, hb⟩
  have CB : Hid (∀ (a : Option Addr) (c : Nat) (u : World), Calls Tryz.prog 91 #[.slice a 0 c, .int .i64 1] u fun e w' => e = .returned (.tuple #[.int .i64 0, .bool false]) ∧ w' = u) := fun a c u => Tryz.slices_BinarySearch_int_empty a c 1 u
  have CR : Hid (∀ (a : Option Addr) (c : Nat) (u : World), Calls Tryz.prog 92 #[.pointer (some ⟨lb, 0, none⟩), .slice a 0 c] u fun x w' => x = .returned (.tuple #[.slice none 0 0, .agg #[.slice none 0 0, .bool false], .int .i64 0]) ∧ Below u.heap.size u w') := readL_nil lb
  have CP : Hid (∀ u, Calls Tryz.prog 42 #[.int .i64 1] u fun e w' => e = .returned (.bool true) ∧ w' = u) := fun u => possible_any 1 u
  have CG : Hid (∀ u, Below w.heap.size w u → Calls Tryz.prog 47 #[.pointer (some ⟨lb, 0, none⟩), .int .i64 1] u fun x w' => x = .returned (.int .i64 0) ∧ Lg w0 d lb A2 1 w') := fun u hu => beginL_ok he (h.more hu) rfl hF hl ho h1 hl1 ho1 h2
  clear h he hsp hon hF hl ho h1 hl1 ho1 h2
  go_enter Tryz.func53, Tryz.ntmps53
  go_wp2_with fail
  go_fit CN.out
  rintro e w1 ⟨ao, cap, rfl, hB1⟩
  go_wp2_with (go_at_call 91; go_fit (CB.out _ _ _); rintro e u1 ⟨rfl, rfl⟩)
  go_fit (CR.out _ _ _)
  rintro e w2 ⟨rfl, hB2⟩
  have hB2' : Below w.heap.size w w2 := hB1.trans (hB2.mono hB1.size)
  have k1 : Blk (w2.alloc (.cells #[.slice none 0 0, .bool false] 136)) w2.heap.size [.slice none 0 0, .bool false] 136 := Blk.new w2 _ _
  have HB3 : Hid (Below w.heap.size w (w2.alloc (.cells #[.slice none 0 0, .bool false] 136))) := hB2'.alloc hB2'.size _
  have e1 := k1.cell 1 rfl
  clear hB1 hB2 hB2' k1
  go_wp2_with (go_at_call 42; refine (CP.out _).mono ?_; rintro e u2 ⟨rfl, hu2⟩)
  go_fit (CG.out _ HB3.out)
  rintro e w3 ⟨rfl, hL3⟩
  clear e1 hu2 HB3
  go_wp2_with fail
  go_ret2
  exact ⟨rfl, hL3⟩
theorem lg_new {w0 : World} {d : Nat} {A : Ab} {w : World} (h : Kp w0 d A w) : Lg w0 d w.heap.size A 0 (w.alloc (.cells #[.pointer (some ⟨d, 0, none⟩), .int .i64 0, .bool false] 46)) := by
  have hb := h.below
  obtain ⟨ft, ha, hm⟩ := h
  have hB : Below w.heap.size w (w.alloc (.cells #[.pointer (some ⟨d, 0, none⟩), .int .i64 0, .bool false] 46)) := (Below.refl _ _).alloc (Nat.le_refl _) _
  refine ⟨ft, ha.moved (moved_below (ft := []) hB) (by simp), fun hi => ?_, Blk.new w _ _, fun i hi => ?_, hb.size, hb.trans (hB.mono hb.size)⟩
  · have := ha.lt _ hi; omega
  · rcases hm.news i hi with h | h
    · cases h
    · exact h
set_option maxRecDepth 100000 in
set_option maxHeartbeats 2000000 in
theorem openW_new {w0 : World} {d : Nat} {A A1 A2 : Ab} {w : World} (he : EnvW w0) (h : Kp w0 d A w) (hsp : A.sp = []) (hon : A.on = true) (hF : A.Fine) (hl : A.left = 0) (ho : A.ops ≤ 1000000) (h1 : createM A (tB (nmW 1)) = (0, A1)) (hl1 : A1.left = 0) (ho1 : A1.ops ≤ 1000000) (h2 : syncM A1 (tB (nmW 1)) = (0, A2)) :
    Calls Tryz.prog 23 #[.pointer (some ⟨d, 0, none⟩), .int .i64 1] w fun x w' => ∃ lb, x = .returned (.tuple #[.pointer (some ⟨lb, 0, none⟩), .slice none 0 0, .int .i64 0]) ∧ Lg w0 d lb A2 1 w' := by
  have CD : Hid (Calls Tryz.prog 52 #[.pointer (some ⟨d, 0, none⟩), .string ⟨#[]⟩] w fun x w' => x = .returned (.tuple #[.slice none 0 0, .int .i64 3]) ∧ Kp w0 d A w') := by
    have h0 := h
    obtain ⟨ft, ⟨bm, fs, hD, hss, hft⟩, hm⟩ := h
    refine (read_refused hD ⟨#[]⟩ (by show 0 ≤ maxLen; exact Nat.zero_le _) (c := 3) (by show refuse A.on [⟨#[]⟩] = 3; rw [hon]; rfl) (by omega)).mono ?_
    rintro x w' ⟨rfl, hg⟩
    exact ⟨rfl, h0.grown hg⟩
  have CP : Hid (∀ u, Calls Tryz.prog 42 #[.int .i64 1] u fun e w' => e = .returned (.bool true) ∧ w' = u) := fun u => possible_any 1 u
  have CO : Hid (∀ u, Kp w0 d A u → Calls Tryz.prog 53 #[.pointer (some ⟨u.heap.size, 0, none⟩), .int .i64 1] (u.alloc (.cells #[.pointer (some ⟨d, 0, none⟩), .int .i64 0, .bool false] 46)) fun x w' => x = .returned (.tuple #[.slice none 0 0, .int .i64 0]) ∧ Lg w0 d u.heap.size A2 1 w') := fun u hu => openL_new he (lg_new hu) hsp hon hF hl ho h1 hl1 ho1 h2
  clear h he hsp hon hF hl ho h1 hl1 ho1 h2
  go_enter Tryz.func23, Tryz.ntmps23
  go_wp2_with fail
  go_fit CD.out
  rintro e w1 ⟨rfl, hK1⟩
  have C1 : Hid (Calls Tryz.prog 53 #[.pointer (some ⟨w1.heap.size, 0, none⟩), .int .i64 1] (w1.alloc (.cells #[.pointer (some ⟨d, 0, none⟩), .int .i64 0, .bool false] 46)) fun x w' => x = .returned (.tuple #[.slice none 0 0, .int .i64 0]) ∧ Lg w0 d w1.heap.size A2 1 w') := CO.out w1 hK1
  go_wp2_with (go_at_call 42; refine (CP.out _).mono ?_; rintro e u2 ⟨rfl, rfl⟩)
  go_fit C1.out
  rintro e w3 ⟨rfl, hL3⟩
  clear C1 CO hK1
  go_wp2_with fail
  go_ret3
  exact ⟨_, rfl, hL3⟩
end Go.Proofs.YtlamncldbnagmaaGreatDoor
namespace Go.Proofs.YtlamncldbnagmaaGreatDoor
open Go.RowKit
attribute [local go_sem] Oper.pureAt Oper.pureUpon

set_option maxRecDepth 100000 in
set_option maxHeartbeats 2000000 in
theorem retireL_two {w0 : World} {d lb : Nat} {A A1 : Ab} {w : World} (he : EnvW w0) (h : Lg w0 d lb A 2 w) (hon : A.on = true) (hsp : A.sp.length ≤ 1000) (hsz : ∀ t ∈ A.sp, t.nm.length ≤ 1000) (hnm : (A.sp.map Sig.nm).filterMap numO = [1, 2]) (hl : A.left = 0) (ho : A.ops ≤ 1000000) (h1 : removeM A (tB (nmW 1)) = (0, A1)) :
    Calls Tryz.prog 20 #[.pointer (some ⟨lb, 0, none⟩), .int .i64 2] w fun x w' => x = .returned (.int .i64 0) ∧ Lg w0 d lb A1 2 w' := by
  have CR : Hid (Calls Tryz.prog 45 #[.pointer (some ⟨lb, 0, none⟩)] w fun e w' => e = .returned (.int .i64 0) ∧ w' = w) := refusalL_any h (by omega) hon
  have CN : Hid (Calls Tryz.prog 49 #[.pointer (some ⟨lb, 0, none⟩)] w fun e w' => ∃ (b o cap : Nat), e = .returned (.slice (some ⟨b, o, none⟩) 2 cap) ∧ w'.cell? ⟨b, o, none⟩ = some (.int .i64 1) ∧ w'.cell? ⟨b, o + 1, none⟩ = some (.int .i64 2) ∧ w.heap.size ≤ b ∧ Below w.heap.size w w') := by
    refine (numbersL_any he h hon hsp hsz).mono ?_
    rintro e w' ⟨ao, cap, N, rfl, hI, hfr, hp, hso, hb⟩
    rw [hnm] at hp
    have hN : N = [1, 2] := List.Perm.eq_of_pairwise (le := (· ≤ ·)) (fun a b _ _ h1 h2 => by omega) hso (by decide) hp
    subst hN
    obtain ⟨b, o, rfl, c1⟩ := hI 0 1 rfl
    obtain ⟨b', o', e', c2⟩ := hI 1 2 rfl
    cases e'
    exact ⟨b, o, cap, rfl, by simpa using c1, c2, hfr _ rfl, hb⟩
  obtain ⟨ft, hG⟩ := h
  have hft : ∀ i ∈ ft, i < w.heap.size := hG.1.lt
  have hszn := tB_max (nmW 1) (by have := nmW_len 1; omega)
  have CM : Hid (∀ u, LgF w0 d lb A 2 ft u → Calls Tryz.prog 50 #[.pointer (some ⟨d, 0, none⟩), .string (tB (nmW 1))] u fun x w' => x = .returned (.int .i64 0) ∧ Lg w0 d lb A1 2 w' ∧ ∀ i, i < u.heap.size → i ∉ ft → w'.heap[i]? = u.heap[i]?) := fun u hu => by
    obtain ⟨g1, g2, g3, g4, g5, g6⟩ := hu
    have := abx_remove g1 (tB (nmW 1)) hszn (by omega) (by omega) (by omega)
    rw [h1] at this
    exact this.mono fun x w' ⟨hx, ft', ha, hm⟩ => ⟨hx, Lg.out g2 g3 g4 g5 g6 ha hm, hm.kept⟩
  have CA : Hid (∀ u, Below w0.heap.size w0 u → Calls Tryz.prog 16 #[.int .i64 1] u fun x w' => x = .returned (.string (tB (nmW 1))) ∧ Below u.heap.size u w') := fun u hu => nameW_any 1 (by omega) (by omega) u (he.below hu (Nat.le_refl _))
  have CT : Hid (∀ u, Calls Tryz.prog 46 #[.pointer (some ⟨lb, 0, none⟩), .int .i64 0] u fun x w' => x = .returned (.int .i64 0) ∧ w' = u) := fun u => noted_any lb 0 u (by omega)
  have HG : Hid (LgF w0 d lb A 2 ft w) := hG
  have HFT : Hid (∀ i ∈ ft, i < w.heap.size) := hft
  have c0 : ∀ q : LC d lb, q.u.cell? ⟨lb, 0, none⟩ = some (.pointer (some ⟨d, 0, none⟩)) := fun q => q.h
  haveI : Nonempty (LC d lb) := ⟨⟨w, hG.2.2.1.cell 0 rfl⟩⟩
  generalize tB (nmW 1) = s at *
  clear hG hft he hon hsp hsz hnm hl ho h1 hszn
  go_enter Tryz.func20, Tryz.ntmps20
  go_wp2_with (go_at_call 45; refine CR.out.mono ?_; rintro e w1 ⟨rfl, rfl⟩)
  go_fit CN.out
  rintro e w2 ⟨b, o, cap, rfl, k1, k2, hbf, hB2⟩
  have hbl : b < w2.heap.size := World.block_lt_of_cell? _ _ k1
  have HS0 : Hid (w2.cell? ⟨b, o, none⟩ = some (.int .i64 1) ∧ w2.cell? ⟨b, o + 1, none⟩ = some (.int .i64 2) ∧ b < w2.heap.size ∧ LgF w0 d lb A 2 ft w2) := ⟨k1, k2, hbl, HG.out.more hB2⟩
  have hbn : b ∉ ft := fun hi => by have := HFT.out b hi; omega
  clear k1 k2 hbl CR CN hB2 HG HFT hbf
  go_wp2_with fail
  go_loopw [17] (fun s17 wr => ∃ i : Nat, i ≤ 2 ∧ s17 = .int .i64 (i : Int) ∧ wr.cell? ⟨b, o, none⟩ = some (.int .i64 1) ∧ wr.cell? ⟨b, o + 1, none⟩ = some (.int .i64 2) ∧ b < wr.heap.size ∧ ((i = 0 ∧ LgF w0 d lb A 2 ft wr) ∨ (0 < i ∧ Lg w0 d lb A1 2 wr))) (fun s17 _ => 2 - (intOf s17).toNat)
  case atStart => exact ⟨0, by omega, rfl, HS0.out.1, HS0.out.2.1, HS0.out.2.2.1, .inl ⟨rfl, HS0.out.2.2.2⟩⟩
  case round =>
    obtain ⟨i, hi, rfl, k1, k2, hbl, hst⟩ := hrel
    clear HS0
    rcases hst with ⟨rfl, hG⟩ | ⟨hpos, hL⟩
    · have d1 := hG.2.2.1.cell 1 rfl
      have HG : Hid (LgF w0 d lb A 2 ft wr) := hG
      have HK : Hid (wr.cell? ⟨b, o, none⟩ = some (.int .i64 1) ∧ wr.cell? ⟨b, o + 1, none⟩ = some (.int .i64 2)) := ⟨k1, k2⟩
      clear hG
      go_wp2_with fail
      refine wp_region_sched (fun w' => ∃ p : LC d lb, w' = p.u) [(0, true), (1, true), (2, true), (3, true), (4, true), (5, true), (6, false), (7, false), (8, false), (9, true)] rfl (by kernel_rfl) (by kernel_rfl) (by kernel_rfl) (LC.of HG.out.lg.drew) ?_
      iterate 6 (refine sched_pure rfl (fun K hK => ?_); go_simp; refine hK _ ?_; clear hK K)
      refine sched_loud rfl (fun K hK => ?_)
      go_simp
      refine (CA.out _ HG.out.lg.drew.bel).mono ?_
      rintro e u1 ⟨rfl, hu1⟩
      have hu1' : Below wr.heap.size wr u1 := (Below.refl _ _).drew.trans hu1
      have hG1 := HG.out.more hu1'
      have hk1 : u1.cell? ⟨b, o, none⟩ = some (.int .i64 1) := by rw [hu1'.cell hbl]; exact HK.out.1
      have hk2 : u1.cell? ⟨b, o + 1, none⟩ = some (.int .i64 2) := by rw [hu1'.cell hbl]; exact HK.out.2
      have hbl1 : b < u1.heap.size := Nat.lt_of_lt_of_le hbl hu1'.size
      refine hK _ _ (LC.of hG1.lg) ?_
      clear hK K
      refine sched_loud rfl (fun K hK => ?_)
      go_simp
      refine (CM.out _ hG1).mono ?_
      rintro e u2 ⟨rfl, hL2, hkeep⟩
      have hb2 := hkeep b hbl1 hbn
      have HN : Hid (u2.cell? ⟨b, o, none⟩ = some (.int .i64 1) ∧ u2.cell? ⟨b, o + 1, none⟩ = some (.int .i64 2) ∧ b < u2.heap.size) := by
        have e1 : u2.cell? ⟨b, o, none⟩ = some (.int .i64 1) := by rw [World.cell?_of_block (a := ⟨b, o, none⟩) hb2]; exact hk1
        exact ⟨e1, by rw [World.cell?_of_block (a := ⟨b, o + 1, none⟩) hb2]; exact hk2, World.block_lt_of_cell? _ _ e1⟩
      refine hK _ _ (LC.of hL2) ?_
      clear hK K hkeep hb2 hk1 hk2 hG1 hu1 hu1' k1 k2 d1
      refine sched_loud rfl (fun K hK => ?_)
      go_simp
      refine (CT.out _).mono ?_
      rintro e u3 ⟨rfl, rfl⟩
      refine hK _ _ (LC.of hL2) ?_
      clear hK K
      refine sched_pure rfl (fun K hK => ?_)
      go_simp
      refine hK _ ?_
      clear hK K
      refine sched_nil ?_
      go_wp2_with fail
      go_roundw
      case rel => exact ⟨1, by omega, by go_num, HN.out.1, HN.out.2.1, HN.out.2.2, .inr ⟨by omega, hL2⟩⟩
      case measure => (simp [intOf]; try omega)
    · have hi2 : i = 1 ∨ i = 2 := by omega
      rcases hi2 with rfl | rfl
      · go_wp2_with fail
        go_roundw
        case rel => exact ⟨2, by omega, by go_num, k1, k2, hbl, .inr ⟨by omega, hL⟩⟩
        case measure => (simp [intOf]; try omega)
      · go_wp2_with fail
        go_ret
        exact ⟨rfl, hL⟩
end Go.Proofs.YtlamncldbnagmaaGreatDoor
namespace Go.Proofs.YtlamncldbnagmaaGreatDoor
open Go.RowKit

def q1 : List UInt8 := [108, 111, 103, 45, 49]
def q2 : List UInt8 := [108, 111, 103, 45, 50]
theorem nm_one : nmW 1 = q1 := by
  unfold nmW Lib.itoa
  rw [if_pos (show okW 1 = true from rfl), if_neg (by omega), Lib.decDigits_one (by decide)]; rfl
theorem nm_two : nmW 2 = q2 := by
  unfold nmW Lib.itoa
  rw [if_pos (show okW 2 = true from rfl), if_neg (by omega), Lib.decDigits_one (by decide)]; rfl
theorem nameOf_tB (l : List UInt8) : nameOf (tB l) = l := tB_list l
theorem good1 : refuse true [tB q1] = 0 := by unfold refuse; simp only [List.all_cons, List.all_nil, nameOf_tB]; rfl
theorem good2 : refuse true [tB q2] = 0 := by unfold refuse; simp only [List.all_cons, List.all_nil, nameOf_tB]; rfl
/-- One file, all of it sure. -/
structure St1 (A : Ab) (B : List UInt8) (k : Nat) : Prop where
  sp : A.sp = [⟨q1, B, B.length, []⟩]
  room : A.room = 1000
  on : A.on = true
  left : A.left = 0
  ops : A.ops ≤ 10 * k
  next : A.next ≤ 100 * k
theorem St1.fine {A : Ab} {B : List UInt8} {k : Nat} (h : St1 A B k) (hB : B.length ≤ 1000) : A.Fine := by
  refine ⟨?_, ?_, ?_, ?_, by rw [h.room]; omega, ?_, ?_⟩
  · rw [h.sp]; intro t ht; rw [List.mem_singleton.1 ht]; exact Nat.le_refl _
  · rw [h.sp]; intro t ht; rw [List.mem_singleton.1 ht]; show B.length ≤ _; omega
  · rw [h.sp]; intro t ht; rw [List.mem_singleton.1 ht]; exact List.Pairwise.nil
  · rw [h.sp]; intro t ht; rw [List.mem_singleton.1 ht]; intro q hq; cases hq
  · rw [h.sp]; simp [usedT]; omega
  · rw [h.sp]; simp [dirtyT]
theorem find1 (B : List UInt8) (wr : Nat) (pl : List Nat) : findT [⟨q1, B, wr, pl⟩] q1 = some ⟨q1, B, wr, pl⟩ := by simp [findT]
theorem newA_fine : (newA 1000).Fine := ⟨(fun t h => by cases h), (fun t h => by cases h), (fun t h => by cases h), (fun t h => by cases h), by decide, by decide, by decide⟩
/-- The first segment. -/
theorem step_new : ∃ A1 A2, createM (newA 1000) (tB (nmW 1)) = (0, A1) ∧ A1.left = 0 ∧ A1.ops ≤ 1000000 ∧ syncM A1 (tB (nmW 1)) = (0, A2) ∧ St1 A2 [] 1 := by
  rw [nm_one]
  refine ⟨crT (newA 1000) q1, syT (crT (newA 1000) q1) q1 ⟨q1, [], 0, []⟩, ?_, rfl, by show 1 ≤ 1000000; omega, ?_, ⟨?_, rfl, rfl, rfl, by show 2 ≤ 10; omega, by show 0 ≤ 100; omega⟩⟩
  · unfold createM
    rw [show (newA 1000).on = true from rfl, if_pos good1, nameOf_tB]
    rfl
  · unfold syncM
    rw [show (crT (newA 1000) q1).on = true from rfl, if_pos good1, nameOf_tB]
    rfl
  · show upd (putT [] ⟨q1, [], 0, []⟩) q1 _ = _
    simp [putT, dropT, insT, upd]
/-- One record more. -/
theorem step_app {A : Ab} {B R : List UInt8} {k : Nat} (h : St1 A B k) (hk : k ≤ 100) (hB : B.length ≤ 400) (hR : R.length ≤ 400) (hR0 : R ≠ []) :
    ∃ A1 A2, appendM A (tB (nmW 1)) R = (0, A1) ∧ A1.left = 0 ∧ A1.ops ≤ 1000000 ∧ syncM A1 (tB (nmW 1)) = (0, A2) ∧ St1 A2 (B ++ R) (k + 1) := by
  rw [nm_one]
  have hu : usedT A.sp = 1 + (B.length + 15) / 16 := by rw [h.sp]; simp [usedT]
  have hlack : lackT ⟨q1, B, B.length, []⟩ R ≤ 60 := by
    unfold lackT
    show secI ((B.length : Int) + (R.length : Int)) - secI (B.length : Int) ≤ 60
    rw [← Int.natCast_add, secI_nat, secI_nat]; omega
  refine ⟨appT A q1 ⟨q1, B, B.length, []⟩ R, syT (appT A q1 ⟨q1, B, B.length, []⟩ R) q1 ⟨q1, B ++ R, B.length, [] ++ List.range' A.next (growT ⟨q1, B, B.length, []⟩ R)⟩, ?_, ?_, ?_, ?_, ⟨?_, h.room, h.on, ?_, ?_, ?_⟩⟩
  · unfold appendM
    rw [h.on, if_pos good1, nameOf_tB, h.sp, find1]
    simp only
    rw [← h.sp, h.room, hu, if_neg (by omega)]
  · show A.left - 1 = 0
    rw [h.left]
  · show A.ops + 1 ≤ _
    have := h.ops; omega
  · unfold syncM
    rw [show (appT A q1 ⟨q1, B, B.length, []⟩ R).on = A.on from rfl, h.on, if_pos good1, nameOf_tB]
    have e : (appT A q1 ⟨q1, B, B.length, []⟩ R).sp = [⟨q1, B ++ R, B.length, [] ++ List.range' A.next (growT ⟨q1, B, B.length, []⟩ R)⟩] := by
      show upd A.sp q1 _ = _
      rw [h.sp]; simp [upd]
    rw [e, find1]
  · show upd (upd A.sp q1 _) q1 _ = _
    rw [h.sp]; simp [upd]
  · show A.left - 1 - 1 = 0
    rw [h.left]
  · show A.ops + 1 + 1 ≤ _
    have := h.ops; omega
  · show A.next + growT ⟨q1, B, B.length, []⟩ R ≤ _
    have hg : growT ⟨q1, B, B.length, []⟩ R ≤ 60 := by
      unfold growT
      rw [if_neg hR0]
      unfold growN
      show (B.length + R.length + 15) / 16 - B.length / 16 - 0 ≤ 60
      omega
    have := h.next; omega
/-- A second segment. -/
structure St2 (A : Ab) (B : List UInt8) : Prop where
  sp : A.sp = [⟨q1, B, B.length, []⟩, ⟨q2, [], 0, []⟩]
  on : A.on = true
  left : A.left = 0
  ops : A.ops ≤ 1000000
theorem step_roll {A : Ab} {B : List UInt8} {k : Nat} (h : St1 A B k) (hk : k ≤ 100) (hB : B.length ≤ 1000) :
    ∃ A1 A2, createM A (tB (nmW (1 + 1))) = (0, A1) ∧ A1.left = 0 ∧ A1.ops ≤ 1000000 ∧ syncM A1 (tB (nmW (1 + 1))) = (0, A2) ∧ St2 A2 B := by
  rw [show (1 + 1 : Int) = 2 from rfl, nm_two]
  have hu : usedT A.sp = 1 + (B.length + 15) / 16 := by rw [h.sp]; simp [usedT]
  have hput : putT A.sp ⟨q2, [], 0, []⟩ = [⟨q1, B, B.length, []⟩, ⟨q2, [], 0, []⟩] := by
    rw [h.sp]
    have h1 : (q1 == q2) = false := by decide
    have h2 : bytesBefore q2 q1 = false := by decide
    simp [putT, dropT, insT, h1, h2]
  have hf : findT A.sp q2 = none := by
    rw [h.sp]
    have h1 : (q1 == q2) = false := by decide
    simp [findT, h1]
  refine ⟨crT A q2, syT (crT A q2) q2 ⟨q2, [], 0, []⟩, ?_, ?_, ?_, ?_, ⟨?_, h.on, ?_, ?_⟩⟩
  · unfold createM
    rw [h.on, if_pos good2, nameOf_tB, hf]
    simp only
    rw [if_neg (by rw [hu, h.room, h.sp]; simp; omega)]
  · show A.left - 1 = 0
    rw [h.left]
  · show A.ops + 1 ≤ _
    have := h.ops; omega
  · unfold syncM
    rw [show (crT A q2).on = A.on from rfl, h.on, if_pos good2, nameOf_tB]
    have e : findT (crT A q2).sp q2 = some ⟨q2, [], 0, []⟩ := by
      show findT (putT A.sp ⟨q2, [], 0, []⟩) q2 = _
      rw [hput]
      have h1 : (q1 == q2) = false := by decide
      simp [findT, h1]
    rw [e]
  · show upd (putT A.sp ⟨q2, [], 0, []⟩) q2 _ = _
    rw [hput]
    have h1 : q1 ≠ q2 := by decide
    simp [upd, h1]
  · show A.left - 1 - 1 = 0
    rw [h.left]
  · show A.ops + 1 + 1 ≤ _
    have := h.ops; omega
theorem step_remove {A : Ab} {B : List UInt8} (h : St2 A B) : ∃ A1, removeM A (tB (nmW 1)) = (0, A1) ∧ A1.sp = [⟨q2, [], 0, []⟩] ∧ A1.on = true := by
  rw [nm_one]
  have h1 : (q2 == q1) = false := by decide
  refine ⟨rmT A q1, ?_, ?_, h.on⟩
  · unfold removeM
    rw [h.on, if_pos good1, nameOf_tB]
    have e : findT A.sp q1 = some ⟨q1, B, B.length, []⟩ := by rw [h.sp]; simp [findT]
    rw [e]
  · show dropT A.sp q1 = _
    rw [h.sp]; simp [dropT, h1]
theorem numO1 : numO q1 = some 1 := by unfold numO; rw [← nm_one, num_name rfl]; rfl
theorem numO2 : numO q2 = some 2 := by unfold numO; rw [← nm_two, num_name rfl]; rfl
theorem St2.nums {A : Ab} {B : List UInt8} (h : St2 A B) : (A.sp.map Sig.nm).filterMap numO = [1, 2] := by rw [h.sp]; simp [numO1, numO2]
end Go.Proofs.YtlamncldbnagmaaGreatDoor
