/-
  SEVERAL TEXTS IN ONE: WkKeepsWalk, WkIn, WalDoor.
-/
import Derived.Test.YtglaocghcgcghaaGreatDoorMany35
import Derived.Test.YtglaocghcgcghaaGreatDoorMany34
import Derived.OpenShut
import Derived.Test.YtglaocghcgcghaaGreatDoorWalLives
import Derived.Test.YtglaocghcgcghaaGreatDoorMany22
import Derived.Test.YtglaocghcgcghaaGreatDoorCards
import Derived.Test.YtglaocghcgcghaaGreatDoorTie
import Derived.ProofKit
import Derived.ShutString
import Derived.ChangeOld
import Derived.Deep.DeepHandedRow
import Derived.Deep.DeepWitnessRowRef
import Derived.Lib.LaidTab
import Derived.LaidHandle
import Derived.Stop.LaidErr
import Derived.SizedLaws
import Derived.Lay
namespace Go.Proofs.YtglaocghcgcghaaGreatDoor.walKeeps
open Go.RowKit Go.Proofs.YtglaocghcgcghaaGreatDoor Go.Proofs.YtglaocghcgcghaaGreatDoor.walBack

theorem isNilC (w : World) : (binOp BinOp.eql 26 (.slice none 0 0) (.slice none 0 0)).run Tryz.prog w = .ok (.bool true) w := by kernel_rfl
theorem notNilC (a : Addr) (n c : Nat) (w : World) : (binOp BinOp.eql 26 (.slice (some a) n c) (.slice none 0 0)).run Tryz.prog w = .ok (.bool false) w := by kernel_rfl
theorem logNe (lb : Nat) (w : World) : (binOp BinOp.eql 31 (.pointer (some ⟨lb, 0, none⟩)) (.pointer none)).run Tryz.prog w = .ok (.bool false) w := by kernel_rfl
theorem lg_lyF {w wr wb : World} {d lb : Nat} {A : Ab} {n : Int} (h : Lg wr d lb A n w) (hb : Below wb.heap.size wb wr) : ∃ ft, LyF wb d lb A n false ft w := by
  obtain ⟨ft, h1, h2, h3, h4, h5, h6⟩ := h
  have hs := hb.size
  exact ⟨ft, h1, h2, h3, fun i hi => Nat.le_trans hs (h4 i hi), Nat.le_trans hs h5, hb.trans (h6.mono hs)⟩
/-- The plan is made, the log being there. -/
theorem arm_ly {w0 : World} {d lb : Nat} {A : Ab} {n : Int} {b : Bool} {ft : List Nat} {w : World} (h : LyF w0 d lb A n b ft w) {k : Nat} (hN : Nice A k) (hon : A.on = true) (a m : Int) (ha : 0 ≤ a) (ha2 : a ≤ 1000) (hm : -9223372036854775808 ≤ m ∧ m ≤ 9223372036854775807) :
    Calls Tryz.prog 8 #[.pointer (some ⟨d, 0, none⟩), .int .i64 a, .int .i64 m] w fun x w' => x = .returned (.int .i64 0) ∧ ∃ A', LyR w0 d lb A' n b ft w w' ∧ A'.on = true ∧ A'.sp = A.sp ∧ Nice A' k := by
  have e : armX A a m = (0, { A with left := a.toNat, keep := m }) := by
    unfold armX
    rw [if_pos hon, if_neg (by omega)]
  have h1 := ly_arm h a m
  have h2 := hN.arm (a := a) (m := m) (by omega) hm
  rw [e] at h1 h2
  exact h1.mono fun _ _ ⟨hx, hR⟩ => ⟨hx, _, hR, hon, rfl, h2⟩
def cutVk : Option Lvx → Value
  | none => .slice none 0 0
  | some r => r.s
theorem slice_some {w : World} {v : Lvx} (h : XSees w v.ao v.l) (hr : recB v.l = true) : ∃ a, v.ao = some a := by
  have h1 := (recB_good hr).1.1
  obtain ⟨b, off, e, -⟩ := h 0 v.l[0] (List.getElem?_eq_getElem h1)
  exact ⟨_, e⟩
theorem ph_more {wb : World} {vs : List Lvx} {d lb i : Nat} {R : List Lvx} {cut : Option Lvx} {A : Ab} {b : Bool} {ft : List Nat} {v14 : Value} {W W' : World} (h : Ph wb vs d lb i R cut A b ft v14 W) (hb : Below W.heap.size W W') : Ph wb vs d lb i R cut A b ft v14 W' :=
  ⟨h.log.more hb, owBelow h.row hb, h.apart, h.sub, h.cuts, h.nice, h.len, h.cnt, h.live, h.dead⟩
theorem Ph.fit {wb : World} {vs : List Lvx} {d lb i : Nat} {R : List Lvx} {cut : Option Lvx} {A : Ab} {b : Bool} {ft : List Nat} {v14 : Value} {W : World} (h : Ph wb vs d lb i R cut A b ft v14 W) (hs : sW vs ≤ 800) {l : List Cx} (hr : recB l = true) : ∀ t, findT A.sp (nmW 1) = some t → t.bs.length + (recL l).length ≤ 600000 := by
  have h1 := h.len
  have h2 := rec_bytes' hr
  have h3 := sW_le vs i
  rw [nm_one]
  intro t ht
  cases b with
  | false =>
    rw [(h.live rfl).2.2, find_su] at ht
    cases ht
    show (encW (R.map Lvx.l)).length + _ ≤ _
    omega
  | true =>
    obtain ⟨-, r, j, rfl, hsp⟩ := h.dead rfl
    rw [hsp, find_su] at ht
    cases ht
    show (encW (R.map Lvx.l) ++ (recL r.l).take j).length + _ ≤ _
    rw [List.length_append, List.length_take]
    have : cutLk (some r) = (recL r.l).length := rfl
    omega
theorem wl_le (v : Lvx) {z : Nat} (h : z ≤ 200 → v.l.length ≤ z) : wl v ≤ 2 * z := by
  unfold wl
  split
  · rename_i hr
    have := (recB_good hr).1.2
    omega
  · omega
set_option maxRecDepth 100000 in
set_option maxHeartbeats 16000000 in
theorem keepsWalk0 (lo : Option Addr) (vs : List Lvx) (cap : Nat) (N1 K1 N2 K2 : Int) (w : World) (he : EnvW w) (ht : Tab w) (ue : TypeId) (pv : Value) (hE : Err w ue pv) (hL : LSees w lo vs) (hX : ∀ v ∈ vs, XSees w v.ao v.l) (hok : ∀ v ∈ vs, LvOk v) (hlen : vs.length ≤ 140737488355328) (hN1 : 0 ≤ N1 ∧ N1 ≤ 18446744073709551615) (hK1 : -9223372036854775808 ≤ K1 ∧ K1 ≤ 9223372036854775807) (hN2 : 0 ≤ N2 ∧ N2 ≤ 18446744073709551615) (hK2 : -9223372036854775808 ≤ K2 ∧ K2 ≤ 9223372036854775807) :
    Calls Tryz.prog 3 #[.slice lo vs.length cap, .agg #[.int .u64 N1, .int .i64 K1], .agg #[.int .u64 N2, .int .i64 K2]] w fun e w' => e = .returned (.bool true) ∧ Below w.heap.size w w' := by
  obtain ⟨iL, hiL, hl0, hl1, hl2⟩ := info_parts infoLs
  obtain ⟨n0, hn0⟩ : ∃ n0, w.heap.size = n0 := ⟨_, rfl⟩
  obtain ⟨wb, hwb⟩ : ∃ wb, (w.alloc (.cells #[.int .u64 N1, .int .i64 K1] 25)).alloc (.cells #[.int .u64 N2, .int .i64 K2] 25) = wb := ⟨_, rfl⟩
  have b4 : Blk wb n0 [.int .u64 N1, .int .i64 K1] 25 := by rw [← hwb, ← hn0]; exact (Blk.new w _ _).alloc _
  have b5 : Blk wb (n0 + 1) [.int .u64 N2, .int .i64 K2] 25 := by
    rw [← hwb]
    have := Blk.new (w.alloc (.cells #[.int .u64 N1, .int .i64 K1] 25)) [.int .u64 N2, .int .i64 K2] 25
    rw [World.size_alloc, hn0] at this; exact this
  have hBw : Below n0 w wb := by rw [← hwb, ← hn0]; exact ((Below.refl _ _).alloc (Nat.le_refl _) _).alloc (by simp) _
  have hsz : n0 ≤ wb.heap.size := by have := hBw.size; omega
  have HW : Hid ((w.alloc (.cells #[.int .u64 N1, .int .i64 K1] 25)).alloc (.cells #[.int .u64 N2, .int .i64 K2] 25) = wb) := hwb
  have HC : Hid (∀ u, Below wb.heap.size wb u → u.cell? ⟨n0, 0, none⟩ = some (.int .u64 N1) ∧ u.cell? ⟨n0, 1, none⟩ = some (.int .i64 K1) ∧ u.cell? ⟨n0 + 1, 0, none⟩ = some (.int .u64 N2) ∧ u.cell? ⟨n0 + 1, 1, none⟩ = some (.int .i64 K2)) := fun u hu => by
    have c4 := b4.carry (hu.block _ b4.lt)
    have c5 := b5.carry (hu.block _ b5.lt)
    exact ⟨c4.cell 0 rfl, c4.cell 1 rfl, c5.cell 0 rfl, c5.cell 1 rfl⟩
  have HU : Hid (∀ u, Below wb.heap.size wb u → Below n0 w u) := fun u hu => hBw.trans (hu.mono hsz)
  have HE : Hid (∀ u, Below wb.heap.size wb u → EnvW u ∧ Tab u ∧ Err u ue pv) := fun u hu => by
    have h1 := hBw.trans (hu.mono hsz)
    rw [← hn0] at h1
    exact ⟨he.below h1 (Nat.le_refl _), ht.below h1 (Nat.le_refl _), hE.below h1 (Nat.le_refl _)⟩
  have LV : Hid (∀ u, Below wb.heap.size wb u → Calls Tryz.prog 5 #[] u fun x w' => x = .returned (.bool true) ∧ Below n0 w w') := fun u hb =>
    (lives07_any u (HE.out u hb).1 (HE.out u hb).2.1).mono fun _ _ ⟨hx, h⟩ => ⟨hx, (HU.out u hb).trans (h.mono (HU.out u hb |>.size |> fun h => by omega))⟩
  have HM : Hid (∀ v ∈ vs, LvOk v ∧ ∀ u, Below wb.heap.size wb u → XSees u v.ao v.l) := fun v hv => ⟨hok v hv, fun u hu => (hX v hv).below (B := n0) (HU.out u hu) (by omega)⟩
  have HV : Hid (∀ (i : Nat) (u : World), i < vs.length → Below wb.heap.size wb u → ∃ (b off : Nat) (v : Lvx), lo = some ⟨b, off, none⟩ ∧ vs[i]? = some v ∧ u.cell? ⟨b, off + i, none⟩ = some v.s) := fun i u hi hu => by
    obtain ⟨b, off, k1, k2⟩ := (hL.below (B := n0) (HU.out u hu) (by omega)) i _ (List.getElem?_eq_getElem hi)
    exact ⟨b, off, _, k1, List.getElem?_eq_getElem hi, k2⟩
  have hlz : (vs.length : Int) ≤ 140737488355328 := by omega
  clear hwb b4 b5 hBw he ht hE hL hX hok
  go_enter Tryz.func3, Tryz.ntmps3
  go_wp2_with fail
  rw [HW.out]
  clear HW
  go_loopw [7, 29] (fun s7 s29 wr => ∃ i z : Nat, i ≤ vs.length ∧ s29 = .int .i64 (i : Int) ∧ s7 = .int .i64 (z : Int) ∧ z ≤ 400 ∧ i ≤ z ∧ sW (vs.take i) ≤ 2 * z ∧ Below wb.heap.size wb wr) (fun _ s29 _ => vs.length - (intOf s29).toNat)
  case atStart => exact ⟨0, 0, Nat.zero_le _, rfl, rfl, Nat.zero_le _, Nat.le_refl _, Nat.zero_le _, Below.refl _ _⟩
  case round =>
    obtain ⟨i, z, hi, rfl, rfl, hz4, hiz, hsW, hB⟩ := hrel
    rcases Nat.lt_or_ge i vs.length with hlt | hge
    · obtain ⟨b, off, v, rfl, hv, k1⟩ := HV.out i wr hlt hB
      have hvm := HM.out v (List.mem_of_getElem? hv)
      have WG : Hid (Calls Tryz.prog 4 #[.slice v.ao v.l.length v.cap, .int .i64 200] wr fun e w' => (∃ z : Nat, e = .returned (.int .i64 z) ∧ z ≤ 1000000000000000 ∧ wl v ≤ 2 * z) ∧ Below wr.heap.size wr w') := (weighK_any v.ao v.l v.cap 200 wr (hvm.2 wr hB) (by omega) hvm.1.len hvm.1.wt).mono fun _ _ ⟨⟨z, h1, h2, h3⟩, h4⟩ => ⟨⟨z, h1, h2, wl_le v h3⟩, h4⟩
      unfold Lvx.s at k1
      have hltz : (i : Int) < (vs.length : Int) := by omega
      have HSN : Hid (sW (vs.take (i + 1)) = sW (vs.take i) + wl v) := sW_snoc hv
      have HB : Hid (∀ u, Below wr.heap.size wr u → Below wb.heap.size wb u) := fun u hu => hB.trans (hu.mono hB.size)
      clear HV hvm hv
      go_wp2_with fail
      go_fit WG.out
      rintro e w1 ⟨⟨z', rfl, hz', hwl⟩, hB1⟩
      have hB2 := HB.out w1 hB1
      clear k1 WG hB1
      by_cases hbig : z + (1 + z') ≤ 400
      · have hq : ¬ ((400 : Int) < (z : Int) + (1 + (z' : Int))) := by omega
        go_wp2_with fail
        go_roundw
        case rel => exact ⟨i + 1, z + (1 + z'), by omega, by go_num, by congr 1, hbig, by omega, by rw [HSN.out]; omega, hB2⟩
        case measure => (simp [intOf]; try omega)
      · have hq : (400 : Int) < (z : Int) + (1 + (z' : Int)) := by omega
        have C := LV.out w1 hB2
        go_wp2_with fail
        go_fit C
        rintro e w2 ⟨rfl, hB3⟩
        go_wp2_with fail
        go_ret
        exact ⟨rfl, by rw [hn0]; exact hB3⟩
    · obtain rfl : i = vs.length := by omega
      rw [List.take_length] at hsW
      have HS8 : Hid (sW vs ≤ 800 ∧ vs.length ≤ 400) := ⟨by omega, by omega⟩
      have hlz4 : (vs.length : Int) ≤ 400 := by omega
      obtain ⟨A1, A2, n1, n2, n3, n4, hA2, hon2, hNi2⟩ := step_new4
      have CN : Hid (Calls Tryz.prog 6 #[.int .i64 4194304] wr fun x w' => ∃ d, x = .returned (.pointer (some ⟨d, 0, none⟩)) ∧ Kp wr d (newA 4194304) w') := kp_new 4194304 (by omega) wr
      have CO : Hid (∀ d u, Kp wr d (newA 4194304) u → Calls Tryz.prog 7 #[.pointer (some ⟨d, 0, none⟩), .int .i64 1] u fun x w' => ∃ lb, x = .returned (.tuple #[.pointer (some ⟨lb, 0, none⟩), .slice none 0 0, .int .i64 0]) ∧ ∃ ft, LyF wb d lb A2 1 false ft w') := fun d u hu => (openW_new (HE.out wr hB).1 hu rfl rfl newA4_fine rfl (by show 0 ≤ 1000000; omega) n1 n2 n3 n4).mono fun _ _ ⟨lb, h1, h2⟩ => ⟨lb, h1, lg_lyF h2 hB⟩
      have HB : Hid (Below wb.heap.size wb wr) := hB
      clear hB n1 n2 n3 n4 hsW hz4 hiz hi hge hlz
      go_wp2_with fail
      go_fit CN.out
      rintro e w1 ⟨d, rfl, hKp⟩
      have C1 := CO.out d w1 hKp
      go_wp2_with fail
      go_fit C1
      rintro e w2 ⟨lb, rfl, ft2, hF2⟩
      obtain ⟨x40, x41, x50, x51⟩ := HC.out w2 hF2.bel
      have hlne := logNe lb
      have hm1 : 0 ≤ N1 % 60 := by omega
      have hm2 : N1 % 60 < 60 := by omega
      have CA : Hid (∀ a : Int, 0 ≤ a → a ≤ 1000 → Calls Tryz.prog 8 #[.pointer (some ⟨d, 0, none⟩), .int .i64 a, .int .i64 K1] w2 fun x w' => x = .returned (.int .i64 0) ∧ ∃ A', LyR wb d lb A' 1 false ft2 w2 w' ∧ A'.on = true ∧ A'.sp = A2.sp ∧ Nice A' 2) := fun a h1 h2 => arm_ly hF2 hNi2 hon2 a K1 h1 h2 hK1
      clear C1 CO CN hKp HB hF2 hNi2 hon2
      go_wp2_with fail
      go_fit (CA.out (1 + N1 % 60) (by omega) (by omega))
      rintro e w3 ⟨rfl, A3, ⟨ft3, hF3, hM3⟩, hon3, hA3, hNi3⟩
      have P0 : Hid (Ph wb vs d lb 0 [] none A3 false ft3 (.slice none 0 0) w3) := ⟨hF3, World.ownsRow_nil _ _ _ _, fun g e => (by cases e), fun r hr => (by cases hr), fun r hr => (by cases hr), hNi3, Nat.zero_le _, Nat.le_refl _, fun _ => ⟨hon3, rfl, hA3.trans hA2⟩, fun hb => (by cases hb)⟩
      have HWQ : wr = wr := rfl
      clear hF3 hM3 hon3 hA3 hNi3 CA x40 x41 x50 x51 hlne hA2 HWQ
      obtain ⟨wq, hwq⟩ : ∃ x, x = wr := ⟨wr, rfl⟩
      subst hwq
      go_wp2_with fail
      go_loopw [14, 15, 69] (fun s14 s15 s69 wr => ∃ (i : Nat) (R : List Lvx) (cut : Option Lvx) (A : Ab) (b : Bool) (ft : List Nat) (v14 : Value), i ≤ vs.length ∧ s69 = .int .i64 (i : Int) ∧ s15 = cutVk cut ∧ v14 = s14 ∧ Ph wb vs d lb i R cut A b ft v14 wr) (fun _ _ s69 _ => vs.length - (intOf s69).toNat)
      case atStart => exact ⟨0, [], none, A3, false, ft3, _, Nat.zero_le _, rfl, rfl, rfl, P0.out⟩
      case round =>
        obtain ⟨i, R, cut, A, b, ft, s14, hi, rfl, rfl, rfl, hP⟩ := hrel
        clear P0
        rcases Nat.lt_or_ge i vs.length with hlt | hge
        · obtain ⟨bb, off, v, rfl, hv, k1⟩ := HV.out i wr hlt hP.log.bel
          have hmem := List.mem_of_getElem? hv
          have hvm := HM.out v hmem
          have hltz : (i : Int) < (vs.length : Int) := by omega
          have hi4 : i < 400 := by have := HS8.out.2; omega
          have hEb := HE.out wb (Below.refl _ _)
          have CAp := appendY hEb.1 hEb.2.1 hP.log rfl (fun h0 => (hP.live h0).1) v.ao v.l v.cap (hvm.2 wr hP.log.bel) hvm.1.len hvm.1.max hvm.1.num hP.nice (by omega) (fun hr => Ph.fit hP HS8.out.1 hr)
          have HRG : Hid (∀ u, Below wb.heap.size wb u → recB v.l = true → Calls Tryz.prog 10 #[.slice v.ao v.l.length v.cap] u fun e w' => ∃ g, e = .returned (.tuple #[.slice (some ⟨g, 0, none⟩) (recL v.l).length (recL v.l).length, .int .i64 0]) ∧ Below u.heap.size u w') := fun u hu hr => (recordW_good v.ao v.l v.cap u (hvm.2 u hu) hvm.1.num hr (HE.out u hu).2.1).mono fun _ _ ⟨g, h1, _, _, h4⟩ => ⟨g, h1, h4⟩
          have HRB : Hid (∀ u, Below wb.heap.size wb u → recB v.l = false → Calls Tryz.prog 10 #[.slice v.ao v.l.length v.cap] u fun e w' => e = .returned (.tuple #[.slice none 0 0, .int .i64 2]) ∧ Below u.heap.size u w') := fun u hu hr => recordW_bad v.ao v.l v.cap u (hvm.2 u hu) hvm.1.len hvm.1.max hr
          unfold Lvx.s at k1
          cases b with
          | true =>
            have CT : Hid (Calls Tryz.prog 9 #[.pointer (some ⟨lb, 0, none⟩), .slice v.ao v.l.length v.cap] wr fun x w' => x = .returned (.int .i64 9) ∧ LyR wb d lb A 1 true ft wr w') := by
              have e : appY A 1 true v.l = (9, A, true) := by unfold appY; rw [if_pos rfl]
              rw [e] at CAp
              exact CAp
            obtain ⟨-, r, jr, hcr, -⟩ := hP.dead rfl
            subst hcr
            obtain ⟨ra, hra⟩ := slice_some ((HM.out r (hP.cuts r rfl).1).2 wr hP.log.bel) (hP.cuts r rfl).2
            have hnn := notNilC ra r.l.length r.cap
            have hcv : cutVk (some r) = .slice (some ra) r.l.length r.cap := by show Value.slice r.ao r.l.length r.cap = _; rw [hra]
            rw [hcv]
            have HNX : Hid (∀ w', LyR wb d lb A 1 true ft wr w' → ∃ ft', Ph wb vs d lb (i + 1) R (some r) A true ft' s14 w') := fun w' h => hP.same hv h
            have HCV : Hid (Value.slice (some ra) r.l.length r.cap = cutVk (some r)) := hcv.symm
            clear hP CAp hvm hEb hra hcv hmem hv
            cases hrb : recB v.l with
            | true =>
              go_wp2_with fail
              go_fit CT.out
              rintro e w5 ⟨rfl, hR⟩
              obtain ⟨ft5, hP5⟩ := HNX.out w5 hR
              have C5 := HRG.out w5 hP5.log.bel hrb
              have HP5 : Hid (Ph wb vs d lb (i + 1) R (some r) A true ft5 s14 w5) := hP5
              clear hR hP5 HRG HRB CT HNX k1 hrb
              go_wp2_with fail
              go_fit C5
              rintro e w6 ⟨g, rfl, hB6⟩
              have HP6 := ph_more HP5.out hB6
              clear C5 hB6
              go_wp2_with fail
              go_roundw
              case rel => exact ⟨i + 1, R, some r, A, true, ft5, s14, by omega, by go_num, HCV.out, rfl, HP6⟩
              case measure => (simp [intOf]; try omega)
            | false =>
              go_wp2_with fail
              go_fit CT.out
              rintro e w5 ⟨rfl, hR⟩
              obtain ⟨ft5, hP5⟩ := HNX.out w5 hR
              have C5 := HRB.out w5 hP5.log.bel hrb
              have HP5 : Hid (Ph wb vs d lb (i + 1) R (some r) A true ft5 s14 w5) := hP5
              clear hR hP5 HRG HRB CT HNX k1 hrb
              go_wp2_with fail
              go_fit C5
              rintro e w6 ⟨rfl, hB6⟩
              have HP6 := ph_more HP5.out hB6
              clear C5 hB6
              go_wp2_with fail
              go_roundw
              case rel => exact ⟨i + 1, R, some r, A, true, ft5, s14, by omega, by go_num, HCV.out, rfl, HP6⟩
              case measure => (simp [intOf]; try omega)
          | false =>
            obtain ⟨hon, hcn, hsp⟩ := hP.live rfl
            subst hcn
            have hnl := isNilC
            have HCN : Hid (Value.slice none 0 0 = cutVk none) := rfl
            rw [← HCN.out]
            cases hrb : recB v.l with
            | false =>
              have CT : Hid (Calls Tryz.prog 9 #[.pointer (some ⟨lb, 0, none⟩), .slice v.ao v.l.length v.cap] wr fun x w' => x = .returned (.int .i64 2) ∧ LyR wb d lb A 1 false ft wr w') := by
                have e : appY A 1 false v.l = (2, A, false) := by unfold appY; rw [if_neg (by simp), if_neg (by rw [hrb]; simp)]
                rw [e] at CAp
                exact CAp
              have HNX : Hid (∀ w', LyR wb d lb A 1 false ft wr w' → ∃ ft', Ph wb vs d lb (i + 1) R none A false ft' s14 w') := fun w' h => hP.same hv h
              clear hP CAp hvm hEb hmem hv HRG HRB hrb hnl
              go_wp2_with fail
              go_fit CT.out
              rintro e w5 ⟨rfl, hR⟩
              obtain ⟨ft5, hP5⟩ := HNX.out w5 hR
              clear hR CT HNX k1
              go_wp2_with fail
              go_roundw
              case rel => exact ⟨i + 1, R, none, A, false, ft5, s14, by omega, by go_num, rfl, rfl, hP5⟩
              case measure => (simp [intOf]; try omega)
            | true =>
              have hNw : Nice (writeX A 1 (recL v.l)).2 (2 + 2 * i + 2) := hP.nice.writeX (Ph.fit hP HS8.out.1 hrb)
              have hwr := write_res hP.nice hon hsp (recL v.l) (hP.room hv HS8.out.1 hrb)
              have e : appY A 1 false v.l = ((writeX A 1 (recL v.l)).1, (writeX A 1 (recL v.l)).2, decide ((writeX A 1 (recL v.l)).1 = 9)) := by unfold appY; rw [if_neg (by simp), if_pos hrb]
              rw [e] at CAp
              generalize writeX A 1 (recL v.l) = q at *
              obtain ⟨c9, A9⟩ := q
              rcases hwr with ⟨q1', q2', q3'⟩ | ⟨q1', q2', j9, -, q3'⟩
              · have q1' : c9 = 0 := q1'
                subst q1'
                have CT : Hid (Calls Tryz.prog 9 #[.pointer (some ⟨lb, 0, none⟩), .slice v.ao v.l.length v.cap] wr fun x w' => x = .returned (.int .i64 0) ∧ LyR wb d lb A9 1 false ft wr w') := CAp
                have HNX : Hid (∀ w' ft' W2 v', LyF wb d lb A9 1 false ft' w' → Moved wr w' (lb :: ft) (lb :: ft') → W2.ownsRow wb.heap.size 26 1 v' (R.length + 1) (R.map Lvx.s ++ [.slice v.ao v.l.length v.cap]) → Grew (w'.alloc (.cells #[.slice v.ao v.l.length v.cap] 26)) W2 s14 v' → Ph wb vs d lb (i + 1) (R ++ [v]) none A9 false ft' v' W2) := fun w' ft' W2 v' h1 hm ho hg => hP.keep hv hrb hNw q3' q2' h1 hm ho hg
                have HRW : Hid (∀ w' ft', Moved wr w' (lb :: ft) (lb :: ft') → (w'.alloc (.cells #[.slice v.ao v.l.length v.cap] 26)).ownsRow wb.heap.size 26 1 s14 R.length (R.map Lvx.s)) := fun w' ft' hm => other_alloc (row_apart hP.row hP.apart hm).1
                have hRi := hP.cnt
                clear hP CAp hvm hEb hmem hv HRG HRB hrb hnl hNw hon hsp e q2' q3'
                go_wp2_with fail
                go_fit CT.out
                rintro e w5 ⟨rfl, ft5, hF5, hM5⟩
                have hrw := HRW.out w5 ft5 hM5
                have hbs : wb.heap.size ≤ (w5.alloc (.cells #[.slice v.ao v.l.length v.cap] 26)).heap.size := by have := hF5.bel.size; rw [World.size_alloc]; omega
                have HN2 : Hid (∀ W2 v', W2.ownsRow wb.heap.size 26 1 v' (R.length + 1) (R.map Lvx.s ++ [.slice v.ao v.l.length v.cap]) → Grew (w5.alloc (.cells #[.slice v.ao v.l.length v.cap] 26)) W2 s14 v' → Ph wb vs d lb (i + 1) (R ++ [v]) none A9 false ft5 v' W2) := fun W2 v' ho hg => HNX.out w5 ft5 W2 v' hF5 hM5 ho hg
                clear CT HNX HRW hF5 hM5 k1
                go_wp2_with (at_builtin; go_must (refine wpList_append_grew _ rfl _ _ 22 22 rfl wb.heap.size 26 iL _ 1 24 Tryz.underlying22 hiL hl0 hl1 hl2 rfl s14 R.length (R.map Lvx.s) rfl hrw _ 1 [.slice v.ao v.l.length v.cap] rfl (src_oneL w5 _ rfl) (by unfold maxLen; omega) (by omega) hbs ?_; intro v7 w7 ho7 hg7; have hP7 := HN2.out w7 v7 ho7 hg7; clear ho7 hg7))
                go_roundw
                case rel => exact ⟨i + 1, R ++ [v], none, A9, false, ft5, _, by omega, by go_num, rfl, rfl, hP7⟩
                case measure => (simp [intOf]; try omega)
              · have q1' : c9 = 9 := q1'
                subst q1'
                have CT : Hid (Calls Tryz.prog 9 #[.pointer (some ⟨lb, 0, none⟩), .slice v.ao v.l.length v.cap] wr fun x w' => x = .returned (.int .i64 9) ∧ LyR wb d lb A9 1 true ft wr w') := CAp
                have HNX : Hid (∀ w', LyR wb d lb A9 1 true ft wr w' → ∃ ft', Ph wb vs d lb (i + 1) R (some v) A9 true ft' s14 w') := fun w' h => hP.cutOff hv hrb hNw q2' q3' h
                clear hP CAp hvm hEb hmem hv hNw hon hsp e q2' q3'
                go_wp2_with fail
                go_fit CT.out
                rintro e w5 ⟨rfl, hR⟩
                obtain ⟨ft5, hP5⟩ := HNX.out w5 hR
                have C5 := HRG.out w5 hP5.log.bel hrb
                have HP5 : Hid (Ph wb vs d lb (i + 1) R (some v) A9 true ft5 s14 w5) := hP5
                clear hR hP5 HRG HRB CT HNX k1 hrb
                go_wp2_with fail
                go_fit C5
                rintro e w6 ⟨g, rfl, hB6⟩
                have HP6 := ph_more HP5.out hB6
                clear C5 hB6
                go_wp2_with fail
                go_roundw
                case rel => exact ⟨i + 1, R, some v, A9, true, ft5, s14, by omega, by go_num, rfl, rfl, HP6⟩
                case measure => (simp [intOf]; try omega)
        · skip
          have hlen : i = vs.length := by omega
          obtain ⟨E, rs, hspE, hTE, hrs0⟩ := Ph.tail hP HS8.out.1 (fun v hv => (HM.out v hv).1.num)
          have HTE : Hid (TE E rs) := hTE
          have HRS : Hid (rs = R.map Lvx.l ∨ ∃ r, cut = some r ∧ rs = R.map Lvx.l ++ [r.l]) := hrs0
          have HPS : Hid ((∀ r ∈ R, r ∈ vs ∧ recB r.l = true) ∧ ∀ r, cut = some r → r ∈ vs ∧ recB r.l = true) := ⟨hP.sub, hP.cuts⟩
          have HPS4 : Hid (R.length ≤ 400) := by have := hP.cnt; have := HS8.out.2; show R.length ≤ 400; omega
          have HRL : Hid (rs.length ≤ 401) := by
            show rs.length ≤ 401
            have h4 := HPS4.out
            rcases hrs0 with h | ⟨r, -, h⟩
            · rw [h, List.length_map]; omega
            · rw [h, List.length_append, List.length_map, List.length_singleton]; omega
          have HEB : Hid (EnvW wb ∧ Tab wb ∧ Err wb ue pv) := HE.out wb (Below.refl _ _)
          have hN0 : Nice A 900 := hP.nice.mono (by have := HS8.out.2; omega)
          have hK0 := hP.log.kd
          have hW0 := hP.rw.moved (Moved.refl _ _)
          obtain ⟨x40, x41, -, -⟩ := HC.out wr hK0.2.2
          have hON := kd_on hK0
          have CC0 := kd_crash hK0 hN0 (by omega) K1 hK1.1 hK1.2
          have hdead : b = true → A.on = false := fun h => (hP.dead h).1
          have hlive : b = false → A.on = true := fun h => (hP.live h).1
          clear hP hTE hrs0 HV
          cases b with
          | true =>
            have hoff : A.on = false := hdead rfl
            rw [hoff] at hON
            have hN4 := hN0
            have hsp4 := hspE
            have hW4 := hW0
            have hK4 := hK0
            clear CC0 x40 x41 hspE hN0 hK0 hW0
            go_wp2_with fail
            go_fit hON
            rintro e w4 ⟨rfl, hw4⟩
            subst hw4
            have C5 := kd_start hK4
            go_wp2_with fail
            go_fit C5
            rintro e w5 ⟨rfl, ft5, hK5, hM5⟩
            have hW5 := hW4.moved hM5
            obtain ⟨-, -, x50, x51⟩ := HC.out w5 hK5.2.2
            have hm1 : 0 ≤ N2 % 8 := by omega
            have hm2 : N2 % 8 < 8 := by omega
            have C6 := arm_kd hK5 hN4.start rfl (N2 % 8) K2 (by omega) (by omega) hK2
            clear C5 hK4 hW4 hM5
            go_wp2_with fail
            go_fit C6
            rintro e w6 ⟨rfl, A6, ⟨ft6, hK6, hM6⟩, hon6, hsp6, hN6⟩
            have hW6 := hW5.moved hM6
            have hsp6 : A6.sp = [suW q1 E] := hsp6.trans hsp4
            have C7 := openSecond HEB.out.1 HEB.out.2.1 ue pv HEB.out.2.2 hK6 hon6 hN6 (by omega) hsp6 HTE.out
            clear C6 hK5 hW5 hM6 x50 x51 hm1 hm2
            go_wp2_with fail
            go_fit C7
            rintro e w7 ⟨p7, v7, c77, A7, rfl, hc7, hR7, hC7, hN7⟩
            clear hK6 hon6 hN6 hsp6
            rcases hc7 with rfl | rfl
            · skip
              obtain ⟨ft7, hK7, hM7⟩ := hR7
              have hW7 := hW6.moved hM7
              have C8 := kd_start hK7
              clear C7
              go_wp2_with fail
              go_fit C8
              rintro e w8 ⟨rfl, ft8, hK8, hM8⟩
              have hW8 := hW7.moved hM8
              have C9 := openThird HEB.out.1 HEB.out.2.1 ue pv HEB.out.2.2 hK8 rfl rfl hN7.start (by omega) HTE.out hC7
              clear C8
              go_wp2_with fail
              go_fit C9
              rintro e w12 ⟨p9, v9, rfl, ⟨A9, ft9, hK9, hM9⟩, hT12⟩
              have hW12 := hW8.moved hM9
              have hB12 : Below wb.heap.size wb w12 := hK9.2.2
              have hn12 := fun g (e : s14.ownBlock = some g) => (hW8.row.lt g e).2
              obtain ⟨n12, hn12e⟩ : ∃ n, w8.heap.size = n := ⟨_, rfl⟩
              rw [hn12e] at hT12 hn12
              clear C9 hK7 hM7 hW7 hK8 hM8 hW8 hK9 hM9 hC7 hN7 hW6 hn12e
              obtain ⟨a1, d1, ys, rfl, hy1, hy2, hy3⟩ := hT12.lists
              obtain ⟨a7, c7, rfl, hs7, -, -⟩ := rows_lists hW12.row
              have HYL2 : Hid (∀ zs : List Lvx, zs.map Lvx.l = rs → ∀ y ∈ zs, y.l.length ≤ 1000000) := fun zs hz y hy => by
                have hm : y.l ∈ rs := by rw [← hz]; exact List.mem_map_of_mem hy
                have := (recB_good (HTE.out.good _ hm).1).1.2
                omega
              have HYL : Hid (∀ y ∈ ys, y.l.length ≤ 1000000) := HYL2.out ys hy1
              have hN12 : ∀ g, (Value.slice a7 R.length c7).ownBlock = some g → g < n12 := hn12
              clear hn12
              have hys4 : (ys.length : Int) ≤ 1000000 := by have := HRL.out; have := congrArg List.length hy1; rw [List.length_map] at this; omega
              have hRz : (R.length : Int) ≤ 400 := by have := HPS4.out; omega
              rcases HRS.out with hrs | ⟨r, hcr, hrs⟩
              · skip
                have hll : ys.length = R.length := by have := congrArg List.length (hy1.trans hrs); rw [List.length_map, List.length_map] at this; exact this
                have hq1 : ¬ ((R.length : Int) + 1 < (ys.length : Int)) := by omega
                have hq2 : ¬ ((R.length : Int) < (ys.length : Int)) := by omega
                have CR0 := recordsL_same a1 a7 ys R d1 c7 w12 (hy1.trans hrs) hy2 hs7 hy3 (fun r hr => (HM.out r (HPS.out.1 r hr).1).2 w12 hB12) (by omega) (fun y hy => HYL.out y hy)
                rw [hll] at CR0
                have CRc : Hid (Calls Tryz.prog 14 #[.slice a1 R.length d1, .slice a7 R.length c7] w12 fun e w' => e = .returned (.bool true) ∧ Below w12.heap.size w12 w') := CR0
                have CLv : Hid (∀ u, Below w12.heap.size w12 u → Calls Tryz.prog 5 #[] u fun x w' => x = .returned (.bool true) ∧ Below n0 w w') := fun u hu => LV.out u (hB12.trans (hu.mono hB12.size))
                clear hy1 hy2 hy3 hs7 hT12 hrs CR0
                go_wp2_with fail
                go_fit CRc.out
                rintro e w13 ⟨rfl, hB13⟩
                have C13 := CLv.out w13 hB13
                go_wp2_with fail
                go_fit C13
                rintro e w14 ⟨rfl, hB14⟩
                go_wp2_with fail
                go_ret
                exact ⟨rfl, by rw [hn0]; exact hB14⟩
              · skip
                have hll : ys.length = R.length + 1 := by have := congrArg List.length (hy1.trans hrs); rw [List.length_map, List.length_append, List.length_map, List.length_singleton] at this; exact this
                have hq1 : ¬ ((R.length : Int) + 1 < (ys.length : Int)) := by omega
                have hq2 : (R.length : Int) < (ys.length : Int) := by omega
                have hrc := HPS.out.2 r hcr
                have hcv : cutVk cut = .slice r.ao r.l.length r.cap := by rw [hcr]; rfl
                rw [hcv]
                have hrow12 : (w12.alloc (.cells #[.slice r.ao r.l.length r.cap] 26)).ownsRow wb.heap.size 26 1 (.slice a7 R.length c7) R.length (R.map Lvx.s) := other_alloc hW12.row
                have hbs : wb.heap.size ≤ (w12.alloc (.cells #[.slice r.ao r.l.length r.cap] 26)).heap.size := by have := hB12.size; rw [World.size_alloc]; omega
                have HKP : Hid (∀ W2 v', W2.ownsRow wb.heap.size 26 1 v' (R.length + 1) (R.map Lvx.s ++ [.slice r.ao r.l.length r.cap]) → Grew (w12.alloc (.cells #[.slice r.ao r.l.length r.cap] 26)) W2 (.slice a7 R.length c7) v' → ∃ a8 c8, v' = .slice a8 (R.length + 1) c8 ∧ Below wb.heap.size wb W2 ∧ Calls Tryz.prog 14 #[.slice a1 (R.length + 1) d1, .slice a8 (R.length + 1) c8] W2 fun e w' => e = .returned (.bool true) ∧ Below W2.heap.size W2 w') := fun W2 v' ho hg => by
                  have hBb : Below w12.heap.size w12 (w12.alloc (.cells #[.slice r.ao r.l.length r.cap] 26)) := (Below.refl _ _).alloc (Nat.le_refl _) _
                  have hBa : Below wb.heap.size wb (w12.alloc (.cells #[.slice r.ao r.l.length r.cap] 26)) := hB12.trans (hBb.mono hB12.size)
                  have hB2 : Below wb.heap.size wb W2 := hBa.trans (hg.below hBa.size fun g e => (hrow12.lt g e).1)
                  have hT2 : ToldR n12 rs (.slice a1 ys.length d1) W2 := (hT12.below hBb).moved (Moved.of_grown hg.rows) (fun g hi => by
                    rw [Option.mem_toList] at hi
                    have := (hW12.row.lt g hi)
                    exact hN12 g hi)
                  have ho2 : W2.ownsRow wb.heap.size 26 1 v' (R ++ [r]).length ((R ++ [r]).map Lvx.s) := by
                    rw [List.length_append, List.map_append]; exact ho
                  obtain ⟨a8, c8, rfl, hs8, -, -⟩ := rows_lists ho2
                  obtain ⟨a2, d2, ys2, e2, hz1, hz2, hz3⟩ := hT2.lists
                  have hly : ys2.length = ys.length := by
                    have := congrArg List.length (hz1.trans hy1.symm)
                    rw [List.length_map, List.length_map] at this; exact this
                  obtain ⟨rfl, rfl⟩ : a1 = a2 ∧ d1 = d2 := by simp only [Value.slice.injEq] at e2; exact ⟨e2.1, e2.2.2⟩
                  have hl8 : (R ++ [r]).length = ys.length := by rw [List.length_append, List.length_singleton]; omega
                  have hM := recordsL_same a1 a8 ys2 (R ++ [r]) d1 c8 W2 (by rw [hz1, hrs, List.map_append]; rfl) hz2 hs8 hz3 (fun x hx => by
                    rcases List.mem_append.1 hx with hx | hx
                    · exact (HM.out x (HPS.out.1 x hx).1).2 W2 hB2
                    · rw [List.mem_singleton] at hx; subst hx; exact (HM.out x hrc.1).2 W2 hB2) (by omega) (fun y hy => HYL2.out ys2 hz1 y hy)
                  rw [hl8, hly, hll] at hM
                  exact ⟨a8, c8, by rw [hl8, hll], hB2, hM⟩
                have hR4 : R.length ≤ 400 := by have := HPS4.out; omega
                clear hy1 hy2 hy3 hs7 hT12 hrs hN12 hrc hcr hcv hW12
                go_wp2_with (at_builtin; go_must (refine wpList_append_grew _ rfl _ _ 22 22 rfl wb.heap.size 26 iL _ 1 24 Tryz.underlying22 hiL hl0 hl1 hl2 rfl (.slice a7 R.length c7) R.length (R.map Lvx.s) rfl hrow12 _ 1 [.slice r.ao r.l.length r.cap] rfl (src_oneL w12 _ rfl) (by unfold maxLen; omega) (by omega) hbs ?_; intro v13 w13 ho13 hg13; obtain ⟨a8, c8, rfl, hB13, C13⟩ := HKP.out w13 v13 ho13 hg13; clear ho13 hg13))
                go_fit C13
                rintro e w14 ⟨rfl, hB14⟩
                have C14 := LV.out w14 (hB13.trans (hB14.mono hB13.size))
                go_wp2_with fail
                go_fit C14
                rintro e w15 ⟨rfl, hB15⟩
                go_wp2_with fail
                go_ret
                exact ⟨rfl, by rw [hn0]; exact hB15⟩
            · skip
              obtain ⟨ft7, hK7, hM7⟩ := hR7
              have hW7 := hW6.moved hM7
              have C8 := kd_start hK7
              clear C7
              go_wp2_with fail
              go_fit C8
              rintro e w8 ⟨rfl, ft8, hK8, hM8⟩
              have hW8 := hW7.moved hM8
              have C9 := openThird HEB.out.1 HEB.out.2.1 ue pv HEB.out.2.2 hK8 rfl rfl hN7.start (by omega) HTE.out hC7
              clear C8
              go_wp2_with fail
              go_fit C9
              rintro e w12 ⟨p9, v9, rfl, ⟨A9, ft9, hK9, hM9⟩, hT12⟩
              have hW12 := hW8.moved hM9
              have hB12 : Below wb.heap.size wb w12 := hK9.2.2
              have hn12 := fun g (e : s14.ownBlock = some g) => (hW8.row.lt g e).2
              obtain ⟨n12, hn12e⟩ : ∃ n, w8.heap.size = n := ⟨_, rfl⟩
              rw [hn12e] at hT12 hn12
              clear C9 hK7 hM7 hW7 hK8 hM8 hW8 hK9 hM9 hC7 hN7 hW6 hn12e
              obtain ⟨a1, d1, ys, rfl, hy1, hy2, hy3⟩ := hT12.lists
              obtain ⟨a7, c7, rfl, hs7, -, -⟩ := rows_lists hW12.row
              have HYL2 : Hid (∀ zs : List Lvx, zs.map Lvx.l = rs → ∀ y ∈ zs, y.l.length ≤ 1000000) := fun zs hz y hy => by
                have hm : y.l ∈ rs := by rw [← hz]; exact List.mem_map_of_mem hy
                have := (recB_good (HTE.out.good _ hm).1).1.2
                omega
              have HYL : Hid (∀ y ∈ ys, y.l.length ≤ 1000000) := HYL2.out ys hy1
              have hN12 : ∀ g, (Value.slice a7 R.length c7).ownBlock = some g → g < n12 := hn12
              clear hn12
              have hys4 : (ys.length : Int) ≤ 1000000 := by have := HRL.out; have := congrArg List.length hy1; rw [List.length_map] at this; omega
              have hRz : (R.length : Int) ≤ 400 := by have := HPS4.out; omega
              rcases HRS.out with hrs | ⟨r, hcr, hrs⟩
              · skip
                have hll : ys.length = R.length := by have := congrArg List.length (hy1.trans hrs); rw [List.length_map, List.length_map] at this; exact this
                have hq1 : ¬ ((R.length : Int) + 1 < (ys.length : Int)) := by omega
                have hq2 : ¬ ((R.length : Int) < (ys.length : Int)) := by omega
                have CR0 := recordsL_same a1 a7 ys R d1 c7 w12 (hy1.trans hrs) hy2 hs7 hy3 (fun r hr => (HM.out r (HPS.out.1 r hr).1).2 w12 hB12) (by omega) (fun y hy => HYL.out y hy)
                rw [hll] at CR0
                have CRc : Hid (Calls Tryz.prog 14 #[.slice a1 R.length d1, .slice a7 R.length c7] w12 fun e w' => e = .returned (.bool true) ∧ Below w12.heap.size w12 w') := CR0
                have CLv : Hid (∀ u, Below w12.heap.size w12 u → Calls Tryz.prog 5 #[] u fun x w' => x = .returned (.bool true) ∧ Below n0 w w') := fun u hu => LV.out u (hB12.trans (hu.mono hB12.size))
                clear hy1 hy2 hy3 hs7 hT12 hrs CR0
                go_wp2_with fail
                go_fit CRc.out
                rintro e w13 ⟨rfl, hB13⟩
                have C13 := CLv.out w13 hB13
                go_wp2_with fail
                go_fit C13
                rintro e w14 ⟨rfl, hB14⟩
                go_wp2_with fail
                go_ret
                exact ⟨rfl, by rw [hn0]; exact hB14⟩
              · skip
                have hll : ys.length = R.length + 1 := by have := congrArg List.length (hy1.trans hrs); rw [List.length_map, List.length_append, List.length_map, List.length_singleton] at this; exact this
                have hq1 : ¬ ((R.length : Int) + 1 < (ys.length : Int)) := by omega
                have hq2 : (R.length : Int) < (ys.length : Int) := by omega
                have hrc := HPS.out.2 r hcr
                have hcv : cutVk cut = .slice r.ao r.l.length r.cap := by rw [hcr]; rfl
                rw [hcv]
                have hrow12 : (w12.alloc (.cells #[.slice r.ao r.l.length r.cap] 26)).ownsRow wb.heap.size 26 1 (.slice a7 R.length c7) R.length (R.map Lvx.s) := other_alloc hW12.row
                have hbs : wb.heap.size ≤ (w12.alloc (.cells #[.slice r.ao r.l.length r.cap] 26)).heap.size := by have := hB12.size; rw [World.size_alloc]; omega
                have HKP : Hid (∀ W2 v', W2.ownsRow wb.heap.size 26 1 v' (R.length + 1) (R.map Lvx.s ++ [.slice r.ao r.l.length r.cap]) → Grew (w12.alloc (.cells #[.slice r.ao r.l.length r.cap] 26)) W2 (.slice a7 R.length c7) v' → ∃ a8 c8, v' = .slice a8 (R.length + 1) c8 ∧ Below wb.heap.size wb W2 ∧ Calls Tryz.prog 14 #[.slice a1 (R.length + 1) d1, .slice a8 (R.length + 1) c8] W2 fun e w' => e = .returned (.bool true) ∧ Below W2.heap.size W2 w') := fun W2 v' ho hg => by
                  have hBb : Below w12.heap.size w12 (w12.alloc (.cells #[.slice r.ao r.l.length r.cap] 26)) := (Below.refl _ _).alloc (Nat.le_refl _) _
                  have hBa : Below wb.heap.size wb (w12.alloc (.cells #[.slice r.ao r.l.length r.cap] 26)) := hB12.trans (hBb.mono hB12.size)
                  have hB2 : Below wb.heap.size wb W2 := hBa.trans (hg.below hBa.size fun g e => (hrow12.lt g e).1)
                  have hT2 : ToldR n12 rs (.slice a1 ys.length d1) W2 := (hT12.below hBb).moved (Moved.of_grown hg.rows) (fun g hi => by
                    rw [Option.mem_toList] at hi
                    have := (hW12.row.lt g hi)
                    exact hN12 g hi)
                  have ho2 : W2.ownsRow wb.heap.size 26 1 v' (R ++ [r]).length ((R ++ [r]).map Lvx.s) := by
                    rw [List.length_append, List.map_append]; exact ho
                  obtain ⟨a8, c8, rfl, hs8, -, -⟩ := rows_lists ho2
                  obtain ⟨a2, d2, ys2, e2, hz1, hz2, hz3⟩ := hT2.lists
                  have hly : ys2.length = ys.length := by
                    have := congrArg List.length (hz1.trans hy1.symm)
                    rw [List.length_map, List.length_map] at this; exact this
                  obtain ⟨rfl, rfl⟩ : a1 = a2 ∧ d1 = d2 := by simp only [Value.slice.injEq] at e2; exact ⟨e2.1, e2.2.2⟩
                  have hl8 : (R ++ [r]).length = ys.length := by rw [List.length_append, List.length_singleton]; omega
                  have hM := recordsL_same a1 a8 ys2 (R ++ [r]) d1 c8 W2 (by rw [hz1, hrs, List.map_append]; rfl) hz2 hs8 hz3 (fun x hx => by
                    rcases List.mem_append.1 hx with hx | hx
                    · exact (HM.out x (HPS.out.1 x hx).1).2 W2 hB2
                    · rw [List.mem_singleton] at hx; subst hx; exact (HM.out x hrc.1).2 W2 hB2) (by omega) (fun y hy => HYL2.out ys2 hz1 y hy)
                  rw [hl8, hly, hll] at hM
                  exact ⟨a8, c8, by rw [hl8, hll], hB2, hM⟩
                have hR4 : R.length ≤ 400 := by have := HPS4.out; omega
                clear hy1 hy2 hy3 hs7 hT12 hrs hN12 hrc hcr hcv hW12
                go_wp2_with (at_builtin; go_must (refine wpList_append_grew _ rfl _ _ 22 22 rfl wb.heap.size 26 iL _ 1 24 Tryz.underlying22 hiL hl0 hl1 hl2 rfl (.slice a7 R.length c7) R.length (R.map Lvx.s) rfl hrow12 _ 1 [.slice r.ao r.l.length r.cap] rfl (src_oneL w12 _ rfl) (by unfold maxLen; omega) (by omega) hbs ?_; intro v13 w13 ho13 hg13; obtain ⟨a8, c8, rfl, hB13, C13⟩ := HKP.out w13 v13 ho13 hg13; clear ho13 hg13))
                go_fit C13
                rintro e w14 ⟨rfl, hB14⟩
                have C14 := LV.out w14 (hB13.trans (hB14.mono hB13.size))
                go_wp2_with fail
                go_fit C14
                rintro e w15 ⟨rfl, hB15⟩
                go_wp2_with fail
                go_ret
                exact ⟨rfl, by rw [hn0]; exact hB15⟩
          | false =>
            have hon0 : A.on = true := hlive rfl
            rw [hon0] at hON
            rw [hon0, if_pos rfl] at CC0
            have hN4 := hN0.off K1.toNat
            have hsp4 := off_sp hspE K1.toNat
            clear hspE hN0 hK0
            go_wp2_with fail
            go_fit hON
            rintro e w40 ⟨rfl, hw4⟩
            subst hw4
            go_wp2_with fail
            go_fit CC0
            rintro e w4 ⟨rfl, ft4, hK4, hM4⟩
            have hW4 := hW0.moved hM4
            clear CC0 x40 x41 hM4 hW0
            have C5 := kd_start hK4
            go_wp2_with fail
            go_fit C5
            rintro e w5 ⟨rfl, ft5, hK5, hM5⟩
            have hW5 := hW4.moved hM5
            obtain ⟨-, -, x50, x51⟩ := HC.out w5 hK5.2.2
            have hm1 : 0 ≤ N2 % 8 := by omega
            have hm2 : N2 % 8 < 8 := by omega
            have C6 := arm_kd hK5 hN4.start rfl (N2 % 8) K2 (by omega) (by omega) hK2
            clear C5 hK4 hW4 hM5
            go_wp2_with fail
            go_fit C6
            rintro e w6 ⟨rfl, A6, ⟨ft6, hK6, hM6⟩, hon6, hsp6, hN6⟩
            have hW6 := hW5.moved hM6
            have hsp6 : A6.sp = [suW q1 E] := hsp6.trans hsp4
            have C7 := openSecond HEB.out.1 HEB.out.2.1 ue pv HEB.out.2.2 hK6 hon6 hN6 (by omega) hsp6 HTE.out
            clear C6 hK5 hW5 hM6 x50 x51 hm1 hm2
            go_wp2_with fail
            go_fit C7
            rintro e w7 ⟨p7, v7, c77, A7, rfl, hc7, hR7, hC7, hN7⟩
            clear hK6 hon6 hN6 hsp6
            rcases hc7 with rfl | rfl
            · skip
              obtain ⟨ft7, hK7, hM7⟩ := hR7
              have hW7 := hW6.moved hM7
              have C8 := kd_start hK7
              clear C7
              go_wp2_with fail
              go_fit C8
              rintro e w8 ⟨rfl, ft8, hK8, hM8⟩
              have hW8 := hW7.moved hM8
              have C9 := openThird HEB.out.1 HEB.out.2.1 ue pv HEB.out.2.2 hK8 rfl rfl hN7.start (by omega) HTE.out hC7
              clear C8
              go_wp2_with fail
              go_fit C9
              rintro e w12 ⟨p9, v9, rfl, ⟨A9, ft9, hK9, hM9⟩, hT12⟩
              have hW12 := hW8.moved hM9
              have hB12 : Below wb.heap.size wb w12 := hK9.2.2
              have hn12 := fun g (e : s14.ownBlock = some g) => (hW8.row.lt g e).2
              obtain ⟨n12, hn12e⟩ : ∃ n, w8.heap.size = n := ⟨_, rfl⟩
              rw [hn12e] at hT12 hn12
              clear C9 hK7 hM7 hW7 hK8 hM8 hW8 hK9 hM9 hC7 hN7 hW6 hn12e
              obtain ⟨a1, d1, ys, rfl, hy1, hy2, hy3⟩ := hT12.lists
              obtain ⟨a7, c7, rfl, hs7, -, -⟩ := rows_lists hW12.row
              have HYL2 : Hid (∀ zs : List Lvx, zs.map Lvx.l = rs → ∀ y ∈ zs, y.l.length ≤ 1000000) := fun zs hz y hy => by
                have hm : y.l ∈ rs := by rw [← hz]; exact List.mem_map_of_mem hy
                have := (recB_good (HTE.out.good _ hm).1).1.2
                omega
              have HYL : Hid (∀ y ∈ ys, y.l.length ≤ 1000000) := HYL2.out ys hy1
              have hN12 : ∀ g, (Value.slice a7 R.length c7).ownBlock = some g → g < n12 := hn12
              clear hn12
              have hys4 : (ys.length : Int) ≤ 1000000 := by have := HRL.out; have := congrArg List.length hy1; rw [List.length_map] at this; omega
              have hRz : (R.length : Int) ≤ 400 := by have := HPS4.out; omega
              rcases HRS.out with hrs | ⟨r, hcr, hrs⟩
              · skip
                have hll : ys.length = R.length := by have := congrArg List.length (hy1.trans hrs); rw [List.length_map, List.length_map] at this; exact this
                have hq1 : ¬ ((R.length : Int) + 1 < (ys.length : Int)) := by omega
                have hq2 : ¬ ((R.length : Int) < (ys.length : Int)) := by omega
                have CR0 := recordsL_same a1 a7 ys R d1 c7 w12 (hy1.trans hrs) hy2 hs7 hy3 (fun r hr => (HM.out r (HPS.out.1 r hr).1).2 w12 hB12) (by omega) (fun y hy => HYL.out y hy)
                rw [hll] at CR0
                have CRc : Hid (Calls Tryz.prog 14 #[.slice a1 R.length d1, .slice a7 R.length c7] w12 fun e w' => e = .returned (.bool true) ∧ Below w12.heap.size w12 w') := CR0
                have CLv : Hid (∀ u, Below w12.heap.size w12 u → Calls Tryz.prog 5 #[] u fun x w' => x = .returned (.bool true) ∧ Below n0 w w') := fun u hu => LV.out u (hB12.trans (hu.mono hB12.size))
                clear hy1 hy2 hy3 hs7 hT12 hrs CR0
                go_wp2_with fail
                go_fit CRc.out
                rintro e w13 ⟨rfl, hB13⟩
                have C13 := CLv.out w13 hB13
                go_wp2_with fail
                go_fit C13
                rintro e w14 ⟨rfl, hB14⟩
                go_wp2_with fail
                go_ret
                exact ⟨rfl, by rw [hn0]; exact hB14⟩
              · skip
                have hll : ys.length = R.length + 1 := by have := congrArg List.length (hy1.trans hrs); rw [List.length_map, List.length_append, List.length_map, List.length_singleton] at this; exact this
                have hq1 : ¬ ((R.length : Int) + 1 < (ys.length : Int)) := by omega
                have hq2 : (R.length : Int) < (ys.length : Int) := by omega
                have hrc := HPS.out.2 r hcr
                have hcv : cutVk cut = .slice r.ao r.l.length r.cap := by rw [hcr]; rfl
                rw [hcv]
                have hrow12 : (w12.alloc (.cells #[.slice r.ao r.l.length r.cap] 26)).ownsRow wb.heap.size 26 1 (.slice a7 R.length c7) R.length (R.map Lvx.s) := other_alloc hW12.row
                have hbs : wb.heap.size ≤ (w12.alloc (.cells #[.slice r.ao r.l.length r.cap] 26)).heap.size := by have := hB12.size; rw [World.size_alloc]; omega
                have HKP : Hid (∀ W2 v', W2.ownsRow wb.heap.size 26 1 v' (R.length + 1) (R.map Lvx.s ++ [.slice r.ao r.l.length r.cap]) → Grew (w12.alloc (.cells #[.slice r.ao r.l.length r.cap] 26)) W2 (.slice a7 R.length c7) v' → ∃ a8 c8, v' = .slice a8 (R.length + 1) c8 ∧ Below wb.heap.size wb W2 ∧ Calls Tryz.prog 14 #[.slice a1 (R.length + 1) d1, .slice a8 (R.length + 1) c8] W2 fun e w' => e = .returned (.bool true) ∧ Below W2.heap.size W2 w') := fun W2 v' ho hg => by
                  have hBb : Below w12.heap.size w12 (w12.alloc (.cells #[.slice r.ao r.l.length r.cap] 26)) := (Below.refl _ _).alloc (Nat.le_refl _) _
                  have hBa : Below wb.heap.size wb (w12.alloc (.cells #[.slice r.ao r.l.length r.cap] 26)) := hB12.trans (hBb.mono hB12.size)
                  have hB2 : Below wb.heap.size wb W2 := hBa.trans (hg.below hBa.size fun g e => (hrow12.lt g e).1)
                  have hT2 : ToldR n12 rs (.slice a1 ys.length d1) W2 := (hT12.below hBb).moved (Moved.of_grown hg.rows) (fun g hi => by
                    rw [Option.mem_toList] at hi
                    have := (hW12.row.lt g hi)
                    exact hN12 g hi)
                  have ho2 : W2.ownsRow wb.heap.size 26 1 v' (R ++ [r]).length ((R ++ [r]).map Lvx.s) := by
                    rw [List.length_append, List.map_append]; exact ho
                  obtain ⟨a8, c8, rfl, hs8, -, -⟩ := rows_lists ho2
                  obtain ⟨a2, d2, ys2, e2, hz1, hz2, hz3⟩ := hT2.lists
                  have hly : ys2.length = ys.length := by
                    have := congrArg List.length (hz1.trans hy1.symm)
                    rw [List.length_map, List.length_map] at this; exact this
                  obtain ⟨rfl, rfl⟩ : a1 = a2 ∧ d1 = d2 := by simp only [Value.slice.injEq] at e2; exact ⟨e2.1, e2.2.2⟩
                  have hl8 : (R ++ [r]).length = ys.length := by rw [List.length_append, List.length_singleton]; omega
                  have hM := recordsL_same a1 a8 ys2 (R ++ [r]) d1 c8 W2 (by rw [hz1, hrs, List.map_append]; rfl) hz2 hs8 hz3 (fun x hx => by
                    rcases List.mem_append.1 hx with hx | hx
                    · exact (HM.out x (HPS.out.1 x hx).1).2 W2 hB2
                    · rw [List.mem_singleton] at hx; subst hx; exact (HM.out x hrc.1).2 W2 hB2) (by omega) (fun y hy => HYL2.out ys2 hz1 y hy)
                  rw [hl8, hly, hll] at hM
                  exact ⟨a8, c8, by rw [hl8, hll], hB2, hM⟩
                have hR4 : R.length ≤ 400 := by have := HPS4.out; omega
                clear hy1 hy2 hy3 hs7 hT12 hrs hN12 hrc hcr hcv hW12
                go_wp2_with (at_builtin; go_must (refine wpList_append_grew _ rfl _ _ 22 22 rfl wb.heap.size 26 iL _ 1 24 Tryz.underlying22 hiL hl0 hl1 hl2 rfl (.slice a7 R.length c7) R.length (R.map Lvx.s) rfl hrow12 _ 1 [.slice r.ao r.l.length r.cap] rfl (src_oneL w12 _ rfl) (by unfold maxLen; omega) (by omega) hbs ?_; intro v13 w13 ho13 hg13; obtain ⟨a8, c8, rfl, hB13, C13⟩ := HKP.out w13 v13 ho13 hg13; clear ho13 hg13))
                go_fit C13
                rintro e w14 ⟨rfl, hB14⟩
                have C14 := LV.out w14 (hB13.trans (hB14.mono hB13.size))
                go_wp2_with fail
                go_fit C14
                rintro e w15 ⟨rfl, hB15⟩
                go_wp2_with fail
                go_ret
                exact ⟨rfl, by rw [hn0]; exact hB15⟩
            · skip
              obtain ⟨ft7, hK7, hM7⟩ := hR7
              have hW7 := hW6.moved hM7
              have C8 := kd_start hK7
              clear C7
              go_wp2_with fail
              go_fit C8
              rintro e w8 ⟨rfl, ft8, hK8, hM8⟩
              have hW8 := hW7.moved hM8
              have C9 := openThird HEB.out.1 HEB.out.2.1 ue pv HEB.out.2.2 hK8 rfl rfl hN7.start (by omega) HTE.out hC7
              clear C8
              go_wp2_with fail
              go_fit C9
              rintro e w12 ⟨p9, v9, rfl, ⟨A9, ft9, hK9, hM9⟩, hT12⟩
              have hW12 := hW8.moved hM9
              have hB12 : Below wb.heap.size wb w12 := hK9.2.2
              have hn12 := fun g (e : s14.ownBlock = some g) => (hW8.row.lt g e).2
              obtain ⟨n12, hn12e⟩ : ∃ n, w8.heap.size = n := ⟨_, rfl⟩
              rw [hn12e] at hT12 hn12
              clear C9 hK7 hM7 hW7 hK8 hM8 hW8 hK9 hM9 hC7 hN7 hW6 hn12e
              obtain ⟨a1, d1, ys, rfl, hy1, hy2, hy3⟩ := hT12.lists
              obtain ⟨a7, c7, rfl, hs7, -, -⟩ := rows_lists hW12.row
              have HYL2 : Hid (∀ zs : List Lvx, zs.map Lvx.l = rs → ∀ y ∈ zs, y.l.length ≤ 1000000) := fun zs hz y hy => by
                have hm : y.l ∈ rs := by rw [← hz]; exact List.mem_map_of_mem hy
                have := (recB_good (HTE.out.good _ hm).1).1.2
                omega
              have HYL : Hid (∀ y ∈ ys, y.l.length ≤ 1000000) := HYL2.out ys hy1
              have hN12 : ∀ g, (Value.slice a7 R.length c7).ownBlock = some g → g < n12 := hn12
              clear hn12
              have hys4 : (ys.length : Int) ≤ 1000000 := by have := HRL.out; have := congrArg List.length hy1; rw [List.length_map] at this; omega
              have hRz : (R.length : Int) ≤ 400 := by have := HPS4.out; omega
              rcases HRS.out with hrs | ⟨r, hcr, hrs⟩
              · skip
                have hll : ys.length = R.length := by have := congrArg List.length (hy1.trans hrs); rw [List.length_map, List.length_map] at this; exact this
                have hq1 : ¬ ((R.length : Int) + 1 < (ys.length : Int)) := by omega
                have hq2 : ¬ ((R.length : Int) < (ys.length : Int)) := by omega
                have CR0 := recordsL_same a1 a7 ys R d1 c7 w12 (hy1.trans hrs) hy2 hs7 hy3 (fun r hr => (HM.out r (HPS.out.1 r hr).1).2 w12 hB12) (by omega) (fun y hy => HYL.out y hy)
                rw [hll] at CR0
                have CRc : Hid (Calls Tryz.prog 14 #[.slice a1 R.length d1, .slice a7 R.length c7] w12 fun e w' => e = .returned (.bool true) ∧ Below w12.heap.size w12 w') := CR0
                have CLv : Hid (∀ u, Below w12.heap.size w12 u → Calls Tryz.prog 5 #[] u fun x w' => x = .returned (.bool true) ∧ Below n0 w w') := fun u hu => LV.out u (hB12.trans (hu.mono hB12.size))
                clear hy1 hy2 hy3 hs7 hT12 hrs CR0
                go_wp2_with fail
                go_fit CRc.out
                rintro e w13 ⟨rfl, hB13⟩
                have C13 := CLv.out w13 hB13
                go_wp2_with fail
                go_fit C13
                rintro e w14 ⟨rfl, hB14⟩
                go_wp2_with fail
                go_ret
                exact ⟨rfl, by rw [hn0]; exact hB14⟩
              · skip
                have hll : ys.length = R.length + 1 := by have := congrArg List.length (hy1.trans hrs); rw [List.length_map, List.length_append, List.length_map, List.length_singleton] at this; exact this
                have hq1 : ¬ ((R.length : Int) + 1 < (ys.length : Int)) := by omega
                have hq2 : (R.length : Int) < (ys.length : Int) := by omega
                have hrc := HPS.out.2 r hcr
                have hcv : cutVk cut = .slice r.ao r.l.length r.cap := by rw [hcr]; rfl
                rw [hcv]
                have hrow12 : (w12.alloc (.cells #[.slice r.ao r.l.length r.cap] 26)).ownsRow wb.heap.size 26 1 (.slice a7 R.length c7) R.length (R.map Lvx.s) := other_alloc hW12.row
                have hbs : wb.heap.size ≤ (w12.alloc (.cells #[.slice r.ao r.l.length r.cap] 26)).heap.size := by have := hB12.size; rw [World.size_alloc]; omega
                have HKP : Hid (∀ W2 v', W2.ownsRow wb.heap.size 26 1 v' (R.length + 1) (R.map Lvx.s ++ [.slice r.ao r.l.length r.cap]) → Grew (w12.alloc (.cells #[.slice r.ao r.l.length r.cap] 26)) W2 (.slice a7 R.length c7) v' → ∃ a8 c8, v' = .slice a8 (R.length + 1) c8 ∧ Below wb.heap.size wb W2 ∧ Calls Tryz.prog 14 #[.slice a1 (R.length + 1) d1, .slice a8 (R.length + 1) c8] W2 fun e w' => e = .returned (.bool true) ∧ Below W2.heap.size W2 w') := fun W2 v' ho hg => by
                  have hBb : Below w12.heap.size w12 (w12.alloc (.cells #[.slice r.ao r.l.length r.cap] 26)) := (Below.refl _ _).alloc (Nat.le_refl _) _
                  have hBa : Below wb.heap.size wb (w12.alloc (.cells #[.slice r.ao r.l.length r.cap] 26)) := hB12.trans (hBb.mono hB12.size)
                  have hB2 : Below wb.heap.size wb W2 := hBa.trans (hg.below hBa.size fun g e => (hrow12.lt g e).1)
                  have hT2 : ToldR n12 rs (.slice a1 ys.length d1) W2 := (hT12.below hBb).moved (Moved.of_grown hg.rows) (fun g hi => by
                    rw [Option.mem_toList] at hi
                    have := (hW12.row.lt g hi)
                    exact hN12 g hi)
                  have ho2 : W2.ownsRow wb.heap.size 26 1 v' (R ++ [r]).length ((R ++ [r]).map Lvx.s) := by
                    rw [List.length_append, List.map_append]; exact ho
                  obtain ⟨a8, c8, rfl, hs8, -, -⟩ := rows_lists ho2
                  obtain ⟨a2, d2, ys2, e2, hz1, hz2, hz3⟩ := hT2.lists
                  have hly : ys2.length = ys.length := by
                    have := congrArg List.length (hz1.trans hy1.symm)
                    rw [List.length_map, List.length_map] at this; exact this
                  obtain ⟨rfl, rfl⟩ : a1 = a2 ∧ d1 = d2 := by simp only [Value.slice.injEq] at e2; exact ⟨e2.1, e2.2.2⟩
                  have hl8 : (R ++ [r]).length = ys.length := by rw [List.length_append, List.length_singleton]; omega
                  have hM := recordsL_same a1 a8 ys2 (R ++ [r]) d1 c8 W2 (by rw [hz1, hrs, List.map_append]; rfl) hz2 hs8 hz3 (fun x hx => by
                    rcases List.mem_append.1 hx with hx | hx
                    · exact (HM.out x (HPS.out.1 x hx).1).2 W2 hB2
                    · rw [List.mem_singleton] at hx; subst hx; exact (HM.out x hrc.1).2 W2 hB2) (by omega) (fun y hy => HYL2.out ys2 hz1 y hy)
                  rw [hl8, hly, hll] at hM
                  exact ⟨a8, c8, by rw [hl8, hll], hB2, hM⟩
                have hR4 : R.length ≤ 400 := by have := HPS4.out; omega
                clear hy1 hy2 hy3 hs7 hT12 hrs hN12 hrc hcr hcv hW12
                go_wp2_with (at_builtin; go_must (refine wpList_append_grew _ rfl _ _ 22 22 rfl wb.heap.size 26 iL _ 1 24 Tryz.underlying22 hiL hl0 hl1 hl2 rfl (.slice a7 R.length c7) R.length (R.map Lvx.s) rfl hrow12 _ 1 [.slice r.ao r.l.length r.cap] rfl (src_oneL w12 _ rfl) (by unfold maxLen; omega) (by omega) hbs ?_; intro v13 w13 ho13 hg13; obtain ⟨a8, c8, rfl, hB13, C13⟩ := HKP.out w13 v13 ho13 hg13; clear ho13 hg13))
                go_fit C13
                rintro e w14 ⟨rfl, hB14⟩
                have C14 := LV.out w14 (hB13.trans (hB14.mono hB13.size))
                go_wp2_with fail
                go_fit C14
                rintro e w15 ⟨rfl, hB15⟩
                go_wp2_with fail
                go_ret
                exact ⟨rfl, by rw [hn0]; exact hB15⟩
end Go.Proofs.YtglaocghcgcghaaGreatDoor.walKeeps
namespace Go.Proofs.YtglaocghcgcghaaGreatDoor
open Go.ChangeShapes Go.WideShapes Go.ChangeAt Go.RowKit

theorem cellsCutK : Tryz.prog.cellsOf 25 = 2 := by kernel_rfl
theorem cellsUintK : Tryz.prog.cellsOf 23 = 1 := by kernel_rfl
theorem cellsIntK : Tryz.prog.cellsOf 3 = 1 := by kernel_rfl
set_option maxRecDepth 100000 in
/-- A cut that came in. -/
theorem cut_came {H : Type} {enc : TypeId × Value → H} {W : World} {base : Nat} {v : Value} {d : DataW H} {p : List MemPlace} (hv : Value.okWide Tryz.prog W .any base 25 v)
    (h : DataW.Trod enc Tryz.prog W 0 (fun _ => true) true 25 v d p) : ∃ x y : Int, v = .agg #[.int .u64 x, .int .i64 y] ∧ (0 ≤ x ∧ x ≤ 18446744073709551615) ∧ (-9223372036854775808 ≤ y ∧ y ≤ 9223372036854775807) := by
  obtain ⟨cs, rfl, hsz⟩ := okWide_struct Tryz.underlying25 hv
  obtain ⟨fuel, hf⟩ := h
  have hl := hsz.trans cellsCutK
  obtain ⟨l⟩ := cs
  match l, hl with
  | [c0, c1], _ =>
    obtain ⟨xs, n, _, hd, hl, hlen, hf⟩ := DataW.trod_struct Tryz.underlying25 hf
    match xs, hlen with
    | [y0, y1], _ =>
      have h0 : DataW.trod enc Tryz.prog W 0 (fun _ => true) true n 23 ((([c0, c1] : List Value).drop 0).take (Tryz.prog.cellsOf 23)) = some y0 := hf 0 _ rfl
      have h1 : DataW.trod enc Tryz.prog W 0 (fun _ => true) true n 3 ((([c0, c1] : List Value).drop 1).take (Tryz.prog.cellsOf 3)) = some y1 := hf 1 _ rfl
      rw [cellsUintK] at h0
      rw [cellsIntK] at h1
      obtain ⟨z0, e0, _, w0⟩ := DataW.trod_int Tryz.underlying23 h0
      obtain ⟨z1, e1, _, w1⟩ := DataW.trod_int Tryz.underlying3 h1
      cases e0
      cases e1
      exact ⟨z0, z1, rfl, bounds_u64 w0, bounds_i64 w1⟩
end Go.Proofs.YtglaocghcgcghaaGreatDoor
namespace Go.Proofs.YtglaocghcgcghaaGreatDoor.walKeeps
open Go.RowKit Go.Proofs.YtglaocghcgcghaaGreatDoor

theorem walk (lo : Option Addr) (vs : List Lvx) (cap : Nat) (N1 K1 N2 K2 : Int) (w : World) (he : EnvW w) (ht : Tab w) (ue : TypeId) (pv : Value) (hE : Err w ue pv) (hL : LSees w lo vs) (hX : ∀ v ∈ vs, XSees w v.ao v.l ∧ ∀ c ∈ v.l, c.In)
    (hF : vs.length ≤ 140737488355328 ∧ ∀ v ∈ vs, v.l.length ≤ 140737488355328 ∧ ∀ c ∈ v.l, CxMax c ∧ wtX c ≤ 562949953421312) (hN1 : 0 ≤ N1 ∧ N1 ≤ 18446744073709551615) (hK1 : -9223372036854775808 ≤ K1 ∧ K1 ≤ 9223372036854775807) (hN2 : 0 ≤ N2 ∧ N2 ≤ 18446744073709551615) (hK2 : -9223372036854775808 ≤ K2 ∧ K2 ≤ 9223372036854775807) :
    Calls Tryz.prog 3 #[.slice lo vs.length cap, .agg #[.int .u64 N1, .int .i64 K1], .agg #[.int .u64 N2, .int .i64 K2]] w fun e w' => e = .returned (.bool true) ∧ Below w.heap.size w w' :=
  keepsWalk0 lo vs cap N1 K1 N2 K2 w he ht ue pv hE hL (fun v hv => (hX v hv).1) (fun v hv => ⟨(hF.2 v hv).1, fun c hc => ((hF.2 v hv).2 c hc).1, fun c hc => ⟨((hX v hv).2 c hc).1, ((hX v hv).2 c hc).2⟩, fun c hc => ((hF.2 v hv).2 c hc).2⟩) hF.1 hN1 hK1 hN2 hK2
end Go.Proofs.YtglaocghcgcghaaGreatDoor.walKeeps
namespace Go.Proofs.YtglaocghcgcghaaGreatDoor
open Go.ChangeShapes Go.WideShapes Go.ChangeAt Go.RowKit

theorem ownW : ownKnob Tryz.prog.godebug = none := by kernel_rfl
theorem laidOutW : laidOutB Tryz.prog = true := by kernel_rfl
/-- The list that each row has. -/
def laidSeven : List (String × DataW Unit) := [("math/bits.deBruijn32tab", Rows.laid_math_bits_deBruijn32tab), ("math/bits.deBruijn64tab", Rows.laid_math_bits_deBruijn64tab), ("internal/strconv.uint64pow10", Rows.laid_internal_strconv_uint64pow10), ("skerry/codec.fourSteps", Rows.laid_skerry_codec_fourSteps), ("skerry/codec.errNone", Rows.laid_skerry_codec_errNone), ("strconv.ErrRange", Rows.laid_strconv_ErrRange), ("strconv.ErrSyntax", Rows.laid_strconv_ErrSyntax)]
theorem gPowTypeW : (Tryz.prog.globals[3]?).map (·.type) = some 193 := by kernel_rfl
theorem cellsPowW : Tryz.prog.cellsOf 193 = 20 := by kernel_rfl
theorem cells64W : Tryz.prog.cellsOf 104 = 1 := by kernel_rfl
theorem gTabW : Tryz.prog.globalNamed "skerry/codec.fourSteps" = some 0 := by kernel_rfl
theorem gTabTypeW : (Tryz.prog.globals[0]?).map (·.type) = some 160 := by kernel_rfl
theorem cellsTabW : Tryz.prog.cellsOf 160 = 16 := by kernel_rfl
theorem cells32W : Tryz.prog.cellsOf 120 = 1 := by kernel_rfl
theorem gRng : Tryz.prog.globalNamed "strconv.ErrRange" = some 2 := by kernel_rfl
theorem gRngType : (Tryz.prog.globals[2]?).map (·.type) = some 128 := by kernel_rfl
theorem gSyn : Tryz.prog.globalNamed "strconv.ErrSyntax" = some 1 := by kernel_rfl
theorem gSynType : (Tryz.prog.globals[1]?).map (·.type) = some 128 := by kernel_rfl
theorem cellsErrW : Tryz.prog.cellsOf 207 = 1 := by kernel_rfl
theorem cellsStrW : Tryz.prog.cellsOf 9 = 1 := by kernel_rfl
theorem starW : "*" ++ "errors.errorString" = "*errors.errorString" := by decide
theorem rowErrW (u : TypeId) (h : Tryz.prog.typeName? 3 u = some "*errors.errorString") : u = 205 :=
  typeName_ptr_named (nm := "errors.errorString") (by rw [starW]; kernel_rfl) (by kernel_rfl) (by decide) u (by rw [starW]; exact h)

theorem met_of {W : World} (h : laidMetH Tryz.prog laidSeven W) : laidMet Tryz.prog laidSeven W := by rw [MakeChecks.laidMetH_plain _ _ _ (by kernel_rfl)] at h; exact h
theorem tab7 {W : World} (h : laidMetH Tryz.prog laidSeven W) : Tab W := by
  have h4 := laidMet.tail (laidMet.tail (laidMet.tail (met_of h)))
  have hT : Lib.TabIs Tryz.prog W "skerry/codec.fourSteps" .u32 tabZ := Lib.tabIs_of_head gTabW gTabTypeW Tryz.underlying160 Tryz.underlying120 cells32W cellsTabW h4
  exact fun j hj => hT.cell gTabW j hj
theorem env7 {W : World} (h : laidMetH Tryz.prog laidSeven W) : EnvW W := by
  have h3 := laidMet.tail (laidMet.tail (met_of h))
  have h6 := laidMet.tail (laidMet.tail (laidMet.tail h3))
  have h7 := laidMet.tail h6
  refine ⟨Lib.tabIs_of_head (zs := Lib.pow10Tab) gPowW gPowTypeW Tryz.underlying193 Tryz.underlying104 cells64W cellsPowW h3, ?_, ?_⟩
  · obtain ⟨a0, s0, hv0, _, _, _⟩ := laid_sentinel h7 gSyn gSynType Tryz.underlying128 rowErrW Tryz.underlying205 Tryz.underlying207 rfl rfl Tryz.underlying9 cellsErrW cellsStrW
    exact ⟨205, .pointer (some a0), World.var?_cell gSyn hv0 0⟩
  · obtain ⟨a0, s0, hv0, _, _, _⟩ := laid_sentinel h6 gRng gRngType Tryz.underlying128 rowErrW Tryz.underlying205 Tryz.underlying207 rfl rfl Tryz.underlying9 cellsErrW cellsStrW
    exact ⟨205, .pointer (some a0), World.var?_cell gRng hv0 0⟩
theorem gErrW : Tryz.prog.globalNamed "skerry/codec.errNone" = some 4 := by kernel_rfl
theorem gErrTypeW : (Tryz.prog.globals[4]?).map (·.type) = some 128 := by kernel_rfl
theorem err7 {W : World} (h : laidMetH Tryz.prog laidSeven W) : ∃ u pv, Err W u pv := by
  have h5 := laidMet.tail (laidMet.tail (laidMet.tail (laidMet.tail (met_of h))))
  obtain ⟨a0, s0, hv0, _, _, _⟩ := laid_sentinel h5 gErrW gErrTypeW Tryz.underlying128 rowErrW Tryz.underlying205 Tryz.underlying207 rfl rfl Tryz.underlying9 cellsErrW cellsStrW
  exact ⟨205, .pointer (some a0), World.var?_cell gErrW hv0 0⟩
theorem door_met7 (os : Os) (args : Array Value) : laidMetH Tryz.prog laidSeven ((World.laidAll Tryz.prog os laidSeven).forCall (fun _ _ => 0) ⟨#[], args, []⟩).memory := by
  rw [MakeChecks.laidMetH_plain _ _ _ (by kernel_rfl)]; exact laidMet_laidAll _ (by kernel_rfl) (by kernel_rfl)
end Go.Proofs.YtglaocghcgcghaaGreatDoor
