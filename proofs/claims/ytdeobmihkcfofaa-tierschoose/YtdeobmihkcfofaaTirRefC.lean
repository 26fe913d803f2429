/-
  CONTRACT: the document's choice.
-/
import Derived.Test.YtdeobmihkcfofaaTirRef
namespace Go.Proofs.Ytdeobmihkcfofaa
open Go.RowKit

set_option maxRecDepth 100000 in
set_option maxHeartbeats 1000000 in
theorem rchoose_any (ao : Option Addr) (l : List Int) (cap : Nat) (least : Int) (w : World) (hs : ISees w ao l) (hl : l.length ≤ 500) :
    Calls Try.prog 12 #[.slice ao l.length cap, .int .i64 least] w fun e w' => ∃ mo mcap, e = .returned (.slice mo (chs l least).length mcap) ∧ ISees w' mo (zs (chs l least)) ∧ Below w.heap.size w w' := by
  have hlz : (l.length : Int) ≤ 500 := by omega
  have CB := rbuckets_any ao l cap w hs hl
  obtain ⟨m, hm⟩ : ∃ m, m = max least 2 := ⟨_, rfl⟩
  have HM : Hid (m = max least 2) := hm
  have HB : Hid (∀ b ∈ bkts l, b.length ≤ l.length) := fun b hb => bkts_mem hb
  have hbl := bkts_len l
  have HL : Hid (∀ vs : List Iv, vs.map Iv.l = bkts l → vs.length ≤ 500) := fun vs h => by
    have := congrArg List.length h
    rw [List.length_map] at this; omega
  have HR : Hid (chs l least = chsn (bkts l) m) := by show _ = _; rw [hm]; rfl
  have hm2 : (if least < 2 then 2 else least) = m := by rw [hm]; split <;> omega
  have HM2 : Hid ((if least < 2 then 2 else least) = m) := hm2
  clear hs hm hm2
  go_enter Try.func12, Try.ntmps12
  by_cases h2 : least < 2
  · obtain rfl : 2 = m := by have := HM2.out; rw [if_pos h2] at this; exact this
    clear HM HM2
    go_wp2_with (go_at_call 9; refine CB.mono ?_; rintro e w1 ⟨bo, vs, bcap, rfl, hv1, hv2, hB1⟩)
    have hvl := HL.out vs hv2
    have HV : Hid (BSees w1 bo vs) := hv1
    have HX : Hid (∀ v ∈ vs, v.l.length ≤ l.length) := fun v hv => HB.out v.l (by rw [← hv2]; exact List.mem_map_of_mem hv)
    have HF : Hid (chs l least = chsn (vs.map Iv.l) 2) := by show _ = _; rw [hv2]; exact HR.out
    have HB1 : Hid (Below w.heap.size w w1) := hB1
    have hvz : (vs.length : Int) ≤ 1000000 := by omega
    clear hv1 hv2 CB hB1 HB HL HR hbl
    go_loopw [5, 13] (fun s5 s13 wr => ∃ i mo mcap, i ≤ vs.length ∧ s13 = .int .i64 (i : Int) ∧ s5 = .slice mo (chsn ((vs.map Iv.l).take i) 2).length mcap ∧ ISees w1 mo (zs (chsn ((vs.map Iv.l).take i) 2)) ∧ (chsn ((vs.map Iv.l).take i) 2).length ≤ l.length ∧ wr = w1) (fun _ s13 _ => vs.length - (intOf s13).toNat)
    case atStart => exact ⟨0, none, 0, by omega, rfl, rfl, fun i x hx => by (simp [chsn, zs] at hx), by simp [chsn], rfl⟩
    case round =>
      obtain ⟨i, mo, mcap, hi, rfl, rfl, hI, hcl, rfl⟩ := hrel
      rcases Nat.lt_or_ge i vs.length with hlt | hge
      · have hltz : (i : Int) < (vs.length : Int) := by omega
        have hx : vs[i]? = some vs[i] := List.getElem?_eq_getElem hlt
        obtain ⟨b, off, rfl, c1⟩ := HV.out.at' i _ hx
        have hvi := HV.out.ins _ (List.getElem_mem hlt)
        have hxl := HX.out _ (List.getElem_mem hlt)
        have hsc : chsn ((vs.map Iv.l).take (i + 1)) 2 = pick 2 (chsn ((vs.map Iv.l).take i) 2) vs[i].l := chsn_succ (by rw [List.getElem?_map, hx]; rfl)
        generalize hV : vs[i] = v at *
        obtain ⟨vo, vl, vc⟩ := v
        simp only [Iv.s] at c1 hvi hxl hsc
        have HI : Hid (ISees wr mo (zs (chsn ((vs.map Iv.l).take i) 2))) := hI
        have HJ : Hid (ISees wr vo (zs vl)) := hvi
        have HC : Hid (chsn ((vs.map Iv.l).take (i + 1)) 2 = pick 2 (chsn ((vs.map Iv.l).take i) 2) vl) := hsc
        clear hI hvi hsc hx hV HX
        generalize chsn ((vs.map Iv.l).take i) 2 = best at *
        obtain ⟨bl, hbl⟩ : ∃ bl, bl = best.length := ⟨_, rfl⟩
        obtain ⟨xl, hxl'⟩ : ∃ xl, xl = vl.length := ⟨_, rfl⟩
        have hxz : (xl : Int) ≤ 1000000 := by omega
        have hbz : (bl : Int) ≤ 1000000 := by omega
        rw [← hxl'] at c1 hxl
        rw [← hbl]
        by_cases hp : 2 ≤ (xl : Int) ∧ bl < xl
        · have HD : Hid (chsn ((vs.map Iv.l).take (i + 1)) 2 = vl) := by show _ = _; rw [HC.out]; exact pick_yes (by rw [← hxl']; exact hp.1) (by rw [← hxl', ← hbl]; exact hp.2)
          have HK : Hid (xl = vl.length) := hxl'
          obtain ⟨hp1, hp2⟩ := hp
          have hp3 : (bl : Int) < (xl : Int) := by omega
          clear hbl hxl' HC HI hcl
          go_wp2_with fail
          go_roundw
          case rel => exact ⟨i + 1, vo, vc, by omega, by go_num, by rw [HD.out, HK.out], by rw [HD.out]; exact HJ.out, by rw [HD.out, ← HK.out]; exact hxl, by trivial⟩
          case measure => (simp [intOf]; try omega)
        · have HD : Hid (chsn ((vs.map Iv.l).take (i + 1)) 2 = best) := by show _ = _; rw [HC.out]; exact pick_no (by rw [← hxl', ← hbl]; exact hp)
          have HK : Hid (bl = best.length) := hbl
          clear hbl hxl' HC HJ
          by_cases hp1 : 2 ≤ (xl : Int)
          · have hp2 : ¬ (bl : Int) < (xl : Int) := fun h => hp ⟨hp1, by omega⟩
            have hp3 : ¬ bl < xl := by omega
            clear hp
            go_wp2_with fail
            go_roundw
            case rel => exact ⟨i + 1, mo, mcap, by omega, by go_num, by rw [HD.out, HK.out], by rw [HD.out]; exact HI.out, by rw [HD.out]; exact hcl, by trivial⟩
            case measure => (simp [intOf]; try omega)
          · clear hp
            go_wp2_with fail
            go_roundw
            case rel => exact ⟨i + 1, mo, mcap, by omega, by go_num, by rw [HD.out, HK.out], by rw [HD.out]; exact HI.out, by rw [HD.out]; exact hcl, by trivial⟩
            case measure => (simp [intOf]; try omega)
      · obtain rfl : i = vs.length := by omega
        have hgez : ¬ (vs.length : Int) < (vs.length : Int) := by omega
        have e1 : (vs.map Iv.l).take vs.length = vs.map Iv.l := List.take_of_length_le (by simp)
        rw [e1] at hI ⊢
        rw [← HF.out] at hI ⊢
        have HI : Hid (ISees wr mo (zs (chs l least))) := hI
        clear hI hcl e1
        go_wp2_with fail
        go_ret
        exact ⟨mo, ⟨mcap, rfl⟩, HI.out, HB1.out⟩
  · obtain rfl : least = m := by have := HM2.out; rw [if_neg h2] at this; exact this
    clear HM HM2
    go_wp2_with (go_at_call 9; refine CB.mono ?_; rintro e w1 ⟨bo, vs, bcap, rfl, hv1, hv2, hB1⟩)
    have hvl := HL.out vs hv2
    have HV : Hid (BSees w1 bo vs) := hv1
    have HX : Hid (∀ v ∈ vs, v.l.length ≤ l.length) := fun v hv => HB.out v.l (by rw [← hv2]; exact List.mem_map_of_mem hv)
    have HF : Hid (chs l least = chsn (vs.map Iv.l) least) := by show _ = _; rw [hv2]; exact HR.out
    have HB1 : Hid (Below w.heap.size w w1) := hB1
    have hvz : (vs.length : Int) ≤ 1000000 := by omega
    clear hv1 hv2 CB hB1 HB HL HR hbl
    go_loopw [5, 13] (fun s5 s13 wr => ∃ i mo mcap, i ≤ vs.length ∧ s13 = .int .i64 (i : Int) ∧ s5 = .slice mo (chsn ((vs.map Iv.l).take i) least).length mcap ∧ ISees w1 mo (zs (chsn ((vs.map Iv.l).take i) least)) ∧ (chsn ((vs.map Iv.l).take i) least).length ≤ l.length ∧ wr = w1) (fun _ s13 _ => vs.length - (intOf s13).toNat)
    case atStart => exact ⟨0, none, 0, by omega, rfl, rfl, fun i x hx => by (simp [chsn, zs] at hx), by simp [chsn], rfl⟩
    case round =>
      obtain ⟨i, mo, mcap, hi, rfl, rfl, hI, hcl, rfl⟩ := hrel
      rcases Nat.lt_or_ge i vs.length with hlt | hge
      · have hltz : (i : Int) < (vs.length : Int) := by omega
        have hx : vs[i]? = some vs[i] := List.getElem?_eq_getElem hlt
        obtain ⟨b, off, rfl, c1⟩ := HV.out.at' i _ hx
        have hvi := HV.out.ins _ (List.getElem_mem hlt)
        have hxl := HX.out _ (List.getElem_mem hlt)
        have hsc : chsn ((vs.map Iv.l).take (i + 1)) least = pick least (chsn ((vs.map Iv.l).take i) least) vs[i].l := chsn_succ (by rw [List.getElem?_map, hx]; rfl)
        generalize hV : vs[i] = v at *
        obtain ⟨vo, vl, vc⟩ := v
        simp only [Iv.s] at c1 hvi hxl hsc
        have HI : Hid (ISees wr mo (zs (chsn ((vs.map Iv.l).take i) least))) := hI
        have HJ : Hid (ISees wr vo (zs vl)) := hvi
        have HC : Hid (chsn ((vs.map Iv.l).take (i + 1)) least = pick least (chsn ((vs.map Iv.l).take i) least) vl) := hsc
        clear hI hvi hsc hx hV HX
        generalize chsn ((vs.map Iv.l).take i) least = best at *
        obtain ⟨bl, hbl⟩ : ∃ bl, bl = best.length := ⟨_, rfl⟩
        obtain ⟨xl, hxl'⟩ : ∃ xl, xl = vl.length := ⟨_, rfl⟩
        have hxz : (xl : Int) ≤ 1000000 := by omega
        have hbz : (bl : Int) ≤ 1000000 := by omega
        rw [← hxl'] at c1 hxl
        rw [← hbl]
        by_cases hp : least ≤ (xl : Int) ∧ bl < xl
        · have HD : Hid (chsn ((vs.map Iv.l).take (i + 1)) least = vl) := by show _ = _; rw [HC.out]; exact pick_yes (by rw [← hxl']; exact hp.1) (by rw [← hxl', ← hbl]; exact hp.2)
          have HK : Hid (xl = vl.length) := hxl'
          obtain ⟨hp1, hp2⟩ := hp
          have hp3 : (bl : Int) < (xl : Int) := by omega
          clear hbl hxl' HC HI hcl
          go_wp2_with fail
          go_roundw
          case rel => exact ⟨i + 1, vo, vc, by omega, by go_num, by rw [HD.out, HK.out], by rw [HD.out]; exact HJ.out, by rw [HD.out, ← HK.out]; exact hxl, by trivial⟩
          case measure => (simp [intOf]; try omega)
        · have HD : Hid (chsn ((vs.map Iv.l).take (i + 1)) least = best) := by show _ = _; rw [HC.out]; exact pick_no (by rw [← hxl', ← hbl]; exact hp)
          have HK : Hid (bl = best.length) := hbl
          clear hbl hxl' HC HJ
          by_cases hp1 : least ≤ (xl : Int)
          · have hp2 : ¬ (bl : Int) < (xl : Int) := fun h => hp ⟨hp1, by omega⟩
            have hp3 : ¬ bl < xl := by omega
            clear hp
            go_wp2_with fail
            go_roundw
            case rel => exact ⟨i + 1, mo, mcap, by omega, by go_num, by rw [HD.out, HK.out], by rw [HD.out]; exact HI.out, by rw [HD.out]; exact hcl, by trivial⟩
            case measure => (simp [intOf]; try omega)
          · clear hp
            go_wp2_with fail
            go_roundw
            case rel => exact ⟨i + 1, mo, mcap, by omega, by go_num, by rw [HD.out, HK.out], by rw [HD.out]; exact HI.out, by rw [HD.out]; exact hcl, by trivial⟩
            case measure => (simp [intOf]; try omega)
      · obtain rfl : i = vs.length := by omega
        have hgez : ¬ (vs.length : Int) < (vs.length : Int) := by omega
        have e1 : (vs.map Iv.l).take vs.length = vs.map Iv.l := List.take_of_length_le (by simp)
        rw [e1] at hI ⊢
        rw [← HF.out] at hI ⊢
        have HI : Hid (ISees wr mo (zs (chs l least))) := hI
        clear hI hcl e1
        go_wp2_with fail
        go_ret
        exact ⟨mo, ⟨mcap, rfl⟩, HI.out, HB1.out⟩
end Go.Proofs.Ytdeobmihkcfofaa
