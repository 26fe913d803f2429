/-
  SEVERAL TEXTS IN ONE: RefText, RefCells, VerRefGood, WalRefR, RefRead, RefCellP.
-/
import Derived.Test.YtlamncldbnagmaaGreatDoorMany14
import Derived.Test.YtlamncldbnagmaaGreatDoorMany13
import Derived.Test.YtlamncldbnagmaaGreatDoorCellMany
import Derived.Deep.CutRange
import Derived.Test.YtlamncldbnagmaaGreatDoorVerRef
import Derived.Test.YtlamncldbnagmaaGreatDoorMany26
import Derived.Test.YtlamncldbnagmaaGreatDoorMany21
namespace Go.Proofs.YtlamncldbnagmaaGreatDoor
open Go.RowKit

set_option maxRecDepth 100000 in
set_option maxHeartbeats 800000 in
theorem refPutText_any (ao : Option Addr) (l : List UInt8) (cap : Nat) (s : ByteArray) (w : World) (hs : Sees w ao l) (hnone : ao = none → l.length = 0) (hl : l.length + s.size ≤ 140737488353000) :
    Calls Tryz.prog 68 #[.slice ao l.length cap, .string s] w fun e w' => ∃ v', e = .returned v' ∧ w'.ownsRow w.heap.size 5 1 v' (l.length + (txtL s.data.toList).length) (B8 (l ++ txtL s.data.toList)) ∧ Below w.heap.size w w' := by
  obtain ⟨i0, hi, hz0, hz1, hz2⟩ := info_parts info8
  have hnl := numL_length s.size
  have hsz : s.data.toList.length = s.size := by simp
  have Hp : Hid _ := refPut_any ao l cap s.size w hs hnone (by omega) (by omega)
  clear hs hnone
  go_enter Tryz.func68, Tryz.ntmps68
  go_wp2_with fail
  refine Calls.mono (Hid.out Hp) ?_
  rintro e w1 ⟨v1, rfl, ho1, hb1⟩
  go_wp2_with (at_builtin; go_must (refine wpList_append_grew _ rfl _ _ 23 9 rfl w.heap.size 5 i0 (.int .u8 0) 1 1 Tryz.underlying23 hi hz0 hz1 hz2 rfl _ _ _ rfl ho1 _ s.size (B8 s.data.toList) rfl (Src.ofString _ Tryz.underlying9 s) (by unfold maxLen; omega) (by omega) hb1.size ?_; intro v' w' ho' hg'))
  go_ret
  refine ⟨v', rfl, ?_, hb1.trans (hg'.below hb1.size (fun k hk => (ho1.lt k hk).1))⟩
  unfold txtL
  rw [hsz, List.length_append, hsz, ← List.append_assoc, B8_append _ s.data.toList, ← Nat.add_assoc]
  exact ho'

set_option maxRecDepth 100000 in
set_option maxHeartbeats 800000 in
theorem refGetText_any (ao : Option Addr) (l : List UInt8) (cap : Nat) (w : World) (hs : Sees w ao l) (hcap : l.length ≤ cap) (hl : l.length ≤ 140737488354000) :
    Calls Tryz.prog 147 #[.slice ao l.length cap] w fun e w' => e = .returned (.tuple #[.string ⟨(txtS l).toArray⟩, .int .i64 (txtK l)]) ∧ w' = w := by
  have Hg : Hid _ := refGet_any ao l cap w hs hl
  cases hg : getN 0 0 l with
  | none =>
    have h0 : textN l = none := by unfold textN; rw [hg]
    have h1 : txtS l = [] := by unfold txtS; rw [h0]
    have h2 : txtK l = 0 := by unfold txtK; rw [h0]
    have h3 : getV l = 0 := by unfold getV; rw [hg]
    have h4 : getK l = 0 := by unfold getK; rw [hg]
    rw [h1, h2]
    rw [h3, h4] at Hg
    clear h0 h1 h2 h3 h4 hg hs
    go_enter Tryz.func147, Tryz.ntmps147
    go_wp2_with fail
    refine Calls.mono (Hid.out Hg) ?_
    rintro e w' ⟨rfl, rfl⟩
    go_wp2_with fail
    go_ret2
    exact ⟨rfl, rfl⟩
  | some vr =>
    obtain ⟨v, r⟩ := vr
    have hb := get_bd hg
    have h3 : getV l = v := by unfold getV; rw [hg]
    have h4 : getK l = l.length - r.length := by unfold getK; rw [hg]
    have hr : l.drop (l.length - r.length) = r := getN_drop hg
    rw [h3, h4] at Hg
    have hvi : (v : Int) ≤ 18446744073709551615 := by omega
    obtain ⟨k, hk⟩ : ∃ k, l.length - r.length = k := ⟨_, rfl⟩
    have hkl : k + r.length = l.length := by omega
    rw [hk] at Hg hr
    have hk0 : ((k : Int) == 0) = false := by simp; omega
    by_cases hv : v ≤ r.length
    · have h0 : textN l = some (r.take v, r.drop v) := by unfold textN; rw [hg]; simp [hv]
      have h1 : txtS l = (l.drop k).take v := by unfold txtS; rw [h0, hr]
      have h2 : txtK l = k + v := by unfold txtK; rw [h0]; simp; omega
      rw [h1, h2]
      have hvk : k + v ≤ l.length := by omega
      clear h0 h1 h2 h3 h4 hg hb hr hk hv hkl
      by_cases hv0 : v = 0
      · subst hv0
        have hcv := conv_zero
        by_cases hcm : cap = k
        · subst hcm
          go_enter Tryz.func147, Tryz.ntmps147
          go_wp2_with fail
          refine Calls.mono (Hid.out Hg) ?_
          rintro e w' ⟨rfl, rfl⟩
          go_wp2_with fail
          go_ret2
          exact ⟨by simp, rfl⟩
        · go_enter Tryz.func147, Tryz.ntmps147
          go_wp2_with fail
          refine Calls.mono (Hid.out Hg) ?_
          rintro e w' ⟨rfl, rfl⟩
          go_wp2_with fail
          go_ret2
          exact ⟨by simp, rfl⟩
      · obtain ⟨b, off, rfl, hc⟩ := sees_at hs (n := k) (by omega)
        have hsl := sees_cut hs k v (by omega)
        have hcv := conv_sees hsl (fun h => by cases h) (cap - k)
        have hlen : ((l.drop k).take v).length = v := by simp; omega
        rw [hlen] at hcv
        have hcm : ¬ cap = k := by omega
        clear hsl hc hlen hs
        generalize (l.drop k).take v = t at *
        go_enter Tryz.func147, Tryz.ntmps147
        go_wp2_with fail
        refine Calls.mono (Hid.out Hg) ?_
        rintro e w' ⟨rfl, rfl⟩
        go_wp2_with fail
        go_ret2
        exact ⟨by simp, rfl⟩
    · have h0 : textN l = none := by unfold textN; rw [hg]; simp; omega
      have h1 : txtS l = [] := by unfold txtS; rw [h0]
      have h2 : txtK l = 0 := by unfold txtK; rw [h0]
      rw [h1, h2]
      have hvk : l.length < k + v := by omega
      have hkl' : k ≤ l.length := by omega
      clear h0 h1 h2 h3 h4 hg hb hr hk hv hkl hs
      go_enter Tryz.func147, Tryz.ntmps147
      go_wp2_with fail
      refine Calls.mono (Hid.out Hg) ?_
      rintro e w' ⟨rfl, rfl⟩
      go_wp2_with fail
      go_ret2
      exact ⟨rfl, rfl⟩
end Go.Proofs.YtlamncldbnagmaaGreatDoor
namespace Go.Proofs.YtlamncldbnagmaaGreatDoor
open Go.RowKit

theorem owns_mono' {w : World} {b b' : Nat} {e : TypeId} {size : Nat} {v : Value} {n : Nat} {xs : List Value} (h : w.ownsRow b e size v n xs) (hb : b' ≤ b) : w.ownsRow b' e size v n xs := by
  refine ⟨h.1, ?_⟩
  rcases h.2 with hn | ⟨g, cap, cur, rfl, hg, r⟩
  · exact .inl hn
  · exact .inr ⟨g, cap, cur, rfl, Nat.le_trans hb hg, r⟩
theorem owns_seesD {w : World} {base n : Nat} {l : List UInt8} {v : Value} (h : w.ownsRow base 5 1 v n (B8 l)) : ∃ ao cap, v = .slice ao l.length cap ∧ Sees w ao l ∧ (ao = none → l.length = 0) := by
  obtain ⟨ao, cap, rfl, h1, h2, h3⟩ := owns_sees h
  exact ⟨ao, cap, by rw [h2], h1, fun e => h2.trans (h3 e).1⟩

/-- What is written so far: a row of the call's own; some boxes beside it. -/
structure StC (w : World) (Bs : List (Nat × Array Value × TypeId)) (wx : World) (v : Value) (xs : List UInt8) : Prop where
  own : wx.ownsRow w.heap.size 5 1 v xs.length (B8 xs)
  below : Below w.heap.size w wx
  box : ∀ x ∈ Bs, Box wx x.1 x.2.1 x.2.2
  ne : ∀ x ∈ Bs, v.ownBlock ≠ some x.1
section
variable {w wx w' : World} {Bs : List (Nat × Array Value × TypeId)} {v v' : Value} {xs ys : List UInt8}
theorem StC.like (h : StC w Bs wx v xs) (h1 : wx.heap = w'.heap) (h2 : wx.os = w'.os) (h3 : wx.tape = w'.tape) (h4 : wx.output = w'.output) : StC w Bs w' v xs :=
  ⟨owns_heap h.own (fun k _ => by rw [h1]), ⟨h2.symm.trans h.below.os, h3.symm.trans h.below.tape, h4.symm.trans h.below.output, by rw [← h1]; exact h.below.size, by rw [← h1]; exact h.below.block⟩, fun x hx => (h.box x hx).carry (by rw [h1]), h.ne⟩
theorem StC.fresh (h : StC w Bs wx v xs) {n : Nat} (ho : w'.ownsRow wx.heap.size 5 1 v' n (B8 ys)) (hn : n = ys.length) (hb : Below wx.heap.size wx w') : StC w Bs w' v' ys := by
  subst hn
  have hs := h.below.size
  exact ⟨owns_mono' ho hs, h.below.trans (hb.mono hs), fun x hx => (h.box x hx).carry (hb.block x.1 (h.box x hx).lt), fun x hx e => by have h1 := (ho.lt _ e).1; have h2 := (h.box x hx).lt; omega⟩
theorem StC.grew (h : StC w Bs wx v xs) (ho : w'.ownsRow w.heap.size 5 1 v' ys.length (B8 ys)) (hg : Grew wx w' v v') : StC w Bs w' v' ys :=
  ⟨ho, h.below.trans (hg.below h.below.size (fun k hk => (h.own.lt k hk).1)), fun x hx => (h.box x hx).grew hg (h.ne x hx), fun x hx => hg.ne (h.ne x hx) (h.box x hx).lt⟩
theorem StC.more (h : StC w Bs wx v xs) (cs : Array Value) (t : TypeId) : StC w ((wx.heap.size, cs, t) :: Bs) (wx.alloc (.cells cs t)) v xs := by
  refine ⟨h.own.alloc _, h.below.alloc h.below.size _, fun x hx => ?_, fun x hx => ?_⟩
  · rcases List.mem_cons.1 hx with rfl | hx
    · exact Box.new _ _ _
    · exact (h.box x hx).alloc _
  · rcases List.mem_cons.1 hx with rfl | hx
    · exact owns_ne_new h.own
    · exact h.ne x hx
end
theorem StC.b1 {w wx : World} {Bs : List (Nat × Array Value × TypeId)} {k : Nat} {cs : Array Value} {t : TypeId} {v : Value} {xs : List UInt8} (h : StC w ((k, cs, t) :: Bs) wx v xs) : Box wx k cs t := h.box (k, cs, t) (.head _)
theorem StC.tail {w wx : World} {x : Nat × Array Value × TypeId} {Bs : List (Nat × Array Value × TypeId)} {v : Value} {xs : List UInt8} (h : StC w (x :: Bs) wx v xs) : StC w Bs wx v xs := ⟨h.own, h.below, fun y hy => h.box y (.tail _ hy), fun y hy => h.ne y (.tail _ hy)⟩
theorem StC.put {w wx w' : World} {Bs : List (Nat × Array Value × TypeId)} {v v' : Value} {xs : List UInt8} {x : UInt8} (h : StC w Bs wx v xs) (ho : w'.ownsRow w.heap.size 5 1 v' (xs.length + 1) (B8 (xs ++ [x]))) (hg : Grew wx w' v v') : StC w Bs w' v' (xs ++ [x]) := h.grew (by simpa using ho) hg
theorem refPutSt {w wx : World} {Bs : List (Nat × Array Value × TypeId)} {v : Value} {xs : List UInt8} (h : StC w Bs wx v xs) (u : Nat) (hu : u < 18446744073709551616) (hl : xs.length ≤ 140737488354000) :
    Calls Tryz.prog 67 #[v, .int .u64 u] wx fun e w' => ∃ v', e = .returned v' ∧ StC w Bs w' v' (xs ++ numL u) := by
  obtain ⟨ao, cap, rfl, hs, hn⟩ := owns_seesD h.own
  refine (refPut_any ao xs cap u wx hs hn hl hu).mono ?_
  rintro e w' ⟨v', rfl, ho, hb⟩
  exact ⟨v', rfl, h.fresh ho (by simp) hb⟩
theorem refPutTextSt {w wx : World} {Bs : List (Nat × Array Value × TypeId)} {v : Value} {xs : List UInt8} (h : StC w Bs wx v xs) (s : ByteArray) (hl : xs.length + s.size ≤ 140737488353000) :
    Calls Tryz.prog 68 #[v, .string s] wx fun e w' => ∃ v', e = .returned v' ∧ StC w Bs w' v' (xs ++ txtL (strL s)) := by
  obtain ⟨ao, cap, rfl, hs, hn⟩ := owns_seesD h.own
  refine (refPutText_any ao xs cap s wx hs hn hl).mono ?_
  rintro e w' ⟨v', rfl, ho, hb⟩
  exact ⟨v', rfl, h.fresh ho (by simp [strL]) hb⟩
theorem refZig_nat (n : Int) (w : World) (h : I64 n) : Calls Tryz.prog 69 #[.int .i64 n] w fun e w' => e = .returned (.int .u64 (zigN n : Int)) ∧ w' = w := by
  rw [← (zigN_eq h).1]
  exact refZig_any n w h.1 h.2

set_option maxRecDepth 100000 in
set_option maxHeartbeats 1600000 in
theorem refCells_any (ao : Option Addr) (l : List CellV) (cap : Nat) (w : World) (hs : CSees w ao l) (hok : ∀ c ∈ l, c.Ok) (hw : wtL l + 81 * l.length ≤ 140737488330000) :
    Calls Tryz.prog 34 #[.slice ao l.length cap] w fun e w' => ∃ v', e = .returned v' ∧ w'.ownsRow w.heap.size 5 1 v' (cellsL l).length (B8 (cellsL l)) ∧ Below w.heap.size w w' := by
  obtain ⟨i0, hi, hz0, hz1, hz2⟩ := info_parts info8
  have hnl := (numL_length l.length).2
  have h00 : StC w [] w (.slice none 0 0) [] := ⟨World.ownsRow_nil _ _ _ _, Below.refl _ _, (fun x hx => by cases hx), (fun x hx => by cases hx)⟩
  have Hc1 : Hid _ := refPutSt h00 l.length (by omega) (by simp)
  have hlz : (l.length : Int) ≤ 140737488330000 := by omega
  clear h00
  go_enter Tryz.func34, Tryz.ntmps34
  go_wp2_with fail
  refine Calls.mono (Hid.out Hc1) ?_
  rintro e w1 ⟨v1, rfl, h1⟩
  clear Hc1
  go_wp2_with fail
  go_loopw [3, 13] (fun s3 s13 wr => ∃ i : Nat, i ≤ l.length ∧ s13 = .int .i64 i ∧ StC w [] wr s3 (numL l.length ++ manyL (l.take i))) (fun _ s13 _ => l.length - (intOf s13).toNat)
  case atStart => exact ⟨0, by omega, rfl, by simpa [manyL] using h1⟩
  case round =>
    obtain ⟨i, hil, rfl, hst⟩ := hrel
    rcases Nat.lt_or_ge i l.length with hlt | hge
    · have hc : l[i]? = some l[i] := List.getElem?_eq_getElem hlt
      have hco := hok l[i] (List.getElem_mem hlt)
      have hml := manyL_le (l.take i)
      have hwt := wtL_step hc
      have hms := manyL_step hc
      rw [List.length_take, Nat.min_eq_left hil] at hml
      obtain ⟨b, off, rfl, hld⟩ := (hs.below hst.below (Nat.le_refl _)).ten hc
      generalize l[i] = c at *
      have Hms : Hid _ := hms
      have Hko : Hid c.key.Ok := hco.key
      have Hvo : Hid c.ver.Ok := hco.ver
      unfold wtC at hwt
      clear hms hc hs hok hco
      obtain ⟨⟨table, part, row, col⟩, ⟨time, dead, loc, kind, num, s⟩⟩ := c
      simp only at hwt
      obtain ⟨k0, k1, k2, k3, k4, k5, k6, k7, k8, k9⟩ := hld
      simp only at k0 k1 k2 k3 k4 k5 k6 k7 k8 k9
      have hx0 : (numL l.length ++ manyL (l.take i)).length ≤ wtL (l.take i) + 81 * i + 10 := by rw [List.length_append]; omega
      generalize hXS : numL l.length ++ manyL (l.take i) = xs at *
      have HXS : Hid _ := hXS
      have t1 := txtL_le table
      have t2 := txtL_le part
      have t3 := txtL_le col
      have t4 := txtL_le s
      have n1 := (numL_length (zigN row)).2
      have n2 := (numL_length (zigN time)).2
      have n3 := (numL_length (zigN loc)).2
      have n4 := (numL_length (kindN kind)).2
      have n5 := (numL_length (zigN num)).2
      have S1 : Hid (StC _ _ _ _ _) := hst.more #[.string table, .string part, .int .i64 row, .string col, .int .i64 time, .bool dead, .int .i64 loc, .int .i64 kind, .int .i64 num, .string s] 67
      clear hXS hst
      go_wp2_with fail
      clear k0 k1 k2 k3 k4 k5 k6 k7 k8 k9
      go_cut [3, 13] from 13 to 70 (fun s3 s13 wx => s13 = .int .i64 i ∧ StC w [(wr.heap.size, #[.string table, .string part, .int .i64 row, .string col, .int .i64 time, .bool dead, .int .i64 loc, .int .i64 kind, .int .i64 num, .string s], 67)] wx s3 (xs ++ txtL (strL table) ++ txtL (strL part)))
      case first =>
        go_region_with (first
          | (go_at_call 68; have S2' := S2; refine Calls.mono (refPutTextSt (by exact S2'.like rfl rfl rfl rfl) part (by rw [List.length_append]; omega)) ?_; rintro e w3 ⟨v3, rfl, S3⟩)
          | (go_at_call 68; refine Calls.mono (refPutTextSt (by exact S1.out.like rfl rfl rfl rfl) table (by omega)) ?_; rintro e w2 ⟨v2, rfl, S2⟩; have d1 := S2.b1.cell 1))
        all_goals
          go_wp2_with fail
          go_meet
          case rel => exact ⟨rfl, S3⟩
      case rest =>
        obtain ⟨rfl, S3⟩ := hcut
        have q2 := S3.b1.cell 2
        have q3 := S3.b1.cell 3
        go_upto_region 6 with fail
        go_cut [3, 13] from 13 to 70 (fun s3 s13 wx => s13 = .int .i64 i ∧ StC w [(wr.heap.size, #[.string table, .string part, .int .i64 row, .string col, .int .i64 time, .bool dead, .int .i64 loc, .int .i64 kind, .int .i64 num, .string s], 67)] wx s3 (xs ++ txtL (strL table) ++ txtL (strL part) ++ numL (zigN row) ++ txtL (strL col)))
        case first =>
          go_region_with (first
            | (go_at_call 69; go_must (refine Calls.mono (refZig_nat row _ Hko.out.row) ?_; rintro e w4' ⟨rfl, rfl⟩))
            | (go_at_call 68; go_must (refine Calls.mono (refPutTextSt (by exact S4.like rfl rfl rfl rfl) col (by simp only [List.length_append]; omega)) ?_; rintro e w5 ⟨v5, rfl, S5⟩))
            | (go_at_call 67; go_must (refine Calls.mono (refPutSt (by exact S3.like rfl rfl rfl rfl) (zigN row) (zigN_eq Hko.out.row).2 (by simp only [List.length_append]; omega)) ?_; rintro e w4 ⟨v4, rfl, S4⟩; have d3 := S4.b1.cell 3)))
          all_goals
            go_wp2_with fail
            go_meet
            case rel => exact ⟨rfl, S5⟩
        case rest =>
          obtain ⟨rfl, S5'⟩ := hcut
          obtain ⟨ys, HY, hyl, S5⟩ : ∃ ys, Hid (ys = xs ++ txtL (strL table) ++ txtL (strL part) ++ numL (zigN row) ++ txtL (strL col)) ∧ ys.length ≤ wtL (l.take i) + 81 * i + (table.size + part.size + col.size) + 50 ∧ StC w [(wr.heap.size, #[.string table, .string part, .int .i64 row, .string col, .int .i64 time, .bool dead, .int .i64 loc, .int .i64 kind, .int .i64 num, .string s], 67)] wc u3 ys := ⟨_, (show Hid (_ = _) from rfl), by simp only [List.length_append]; omega, S5'⟩
          clear S5' S3 S1 q2 q3 h1
          have q4 := S5.b1.cell 4
          have q5 := S5.b1.cell 5
          have q6 := S5.b1.cell 6
          have q7 := S5.b1.cell 7
          have q8 := S5.b1.cell 8
          have q9 := S5.b1.cell 9
          have S6 : Hid (StC _ _ _ _ _) := S5.tail.more #[.int .i64 time, .bool dead, .int .i64 loc, .int .i64 kind, .int .i64 num, .string s] 65
          clear S5
          go_wp2_with fail
          refine Calls.mono (refZig_nat time _ Hvo.out.time) ?_
          rintro e w6' ⟨rfl, rfl⟩
          go_wp2_with fail
          refine Calls.mono (refPutSt (by exact S6.out.like rfl rfl rfl rfl) (zigN time) (zigN_eq Hvo.out.time).2 (by omega)) ?_
          rintro e w7 ⟨v7, rfl, S7⟩
          have d1 := S7.b1.cell 1
          have d2 := S7.b1.cell 2
          have d3 := S7.b1.cell 3
          have d4 := S7.b1.cell 4
          have d5 := S7.b1.cell 5
          have ho7 := S7.own
          have hlt7 : wc.heap.size < w7.heap.size := S7.b1.lt
          have hb7 := S7.below.size
          have hl7 : (ys ++ numL (zigN time)).length ≤ wtL (l.take i) + 81 * i + (table.size + part.size + col.size) + 60 := by rw [List.length_append]; omega
          clear q4 q5 q6 q7 q8 q9 S6
          cases dead
          · go_wp2_with fail
            go_cut [3, 13] from 13 to 70 (fun s3 s13 wx => s13 = .int .i64 i ∧ StC w [(wc.heap.size, #[.int .i64 time, .bool false, .int .i64 loc, .int .i64 kind, .int .i64 num, .string s], 65)] wx s3 (ys ++ numL (zigN time) ++ [0] ++ numL (kindN kind)))
            case first =>
              go_region_law (first
                | (refine step_append_grew rfl (.tmp 52) (.tmp 53) 23 23 rfl w.heap.size 5 i0 (.int .u8 0) 1 1 Tryz.underlying23 hi hz0 hz1 hz2 rfl _ _ _ rfl (by exact ho7.alloc _) _ 1 (B8 [0]) rfl (src_head 0 (by simp [go_sem])) (by unfold maxLen; omega) (by omega) (by simp; omega) ?_; intro v8 w8 ho8 hg8; rw [← B8_append] at ho8; have S8 := S7.put ho8 (Grew.alloc (w := w7) (o := .cells #[.int .u8 0] 5) (hg8.like rfl rfl rfl rfl)); have e3 := S8.b1.cell 3)
                | (go_simp; go_at_call 67; rw [kind_wrap]; refine Calls.mono (refPutSt (by exact S8.like rfl rfl rfl rfl) (kindN kind) (kindN_lt _) (by rw [List.length_append]; simp; omega)) ?_; rintro e w9 ⟨v9, rfl, S9⟩))
              all_goals
                clear ho8 hg8
                go_wp2_with fail
                go_meet
                case rel => exact ⟨rfl, S9⟩
            case rest =>
              obtain ⟨rfl, S9⟩ := hcut
              clear d1 d2 d3 d4 d5 ho7 S7
              have e4 := S9.b1.cell 4
              have e5 := S9.b1.cell 5
              go_wp2_with fail
              go_region_with (first
                | (go_at_call 69; go_must (refine Calls.mono (refZig_nat num _ Hvo.out.val.num) ?_; rintro e w4' ⟨rfl, rfl⟩))
                | (go_at_call 68; go_must (refine Calls.mono (refPutTextSt (by exact S4.like rfl rfl rfl rfl) s (by simp only [List.length_append, List.length_cons, List.length_nil]; omega)) ?_; rintro e w5 ⟨v5, rfl, S10⟩))
                | (go_at_call 67; go_must (refine Calls.mono (refPutSt (by exact S9.like rfl rfl rfl rfl) (zigN num) (zigN_eq Hvo.out.val.num).2 (by simp only [List.length_append, List.length_cons, List.length_nil]; omega)) ?_; rintro e w4 ⟨v4, rfl, S4⟩; have f5 := S4.b1.cell 5)))
              all_goals
                clear e4 e5
                go_wp2
                go_roundw
                case rel =>
                  refine ⟨i + 1, by omega, by go_num, ?_⟩
                  rw [Hms.out]
                  rw [HY.out, ← HXS.out] at S10
                  simpa [cellL, keyL, verL, valL, List.append_assoc] using S10.tail
                case measure => simp [intOf]; omega
          · go_wp2_with fail
            go_region_law (first
              | (refine step_append_grew rfl (.tmp 45) (.tmp 46) 23 23 rfl w.heap.size 5 i0 (.int .u8 0) 1 1 Tryz.underlying23 hi hz0 hz1 hz2 rfl _ _ _ rfl (by exact ho7.alloc _) _ 1 (B8 [1]) rfl (src_head 1 (by simp [go_sem])) (by unfold maxLen; omega) (by omega) (by simp; omega) ?_; intro v8 w8 ho8 hg8; rw [← B8_append] at ho8; have S8 := S7.put ho8 (Grew.alloc (w := w7) (o := .cells #[.int .u8 1] 5) (hg8.like rfl rfl rfl rfl)); have e2 := S8.b1.cell 2)
              | (go_simp; go_at_call 69; refine Calls.mono (refZig_nat loc _ Hvo.out.loc) ?_; rintro e w8' ⟨rfl, rfl⟩)
              | (go_simp; go_at_call 67; refine Calls.mono (refPutSt (by exact S8.like rfl rfl rfl rfl) (zigN loc) (zigN_eq Hvo.out.loc).2 (by rw [List.length_append]; simp; omega)) ?_; rintro e w9 ⟨v9, rfl, S9⟩))
            all_goals
              clear ho8 hg8
              go_wp2
              go_roundw
              case rel =>
                refine ⟨i + 1, by omega, by go_num, ?_⟩
                rw [Hms.out]
                rw [HY.out, ← HXS.out] at S9
                simpa [cellL, keyL, verL, valL, List.append_assoc] using S9.tail
              case measure => simp [intOf]; omega
    · obtain rfl : i = l.length := by omega
      rw [List.take_length] at hst
      clear hs hge hil hok
      go_wp2
      go_ret
      exact ⟨_, rfl, hst.own, hst.below⟩
end Go.Proofs.YtlamncldbnagmaaGreatDoor
namespace Go.Proofs.YtlamncldbnagmaaGreatDoor
open Go.RowKit

set_option maxRecDepth 100000 in
set_option maxHeartbeats 2000000 in
theorem refGoodX_any (c : Cx) (w : World) (h1 : c.k.t.size ≤ maxLen) (h2 : c.k.p.size ≤ maxLen) (h3 : c.k.c.size ≤ maxLen) (h4 : c.v.s.size ≤ maxLen) :
    Calls Tryz.prog 33 #[c.val] w fun x w' => x = .returned (.bool (goodC c)) ∧ Below w.heap.size w w' := by
  have hs' : (c.v.s.size : Int) ≤ 9223372036854775807 := by unfold maxLen at h4; omega
  have G : Hid (∀ w : World, Calls Tryz.prog 66 #[c.k.v] w fun e w' => e = .returned (.bool (goodK c.k.ky)) ∧ Below w.heap.size w w') := fun w => refGood_any c.k w h1 h2 h3
  have tn := TenX.new w c 67
  have hB0 : Below w.heap.size w (w.alloc (.cells c.a 67)) := (Below.refl _ _).alloc (Nat.le_refl _) _
  obtain ⟨wa, hwa⟩ : ∃ wa, wa = w.alloc (.cells c.a 67) := ⟨_, rfl⟩
  rw [← hwa] at tn hB0
  have HF : Hid (∀ w1, Below wa.heap.size wa w1 → TenX w1 w.heap.size 0 c ∧ TenX (w1.alloc (.cells c.v.a 65)) w.heap.size 0 c ∧ Below w.heap.size w w1 ∧ Below w.heap.size w (w1.alloc (.cells c.v.a 65))) := fun w1 h =>
    ⟨tn.below h tn.lt, (tn.below h tn.lt).alloc _, hB0.trans (h.mono hB0.size), (hB0.trans (h.mono hB0.size)).alloc (Nat.le_trans hB0.size h.size) _⟩
  have e1 := ba_isEmpty c.k.c
  have e2 := ba_isEmpty c.v.s
  have hg : Hid (goodC c = (goodK c.k.ky && goodV (decide (c.k.c.size = 0)) c.v)) := rfl
  have hd : Hid (c.v.dead = true → goodV (decide (c.k.c.size = 0)) c.v = (c.v.kind == 0 && (c.v.num == 0 && decide (c.v.s.size = 0)))) := goodV_dead
  have hl : Hid (c.v.dead = false → goodV (decide (c.k.c.size = 0)) c.v = (c.v.loc == 0 && goodU (decide (c.k.c.size = 0)) c.v.kind c.v.num c.v.s)) := goodV_live
  generalize goodC c = R at *
  generalize goodV (decide (c.k.c.size = 0)) c.v = V at *
  generalize goodK c.k.ky = K at *
  clear tn hB0 h1 h2 h3 h4
  obtain ⟨⟨kt, kp, kr, kcol⟩, ⟨t1, d1, l1, k1, n1, s1⟩⟩ := c
  simp only [Cx.val, Cx.a, Vr.a, Kb.v] at *
  go_enter Tryz.func33, Tryz.ntmps33
  go_wp2_with fail
  rw [← hwa]
  clear hwa
  refine (G.out _).mono ?_
  rintro x w1 ⟨rfl, hb1⟩
  obtain ⟨⟨x0, x1, x2, x3, x4, x5, x6, x7, x8, x9⟩, ⟨-, -, -, y3, -, -, -, -, -, -⟩, hB, hB2⟩ := HF.out w1 hb1
  have HB : Hid (Below w.heap.size w w1) := hB
  have HB2 : Hid (Below w.heap.size w (w1.alloc (.cells #[.int .i64 t1, .bool d1, .int .i64 l1, .int .i64 k1, .int .i64 n1, .string s1] 65))) := hB2
  simp only [Nat.zero_add] at x0 x1 x2 x3 x4 x5 x6 x7 x8 x9 y3
  clear hB hB2 hb1 HF
  cases K
  · have hR : Hid (R = false) := hg.out
    clear hg
    go_wp2_with fail
    go_ret
    exact ⟨ret_bool hR.out.symm, HB.out⟩
  · cases d1
    · have hR : Hid (R = (l1 == 0 && goodU (decide (kcol.size = 0)) k1 n1 s1)) := hg.out.trans (hl.out rfl)
      clear hg hd hl
      by_cases hz : l1 = 0
      · subst hz
        by_cases hc : kcol.size = 0
        · simp only [hc, decide_true] at e1 hR
          by_cases h1 : k1 = 0
          · subst h1
            by_cases h2 : n1 = 0
            · subst h2
              by_cases h3 : s1.size = 0
              · simp only [h3, decide_true] at e2
                go_wp2_with fail
                go_ret
                exact ⟨ret_bool (by rw [hR.out]; simp [goodU, h3]), HB2.out⟩
              · simp only [h3, decide_false] at e2
                go_wp2_with fail
                go_ret
                exact ⟨ret_bool (by rw [hR.out]; simp [goodU, h3]), HB2.out⟩
            · go_wp2_with fail
              go_ret
              exact ⟨ret_bool (by rw [hR.out]; simp [goodU, h2]), HB2.out⟩
          · have h1b : (k1 == 0) = false := beq_false_of_ne h1
            go_wp2_with fail
            go_ret
            exact ⟨ret_bool (by rw [hR.out]; simp [goodU, h1]), HB2.out⟩
        · simp only [hc, decide_false] at e1 hR
          by_cases h1 : k1 = 0
          · subst h1
            go_wp2_with fail
            go_ret
            exact ⟨ret_bool (by rw [hR.out]; simp [goodU]), HB2.out⟩
          · have h1b : (k1 == 0) = false := beq_false_of_ne h1
            by_cases h2 : k1 = 1
            · subst h2
              go_wp2_with fail
              go_ret
              exact ⟨ret_bool (by rw [hR.out]; simp [goodU]), HB2.out⟩
            · have h2b : (k1 == 1) = false := beq_false_of_ne h2
              by_cases h3 : k1 = 2
              · subst h3
                by_cases h4 : n1 = 0
                · subst h4
                  go_wp2_with fail
                  go_ret
                  exact ⟨ret_bool (by rw [hR.out]; simp [goodU]; omega), HB2.out⟩
                · go_wp2_with fail
                  go_ret
                  exact ⟨ret_bool (by rw [hR.out]; simp [goodU, h4]), HB2.out⟩
              · have h3b : (k1 == 2) = false := beq_false_of_ne h3
                go_wp2_with fail
                go_ret
                exact ⟨ret_bool (by rw [hR.out]; simp [goodU, h2, h3]), HB2.out⟩
      · have hR' : Hid (R = false) := hR.out.trans (by rw [beq_false_of_ne hz]; rfl)
        clear hR
        go_wp2_with fail
        go_ret
        exact ⟨ret_bool hR'.out.symm, HB2.out⟩
    · have hR : Hid (R = (k1 == 0 && (n1 == 0 && decide (s1.size = 0)))) := hg.out.trans (hd.out rfl)
      clear hg hd hl
      by_cases h1 : k1 = 0 <;> by_cases h2 : n1 = 0 <;> by_cases h3 : s1.size = 0 <;> (simp only [h3, decide_true, decide_false] at e2; go_wp2_with fail; go_ret; exact ⟨ret_bool (by rw [hR.out]; simp [h1, h2, h3]), HB.out.alloc HB.out.size _⟩)
end Go.Proofs.YtlamncldbnagmaaGreatDoor
namespace Go.Proofs.YtlamncldbnagmaaGreatDoor
open Go.RowKit

/-- What the document's Record tells. -/
def rrB (l : List Cx) : List UInt8 := if recB l then recL l else []
def rrE (l : List Cx) : Int := if recB l then 0 else 2
set_option maxRecDepth 100000 in
set_option maxHeartbeats 2000000 in
theorem refRecord_any (ao : Option Addr) (l : List Cx) (cap : Nat) (w : World) (hs : XSees w ao l) (hl : l.length ≤ 140737488355328) (hc : ∀ c ∈ l, CxMax c) (hn : ∀ c ∈ l, c.Nums) :
    Calls Tryz.prog 9 #[.slice ao l.length cap] w fun e w' => ∃ v, e = .returned (.tuple #[v, .int .i64 (rrE l)]) ∧ w'.ownsRow w.heap.size 5 1 v (rrB l).length (B8 (rrB l)) ∧ Below w.heap.size w w' := by
  have hlz : (l.length : Int) ≤ 140737488355328 := by omega
  by_cases hk : 0 < l.length ∧ l.length ≤ 400
  · have GD : Hid (∀ (u : World) (c : Cx), c ∈ l → Calls Tryz.prog 33 #[c.val] u fun x w' => x = .returned (.bool (goodC c)) ∧ Below u.heap.size u w') := fun u c hcm => refGoodX_any c u (hc c hcm).1 (hc c hcm).2.1 (hc c hcm).2.2.1 (hc c hcm).2.2.2
    have HB : Hid (∀ i c, l[i]? = some c → goodC c = false → rrE l = 2 ∧ rrB l = []) := fun i c hi hg => by
      have : recB l = false := by
        unfold recB
        have h2 : l.all goodC = false := List.all_eq_false.2 ⟨c, List.mem_of_getElem? hi, by rw [hg]; decide⟩
        rw [h2, Bool.and_false]
      unfold rrE rrB
      rw [this]
      exact ⟨rfl, rfl⟩
    have HA : Hid ((∀ c ∈ l, goodC c = true) → recB l = true) := fun h => by
      unfold recB
      rw [decide_eq_true hk, List.all_eq_true.2 h]; rfl
    have CC : Hid (recB l = true → ∀ u, Below w.heap.size w u → Calls Tryz.prog 34 #[.slice ao l.length cap] u fun e w' => ∃ bo c, e = .returned (.slice bo (cellsL (l.map toC)).length c) ∧ Sees w' bo (cellsL (l.map toC)) ∧ (bo = none → (cellsL (l.map toC)).length = 0) ∧ Below u.heap.size u w') := fun hr u hu => by
      have hsm : ∀ c ∈ l, SmallX c := fun c hcm => good_small ((recB_good hr).2 c hcm)
      have hw : wtL (l.map toC) ≤ 160 * l.length := by
        have h1 : ∀ (m : List Cx), (∀ c ∈ m, SmallX c) → wtL (m.map toC) ≤ 160 * m.length := by
          intro m
          induction m with
          | nil => intro _; simp [wtL]
          | cons c m ih =>
            intro h
            have h2 := ih fun x hx => h x (List.mem_cons_of_mem _ hx)
            have h3 := h c (List.mem_cons_self ..)
            have a1 := h3.t
            have a2 := h3.p
            have a3 := h3.c
            have a4 := h3.s
            unfold wtL at h2 ⊢
            simp only [List.map_cons, List.sum_cons, List.length_cons]
            have : wtC (toC c) ≤ 160 := by unfold wtC toC; show c.k.t.size + c.k.p.size + c.k.c.size + c.v.s.size ≤ 160; omega
            omega
        exact h1 l hsm
      have := refCells_any ao (l.map toC) cap u (hs.below hu (Nat.le_refl _)).c (fun c hcm => by obtain ⟨x, hx, rfl⟩ := List.mem_map.1 hcm; exact (hn x hx).ok) (by rw [List.length_map]; omega)
      rw [List.length_map] at this
      refine this.mono fun e w' ⟨v, he, ho, hB⟩ => ?_
      obtain ⟨bo, c, rfl, h1, h2, h3⟩ := owns_sees ho
      exact ⟨bo, c, he, h1, fun e => (h3 e).1, hB⟩
    have CF : Hid (recB l = true → ∀ u bo c, Sees u bo (cellsL (l.map toC)) → (bo = none → (cellsL (l.map toC)).length = 0) → Calls Tryz.prog 35 #[.slice bo (cellsL (l.map toC)).length c] u fun e w' => ∃ v', e = .returned v' ∧ w'.ownsRow u.heap.size 5 1 v' (rrB l).length (B8 (rrB l)) ∧ Below u.heap.size u w') := fun hr u bo c h1 h2 => by
      have := refFrame_any bo (cellsL (l.map toC)) c u (rec_bytes hr) h1 h2
      have e : rrB l = frameL (cellsL (l.map toC)) := by unfold rrB; rw [if_pos hr]; rfl
      rw [e, frameL_length]
      exact this
    have HE : Hid (recB l = true → rrE l = 0) := fun hr => by unfold rrE; rw [if_pos hr]
    have HL : Hid (recB l = true → (cellsL (l.map toC)).length ≤ 262144) := fun hr => rec_bytes hr
    have HS : Hid (XSees w ao l) := hs
    have h1 : ¬ (l.length : Int) < 1 := by omega
    have h2 : ¬ (400 : Int) < (l.length : Int) := by omega
    have hl4 : l.length ≤ 400 := hk.2
    generalize cellsL (l.map toC) = CB at *
    generalize rrB l = RB at *
    generalize rrE l = RE at *
    clear hs hc hn hk
    go_enter Tryz.func9, Tryz.ntmps9
    go_wp2_with fail
    go_loopw [17] (fun s17 wr => ∃ i : Nat, i ≤ l.length ∧ s17 = .int .i64 (i : Int) ∧ (∀ c ∈ l.take i, goodC c = true) ∧ Below w.heap.size w wr) (fun s17 _ => l.length - (intOf s17).toNat)
    case atStart => exact ⟨0, by omega, rfl, by simp, Below.refl _ _⟩
    case round =>
      obtain ⟨i, hi, rfl, hg, hbr⟩ := hrel
      have HG : Hid (∀ c ∈ l.take i, goodC c = true) := hg
      clear hg
      rcases Nat.lt_or_ge i l.length with hlt | hge
      · have hcc : l[i]? = some l[i] := List.getElem?_eq_getElem hlt
        have HC : Hid (l[i]? = some l[i]) := hcc
        have HT : Hid (l.take (i + 1) = l.take i ++ [l[i]]) := takeX_succ hcc
        obtain ⟨b, off, rfl, x1⟩ := (HS.out.below hbr (Nat.le_refl _)) i _ hcc
        have hltz : (i : Int) < (l.length : Int) := by omega
        have G := GD.out (wr.alloc (.cells l[i].a 67)) l[i] (List.getElem_mem hlt)
        have hb2 : Below w.heap.size w (wr.alloc (.cells l[i].a 67)) := hbr.alloc hbr.size _
        have tn := TenX.new wr l[i] 67
        generalize l[i] = c at *
        clear hcc GD
        have G2 : Hid (Calls Tryz.prog 33 #[c.val] (wr.alloc (.cells c.a 67)) fun x w' => x = .returned (.bool (goodC c)) ∧ Below (wr.alloc (.cells c.a 67)).heap.size (wr.alloc (.cells c.a 67)) w') := G
        clear G
        cases hgc : goodC c
        · rw [hgc] at G2
          obtain ⟨e1, e2⟩ := HB.out i c HC.out hgc
          subst e1
          subst e2
          obtain ⟨⟨ct, cp, cr, cc⟩, ⟨cti, cd, cl, ck, cn, cstr⟩⟩ := c
          obtain ⟨k0, k1, k2, k3, k4, k5, k6, k7, k8, k9⟩ := x1
          obtain ⟨m0, m1, m2, m3, m4, m5, m6, m7, m8, m9⟩ := tn
          simp only [Cx.val, Cx.a, Nat.zero_add] at k0 k1 k2 k3 k4 k5 k6 k7 k8 k9 m0 m1 m2 m3 m4 m5 m6 m7 m8 m9 G2 hb2
          clear HC HT HB HA CC CF HE HL HG hgc
          go_wp2_with fail
          go_fit G2.out
          rintro e w1 ⟨rfl, hb1⟩
          go_wp2_with fail
          go_ret2
          exact ⟨_, rfl, World.ownsRow_nil _ _ _ _, hb2.trans (hb1.mono hb2.size)⟩
        · rw [hgc] at G2
          have HGC : Hid (goodC c = true) := hgc
          clear hgc
          have HN : Hid (∀ x ∈ l.take (i + 1), goodC x = true) := fun x hx => by
            rw [HT.out, List.mem_append, List.mem_singleton] at hx
            rcases hx with h | rfl
            · exact HG.out x h
            · exact HGC.out
          clear HC HT HB HA CC CF HE HL HG HGC
          obtain ⟨⟨ct, cp, cr, cc⟩, ⟨cti, cd, cl, ck, cn, cstr⟩⟩ := c
          obtain ⟨k0, k1, k2, k3, k4, k5, k6, k7, k8, k9⟩ := x1
          obtain ⟨m0, m1, m2, m3, m4, m5, m6, m7, m8, m9⟩ := tn
          simp only [Cx.val, Cx.a, Nat.zero_add] at k0 k1 k2 k3 k4 k5 k6 k7 k8 k9 m0 m1 m2 m3 m4 m5 m6 m7 m8 m9 G2 hb2
          go_wp2_with fail
          go_fit G2.out
          rintro e w1 ⟨rfl, hb1⟩
          go_wp2_with fail
          go_roundw
          case rel => exact ⟨i + 1, by omega, by go_num, HN.out, hb2.trans (hb1.mono hb2.size)⟩
          case measure => (simp [intOf]; try omega)
      · obtain rfl : i = l.length := by omega
        have hr := HA.out fun c hc => HG.out c (by rw [List.take_length]; exact hc)
        have C1 := CC.out hr wr hbr
        have C2 := CF.out hr
        have hE := HE.out hr
        have hCl := HL.out hr
        subst hE
        have H2 : Hid (∀ u bo c, Sees u bo CB → (bo = none → CB.length = 0) → Calls Tryz.prog 35 #[.slice bo CB.length c] u fun e w' => ∃ v', e = .returned v' ∧ w'.ownsRow u.heap.size 5 1 v' RB.length (B8 RB) ∧ Below u.heap.size u w') := C2
        have H1 : Hid (Calls Tryz.prog 34 #[.slice ao l.length cap] wr fun e w' => ∃ bo c, e = .returned (.slice bo CB.length c) ∧ Sees w' bo CB ∧ (bo = none → CB.length = 0) ∧ Below wr.heap.size wr w') := C1
        have hq : ¬ (262144 : Int) < (CB.length : Int) := by omega
        clear HA HG HB CC CF HE HL C1 C2 GD hr
        go_wp2_with fail
        go_fit H1.out
        rintro e w1 ⟨bo, c1, rfl, hs1, hn1, hB1⟩
        have C3 : Hid (Calls Tryz.prog 35 #[.slice bo CB.length c1] w1 fun e w' => ∃ v', e = .returned v' ∧ w'.ownsRow w1.heap.size 5 1 v' RB.length (B8 RB) ∧ Below w1.heap.size w1 w') := H2.out w1 bo c1 hs1 hn1
        clear H1 H2 hs1 hn1
        go_wp2_with fail
        go_fit C3.out
        rintro e w2 ⟨v2, rfl, ho2, hB2⟩
        have h01 := hbr.trans (hB1.mono hbr.size)
        have HF : Hid (w2.ownsRow w.heap.size 5 1 v2 RB.length (B8 RB) ∧ Below w.heap.size w w2) := ⟨owMono ho2 h01.size, h01.trans (hB2.mono h01.size)⟩
        clear C3 ho2 hB2 hB1 h01
        go_wp2_with fail
        go_ret2
        exact ⟨_, rfl, HF.out.1, HF.out.2⟩
  · have hr : recB l = false := by unfold recB; rw [decide_eq_false hk]; rfl
    have e1 : rrE l = 2 := by unfold rrE; rw [hr]; rfl
    have e2 : rrB l = [] := by unfold rrB; rw [hr]; rfl
    rw [e1, e2]
    clear hs hc hn hr e1 e2
    generalize l.length = n at *
    rcases Nat.lt_or_ge n 1 with h | h
    · have h1 : (n : Int) < 1 := by omega
      clear hk
      go_enter Tryz.func9, Tryz.ntmps9
      go_wp2_with fail
      go_ret2
      exact ⟨_, rfl, World.ownsRow_nil _ _ _ _, Below.refl _ _⟩
    · have h1 : ¬ (n : Int) < 1 := by omega
      have h2 : (400 : Int) < (n : Int) := by omega
      clear hk
      go_enter Tryz.func9, Tryz.ntmps9
      go_wp2_with fail
      go_ret2
      exact ⟨_, rfl, World.ownsRow_nil _ _ _ _, Below.refl _ _⟩
end Go.Proofs.YtlamncldbnagmaaGreatDoor
namespace Go.Proofs.YtlamncldbnagmaaGreatDoor
open Go.RowKit

/-- The document's reader in block R: lb is left; is it wrong? -/
structure RS (w : World) (R : Nat) (lb : List UInt8) (wr : Bool) : Prop where
  ex : ∃ ao cap, Box w R #[.slice ao lb.length cap, .bool wr] 123 ∧ Sees w ao lb ∧ (ao = none → lb.length = 0) ∧ lb.length ≤ cap ∧ (lb.length ≠ 0 → ∀ a, ao = some a → a.block < R)
  max : lb.length ≤ 1000000000

theorem RS.lt {w : World} {R : Nat} {lb : List UInt8} {wr : Bool} (h : RS w R lb wr) : R < w.heap.size := by
  obtain ⟨ao, cap, hB, _⟩ := h.ex
  exact hB.lt
theorem RS.carry {w w' : World} {R : Nat} {lb : List UInt8} {wr : Bool} (h : RS w R lb wr) (hb : ∀ k, k ≤ R → w'.heap[k]? = w.heap[k]?) : RS w' R lb wr := by
  obtain ⟨ao, cap, hB, hs, hn, hc, ho⟩ := h.ex
  refine ⟨⟨ao, cap, hB.carry (hb R (Nat.le_refl _)), fun i hi => ?_, hn, hc, ho⟩, h.max⟩
  obtain ⟨a, e, hv⟩ := hs i hi
  refine ⟨a, e, ?_⟩
  rw [World.cell?_of_block (hb _ (by rw [Addr.add_block]; exact Nat.le_of_lt (ho (by omega) a e))), hv]
/-- Bytes lie ahead of the reader: a store into it leaves them. -/
theorem sees_setR {w : World} {R i : Nat} {ao : Option Addr} {lb : List UInt8} {v : Value} (hs : Sees w ao lb) (ho : lb.length ≠ 0 → ∀ a, ao = some a → a.block < R) : Sees (w.setCell ⟨R, i, none⟩ v) ao lb := by
  intro j hj
  obtain ⟨a, e, hc⟩ := hs j hj
  refine ⟨a, e, ?_⟩
  rw [World.cell?_setCell_other _ _ _ _ (fun e' => by have h1 := ho (by omega) a e; have h2 := congrArg Addr.block e'; rw [Addr.add_block] at h2; simp at h2; omega), hc]

/-- What reading a number, a text does to what is left. -/
def nS (x : List UInt8 × Bool) : Nat × (List UInt8 × Bool) := match getN 0 0 x.1 with | some (v, r) => (v, (r, x.2)) | none => (0, ([], true))
def tS (x : List UInt8 × Bool) : List UInt8 × (List UInt8 × Bool) := match textN x.1 with | some (s, r) => (s, (r, x.2)) | none => ([], ([], true))
theorem getN_back_drop {l : List UInt8} {v : Nat} {r : List UInt8} (h : getN 0 0 l = some (v, r)) : l.drop (l.length - r.length) = r ∧ r.length < l.length := ⟨getN_drop h, (get_bd h).2⟩
theorem textN_drop {l s r : List UInt8} (h : textN l = some (s, r)) : l.drop (l.length - r.length) = r ∧ r.length < l.length := by
  obtain ⟨v, r1, h1, h2, h3, h4⟩ := textN_some h
  have h5 := getN_drop h1
  have h6 := (get_bd h1).2
  have h7 : r.length = r1.length - v := by rw [← h4, List.length_drop]
  refine ⟨?_, by omega⟩
  rw [← h4]
  conv => rhs; rw [← h5]
  rw [List.drop_drop]
  congr 1
  rw [List.length_drop]
  omega

/-- A reader that goes n bytes on. -/
theorem RS.on {w : World} {R n cap : Nat} {b off : Nat} {lb r : List UInt8} {wr : Bool} (hB : Box w R #[.slice (some ⟨b, off, none⟩) lb.length cap, .bool wr] 123) (hs : Sees w (some ⟨b, off, none⟩) lb) (hc : lb.length ≤ cap) (ho : lb.length ≠ 0 → ∀ a, some (⟨b, off, none⟩ : Addr) = some a → a.block < R) (hm : lb.length ≤ 1000000000)
    (hd : lb.drop n = r) (hn : n ≤ lb.length) (h0 : lb.length ≠ 0) : RS (w.setCell ⟨R, 0, none⟩ (.slice (some ⟨b, off + n, none⟩) (lb.length - n) (cap - n))) R r wr := by
  have hr : r.length = lb.length - n := by rw [← hd, List.length_drop]
  refine ⟨⟨some ⟨b, off + n, none⟩, cap - n, ?_, ?_, (fun e => by cases e), by omega, fun _ a e => ?_⟩, by omega⟩
  · have := hB.set 0 (.slice (some ⟨b, off + n, none⟩) (lb.length - n) (cap - n))
    rw [hr]
    exact this
  · have h1 := sees_cut hs n (lb.length - n) (by omega)
    rw [List.take_of_length_le (by rw [List.length_drop]; omega), hd] at h1
    refine sees_setR h1 (fun _ a e => ?_)
    obtain rfl := Option.some.inj e
    exact ho h0 ⟨b, off, none⟩ rfl
  · obtain rfl := Option.some.inj e
    exact ho h0 ⟨b, off, none⟩ rfl
/-- .. to its end, where memory ends, too. -/
theorem RS.off {w : World} {R : Nat} {lb : List UInt8} {wr : Bool} {ao ao' : Option Addr} {n cap : Nat} (hB : Box w R #[.slice ao n cap, .bool wr] 123) (hne : lb = []) : RS (w.setCell ⟨R, 0, none⟩ (.slice ao' 0 0)) R lb wr := by
  subst hne
  exact ⟨⟨ao', 0, hB.set 0 _, Sees.nil _ _, fun _ => rfl, Nat.le_refl _, fun h => absurd rfl h⟩, by simp⟩
theorem RS.wrong {w : World} {R : Nat} {wr : Bool} {ao : Option Addr} {n cap : Nat} (hB : Box w R #[.slice ao n cap, .bool wr] 123) : RS ((w.setCell ⟨R, 1, none⟩ (.bool true)).setCell ⟨R, 0, none⟩ (.slice none 0 0)) R [] true :=
  ⟨⟨none, 0, (hB.set 1 _).set 0 _, Sees.nil _ _, fun _ => rfl, Nat.le_refl _, fun h => absurd rfl h⟩, by simp⟩

set_option maxRecDepth 100000 in
set_option maxHeartbeats 800000 in
theorem refNum_any (R : Nat) (lb : List UInt8) (wr : Bool) (w : World) (h : RS w R lb wr) :
    Calls Tryz.prog 75 #[.pointer (some ⟨R, 0, none⟩)] w fun e w' => e = .returned (.int .u64 ((nS (lb, wr)).1 : Int)) ∧ RS w' R (nS (lb, wr)).2.1 (nS (lb, wr)).2.2 ∧ w.grownBy w' (some R) := by
  obtain ⟨ao, cap, hB, hs, hn, hc, ho⟩ := h.ex
  have hm := h.max
  have c0 := hB.cell 0
  have c1 := hB.cell 1
  have f0 := hB.frozen 0
  have f1 := hB.frozen 1
  have Hg : Hid _ := refGet_any ao lb cap w hs (by omega)
  cases hg : getN 0 0 lb with
  | none =>
    have e1 : nS (lb, wr) = (0, ([], true)) := by unfold nS; simp only [hg]
    have e2 : getV lb = 0 := by unfold getV; rw [hg]
    have e3 : getK lb = 0 := by unfold getK; rw [hg]
    rw [e1]
    rw [e2, e3] at Hg
    clear e1 e2 e3 hg h hn ho
    go_enter Tryz.func75, Tryz.ntmps75
    go_wp2_with fail
    refine Calls.mono (Hid.out Hg) ?_
    rintro e w1 ⟨rfl, rfl⟩
    go_wp2_with fail
    go_ret
    exact ⟨rfl, RS.wrong hB, grownBy_setCell (grownBy_setCell (World.grownBy.refl _ _))⟩
  | some x =>
    obtain ⟨v, r⟩ := x
    have e1 : nS (lb, wr) = (v, (r, wr)) := by unfold nS; simp only [hg]
    have e2 : getV lb = v := by unfold getV; rw [hg]
    have e3 : getK lb = lb.length - r.length := by unfold getK; rw [hg]
    obtain ⟨hd, hrl⟩ := getN_back_drop hg
    rw [e1]
    rw [e2, e3] at Hg
    obtain ⟨b, off, rfl, _⟩ := sees_at hs (n := 0) (by omega)
    generalize hK : lb.length - r.length = K at *
    have hKI : ((K : Int) == 0) = false := by simp; omega
    have hKl : K ≤ lb.length := by omega
    have hKb : (K : Int) ≤ (lb.length : Int) := by omega
    have hne : lb.length ≠ 0 := by omega
    have Hd : Hid (lb.drop K = r) := hd
    clear e1 e2 e3 hg h hn hd
    go_enter Tryz.func75, Tryz.ntmps75
    go_wp2_with fail
    refine Calls.mono (Hid.out Hg) ?_
    rintro e w1 ⟨rfl, rfl⟩
    by_cases hck : cap = K
    · subst hck
      go_wp2_with fail
      go_ret
      refine ⟨rfl, ?_, grownBy_setCell (World.grownBy.refl _ _)⟩
      have e5 : lb.length - cap = 0 := by omega
      first
        | exact RS.off hB (by rw [← Hd.out]; exact List.drop_eq_nil_of_le (by omega))
        | (rw [e5]; exact RS.off hB (by rw [← Hd.out]; exact List.drop_eq_nil_of_le (by omega)))
    · go_wp2_with fail
      go_ret
      exact ⟨rfl, RS.on hB hs hc ho hm Hd.out hKl hne, grownBy_setCell (World.grownBy.refl _ _)⟩

set_option maxRecDepth 100000 in
set_option maxHeartbeats 800000 in
theorem refTextR_any (R : Nat) (lb : List UInt8) (wr : Bool) (w : World) (h : RS w R lb wr) :
    Calls Tryz.prog 112 #[.pointer (some ⟨R, 0, none⟩)] w fun e w' => e = .returned (.string (bytesOf (tS (lb, wr)).1)) ∧ RS w' R (tS (lb, wr)).2.1 (tS (lb, wr)).2.2 ∧ w.grownBy w' (some R) := by
  obtain ⟨ao, cap, hB, hs, hn, hc, ho⟩ := h.ex
  have hm := h.max
  have c0 := hB.cell 0
  have c1 := hB.cell 1
  have f0 := hB.frozen 0
  have f1 := hB.frozen 1
  have Hg : Hid _ := refGetText_any ao lb cap w hs hc (by omega)
  cases hg : textN lb with
  | none =>
    have e1 : tS (lb, wr) = ([], ([], true)) := by unfold tS; simp only [hg]
    have e2 : txtS lb = [] := by unfold txtS; rw [hg]
    have e3 : txtK lb = 0 := by unfold txtK; rw [hg]
    rw [e1]
    rw [e2, e3] at Hg
    clear e1 e2 e3 hg h hn ho
    go_enter Tryz.func112, Tryz.ntmps112
    go_wp2_with fail
    refine Calls.mono (Hid.out Hg) ?_
    rintro e w1 ⟨rfl, rfl⟩
    go_wp2_with fail
    go_ret
    exact ⟨rfl, RS.wrong hB, grownBy_setCell (grownBy_setCell (World.grownBy.refl _ _))⟩
  | some x =>
    obtain ⟨v, r⟩ := x
    have e1 : tS (lb, wr) = (v, (r, wr)) := by unfold tS; simp only [hg]
    have e2 : txtS lb = v := by unfold txtS; rw [hg]
    have e3 : txtK lb = lb.length - r.length := by unfold txtK; rw [hg]
    obtain ⟨hd, hrl⟩ := textN_drop hg
    rw [e1]
    rw [e2, e3] at Hg
    obtain ⟨b, off, rfl, _⟩ := sees_at hs (n := 0) (by omega)
    generalize hK : lb.length - r.length = K at *
    have hKI : ((K : Int) == 0) = false := by simp; omega
    have hKl : K ≤ lb.length := by omega
    have hKb : (K : Int) ≤ (lb.length : Int) := by omega
    have hne : lb.length ≠ 0 := by omega
    have Hd : Hid (lb.drop K = r) := hd
    clear e1 e2 e3 hg h hn hd
    go_enter Tryz.func112, Tryz.ntmps112
    go_wp2_with fail
    refine Calls.mono (Hid.out Hg) ?_
    rintro e w1 ⟨rfl, rfl⟩
    by_cases hck : cap = K
    · subst hck
      go_wp2_with fail
      go_ret
      refine ⟨rfl, ?_, grownBy_setCell (World.grownBy.refl _ _)⟩
      have e5 : lb.length - cap = 0 := by omega
      first
        | exact RS.off hB (by rw [← Hd.out]; exact List.drop_eq_nil_of_le (by omega))
        | (rw [e5]; exact RS.off hB (by rw [← Hd.out]; exact List.drop_eq_nil_of_le (by omega)))
    · go_wp2_with fail
      go_ret
      exact ⟨rfl, RS.on hB hs hc ho hm Hd.out hKl hne, grownBy_setCell (World.grownBy.refl _ _)⟩
end Go.Proofs.YtlamncldbnagmaaGreatDoor
namespace Go.Proofs.YtlamncldbnagmaaGreatDoor
open Go.RowKit

/-- Inside a method: two blocks of its own are laid; what it knows of them. -/
structure MidR (w wr : World) (R : Nat) (lb : List UInt8) (g : Bool) (t : TypeId) (zero cs : Array Value) : Prop where
  rs : RS wr R lb g
  grown : w.grownBy wr (some R)
  res : Box wr w.heap.size zero t
  box : Box wr (w.heap.size + 1) cs t
section
variable {w wr : World} {R : Nat} {lb : List UInt8} {g : Bool} {t : TypeId} {zero cs : Array Value}
theorem MidR.start (h : RS w R lb g) (t : TypeId) (zero : Array Value) : MidR w ((w.alloc (.cells zero t)).alloc (.cells zero t)) R lb g t zero zero := by
  have e : ∀ k, k < w.heap.size → ((w.alloc (.cells zero t)).alloc (.cells zero t)).heap[k]? = w.heap[k]? := fun k hk => by
    rw [Below.heap_alloc _ _ _ (by rw [World.size_alloc]; omega), Below.heap_alloc _ _ _ hk]
  have hR := h.lt
  refine ⟨h.carry (fun k hk => e k (by omega)), ⟨rfl, rfl, rfl, by rw [World.size_alloc, World.size_alloc]; omega, fun k hk _ => e k hk⟩, (Box.new w zero t).alloc _, ?_⟩
  have := Box.new (w.alloc (.cells zero t)) zero t
  rwa [World.size_alloc] at this
theorem MidR.call {w' : World} {lb' : List UInt8} {g' : Bool} (h : MidR w wr R lb g t zero cs) (hR : R < w.heap.size) (hr : RS w' R lb' g') (hg : wr.grownBy w' (some R)) : MidR w w' R lb' g' t zero cs :=
  ⟨hr, grownBy_trans h.grown hg, h.res.grown hg (by omega), h.box.grown hg (by omega)⟩
theorem MidR.set (h : MidR w wr R lb g t zero cs) (hR : R < w.heap.size) (i : Nat) (v : Value) : MidR w (wr.setCell ⟨w.heap.size + 1, i, none⟩ v) R lb g t zero (cs.setIfInBounds i v) :=
  ⟨h.rs.carry (fun k hk => Below.heap_setCell _ _ _ _ (by simp; omega)), grownBy_setNew h.grown (by simp), h.res.setOther _ (by simp), h.box.set i v⟩
theorem MidR.put (h : MidR w wr R lb g t zero cs) (hR : R < w.heap.size) (i : Nat) (v : Value) : MidR w (wr.setCell ⟨w.heap.size, i, none⟩ v) R lb g t (zero.setIfInBounds i v) cs :=
  ⟨h.rs.carry (fun k hk => Below.heap_setCell _ _ _ _ (by simp; omega)), grownBy_setNew h.grown (by simp), h.res.set i v, h.box.setOther _ (by simp)⟩
/-- A store into the reader. -/
theorem MidR.turn {lb' : List UInt8} {g' : Bool} {i : Nat} {v : Value} (h : MidR w wr R lb g t zero cs) (hR : R < w.heap.size) (hr : RS (wr.setCell ⟨R, i, none⟩ v) R lb' g') : MidR w (wr.setCell ⟨R, i, none⟩ v) R lb' g' t zero cs :=
  ⟨hr, grownBy_setCell h.grown, h.res.setOther _ (by simp; omega), h.box.setOther _ (by simp; omega)⟩
end
theorem RS.bad {w : World} {R : Nat} {lb : List UInt8} {wr : Bool} (h : RS w R lb wr) : RS (w.setCell ⟨R, 1, none⟩ (.bool true)) R lb true := by
  obtain ⟨ao, cap, hB, hs, hn, hc, ho⟩ := h.ex
  exact ⟨⟨ao, cap, hB.set 1 _, sees_setR hs ho, hn, hc, ho⟩, h.max⟩

theorem nS_lt (x : List UInt8 × Bool) : (nS x).1 < 18446744073709551616 := by
  unfold nS
  split
  · rename_i v r h
    exact (get_bd h).1
  · decide
theorem nS_false {x : List UInt8 × Bool} {v : Nat} {r : List UInt8} (h : nS x = (v, (r, false))) : x.2 = false ∧ getN 0 0 x.1 = some (v, r) := by
  unfold nS at h
  split at h
  · rename_i v' r' h'
    simp only [Prod.mk.injEq] at h
    obtain ⟨rfl, rfl, h3⟩ := h
    exact ⟨h3, h'⟩
  · simp at h
theorem nS_true {x : List UInt8 × Bool} {v : Nat} {r : List UInt8} (h : nS x = (v, (r, true))) : (x.2 = true ∨ getN 0 0 x.1 = none) ∧ (x.2 = true → x.1 = [] → r = []) ∧ (x.2 = false → r = []) := by
  unfold nS at h
  split at h
  · rename_i v' r' h'
    simp only [Prod.mk.injEq] at h
    obtain ⟨rfl, rfl, h3⟩ := h
    refine ⟨.inl h3, fun _ h5 => ?_, fun h5 => by rw [h5] at h3; cases h3⟩
    rw [h5] at h'
    simp [getN] at h'
  · rename_i h'
    simp only [Prod.mk.injEq] at h
    exact ⟨.inr h', fun _ _ => h.2.1.symm, fun _ => h.2.1.symm⟩
theorem tS_false {x : List UInt8 × Bool} {v r : List UInt8} (h : tS x = (v, (r, false))) : x.2 = false ∧ textN x.1 = some (v, r) := by
  unfold tS at h
  split at h
  · rename_i v' r' h'
    simp only [Prod.mk.injEq] at h
    obtain ⟨rfl, rfl, h3⟩ := h
    exact ⟨h3, h'⟩
  · simp at h
theorem tS_true {x : List UInt8 × Bool} {v r : List UInt8} (h : tS x = (v, (r, true))) : (x.2 = true ∨ textN x.1 = none) ∧ (x.2 = true → x.1 = [] → r = []) ∧ (x.2 = false → r = []) := by
  unfold tS at h
  split at h
  · rename_i v' r' h'
    simp only [Prod.mk.injEq] at h
    obtain ⟨rfl, rfl, h3⟩ := h
    refine ⟨.inl h3, fun _ h5 => ?_, fun h5 => by rw [h5] at h3; cases h3⟩
    rw [h5] at h'
    simp [textN, getN] at h'
  · rename_i h'
    simp only [Prod.mk.injEq] at h
    exact ⟨.inr h', fun _ _ => h.2.1.symm, fun _ => h.2.1.symm⟩

/-- The head of a cell: its key and its time. -/
def headN (lb : List UInt8) : Option ((KeyV × Int) × List UInt8) := match keyN lb with | none => none | some (k, r) => match signN r with | none => none | some (t, r') => some ((k, t), r')
theorem head_of {lb : List UInt8} {s1 s2 s4 lb1 lb2 lb3 lb4 lb5 : List UInt8} {n3 n5 : Nat} {g1 g2 g3 g4 g5 : Bool} (h1 : tS (lb, false) = (s1, (lb1, g1))) (h2 : tS (lb1, g1) = (s2, (lb2, g2))) (h3 : nS (lb2, g2) = (n3, (lb3, g3))) (h4 : tS (lb3, g3) = (s4, (lb4, g4))) (h5 : nS (lb4, g4) = (n5, (lb5, g5))) :
    (g5 = false ∧ headN lb = some ((⟨bytesOf s1, bytesOf s2, zagZ n3, bytesOf s4⟩, zagZ n5), lb5)) ∨ (g5 = true ∧ lb5 = [] ∧ headN lb = none) := by
  cases g5
  · obtain ⟨e4, f5⟩ := nS_false h5
    simp only at e4 f5
    subst e4
    obtain ⟨e3, f4⟩ := tS_false h4
    simp only at e3 f4
    subst e3
    obtain ⟨e2, f3⟩ := nS_false h3
    simp only at e2 f3
    subst e2
    obtain ⟨e1, f2⟩ := tS_false h2
    simp only at e1 f2
    subst e1
    obtain ⟨_, f1⟩ := tS_false h1
    simp only at f1
    refine .inl ⟨rfl, ?_⟩
    unfold headN keyN signN
    simp only [f1, f2, f3, f4, f5]
  · refine .inr ⟨rfl, ?_⟩
    obtain ⟨a5, b5, c5⟩ := nS_true h5
    simp only at a5 b5 c5
    cases g4
    · refine ⟨c5 rfl, ?_⟩
      obtain ⟨e3, f4⟩ := tS_false h4
      simp only at e3 f4
      subst e3
      obtain ⟨e2, f3⟩ := nS_false h3
      simp only at e2 f3
      subst e2
      obtain ⟨e1, f2⟩ := tS_false h2
      simp only at e1 f2
      subst e1
      obtain ⟨_, f1⟩ := tS_false h1
      simp only at f1
      have f5 := a5.resolve_left (by simp)
      unfold headN keyN signN
      simp only [f1, f2, f3, f4, f5]
    · obtain ⟨a4, b4, c4⟩ := tS_true h4
      simp only at a4 b4 c4
      cases g3
      · refine ⟨b5 rfl (c4 rfl), ?_⟩
        obtain ⟨e2, f3⟩ := nS_false h3
        simp only at e2 f3
        subst e2
        obtain ⟨e1, f2⟩ := tS_false h2
        simp only at e1 f2
        subst e1
        obtain ⟨_, f1⟩ := tS_false h1
        simp only at f1
        have f4 := a4.resolve_left (by simp)
        unfold headN keyN signN
        simp only [f1, f2, f3, f4]
      · obtain ⟨a3, b3, c3⟩ := nS_true h3
        simp only at a3 b3 c3
        cases g2
        · refine ⟨b5 rfl (b4 rfl (c3 rfl)), ?_⟩
          obtain ⟨e1, f2⟩ := tS_false h2
          simp only at e1 f2
          subst e1
          obtain ⟨_, f1⟩ := tS_false h1
          simp only at f1
          have f3 := a3.resolve_left (by simp)
          unfold headN keyN signN
          simp only [f1, f2, f3]
        · obtain ⟨a2, b2, c2⟩ := tS_true h2
          simp only at a2 b2 c2
          cases g1
          · refine ⟨b5 rfl (b4 rfl (b3 rfl (c2 rfl))), ?_⟩
            obtain ⟨_, f1⟩ := tS_false h1
            simp only at f1
            have f2 := a2.resolve_left (by simp)
            unfold headN keyN
            simp only [f1, f2]
          · obtain ⟨a1, _, c1⟩ := tS_true h1
            simp only at a1 c1
            refine ⟨b5 rfl (b4 rfl (b3 rfl (b2 rfl (c1 trivial)))), ?_⟩
            have f1 := a1.resolve_left (by simp)
            unfold headN keyN
            simp only [f1]
theorem val_of {lb : List UInt8} {s3 lb1 lb2 lb3 : List UInt8} {n1 n2 : Nat} {g1 g2 g3 : Bool} (h1 : nS (lb, false) = (n1, (lb1, g1))) (h2 : nS (lb1, g1) = (n2, (lb2, g2))) (h3 : tS (lb2, g2) = (s3, (lb3, g3))) :
    (g3 = false ∧ valN lb = some (⟨kindZ n1, zagZ n2, bytesOf s3⟩, lb3)) ∨ (g3 = true ∧ valN lb = none) := by
  cases g3
  · obtain ⟨e2, f3⟩ := tS_false h3
    simp only at e2 f3
    subst e2
    obtain ⟨e1, f2⟩ := nS_false h2
    simp only at e1 f2
    subst e1
    obtain ⟨_, f1⟩ := nS_false h1
    simp only at f1
    refine .inl ⟨rfl, ?_⟩
    unfold valN signN
    simp only [f1, f2, f3]
  · refine .inr ⟨rfl, ?_⟩
    obtain ⟨a3, _, _⟩ := tS_true h3
    simp only at a3
    cases g2
    · obtain ⟨e1, f2⟩ := nS_false h2
      simp only at e1 f2
      subst e1
      obtain ⟨_, f1⟩ := nS_false h1
      simp only at f1
      have f3 := a3.resolve_left (by simp)
      unfold valN signN
      simp only [f1, f2, f3]
    · obtain ⟨a2, _, _⟩ := nS_true h2
      simp only at a2
      cases g1
      · obtain ⟨_, f1⟩ := nS_false h1
        simp only at f1
        have f2 := a2.resolve_left (by simp)
        unfold valN signN
        simp only [f1, f2]
      · obtain ⟨a1, _, _⟩ := nS_true h1
        simp only at a1
        have f1 := a1.resolve_left (by simp)
        unfold valN
        simp only [f1]
theorem cell_of_none {lb : List UInt8} (h : headN lb = none) : cellN lb = none := by
  unfold headN at h
  unfold cellN verN
  split at h
  · rename_i e
    simp only [e]
  · rename_i k r e
    split at h
    · rename_i e2
      simp only [e, e2]
    · cases h
theorem cell_of_head {lb : List UInt8} {k : KeyV} {t : Int} {r : List UInt8} (h : headN lb = some ((k, t), r)) : ∃ r0, keyN lb = some (k, r0) ∧ signN r0 = some (t, r) := by
  unfold headN at h
  split at h
  · cases h
  · rename_i k' r' e
    split at h
    · cases h
    · rename_i t' r'' e2
      simp only [Option.some.injEq, Prod.mk.injEq] at h
      obtain ⟨⟨rfl, rfl⟩, rfl⟩ := h
      exact ⟨r', e, e2⟩

/-- What the document's reader has done: a cell that is there, or it is wrong. -/
def Took (lb : List UInt8) (c : CellV) (lb' : List UInt8) (g' : Bool) : Prop := match cellN lb with | some (c0, r) => c = c0 ∧ lb' = r ∧ g' = false | none => g' = true
theorem MidR.put10 {w wr : World} {R : Nat} {lb : List UInt8} {g : Bool} {t : TypeId} {cs : Array Value} {z0 z1 z2 z3 z4 z5 z6 z7 z8 z9 : Value} (h : MidR w wr R lb g t #[z0, z1, z2, z3, z4, z5, z6, z7, z8, z9] cs) (hR : R < w.heap.size) (v0 v1 v2 v3 v4 v5 v6 v7 v8 v9 : Value) :
    MidR w ((((((((((wr.setCell ⟨w.heap.size, 0, none⟩ v0).setCell ⟨w.heap.size, 1, none⟩ v1).setCell ⟨w.heap.size, 2, none⟩ v2).setCell ⟨w.heap.size, 3, none⟩ v3).setCell ⟨w.heap.size, 4, none⟩ v4).setCell ⟨w.heap.size, 5, none⟩ v5).setCell ⟨w.heap.size, 6, none⟩ v6).setCell ⟨w.heap.size, 7, none⟩ v7).setCell ⟨w.heap.size, 8, none⟩ v8).setCell ⟨w.heap.size, 9, none⟩ v9) R lb g t #[v0, v1, v2, v3, v4, v5, v6, v7, v8, v9] cs := by
  have h0 : MidR _ _ _ _ _ _ #[v0, z1, z2, z3, z4, z5, z6, z7, z8, z9] _ := h.put hR 0 v0
  have h1 : MidR _ _ _ _ _ _ #[v0, v1, z2, z3, z4, z5, z6, z7, z8, z9] _ := h0.put hR 1 v1
  have h2 : MidR _ _ _ _ _ _ #[v0, v1, v2, z3, z4, z5, z6, z7, z8, z9] _ := h1.put hR 2 v2
  have h3 : MidR _ _ _ _ _ _ #[v0, v1, v2, v3, z4, z5, z6, z7, z8, z9] _ := h2.put hR 3 v3
  have h4 : MidR _ _ _ _ _ _ #[v0, v1, v2, v3, v4, z5, z6, z7, z8, z9] _ := h3.put hR 4 v4
  have h5 : MidR _ _ _ _ _ _ #[v0, v1, v2, v3, v4, v5, z6, z7, z8, z9] _ := h4.put hR 5 v5
  have h6 : MidR _ _ _ _ _ _ #[v0, v1, v2, v3, v4, v5, v6, z7, z8, z9] _ := h5.put hR 6 v6
  have h7 : MidR _ _ _ _ _ _ #[v0, v1, v2, v3, v4, v5, v6, v7, z8, z9] _ := h6.put hR 7 v7
  have h8 : MidR _ _ _ _ _ _ #[v0, v1, v2, v3, v4, v5, v6, v7, v8, z9] _ := h7.put hR 8 v8
  have h9 : MidR _ _ _ _ _ _ #[v0, v1, v2, v3, v4, v5, v6, v7, v8, v9] _ := h8.put hR 9 v9
  exact h9
end Go.Proofs.YtlamncldbnagmaaGreatDoor
