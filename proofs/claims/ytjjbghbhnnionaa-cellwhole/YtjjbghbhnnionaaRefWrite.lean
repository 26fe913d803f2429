/-
  CONTRACTS: the document's Zig, Put, PutText and Cells, for every argument.
-/
import Derived.Test.YtjjbghbhnnionaaCellMany
import Derived.Deep.CutRange
namespace Go.Proofs.Ytjjbghbhnnionaa
open Go.RowKit

theorem refZig_any (n : Int) (w : World) (h1 : -9223372036854775808 ≤ n) (h2 : n ≤ 9223372036854775807) :
    Calls Try.prog 82 #[.int .i64 n] w fun e w' => e = .returned (.int .u64 (zigZ n)) ∧ w' = w := by
  by_cases h : n < 0
  · have e1 : zigZ n = 2 * (-(n + 1)) + 1 := by unfold zigZ; rw [if_pos h]; omega
    rw [e1]
    clear e1
    go_enter Try.func82, Try.ntmps82
    go_wp2
    go_ret
    exact ⟨ret_int (by omega), rfl⟩
  · have e1 : zigZ n = 2 * n := by unfold zigZ; rw [if_neg h]
    rw [e1]
    clear e1
    go_enter Try.func82, Try.ntmps82
    go_wp2
    go_ret
    exact ⟨ret_int (by omega), rfl⟩
/-- A row of nothing, just made. -/
theorem owns_none8 (w : World) : (w.alloc (.cells #[] 5)).ownsRow w.heap.size 5 1 (.slice (some ⟨w.heap.size, 0, none⟩) 0 0) 0 [] := World.ownsRow_made w #[] 0 (Nat.le_refl _) (by decide) rfl
theorem below_none8 {w w' : World} {v : Value} (h : Grew (w.alloc (.cells #[] 5)) w' (.slice (some ⟨w.heap.size, 0, none⟩) 0 0) v) : Below w.heap.size w w' :=
  ((Below.refl _ _).alloc (Nat.le_refl _) _).trans (h.below (by rw [World.size_alloc]; omega) (fun k hk => by cases hk; exact Nat.le_refl _))

set_option maxRecDepth 100000 in
set_option maxHeartbeats 800000 in
theorem refPut_any (ao : Option Addr) (l : List UInt8) (cap u : Nat) (w : World) (hs : Sees w ao l) (hnone : ao = none → l.length = 0) (hl : l.length ≤ 140737488354000) (hu : u < 18446744073709551616) :
    Calls Try.prog 80 #[.slice ao l.length cap, .int .u64 u] w fun e w' => ∃ v', e = .returned v' ∧ w'.ownsRow w.heap.size 5 1 v' (l.length + (numL u).length) (B8 (l ++ numL u)) ∧ Below w.heap.size w w' := by
  obtain ⟨i0, hi, hz0, hz1, hz2⟩ := info_parts info8
  have Hu : Hid (NumAt u [] u) := NumAt.start hu
  have e0 := owns_none8 w
  have s1 := src_sees (P := Try.prog) Try.underlying85 (hs.below ((Below.refl _ _).alloc (Nat.le_refl _) (.cells #[] 5)) (Nat.le_refl _)) hnone cap
  clear hu hs hnone
  go_enter Try.func80, Try.ntmps80
  go_wp2_with (at_builtin; go_must (refine wpList_append_grew _ rfl (.tmp 6) (.tmp 7) 85 85 rfl w.heap.size 5 i0 (.int .u8 0) 1 1 Try.underlying85 hi hz0 hz1 hz2 rfl _ 0 [] rfl e0 _ l.length (B8 l) rfl s1 (by unfold maxLen; omega) (by omega) (by rw [World.size_alloc]; omega) ?_; intro v1 w1 ho1 hg1))
  have ho1' : w1.ownsRow w.heap.size 5 1 v1 l.length (B8 l) := by simpa using ho1
  have hb1 := below_none8 hg1
  clear e0 s1 hg1 ho1
  go_loopw [5, 1] (fun s0 s1 wr => ∃ (x : Nat) (d : List UInt8), s1 = .int .u64 x ∧ NumAt u d x ∧ wr.ownsRow w.heap.size 5 1 s0 (l.length + d.length) (B8 (l ++ d)) ∧ Grew w1 wr v1 s0 ∧ w.heap.size ≤ wr.heap.size) (fun _ s1 _ => (intOf s1).toNat)
  case atStart => exact ⟨u, [], rfl, Hu.out, by simpa using ho1', Grew.refl _ _, hb1.size⟩
  case round =>
    obtain ⟨x, d, rfl, hd, ho, hg, hbr⟩ := hrel
    have hbd := hd.bd
    have hdl := hd.len
    by_cases hx : x < 128
    · have hbv := byte_val x (by omega)
      have Hfin : Hid (numL u = d ++ [UInt8.ofNat x]) := hd.done hx
      go_wp2_with (at_builtin; go_must (refine wpList_append_grew _ rfl _ _ 85 85 rfl w.heap.size 5 i0 (.int .u8 0) 1 1 Try.underlying85 hi hz0 hz1 hz2 rfl _ _ _ rfl (ho.alloc _) _ 1 (B8 [UInt8.ofNat x]) rfl (src_one _ _ _ hbv) (by unfold maxLen; omega) (by omega) (by rw [World.size_alloc]; omega) ?_; intro v' w' ho' hg'))
      go_ret
      refine ⟨v', rfl, ?_, hb1.trans ((hg.trans hg'.alloc).below hb1.size (fun k hk => (ho1'.lt k hk).1))⟩
      rw [Hfin.out, ← List.append_assoc, B8_append _ [_], List.length_append, List.length_singleton, ← Nat.add_assoc]
      exact ho'
    · have hbv := byte_val (x % 128 + 128) (by omega)
      have hst := hd.step (by omega)
      go_wp2_with (at_builtin; go_must (refine wpList_append_grew _ rfl _ _ 85 85 rfl w.heap.size 5 i0 (.int .u8 0) 1 1 Try.underlying85 hi hz0 hz1 hz2 rfl _ _ _ rfl (ho.alloc _) _ 1 (B8 [UInt8.ofNat (x % 128 + 128)]) rfl (src_one _ _ _ hbv) (by unfold maxLen; omega) (by omega) (by rw [World.size_alloc]; omega) ?_; intro v' w' ho' hg'))
      go_roundw
      case rel =>
        refine ⟨x / 128, _, by go_num, hst, ?_, hg.trans hg'.alloc, Nat.le_trans hbr (Nat.le_trans (by rw [World.size_alloc]; omega) hg'.rows.size)⟩
        rw [← List.append_assoc, B8_append _ [_], List.length_append, List.length_singleton, ← Nat.add_assoc]
        exact ho'
      case measure => simp [intOf]; omega
set_option maxRecDepth 100000 in
set_option maxHeartbeats 800000 in
theorem refPutText_any (ao : Option Addr) (l : List UInt8) (cap : Nat) (s : ByteArray) (w : World) (hs : Sees w ao l) (hnone : ao = none → l.length = 0) (hl : l.length + s.size ≤ 140737488353000) :
    Calls Try.prog 81 #[.slice ao l.length cap, .string s] w fun e w' => ∃ v', e = .returned v' ∧ w'.ownsRow w.heap.size 5 1 v' (l.length + (txtL s.data.toList).length) (B8 (l ++ txtL s.data.toList)) ∧ Below w.heap.size w w' := by
  obtain ⟨i0, hi, hz0, hz1, hz2⟩ := info_parts info8
  have hnl := numL_length s.size
  have hsz : s.data.toList.length = s.size := by simp
  have Hp : Hid _ := refPut_any ao l cap s.size w hs hnone (by omega) (by omega)
  clear hs hnone
  go_enter Try.func81, Try.ntmps81
  go_wp2_with fail
  refine Calls.mono (Hid.out Hp) ?_
  rintro e w1 ⟨v1, rfl, ho1, hb1⟩
  go_wp2_with (at_builtin; go_must (refine wpList_append_grew _ rfl _ _ 85 9 rfl w.heap.size 5 i0 (.int .u8 0) 1 1 Try.underlying85 hi hz0 hz1 hz2 rfl _ _ _ rfl ho1 _ s.size (B8 s.data.toList) rfl (Src.ofString _ Try.underlying9 s) (by unfold maxLen; omega) (by omega) hb1.size ?_; intro v' w' ho' hg'))
  go_ret
  refine ⟨v', rfl, ?_, hb1.trans (hg'.below hb1.size (fun k hk => (ho1.lt k hk).1))⟩
  unfold txtL
  rw [hsz, List.length_append, hsz, ← List.append_assoc, B8_append _ s.data.toList, ← Nat.add_assoc]
  exact ho'

theorem owns_heapB {w w' : World} {base : Nat} {e : TypeId} {size : Nat} {v : Value} {n : Nat} {xs : List Value} (h : w.ownsRow base e size v n xs) (hb : ∀ k, v.ownBlock = some k → w'.heap[k]? = w.heap[k]?) : w'.ownsRow base e size v n xs := by
  refine ⟨h.1, ?_⟩
  rcases h.2 with hn | ⟨g, cap, cur, rfl, hg, hh, r⟩
  · exact .inl hn
  · exact .inr ⟨g, cap, cur, rfl, hg, (hb g rfl).trans hh, r⟩
theorem owns_mono' {w : World} {b b' : Nat} {e : TypeId} {size : Nat} {v : Value} {n : Nat} {xs : List Value} (h : w.ownsRow b e size v n xs) (hb : b' ≤ b) : w.ownsRow b' e size v n xs := by
  refine ⟨h.1, ?_⟩
  rcases h.2 with hn | ⟨g, cap, cur, rfl, hg, r⟩
  · exact .inl hn
  · exact .inr ⟨g, cap, cur, rfl, Nat.le_trans hb hg, r⟩
theorem owns_seesD {w : World} {base n : Nat} {l : List UInt8} {v : Value} (h : w.ownsRow base 5 1 v n (B8 l)) : ∃ ao cap, v = .slice ao l.length cap ∧ Sees w ao l ∧ (ao = none → l.length = 0) := by
  obtain ⟨ao, cap, rfl, h1, h2, h3⟩ := owns_sees h
  exact ⟨ao, cap, by rw [h2], h1, fun e => h2.trans (h3 e).1⟩

/-- What is written so far: a row of the call's own; some boxes beside it. -/
structure StB (w : World) (Bs : List (Nat × Array Value × TypeId)) (wx : World) (v : Value) (xs : List UInt8) : Prop where
  own : wx.ownsRow w.heap.size 5 1 v xs.length (B8 xs)
  below : Below w.heap.size w wx
  box : ∀ x ∈ Bs, Box wx x.1 x.2.1 x.2.2
  ne : ∀ x ∈ Bs, v.ownBlock ≠ some x.1
section
variable {w wx w' : World} {Bs : List (Nat × Array Value × TypeId)} {v v' : Value} {xs ys : List UInt8}
theorem StB.like (h : StB w Bs wx v xs) (h1 : wx.heap = w'.heap) (h2 : wx.os = w'.os) (h3 : wx.tape = w'.tape) (h4 : wx.output = w'.output) : StB w Bs w' v xs :=
  ⟨owns_heapB h.own (fun k _ => by rw [h1]), ⟨h2.symm.trans h.below.os, h3.symm.trans h.below.tape, h4.symm.trans h.below.output, by rw [← h1]; exact h.below.size, by rw [← h1]; exact h.below.block⟩, fun x hx => (h.box x hx).carry (by rw [h1]), h.ne⟩
theorem StB.fresh (h : StB w Bs wx v xs) {n : Nat} (ho : w'.ownsRow wx.heap.size 5 1 v' n (B8 ys)) (hn : n = ys.length) (hb : Below wx.heap.size wx w') : StB w Bs w' v' ys := by
  subst hn
  have hs := h.below.size
  exact ⟨owns_mono' ho hs, h.below.trans (hb.mono hs), fun x hx => (h.box x hx).carry (hb.block x.1 (h.box x hx).lt), fun x hx e => by have h1 := (ho.lt _ e).1; have h2 := (h.box x hx).lt; omega⟩
theorem StB.grew (h : StB w Bs wx v xs) (ho : w'.ownsRow w.heap.size 5 1 v' ys.length (B8 ys)) (hg : Grew wx w' v v') : StB w Bs w' v' ys :=
  ⟨ho, h.below.trans (hg.below h.below.size (fun k hk => (h.own.lt k hk).1)), fun x hx => (h.box x hx).grew hg (h.ne x hx), fun x hx => hg.ne (h.ne x hx) (h.box x hx).lt⟩
theorem StB.more (h : StB w Bs wx v xs) (cs : Array Value) (t : TypeId) : StB w ((wx.heap.size, cs, t) :: Bs) (wx.alloc (.cells cs t)) v xs := by
  refine ⟨h.own.alloc _, h.below.alloc h.below.size _, fun x hx => ?_, fun x hx => ?_⟩
  · rcases List.mem_cons.1 hx with rfl | hx
    · exact Box.new _ _ _
    · exact (h.box x hx).alloc _
  · rcases List.mem_cons.1 hx with rfl | hx
    · exact owns_ne_new h.own
    · exact h.ne x hx
end
theorem StB.b1 {w wx : World} {Bs : List (Nat × Array Value × TypeId)} {k : Nat} {cs : Array Value} {t : TypeId} {v : Value} {xs : List UInt8} (h : StB w ((k, cs, t) :: Bs) wx v xs) : Box wx k cs t := h.box (k, cs, t) (.head _)
theorem StB.tail {w wx : World} {x : Nat × Array Value × TypeId} {Bs : List (Nat × Array Value × TypeId)} {v : Value} {xs : List UInt8} (h : StB w (x :: Bs) wx v xs) : StB w Bs wx v xs := ⟨h.own, h.below, fun y hy => h.box y (.tail _ hy), fun y hy => h.ne y (.tail _ hy)⟩
theorem StB.put {w wx w' : World} {Bs : List (Nat × Array Value × TypeId)} {v v' : Value} {xs : List UInt8} {x : UInt8} (h : StB w Bs wx v xs) (ho : w'.ownsRow w.heap.size 5 1 v' (xs.length + 1) (B8 (xs ++ [x]))) (hg : Grew wx w' v v') : StB w Bs w' v' (xs ++ [x]) := h.grew (by simpa using ho) hg
theorem refPutSt {w wx : World} {Bs : List (Nat × Array Value × TypeId)} {v : Value} {xs : List UInt8} (h : StB w Bs wx v xs) (u : Nat) (hu : u < 18446744073709551616) (hl : xs.length ≤ 140737488354000) :
    Calls Try.prog 80 #[v, .int .u64 u] wx fun e w' => ∃ v', e = .returned v' ∧ StB w Bs w' v' (xs ++ numL u) := by
  obtain ⟨ao, cap, rfl, hs, hn⟩ := owns_seesD h.own
  refine (refPut_any ao xs cap u wx hs hn hl hu).mono ?_
  rintro e w' ⟨v', rfl, ho, hb⟩
  exact ⟨v', rfl, h.fresh ho (by simp) hb⟩
theorem refPutTextSt {w wx : World} {Bs : List (Nat × Array Value × TypeId)} {v : Value} {xs : List UInt8} (h : StB w Bs wx v xs) (s : ByteArray) (hl : xs.length + s.size ≤ 140737488353000) :
    Calls Try.prog 81 #[v, .string s] wx fun e w' => ∃ v', e = .returned v' ∧ StB w Bs w' v' (xs ++ txtL (strL s)) := by
  obtain ⟨ao, cap, rfl, hs, hn⟩ := owns_seesD h.own
  refine (refPutText_any ao xs cap s wx hs hn hl).mono ?_
  rintro e w' ⟨v', rfl, ho, hb⟩
  exact ⟨v', rfl, h.fresh ho (by simp [strL]) hb⟩
theorem refZig_nat (n : Int) (w : World) (h : I64 n) : Calls Try.prog 82 #[.int .i64 n] w fun e w' => e = .returned (.int .u64 (zigN n : Int)) ∧ w' = w := by
  rw [← (zigN_eq h).1]
  exact refZig_any n w h.1 h.2

set_option maxRecDepth 100000 in
set_option maxHeartbeats 1600000 in
theorem refCells_any (ao : Option Addr) (l : List CellV) (cap : Nat) (w : World) (hs : CSees w ao l) (hok : ∀ c ∈ l, c.Ok) (hw : wtL l + 81 * l.length ≤ 140737488330000) :
    Calls Try.prog 49 #[.slice ao l.length cap] w fun e w' => ∃ v', e = .returned v' ∧ w'.ownsRow w.heap.size 5 1 v' (cellsL l).length (B8 (cellsL l)) ∧ Below w.heap.size w w' := by
  obtain ⟨i0, hi, hz0, hz1, hz2⟩ := info_parts info8
  have hnl := (numL_length l.length).2
  have h00 : StB w [] w (.slice none 0 0) [] := ⟨World.ownsRow_nil _ _ _ _, Below.refl _ _, (fun x hx => by cases hx), (fun x hx => by cases hx)⟩
  have Hc1 : Hid _ := refPutSt h00 l.length (by omega) (by simp)
  have hlz : (l.length : Int) ≤ 140737488330000 := by omega
  clear h00
  go_enter Try.func49, Try.ntmps49
  go_wp2_with fail
  refine Calls.mono (Hid.out Hc1) ?_
  rintro e w1 ⟨v1, rfl, h1⟩
  clear Hc1
  go_wp2_with fail
  go_loopw [3, 13] (fun s3 s13 wr => ∃ i : Nat, i ≤ l.length ∧ s13 = .int .i64 i ∧ StB w [] wr s3 (numL l.length ++ manyL (l.take i))) (fun _ s13 _ => l.length - (intOf s13).toNat)
  case atStart => exact ⟨0, by omega, rfl, by simpa [manyL] using h1⟩
  case round =>
    obtain ⟨i, hil, rfl, hst⟩ := hrel
    rcases Nat.lt_or_ge i l.length with hlt | hge
    · have hc : l[i]? = some l[i] := List.getElem?_eq_getElem hlt
      have hco := hok l[i] (List.getElem_mem hlt)
      have hml := manyL_le (l.take i)
      have hwt := wtL_step hc
      have hms := manyL_step hc
      rw [List.length_take, Nat.min_eq_left hil] at hml
      obtain ⟨b, off, rfl, hld⟩ := (hs.below hst.below (Nat.le_refl _)).ten hc
      generalize l[i] = c at *
      have Hms : Hid _ := hms
      have Hko : Hid c.key.Ok := hco.key
      have Hvo : Hid c.ver.Ok := hco.ver
      unfold wtC at hwt
      clear hms hc hs hok hco
      obtain ⟨⟨table, part, row, col⟩, ⟨time, dead, loc, kind, num, s⟩⟩ := c
      simp only at hwt
      obtain ⟨k0, k1, k2, k3, k4, k5, k6, k7, k8, k9⟩ := hld
      simp only at k0 k1 k2 k3 k4 k5 k6 k7 k8 k9
      have hx0 : (numL l.length ++ manyL (l.take i)).length ≤ wtL (l.take i) + 81 * i + 10 := by rw [List.length_append]; omega
      generalize hXS : numL l.length ++ manyL (l.take i) = xs at *
      have HXS : Hid _ := hXS
      have t1 := txtL_le table
      have t2 := txtL_le part
      have t3 := txtL_le col
      have t4 := txtL_le s
      have n1 := (numL_length (zigN row)).2
      have n2 := (numL_length (zigN time)).2
      have n3 := (numL_length (zigN loc)).2
      have n4 := (numL_length (kindN kind)).2
      have n5 := (numL_length (zigN num)).2
      have S1 : Hid (StB _ _ _ _ _) := hst.more #[.string table, .string part, .int .i64 row, .string col, .int .i64 time, .bool dead, .int .i64 loc, .int .i64 kind, .int .i64 num, .string s] 41
      clear hXS hst
      go_wp2_with fail
      clear k0 k1 k2 k3 k4 k5 k6 k7 k8 k9
      go_cut [3, 13] from 13 to 70 (fun s3 s13 wx => s13 = .int .i64 i ∧ StB w [(wr.heap.size, #[.string table, .string part, .int .i64 row, .string col, .int .i64 time, .bool dead, .int .i64 loc, .int .i64 kind, .int .i64 num, .string s], 41)] wx s3 (xs ++ txtL (strL table) ++ txtL (strL part)))
      case first =>
        go_region_with (first
          | (go_at_call 81; have S2' := S2; refine Calls.mono (refPutTextSt (by exact S2'.like rfl rfl rfl rfl) part (by rw [List.length_append]; omega)) ?_; rintro e w3 ⟨v3, rfl, S3⟩)
          | (go_at_call 81; refine Calls.mono (refPutTextSt (by exact S1.out.like rfl rfl rfl rfl) table (by omega)) ?_; rintro e w2 ⟨v2, rfl, S2⟩; have d1 := S2.b1.cell 1))
        all_goals
          go_wp2_with fail
          go_meet
          case rel => exact ⟨rfl, S3⟩
      case rest =>
        obtain ⟨rfl, S3⟩ := hcut
        have q2 := S3.b1.cell 2
        have q3 := S3.b1.cell 3
        go_upto_region 6 with fail
        go_cut [3, 13] from 13 to 70 (fun s3 s13 wx => s13 = .int .i64 i ∧ StB w [(wr.heap.size, #[.string table, .string part, .int .i64 row, .string col, .int .i64 time, .bool dead, .int .i64 loc, .int .i64 kind, .int .i64 num, .string s], 41)] wx s3 (xs ++ txtL (strL table) ++ txtL (strL part) ++ numL (zigN row) ++ txtL (strL col)))
        case first =>
          go_region_with (first
            | (go_at_call 82; go_must (refine Calls.mono (refZig_nat row _ Hko.out.row) ?_; rintro e w4' ⟨rfl, rfl⟩))
            | (go_at_call 81; go_must (refine Calls.mono (refPutTextSt (by exact S4.like rfl rfl rfl rfl) col (by simp only [List.length_append]; omega)) ?_; rintro e w5 ⟨v5, rfl, S5⟩))
            | (go_at_call 80; go_must (refine Calls.mono (refPutSt (by exact S3.like rfl rfl rfl rfl) (zigN row) (zigN_eq Hko.out.row).2 (by simp only [List.length_append]; omega)) ?_; rintro e w4 ⟨v4, rfl, S4⟩; have d3 := S4.b1.cell 3)))
          all_goals
            go_wp2_with fail
            go_meet
            case rel => exact ⟨rfl, S5⟩
        case rest =>
          obtain ⟨rfl, S5'⟩ := hcut
          obtain ⟨ys, HY, hyl, S5⟩ : ∃ ys, Hid (ys = xs ++ txtL (strL table) ++ txtL (strL part) ++ numL (zigN row) ++ txtL (strL col)) ∧ ys.length ≤ wtL (l.take i) + 81 * i + (table.size + part.size + col.size) + 50 ∧ StB w [(wr.heap.size, #[.string table, .string part, .int .i64 row, .string col, .int .i64 time, .bool dead, .int .i64 loc, .int .i64 kind, .int .i64 num, .string s], 41)] wc u3 ys := ⟨_, (show Hid (_ = _) from rfl), by simp only [List.length_append]; omega, S5'⟩
          clear S5' S3 S1 q2 q3 h1
          have q4 := S5.b1.cell 4
          have q5 := S5.b1.cell 5
          have q6 := S5.b1.cell 6
          have q7 := S5.b1.cell 7
          have q8 := S5.b1.cell 8
          have q9 := S5.b1.cell 9
          have S6 : Hid (StB _ _ _ _ _) := S5.tail.more #[.int .i64 time, .bool dead, .int .i64 loc, .int .i64 kind, .int .i64 num, .string s] 31
          clear S5
          go_wp2_with fail
          refine Calls.mono (refZig_nat time _ Hvo.out.time) ?_
          rintro e w6' ⟨rfl, rfl⟩
          go_wp2_with fail
          refine Calls.mono (refPutSt (by exact S6.out.like rfl rfl rfl rfl) (zigN time) (zigN_eq Hvo.out.time).2 (by omega)) ?_
          rintro e w7 ⟨v7, rfl, S7⟩
          have d1 := S7.b1.cell 1
          have d2 := S7.b1.cell 2
          have d3 := S7.b1.cell 3
          have d4 := S7.b1.cell 4
          have d5 := S7.b1.cell 5
          have ho7 := S7.own
          have hlt7 : wc.heap.size < w7.heap.size := S7.b1.lt
          have hb7 := S7.below.size
          have hl7 : (ys ++ numL (zigN time)).length ≤ wtL (l.take i) + 81 * i + (table.size + part.size + col.size) + 60 := by rw [List.length_append]; omega
          clear q4 q5 q6 q7 q8 q9 S6
          cases dead
          · go_wp2_with fail
            go_cut [3, 13] from 13 to 70 (fun s3 s13 wx => s13 = .int .i64 i ∧ StB w [(wc.heap.size, #[.int .i64 time, .bool false, .int .i64 loc, .int .i64 kind, .int .i64 num, .string s], 31)] wx s3 (ys ++ numL (zigN time) ++ [0] ++ numL (kindN kind)))
            case first =>
              go_region_law (first
                | (refine step_append_grew rfl (.tmp 52) (.tmp 53) 85 85 rfl w.heap.size 5 i0 (.int .u8 0) 1 1 Try.underlying85 hi hz0 hz1 hz2 rfl _ _ _ rfl (by exact ho7.alloc _) _ 1 (B8 [0]) rfl (src_head 0 (by simp [go_sem])) (by unfold maxLen; omega) (by omega) (by simp; omega) ?_; intro v8 w8 ho8 hg8; rw [← B8_append] at ho8; have S8 := S7.put ho8 (Grew.alloc (w := w7) (o := .cells #[.int .u8 0] 5) (hg8.like rfl rfl rfl rfl)); have e3 := S8.b1.cell 3)
                | (go_simp; go_at_call 80; rw [kind_wrap]; refine Calls.mono (refPutSt (by exact S8.like rfl rfl rfl rfl) (kindN kind) (kindN_lt _) (by rw [List.length_append]; simp; omega)) ?_; rintro e w9 ⟨v9, rfl, S9⟩))
              all_goals
                clear ho8 hg8
                go_wp2_with fail
                go_meet
                case rel => exact ⟨rfl, S9⟩
            case rest =>
              obtain ⟨rfl, S9⟩ := hcut
              clear d1 d2 d3 d4 d5 ho7 S7
              have e4 := S9.b1.cell 4
              have e5 := S9.b1.cell 5
              go_wp2_with fail
              go_region_with (first
                | (go_at_call 82; go_must (refine Calls.mono (refZig_nat num _ Hvo.out.val.num) ?_; rintro e w4' ⟨rfl, rfl⟩))
                | (go_at_call 81; go_must (refine Calls.mono (refPutTextSt (by exact S4.like rfl rfl rfl rfl) s (by simp only [List.length_append, List.length_cons, List.length_nil]; omega)) ?_; rintro e w5 ⟨v5, rfl, S10⟩))
                | (go_at_call 80; go_must (refine Calls.mono (refPutSt (by exact S9.like rfl rfl rfl rfl) (zigN num) (zigN_eq Hvo.out.val.num).2 (by simp only [List.length_append, List.length_cons, List.length_nil]; omega)) ?_; rintro e w4 ⟨v4, rfl, S4⟩; have f5 := S4.b1.cell 5)))
              all_goals
                clear e4 e5
                go_wp2
                go_roundw
                case rel =>
                  refine ⟨i + 1, by omega, by go_num, ?_⟩
                  rw [Hms.out]
                  rw [HY.out, ← HXS.out] at S10
                  simpa [cellL, keyL, verL, valL, List.append_assoc] using S10.tail
                case measure => simp [intOf]; omega
          · go_wp2_with fail
            go_region_law (first
              | (refine step_append_grew rfl (.tmp 45) (.tmp 46) 85 85 rfl w.heap.size 5 i0 (.int .u8 0) 1 1 Try.underlying85 hi hz0 hz1 hz2 rfl _ _ _ rfl (by exact ho7.alloc _) _ 1 (B8 [1]) rfl (src_head 1 (by simp [go_sem])) (by unfold maxLen; omega) (by omega) (by simp; omega) ?_; intro v8 w8 ho8 hg8; rw [← B8_append] at ho8; have S8 := S7.put ho8 (Grew.alloc (w := w7) (o := .cells #[.int .u8 1] 5) (hg8.like rfl rfl rfl rfl)); have e2 := S8.b1.cell 2)
              | (go_simp; go_at_call 82; refine Calls.mono (refZig_nat loc _ Hvo.out.loc) ?_; rintro e w8' ⟨rfl, rfl⟩)
              | (go_simp; go_at_call 80; refine Calls.mono (refPutSt (by exact S8.like rfl rfl rfl rfl) (zigN loc) (zigN_eq Hvo.out.loc).2 (by rw [List.length_append]; simp; omega)) ?_; rintro e w9 ⟨v9, rfl, S9⟩))
            all_goals
              clear ho8 hg8
              go_wp2
              go_roundw
              case rel =>
                refine ⟨i + 1, by omega, by go_num, ?_⟩
                rw [Hms.out]
                rw [HY.out, ← HXS.out] at S9
                simpa [cellL, keyL, verL, valL, List.append_assoc] using S9.tail
              case measure => simp [intOf]; omega
    · obtain rfl : i = l.length := by omega
      rw [List.take_length] at hst
      clear hs hge hil hok
      go_wp2
      go_ret
      exact ⟨_, rfl, hst.own, hst.below⟩
end Go.Proofs.Ytjjbghbhnnionaa
