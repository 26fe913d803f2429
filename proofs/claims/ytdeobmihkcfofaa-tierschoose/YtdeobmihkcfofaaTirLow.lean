/-
  CONTRACTS: what a size counts as (counted; the document's size); a mean that takes one more size (add); how many are alike.
-/
import Derived.Test.YtdeobmihkcfofaaTirPlain
import Derived.Test.YtdeobmihkcfofaaIntRow
import Derived.Test.YtdeobmihkcfofaaBlk
namespace Go.Proofs.Ytdeobmihkcfofaa
open Go.RowKit Go.IntWalk

set_option maxRecDepth 100000 in
theorem counted_any (x : Int) (w : World) : Calls Try.prog 20 #[.int .i64 x] w fun e w' => e = .returned (.int .i64 (cz x : Int)) ∧ w' = w := by
  have HC : Hid ((cz x : Int) = min (max x 0) 1099511627776) := cz_eq x
  by_cases h1 : x < 0
  · go_enter Try.func20, Try.ntmps20
    go_wp2_with fail
    all_goals (go_ret; exact ⟨ret_int (by have := HC.out; omega), rfl⟩)
  · by_cases h2 : x ≤ 1099511627776
    · go_enter Try.func20, Try.ntmps20
      go_wp2_with fail
      all_goals (go_ret; exact ⟨ret_int (by have := HC.out; omega), rfl⟩)
    · go_enter Try.func20, Try.ntmps20
      go_wp2_with fail
      all_goals (go_ret; exact ⟨ret_int (by have := HC.out; omega), rfl⟩)
set_option maxRecDepth 100000 in
theorem size12_any (x : Int) (w : World) : Calls Try.prog 16 #[.int .i64 x] w fun e w' => e = .returned (.int .i64 (cz x : Int)) ∧ w' = w := by
  have HC : Hid ((cz x : Int) = min (max x 0) 1099511627776) := cz_eq x
  by_cases h1 : x < 0
  · go_enter Try.func16, Try.ntmps16
    go_wp2_with fail
    go_ret
    exact ⟨ret_int (by have := HC.out; omega), rfl⟩
  · by_cases h2 : x > 1099511627776
    · go_enter Try.func16, Try.ntmps16
      go_wp2_with fail
      go_ret
      exact ⟨ret_int (by have := HC.out; omega), rfl⟩
    · go_enter Try.func16, Try.ntmps16
      go_wp2_with fail
      go_ret
      exact ⟨ret_int (by have := HC.out; omega), rfl⟩
set_option maxRecDepth 100000 in
set_option maxHeartbeats 1000000 in
theorem addM_num (mb : Nat) (c q r x y k u v : Int) (w : World) (hb : Blk w mb [.int .i64 c, .int .i64 q, .int .i64 r] 40) (hk : c + 1 = k) (hy : x - q + r = y) (hu : y / k = u) (hv : y % k = v)
    (b1 : 0 ≤ c) (b2 : c ≤ 1000000) (b3 : 0 ≤ q) (b4 : q ≤ x) (b5 : x ≤ 1099511627776) (b6 : 0 ≤ r) (b7 : r ≤ 1099511627776) (b8 : 0 ≤ u) (b9 : u ≤ 2199023255552) :
    Calls Try.prog 21 #[.pointer (some ⟨mb, 0, none⟩), .int .i64 x] w fun e w' => e = .returned (.tuple #[]) ∧ Blk w' mb [.int .i64 k, .int .i64 (q + u), .int .i64 v] 40 ∧ w.grownBy w' (some mb) := by
  have c0 := hb.cell 0 rfl
  have c1 := hb.cell 1 rfl
  have c2 := hb.cell 2 rfl
  have f0 := hb.frozen 0
  have hb1 : Blk (w.setCell ⟨mb, 0, none⟩ (.int .i64 (c + 1))) mb [.int .i64 k, .int .i64 q, .int .i64 r] 40 := hb.setTo 0 _ _ (by rw [← hk]; rfl)
  have hg1 : Hid (w.grownBy (w.setCell ⟨mb, 0, none⟩ (.int .i64 (c + 1))) (some mb)) := grownBy_setCell ⟨rfl, rfl, rfl, Nat.le_refl _, fun _ _ _ => rfl⟩
  have hk0 : 0 < k := by omega
  have hk1 : k ≤ 1000001 := by omega
  have hy0 : 0 ≤ y := by omega
  have hy1 : y ≤ 2199023255552 := by omega
  have HK : Hid (c + 1 = k) := hk
  have HY : Hid (x - q + r = y) := hy
  have HU : Hid (y / k = u) := hu
  have HV : Hid (y % k = v) := hv
  clear hb hk hy hu hv
  go_enter Try.func21, Try.ntmps21
  go_wp2_with fail
  generalize w.setCell ⟨mb, 0, none⟩ (.int .i64 (c + 1)) = w1 at *
  rw [HK.out]
  have d1 := hb1.cell 1 rfl
  have d2 := hb1.cell 2 rfl
  clear c0 c1 c2 f0 HK
  have HB : Hid (Blk w1 mb [.int .i64 k, .int .i64 q, .int .i64 r] 40) := hb1
  clear hb1
  go_region
  rw [HY.out]
  have HB2 : Hid (Blk w1.drew mb [.int .i64 k, .int .i64 q, .int .i64 r] 40) := HB.out
  have hg2 : Hid (w.grownBy w1.drew (some mb)) := ⟨hg1.out.os, hg1.out.tape, hg1.out.output, hg1.out.size, hg1.out.block⟩
  generalize w1.drew = w2 at *
  clear d1 d2 HB hg1 HY
  have d0 := HB2.out.cell 0 rfl
  have d1 := HB2.out.cell 1 rfl
  have e1 := HB2.out.frozen 1
  go_wp2_with fail
  go_region
  rw [HU.out, wrap64_in (q + u) (by omega)]
  have HB3 : Hid (Blk (w2.setCell ⟨mb, 1, none⟩ (.int .i64 (q + u))).drew mb [.int .i64 k, .int .i64 (q + u), .int .i64 r] 40) := HB2.out.setTo 1 _ _ rfl
  have hg3 : Hid (w.grownBy (w2.setCell ⟨mb, 1, none⟩ (.int .i64 (q + u))).drew (some mb)) := by
    have := grownBy_setCell (i := 1) (v := .int .i64 (q + u)) hg2.out
    exact ⟨this.os, this.tape, this.output, this.size, this.block⟩
  generalize (w2.setCell ⟨mb, 1, none⟩ (.int .i64 (q + u))).drew = w3 at *
  generalize hqu : q + u = qu at *
  have HQ : Hid (q + u = qu) := hqu
  clear d0 d1 e1 HB2 hg2 HU hqu
  have d0 := HB3.out.cell 0 rfl
  have d2 := HB3.out.cell 2 rfl
  have e2 := HB3.out.frozen 2
  go_wp2_with fail
  go_end0
  refine ⟨rfl, ?_, ?_⟩
  · rw [HV.out, HQ.out]; exact HB3.out.setTo 2 _ _ rfl
  · exact grownBy_setCell hg3.out
theorem addM_any (mb : Nat) (c q r x : Nat) (w : World) (hb : Blk w mb [.int .i64 c, .int .i64 q, .int .i64 r] 40) (hq : q ≤ x) (hx : x ≤ 1099511627776) (hr : r ≤ 1099511627776) (hc : c ≤ 1000000) :
    Calls Try.prog 21 #[.pointer (some ⟨mb, 0, none⟩), .int .i64 x] w fun e w' => e = .returned (.tuple #[]) ∧ Blk w' mb [.int .i64 ((c + 1 : Nat) : Int), .int .i64 ((q + (x - q + r) / (c + 1) : Nat) : Int), .int .i64 (((x - q + r) % (c + 1) : Nat) : Int)] 40 ∧ w.grownBy w' (some mb) := by
  have hu : (x - q + r) / (c + 1) ≤ x - q + r := Nat.div_le_self _ _
  have h1 : ((q + (x - q + r) / (c + 1) : Nat) : Int) = (q : Int) + (((x - q + r) / (c + 1) : Nat) : Int) := by rw [Int.natCast_add]
  rw [h1]
  have h2 : ((x - q + r : Nat) : Int) / ((c + 1 : Nat) : Int) = (((x - q + r) / (c + 1) : Nat) : Int) := by rw [← Int.natCast_ediv]
  have h3 : ((x - q + r : Nat) : Int) % ((c + 1 : Nat) : Int) = (((x - q + r) % (c + 1) : Nat) : Int) := by rw [← Int.natCast_emod]
  generalize (x - q + r) / (c + 1) = u at *
  generalize (x - q + r) % (c + 1) = v at *
  exact addM_num mb c q r x _ _ _ _ w hb (by omega) (by omega) h2 h3 (by omega) (by omega) (by omega) (by omega) (by omega) (by omega) (by omega) (by omega) (by omega)
end Go.Proofs.Ytdeobmihkcfofaa
