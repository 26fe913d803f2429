/-
  SEVERAL TEXTS IN ONE: DskSmall, DskFile, RegCl.
-/
import Derived.Test.YtglaocghcgcghaaGreatDoorMany2
import Derived.Test.YtglaocghcgcghaaGreatDoorOwn
import Derived.WalkKit
import Derived.Deep.QuietTactic
import Derived.BigQuiet
namespace Go.Proofs.YtglaocghcgcghaaGreatDoor
open Go.RowKit Go.Maps

theorem i64_wrap {x : Int} (h1 : -9223372036854775808 ≤ x) (h2 : x < 9223372036854775808) : IntKind.i64.wrap x = x := by
  simp [IntKind.wrap, IntKind.signed, IntKind.bits]
  omega
/-- How many sectors so many bytes need. -/
def secI (x : Int) : Int := if x < 1 then 0 else (x - 1) / 16 + 1
theorem sectors_num (x : Int) (w : World) (h1 : -9223372036854775808 ≤ x) (h2 : x < 9223372036854775808) :
    Calls Tryz.prog 100 #[.int .i64 x] w fun e w' => e = .returned (.int .i64 (secI x)) ∧ w' = w := by
  have H : Hid (secI x = if x < 1 then 0 else (x - 1) / 16 + 1) := rfl
  go_enter Tryz.func100, Tryz.ntmps100
  go_wp2
  all_goals go_ret
  · exact ⟨ret_int (by rw [H.out, if_pos (by assumption)]), rfl⟩
  · exact ⟨ret_int (by rw [H.out, if_neg (by omega)]), rfl⟩
def letterI (c : Int) : Bool := decide (97 ≤ c) && decide (c ≤ 122)
theorem letterD_any (c : Int) (w : World) :
    Calls Tryz.prog 74 #[.int .u8 c] w fun e w' => e = .returned (.bool (letterI c)) ∧ w' = w := by
  have H : Hid (letterI c = (decide (97 ≤ c) && decide (c ≤ 122))) := rfl
  go_enter Tryz.func74, Tryz.ntmps74
  go_wp2
  all_goals go_ret
  · exact ⟨ret_bool (by rw [H.out]; simp [*]), rfl⟩
  · exact ⟨ret_bool (by rw [H.out, decide_eq_false (by omega : ¬ 97 ≤ c)]; rfl), rfl⟩
def allowedI (c : Int) : Bool := letterI c || (decide (48 ≤ c) && decide (c ≤ 57)) || c == 46 || c == 45
theorem allowed_any (c : Int) (w : World) :
    Calls Tryz.prog 75 #[.int .u8 c] w fun e w' => e = .returned (.bool (allowedI c)) ∧ w' = w := by
  have H : Hid (allowedI c = (letterI c || (decide (48 ≤ c) && decide (c ≤ 57)) || c == 46 || c == 45)) := rfl
  have L : Hid (∀ w, Calls Tryz.prog 74 #[.int .u8 c] w fun e w' => e = .returned (.bool (letterI c)) ∧ w' = w) := letterD_any c
  go_enter Tryz.func75, Tryz.ntmps75
  go_wp2_with (go_at_call 74; refine (L.out _).mono ?_; rintro e w1 ⟨rfl, rfl⟩)
  all_goals go_ret
  all_goals refine ⟨ret_bool ?_, rfl⟩
  all_goals first | (rw [H.out]; simp [*]; done) | (unfold allowedI; simp [*]; done) | skip
  · rename_i h1 h2 h3
    rw [H.out, Bool.eq_false_iff.2 h1, decide_eq_false (by omega : ¬ (48 : Int) ≤ c)]
    rfl
theorem ne_map (bm : Nat) (w : World) : (binOp BinOp.neq 59 (.map (some bm)) (.map none)).run Tryz.prog w = .ok (.bool true) w := by kernel_rfl
theorem ne_nomap (w : World) : (binOp BinOp.neq 59 (.map none) (.map none)).run Tryz.prog w = .ok (.bool false) w := by kernel_rfl
theorem made_any (d bm : Nat) (w : World) (h : w.cell? ⟨d, 0, none⟩ = some (.map (some bm))) :
    Calls Tryz.prog 31 #[.pointer (some ⟨d, 0, none⟩)] w fun e w' => e = .returned (.bool true) ∧ w' = w := by
  have hq := ne_map
  go_enter Tryz.func31, Tryz.ntmps31
  go_wp2
  go_ret
  exact ⟨rfl, rfl⟩
theorem made_zero (d : Nat) (w : World) (h : w.cell? ⟨d, 0, none⟩ = some (.map none)) :
    Calls Tryz.prog 31 #[.pointer (some ⟨d, 0, none⟩)] w fun e w' => e = .returned (.bool false) ∧ w' = w := by
  have hq := ne_nomap
  go_enter Tryz.func31, Tryz.ntmps31
  go_wp2
  go_ret
  exact ⟨rfl, rfl⟩
theorem made_nil (w : World) :
    Calls Tryz.prog 31 #[.pointer none] w fun e w' => e = .returned (.bool false) ∧ w' = w := by
  go_enter Tryz.func31, Tryz.ntmps31
  go_wp2
  go_ret
  exact ⟨rfl, rfl⟩
/-- May a file be called so? -/
def goodB (l : List UInt8) : Bool := decide (0 < l.length) && decide (l.length ≤ 40) && letterI ((l.getD 0 0).toNat : Int) && l.all fun c => allowedI (c.toNat : Int)
theorem goodD_any (s : ByteArray) (w : World) (hs : s.size ≤ maxLen) :
    Calls Tryz.prog 48 #[.string s] w fun e w' => e = .returned (.bool (goodB s.data.toList)) ∧ w' = w := by
  have hsz : (s.size : Int) ≤ 9223372036854775807 := by unfold maxLen at hs; omega
  have H : Hid (goodB s.data.toList = (decide (0 < s.size) && decide (s.size ≤ 40) && letterI ((s.data.toList.getD 0 0).toNat : Int) && s.data.toList.all fun c => allowedI (c.toNat : Int))) := rfl
  have L : Hid (∀ c w, Calls Tryz.prog 74 #[.int .u8 c] w fun e w' => e = .returned (.bool (letterI c)) ∧ w' = w) := letterD_any
  have M : Hid (∀ c w, Calls Tryz.prog 75 #[.int .u8 c] w fun e w' => e = .returned (.bool (allowedI c)) ∧ w' = w) := allowed_any
  clear hs
  by_cases h0 : s.size = 0
  · go_enter Tryz.func48, Tryz.ntmps48
    go_wp2_with fail
    go_ret
    exact ⟨ret_bool (by rw [H.out, h0]; rfl), rfl⟩
  by_cases h40 : 40 < s.size
  · go_enter Tryz.func48, Tryz.ntmps48
    go_wp2_with fail
    go_ret
    exact ⟨ret_bool (by rw [H.out, decide_eq_false (by omega : ¬ s.size ≤ 40)]; simp), rfl⟩
  have hb0 : ((s.size : Int) == 0) = false := by rw [beq_eq_false_iff_ne]; omega
  have hb1 : decide (40 < (s.size : Int)) = false := decide_eq_false (by omega)
  have hsi : (s.size : Int) ≤ 40 := by omega
  have hpos : 0 < s.size := by omega
  have hat : ∀ k (hk : k < s.size), s.data.toList.getD k 0 = s[k] := by
    intro k hk
    have : k < s.data.toList.length := by simpa using hk
    rw [List.getD_eq_getElem?_getD, List.getElem?_eq_getElem this]
    rfl
  have H0 : Hid (decide (0 < s.size) = true ∧ decide (s.size ≤ 40) = true) := ⟨by simp; omega, by simp; omega⟩
  have Hat : Hid (∀ k (hk : k < s.size), s.data.toList.getD k 0 = s[k]) := hat
  have Hlen : Hid (s.data.toList.length = s.size) := by show _ = _; simp
  clear hat h0 h40
  cases hl : letterI ((s.data.toList.getD 0 0).toNat : Int)
  · have L0 : Hid (∀ w, Calls Tryz.prog 74 #[.int .u8 (s[0].toNat : Int)] w fun e w' => e = .returned (.bool false) ∧ w' = w) := by
      intro w
      rw [← hl, Hat.out 0 hpos]
      exact L.out _ w
    go_enter Tryz.func48, Tryz.ntmps48
    go_wp2_with (go_at_call 74; refine (L0.out _).mono ?_; rintro e w1 ⟨rfl, rfl⟩)
    go_ret
    exact ⟨ret_bool (by rw [H.out, hl]; simp), rfl⟩
  · have L0 : Hid (∀ w, Calls Tryz.prog 74 #[.int .u8 (s[0].toNat : Int)] w fun e w' => e = .returned (.bool true) ∧ w' = w) := by
      intro w
      rw [← hl, Hat.out 0 hpos]
      exact L.out _ w
    have HL : Hid (letterI ((s.data.toList.getD 0 0).toNat : Int) = true) := hl
    clear hl
    go_enter Tryz.func48, Tryz.ntmps48
    go_wp2_with (go_at_call 74; refine (L0.out _).mono ?_; rintro e w1 ⟨rfl, rfl⟩)
    go_loop [20] (fun i => ∃ k : Nat, k ≤ s.size ∧ i = .int .i64 k ∧ ∀ j, j < k → allowedI ((s.data.toList.getD j 0).toNat : Int) = true) (fun i => s.size - (intOf i).toNat)
    case atStart => exact ⟨0, Nat.zero_le _, rfl, fun j hj => absurd hj (Nat.not_lt_zero _)⟩
    case round =>
      obtain ⟨k, hk, rfl, hall⟩ := hrel
      have HA : Hid (∀ j, j < k → allowedI ((s.data.toList.getD j 0).toNat : Int) = true) := hall
      clear hall
      by_cases hlt : k < s.size
      · cases hak : allowedI (s[k].toNat : Int)
        · have M0 : Hid (∀ w, Calls Tryz.prog 75 #[.int .u8 (s[k].toNat : Int)] w fun e w' => e = .returned (.bool false) ∧ w' = w) := by
            intro w
            rw [← hak]
            exact M.out _ w
          have HK : Hid (allowedI (s[k].toNat : Int) = false) := hak
          clear hak
          go_wp2_with (go_at_call 75; refine (M0.out _).mono ?_; rintro e w2 ⟨rfl, rfl⟩)
          go_ret
          refine ⟨ret_bool ?_, rfl⟩
          rw [H.out]
          have : (s.data.toList.all fun c => allowedI (c.toNat : Int)) = false := by
            rw [List.all_eq_false]
            refine ⟨s.data.toList.getD k 0, ?_, ?_⟩
            · have hk' : k < s.data.toList.length := by rw [Hlen.out]; exact hlt
              rw [List.getD_eq_getElem?_getD, List.getElem?_eq_getElem hk']
              exact List.getElem_mem hk'
            · rw [Hat.out k hlt, HK.out]
              simp
          rw [this]
          simp
        · have M0 : Hid (∀ w, Calls Tryz.prog 75 #[.int .u8 (s[k].toNat : Int)] w fun e w' => e = .returned (.bool true) ∧ w' = w) := by
            intro w
            rw [← hak]
            exact M.out _ w
          have HK : Hid (allowedI (s[k].toNat : Int) = true) := hak
          clear hak
          go_wp2_with (go_at_call 75; refine (M0.out _).mono ?_; rintro e w2 ⟨rfl, rfl⟩)
          go_round
          case rel =>
            refine ⟨k + 1, by omega, by go_num, fun j hj => ?_⟩
            by_cases e : j = k
            · subst e
              rw [Hat.out j hlt]
              exact HK.out
            · exact HA.out j (by omega)
          case measure => simp [intOf]; omega
      · obtain rfl : k = s.size := by omega
        go_wp2_with fail
        go_ret
        refine ⟨ret_bool ?_, rfl⟩
        rw [H.out, H0.out.1, H0.out.2, HL.out]
        have : (s.data.toList.all fun c => allowedI (c.toNat : Int)) = true := by
          rw [List.all_eq_true]
          intro c hc
          obtain ⟨j, hj, rfl⟩ := List.getElem_of_mem hc
          have := HA.out j (by rw [← Hlen.out]; exact hj)
          rw [List.getD_eq_getElem?_getD, List.getElem?_eq_getElem hj] at this
          exact this
        rw [this]
        rfl

/-! ### what a disk tells of itself -/
section
variable {w : World} {d bm : Nat} {S : St}
theorem on_any (h : DiskAt w d bm S) : Calls Tryz.prog 11 #[.pointer (some ⟨d, 0, none⟩)] w fun e w' => e = .returned (.bool S.on) ∧ w' = w := by
  have M : Hid (Calls Tryz.prog 31 #[.pointer (some ⟨d, 0, none⟩)] w fun e w' => e = .returned (.bool true) ∧ w' = w) := made_any d bm w h.c0
  have c2 := h.c2
  clear h
  go_enter Tryz.func11, Tryz.ntmps11
  go_wp2_with (go_at_call 31; refine M.out.mono ?_; rintro e w1 ⟨rfl, rfl⟩)
  go_ret
  exact ⟨rfl, rfl⟩
theorem start_any (h : DiskAt w d bm S) : Calls Tryz.prog 13 #[.pointer (some ⟨d, 0, none⟩)] w fun e w' => e = .returned (.tuple #[]) ∧ DiskAt w' d bm { S with on := true, left := 0 } ∧ Moved w w' [d] [d] := by
  have M : Hid (Calls Tryz.prog 31 #[.pointer (some ⟨d, 0, none⟩)] w fun e w' => e = .returned (.bool true) ∧ w' = w) := made_any d bm w h.c0
  have c2 := h.c2
  have c5 := h.c5
  have f2 := h.head.frozen 2
  have f5 := h.head.frozen 5
  have K : Hid (DiskAt w d bm S) := h
  clear h
  go_enter Tryz.func13, Tryz.ntmps13
  go_wp2_with (go_at_call 31; refine M.out.mono ?_; rintro e w1 ⟨rfl, rfl⟩)
  go_end0
  have k1 : DiskAt (w1.setCell ⟨d, 2, none⟩ (.bool true)) d bm { S with on := true } := K.out.put (S' := { S with on := true }) rfl 2 (.bool true) rfl
  exact ⟨rfl, k1.put (S' := { S with on := true, left := 0 }) rfl 5 (.int .i64 0) rfl, (Moved.of_set d 2 _).trans (Moved.of_set d 5 _)⟩
theorem nothing_any (w : World) : Calls Tryz.prog 64 #[] w fun e w' => e = .returned (.tuple #[]) ∧ w' = w := by
  go_enter Tryz.func64, Tryz.ntmps64
  go_wp2
  go_end0
  exact ⟨rfl, rfl⟩
end
end Go.Proofs.YtglaocghcgcghaaGreatDoor
namespace Go.Proofs.YtglaocghcgcghaaGreatDoor
open Go.RowKit Go.Maps

theorem B8_take (l : List UInt8) (n : Nat) : (B8 l).take n = B8 (l.take n) := by simp [B8, List.map_take]
/-- The first n bytes of a row of the file's own. -/
theorem owns_take {w : World} {base : Nat} {g cap len n : Nat} {l : List UInt8} (h : w.ownsRow base 5 1 (.slice (some ⟨g, 0, none⟩) len cap) len (B8 l)) (hn : n ≤ len) : w.ownsRow base 5 1 (.slice (some ⟨g, 0, none⟩) n cap) n (B8 (l.take n)) := by
  obtain ⟨h1, h2⟩ := h
  rw [B8_length, Nat.mul_one] at h1
  refine ⟨by rw [B8_length, List.length_take]; omega, ?_⟩
  rcases h2 with ⟨h2, _⟩ | ⟨g', cap', cur, hv, hb, hg, hc, hm, hs, ht⟩
  · cases h2
  · cases hv
    refine .inr ⟨_, _, cur, rfl, hb, hg, by omega, hm, hs, ?_⟩
    rw [← B8_take, ← ht, List.take_take]
    congr 1
    omega

theorem EntAt.c0 {w : World} {e : Ent} (h : EntAt w e) : w.cell? ⟨e.b, 0, none⟩ = some e.v1 := h.head.cell 0 rfl
theorem EntAt.c1 {w : World} {e : Ent} (h : EntAt w e) : w.cell? ⟨e.b, 1, none⟩ = some (.int .i64 (e.wr : Int)) := h.head.cell 1 rfl
theorem EntAt.c2 {w : World} {e : Ent} (h : EntAt w e) : w.cell? ⟨e.b, 2, none⟩ = some e.v2 := h.head.cell 2 rfl

theorem toList_nil : (Value.slice none 0 0).ownBlock.toList = [] := rfl
/-- The beginning of a slice. -/
def cutV (v : Value) (n : Nat) : Value := match v with | .slice ao _ cap => .slice ao n cap | v => v
/-- So many bytes are there, and all of them are written. -/
def endE (e : Ent) (n : Nat) : Ent := { e with v1 := cutV e.v1 n, v2 := .slice none 0 0, bs := e.bs.take n, wr := n, pl := [] }
/-- All three cells of a file's head are written, its rows stay where they are. -/
theorem ent_end {w : World} {e : Ent} (h : EntAt w e) (n : Nat) (v : Value) (hcv : cutV e.v1 n = v) (hv : w.ownsRow 0 5 1 v n (B8 (e.bs.take n))) (ho : v.ownBlock = e.v1.ownBlock) (z : Int) (hz : z = (n : Int)) (hn : n ≤ e.bs.length) :
    EntAt (((w.setCell ⟨e.b, 0, none⟩ v).setCell ⟨e.b, 1, none⟩ (.int .i64 z)).setCell ⟨e.b, 2, none⟩ (.slice none 0 0)) (endE e n) ∧
      Moved w (((w.setCell ⟨e.b, 0, none⟩ v).setCell ⟨e.b, 1, none⟩ (.int .i64 z)).setCell ⟨e.b, 2, none⟩ (.slice none 0 0)) e.foot (endE e n).foot := by
  subst hz
  have hap := h.apart
  simp only [Ent.foot, List.nodup_cons, List.mem_append, not_or] at hap
  have hk : ∀ j, j ≠ e.b → (((w.setCell ⟨e.b, 0, none⟩ v).setCell ⟨e.b, 1, none⟩ (.int .i64 (n : Int))).setCell ⟨e.b, 2, none⟩ (.slice none 0 0)).heap[j]? = w.heap[j]? := fun j hj =>
    ((Below.heap_setCell _ _ _ _ hj).trans (Below.heap_setCell _ _ _ _ hj)).trans (Below.heap_setCell _ _ _ _ hj)
  have hM : Moved w (((w.setCell ⟨e.b, 0, none⟩ v).setCell ⟨e.b, 1, none⟩ (.int .i64 (n : Int))).setCell ⟨e.b, 2, none⟩ (.slice none 0 0)) [e.b] [e.b] := ((Moved.of_set e.b 0 _).trans (Moved.of_set e.b 1 _)).trans (Moved.of_set e.b 2 _)
  refine ⟨⟨?_, ?_, ?_, ?_⟩, hM.wider (fun i hi => .inl (by simp at hi; simp [Ent.foot, hi])) (fun i hi => ?_)⟩
  · show Blk _ e.b [cutV e.v1 n, .int .i64 (n : Int), .slice none 0 0] _
    rw [hcv]
    exact ((h.head.setTo 0 v [v, .int .i64 (e.wr : Int), e.v2] rfl).setTo 1 _ [v, .int .i64 (n : Int), e.v2] rfl).setTo 2 _ [v, .int .i64 (n : Int), .slice none 0 0] rfl
  · have : (e.bs.take n).length = n := by rw [List.length_take]; omega
    show World.ownsRow _ 0 5 1 (cutV e.v1 n) (e.bs.take n).length (B8 (e.bs.take n))
    rw [this, hcv]
    exact owns_carry hv fun g hg => hk g fun hgb => hap.1.1 (by rw [ho] at hg; simp [hg, hgb])
  · exact World.ownsRow_nil _ _ _ _
  · simp only [Ent.foot, endE, hcv, ho, toList_nil, List.append_nil, List.nodup_cons]
    exact ⟨hap.1.1, (List.nodup_append.1 hap.2).1⟩
  · simp only [Ent.foot, endE, hcv, ho, toList_nil, List.append_nil, List.mem_cons, List.mem_append] at hi ⊢
    rcases hi with h1 | h1
    · exact .inl (.inl h1)
    · exact .inl (.inr (.inl h1))

set_option maxRecDepth 100000 in
theorem endAt_any {w : World} {e : Ent} (h : EntAt w e) (n : Nat) (hn : n ≤ e.bs.length) :
    Calls Tryz.prog 59 #[.pointer (some ⟨e.b, 0, none⟩), .int .i64 (n : Int)] w fun x w' => x = .returned (.tuple #[]) ∧ EntAt w' (endE e n) ∧ Moved w w' e.foot (endE e n).foot := by
  have c0 := h.c0
  have c1 := h.c1
  have c2 := h.c2
  have f0 := h.head.frozen 0
  have f1 := h.head.frozen 1
  have f2 := h.head.frozen 2
  have K : Hid (EntAt w e) := h
  rcases h.row1.2 with ⟨hv, hl⟩ | ⟨g, cap, cur, hv, hb, hg, hc, hm, hs, ht⟩
  · have hn0 : n = 0 := by omega
    subst hn0
    have E := ent_end h 0 (.slice none 0 0) (by rw [hv]; rfl) (by rw [List.take_zero]; exact World.ownsRow_nil _ _ _ _) (by rw [hv]) 0 rfl hn
    have EH : Hid _ := E
    rw [hv] at c0
    clear h E
    go_enter Tryz.func59, Tryz.ntmps59
    go_wp2
    go_end0
    exact ⟨rfl, EH.out⟩
  · have E := ent_end h n (.slice (some ⟨g, 0, none⟩) n cap) (by rw [hv]; rfl) (owns_take (hv ▸ h.row1) hn) (by rw [hv]; rfl) n rfl hn
    have EH : Hid _ := E
    rw [hv] at c0
    have hci : (cap : Int) ≤ 9223372036854775807 := by unfold maxLen at hm; omega
    have hnc : (n : Int) ≤ (cap : Int) := by omega
    clear hm hb hg hs ht h E
    go_enter Tryz.func59, Tryz.ntmps59
    go_wp2
    go_end0
    exact ⟨rfl, EH.out⟩

def InR (x : Int) : Prop := -9223372036854775808 ≤ x ∧ x < 9223372036854775808
theorem sectors_in (x : Int) (w : World) (h : InR x) : Calls Tryz.prog 100 #[.int .i64 x] w fun x' w' => x' = .returned (.int .i64 (secI x)) ∧ w' = w := sectors_num x w h.1 h.2
theorem secI_bd {x : Int} (h : InR x) : 0 ≤ secI x ∧ secI x ≤ 576460752303423488 := by unfold InR at h; unfold secI; split <;> omega
theorem lacks_any {w : World} {e : Ent} (h : EntAt w e) (n : Nat) (hn : (e.bs.length : Int) + n < 9223372036854775807) :
    Calls Tryz.prog 76 #[.pointer (some ⟨e.b, 0, none⟩), .int .i64 (n : Int)] w fun x w' => x = .returned (.int .i64 (secI ((e.bs.length : Int) + n) - secI e.bs.length)) ∧ ∃ k, w' = w.drewN k := by
  obtain ⟨ao, cap, hv, _⟩ := owns_sees h.row1
  have c0 := h.c0
  rw [hv] at c0
  have r1 : InR ((e.bs.length : Int) + n) := ⟨by omega, by omega⟩
  have r2 : InR (e.bs.length : Int) := ⟨by omega, by omega⟩
  have S1 : Hid (∀ (x : Int) (w : World), InR x → Calls Tryz.prog 100 #[.int .i64 x] w fun x' w' => x' = .returned (.int .i64 (secI x)) ∧ w' = w) := sectors_in
  have hb1 := secI_bd r1
  have hb2 := secI_bd r2
  clear h hv
  have hw : IntKind.i64.wrap ((e.bs.length : Int) + n) = (e.bs.length : Int) + n := i64_wrap (by omega) (by omega)
  have hw2 : IntKind.i64.wrap (secI ((e.bs.length : Int) + n) - secI (e.bs.length : Int)) = secI ((e.bs.length : Int) + n) - secI (e.bs.length : Int) := i64_wrap (by omega) (by omega)
  generalize e.bs.length = L at *
  go_enter Tryz.func76, Tryz.ntmps76
  go_wp2
  go_quiet ((go_at_call 100; exact Calls.quiet_of_same (S1.out _ _ (by first | exact r1 | exact r2))))
  go_wp2
  go_ret
  exact ⟨rfl, _, rfl⟩

/-! ### bytes at a file's end -/
/-- How many sectors more become dirty. -/
def growN (len wr np : Nat) : Nat := ((len + 15) / 16 - wr / 16) - np
theorem secI_nat (n : Nat) : secI (n : Int) = ((n + 15) / 16 : Nat) := by unfold secI; split <;> omega
set_option maxRecDepth 100000 in
theorem lay_none {w : World} {e : Ent} (ao : Option Addr) (c : Nat) (z : Int) :
    Calls Tryz.prog 79 #[.pointer (some ⟨e.b, 0, none⟩), .slice ao 0 c, .int .i64 z] w fun x w' => x = .returned (.int .i64 z) ∧ w' = w := by
  go_enter Tryz.func79, Tryz.ntmps79
  go_wp2
  go_ret
  exact ⟨rfl, rfl⟩
theorem info8D : (Tryz.prog.info? 5).map (fun i => (i.zero, i.size, i.bytes)) = some (some (.int .u8 0), 1, 1) := by kernel_rfl
theorem infoI : (Tryz.prog.info? 3).map (fun i => (i.zero, i.size, i.bytes)) = some (some (.int .i64 0), 1, 8) := by kernel_rfl
theorem src_int (w : World) (z : Int) : Src Tryz.prog 1 78 (.slice (some ⟨w.heap.size, 0, none⟩) 1 1) 1 [.int .i64 z] (w.alloc (.cells #[.int .i64 z] 3)) := by
  refine Src.ofSlice _ Tryz.underlying78 _ 1 1 _ rfl ?_ (by simp [Value.oneCell'])
  intro j u hu
  match j, hu with
  | 0, hu => simp at hu; subst hu; simp [Addr.add]
  | j + 1, hu => simp at hu

/-- The head of a file behind an append onto one of its rows. -/
theorem ent_heads {w w1 : World} {e : Ent} (h : EntAt w e) {v v' : Value} (hg : Grew w w1 v v') (hv : v.ownBlock = e.v1.ownBlock ∨ v.ownBlock = e.v2.ownBlock) : Blk w1 e.b [e.v1, .int .i64 (e.wr : Int), e.v2] 92 := by
  refine h.head.carry (hg.rows.block e.b h.head.lt fun hb => ?_)
  have hap := h.apart
  simp only [Ent.foot, List.nodup_cons, List.mem_append, not_or] at hap
  rcases hv with hv | hv
  · exact hap.1.1 (by rw [← hv, ← hb]; simp)
  · exact hap.1.2 (by rw [← hv, ← hb]; simp)
theorem ent_cells2 {w w1 : World} {e : Ent} (h : EntAt w e) {v' : Value} (hg : Grew w w1 e.v2 v') {b : Nat} (hb : e.b = b) : w1.cell? ⟨b, 2, none⟩ = some e.v2 ∧ w1.frozen? ⟨b, 2, none⟩ = false := by
  subst hb
  exact ⟨(ent_heads h hg (.inr rfl)).cell 2 rfl, (ent_heads h hg (.inr rfl)).frozen 2⟩
theorem mem_own {o : Option Nat} {i : Nat} : i ∈ o.toList ↔ o = some i := by cases o <;> simp [eq_comm]
/-- Bytes were appended, and the new slice is stored. -/
theorem ent_row1 {w w1 : World} {e : Ent} (h : EntAt w e) {v' : Value} {bs' : List UInt8} {n : Nat} (hn : n = bs'.length) (ho : w1.ownsRow 0 5 1 v' n (B8 bs')) (hg : Grew w w1 e.v1 v') :
    EntAt (w1.setCell ⟨e.b, 0, none⟩ v') { e with v1 := v', bs := bs' } ∧ Moved w (w1.setCell ⟨e.b, 0, none⟩ v') e.foot (Ent.foot { e with v1 := v', bs := bs' }) := by
  subst hn
  have hap := h.apart
  have hlt := h.lt
  simp only [Ent.foot, List.nodup_cons, List.mem_append, not_or, List.nodup_append] at hap
  have hown : ∀ g, v'.ownBlock = some g → e.v1.ownBlock = some g ∨ w.heap.size ≤ g := hg.own
  have hb' : ∀ g, v'.ownBlock = some g → g ≠ e.b := fun g hgv hgb => by
    rcases hown g hgv with h1 | h1
    · exact hap.1.1 (mem_own.2 (hgb ▸ h1))
    · have := h.head.lt; omega
  have hne2 : ∀ g, e.v2.ownBlock = some g → g ≠ e.b ∧ some g ≠ e.v1.ownBlock := fun g hg2 => ⟨fun hgb => hap.1.2 (mem_own.2 (hgb ▸ hg2)), fun he => hap.2.2.2 g (mem_own.2 he.symm) g (mem_own.2 hg2) rfl⟩
  have hM : Moved w w1 e.foot e.foot := (Moved.of_grown hg.rows).wider (fun i hi => .inl (by simp only [Ent.foot, List.mem_cons, List.mem_append]; exact .inr (.inl hi))) (fun i hi => .inl hi)
  have hM2 : Moved w1 (w1.setCell ⟨e.b, 0, none⟩ v') e.foot e.foot := (Moved.of_set e.b 0 v').wider (fun i hi => .inl (by simp at hi; simp [Ent.foot, hi])) (fun i hi => .inl hi)
  refine ⟨⟨?_, ?_, ?_, ?_⟩, (hM.trans hM2).wider (fun i hi => .inl hi) (fun i hi => ?_)⟩
  · exact (ent_heads h hg (.inl rfl)).setTo 0 v' _ rfl
  · exact owns_carry ho fun g hgv => Below.heap_setCell _ _ _ _ (hb' g hgv)
  · exact owns_carry h.row2 fun g hg2 => (Below.heap_setCell _ _ _ _ (hne2 g hg2).1).trans (hg.rows.block g (h.row2.lt g hg2).2 (hne2 g hg2).2)
  · simp only [Ent.foot, List.nodup_cons, List.mem_append, not_or, List.nodup_append]
    refine ⟨⟨fun hi => hb' _ (mem_own.1 hi) rfl, hap.1.2⟩, by cases v'.ownBlock <;> simp, hap.2.2.1, fun a ha b hb hab => ?_⟩
    subst hab
    rcases hown a (mem_own.1 ha) with h1 | h1
    · exact hap.2.2.2 a (mem_own.2 h1) a hb rfl
    · have := (h.row2.lt a (mem_own.1 hb)).2; omega
  · simp only [Ent.foot, List.mem_cons, List.mem_append] at hi ⊢
    rcases hi with h1 | h1 | h1
    · exact .inl (.inl h1)
    · rcases hown i (mem_own.1 h1) with h2 | h2
      · exact .inl (.inr (.inl (mem_own.2 h2)))
      · exact .inr (.inr h2)
    · exact .inl (.inr (.inr h1))
/-- Places were appended, and the new slice is stored. -/
theorem ent_row2 {w w1 : World} {e : Ent} (h : EntAt w e) {v' : Value} {pl' : List Nat} {n : Nat} (hn : n = pl'.length) (ho : w1.ownsRow 0 3 1 v' n (I64D pl')) (hg : Grew w w1 e.v2 v') :
    EntAt (w1.setCell ⟨e.b, 2, none⟩ v') { e with v2 := v', pl := pl' } ∧ Moved w (w1.setCell ⟨e.b, 2, none⟩ v') e.foot (Ent.foot { e with v2 := v', pl := pl' }) := by
  subst hn
  have hap := h.apart
  have hlt := h.lt
  simp only [Ent.foot, List.nodup_cons, List.mem_append, not_or, List.nodup_append] at hap
  have hown : ∀ g, v'.ownBlock = some g → e.v2.ownBlock = some g ∨ w.heap.size ≤ g := hg.own
  have hb' : ∀ g, v'.ownBlock = some g → g ≠ e.b := fun g hgv hgb => by
    rcases hown g hgv with h1 | h1
    · exact hap.1.2 (mem_own.2 (hgb ▸ h1))
    · have := h.head.lt; omega
  have hne2 : ∀ g, e.v1.ownBlock = some g → g ≠ e.b ∧ some g ≠ e.v2.ownBlock := fun g hg2 => ⟨fun hgb => hap.1.1 (mem_own.2 (hgb ▸ hg2)), fun he => hap.2.2.2 g (mem_own.2 hg2) g (mem_own.2 he.symm) rfl⟩
  have hM : Moved w w1 e.foot e.foot := (Moved.of_grown hg.rows).wider (fun i hi => .inl (by simp only [Ent.foot, List.mem_cons, List.mem_append]; exact .inr (.inr hi))) (fun i hi => .inl hi)
  have hM2 : Moved w1 (w1.setCell ⟨e.b, 2, none⟩ v') e.foot e.foot := (Moved.of_set e.b 2 v').wider (fun i hi => .inl (by simp at hi; simp [Ent.foot, hi])) (fun i hi => .inl hi)
  refine ⟨⟨?_, ?_, ?_, ?_⟩, (hM.trans hM2).wider (fun i hi => .inl hi) (fun i hi => ?_)⟩
  · exact (ent_heads h hg (.inr rfl)).setTo 2 v' _ rfl
  · exact owns_carry h.row1 fun g hg2 => (Below.heap_setCell _ _ _ _ (hne2 g hg2).1).trans (hg.rows.block g (h.row1.lt g hg2).2 (hne2 g hg2).2)
  · exact owns_carry ho fun g hgv => Below.heap_setCell _ _ _ _ (hb' g hgv)
  · simp only [Ent.foot, List.nodup_cons, List.mem_append, not_or, List.nodup_append]
    refine ⟨⟨hap.1.1, fun hi => hb' _ (mem_own.1 hi) rfl⟩, hap.2.1, by cases v'.ownBlock <;> simp, fun a ha b hb hab => ?_⟩
    subst hab
    rcases hown a (mem_own.1 hb) with h1 | h1
    · exact hap.2.2.2 a ha a (mem_own.2 h1) rfl
    · have := (h.row1.lt a (mem_own.1 ha)).2; omega
  · simp only [Ent.foot, List.mem_cons, List.mem_append] at hi ⊢
    rcases hi with h1 | h1 | h1
    · exact .inl (.inl h1)
    · exact .inl (.inr (.inl h1))
    · rcases hown i (mem_own.1 h1) with h2 | h2
      · exact .inl (.inr (.inr (mem_own.2 h2)))
      · exact .inr (.inr h2)
/-- A row of one block, seen as a slice. -/
theorem owns_form {w : World} {base e n : Nat} {v : Value} {xs : List Value} (h : w.ownsRow base e 1 v n xs) : ∃ ao cap, v = .slice ao n cap ∧ n ≤ cap ∧ cap ≤ 9223372036854775807 := by
  rcases h.2 with ⟨rfl, rfl⟩ | ⟨g, cap, cur, rfl, _, _, hn, hm, _⟩
  · exact ⟨_, _, rfl, Nat.le_refl _, by omega⟩
  · exact ⟨_, _, rfl, hn, by unfold maxLen at hm; omega⟩
theorem I64_snoc (a : List Nat) (n k : Nat) : I64D (a ++ [n + k]) = I64D a ++ [.int .i64 ((n : Int) + (k : Int))] := by simp [I64D]
theorem I64_append (a b : List Nat) : I64D (a ++ b) = I64D a ++ I64D b := List.map_append

/-- An append onto a row of the call's own: the answer's shape is written out. -/
theorem wpList_append_shape {P : Program} (w : World) {ops : Array Oper} {rest : List Oper} {o : Oper} {a : Act} {Q : Exit → Act → World → Prop} (hgd : o.guard = none) (s x : Operand) (t tx : TypeId)
    (ho : o.op = .call { callee := .builtin .append, args := #[s, x], argTypes := #[t, tx] })
    (base : Nat) (e : TypeId) (i : TypeInfo) (z : Value) (bytes : Nat) (ht : P.underlying t = some (.slice e)) (hi : P.info? e = some i) (hz : i.zero = some z)
    (hsize : i.size = 1) (hby : i.bytes = bytes) (hzs : z.cells.size = 1)
    (v : Value) (n : Nat) (xs : List Value) (hs : a.eval s = v) (hown : w.ownsRow base e 1 v n xs)
    (xv : Value) (m : Nat) (news : List Value) (hx : a.eval x = xv) (hsrc : Src P 1 tx xv m news w)
    (h63 : n + m ≤ maxLen) (hbytes : (n + m) * bytes ≤ 140737488355328) (hbase : base ≤ w.heap.size)
    (h : ∀ ao cap w', w'.ownsRow base e 1 (.slice ao (n + m) cap) (n + m) (xs ++ news) → Grew w w' v (.slice ao (n + m) cap) → wpList P ops Q rest (a.put o.dst (.slice ao (n + m) cap)) w') : wpList P ops Q (o :: rest) a w :=
  wpList_append_grew w hgd s x t tx ho base e i z 1 bytes ht hi hz hsize hby hzs v n xs hs hown xv m news hx hsrc h63 hbytes hbase (fun v' w' h1 h2 => by
    obtain ⟨ao, cap, rfl, _⟩ := owns_form h1
    exact h ao cap w' h1 h2)
end Go.Proofs.YtglaocghcgcghaaGreatDoor
namespace Go.Proofs.YtglaocghcgcghaaGreatDoor
open Go.RowKit

/-- A world in which all blocks below n are as they were in w. -/
structure Cl (n : Nat) (w : World) where
  u : World
  h : Below n w u
theorem Cl.inh (n : Nat) (w : World) : Nonempty (Cl n w) := ⟨⟨w, Below.refl n w⟩⟩
theorem wp_region_cl {P : Program} {id : Nat} {Q : Exit → Act → World → Prop} {a : Act} {w : World} {l : List Oper} (n : Nat) (hm : P.follows .mixedOrders = true) (hB : Region.lexB .any l.toArray = true)
    (h : wpQuiet P l.toArray (fun w' => ∃ p : Cl n w, w' = p.u) (fun a' => ∀ w', (∃ p : Cl n w, w' = p.u) → Q .normal a' w') l a) : (Code.region id l.toArray true).wp P Q a w :=
  wp_region_quiet (C := fun w' => ∃ p : Cl n w, w' = p.u) hm hB ⟨⟨w.drew, (Below.refl n w).drew⟩, rfl⟩ (by simpa using h)
theorem Cl.calls {P : Program} {f : FuncId} {args : Array Value} {n : Nat} {w : World} {p : Cl n w} {v : Value} (hn : n ≤ w.heap.size)
    (h : Calls P f args p.u fun e w' => e = .returned v ∧ Below p.u.heap.size p.u w') : Calls P f args p.u fun e w'' => e = .returned v ∧ ∃ q : Cl n w, w'' = q.u :=
  h.mono fun _ w' ⟨he, hb⟩ => ⟨he, ⟨w', p.h.trans (hb.mono (Nat.le_trans hn p.h.size))⟩, rfl⟩
theorem Cl.cell {n : Nat} {w : World} (p : Cl n w) {a : Addr} {v : Value} (hb : a.block < n) (h : w.cell? a = some v) : p.u.cell? a = some v := by rw [p.h.cell hb, h]
end Go.Proofs.YtglaocghcgcghaaGreatDoor
