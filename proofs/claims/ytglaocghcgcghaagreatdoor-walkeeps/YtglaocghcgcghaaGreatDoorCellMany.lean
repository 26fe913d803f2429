/-
  CONTRACTS: Cells, for every argument; how heavy cells are.
-/
import Derived.Test.YtglaocghcgcghaaGreatDoorMany18
import Derived.Deep.MidRow
namespace Go.Proofs.YtglaocghcgcghaaGreatDoor
open Go.RowKit

/-- The cells l can be read from the address on. -/
def CSees (w : World) (ao : Option Addr) (l : List CellV) : Prop := ∀ i c, l[i]? = some c → ∃ b off, ao = some ⟨b, off, none⟩ ∧ w.rangeAt b (off + i * 10) (cellA c).toList
theorem CSees.below {w w' : World} {ao : Option Addr} {l : List CellV} (h : CSees w ao l) {B : Nat} (hb : Below B w w') (hB : w.heap.size ≤ B) : CSees w' ao l := by
  intro i c hc
  obtain ⟨b, off, e, hr⟩ := h i c hc
  refine ⟨b, off, e, fun j v hv => ?_⟩
  have h1 := hr j v hv
  have hlt := World.block_lt_of_cell? _ _ h1
  rw [hb.cell (p := ⟨b, off + i * 10 + j, none⟩) (by omega), h1]
/-- Ten cells, one by one. -/
structure TenAt (w : World) (b o : Nat) (c : CellV) : Prop where
  c0 : w.cell? ⟨b, o, none⟩ = some (.string c.key.table)
  c1 : w.cell? ⟨b, o + 1, none⟩ = some (.string c.key.part)
  c2 : w.cell? ⟨b, o + 2, none⟩ = some (.int .i64 c.key.row)
  c3 : w.cell? ⟨b, o + 3, none⟩ = some (.string c.key.col)
  c4 : w.cell? ⟨b, o + 4, none⟩ = some (.int .i64 c.ver.time)
  c5 : w.cell? ⟨b, o + 5, none⟩ = some (.bool c.ver.dead)
  c6 : w.cell? ⟨b, o + 6, none⟩ = some (.int .i64 c.ver.loc)
  c7 : w.cell? ⟨b, o + 7, none⟩ = some (.int .i64 c.ver.val.kind)
  c8 : w.cell? ⟨b, o + 8, none⟩ = some (.int .i64 c.ver.val.num)
  c9 : w.cell? ⟨b, o + 9, none⟩ = some (.string c.ver.val.s)
theorem TenAt.of {w : World} {b o : Nat} {c : CellV} (h : w.rangeAt b o (cellA c).toList) : TenAt w b o c :=
  ⟨h 0 _ rfl, h 1 _ rfl, h 2 _ rfl, h 3 _ rfl, h 4 _ rfl, h 5 _ rfl, h 6 _ rfl, h 7 _ rfl, h 8 _ rfl, h 9 _ rfl⟩
theorem CSees.ten {w : World} {ao : Option Addr} {l : List CellV} (h : CSees w ao l) {i : Nat} {c : CellV} (hc : l[i]? = some c) : ∃ b off, ao = some ⟨b, off, none⟩ ∧ TenAt w b (off + i * 10) c := by
  obtain ⟨b, off, e, hr⟩ := h i c hc
  exact ⟨b, off, e, .of hr⟩

theorem take_succ_of {α : Type} {l : List α} {i : Nat} {c : α} (h : l[i]? = some c) : l.take (i + 1) = l.take i ++ [c] := by
  rw [List.take_add_one, h]
  rfl
theorem manyL_step {l : List CellV} {i : Nat} {c : CellV} (h : l[i]? = some c) : manyL (l.take (i + 1)) = manyL (l.take i) ++ cellL c := by
  rw [take_succ_of h, manyL_append]
  unfold manyL
  simp
theorem wtLD_step {l : List CellV} {i : Nat} {c : CellV} (h : l[i]? = some c) : wtLD (l.take i) + wtD c ≤ wtLD l := by
  have e2 : wtLD (l.take (i + 1) ++ l.drop (i + 1)) = wtLD (l.take (i + 1)) + wtLD (l.drop (i + 1)) := by
    unfold wtLD
    rw [List.map_append, List.sum_append]
  rw [List.take_append_drop] at e2
  rw [e2, take_succ_of h]
  unfold wtLD
  rw [List.map_append, List.sum_append]
  simp
theorem wtL_step {l : List CellV} {i : Nat} {c : CellV} (h : l[i]? = some c) : wtL (l.take i) + wtC c ≤ wtL l := by
  have e2 : wtL (l.take (i + 1) ++ l.drop (i + 1)) = wtL (l.take (i + 1)) + wtL (l.drop (i + 1)) := by
    unfold wtL
    rw [List.map_append, List.sum_append]
  rw [List.take_append_drop] at e2
  rw [e2, take_succ_of h]
  unfold wtL
  rw [List.map_append, List.sum_append]
  simp

set_option maxRecDepth 100000 in
set_option maxHeartbeats 1600000 in
theorem cells_anyD (ao : Option Addr) (l : List CellV) (cap : Nat) (w : World) (hs : CSees w ao l) (hok : ∀ c ∈ l, c.Ok) (hw : wtLD l + 81 * l.length ≤ 140737488330000) :
    Calls Tryz.prog 30 #[.slice ao l.length cap] w fun e w' => ∃ v', e = .returned v' ∧ w'.ownsRow w.heap.size 5 1 v' (cellsL l).length (B8 (cellsL l)) ∧ Below w.heap.size w w' := by
  have hnl := (numL_length l.length).2
  have Hc1 : Hid _ := addNumber_any w.heap.size (.slice none 0 0) 0 [] l.length w (World.ownsRow_nil _ _ _ _) (by omega) (by omega) (Nat.le_refl _)
  have hlz : (l.length : Int) ≤ 140737488330000 := by omega
  go_enter Tryz.func30, Tryz.ntmps30
  go_wp2_with fail
  refine Calls.mono (Hid.out Hc1) ?_
  rintro e w1 ⟨v1, rfl, ho1, hg1⟩
  have hb1 : Below w.heap.size w w1 := hg1.below (Nat.le_refl _) (fun g hg => by cases hg)
  have hs1 := hs.below hb1 (Nat.le_refl _)
  have ho1' : w1.ownsRow w.heap.size 5 1 v1 (numL l.length).length (B8 (numL l.length)) := by simpa using ho1
  clear Hc1 ho1
  go_wp2_with fail
  go_loopw [3, 12] (fun s3 s12 wr => ∃ i : Nat, i ≤ l.length ∧ s12 = .int .i64 i ∧ wr.ownsRow w.heap.size 5 1 s3 (numL l.length ++ manyL (l.take i)).length (B8 (numL l.length ++ manyL (l.take i))) ∧ Grew w1 wr v1 s3) (fun _ s12 _ => l.length - (intOf s12).toNat)
  case atStart => exact ⟨0, by omega, rfl, by simpa [manyL] using ho1', Grew.refl _ _⟩
  case round =>
    obtain ⟨i, hi, rfl, ho, hg⟩ := hrel
    have hbr : Below w.heap.size w wr := hb1.trans (hg.below hb1.size (fun g hg => (ho1'.lt g hg).1))
    rcases Nat.lt_or_ge i l.length with hlt | hge
    · have hc : l[i]? = some l[i] := List.getElem?_eq_getElem hlt
      have hco := hok l[i] (List.getElem_mem hlt)
      have hst := manyL_step hc
      have hwt := wtLD_step hc
      have hml := manyL_leD (l.take i)
      rw [List.length_take, Nat.min_eq_left hi] at hml
      obtain ⟨b, off, rfl, hld⟩ := (hs.below hbr (Nat.le_refl _)).ten hc
      generalize l[i] = c at *
      unfold wtD at hwt
      have Hst : Hid _ := hst
      have HB : Hid (Box _ _ _ _) := Box.new wr (cellA c) 50
      have Hne : Hid (u3.ownBlock ≠ some wr.heap.size) := owns_ne_new ho
      have hbz := hbr.size
      generalize hn : (numL l.length ++ manyL (l.take i)).length = n at *
      rw [List.length_append] at hn
      have Hk : Hid c.key.Ok := hco.key
      have Hv : Hid c.ver.Ok := hco.ver
      have hkl := keyL_le c.key
      clear hst hc hs hs1 hco
      obtain ⟨⟨table, part, row, col⟩, ⟨time, dead, loc, kind, num, s⟩⟩ := c
      simp only at hwt
      simp only at hkl
      obtain ⟨k0, k1, k2, k3, k4, k5, k6, k7, k8, k9⟩ := hld
      simp only at k0 k1 k2 k3 k4 k5 k6 k7 k8 k9
      unfold cellA at *
      go_wp2_with fail
      have ho0 := ho.alloc (.cells #[.string table, .string part, .int .i64 row, .string col, .int .i64 time, .bool dead, .int .i64 loc, .int .i64 kind, .int .i64 num, .string s] 50)
      clear k0 k1 k2 k3 k4 k5 k6 k7 k8 k9
      go_region_with (first
        | (go_at_call 57; go_must (refine Calls.mono (addKey_any w.heap.size u3 _ _ ⟨table, part, row, col⟩ _ (by exact ho0) Hk.out (by simp only; omega) (by simp; omega)) ?_; rintro e w2 ⟨v2, rfl, ho2, hg2⟩; have g2 := Grew.like (w := wr.alloc (.cells #[.string table, .string part, .int .i64 row, .string col, .int .i64 time, .bool dead, .int .i64 loc, .int .i64 kind, .int .i64 num, .string s] 50)) hg2 rfl rfl rfl rfl; have hB2 := HB.out.grew g2 Hne.out; have d4 := hB2.cell 4; have d5 := hB2.cell 5; have d6 := hB2.cell 6; have d7 := hB2.cell 7; have d8 := hB2.cell 8; have d9 := hB2.cell 9; have hb2 : w.heap.size ≤ w2.heap.size := Nat.le_trans (Nat.le_trans hbz (by simp)) g2.rows.size))
        | (go_at_call 56; go_must (refine Calls.mono (addVersion_any w.heap.size v2 _ _ ⟨time, dead, loc, kind, num, s⟩ _ (by exact ho2) Hv.out (by omega) (by exact hb2)) ?_; rintro e w3 ⟨v3, rfl, ho3, hg3⟩)))
      all_goals
        clear hg2 d4 d5 d6 d7 d8 d9 ho0
        go_wp2
        go_roundw
        case rel =>
          refine ⟨i + 1, by omega, by go_num, ?_, hg.trans (Grew.alloc (g2.trans (hg3.like rfl rfl rfl rfl)))⟩
          rw [Hst.out]
          unfold cellL
          have e : (numL l.length ++ (manyL (l.take i) ++ (keyL ⟨table, part, row, col⟩ ++ verL ⟨time, dead, loc, kind, num, s⟩))).length = n + (keyL ⟨table, part, row, col⟩).length + (verL ⟨time, dead, loc, kind, num, s⟩).length := by
            simp only [List.length_append]
            omega
          rw [e]
          simpa only [List.append_assoc] using ho3
        case measure => simp [intOf]; omega
    · obtain rfl : i = l.length := by omega
      rw [List.take_length] at ho
      clear hs hs1 hge hi
      go_wp2
      go_ret
      exact ⟨_, rfl, ho, hbr⟩
theorem cells_any (ao : Option Addr) (l : List CellV) (cap : Nat) (w : World) (hs : CSees w ao l) (hok : ∀ c ∈ l, c.Ok) (hw : wtL l + 81 * l.length ≤ 140737488330000) :
    Calls Tryz.prog 30 #[.slice ao l.length cap] w fun e w' => ∃ v', e = .returned v' ∧ w'.ownsRow w.heap.size 5 1 v' (cellsL l).length (B8 (cellsL l)) ∧ Below w.heap.size w w' :=
  cells_anyD ao l cap w hs hok (by have := wtLD_le l; omega)
end Go.Proofs.YtglaocghcgcghaaGreatDoor
