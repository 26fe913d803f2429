/-
  THE LAW CodecCells, walked.
-/
import Derived.Test.YtakokhdnccaclaaDoorCellLike
import Derived.Test.YtakokhdnccaclaaDoorRefReads
import Derived.Test.YtakokhdnccaclaaDoorRefCells
namespace Go.Proofs.YtakokhdnccaclaaDoor
open Go.RowKit

theorem owns_under {w w' : World} {base : Nat} {e : TypeId} {size : Nat} {v : Value} {n : Nat} {xs : List Value} (h : w.ownsRow base e size v n xs) (hb : Below w.heap.size w w') : w'.ownsRow base e size v n xs :=
  owns_heap h (fun k hk => hb.block k (h.lt k hk).2)
theorem manyN_len : ∀ (n : Nat) (l : List UInt8) (cs : List CellV) (r : List UInt8), manyN n l = some (cs, r) → cs.length + r.length ≤ l.length := by
  intro n
  induction n with
  | zero =>
    intro l cs r h
    simp only [manyN, Option.some.injEq, Prod.mk.injEq] at h
    obtain ⟨rfl, rfl⟩ := h
    simp
  | succ n ih =>
    intro l cs r h
    rw [manyN] at h
    cases e1 : cellN l with
    | none => rw [e1] at h; cases h
    | some x =>
      obtain ⟨c, r1⟩ := x
      rw [e1] at h
      simp only at h
      cases e2 : manyN n r1 with
      | none => rw [e2] at h; cases h
      | some y =>
        obtain ⟨cs1, r2⟩ := y
        rw [e2] at h
        simp only [Option.some.injEq, Prod.mk.injEq] at h
        obtain ⟨rfl, rfl⟩ := h
        have h1 := cellN_lt e1
        have h2 := ih _ _ _ e2
        simp only [List.length_cons]
        omega
theorem redC_len (l : List UInt8) : (redC l).length ≤ l.length := by
  unfold redC cellsN
  cases e1 : getN 0 0 l with
  | none => simp
  | some x =>
    obtain ⟨n, r⟩ := x
    have h1 := (get_bd e1).2
    simp only
    split
    · rename_i cs e2
      have := manyN_len _ _ _ _ e2
      simp at this
      simp
      omega
    · simp
end Go.Proofs.YtakokhdnccaclaaDoor
namespace Go.Proofs.YtakokhdnccaclaaDoor.codecCells
open Go.RowKit

set_option maxRecDepth 100000 in
set_option maxHeartbeats 3200000 in
theorem walk (ao : Option Addr) (l : List CellV) (cap : Nat) (bo : Option Addr) (lb : List UInt8) (capb : Nat) (w : World) (hs : CSees w ao l) (hok : ∀ c ∈ l, c.Ok) (hl : l.length ≤ 140737488355328) (hw : ∀ c ∈ l, wtC c ≤ 562949953421312) (hsb : Sees w bo lb) (hnb : bo = none → lb.length = 0) (hlb : lb.length ≤ maxLen) (hcb : lb.length ≤ capb) (ht : Tab w) (ue : TypeId) (pv : Value) (he : Err w ue pv) :
    Calls Tryd.prog 6 #[.slice ao l.length cap, .slice bo lb.length capb] w fun e w' => e = .returned (.bool true) ∧ Below w.heap.size w w' := by
  have Hwe : Hid _ := weigh_any ao l cap w hs hl hw
  unfold maxLen at hlb
  go_enter Tryd.func6, Tryd.ntmps6
  go_wp2_with fail
  refine Calls.mono (Hid.out Hwe) ?_
  rintro e w1 ⟨⟨z, rfl, hz⟩, hb1⟩
  clear Hwe
  by_cases hz5 : 500 < z
  · have hz5I : (500 : Int) < (z : Int) := by omega
    have ht1 := ht.below hb1 (Nat.le_refl _)
    clear hz
    go_wp2_with fail
    refine (lives_any _ ht1).mono ?_
    rintro e w2 ⟨rfl, hb2⟩
    go_wp2_with fail
    go_ret
    exact ⟨rfl, hb1.trans (hb2.mono hb1.size)⟩
  have hz5I : ¬ (500 : Int) < (z : Int) := by omega
  by_cases hbig : 10000 < lb.length
  · have hbigI : (10000 : Int) < (lb.length : Int) := by omega
    have ht1 := ht.below hb1 (Nat.le_refl _)
    clear hz
    go_wp2_with fail
    refine (lives_any _ ht1).mono ?_
    rintro e w2 ⟨rfl, hb2⟩
    go_wp2_with fail
    go_ret
    exact ⟨rfl, hb1.trans (hb2.mono hb1.size)⟩
  have hbigI : ¬ (10000 : Int) < (lb.length : Int) := by omega
  obtain ⟨hl5, hwl⟩ := hz (by omega)
  clear hz
  have hrl := redC_len lb
  have Hx : Hid _ := readCells_any bo lb capb w1 ue pv (hsb.below hb1 (Nat.le_refl _)) hcb (by omega) (he.below hb1 (Nat.le_refl _))
  have Hnb : Hid (bo = none → lb.length = 0) := hnb
  have Hok : Hid (∀ c ∈ l, c.Ok) := hok
  clear hnb hok hw
  generalize hE : redE lb = E at *
  go_wp2_with fail
  refine Calls.mono (Hid.out Hx) ?_
  rintro e w2 ⟨v2, rfl, ho2, hb2⟩
  have hbw2 : Below w.heap.size w w2 := hb1.trans (hb2.mono hb1.size)
  have Hy : Hid _ := refReadCells_any bo lb capb w2 (hsb.below hbw2 (Nat.le_refl _)) Hnb.out hcb (by omega)
  rw [hE] at Hy
  clear Hx
  go_wp2_with fail
  refine Calls.mono (Hid.out Hy) ?_
  rintro e w3 ⟨v3, rfl, ho3, hb3⟩
  have hbw3 : Below w.heap.size w w3 := hbw2.trans (hb3.mono hbw2.size)
  have ho2' := owns_under ho2 hb3
  have Hc : Hid _ := cells_any ao l cap w3 (hs.below hbw3 (Nat.le_refl _)) Hok.out (by omega)
  clear Hy ho2
  go_wp2_with fail
  refine Calls.mono (Hid.out Hc) ?_
  rintro e w4 ⟨v4, rfl, ho4, hb4⟩
  have hbw4 : Below w.heap.size w w4 := hbw3.trans (hb4.mono hbw3.size)
  have ho24 := owns_under ho2' hb4
  have ho34 := owns_under ho3 hb4
  have Hd : Hid _ := refCells_any ao l cap w4 (hs.below hbw4 (Nat.le_refl _)) Hok.out (by omega)
  clear Hc ho2' ho3
  go_wp2_with fail
  refine Calls.mono (Hid.out Hd) ?_
  rintro e w5 ⟨v5, rfl, ho5, hb5⟩
  have hbw5 : Below w.heap.size w w5 := hbw4.trans (hb5.mono hbw4.size)
  obtain ⟨a4, cap4, rfl, hs4, hn4⟩ := owns_seesD (owns_under ho4 hb5)
  obtain ⟨a5, cap5, rfl, hs5, hn5⟩ := owns_seesD ho5
  have Hsame : Hid _ := same_any a4 a5 (cellsL l) (cellsL l) cap4 cap5 w5 hs4 hs5 hn4 hn5
  have hsame : (cellsL l == cellsL l) = true := by simp
  rw [hsame] at Hsame
  obtain ⟨a2, cap2, rfl, hs2, _, _⟩ := owns_csees (owns_under ho24 hb5)
  obtain ⟨a3, cap3, rfl, hs3, _, _⟩ := owns_csees (owns_under ho34 hb5)
  have Hli : Hid _ := like_same a2 a3 (redC lb) cap2 cap3 w5 hs2 hs3 (by omega)
  clear Hd ho4 ho5 ho24 ho34 hs2 hs3 hs4 hs5 hn4 hn5 hsame
  go_wp2_with fail
  refine Calls.mono (Hid.out Hsame) ?_
  rintro e w5' ⟨rfl, rfl⟩
  go_wp2_with fail
  refine Calls.mono (Hid.out Hli) ?_
  rintro e w6 ⟨rfl, k6, rfl⟩
  have hbw6 : Below w.heap.size w (w5'.drewN k6) := ⟨hbw5.os, hbw5.tape, hbw5.output, hbw5.size, hbw5.block⟩
  go_wp2_with fail
  refine (lives_any _ (ht.below hbw6 (Nat.le_refl _))).mono ?_
  rintro e w7 ⟨rfl, hb7⟩
  go_wp2_with fail
  go_ret
  exact ⟨rfl, hbw6.trans (hb7.mono hbw6.size)⟩
end Go.Proofs.YtakokhdnccaclaaDoor.codecCells
