/-
  CONTRACTS: the document's GetText and PutText, each for every argument.
-/
import Derived.Test.YtakokhdnccaclaaDoorCodGetT
import Derived.Test.YtakokhdnccaclaaDoorRefLend
namespace Go.Proofs.YtakokhdnccaclaaDoor
open Go.RowKit

set_option maxRecDepth 100000 in
set_option maxHeartbeats 800000 in
theorem refPutText_any (ao : Option Addr) (l : List UInt8) (cap : Nat) (s : ByteArray) (w : World) (hs : Sees w ao l) (hnone : ao = none → l.length = 0) (hl : l.length + s.size ≤ 140737488353000) :
    Calls Tryd.prog 30 #[.slice ao l.length cap, .string s] w fun e w' => ∃ v', e = .returned v' ∧ w'.ownsRow w.heap.size 5 1 v' (l.length + (txtL s.data.toList).length) (B8 (l ++ txtL s.data.toList)) ∧ Below w.heap.size w w' := by
  obtain ⟨i0, hi, hz0, hz1, hz2⟩ := info_parts info8
  have hnl := numL_length s.size
  have hsz : s.data.toList.length = s.size := by simp
  have Hp : Hid _ := refPut_any ao l cap s.size w hs hnone (by omega) (by omega)
  clear hs hnone
  go_enter Tryd.func30, Tryd.ntmps30
  go_wp2_with fail
  refine Calls.mono (Hid.out Hp) ?_
  rintro e w1 ⟨v1, rfl, ho1, hb1⟩
  go_wp2_with (at_builtin; go_must (refine wpList_append_grew _ rfl _ _ 22 9 rfl w.heap.size 5 i0 (.int .u8 0) 1 1 Tryd.underlying22 hi hz0 hz1 hz2 rfl _ _ _ rfl ho1 _ s.size (B8 s.data.toList) rfl (Src.ofString _ Tryd.underlying9 s) (by unfold maxLen; omega) (by omega) hb1.size ?_; intro v' w' ho' hg'))
  go_ret
  refine ⟨v', rfl, ?_, hb1.trans (hg'.below hb1.size (fun k hk => (ho1.lt k hk).1))⟩
  unfold txtL
  rw [hsz, List.length_append, hsz, ← List.append_assoc, B8_append _ s.data.toList, ← Nat.add_assoc]
  exact ho'

set_option maxRecDepth 100000 in
set_option maxHeartbeats 800000 in
theorem refGetText_any (ao : Option Addr) (l : List UInt8) (cap : Nat) (w : World) (hs : Sees w ao l) (hcap : l.length ≤ cap) (hl : l.length ≤ 140737488354000) :
    Calls Tryd.prog 28 #[.slice ao l.length cap] w fun e w' => e = .returned (.tuple #[.string ⟨(txtS l).toArray⟩, .int .i64 (txtK l)]) ∧ w' = w := by
  have Hg : Hid _ := refGet_any ao l cap w hs hl
  cases hg : getN 0 0 l with
  | none =>
    have h0 : textN l = none := by unfold textN; rw [hg]
    have h1 : txtS l = [] := by unfold txtS; rw [h0]
    have h2 : txtK l = 0 := by unfold txtK; rw [h0]
    have h3 : getV l = 0 := by unfold getV; rw [hg]
    have h4 : getK l = 0 := by unfold getK; rw [hg]
    rw [h1, h2]
    rw [h3, h4] at Hg
    clear h0 h1 h2 h3 h4 hg hs
    go_enter Tryd.func28, Tryd.ntmps28
    go_wp2_with fail
    refine Calls.mono (Hid.out Hg) ?_
    rintro e w' ⟨rfl, rfl⟩
    go_wp2_with fail
    go_ret2
    exact ⟨rfl, rfl⟩
  | some vr =>
    obtain ⟨v, r⟩ := vr
    have hb := get_bd hg
    have h3 : getV l = v := by unfold getV; rw [hg]
    have h4 : getK l = l.length - r.length := by unfold getK; rw [hg]
    have hr : l.drop (l.length - r.length) = r := getN_drop hg
    rw [h3, h4] at Hg
    have hvi : (v : Int) ≤ 18446744073709551615 := by omega
    obtain ⟨k, hk⟩ : ∃ k, l.length - r.length = k := ⟨_, rfl⟩
    have hkl : k + r.length = l.length := by omega
    rw [hk] at Hg hr
    have hk0 : ((k : Int) == 0) = false := by simp; omega
    by_cases hv : v ≤ r.length
    · have h0 : textN l = some (r.take v, r.drop v) := by unfold textN; rw [hg]; simp [hv]
      have h1 : txtS l = (l.drop k).take v := by unfold txtS; rw [h0, hr]
      have h2 : txtK l = k + v := by unfold txtK; rw [h0]; simp; omega
      rw [h1, h2]
      have hvk : k + v ≤ l.length := by omega
      clear h0 h1 h2 h3 h4 hg hb hr hk hv hkl
      by_cases hv0 : v = 0
      · subst hv0
        have hcv := conv_zero
        by_cases hcm : cap = k
        · subst hcm
          go_enter Tryd.func28, Tryd.ntmps28
          go_wp2_with fail
          refine Calls.mono (Hid.out Hg) ?_
          rintro e w' ⟨rfl, rfl⟩
          go_wp2_with fail
          go_ret2
          exact ⟨by simp, rfl⟩
        · go_enter Tryd.func28, Tryd.ntmps28
          go_wp2_with fail
          refine Calls.mono (Hid.out Hg) ?_
          rintro e w' ⟨rfl, rfl⟩
          go_wp2_with fail
          go_ret2
          exact ⟨by simp, rfl⟩
      · obtain ⟨b, off, rfl, hc⟩ := sees_at hs (n := k) (by omega)
        have hsl := sees_cut hs k v (by omega)
        have hcv := conv_sees hsl (fun h => by cases h) (cap - k)
        have hlen : ((l.drop k).take v).length = v := by simp; omega
        rw [hlen] at hcv
        have hcm : ¬ cap = k := by omega
        clear hsl hc hlen hs
        generalize (l.drop k).take v = t at *
        go_enter Tryd.func28, Tryd.ntmps28
        go_wp2_with fail
        refine Calls.mono (Hid.out Hg) ?_
        rintro e w' ⟨rfl, rfl⟩
        go_wp2_with fail
        go_ret2
        exact ⟨by simp, rfl⟩
    · have h0 : textN l = none := by unfold textN; rw [hg]; simp; omega
      have h1 : txtS l = [] := by unfold txtS; rw [h0]
      have h2 : txtK l = 0 := by unfold txtK; rw [h0]
      rw [h1, h2]
      have hvk : l.length < k + v := by omega
      have hkl' : k ≤ l.length := by omega
      clear h0 h1 h2 h3 h4 hg hb hr hk hv hkl hs
      go_enter Tryd.func28, Tryd.ntmps28
      go_wp2_with fail
      refine Calls.mono (Hid.out Hg) ?_
      rintro e w' ⟨rfl, rfl⟩
      go_wp2_with fail
      go_ret2
      exact ⟨rfl, rfl⟩
end Go.Proofs.YtakokhdnccaclaaDoor
