/-
  CONTRACT: may a table be? (Table, by the document).
-/
import Derived.Test.YtgjajffpkjcenaaDoorSchTab
import Derived.Test.YtgjajffpkjcenaaDoorSchOrd
namespace Go.Proofs.YtgjajffpkjcenaaDoor
open Go.RowKit

/-- The names' row while it grows: two, then the columns'. -/
theorem names_two (w : World) (p r : ByteArray) : (w.alloc (.cells #[.string p, .string r] 9)).ownsRow w.heap.size 9 1 (.slice (some ⟨w.heap.size, 0, none⟩) 2 2) 2 (sV [p, r]) :=
  ⟨rfl, .inr ⟨w.heap.size, 2, _, rfl, Nat.le_refl _, Blk.new w [.string p, .string r] _, Nat.le_refl _, by decide, rfl, rfl⟩⟩
theorem nodup_pairs {L : List (List UInt8)} : L.Nodup ↔ ∀ (i k : Nat) x y, k < i → L[k]? = some x → L[i]? = some y → x ≠ y := by
  unfold List.Nodup
  rw [List.pairwise_iff_getElem]
  constructor
  · intro h i k x y hk hx hy
    obtain ⟨h1, rfl⟩ := List.getElem?_eq_some_iff.1 hx
    obtain ⟨h2, rfl⟩ := List.getElem?_eq_some_iff.1 hy
    exact h k i h1 h2 hk
  · intro h i j hi hj hij
    exact h j i _ _ hij (List.getElem?_eq_getElem hi) (List.getElem?_eq_getElem hj)
set_option maxRecDepth 100000 in
set_option maxHeartbeats 4000000 in
theorem refTable_any (T : Tb) (ao : Option Addr) (cap : Nat) (w : World) (hC : CSee w ao T.cs) (hT : T.Ok) (hl : T.cs.length ≤ 1000000) :
    Calls Tryd.prog 16 #[T.v ao cap] w fun e w' => e = .returned (.int .i64 (tabE T)) ∧ Below w.heap.size w w' := by
  obtain ⟨i0, hinf, hq0, hq1, hq2⟩ := info_of17 infoStr17
  obtain ⟨w0, hw0⟩ : ∃ w0, w0 = w.alloc (.cells #[.string T.t, .string T.p, .string T.r, .slice ao T.cs.length cap] 26) := ⟨_, rfl⟩
  have hB : Below w.heap.size w w0 := by rw [hw0]; exact (Below.refl _ _).alloc (Nat.le_refl _) _
  have hX : Blk w0 w.heap.size [.string T.t, .string T.p, .string T.r, .slice ao T.cs.length cap] 26 := by rw [hw0]; exact Blk.new w [.string T.t, .string T.p, .string T.r, .slice ao T.cs.length cap] _
  have HX : Hid (∀ wr, Below w0.heap.size w0 wr → (wr.cell? ⟨w.heap.size, 0, none⟩ = some (.string T.t) ∧ wr.cell? ⟨w.heap.size, 3, none⟩ = some (.slice ao T.cs.length cap)) ∧ CSee wr ao T.cs ∧ Below w.heap.size w wr) := fun wr hb =>
    ⟨⟨(hX.carry (hb.block _ hX.lt)).cell 0 rfl, (hX.carry (hb.block _ hX.lt)).cell 3 rfl⟩, hC.below (hB.trans (hb.mono hB.size)), hB.trans (hb.mono hB.size)⟩
  have e0 := hX.cell 0 rfl
  have e1 := hX.cell 1 rfl
  have e2 := hX.cell 2 rfl
  have e3 := hX.cell 3 rfl
  have hnl : (nmC T).length = T.cs.length := by simp [nmC]
  have HSz : Hid (∀ s ∈ T.p :: T.r :: nmC T, s.size ≤ maxLen) := nmC_size hT
  have HTt : Hid (T.t.size ≤ maxLen) := hT.t
  have hnz : (T.cs.length : Int) ≤ 1000000 := by omega
  have HL : Hid (T.cs.length ≤ 1000000) := hl
  obtain ⟨ws, hws⟩ : ∃ ws, ws = w0.alloc (.cells #[.string T.p, .string T.r] 9) := ⟨_, rfl⟩
  have hbs : Below w0.heap.size w0 ws := by rw [hws]; exact (Below.refl _ _).alloc (Nat.le_refl _) _
  have hO : ws.ownsRow w0.heap.size 9 1 (.slice (some ⟨w0.heap.size, 0, none⟩) 2 2) 2 (sV [T.p, T.r]) := by rw [hws]; exact names_two w0 T.p T.r
  rw [hw0] at e0 e1 e2 e3
  have hsz0 : w0.heap.size = w.heap.size + 1 := by rw [hw0, World.size_alloc]
  have HS0 : Hid (w0.heap.size = w.heap.size + 1) := hsz0
  rw [hsz0] at hO
  have HO : Hid (ws.ownsRow (w.heap.size + 1) 9 1 (.slice (some ⟨w.heap.size + 1, 0, none⟩) 2 2) 2 (sV (T.p :: T.r :: (T.cs.take 0).map Co.n))) := hO
  have HE : Hid (tabE T = if namesOk T = false then 3 else if (decide (0 < T.cs.length) && decide (T.cs.length ≤ 6)) = false then 2 else if T.cs.all kindB = false then 2 else if uniqB T = false then 5 else 0) := rfl
  clear hC hT hl hB hX hsz0 hO
  simp only [Tb.v, Tb.a]
  go_enter Tryd.func16, Tryd.ntmps16
  go_wp2_with fail
  rw [← hw0]
  have hws2 : ws = w0.alloc (.cells #[.string T.p, .string T.r] 9) := hws
  rw [← hws2]
  clear hw0 hws hws2 e0 e1 e2 e3
  go_loopw [3, 20] (fun s3 s20 wr => ∃ k : Nat, k ≤ T.cs.length ∧ s20 = .int .i64 (k : Int) ∧ Below w0.heap.size w0 wr ∧ wr.ownsRow (w.heap.size + 1) 9 1 s3 (2 + k) (sV (T.p :: T.r :: (T.cs.take k).map Co.n))) (fun _ s20 _ => T.cs.length - (intOf s20).toNat)
  case atStart => exact ⟨0, Nat.zero_le _, rfl, hbs, HO.out⟩
  case round =>
    obtain ⟨k, hk, rfl, hb, ho⟩ := hrel
    rcases Nat.lt_or_ge k T.cs.length with hlt | hge
    · have hcs : T.cs[k]? = some T.cs[k] := List.getElem?_eq_getElem hlt
      obtain ⟨b, off, hao, k0, k1⟩ := (HX.out wr hb).2.1 k _ hcs
      subst hao
      have hst : sV (T.p :: T.r :: (T.cs.take (k + 1)).map Co.n) = sV (T.p :: T.r :: (T.cs.take k).map Co.n) ++ [.string T.cs[k].n] := by
        rw [List.take_add_one, hcs, List.map_append]; unfold sV; simp
      have HST : Hid (sV (T.p :: T.r :: (T.cs.take (k + 1)).map Co.n) = sV (T.p :: T.r :: (T.cs.take k).map Co.n) ++ [.string T.cs[k].n]) := hst
      have H3 : Hid (∀ w1 : World, Below wr.heap.size wr w1 → w1.ownsRow (w.heap.size + 1) 9 1 u3 (2 + k) (sV (T.p :: T.r :: (T.cs.take k).map Co.n))) := fun w1 hh => owns_keep ho hh (Nat.le_refl _)
      have HS2 : Hid (∀ (o : Obj) (x : ByteArray), Src Tryd.prog 1 27 (.slice (some ⟨wr.heap.size + 1, 0, none⟩) 1 1) 1 [.string x] ((wr.alloc o).alloc (.cells #[.string x] 9))) := fun o x => by
        have := src_one17 (wr.alloc o) x
        rwa [World.size_alloc] at this
      have HZ : Hid (w.heap.size + 1 ≤ wr.heap.size) := by have h1 := hb.size; have h2 := HS0.out; show _ ≤ _; omega
      have HEE : Hid (∀ (o1 o2 : Obj) (w2 : World) v', Grew ((wr.alloc o1).alloc o2) w2 u3 v' → Below w0.heap.size w0 w2) := fun o1 o2 w2 v' hgr =>
        ((hb.alloc hb.size o1).alloc (by rw [World.size_alloc]; exact Nat.le_trans hb.size (Nat.le_succ _)) o2).trans (hgr.below (by rw [World.size_alloc, World.size_alloc]; have := hb.size; omega) (fun g hg => by rw [HS0.out]; exact (ho.lt g hg).1))
      have hm1 : 2 + k + 1 ≤ maxLen := by have := HL.out; unfold maxLen; omega
      have hm2 : (2 + k + 1) * 16 ≤ 140737488355328 := by have := HL.out; omega
      have hkz : (k : Int) < (T.cs.length : Int) := by omega
      have HKL : Hid (k < T.cs.length) := hlt
      generalize T.cs[k] = c at *
      obtain ⟨cn, ck⟩ := c
      simp only at k0 k1 HST
      clear hcs hst ho hb HX HE HO HSz HTt hbs
      go_wp2_with (at_builtin; go_must (refine wpList_append_grew _ rfl (.tmp 24) (.tmp 27) 27 27 rfl (w.heap.size + 1) 9 i0 (.string ⟨#[]⟩) 1 16 Tryd.underlying27 hinf hq0 hq1 hq2 rfl u3 (2 + k) _ rfl (H3.out _ (((Below.refl _ _).alloc (Nat.le_refl _) _).alloc (by simp) _)) (.slice (some ⟨wr.heap.size + 1, 0, none⟩) 1 1) 1 [.string cn] rfl (HS2.out _ _) hm1 hm2 (by have := HZ.out; simp; omega) ?_; intro v' w' ho' hg'; have hXX := HEE.out _ _ _ _ hg'))
      exact ⟨⟨k + 1, by have := HKL.out; omega, by go_num, hXX, by rw [HST.out]; exact ho'⟩, by have := HKL.out; simp [intOf]; omega⟩
    · obtain rfl : k = T.cs.length := by omega
      rw [List.take_length] at ho
      obtain ⟨no, nc, rfl, hN⟩ := owns_see ho (by simp; omega)
      have HNN : Hid (∀ w1, Below wr.heap.size wr w1 → NSee w1 no (T.p :: T.r :: nmC T) ∧ Below w0.heap.size w0 w1) := fun w1 h1 => ⟨hN.below h1, hb.trans (h1.mono hb.size)⟩
      have hl2 : (T.p :: T.r :: nmC T).length = 2 + T.cs.length := by simp [nmC]; omega
      have c0 := (HX.out wr hb).1.1
      have R : Hid (∀ s ∈ T.p :: T.r :: nmC T, ∀ w1, Calls Tryd.prog 10 #[.string s] w1 fun e w' => e = .returned (.bool (nm17 s)) ∧ w' = w1) := fun s hs w1 => refName17_any s w1 (HSz.out s hs)
      have RT := refName17_any T.t wr HTt.out
      have HU : Hid (uniqB T = decide (((T.p :: T.r :: nmC T).map nb).Nodup)) := rfl
      have HNm : Hid (namesOk T = (nm17 T.t && (T.p :: T.r :: nmC T).all nm17)) := rfl
      have hW := (HX.out wr hb).2.2
      have HB : Hid (Below w0.heap.size w0 wr) := hb
      clear ho hN HO HSz HTt hbs hb
      generalize T.p :: T.r :: nmC T = NN at *
      have HNZ : Hid (NN.length = 2 + T.cs.length) := hl2
      have hNNz : (NN.length : Int) ≤ 1000002 := by omega
      rw [← hl2]
      clear hl2
      cases hnt : nm17 T.t
      · rw [hnt] at RT
        have hE : Hid (tabE T = 3) := by show _ = _; rw [HE.out, HNm.out, hnt]; rfl
        clear HX HE HNN R HU HNm
        go_wp2_with fail
        refine RT.mono ?_
        rintro e w1 ⟨rfl, hw1⟩
        obtain rfl := hw1.symm
        go_wp2_with fail
        go_ret
        exact ⟨ret_int hE.out.symm, hW⟩
      · rw [hnt] at RT
        rw [hnt, Bool.true_and] at HNm
        go_wp2_with fail
        refine RT.mono ?_
        rintro e w1 ⟨rfl, hw1⟩
        obtain rfl := hw1.symm
        clear hw1 RT c0
        go_wp2_with fail
        go_loopw [36] (fun s36 wq => ∃ k : Nat, k ≤ NN.length ∧ s36 = .int .i64 (k : Int) ∧ wq = wr ∧ (NN.take k).all nm17 = true) (fun s36 _ => NN.length - (intOf s36).toNat)
        case atStart => exact ⟨0, Nat.zero_le _, rfl, rfl, rfl⟩
        case round =>
          obtain ⟨k, hk, rfl, hwq, hall⟩ := hrel
          obtain rfl := hwq.symm
          rcases Nat.lt_or_ge k NN.length with hlt | hge
          · have hcs : NN[k]? = some NN[k] := List.getElem?_eq_getElem hlt
            obtain ⟨b, off, rfl, k0⟩ := (HNN.out _ (Below.refl _ _)).1 k _ hcs
            have C := R.out NN[k] (List.getElem_mem hlt) wr
            have hkz : (k : Int) < (NN.length : Int) := by omega
            cases hn : nm17 NN[k]
            · have hE : Hid (tabE T = 3) := by show _ = _; rw [HE.out, HNm.out, all_no _ _ _ _ hcs hn]; rfl
              rw [hn] at C
              generalize NN[k] = s at *
              clear hcs hall hn HX HE HNN R HU HNm
              go_wp2_with fail
              refine C.mono ?_
              rintro e w1 ⟨rfl, hw1⟩
              obtain rfl := hw1.symm
              go_wp2_with fail
              go_ret
              exact ⟨ret_int hE.out.symm, hW⟩
            · have HA : Hid ((NN.take (k + 1)).all nm17 = true) := all_take _ _ _ _ hcs hall hn
              rw [hn] at C
              generalize NN[k] = s at *
              clear hcs hall hn HX HE HNN R HU HNm
              go_wp2_with fail
              refine C.mono ?_
              rintro e w1 ⟨rfl, hw1⟩
              obtain rfl := hw1.symm
              go_wp2_with fail
              go_roundw
              case rel => exact ⟨k + 1, by omega, by go_num, by first | rfl | trivial, HA.out⟩
              case measure => simp [intOf]; omega
          · obtain rfl : k = NN.length := by omega
            rw [List.take_length] at hall
            have HE2 : Hid (tabE T = if (decide (0 < T.cs.length) && decide (T.cs.length ≤ 6)) = false then 2 else if T.cs.all kindB = false then 2 else if uniqB T = false then 5 else 0) := by show _ = _; rw [HE.out, HNm.out, hall]; rfl
            have c3 := (HX.out wr HB.out).1.2
            clear HE HNm R hall
            by_cases h6 : 0 < T.cs.length ∧ T.cs.length ≤ 6
            · have h6z : (T.cs.length : Int) ≤ 6 := by omega
              have h6y : ¬ 6 < (T.cs.length : Int) := by omega
              have h1z : ¬ (T.cs.length : Int) < 1 := by omega
              have HE3 : Hid (tabE T = if T.cs.all kindB = false then 2 else if uniqB T = false then 5 else 0) := by show _ = _; rw [HE2.out, decide_eq_true h6.1, decide_eq_true h6.2]; rfl
              have HLn : Hid (T.cs.length ≤ 6) := h6.2
              clear HE2 h6
              go_wp2_with fail
              obtain ⟨wA, hwA⟩ : ∃ x, x = wr := ⟨wr, rfl⟩
              subst hwA
              go_loopw [57] (fun s57 wr => ∃ k : Nat, k ≤ T.cs.length ∧ s57 = .int .i64 (k : Int) ∧ Below wA.heap.size wA wr ∧ (T.cs.take k).all kindB = true) (fun s57 _ => T.cs.length - (intOf s57).toNat)
              case atStart => exact ⟨0, Nat.zero_le _, rfl, Below.refl _ _, rfl⟩
              case round =>
                obtain ⟨k, hk, rfl, hbq, hall⟩ := hrel
                have hXq := HX.out wr (HNN.out wr hbq).2
                have hWq := hXq.2.2
                rcases Nat.lt_or_ge k T.cs.length with hlt | hge
                · have hcs : T.cs[k]? = some T.cs[k] := List.getElem?_eq_getElem hlt
                  obtain ⟨b, off, hao, k0, k1⟩ := hXq.2.1 k _ hcs
                  subst hao
                  have hkz : (k : Int) < (T.cs.length : Int) := by omega
                  have HKL : Hid (k < T.cs.length) := hlt
                  have HBq : Hid (∀ o, Below wA.heap.size wA (wr.alloc o) ∧ Below w.heap.size w (wr.alloc o)) := fun o => ⟨hbq.alloc hbq.size o, hWq.alloc hWq.size o⟩
                  have HAl : Hid (kindB T.cs[k] = true → (T.cs.take (k + 1)).all kindB = true) := fun h => all_take _ _ _ _ hcs hall h
                  have HNo : Hid (kindB T.cs[k] = false → tabE T = 2) := fun h => by rw [HE3.out, all_no _ _ _ _ hcs h]; rfl
                  generalize T.cs[k] = c at *
                  obtain ⟨cn, ck⟩ := c
                  simp only at k0 k1
                  clear hcs hall hXq hWq hbq HX HE3 HNN HU hlt hW
                  by_cases q1 : ck = 1
                  · subst q1
                    have HA := HAl.out (by unfold kindB; simp)
                    have hBB := (HBq.out (.cells #[.string cn, .int .i64 1] 29)).1
                    have HA' : Hid _ := HA
                    have hB' : Hid _ := hBB
                    clear HA hBB HAl HNo HBq
                    go_wp2_with fail
                    go_roundw
                    case rel => exact ⟨k + 1, by have := HKL.out; omega, by go_num, hB'.out, HA'.out⟩
                    case measure => have := HKL.out; simp [intOf]; omega
                  · by_cases q2 : ck = 2
                    · subst q2
                      have HA' : Hid _ := HAl.out (by unfold kindB; simp)
                      have hB' : Hid _ := (HBq.out (.cells #[.string cn, .int .i64 2] 29)).1
                      clear HAl HNo HBq q1
                      go_wp2_with fail
                      go_roundw
                      case rel => exact ⟨k + 1, by have := HKL.out; omega, by go_num, hB'.out, HA'.out⟩
                      case measure => have := HKL.out; simp [intOf]; omega
                    · have hE : Hid (tabE T = 2) := HNo.out (by unfold kindB; rw [decide_eq_false q1, decide_eq_false q2]; rfl)
                      have hB' : Hid _ := (HBq.out (.cells #[.string cn, .int .i64 ck] 29)).2
                      have q1b : (ck != 1) = true := bne_iff_ne.2 q1
                      have q2b : (ck != 2) = true := bne_iff_ne.2 q2
                      clear HAl HNo HBq
                      go_wp2_with fail
                      go_ret
                      exact ⟨ret_int hE.out.symm, hB'.out⟩
                · obtain rfl : k = T.cs.length := by omega
                  rw [List.take_length] at hall
                  have HE4 : Hid (tabE T = if uniqB T = false then 5 else 0) := by show _ = _; rw [HE3.out, hall]; rfl
                  have HNq0 : Hid (∀ wz, Below wr.heap.size wr wz → NSee wz no NN ∧ Below w.heap.size w wz) := fun wz hz => ⟨(HNN.out wr hbq).1.below hz, hWq.trans (hz.mono hWq.size)⟩
                  clear HE3 hall HX HNN hXq hbq hW hWq
                  go_wp2_with fail
                  obtain ⟨wB, hwB⟩ : ∃ x, x = wr := ⟨wr, rfl⟩
                  subst hwB
                  go_loopw [72] (fun s72 wz => ∃ i : Nat, i ≤ NN.length ∧ s72 = .int .i64 (i : Int) ∧ Below wB.heap.size wB wz ∧ ∀ (a b : Nat) x y, b < a → a < i → (NN.map nb)[b]? = some x → (NN.map nb)[a]? = some y → x ≠ y) (fun s72 _ => NN.length - (intOf s72).toNat)
                  case atStart => exact ⟨0, Nat.zero_le _, rfl, Below.refl _ _, fun a b x y _ h => absurd h (Nat.not_lt_zero _)⟩
                  case round =>
                    obtain ⟨i, hi, rfl, hbz, hpr⟩ := hrel
                    have hWq := (HNq0.out wr hbz).2
                    rcases Nat.lt_or_ge i NN.length with hlt | hge
                    · have hkz : (i : Int) < (NN.length : Int) := by omega
                      have hci : NN[i]? = some NN[i] := List.getElem?_eq_getElem hlt
                      go_wp2_with fail
                      go_loopw [11] (fun s11 wz => ∃ k : Nat, k ≤ i ∧ s11 = .int .i64 (k : Int) ∧ Below wB.heap.size wB wz ∧ ∀ (b : Nat) x y, b < k → (NN.map nb)[b]? = some x → (NN.map nb)[i]? = some y → x ≠ y) (fun s11 _ => i - (intOf s11).toNat)
                      case atStart => exact ⟨0, Nat.zero_le _, rfl, hbz, fun b x y h => absurd h (Nat.not_lt_zero _)⟩
                      case round =>
                        obtain ⟨k, hk, rfl, hby, hpk⟩ := hrel
                        obtain ⟨hNy, hWy⟩ := HNq0.out wr hby
                        rcases Nat.lt_or_ge k i with hki | hki
                        · have hck : NN[k]? = some NN[k] := List.getElem?_eq_getElem (by omega)
                          obtain ⟨b, off, rfl, x0⟩ := hNy k _ hck
                          obtain ⟨b', off', hao, y0⟩ := hNy i _ hci
                          cases hao
                          have hkiz : (k : Int) < (i : Int) := by omega
                          have hknz : (k : Int) < (NN.length : Int) := by omega
                          have hkn : k < NN.length := by omega
                          by_cases he : nb NN[k] = nb NN[i]
                          · have hE : Hid (tabE T = 5) := by
                              show _ = _
                              rw [HE4.out, if_pos]
                              rw [HU.out]
                              exact decide_eq_false fun hnd => nodup_pairs.1 hnd i k _ _ hki (by rw [List.getElem?_map, hck]; rfl) (by rw [List.getElem?_map, hci]; rfl) he
                            have he2 := nb_inj.1 he
                            rw [← he2] at y0
                            generalize NN[k] = s at *
                            have q0 : ∀ z : Cl wr.heap.size wr, z.u.cell? ⟨b, off + k, none⟩ = some (.string s) := fun z => z.cell (World.block_lt_of_cell? _ _ x0) x0
                            have q1 : ∀ z : Cl wr.heap.size wr, z.u.cell? ⟨b, off + i, none⟩ = some (.string s) := fun z => z.cell (World.block_lt_of_cell? _ _ y0) y0
                            have HW2 : Hid (∀ w', Below wr.heap.size wr w' → Below w.heap.size w w') := fun w' h => hWy.trans (h.mono hWy.size)
                            clear x0 y0 he he2 hck hci hpr hpk HE4 HU HNq0 hWq hWy hNy hby hbz
                            haveI := Cl.inh wr.heap.size wr
                            go_wp2_with fail
                            refine wp_region_cl wr.heap.size (by kernel_rfl) (by kernel_rfl) ?_
                            repeat quiet_step (fail)
                            refine wpQuiet_nil ?_
                            rintro w9 ⟨z, rfl⟩
                            have hz := HW2.out _ z.h
                            go_wp2_with fail
                            go_ret
                            exact ⟨ret_int hE.out.symm, hz⟩
                          · have HP : Hid (∀ (b : Nat) x y, b < k + 1 → (NN.map nb)[b]? = some x → (NN.map nb)[i]? = some y → x ≠ y) := fun b x y h1 h2 h3 => by
                              by_cases e : b = k
                              · subst e
                                rw [List.getElem?_map, hck] at h2
                                rw [List.getElem?_map, hci] at h3
                                cases h2; cases h3; exact he
                              · exact hpk b x y (by omega) h2 h3
                            have he3 := neB2 he
                            generalize NN[k] = s at *
                            generalize NN[i] = s2 at *
                            have q0 : ∀ z : Cl wr.heap.size wr, z.u.cell? ⟨b, off + k, none⟩ = some (.string s) := fun z => z.cell (World.block_lt_of_cell? _ _ x0) x0
                            have q1 : ∀ z : Cl wr.heap.size wr, z.u.cell? ⟨b, off + i, none⟩ = some (.string s2) := fun z => z.cell (World.block_lt_of_cell? _ _ y0) y0
                            have HB9 : Hid (∀ w', Below wr.heap.size wr w' → Below wB.heap.size wB w') := fun w' h => hby.trans (h.mono hby.size)
                            clear x0 y0 he hck hci hpr hpk HE4 HU HNq0 hWq hWy hNy hby hbz
                            haveI := Cl.inh wr.heap.size wr
                            go_wp2_with fail
                            refine wp_region_cl wr.heap.size (by kernel_rfl) (by kernel_rfl) ?_
                            repeat quiet_step (fail)
                            refine wpQuiet_nil ?_
                            rintro w9 ⟨z, rfl⟩
                            have hz := HB9.out _ z.h
                            go_wp2_with fail
                            go_roundw
                            case rel => exact ⟨k + 1, by omega, by go_num, hz, HP.out⟩
                            case measure => simp [intOf]; omega
                        · obtain rfl : k = i := by omega
                          have hnki : ¬ (k : Int) < (k : Int) := by omega
                          have HP : Hid (∀ (a b : Nat) x y, b < a → a < k + 1 → (NN.map nb)[b]? = some x → (NN.map nb)[a]? = some y → x ≠ y) := fun a b x y h1 h2 h3 h4 => by
                            by_cases e : a = k
                            · subst e; exact hpk b x y h1 h3 h4
                            · exact hpr a b x y h1 (by omega) h3 h4
                          have HB9 : Hid (Below wB.heap.size wB wr) := hby
                          clear hpk hpr HE4 HU HNq0 hWq hci hWy hNy hby hbz
                          go_wp2_with fail
                          go_roundw
                          case rel => exact ⟨k + 1, by omega, by go_num, HB9.out, HP.out⟩
                          case measure => simp [intOf]; omega
                    · obtain rfl : i = NN.length := by omega
                      have hE : Hid (tabE T = 0) := by
                        show _ = _
                        have hu : uniqB T = true := by
                          rw [HU.out]
                          refine decide_eq_true (nodup_pairs.2 fun a b x y hk hx hy => ?_)
                          have hla := (List.getElem?_eq_some_iff.1 hy).1
                          rw [List.length_map] at hla
                          exact hpr a b x y hk hla hx hy
                        rw [HE4.out, hu]; rfl
                      clear HE4 HU hpr HNq0
                      go_wp2_with fail
                      go_ret
                      exact ⟨ret_int hE.out.symm, hWq⟩
            · have hE : Hid (tabE T = 2) := by
                show _ = _
                rw [HE2.out, if_pos]
                by_cases h0 : 0 < T.cs.length
                · rw [decide_eq_true h0, decide_eq_false (fun h => h6 ⟨h0, h⟩)]; rfl
                · rw [decide_eq_false h0]; rfl
              clear HX HNN HU HE2 HL HNZ
              generalize T.cs.length = n at *
              by_cases h0 : n = 0
              · subst h0
                clear h6
                go_wp2_with fail
                go_ret
                exact ⟨ret_int hE.out.symm, hW⟩
              · have h1z : ¬ (n : Int) < 1 := by omega
                have h6z : 6 < (n : Int) := by omega
                clear h6
                go_wp2_with fail
                go_ret
                exact ⟨ret_int hE.out.symm, hW⟩
end Go.Proofs.YtgjajffpkjcenaaDoor
