/-
  CONTRACTS: Range (sort.Search with the closure), Of.
-/
import Derived.Test.YtcnceipkoapcpaaDoorRngAsk
import Derived.Test.YtcnceipkoapcpaaDoorMurToken
namespace Go.Proofs.YtcnceipkoapcpaaDoor
open Go.RowKit


set_option maxRecDepth 100000 in
set_option maxHeartbeats 1000000 in
theorem searchR_any (n : Nat) (hn : n ≤ 1000000) (f : Nat → Bool) (cap : Array Value) (w : World)
    (hf : ∀ (u : World) (i : Nat), Below w.heap.size w u → i < n → Calls Tryd.prog 32 (#[.int .i64 (i : Int)] ++ cap) u fun e w' => e = .returned (.bool (f i)) ∧ Below u.heap.size u w') :
    Calls Tryd.prog 31 #[.int .i64 (n : Int), .func (.func 32) #[] cap] w fun e w' => ∃ k : Nat, e = .returned (.int .i64 (k : Int)) ∧ k ≤ n ∧ (0 < k → f (k - 1) = false) ∧ (k < n → f k = true) ∧ Below w.heap.size w w' := by
  have HF : Hid (∀ (u : World) (i : Nat), Below w.heap.size w u → i < n → Calls Tryd.prog 32 (#[.int .i64 (i : Int)] ++ cap) u fun e w' => e = .returned (.bool (f i)) ∧ Below u.heap.size u w') := hf
  clear hf
  have hnz : (n : Int) ≤ 1000000 := by omega
  go_enter Tryd.func31, Tryd.ntmps31
  go_wp2_with fail
  go_loopw [5, 6] (fun s5 s6 wr => ∃ i j : Nat, s5 = .int .i64 (i : Int) ∧ s6 = .int .i64 (j : Int) ∧ i ≤ j ∧ j ≤ n ∧ (0 < i → f (i - 1) = false) ∧ (j < n → f j = true) ∧ Below w.heap.size w wr) (fun s5 s6 _ => (intOf s6 - intOf s5).toNat)
  case atStart => exact ⟨0, n, rfl, rfl, Nat.zero_le _, Nat.le_refl _, fun h => by omega, fun h => by omega, Below.refl _ _⟩
  case round =>
    obtain ⟨i, j, rfl, rfl, hij, hjn, h1, h2, hb⟩ := hrel
    by_cases hlt : i < j
    · obtain ⟨m, hm⟩ : ∃ m, m = (i + j) / 2 := ⟨_, rfl⟩
      have hltz : (i : Int) < (j : Int) := by omega
      have hmj : m < j := by omega
      have him : i ≤ m := by omega
      have C : Hid (Calls Tryd.prog 32 (#[.int .i64 (m : Int)] ++ cap) wr fun e w' => e = .returned (.bool (f m)) ∧ Below wr.heap.size wr w') := HF.out wr m hb (by omega)
      have d1 : IntKind.u64.wrap ((i : Int) + (j : Int)) = (i : Int) + (j : Int) := by rw [IntKind.wrap_u64]; omega
      have d2 : ((i : Int) + (j : Int)) / 2 = (m : Int) := by omega
      have hjz : (j : Int) ≤ 1000000 := by omega
      clear hm
      have H1 : Hid (0 < i → f (i - 1) = false) := h1
      have H2 : Hid (j < n → f j = true) := h2
      clear h1 h2
      cases hfm : f m
      · rw [hfm] at C
        have H3 : Hid (f m = false) := hfm
        clear hfm
        go_wp2_with fail
        refine C.out.mono ?_
        rintro e w1 ⟨rfl, hb1⟩
        go_wp2_with fail
        go_roundw
        case rel => exact ⟨m + 1, j, by simp, rfl, by omega, hjn, fun _ => by rw [Nat.add_sub_cancel]; exact H3.out, H2.out, hb.trans (hb1.mono hb.size)⟩
        case measure => simp [intOf]; omega
      · rw [hfm] at C
        have H3 : Hid (f m = true) := hfm
        clear hfm
        go_wp2_with fail
        refine C.out.mono ?_
        rintro e w1 ⟨rfl, hb1⟩
        go_wp2_with fail
        go_roundw
        case rel => exact ⟨i, m, rfl, rfl, him, by omega, H1.out, fun _ => H3.out, hb.trans (hb1.mono hb.size)⟩
        case measure => simp [intOf]; omega
    · have hij2 : i = j := by omega
      subst hij2
      go_wp2_with fail
      go_ret
      exact ⟨i, rfl, hjn, h1, h2, hb⟩
def tokAt (l : List Pt) (i : Nat) : Int := (l.getD i default).tok
set_option maxRecDepth 100000 in
set_option maxHeartbeats 1000000 in
theorem rangeC_any {w : World} {r b1 b2 : Nat} {l : List Pt} {c : Nat} (h : RgAt w 48 r l c) (t : Int) (h1 : w.cell? ⟨b1, 0, none⟩ = some (.pointer (some ⟨r, 0, none⟩))) (h2 : w.cell? ⟨b2, 0, none⟩ = some (.int .i64 t)) (i : Nat) (hi : i < l.length) (hl : l.length ≤ 40) :
    Calls Tryd.prog 32 #[.int .i64 (i : Int), .pointer (some ⟨b1, 0, none⟩), .pointer (some ⟨b2, 0, none⟩)] w fun e w' => e = .returned (.bool (decide (t ≤ tokAt l i))) ∧ Below w.heap.size w w' := by
  obtain ⟨g, cap, hb, hs⟩ := h.ex
  have hc : l[i]? = some l[i] := List.getElem?_eq_getElem hi
  obtain ⟨g', e, d1, -⟩ := hs _ _ hc
  cases e
  have c0 := hb.cell 0 rfl
  have hiz : (i : Int) < (l.length : Int) := by omega
  have hlz : (l.length : Int) ≤ 40 := by omega
  have ht : tokAt l i = l[i].tok := by simp [tokAt, List.getD, hc]
  rw [ht]
  generalize l[i].tok = y at *
  clear h hb hs hc ht
  go_enter Tryd.func32, Tryd.ntmps32
  go_wp2_with fail
  go_region
  go_wp2_with fail
  go_ret
  exact ⟨by first | rfl | exact ret_bool (decide_eq_decide.2 Iff.rfl), (Below.refl _ _).drew⟩
theorem find_at {l : List Pt} {N c : Nat} (ok : RgOk l N c) (t : Int) {k : Nat} (hk : k ≤ l.length) (h1 : 0 < k → decide (t ≤ tokAt l (k - 1)) = false) (h2 : k < l.length → decide (t ≤ tokAt l k) = true) : k % l.length = rngP l t := by
  have : l.findIdx (geP t) = k := by
    refine find_only ok.so hk (fun p h0 hp => ?_) (fun p hp => ?_)
    · have := h1 h0
      rwa [show tokAt l (k - 1) = p.tok by simp [tokAt, List.getD, hp]] at this
    · have := h2 (List.getElem?_eq_some_iff.1 hp).1
      rwa [show tokAt l k = p.tok by simp [tokAt, List.getD, hp]] at this
  rw [rngP, this]
set_option maxRecDepth 100000 in
set_option maxHeartbeats 1000000 in
theorem rangeR_any {w : World} {r : Nat} {l : List Pt} {N c : Nat} (h : RgAt w 48 r l c) (ok : RgOk l N c) (t : Int) :
    Calls Tryd.prog 13 #[.pointer (some ⟨r, 0, none⟩), .int .i64 t] w fun e w' => e = .returned (.int .i64 (rngP l t : Int)) ∧ Below w.heap.size w w' := by
  obtain ⟨wa, hwa⟩ : ∃ wa, wa = (w.alloc (.cells #[.pointer (some ⟨r, 0, none⟩)] 24)).alloc (.cells #[.int .i64 t] 3) := ⟨_, rfl⟩
  have hB : Below w.heap.size w wa := by rw [hwa]; exact ((Below.refl _ _).alloc (Nat.le_refl _) _).alloc (by simp) _
  have ha : RgAt wa 48 r l c := h.to hB
  have hsz : wa.heap.size = w.heap.size + 2 := by rw [hwa]; simp
  have q1 : wa.cell? ⟨w.heap.size, 0, none⟩ = some (.pointer (some ⟨r, 0, none⟩)) := by rw [hwa]; exact ((Blk.new w [.pointer (some ⟨r, 0, none⟩)] 24).alloc _).cell 0 rfl
  have q2 : wa.cell? ⟨w.heap.size + 1, 0, none⟩ = some (.int .i64 t) := by
    rw [hwa]
    have := (Blk.new (w.alloc (.cells #[.pointer (some ⟨r, 0, none⟩)] 24)) [.int .i64 t] 3).cell 0 rfl
    rwa [World.size_alloc] at this
  have M : Hid (Calls Tryd.prog 29 #[.pointer (some ⟨r, 0, none⟩)] wa fun e w' => e = .returned (.bool true) ∧ w' = wa) := madeR_at ha ok.c1
  have hl40 := ok.le
  have hpos := ok.pos
  have hlz : (l.length : Int) ≤ 40 := by omega
  have hpz : (0 : Int) < (l.length : Int) := by omega
  have SR : Hid (Calls Tryd.prog 31 #[.int .i64 (l.length : Int), .func (.func 32) #[] #[.pointer (some ⟨w.heap.size, 0, none⟩), .pointer (some ⟨w.heap.size + 1, 0, none⟩)]] wa fun e w' => ∃ k : Nat, e = .returned (.int .i64 (k : Int)) ∧ k ≤ l.length ∧ k % l.length = rngP l t ∧ Below wa.heap.size wa w') := by
    refine (searchR_any l.length (by omega) (fun i => decide (t ≤ tokAt l i)) #[.pointer (some ⟨w.heap.size, 0, none⟩), .pointer (some ⟨w.heap.size + 1, 0, none⟩)] wa (fun u i hu hi => ?_)).mono ?_
    · exact rangeC_any (ha.to hu) t (by rw [hu.cell (by show w.heap.size < _; omega)]; exact q1) (by rw [hu.cell (by show w.heap.size + 1 < _; omega)]; exact q2) i hi hl40
    · rintro e w' ⟨k, rfl, hk, h1, h2, hb⟩
      exact ⟨k, rfl, hk, find_at ok t hk h1 h2, hb⟩
  obtain ⟨g, cap, hb1, -⟩ := ha.ex
  have c0 := hb1.cell 0 rfl
  have HC : Hid (∀ u, Below wa.heap.size wa u → u.cell? ⟨w.heap.size, 0, none⟩ = some (.pointer (some ⟨r, 0, none⟩)) ∧ u.cell? ⟨r, 0, none⟩ = some (.slice (some ⟨g, 0, none⟩) l.length cap)) := fun u hu =>
    ⟨by rw [hu.cell (by show w.heap.size < _; omega)]; exact q1, by rw [hu.cell hb1.lt]; exact c0⟩
  clear h ha hb1 q2
  go_enter Tryd.func13, Tryd.ntmps13
  go_upto_region 1 with fail
  rw [← hwa]
  clear hwa
  go_wp2_with (first | (go_at_call 29; refine M.out.mono ?_; rintro e w1 ⟨rfl, hw⟩; obtain rfl := hw.symm; clear hw) | (go_at_call 31; refine SR.out.mono ?_; rintro e w2 ⟨k, rfl, hk, hm, hb2⟩; obtain ⟨p1, p2⟩ := HC.out w2 hb2; have hrm : Int.tmod (k : Int) (l.length : Int) = (rngP l t : Int) := (by rw [tmod_nat, hm])))
  go_ret
  exact ⟨by first | rfl | exact ret_int hrm, hB.trans (hb2.mono hB.size)⟩
set_option maxRecDepth 100000 in
theorem rangeR_no {w : World} {p : Option Addr} (h : NoRg w p) (t : Int) : Calls Tryd.prog 13 #[.pointer p, .int .i64 t] w fun e w' => e = .returned (.int .i64 (-1)) ∧ Below w.heap.size w w' := by
  obtain ⟨wa, hwa⟩ : ∃ wa, wa = (w.alloc (.cells #[.pointer p] 24)).alloc (.cells #[.int .i64 t] 3) := ⟨_, rfl⟩
  have hB : Below w.heap.size w wa := by rw [hwa]; exact ((Below.refl _ _).alloc (Nat.le_refl _) _).alloc (by simp) _
  have q1 : wa.cell? ⟨w.heap.size, 0, none⟩ = some (.pointer p) := by rw [hwa]; exact ((Blk.new w [.pointer p] 24).alloc _).cell 0 rfl
  have M : Hid (Calls Tryd.prog 29 #[.pointer p] wa fun e w' => e = .returned (.bool false) ∧ w' = wa) := madeR_no (h.to hB)
  clear h
  go_enter Tryd.func13, Tryd.ntmps13
  go_upto_region 1 with fail
  rw [← hwa]
  clear hwa
  go_wp2_with (go_at_call 29; refine M.out.mono ?_; rintro e w1 ⟨rfl, hw⟩; obtain rfl := hw.symm; clear hw)
  go_ret
  exact ⟨rfl, hB⟩
set_option maxRecDepth 100000 in
theorem ofR_any {w : World} {r : Nat} {l : List Pt} {N c : Nat} (h : RgAt w 48 r l c) (ok : RgOk l N c) (s : ByteArray) (hs : s.size ≤ 140737488354000) :
    Calls Tryd.prog 22 #[.pointer (some ⟨r, 0, none⟩), .string s] w fun e w' => e = .returned (.int .i64 (rngP l (tokenB s) : Int)) ∧ Below w.heap.size w w' := by
  have T : Hid (Calls Tryd.prog 24 #[.string s] w fun e w' => e = .returned (.int .i64 (tokenB s)) ∧ Below w.heap.size w w') := token_any s w hs
  have R : Hid (∀ u, Below w.heap.size w u → Calls Tryd.prog 13 #[.pointer (some ⟨r, 0, none⟩), .int .i64 (tokenB s)] u fun e w' => e = .returned (.int .i64 (rngP l (tokenB s) : Int)) ∧ Below u.heap.size u w') := fun u hu => rangeR_any (h.to hu) ok _
  clear h ok
  go_enter Tryd.func22, Tryd.ntmps22
  go_wp2_with (first | (go_at_call 24; refine T.out.mono ?_; rintro e w1 ⟨rfl, hB⟩) | (go_at_call 13; refine (R.out w1 hB).mono ?_; rintro e w2 ⟨rfl, hB2⟩))
  go_ret
  exact ⟨rfl, hB.trans (hB2.mono hB.size)⟩
set_option maxRecDepth 100000 in
theorem ofR_no {w : World} {p : Option Addr} (h : NoRg w p) (s : ByteArray) (hs : s.size ≤ 140737488354000) : Calls Tryd.prog 22 #[.pointer p, .string s] w fun e w' => e = .returned (.int .i64 (-1)) ∧ Below w.heap.size w w' := by
  have T : Hid (Calls Tryd.prog 24 #[.string s] w fun e w' => e = .returned (.int .i64 (tokenB s)) ∧ Below w.heap.size w w') := token_any s w hs
  have R : Hid (∀ u, Below w.heap.size w u → Calls Tryd.prog 13 #[.pointer p, .int .i64 (tokenB s)] u fun e w' => e = .returned (.int .i64 (-1)) ∧ Below u.heap.size u w') := fun u hu => rangeR_no (h.to hu) _
  clear h
  go_enter Tryd.func22, Tryd.ntmps22
  go_wp2_with (first | (go_at_call 24; refine T.out.mono ?_; rintro e w1 ⟨rfl, hB⟩) | (go_at_call 13; refine (R.out w1 hB).mono ?_; rintro e w2 ⟨rfl, hB2⟩))
  go_ret
  exact ⟨rfl, hB.trans (hB2.mono hB.size)⟩
end Go.Proofs.YtcnceipkoapcpaaDoor
