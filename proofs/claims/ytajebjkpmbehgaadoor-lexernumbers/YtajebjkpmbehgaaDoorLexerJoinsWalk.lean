/-
  THE WALK: two texts with a line feed between.
-/
import Derived.Test.YtajebjkpmbehgaaDoorLexerPlacesWalk
namespace Go.Proofs.YtajebjkpmbehgaaDoor
open Go.RowKit

/-- What Lex tells, whatever it is. -/
theorem lex_some (s : ByteArray) (w : World) (he : EnvL w) {ts : List Tk} {m : Nat} {e : Int} (hx : lexT s.data.toList = (some ts, m, e)) : Calls Tryd.prog 7 #[.string s] w fun x w' => ∃ ao cap, x = .returned (.tuple #[.slice ao ts.length cap, .int .i64 0, .int .i64 0]) ∧ TkSee w' ao ts ∧ Below w.heap.size w w' := by
  obtain ⟨rfl, rfl, -, -⟩ := lexT_ok hx
  refine (lex_any s w he).mono ?_
  rintro x w' ⟨ao, cap, rfl, hT, -, hB⟩
  rw [hx] at hT ⊢
  exact ⟨ao, cap, rfl, hT, hB⟩
theorem lex_gen (s : ByteArray) (w : World) (he : EnvL w) : Calls Tryd.prog 7 #[.string s] w fun x w' => ∃ ao n cap, x = .returned (.tuple #[.slice ao n cap, .int .i64 ((lexT s.data.toList).2.1 : Int), .int .i64 (lexT s.data.toList).2.2]) ∧ Below w.heap.size w w' := by
  refine (lex_any s w he).mono ?_
  rintro x w' ⟨ao, cap, rfl, hT, -, hB⟩
  exact ⟨ao, _, cap, rfl, hB⟩
theorem lex_ok0 {l : List UInt8} (h : (lexT l).2.2 = 0) : ∃ ts, lexT l = (some ts, 0, 0) := by
  cases hx : lexT l with
  | mk o y =>
    obtain ⟨m, e⟩ := y
    rw [hx] at h
    cases o with
    | none =>
      obtain ⟨-, h1⟩ := lexT_no hx
      simp only at h
      rcases h1 with h1 | h1 <;> omega
    | some ts =>
      obtain ⟨rfl, rfl, -, -⟩ := lexT_ok hx
      exact ⟨ts, rfl⟩
theorem tkNe_self (k vk vn b e : Int) (ts vs : ByteArray) (w : World) : (binOp BinOp.neq 30 (.agg #[.int .i64 k, .string ts, .int .i64 vk, .int .i64 vn, .string vs, .int .i64 b, .int .i64 e]) (.agg #[.int .i64 k, .string ts, .int .i64 vk, .int .i64 vn, .string vs, .int .i64 b, .int .i64 e])).run Tryd.prog w = .ok (.bool false) w := by
  go_simp
theorem ch_high : ∀ {ts : List Tk} {l : List UInt8} {p : Nat}, Ch l p ts → ∀ t ∈ ts, t.e ≤ l.length ∧ t.b ≤ t.e
  | [], _, _, h => h.elim
  | t :: r, l, p, h => by
    obtain ⟨ho, h⟩ := h
    intro x hx
    rcases List.mem_cons.1 hx with rfl | hx
    · exact ⟨ho.high, ho.mid⟩
    · rcases h with ⟨-, rfl⟩ | ⟨hk, hr⟩
      · cases hx
      · exact ch_high hr x hx
namespace lexerJoins
set_option maxRecDepth 100000 in
set_option maxHeartbeats 4000000 in
theorem walk (a b : ByteArray) (w : World) (ha : a.size ≤ 140737488351232) (hb : b.size ≤ 140737488351232) (he : EnvL w) :
    Calls Tryd.prog 4 #[.string a, .string b] w fun e w' => e = .returned (.bool true) ∧ Below w.heap.size w w' := by
  have hla : a.data.toList.length = a.size := by simp
  have hlb : b.data.toList.length = b.size := by simp
  have L : Hid (∀ wr, Below w.heap.size w wr → Calls Tryd.prog 8 #[] wr fun e w' => e = .returned (.bool true) ∧ Below wr.heap.size wr w') := fun wr hb => lives18_any wr (he.below hb)
  have GA : Hid (∀ wr, Below w.heap.size w wr → Calls Tryd.prog 7 #[.string a] wr fun x w' => ∃ ao n cap, x = .returned (.tuple #[.slice ao n cap, .int .i64 ((lexT a.data.toList).2.1 : Int), .int .i64 (lexT a.data.toList).2.2]) ∧ Below wr.heap.size wr w') := fun wr hb => lex_gen a wr (he.below hb)
  have GB : Hid (∀ wr, Below w.heap.size w wr → Calls Tryd.prog 7 #[.string b] wr fun x w' => ∃ ao n cap, x = .returned (.tuple #[.slice ao n cap, .int .i64 ((lexT b.data.toList).2.1 : Int), .int .i64 (lexT b.data.toList).2.2]) ∧ Below wr.heap.size wr w') := fun wr hb => lex_gen b wr (he.below hb)
  have za : (a.size : Int) ≤ 140737488351232 := by omega
  have zb : (b.size : Int) ≤ 140737488351232 := by omega
  by_cases h1 : (lexT a.data.toList).2.2 = 0
  · by_cases h2 : (lexT b.data.toList).2.2 = 0
    · obtain ⟨l, hl⟩ := lex_ok0 h1
      obtain ⟨m, hm⟩ := lex_ok0 h2
      by_cases h3 : a.size + b.size + 1 ≤ 600
      · obtain ⟨s3, hs3⟩ : ∃ s3, (a ++ ⟨#[10]⟩) ++ b = s3 := ⟨_, rfl⟩
        have hs3l : s3.data.toList = a.data.toList ++ 10 :: b.data.toList := by rw [← hs3]; simp
        have hj := lexT_join a.data.toList b.data.toList hl hm (by omega)
        rw [← hs3l] at hj
        have A1 := fun wr hb => lex_some a wr (he.below (w' := wr) hb) hl
        have B1 := fun wr hb => lex_some b wr (he.below (w' := wr) hb) hm
        have D1 := fun wr hb => lex_some s3 wr (he.below (w' := wr) hb) hj
        have HA : Hid (∀ wr, Below w.heap.size w wr → _) := A1
        have HB : Hid (∀ wr, Below w.heap.size w wr → _) := B1
        have HD : Hid (∀ wr, Below w.heap.size w wr → _) := D1
        have y1 : ¬ (9223372036854775807 < a.size + 1) := by omega
        have y2 : ¬ (9223372036854775807 < a.size + 1 + b.size) := by omega
        have z3 : ¬ (600 : Int) < (a.size : Int) + (b.size : Int) + 1 := by omega
        have hsz3 : s3.size = a.size + 1 + b.size := by
          have : s3.data.toList.length = s3.size := by simp
          rw [hs3l, List.length_append, List.length_cons] at this
          omega
        have hlc := (lexT_ok hl).2.2.2
        have hmc := (lexT_ok hm).2.2.2
        have n1 := ch_len hlc
        have n2 := ch_len hmc
        have p1 : l.length ≠ 0 := fun h => hlc.ne (List.eq_nil_of_length_eq_zero h)
        have p2 : m.length ≠ 0 := fun h => hmc.ne (List.eq_nil_of_length_eq_zero h)
        have hN : (l.dropLast ++ m.map (·.at (a.data.toList.length + 1))).length = l.length - 1 + m.length := by simp
        have HT1 : Hid (∀ i, i < l.length - 1 → (l.dropLast ++ m.map (·.at (a.data.toList.length + 1)))[i]? = l[i]?) := fun i hi => by
          rw [List.getElem?_append_left (by rw [List.length_dropLast]; exact hi), List.getElem?_dropLast, if_pos hi]
        have HT2 : Hid (∀ i k (t : Tk), i + 1 = l.length + k → m[k]? = some t → (l.dropLast ++ m.map (·.at (a.data.toList.length + 1)))[i]? = some (t.at (a.size + 1))) := fun i k t hi hk => by
          rw [List.getElem?_append_right (by rw [List.length_dropLast]; omega), List.length_dropLast, List.getElem?_map]
          rw [show i - (l.length - 1) = k by omega, hk, hla]
          rfl
        have HM0 : Hid (∀ (k : Nat) (t : Tk), m[k]? = some t → t.e ≤ 100000 ∧ t.b ≤ 100000) := fun k t ht => by
          have := ch_high hmc t (List.mem_of_getElem? ht)
          omega
        generalize l.dropLast ++ m.map (·.at (a.data.toList.length + 1)) = N at *
        obtain ⟨n3, hn3⟩ : ∃ n3, l.length - 1 + m.length = n3 := ⟨_, rfl⟩
        rw [hn3] at hN
        have hn3z : ((n3 : Int) != (l.length : Int) + (m.length : Int) - 1) = false := by simp; omega
        have HNl : Hid (N.length = n3 ∧ l.length - 1 + m.length = n3) := ⟨hN, hn3⟩
        clear hl hm hj hs3l hlc hmc he GA GB h1 h2 A1 B1 D1 hn3
        go_enter Tryd.func4, Tryd.ntmps4
        go_wp2_with (first
          | (go_at_call_of 7 (Value.string a); refine (HA.out _ (Below.refl _ _)).mono ?_; rintro x w1 ⟨ao, cp1, rfl, hT1, hb1⟩)
          | (go_at_call_of 7 (Value.string b); refine (HB.out _ hb1).mono ?_; rintro x w2 ⟨bo, cp2, rfl, hT2, hb2⟩; have hb12 := hb1.trans (hb2.mono hb1.size))
          | (go_at_call_of 7 (Value.string s3); refine (HD.out _ hb12).mono ?_; rintro x w3 ⟨co, cp3, rfl, hT3, hb3⟩; have hb13 := hb12.trans (hb3.mono hb12.size)))
        have S1 : Hid (TkSee w3 ao l) := (hT1.below hb2).below hb3
        have S2 : Hid (TkSee w3 bo m) := hT2.below hb3
        have S3 : Hid (TkSee w3 co N) := hT3
        have HB3 : Hid (Below w.heap.size w w3) := hb13
        have hNz : (n3 : Int) ≤ 2000 := by have := HNl.out.2; omega
        have hlz : (l.length : Int) ≤ 2000 := by omega
        have hmz : (m.length : Int) ≤ 2000 := by omega
        have hlp : 1 ≤ (l.length : Int) := by omega
        have HMb : Hid (∀ (k : Nat) (t : Tk), m[k]? = some t → t.e ≤ 100000 ∧ t.b ≤ 100000) := HM0
        clear hT1 hT2 hT3 hb1 hb2 hb3 hb12 hb13 hN HA HB HD
        go_loopw [69] (fun s69 wr => ∃ i : Nat, i ≤ n3 ∧ s69 = .int .i64 (i : Int) ∧ Below w3.heap.size w3 wr) (fun s69 _ => n3 - (intOf s69).toNat)
        case atStart => exact ⟨0, Nat.zero_le _, rfl, Below.refl _ _⟩
        case round =>
          obtain ⟨i, hi, rfl, hb⟩ := hrel
          rcases Nat.lt_or_ge i n3 with hlt | hge
          · have hiz : (i : Int) < (n3 : Int) := by omega
            have HBx : Hid (∀ o q, Below w3.heap.size w3 ((wr.alloc o).drewN q)) := fun o q => by
              have := hb.alloc (o := o) hb.size
              exact ⟨this.os, this.tape, this.output, this.size, this.block⟩
            have HBy : Hid (∀ o o2, Below w3.heap.size w3 ((wr.alloc o).alloc o2)) := fun o o2 => by
              have := hb.alloc (o := o) hb.size
              exact this.alloc this.size _
            by_cases hc : i < l.length - 1
            · have hti : l[i]? = some l[i] := List.getElem?_eq_getElem (by omega)
              have hni : N[i]? = some l[i] := (HT1.out i hc).trans hti
              obtain ⟨g3, rfl, n0, n1, n2, n3, n4, n5, n6⟩ := (S3.out.below hb).at hni
              generalize l[i] = t at *
              obtain ⟨g1, rfl, l0, l1, l2, l3, l4, l5, l6⟩ := (S1.out.below (hb.alloc hb.size (.cells #[.int .i64 t.kind, .string (xB t.s), .int .i64 t.vk, .int .i64 t.vn, .string (xB t.vs), .int .i64 (t.b : Int), .int .i64 (t.e : Int)] 30))).at hti
              have hcz : (i : Int) < (l.length : Int) - 1 := by omega
              have hcz2 : (i : Int) < (l.length : Int) := by omega
              clear hti hni hc hb
              go_wp2_with fail
              go_quiet (fail)
              go_wp2_with fail
              go_roundw
              case rel => exact ⟨i + 1, by omega, by go_num, HBx.out _ _⟩
              case measure => simp [intOf]; omega
            · obtain ⟨k, hk⟩ : ∃ k, i + 1 = l.length + k := ⟨i + 1 - l.length, by omega⟩
              have hkm : k < m.length := by have := HNl.out.2; omega
              have htk : m[k]? = some m[k] := List.getElem?_eq_getElem hkm
              have hni := HT2.out i k m[k] hk htk
              obtain ⟨g3, rfl, q0, q1, q2, q3, q4, q5, q6⟩ := (S3.out.below hb).at hni
              have hme : m[k].e ≤ 100000 ∧ m[k].b ≤ 100000 := HMb.out k m[k] htk
              generalize m[k] = t at *
              obtain ⟨g2, rfl, l0, l1, l2, l3, l4, l5, l6⟩ := (S2.out.below (hb.alloc hb.size (.cells #[.int .i64 t.kind, .string (xB t.s), .int .i64 t.vk, .int .i64 t.vn, .string (xB t.vs), .int .i64 ((t.b : Int) + ((a.size : Int) + 1)), .int .i64 ((t.e : Int) + ((a.size : Int) + 1))] 30))).at htk
              have hcz : ¬ (i : Int) < (l.length : Int) - 1 := by omega
              have hkz : (i : Int) - (l.length : Int) + 1 = (k : Int) := by omega
              have hkz2 : (k : Int) < (m.length : Int) := by omega
              have z0 : (t.at (a.size + 1)).kind = t.kind := rfl
              have z1 : (t.at (a.size + 1)).s = t.s := rfl
              have z2 : (t.at (a.size + 1)).vk = t.vk := rfl
              have z3 : (t.at (a.size + 1)).vn = t.vn := rfl
              have z4 : (t.at (a.size + 1)).vs = t.vs := rfl
              have z5 : (((t.at (a.size + 1)).b : Nat) : Int) = (t.b : Int) + ((a.size : Int) + 1) := by show (((t.b + (a.size + 1)) : Nat) : Int) = _; omega
              have z6 : (((t.at (a.size + 1)).e : Nat) : Int) = (t.e : Int) + ((a.size : Int) + 1) := by show (((t.e + (a.size + 1)) : Nat) : Int) = _; omega
              rw [z0] at q0
              rw [z1] at q1
              rw [z2] at q2
              rw [z3] at q3
              rw [z4] at q4
              rw [z5] at q5
              rw [z6] at q6
              have x1 : (t.b : Int) ≤ 100000 := by omega
              have x2 : (t.e : Int) ≤ 100000 := by omega
              have x3 : (a.size : Int) ≤ 600 := by omega
              clear htk hni hc hb hk z0 z1 z2 z3 z4 z5 z6 hkm hme
              go_wp2_with fail
              go_roundw
              case rel => exact ⟨i + 1, by omega, by go_num, HBy.out _ _⟩
              case measure => simp [intOf]; omega
          · obtain rfl : i = n3 := by omega
            have HB4 : Hid (Below w.heap.size w wr) := HB3.out.trans (hb.mono HB3.out.size)
            clear hb
            go_wp2_with (go_at_call 8; refine (L.out _ HB4.out).mono ?_; rintro x w4 ⟨rfl, hb4⟩)
            go_ret
            exact ⟨rfl, HB4.out.trans (hb4.mono HB4.out.size)⟩
      · rw [hl] at GA
        rw [hm] at GB
        have h3z : (600 : Int) < (a.size : Int) + (b.size : Int) + 1 := by omega
        clear h1 h2 hl hm h3 he
        go_enter Tryd.func4, Tryd.ntmps4
        go_wp2_with (first
          | (go_at_call_of 7 (Value.string a); refine (GA.out _ (Below.refl _ _)).mono ?_; rintro x w1 ⟨ao, n, cap, rfl, hb1⟩)
          | (go_at_call_of 7 (Value.string b); refine (GB.out _ hb1).mono ?_; rintro x w2 ⟨bo, n2, cap2, rfl, hb2⟩; have hb12 := hb1.trans (hb2.mono hb1.size))
          | (go_at_call 8; refine (L.out _ hb12).mono ?_; rintro x w3 ⟨rfl, hb3⟩))
        go_ret
        exact ⟨rfl, hb12.trans (hb3.mono hb12.size)⟩
    · have e1 : ((lexT a.data.toList).2.2 != 0) = false := by simpa using h1
      have e2 : ((lexT b.data.toList).2.2 != 0) = true := by simpa using h2
      generalize lexT a.data.toList = A at *
      generalize lexT b.data.toList = B at *
      clear h1 h2 he
      go_enter Tryd.func4, Tryd.ntmps4
      go_wp2_with (first
          | (go_at_call_of 7 (Value.string a); refine (GA.out _ (Below.refl _ _)).mono ?_; rintro x w1 ⟨ao, n, cap, rfl, hb1⟩)
          | (go_at_call_of 7 (Value.string b); refine (GB.out _ hb1).mono ?_; rintro x w2 ⟨bo, n2, cap2, rfl, hb2⟩; have hb12 := hb1.trans (hb2.mono hb1.size))
          | (go_at_call 8; refine (L.out _ hb12).mono ?_; rintro x w3 ⟨rfl, hb3⟩))
      go_ret
      exact ⟨rfl, hb12.trans (hb3.mono hb12.size)⟩
  · have e1 : ((lexT a.data.toList).2.2 != 0) = true := by simpa using h1
    generalize lexT a.data.toList = A at *
    generalize lexT b.data.toList = B at *
    clear h1 he
    go_enter Tryd.func4, Tryd.ntmps4
    go_wp2_with (first
          | (go_at_call_of 7 (Value.string a); refine (GA.out _ (Below.refl _ _)).mono ?_; rintro x w1 ⟨ao, n, cap, rfl, hb1⟩)
          | (go_at_call_of 7 (Value.string b); refine (GB.out _ hb1).mono ?_; rintro x w2 ⟨bo, n2, cap2, rfl, hb2⟩; have hb12 := hb1.trans (hb2.mono hb1.size))
          | (go_at_call 8; refine (L.out _ hb12).mono ?_; rintro x w3 ⟨rfl, hb3⟩))
    go_ret
    exact ⟨rfl, hb12.trans (hb3.mono hb12.size)⟩
end lexerJoins
end Go.Proofs.YtajebjkpmbehgaaDoor
