/-
  THE LAW SchemaWords: the walk.
-/
import Derived.Test.YtgjajffpkjcenaaDoorSchLives
namespace Go.Proofs.YtgjajffpkjcenaaDoor.schemaWords
open Go.RowKit

def zB : ByteArray := ⟨#[122]⟩
def nineB : ByteArray := ⟨#[57]⟩
theorem nb_app17 (a b : ByteArray) : nb (a ++ b) = nb a ++ nb b := by
  show (a ++ b).data.toList = _
  rw [ByteArray.data_append, Array.toList_append]; rfl
/-- What a word and a letter is. -/
theorem great_no (s : ByteArray) (k : Nat) (hk : k < s.size) (h1 : 65 ≤ (s[k]'hk).toNat) (h2 : (s[k]'hk).toNat ≤ 90) : nm17 s = false := by
  have : nameB (nb s) = false := name_no (fun h => by
    have := h.2.2.2 k (by rw [nb_size]; exact hk)
    rw [at_nb s k hk] at this
    revert this
    generalize (s[k]'hk).toNat = x at *
    unfold okC isL isD
    intro this
    simp at this
    omega)
  unfold nm17
  rw [this]; rfl
theorem last_word : ∀ x ∈ wordsL.map nb, x.getLast? ≠ some 57 := by decide +kernel
theorem nine_yes (s : ByteArray) (h : nm17 s = true) (h16 : s.size ≠ 16) : nm17 (s ++ nineB) = true := by
  unfold nm17 at h ⊢
  have hn : nameB (nb s) = true := by
    cases e : nameB (nb s)
    · rw [e] at h; cases h
    · rfl
  obtain ⟨a, b, c, d⟩ := (name_iff _).1 hn
  rw [nb_size] at a b d
  have hl : (nb (s ++ nineB)).length = s.size + 1 := by rw [nb_app17, List.length_append, nb_size]; rfl
  have hget : ∀ j, j < s.size → (nb (s ++ nineB)).getD j 0 = (nb s).getD j 0 := fun j hj => by
    rw [nb_app17, List.getD_eq_getElem?_getD, List.getD_eq_getElem?_getD, List.getElem?_append_left (by rw [nb_size]; exact hj)]
  have h2 : nameB (nb (s ++ nineB)) = true := (name_iff _).2 ⟨by omega, by omega, by rw [hget 0 (by omega)]; exact c, fun j hj => by
    rw [hl] at hj
    rcases Nat.lt_or_ge j s.size with h1 | h1
    · rw [hget j h1]; exact d j h1
    · obtain rfl : j = s.size := by omega
      have : (nb (s ++ nineB)).getD s.size 0 = 57 := by
        rw [nb_app17, List.getD_eq_getElem?_getD, List.getElem?_append_right (by rw [nb_size]; omega), nb_size, Nat.sub_self]; rfl
      rw [this]; decide⟩
  have h3 : isW (s ++ nineB) = false := decide_eq_false fun hm => last_word _ hm (by
    rw [nb_app17, List.getLast?_append]; rfl)
  rw [h2, h3]; rfl
def W25 : List ByteArray := [⟨#[99, 114, 101, 97, 116, 101]⟩, ⟨#[116, 97, 98, 108, 101]⟩, ⟨#[112, 114, 105, 109, 97, 114, 121]⟩, ⟨#[107, 101, 121]⟩, ⟨#[105, 110, 115, 101, 114, 116]⟩, ⟨#[105, 110, 116, 111]⟩, ⟨#[118, 97, 108, 117, 101, 115]⟩, ⟨#[117, 115, 105, 110, 103]⟩, ⟨#[116, 105, 109, 101, 115, 116, 97, 109, 112]⟩, ⟨#[99, 111, 110, 115, 105, 115, 116, 101, 110, 99, 121]⟩, ⟨#[117, 112, 100, 97, 116, 101]⟩, ⟨#[115, 101, 116]⟩, ⟨#[119, 104, 101, 114, 101]⟩, ⟨#[97, 110, 100]⟩, ⟨#[100, 101, 108, 101, 116, 101]⟩, ⟨#[102, 114, 111, 109]⟩, ⟨#[115, 101, 108, 101, 99, 116]⟩, ⟨#[108, 105, 109, 105, 116]⟩, ⟨#[111, 110, 101]⟩, ⟨#[113, 117, 111, 114, 117, 109]⟩, ⟨#[97, 108, 108]⟩, ⟨#[116, 101, 120, 116]⟩, ⟨#[105, 110, 116]⟩, ⟨#[]⟩, ⟨#[115, 101, 108, 101, 99, 116]⟩]
theorem w25_ok : ∀ k, k < 25 → nm17 (W25.getD k zB) = false ∧ nm17 (W25.getD k zB ++ zB) = true ∧ (W25.getD k zB).size ≤ 20 ∧ (W25.getD k zB ++ zB).size ≤ 20 := by decide +kernel
def W25V : Value := .agg #[.string ⟨#[99, 114, 101, 97, 116, 101]⟩, .string ⟨#[116, 97, 98, 108, 101]⟩, .string ⟨#[112, 114, 105, 109, 97, 114, 121]⟩, .string ⟨#[107, 101, 121]⟩, .string ⟨#[105, 110, 115, 101, 114, 116]⟩, .string ⟨#[105, 110, 116, 111]⟩, .string ⟨#[118, 97, 108, 117, 101, 115]⟩, .string ⟨#[117, 115, 105, 110, 103]⟩, .string ⟨#[116, 105, 109, 101, 115, 116, 97, 109, 112]⟩, .string ⟨#[99, 111, 110, 115, 105, 115, 116, 101, 110, 99, 121]⟩, .string ⟨#[117, 112, 100, 97, 116, 101]⟩, .string ⟨#[115, 101, 116]⟩, .string ⟨#[119, 104, 101, 114, 101]⟩, .string ⟨#[97, 110, 100]⟩, .string ⟨#[100, 101, 108, 101, 116, 101]⟩, .string ⟨#[102, 114, 111, 109]⟩, .string ⟨#[115, 101, 108, 101, 99, 116]⟩, .string ⟨#[108, 105, 109, 105, 116]⟩, .string ⟨#[111, 110, 101]⟩, .string ⟨#[113, 117, 111, 114, 117, 109]⟩, .string ⟨#[97, 108, 108]⟩, .string ⟨#[116, 101, 120, 116]⟩, .string ⟨#[105, 110, 116]⟩, .string ⟨#[]⟩, .string ⟨#[115, 101, 108, 101, 99, 116]⟩]
theorem index_25_0 (w : World) : (Instr.index 53 W25V (.int .i64 0)).run Tryd.prog w = .ok (.string (W25.getD 0 zB)) w := by kernel_rfl
theorem index_25_1 (w : World) : (Instr.index 53 W25V (.int .i64 1)).run Tryd.prog w = .ok (.string (W25.getD 1 zB)) w := by kernel_rfl
theorem index_25_2 (w : World) : (Instr.index 53 W25V (.int .i64 2)).run Tryd.prog w = .ok (.string (W25.getD 2 zB)) w := by kernel_rfl
theorem index_25_3 (w : World) : (Instr.index 53 W25V (.int .i64 3)).run Tryd.prog w = .ok (.string (W25.getD 3 zB)) w := by kernel_rfl
theorem index_25_4 (w : World) : (Instr.index 53 W25V (.int .i64 4)).run Tryd.prog w = .ok (.string (W25.getD 4 zB)) w := by kernel_rfl
theorem index_25_5 (w : World) : (Instr.index 53 W25V (.int .i64 5)).run Tryd.prog w = .ok (.string (W25.getD 5 zB)) w := by kernel_rfl
theorem index_25_6 (w : World) : (Instr.index 53 W25V (.int .i64 6)).run Tryd.prog w = .ok (.string (W25.getD 6 zB)) w := by kernel_rfl
theorem index_25_7 (w : World) : (Instr.index 53 W25V (.int .i64 7)).run Tryd.prog w = .ok (.string (W25.getD 7 zB)) w := by kernel_rfl
theorem index_25_8 (w : World) : (Instr.index 53 W25V (.int .i64 8)).run Tryd.prog w = .ok (.string (W25.getD 8 zB)) w := by kernel_rfl
theorem index_25_9 (w : World) : (Instr.index 53 W25V (.int .i64 9)).run Tryd.prog w = .ok (.string (W25.getD 9 zB)) w := by kernel_rfl
theorem index_25_10 (w : World) : (Instr.index 53 W25V (.int .i64 10)).run Tryd.prog w = .ok (.string (W25.getD 10 zB)) w := by kernel_rfl
theorem index_25_11 (w : World) : (Instr.index 53 W25V (.int .i64 11)).run Tryd.prog w = .ok (.string (W25.getD 11 zB)) w := by kernel_rfl
theorem index_25_12 (w : World) : (Instr.index 53 W25V (.int .i64 12)).run Tryd.prog w = .ok (.string (W25.getD 12 zB)) w := by kernel_rfl
theorem index_25_13 (w : World) : (Instr.index 53 W25V (.int .i64 13)).run Tryd.prog w = .ok (.string (W25.getD 13 zB)) w := by kernel_rfl
theorem index_25_14 (w : World) : (Instr.index 53 W25V (.int .i64 14)).run Tryd.prog w = .ok (.string (W25.getD 14 zB)) w := by kernel_rfl
theorem index_25_15 (w : World) : (Instr.index 53 W25V (.int .i64 15)).run Tryd.prog w = .ok (.string (W25.getD 15 zB)) w := by kernel_rfl
theorem index_25_16 (w : World) : (Instr.index 53 W25V (.int .i64 16)).run Tryd.prog w = .ok (.string (W25.getD 16 zB)) w := by kernel_rfl
theorem index_25_17 (w : World) : (Instr.index 53 W25V (.int .i64 17)).run Tryd.prog w = .ok (.string (W25.getD 17 zB)) w := by kernel_rfl
theorem index_25_18 (w : World) : (Instr.index 53 W25V (.int .i64 18)).run Tryd.prog w = .ok (.string (W25.getD 18 zB)) w := by kernel_rfl
theorem index_25_19 (w : World) : (Instr.index 53 W25V (.int .i64 19)).run Tryd.prog w = .ok (.string (W25.getD 19 zB)) w := by kernel_rfl
theorem index_25_20 (w : World) : (Instr.index 53 W25V (.int .i64 20)).run Tryd.prog w = .ok (.string (W25.getD 20 zB)) w := by kernel_rfl
theorem index_25_21 (w : World) : (Instr.index 53 W25V (.int .i64 21)).run Tryd.prog w = .ok (.string (W25.getD 21 zB)) w := by kernel_rfl
theorem index_25_22 (w : World) : (Instr.index 53 W25V (.int .i64 22)).run Tryd.prog w = .ok (.string (W25.getD 22 zB)) w := by kernel_rfl
theorem index_25_23 (w : World) : (Instr.index 53 W25V (.int .i64 23)).run Tryd.prog w = .ok (.string (W25.getD 23 zB)) w := by kernel_rfl
theorem index_25_24 (w : World) : (Instr.index 53 W25V (.int .i64 24)).run Tryd.prog w = .ok (.string (W25.getD 24 zB)) w := by kernel_rfl
theorem index_25 (w : World) (k : Nat) (hk : k < 25) : (Instr.index 53 W25V (.int .i64 (k : Nat))).run Tryd.prog w = .ok (.string (W25.getD k zB)) w := by
  match k, hk with
  | 0, _ => exact index_25_0 w
  | 1, _ => exact index_25_1 w
  | 2, _ => exact index_25_2 w
  | 3, _ => exact index_25_3 w
  | 4, _ => exact index_25_4 w
  | 5, _ => exact index_25_5 w
  | 6, _ => exact index_25_6 w
  | 7, _ => exact index_25_7 w
  | 8, _ => exact index_25_8 w
  | 9, _ => exact index_25_9 w
  | 10, _ => exact index_25_10 w
  | 11, _ => exact index_25_11 w
  | 12, _ => exact index_25_12 w
  | 13, _ => exact index_25_13 w
  | 14, _ => exact index_25_14 w
  | 15, _ => exact index_25_15 w
  | 16, _ => exact index_25_16 w
  | 17, _ => exact index_25_17 w
  | 18, _ => exact index_25_18 w
  | 19, _ => exact index_25_19 w
  | 20, _ => exact index_25_20 w
  | 21, _ => exact index_25_21 w
  | 22, _ => exact index_25_22 w
  | 23, _ => exact index_25_23 w
  | 24, _ => exact index_25_24 w
  | k + 25, hk => exact absurd hk (by omega)
set_option maxRecDepth 100000 in
set_option maxHeartbeats 4000000 in
theorem walk (s : ByteArray) (w : World) (hs : s.size ≤ 140737488351232) (hS : SpT w) :
    Calls Tryd.prog 7 #[.string s] w fun e w' => e = .returned (.bool true) ∧ Below w.heap.size w w' := by
  have L : Hid (∀ wr, Below w.heap.size w wr → Calls Tryd.prog 8 #[] wr fun e w' => e = .returned (.bool true) ∧ Below w.heap.size w w') := fun wr hb => (lives17_any wr (hS.below hb hS.lt)).mono fun e w' h => ⟨h.1, hb.trans (h.2.mono hb.size)⟩
  have N : Hid (∀ x : ByteArray, x.size ≤ 140737488351300 → ∀ wr, Below w.heap.size w wr → Calls Tryd.prog 9 #[.string x] wr fun e w' => e = .returned (.bool (nm17 x)) ∧ Below w.heap.size w w') := fun x hx wr hb => (name17_any x wr (by unfold maxLen; omega) (hS.below hb hS.lt)).mono fun e w' h => ⟨h.1, hb.trans (h.2.mono hb.size)⟩
  have HI : Hid (∀ wr k, k < 25 → (Instr.index 53 W25V (.int .i64 (k : Nat))).run Tryd.prog wr = .ok (.string (W25.getD k zB)) wr) := fun wr k hk => index_25 wr k hk
  have HX : Hid (∀ k, k < 25 → nm17 (W25.getD k zB) = false ∧ nm17 (W25.getD k zB ++ zB) = true ∧ (W25.getD k zB).size ≤ 20 ∧ (W25.getD k zB ++ zB).size ≤ 20) := w25_ok
  have HG : Hid (∀ (k : Nat) (hk : k < s.size), 65 ≤ (s[k]'hk).toNat → (s[k]'hk).toNat ≤ 90 → nm17 s = false) := great_no s
  have H9 : Hid (nm17 s = true → s.size ≠ 16 → nm17 (s ++ nineB) = true) := nine_yes s
  have HS : Hid (s.size ≤ 140737488351232) := hs
  have h9z : (s ++ nineB).size = s.size + 1 := by rw [ByteArray.size_append]; rfl
  clear hS hs
  go_enter Tryd.func7, Tryd.ntmps7
  go_wp2_with fail
  go_loopw [7] (fun s7 wr => ∃ k : Nat, k ≤ 25 ∧ s7 = .int .i64 (k : Int) ∧ Below w.heap.size w wr) (fun s7 _ => 25 - (intOf s7).toNat)
  case atStart => exact ⟨0, by omega, rfl, Below.refl _ _⟩
  case round =>
    obtain ⟨k, hk, rfl, hb⟩ := hrel
    rcases Nat.lt_or_ge k 25 with hlt | hge
    · have hi := HI.out wr k hlt
      unfold W25V at hi
      obtain ⟨x1, x2, x3, x4⟩ := HX.out k hlt
      have N1 := N.out (W25.getD k zB) (by omega) wr hb
      have N2 : Hid (∀ w1, Below w.heap.size w w1 → Calls Tryd.prog 9 #[.string (W25.getD k zB ++ zB)] w1 fun e w' => e = .returned (.bool true) ∧ Below w.heap.size w w') := fun w1 h1 => by
        have := N.out (W25.getD k zB ++ zB) (by omega) w1 h1
        rwa [x2] at this
      rw [x1] at N1
      have hkz : (k : Int) < 25 := by omega
      have HK : Hid (k < 25) := hlt
      have x3z : ((W25.getD k zB).size : Int) ≤ 20 := by omega
      clear x1 x2 x4 HI HX N L HG H9 hb hlt hk
      generalize W25.getD k zB = x at *
      unfold zB at N2
      go_wp2_with fail
      refine N1.mono ?_
      rintro e w1 ⟨rfl, hb1⟩
      have N3 := N2.out w1 hb1
      go_wp2_with fail
      refine N3.mono ?_
      rintro e w2 ⟨rfl, hb2⟩
      go_wp2_with fail
      go_roundw
      case rel => exact ⟨k + 1, by have := HK.out; omega, by go_num, hb2⟩
      case measure => have := HK.out; simp [intOf]; omega
    · obtain rfl : k = 25 := by omega
      clear HI HX
      by_cases hbig : 1000 < s.size
      · have i1 : (1000 : Int) < (s.size : Int) := by omega
        have L1 := L.out wr hb
        clear N L HG H9 hbig hb h9z
        go_wp2_with fail
        refine L1.mono ?_
        rintro e w1 ⟨rfl, hb1⟩
        go_wp2_with fail
        go_ret
        exact ⟨rfl, hb1⟩
      · have i1 : ¬ (1000 : Int) < (s.size : Int) := by omega
        have hszz : (s.size : Int) ≤ 1000 := by omega
        have N0 : Hid (∀ w1, Below w.heap.size w w1 → Calls Tryd.prog 9 #[.string s] w1 fun e w' => e = .returned (.bool (nm17 s)) ∧ Below w.heap.size w w') := N.out s (by have := HS.out; omega)
        have N9 : Hid (∀ w1, Below w.heap.size w w1 → Calls Tryd.prog 9 #[.string (s ++ nineB)] w1 fun e w' => e = .returned (.bool (nm17 (s ++ nineB))) ∧ Below w.heap.size w w') := N.out (s ++ nineB) (by have := HS.out; omega)
        clear N hbig h9z
        go_wp2_with fail
        go_loopw [25] (fun s25 wr => ∃ k : Nat, k ≤ s.size ∧ s25 = .int .i64 (k : Int) ∧ Below w.heap.size w wr) (fun s25 _ => s.size - (intOf s25).toNat)
        case atStart => exact ⟨0, by omega, rfl, hb⟩
        case round =>
          obtain ⟨k, hk, rfl, hb⟩ := hrel
          rcases Nat.lt_or_ge k s.size with hlt | hge
          · have hkz : (k : Int) < (s.size : Int) := by omega
            have HGk := HG.out k hlt
            obtain ⟨c, hc⟩ : ∃ c : Nat, (s[k]'hlt).toNat = c := ⟨_, rfl⟩
            rw [hc] at HGk
            have HB : Hid (Below w.heap.size w wr) := hb
            clear HG N9 H9 L hb
            by_cases h65 : 65 ≤ c
            · have h65z : (65 : Int) ≤ (c : Int) := by omega
              by_cases h90 : c ≤ 90
              · have h90z : (c : Int) ≤ 90 := by omega
                have Nk := N0.out wr HB.out
                rw [HGk h65 h90] at Nk
                clear HGk
                go_wp2_with fail
                refine Nk.mono ?_
                rintro e w1 ⟨rfl, hb1⟩
                go_wp2_with fail
                go_roundw
                case rel => exact ⟨k + 1, by omega, by go_num, hb1⟩
                case measure => simp [intOf]; omega
              · have h90z : ¬ (c : Int) ≤ 90 := by omega
                clear HGk
                go_wp2_with fail
                go_roundw
                case rel => exact ⟨k + 1, by omega, by go_num, HB.out⟩
                case measure => simp [intOf]; omega
            · have h65z : ¬ (65 : Int) ≤ (c : Int) := by omega
              clear HGk
              go_wp2_with fail
              go_roundw
              case rel => exact ⟨k + 1, by omega, by go_num, HB.out⟩
              case measure => simp [intOf]; omega
          · obtain rfl : k = s.size := by omega
            have Nk := N0.out wr hb
            clear HG
            cases hn : nm17 s
            · rw [hn] at Nk
              clear H9 N9 N0
              go_wp2_with fail
              refine Nk.mono ?_
              rintro e w1 ⟨rfl, hb1⟩
              have L1 := L.out w1 hb1
              go_wp2_with fail
              refine L1.mono ?_
              rintro e w2 ⟨rfl, hb2⟩
              go_wp2_with fail
              go_ret
              exact ⟨rfl, hb2⟩
            · rw [hn] at Nk
              by_cases h16 : s.size = 16
              · have h16z : (s.size : Int) = 16 := by omega
                clear H9 N9 N0 h16
                go_wp2_with fail
                refine Nk.mono ?_
                rintro e w1 ⟨rfl, hb1⟩
                have L1 := L.out w1 hb1
                go_wp2_with fail
                refine L1.mono ?_
                rintro e w2 ⟨rfl, hb2⟩
                go_wp2_with fail
                go_ret
                exact ⟨rfl, hb2⟩
              · have h16z : ¬ (s.size : Int) = 16 := by omega
                have N8 : Hid (∀ w1, Below w.heap.size w w1 → Calls Tryd.prog 9 #[.string (s ++ ⟨#[57]⟩)] w1 fun e w' => e = .returned (.bool true) ∧ Below w.heap.size w w') := fun w1 h1 => by
                  have := N9.out w1 h1
                  rwa [H9.out hn h16] at this
                clear H9 N9 N0 h16
                go_wp2_with fail
                refine Nk.mono ?_
                rintro e w1 ⟨rfl, hb1⟩
                have N7 := N8.out w1 hb1
                go_wp2_with fail
                refine N7.mono ?_
                rintro e w2 ⟨rfl, hb2⟩
                have L1 := L.out w2 hb2
                go_wp2_with fail
                refine L1.mono ?_
                rintro e w3 ⟨rfl, hb3⟩
                go_wp2_with fail
                go_ret
                exact ⟨rfl, hb3⟩
end Go.Proofs.YtgjajffpkjcenaaDoor.schemaWords
