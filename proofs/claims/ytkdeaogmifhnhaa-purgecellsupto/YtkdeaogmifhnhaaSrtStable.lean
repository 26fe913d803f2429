/-
  CONTRACT: the library's stable sort at cells (SortStableFunc).
-/
import Derived.Test.YtkdeaogmifhnhaaSrtSym
namespace Go.Proofs.Ytkdeaogmifhnhaa
open Go.RowKit

/-- Ranges of bs cells, each sorted. -/
def Runs (bs : Nat) (L : List Cx) : Prop := ∀ q, Up ((L.drop (q * bs)).take bs)
theorem Up.sub {A B : List Cx} (h : Up B) (hs : A.Sublist B) : Up A := List.Pairwise.sublist hs h
theorem Runs.snoc {bs q : Nat} {D S : List Cx} (h : Runs bs D) (hq : D.length = q * bs) (hS : Up S) (hl : S.length ≤ bs) : Runs bs (D ++ S) := by
  intro q'
  rcases Nat.lt_trichotomy q' q with g | g | g
  · have h1 : q' * bs + bs ≤ q * bs := by
      have := Nat.mul_le_mul_right bs (show q' + 1 ≤ q from g)
      rwa [Nat.add_mul, Nat.one_mul] at this
    rw [List.drop_append_of_le_length (by omega), List.take_append_of_le_length (by rw [List.length_drop]; omega)]
    exact h q'
  · subst g
    rw [← hq, List.drop_left]
    exact hS.sub (List.take_sublist _ _)
  · have h1 : q * bs + bs ≤ q' * bs := by
      have := Nat.mul_le_mul_right bs (show q + 1 ≤ q' from g)
      rwa [Nat.add_mul, Nat.one_mul] at this
    rw [List.drop_eq_nil_of_le (by rw [List.length_append]; omega)]
    simp [Up]
theorem Runs.nil (bs : Nat) : Runs bs [] := fun q => by simp [Up]
theorem Runs.all {bs : Nat} {L : List Cx} (h : Runs bs L) (hl : L.length ≤ bs) : Up L := by
  have := h 0
  rwa [Nat.zero_mul, List.drop_zero, List.take_of_length_le hl] at this
/-- The rest of sorted ranges: its first range, its second one. -/
theorem Runs.rest {bs k : Nat} {L E : List Cx} (h : Runs bs L) (hE : L.drop (k * bs) = E) : Runs bs E := by
  intro q
  have := h (k + q)
  rw [Nat.add_mul, ← List.drop_drop, hE] at this
  exact this
theorem Runs.first {bs : Nat} {X R : List Cx} (h : Runs bs (X ++ R)) (hX : X.length ≤ bs) (hR : X.length = bs ∨ R = []) : Up X := by
  have := h 0
  rw [Nat.zero_mul, List.drop_zero] at this
  rcases hR with hR | rfl
  · rwa [List.take_append_of_le_length (by omega), List.take_of_length_le (by omega)] at this
  · rwa [List.append_nil, List.take_of_length_le hX] at this
theorem Runs.second {bs : Nat} {X Y R : List Cx} (h : Runs bs (X ++ (Y ++ R))) (hX : X.length = bs) (hY : Y.length ≤ bs) (hR : Y.length = bs ∨ R = []) : Up Y := by
  have h1 := h.rest (k := 1) (E := Y ++ R) (by rw [Nat.one_mul, ← hX, List.drop_left])
  exact h1.first hY hR
theorem insertNone_any (v fv : Value) (a b : Nat) (w : World) (h : b ≤ a + 1) (hb : a ≤ 1000000) :
    Calls Try.prog 55 #[v, .int .i64 a, .int .i64 b, fv] w fun e w' => e = .returned (.tuple #[]) ∧ w' = w := by
  have h1 : ¬ (a : Int) + 1 < (b : Int) := by omega
  have h2 : (a : Int) ≤ 1000000 := by omega
  go_enter Try.func55, Try.ntmps55
  go_wp2_with fail
  go_loop [8] (fun s8 => s8 = .int .i64 ((a : Int) + 1)) (fun _ => 0)
  case atStart => rfl
  case round =>
    subst hrel
    go_wp2_with fail
    go_end0
    exact ⟨rfl, rfl⟩
theorem insSeg_any (B g cap N a b : Nat) (P S Q : List Cx) (w : World) (hR0 : Rx w B g cap (P ++ S ++ Q)) (hN : (P ++ S ++ Q).length = N) (hL : N ≤ 1000000) (ha : P.length = a) (hb : a + S.length = b) :
    Calls Try.prog 55 #[.slice (some ⟨g, 0, none⟩) N cap, .int .i64 (a : Nat), .int .i64 (b : Nat), .func (.func 34) #[] #[]] w fun e w' => e = .returned (.tuple #[]) ∧ (∃ S', St S S' ∧ Up S' ∧ Rx w' B g cap (P ++ S' ++ Q)) ∧ w.grownBy w' (some g) := by
  cases S with
  | nil =>
    simp only [List.length_nil, Nat.add_zero] at hb
    subst hb
    simp only [List.length_append] at hN
    exact (insertNone_any _ _ a a w (by omega) (by omega)).mono fun e w' ⟨h1, h2⟩ => ⟨h1, ⟨[], St.refl _, by simp [Up], by rw [h2]; exact hR0⟩, by rw [h2]; exact ⟨rfl, rfl, rfl, Nat.le_refl _, fun _ _ _ => rfl⟩⟩
  | cons s0 S =>
    have := insertion_any B g cap N P s0 S Q w hR0 hN hL
    rw [ha, show a + S.length + 1 = b by simp only [List.length_cons] at hb; omega] at this
    exact this
set_option maxRecDepth 100000 in
set_option maxHeartbeats 4000000 in
theorem stable_any (B g cap N : Nat) (L : List Cx) (w : World) (hR0 : Rx w B g cap L) (hN : L.length = N) (hL : N ≤ 1000000) :
    Calls Try.prog 46 #[.slice (some ⟨g, 0, none⟩) N cap, .int .i64 (N : Nat), .func (.func 34) #[] #[]] w fun e w' => e = .returned (.tuple #[]) ∧ (∃ L', St L L' ∧ Up L' ∧ Rx w' B g cap L') ∧ w.grownBy w' (some g) := by
  have hNz : (N : Int) ≤ 1000000 := by omega
  have IS : Hid (∀ (a b : Nat) (P S Q : List Cx) (w : World), Rx w B g cap (P ++ S ++ Q) → (P ++ S ++ Q).length = N → P.length = a → a + S.length = b → Calls Try.prog 55 #[.slice (some ⟨g, 0, none⟩) N cap, .int .i64 (a : Nat), .int .i64 (b : Nat), .func (.func 34) #[] #[]] w fun e w' => e = .returned (.tuple #[]) ∧ (∃ S', St S S' ∧ Up S' ∧ Rx w' B g cap (P ++ S' ++ Q)) ∧ w.grownBy w' (some g)) := fun a b P S Q w h1 h2 h3 h4 => insSeg_any B g cap N a b P S Q w h1 h2 hL h3 h4
  have SM : Hid (∀ (a m b : Nat) (P A T Q : List Cx) (w : World), 1 ≤ A.length → 1 ≤ T.length → Up A → Up T → P.length = a → a + A.length = m → m + T.length = b → (P ++ (A ++ T) ++ Q).length = N → Rx w B g cap (P ++ (A ++ T) ++ Q) → Calls Try.prog 56 #[.slice (some ⟨g, 0, none⟩) N cap, .int .i64 (a : Nat), .int .i64 (m : Nat), .int .i64 (b : Nat), .func (.func 34) #[] #[]] w fun e w' => e = .returned (.tuple #[]) ∧ (∃ S', St (A ++ T) S' ∧ Up S' ∧ Rx w' B g cap (P ++ S' ++ Q)) ∧ w.grownBy w' (some g)) := fun a m b P A T Q w h1 h2 h3 h4 h5 h6 h7 h8 h9 => symMerge_any B g cap N hL (A.length + T.length + 1) a m b P A T Q w (by omega) h1 h2 h3 h4 h5 h6 h7 h8 h9
  have HN : Hid (L.length = N ∧ N ≤ 1000000) := ⟨hN, hL⟩
  have HR0 : Hid (Rx w B g cap L) := hR0
  clear hR0 hN hL
  go_enter Try.func46, Try.ntmps46
  go_wp2_with fail
  go_loopw [7, 8] (fun s7 s8 wr => ∃ (a : Nat) (D E : List Cx), s7 = .int .i64 (a : Nat) ∧ s8 = .int .i64 (a + 20 : Nat) ∧ (∃ q, a = q * 20) ∧ D.length = a ∧ Runs 20 D ∧ St L (D ++ E) ∧ Rx wr B g cap (D ++ E) ∧ w.grownBy wr (some g)) (fun _ s8 _ => N + 20 - (intOf s8).toNat)
  case atStart => exact ⟨0, [], L, rfl, rfl, ⟨0, rfl⟩, rfl, Runs.nil _, St.refl _, HR0.out, ⟨rfl, rfl, rfl, Nat.le_refl _, fun _ _ _ => rfl⟩⟩
  case round =>
    obtain ⟨a, D, E, rfl, rfl, ⟨q, hq⟩, hD, hru, hSt, hR, hG⟩ := hrel
    have hlen : (D ++ E).length = N := by rw [hSt.len]; exact HN.out.1
    have hDE : a + E.length = N := by rw [List.length_append] at hlen; omega
    clear HR0
    by_cases hlt : a + 20 ≤ N
    · obtain ⟨X, E', rfl, hX⟩ : ∃ X E', E = X ++ E' ∧ X.length = 20 := ⟨E.take 20, E.drop 20, (List.take_append_drop _ _).symm, by rw [List.length_take]; omega⟩
      have C1 : Hid (Calls Try.prog 55 #[.slice (some ⟨g, 0, none⟩) N cap, .int .i64 (a : Nat), .int .i64 (a + 20 : Nat), .func (.func 34) #[] #[]] wr fun e w' => e = .returned (.tuple #[]) ∧ (∃ S', St X S' ∧ Up S' ∧ Rx w' B g cap (D ++ S' ++ E')) ∧ wr.grownBy w' (some g)) := IS.out a (a + 20) D X E' wr (by rw [List.append_assoc]; exact hR) (by rw [List.append_assoc]; exact hlen) hD (by omega)
      have HF : Hid (∀ S' w', St X S' → Up S' → Rx w' B g cap (D ++ S' ++ E') → wr.grownBy w' (some g) → (∃ q, a + 20 = q * 20) ∧ (D ++ S').length = a + 20 ∧ Runs 20 (D ++ S') ∧ St L ((D ++ S') ++ E') ∧ Rx w' B g cap ((D ++ S') ++ E') ∧ w.grownBy w' (some g)) := fun S' w' s1 u1 r1 g1 => ⟨⟨q + 1, by omega⟩, by rw [List.length_append, s1.len]; omega, hru.snoc (q := q) (by omega) u1 (by rw [s1.len]; omega), hSt.trans (by rw [List.append_assoc]; exact (St.refl D).append (s1.append (St.refl E'))), r1, hG.trans g1⟩
      have hltz : ((a + 20 : Nat) : Int) ≤ (N : Int) := by omega
      have ea : ((a + 20 : Nat) : Int) = (a : Int) + 20 := by omega
      have hlt2 : a + 20 ≤ N := hlt
      clear hSt hR hG hru hlen hDE hD hq hX IS SM
      rw [ea] at hltz C1 ⊢
      go_wp2_with fail
      go_fit C1.out
      rintro e w3 ⟨rfl, ⟨S', s1, u1, r1⟩, g1⟩
      have hf := HF.out S' w3 s1 u1 r1 g1
      have HF2 : Hid ((∃ q, a + 20 = q * 20) ∧ (D ++ S').length = a + 20 ∧ Runs 20 (D ++ S') ∧ St L ((D ++ S') ++ E') ∧ Rx w3 B g cap ((D ++ S') ++ E') ∧ w.grownBy w3 (some g)) := hf
      clear hf HF s1 u1 r1 g1
      go_wp2_with fail
      go_roundw
      case rel => exact ⟨a + 20, D ++ S', E', by go_num, by go_num, HF2.out.1, HF2.out.2.1, HF2.out.2.2.1, HF2.out.2.2.2.1, HF2.out.2.2.2.2.1, HF2.out.2.2.2.2.2⟩
      case measure => (simp [intOf]; try omega)
    · have C1 : Hid (Calls Try.prog 55 #[.slice (some ⟨g, 0, none⟩) N cap, .int .i64 (a : Nat), .int .i64 (N : Nat), .func (.func 34) #[] #[]] wr fun e w' => e = .returned (.tuple #[]) ∧ (∃ S', St E S' ∧ Up S' ∧ Rx w' B g cap (D ++ S' ++ [])) ∧ wr.grownBy w' (some g)) := IS.out a N D E [] wr (by rw [List.append_nil]; exact hR) (by rw [List.append_nil]; exact hlen) hD hDE
      have HF : Hid (∀ S' w', St E S' → Up S' → Rx w' B g cap (D ++ S' ++ []) → wr.grownBy w' (some g) → ∃ M, Runs 20 M ∧ St L M ∧ Rx w' B g cap M ∧ w.grownBy w' (some g)) := fun S' w' s1 u1 r1 g1 => ⟨D ++ S', hru.snoc (q := q) (by omega) u1 (by rw [s1.len]; omega), hSt.trans ((St.refl D).append s1), by simpa using r1, hG.trans g1⟩
      have hltz : ¬ ((a + 20 : Nat) : Int) ≤ (N : Int) := by omega
      have ea : ((a + 20 : Nat) : Int) = (a : Int) + 20 := by omega
      have haz : (a : Int) ≤ 1000000 := by omega
      clear hSt hR hG hru hlen hDE hD hq IS
      rw [ea] at hltz ⊢
      go_wp2_with fail
      go_fit C1.out
      rintro e w3 ⟨rfl, ⟨S', s1, u1, r1⟩, g1⟩
      obtain ⟨M, hM⟩ := HF.out S' w3 s1 u1 r1 g1
      have HM : Hid (Runs 20 M ∧ St L M ∧ Rx w3 B g cap M ∧ w.grownBy w3 (some g)) := hM
      clear hM HF s1 u1 r1 g1 C1 hltz
      go_wp2_with fail
      go_loopw [6] (fun s6 wq => ∃ (bs : Nat) (M : List Cx), s6 = .int .i64 (bs : Nat) ∧ 20 ≤ bs ∧ bs ≤ 2000000 ∧ Runs bs M ∧ St L M ∧ Rx wq B g cap M ∧ w.grownBy wq (some g)) (fun s6 _ => N - (intOf s6).toNat)
      case atStart => exact ⟨20, M, rfl, by omega, by omega, HM.out⟩
      case round =>
        clear HM
        obtain ⟨bs, M, rfl, hb1, hb2, hru, hSt, hR, hG⟩ := hrel
        have hlen : M.length = N := by rw [hSt.len]; exact HN.out.1
        by_cases hbn : bs < N
        · have hbz : (bs : Int) < (N : Int) := by omega
          obtain ⟨c, hc⟩ : ∃ c, c = 2 * bs := ⟨_, rfl⟩
          have ec : 2 * (bs : Int) = (c : Int) := by omega
          have ec2 : (bs : Int) * 2 = (c : Int) := by omega
          have hcz : (c : Int) ≤ 2000000 := by omega
          have HC : Hid (c = 2 * bs ∧ 20 ≤ bs ∧ bs < N) := ⟨hc, hb1, hbn⟩
          have HM : Hid (Runs bs M ∧ St L M ∧ Rx wr B g cap M ∧ w.grownBy wr (some g)) := ⟨hru, hSt, hR, hG⟩
          clear hc hru hSt hR hG hlen hb1 hb2 hbn
          go_wp2_with fail
          go_loopw [7, 8] (fun s7 s8 wj => ∃ (a : Nat) (D E : List Cx), s7 = .int .i64 (a : Nat) ∧ s8 = .int .i64 (a + c : Nat) ∧ (∃ q, a = q * c) ∧ D.length = a ∧ Runs c D ∧ Runs bs E ∧ St L (D ++ E) ∧ Rx wj B g cap (D ++ E) ∧ w.grownBy wj (some g)) (fun _ s8 _ => N + c - (intOf s8).toNat)
          case atStart => exact ⟨0, [], M, rfl, by simp, ⟨0, by simp⟩, rfl, Runs.nil _, HM.out.1, by simpa using HM.out.2.1, by simpa using HM.out.2.2.1, HM.out.2.2.2⟩
          case round =>
            clear HM
            obtain ⟨a, D, E, rfl, rfl, ⟨q, hq⟩, hD, hru, hrE, hSt, hR, hG⟩ := hrel
            have hlen : (D ++ E).length = N := by rw [hSt.len]; exact HN.out.1
            have hDE : a + E.length = N := by rw [List.length_append] at hlen; omega
            obtain ⟨b, hb⟩ : ∃ b, b = a + c := ⟨_, rfl⟩
            rw [← hb]
            obtain ⟨m, hm⟩ : ∃ m, m = a + bs := ⟨_, rfl⟩
            have em : (a : Int) + (bs : Int) = (m : Int) := by omega
            have hc := HC.out
            by_cases hlt : b ≤ N
            · obtain ⟨X, E1, rfl, hX⟩ : ∃ X E', E = X ++ E' ∧ X.length = bs := ⟨E.take bs, E.drop bs, (List.take_append_drop _ _).symm, by rw [List.length_take]; omega⟩
              rw [List.length_append] at hDE
              obtain ⟨Y, E2, rfl, hY⟩ : ∃ Y E', E1 = Y ++ E' ∧ Y.length = bs := ⟨E1.take bs, E1.drop bs, (List.take_append_drop _ _).symm, by rw [List.length_take]; omega⟩
              have uX : Up X := hrE.first (by omega) (.inl hX)
              have uY : Up Y := hrE.second hX (by omega) (.inl hY)
              have rE : Runs bs E2 := by
                have := hrE.rest (k := 2) (E := E2) (by rw [show 2 * bs = (X ++ Y).length by rw [List.length_append]; omega, ← List.append_assoc, List.drop_left])
                exact this
              have C1 : Hid (Calls Try.prog 56 #[.slice (some ⟨g, 0, none⟩) N cap, .int .i64 (a : Nat), .int .i64 (m : Nat), .int .i64 (b : Nat), .func (.func 34) #[] #[]] wr fun e w' => e = .returned (.tuple #[]) ∧ (∃ S', St (X ++ Y) S' ∧ Up S' ∧ Rx w' B g cap (D ++ S' ++ E2)) ∧ wr.grownBy w' (some g)) := SM.out a m b D X Y E2 wr (by omega) (by omega) uX uY hD (by omega) (by omega) (by rw [← hlen]; simp) (by simpa using hR)
              have HF : Hid (∀ S' w', St (X ++ Y) S' → Up S' → Rx w' B g cap (D ++ S' ++ E2) → wr.grownBy w' (some g) → (∃ q, b = q * c) ∧ (D ++ S').length = b ∧ Runs c (D ++ S') ∧ Runs bs E2 ∧ St L ((D ++ S') ++ E2) ∧ Rx w' B g cap ((D ++ S') ++ E2) ∧ w.grownBy w' (some g)) := fun S' w' s1 u1 r1 g1 => ⟨⟨q + 1, by rw [hb, hq, Nat.add_mul, Nat.one_mul]⟩, by rw [List.length_append, s1.len, List.length_append]; omega, hru.snoc (q := q) (by omega) u1 (by rw [s1.len, List.length_append]; omega), rE, hSt.trans (by rw [List.append_assoc, ← List.append_assoc X]; exact (St.refl D).append (s1.append (St.refl E2))), r1, hG.trans g1⟩
              have hltz : (b : Int) ≤ (N : Int) := by omega
              have hmz : (m : Int) ≤ 2000000 := by omega
              obtain ⟨b2, hb2⟩ : ∃ b2, b2 = b + c := ⟨_, rfl⟩
              have eb : (b : Int) + (c : Int) = (b2 : Int) := by omega
              have HB2 : Hid (b2 = b + c) := hb2
              have hb2z : (b2 : Int) ≤ 4000000 := by omega
              have HBC : Hid (b = a + c ∧ 20 ≤ bs ∧ c = 2 * bs ∧ b ≤ N) := ⟨hb, by omega, hc.1, hlt⟩
              clear hSt hR hG hru hlen hDE hD hq hX hY SM hb hm hrE uX uY rE hc hb2
              go_wp2_with fail
              go_fit C1.out
              rintro e w5 ⟨rfl, ⟨S', s1, u1, r1⟩, g1⟩
              have hf := HF.out S' w5 s1 u1 r1 g1
              have HF2 : Hid ((∃ q, b = q * c) ∧ (D ++ S').length = b ∧ Runs c (D ++ S') ∧ Runs bs E2 ∧ St L ((D ++ S') ++ E2) ∧ Rx w5 B g cap ((D ++ S') ++ E2) ∧ w.grownBy w5 (some g)) := hf
              clear hf HF s1 u1 r1 g1
              go_wp2_with fail
              go_roundw
              case rel => exact ⟨b, D ++ S', E2, rfl, by rw [HB2.out], HF2.out⟩
              case measure => have := HBC.out; have := HB2.out; (simp [intOf]; try omega)
            · have hltz : ¬ (b : Int) ≤ (N : Int) := by omega
              have hmz : (m : Int) ≤ 2000000 := by omega
              have hmeas : Hid (bs < c ∧ bs < N) := ⟨by omega, by omega⟩
              have HB2 : Hid (20 ≤ c ∧ c ≤ 2000000) := ⟨by omega, by omega⟩
              by_cases hmn : m < N
              · obtain ⟨X, Y, rfl, hX⟩ : ∃ X E', E = X ++ E' ∧ X.length = bs := ⟨E.take bs, E.drop bs, (List.take_append_drop _ _).symm, by rw [List.length_take]; omega⟩
                rw [List.length_append] at hDE
                have uX : Up X := hrE.first (by omega) (.inl hX)
                have uY : Up Y := by
                  have h2 : Runs bs (X ++ (Y ++ [])) := by rw [List.append_nil]; exact hrE
                  exact h2.second hX (by omega) (.inr rfl)
                have C1 : Hid (Calls Try.prog 56 #[.slice (some ⟨g, 0, none⟩) N cap, .int .i64 (a : Nat), .int .i64 (m : Nat), .int .i64 (N : Nat), .func (.func 34) #[] #[]] wr fun e w' => e = .returned (.tuple #[]) ∧ (∃ S', St (X ++ Y) S' ∧ Up S' ∧ Rx w' B g cap (D ++ S' ++ [])) ∧ wr.grownBy w' (some g)) := SM.out a m N D X Y [] wr (by omega) (by omega) uX uY hD (by omega) (by omega) (by rw [← hlen]; simp) (by simpa using hR)
                have HF : Hid (∀ S' w', St (X ++ Y) S' → Up S' → Rx w' B g cap (D ++ S' ++ []) → wr.grownBy w' (some g) → Runs c (D ++ S') ∧ St L (D ++ S') ∧ Rx w' B g cap (D ++ S') ∧ w.grownBy w' (some g)) := fun S' w' s1 u1 r1 g1 => ⟨hru.snoc (q := q) (by omega) u1 (by rw [s1.len, List.length_append]; omega), hSt.trans ((St.refl D).append s1), by simpa using r1, hG.trans g1⟩
                have hmz2 : (m : Int) < (N : Int) := by omega
                clear hSt hR hG hru hlen hDE hD hq hX SM hb hm hrE uX uY hc hlt hmn
                go_wp2_with fail
                go_fit C1.out
                rintro e w5 ⟨rfl, ⟨S', s1, u1, r1⟩, g1⟩
                have hf := HF.out S' w5 s1 u1 r1 g1
                have HF2 : Hid (Runs c (D ++ S') ∧ St L (D ++ S') ∧ Rx w5 B g cap (D ++ S') ∧ w.grownBy w5 (some g)) := hf
                clear hf HF s1 u1 r1 g1
                go_wp2_with fail
                go_roundw
                case rel => exact ⟨c, D ++ S', rfl, HB2.out.1, HB2.out.2, HF2.out⟩
                case measure => have := hmeas.out; (simp [intOf]; try omega)
              · have hmz2 : ¬ (m : Int) < (N : Int) := by omega
                have uE : Up E := by
                  have h2 : Runs bs (E ++ []) := by rw [List.append_nil]; exact hrE
                  exact h2.first (by omega) (.inr rfl)
                have HF2 : Hid (Runs c (D ++ E) ∧ St L (D ++ E) ∧ Rx wr B g cap (D ++ E) ∧ w.grownBy wr (some g)) := ⟨hru.snoc (q := q) (by omega) uE (by omega), hSt, hR, hG⟩
                clear hSt hR hG hru hlen hDE hD hq SM hb hm hrE uE hc hlt hmn
                go_wp2_with fail
                go_roundw
                case rel => exact ⟨c, D ++ E, rfl, HB2.out.1, HB2.out.2, HF2.out⟩
                case measure => have := hmeas.out; (simp [intOf]; try omega)
        · have hbz : ¬ (bs : Int) < (N : Int) := by omega
          have HF : Hid (∃ L', St L L' ∧ Up L' ∧ Rx wr B g cap L') := ⟨M, hSt, hru.all (by omega), hR⟩
          clear hru hSt hR hlen
          go_wp2_with fail
          go_end0
          exact ⟨rfl, HF.out, hG⟩
end Go.Proofs.Ytkdeaogmifhnhaa
