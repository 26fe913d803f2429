/-
  THE WALK: what is quoted is read as the text that it quotes.
-/
import Derived.Test.YtajebjkpmbehgaaDoorLexerJoinsWalk
namespace Go.Proofs.YtajebjkpmbehgaaDoor.lexerQuotes
open Go.RowKit

set_option maxRecDepth 100000 in
set_option maxHeartbeats 4000000 in
theorem walk (s : ByteArray) (w : World) (hs : s.size ≤ 140737488351232) (he : EnvL w) :
    Calls Tryd.prog 6 #[.string s] w fun e w' => e = .returned (.bool true) ∧ Below w.heap.size w w' := by
  have hlen : s.data.toList.length = s.size := by simp
  have L : Hid (∀ wr, Below w.heap.size w wr → Calls Tryd.prog 8 #[] wr fun e w' => e = .returned (.bool true) ∧ Below wr.heap.size wr w') := fun wr hb => lives18_any wr (he.below hb)
  by_cases h1 : 150 < s.size
  · have h1z : (150 : Int) < (s.size : Int) := by omega
    clear he
    go_enter Tryd.func6, Tryd.ntmps6
    go_wp2_with (go_at_call 8; refine (L.out _ (Below.refl _ _)).mono ?_; rintro x w1 ⟨rfl, hb1⟩)
    go_ret
    exact ⟨rfl, hb1⟩
  · have h1z : ¬ (150 : Int) < (s.size : Int) := by omega
    have Q : Hid (∀ wr, Calls Tryd.prog 10 #[.string s] wr fun e w' => e = .returned (.string (xB (quT s.data.toList))) ∧ Below wr.heap.size wr w') := fun wr => quote_any s wr (by omega)
    have hqz : (xB (quT s.data.toList)).size = (s.data.toList.flatMap qB).length + 2 := by rw [xB_size, quT_len]
    have hfl := quo_len s.data.toList
    rw [hlen] at hfl
    by_cases h2 : 64 < s.size
    · have h2z : (64 : Int) < (s.size : Int) := by omega
      have h2y : (64 : Int) ≤ (s.size : Int) := by omega
      have hx := lex_quT_long s.data.toList (by omega) (by omega)
      have LE : Hid (∀ wr, Below w.heap.size w wr → Calls Tryd.prog 7 #[.string (xB (quT s.data.toList))] wr fun x w' => x = .returned (.tuple #[.slice none 0 0, .int .i64 ((1 + ((s.data.toList.take 64).flatMap qB).length : Nat) : Int), .int .i64 11]) ∧ Below wr.heap.size wr w') := fun wr hb => lex_err (xB (quT s.data.toList)) wr (he.below hb) hx
      obtain ⟨s6, hs6⟩ : ∃ s6, s.extract 0 64 = s6 := ⟨_, rfl⟩
      have hs6l : s6.data.toList = s.data.toList.take 64 := by rw [← hs6, ext_list]; simp
      have hs6z : s6.size ≤ 64 := by rw [← hs6]; simp; omega
      obtain ⟨q6, hq6⟩ : ∃ q6, xB (quT (s.data.toList.take 64)) = q6 := ⟨_, rfl⟩
      have hq6z : q6.size = ((s.data.toList.take 64).flatMap qB).length + 2 := by rw [← hq6, xB_size, quT_len]
      have Q6 : Hid (∀ wr, Calls Tryd.prog 10 #[.string s6] wr fun e w' => e = .returned (.string q6) ∧ Below wr.heap.size wr w') := fun wr => by
        have := quote_any s6 wr (by omega)
        rw [hs6l, hq6] at this
        exact this
      have hz6 := quo_len (s.data.toList.take 64)
      rw [List.length_take] at hz6
      obtain ⟨n, hn⟩ : ∃ n, 1 + ((s.data.toList.take 64).flatMap qB).length = n := ⟨_, rfl⟩
      rw [hn] at LE
      have hnz : (n : Int) = (q6.size : Int) - 1 := by omega
      have hnb : ((n : Int) == (q6.size : Int) - 1) = true := beq_iff_eq.2 hnz
      have hq6b : (q6.size : Int) ≤ 1000 := by omega
      have hq6c : 1 ≤ (q6.size : Int) := by omega
      clear hx he hs6l hq6z hz6 hn hq6 hnz hqz hfl
      generalize xB (quT s.data.toList) = q at *
      go_enter Tryd.func6, Tryd.ntmps6
      go_wp2_with (first
        | (go_at_call_of 10 (Value.string s); refine (Q.out _).mono ?_; rintro x w1 ⟨rfl, hb1⟩)
        | (go_at_call 7; refine (LE.out _ hb1).mono ?_; rintro x w2 ⟨rfl, hb2⟩; have hb12 := hb1.trans (hb2.mono hb1.size))
        | (go_at_call_of 10 (Value.string s6); refine (Q6.out _).mono ?_; rintro x w3 ⟨rfl, hb3⟩; have hb13 := hb12.trans (hb3.mono hb12.size))
        | (go_at_call 8; refine (L.out _ hb13).mono ?_; rintro x w4 ⟨rfl, hb4⟩))
      go_ret
      exact ⟨rfl, hb13.trans (hb4.mono hb13.size)⟩
    · have h2z : ¬ (64 : Int) < (s.size : Int) := by omega
      have hx := lex_quT s.data.toList (by omega)
      have hlz : (quT s.data.toList).length = (xB (quT s.data.toList)).size := rfl
      have LS : Hid (∀ wr, Below w.heap.size w wr → Calls Tryd.prog 7 #[.string (xB (quT s.data.toList))] wr fun x w' => ∃ g cap, x = .returned (.tuple #[.slice (some ⟨g, 0, none⟩) 2 cap, .int .i64 0, .int .i64 0]) ∧ (w'.cell? ⟨g, 0, none⟩ = some (.int .i64 4) ∧ w'.cell? ⟨g, 2, none⟩ = some (.int .i64 2) ∧ w'.cell? ⟨g, 3, none⟩ = some (.int .i64 0) ∧ w'.cell? ⟨g, 4, none⟩ = some (.string s) ∧ w'.cell? ⟨g, 6, none⟩ = some (.int .i64 ((xB (quT s.data.toList)).size : Int))) ∧ Below wr.heap.size wr w') := fun wr hb => by
        refine (lex_some (xB (quT s.data.toList)) wr (he.below hb) hx).mono ?_
        rintro x w' ⟨ao, cap, rfl, hT, hB⟩
        obtain ⟨g, rfl, h0⟩ := hT 0 _ rfl
        exact ⟨g, cap, rfl, ⟨h0 0 _ rfl, h0 2 _ rfl, h0 3 _ rfl, h0 4 _ rfl, h0 6 _ rfl⟩, hB⟩
      clear hx he hqz hfl hlz
      generalize xB (quT s.data.toList) = q at *
      go_enter Tryd.func6, Tryd.ntmps6
      go_wp2_with (first
        | (go_at_call 10; refine (Q.out _).mono ?_; rintro x w1 ⟨rfl, hb1⟩)
        | (go_at_call 7; refine (LS.out _ hb1).mono ?_; rintro x w2 ⟨g, cap, rfl, ⟨c0, c2, c3, c4, c6⟩, hb2⟩; have hb12 := hb1.trans (hb2.mono hb1.size))
        | (go_at_call 8; refine (L.out _ hb12).mono ?_; rintro x w4 ⟨rfl, hb4⟩))
      go_ret
      exact ⟨rfl, hb12.trans (hb4.mono hb12.size)⟩
end Go.Proofs.YtajebjkpmbehgaaDoor.lexerQuotes
