/-
  THE WALK: any text in tokens.
-/
import Derived.Test.YtajebjkpmbehgaaGreatDoorLxrLike
import Derived.Test.YtajebjkpmbehgaaGreatDoorRegCl
namespace Go.Proofs.YtajebjkpmbehgaaGreatDoor
open Go.RowKit

namespace lexerLexes
set_option maxRecDepth 100000 in
set_option maxHeartbeats 4000000 in
theorem walk (s : ByteArray) (w : World) (_hs : s.size ≤ 140737488351232) (he : EnvL w) :
    Calls Tryz.prog 4 #[.string s] w fun e w' => e = .returned (.bool true) ∧ Below w.heap.size w w' := by
  have L : Hid (∀ wr, Below w.heap.size w wr → Calls Tryz.prog 8 #[] wr fun e w' => e = .returned (.bool true) ∧ Below wr.heap.size wr w') := fun wr hb => lives18_any wr (he.below hb)
  cases hx : lexT s.data.toList with
  | mk o y =>
    obtain ⟨m, e⟩ := y
    have C1 : Calls Tryz.prog 9 #[.string s] w fun x w' => ∃ ao cap, x = .returned (.tuple #[.slice ao (o.getD []).length cap, .int .i64 (m : Int), .int .i64 e]) ∧ TkSee w' ao (o.getD []) ∧ Below w.heap.size w w' := by
      refine (lex_any s w he).mono ?_
      rintro x w' ⟨ao, cap, rfl, hT, -, hB⟩
      rw [hx] at hT ⊢
      exact ⟨ao, cap, rfl, hT, hB⟩
    have C2 : Hid (∀ wr, Calls Tryz.prog 10 #[.string s] wr fun x w' => ∃ ao cap, x = .returned (.tuple #[.slice ao (o.getD []).length cap, .int .i64 (m : Int), .int .i64 e]) ∧ TkSee w' ao (o.getD []) ∧ Below wr.heap.size wr w') := by
      intro wr
      refine (lexR_any s wr).mono ?_
      rintro x w' ⟨ao, cap, rfl, hT, -, hB⟩
      rw [hx] at hT ⊢
      exact ⟨ao, cap, rfl, hT, hB⟩
    have hlen : (o.getD []).length ≤ 100000 := by
      cases o with
      | none => simp
      | some ts =>
        obtain ⟨-, -, hl6, hch⟩ := lexT_ok hx
        have := ch_len hch
        show ts.length ≤ _
        omega
    obtain ⟨ts, hts⟩ : ∃ ts, o.getD [] = ts := ⟨_, rfl⟩
    rw [hts] at C1 C2 hlen
    clear hx he hts _hs
    have HC1 : Hid (Calls Tryz.prog 9 #[.string s] w fun x w' => ∃ ao cap, x = .returned (.tuple #[.slice ao ts.length cap, .int .i64 (m : Int), .int .i64 e]) ∧ TkSee w' ao ts ∧ Below w.heap.size w w') := C1
    clear C1
    obtain ⟨n, hn⟩ : ∃ n, ts.length = n := ⟨_, rfl⟩
    rw [hn] at HC1 C2 hlen
    have HNl : Hid (ts.length = n) := hn
    clear hn
    have hnz2 : (n : Int) ≤ 100000 := by omega
    go_enter Tryz.func4, Tryz.ntmps4
    go_wp2_with (first | (go_at_call 9; refine HC1.out.mono ?_; rintro x w1 ⟨ao, cap, rfl, hT1, hb1⟩) | (go_at_call 10; refine (C2.out _).mono ?_; rintro x w2 ⟨ar, car, rfl, hT2, hb2⟩))
    have HB1 : Hid (Below w.heap.size w w2) := hb1.trans (hb2.mono hb1.size)
    have HT1 : Hid (TkSee w2 ao ts) := hT1.below hb2
    have HT2 : Hid (TkSee w2 ar ts) := hT2
    clear hT1 hT2 hb1 hb2 HC1 C2
    go_loopw [40] (fun s40 wr => ∃ i : Nat, i ≤ n ∧ s40 = .int .i64 (i : Int) ∧ Below w2.heap.size w2 wr) (fun s40 _ => n - (intOf s40).toNat)
    case atStart => exact ⟨0, Nat.zero_le _, rfl, Below.refl _ _⟩
    case round =>
      obtain ⟨i, hi, rfl, hb⟩ := hrel
      by_cases hlt : i < n
      · have hiz : (i : Int) < (n : Int) := by omega
        obtain ⟨t, hti⟩ : ∃ t, ts[i]? = some t := ⟨_, List.getElem?_eq_getElem (by have := HNl.out; omega)⟩
        obtain ⟨g, rfl, h0, h1, h2, h3, h4, h5, h6⟩ := (HT1.out.below hb).at hti
        obtain ⟨gr, rfl, r0, r1, r2, r3, r4, r5, r6⟩ := (HT2.out.below hb).at hti
        have CK : Hid (∀ wr, _) := fun wr => like_same t.kind t.vk t.vn (t.b : Int) (t.e : Int) (xB t.s) (xB t.vs) wr
        have lt0 : gr < wr.heap.size := World.block_lt_of_cell? _ ⟨gr, i * 7, none⟩ r0
        obtain ⟨W, hW⟩ : ∃ W, W = wr.alloc (.cells #[.int .i64 t.kind, .string (xB t.s), .int .i64 t.vk, .int .i64 t.vn, .string (xB t.vs), .int .i64 (t.b : Int), .int .i64 (t.e : Int)] 25) := ⟨_, rfl⟩
        have hBk : Blk W wr.heap.size [.int .i64 t.kind, .string (xB t.s), .int .i64 t.vk, .int .i64 t.vn, .string (xB t.vs), .int .i64 (t.b : Int), .int .i64 (t.e : Int)] 25 := by rw [hW]; exact Blk.new wr [.int .i64 t.kind, .string (xB t.s), .int .i64 t.vk, .int .i64 t.vn, .string (xB t.vs), .int .i64 (t.b : Int), .int .i64 (t.e : Int)] _
        have hold : ∀ (j : Nat) (v : Value), wr.cell? ⟨gr, j, none⟩ = some v → W.cell? ⟨gr, j, none⟩ = some v := fun j v h => by
          rw [hW]
          exact (World.cell?_of_block (a := ⟨gr, j, none⟩) (Below.heap_alloc _ _ _ lt0)).trans h
        have hlt1 := hBk.lt
        have hlt2 : gr < W.heap.size := by omega
        have a0 : ∀ q : Cl W.heap.size W, q.u.cell? ⟨wr.heap.size, 0, none⟩ = some (.int .i64 t.kind) := fun q => q.cell hlt1 (hBk.cell 0 rfl)
        have a1 : ∀ q : Cl W.heap.size W, q.u.cell? ⟨wr.heap.size, 1, none⟩ = some (.string (xB t.s)) := fun q => q.cell hlt1 (hBk.cell 1 rfl)
        have a2 : ∀ q : Cl W.heap.size W, q.u.cell? ⟨wr.heap.size, 2, none⟩ = some (.int .i64 t.vk) := fun q => q.cell hlt1 (hBk.cell 2 rfl)
        have a3 : ∀ q : Cl W.heap.size W, q.u.cell? ⟨wr.heap.size, 3, none⟩ = some (.int .i64 t.vn) := fun q => q.cell hlt1 (hBk.cell 3 rfl)
        have a4 : ∀ q : Cl W.heap.size W, q.u.cell? ⟨wr.heap.size, 4, none⟩ = some (.string (xB t.vs)) := fun q => q.cell hlt1 (hBk.cell 4 rfl)
        have a5 : ∀ q : Cl W.heap.size W, q.u.cell? ⟨wr.heap.size, 5, none⟩ = some (.int .i64 (t.b : Int)) := fun q => q.cell hlt1 (hBk.cell 5 rfl)
        have a6 : ∀ q : Cl W.heap.size W, q.u.cell? ⟨wr.heap.size, 6, none⟩ = some (.int .i64 (t.e : Int)) := fun q => q.cell hlt1 (hBk.cell 6 rfl)
        have m0 : ∀ q : Cl W.heap.size W, q.u.cell? ⟨gr, i * 7, none⟩ = some (.int .i64 t.kind) := fun q => q.cell hlt2 (hold _ _ r0)
        have m1 : ∀ q : Cl W.heap.size W, q.u.cell? ⟨gr, i * 7 + 1, none⟩ = some (.string (xB t.s)) := fun q => q.cell hlt2 (hold _ _ r1)
        have m2 : ∀ q : Cl W.heap.size W, q.u.cell? ⟨gr, i * 7 + 2, none⟩ = some (.int .i64 t.vk) := fun q => q.cell hlt2 (hold _ _ r2)
        have m3 : ∀ q : Cl W.heap.size W, q.u.cell? ⟨gr, i * 7 + 3, none⟩ = some (.int .i64 t.vn) := fun q => q.cell hlt2 (hold _ _ r3)
        have m4 : ∀ q : Cl W.heap.size W, q.u.cell? ⟨gr, i * 7 + 4, none⟩ = some (.string (xB t.vs)) := fun q => q.cell hlt2 (hold _ _ r4)
        have m5 : ∀ q : Cl W.heap.size W, q.u.cell? ⟨gr, i * 7 + 5, none⟩ = some (.int .i64 (t.b : Int)) := fun q => q.cell hlt2 (hold _ _ r5)
        have m6 : ∀ q : Cl W.heap.size W, q.u.cell? ⟨gr, i * 7 + 6, none⟩ = some (.int .i64 (t.e : Int)) := fun q => q.cell hlt2 (hold _ _ r6)
        have HBW : Hid (∀ q : Cl W.heap.size W, Below w2.heap.size w2 q.u) := fun q => by
          have h1 : Below w2.heap.size w2 W := by rw [hW]; exact hb.alloc hb.size _
          exact h1.trans (q.h.mono h1.size)
        have CKq : Hid (∀ q : Cl W.heap.size W, Calls Tryz.prog 7 #[.agg #[.int .i64 t.kind, .string (xB t.s), .int .i64 t.vk, .int .i64 t.vn, .string (xB t.vs), .int .i64 (t.b : Int), .int .i64 (t.e : Int)], .agg #[.int .i64 t.kind, .string (xB t.s), .int .i64 t.vk, .int .i64 t.vn, .string (xB t.vs), .int .i64 (t.b : Int), .int .i64 (t.e : Int)]] q.u fun e w'' => e = .returned (.bool true) ∧ ∃ q' : Cl W.heap.size W, w'' = q'.u) := fun q => Cl.calls (Nat.le_refl _) (CK.out q.u)
        clear hti hb r0 r1 r2 r3 r4 r5 r6 hold CK
        go_upto_region 8 with fail
        rw [← hW]
        clear hW h0 h1 h2 h3 h4 h5 h6 hBk
        haveI := Cl.inh W.heap.size W
        refine wp_region_cl W.heap.size (by kernel_rfl) (by kernel_rfl) ?_
        repeat (quiet_step (first | (go_at_call 7; exact CKq.out _)))
        refine wpQuiet_nil ?_
        rintro _ ⟨q, rfl⟩
        clear a0 a1 a2 a3 a4 a5 a6 m0 m1 m2 m3 m4 m5 m6
        go_wp2_with fail
        go_roundw
        case rel => exact ⟨i + 1, by omega, by go_num, HBW.out q⟩
        case measure => simp [intOf]; omega
      · obtain rfl : i = n := by omega
        have HB4 : Hid (Below w.heap.size w wr) := HB1.out.trans (hb.mono HB1.out.size)
        clear hb
        go_wp2_with (go_at_call 8; refine (L.out _ HB4.out).mono ?_; rintro x w3 ⟨rfl, hb3⟩)
        go_ret
        exact ⟨rfl, HB4.out.trans (hb3.mono HB4.out.size)⟩
end lexerLexes
end Go.Proofs.YtajebjkpmbehgaaGreatDoor
