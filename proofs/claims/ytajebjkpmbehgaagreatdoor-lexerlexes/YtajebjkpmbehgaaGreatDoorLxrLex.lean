/-
  CONTRACT: the document's Lex.
-/
import Derived.Test.YtajebjkpmbehgaaGreatDoorLxrNext
import Derived.Test.YtajebjkpmbehgaaGreatDoorLexLex
namespace Go.Proofs.YtajebjkpmbehgaaGreatDoor
open Go.RowKit

theorem tkSeeR_of {w : World} {base : Nat} {v : Value} {ts : List Tk} (h : w.ownsRow base 29 7 v ts.length (ts.flatMap Tk.cs)) : ∃ ao cap, v = .slice ao ts.length cap ∧ TkSee w ao ts := by
  obtain ⟨ao, cap, hv, -, h2⟩ := owns_recs (k := 7) Tk.cs_len h
  refine ⟨ao, cap, hv, fun i t ht => ?_⟩
  obtain ⟨g, e, -, h3⟩ := h2 i t ht
  exact ⟨g, e, h3⟩
theorem src_tkR (w : World) (t : Tk) : Src Tryz.prog 7 38 (.slice (some ⟨w.heap.size, 0, none⟩) 1 1) 1 (([t] : List Tk).flatMap Tk.cs) (w.alloc (.cells t.cs.toArray 29)) := by
  have hb : Blk (w.alloc (.cells t.cs.toArray 29)) w.heap.size t.cs 29 := Blk.new w t.cs _
  refine Src.ofSlice _ Tryz.underlying38 _ 1 1 _ rfl (fun j u hu => ?_) (flat_one Tk.cs_one _)
  rw [Addr.add_lit, Nat.zero_add]
  refine hb.cell j ?_
  rw [← hu]
  simp
theorem src_tkR2 (w : World) (o : Obj) (t : Tk) : Src Tryz.prog 7 38 (.slice (some ⟨w.heap.size + 1, 0, none⟩) 1 1) 1 (([t] : List Tk).flatMap Tk.cs) ((w.alloc o).alloc (.cells #[.int .i64 t.kind, .string (xB t.s), .int .i64 t.vk, .int .i64 t.vn, .string (xB t.vs), .int .i64 (t.b : Int), .int .i64 (t.e : Int)] 29)) := by
  have := src_tkR (w.alloc o) t
  rw [World.size_alloc] at this
  exact this
theorem infoTkR : (Tryz.prog.info? 29).map (fun i => (i.zero, i.size, i.bytes)) = some (some (.agg #[.int .i64 0, .string ⟨#[]⟩, .int .i64 0, .int .i64 0, .string ⟨#[]⟩, .int .i64 0, .int .i64 0]), 7, 72) := by kernel_rfl
set_option maxRecDepth 100000 in
set_option maxHeartbeats 4000000 in
theorem lexR_any (s : ByteArray) (w : World) : Calls Tryz.prog 10 #[.string s] w fun e w' => LexR w (lexT s.data.toList) e w' := by
  rw [lexT_N]
  have hlen : s.data.toList.length = s.size := by simp
  obtain ⟨A, hA⟩ : ∃ A, lxN (s.data.toList.length + 1) s.data.toList 0 = A := ⟨_, rfl⟩
  rw [hA]
  have CN : Hid (∀ (x : Int) wr, Below w.heap.size w wr → Calls Tryz.prog 6 #[.string s, .int .i64 x] wr fun e w' => e = .returned (nxV (nextT s.data.toList x)) ∧ Below wr.heap.size wr w') := fun x wr h => nextR_any s x wr
  generalize s.data.toList = l at *
  obtain ⟨i0, hi, hz0, hz1, hz2⟩ := info_three infoTkR
  have HI : Hid (Tryz.prog.info? 29 = some i0 ∧ i0.zero = some (.agg #[.int .i64 0, .string ⟨#[]⟩, .int .i64 0, .int .i64 0, .string ⟨#[]⟩, .int .i64 0, .int .i64 0]) ∧ i0.size = 7 ∧ i0.bytes = 72) := ⟨hi, hz0, hz1, hz2⟩
  clear hi hz0 hz1 hz2
  go_enter Tryz.func10, Tryz.ntmps10
  go_wp2_with fail
  go_loopw [5, 6] (fun s5 s6 wr => ∃ (p n : Nat) (T : List Tk), p ≤ l.length ∧ l.length - p < n ∧ T.length ≤ p ∧ s6 = .int .i64 (p : Int) ∧ wr.ownsRow w.heap.size 29 7 s5 T.length (T.flatMap Tk.cs) ∧ Below w.heap.size w wr ∧ A = ((lxN n l p).1.map (T ++ ·), (lxN n l p).2)) (fun _ s6 _ => l.length - (intOf s6).toNat)
  case atStart =>
    refine ⟨0, l.length + 1, [], Nat.zero_le _, by omega, Nat.le_refl _, rfl, World.ownsRow_nil _ _ _ _, Below.refl _ _, ?_⟩
    rw [hA]
    cases A with
    | mk x y => cases x <;> simp
  case round =>
    obtain ⟨p, n, T, hp, hn, hTp, rfl, hrow, hb, hinv⟩ := hrel
    clear hA
    obtain ⟨n, rfl⟩ : ∃ n', n = n' + 1 := ⟨n - 1, by omega⟩
    rw [lxN] at hinv
    have C := CN.out (p : Int) wr hb
    have HB : Hid (Below w.heap.size w wr) := hb
    have hB3 : ∀ w1 o, Below wr.heap.size wr w1 → Below w.heap.size w (w1.alloc o) := fun w1 o h => (hb.trans (h.mono hb.size)).alloc (hb.trans (h.mono hb.size)).size _
    have HB3 : Hid (∀ w1 o, Below wr.heap.size wr w1 → Below w.heap.size w (w1.alloc o)) := hB3
    obtain ⟨ao, cap, rfl, -⟩ := tkSeeR_of hrow
    have HR : Hid (wr.ownsRow w.heap.size 29 7 (.slice ao T.length cap) T.length (T.flatMap Tk.cs)) := hrow
    have HKeep : Hid (∀ w1 o, Below wr.heap.size wr w1 → (w1.alloc o).ownsRow w.heap.size 29 7 (.slice ao T.length cap) T.length (T.flatMap Tk.cs)) := fun w1 o h => (owns_keepL hrow fun k hk => h.block _ (hrow.lt k hk).2).alloc o
    cases hx : nextT l (p : Int) with
    | mk o y =>
      obtain ⟨m, e⟩ := y
      rw [hx] at C hinv
      cases o with
      | none =>
        have hee := nextT_err hx
        simp only at hinv
        have HV : Hid (A = (none, m, e)) := hinv
        have he0 : ¬ e = 0 := by omega
        have C2 : Hid (Calls Tryz.prog 6 #[.string s, .int .i64 (p : Int)] wr fun x w' => x = .returned (.tuple #[.agg #[.int .i64 0, .string ⟨#[]⟩, .int .i64 0, .int .i64 0, .string ⟨#[]⟩, .int .i64 0, .int .i64 0], .int .i64 (m : Int), .int .i64 e]) ∧ Below wr.heap.size wr w') := C
        have heb : (e != 0) = true := by simpa using he0
        clear hinv hx C hee hrow hb hB3 CN HKeep HR
        go_wp2_with (go_at_call 6; with_reducible (refine C2.out.mono ?_); rintro x w1 ⟨rfl, hb1⟩)
        go_ret3
        refine ⟨none, 0, ?_, fun i t ht => ?_, fun _ => ⟨rfl, rfl⟩, HB3.out w1 _ hb1⟩
        · rw [HV.out]; rfl
        · rw [HV.out] at ht; simp at ht
      | some t =>
        obtain ⟨hl, hok, rfl, rfl⟩ := nextT_ok hp hx
        simp only at hinv
        have hlow := hok.low
        have hmid := hok.mid
        have hhigh := hok.high
        have hmore := hok.more
        have HG : Hid (∀ w1 v5 w5 o, Below wr.heap.size wr w1 → Grew ((w1.alloc (.cells t.cs.toArray 29)).alloc o) w5 (.slice ao T.length cap) v5 → w5.cell? ⟨w1.heap.size, 0, none⟩ = some (.int .i64 t.kind) ∧ w5.cell? ⟨w1.heap.size, 6, none⟩ = some (.int .i64 (t.e : Int)) ∧ Below w.heap.size w w5) := fun w1 v5 w5 o h1 hg => by
          have hN : Blk ((w1.alloc (.cells t.cs.toArray 29)).alloc o) w1.heap.size t.cs 29 := (Blk.new w1 t.cs _).alloc o
          have hne : (Value.slice ao T.length cap).ownBlock ≠ some w1.heap.size := fun e => by
            have := (hrow.lt _ e).2
            have := h1.size
            omega
          have hc : ∀ j, w5.cell? ⟨w1.heap.size, j, none⟩ = ((w1.alloc (.cells t.cs.toArray 29)).alloc o).cell? ⟨w1.heap.size, j, none⟩ := fun j => hg.cell (p := ⟨w1.heap.size, j, none⟩) (by show w1.heap.size < _; simp; omega) hne
          refine ⟨(hc 0).trans (hN.cell 0 rfl), (hc 6).trans (hN.cell 6 rfl), ?_⟩
          have hb2 := hB3 w1 (.cells t.cs.toArray 29) h1
          have hb4 := hb2.alloc (o := o) hb2.size
          refine hb4.trans (hg.below hb4.size fun g hg2 => (hrow.lt g hg2).1)
        have C2 : Hid (Calls Tryz.prog 6 #[.string s, .int .i64 (p : Int)] wr fun x w' => x = .returned (.tuple #[.agg #[.int .i64 t.kind, .string (xB t.s), .int .i64 t.vk, .int .i64 t.vn, .string (xB t.vs), .int .i64 (t.b : Int), .int .i64 (t.e : Int)], .int .i64 0, .int .i64 0]) ∧ Below wr.heap.size wr w') := C
        have HA : Hid (∀ (w5 : World) (v5 : Value), w5.ownsRow w.heap.size 29 7 v5 (T.length + 1) (T.flatMap Tk.cs ++ ([t] : List Tk).flatMap Tk.cs) → w5.ownsRow w.heap.size 29 7 v5 (T ++ [t]).length ((T ++ [t]).flatMap Tk.cs)) := fun w5 v5 h => by
          rw [List.length_append, List.flatMap_append]; exact h
        by_cases hk : t.kind = 0
        · rw [if_pos hk] at hinv
          have HV : Hid (A = (some (T ++ [t]), 0, 0)) := hinv
          have hkb : (t.kind == 0) = true := beq_iff_eq.2 hk
          clear hk hinv hx C hrow hB3 CN HR hmore hn hok hb
          go_wp2_with (first | (go_at_call 6; with_reducible (refine C2.out.mono ?_); rintro x w1 ⟨rfl, hb1⟩) | (at_builtin; go_must (refine wpList_append_grew _ rfl _ _ 38 38 rfl w.heap.size 29 i0 _ 7 72 Tryz.underlying38 HI.out.1 HI.out.2.1 HI.out.2.2.1 HI.out.2.2.2 rfl _ T.length _ rfl ((HKeep.out w1 _ hb1).alloc _) _ 1 (([t] : List Tk).flatMap Tk.cs) rfl (src_tkR2 w1 _ t) (by unfold maxLen; omega) (by omega) (by have := (HB3.out w1 (.cells #[] 0) hb1).size; simp at this ⊢; omega) ?_; intro v5 w5 ho5 hg5; obtain ⟨c0, c6, hb5⟩ := HG.out w1 v5 w5 _ hb1 hg5)))
          obtain ⟨oo, cc, rfl, hts⟩ := tkSeeR_of (HA.out w5 v5 ho5)
          go_ret3
          refine ⟨oo, cc, ?_, ?_, (fun h => by rw [HV.out] at h; cases h), hb5⟩
          · rw [HV.out]; rfl
          · rw [HV.out]; exact hts
        · rw [if_neg hk] at hinv
          have hkb : (t.kind == 0) = false := beq_false_of_ne hk
          have hm := hmore hk
          have HL : Hid (t.e ≤ l.length ∧ l.length - t.e < n ∧ (T ++ [t]).length ≤ t.e ∧ l.length - t.e < l.length - p) := by
            refine ⟨hhigh, by omega, ?_, by omega⟩
            rw [List.length_append, List.length_singleton]
            omega
          have HV : Hid (A = ((lxN n l t.e).1.map ((T ++ [t]) ++ ·), (lxN n l t.e).2)) := by
            show A = _
            rw [hinv]
            cases h : lxN n l t.e with
            | mk x y => cases x <;> simp
          clear hk hinv hx C hrow hB3 HR hmore hn hok hb hm
          go_wp2_with (first | (go_at_call 6; with_reducible (refine C2.out.mono ?_); rintro x w1 ⟨rfl, hb1⟩) | (at_builtin; go_must (refine wpList_append_grew _ rfl _ _ 38 38 rfl w.heap.size 29 i0 _ 7 72 Tryz.underlying38 HI.out.1 HI.out.2.1 HI.out.2.2.1 HI.out.2.2.2 rfl _ T.length _ rfl ((HKeep.out w1 _ hb1).alloc _) _ 1 (([t] : List Tk).flatMap Tk.cs) rfl (src_tkR2 w1 _ t) (by unfold maxLen; omega) (by omega) (by have := (HB3.out w1 (.cells #[] 0) hb1).size; simp at this ⊢; omega) ?_; intro v5 w5 ho5 hg5; obtain ⟨c0, c6, hb5⟩ := HG.out w1 v5 w5 _ hb1 hg5)))
          go_roundw
          case rel => exact ⟨t.e, n, T ++ [t], HL.out.1, HL.out.2.1, HL.out.2.2.1, rfl, HA.out w5 v5 ho5, hb5, HV.out⟩
          case measure => simp only [intOf]; have := HL.out.2.2.2; omega
end Go.Proofs.YtajebjkpmbehgaaGreatDoor
