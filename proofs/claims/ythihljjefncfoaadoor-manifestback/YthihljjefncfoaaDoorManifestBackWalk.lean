/-
  THE LAW ManifestBack, walked.
-/
import Derived.Test.YthihljjefncfoaaDoorManLives
import Derived.Test.YthihljjefncfoaaDoorManLaid
namespace Go.Proofs.YthihljjefncfoaaDoor.manifestBack
open Go.RowKit Go.Proofs.YthihljjefncfoaaDoor

theorem read_corrupt (ao : Option Addr) (b : List UInt8) (cap : Nat) (w : World) (hs : Sees w ao b) (hn : ao = none → b.length = 0) (hcap : b.length ≤ cap) (hcm : cap ≤ 9223372036854775807) (hl : b.length ≤ 1000000) (ht : Tab w) (u : TypeId) (pv : Value) (he : Err w u pv) (hr : rdM b = none) :
    Calls Tryd.prog 10 #[.slice ao b.length cap] w fun e w' => ∃ a5 c5, e = .returned (.tuple #[.agg #[.slice a5 0 c5, .int .i64 0, .int .i64 0], .int .i64 8]) ∧ Below w.heap.size w w' := by
  obtain ⟨e1, e2⟩ := rd_none hr
  refine (readM_any ao b cap w hs hn hcap hcm hl ht u pv he).mono ?_
  rintro e w' ⟨a5, c5, rfl, _, _, _, hb⟩
  rw [e1, e2]
  exact ⟨a5, c5, rfl, hb⟩
theorem read_good (ao : Option Addr) (m : Mf) (cap : Nat) (w : World) (hs : Sees w ao (encM m)) (hn : ao = none → (encM m).length = 0) (hcap : (encM m).length ≤ cap) (hcm : cap ≤ 9223372036854775807) (ht : Tab w) (u : TypeId) (pv : Value) (he : Err w u pv) (hg : goodM m = true) :
    Calls Tryd.prog 10 #[.slice ao (encM m).length cap] w fun e w' => ∃ a5 c5, e = .returned (.tuple #[.agg #[.slice a5 m.ts.length c5, .int .i64 m.nx, .int .i64 m.fr], .int .i64 0]) ∧ MSees w' a5 c5 m ∧ (∀ a, a5 = some a → w.heap.size ≤ a.block) ∧ Below w.heap.size w w' := by
  obtain ⟨e1, e2⟩ := rd_some (rdM_enc hg)
  have := good_len hg
  refine (readM_any ao (encM m) cap w hs hn hcap hcm (by rw [encM_len]; omega) ht u pv he).mono ?_
  rintro e w' ⟨a5, c5, rfl, hm, _, ha, hb⟩
  rw [e1] at hm ⊢
  rw [e2]
  exact ⟨a5, c5, rfl, hm, ha, hb⟩
set_option maxRecDepth 100000 in
set_option maxHeartbeats 4000000 in
theorem walk (ao : Option Addr) (cap : Nat) (m : Mf) (cut bit : Nat) (w : World) (hev : EnvM w) (ht : Tab w) (ue : TypeId) (pv : Value) (hue : Err w ue pv) (hm : MCame w ao cap m) (hcut : cut < 18446744073709551616) (hbit : bit < 18446744073709551616) :
    Calls Tryd.prog 4 #[mval ao cap m, .int .u64 (cut : Int), .int .u64 (bit : Int)] w fun e w' => e = .returned (.bool true) ∧ Below w.heap.size w w' := by
  obtain ⟨hms, hcap, _, _⟩ := hm
  have hB0 : Below w.heap.size w (w.alloc (.cells #[.slice ao m.ts.length cap, .int .i64 m.nx, .int .i64 m.fr] 24)) := (Below.refl _ _).alloc (Nat.le_refl _) _
  have k0 := Blk.new w [.slice ao m.ts.length cap, .int .i64 m.nx, .int .i64 m.fr] 24
  have c0 := k0.cell 0 rfl
  have c1 := k0.cell 1 rfl
  have c2 := k0.cell 2 rfl
  have hms0 := hms.below hB0 (Nat.le_refl _)
  have CL : Hid (∀ u, Below w.heap.size w u → Calls Tryd.prog 6 #[] u fun e w' => e = .returned (.bool true) ∧ Below u.heap.size u w') := fun u hu => lives13_any u (hev.below hu (Nat.le_refl _))
  have hli : (m.ts.length : Int) ≤ 9223372036854775807 := by have := hms.cap; omega
  by_cases hbig : 1000 < m.ts.length
  · have C1 := CL.out _ hB0
    have hbi : (1000 : Int) < (m.ts.length : Int) := by omega
    have HB : Hid (Below w.heap.size w (w.alloc (.cells #[.slice ao m.ts.length cap, .int .i64 m.nx, .int .i64 m.fr] 24))) := hB0
    clear CL hms hms0 hbig hB0 k0 hev ht hue
    unfold mval
    go_enter Tryd.func4, Tryd.ntmps4
    go_wp2_with fail
    go_fit C1
    rintro e w3 ⟨rfl, hB3⟩
    have HF : Hid (Below w.heap.size w w3) := HB.out.trans (hB3.mono HB.out.size)
    clear C1 hB3
    go_wp2_with fail
    go_ret
    exact ⟨rfl, HF.out⟩
  have hbi : ¬ (1000 : Int) < (m.ts.length : Int) := by omega
  cases hg : goodM m with
  | false =>
    have CB : Hid (Calls Tryd.prog 7 #[.agg #[.slice ao m.ts.length cap, .int .i64 m.nx, .int .i64 m.fr]] (w.alloc (.cells #[.slice ao m.ts.length cap, .int .i64 m.nx, .int .i64 m.fr] 24)) fun e w' => e = .returned (.tuple #[.slice none 0 0, .int .i64 2]) ∧ Below w.heap.size w w' ∧ Blk w' w.heap.size [.slice ao m.ts.length cap, .int .i64 m.nx, .int .i64 m.fr] 24) := (bytesM_bad ao cap m _ hms0 (by omega) hcap hg).mono fun e w' hh => ⟨hh.1, hB0.trans (hh.2.mono hB0.size), k0.carry (hh.2.block _ k0.lt)⟩
    have CG : Hid (∀ u, Below w.heap.size w u → Calls Tryd.prog 12 #[.agg #[.slice ao m.ts.length cap, .int .i64 m.nx, .int .i64 m.fr]] u fun e w' => e = .returned (.bool false) ∧ Below w.heap.size w w') := fun u hu => by
      have := good_any ao cap m u (hms.below hu (Nat.le_refl _)) (by omega) hcap
      rw [hg] at this
      exact this.mono fun e w' hh => ⟨hh.1, hu.trans (hh.2.mono hu.size)⟩
    clear hms hms0 hbig hB0 k0 hev ht hue hg
    unfold mval
    go_enter Tryd.func4, Tryd.ntmps4
    go_wp2_with fail
    go_fit CB.out
    rintro e w1 ⟨rfl, hB1, hk1⟩
    have d0 := hk1.cell 0 rfl
    have d1 := hk1.cell 1 rfl
    have d2 := hk1.cell 2 rfl
    have C2 := CG.out w1 hB1
    clear hB1 hk1
    go_wp2_with fail
    go_fit C2
    rintro e w2 ⟨rfl, hB2⟩
    have HB2 : Hid (Below w.heap.size w w2) := hB2
    have C3 := CL.out w2 hB2
    clear C2 hB2
    go_wp2_with fail
    go_fit C3
    rintro e w3 ⟨rfl, hB3⟩
    have HF : Hid (Below w.heap.size w w3) := HB2.out.trans (hB3.mono HB2.out.size)
    clear C3 hB3
    go_wp2_with fail
    go_ret
    exact ⟨rfl, HF.out⟩
  | true =>
    have hcl := good_len hg
    have hEl := encM_len m
    have CB : Hid (Calls Tryd.prog 7 #[.agg #[.slice ao m.ts.length cap, .int .i64 m.nx, .int .i64 m.fr]] (w.alloc (.cells #[.slice ao m.ts.length cap, .int .i64 m.nx, .int .i64 m.fr] 24)) fun e w' => ∃ g, e = .returned (.tuple #[.slice (some ⟨g, 0, none⟩) (encM m).length (encM m).length, .int .i64 0]) ∧ w.heap.size < g ∧ Row w' g (encM m) ∧ Below w.heap.size w w' ∧ Blk w' w.heap.size [.slice ao m.ts.length cap, .int .i64 m.nx, .int .i64 m.fr] 24) := (bytesM_ok ao cap m _ hms0 hcap (ht.below hB0 (Nat.le_refl _)) hg).mono fun e w' ⟨g, h1, h2, h3, h4⟩ => ⟨g, h1, by rw [World.size_alloc] at h2; omega, h3, hB0.trans (h4.mono hB0.size), k0.carry (h4.block _ k0.lt)⟩
    have CG : Hid (∀ u, Below w.heap.size w u → Calls Tryd.prog 12 #[.agg #[.slice ao m.ts.length cap, .int .i64 m.nx, .int .i64 m.fr]] u fun e w' => e = .returned (.bool true) ∧ Below u.heap.size u w') := fun u hu => by
      have := good_any ao cap m u (hms.below hu (Nat.le_refl _)) (by omega) hcap
      rw [hg] at this
      exact this
    have HErr : ∀ u, Below w.heap.size w u → Err u ue pv := fun u hu => by unfold Err at hue ⊢; rw [hu.cell (World.block_lt_of_cell? _ _ hue)]; exact hue
    have HTab : ∀ u, Below w.heap.size w u → Tab u := fun u hu => ht.below hu (Nat.le_refl _)
    have C1 : Hid (∀ u g, Below w.heap.size w u → Row u g (encM m) → Calls Tryd.prog 10 #[.slice (some ⟨g, 0, none⟩) (encM m).length (encM m).length] u fun e w' => ∃ a5 c5, e = .returned (.tuple #[.agg #[.slice a5 m.ts.length c5, .int .i64 m.nx, .int .i64 m.fr], .int .i64 0]) ∧ MSees w' a5 c5 m ∧ (∀ a, a5 = some a → u.heap.size ≤ a.block) ∧ Below u.heap.size u w') := fun u g hu hr => read_good _ m _ u (by have := hr.sees 0 (encM m).length (by omega); simpa using this) (fun e => by cases e) (Nat.le_refl _) (by omega) (HTab u hu) ue pv (HErr u hu) hg
    have C2 : Hid (∀ u g j, Below w.heap.size w u → Row u g (encM m) → j < (encM m).length → Calls Tryd.prog 10 #[.slice (some ⟨g, 0, none⟩) j (encM m).length] u fun e w' => ∃ a5 c5, e = .returned (.tuple #[.agg #[.slice a5 0 c5, .int .i64 0, .int .i64 0], .int .i64 8]) ∧ Below u.heap.size u w') := fun u g j hu hr hj => by
      have hjl : ((encM m).take j).length = j := by rw [List.length_take]; omega
      have := read_corrupt (some ⟨g, 0, none⟩) ((encM m).take j) (encM m).length u (by have := hr.sees 0 j (by omega); simpa using this) (fun e => by cases e) (by omega) (by omega) (by omega) (HTab u hu) ue pv (HErr u hu) (rdM_bad (by have := tells_cut (contM m) (by omega) j (by omega); unfold encM; rw [this]; decide))
      rw [hjl] at this
      exact this
    have C3 : Hid (∀ u a c, Below w.heap.size w u → Sees u a (encM m ++ [0]) → (a = none → (encM m ++ [0]).length = 0) → (encM m).length + 1 ≤ c → c ≤ 9223372036854775807 → Calls Tryd.prog 10 #[.slice a ((encM m).length + 1) c] u fun e w' => ∃ a5 c5, e = .returned (.tuple #[.agg #[.slice a5 0 c5, .int .i64 0, .int .i64 0], .int .i64 8]) ∧ Below u.heap.size u w') := fun u a c hu hs hn h1 h2 => by
      have hjl : (encM m ++ [0]).length = (encM m).length + 1 := by simp
      have := read_corrupt a (encM m ++ [0]) c u hs hn (by omega) h2 (by omega) (HTab u hu) ue pv (HErr u hu) (rdM_more (by have := (tells_whole (contM m) (by omega) [0]).2.1; unfold encM at *; rw [this, List.length_append, frameL_length]; simp))
      rw [hjl] at this
      exact this
    have C4 : Hid (∀ u g i y, Below w.heap.size w u → Row u g ((encM m).set i y) → 4 ≤ i → i < (encM m).length → y ≠ (encM m).getD i 0 → Calls Tryd.prog 10 #[.slice (some ⟨g, 0, none⟩) (encM m).length (encM m).length] u fun e w' => ∃ a5 c5, e = .returned (.tuple #[.agg #[.slice a5 0 c5, .int .i64 0, .int .i64 0], .int .i64 8]) ∧ Below u.heap.size u w') := fun u g i y hu hr h4 hi hy => by
      have hjl : ((encM m).set i y).length = (encM m).length := by simp
      have := read_corrupt (some ⟨g, 0, none⟩) ((encM m).set i y) (encM m).length u (by have := hr.sees 0 (encM m).length (by omega); rw [List.drop_zero, List.take_of_length_le (by omega)] at this; exact this) (fun e => by cases e) (by omega) (by omega) (by omega) (HTab u hu) ue pv (HErr u hu) (rdM_bad (by have := tells_turned (contM m) (by omega) i h4 (by omega) y hy; unfold encM; rw [this]; decide))
      rw [hjl] at this
      exact this
    have CP : Hid (∀ u : World, Calls Tryd.prog 9 #[.agg #[.slice ao m.ts.length cap, .int .i64 m.nx, .int .i64 m.fr]] u fun e w' => e = .returned (.agg #[.slice ao m.ts.length cap, .int .i64 m.nx, .int .i64 m.fr]) ∧ Below u.heap.size u w') := fun u => plainM_any ao cap m u
    have CS : Hid (∀ u a5 c5, Below w.heap.size w u → MSees u a5 c5 m → Calls Tryd.prog 15 #[.agg #[.slice a5 m.ts.length c5, .int .i64 m.nx, .int .i64 m.fr], .agg #[.slice ao m.ts.length cap, .int .i64 m.nx, .int .i64 m.fr]] u fun e w' => e = .returned (.bool true) ∧ Below u.heap.size u w') := fun u a5 c5 hu h5 => by
      have := sameM_any a5 ao c5 cap m m u h5.see (hms.see.below hu (Nat.le_refl _)) (by omega) (by omega)
      rw [sameB_self] at this
      exact this
    have hEb : 16 ≤ (encM m).length + 5 ∧ (encM m).length ≤ 338 := by
      have h3 := numL_length m.nx.toNat
      have h4 := numL_length m.fr.toNat
      have h5 := numL_length (m.ts.length : Int).toNat
      have : (contM m).length = (numL m.nx.toNat).length + ((numL m.fr.toNat).length + ((numL (m.ts.length : Int).toNat).length + (numsB m.ts).length)) := by
        show (numL m.nx.toNat ++ (numL m.fr.toNat ++ (numL (m.ts.length : Int).toNat ++ numsB m.ts))).length = _
        simp only [List.length_append]
      omega
    clear hms0 hbig hB0 k0 hev ht hue hg HErr HTab hcl hEl hli
    have HMS : Hid (MSees w ao cap m) := hms
    clear hms
    obtain ⟨ts, nx, fr⟩ := m
    unfold mval
    dsimp only at *
    generalize encM ⟨ts, nx, fr⟩ = E at *
    obtain ⟨i0, hi, hz0, hz1, hz2⟩ := info_parts info8
    have hcuti : (cut : Int) ≤ 18446744073709551615 := by omega
    have hbiti : (bit : Int) ≤ 18446744073709551615 := by omega
    clear hcut hbit
    go_enter Tryd.func4, Tryd.ntmps4
    go_wp2_with fail
    go_fit CB.out
    rintro e w1 ⟨g, rfl, hgB, hr1, hB1, hk1⟩
    have d0 := hk1.cell 0 rfl
    have d1 := hk1.cell 1 rfl
    have d2 := hk1.cell 2 rfl
    have Q := CG.out w1 hB1
    clear CB CG
    go_wp2_with fail
    go_fit Q
    rintro e w2 ⟨rfl, hB2⟩
    have hB2' : Below w.heap.size w w2 := hB1.trans (hB2.mono hB1.size)
    have hr2 := hr1.below hB2 hr1.lt
    have hk2 := hk1.carry (hB2.block _ hk1.lt)
    clear Q hr1 hB1 hk1 hB2 d0 d1 d2
    have Q := C1.out w2 g hB2' hr2
    clear C1
    obtain ⟨n, hn⟩ : ∃ n, E.length = n := ⟨_, rfl⟩
    rw [hn] at Q C2 C3 C4 hEb
    rw [hn]
    have HN : Hid (E.length = n) := hn
    clear hn
    go_wp2_with fail
    go_fit Q
    rintro e w3 ⟨a5, c5, rfl, hm5, ha5, hB3⟩
    have HA5 : Hid (∀ a, a5 = some a → a.block ≠ g) := fun a e => by have := ha5 a e; have := hr2.lt; omega
    clear ha5
    have hb3 : Below w3.heap.size w3 (w3.alloc (.cells #[.slice a5 ts.length c5, .int .i64 nx, .int .i64 fr] 24)) := (Below.refl _ _).alloc (Nat.le_refl _) _
    have kx3 := Blk.new w3 [.slice a5 ts.length c5, .int .i64 nx, .int .i64 fr] 24
    have hB3' : Below w.heap.size w w3 := hB2'.trans (hB3.mono hB2'.size)
    have hB4' : Below w.heap.size w (w3.alloc (.cells #[.slice a5 ts.length c5, .int .i64 nx, .int .i64 fr] 24)) := hB3'.alloc hB3'.size _
    have hr3 := hr2.below hB3 hr2.lt
    have hr4 := hr3.below hb3 hr3.lt
    have hk3 := hk2.carry (hB3.block _ hk2.lt)
    have hk4 := hk3.alloc (.cells #[.slice a5 ts.length c5, .int .i64 nx, .int .i64 fr] 24)
    have hm4 := hm5.below hb3 (Nat.le_refl _)
    have hX : w3.heap.size ≠ w.heap.size ∧ w3.heap.size ≠ g := ⟨by have := hk3.lt; omega, by have := hr3.lt; omega⟩
    clear Q hr2 hk2 hB2' hB3 hB3' hm5 hr3 hk3 hb3
    obtain ⟨j, hj⟩ : ∃ j : Nat, (cut : Int) % (n : Int) = (j : Int) := Int.eq_ofNat_of_zero_le (Int.emod_nonneg _ (by omega))
    have hjl : j < n := by have := Int.emod_lt_of_pos (cut : Int) (show 0 < (n : Int) by omega); omega
    have hji : (j : Int) ≤ (n : Int) := by omega
    have hn0 : (n : Int) ≠ 0 := by omega
    have hn0b : ((n : Int) == 0) = false := by rw [beq_eq_false_iff_ne]; omega
    have hn338 : (n : Int) ≤ 338 := by omega
    have Q := C2.out _ g j hB4' hr4 hjl
    clear C2
    go_wp2_with fail
    go_fit Q
    rintro e w5 ⟨a6, c6, rfl, hB5⟩
    have hb5 : Below w5.heap.size w5 (w5.alloc (.cells #[.slice a6 0 c6, .int .i64 0, .int .i64 0] 24)) := (Below.refl _ _).alloc (Nat.le_refl _) _
    have hB5' : Below w.heap.size w w5 := hB4'.trans (hB5.mono hB4'.size)
    have hB6' : Below w.heap.size w (w5.alloc (.cells #[.slice a6 0 c6, .int .i64 0, .int .i64 0] 24)) := hB5'.alloc hB5'.size _
    have hr5 := hr4.below hB5 hr4.lt
    have hr6 := hr5.below hb5 hr5.lt
    have hk5 := hk4.carry (hB5.block _ hk4.lt)
    have hk6 := hk5.alloc (.cells #[.slice a6 0 c6, .int .i64 0, .int .i64 0] 24)
    have kx5 := kx3.carry (hB5.block _ kx3.lt)
    have kx6 := kx5.alloc (.cells #[.slice a6 0 c6, .int .i64 0, .int .i64 0] 24)
    have hm6 := (hm4.below hB5 (Nat.le_refl _)).below hb5 (Nat.le_refl _)
    clear Q hr4 hk4 hB4' hB5 hB5' hm4 hr5 hk5 hb5 kx3 kx5 hj hjl hji
    generalize w3.heap.size = X at *
    obtain ⟨y6, hy6⟩ : ∃ y6, (w5.alloc (.cells #[.slice a6 0 c6, .int .i64 0, .int .i64 0] 24)) = y6 := ⟨_, rfl⟩
    rw [hy6] at hB6' hr6 hk6 kx6 hm6
    have HY6 : Hid ((w5.alloc (.cells #[.slice a6 0 c6, .int .i64 0, .int .i64 0] 24)) = y6) := hy6
    have hys : y6.heap.size = w5.heap.size + 1 := by rw [← hy6, World.size_alloc]
    clear hy6
    have n3 := owns_none y6
    have hsee6 : Sees y6 (some ⟨g, 0, none⟩) E := by have := hr6.sees 0 E.length (by omega); simpa using this
    have q3 := src_sees (P := Tryd.prog) Tryd.underlying25 (hsee6.below ((Below.refl _ _).alloc (Nat.le_refl _) (.cells #[] 5)) (Nat.le_refl _)) (fun h => by cases h) n
    rw [HN.out] at q3
    obtain ⟨v7, w7, hrA, ho7, hg7⟩ := run_append_grew (P := Tryd.prog) (y6.alloc (.cells #[] 5)) y6.heap.size 25 25 25 5 i0 (.int .u8 0) 1 1 Tryd.underlying25 hi hz0 hz1 hz2 rfl _ 0 _ n3 _ n (B8 E) q3 (by unfold maxLen; omega) (by omega) (by rw [World.size_alloc]; omega)
    obtain ⟨v8, w8, hrB, ho8, hg8⟩ := run_append_grew (P := Tryd.prog) (w7.alloc (.cells #[.int .u8 0] 5)) y6.heap.size 25 25 25 5 i0 (.int .u8 0) 1 1 Tryd.underlying25 hi hz0 hz1 hz2 rfl _ (0 + n) _ (ho7.alloc _) _ 1 (B8 [0]) (src_sees Tryd.underlying25 (sees_lit w7 [0] (0, 0)) (fun h => by cases h) 1) (by unfold maxLen; omega) (by omega) (by rw [World.size_alloc]; have := (below_none hg7).size; omega)
    have hB8 : Below y6.heap.size y6 w8 := below_none (hg7.trans hg8.alloc)
    have ho8' : w8.ownsRow y6.heap.size 5 1 v8 (n + 1) (B8 (E ++ [0])) := by rw [B8_append]; simpa using ho8
    obtain ⟨a8, c8, rfl, s8, l8, n8⟩ := owns_sees ho8'
    obtain ⟨_, _, e8, hc8, hm8⟩ := owns_form ho8'
    cases e8
    have hB8' : Below w.heap.size w w8 := hB6'.trans (hB8.mono hB6'.size)
    have hr8 := hr6.below hB8 hr6.lt
    have hk8 := hk6.carry (hB8.block _ hk6.lt)
    have kx8 := kx6.carry (hB8.block _ kx6.lt)
    have hm8' := hm6.below hB8 (Nat.le_refl _)
    have Q := C3.out w8 a8 c8 hB8' s8 (fun e => by rw [l8]; exact (n8 e).1) hc8 hm8
    clear n3 q3 ho7 hg7 ho8 hg8 hB8 ho8' s8 l8 n8 C3 hr6 hk6 kx6 hm6 hsee6 hB6'
    rw [hys, ← HY6.out] at hrA
    clear hys HY6
    go_wp2_with (at_builtin; first | (refine wpList_append_run _ rfl _ _ 25 25 rfl _ _ rfl rfl hrA ?_) | (refine wpList_append_run _ rfl _ _ 25 25 rfl _ _ rfl rfl hrB ?_))
    go_fit Q
    rintro e w9 ⟨a9, c9, rfl, hB9⟩
    clear hrA hrB Q
    have hB9' : Below w.heap.size w w9 := hB8'.trans (hB9.mono hB8'.size)
    have hr9 := hr8.below hB9 hr8.lt
    have hk9 := hk8.carry (hB9.block _ hk8.lt)
    have kx9 := kx8.carry (hB9.block _ kx8.lt)
    have hm9 := hm8'.below hB9 (Nat.le_refl _)
    clear hr8 hk8 kx8 hm8' hB8' hB9
    obtain ⟨k, hk⟩ : ∃ k : Nat, (bit : Int) % (8 * ((n : Int) - 4)) = (k : Int) := Int.eq_ofNat_of_zero_le (Int.emod_nonneg _ (by omega))
    have hkl : k < 8 * (n - 4) := by have := Int.emod_lt_of_pos (bit : Int) (show 0 < 8 * ((n : Int) - 4) by omega); omega
    have hr10 : Row (w9.alloc (.cells #[.slice a9 0 c9, .int .i64 0, .int .i64 0] 24)) g E := hr9.below ((Below.refl _ _).alloc (Nat.le_refl _) _) hr9.lt
    have hc9 := hr10.cell (4 + k / 8) (by have := HN.out; omega)
    have hf9 := hr10.frozen (4 + k / 8)
    have hx9 := (E.getD (4 + k / 8) 0).toNat_lt
    obtain ⟨x, hx⟩ : ∃ x, E.getD (4 + k / 8) 0 = x := ⟨_, rfl⟩
    rw [hx] at hc9 hx9
    have HX : Hid (E.getD (4 + k / 8) 0 = x) := hx
    obtain ⟨y, hy, hyx⟩ := flip_text x (k % 8) (by omega)
    have hr11 := hr10.setZ (4 + k / 8) y _ hy
    have hB10 : Below w.heap.size w (w9.alloc (.cells #[.slice a9 0 c9, .int .i64 0, .int .i64 0] 24)) := hB9'.alloc hB9'.size _
    have hB11 : Below w.heap.size w ((w9.alloc (.cells #[.slice a9 0 c9, .int .i64 0, .int .i64 0] 24)).setCell ⟨g, 4 + k / 8, none⟩ (.int .u8 (bits BinOp.xor IntKind.u8 (x.toNat : Int) (2 ^ (k % 8) % 256)))) := hB10.setCell (Nat.le_of_lt hgB) _
    have Q := C4.out _ g (4 + k / 8) y hB11 hr11 (by omega) (by omega) (by rw [HX.out]; exact hyx)
    have hk11 := (hk9.alloc (.cells #[.slice a9 0 c9, .int .i64 0, .int .i64 0] 24)).carry (w' := ((w9.alloc (.cells #[.slice a9 0 c9, .int .i64 0, .int .i64 0] 24)).setCell ⟨g, 4 + k / 8, none⟩ (.int .u8 (bits BinOp.xor IntKind.u8 (x.toNat : Int) (2 ^ (k % 8) % 256))))) (Below.heap_setCell _ _ _ _ (by show w.heap.size ≠ g; omega))
    have kx11 := (kx9.alloc (.cells #[.slice a9 0 c9, .int .i64 0, .int .i64 0] 24)).carry (w' := ((w9.alloc (.cells #[.slice a9 0 c9, .int .i64 0, .int .i64 0] 24)).setCell ⟨g, 4 + k / 8, none⟩ (.int .u8 (bits BinOp.xor IntKind.u8 (x.toNat : Int) (2 ^ (k % 8) % 256))))) (Below.heap_setCell _ _ _ _ (by show X ≠ g; exact hX.2))
    clear hx hy hr10 hr11 C4 hB10 hr9 hk9 kx9
    go_wp2_with fail
    go_fit Q
    rintro e w12 ⟨a12, c12, rfl, hB12⟩
    have hm10 := hm9.below ((Below.refl w9.heap.size w9).alloc (Nat.le_refl _) (.cells #[.slice a9 0 c9, .int .i64 0, .int .i64 0] 24)) (Nat.le_refl _)
    have hm11 : MSees ((w9.alloc (.cells #[.slice a9 0 c9, .int .i64 0, .int .i64 0] 24)).setCell ⟨g, 4 + k / 8, none⟩ (.int .u8 (bits BinOp.xor IntKind.u8 (x.toNat : Int) (2 ^ (k % 8) % 256)))) a5 c5 ⟨ts, nx, fr⟩ := ⟨fun i z hz => by
      obtain ⟨q, off, e, hc⟩ := hm10.see i z hz
      exact ⟨q, off, e, by rw [World.cell?_of_block (Below.heap_setCell _ _ _ _ (HA5.out _ e))]; exact hc⟩, hm10.nil, hm10.cap⟩
    have hb12 : Below w12.heap.size w12 (w12.alloc (.cells #[.slice a12 0 c12, .int .i64 0, .int .i64 0] 24)) := (Below.refl _ _).alloc (Nat.le_refl _) _
    have hm12 := (hm11.below hB12 (Nat.le_refl _)).below hb12 (Nat.le_refl _)
    have hB12' : Below w.heap.size w w12 := hB11.trans (hB12.mono hB11.size)
    have hBz : Below w.heap.size w (w12.alloc (.cells #[.slice a12 0 c12, .int .i64 0, .int .i64 0] 24)) := hB12'.alloc hB12'.size _
    have hkz := (hk11.carry (hB12.block _ hk11.lt)).alloc (.cells #[.slice a12 0 c12, .int .i64 0, .int .i64 0] 24)
    have kxz := (kx11.carry (hB12.block _ kx11.lt)).alloc (.cells #[.slice a12 0 c12, .int .i64 0, .int .i64 0] 24)
    clear Q hm9 hm10 hm11 hb12 hB12' hB12 hB11 hk11 kx11 hB9' hk hkl hc9 hf9 hx9 HX hyx
    go_wp2_with fail
    generalize w12.alloc (.cells #[.slice a12 0 c12, .int .i64 0, .int .i64 0] 24) = wz at *
    have q0 : ∀ z : Cl wz.heap.size wz, z.u.cell? ⟨w.heap.size, 0, none⟩ = some (.slice ao ts.length cap) := fun z => z.cell hkz.lt (hkz.cell 0 rfl)
    have q1 : ∀ z : Cl wz.heap.size wz, z.u.cell? ⟨w.heap.size, 1, none⟩ = some (.int .i64 nx) := fun z => z.cell hkz.lt (hkz.cell 1 rfl)
    have q2 : ∀ z : Cl wz.heap.size wz, z.u.cell? ⟨w.heap.size, 2, none⟩ = some (.int .i64 fr) := fun z => z.cell hkz.lt (hkz.cell 2 rfl)
    have p0 : ∀ z : Cl wz.heap.size wz, z.u.cell? ⟨X, 0, none⟩ = some (.slice a5 ts.length c5) := fun z => z.cell kxz.lt (kxz.cell 0 rfl)
    have p1 : ∀ z : Cl wz.heap.size wz, z.u.cell? ⟨X, 1, none⟩ = some (.int .i64 nx) := fun z => z.cell kxz.lt (kxz.cell 1 rfl)
    have p2 : ∀ z : Cl wz.heap.size wz, z.u.cell? ⟨X, 2, none⟩ = some (.int .i64 fr) := fun z => z.cell kxz.lt (kxz.cell 2 rfl)
    have CSz : Hid (∀ z : Cl wz.heap.size wz, Calls Tryd.prog 15 #[.agg #[.slice a5 ts.length c5, .int .i64 nx, .int .i64 fr], .agg #[.slice ao ts.length cap, .int .i64 nx, .int .i64 fr]] z.u fun e w' => e = .returned (.bool true) ∧ Below z.u.heap.size z.u w') := fun z => CS.out z.u a5 c5 (hBz.trans (z.h.mono hBz.size)) (hm12.below z.h (Nat.le_refl _))
    have CLz : Hid (∀ z : Cl wz.heap.size wz, Calls Tryd.prog 6 #[] z.u fun e w' => e = .returned (.bool true) ∧ Below z.u.heap.size z.u w') := fun z => CL.out z.u (hBz.trans (z.h.mono hBz.size))
    have HBz : Hid (Below w.heap.size w wz) := hBz
    clear CS CL hkz kxz hm12 hBz
    haveI := Cl.inh wz.heap.size wz
    refine wp_region_cl wz.heap.size (by kernel_rfl) (by kernel_rfl) ?_
    repeat (quiet_step (first
      | (go_at_call 9; exact Cl.calls (Nat.le_refl _) (CP.out _))
      | (go_at_call 15; exact Cl.calls (Nat.le_refl _) (CSz.out _))
      | (go_at_call 6; exact Cl.calls (Nat.le_refl _) (CLz.out _))))
    refine wpQuiet_nil ?_
    rintro w13 ⟨q, rfl⟩
    have HF : Hid (Below w.heap.size w q.u) := HBz.out.trans (q.h.mono HBz.out.size)
    go_wp2_with fail
    go_ret
    exact ⟨rfl, HF.out⟩
end Go.Proofs.YthihljjefncfoaaDoor.manifestBack
