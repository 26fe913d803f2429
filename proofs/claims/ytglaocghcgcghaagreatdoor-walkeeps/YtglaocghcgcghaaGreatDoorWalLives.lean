/-
  CONTRACTS: the very same texts (Texts), a plain cell (at), the document's examples of layer 7 (lives).
-/
import Derived.Test.YtglaocghcgcghaaGreatDoorMany22
namespace Go.Proofs.YtglaocghcgcghaaGreatDoor
open Go.RowKit

/-- The law's plain cell. -/
def atX (n : Int) : Cx := ⟨⟨⟨#[116]⟩, ⟨#[120]⟩, n, ⟨#[]⟩⟩, ⟨n, false, 0, 0, 0, ⟨#[]⟩⟩⟩
set_option maxRecDepth 100000 in
theorem at07_any (n : Int) (w : World) : Calls Tryz.prog 15 #[.int .i64 n] w fun x w' => x = .returned (atX n).val ∧ Below w.heap.size w w' := by
  simp only [Cx.val, Cx.a, atX]
  have hg : Hid (∀ o : Obj, (w.alloc o).heap[w.heap.size]? = some o) := fun o => heap_alloc_new w o
  go_enter Tryz.func15, Tryz.ntmps15
  go_wp2_with fail
  refine bodyPost_ret (v := .agg #[.string ⟨#[116]⟩, .string ⟨#[120]⟩, .int .i64 n, .string ⟨#[]⟩, .int .i64 n, .bool false, .int .i64 0, .int .i64 0, .int .i64 0, .string ⟨#[]⟩]) (results_cell_row Tryz.results15 _ _ w.heap.size 50 _ _ _ rfl (hg.out _) Tryz.underlying50 rfl (by kernel_rfl)) rfl ?_
  exact ⟨rfl, (Below.refl _ _).alloc (Nat.le_refl _) _⟩
theorem atX_good1 : goodC (atX 1) = true := by decide +kernel
theorem atX_good2 : goodC (atX 2) = true := by decide +kernel
set_option maxRecDepth 100000 in
theorem texts_one (b b' : Nat) (s : ByteArray) (c c' : Nat) (w : World) (h1 : w.cell? ⟨b, 0, none⟩ = some (.string s)) (h2 : w.cell? ⟨b', 0, none⟩ = some (.string s)) :
    Calls Tryz.prog 18 #[.slice (some ⟨b, 0, none⟩) 1 c, .slice (some ⟨b', 0, none⟩) 1 c'] w fun e w' => e = .returned (.bool true) ∧ Below w.heap.size w w' := by
  go_enter Tryz.func18, Tryz.ntmps18
  go_wp2_with fail
  go_loopw [13] (fun s13 wr => ∃ i : Nat, i ≤ 1 ∧ s13 = .int .i64 (i : Int) ∧ Below w.heap.size w wr) (fun s13 _ => 1 - (intOf s13).toNat)
  case atStart => exact ⟨0, by omega, rfl, Below.refl _ _⟩
  case round =>
    obtain ⟨i, hi, rfl, hbr⟩ := hrel
    rcases Nat.lt_or_ge i 1 with hlt | hge
    · obtain rfl : i = 0 := by omega
      have q0 : ∀ z : Cl wr.heap.size wr, z.u.cell? ⟨b, 0, none⟩ = some (.string s) := fun z => by
        have e : wr.cell? ⟨b, 0, none⟩ = some (.string s) := by rw [hbr.cell (World.block_lt_of_cell? _ _ h1)]; exact h1
        exact z.cell (World.block_lt_of_cell? _ _ e) e
      have q1 : ∀ z : Cl wr.heap.size wr, z.u.cell? ⟨b', 0, none⟩ = some (.string s) := fun z => by
        have e : wr.cell? ⟨b', 0, none⟩ = some (.string s) := by rw [hbr.cell (World.block_lt_of_cell? _ _ h2)]; exact h2
        exact z.cell (World.block_lt_of_cell? _ _ e) e
      have HE : Hid (∀ w', Below wr.heap.size wr w' → Below w.heap.size w w') := fun w' h => hbr.trans (h.mono hbr.size)
      clear h1 h2 hbr
      haveI := Cl.inh wr.heap.size wr
      go_wp2_with fail
      refine wp_region_cl wr.heap.size (by kernel_rfl) (by kernel_rfl) ?_
      repeat quiet_step (fail)
      refine wpQuiet_nil ?_
      rintro w0 ⟨z, rfl⟩
      have hz := HE.out _ z.h
      go_wp2_with fail
      go_roundw
      case rel => exact ⟨1, by omega, by go_num, hz⟩
      case measure => (simp [intOf]; try omega)
    · obtain rfl : i = 1 := by omega
      clear h1 h2
      go_wp2_with fail
      go_ret
      exact ⟨rfl, hbr⟩
set_option maxRecDepth 100000 in
theorem rec_len1 : (recL [atX 1]).length ≤ 100 := by decide +kernel
set_option maxRecDepth 100000 in
theorem rec_len2 : (recL [atX 2]).length ≤ 100 := by decide +kernel
theorem rec_ok1 : recB [atX 1] = true := by decide +kernel
theorem rec_ok2 : recB [atX 2] = true := by decide +kernel
theorem rec_ne (l : List Cx) : recL l ≠ [] := fun e => by
  have h1 := frameL_length (cellsL (l.map toC))
  have h2 : (recL l).length = 0 := by rw [e]; rfl
  unfold recL at h2
  omega
theorem one_sees (u : World) (c : Cx) : XSees (u.alloc (.cells c.a 50)) (some ⟨u.heap.size, 0, none⟩) [c] := by
  intro i x hx
  obtain ⟨rfl, rfl⟩ : i = 0 ∧ c = x := by
    have hi := (List.getElem?_eq_some_iff.1 hx).1
    simp only [List.length_cons, List.length_nil] at hi
    obtain rfl : i = 0 := by omega
    exact ⟨rfl, by simpa using hx⟩
  have hk : ∀ j v, c.a.toList[j]? = some v → (u.alloc (.cells c.a 50)).cell? ⟨u.heap.size, j, none⟩ = some v := fun j v hv => Blk.cell (cs := c.a.toList) (by show _ = _; rw [heap_alloc_new]) j hv
  exact ⟨_, _, rfl, ⟨hk 0 _ rfl, hk 1 _ rfl, hk 2 _ rfl, hk 3 _ rfl, hk 4 _ rfl, hk 5 _ rfl, hk 6 _ rfl, hk 7 _ rfl, hk 8 _ rfl, hk 9 _ rfl⟩⟩
theorem atX_max (n : Int) : CxMax (atX n) := ⟨by show 1 ≤ maxLen; unfold maxLen; omega, by show 1 ≤ maxLen; unfold maxLen; omega, by show 0 ≤ maxLen; exact Nat.zero_le _, by show 0 ≤ maxLen; exact Nat.zero_le _⟩
theorem atX_ok {n : Int} (h : InI n) : ∀ c ∈ [atX n].map toC, c.Ok := fun c hc => by
  rw [List.map_cons, List.map_nil, List.mem_singleton] at hc
  subst hc
  have z : InI 0 := ⟨by decide, by decide⟩
  exact Cx.Nums.ok ⟨h, h, z, z, z⟩
theorem atX_wt (n : Int) : wtLD ([atX n].map toC) + 81 * ([atX n].map toC).length ≤ 140737488330000 := by
  rw [wtL_toC]
  show (1 + 1 + 0 + 0) + 0 + 81 * 1 ≤ _
  omega
/-- Append of the law's plain cell to the first segment. -/
theorem append_at {w0 : World} {d lb : Nat} {A : Ab} {B : List UInt8} {k : Nat} {n : Int} {w : World} (he : EnvW w0) (ht : Tab w0) (h : Lg w0 d lb A 1 w) (hA : St1 A B k) (hk : k ≤ 50) (hB : B.length ≤ 300) (hn : InI n) (hr : recB [atX n] = true) (hlen : (recL [atX n]).length ≤ 100) :
    ∃ A2, St1 A2 (B ++ recL [atX n]) (k + 1) ∧ Calls Tryz.prog 9 #[.pointer (some ⟨lb, 0, none⟩), .slice (some ⟨w.heap.size, 0, none⟩) 1 1] (w.alloc (.cells (atX n).a 50)) fun x w' => x = .returned (.int .i64 0) ∧ Lg w0 d lb A2 1 w' := by
  obtain ⟨A1, A2, h1, hl1, ho1, h2, h3⟩ := step_app hA (by omega) (by omega) (show (recL [atX n]).length ≤ 400 by omega) (rec_ne _)
  have hcl : (cellsL ([atX n].map toC)).length ≤ 262144 := by
    have := frameL_length (cellsL ([atX n].map toC))
    unfold recL at hlen; omega
  refine ⟨A2, h3, appendL_ok he ht (h.more ((Below.refl _ _).alloc (Nat.le_refl _) _)) rfl hA.on _ [atX n] 1 (one_sees w (atX n)) (by simp) (fun c hc => by rw [List.mem_singleton.1 hc]; exact atX_max n) (atX_ok hn) (atX_wt n) hcl hr (hA.fine (by omega)) hA.left (by have := hA.ops; omega) (by have := hA.next; omega) (fun t ht => ?_) h1 hl1 ho1 h2⟩
  rw [hA.sp] at ht
  rw [List.mem_singleton.1 ht]
  show B.length + _ ≤ _
  omega
set_option maxRecDepth 100000 in
set_option maxHeartbeats 4000000 in
theorem lives07_any (w : World) (he : EnvW w) (ht : Tab w) : Calls Tryz.prog 5 #[] w fun e w' => e = .returned (.bool true) ∧ Below w.heap.size w w' := by
  obtain ⟨A1, A2, n1, n2, n3, n4, hS1⟩ := step_new
  have CD : Hid (Calls Tryz.prog 6 #[.int .i64 1000] w fun x w' => ∃ d, x = .returned (.pointer (some ⟨d, 0, none⟩)) ∧ Kp w d (newA 1000) w') := kp_new 1000 (by omega) w
  have CO : Hid (∀ d u, Kp w d (newA 1000) u → Calls Tryz.prog 7 #[.pointer (some ⟨d, 0, none⟩), .int .i64 1] u fun x w' => ∃ lb, x = .returned (.tuple #[.pointer (some ⟨lb, 0, none⟩), .slice none 0 0, .int .i64 0]) ∧ Lg w d lb A2 1 w') := fun d u hu => openW_new he hu rfl rfl newA_fine rfl (by show 0 ≤ 1000000; omega) n1 n2 n3 n4
  have CT : Hid (∀ (n : Int) (u : World), Calls Tryz.prog 15 #[.int .i64 n] u fun x w' => x = .returned (.agg #[.string ⟨#[116]⟩, .string ⟨#[120]⟩, .int .i64 n, .string ⟨#[]⟩, .int .i64 n, .bool false, .int .i64 0, .int .i64 0, .int .i64 0, .string ⟨#[]⟩]) ∧ Below u.heap.size u w') := at07_any
  have CA : Hid (∀ d lb u, Lg w d lb A2 1 u → ∃ A4, St1 A4 ([] ++ recL [atX 1]) 2 ∧ Calls Tryz.prog 9 #[.pointer (some ⟨lb, 0, none⟩), .slice (some ⟨u.heap.size, 0, none⟩) 1 1] (u.alloc (.cells #[.string ⟨#[116]⟩, .string ⟨#[120]⟩, .int .i64 1, .string ⟨#[]⟩, .int .i64 1, .bool false, .int .i64 0, .int .i64 0, .int .i64 0, .string ⟨#[]⟩] 50)) fun x w' => x = .returned (.int .i64 0) ∧ Lg w d lb A4 1 w') := fun d lb u hu => append_at he ht hu hS1 (by omega) (by simp) ⟨by decide, by decide⟩ rec_ok1 rec_len1
  have CA2 : Hid (∀ d lb u A4, St1 A4 ([] ++ recL [atX 1]) 2 → Lg w d lb A4 1 u → ∃ A6, St1 A6 ([] ++ recL [atX 1] ++ recL [atX 2]) 3 ∧ Calls Tryz.prog 9 #[.pointer (some ⟨lb, 0, none⟩), .slice (some ⟨u.heap.size, 0, none⟩) 1 1] (u.alloc (.cells #[.string ⟨#[116]⟩, .string ⟨#[120]⟩, .int .i64 2, .string ⟨#[]⟩, .int .i64 2, .bool false, .int .i64 0, .int .i64 0, .int .i64 0, .string ⟨#[]⟩] 50)) fun x w' => x = .returned (.int .i64 0) ∧ Lg w d lb A6 1 w') := fun d lb u A4 hS hu => append_at he ht hu hS (by omega) (by have := rec_len1; simp only [List.nil_append]; omega) ⟨by decide, by decide⟩ rec_ok2 rec_len2
  have CR : Hid (∀ d lb u A6, St1 A6 ([] ++ recL [atX 1] ++ recL [atX 2]) 3 → Lg w d lb A6 1 u → ∃ A8, St2 A8 ([] ++ recL [atX 1] ++ recL [atX 2]) ∧ Calls Tryz.prog 16 #[.pointer (some ⟨lb, 0, none⟩)] u fun x w' => x = .returned (.tuple #[.int .i64 2, .int .i64 0]) ∧ Lg w d lb A8 2 w') := fun d lb u A6 hS hu => by
    have hBl : ([] ++ recL [atX 1] ++ recL [atX 2]).length ≤ 1000 := by have := rec_len1; have := rec_len2; rw [List.nil_append, List.length_append]; omega
    obtain ⟨A7, A8, r1, r2, r3, r4, r5⟩ := step_roll hS (by omega) hBl
    exact ⟨A8, r5, rollL_ok he hu rfl rfl hS.on (hS.fine hBl) hS.left (by have := hS.ops; omega) r1 r2 r3 r4⟩
  have CX : Hid (∀ d lb u A8, St2 A8 ([] ++ recL [atX 1] ++ recL [atX 2]) → Lg w d lb A8 2 u → ∃ A9, A9.sp = [⟨q2, [], 0, []⟩] ∧ A9.on = true ∧ Calls Tryz.prog 17 #[.pointer (some ⟨lb, 0, none⟩), .int .i64 2] u fun x w' => x = .returned (.int .i64 0) ∧ Lg w d lb A9 2 w') := fun d lb u A8 hS hu => by
    obtain ⟨A9, s1, s2, s3⟩ := step_remove hS
    refine ⟨A9, s2, s3, retireL_two he hu hS.on (by rw [hS.sp]; simp) (fun t ht => ?_) hS.nums hS.left hS.ops s1⟩
    rw [hS.sp] at ht
    simp only [List.mem_cons, List.not_mem_nil, or_false] at ht
    rcases ht with rfl | rfl
    · decide
    · decide
  have CLs : Hid (∀ d lb u A9, A9.sp = [⟨q2, [], 0, []⟩] → A9.on = true → Lg w d lb A9 2 u → Calls Tryz.prog 19 #[.pointer (some ⟨d, 0, none⟩)] u fun e w' => ∃ b cap, e = .returned (.slice (some ⟨b, 0, none⟩) 1 cap) ∧ w'.cell? ⟨b, 0, none⟩ = some (.string ⟨#[108, 111, 103, 45, 50]⟩) ∧ Below u.heap.size u w') := fun d lb u A9 h1 h2 hu => by
    refine (listL_any hu h2 (by rw [h1]; simp)).mono ?_
    rintro e w' ⟨ao, cap, L, rfl, hp, _, hc, hb⟩
    rw [h1] at hp
    have hL : L = [q2] := List.perm_singleton.1 hp
    subst hL
    obtain ⟨b, rfl, hcb⟩ := hc 0 q2 rfl
    exact ⟨b, cap, rfl, hcb, hb⟩
  have CG : Hid (∀ u, Calls Tryz.prog 20 #[.agg #[.string ⟨#[116]⟩, .string ⟨#[120]⟩, .int .i64 1, .string ⟨#[]⟩, .int .i64 1, .bool false, .int .i64 0, .int .i64 0, .int .i64 0, .string ⟨#[]⟩]] u fun x w' => x = .returned (.bool true) ∧ Below u.heap.size u w') := fun u => by
    have := goodX_any (atX 1) u (atX_max 1).1 (atX_max 1).2.1 (atX_max 1).2.2.1 (atX_max 1).2.2.2
    rw [atX_good1] at this; exact this
  clear he ht n1 n2 n3 n4 hS1
  go_enter Tryz.func5, Tryz.ntmps5
  go_wp2_with fail
  go_fit CD.out
  rintro e w1 ⟨d, rfl, hK1⟩
  have C1 := CO.out d w1 hK1
  go_wp2_with fail
  go_fit C1
  rintro e w2 ⟨lb, rfl, hL2⟩
  clear C1 hK1 CO CD
  go_wp2_with fail
  go_fit (CT.out 1 w2)
  rintro e w3 ⟨rfl, hB3⟩
  have hL3 := hL2.more hB3
  obtain ⟨A4, hS4, C4⟩ := CA.out d lb w3 hL3
  clear hB3 hL2 CA
  go_wp2_with fail
  go_fit C4
  rintro e w4 ⟨rfl, hL4⟩
  clear C4 hL3
  go_wp2_with fail
  go_fit (CT.out 2 w4)
  rintro e w5 ⟨rfl, hB5⟩
  have hL5 := hL4.more hB5
  obtain ⟨A6, hS6, C6⟩ := CA2.out d lb w5 A4 hS4 hL5
  clear hB5 hL4 CA2
  go_wp2_with fail
  go_fit C6
  rintro e w6 ⟨rfl, hL6⟩
  obtain ⟨A8, hS8, C8⟩ := CR.out d lb w6 A6 hS6 hL6
  clear C6 hL5 CR
  go_wp2_with fail
  go_fit C8
  rintro e w7 ⟨rfl, hL7⟩
  obtain ⟨A9, hA9, hon9, C9⟩ := CX.out d lb w7 A8 hS8 hL7
  clear C8 hL6 CX
  go_wp2_with fail
  go_fit C9
  rintro e w8 ⟨rfl, hL8⟩
  have C10 := CLs.out d lb w8 A9 hA9 hon9 hL8
  clear C9 hL7 CLs
  go_wp2_with fail
  go_fit C10
  rintro e w9 ⟨b, cap, rfl, hc9, hB9⟩
  have hb0 : Below w.heap.size w w9 := hL8.bel.trans (hB9.mono hL8.bel.size)
  have hba : Below w9.heap.size w9 (w9.alloc (.cells #[.string ⟨#[108, 111, 103, 45, 50]⟩] 9)) := (Below.refl _ _).alloc (Nat.le_refl _) _
  have CX2 : Hid (Calls Tryz.prog 18 #[.slice (some ⟨b, 0, none⟩) 1 cap, .slice (some ⟨w9.heap.size, 0, none⟩) 1 1] (w9.alloc (.cells #[.string ⟨#[108, 111, 103, 45, 50]⟩] 9)) fun e w' => e = .returned (.bool true) ∧ Below w.heap.size w w') := by
    refine (texts_one b w9.heap.size ⟨#[108, 111, 103, 45, 50]⟩ cap 1 _ (by rw [hba.cell (World.block_lt_of_cell? _ _ hc9)]; exact hc9) (Blk.cell (Blk.new w9 [.string ⟨#[108, 111, 103, 45, 50]⟩] 9) 0 rfl)).mono fun e w' ⟨h1, h2⟩ => ⟨h1, ?_⟩
    exact (hb0.trans (hba.mono hb0.size)).trans (h2.mono (Nat.le_trans hb0.size hba.size))
  clear hb0 hba hc9 hB9 hL8 C10
  go_wp2_with fail
  go_fit CX2.out
  rintro e w10 ⟨rfl, hB10⟩
  go_wp2_with fail
  go_fit (CT.out 1 w10)
  rintro e w11 ⟨rfl, hB11⟩
  go_wp2_with fail
  go_fit (CG.out w11)
  rintro e w12 ⟨rfl, hB12⟩
  have HF : Hid (Below w.heap.size w w12) := (hB10.trans (hB11.mono hB10.size)).trans (hB12.mono (Nat.le_trans hB10.size hB11.size))
  clear hB10 hB11 hB12 CX2
  go_wp2_with fail
  go_ret
  exact ⟨rfl, HF.out⟩
end Go.Proofs.YtglaocghcgcghaaGreatDoor
