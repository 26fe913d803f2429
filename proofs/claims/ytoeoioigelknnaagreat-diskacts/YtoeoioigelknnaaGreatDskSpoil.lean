/-
  CONTRACTS: a bit of a file is turned, for every disk in memory.
-/
import Derived.Test.YtoeoioigelknnaaGreatDskMore
namespace Go.Proofs.YtoeoioigelknnaaGreat
open Go.RowKit Go.Maps

/-- A byte with one bit turned. -/
def flipB (b : UInt8) (k : Nat) : UInt8 := b ^^^ UInt8.ofNat (2 ^ k)
/-- The file e with one bit turned: it lies in memory so. -/
theorem ent_flip {w : World} {e : Ent} (h : EntAt w e) {g cap : Nat} (hv : e.v1 = .slice (some ⟨g, 0, none⟩) e.bs.length cap) (i : Nat) (b : UInt8) (y : Int) (hy : (b.toNat : Int) = y) :
    EntAt (w.setCell ⟨g, i, none⟩ (.int .u8 y)).drew { e with bs := e.bs.set i b } ∧ Moved w (w.setCell ⟨g, i, none⟩ (.int .u8 y)).drew e.foot e.foot := by
  subst hy
  have hap := h.apart
  simp only [Ent.foot, List.nodup_cons, List.mem_append, not_or, List.nodup_append] at hap
  have hog : e.v1.ownBlock = some g := by rw [hv]; rfl
  have hk : ∀ j, j ≠ g → (w.setCell ⟨g, i, none⟩ (.int .u8 (b.toNat : Int))).drew.heap[j]? = w.heap[j]? := fun j hj => Below.heap_setCell _ _ _ _ hj
  refine ⟨⟨h.head.carry (hk _ fun e1 => hap.1.1 (mem_own.2 (e1 ▸ hog))), ?_, owns_carry h.row2 fun j hj => hk j fun e1 => hap.2.2.2 g (mem_own.2 hog) j (mem_own.2 hj) e1.symm, h.apart⟩, ((Moved.of_set g i _).drew).wider (fun j hj => .inl (by simp at hj; subst hj; simp only [Ent.foot, List.mem_cons, List.mem_append]; exact .inr (.inl (mem_own.2 hog)))) (fun j hj => .inl hj)⟩
  show World.ownsRow _ 0 5 1 e.v1 (e.bs.set i b).length (B8 (e.bs.set i b))
  have hr := h.row1
  rw [hv] at hr ⊢
  have := hr.stored i (.int .u8 (b.toNat : Int))
  rw [List.length_set]
  have hB : B8 (e.bs.set i b) = (B8 e.bs).set i (.int .u8 (b.toNat : Int)) := by simp [B8, List.map_set]
  rw [hB]
  exact this.1
theorem flip_text0 : ∀ n : Nat, n < 256 → bits BinOp.xor IntKind.u8 (n : Int) 1 = ((flipB (UInt8.ofNat n) 0).toNat : Int) := by decide +kernel
theorem flip_text1 : ∀ n : Nat, n < 256 → bits BinOp.xor IntKind.u8 (n : Int) 2 = ((flipB (UInt8.ofNat n) 1).toNat : Int) := by decide +kernel
theorem flip_text2 : ∀ n : Nat, n < 256 → bits BinOp.xor IntKind.u8 (n : Int) 4 = ((flipB (UInt8.ofNat n) 2).toNat : Int) := by decide +kernel
theorem flip_text3 : ∀ n : Nat, n < 256 → bits BinOp.xor IntKind.u8 (n : Int) 8 = ((flipB (UInt8.ofNat n) 3).toNat : Int) := by decide +kernel
theorem flip_text4 : ∀ n : Nat, n < 256 → bits BinOp.xor IntKind.u8 (n : Int) 16 = ((flipB (UInt8.ofNat n) 4).toNat : Int) := by decide +kernel
theorem flip_text5 : ∀ n : Nat, n < 256 → bits BinOp.xor IntKind.u8 (n : Int) 32 = ((flipB (UInt8.ofNat n) 5).toNat : Int) := by decide +kernel
theorem flip_text6 : ∀ n : Nat, n < 256 → bits BinOp.xor IntKind.u8 (n : Int) 64 = ((flipB (UInt8.ofNat n) 6).toNat : Int) := by decide +kernel
theorem flip_text7 : ∀ n : Nat, n < 256 → bits BinOp.xor IntKind.u8 (n : Int) 128 = ((flipB (UInt8.ofNat n) 7).toNat : Int) := by decide +kernel
set_option maxRecDepth 100000 in
theorem spoil0 {w : World} {d bm : Nat} {S : St} (h : DiskAt w d bm S) (s : ByteArray) (hs : s.size ≤ maxLen) (hc : refuse S.on [s] = 0) {e : Ent} (hf : find S.fs (nameOf s) = some e) (i : Nat) (hi : i < e.bs.length) (hlen : e.bs.length ≤ 1099511627776) :
    Calls Tryz.prog 36 #[.pointer (some ⟨d, 0, none⟩), .string s, .int .i64 (i : Int), .int .i64 0] w fun x w' => x = .returned (.int .i64 0) ∧ DiskAt w' d bm { S with fs := swap S.fs e { e with bs := e.bs.set i (flipB (e.bs.getD i 0) 0) } } ∧ Moved w w' (foot d bm S.fs) (foot d bm S.fs) := by
  have he := (find_some hf).1
  have hE := h.ents e he
  rcases hE.row1.2 with ⟨_, h0⟩ | ⟨g, cap, cur, hv, hb, hg, hcap, hm, hsz, ht⟩
  · omega
  have F : Hid (Calls Tryz.prog 54 #[.pointer (some ⟨d, 0, none⟩), .string s] w fun x w' => x = .returned (.tuple #[.pointer (some ⟨e.b, 0, none⟩), .int .i64 0]) ∧ w.grownBy w' none) := find_ok h s hs hc hf
  have FC : Hid (∀ w1, w.grownBy w1 none → w1.cell? ⟨e.b, 0, none⟩ = some (.slice (some ⟨g, 0, none⟩) e.bs.length cap) ∧ w1.cell? ⟨g, i, none⟩ = some (.int .u8 ((e.bs.getD i 0).toNat : Int)) ∧ w1.frozen? ⟨g, i, none⟩ = false) := by
    intro w1 hg1
    have hE1 : EntAt w1 e := hE.carry fun j hj => hg1.block j (hE.lt j hj) (by simp)
    have hc0 := hE1.c0
    rw [hv] at hc0
    have hcell := hE1.row1.cells (g := g) (by rw [hv]; rfl) i _ (B8_at e.bs i hi)
    rw [Addr.add_lit, Nat.zero_add] at hcell
    have hg' : w1.heap[g]? = some (.cells cur 5 (0, 0)) := (hg1.block g (Array.getElem?_eq_some_iff.1 hg).1 (by simp)).trans hg
    exact ⟨hc0, hcell, by simp [World.frozen?, hg']⟩
  have HE : Hid (∀ w1, w.grownBy w1 none → DiskAt (w1.setCell ⟨g, i, none⟩ (.int .u8 (bits BinOp.xor IntKind.u8 ((e.bs.getD i 0).toNat : Int) 1))).drew d bm { S with fs := swap S.fs e { e with bs := e.bs.set i (flipB (e.bs.getD i 0) 0) } } ∧ Moved w (w1.setCell ⟨g, i, none⟩ (.int .u8 (bits BinOp.xor IntKind.u8 ((e.bs.getD i 0).toNat : Int) 1))).drew (foot d bm S.fs) (foot d bm S.fs)) := by
    intro w1 hg1
    have hD1 : DiskAt w1 d bm S := h.carry fun j hj => hg1.block j (h.lt j hj) (by simp)
    have hy : ((flipB (e.bs.getD i 0) 0).toNat : Int) = bits BinOp.xor IntKind.u8 ((e.bs.getD i 0).toNat : Int) 1 := by
      rw [flip_text0 _ (e.bs.getD i 0).toNat_lt, UInt8.ofNat_toNat]
    have hfl := ent_flip (hD1.ents e he) hv i (flipB (e.bs.getD i 0) 0) _ hy
    have hT := hD1.turn he (e' := { e with bs := e.bs.set i (flipB (e.bs.getD i 0) 0) }) hfl.2 hfl.1 rfl rfl
    refine ⟨hT.1, (Moved.none_of hg1 _).trans (hfl.2.wider (fun j hj => .inl (by simp only [foot, List.mem_cons]; exact .inr (.inr (feet_mem.2 ⟨e, he, hj⟩)))) (fun j hj => .inl hj))⟩
  have hii : (i : Int) < (e.bs.length : Int) := by omega
  have hl0 : decide ((i : Int) < 0) = false := decide_eq_false (by omega)
  have hl1 : decide ((e.bs.length : Int) ≤ (i : Int)) = false := decide_eq_false (by omega)
  have hib : (e.bs.length : Int) ≤ 1099511627776 := by omega
  have hx := (e.bs.getD i 0).toNat_lt
  generalize (e.bs.getD i 0).toNat = bx at FC HE hx
  clear h hs hc hf he hE hb hg hcap hm hsz ht hv
  go_enter Tryz.func36, Tryz.ntmps36
  go_wp2_with (go_at_call 54; go_fit F.out; rintro x w1 ⟨rfl, hg1⟩; obtain ⟨q0, q1, q2⟩ := FC.out w1 hg1)
  go_region
  go_wp2
  go_ret
  exact ⟨rfl, HE.out w1 hg1⟩
set_option maxRecDepth 100000 in
theorem spoil1 {w : World} {d bm : Nat} {S : St} (h : DiskAt w d bm S) (s : ByteArray) (hs : s.size ≤ maxLen) (hc : refuse S.on [s] = 0) {e : Ent} (hf : find S.fs (nameOf s) = some e) (i : Nat) (hi : i < e.bs.length) (hlen : e.bs.length ≤ 1099511627776) :
    Calls Tryz.prog 36 #[.pointer (some ⟨d, 0, none⟩), .string s, .int .i64 (i : Int), .int .i64 1] w fun x w' => x = .returned (.int .i64 0) ∧ DiskAt w' d bm { S with fs := swap S.fs e { e with bs := e.bs.set i (flipB (e.bs.getD i 0) 1) } } ∧ Moved w w' (foot d bm S.fs) (foot d bm S.fs) := by
  have he := (find_some hf).1
  have hE := h.ents e he
  rcases hE.row1.2 with ⟨_, h0⟩ | ⟨g, cap, cur, hv, hb, hg, hcap, hm, hsz, ht⟩
  · omega
  have F : Hid (Calls Tryz.prog 54 #[.pointer (some ⟨d, 0, none⟩), .string s] w fun x w' => x = .returned (.tuple #[.pointer (some ⟨e.b, 0, none⟩), .int .i64 0]) ∧ w.grownBy w' none) := find_ok h s hs hc hf
  have FC : Hid (∀ w1, w.grownBy w1 none → w1.cell? ⟨e.b, 0, none⟩ = some (.slice (some ⟨g, 0, none⟩) e.bs.length cap) ∧ w1.cell? ⟨g, i, none⟩ = some (.int .u8 ((e.bs.getD i 0).toNat : Int)) ∧ w1.frozen? ⟨g, i, none⟩ = false) := by
    intro w1 hg1
    have hE1 : EntAt w1 e := hE.carry fun j hj => hg1.block j (hE.lt j hj) (by simp)
    have hc0 := hE1.c0
    rw [hv] at hc0
    have hcell := hE1.row1.cells (g := g) (by rw [hv]; rfl) i _ (B8_at e.bs i hi)
    rw [Addr.add_lit, Nat.zero_add] at hcell
    have hg' : w1.heap[g]? = some (.cells cur 5 (0, 0)) := (hg1.block g (Array.getElem?_eq_some_iff.1 hg).1 (by simp)).trans hg
    exact ⟨hc0, hcell, by simp [World.frozen?, hg']⟩
  have HE : Hid (∀ w1, w.grownBy w1 none → DiskAt (w1.setCell ⟨g, i, none⟩ (.int .u8 (bits BinOp.xor IntKind.u8 ((e.bs.getD i 0).toNat : Int) 2))).drew d bm { S with fs := swap S.fs e { e with bs := e.bs.set i (flipB (e.bs.getD i 0) 1) } } ∧ Moved w (w1.setCell ⟨g, i, none⟩ (.int .u8 (bits BinOp.xor IntKind.u8 ((e.bs.getD i 0).toNat : Int) 2))).drew (foot d bm S.fs) (foot d bm S.fs)) := by
    intro w1 hg1
    have hD1 : DiskAt w1 d bm S := h.carry fun j hj => hg1.block j (h.lt j hj) (by simp)
    have hy : ((flipB (e.bs.getD i 0) 1).toNat : Int) = bits BinOp.xor IntKind.u8 ((e.bs.getD i 0).toNat : Int) 2 := by
      rw [flip_text1 _ (e.bs.getD i 0).toNat_lt, UInt8.ofNat_toNat]
    have hfl := ent_flip (hD1.ents e he) hv i (flipB (e.bs.getD i 0) 1) _ hy
    have hT := hD1.turn he (e' := { e with bs := e.bs.set i (flipB (e.bs.getD i 0) 1) }) hfl.2 hfl.1 rfl rfl
    refine ⟨hT.1, (Moved.none_of hg1 _).trans (hfl.2.wider (fun j hj => .inl (by simp only [foot, List.mem_cons]; exact .inr (.inr (feet_mem.2 ⟨e, he, hj⟩)))) (fun j hj => .inl hj))⟩
  have hii : (i : Int) < (e.bs.length : Int) := by omega
  have hl0 : decide ((i : Int) < 0) = false := decide_eq_false (by omega)
  have hl1 : decide ((e.bs.length : Int) ≤ (i : Int)) = false := decide_eq_false (by omega)
  have hib : (e.bs.length : Int) ≤ 1099511627776 := by omega
  have hx := (e.bs.getD i 0).toNat_lt
  generalize (e.bs.getD i 0).toNat = bx at FC HE hx
  clear h hs hc hf he hE hb hg hcap hm hsz ht hv
  go_enter Tryz.func36, Tryz.ntmps36
  go_wp2_with (go_at_call 54; go_fit F.out; rintro x w1 ⟨rfl, hg1⟩; obtain ⟨q0, q1, q2⟩ := FC.out w1 hg1)
  go_region
  go_wp2
  go_ret
  exact ⟨rfl, HE.out w1 hg1⟩
set_option maxRecDepth 100000 in
theorem spoil2 {w : World} {d bm : Nat} {S : St} (h : DiskAt w d bm S) (s : ByteArray) (hs : s.size ≤ maxLen) (hc : refuse S.on [s] = 0) {e : Ent} (hf : find S.fs (nameOf s) = some e) (i : Nat) (hi : i < e.bs.length) (hlen : e.bs.length ≤ 1099511627776) :
    Calls Tryz.prog 36 #[.pointer (some ⟨d, 0, none⟩), .string s, .int .i64 (i : Int), .int .i64 2] w fun x w' => x = .returned (.int .i64 0) ∧ DiskAt w' d bm { S with fs := swap S.fs e { e with bs := e.bs.set i (flipB (e.bs.getD i 0) 2) } } ∧ Moved w w' (foot d bm S.fs) (foot d bm S.fs) := by
  have he := (find_some hf).1
  have hE := h.ents e he
  rcases hE.row1.2 with ⟨_, h0⟩ | ⟨g, cap, cur, hv, hb, hg, hcap, hm, hsz, ht⟩
  · omega
  have F : Hid (Calls Tryz.prog 54 #[.pointer (some ⟨d, 0, none⟩), .string s] w fun x w' => x = .returned (.tuple #[.pointer (some ⟨e.b, 0, none⟩), .int .i64 0]) ∧ w.grownBy w' none) := find_ok h s hs hc hf
  have FC : Hid (∀ w1, w.grownBy w1 none → w1.cell? ⟨e.b, 0, none⟩ = some (.slice (some ⟨g, 0, none⟩) e.bs.length cap) ∧ w1.cell? ⟨g, i, none⟩ = some (.int .u8 ((e.bs.getD i 0).toNat : Int)) ∧ w1.frozen? ⟨g, i, none⟩ = false) := by
    intro w1 hg1
    have hE1 : EntAt w1 e := hE.carry fun j hj => hg1.block j (hE.lt j hj) (by simp)
    have hc0 := hE1.c0
    rw [hv] at hc0
    have hcell := hE1.row1.cells (g := g) (by rw [hv]; rfl) i _ (B8_at e.bs i hi)
    rw [Addr.add_lit, Nat.zero_add] at hcell
    have hg' : w1.heap[g]? = some (.cells cur 5 (0, 0)) := (hg1.block g (Array.getElem?_eq_some_iff.1 hg).1 (by simp)).trans hg
    exact ⟨hc0, hcell, by simp [World.frozen?, hg']⟩
  have HE : Hid (∀ w1, w.grownBy w1 none → DiskAt (w1.setCell ⟨g, i, none⟩ (.int .u8 (bits BinOp.xor IntKind.u8 ((e.bs.getD i 0).toNat : Int) 4))).drew d bm { S with fs := swap S.fs e { e with bs := e.bs.set i (flipB (e.bs.getD i 0) 2) } } ∧ Moved w (w1.setCell ⟨g, i, none⟩ (.int .u8 (bits BinOp.xor IntKind.u8 ((e.bs.getD i 0).toNat : Int) 4))).drew (foot d bm S.fs) (foot d bm S.fs)) := by
    intro w1 hg1
    have hD1 : DiskAt w1 d bm S := h.carry fun j hj => hg1.block j (h.lt j hj) (by simp)
    have hy : ((flipB (e.bs.getD i 0) 2).toNat : Int) = bits BinOp.xor IntKind.u8 ((e.bs.getD i 0).toNat : Int) 4 := by
      rw [flip_text2 _ (e.bs.getD i 0).toNat_lt, UInt8.ofNat_toNat]
    have hfl := ent_flip (hD1.ents e he) hv i (flipB (e.bs.getD i 0) 2) _ hy
    have hT := hD1.turn he (e' := { e with bs := e.bs.set i (flipB (e.bs.getD i 0) 2) }) hfl.2 hfl.1 rfl rfl
    refine ⟨hT.1, (Moved.none_of hg1 _).trans (hfl.2.wider (fun j hj => .inl (by simp only [foot, List.mem_cons]; exact .inr (.inr (feet_mem.2 ⟨e, he, hj⟩)))) (fun j hj => .inl hj))⟩
  have hii : (i : Int) < (e.bs.length : Int) := by omega
  have hl0 : decide ((i : Int) < 0) = false := decide_eq_false (by omega)
  have hl1 : decide ((e.bs.length : Int) ≤ (i : Int)) = false := decide_eq_false (by omega)
  have hib : (e.bs.length : Int) ≤ 1099511627776 := by omega
  have hx := (e.bs.getD i 0).toNat_lt
  generalize (e.bs.getD i 0).toNat = bx at FC HE hx
  clear h hs hc hf he hE hb hg hcap hm hsz ht hv
  go_enter Tryz.func36, Tryz.ntmps36
  go_wp2_with (go_at_call 54; go_fit F.out; rintro x w1 ⟨rfl, hg1⟩; obtain ⟨q0, q1, q2⟩ := FC.out w1 hg1)
  go_region
  go_wp2
  go_ret
  exact ⟨rfl, HE.out w1 hg1⟩
set_option maxRecDepth 100000 in
theorem spoil3 {w : World} {d bm : Nat} {S : St} (h : DiskAt w d bm S) (s : ByteArray) (hs : s.size ≤ maxLen) (hc : refuse S.on [s] = 0) {e : Ent} (hf : find S.fs (nameOf s) = some e) (i : Nat) (hi : i < e.bs.length) (hlen : e.bs.length ≤ 1099511627776) :
    Calls Tryz.prog 36 #[.pointer (some ⟨d, 0, none⟩), .string s, .int .i64 (i : Int), .int .i64 3] w fun x w' => x = .returned (.int .i64 0) ∧ DiskAt w' d bm { S with fs := swap S.fs e { e with bs := e.bs.set i (flipB (e.bs.getD i 0) 3) } } ∧ Moved w w' (foot d bm S.fs) (foot d bm S.fs) := by
  have he := (find_some hf).1
  have hE := h.ents e he
  rcases hE.row1.2 with ⟨_, h0⟩ | ⟨g, cap, cur, hv, hb, hg, hcap, hm, hsz, ht⟩
  · omega
  have F : Hid (Calls Tryz.prog 54 #[.pointer (some ⟨d, 0, none⟩), .string s] w fun x w' => x = .returned (.tuple #[.pointer (some ⟨e.b, 0, none⟩), .int .i64 0]) ∧ w.grownBy w' none) := find_ok h s hs hc hf
  have FC : Hid (∀ w1, w.grownBy w1 none → w1.cell? ⟨e.b, 0, none⟩ = some (.slice (some ⟨g, 0, none⟩) e.bs.length cap) ∧ w1.cell? ⟨g, i, none⟩ = some (.int .u8 ((e.bs.getD i 0).toNat : Int)) ∧ w1.frozen? ⟨g, i, none⟩ = false) := by
    intro w1 hg1
    have hE1 : EntAt w1 e := hE.carry fun j hj => hg1.block j (hE.lt j hj) (by simp)
    have hc0 := hE1.c0
    rw [hv] at hc0
    have hcell := hE1.row1.cells (g := g) (by rw [hv]; rfl) i _ (B8_at e.bs i hi)
    rw [Addr.add_lit, Nat.zero_add] at hcell
    have hg' : w1.heap[g]? = some (.cells cur 5 (0, 0)) := (hg1.block g (Array.getElem?_eq_some_iff.1 hg).1 (by simp)).trans hg
    exact ⟨hc0, hcell, by simp [World.frozen?, hg']⟩
  have HE : Hid (∀ w1, w.grownBy w1 none → DiskAt (w1.setCell ⟨g, i, none⟩ (.int .u8 (bits BinOp.xor IntKind.u8 ((e.bs.getD i 0).toNat : Int) 8))).drew d bm { S with fs := swap S.fs e { e with bs := e.bs.set i (flipB (e.bs.getD i 0) 3) } } ∧ Moved w (w1.setCell ⟨g, i, none⟩ (.int .u8 (bits BinOp.xor IntKind.u8 ((e.bs.getD i 0).toNat : Int) 8))).drew (foot d bm S.fs) (foot d bm S.fs)) := by
    intro w1 hg1
    have hD1 : DiskAt w1 d bm S := h.carry fun j hj => hg1.block j (h.lt j hj) (by simp)
    have hy : ((flipB (e.bs.getD i 0) 3).toNat : Int) = bits BinOp.xor IntKind.u8 ((e.bs.getD i 0).toNat : Int) 8 := by
      rw [flip_text3 _ (e.bs.getD i 0).toNat_lt, UInt8.ofNat_toNat]
    have hfl := ent_flip (hD1.ents e he) hv i (flipB (e.bs.getD i 0) 3) _ hy
    have hT := hD1.turn he (e' := { e with bs := e.bs.set i (flipB (e.bs.getD i 0) 3) }) hfl.2 hfl.1 rfl rfl
    refine ⟨hT.1, (Moved.none_of hg1 _).trans (hfl.2.wider (fun j hj => .inl (by simp only [foot, List.mem_cons]; exact .inr (.inr (feet_mem.2 ⟨e, he, hj⟩)))) (fun j hj => .inl hj))⟩
  have hii : (i : Int) < (e.bs.length : Int) := by omega
  have hl0 : decide ((i : Int) < 0) = false := decide_eq_false (by omega)
  have hl1 : decide ((e.bs.length : Int) ≤ (i : Int)) = false := decide_eq_false (by omega)
  have hib : (e.bs.length : Int) ≤ 1099511627776 := by omega
  have hx := (e.bs.getD i 0).toNat_lt
  generalize (e.bs.getD i 0).toNat = bx at FC HE hx
  clear h hs hc hf he hE hb hg hcap hm hsz ht hv
  go_enter Tryz.func36, Tryz.ntmps36
  go_wp2_with (go_at_call 54; go_fit F.out; rintro x w1 ⟨rfl, hg1⟩; obtain ⟨q0, q1, q2⟩ := FC.out w1 hg1)
  go_region
  go_wp2
  go_ret
  exact ⟨rfl, HE.out w1 hg1⟩
set_option maxRecDepth 100000 in
theorem spoil4 {w : World} {d bm : Nat} {S : St} (h : DiskAt w d bm S) (s : ByteArray) (hs : s.size ≤ maxLen) (hc : refuse S.on [s] = 0) {e : Ent} (hf : find S.fs (nameOf s) = some e) (i : Nat) (hi : i < e.bs.length) (hlen : e.bs.length ≤ 1099511627776) :
    Calls Tryz.prog 36 #[.pointer (some ⟨d, 0, none⟩), .string s, .int .i64 (i : Int), .int .i64 4] w fun x w' => x = .returned (.int .i64 0) ∧ DiskAt w' d bm { S with fs := swap S.fs e { e with bs := e.bs.set i (flipB (e.bs.getD i 0) 4) } } ∧ Moved w w' (foot d bm S.fs) (foot d bm S.fs) := by
  have he := (find_some hf).1
  have hE := h.ents e he
  rcases hE.row1.2 with ⟨_, h0⟩ | ⟨g, cap, cur, hv, hb, hg, hcap, hm, hsz, ht⟩
  · omega
  have F : Hid (Calls Tryz.prog 54 #[.pointer (some ⟨d, 0, none⟩), .string s] w fun x w' => x = .returned (.tuple #[.pointer (some ⟨e.b, 0, none⟩), .int .i64 0]) ∧ w.grownBy w' none) := find_ok h s hs hc hf
  have FC : Hid (∀ w1, w.grownBy w1 none → w1.cell? ⟨e.b, 0, none⟩ = some (.slice (some ⟨g, 0, none⟩) e.bs.length cap) ∧ w1.cell? ⟨g, i, none⟩ = some (.int .u8 ((e.bs.getD i 0).toNat : Int)) ∧ w1.frozen? ⟨g, i, none⟩ = false) := by
    intro w1 hg1
    have hE1 : EntAt w1 e := hE.carry fun j hj => hg1.block j (hE.lt j hj) (by simp)
    have hc0 := hE1.c0
    rw [hv] at hc0
    have hcell := hE1.row1.cells (g := g) (by rw [hv]; rfl) i _ (B8_at e.bs i hi)
    rw [Addr.add_lit, Nat.zero_add] at hcell
    have hg' : w1.heap[g]? = some (.cells cur 5 (0, 0)) := (hg1.block g (Array.getElem?_eq_some_iff.1 hg).1 (by simp)).trans hg
    exact ⟨hc0, hcell, by simp [World.frozen?, hg']⟩
  have HE : Hid (∀ w1, w.grownBy w1 none → DiskAt (w1.setCell ⟨g, i, none⟩ (.int .u8 (bits BinOp.xor IntKind.u8 ((e.bs.getD i 0).toNat : Int) 16))).drew d bm { S with fs := swap S.fs e { e with bs := e.bs.set i (flipB (e.bs.getD i 0) 4) } } ∧ Moved w (w1.setCell ⟨g, i, none⟩ (.int .u8 (bits BinOp.xor IntKind.u8 ((e.bs.getD i 0).toNat : Int) 16))).drew (foot d bm S.fs) (foot d bm S.fs)) := by
    intro w1 hg1
    have hD1 : DiskAt w1 d bm S := h.carry fun j hj => hg1.block j (h.lt j hj) (by simp)
    have hy : ((flipB (e.bs.getD i 0) 4).toNat : Int) = bits BinOp.xor IntKind.u8 ((e.bs.getD i 0).toNat : Int) 16 := by
      rw [flip_text4 _ (e.bs.getD i 0).toNat_lt, UInt8.ofNat_toNat]
    have hfl := ent_flip (hD1.ents e he) hv i (flipB (e.bs.getD i 0) 4) _ hy
    have hT := hD1.turn he (e' := { e with bs := e.bs.set i (flipB (e.bs.getD i 0) 4) }) hfl.2 hfl.1 rfl rfl
    refine ⟨hT.1, (Moved.none_of hg1 _).trans (hfl.2.wider (fun j hj => .inl (by simp only [foot, List.mem_cons]; exact .inr (.inr (feet_mem.2 ⟨e, he, hj⟩)))) (fun j hj => .inl hj))⟩
  have hii : (i : Int) < (e.bs.length : Int) := by omega
  have hl0 : decide ((i : Int) < 0) = false := decide_eq_false (by omega)
  have hl1 : decide ((e.bs.length : Int) ≤ (i : Int)) = false := decide_eq_false (by omega)
  have hib : (e.bs.length : Int) ≤ 1099511627776 := by omega
  have hx := (e.bs.getD i 0).toNat_lt
  generalize (e.bs.getD i 0).toNat = bx at FC HE hx
  clear h hs hc hf he hE hb hg hcap hm hsz ht hv
  go_enter Tryz.func36, Tryz.ntmps36
  go_wp2_with (go_at_call 54; go_fit F.out; rintro x w1 ⟨rfl, hg1⟩; obtain ⟨q0, q1, q2⟩ := FC.out w1 hg1)
  go_region
  go_wp2
  go_ret
  exact ⟨rfl, HE.out w1 hg1⟩
set_option maxRecDepth 100000 in
theorem spoil5 {w : World} {d bm : Nat} {S : St} (h : DiskAt w d bm S) (s : ByteArray) (hs : s.size ≤ maxLen) (hc : refuse S.on [s] = 0) {e : Ent} (hf : find S.fs (nameOf s) = some e) (i : Nat) (hi : i < e.bs.length) (hlen : e.bs.length ≤ 1099511627776) :
    Calls Tryz.prog 36 #[.pointer (some ⟨d, 0, none⟩), .string s, .int .i64 (i : Int), .int .i64 5] w fun x w' => x = .returned (.int .i64 0) ∧ DiskAt w' d bm { S with fs := swap S.fs e { e with bs := e.bs.set i (flipB (e.bs.getD i 0) 5) } } ∧ Moved w w' (foot d bm S.fs) (foot d bm S.fs) := by
  have he := (find_some hf).1
  have hE := h.ents e he
  rcases hE.row1.2 with ⟨_, h0⟩ | ⟨g, cap, cur, hv, hb, hg, hcap, hm, hsz, ht⟩
  · omega
  have F : Hid (Calls Tryz.prog 54 #[.pointer (some ⟨d, 0, none⟩), .string s] w fun x w' => x = .returned (.tuple #[.pointer (some ⟨e.b, 0, none⟩), .int .i64 0]) ∧ w.grownBy w' none) := find_ok h s hs hc hf
  have FC : Hid (∀ w1, w.grownBy w1 none → w1.cell? ⟨e.b, 0, none⟩ = some (.slice (some ⟨g, 0, none⟩) e.bs.length cap) ∧ w1.cell? ⟨g, i, none⟩ = some (.int .u8 ((e.bs.getD i 0).toNat : Int)) ∧ w1.frozen? ⟨g, i, none⟩ = false) := by
    intro w1 hg1
    have hE1 : EntAt w1 e := hE.carry fun j hj => hg1.block j (hE.lt j hj) (by simp)
    have hc0 := hE1.c0
    rw [hv] at hc0
    have hcell := hE1.row1.cells (g := g) (by rw [hv]; rfl) i _ (B8_at e.bs i hi)
    rw [Addr.add_lit, Nat.zero_add] at hcell
    have hg' : w1.heap[g]? = some (.cells cur 5 (0, 0)) := (hg1.block g (Array.getElem?_eq_some_iff.1 hg).1 (by simp)).trans hg
    exact ⟨hc0, hcell, by simp [World.frozen?, hg']⟩
  have HE : Hid (∀ w1, w.grownBy w1 none → DiskAt (w1.setCell ⟨g, i, none⟩ (.int .u8 (bits BinOp.xor IntKind.u8 ((e.bs.getD i 0).toNat : Int) 32))).drew d bm { S with fs := swap S.fs e { e with bs := e.bs.set i (flipB (e.bs.getD i 0) 5) } } ∧ Moved w (w1.setCell ⟨g, i, none⟩ (.int .u8 (bits BinOp.xor IntKind.u8 ((e.bs.getD i 0).toNat : Int) 32))).drew (foot d bm S.fs) (foot d bm S.fs)) := by
    intro w1 hg1
    have hD1 : DiskAt w1 d bm S := h.carry fun j hj => hg1.block j (h.lt j hj) (by simp)
    have hy : ((flipB (e.bs.getD i 0) 5).toNat : Int) = bits BinOp.xor IntKind.u8 ((e.bs.getD i 0).toNat : Int) 32 := by
      rw [flip_text5 _ (e.bs.getD i 0).toNat_lt, UInt8.ofNat_toNat]
    have hfl := ent_flip (hD1.ents e he) hv i (flipB (e.bs.getD i 0) 5) _ hy
    have hT := hD1.turn he (e' := { e with bs := e.bs.set i (flipB (e.bs.getD i 0) 5) }) hfl.2 hfl.1 rfl rfl
    refine ⟨hT.1, (Moved.none_of hg1 _).trans (hfl.2.wider (fun j hj => .inl (by simp only [foot, List.mem_cons]; exact .inr (.inr (feet_mem.2 ⟨e, he, hj⟩)))) (fun j hj => .inl hj))⟩
  have hii : (i : Int) < (e.bs.length : Int) := by omega
  have hl0 : decide ((i : Int) < 0) = false := decide_eq_false (by omega)
  have hl1 : decide ((e.bs.length : Int) ≤ (i : Int)) = false := decide_eq_false (by omega)
  have hib : (e.bs.length : Int) ≤ 1099511627776 := by omega
  have hx := (e.bs.getD i 0).toNat_lt
  generalize (e.bs.getD i 0).toNat = bx at FC HE hx
  clear h hs hc hf he hE hb hg hcap hm hsz ht hv
  go_enter Tryz.func36, Tryz.ntmps36
  go_wp2_with (go_at_call 54; go_fit F.out; rintro x w1 ⟨rfl, hg1⟩; obtain ⟨q0, q1, q2⟩ := FC.out w1 hg1)
  go_region
  go_wp2
  go_ret
  exact ⟨rfl, HE.out w1 hg1⟩
set_option maxRecDepth 100000 in
theorem spoil6 {w : World} {d bm : Nat} {S : St} (h : DiskAt w d bm S) (s : ByteArray) (hs : s.size ≤ maxLen) (hc : refuse S.on [s] = 0) {e : Ent} (hf : find S.fs (nameOf s) = some e) (i : Nat) (hi : i < e.bs.length) (hlen : e.bs.length ≤ 1099511627776) :
    Calls Tryz.prog 36 #[.pointer (some ⟨d, 0, none⟩), .string s, .int .i64 (i : Int), .int .i64 6] w fun x w' => x = .returned (.int .i64 0) ∧ DiskAt w' d bm { S with fs := swap S.fs e { e with bs := e.bs.set i (flipB (e.bs.getD i 0) 6) } } ∧ Moved w w' (foot d bm S.fs) (foot d bm S.fs) := by
  have he := (find_some hf).1
  have hE := h.ents e he
  rcases hE.row1.2 with ⟨_, h0⟩ | ⟨g, cap, cur, hv, hb, hg, hcap, hm, hsz, ht⟩
  · omega
  have F : Hid (Calls Tryz.prog 54 #[.pointer (some ⟨d, 0, none⟩), .string s] w fun x w' => x = .returned (.tuple #[.pointer (some ⟨e.b, 0, none⟩), .int .i64 0]) ∧ w.grownBy w' none) := find_ok h s hs hc hf
  have FC : Hid (∀ w1, w.grownBy w1 none → w1.cell? ⟨e.b, 0, none⟩ = some (.slice (some ⟨g, 0, none⟩) e.bs.length cap) ∧ w1.cell? ⟨g, i, none⟩ = some (.int .u8 ((e.bs.getD i 0).toNat : Int)) ∧ w1.frozen? ⟨g, i, none⟩ = false) := by
    intro w1 hg1
    have hE1 : EntAt w1 e := hE.carry fun j hj => hg1.block j (hE.lt j hj) (by simp)
    have hc0 := hE1.c0
    rw [hv] at hc0
    have hcell := hE1.row1.cells (g := g) (by rw [hv]; rfl) i _ (B8_at e.bs i hi)
    rw [Addr.add_lit, Nat.zero_add] at hcell
    have hg' : w1.heap[g]? = some (.cells cur 5 (0, 0)) := (hg1.block g (Array.getElem?_eq_some_iff.1 hg).1 (by simp)).trans hg
    exact ⟨hc0, hcell, by simp [World.frozen?, hg']⟩
  have HE : Hid (∀ w1, w.grownBy w1 none → DiskAt (w1.setCell ⟨g, i, none⟩ (.int .u8 (bits BinOp.xor IntKind.u8 ((e.bs.getD i 0).toNat : Int) 64))).drew d bm { S with fs := swap S.fs e { e with bs := e.bs.set i (flipB (e.bs.getD i 0) 6) } } ∧ Moved w (w1.setCell ⟨g, i, none⟩ (.int .u8 (bits BinOp.xor IntKind.u8 ((e.bs.getD i 0).toNat : Int) 64))).drew (foot d bm S.fs) (foot d bm S.fs)) := by
    intro w1 hg1
    have hD1 : DiskAt w1 d bm S := h.carry fun j hj => hg1.block j (h.lt j hj) (by simp)
    have hy : ((flipB (e.bs.getD i 0) 6).toNat : Int) = bits BinOp.xor IntKind.u8 ((e.bs.getD i 0).toNat : Int) 64 := by
      rw [flip_text6 _ (e.bs.getD i 0).toNat_lt, UInt8.ofNat_toNat]
    have hfl := ent_flip (hD1.ents e he) hv i (flipB (e.bs.getD i 0) 6) _ hy
    have hT := hD1.turn he (e' := { e with bs := e.bs.set i (flipB (e.bs.getD i 0) 6) }) hfl.2 hfl.1 rfl rfl
    refine ⟨hT.1, (Moved.none_of hg1 _).trans (hfl.2.wider (fun j hj => .inl (by simp only [foot, List.mem_cons]; exact .inr (.inr (feet_mem.2 ⟨e, he, hj⟩)))) (fun j hj => .inl hj))⟩
  have hii : (i : Int) < (e.bs.length : Int) := by omega
  have hl0 : decide ((i : Int) < 0) = false := decide_eq_false (by omega)
  have hl1 : decide ((e.bs.length : Int) ≤ (i : Int)) = false := decide_eq_false (by omega)
  have hib : (e.bs.length : Int) ≤ 1099511627776 := by omega
  have hx := (e.bs.getD i 0).toNat_lt
  generalize (e.bs.getD i 0).toNat = bx at FC HE hx
  clear h hs hc hf he hE hb hg hcap hm hsz ht hv
  go_enter Tryz.func36, Tryz.ntmps36
  go_wp2_with (go_at_call 54; go_fit F.out; rintro x w1 ⟨rfl, hg1⟩; obtain ⟨q0, q1, q2⟩ := FC.out w1 hg1)
  go_region
  go_wp2
  go_ret
  exact ⟨rfl, HE.out w1 hg1⟩
set_option maxRecDepth 100000 in
theorem spoil7 {w : World} {d bm : Nat} {S : St} (h : DiskAt w d bm S) (s : ByteArray) (hs : s.size ≤ maxLen) (hc : refuse S.on [s] = 0) {e : Ent} (hf : find S.fs (nameOf s) = some e) (i : Nat) (hi : i < e.bs.length) (hlen : e.bs.length ≤ 1099511627776) :
    Calls Tryz.prog 36 #[.pointer (some ⟨d, 0, none⟩), .string s, .int .i64 (i : Int), .int .i64 7] w fun x w' => x = .returned (.int .i64 0) ∧ DiskAt w' d bm { S with fs := swap S.fs e { e with bs := e.bs.set i (flipB (e.bs.getD i 0) 7) } } ∧ Moved w w' (foot d bm S.fs) (foot d bm S.fs) := by
  have he := (find_some hf).1
  have hE := h.ents e he
  rcases hE.row1.2 with ⟨_, h0⟩ | ⟨g, cap, cur, hv, hb, hg, hcap, hm, hsz, ht⟩
  · omega
  have F : Hid (Calls Tryz.prog 54 #[.pointer (some ⟨d, 0, none⟩), .string s] w fun x w' => x = .returned (.tuple #[.pointer (some ⟨e.b, 0, none⟩), .int .i64 0]) ∧ w.grownBy w' none) := find_ok h s hs hc hf
  have FC : Hid (∀ w1, w.grownBy w1 none → w1.cell? ⟨e.b, 0, none⟩ = some (.slice (some ⟨g, 0, none⟩) e.bs.length cap) ∧ w1.cell? ⟨g, i, none⟩ = some (.int .u8 ((e.bs.getD i 0).toNat : Int)) ∧ w1.frozen? ⟨g, i, none⟩ = false) := by
    intro w1 hg1
    have hE1 : EntAt w1 e := hE.carry fun j hj => hg1.block j (hE.lt j hj) (by simp)
    have hc0 := hE1.c0
    rw [hv] at hc0
    have hcell := hE1.row1.cells (g := g) (by rw [hv]; rfl) i _ (B8_at e.bs i hi)
    rw [Addr.add_lit, Nat.zero_add] at hcell
    have hg' : w1.heap[g]? = some (.cells cur 5 (0, 0)) := (hg1.block g (Array.getElem?_eq_some_iff.1 hg).1 (by simp)).trans hg
    exact ⟨hc0, hcell, by simp [World.frozen?, hg']⟩
  have HE : Hid (∀ w1, w.grownBy w1 none → DiskAt (w1.setCell ⟨g, i, none⟩ (.int .u8 (bits BinOp.xor IntKind.u8 ((e.bs.getD i 0).toNat : Int) 128))).drew d bm { S with fs := swap S.fs e { e with bs := e.bs.set i (flipB (e.bs.getD i 0) 7) } } ∧ Moved w (w1.setCell ⟨g, i, none⟩ (.int .u8 (bits BinOp.xor IntKind.u8 ((e.bs.getD i 0).toNat : Int) 128))).drew (foot d bm S.fs) (foot d bm S.fs)) := by
    intro w1 hg1
    have hD1 : DiskAt w1 d bm S := h.carry fun j hj => hg1.block j (h.lt j hj) (by simp)
    have hy : ((flipB (e.bs.getD i 0) 7).toNat : Int) = bits BinOp.xor IntKind.u8 ((e.bs.getD i 0).toNat : Int) 128 := by
      rw [flip_text7 _ (e.bs.getD i 0).toNat_lt, UInt8.ofNat_toNat]
    have hfl := ent_flip (hD1.ents e he) hv i (flipB (e.bs.getD i 0) 7) _ hy
    have hT := hD1.turn he (e' := { e with bs := e.bs.set i (flipB (e.bs.getD i 0) 7) }) hfl.2 hfl.1 rfl rfl
    refine ⟨hT.1, (Moved.none_of hg1 _).trans (hfl.2.wider (fun j hj => .inl (by simp only [foot, List.mem_cons]; exact .inr (.inr (feet_mem.2 ⟨e, he, hj⟩)))) (fun j hj => .inl hj))⟩
  have hii : (i : Int) < (e.bs.length : Int) := by omega
  have hl0 : decide ((i : Int) < 0) = false := decide_eq_false (by omega)
  have hl1 : decide ((e.bs.length : Int) ≤ (i : Int)) = false := decide_eq_false (by omega)
  have hib : (e.bs.length : Int) ≤ 1099511627776 := by omega
  have hx := (e.bs.getD i 0).toNat_lt
  generalize (e.bs.getD i 0).toNat = bx at FC HE hx
  clear h hs hc hf he hE hb hg hcap hm hsz ht hv
  go_enter Tryz.func36, Tryz.ntmps36
  go_wp2_with (go_at_call 54; go_fit F.out; rintro x w1 ⟨rfl, hg1⟩; obtain ⟨q0, q1, q2⟩ := FC.out w1 hg1)
  go_region
  go_wp2
  go_ret
  exact ⟨rfl, HE.out w1 hg1⟩
end Go.Proofs.YtoeoioigelknnaaGreat
