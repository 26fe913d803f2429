/-
  CONTRACTS: murmur's Token and the document's, for every text.
-/
import Derived.Test.YtcnceipkoapcpaaDoorMurLaws
import Derived.Laws.IdiomStrings
namespace Go.Proofs.YtcnceipkoapcpaaDoor
open Go.RowKit

/-- A text as bytes, in a row of its own. -/
theorem conv_text (s : ByteArray) (w : World) : ∃ (cap : Nat) (w1 : World), (convert 9 64 (.string s)).run Tryd.prog w = .ok (.slice (some ⟨w.heap.size, 0, none⟩) s.data.toList.length cap) w1 ∧
    Sees w1 (some ⟨w.heap.size, 0, none⟩) s.data.toList ∧ Below w.heap.size w w1 ∧ s.data.toList.length ≤ cap := by
  have hlen : s.data.toList.length = s.size := by simp
  refine ⟨_, _, by rw [hlen]; exact run_bytes_of_string w 9 64 5 s Tryd.underlying9 Tryd.underlying64 Tryd.underlying5, ?_, ?_, ?_⟩
  · intro i hi
    refine ⟨_, rfl, ?_⟩
    rw [Addr.add_lit, Nat.zero_add]
    have hb := heap_alloc_new w.drew (.cells (bytesRow s (grownCap w s.size 0 5)) 5 ((bytesRow s (grownCap w s.size 0 5)).size, (bytesRow s (grownCap w s.size 0 5)).size + 1))
    have hb' : (w.drew.alloc (.cells (bytesRow s (grownCap w s.size 0 5)) 5 ((bytesRow s (grownCap w s.size 0 5)).size, (bytesRow s (grownCap w s.size 0 5)).size + 1))).heap[w.heap.size]? = _ := hb
    simp only [World.cell?, hb']
    have hi' : i < s.data.size := by simpa using hi
    simp only [bytesRow, Array.getElem?_append, Array.size_map, if_pos hi', Array.getElem?_map, List.getD, Array.getElem?_toList]
    rw [Array.getElem?_eq_getElem hi']
    rfl
  · exact (Below.refl _ w).drew.alloc (Nat.le_refl _) _
  · rw [hlen]; exact grownCap_ge _ _ _ _

/-- What Token tells of a word. -/
def tokenB (s : ByteArray) : Int := wrap64 ((sumB s.data.toList 0#64).1.toNat : Int)

theorem token_any (s : ByteArray) (w : World) (hs : s.size ≤ 140737488354000) :
    Calls Tryd.prog 24 #[.string s] w fun e w' => e = .returned (.int .i64 (tokenB s)) ∧ Below w.heap.size w w' := by
  obtain ⟨cap, w1, hcv, hsee, hB1, hcap⟩ := conv_text s w
  have hlen : s.data.toList.length ≤ 140737488354000 := by simpa using hs
  have S := murSum_any _ s.data.toList cap 0#64 w1 hlen hcap hsee
  have ht : tokenB s = wrap64 ((sumB s.data.toList 0#64).1.toNat : Int) := rfl
  obtain ⟨h, g, hF⟩ : ∃ h g, sumB s.data.toList 0#64 = (h, g) := ⟨_, _, rfl⟩
  rw [hF] at S ht
  have HS : Hid (Calls Tryd.prog 35 #[.slice (some ⟨w.heap.size, 0, none⟩) s.data.toList.length cap, .int .u64 0] w1 fun e w' => e = .returned (.tuple #[.int .u64 (h.toNat : Int), .int .u64 (g.toNat : Int)]) ∧ Below w1.heap.size w1 w') := S
  have Ht : Hid (tokenB s = wrap64 (h.toNat : Int)) := ht
  generalize s.data.toList.length = n at *
  clear S ht hF hsee
  go_enter Tryd.func24, Tryd.ntmps24
  go_wp2_with fail
  refine HS.out.mono ?_
  rintro e w2 ⟨rfl, hB2⟩
  go_wp2_with fail
  go_ret
  exact ⟨ret_int Ht.out.symm, hB1.trans (hB2.mono hB1.size)⟩

theorem refToken_any (s : ByteArray) (w : World) (hs : s.size ≤ 140737488354000) :
    Calls Tryd.prog 27 #[.string s] w fun e w' => e = .returned (.int .i64 (tokenB s)) ∧ Below w.heap.size w w' := by
  obtain ⟨cap, w1, hcv, hsee, hB1, hcap⟩ := conv_text s w
  have hlen : s.data.toList.length ≤ 140737488354000 := by simpa using hs
  have S := refSum_anyM _ s.data.toList cap 0#64 w1 hlen hsee
  have ht : tokenB s = wrap64 ((sumB s.data.toList 0#64).1.toNat : Int) := rfl
  obtain ⟨h, g, hF⟩ : ∃ h g, sumB s.data.toList 0#64 = (h, g) := ⟨_, _, rfl⟩
  rw [hF] at S ht
  have HS : Hid (Calls Tryd.prog 41 #[.slice (some ⟨w.heap.size, 0, none⟩) s.data.toList.length cap, .int .u64 0] w1 fun e w' => e = .returned (.tuple #[.int .u64 (h.toNat : Int), .int .u64 (g.toNat : Int)]) ∧ w' = w1) := S
  have Ht : Hid (tokenB s = wrap64 (h.toNat : Int)) := ht
  generalize s.data.toList.length = n at *
  clear S ht hF hsee
  go_enter Tryd.func27, Tryd.ntmps27
  go_wp2_with fail
  refine HS.out.mono ?_
  rintro e w2 ⟨rfl, rfl⟩
  go_wp2_with fail
  go_ret
  exact ⟨ret_int Ht.out.symm, hB1⟩
end Go.Proofs.YtcnceipkoapcpaaDoor
