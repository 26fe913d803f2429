/-
  CONTRACT: a key's text, by the program.
-/
import Derived.Test.YtcnceipkoapcpaaDoorKeyEnv
import Derived.Lib.ItoaLen
namespace Go.Proofs.YtcnceipkoapcpaaDoor
open Go.RowKit

/-- The texts that hang together. -/
def catP (a b c d : ByteArray) : ByteArray := a ++ ⟨#[47]⟩ ++ b ++ ⟨#[47]⟩ ++ c ++ ⟨#[47]⟩ ++ d
theorem nb_app (a b : ByteArray) : nb (a ++ b) = nb a ++ nb b := by
  show (a ++ b).data.toList = a.data.toList ++ b.data.toList
  rw [ByteArray.data_append, Array.toList_append]
theorem catP_eq (a b c d : List UInt8) : catP (strB a) (strB b) (strB c) (strB d) = strB (a ++ (47 :: (b ++ (47 :: (c ++ (47 :: d)))))) := by
  rw [← nb_inj]
  unfold catP
  simp only [nb_app, nb_strB]
  simp [nb]

theorem msk_size (s : ByteArray) (h : s.size ≤ 5000) : (strB (msk (nb s))).size ≤ 15000 := by
  have l1 : ∀ b, (m1 b).length ≤ 3 := fun b => by unfold m1; split; · decide
                                                  split; · decide
                                                  simp
  have l2 : ∀ l : List UInt8, (msk l).length ≤ 3 * l.length := by
    intro l
    induction l with
    | nil => simp [msk]
    | cons b l ih => rw [msk_cons, List.length_append, List.length_cons]; have := l1 b; omega
  rw [strB_size]; have := l2 (nb s); rw [nb_size] at this; omega

end Go.Proofs.YtcnceipkoapcpaaDoor
