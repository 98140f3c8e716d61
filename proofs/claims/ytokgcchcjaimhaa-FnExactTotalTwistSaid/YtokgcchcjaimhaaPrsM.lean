/- How many pairs there are, and how long they are. No condition. -/
import Derived.Test.YtokgcchcjaimhaaCrsM
import Derived.Test.YtokgcchcjaimhaaRowRT
namespace Go.Proofs.Ytokgcchcjaimhaa
set_option linter.unusedVariables false
set_option linter.unusedSimpArgs false
open Go.RowKit

theorem pairsOf_len (n : Int) (ls : List RCross) : (pairsOf n ls).length ≤ ls.length := by
  unfold pairsOf
  split
  · exact Nat.le_of_eq (pairsTo_len n ls _)
  · simp
theorem pairsOf_two (n : Int) (ls : List RCross) (k : Nat) (h : k < (pairsOf n ls).length) : (pairsOf n ls)[k].length = 2 := by
  have hm := List.getElem_mem h
  generalize (pairsOf n ls)[k] = z at hm
  unfold pairsOf at hm
  split at hm
  · unfold pairsTo at hm
    obtain ⟨i, _, rfl⟩ := List.mem_map.1 hm
    exact pairC_len _ _
  · simp at hm
theorem pairsOf_up (n : Int) (ls : List RCross) : upTo (pairsOf n ls) (pairsOf n ls).length ≤ 80 := by
  have h2 := pairsOf_two n ls
  have h3 : (pairsOf n ls).length ≤ 40 := by
    unfold pairsOf
    split
    · next h => rw [pairsTo_len]; exact (crossOk_has h).2.1
    · simp
  generalize pairsOf n ls = zss at h2 h3
  have : ∀ k, k ≤ zss.length → upTo zss k ≤ 2 * k := by
    intro k
    induction k with
    | zero => intro _; exact Nat.le_refl _
    | succ k ih =>
      intro hk
      rw [upTo_more (by omega), h2 k (by omega)]
      have := ih (by omega)
      omega
  have := this zss.length (Nat.le_refl _)
  omega
end Go.Proofs.Ytokgcchcjaimhaa
