/- How many numbers the first rows hold; how an own row of rows is kept where one row or another block is written. Condition: the rows are the call's own. -/
import Derived.Test.YthijfipjfdmoeaaRowR
namespace Go.Proofs.Ythijfipjfdmoeaa
set_option linter.unusedVariables false
set_option linter.unusedSimpArgs false
open Go.RowKit

/-- How many numbers the first k rows hold. -/
def upTo (zss : List (List Int)) : Nat → Nat
  | 0 => 0
  | k + 1 => upTo zss k + (zss.getD k []).length
theorem upTo_more {zss : List (List Int)} {k : Nat} (h : k < zss.length) : upTo zss (k + 1) = upTo zss k + zss[k].length := by
  rw [upTo, List.getD_eq_getElem?_getD, List.getElem?_eq_getElem h]
  rfl
theorem upTo_mono (zss : List (List Int)) {j k : Nat} (h : j ≤ k) : upTo zss j ≤ upTo zss k := by
  induction k with
  | zero => rw [Nat.le_zero.1 h]; exact Nat.le_refl _
  | succ k ih =>
    rcases Nat.lt_or_ge j (k + 1) with c | c
    · have := ih (by omega)
      rw [upTo]
      omega
    · rw [show j = k + 1 by omega]; exact Nat.le_refl _
section
variable {w w' : World} {base : Nat} {v : Value} {vs : List Value} {zss : List (List Int)}
theorem sep_none {a r : Option Nat} (h : r = none ∨ r ≠ a) : a = none ∨ a ≠ r := by
  rcases h with rfl | h
  · cases a <;> simp
  · exact .inr (Ne.symm h)
/-- The numbers of one row change. -/
theorem OwnRR.turn {k : Nat} {zs : List Int} (h : OwnRR w base v vs zss) (hk : k < vs.length) (hu : OwnI w' base vs[k] zs) (hg : w.grownBy w' vs[k].ownBlock) : OwnRR w' base v vs (zss.set k zs) := by
  refine ⟨?_, by rw [List.length_set]; exact h.len, fun i hi hi' => ?_, h.off, h.apart⟩
  · rw [List.length_set]
    exact World.ownsRow.kept h.row hg (sep_none (h.off k hk))
  · rw [List.length_set] at hi'
    by_cases e : k = i
    · subst e
      rw [List.getElem_set_self]
      exact hu
    · rw [List.getElem_set_ne e]
      exact (h.each i hi hi').kept hg (h.apart i k hi hk (Ne.symm e))
/-- A write into a block that is older than all of them. -/
theorem OwnR.older {row : Option Nat} (h : OwnR w base v zss) (hg : w.grownBy w' row) (hr : ∀ k, row = some k → k < base) : OwnR w' base v zss := by
  obtain ⟨vs, h⟩ := h
  refine ⟨vs, World.ownsRow.kept h.row hg (sep_of fun b e1 e2 => by have := (h.lt b e1).1; have := hr b e2; omega), h.len, fun i hi hi' => ?_, h.off, h.apart⟩
  exact (h.each i hi hi').kept hg (sep_of fun b e1 e2 => by have := ((h.each i hi hi').lt b e1).1; have := hr b e2; omega)
/-- A write into a block that is newer than all of them. -/
theorem OwnR.newer {row : Option Nat} {top : Nat} {w0 : World} (h0 : OwnR w0 base v zss) (hb : Below w0.heap.size w0 w) (hg : Below top w w') (ht : w0.heap.size ≤ top) : OwnR w' base v zss := h0.below (hb.trans (hg.mono ht))
end
theorem up_le {zss : List (List Int)} {m : Nat} (h : ∀ k (hk : k < zss.length), zss[k].length ≤ m) : upTo zss zss.length ≤ zss.length * m := by
  have : ∀ k, k ≤ zss.length → upTo zss k ≤ k * m := by
    intro k
    induction k with
    | zero => intro _; exact Nat.zero_le _
    | succ k ih =>
      intro hk
      have h1 := ih (by omega)
      have h2 := h k (by omega)
      rw [upTo_more (by omega), Nat.succ_mul]
      omega
  exact this _ (Nat.le_refl _)
end Go.Proofs.Ythijfipjfdmoeaa
