/- A row of numbers made by make is a row of zeros of the call's own. No condition. -/
import Derived.Test.YtjpalndcfaeihaaRowB
namespace Go.Proofs.Ytjpalndcfaeihaa
set_option linter.unusedVariables false
set_option linter.unusedSimpArgs false
open Go.RowKit

theorem madeZero {w : World} {base g n : Nat} (h : w.ownsRow base 3 1 (.slice (some ⟨g, 0, none⟩) n n) n (madeCells (Value.int .i64 0).cells (n * 1)).toList) : OwnI w base (.slice (some ⟨g, 0, none⟩) n n) (List.replicate n 0) := by
  have e : (madeCells (Value.int .i64 0).cells (n * 1)).toList = (List.replicate n (0 : Int)).map intV := by
    refine List.ext_getElem (by simp [size_madeCells]) fun i h1 h2 => ?_
    simp only [madeCells, Array.getElem_toList, Array.getElem_map, Array.getElem_range, List.getElem_map, List.getElem_replicate]
    rw [show i % (Value.int .i64 0).cells.size = 0 from Nat.mod_one i]
    rfl
  unfold OwnI
  rw [List.length_replicate, ← e]
  exact h
end Go.Proofs.Ytjpalndcfaeihaa
