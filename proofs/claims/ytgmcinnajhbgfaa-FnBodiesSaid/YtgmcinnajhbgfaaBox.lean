/- Boxes of bodies, elder cells, and rows that lie apart. No condition. -/
import Derived.Test.YtgmcinnajhbgfaaInts
namespace Go.Proofs.Ytgmcinnajhbgfaa
open Go.RowKit

theorem apart_of {v1 v2 : Value} {b : Nat} (h1 : ∀ k, v1.ownBlock = some k → k < b) (h2 : ∀ k, v2.ownBlock = some k → b ≤ k) : v1.ownBlock = none ∨ v1.ownBlock ≠ v2.ownBlock := by
  cases h : v1.ownBlock with
  | none => exact .inl rfl
  | some k =>
    refine .inr fun e => ?_
    have a := h1 k h
    have b := h2 k e.symm
    omega
/-- The two cells of a body's box. -/
def BoxAt (w : World) (b : Nat) (J : Int) (v : Value) : Prop := w.cell? ⟨b, 0, none⟩ = some (.int .i64 J) ∧ w.cell? ⟨b, 1, none⟩ = some v
theorem boxAt_new (w : World) (J : Int) (v : Value) : BoxAt (w.alloc (.cells #[.int .i64 J, v] 26)) w.heap.size J v := by
  unfold BoxAt
  simp [go_sem]
theorem BoxAt.below {w w' : World} {b : Nat} {J : Int} {v : Value} (h : BoxAt w b J v) (hb : Below w.heap.size w w') : BoxAt w' b J v := ⟨cell_below h.1 hb, cell_below h.2 hb⟩
theorem BoxAt.alloc {w : World} {b : Nat} {J : Int} {v : Value} (h : BoxAt w b J v) (o : Obj) : BoxAt (w.alloc o) b J v := h.below ((Below.refl _ _).alloc (Nat.le_refl _) _)
theorem BoxAt.grown {w w' : World} {row : Option Nat} {b : Nat} {J : Int} {v : Value} (h : BoxAt w b J v) (hg : w.grownBy w' row) (hne : some b ≠ row) : BoxAt w' b J v := ⟨hg.cell h.1 hne, hg.cell h.2 hne⟩
theorem BoxAt.lt {w : World} {b : Nat} {J : Int} {v : Value} (h : BoxAt w b J v) : b < w.heap.size := World.block_lt_of_cell? w _ h.1
/-- A cell of an elder block, behind one, two and three blocks more. -/
theorem elder {w : World} {p : Addr} {v : Value} (h : w.cell? p = some v) :
    (∀ o, (w.alloc o).cell? p = some v) ∧ (∀ o o', ((w.alloc o).alloc o').cell? p = some v) ∧ (∀ o o' o'', (((w.alloc o).alloc o').alloc o'').cell? p = some v) := by
  have h0 := World.block_lt_of_cell? w p h
  refine ⟨fun o => ?_, fun o o' => ?_, fun o o' o'' => ?_⟩
  · rw [World.cell?_alloc_lt _ _ _ h0, h]
  · rw [World.cell?_alloc_lt _ _ _ (by simp; omega), World.cell?_alloc_lt _ _ _ h0, h]
  · rw [World.cell?_alloc_lt _ _ _ (by simp; omega), World.cell?_alloc_lt _ _ _ (by simp; omega), World.cell?_alloc_lt _ _ _ h0, h]
end Go.Proofs.Ytgmcinnajhbgfaa
