/- Boxes of bodies, elder cells, and rows that lie apart. No condition. -/
import Derived.Test.YtblbmppbbhibeaaInts
import Derived.Test.YtblbmppbbhibeaaRowB
namespace Go.Proofs.Ytblbmppbbhibeaa
set_option linter.unusedVariables false
set_option linter.unusedSimpArgs false
open Go.RowKit

/-- The two cells of a body's box. -/
def BoxAt (w : World) (b : Nat) (J : Int) (v : Value) : Prop := w.cell? ⟨b, 0, none⟩ = some (.int .i64 J) ∧ w.cell? ⟨b, 1, none⟩ = some v
theorem boxAt_new (w : World) (J : Int) (v : Value) : BoxAt (w.alloc (.cells #[.int .i64 J, v] 26)) w.heap.size J v := by
  unfold BoxAt
  simp [go_sem]
theorem BoxAt.below {w w' : World} {b : Nat} {J : Int} {v : Value} (h : BoxAt w b J v) (hb : Below w.heap.size w w') : BoxAt w' b J v := ⟨cell_below h.1 hb, cell_below h.2 hb⟩
theorem BoxAt.alloc {w : World} {b : Nat} {J : Int} {v : Value} (h : BoxAt w b J v) (o : Obj) : BoxAt (w.alloc o) b J v := h.below ((Below.refl _ _).alloc (Nat.le_refl _) _)
theorem BoxAt.grown {w w' : World} {row : Option Nat} {b : Nat} {J : Int} {v : Value} (h : BoxAt w b J v) (hg : w.grownBy w' row) (hne : some b ≠ row) : BoxAt w' b J v := ⟨hg.cell h.1 hne, hg.cell h.2 hne⟩
theorem BoxAt.lt {w : World} {b : Nat} {J : Int} {v : Value} (h : BoxAt w b J v) : b < w.heap.size := World.block_lt_of_cell? w _ h.1
theorem specAt_world {w w1 : World} {J : Int} {A : Option Addr} {n c : Nat} {cs : Array Value} {t : TypeId}
    (b1 : Below ((w.alloc (.cells #[.int .i64 J, .slice A n c] 26)).alloc (.cells cs t)).heap.size ((w.alloc (.cells #[.int .i64 J, .slice A n c] 26)).alloc (.cells cs t)) w1) :
    Below (w.heap.size + 1) (w.alloc (.cells #[.int .i64 J, .slice A n c] 26)) w1 := by
  refine Below.trans ((Below.refl _ _).alloc (by simp) _) (b1.mono (by simp <;> omega))
end Go.Proofs.Ytblbmppbbhibeaa
