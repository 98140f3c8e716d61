/- What the cursor keeps while other blocks are written. No condition. -/
import Derived.Test.YtanlfkkmnnjpeaaNewA
namespace Go.Proofs.Ytanlfkkmnnjpeaa
set_option linter.unusedVariables false
open Go.RowKit

section
variable {w0 w W : World} {a : Option Addr} {n cap b g : Nat} {u u' : Value}
theorem St.below' (h : St w0 a n cap w b) (hb : Below w.heap.size w W) : St w0 a n cap W b := by
  obtain ⟨i, x, h0, h1, hc⟩ := h.cur
  exact ⟨h.below.trans (hb.mono h.below.size), h.own, i, x, h0, h1, (hb.block b h.cur.lt).trans hc⟩
theorem St.set (h : St w0 a n cap w b) (hg : w0.heap.size ≤ g) (hne : b ≠ g) (o : Nat) : St w0 a n cap (w.setCell ⟨g, o, none⟩ u) b := by
  obtain ⟨i, x, h0, h1, hc⟩ := h.cur
  exact ⟨h.below.setCell hg _, h.own, i, x, h0, h1, (Below.heap_setCell _ _ _ _ hne).trans hc⟩
theorem isRow_alloc {k : IntKind} {z : List Int} (h : IsRow k w a n cap z) (o : Obj) : IsRow k (w.alloc o) a n cap z := by
  rcases h with h | ⟨x, e, h1, h2, h3, h4, h5⟩
  · exact .inl h
  · exact .inr ⟨x, e, h1, h2, h3, fun i hi => by rw [World.cell?_alloc_lt _ _ _ (World.block_lt_of_cell? w _ (h4 i hi))]; exact h4 i hi, h5⟩
theorem grown_late {row : Option Nat} (h : w.grownBy W row) (hg : w.heap.size ≤ g) (o : Nat) : w.grownBy (W.setCell ⟨g, o, none⟩ u) row :=
  ⟨h.os, h.tape, h.output, by simpa [World.setCell] using h.size, fun k hk hne => (Below.heap_setCell _ _ _ _ (by show k ≠ g; omega)).trans (h.block k hk hne)⟩
end

theorem undrewG {W W' : World} {row : Option Nat} (h : W.drew.grownBy W' row) : W.grownBy W' row := ⟨h.os, h.tape, h.output, h.size, h.block⟩
theorem St.grownR {w0 w w' : World} {a : Option Addr} {n cap b : Nat} {row : Option Nat} (h : St w0 a n cap w b) (hg : w.grownBy w' row) (hne : row ≠ some b) (hr : ∀ k, row = some k → w0.heap.size ≤ k) : St w0 a n cap w' b := by
  obtain ⟨i, x, h0, h1, hc⟩ := h.cur
  exact ⟨h.below.grown hg h.below.size hr, h.own, i, x, h0, h1, (hg.block b h.cur.lt (Ne.symm hne)).trans hc⟩
end Go.Proofs.Ytanlfkkmnnjpeaa
