/- Elder cells, rows of numbers that grow by append, and rows that lie apart. No condition. -/
import Derived.Test.YtanlfkkmnnjpeaaIntR
namespace Go.Proofs.Ytanlfkkmnnjpeaa
set_option linter.unusedVariables false
open Go.RowKit

theorem apart_of {v1 v2 : Value} {b : Nat} (h1 : ∀ k, v1.ownBlock = some k → k < b) (h2 : ∀ k, v2.ownBlock = some k → b ≤ k) : v1.ownBlock = none ∨ v1.ownBlock ≠ v2.ownBlock := by
  cases h : v1.ownBlock with
  | none => exact .inl rfl
  | some k =>
    refine .inr fun e => ?_
    have a := h1 k h
    have b := h2 k e.symm
    omega
/-- A cell of an elder block, behind one, two and three blocks more. -/
theorem elder {w : World} {p : Addr} {v : Value} (h : w.cell? p = some v) :
    (∀ o, (w.alloc o).cell? p = some v) ∧ (∀ o o', ((w.alloc o).alloc o').cell? p = some v) ∧ (∀ o o' o'', (((w.alloc o).alloc o').alloc o'').cell? p = some v) := by
  have h0 := World.block_lt_of_cell? w p h
  refine ⟨fun o => ?_, fun o o' => ?_, fun o o' o'' => ?_⟩
  · rw [World.cell?_alloc_lt _ _ _ h0, h]
  · rw [World.cell?_alloc_lt _ _ _ (by simp; omega), World.cell?_alloc_lt _ _ _ h0, h]
  · rw [World.cell?_alloc_lt _ _ _ (by simp; omega), World.cell?_alloc_lt _ _ _ (by simp; omega), World.cell?_alloc_lt _ _ _ h0, h]
theorem grown_cell (w : World) (a : Addr) (u : Value) : w.grownBy (w.setCell a u) (some a.block) :=
  ⟨rfl, rfl, rfl, by simp [World.setCell], fun k _ hk => Below.heap_setCell _ _ _ _ (by rintro rfl; exact hk rfl)⟩
def IntsPost (w : World) (zs : List Int) (e : Ending) (w' : World) : Prop := ∃ v, e = .returned v ∧ OwnI w' w.heap.size v zs ∧ Below w.heap.size w w'
theorem undrew {B : Nat} {W w2 : World} (h : Below B W.drew w2) : Below B W w2 := ⟨h.os, h.tape, h.output, h.size, h.block⟩
theorem ownI_empty (w : World) (base g : Nat) (cs : Array Value) (hg : g = w.heap.size) (hb : base ≤ g) (hs : cs.size = 0) : OwnI (w.alloc (.cells cs 3)) base (.slice (some ⟨g, 0, none⟩) 0 0) [] := by
  subst hg
  exact ⟨rfl, .inr ⟨w.heap.size, 0, cs, rfl, hb, heap_alloc_new w _, Nat.le_refl _, Nat.zero_le _, by omega, by simp⟩⟩

theorem OwnI.moved {w w' : World} {base : Nat} {v : Value} {zs : List Int} (h : OwnI w base v zs) (hb : Below w.heap.size w w') : OwnI w' base v zs := h.below hb
theorem ints_snoc_below {w0 wr w1 : World} {B : Nat} {o : Obj} {v : Value} {zs : List Int} (hb : Below B w0 wr) (hB : B ≤ wr.heap.size) (hown : OwnI wr B v zs) (hg : (wr.alloc o).grownBy w1 v.ownBlock) : Below B w0 w1 :=
  (hb.alloc hB o).grown hg (by simp; omega) (fun k hk => (hown.lt k hk).1)
theorem ownI_snoc {w : World} {base : Nat} {v : Value} {zs : List Int} {x : Int} (h : w.ownsRow base 3 1 v (zs.length + 1) (zs.map intV ++ [.int .i64 x])) : OwnI w base v (zs ++ [x]) := by
  unfold OwnI
  rw [List.length_append, List.map_append]
  exact h
theorem sep_of {a b : Option Nat} (h : ∀ k, a = some k → b ≠ some k) : a = none ∨ a ≠ b := by
  cases a with
  | none => exact .inl rfl
  | some k => exact .inr fun e => h k rfl e.symm
end Go.Proofs.Ytanlfkkmnnjpeaa
