/- A write into a set of blocks, what it leaves, and the cells of any struct's box. No condition. -/
import Derived.Test.YtanlfkkmnnjpeaaIntL
import Derived.Test.YtanlfkkmnnjpeaaRowB
namespace Go.Proofs.Ytanlfkkmnnjpeaa
set_option linter.unusedVariables false
open Go.RowKit

/-- What a call that writes into the blocks of P alone leaves. -/
structure GrownIn (w w' : World) (P : Nat → Prop) : Prop where
  os : w'.os = w.os
  tape : w'.tape = w.tape
  output : w'.output = w.output
  size : w.heap.size ≤ w'.heap.size
  block : ∀ k, k < w.heap.size → ¬ P k → w'.heap[k]? = w.heap[k]?
section
variable {w w' w0 : World} {P Q : Nat → Prop} {B : Nat}
theorem grownIn_of {row : Option Nat} (h : w.grownBy w' row) : GrownIn w w' (fun k => row = some k) := ⟨h.os, h.tape, h.output, h.size, fun k hk hn => h.block k hk (fun e => hn e.symm)⟩
theorem grownIn_below {b : Nat} (h : Below b w w') (hb : w.heap.size ≤ b) : GrownIn w w' P := ⟨h.os, h.tape, h.output, h.size, fun k hk _ => h.block k (Nat.lt_of_lt_of_le hk hb)⟩
theorem GrownIn.mono (h : GrownIn w w' P) (hp : ∀ k, P k → Q k) : GrownIn w w' Q := ⟨h.os, h.tape, h.output, h.size, fun k hk hn => h.block k hk (fun p => hn (hp k p))⟩
theorem GrownIn.trans {a b c : World} (h : GrownIn a b P) (k : GrownIn b c P) : GrownIn a c P :=
  ⟨k.os.trans h.os, k.tape.trans h.tape, k.output.trans h.output, Nat.le_trans h.size k.size, fun i hi hn => (k.block i (Nat.lt_of_lt_of_le hi h.size) hn).trans (h.block i hi hn)⟩
theorem GrownIn.below (h : GrownIn w w' P) (hb : Below B w0 w) (hB : B ≤ w.heap.size) (hp : ∀ k, P k → B ≤ k) : Below B w0 w' :=
  ⟨h.os.trans hb.os, h.tape.trans hb.tape, h.output.trans hb.output, Nat.le_trans hb.size h.size, fun k hk => (h.block k (Nat.lt_of_lt_of_le hk hB) (fun p => by have := hp k p; omega)).trans (hb.block k hk)⟩
theorem GrownIn.cell {p : Addr} {v : Value} (h : GrownIn w w' P) (hc : w.cell? p = some v) (hp : ¬ P p.block) : w'.cell? p = some v :=
  (World.cell?_of_block (h.block p.block (World.block_lt_of_cell? w p hc) hp)).trans hc
theorem ownsRow_in {base k n : Nat} {t : TypeId} {v : Value} {cs : List Value} (h : w.ownsRow base t k v n cs) (g : GrownIn w w' P) (hp : ∀ i, v.ownBlock = some i → ¬ P i) : w'.ownsRow base t k v n cs := by
  refine ⟨h.1, ?_⟩
  rcases h.2 with h0 | ⟨b, cap, cur, e, hb, hh, r⟩
  · exact .inl h0
  · exact .inr ⟨b, cap, cur, e, hb, (g.block b (Array.getElem?_eq_some_iff.1 hh).1 (hp b (by subst e; rfl))).trans hh, r⟩
theorem OwnI.in {base : Nat} {v : Value} {zs : List Int} (h : OwnI w base v zs) (g : GrownIn w w' P) (hp : ∀ i, v.ownBlock = some i → ¬ P i) : OwnI w' base v zs := ownsRow_in h g hp
/-- The block of one row. -/
def Blk1 (v : Value) (k : Nat) : Prop := v.ownBlock = some k
theorem OwnI.ltB {base : Nat} {v : Value} {zs : List Int} (h : OwnI w base v zs) : ∀ k, Blk1 v k → base ≤ k ∧ k < w.heap.size := h.lt

/-- The cells of a struct's box. -/
def BoxV (w : World) (b : Nat) (vs : List Value) : Prop := ∀ j v, vs[j]? = some v → w.cell? ⟨b, j, none⟩ = some v
theorem boxV_new (w : World) (vs : List Value) (t : TypeId) : BoxV (w.alloc (.cells vs.toArray t)) w.heap.size vs := by
  intro j v hv
  simp [go_sem, hv]
theorem BoxV.below {b : Nat} {vs : List Value} (h : BoxV w b vs) (hb : Below w.heap.size w w') : BoxV w' b vs := fun j v hv => cell_below (h j v hv) hb
theorem BoxV.alloc {b : Nat} {vs : List Value} (h : BoxV w b vs) (o : Obj) : BoxV (w.alloc o) b vs := h.below ((Below.refl _ _).alloc (Nat.le_refl _) _)
theorem BoxV.in {b : Nat} {vs : List Value} (h : BoxV w b vs) (g : GrownIn w w' P) (hp : ¬ P b) : BoxV w' b vs := fun j v hv => g.cell (h j v hv) hp
end
theorem BoxV.three {w : World} {b : Nat} {x y z : Value} (h : BoxV w b [x, y, z]) : w.cell? ⟨b, 0, none⟩ = some x ∧ w.cell? ⟨b, 1, none⟩ = some y ∧ w.cell? ⟨b, 2, none⟩ = some z := ⟨h 0 _ rfl, h 1 _ rfl, h 2 _ rfl⟩
/-- A row that was made and grown by append leaves all that is elder. -/
theorem made_below {W w2 : World} {o : Obj} {g n c : Nat} (h : (W.alloc o).drew.grownBy w2 (Value.slice (some ⟨g, 0, none⟩) n c).ownBlock) (hg : g = W.heap.size) : Below W.heap.size W w2 := by
  refine undrew (((Below.refl W.heap.size W).alloc (Nat.le_refl _) o).drew.grown h (by simp) (fun k hk => ?_) |> fun h => ⟨h.os, h.tape, h.output, h.size, fun i hi => h.block i hi⟩)
  have : g = k := by simpa [Value.ownBlock] using hk
  omega
theorem made_below' {W w2 : World} {o : Obj} {g n c : Nat} (h : (W.alloc o).grownBy w2 (Value.slice (some ⟨g, 0, none⟩) n c).ownBlock) (hg : g = W.heap.size) : Below W.heap.size W w2 :=
  made_below ⟨h.os, h.tape, h.output, h.size, h.block⟩ hg
theorem own_at {v v' : Value} {g s k : Nat} (h : v'.ownBlock = v.ownBlock ∨ v'.ownBlock = some s) (hv : v.ownBlock = some g) (hk : v'.ownBlock = some k) : k = g ∨ k = s := by
  rcases h with h | h
  · rw [h, hv] at hk
    exact .inl (Option.some.inj hk).symm
  · rw [h] at hk
    exact .inr (Option.some.inj hk).symm
theorem BoxV.setCell {w : World} {b : Nat} {vs : List Value} (h : BoxV w b vs) (a : Addr) (u : Value) (hne : a.block ≠ b) : BoxV (w.setCell a u) b vs := fun j v hv => (World.cell?_setCell_other _ _ _ _ (fun e => hne (congrArg Addr.block e))).trans (h j v hv)
/-- The result's own box of three cells, behind calls that left it alone. -/
theorem newBox3 {w w2 : World} {o : Obj} {t : TypeId} {x y z : Value} (hb : Below ((w.alloc o).alloc (.cells #[x, y, z] t)).heap.size ((w.alloc o).alloc (.cells #[x, y, z] t)) w2) :
    w2.cell? ⟨w.heap.size + 1, 0, none⟩ = some x ∧ w2.cell? ⟨w.heap.size + 1, 1, none⟩ = some y ∧ w2.cell? ⟨w.heap.size + 1, 2, none⟩ = some z ∧
      w2.frozen? ⟨w.heap.size + 1, 0, none⟩ = false ∧ w2.frozen? ⟨w.heap.size + 1, 1, none⟩ = false ∧ w2.frozen? ⟨w.heap.size + 1, 2, none⟩ = false := by
  refine ⟨?_, ?_, ?_, ?_, ?_, ?_⟩
  · rw [hb.cell (by simp)]; simp [go_sem]
  · rw [hb.cell (by simp)]; simp [go_sem]
  · rw [hb.cell (by simp)]; simp [go_sem]
  · rw [hb.frozen (by simp)]; simp [go_sem]
  · rw [hb.frozen (by simp)]; simp [go_sem]
  · rw [hb.frozen (by simp)]; simp [go_sem]
/-- The three cells of a struct behind their stores, one after the other. -/
theorem cells_set3 {w : World} {g : Nat} {u v x y0 y1 y2 : Value} (h0 : w.cell? ⟨g, 0, none⟩ = some y0) (h1 : w.cell? ⟨g, 1, none⟩ = some y1) (h2 : w.cell? ⟨g, 2, none⟩ = some y2) :
    (w.setCell ⟨g, 0, none⟩ u).cell? ⟨g, 0, none⟩ = some u ∧ ((w.setCell ⟨g, 0, none⟩ u).setCell ⟨g, 1, none⟩ v).cell? ⟨g, 1, none⟩ = some v ∧ (((w.setCell ⟨g, 0, none⟩ u).setCell ⟨g, 1, none⟩ v).setCell ⟨g, 2, none⟩ x).cell? ⟨g, 2, none⟩ = some x := by
  refine ⟨World.cell?_setCell_same _ _ _ h0, World.cell?_setCell_same (u := y1) _ _ _ ?_, World.cell?_setCell_same (u := y2) _ _ _ ?_⟩
  · rw [World.cell?_setCell_other _ _ _ _ (by simp), h1]
  · rw [World.cell?_setCell_other _ _ _ _ (by simp), World.cell?_setCell_other _ _ _ _ (by simp), h2]
theorem grownIn_cell (w : World) (a : Addr) (u : Value) : GrownIn w (w.setCell a u) (fun k => a.block = k) := ⟨rfl, rfl, rfl, by simp [World.setCell], fun k _ hk => Below.heap_setCell _ _ _ _ (by rintro rfl; exact hk rfl)⟩
theorem markIntS_in (v : Value) (zs : List Int) (base : Nat) (w : World) (hown : OwnI w base v zs) (hl : zs.length ≤ 2000000) (u : Nat) (k : Int) (hk : k = (u : Int)) (h1 : u ≤ 10000000) :
    Calls Try.prog 32 #[v, .int .i64 k] w fun e w' => e = .returned (.int .i64 ((u + zs.length : Nat) : Int)) ∧ OwnI w' base v (marksI u zs.length) ∧ GrownIn w w' (Blk1 v) := by
  subst hk
  exact (markIntS_any v zs base w hown hl u h1).mono fun e w' ⟨he, o, g⟩ => ⟨he, o, grownIn_of g⟩
end Go.Proofs.Ytanlfkkmnnjpeaa
