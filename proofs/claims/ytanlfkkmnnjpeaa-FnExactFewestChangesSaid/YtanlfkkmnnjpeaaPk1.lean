/- Texts of this seat laid together, each with its own first sentence below: Base Three IntR RowB Slot Frame ArgI PlayerM. -/
import Derived.Test.YtanlfkkmnnjpeaaRows
import Derived.WalkKit
import Derived.WalkLawsBesides
import Derived.WalkSpells
import Derived.Below
import Derived.OwnWalk
import Derived.IntWalk
import Derived.Lib.Hide
import Derived.Handy
import Derived.Deep.MidRow
import Derived.Deep.OwnRows
import Derived.DataElems
import Derived.BigQuiet
import Derived.Deep.QuietTactic
import Derived.Deep.RegionHeld3
import Derived.ProofKit
import Derived.OpenShut
import Derived.ShutString
import Derived.ChangeOld
import Derived.Deep.Slices
import Derived.Lib.SmallJoins
import Derived.ChangeSame
/- Small lemmas that the walks share. No condition. -/
namespace Go.Proofs.Ytanlfkkmnnjpeaa
set_option linter.unusedVariables false
open Go.RowKit

theorem ret_int {k : IntKind} {a b : Int} (h : a = b) : Ending.returned (.int k a) = .returned (.int k b) := by rw [h]
end Go.Proofs.Ytanlfkkmnnjpeaa

/- Rows of structs of three numbers (limbs, cords): their cells, an argument of them, marks; and small facts on worlds. No condition. -/
namespace Go.Proofs.Ytanlfkkmnnjpeaa
set_option linter.unusedVariables false
open Go.RowKit

/-- A limb: its two ends and its length. -/
structure Lb where
  a : Int
  b : Int
  n : Int
def Lb.val (l : Lb) : Value := .agg #[.int .i64 l.a, .int .i64 l.b, .int .i64 l.n]
def Lb.cells (l : Lb) : List Value := [.int .i64 l.a, .int .i64 l.b, .int .i64 l.n]
def Lb.zero : Lb := ⟨0, 0, 0⟩ 
theorem Lb.val_cells (l : Lb) : l.val = .agg l.cells.toArray := rfl
def flatL (ls : List Lb) : List Value := ls.flatMap Lb.cells
theorem flatL_cons (l : Lb) (ls : List Lb) : flatL (l :: ls) = .int .i64 l.a :: .int .i64 l.b :: .int .i64 l.n :: flatL ls := rfl
theorem flatL_append (xs ys : List Lb) : flatL (xs ++ ys) = flatL xs ++ flatL ys := List.flatMap_append
theorem flatL_len (ls : List Lb) : (flatL ls).length = ls.length * 3 := by
  induction ls with
  | nil => rfl
  | cons l ls ih => rw [flatL_cons, List.length_cons, List.length_cons, List.length_cons, ih, List.length_cons]; omega
theorem flatL_at (ls : List Lb) (k j : Nat) (hj : j < 3) (hk : k < ls.length) : (flatL ls)[k * 3 + j]? = ls[k].cells[j]? := by
  induction ls generalizing k with
  | nil => simp at hk
  | cons l ls ih =>
    rw [flatL_cons]
    cases k with
    | zero =>
      rcases (by omega : j = 0 ∨ j = 1 ∨ j = 2) with rfl | rfl | rfl <;> rfl
    | succ k =>
      rw [show (k + 1) * 3 + j = (k * 3 + j) + 1 + 1 + 1 by omega]
      simpa using ih k (by simpa using hk)
theorem flatL_set (ls : List Lb) (k : Nat) (l : Lb) : flatL (ls.set k l) = (((flatL ls).set (k * 3) (.int .i64 l.a)).set (k * 3 + 1) (.int .i64 l.b)).set (k * 3 + 2) (.int .i64 l.n) := by
  induction ls generalizing k with
  | nil => rfl
  | cons x ls ih =>
    cases k with
    | zero => rfl
    | succ k =>
      rw [List.set_cons_succ, flatL_cons, flatL_cons, ih k]
      rw [show (k + 1) * 3 = k * 3 + 1 + 1 + 1 by omega]
      rw [show k * 3 + 1 + 1 + 1 + 1 = (k * 3 + 1) + 1 + 1 + 1 by omega]
      rw [show k * 3 + 1 + 1 + 1 + 2 = (k * 3 + 2) + 1 + 1 + 1 by omega]
      simp only [List.set_cons_succ]

theorem _root_.Go.World.there.three {w : World} {g o : Nat} (h : w.there g o 3) : (∃ v, w.cell? ⟨g, o, none⟩ = some v) ∧ (∃ v, w.cell? ⟨g, o + 1, none⟩ = some v) ∧ (∃ v, w.cell? ⟨g, o + 2, none⟩ = some v) ∧
    w.frozen? ⟨g, o, none⟩ = false ∧ w.frozen? ⟨g, o + 1, none⟩ = false ∧ w.frozen? ⟨g, o + 2, none⟩ = false :=
  ⟨Option.isSome_iff_exists.1 (h 0 (by omega)).1, Option.isSome_iff_exists.1 (h 1 (by omega)).1, Option.isSome_iff_exists.1 (h 2 (by omega)).1, (h 0 (by omega)).2, (h 1 (by omega)).2, (h 2 (by omega)).2⟩
/-- The limbs of an argument: nil, or they lie one behind the other. -/
def ArgL (w : World) (a : Option Addr) (ls : List Lb) : Prop :=
  (a = none ∧ ls = []) ∨ ∃ x, a = some x ∧ ∀ k (h : k < ls.length) j v, ls[k].cells[j]? = some v → w.cell? (x.add (k * 3 + j)) = some v

/-- The cells of limb k of an argument. -/
theorem argL_cells {w : World} {x : Addr} {ls : List Lb} (hx : ∀ k (h : k < ls.length) j v, ls[k].cells[j]? = some v → w.cell? (x.add (k * 3 + j)) = some v) {k : Nat} (h : k < ls.length) :
    w.cell? (x.add (k * 3)) = some (.int .i64 ls[k].a) ∧ w.cell? { block := (x.add (k * 3)).block, off := (x.add (k * 3)).off + 1 } = some (.int .i64 ls[k].b) ∧ w.cell? { block := (x.add (k * 3)).block, off := (x.add (k * 3)).off + 2 } = some (.int .i64 ls[k].n) := by
  have e : ∀ j, 0 < j → x.add (k * 3 + j) = { block := (x.add (k * 3)).block, off := (x.add (k * 3)).off + j } := fun j hj => by
    rw [← Addr.add_add]
    generalize x.add (k * 3) = y
    unfold Addr.add
    rw [if_neg (by omega)]
  refine ⟨hx k h 0 _ rfl, ?_, ?_⟩
  · rw [← e 1 (by omega)]
    exact hx k h 1 _ rfl
  · rw [← e 2 (by omega)]
    exact hx k h 2 _ rfl

theorem made_zero (n : Nat) : (madeCells Lb.zero.val.cells (n * 3)).toList = flatL (List.replicate n Lb.zero) := by
  have hz : ∀ v ∈ flatL (List.replicate n Lb.zero), v = .int .i64 0 := by
    induction n with
    | zero => intro v hv; cases hv
    | succ n ih =>
      intro v hv
      rw [List.replicate_succ, flatL_cons] at hv
      rcases hv with _ | ⟨_, _ | ⟨_, _ | ⟨_, hv⟩⟩⟩
      · rfl
      · rfl
      · rfl
      · exact ih v hv
  have hm : ∀ v ∈ (madeCells Lb.zero.val.cells (n * 3)).toList, v = .int .i64 0 := by
    intro v hv
    unfold madeCells at hv
    simp only [Array.toList_map, List.mem_map] at hv
    obtain ⟨j, _, rfl⟩ := hv
    have h3 : j % 3 < 3 := Nat.mod_lt _ (by omega)
    show (#[Value.int .i64 0, Value.int .i64 0, Value.int .i64 0])[j % 3]! = _
    rcases (by omega : j % 3 = 0 ∨ j % 3 = 1 ∨ j % 3 = 2) with h | h | h <;> rw [h] <;> rfl
  rw [List.eq_replicate_of_mem hz, List.eq_replicate_of_mem hm, flatL_len, List.length_replicate, Array.length_toList, size_madeCells]
theorem below_of_grown {w w' : World} (h : w.grownBy w' none) : Below w.heap.size w w' := ⟨h.os, h.tape, h.output, h.size, fun k hk => h.block k hk (by simp)⟩
theorem grown_of_below {w w' : World} (h : Below w.heap.size w w') (row : Option Nat) : w.grownBy w' row := ⟨h.os, h.tape, h.output, h.size, fun k hk _ => h.block k hk⟩
theorem copied_set (ls : List Lb) (k : Nat) (h : k < ls.length) : (ls.take k ++ List.replicate (ls.length - k) Lb.zero).set k ls[k] = ls.take (k + 1) ++ List.replicate (ls.length - (k + 1)) Lb.zero := by
  have e : ls.take (k + 1) = ls.take k ++ [ls[k]] := by rw [List.take_add_one, List.getElem?_eq_getElem h]; rfl
  rw [List.set_append_right _ _ (by rw [List.length_take]; omega), List.length_take, Nat.min_eq_left (by omega), Nat.sub_self, show ls.length - k = (ls.length - (k + 1)) + 1 by omega, List.replicate_succ, List.set_cons_zero, e, List.append_assoc]
  rfl

theorem World.cell_setCell_some {w : World} {a b : Addr} {x u y : Value} (_ : w.cell? a = some x) (h : w.cell? b = some y) : ∃ z, (w.setCell a u).cell? b = some z := by
  by_cases e : a = b
  · subst e
    exact ⟨_, World.cell?_setCell_same _ _ _ h⟩
  · exact ⟨_, (World.cell?_setCell_other _ _ _ _ e).trans h⟩
/-- The two cells of a struct's block behind the stores. -/
theorem cells_set2 {w : World} {g : Nat} {u v : Value} (h0 : ∃ x, w.cell? ⟨g, 0, none⟩ = some x) (h1 : ∃ y, w.cell? ⟨g, 1, none⟩ = some y) :
    ((w.setCell ⟨g, 0, none⟩ u).setCell ⟨g, 1, none⟩ v).cell? ⟨g, 0, none⟩ = some u ∧ ((w.setCell ⟨g, 0, none⟩ u).setCell ⟨g, 1, none⟩ v).cell? ⟨g, 1, none⟩ = some v := by
  obtain ⟨x, h0⟩ := h0
  obtain ⟨y, h1⟩ := h1
  refine ⟨?_, ?_⟩
  · rw [World.cell?_setCell_other _ _ _ _ (by simp), World.cell?_setCell_same _ _ _ h0]
  · refine World.cell?_setCell_same (u := y) _ _ _ ?_
    rw [World.cell?_setCell_other _ _ _ _ (by simp), h1]

theorem _root_.Go.World.rangeAt.below {w w' : World} {B g o : Nat} {cs : List Value} (h : w.rangeAt g o cs) (hb : Below B w w') (hg : g < B) : w'.rangeAt g o cs :=
  fun j v hv => (hb.cell hg).trans (h j v hv)
theorem ArgL.alloc {w : World} {a : Option Addr} {ls : List Lb} (h : ArgL w a ls) (o : Obj) : ArgL (w.alloc o) a ls := by
  rcases h with h | ⟨x, e, h⟩
  · exact .inl h
  · exact .inr ⟨x, e, fun k hk j v hv => by
      have := h k hk j v hv
      rw [World.cell?_alloc_lt _ _ _ (World.block_lt_of_cell? w _ this)]
      exact this⟩

abbrev Six (w : World) (g h o : Nat) (l : Lb) : Prop :=
  w.cell? ⟨g, o, none⟩ = some (.int .i64 l.a) ∧ w.cell? ⟨g, o + 1, none⟩ = some (.int .i64 l.b) ∧ w.cell? ⟨g, o + 2, none⟩ = some (.int .i64 l.n) ∧
    w.cell? ⟨h, o, none⟩ = some (.int .i64 l.a) ∧ w.cell? ⟨h, o + 1, none⟩ = some (.int .i64 l.b) ∧ w.cell? ⟨h, o + 2, none⟩ = some (.int .i64 l.n)
theorem six_cells {w : World} {g h o : Nat} {l : Lb} (r1 : w.rangeAt g o l.cells) (r2 : w.rangeAt h o l.cells) : Six w g h o l :=
  ⟨r1 0 _ rfl, r1 1 _ rfl, r1 2 _ rfl, r2 0 _ rfl, r2 1 _ rfl, r2 2 _ rfl⟩
theorem cell_below {w w' : World} {p : Addr} {v : Value} (h : w.cell? p = some v) (hb : Below w.heap.size w w') : w'.cell? p = some v := (hb.cell (World.block_lt_of_cell? w p h)).trans h
theorem six_below {w w' : World} {g h o : Nat} {l : Lb} (s : Six w g h o l) (hb : Below w.heap.size w w') : Six w' g h o l :=
  ⟨cell_below s.1 hb, cell_below s.2.1 hb, cell_below s.2.2.1 hb, cell_below s.2.2.2.1 hb, cell_below s.2.2.2.2.1 hb, cell_below s.2.2.2.2.2 hb⟩

/-- n limbs marked from number u on. -/
def marksL (u n : Nat) : List Lb := (List.range n).map fun j => ⟨((u + 3 * j : Nat) : Int), ((u + 3 * j + 1 : Nat) : Int), ((u + 3 * j + 2 : Nat) : Int)⟩
theorem marksL_len (u n : Nat) : (marksL u n).length = n := by simp [marksL]
theorem marksL_at (u n k : Nat) (h : k < n) : (marksL u n)[k]'(by rw [marksL_len]; exact h) = ⟨((u + 3 * k : Nat) : Int), ((u + 3 * k + 1 : Nat) : Int), ((u + 3 * k + 2 : Nat) : Int)⟩ := by simp [marksL]
theorem marksL_set (u : Nat) (ls : List Lb) (k : Nat) (h : k < ls.length) :
    (marksL u k ++ ls.drop k).set k ⟨((u + 3 * k : Nat) : Int), ((u + 3 * k + 1 : Nat) : Int), ((u + 3 * k + 2 : Nat) : Int)⟩ = marksL u (k + 1) ++ ls.drop (k + 1) := by
  rw [List.drop_eq_getElem_cons h, List.set_append_right _ _ (by simp [marksL_len]), marksL_len, Nat.sub_self, List.set_cons_zero]
  unfold marksL
  simp only [List.range_succ, List.map_append, List.map_cons, List.map_nil, List.append_assoc, List.cons_append, List.nil_append]
theorem grown_then {a b c : World} {row : Option Nat} (h : a.grownBy b row) (k : b.grownBy c row) : a.grownBy c row :=
  ⟨k.os.trans h.os, k.tape.trans h.tape, k.output.trans h.output, Nat.le_trans h.size k.size, fun i hi hne => (k.block i (Nat.lt_of_lt_of_le hi h.size) hne).trans (h.block i hi hne)⟩

theorem ArgL.below {w w' : World} {a : Option Addr} {ls : List Lb} (h : ArgL w a ls) (hb : Below w.heap.size w w') : ArgL w' a ls := by
  rcases h with h | ⟨x, e, h⟩
  · exact .inl h
  · exact .inr ⟨x, e, fun k hk j v hv => cell_below (h k hk j v hv) hb⟩

theorem list_of {α : Type} (P : Nat → α → Prop) (n : Nat) (h : ∀ i, i < n → ∃ x, P i x) : ∃ xs : List α, xs.length = n ∧ ∀ i (hi : i < xs.length), P i xs[i] := by
  induction n with
  | zero => exact ⟨[], rfl, fun i hi => by simp at hi⟩
  | succ n ih =>
    obtain ⟨xs, hl, hx⟩ := ih (fun i hi => h i (by omega))
    obtain ⟨x, hp⟩ := h n (by omega)
    refine ⟨xs ++ [x], by simp [hl], fun i hi => ?_⟩
    by_cases e : i < xs.length
    · rw [List.getElem_append_left e]
      exact hx i e
    · rw [List.length_append, List.length_singleton] at hi
      obtain rfl : i = n := by omega
      rw [List.getElem_append_right (by omega)]
      simpa [hl] using hp

end Go.Proofs.Ytanlfkkmnnjpeaa

/- Rows of numbers that a call owns, and the contracts of the functions of the exact laws that compare, mark and look at them. Condition: the rows are the call's own. -/
namespace Go.Proofs.Ytanlfkkmnnjpeaa
set_option linter.unusedVariables false
open Go.RowKit

def intV (z : Int) : Value := .int .i64 z
/-- A slice value that owns the numbers zs. -/
def OwnI (w : World) (base : Nat) (v : Value) (zs : List Int) : Prop := w.ownsRow base 3 1 v zs.length (zs.map intV)
theorem info_int : (Try.prog.info? 3).map (fun i => (i.zero, i.size, i.bytes)) = some (some (.int .i64 0), 1, 8) := by kernel_rfl
section
variable {w w' : World} {base b : Nat} {v : Value} {zs : List Int}
theorem OwnI.alloc (h : OwnI w base v zs) (o : Obj) : OwnI (w.alloc o) base v zs := World.ownsRow.alloc h o
theorem OwnI.lt (h : OwnI w base v zs) : ∀ k, v.ownBlock = some k → base ≤ k ∧ k < w.heap.size := World.ownsRow.lt h
theorem OwnI.kept {row : Option Nat} (h : OwnI w base v zs) (hg : w.grownBy w' row) (hne : v.ownBlock = none ∨ v.ownBlock ≠ row) : OwnI w' base v zs := World.ownsRow.kept h hg hne
theorem OwnI.below (h : OwnI w base v zs) (hb : Below w.heap.size w w') : OwnI w' base v zs := h.kept (grown_of_below hb none) (by cases v.ownBlock <;> simp)
theorem OwnI.mono (h : OwnI w base v zs) (hb : b ≤ base) : OwnI w b v zs := by
  refine ⟨h.1, ?_⟩
  rcases h.2 with h0 | ⟨g, cap, cur, e, hg, r⟩
  · exact .inl h0
  · exact .inr ⟨g, cap, cur, e, Nat.le_trans hb hg, r⟩
theorem OwnI.slice (h : OwnI w base v zs) : ∃ A c, v = .slice A zs.length c := by
  rcases h.2 with ⟨rfl, hn⟩ | ⟨g, cap, _, rfl, _⟩
  · exact ⟨none, 0, by rw [hn]⟩
  · exact ⟨_, _, rfl⟩
theorem OwnI.spot (h : OwnI w base v zs) {k : Nat} (hk : k < zs.length) :
    ∃ g c, v = .slice (some ⟨g, 0, none⟩) zs.length c ∧ base ≤ g ∧ g < w.heap.size ∧ w.cell? ⟨g, k, none⟩ = some (.int .i64 zs[k]) ∧ w.frozen? ⟨g, k, none⟩ = false := by
  rcases h.2 with ⟨_, hn⟩ | ⟨g, cap, cur, hv, hb, hg, _⟩
  · omega
  · subst hv
    refine ⟨g, cap, rfl, hb, (Array.getElem?_eq_some_iff.1 hg).1, ?_, World.ownsRow.frozenAt h k⟩
    rw [World.ownsRow.cellAt h k (by omega)]
    simp [hk, intV]
theorem OwnI.set {g c n : Nat} (h : OwnI w base (.slice (some ⟨g, 0, none⟩) n c) zs) (hn : n = zs.length) (k : Nat) (z : Int) :
    OwnI (w.setCell ⟨g, k, none⟩ (.int .i64 z)) base (.slice (some ⟨g, 0, none⟩) n c) (zs.set k z) ∧ w.grownBy (w.setCell ⟨g, k, none⟩ (.int .i64 z)) (some g) := by
  subst hn
  unfold OwnI at *
  obtain ⟨h1, g1⟩ := World.ownsRow.stored h k (.int .i64 z)
  rw [List.length_set, List.map_set]
  exact ⟨h1, g1⟩
end
end Go.Proofs.Ytanlfkkmnnjpeaa

/- Elder cells, rows of numbers that grow by append, and rows that lie apart. No condition. -/
namespace Go.Proofs.Ytanlfkkmnnjpeaa
set_option linter.unusedVariables false
open Go.RowKit

theorem apart_of {v1 v2 : Value} {b : Nat} (h1 : ∀ k, v1.ownBlock = some k → k < b) (h2 : ∀ k, v2.ownBlock = some k → b ≤ k) : v1.ownBlock = none ∨ v1.ownBlock ≠ v2.ownBlock := by
  cases h : v1.ownBlock with
  | none => exact .inl rfl
  | some k =>
    refine .inr fun e => ?_
    have a := h1 k h
    have b := h2 k e.symm
    omega
/-- A cell of an elder block, behind one, two and three blocks more. -/
theorem elder {w : World} {p : Addr} {v : Value} (h : w.cell? p = some v) :
    (∀ o, (w.alloc o).cell? p = some v) ∧ (∀ o o', ((w.alloc o).alloc o').cell? p = some v) ∧ (∀ o o' o'', (((w.alloc o).alloc o').alloc o'').cell? p = some v) := by
  have h0 := World.block_lt_of_cell? w p h
  refine ⟨fun o => ?_, fun o o' => ?_, fun o o' o'' => ?_⟩
  · rw [World.cell?_alloc_lt _ _ _ h0, h]
  · rw [World.cell?_alloc_lt _ _ _ (by simp; omega), World.cell?_alloc_lt _ _ _ h0, h]
  · rw [World.cell?_alloc_lt _ _ _ (by simp; omega), World.cell?_alloc_lt _ _ _ (by simp; omega), World.cell?_alloc_lt _ _ _ h0, h]
theorem grown_cell (w : World) (a : Addr) (u : Value) : w.grownBy (w.setCell a u) (some a.block) :=
  ⟨rfl, rfl, rfl, by simp [World.setCell], fun k _ hk => Below.heap_setCell _ _ _ _ (by rintro rfl; exact hk rfl)⟩
def IntsPost (w : World) (zs : List Int) (e : Ending) (w' : World) : Prop := ∃ v, e = .returned v ∧ OwnI w' w.heap.size v zs ∧ Below w.heap.size w w'
theorem undrew {B : Nat} {W w2 : World} (h : Below B W.drew w2) : Below B W w2 := ⟨h.os, h.tape, h.output, h.size, h.block⟩
theorem ownI_empty (w : World) (base g : Nat) (cs : Array Value) (hg : g = w.heap.size) (hb : base ≤ g) (hs : cs.size = 0) : OwnI (w.alloc (.cells cs 3)) base (.slice (some ⟨g, 0, none⟩) 0 0) [] := by
  subst hg
  exact ⟨rfl, .inr ⟨w.heap.size, 0, cs, rfl, hb, heap_alloc_new w _, Nat.le_refl _, Nat.zero_le _, by omega, by simp⟩⟩

theorem OwnI.moved {w w' : World} {base : Nat} {v : Value} {zs : List Int} (h : OwnI w base v zs) (hb : Below w.heap.size w w') : OwnI w' base v zs := h.below hb
theorem ints_snoc_below {w0 wr w1 : World} {B : Nat} {o : Obj} {v : Value} {zs : List Int} (hb : Below B w0 wr) (hB : B ≤ wr.heap.size) (hown : OwnI wr B v zs) (hg : (wr.alloc o).grownBy w1 v.ownBlock) : Below B w0 w1 :=
  (hb.alloc hB o).grown hg (by simp; omega) (fun k hk => (hown.lt k hk).1)
theorem ownI_snoc {w : World} {base : Nat} {v : Value} {zs : List Int} {x : Int} (h : w.ownsRow base 3 1 v (zs.length + 1) (zs.map intV ++ [.int .i64 x])) : OwnI w base v (zs ++ [x]) := by
  unfold OwnI
  rw [List.length_append, List.map_append]
  exact h
theorem sep_of {a b : Option Nat} (h : ∀ k, a = some k → b ≠ some k) : a = none ∨ a ≠ b := by
  cases a with
  | none => exact .inl rfl
  | some k => exact .inr fun e => h k rfl e.symm
end Go.Proofs.Ytanlfkkmnnjpeaa

/- Rows of cells of the call's own that hold numbers, truths and rows of numbers (each such row in a block of its own, no two of them in one): structs with slices, one behind the other. No condition. -/
namespace Go.Proofs.Ytanlfkkmnnjpeaa
set_option linter.unusedVariables false
set_option linter.unusedSimpArgs false
open Go.RowKit

inductive Slot where
  | num (z : Int)
  | tru (t : Bool)
  | row (zs : List Int)
/-- The value u holds what the slot says. -/
def SlotOk (w : World) (base : Nat) (u : Value) : Slot → Prop
  | .num z => u = .int .i64 z
  | .tru t => u = .bool t
  | .row zs => OwnI w base u zs
section
variable {w w' : World} {base b : Nat} {u : Value} {s : Slot} {row : Option Nat}
theorem SlotOk.kept (h : SlotOk w base u s) (hg : w.grownBy w' row) (hne : u.ownBlock = none ∨ u.ownBlock ≠ row) : SlotOk w' base u s := by
  cases s with
  | num z => exact h
  | tru t => exact h
  | row zs => exact OwnI.kept h hg hne
theorem SlotOk.below (h : SlotOk w base u s) (hb : Below w.heap.size w w') : SlotOk w' base u s := h.kept (grown_of_below hb none) (by cases u.ownBlock <;> simp)
theorem SlotOk.mono (h : SlotOk w base u s) (hb : b ≤ base) : SlotOk w b u s := by
  cases s with
  | num z => exact h
  | tru t => exact h
  | row zs => exact OwnI.mono h hb
theorem SlotOk.lt (h : SlotOk w base u s) : ∀ k, u.ownBlock = some k → base ≤ k ∧ k < w.heap.size := by
  cases s with
  | num z => intro k hk; rw [show u = .int .i64 z from h] at hk; cases hk
  | tru t => intro k hk; rw [show u = .bool t from h] at hk; cases hk
  | row zs => exact OwnI.lt h
end
theorem sep_flip {a r : Option Nat} (h : r = none ∨ r ≠ a) : a = none ∨ a ≠ r := by
  rcases h with rfl | h
  · cases a <;> simp
  · exact .inr (Ne.symm h)
theorem sep_none_r {a b : Option Nat} (h : b = none) : a = none ∨ a ≠ b := by
  subst h
  cases a <;> simp
theorem ne_of_sep {a : Option Nat} {g : Nat} (h : a = none ∨ a ≠ some g) : some g ≠ a := by
  rcases h with rfl | h
  · simp
  · exact Ne.symm h
theorem add_pos (x : Addr) (j : Nat) (hj : 0 < j) : x.add j = { block := x.block, off := x.off + j } := by
  unfold Addr.add
  rw [if_neg (by omega)]
theorem add_zero (x : Addr) : x.add 0 = x := by
  unfold Addr.add
  rw [if_pos rfl]
/-- The list with the xs written from place k on. -/
def putAt {α : Type} (ls : List α) (k : Nat) : List α → List α
  | [] => ls
  | x :: xs => putAt (ls.set k x) (k + 1) xs
theorem putAt_len {α : Type} (xs : List α) : ∀ (ls : List α) (k : Nat), (putAt ls k xs).length = ls.length := by
  induction xs with
  | nil => exact fun _ _ => rfl
  | cons x xs ih => intro ls k; rw [putAt, ih, List.length_set]

/-- n elements of K cells each; vs: the cells' values. -/
structure OwnVV (e : TypeId) (K : Nat) (w : World) (base : Nat) (v : Value) (n : Nat) (vs : List Value) (ss : List Slot) : Prop where
  row : w.ownsRow base e K v n vs
  len : vs.length = ss.length
  each : ∀ t (h : t < vs.length) (h' : t < ss.length), SlotOk w base vs[t] ss[t]
  off : ∀ t (h : t < vs.length), vs[t].ownBlock = none ∨ vs[t].ownBlock ≠ v.ownBlock
  apart : ∀ i j (hi : i < vs.length) (hj : j < vs.length), i ≠ j → vs[i].ownBlock = none ∨ vs[i].ownBlock ≠ vs[j].ownBlock
def OwnV (e : TypeId) (K : Nat) (w : World) (base : Nat) (v : Value) (n : Nat) (ss : List Slot) : Prop := ∃ vs, OwnVV e K w base v n vs ss
section
variable {e : TypeId} {K : Nat} {w w' : World} {base b n : Nat} {v : Value} {vs : List Value} {ss : List Slot}
theorem OwnVV.kept {row : Option Nat} (h : OwnVV e K w base v n vs ss) (hg : w.grownBy w' row) (h1 : v.ownBlock = none ∨ v.ownBlock ≠ row) (h2 : ∀ t (ht : t < vs.length), vs[t].ownBlock = none ∨ vs[t].ownBlock ≠ row) : OwnVV e K w' base v n vs ss :=
  ⟨World.ownsRow.kept h.row hg h1, h.len, fun t ht ht' => (h.each t ht ht').kept hg (h2 t ht), h.off, h.apart⟩
theorem OwnVV.below (h : OwnVV e K w base v n vs ss) (hb : Below w.heap.size w w') : OwnVV e K w' base v n vs ss :=
  h.kept (grown_of_below hb none) (by cases v.ownBlock <;> simp) (fun t ht => by cases vs[t].ownBlock <;> simp)
theorem OwnV.below (h : OwnV e K w base v n ss) (hb : Below w.heap.size w w') : OwnV e K w' base v n ss := let ⟨vs, x⟩ := h; ⟨vs, x.below hb⟩
theorem OwnV.alloc (h : OwnV e K w base v n ss) (o : Obj) : OwnV e K (w.alloc o) base v n ss := h.below ((Below.refl _ _).alloc (Nat.le_refl _) _)
theorem OwnVV.lt (h : OwnVV e K w base v n vs ss) : ∀ k, v.ownBlock = some k → base ≤ k ∧ k < w.heap.size := World.ownsRow.lt h.row
theorem OwnV.lt (h : OwnV e K w base v n ss) : ∀ k, v.ownBlock = some k → base ≤ k ∧ k < w.heap.size := let ⟨_, x⟩ := h; x.lt
theorem OwnVV.eachLt (h : OwnVV e K w base v n vs ss) : ∀ t (ht : t < vs.length) k, vs[t].ownBlock = some k → base ≤ k ∧ k < w.heap.size := fun t ht => (h.each t ht (by rw [← h.len]; exact ht)).lt
/-- A write into a block that is older than all of them. -/
theorem OwnV.older {row : Option Nat} (h : OwnV e K w base v n ss) (hg : w.grownBy w' row) (hr : ∀ k, row = some k → k < base) : OwnV e K w' base v n ss := by
  obtain ⟨vs, h⟩ := h
  exact ⟨vs, h.kept hg (sep_of fun b e1 e2 => by have := (h.lt b e1).1; have := hr b e2; omega) (fun t ht => sep_of fun b e1 e2 => by have := (h.eachLt t ht b e1).1; have := hr b e2; omega)⟩
theorem OwnVV.mono (h : OwnVV e K w base v n vs ss) (hb : b ≤ base) : OwnVV e K w b v n vs ss := by
  refine ⟨?_, h.len, fun t ht ht' => (h.each t ht ht').mono hb, h.off, h.apart⟩
  obtain ⟨h1, h2⟩ := h.row
  refine ⟨h1, ?_⟩
  rcases h2 with h2 | ⟨g, cap, cur, e, hg, rest⟩
  · exact .inl h2
  · exact .inr ⟨g, cap, cur, e, Nat.le_trans hb hg, rest⟩
theorem OwnV.mono (h : OwnV e K w base v n ss) (hb : b ≤ base) : OwnV e K w b v n ss := let ⟨vs, x⟩ := h; ⟨vs, x.mono hb⟩
theorem OwnV.slice (h : OwnV e K w base v n ss) : ∃ A c, v = .slice A n c := by
  obtain ⟨vs, h⟩ := h
  rcases h.row.2 with ⟨rfl, hn⟩ | ⟨g, cap, _, rfl, _⟩
  · exact ⟨none, 0, by rw [hn]⟩
  · exact ⟨_, _, rfl⟩
/-- One cell. -/
theorem OwnVV.cell (h : OwnVV e K w base v n vs ss) {t : Nat} (ht : t < vs.length) :
    ∃ g c, v = .slice (some ⟨g, 0, none⟩) n c ∧ (base ≤ g ∧ g < w.heap.size) ∧ w.cell? ⟨g, t, none⟩ = some vs[t] ∧ w.frozen? ⟨g, t, none⟩ = false := by
  have hl := h.row.1
  have hlt := h.lt
  rcases h.row.2 with ⟨_, hn⟩ | ⟨g, cap, cur, rfl, hb, hg, _⟩
  · rw [hn] at hl; omega
  · refine ⟨g, cap, rfl, hlt g rfl, ?_, World.ownsRow.frozenAt h.row t⟩
    rw [World.ownsRow.cellAt h.row t (by omega), List.getElem?_eq_getElem ht]
/-- A cell is written: what it holds now lies apart from all else. -/
theorem OwnVV.put {g c t : Nat} {u : Value} {x : Slot} (h : OwnVV e K w base (.slice (some ⟨g, 0, none⟩) n c) n vs ss) (ht : t < vs.length) (hu : SlotOk w base u x) (ho : u.ownBlock = none ∨ u.ownBlock ≠ some g)
    (ha : ∀ i (hi : i < vs.length), i ≠ t → u.ownBlock = none ∨ u.ownBlock ≠ vs[i].ownBlock) :
    OwnVV e K (w.setCell ⟨g, t, none⟩ u) base (.slice (some ⟨g, 0, none⟩) n c) n (vs.set t u) (ss.set t x) ∧ w.grownBy (w.setCell ⟨g, t, none⟩ u) (some g) := by
  obtain ⟨s1, g1⟩ := World.ownsRow.stored h.row t u
  refine ⟨⟨s1, by simp [h.len], fun i hi hi' => ?_, fun i hi => ?_, fun i j hi hj hij => ?_⟩, g1⟩
  · simp only [List.length_set] at hi hi'
    by_cases q : t = i
    · subst q
      simp only [List.getElem_set_self]
      exact hu.kept g1 ho
    · simp only [List.getElem_set_ne q]
      exact (h.each i hi hi').kept g1 (h.off i hi)
  · simp only [List.length_set] at hi
    by_cases q : t = i
    · subst q
      simp only [List.getElem_set_self]
      exact ho
    · simp only [List.getElem_set_ne q]
      exact h.off i hi
  · simp only [List.length_set] at hi hj
    by_cases q : t = i
    · subst q
      simp only [List.getElem_set_self, List.getElem_set_ne hij]
      exact ha j hj (fun e => hij e.symm)
    · simp only [List.getElem_set_ne q]
      by_cases q2 : t = j
      · subst q2
        simp only [List.getElem_set_self]
        exact sep_flip (ha i hi (fun e => q e.symm))
      · simp only [List.getElem_set_ne q2]
        exact h.apart i j hi hj hij
/-- Some cells are written, one behind the other: what they hold now lies apart from all that was there, and from one another. -/
theorem OwnVV.puts {g c : Nat} (us : List Value) : ∀ (xs : List Slot) {w : World} {vs : List Value} {ss : List Slot} (t : Nat), OwnVV e K w base (.slice (some ⟨g, 0, none⟩) n c) n vs ss → t + us.length ≤ vs.length → us.length = xs.length →
    (∀ j (h : j < us.length) (h' : j < xs.length), SlotOk w base us[j] xs[j]) → (∀ j (h : j < us.length), us[j].ownBlock = none ∨ us[j].ownBlock ≠ some g) →
    (∀ j (h : j < us.length) i (hi : i < vs.length), us[j].ownBlock = none ∨ us[j].ownBlock ≠ vs[i].ownBlock) → (∀ i j (hi : i < us.length) (hj : j < us.length), i ≠ j → us[i].ownBlock = none ∨ us[i].ownBlock ≠ us[j].ownBlock) →
    OwnVV e K (w.setCells g t us) base (.slice (some ⟨g, 0, none⟩) n c) n (putAt vs t us) (putAt ss t xs) ∧ w.grownBy (w.setCells g t us) (some g) := by
  induction us with
  | nil =>
    intro xs w vs ss t h _ hl _ _ _ _
    obtain rfl : xs = [] := List.eq_nil_of_length_eq_zero (by simpa using hl.symm)
    exact ⟨h, World.grownBy.refl _ _⟩
  | cons u us ih =>
    intro xs w vs ss t h ht hl h1 h2 h3 h4
    obtain ⟨x, xs, rfl⟩ : ∃ x ys, xs = x :: ys := by
      cases xs with
      | nil => simp at hl
      | cons x ys => exact ⟨x, ys, rfl⟩
    rw [List.length_cons] at ht
    obtain ⟨p1, g1⟩ := h.put (t := t) (by omega) (h1 0 (by simp) (by simp)) (h2 0 (by simp)) (fun i hi _ => h3 0 (by simp) i hi)
    obtain ⟨p2, g2⟩ := ih xs (t + 1) p1 (by rw [List.length_set]; omega) (by simpa using hl)
      (fun j hj hj' => (h1 (j + 1) (by simp; omega) (by simp; omega)).kept g1 (h2 (j + 1) (by simp; omega))) (fun j hj => h2 (j + 1) (by simp; omega))
      (fun j hj i hi => by
        simp only [List.length_set] at hi
        by_cases q : t = i
        · subst q
          simp only [List.getElem_set_self]
          exact h4 (j + 1) 0 (by simp; omega) (by simp) (by omega)
        · simp only [List.getElem_set_ne q]
          exact h3 (j + 1) (by simp; omega) i hi)
      (fun i j hi hj hij => h4 (i + 1) (j + 1) (by simp; omega) (by simp; omega) (by omega))
    exact ⟨p2, grown_then g1 g2⟩
/-- The numbers of one inner row change in place. -/
theorem OwnVV.turn {t : Nat} {x : Slot} (h : OwnVV e K w base v n vs ss) (ht : t < vs.length) (hu : SlotOk w' base vs[t] x) (hg : w.grownBy w' vs[t].ownBlock) : OwnVV e K w' base v n vs (ss.set t x) := by
  refine ⟨World.ownsRow.kept h.row hg (sep_flip (h.off t ht)), by rw [List.length_set]; exact h.len, fun i hi hi' => ?_, h.off, h.apart⟩
  rw [List.length_set] at hi'
  by_cases q : t = i
  · subst q
    rw [List.getElem_set_self]
    exact hu
  · rw [List.getElem_set_ne q]
    exact (h.each i hi hi').kept hg (h.apart i t hi ht (Ne.symm q))
/-- Whatever holds no inner row. -/
theorem ownV_plain (h : w.ownsRow base e K v n vs) (hl : vs.length = ss.length) (he : ∀ t (h : t < vs.length) (h' : t < ss.length), SlotOk w base vs[t] ss[t]) (hn : ∀ t (h : t < vs.length), vs[t].ownBlock = none) : OwnV e K w base v n ss :=
  ⟨vs, h, hl, he, fun t ht => .inl (hn t ht), fun i j hi _ _ => .inl (hn i hi)⟩
end

/-- The cell that a slot speaks of. -/
theorem OwnVV.at {e : TypeId} {K : Nat} {w : World} {base n : Nat} {v : Value} {vs : List Value} {ss : List Slot} (h : OwnVV e K w base v n vs ss) {t : Nat} {s : Slot} (hs : ss[t]? = some s) :
    ∃ g c, v = .slice (some ⟨g, 0, none⟩) n c ∧ (base ≤ g ∧ g < w.heap.size) ∧ ∃ u, vs[t]? = some u ∧ w.cell? ⟨g, t, none⟩ = some u ∧ w.frozen? ⟨g, t, none⟩ = false ∧ SlotOk w base u s := by
  obtain ⟨ht, e1⟩ := List.getElem?_eq_some_iff.1 hs
  have hv : t < vs.length := by rw [h.len]; exact ht
  obtain ⟨g, c, e2, e3, e4, e5⟩ := h.cell hv
  exact ⟨g, c, e2, e3, vs[t], List.getElem?_eq_getElem hv, e4, e5, e1 ▸ h.each t hv ht⟩
section
variable {α : Type} {f : α → List Slot} {K : Nat}
theorem fm_len (hK : ∀ l, (f l).length = K) (ls : List α) : (ls.flatMap f).length = ls.length * K := by
  induction ls with
  | nil => simp
  | cons l ls ih => rw [List.flatMap_cons, List.length_append, hK, ih, List.length_cons, Nat.succ_mul]; omega
theorem fm_at (hK : ∀ l, (f l).length = K) (ls : List α) (k j : Nat) (hj : j < K) (hk : k < ls.length) : (ls.flatMap f)[k * K + j]? = (f ls[k])[j]? := by
  induction ls generalizing k with
  | nil => simp at hk
  | cons l ls ih =>
    rw [List.flatMap_cons]
    cases k with
    | zero => rw [List.getElem?_append_left (by rw [hK]; omega), Nat.zero_mul, Nat.zero_add]; rfl
    | succ k =>
      rw [List.getElem?_append_right (by rw [hK, Nat.succ_mul]; omega), hK, show (k + 1) * K + j - K = k * K + j by rw [Nat.succ_mul]; omega]
      exact ih k (by simpa using hk)
theorem fm_setj (hK : ∀ l, (f l).length = K) (ls : List α) (k j : Nat) (hj : j < K) (hk : k < ls.length) (s : Slot) (l : α) (hl : f l = (f ls[k]).set j s) : (ls.flatMap f).set (k * K + j) s = (ls.set k l).flatMap f := by
  induction ls generalizing k with
  | nil => simp at hk
  | cons x ls ih =>
    rw [List.flatMap_cons]
    cases k with
    | zero =>
      rw [List.set_append_left _ _ (by rw [hK]; omega), Nat.zero_mul, Nat.zero_add, List.set_cons_zero, List.flatMap_cons, hl]
      rfl
    | succ k =>
      rw [List.set_append_right _ _ (by rw [hK, Nat.succ_mul]; omega), hK, show (k + 1) * K + j - K = k * K + j by rw [Nat.succ_mul]; omega, ih k (by simpa using hk) (by simpa using hl), List.set_cons_succ, List.flatMap_cons]
theorem putAt_right {α : Type} (xs : List α) : ∀ (a b : List α) (m : Nat), putAt (a ++ b) (a.length + m) xs = a ++ putAt b m xs := by
  induction xs with
  | nil => exact fun _ _ _ => rfl
  | cons x xs ih =>
    intro a b m
    rw [putAt, putAt, List.set_append_right _ _ (by omega), Nat.add_sub_cancel_left, Nat.add_assoc, ih]
theorem putAt_left {α : Type} (xs : List α) : ∀ (a b : List α), a.length = xs.length → putAt (a ++ b) 0 xs = xs ++ b := by
  induction xs with
  | nil =>
    intro a b h
    obtain rfl : a = [] := List.eq_nil_of_length_eq_zero (by simpa using h)
    rfl
  | cons x xs ih =>
    intro a b h
    cases a with
    | nil => simp at h
    | cons y a =>
      rw [putAt, List.cons_append, List.set_cons_zero]
      have e := putAt_right xs [x] (a ++ b) 0
      rw [show ([x] : List α).length + 0 = 0 + 1 by rfl] at e
      rw [show x :: (a ++ b) = [x] ++ (a ++ b) from rfl, e, ih a b (by simpa using h)]
      rfl
theorem fm_put (hK : ∀ l, (f l).length = K) (ls : List α) (k : Nat) (hk : k < ls.length) (l : α) : putAt (ls.flatMap f) (k * K) (f l) = (ls.set k l).flatMap f := by
  induction ls generalizing k with
  | nil => simp at hk
  | cons x ls ih =>
    rw [List.flatMap_cons]
    cases k with
    | zero => rw [Nat.zero_mul, putAt_left _ _ _ (by rw [hK, hK]), List.set_cons_zero, List.flatMap_cons]
    | succ k =>
      rw [show (k + 1) * K = (f x).length + k * K by rw [hK, Nat.succ_mul]; omega, putAt_right, ih k (by simpa using hk), List.set_cons_succ, List.flatMap_cons]
end
end Go.Proofs.Ytanlfkkmnnjpeaa

/- What the frames of all laws of this seat share: closed facts on the program, and how an argument that is a slice of numbers is opened. -/
namespace Go.Proofs.Ytanlfkkmnnjpeaa
set_option linter.unusedVariables false
open Go.ChangeShapes Go.WideShapes Go.ChangeAt Go.RowKit

theorem own : ownKnob Try.prog.godebug = none := by kernel_rfl
theorem laidOut : laidOutB Try.prog = true := by kernel_rfl

/-- A slice of numbers that came in: nil, or it leads to 'cap' cells, the numbers 'zs', of which the first 'len' are its elements. -/
def IsRow (k : IntKind) (w : World) (a : Option Addr) (len cap : Nat) (zs : List Int) : Prop :=
  (a = none ∧ len = 0 ∧ cap = 0 ∧ zs = []) ∨
  ∃ x, a = some x ∧ len ≤ cap ∧ cap ≤ maxLen ∧ zs.length = cap ∧ (∀ i, i < zs.length → w.cell? (x.add i) = some (.int k (zs.getD i 0))) ∧ ∀ n ∈ zs, (Lit.int k n).wf = true

theorem isRow_of {H : Type} {enc : TypeId × Value → H} {P : Program} {W : World} {t e : TypeId} {k : IntKind} {a : Option Addr} {len cap : Nat} {d : DataW H} {p : List MemPlace}
    (ht : P.underlying t = some (.slice e)) (he : P.underlying e = some (.int k)) (hc : P.cellsOf e = 1)
    (h : DataW.Trod enc P W 0 (fun _ => true) true t (.slice a len cap) d p) : ∃ zs, IsRow k W a len cap zs := by
  obtain ⟨fuel, hf⟩ := h
  rcases open_ints ht he hc hf with ⟨hcs, _⟩ | ⟨x, l, c, zs, hcs, _, hl, hm, hz, _, hcell, hwz⟩
  · simp [Value.cells] at hcs
    obtain ⟨rfl, rfl, rfl⟩ := hcs
    exact ⟨[], .inl ⟨rfl, rfl, rfl, rfl⟩⟩
  · simp [Value.cells] at hcs
    obtain ⟨rfl, rfl, rfl⟩ := hcs
    exact ⟨zs, .inr ⟨_, rfl, hl, hm, by simpa using hz, hcell, hwz⟩⟩
end Go.Proofs.Ytanlfkkmnnjpeaa

/- A slice of numbers that came in as an argument: how it is kept, read and copied. Condition: at most 1048576 numbers where it is copied. -/
namespace Go.Proofs.Ytanlfkkmnnjpeaa
set_option linter.unusedVariables false
open Go.RowKit

section
variable {w w' : World} {a : Option Addr} {n cap : Nat} {z : List Int}
theorem irow_below (h : IsRow .i64 w a n cap z) (hb : Below w.heap.size w w') : IsRow .i64 w' a n cap z := by
  rcases h with h | ⟨x, e, h1, h2, h3, h4, h5⟩
  · exact .inl h
  · exact .inr ⟨x, e, h1, h2, h3, fun i hi => cell_below (h4 i hi) hb, h5⟩
theorem irow_alloc (h : IsRow .i64 w a n cap z) (o : Obj) : IsRow .i64 (w.alloc o) a n cap z := irow_below h ((Below.refl _ _).alloc (Nat.le_refl _) _)
theorem irow_max (h : IsRow .i64 w a n cap z) : n ≤ 9223372036854775807 := by
  rcases h with ⟨_, rfl, _, _⟩ | ⟨x, rfl, hl, hm, _⟩
  · omega
  · simp only [maxLen] at hm; omega
theorem irow_len (h : IsRow .i64 w a n cap z) : (z.take n).length = n := by
  rcases h with ⟨_, rfl, _, _⟩ | ⟨x, rfl, hl, hm, hz, _⟩
  · simp
  · rw [List.length_take]; omega
theorem irow_at (h : IsRow .i64 w a n cap z) {j : Nat} (hj : j < n) : ∃ xb xo, a = some ⟨xb, xo, none⟩ ∧ w.cell? ⟨xb, xo + j, none⟩ = some (.int .i64 ((z.take n)[j]'(by rw [irow_len h]; exact hj))) ∧ xb < w.heap.size := by
  have hl' := irow_len h
  rcases h with ⟨_, rfl, _, _⟩ | ⟨x, rfl, hl, hm, hz, hcell, hwz⟩
  · omega
  · obtain ⟨xb, xo, spot⟩ := x
    have hc := hcell j (by omega)
    have hspot : spot = none := by simpa [Addr.add] using World.cell?_spot (hcell 0 (by omega))
    subst hspot
    have he : (⟨xb, xo, none⟩ : Addr).add j = ⟨xb, xo + j, none⟩ := by unfold Addr.add; split <;> simp_all
    rw [he] at hc
    refine ⟨xb, xo, rfl, ?_, World.block_lt_of_cell? w _ hc⟩
    rw [hc, List.getElem_take, List.getD_eq_getElem?_getD, List.getElem?_eq_getElem (by omega)]
    rfl
theorem copyI_set (zs : List Int) (k : Nat) (h : k < zs.length) : (zs.take k ++ List.replicate (zs.length - k) 0).set k zs[k] = zs.take (k + 1) ++ List.replicate (zs.length - (k + 1)) 0 := by
  have e : zs.take (k + 1) = zs.take k ++ [zs[k]] := by rw [List.take_add_one, List.getElem?_eq_getElem h]; rfl
  rw [List.set_append_right _ _ (by rw [List.length_take]; omega), List.length_take, Nat.min_eq_left (by omega), Nat.sub_self, show zs.length - k = (zs.length - (k + 1)) + 1 by omega, List.replicate_succ, List.set_cons_zero, e, List.append_assoc]
  rfl
theorem madeI (n : Nat) : (madeCells (Value.int .i64 0).cells (n * 1)).toList = (List.replicate n (0 : Int)).map intV := by
  have hm : ∀ v ∈ (madeCells (Value.int .i64 0).cells (n * 1)).toList, v = .int .i64 0 := by
    intro v hv
    unfold madeCells at hv
    simp only [Array.toList_map, List.mem_map] at hv
    obtain ⟨j, _, rfl⟩ := hv
    show (#[Value.int .i64 0])[j % 1]! = _
    rw [Nat.mod_one]
    rfl
  rw [List.eq_replicate_of_mem hm, Array.length_toList, size_madeCells, Nat.mul_one, List.map_replicate]
  rfl
end

set_option maxHeartbeats 400000 in
theorem toIntS_walk (a : Option Addr) (n cap : Nat) (z : List Int) (w : World) (ha : IsRow .i64 w a n cap z) (hl : n ≤ 1048576) :
    Calls Try.prog 29 #[.slice a n cap] w (IntsPost w (z.take n)) := by
  obtain ⟨i, hi, hz, hs, hb⟩ := info_parts info_int
  have hzl := irow_len ha
  have HA := Lib.hid (show ∀ j (hj : j < (z.take n).length), ∃ xb xo, a = some ⟨xb, xo, none⟩ ∧ w.cell? ⟨xb, xo + j, none⟩ = some (.int .i64 (z.take n)[j]) ∧ xb < w.heap.size from fun j hj => irow_at ha (by rwa [hzl] at hj))
  generalize z.take n = zs at hzl HA
  subst hzl
  clear ha
  go_enter Try.func29, Try.ntmps29
  go_wp2_with (refine wpList_make_full _ rfl _ _ 33 rfl w.heap.size 3 i (.int .i64 0) 1 Try.underlying33 hi hz hs .i64 .i64 _ _ zs.length rfl rfl rfl rfl (by rw [hb]; omega) (by simp only [maxLen]; omega) (by simp) ?_; intro w1 own1 grown1)
  have own0 : OwnI w1 w.heap.size (.slice (some ⟨w.heap.size, 0, none⟩) zs.length zs.length) (zs.take 0 ++ List.replicate (zs.length - 0) 0) := by
    rw [madeI] at own1
    unfold OwnI
    simpa using own1
  have b1 : Below w.heap.size w w1 := below_of_grown grown1
  clear own1 grown1
  go_loopw [4] (fun i wr => ∃ k : Nat, k ≤ zs.length ∧ i = .int .i64 k ∧ OwnI wr w.heap.size (.slice (some ⟨w.heap.size, 0, none⟩) zs.length zs.length) (zs.take k ++ List.replicate (zs.length - k) 0) ∧ Below w.heap.size w wr) (fun i _ => zs.length - (intOf i).toNat)
  case atStart => exact ⟨0, by omega, rfl, own0, b1⟩
  case round =>
    obtain ⟨k, hk, rfl, hown, hbel⟩ := hrel
    by_cases hlt : k < zs.length
    · have hk0 : (0 : Int) ≤ (k : Int) := by omega
      have hk1 : (k : Int) < (zs.length : Int) := by omega
      obtain ⟨xb, xo, rfl, c0, hx⟩ := HA.out k hlt
      have c1 := (hbel.cell (p := ⟨xb, xo + k, none⟩) hx).trans c0
      have hlen : (zs.take k ++ List.replicate (zs.length - k) (0 : Int)).length = zs.length := by simp; omega
      obtain ⟨_, _, e2, _, _, x0, f0⟩ := hown.spot (k := k) (by rw [hlen]; exact hlt)
      simp only [Value.slice.injEq, Option.some.injEq, Addr.mk.injEq] at e2
      obtain ⟨⟨rfl, _⟩, em, ec⟩ := e2
      clear em ec
      have st := hown.set hlen.symm k zs[k]
      rw [copyI_set zs k hlt] at st
      have ST := Lib.hid st
      have HB := Lib.hid hbel
      obtain ⟨u, hu⟩ : ∃ u, wr.cell? ⟨w.heap.size, k, none⟩ = some u := ⟨_, x0⟩
      clear st hown hlen c0 x0 hbel
      generalize zs[k] = y at c1 ST
      go_wp2
      exact ⟨⟨k + 1, by omega, by go_num, ST.out.1, HB.out.setCell (p := ⟨w.heap.size, k, none⟩) (Nat.le_refl _) _⟩, by simp [intOf]; omega⟩
    · have hke : k = zs.length := by omega
      subst hke
      have hfin : OwnI wr w.heap.size (.slice (some ⟨w.heap.size, 0, none⟩) zs.length zs.length) zs := by simpa using hown
      go_wp2
      go_ret
      exact ⟨_, rfl, hfin, hbel⟩
end Go.Proofs.Ytanlfkkmnnjpeaa

/- Player: a struct of numbers and rows of numbers as the walks see it: a row of the call's own, a row that came in (made by gen_own.py). No condition. -/
namespace Go.Proofs.Ytanlfkkmnnjpeaa
set_option linter.unusedVariables false
set_option linter.unusedSimpArgs false
open Go.RowKit Go.ChangeShapes Go.WideShapes Go.ChangeAt Go.Deep Go.Joins

structure RPlayer where
  f0 : List Int
  f1 : Int
def RPlayer.slots (l : RPlayer) : List Slot := [.row l.f0, .num l.f1]
def RPlayer.zero : RPlayer := ⟨[], 0⟩
theorem slotsPlayer_len (l : RPlayer) : l.slots.length = 2 := rfl
def flatPlayer (ls : List RPlayer) : List Slot := ls.flatMap RPlayer.slots
theorem flatPlayer_len (ls : List RPlayer) : (flatPlayer ls).length = ls.length * 2 := fm_len slotsPlayer_len ls
theorem flatPlayer_at (ls : List RPlayer) (k j : Nat) (hj : j < 2) (hk : k < ls.length) : (flatPlayer ls)[k * 2 + j]? = ls[k].slots[j]? := fm_at slotsPlayer_len ls k j hj hk
theorem flatPlayer_append (xs ys : List RPlayer) : flatPlayer (xs ++ ys) = flatPlayer xs ++ flatPlayer ys := List.flatMap_append
/-- A slice value that owns the structs ls and the rows in them. -/
def OwnPlayer (w : World) (base : Nat) (v : Value) (ls : List RPlayer) : Prop := OwnV 71 2 w base v ls.length (flatPlayer ls)
section
variable {w w' w0 : World} {base b : Nat} {v : Value} {ls : List RPlayer}
theorem OwnPlayer.below (h : OwnPlayer w base v ls) (hb : Below w.heap.size w w') : OwnPlayer w' base v ls := OwnV.below h hb
theorem OwnPlayer.alloc (h : OwnPlayer w base v ls) (o : Obj) : OwnPlayer (w.alloc o) base v ls := OwnV.alloc h o
theorem OwnPlayer.lt (h : OwnPlayer w base v ls) : ∀ k, v.ownBlock = some k → base ≤ k ∧ k < w.heap.size := OwnV.lt h
theorem OwnPlayer.older {row : Option Nat} (h : OwnPlayer w base v ls) (hg : w.grownBy w' row) (hr : ∀ k, row = some k → k < base) : OwnPlayer w' base v ls := OwnV.older h hg hr
theorem OwnPlayer.mono (h : OwnPlayer w base v ls) (hb : b ≤ base) : OwnPlayer w b v ls := OwnV.mono h hb
theorem OwnPlayer.slice (h : OwnPlayer w base v ls) : ∃ A c, v = .slice A ls.length c := OwnV.slice h
/-- Element k: its cells, and the rows in it; how one of them is written in place. -/
theorem OwnPlayer.spot (h : OwnPlayer w base v ls) {k : Nat} (hk : k < ls.length) :
    ∃ g c A0 c0, v = .slice (some ⟨g, 0, none⟩) ls.length c ∧ (base ≤ g ∧ g < w.heap.size) ∧ (w.cell? ⟨g, k * 2, none⟩ = some (.slice A0 ls[k].f0.length c0) ∧ w.cell? ⟨g, k * 2 + 1, none⟩ = some (.int .i64 ls[k].f1)) ∧ (OwnI w base (.slice A0 ls[k].f0.length c0) ls[k].f0) ∧
      (w.frozen? ⟨g, k * 2, none⟩ = false ∧ w.frozen? ⟨g, k * 2 + 1, none⟩ = false) ∧
      (∀ w' zs, OwnI w' base (.slice A0 ls[k].f0.length c0) zs → w.grownBy w' (.slice A0 ls[k].f0.length c0 : Value).ownBlock → OwnPlayer w' base v (ls.set k { ls[k] with f0 := zs })) ∧
      True := by
  obtain ⟨vs, h⟩ := h
  obtain ⟨g0, d0, e0, l0, u0, v0, x0, z0, s0⟩ := h.at (t := k * 2) (s := .row ls[k].f0) (by have := flatPlayer_at ls k 0 (by omega) hk; exact this)
  obtain ⟨g1, d1, e1, l1, u1, v1, x1, z1, s1⟩ := h.at (t := k * 2 + 1) (s := .num ls[k].f1) (by have := flatPlayer_at ls k 1 (by omega) hk; exact this)
  have q1 := e1.symm.trans e0
  simp only [Value.slice.injEq, Option.some.injEq, Addr.mk.injEq, and_true, true_and] at q1
  obtain ⟨rfl, rfl⟩ := q1
  obtain ⟨A0, c0, y0⟩ := OwnI.slice (show OwnI w base u0 ls[k].f0 from s0)
  subst y0
  obtain rfl : u1 = .int .i64 ls[k].f1 := s1
  refine ⟨_, _, A0, c0, e0, l0, ⟨x0, x1⟩, s0, ⟨z0, z1⟩, fun w' zs o gg => ?_, trivial⟩
  · obtain ⟨hv0, w0⟩ := List.getElem?_eq_some_iff.1 v0
    have T := h.turn (t := k * 2) (x := .row zs) hv0 (by rw [w0]; exact o) (by rw [w0]; exact gg)
    rw [show (flatPlayer ls).set (k * 2) (.row zs) = flatPlayer (ls.set k { ls[k] with f0 := zs }) from fm_setj slotsPlayer_len ls k 0 (by omega) hk (.row zs) _ rfl] at T
    exact ⟨vs, by rw [List.length_set]; exact T⟩
/-- A number of element k is written. -/
theorem OwnPlayer.num1 {g c n : Nat} (h : OwnPlayer w base (.slice (some ⟨g, 0, none⟩) n c) ls) (hn : n = ls.length) {k : Nat} (hk : k < ls.length) (z : Int) :
    OwnPlayer (w.setCell ⟨g, k * 2 + 1, none⟩ (.int .i64 z)) base (.slice (some ⟨g, 0, none⟩) n c) (ls.set k { ls[k] with f1 := z }) ∧ w.grownBy (w.setCell ⟨g, k * 2 + 1, none⟩ (.int .i64 z)) (some g) := by
  subst hn
  obtain ⟨vs, h⟩ := h
  have hv : k * 2 + 1 < vs.length := by rw [h.len, flatPlayer_len]; omega
  obtain ⟨p, gg⟩ := h.put (t := k * 2 + 1) (u := .int .i64 z) (x := .num z) hv rfl (.inl rfl) (fun _ _ _ => .inl rfl)
  rw [show (flatPlayer ls).set (k * 2 + 1) (.num z) = flatPlayer (ls.set k { ls[k] with f1 := z }) from fm_setj slotsPlayer_len ls k 1 (by omega) hk (.num z) _ rfl] at p
  exact ⟨⟨_, by rw [List.length_set]; exact p⟩, gg⟩
/-- Element k is written whole: its rows have been made since. -/
theorem OwnPlayer.set {g c n : Nat} {u0 : Value} {l : RPlayer} (h : OwnPlayer w0 base (.slice (some ⟨g, 0, none⟩) n c) ls) (hn : n = ls.length) {k : Nat} (hk : k < ls.length) (hb : Below w0.heap.size w0 w) (hbs : base ≤ w0.heap.size)
    (o0 : OwnI w w0.heap.size u0 l.f0)  :
    OwnPlayer (w.setCells g (k * 2) [u0, .int .i64 l.f1]) base (.slice (some ⟨g, 0, none⟩) n c) (ls.set k l) ∧ w.grownBy (w.setCells g (k * 2) [u0, .int .i64 l.f1]) (some g) := by
  subst hn
  obtain ⟨vs, h⟩ := h
  have hg := (h.lt g rfl).2
  have hv : k * 2 + 2 ≤ vs.length := by rw [h.len, flatPlayer_len]; omega
  have old := h.eachLt
  have far : ∀ u : Value, (∀ q, u.ownBlock = some q → w0.heap.size ≤ q) → (u.ownBlock = none ∨ u.ownBlock ≠ some g) ∧ ∀ i (hi : i < vs.length), u.ownBlock = none ∨ u.ownBlock ≠ vs[i].ownBlock := fun u hu =>
    ⟨sep_of fun q e1 e2 => by have := hu q e1; have := Option.some.inj e2; omega, fun i hi => sep_of fun q e1 e2 => by have := hu q e1; have := (old i hi q e2).2; omega⟩
  have F0 := far u0 (fun q hq => (o0.lt q hq).1)
  obtain ⟨p, gg⟩ := (h.below hb).puts [u0, .int .i64 l.f1] l.slots (k * 2) hv rfl
    (fun j hj hj' => by
      rcases (by simp at hj; omega : j = 0 ∨ j = 1) with rfl | rfl
      · exact o0.mono hbs
      · exact rfl
    )
    (fun j hj => by
      rcases (by simp at hj; omega : j = 0 ∨ j = 1) with rfl | rfl
      · exact F0.1
      · exact .inl rfl
    )
    (fun j hj i hi => by
      rcases (by simp at hj; omega : j = 0 ∨ j = 1) with rfl | rfl
      · exact F0.2 i hi
      · exact .inl rfl
    )
    (fun i j hi hj hij => by
      rcases (by simp at hi; omega : i = 0 ∨ i = 1) with rfl | rfl <;> rcases (by simp at hj; omega : j = 0 ∨ j = 1) with rfl | rfl <;> first | (exact absurd rfl hij) | exact .inl rfl | exact sep_none_r rfl)
  rw [show putAt (flatPlayer ls) (k * 2) l.slots = flatPlayer (ls.set k l) from fm_put slotsPlayer_len ls k hk l] at p
  exact ⟨⟨_, by rw [List.length_set]; exact p⟩, gg⟩
theorem ownPlayer_made {n g : Nat} (h : w.ownsRow base 71 2 (.slice (some ⟨g, 0, none⟩) n n) n (madeCells #[.slice none 0 0, .int .i64 0] (n * 2)).toList) : OwnPlayer w base (.slice (some ⟨g, 0, none⟩) n n) (List.replicate n RPlayer.zero) := by
  have hl : (madeCells #[.slice none 0 0, .int .i64 0] (n * 2)).toList.length = (flatPlayer (List.replicate n RPlayer.zero)).length := by rw [flatPlayer_len, List.length_replicate, Array.length_toList, size_madeCells]
  have at_ : ∀ t (ht : t < (madeCells #[.slice none 0 0, .int .i64 0] (n * 2)).toList.length), (madeCells #[.slice none 0 0, .int .i64 0] (n * 2)).toList[t] = (#[.slice none 0 0, .int .i64 0] : Array Value)[t % 2]! := fun t ht => by
    simp only [madeCells, Array.getElem_toList, Array.getElem_map, Array.getElem_range]
    rfl
  unfold OwnPlayer
  rw [List.length_replicate]
  refine ownV_plain h hl (fun t ht ht' => ?_) (fun t ht => ?_)
  · have hq : t / 2 < n := by rw [flatPlayer_len, List.length_replicate] at ht'; omega
    have e := flatPlayer_at (List.replicate n RPlayer.zero) (t / 2) (t % 2) (Nat.mod_lt _ (by omega)) (by rw [List.length_replicate]; exact hq)
    rw [show t / 2 * 2 + t % 2 = t by omega, List.getElem?_eq_getElem ht', List.getElem_replicate] at e
    rw [at_ t ht]
    rcases (by omega : t % 2 = 0 ∨ t % 2 = 1) with q | q <;> rw [q] at e ⊢ <;> rw [Option.some.inj e] <;> first | rfl | exact ⟨rfl, .inl ⟨rfl, rfl⟩⟩
  · rw [at_ t ht]
    rcases (by omega : t % 2 = 0 ∨ t % 2 = 1) with q | q <;> rw [q] <;> rfl
end
theorem copiedPlayer (ls : List RPlayer) (k : Nat) (h : k < ls.length) : (ls.take k ++ List.replicate (ls.length - k) RPlayer.zero).set k ls[k] = ls.take (k + 1) ++ List.replicate (ls.length - (k + 1)) RPlayer.zero := by
  have e : ls.take (k + 1) = ls.take k ++ [ls[k]] := by rw [List.take_add_one, List.getElem?_eq_getElem h]; rfl
  rw [List.set_append_right _ _ (by rw [List.length_take]; omega), List.length_take, Nat.min_eq_left (by omega), Nat.sub_self, show ls.length - k = (ls.length - (k + 1)) + 1 by omega, List.replicate_succ, List.set_cons_zero, e, List.append_assoc]
  rfl
theorem infoPlayer : (Try.prog.info? 71).map (fun i => (i.zero, i.size, i.bytes)) = some (some (.agg #[.slice none 0 0, .int .i64 0]), 2, 32) := by kernel_rfl
end Go.Proofs.Ytanlfkkmnnjpeaa
