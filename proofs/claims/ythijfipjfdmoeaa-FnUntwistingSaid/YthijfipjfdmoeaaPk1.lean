/- Texts of this seat laid together, each with its own first sentence below: Base Three CrossM In IntR RowB OrdM. -/
import Derived.Test.YthijfipjfdmoeaaRows
import Derived.WalkKit
import Derived.WalkLawsBesides
import Derived.WalkSpells
import Derived.Below
import Derived.OwnWalk
import Derived.IntWalk
import Derived.Lib.Hide
import Derived.Handy
import Derived.Deep.MidRow
import Derived.Deep.OwnRows
import Derived.DataElems
import Derived.BigQuiet
import Derived.Deep.QuietTactic
import Derived.Deep.RegionHeld3
import Derived.Deep.Slices
import Derived.Lib.SmallJoins
import Derived.ChangeSame
/- Small lemmas that the walks share. No condition. -/
namespace Go.Proofs.Ythijfipjfdmoeaa
set_option linter.unusedVariables false
open Go.RowKit

theorem ret_int {k : IntKind} {a b : Int} (h : a = b) : Ending.returned (.int k a) = .returned (.int k b) := by rw [h]
end Go.Proofs.Ythijfipjfdmoeaa

/- Rows of structs of three numbers (limbs, cords): their cells, an argument of them, marks; and small facts on worlds. No condition. -/
namespace Go.Proofs.Ythijfipjfdmoeaa
set_option linter.unusedVariables false
open Go.RowKit

/-- A limb: its two ends and its length. -/
structure Lb where
  a : Int
  b : Int
  n : Int
def Lb.val (l : Lb) : Value := .agg #[.int .i64 l.a, .int .i64 l.b, .int .i64 l.n]
def Lb.cells (l : Lb) : List Value := [.int .i64 l.a, .int .i64 l.b, .int .i64 l.n]
def Lb.zero : Lb := ⟨0, 0, 0⟩ 
theorem Lb.val_cells (l : Lb) : l.val = .agg l.cells.toArray := rfl
def flatL (ls : List Lb) : List Value := ls.flatMap Lb.cells
theorem flatL_cons (l : Lb) (ls : List Lb) : flatL (l :: ls) = .int .i64 l.a :: .int .i64 l.b :: .int .i64 l.n :: flatL ls := rfl
theorem flatL_append (xs ys : List Lb) : flatL (xs ++ ys) = flatL xs ++ flatL ys := List.flatMap_append
theorem flatL_len (ls : List Lb) : (flatL ls).length = ls.length * 3 := by
  induction ls with
  | nil => rfl
  | cons l ls ih => rw [flatL_cons, List.length_cons, List.length_cons, List.length_cons, ih, List.length_cons]; omega
theorem flatL_at (ls : List Lb) (k j : Nat) (hj : j < 3) (hk : k < ls.length) : (flatL ls)[k * 3 + j]? = ls[k].cells[j]? := by
  induction ls generalizing k with
  | nil => simp at hk
  | cons l ls ih =>
    rw [flatL_cons]
    cases k with
    | zero =>
      rcases (by omega : j = 0 ∨ j = 1 ∨ j = 2) with rfl | rfl | rfl <;> rfl
    | succ k =>
      rw [show (k + 1) * 3 + j = (k * 3 + j) + 1 + 1 + 1 by omega]
      simpa using ih k (by simpa using hk)
theorem flatL_set (ls : List Lb) (k : Nat) (l : Lb) : flatL (ls.set k l) = (((flatL ls).set (k * 3) (.int .i64 l.a)).set (k * 3 + 1) (.int .i64 l.b)).set (k * 3 + 2) (.int .i64 l.n) := by
  induction ls generalizing k with
  | nil => rfl
  | cons x ls ih =>
    cases k with
    | zero => rfl
    | succ k =>
      rw [List.set_cons_succ, flatL_cons, flatL_cons, ih k]
      rw [show (k + 1) * 3 = k * 3 + 1 + 1 + 1 by omega]
      rw [show k * 3 + 1 + 1 + 1 + 1 = (k * 3 + 1) + 1 + 1 + 1 by omega]
      rw [show k * 3 + 1 + 1 + 1 + 2 = (k * 3 + 2) + 1 + 1 + 1 by omega]
      simp only [List.set_cons_succ]

theorem _root_.Go.World.there.three {w : World} {g o : Nat} (h : w.there g o 3) : (∃ v, w.cell? ⟨g, o, none⟩ = some v) ∧ (∃ v, w.cell? ⟨g, o + 1, none⟩ = some v) ∧ (∃ v, w.cell? ⟨g, o + 2, none⟩ = some v) ∧
    w.frozen? ⟨g, o, none⟩ = false ∧ w.frozen? ⟨g, o + 1, none⟩ = false ∧ w.frozen? ⟨g, o + 2, none⟩ = false :=
  ⟨Option.isSome_iff_exists.1 (h 0 (by omega)).1, Option.isSome_iff_exists.1 (h 1 (by omega)).1, Option.isSome_iff_exists.1 (h 2 (by omega)).1, (h 0 (by omega)).2, (h 1 (by omega)).2, (h 2 (by omega)).2⟩
/-- The limbs of an argument: nil, or they lie one behind the other. -/
def ArgL (w : World) (a : Option Addr) (ls : List Lb) : Prop :=
  (a = none ∧ ls = []) ∨ ∃ x, a = some x ∧ ∀ k (h : k < ls.length) j v, ls[k].cells[j]? = some v → w.cell? (x.add (k * 3 + j)) = some v

/-- The cells of limb k of an argument. -/
theorem argL_cells {w : World} {x : Addr} {ls : List Lb} (hx : ∀ k (h : k < ls.length) j v, ls[k].cells[j]? = some v → w.cell? (x.add (k * 3 + j)) = some v) {k : Nat} (h : k < ls.length) :
    w.cell? (x.add (k * 3)) = some (.int .i64 ls[k].a) ∧ w.cell? { block := (x.add (k * 3)).block, off := (x.add (k * 3)).off + 1 } = some (.int .i64 ls[k].b) ∧ w.cell? { block := (x.add (k * 3)).block, off := (x.add (k * 3)).off + 2 } = some (.int .i64 ls[k].n) := by
  have e : ∀ j, 0 < j → x.add (k * 3 + j) = { block := (x.add (k * 3)).block, off := (x.add (k * 3)).off + j } := fun j hj => by
    rw [← Addr.add_add]
    generalize x.add (k * 3) = y
    unfold Addr.add
    rw [if_neg (by omega)]
  refine ⟨hx k h 0 _ rfl, ?_, ?_⟩
  · rw [← e 1 (by omega)]
    exact hx k h 1 _ rfl
  · rw [← e 2 (by omega)]
    exact hx k h 2 _ rfl

theorem made_zero (n : Nat) : (madeCells Lb.zero.val.cells (n * 3)).toList = flatL (List.replicate n Lb.zero) := by
  have hz : ∀ v ∈ flatL (List.replicate n Lb.zero), v = .int .i64 0 := by
    induction n with
    | zero => intro v hv; cases hv
    | succ n ih =>
      intro v hv
      rw [List.replicate_succ, flatL_cons] at hv
      rcases hv with _ | ⟨_, _ | ⟨_, _ | ⟨_, hv⟩⟩⟩
      · rfl
      · rfl
      · rfl
      · exact ih v hv
  have hm : ∀ v ∈ (madeCells Lb.zero.val.cells (n * 3)).toList, v = .int .i64 0 := by
    intro v hv
    unfold madeCells at hv
    simp only [Array.toList_map, List.mem_map] at hv
    obtain ⟨j, _, rfl⟩ := hv
    have h3 : j % 3 < 3 := Nat.mod_lt _ (by omega)
    show (#[Value.int .i64 0, Value.int .i64 0, Value.int .i64 0])[j % 3]! = _
    rcases (by omega : j % 3 = 0 ∨ j % 3 = 1 ∨ j % 3 = 2) with h | h | h <;> rw [h] <;> rfl
  rw [List.eq_replicate_of_mem hz, List.eq_replicate_of_mem hm, flatL_len, List.length_replicate, Array.length_toList, size_madeCells]
theorem below_of_grown {w w' : World} (h : w.grownBy w' none) : Below w.heap.size w w' := ⟨h.os, h.tape, h.output, h.size, fun k hk => h.block k hk (by simp)⟩
theorem grown_of_below {w w' : World} (h : Below w.heap.size w w') (row : Option Nat) : w.grownBy w' row := ⟨h.os, h.tape, h.output, h.size, fun k hk _ => h.block k hk⟩
theorem copied_set (ls : List Lb) (k : Nat) (h : k < ls.length) : (ls.take k ++ List.replicate (ls.length - k) Lb.zero).set k ls[k] = ls.take (k + 1) ++ List.replicate (ls.length - (k + 1)) Lb.zero := by
  have e : ls.take (k + 1) = ls.take k ++ [ls[k]] := by rw [List.take_add_one, List.getElem?_eq_getElem h]; rfl
  rw [List.set_append_right _ _ (by rw [List.length_take]; omega), List.length_take, Nat.min_eq_left (by omega), Nat.sub_self, show ls.length - k = (ls.length - (k + 1)) + 1 by omega, List.replicate_succ, List.set_cons_zero, e, List.append_assoc]
  rfl

theorem World.cell_setCell_some {w : World} {a b : Addr} {x u y : Value} (_ : w.cell? a = some x) (h : w.cell? b = some y) : ∃ z, (w.setCell a u).cell? b = some z := by
  by_cases e : a = b
  · subst e
    exact ⟨_, World.cell?_setCell_same _ _ _ h⟩
  · exact ⟨_, (World.cell?_setCell_other _ _ _ _ e).trans h⟩
/-- The two cells of a struct's block behind the stores. -/
theorem cells_set2 {w : World} {g : Nat} {u v : Value} (h0 : ∃ x, w.cell? ⟨g, 0, none⟩ = some x) (h1 : ∃ y, w.cell? ⟨g, 1, none⟩ = some y) :
    ((w.setCell ⟨g, 0, none⟩ u).setCell ⟨g, 1, none⟩ v).cell? ⟨g, 0, none⟩ = some u ∧ ((w.setCell ⟨g, 0, none⟩ u).setCell ⟨g, 1, none⟩ v).cell? ⟨g, 1, none⟩ = some v := by
  obtain ⟨x, h0⟩ := h0
  obtain ⟨y, h1⟩ := h1
  refine ⟨?_, ?_⟩
  · rw [World.cell?_setCell_other _ _ _ _ (by simp), World.cell?_setCell_same _ _ _ h0]
  · refine World.cell?_setCell_same (u := y) _ _ _ ?_
    rw [World.cell?_setCell_other _ _ _ _ (by simp), h1]

theorem _root_.Go.World.rangeAt.below {w w' : World} {B g o : Nat} {cs : List Value} (h : w.rangeAt g o cs) (hb : Below B w w') (hg : g < B) : w'.rangeAt g o cs :=
  fun j v hv => (hb.cell hg).trans (h j v hv)
theorem ArgL.alloc {w : World} {a : Option Addr} {ls : List Lb} (h : ArgL w a ls) (o : Obj) : ArgL (w.alloc o) a ls := by
  rcases h with h | ⟨x, e, h⟩
  · exact .inl h
  · exact .inr ⟨x, e, fun k hk j v hv => by
      have := h k hk j v hv
      rw [World.cell?_alloc_lt _ _ _ (World.block_lt_of_cell? w _ this)]
      exact this⟩

abbrev Six (w : World) (g h o : Nat) (l : Lb) : Prop :=
  w.cell? ⟨g, o, none⟩ = some (.int .i64 l.a) ∧ w.cell? ⟨g, o + 1, none⟩ = some (.int .i64 l.b) ∧ w.cell? ⟨g, o + 2, none⟩ = some (.int .i64 l.n) ∧
    w.cell? ⟨h, o, none⟩ = some (.int .i64 l.a) ∧ w.cell? ⟨h, o + 1, none⟩ = some (.int .i64 l.b) ∧ w.cell? ⟨h, o + 2, none⟩ = some (.int .i64 l.n)
theorem six_cells {w : World} {g h o : Nat} {l : Lb} (r1 : w.rangeAt g o l.cells) (r2 : w.rangeAt h o l.cells) : Six w g h o l :=
  ⟨r1 0 _ rfl, r1 1 _ rfl, r1 2 _ rfl, r2 0 _ rfl, r2 1 _ rfl, r2 2 _ rfl⟩
theorem cell_below {w w' : World} {p : Addr} {v : Value} (h : w.cell? p = some v) (hb : Below w.heap.size w w') : w'.cell? p = some v := (hb.cell (World.block_lt_of_cell? w p h)).trans h
theorem six_below {w w' : World} {g h o : Nat} {l : Lb} (s : Six w g h o l) (hb : Below w.heap.size w w') : Six w' g h o l :=
  ⟨cell_below s.1 hb, cell_below s.2.1 hb, cell_below s.2.2.1 hb, cell_below s.2.2.2.1 hb, cell_below s.2.2.2.2.1 hb, cell_below s.2.2.2.2.2 hb⟩

/-- n limbs marked from number u on. -/
def marksL (u n : Nat) : List Lb := (List.range n).map fun j => ⟨((u + 3 * j : Nat) : Int), ((u + 3 * j + 1 : Nat) : Int), ((u + 3 * j + 2 : Nat) : Int)⟩
theorem marksL_len (u n : Nat) : (marksL u n).length = n := by simp [marksL]
theorem marksL_at (u n k : Nat) (h : k < n) : (marksL u n)[k]'(by rw [marksL_len]; exact h) = ⟨((u + 3 * k : Nat) : Int), ((u + 3 * k + 1 : Nat) : Int), ((u + 3 * k + 2 : Nat) : Int)⟩ := by simp [marksL]
theorem marksL_set (u : Nat) (ls : List Lb) (k : Nat) (h : k < ls.length) :
    (marksL u k ++ ls.drop k).set k ⟨((u + 3 * k : Nat) : Int), ((u + 3 * k + 1 : Nat) : Int), ((u + 3 * k + 2 : Nat) : Int)⟩ = marksL u (k + 1) ++ ls.drop (k + 1) := by
  rw [List.drop_eq_getElem_cons h, List.set_append_right _ _ (by simp [marksL_len]), marksL_len, Nat.sub_self, List.set_cons_zero]
  unfold marksL
  simp only [List.range_succ, List.map_append, List.map_cons, List.map_nil, List.append_assoc, List.cons_append, List.nil_append]
theorem grown_then {a b c : World} {row : Option Nat} (h : a.grownBy b row) (k : b.grownBy c row) : a.grownBy c row :=
  ⟨k.os.trans h.os, k.tape.trans h.tape, k.output.trans h.output, Nat.le_trans h.size k.size, fun i hi hne => (k.block i (Nat.lt_of_lt_of_le hi h.size) hne).trans (h.block i hi hne)⟩

theorem ArgL.below {w w' : World} {a : Option Addr} {ls : List Lb} (h : ArgL w a ls) (hb : Below w.heap.size w w') : ArgL w' a ls := by
  rcases h with h | ⟨x, e, h⟩
  · exact .inl h
  · exact .inr ⟨x, e, fun k hk j v hv => cell_below (h k hk j v hv) hb⟩

theorem list_of {α : Type} (P : Nat → α → Prop) (n : Nat) (h : ∀ i, i < n → ∃ x, P i x) : ∃ xs : List α, xs.length = n ∧ ∀ i (hi : i < xs.length), P i xs[i] := by
  induction n with
  | zero => exact ⟨[], rfl, fun i hi => by simp at hi⟩
  | succ n ih =>
    obtain ⟨xs, hl, hx⟩ := ih (fun i hi => h i (by omega))
    obtain ⟨x, hp⟩ := h n (by omega)
    refine ⟨xs ++ [x], by simp [hl], fun i hi => ?_⟩
    by_cases e : i < xs.length
    · rw [List.getElem_append_left e]
      exact hx i e
    · rw [List.length_append, List.length_singleton] at hi
      obtain rfl : i = n := by omega
      rw [List.getElem_append_right (by omega)]
      simpa [hl] using hp

end Go.Proofs.Ythijfipjfdmoeaa

/- Cross: a struct of 2 plain fields as the walks see it: its cells, a row that came in, a row of the call's own (made by gen_rec.py). No condition. -/
namespace Go.Proofs.Ythijfipjfdmoeaa
set_option linter.unusedVariables false
set_option linter.unusedSimpArgs false
open Go.RowKit Go.ChangeShapes Go.WideShapes Go.ChangeAt Go.Deep Go.Joins

structure RCross where
  f0 : Int
  f1 : Bool
def RCross.cells (l : RCross) : List Value := [.int .i64 l.f0, .bool l.f1]
def RCross.val (l : RCross) : Value := .agg #[.int .i64 l.f0, .bool l.f1]
def RCross.zero : RCross := ⟨0, false⟩
def flatCross (ls : List RCross) : List Value := ls.flatMap RCross.cells
theorem flatCross_cons (l : RCross) (ls : List RCross) : flatCross (l :: ls) = .int .i64 l.f0 :: .bool l.f1 :: flatCross ls := rfl
theorem flatCross_append (xs ys : List RCross) : flatCross (xs ++ ys) = flatCross xs ++ flatCross ys := List.flatMap_append
theorem flatCross_len (ls : List RCross) : (flatCross ls).length = ls.length * 2 := by
  induction ls with
  | nil => rfl
  | cons l ls ih => rw [flatCross_cons, List.length_cons, List.length_cons, ih, List.length_cons]; omega
theorem flatCross_at (ls : List RCross) (k j : Nat) (hj : j < 2) (hk : k < ls.length) : (flatCross ls)[k * 2 + j]? = ls[k].cells[j]? := by
  induction ls generalizing k with
  | nil => simp at hk
  | cons l ls ih =>
    rw [flatCross_cons]
    cases k with
    | zero =>
      rcases (by omega : j = 0 ∨ j = 1) with rfl | rfl <;> rfl
    | succ k =>
      rw [show (k + 1) * 2 + j = (k * 2 + j) + 1 + 1 by omega]
      simpa using ih k (by simpa using hk)
theorem flatCross_set (ls : List RCross) (k : Nat) (l : RCross) : flatCross (ls.set k l) = ((flatCross ls).set (k * 2) (.int .i64 l.f0)).set (k * 2 + 1) (.bool l.f1) := by
  induction ls generalizing k with
  | nil => rfl
  | cons x ls ih =>
    cases k with
    | zero => rfl
    | succ k =>
      rw [List.set_cons_succ, flatCross_cons, flatCross_cons, ih k]
      rw [show (k + 1) * 2 = k * 2 + 1 + 1 by omega]
      rw [show k * 2 + 1 + 1 + 1 = (k * 2 + 1) + 1 + 1 by omega]
      simp only [List.set_cons_succ]
theorem thereCross {w : World} {g o : Nat} (h : w.there g o 2) : (∃ v, w.cell? ⟨g, o, none⟩ = some v) ∧ (∃ v, w.cell? ⟨g, o + 1, none⟩ = some v) ∧ w.frozen? ⟨g, o, none⟩ = false ∧ w.frozen? ⟨g, o + 1, none⟩ = false :=
  ⟨Option.isSome_iff_exists.1 (h 0 (by omega)).1, Option.isSome_iff_exists.1 (h 1 (by omega)).1, (h 0 (by omega)).2, (h 1 (by omega)).2⟩
/-- Structs that came in: nil, or they lie one behind the other. -/
def ArgCross (w : World) (a : Option Addr) (ls : List RCross) : Prop :=
  (a = none ∧ ls = []) ∨ ∃ x, a = some x ∧ ∀ k (h : k < ls.length) j v, ls[k].cells[j]? = some v → w.cell? (x.add (k * 2 + j)) = some v
theorem argCross_cells {w : World} {x : Addr} {ls : List RCross} (hx : ∀ k (h : k < ls.length) j v, ls[k].cells[j]? = some v → w.cell? (x.add (k * 2 + j)) = some v) {k : Nat} (h : k < ls.length) :
    w.cell? (x.add (k * 2)) = some (.int .i64 ls[k].f0) ∧ w.cell? { block := (x.add (k * 2)).block, off := (x.add (k * 2)).off + 1 } = some (.bool ls[k].f1) := by
  have e : ∀ j, 0 < j → x.add (k * 2 + j) = { block := (x.add (k * 2)).block, off := (x.add (k * 2)).off + j } := fun j hj => by
    rw [← Addr.add_add]
    generalize x.add (k * 2) = y
    unfold Addr.add
    rw [if_neg (by omega)]
  refine ⟨hx k h 0 _ rfl, ?_⟩
  · rw [← e 1 (by omega)]
    exact hx k h 1 _ rfl
def BothCross (w : World) (g h o : Nat) (l : RCross) : Prop := w.cell? ⟨g, o, none⟩ = some (.int .i64 l.f0) ∧ w.cell? ⟨g, o + 1, none⟩ = some (.bool l.f1) ∧ w.cell? ⟨h, o, none⟩ = some (.int .i64 l.f0) ∧ w.cell? ⟨h, o + 1, none⟩ = some (.bool l.f1)
theorem bothCross_cells {w : World} {g h o : Nat} {l : RCross} (r1 : w.rangeAt g o l.cells) (r2 : w.rangeAt h o l.cells) : BothCross w g h o l :=
  ⟨r1 0 _ rfl, r1 1 _ rfl, r2 0 _ rfl, r2 1 _ rfl⟩
theorem bothCross_below {w w' : World} {g h o : Nat} {l : RCross} (s : BothCross w g h o l) (hb : Below w.heap.size w w') : BothCross w' g h o l :=
  ⟨cell_below s.1 hb, cell_below s.2.1 hb, cell_below s.2.2.1 hb, cell_below s.2.2.2 hb⟩
theorem ArgCross.below {w w' : World} {a : Option Addr} {ls : List RCross} (h : ArgCross w a ls) (hb : Below w.heap.size w w') : ArgCross w' a ls := by
  rcases h with h | ⟨x, e, h⟩
  · exact .inl h
  · exact .inr ⟨x, e, fun k hk j v hv => cell_below (h k hk j v hv) hb⟩
theorem ArgCross.alloc {w : World} {a : Option Addr} {ls : List RCross} (h : ArgCross w a ls) (o : Obj) : ArgCross (w.alloc o) a ls := h.below ((Below.refl _ _).alloc (Nat.le_refl _) _)
theorem madeCross (n : Nat) : (madeCells RCross.zero.val.cells (n * 2)).toList = flatCross (List.replicate n RCross.zero) := by
  refine List.ext_getElem (by rw [flatCross_len, List.length_replicate, Array.length_toList, size_madeCells]) fun i h1 h2 => ?_
  have hi : i < n * 2 := by rw [flatCross_len, List.length_replicate] at h2; exact h2
  have hq : i / 2 < n := Nat.div_lt_of_lt_mul (by omega)
  have hm : i % 2 < 2 := Nat.mod_lt _ (by omega)
  have e := flatCross_at (List.replicate n RCross.zero) (i / 2) (i % 2) hm (by rw [List.length_replicate]; exact hq)
  rw [show i / 2 * 2 + i % 2 = i by omega, List.getElem?_eq_getElem h2, List.getElem_replicate] at e
  have l : (madeCells RCross.zero.val.cells (n * 2)).toList[i] = (#[Value.int .i64 0, Value.bool false])[i % 2]! := by
    simp only [madeCells, Array.getElem_toList, Array.getElem_map, Array.getElem_range]
    rfl
  rw [l]
  rcases (by omega : i % 2 = 0 ∨ i % 2 = 1) with h | h <;> rw [h] at e ⊢ <;> exact (Option.some.inj e).symm

/-- A slice value that owns the structs ls. -/
def OwnCross (w : World) (base : Nat) (v : Value) (ls : List RCross) : Prop := w.ownsRow base 56 2 v ls.length (flatCross ls)
section
variable {w w' : World} {base b : Nat} {v : Value} {ls : List RCross}
theorem OwnCross.alloc (h : OwnCross w base v ls) (o : Obj) : OwnCross (w.alloc o) base v ls := World.ownsRow.alloc h o
theorem OwnCross.lt (h : OwnCross w base v ls) : ∀ k, v.ownBlock = some k → base ≤ k ∧ k < w.heap.size := World.ownsRow.lt h
theorem OwnCross.kept {row : Option Nat} (h : OwnCross w base v ls) (hg : w.grownBy w' row) (hne : v.ownBlock = none ∨ v.ownBlock ≠ row) : OwnCross w' base v ls := World.ownsRow.kept h hg hne
theorem OwnCross.below (h : OwnCross w base v ls) (hb : Below w.heap.size w w') : OwnCross w' base v ls := h.kept (grown_of_below hb none) (by cases v.ownBlock <;> simp)
theorem OwnCross.mono (h : OwnCross w base v ls) (hb : b ≤ base) : OwnCross w b v ls := by
  obtain ⟨h1, h2⟩ := h
  refine ⟨h1, ?_⟩
  rcases h2 with h2 | ⟨g, cap, cur, e, hg, rest⟩
  · exact .inl h2
  · exact .inr ⟨g, cap, cur, e, Nat.le_trans hb hg, rest⟩
theorem OwnCross.slice (h : OwnCross w base v ls) : ∃ A c, v = .slice A ls.length c := by
  rcases h.2 with ⟨rfl, hn⟩ | ⟨g, cap, _, rfl, _⟩
  · exact ⟨none, 0, by rw [hn]⟩
  · exact ⟨_, _, rfl⟩
theorem OwnCross.spot (h : OwnCross w base v ls) {k : Nat} (hk : k < ls.length) :
    ∃ g c, v = .slice (some ⟨g, 0, none⟩) ls.length c ∧ base ≤ g ∧ g < w.heap.size ∧ w.rangeAt g (k * 2) ls[k].cells ∧ w.there g (k * 2) 2 := by
  rcases h.2 with ⟨_, hn⟩ | ⟨g, cap, cur, hv, hb, hg, _⟩
  · omega
  · subst hv
    have hat : ∀ j, j < 2 → w.cell? ⟨g, k * 2 + j, none⟩ = ls[k].cells[j]? := fun j hj => by
      rw [World.ownsRow.cellAt h _ (by omega), flatCross_at ls k j hj hk]
    refine ⟨g, cap, rfl, hb, (Array.getElem?_eq_some_iff.1 hg).1, fun j x hx => ?_, fun j hj => ⟨?_, World.ownsRow.frozenAt h _⟩⟩
    · have hj : j < 2 := (List.getElem?_eq_some_iff.1 hx).1
      rw [hat j hj, hx]
    · rw [hat j hj]
      rcases (by omega : j = 0 ∨ j = 1) with rfl | rfl <;> rfl
theorem OwnCross.there {g c n : Nat} (h : OwnCross w base (.slice (some ⟨g, 0, none⟩) n c) ls) {k : Nat} (hk : k < ls.length) : w.there g (k * 2) 2 := by
  obtain ⟨g', c', e, _, _, _, t⟩ := h.spot hk
  simp only [Value.slice.injEq, Option.some.injEq, Addr.mk.injEq] at e
  obtain ⟨⟨rfl, _⟩, _⟩ := e
  exact t
theorem OwnCross.set {g c n : Nat} (h : OwnCross w base (.slice (some ⟨g, 0, none⟩) n c) ls) (hn : n = ls.length) (k : Nat) (l : RCross) :
    OwnCross (w.setCells g (k * 2) l.cells) base (.slice (some ⟨g, 0, none⟩) n c) (ls.set k l) ∧ w.grownBy (w.setCells g (k * 2) l.cells) (some g) := by
  subst hn
  unfold OwnCross at *
  obtain ⟨h1, g1⟩ := World.ownsRow.stored h (k * 2) (.int .i64 l.f0)
  obtain ⟨h2, g2⟩ := World.ownsRow.stored h1 (k * 2 + 1) (.bool l.f1)
  rw [flatCross_set, List.length_set]
  exact ⟨h2, grown_then g1 g2⟩
theorem snocCross {x : RCross} (h : w.ownsRow base 56 2 v (ls.length + 1) (flatCross ls ++ [.int .i64 x.f0, .bool x.f1])) : OwnCross w base v (ls ++ [x]) := by
  unfold OwnCross
  rw [List.length_append, flatCross_append]
  exact h
end
theorem emptyCross (w : World) (base g : Nat) (cs : Array Value) (hg : g = w.heap.size) (hb : base ≤ g) (hs : cs.size = 0) : OwnCross (w.alloc (.cells cs 56)) base (.slice (some ⟨g, 0, none⟩) 0 0) [] := by
  subst hg
  exact ⟨rfl, .inr ⟨w.heap.size, 0, cs, rfl, hb, heap_alloc_new w _, Nat.le_refl _, by simp only [maxLen]; omega, by omega, by simp [flatCross]⟩⟩
theorem copiedCross (ls : List RCross) (k : Nat) (h : k < ls.length) : (ls.take k ++ List.replicate (ls.length - k) RCross.zero).set k ls[k] = ls.take (k + 1) ++ List.replicate (ls.length - (k + 1)) RCross.zero := by
  have e : ls.take (k + 1) = ls.take k ++ [ls[k]] := by rw [List.take_add_one, List.getElem?_eq_getElem h]; rfl
  rw [List.set_append_right _ _ (by rw [List.length_take]; omega), List.length_take, Nat.min_eq_left (by omega), Nat.sub_self, show ls.length - k = (ls.length - (k + 1)) + 1 by omega, List.replicate_succ, List.set_cons_zero, e, List.append_assoc]
  rfl
theorem infoCross : (Try.prog.info? 56).map (fun i => (i.zero, i.size, i.bytes)) = some (some RCross.zero.val, 2, 16) := by kernel_rfl
theorem sizeCross : (Try.prog.info? 56).map (·.size) = some 2 := by kernel_rfl
theorem sizeCrossA : (Try.prog.info? 65).map (·.size) = some 2 := by kernel_rfl

section
variable {H : Type} {enc : TypeId × Value → H} {W : World}
set_option maxRecDepth 100000 in
/-- A slice of them that came in. -/
theorem openCrossS {d : DataW H} {p : List MemPlace} {a : Option Addr} {n cap : Nat} (h : DataW.Trod enc Try.prog W 0 (fun _ => true) true 42 (.slice a n cap) d p) :
    ∃ ls : List RCross, n = ls.length ∧ ArgCross W a ls ∧ ls.length ≤ maxLen := by
  obtain ⟨fuel, h⟩ := h
  have hC : (Try.prog).cellsOf 65 = 2 := by kernel_rfl
  rcases open_slice Try.underlying42 h with ⟨hcs, _⟩ | ⟨x, len, c, m, q, D, Pl, hcs, _, hl, hm, hmm, _, hi⟩
  · simp [Value.cells] at hcs
    obtain ⟨rfl, rfl, rfl⟩ := hcs
    exact ⟨[], rfl, .inl ⟨rfl, rfl⟩, by simp⟩
  · simp [Value.cells] at hcs
    obtain ⟨rfl, rfl, rfl⟩ := hcs
    have hlm : n ≤ m := by rw [hmm]; split <;> omega
    rw [hC] at hi
    have cell : ∀ i, i < n → ∃ l : RCross, ∀ j v, l.cells[j]? = some v → W.cell? (x.add (i * 2 + j)) = some v := by
      intro i hi'
      obtain ⟨cs', hc, ht⟩ := hi i (by omega)
      obtain ⟨_, hcl, hat⟩ := World.cells?_some hc
      obtain ⟨xs, n', _, _, _, hxl, hf⟩ := DataW.trod_struct Try.underlying65 ht
      have h_bool : (Try.prog).cellsOf 4 = 1 := by kernel_rfl
      have h_int : (Try.prog).cellsOf 3 = 1 := by kernel_rfl
      match cs', hcl with
      | [c0, c1], _ =>
        have g0 : DataW.trod enc Try.prog W 0 (fun _ => true) true n' 3 (List.take ((Try.prog).cellsOf 3) [c0, c1]) = xs[0]? := hf 0 _ rfl
        have g1 : DataW.trod enc Try.prog W 0 (fun _ => true) true n' 4 (List.take ((Try.prog).cellsOf 4) [c1]) = xs[1]? := hf 1 _ rfl
        rw [List.getElem?_eq_getElem (by rw [hxl]; decide)] at g0 g1
        rw [h_int] at g0
        rw [h_bool] at g1
        obtain ⟨n0, e0, _⟩ := DataW.trod_int Try.underlying3 g0
        have e0 : c0 = .int .i64 n0 := by simpa using e0
        obtain ⟨n1, e1, _⟩ := DataW.trod_bool Try.underlying4 g1
        have e1 : c1 = .bool n1 := by simpa using e1
        refine ⟨⟨n0, n1⟩, fun j v hj => ?_⟩
        have hj3 : j < 2 := (List.getElem?_eq_some_iff.1 hj).1
        rw [← Addr.add_add, hat j hj3, ← hj, e0, e1]
        rfl
    obtain ⟨ls, hls, hx⟩ := list_of (fun i (l : RCross) => ∀ j v, l.cells[j]? = some v → W.cell? (x.add (i * 2 + j)) = some v) n cell
    subst hls
    exact ⟨ls, rfl, .inr ⟨x, rfl, fun k hk j v hv => hx k hk j v hv⟩, by omega⟩
end
end Go.Proofs.Ythijfipjfdmoeaa

/- The contract of spec.l01In. No condition. -/
namespace Go.Proofs.Ythijfipjfdmoeaa
set_option linter.unusedVariables false
open Go.RowKit

theorem wf_i64 {n : Int} (h : (Lit.int .i64 n).wf = true) : -9223372036854775808 ≤ n ∧ n ≤ 9223372036854775807 := by
  have e1 : IntKind.i64.min = -9223372036854775808 := by decide
  have e2 : IntKind.i64.max = 9223372036854775807 := by decide
  simp only [Lit.wf, Bool.and_eq_true, decide_eq_true_eq, e1, e2] at h
  exact h
theorem l01In_yes {v lo hi : Int} (h : lo ≤ v ∧ v ≤ hi) (w : World) :
    Calls Try.prog 48 #[.int .i64 v, .int .i64 lo, .int .i64 hi] w fun e w' => e = .returned (.bool true) ∧ w' = w := by
  obtain ⟨h1, h2⟩ := h
  go_enter Try.func48, Try.ntmps48
  go_wp2
  go_ret
  exact ⟨rfl, rfl⟩
theorem l01In_no {v lo hi : Int} (h : ¬ (lo ≤ v ∧ v ≤ hi)) (w : World) :
    Calls Try.prog 48 #[.int .i64 v, .int .i64 lo, .int .i64 hi] w fun e w' => e = .returned (.bool false) ∧ w' = w := by
  by_cases h1 : lo ≤ v
  · have h2 : ¬ v ≤ hi := fun x => h ⟨h1, x⟩
    go_enter Try.func48, Try.ntmps48
    go_wp2
    go_ret
    exact ⟨rfl, rfl⟩
  · go_enter Try.func48, Try.ntmps48
    go_wp2
    go_ret
    exact ⟨rfl, rfl⟩

/-- Is v from lo to hi? -/
def inB (v lo hi : Int) : Bool := decide (lo ≤ v ∧ v ≤ hi)
theorem inB_yes {v lo hi : Int} (h : lo ≤ v ∧ v ≤ hi) : inB v lo hi = true := by simp [inB, h]
theorem inB_no {v lo hi : Int} (h : ¬ (lo ≤ v ∧ v ≤ hi)) : inB v lo hi = false := by unfold inB; exact decide_eq_false h
theorem l01In_any (v lo hi : Int) (w : World) :
    Calls Try.prog 48 #[.int .i64 v, .int .i64 lo, .int .i64 hi] w fun e w' => e = .returned (.bool (inB v lo hi)) ∧ w' = w := by
  by_cases h : lo ≤ v ∧ v ≤ hi
  · rw [inB_yes h]
    exact l01In_yes h w
  · rw [inB_no h]
    exact l01In_no h w
end Go.Proofs.Ythijfipjfdmoeaa

/- Rows of numbers that a call owns, and the contracts of the functions of the exact laws that compare, mark and look at them. Condition: the rows are the call's own. -/
namespace Go.Proofs.Ythijfipjfdmoeaa
set_option linter.unusedVariables false
open Go.RowKit

def intV (z : Int) : Value := .int .i64 z
/-- A slice value that owns the numbers zs. -/
def OwnI (w : World) (base : Nat) (v : Value) (zs : List Int) : Prop := w.ownsRow base 3 1 v zs.length (zs.map intV)
theorem info_int : (Try.prog.info? 3).map (fun i => (i.zero, i.size, i.bytes)) = some (some (.int .i64 0), 1, 8) := by kernel_rfl
section
variable {w w' : World} {base b : Nat} {v : Value} {zs : List Int}
theorem OwnI.alloc (h : OwnI w base v zs) (o : Obj) : OwnI (w.alloc o) base v zs := World.ownsRow.alloc h o
theorem OwnI.lt (h : OwnI w base v zs) : ∀ k, v.ownBlock = some k → base ≤ k ∧ k < w.heap.size := World.ownsRow.lt h
theorem OwnI.kept {row : Option Nat} (h : OwnI w base v zs) (hg : w.grownBy w' row) (hne : v.ownBlock = none ∨ v.ownBlock ≠ row) : OwnI w' base v zs := World.ownsRow.kept h hg hne
theorem OwnI.below (h : OwnI w base v zs) (hb : Below w.heap.size w w') : OwnI w' base v zs := h.kept (grown_of_below hb none) (by cases v.ownBlock <;> simp)
theorem OwnI.mono (h : OwnI w base v zs) (hb : b ≤ base) : OwnI w b v zs := by
  refine ⟨h.1, ?_⟩
  rcases h.2 with h0 | ⟨g, cap, cur, e, hg, r⟩
  · exact .inl h0
  · exact .inr ⟨g, cap, cur, e, Nat.le_trans hb hg, r⟩
theorem OwnI.slice (h : OwnI w base v zs) : ∃ A c, v = .slice A zs.length c := by
  rcases h.2 with ⟨rfl, hn⟩ | ⟨g, cap, _, rfl, _⟩
  · exact ⟨none, 0, by rw [hn]⟩
  · exact ⟨_, _, rfl⟩
theorem OwnI.spot (h : OwnI w base v zs) {k : Nat} (hk : k < zs.length) :
    ∃ g c, v = .slice (some ⟨g, 0, none⟩) zs.length c ∧ base ≤ g ∧ g < w.heap.size ∧ w.cell? ⟨g, k, none⟩ = some (.int .i64 zs[k]) ∧ w.frozen? ⟨g, k, none⟩ = false := by
  rcases h.2 with ⟨_, hn⟩ | ⟨g, cap, cur, hv, hb, hg, _⟩
  · omega
  · subst hv
    refine ⟨g, cap, rfl, hb, (Array.getElem?_eq_some_iff.1 hg).1, ?_, World.ownsRow.frozenAt h k⟩
    rw [World.ownsRow.cellAt h k (by omega)]
    simp [hk, intV]
theorem OwnI.set {g c n : Nat} (h : OwnI w base (.slice (some ⟨g, 0, none⟩) n c) zs) (hn : n = zs.length) (k : Nat) (z : Int) :
    OwnI (w.setCell ⟨g, k, none⟩ (.int .i64 z)) base (.slice (some ⟨g, 0, none⟩) n c) (zs.set k z) ∧ w.grownBy (w.setCell ⟨g, k, none⟩ (.int .i64 z)) (some g) := by
  subst hn
  unfold OwnI at *
  obtain ⟨h1, g1⟩ := World.ownsRow.stored h k (.int .i64 z)
  rw [List.length_set, List.map_set]
  exact ⟨h1, g1⟩
end
end Go.Proofs.Ythijfipjfdmoeaa

/- Elder cells, rows of numbers that grow by append, and rows that lie apart. No condition. -/
namespace Go.Proofs.Ythijfipjfdmoeaa
set_option linter.unusedVariables false
open Go.RowKit

theorem apart_of {v1 v2 : Value} {b : Nat} (h1 : ∀ k, v1.ownBlock = some k → k < b) (h2 : ∀ k, v2.ownBlock = some k → b ≤ k) : v1.ownBlock = none ∨ v1.ownBlock ≠ v2.ownBlock := by
  cases h : v1.ownBlock with
  | none => exact .inl rfl
  | some k =>
    refine .inr fun e => ?_
    have a := h1 k h
    have b := h2 k e.symm
    omega
/-- A cell of an elder block, behind one, two and three blocks more. -/
theorem elder {w : World} {p : Addr} {v : Value} (h : w.cell? p = some v) :
    (∀ o, (w.alloc o).cell? p = some v) ∧ (∀ o o', ((w.alloc o).alloc o').cell? p = some v) ∧ (∀ o o' o'', (((w.alloc o).alloc o').alloc o'').cell? p = some v) := by
  have h0 := World.block_lt_of_cell? w p h
  refine ⟨fun o => ?_, fun o o' => ?_, fun o o' o'' => ?_⟩
  · rw [World.cell?_alloc_lt _ _ _ h0, h]
  · rw [World.cell?_alloc_lt _ _ _ (by simp; omega), World.cell?_alloc_lt _ _ _ h0, h]
  · rw [World.cell?_alloc_lt _ _ _ (by simp; omega), World.cell?_alloc_lt _ _ _ (by simp; omega), World.cell?_alloc_lt _ _ _ h0, h]
theorem grown_cell (w : World) (a : Addr) (u : Value) : w.grownBy (w.setCell a u) (some a.block) :=
  ⟨rfl, rfl, rfl, by simp [World.setCell], fun k _ hk => Below.heap_setCell _ _ _ _ (by rintro rfl; exact hk rfl)⟩
def IntsPost (w : World) (zs : List Int) (e : Ending) (w' : World) : Prop := ∃ v, e = .returned v ∧ OwnI w' w.heap.size v zs ∧ Below w.heap.size w w'
theorem undrew {B : Nat} {W w2 : World} (h : Below B W.drew w2) : Below B W w2 := ⟨h.os, h.tape, h.output, h.size, h.block⟩
theorem ownI_empty (w : World) (base g : Nat) (cs : Array Value) (hg : g = w.heap.size) (hb : base ≤ g) (hs : cs.size = 0) : OwnI (w.alloc (.cells cs 3)) base (.slice (some ⟨g, 0, none⟩) 0 0) [] := by
  subst hg
  exact ⟨rfl, .inr ⟨w.heap.size, 0, cs, rfl, hb, heap_alloc_new w _, Nat.le_refl _, Nat.zero_le _, by omega, by simp⟩⟩

theorem OwnI.moved {w w' : World} {base : Nat} {v : Value} {zs : List Int} (h : OwnI w base v zs) (hb : Below w.heap.size w w') : OwnI w' base v zs := h.below hb
theorem ints_snoc_below {w0 wr w1 : World} {B : Nat} {o : Obj} {v : Value} {zs : List Int} (hb : Below B w0 wr) (hB : B ≤ wr.heap.size) (hown : OwnI wr B v zs) (hg : (wr.alloc o).grownBy w1 v.ownBlock) : Below B w0 w1 :=
  (hb.alloc hB o).grown hg (by simp; omega) (fun k hk => (hown.lt k hk).1)
theorem ownI_snoc {w : World} {base : Nat} {v : Value} {zs : List Int} {x : Int} (h : w.ownsRow base 3 1 v (zs.length + 1) (zs.map intV ++ [.int .i64 x])) : OwnI w base v (zs ++ [x]) := by
  unfold OwnI
  rw [List.length_append, List.map_append]
  exact h
theorem sep_of {a b : Option Nat} (h : ∀ k, a = some k → b ≠ some k) : a = none ∨ a ≠ b := by
  cases a with
  | none => exact .inl rfl
  | some k => exact .inr fun e => h k rfl e.symm
end Go.Proofs.Ythijfipjfdmoeaa

/- Orders as plain mathematics: when a row of numbers is an order, exchanges of neighbours, inversions, the exchanges that sort, places. -/
namespace Go.Proofs.Ythijfipjfdmoeaa
set_option linter.unusedVariables false
set_option linter.unusedSimpArgs false

/-- The first i numbers that are greater than x. -/
def above (f : Nat → Int) (x : Int) : Nat → Nat
  | 0 => 0
  | i + 1 => above f x i + if x < f i then 1 else 0
/-- The inversions among the first k numbers. -/
def invF (f : Nat → Int) : Nat → Nat
  | 0 => 0
  | k + 1 => invF f k + above f (f k) k
/-- The two at k and behind it exchanged. -/
def swF (f : Nat → Int) (k i : Nat) : Int := if i = k then f (k + 1) else if i = k + 1 then f k else f i
section
variable {f g : Nat → Int} {x : Int} {k n : Nat}
theorem above_congr {i : Nat} (h : ∀ j, j < i → f j = g j) : above f x i = above g x i := by
  induction i with
  | zero => rfl
  | succ i ih => rw [above, above, ih (fun j hj => h j (by omega)), h i (by omega)]
theorem above_le (f : Nat → Int) (x : Int) (i : Nat) : above f x i ≤ i := by
  induction i with
  | zero => exact Nat.le_refl _
  | succ i ih => rw [above]; split <;> omega
theorem invF_congr (h : ∀ j, j < n → f j = g j) : invF f n = invF g n := by
  induction n with
  | zero => rfl
  | succ n ih => rw [invF, invF, ih (fun j hj => h j (by omega)), h n (by omega), above_congr (fun j hj => h j (by omega))]
theorem swF_low {i : Nat} (h : i < k) : swF f k i = f i := by unfold swF; rw [if_neg (by omega), if_neg (by omega)]
theorem swF_at : swF f k k = f (k + 1) := by unfold swF; rw [if_pos rfl]
theorem swF_next : swF f k (k + 1) = f k := by unfold swF; rw [if_neg (by omega), if_pos rfl]
theorem swF_high {i : Nat} (h : k + 1 < i) : swF f k i = f i := by unfold swF; rw [if_neg (by omega), if_neg (by omega)]
theorem above_sw {i : Nat} (h : k + 1 < i) : above (swF f k) x i = above f x i := by
  induction i with
  | zero => omega
  | succ i ih =>
    rcases Nat.lt_or_ge (k + 1) i with c | c
    · rw [above, above, ih c, swF_high c]
    · obtain rfl : i = k + 1 := by omega
      rw [above, above, above, above, swF_at, swF_next, above_congr (f := swF f k) (g := f) (fun j hj => swF_low hj)]
      omega
/-- What an exchange of neighbours does to the inversions. -/
theorem inv_sw (h : k + 1 < n) : (invF (swF f k) n : Int) = invF f n + (if f k < f (k + 1) then 1 else 0) - (if f (k + 1) < f k then 1 else 0) := by
  induction n with
  | zero => omega
  | succ n ih =>
    rcases Nat.lt_or_ge (k + 1) n with c | c
    · have := ih c
      rw [invF, invF, swF_high c, above_sw c]
      omega
    · obtain rfl : n = k + 1 := by omega
      rw [invF, invF, invF, invF, swF_at, swF_next, above, above, swF_at, invF_congr (f := swF f k) (g := f) (fun j hj => swF_low hj), above_congr (f := swF f k) (g := f) (fun j hj => swF_low hj), above_congr (x := f k) (f := swF f k) (g := f) (fun j hj => swF_low hj)]
      push_cast
      split <;> split <;> omega
theorem above_zero {i : Nat} (h : above f x i = 0) : ∀ j, j < i → f j ≤ x := by
  induction i with
  | zero => exact fun j hj => absurd hj (by omega)
  | succ i ih =>
    rw [above] at h
    intro j hj
    rcases Nat.lt_or_ge j i with c | c
    · exact ih (by omega) j c
    · obtain rfl : j = i := by omega
      by_cases hx : x < f j
      · rw [if_pos hx] at h; omega
      · omega
theorem inv_zero (h : invF f n = 0) : ∀ i j, i < j → j < n → f i ≤ f j := by
  induction n with
  | zero => exact fun i j _ hj => absurd hj (by omega)
  | succ n ih =>
    rw [invF] at h
    intro i j hij hj
    rcases Nat.lt_or_ge j n with c | c
    · exact ih (by omega) i j hij c
    · obtain rfl : j = n := by omega
      exact above_zero (by omega) i hij
theorem inv_none (h : ∀ i, i + 1 < n → f i ≤ f (i + 1)) : invF f n = 0 := by
  have mono : ∀ d i, i + d < n → f i ≤ f (i + d) := by
    intro d
    induction d with
    | zero => exact fun i _ => Int.le_refl _
    | succ d ih =>
      intro i hi
      have h1 := ih i (by omega)
      have h2 := h (i + d) (by omega)
      exact Int.le_trans h1 h2
  have az : ∀ (x : Int) i, (∀ j, j < i → f j ≤ x) → above f x i = 0 := by
    intro x i
    induction i with
    | zero => exact fun _ => rfl
    | succ i ih =>
      intro hh
      rw [above, ih (fun j hj => hh j (by omega)), if_neg (by have := hh i (by omega); omega)]
  clear h
  induction n with
  | zero => rfl
  | succ n ih =>
    rw [invF, ih (fun d i hi => mono d i (by omega)), az _ _ (fun j hj => by
      have := mono (n - j) j (by omega)
      rwa [show j + (n - j) = n by omega] at this)]
theorem inv_le (f : Nat → Int) (n : Nat) : invF f n ≤ n * n := by
  induction n with
  | zero => exact Nat.le_refl _
  | succ n ih =>
    rw [invF]
    have := above_le f (f n) n
    have e : (n + 1) * (n + 1) = n * n + n + n + 1 := by rw [Nat.succ_mul, Nat.mul_succ]; omega
    omega
end

def atI (zs : List Int) (k : Nat) : Int := zs.getD k 0
theorem atI_of {zs : List Int} {k : Nat} (h : k < zs.length) : atI zs k = zs[k] := by
  unfold atI
  rw [List.getD_eq_getElem?_getD, List.getElem?_eq_getElem h]
  rfl
/-- Is none of the first k numbers x? -/
def noneIs (zs : List Int) (x : Int) (k : Nat) : Bool := (zs.take k).all fun y => decide (y ≠ x)
theorem noneIs_more {zs : List Int} {x : Int} {k : Nat} (h : k < zs.length) : noneIs zs x (k + 1) = (noneIs zs x k && decide (zs[k] ≠ x)) := by
  unfold noneIs
  rw [List.take_succ_eq_append_getElem h, List.all_append]
  simp
theorem noneIs_at {zs : List Int} {x : Int} {k : Nat} (h : noneIs zs x k = true) {i : Nat} (hi : i < k) (hn : i < zs.length) : zs[i] ≠ x := by
  unfold noneIs at h
  have := List.all_eq_true.1 h zs[i] (by rw [List.mem_take_iff_getElem]; exact ⟨i, by omega, rfl⟩)
  simpa using this
theorem noneIs_of {zs : List Int} {x : Int} {k : Nat} (hk : k ≤ zs.length) (h : ∀ i (hi : i < k), zs[i] ≠ x) : noneIs zs x k = true := by
  induction k with
  | zero => rfl
  | succ k ih =>
    rw [noneIs_more (by omega), ih (by omega) (fun i hi => h i (by omega))]
    simpa using h k (by omega)
/-- Number k is in its range and stands at no earlier place. -/
def ordAt (zs : List Int) (k : Nat) : Bool := inB (atI zs k) 0 ((zs.length : Int) - 1) && noneIs zs (atI zs k) k
def ordTo (zs : List Int) : Nat → Bool
  | 0 => true
  | k + 1 => ordTo zs k && ordAt zs k
/-- What OrderOk answers. -/
def orderOk (zs : List Int) : Bool := ordTo zs zs.length && inB zs.length 1 7
section
variable {zs : List Int} {k n : Nat}
theorem ordTo_le (h : k ≤ n) (hf : ordTo zs k = false) : ordTo zs n = false := by
  induction n with
  | zero => rwa [Nat.le_zero.1 h] at hf
  | succ n ih =>
    rcases Nat.lt_or_ge k (n + 1) with c | c
    · rw [ordTo, ih (by omega)]; rfl
    · rwa [show k = n + 1 by omega] at hf
theorem order_no (h : k < zs.length) (hf : ordAt zs k = false) : orderOk zs = false := by
  unfold orderOk
  rw [ordTo_le (k := k + 1) h (by rw [ordTo, hf, Bool.and_false])]
  rfl
theorem ordTo_iff (n : Nat) : ordTo zs n = true ↔ ∀ k, k < n → ordAt zs k = true := by
  induction n with
  | zero => exact ⟨fun _ k hk => absurd hk (by omega), fun _ => rfl⟩
  | succ n ih =>
    rw [ordTo, Bool.and_eq_true, ih]
    refine ⟨fun ⟨h1, h2⟩ k hk => ?_, fun h => ⟨fun k hk => h k (by omega), h n (by omega)⟩⟩
    rcases Nat.lt_or_ge k n with c | c
    · exact h1 k c
    · rwa [show k = n by omega]
/-- An order: its length, its numbers' range, no two of them the same. -/
structure IsOrd (zs : List Int) : Prop where
  len : 1 ≤ zs.length ∧ zs.length ≤ 7
  rng : ∀ k (h : k < zs.length), 0 ≤ zs[k] ∧ zs[k] ≤ (zs.length : Int) - 1
  one : ∀ i j (hi : i < zs.length) (hj : j < zs.length), i ≠ j → zs[i] ≠ zs[j]
theorem order_iff : orderOk zs = true ↔ IsOrd zs := by
  unfold orderOk
  rw [Bool.and_eq_true, ordTo_iff]
  constructor
  · rintro ⟨h1, h2⟩
    have hl : 1 ≤ zs.length ∧ zs.length ≤ 7 := by have : (1 : Int) ≤ zs.length ∧ (zs.length : Int) ≤ 7 := by simpa [inB] using h2
                                                  omega
    have key : ∀ i j (hi : i < zs.length) (hj : j < zs.length), i < j → zs[i] ≠ zs[j] := by
      intro i j hi hj hij
      have := h1 j hj
      unfold ordAt at this
      rw [Bool.and_eq_true, atI_of hj] at this
      exact noneIs_at this.2 hij hi
    refine ⟨hl, fun k hk => ?_, fun i j hi hj hij => ?_⟩
    · have := h1 k hk
      unfold ordAt at this
      rw [Bool.and_eq_true, atI_of hk] at this
      simpa [inB] using this.1
    · rcases Nat.lt_or_gt_of_ne hij with c | c
      · exact key i j hi hj c
      · exact fun e => key j i hj hi c e.symm
  · intro h
    refine ⟨fun k hk => ?_, ?_⟩
    · unfold ordAt
      rw [Bool.and_eq_true, atI_of hk]
      refine ⟨by simpa [inB] using h.rng k hk, noneIs_of (by omega) fun i hi => h.one i k (by omega) hk (by omega)⟩
    · have := h.len
      simp [inB]
      omega
/-- The exchange at place k. -/
def swapL (zs : List Int) (k : Nat) : List Int := (zs.set k (atI zs (k + 1))).set (k + 1) (atI zs k)
theorem swap_len (zs : List Int) (k : Nat) : (swapL zs k).length = zs.length := by simp [swapL]
theorem swap_at (h : k + 1 < zs.length) (i : Nat) : atI (swapL zs k) i = swF (atI zs) k i := by
  unfold swapL swF
  rcases Nat.lt_or_ge i zs.length with c | c
  · rw [atI_of (by simpa using c), List.getElem_set]
    by_cases h1 : k + 1 = i
    · rw [if_pos h1, if_neg (by omega), if_pos h1.symm]
    · rw [if_neg h1, List.getElem_set]
      by_cases h2 : k = i
      · rw [if_pos h2, if_pos h2.symm]
      · rw [if_neg h2, if_neg (by omega), if_neg (by omega), atI_of c]
  · rw [if_neg (by omega), if_neg (by omega)]
    unfold atI
    rw [List.getD_eq_getElem?_getD, List.getElem?_eq_none (by simpa using c), List.getD_eq_getElem?_getD, List.getElem?_eq_none c]
theorem ord_at (h : IsOrd zs) : (∀ k, k < zs.length → 0 ≤ atI zs k ∧ atI zs k ≤ (zs.length : Int) - 1) ∧ ∀ i j, i < zs.length → j < zs.length → i ≠ j → atI zs i ≠ atI zs j :=
  ⟨fun k hk => by rw [atI_of hk]; exact h.rng k hk, fun i j hi hj hij => by rw [atI_of hi, atI_of hj]; exact h.one i j hi hj hij⟩
theorem ord_of (hl : 1 ≤ zs.length ∧ zs.length ≤ 7) (h1 : ∀ k, k < zs.length → 0 ≤ atI zs k ∧ atI zs k ≤ (zs.length : Int) - 1) (h2 : ∀ i j, i < zs.length → j < zs.length → i ≠ j → atI zs i ≠ atI zs j) : IsOrd zs :=
  ⟨hl, fun k hk => by have := h1 k hk; rwa [atI_of hk] at this, fun i j hi hj hij => by have := h2 i j hi hj hij; rwa [atI_of hi, atI_of hj] at this⟩
/-- An order stays one. -/
theorem swap_ord (h : IsOrd zs) (hk : k + 1 < zs.length) : IsOrd (swapL zs k) := by
  obtain ⟨r, o⟩ := ord_at h
  have pick : ∀ i, i < zs.length → ∃ j, j < zs.length ∧ swF (atI zs) k i = atI zs j ∧ (j = if i = k then k + 1 else if i = k + 1 then k else i) := by
    intro i hi
    unfold swF
    by_cases h1 : i = k
    · exact ⟨k + 1, hk, by rw [if_pos h1], by rw [if_pos h1]⟩
    · by_cases h2 : i = k + 1
      · exact ⟨k, by omega, by rw [if_neg h1, if_pos h2], by rw [if_neg h1, if_pos h2]⟩
      · exact ⟨i, hi, by rw [if_neg h1, if_neg h2], by rw [if_neg h1, if_neg h2]⟩
  refine ord_of (by rw [swap_len]; exact h.len) (fun i hi => ?_) (fun i j hi hj hij => ?_)
  · rw [swap_len] at hi ⊢
    rw [swap_at hk]
    obtain ⟨j, hj, e, _⟩ := pick i hi
    rw [e]
    exact r j hj
  · rw [swap_len] at hi hj
    rw [swap_at hk, swap_at hk]
    obtain ⟨i', hi', e1, q1⟩ := pick i hi
    obtain ⟨j', hj', e2, q2⟩ := pick j hj
    rw [e1, e2]
    refine o i' j' hi' hj' (fun e => hij ?_)
    rw [q1, q2] at e
    split at e <;> split at e <;> (try split at e) <;> (try split at e) <;> omega
def invs (zs : List Int) : Nat := invF (atI zs) zs.length
theorem swap_inv (h : k + 1 < zs.length) : (invs (swapL zs k) : Int) = invs zs + (if atI zs k < atI zs (k + 1) then 1 else 0) - (if atI zs (k + 1) < atI zs k then 1 else 0) := by
  unfold invs
  rw [swap_len, invF_congr (g := swF (atI zs) k) (fun j _ => swap_at h j)]
  exact inv_sw h
theorem swap_back (h : k + 1 < zs.length) : swapL (swapL zs k) k = zs := by
  refine List.ext_getElem (by simp [swap_len]) fun i h1 h2 => ?_
  have e : atI (swapL (swapL zs k) k) i = atI zs i := by
    rw [swap_at (by rw [swap_len]; exact h)]
    unfold swF
    by_cases c1 : i = k
    · rw [if_pos c1, swap_at h, c1, swF_next]
    · rw [if_neg c1]
      by_cases c2 : i = k + 1
      · rw [if_pos c2, swap_at h, c2, swF_at]
      · rw [if_neg c2, swap_at h]
        unfold swF
        rw [if_neg c1, if_neg c2]
  rwa [atI_of h1, atI_of h2] at e
theorem swap_mem (h : k + 1 < zs.length) (x : Int) : (∃ i, i < zs.length ∧ atI (swapL zs k) i = x) → ∃ i, i < zs.length ∧ atI zs i = x := by
  rintro ⟨i, hi, e⟩
  rw [swap_at h] at e
  unfold swF at e
  by_cases h1 : i = k
  · rw [if_pos h1] at e; exact ⟨k + 1, h, e⟩
  · rw [if_neg h1] at e
    by_cases h2 : i = k + 1
    · rw [if_pos h2] at e; exact ⟨k, by omega, e⟩
    · rw [if_neg h2] at e; exact ⟨i, hi, e⟩
end
/-- How long a slice is. -/
def lenV : Value → Nat
  | .slice _ n _ => n
  | _ => 0
theorem len_sub {n : Nat} (h : n ≤ 2000000) (k : Int) (h1 : 0 ≤ k) (h2 : k ≤ 100) : IntKind.i64.wrap ((n : Int) - k) = (n : Int) - k := IntWalk.i64_in _ (by omega)
end Go.Proofs.Ythijfipjfdmoeaa
