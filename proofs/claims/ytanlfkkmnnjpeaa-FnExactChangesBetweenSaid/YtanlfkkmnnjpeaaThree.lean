/- Rows of structs of three numbers (limbs, cords): their cells, an argument of them, marks; and small facts on worlds. No condition. -/
import Derived.Test.YtanlfkkmnnjpeaaBase
import Derived.Handy
import Derived.Deep.MidRow
import Derived.Deep.OwnRows
import Derived.DataElems
import Derived.BigQuiet
import Derived.Deep.QuietTactic
import Derived.Deep.RegionHeld3
namespace Go.Proofs.Ytanlfkkmnnjpeaa
set_option linter.unusedVariables false
open Go.RowKit

/-- A limb: its two ends and its length. -/
structure Lb where
  a : Int
  b : Int
  n : Int
def Lb.val (l : Lb) : Value := .agg #[.int .i64 l.a, .int .i64 l.b, .int .i64 l.n]
def Lb.cells (l : Lb) : List Value := [.int .i64 l.a, .int .i64 l.b, .int .i64 l.n]
def Lb.zero : Lb := ⟨0, 0, 0⟩ 
theorem Lb.val_cells (l : Lb) : l.val = .agg l.cells.toArray := rfl
def flatL (ls : List Lb) : List Value := ls.flatMap Lb.cells
theorem flatL_cons (l : Lb) (ls : List Lb) : flatL (l :: ls) = .int .i64 l.a :: .int .i64 l.b :: .int .i64 l.n :: flatL ls := rfl
theorem flatL_append (xs ys : List Lb) : flatL (xs ++ ys) = flatL xs ++ flatL ys := List.flatMap_append
theorem flatL_len (ls : List Lb) : (flatL ls).length = ls.length * 3 := by
  induction ls with
  | nil => rfl
  | cons l ls ih => rw [flatL_cons, List.length_cons, List.length_cons, List.length_cons, ih, List.length_cons]; omega
theorem flatL_at (ls : List Lb) (k j : Nat) (hj : j < 3) (hk : k < ls.length) : (flatL ls)[k * 3 + j]? = ls[k].cells[j]? := by
  induction ls generalizing k with
  | nil => simp at hk
  | cons l ls ih =>
    rw [flatL_cons]
    cases k with
    | zero =>
      rcases (by omega : j = 0 ∨ j = 1 ∨ j = 2) with rfl | rfl | rfl <;> rfl
    | succ k =>
      rw [show (k + 1) * 3 + j = (k * 3 + j) + 1 + 1 + 1 by omega]
      simpa using ih k (by simpa using hk)
theorem flatL_set (ls : List Lb) (k : Nat) (l : Lb) : flatL (ls.set k l) = (((flatL ls).set (k * 3) (.int .i64 l.a)).set (k * 3 + 1) (.int .i64 l.b)).set (k * 3 + 2) (.int .i64 l.n) := by
  induction ls generalizing k with
  | nil => rfl
  | cons x ls ih =>
    cases k with
    | zero => rfl
    | succ k =>
      rw [List.set_cons_succ, flatL_cons, flatL_cons, ih k]
      rw [show (k + 1) * 3 = k * 3 + 1 + 1 + 1 by omega]
      rw [show k * 3 + 1 + 1 + 1 + 1 = (k * 3 + 1) + 1 + 1 + 1 by omega]
      rw [show k * 3 + 1 + 1 + 1 + 2 = (k * 3 + 2) + 1 + 1 + 1 by omega]
      simp only [List.set_cons_succ]

theorem _root_.Go.World.there.three {w : World} {g o : Nat} (h : w.there g o 3) : (∃ v, w.cell? ⟨g, o, none⟩ = some v) ∧ (∃ v, w.cell? ⟨g, o + 1, none⟩ = some v) ∧ (∃ v, w.cell? ⟨g, o + 2, none⟩ = some v) ∧
    w.frozen? ⟨g, o, none⟩ = false ∧ w.frozen? ⟨g, o + 1, none⟩ = false ∧ w.frozen? ⟨g, o + 2, none⟩ = false :=
  ⟨Option.isSome_iff_exists.1 (h 0 (by omega)).1, Option.isSome_iff_exists.1 (h 1 (by omega)).1, Option.isSome_iff_exists.1 (h 2 (by omega)).1, (h 0 (by omega)).2, (h 1 (by omega)).2, (h 2 (by omega)).2⟩
/-- The limbs of an argument: nil, or they lie one behind the other. -/
def ArgL (w : World) (a : Option Addr) (ls : List Lb) : Prop :=
  (a = none ∧ ls = []) ∨ ∃ x, a = some x ∧ ∀ k (h : k < ls.length) j v, ls[k].cells[j]? = some v → w.cell? (x.add (k * 3 + j)) = some v

/-- The cells of limb k of an argument. -/
theorem argL_cells {w : World} {x : Addr} {ls : List Lb} (hx : ∀ k (h : k < ls.length) j v, ls[k].cells[j]? = some v → w.cell? (x.add (k * 3 + j)) = some v) {k : Nat} (h : k < ls.length) :
    w.cell? (x.add (k * 3)) = some (.int .i64 ls[k].a) ∧ w.cell? { block := (x.add (k * 3)).block, off := (x.add (k * 3)).off + 1 } = some (.int .i64 ls[k].b) ∧ w.cell? { block := (x.add (k * 3)).block, off := (x.add (k * 3)).off + 2 } = some (.int .i64 ls[k].n) := by
  have e : ∀ j, 0 < j → x.add (k * 3 + j) = { block := (x.add (k * 3)).block, off := (x.add (k * 3)).off + j } := fun j hj => by
    rw [← Addr.add_add]
    generalize x.add (k * 3) = y
    unfold Addr.add
    rw [if_neg (by omega)]
  refine ⟨hx k h 0 _ rfl, ?_, ?_⟩
  · rw [← e 1 (by omega)]
    exact hx k h 1 _ rfl
  · rw [← e 2 (by omega)]
    exact hx k h 2 _ rfl

theorem made_zero (n : Nat) : (madeCells Lb.zero.val.cells (n * 3)).toList = flatL (List.replicate n Lb.zero) := by
  have hz : ∀ v ∈ flatL (List.replicate n Lb.zero), v = .int .i64 0 := by
    induction n with
    | zero => intro v hv; cases hv
    | succ n ih =>
      intro v hv
      rw [List.replicate_succ, flatL_cons] at hv
      rcases hv with _ | ⟨_, _ | ⟨_, _ | ⟨_, hv⟩⟩⟩
      · rfl
      · rfl
      · rfl
      · exact ih v hv
  have hm : ∀ v ∈ (madeCells Lb.zero.val.cells (n * 3)).toList, v = .int .i64 0 := by
    intro v hv
    unfold madeCells at hv
    simp only [Array.toList_map, List.mem_map] at hv
    obtain ⟨j, _, rfl⟩ := hv
    have h3 : j % 3 < 3 := Nat.mod_lt _ (by omega)
    show (#[Value.int .i64 0, Value.int .i64 0, Value.int .i64 0])[j % 3]! = _
    rcases (by omega : j % 3 = 0 ∨ j % 3 = 1 ∨ j % 3 = 2) with h | h | h <;> rw [h] <;> rfl
  rw [List.eq_replicate_of_mem hz, List.eq_replicate_of_mem hm, flatL_len, List.length_replicate, Array.length_toList, size_madeCells]
theorem below_of_grown {w w' : World} (h : w.grownBy w' none) : Below w.heap.size w w' := ⟨h.os, h.tape, h.output, h.size, fun k hk => h.block k hk (by simp)⟩
theorem grown_of_below {w w' : World} (h : Below w.heap.size w w') (row : Option Nat) : w.grownBy w' row := ⟨h.os, h.tape, h.output, h.size, fun k hk _ => h.block k hk⟩
theorem copied_set (ls : List Lb) (k : Nat) (h : k < ls.length) : (ls.take k ++ List.replicate (ls.length - k) Lb.zero).set k ls[k] = ls.take (k + 1) ++ List.replicate (ls.length - (k + 1)) Lb.zero := by
  have e : ls.take (k + 1) = ls.take k ++ [ls[k]] := by rw [List.take_add_one, List.getElem?_eq_getElem h]; rfl
  rw [List.set_append_right _ _ (by rw [List.length_take]; omega), List.length_take, Nat.min_eq_left (by omega), Nat.sub_self, show ls.length - k = (ls.length - (k + 1)) + 1 by omega, List.replicate_succ, List.set_cons_zero, e, List.append_assoc]
  rfl

theorem World.cell_setCell_some {w : World} {a b : Addr} {x u y : Value} (_ : w.cell? a = some x) (h : w.cell? b = some y) : ∃ z, (w.setCell a u).cell? b = some z := by
  by_cases e : a = b
  · subst e
    exact ⟨_, World.cell?_setCell_same _ _ _ h⟩
  · exact ⟨_, (World.cell?_setCell_other _ _ _ _ e).trans h⟩
/-- The two cells of a struct's block behind the stores. -/
theorem cells_set2 {w : World} {g : Nat} {u v : Value} (h0 : ∃ x, w.cell? ⟨g, 0, none⟩ = some x) (h1 : ∃ y, w.cell? ⟨g, 1, none⟩ = some y) :
    ((w.setCell ⟨g, 0, none⟩ u).setCell ⟨g, 1, none⟩ v).cell? ⟨g, 0, none⟩ = some u ∧ ((w.setCell ⟨g, 0, none⟩ u).setCell ⟨g, 1, none⟩ v).cell? ⟨g, 1, none⟩ = some v := by
  obtain ⟨x, h0⟩ := h0
  obtain ⟨y, h1⟩ := h1
  refine ⟨?_, ?_⟩
  · rw [World.cell?_setCell_other _ _ _ _ (by simp), World.cell?_setCell_same _ _ _ h0]
  · refine World.cell?_setCell_same (u := y) _ _ _ ?_
    rw [World.cell?_setCell_other _ _ _ _ (by simp), h1]

theorem _root_.Go.World.rangeAt.below {w w' : World} {B g o : Nat} {cs : List Value} (h : w.rangeAt g o cs) (hb : Below B w w') (hg : g < B) : w'.rangeAt g o cs :=
  fun j v hv => (hb.cell hg).trans (h j v hv)
theorem ArgL.alloc {w : World} {a : Option Addr} {ls : List Lb} (h : ArgL w a ls) (o : Obj) : ArgL (w.alloc o) a ls := by
  rcases h with h | ⟨x, e, h⟩
  · exact .inl h
  · exact .inr ⟨x, e, fun k hk j v hv => by
      have := h k hk j v hv
      rw [World.cell?_alloc_lt _ _ _ (World.block_lt_of_cell? w _ this)]
      exact this⟩

abbrev Six (w : World) (g h o : Nat) (l : Lb) : Prop :=
  w.cell? ⟨g, o, none⟩ = some (.int .i64 l.a) ∧ w.cell? ⟨g, o + 1, none⟩ = some (.int .i64 l.b) ∧ w.cell? ⟨g, o + 2, none⟩ = some (.int .i64 l.n) ∧
    w.cell? ⟨h, o, none⟩ = some (.int .i64 l.a) ∧ w.cell? ⟨h, o + 1, none⟩ = some (.int .i64 l.b) ∧ w.cell? ⟨h, o + 2, none⟩ = some (.int .i64 l.n)
theorem six_cells {w : World} {g h o : Nat} {l : Lb} (r1 : w.rangeAt g o l.cells) (r2 : w.rangeAt h o l.cells) : Six w g h o l :=
  ⟨r1 0 _ rfl, r1 1 _ rfl, r1 2 _ rfl, r2 0 _ rfl, r2 1 _ rfl, r2 2 _ rfl⟩
theorem cell_below {w w' : World} {p : Addr} {v : Value} (h : w.cell? p = some v) (hb : Below w.heap.size w w') : w'.cell? p = some v := (hb.cell (World.block_lt_of_cell? w p h)).trans h
theorem six_below {w w' : World} {g h o : Nat} {l : Lb} (s : Six w g h o l) (hb : Below w.heap.size w w') : Six w' g h o l :=
  ⟨cell_below s.1 hb, cell_below s.2.1 hb, cell_below s.2.2.1 hb, cell_below s.2.2.2.1 hb, cell_below s.2.2.2.2.1 hb, cell_below s.2.2.2.2.2 hb⟩

/-- n limbs marked from number u on. -/
def marksL (u n : Nat) : List Lb := (List.range n).map fun j => ⟨((u + 3 * j : Nat) : Int), ((u + 3 * j + 1 : Nat) : Int), ((u + 3 * j + 2 : Nat) : Int)⟩
theorem marksL_len (u n : Nat) : (marksL u n).length = n := by simp [marksL]
theorem marksL_at (u n k : Nat) (h : k < n) : (marksL u n)[k]'(by rw [marksL_len]; exact h) = ⟨((u + 3 * k : Nat) : Int), ((u + 3 * k + 1 : Nat) : Int), ((u + 3 * k + 2 : Nat) : Int)⟩ := by simp [marksL]
theorem marksL_set (u : Nat) (ls : List Lb) (k : Nat) (h : k < ls.length) :
    (marksL u k ++ ls.drop k).set k ⟨((u + 3 * k : Nat) : Int), ((u + 3 * k + 1 : Nat) : Int), ((u + 3 * k + 2 : Nat) : Int)⟩ = marksL u (k + 1) ++ ls.drop (k + 1) := by
  rw [List.drop_eq_getElem_cons h, List.set_append_right _ _ (by simp [marksL_len]), marksL_len, Nat.sub_self, List.set_cons_zero]
  unfold marksL
  simp only [List.range_succ, List.map_append, List.map_cons, List.map_nil, List.append_assoc, List.cons_append, List.nil_append]
theorem grown_then {a b c : World} {row : Option Nat} (h : a.grownBy b row) (k : b.grownBy c row) : a.grownBy c row :=
  ⟨k.os.trans h.os, k.tape.trans h.tape, k.output.trans h.output, Nat.le_trans h.size k.size, fun i hi hne => (k.block i (Nat.lt_of_lt_of_le hi h.size) hne).trans (h.block i hi hne)⟩

theorem ArgL.below {w w' : World} {a : Option Addr} {ls : List Lb} (h : ArgL w a ls) (hb : Below w.heap.size w w') : ArgL w' a ls := by
  rcases h with h | ⟨x, e, h⟩
  · exact .inl h
  · exact .inr ⟨x, e, fun k hk j v hv => cell_below (h k hk j v hv) hb⟩

theorem list_of {α : Type} (P : Nat → α → Prop) (n : Nat) (h : ∀ i, i < n → ∃ x, P i x) : ∃ xs : List α, xs.length = n ∧ ∀ i (hi : i < xs.length), P i xs[i] := by
  induction n with
  | zero => exact ⟨[], rfl, fun i hi => by simp at hi⟩
  | succ n ih =>
    obtain ⟨xs, hl, hx⟩ := ih (fun i hi => h i (by omega))
    obtain ⟨x, hp⟩ := h n (by omega)
    refine ⟨xs ++ [x], by simp [hl], fun i hi => ?_⟩
    by_cases e : i < xs.length
    · rw [List.getElem_append_left e]
      exact hx i e
    · rw [List.length_append, List.length_singleton] at hi
      obtain rfl : i = n := by omega
      rw [List.getElem_append_right (by omega)]
      simpa [hl] using hp

end Go.Proofs.Ytanlfkkmnnjpeaa
