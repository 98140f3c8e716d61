/- Cross: a struct of 2 plain fields as the walks see it: its cells, a row that came in, a row of the call's own (made by gen_rec.py). No condition. -/
import Derived.Test.YthijfipjfdmoeaaThree
import Derived.Deep.Slices
import Derived.Lib.SmallJoins
import Derived.ChangeSame
namespace Go.Proofs.Ythijfipjfdmoeaa
set_option linter.unusedVariables false
set_option linter.unusedSimpArgs false
open Go.RowKit Go.ChangeShapes Go.WideShapes Go.ChangeAt Go.Deep Go.Joins

structure RCross where
  f0 : Int
  f1 : Bool
def RCross.cells (l : RCross) : List Value := [.int .i64 l.f0, .bool l.f1]
def RCross.val (l : RCross) : Value := .agg #[.int .i64 l.f0, .bool l.f1]
def RCross.zero : RCross := ⟨0, false⟩
def flatCross (ls : List RCross) : List Value := ls.flatMap RCross.cells
theorem flatCross_cons (l : RCross) (ls : List RCross) : flatCross (l :: ls) = .int .i64 l.f0 :: .bool l.f1 :: flatCross ls := rfl
theorem flatCross_append (xs ys : List RCross) : flatCross (xs ++ ys) = flatCross xs ++ flatCross ys := List.flatMap_append
theorem flatCross_len (ls : List RCross) : (flatCross ls).length = ls.length * 2 := by
  induction ls with
  | nil => rfl
  | cons l ls ih => rw [flatCross_cons, List.length_cons, List.length_cons, ih, List.length_cons]; omega
theorem flatCross_at (ls : List RCross) (k j : Nat) (hj : j < 2) (hk : k < ls.length) : (flatCross ls)[k * 2 + j]? = ls[k].cells[j]? := by
  induction ls generalizing k with
  | nil => simp at hk
  | cons l ls ih =>
    rw [flatCross_cons]
    cases k with
    | zero =>
      rcases (by omega : j = 0 ∨ j = 1) with rfl | rfl <;> rfl
    | succ k =>
      rw [show (k + 1) * 2 + j = (k * 2 + j) + 1 + 1 by omega]
      simpa using ih k (by simpa using hk)
theorem flatCross_set (ls : List RCross) (k : Nat) (l : RCross) : flatCross (ls.set k l) = ((flatCross ls).set (k * 2) (.int .i64 l.f0)).set (k * 2 + 1) (.bool l.f1) := by
  induction ls generalizing k with
  | nil => rfl
  | cons x ls ih =>
    cases k with
    | zero => rfl
    | succ k =>
      rw [List.set_cons_succ, flatCross_cons, flatCross_cons, ih k]
      rw [show (k + 1) * 2 = k * 2 + 1 + 1 by omega]
      rw [show k * 2 + 1 + 1 + 1 = (k * 2 + 1) + 1 + 1 by omega]
      simp only [List.set_cons_succ]
theorem thereCross {w : World} {g o : Nat} (h : w.there g o 2) : (∃ v, w.cell? ⟨g, o, none⟩ = some v) ∧ (∃ v, w.cell? ⟨g, o + 1, none⟩ = some v) ∧ w.frozen? ⟨g, o, none⟩ = false ∧ w.frozen? ⟨g, o + 1, none⟩ = false :=
  ⟨Option.isSome_iff_exists.1 (h 0 (by omega)).1, Option.isSome_iff_exists.1 (h 1 (by omega)).1, (h 0 (by omega)).2, (h 1 (by omega)).2⟩
/-- Structs that came in: nil, or they lie one behind the other. -/
def ArgCross (w : World) (a : Option Addr) (ls : List RCross) : Prop :=
  (a = none ∧ ls = []) ∨ ∃ x, a = some x ∧ ∀ k (h : k < ls.length) j v, ls[k].cells[j]? = some v → w.cell? (x.add (k * 2 + j)) = some v
theorem argCross_cells {w : World} {x : Addr} {ls : List RCross} (hx : ∀ k (h : k < ls.length) j v, ls[k].cells[j]? = some v → w.cell? (x.add (k * 2 + j)) = some v) {k : Nat} (h : k < ls.length) :
    w.cell? (x.add (k * 2)) = some (.int .i64 ls[k].f0) ∧ w.cell? { block := (x.add (k * 2)).block, off := (x.add (k * 2)).off + 1 } = some (.bool ls[k].f1) := by
  have e : ∀ j, 0 < j → x.add (k * 2 + j) = { block := (x.add (k * 2)).block, off := (x.add (k * 2)).off + j } := fun j hj => by
    rw [← Addr.add_add]
    generalize x.add (k * 2) = y
    unfold Addr.add
    rw [if_neg (by omega)]
  refine ⟨hx k h 0 _ rfl, ?_⟩
  · rw [← e 1 (by omega)]
    exact hx k h 1 _ rfl
def BothCross (w : World) (g h o : Nat) (l : RCross) : Prop := w.cell? ⟨g, o, none⟩ = some (.int .i64 l.f0) ∧ w.cell? ⟨g, o + 1, none⟩ = some (.bool l.f1) ∧ w.cell? ⟨h, o, none⟩ = some (.int .i64 l.f0) ∧ w.cell? ⟨h, o + 1, none⟩ = some (.bool l.f1)
theorem bothCross_cells {w : World} {g h o : Nat} {l : RCross} (r1 : w.rangeAt g o l.cells) (r2 : w.rangeAt h o l.cells) : BothCross w g h o l :=
  ⟨r1 0 _ rfl, r1 1 _ rfl, r2 0 _ rfl, r2 1 _ rfl⟩
theorem bothCross_below {w w' : World} {g h o : Nat} {l : RCross} (s : BothCross w g h o l) (hb : Below w.heap.size w w') : BothCross w' g h o l :=
  ⟨cell_below s.1 hb, cell_below s.2.1 hb, cell_below s.2.2.1 hb, cell_below s.2.2.2 hb⟩
theorem ArgCross.below {w w' : World} {a : Option Addr} {ls : List RCross} (h : ArgCross w a ls) (hb : Below w.heap.size w w') : ArgCross w' a ls := by
  rcases h with h | ⟨x, e, h⟩
  · exact .inl h
  · exact .inr ⟨x, e, fun k hk j v hv => cell_below (h k hk j v hv) hb⟩
theorem ArgCross.alloc {w : World} {a : Option Addr} {ls : List RCross} (h : ArgCross w a ls) (o : Obj) : ArgCross (w.alloc o) a ls := h.below ((Below.refl _ _).alloc (Nat.le_refl _) _)
theorem madeCross (n : Nat) : (madeCells RCross.zero.val.cells (n * 2)).toList = flatCross (List.replicate n RCross.zero) := by
  refine List.ext_getElem (by rw [flatCross_len, List.length_replicate, Array.length_toList, size_madeCells]) fun i h1 h2 => ?_
  have hi : i < n * 2 := by rw [flatCross_len, List.length_replicate] at h2; exact h2
  have hq : i / 2 < n := Nat.div_lt_of_lt_mul (by omega)
  have hm : i % 2 < 2 := Nat.mod_lt _ (by omega)
  have e := flatCross_at (List.replicate n RCross.zero) (i / 2) (i % 2) hm (by rw [List.length_replicate]; exact hq)
  rw [show i / 2 * 2 + i % 2 = i by omega, List.getElem?_eq_getElem h2, List.getElem_replicate] at e
  have l : (madeCells RCross.zero.val.cells (n * 2)).toList[i] = (#[Value.int .i64 0, Value.bool false])[i % 2]! := by
    simp only [madeCells, Array.getElem_toList, Array.getElem_map, Array.getElem_range]
    rfl
  rw [l]
  rcases (by omega : i % 2 = 0 ∨ i % 2 = 1) with h | h <;> rw [h] at e ⊢ <;> exact (Option.some.inj e).symm

/-- A slice value that owns the structs ls. -/
def OwnCross (w : World) (base : Nat) (v : Value) (ls : List RCross) : Prop := w.ownsRow base 56 2 v ls.length (flatCross ls)
section
variable {w w' : World} {base b : Nat} {v : Value} {ls : List RCross}
theorem OwnCross.alloc (h : OwnCross w base v ls) (o : Obj) : OwnCross (w.alloc o) base v ls := World.ownsRow.alloc h o
theorem OwnCross.lt (h : OwnCross w base v ls) : ∀ k, v.ownBlock = some k → base ≤ k ∧ k < w.heap.size := World.ownsRow.lt h
theorem OwnCross.kept {row : Option Nat} (h : OwnCross w base v ls) (hg : w.grownBy w' row) (hne : v.ownBlock = none ∨ v.ownBlock ≠ row) : OwnCross w' base v ls := World.ownsRow.kept h hg hne
theorem OwnCross.below (h : OwnCross w base v ls) (hb : Below w.heap.size w w') : OwnCross w' base v ls := h.kept (grown_of_below hb none) (by cases v.ownBlock <;> simp)
theorem OwnCross.mono (h : OwnCross w base v ls) (hb : b ≤ base) : OwnCross w b v ls := by
  obtain ⟨h1, h2⟩ := h
  refine ⟨h1, ?_⟩
  rcases h2 with h2 | ⟨g, cap, cur, e, hg, rest⟩
  · exact .inl h2
  · exact .inr ⟨g, cap, cur, e, Nat.le_trans hb hg, rest⟩
theorem OwnCross.slice (h : OwnCross w base v ls) : ∃ A c, v = .slice A ls.length c := by
  rcases h.2 with ⟨rfl, hn⟩ | ⟨g, cap, _, rfl, _⟩
  · exact ⟨none, 0, by rw [hn]⟩
  · exact ⟨_, _, rfl⟩
theorem OwnCross.spot (h : OwnCross w base v ls) {k : Nat} (hk : k < ls.length) :
    ∃ g c, v = .slice (some ⟨g, 0, none⟩) ls.length c ∧ base ≤ g ∧ g < w.heap.size ∧ w.rangeAt g (k * 2) ls[k].cells ∧ w.there g (k * 2) 2 := by
  rcases h.2 with ⟨_, hn⟩ | ⟨g, cap, cur, hv, hb, hg, _⟩
  · omega
  · subst hv
    have hat : ∀ j, j < 2 → w.cell? ⟨g, k * 2 + j, none⟩ = ls[k].cells[j]? := fun j hj => by
      rw [World.ownsRow.cellAt h _ (by omega), flatCross_at ls k j hj hk]
    refine ⟨g, cap, rfl, hb, (Array.getElem?_eq_some_iff.1 hg).1, fun j x hx => ?_, fun j hj => ⟨?_, World.ownsRow.frozenAt h _⟩⟩
    · have hj : j < 2 := (List.getElem?_eq_some_iff.1 hx).1
      rw [hat j hj, hx]
    · rw [hat j hj]
      rcases (by omega : j = 0 ∨ j = 1) with rfl | rfl <;> rfl
theorem OwnCross.there {g c n : Nat} (h : OwnCross w base (.slice (some ⟨g, 0, none⟩) n c) ls) {k : Nat} (hk : k < ls.length) : w.there g (k * 2) 2 := by
  obtain ⟨g', c', e, _, _, _, t⟩ := h.spot hk
  simp only [Value.slice.injEq, Option.some.injEq, Addr.mk.injEq] at e
  obtain ⟨⟨rfl, _⟩, _⟩ := e
  exact t
theorem OwnCross.set {g c n : Nat} (h : OwnCross w base (.slice (some ⟨g, 0, none⟩) n c) ls) (hn : n = ls.length) (k : Nat) (l : RCross) :
    OwnCross (w.setCells g (k * 2) l.cells) base (.slice (some ⟨g, 0, none⟩) n c) (ls.set k l) ∧ w.grownBy (w.setCells g (k * 2) l.cells) (some g) := by
  subst hn
  unfold OwnCross at *
  obtain ⟨h1, g1⟩ := World.ownsRow.stored h (k * 2) (.int .i64 l.f0)
  obtain ⟨h2, g2⟩ := World.ownsRow.stored h1 (k * 2 + 1) (.bool l.f1)
  rw [flatCross_set, List.length_set]
  exact ⟨h2, grown_then g1 g2⟩
theorem snocCross {x : RCross} (h : w.ownsRow base 56 2 v (ls.length + 1) (flatCross ls ++ [.int .i64 x.f0, .bool x.f1])) : OwnCross w base v (ls ++ [x]) := by
  unfold OwnCross
  rw [List.length_append, flatCross_append]
  exact h
end
theorem emptyCross (w : World) (base g : Nat) (cs : Array Value) (hg : g = w.heap.size) (hb : base ≤ g) (hs : cs.size = 0) : OwnCross (w.alloc (.cells cs 56)) base (.slice (some ⟨g, 0, none⟩) 0 0) [] := by
  subst hg
  exact ⟨rfl, .inr ⟨w.heap.size, 0, cs, rfl, hb, heap_alloc_new w _, Nat.le_refl _, by simp only [maxLen]; omega, by omega, by simp [flatCross]⟩⟩
theorem copiedCross (ls : List RCross) (k : Nat) (h : k < ls.length) : (ls.take k ++ List.replicate (ls.length - k) RCross.zero).set k ls[k] = ls.take (k + 1) ++ List.replicate (ls.length - (k + 1)) RCross.zero := by
  have e : ls.take (k + 1) = ls.take k ++ [ls[k]] := by rw [List.take_add_one, List.getElem?_eq_getElem h]; rfl
  rw [List.set_append_right _ _ (by rw [List.length_take]; omega), List.length_take, Nat.min_eq_left (by omega), Nat.sub_self, show ls.length - k = (ls.length - (k + 1)) + 1 by omega, List.replicate_succ, List.set_cons_zero, e, List.append_assoc]
  rfl
theorem infoCross : (Try.prog.info? 56).map (fun i => (i.zero, i.size, i.bytes)) = some (some RCross.zero.val, 2, 16) := by kernel_rfl
theorem sizeCross : (Try.prog.info? 56).map (·.size) = some 2 := by kernel_rfl
theorem sizeCrossA : (Try.prog.info? 65).map (·.size) = some 2 := by kernel_rfl

section
variable {H : Type} {enc : TypeId × Value → H} {W : World}
set_option maxRecDepth 100000 in
/-- A slice of them that came in. -/
theorem openCrossS {d : DataW H} {p : List MemPlace} {a : Option Addr} {n cap : Nat} (h : DataW.Trod enc Try.prog W 0 (fun _ => true) true 42 (.slice a n cap) d p) :
    ∃ ls : List RCross, n = ls.length ∧ ArgCross W a ls ∧ ls.length ≤ maxLen := by
  obtain ⟨fuel, h⟩ := h
  have hC : (Try.prog).cellsOf 65 = 2 := by kernel_rfl
  rcases open_slice Try.underlying42 h with ⟨hcs, _⟩ | ⟨x, len, c, m, q, D, Pl, hcs, _, hl, hm, hmm, _, hi⟩
  · simp [Value.cells] at hcs
    obtain ⟨rfl, rfl, rfl⟩ := hcs
    exact ⟨[], rfl, .inl ⟨rfl, rfl⟩, by simp⟩
  · simp [Value.cells] at hcs
    obtain ⟨rfl, rfl, rfl⟩ := hcs
    have hlm : n ≤ m := by rw [hmm]; split <;> omega
    rw [hC] at hi
    have cell : ∀ i, i < n → ∃ l : RCross, ∀ j v, l.cells[j]? = some v → W.cell? (x.add (i * 2 + j)) = some v := by
      intro i hi'
      obtain ⟨cs', hc, ht⟩ := hi i (by omega)
      obtain ⟨_, hcl, hat⟩ := World.cells?_some hc
      obtain ⟨xs, n', _, _, _, hxl, hf⟩ := DataW.trod_struct Try.underlying65 ht
      have h_bool : (Try.prog).cellsOf 4 = 1 := by kernel_rfl
      have h_int : (Try.prog).cellsOf 3 = 1 := by kernel_rfl
      match cs', hcl with
      | [c0, c1], _ =>
        have g0 : DataW.trod enc Try.prog W 0 (fun _ => true) true n' 3 (List.take ((Try.prog).cellsOf 3) [c0, c1]) = xs[0]? := hf 0 _ rfl
        have g1 : DataW.trod enc Try.prog W 0 (fun _ => true) true n' 4 (List.take ((Try.prog).cellsOf 4) [c1]) = xs[1]? := hf 1 _ rfl
        rw [List.getElem?_eq_getElem (by rw [hxl]; decide)] at g0 g1
        rw [h_int] at g0
        rw [h_bool] at g1
        obtain ⟨n0, e0, _⟩ := DataW.trod_int Try.underlying3 g0
        have e0 : c0 = .int .i64 n0 := by simpa using e0
        obtain ⟨n1, e1, _⟩ := DataW.trod_bool Try.underlying4 g1
        have e1 : c1 = .bool n1 := by simpa using e1
        refine ⟨⟨n0, n1⟩, fun j v hj => ?_⟩
        have hj3 : j < 2 := (List.getElem?_eq_some_iff.1 hj).1
        rw [← Addr.add_add, hat j hj3, ← hj, e0, e1]
        rfl
    obtain ⟨ls, hls, hx⟩ := list_of (fun i (l : RCross) => ∀ j v, l.cells[j]? = some v → W.cell? (x.add (i * 2 + j)) = some v) n cell
    subst hls
    exact ⟨ls, rfl, .inr ⟨x, rfl, fun k hk j v hv => hx k hk j v hv⟩, by omega⟩
end
end Go.Proofs.Ythijfipjfdmoeaa
