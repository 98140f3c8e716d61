/- Cue: a struct of numbers and rows of numbers as the walks see it: a row of the call's own, a row that came in (made by gen_own.py). No condition. -/
import Derived.Test.YtbgogcobkiaejabSlot
import Derived.Test.YtbgogcobkiaejabArgI
import Derived.Deep.Slices
import Derived.Lib.SmallJoins
import Derived.ChangeSame
namespace Go.Proofs.Ytbgogcobkiaejab
set_option linter.unusedVariables false
set_option linter.unusedSimpArgs false
open Go.RowKit Go.ChangeShapes Go.WideShapes Go.ChangeAt Go.Deep Go.Joins

structure RCue where
  f0 : Int
  f1 : List Int
  f2 : List Int
def RCue.slots (l : RCue) : List Slot := [.num l.f0, .row l.f1, .row l.f2]
def RCue.zero : RCue := ⟨0, [], []⟩
theorem slotsCue_len (l : RCue) : l.slots.length = 3 := rfl
def flatCue (ls : List RCue) : List Slot := ls.flatMap RCue.slots
theorem flatCue_len (ls : List RCue) : (flatCue ls).length = ls.length * 3 := fm_len slotsCue_len ls
theorem flatCue_at (ls : List RCue) (k j : Nat) (hj : j < 3) (hk : k < ls.length) : (flatCue ls)[k * 3 + j]? = ls[k].slots[j]? := fm_at slotsCue_len ls k j hj hk
theorem flatCue_append (xs ys : List RCue) : flatCue (xs ++ ys) = flatCue xs ++ flatCue ys := List.flatMap_append
/-- A slice value that owns the structs ls and the rows in them. -/
def OwnCue (w : World) (base : Nat) (v : Value) (ls : List RCue) : Prop := OwnV 31 3 w base v ls.length (flatCue ls)
section
variable {w w' w0 : World} {base b : Nat} {v : Value} {ls : List RCue}
theorem OwnCue.below (h : OwnCue w base v ls) (hb : Below w.heap.size w w') : OwnCue w' base v ls := OwnV.below h hb
theorem OwnCue.alloc (h : OwnCue w base v ls) (o : Obj) : OwnCue (w.alloc o) base v ls := OwnV.alloc h o
theorem OwnCue.lt (h : OwnCue w base v ls) : ∀ k, v.ownBlock = some k → base ≤ k ∧ k < w.heap.size := OwnV.lt h
theorem OwnCue.older {row : Option Nat} (h : OwnCue w base v ls) (hg : w.grownBy w' row) (hr : ∀ k, row = some k → k < base) : OwnCue w' base v ls := OwnV.older h hg hr
theorem OwnCue.mono (h : OwnCue w base v ls) (hb : b ≤ base) : OwnCue w b v ls := OwnV.mono h hb
theorem OwnCue.slice (h : OwnCue w base v ls) : ∃ A c, v = .slice A ls.length c := OwnV.slice h
/-- Element k: its cells, and the rows in it; how one of them is written in place. -/
theorem OwnCue.spot (h : OwnCue w base v ls) {k : Nat} (hk : k < ls.length) :
    ∃ g c A1 c1 A2 c2, v = .slice (some ⟨g, 0, none⟩) ls.length c ∧ (base ≤ g ∧ g < w.heap.size) ∧ (w.cell? ⟨g, k * 3, none⟩ = some (.int .i64 ls[k].f0) ∧ w.cell? ⟨g, k * 3 + 1, none⟩ = some (.slice A1 ls[k].f1.length c1) ∧ w.cell? ⟨g, k * 3 + 2, none⟩ = some (.slice A2 ls[k].f2.length c2)) ∧ (OwnI w base (.slice A1 ls[k].f1.length c1) ls[k].f1 ∧ OwnI w base (.slice A2 ls[k].f2.length c2) ls[k].f2) ∧
      (w.frozen? ⟨g, k * 3, none⟩ = false ∧ w.frozen? ⟨g, k * 3 + 1, none⟩ = false ∧ w.frozen? ⟨g, k * 3 + 2, none⟩ = false) ∧
      (∀ w' zs, OwnI w' base (.slice A1 ls[k].f1.length c1) zs → w.grownBy w' (.slice A1 ls[k].f1.length c1 : Value).ownBlock → OwnCue w' base v (ls.set k { ls[k] with f1 := zs }) ∧ (OwnI w' base (.slice A2 ls[k].f2.length c2) ls[k].f2)) ∧
      (∀ w' zs, OwnI w' base (.slice A2 ls[k].f2.length c2) zs → w.grownBy w' (.slice A2 ls[k].f2.length c2 : Value).ownBlock → OwnCue w' base v (ls.set k { ls[k] with f2 := zs }) ∧ (OwnI w' base (.slice A1 ls[k].f1.length c1) ls[k].f1)) ∧
      True := by
  obtain ⟨vs, h⟩ := h
  obtain ⟨g0, d0, e0, l0, u0, v0, x0, z0, s0⟩ := h.at (t := k * 3) (s := .num ls[k].f0) (by have := flatCue_at ls k 0 (by omega) hk; exact this)
  obtain ⟨g1, d1, e1, l1, u1, v1, x1, z1, s1⟩ := h.at (t := k * 3 + 1) (s := .row ls[k].f1) (by have := flatCue_at ls k 1 (by omega) hk; exact this)
  obtain ⟨g2, d2, e2, l2, u2, v2, x2, z2, s2⟩ := h.at (t := k * 3 + 2) (s := .row ls[k].f2) (by have := flatCue_at ls k 2 (by omega) hk; exact this)
  have q1 := e1.symm.trans e0
  simp only [Value.slice.injEq, Option.some.injEq, Addr.mk.injEq, and_true, true_and] at q1
  obtain ⟨rfl, rfl⟩ := q1
  have q2 := e2.symm.trans e0
  simp only [Value.slice.injEq, Option.some.injEq, Addr.mk.injEq, and_true, true_and] at q2
  obtain ⟨rfl, rfl⟩ := q2
  obtain ⟨A1, c1, y1⟩ := OwnI.slice (show OwnI w base u1 ls[k].f1 from s1)
  subst y1
  obtain ⟨A2, c2, y2⟩ := OwnI.slice (show OwnI w base u2 ls[k].f2 from s2)
  subst y2
  obtain rfl : u0 = .int .i64 ls[k].f0 := s0
  refine ⟨_, _, A1, c1, A2, c2, e0, l0, ⟨x0, x1, x2⟩, ⟨s1, s2⟩, ⟨z0, z1, z2⟩, fun w' zs o gg => ?_, fun w' zs o gg => ?_, trivial⟩
  · obtain ⟨hv1, w1⟩ := List.getElem?_eq_some_iff.1 v1
    have T := h.turn (t := k * 3 + 1) (x := .row zs) hv1 (by rw [w1]; exact o) (by rw [w1]; exact gg)
    rw [show (flatCue ls).set (k * 3 + 1) (.row zs) = flatCue (ls.set k { ls[k] with f1 := zs }) from fm_setj slotsCue_len ls k 1 (by omega) hk (.row zs) _ rfl] at T
    refine ⟨⟨vs, by rw [List.length_set]; exact T⟩, ?_⟩
    exact (show OwnI w base _ _ from s2).kept gg (by
        obtain ⟨hv2, w2⟩ := List.getElem?_eq_some_iff.1 v2
        have a := h.apart _ _ hv2 hv1 (by omega)
        rwa [w2, w1] at a)
  · obtain ⟨hv2, w2⟩ := List.getElem?_eq_some_iff.1 v2
    have T := h.turn (t := k * 3 + 2) (x := .row zs) hv2 (by rw [w2]; exact o) (by rw [w2]; exact gg)
    rw [show (flatCue ls).set (k * 3 + 2) (.row zs) = flatCue (ls.set k { ls[k] with f2 := zs }) from fm_setj slotsCue_len ls k 2 (by omega) hk (.row zs) _ rfl] at T
    refine ⟨⟨vs, by rw [List.length_set]; exact T⟩, ?_⟩
    exact (show OwnI w base _ _ from s1).kept gg (by
        obtain ⟨hv1, w1⟩ := List.getElem?_eq_some_iff.1 v1
        have a := h.apart _ _ hv1 hv2 (by omega)
        rwa [w1, w2] at a)
/-- A number of element k is written. -/
theorem OwnCue.num0 {g c n : Nat} (h : OwnCue w base (.slice (some ⟨g, 0, none⟩) n c) ls) (hn : n = ls.length) {k : Nat} (hk : k < ls.length) (z : Int) :
    OwnCue (w.setCell ⟨g, k * 3, none⟩ (.int .i64 z)) base (.slice (some ⟨g, 0, none⟩) n c) (ls.set k { ls[k] with f0 := z }) ∧ w.grownBy (w.setCell ⟨g, k * 3, none⟩ (.int .i64 z)) (some g) := by
  subst hn
  obtain ⟨vs, h⟩ := h
  have hv : k * 3 < vs.length := by rw [h.len, flatCue_len]; omega
  obtain ⟨p, gg⟩ := h.put (t := k * 3) (u := .int .i64 z) (x := .num z) hv rfl (.inl rfl) (fun _ _ _ => .inl rfl)
  rw [show (flatCue ls).set (k * 3) (.num z) = flatCue (ls.set k { ls[k] with f0 := z }) from fm_setj slotsCue_len ls k 0 (by omega) hk (.num z) _ rfl] at p
  exact ⟨⟨_, by rw [List.length_set]; exact p⟩, gg⟩
/-- Element k is written whole: its rows have been made since. -/
theorem OwnCue.set {g c n : Nat} {u1 u2 : Value} {l : RCue} (h : OwnCue w0 base (.slice (some ⟨g, 0, none⟩) n c) ls) (hn : n = ls.length) {k : Nat} (hk : k < ls.length) (hb : Below w0.heap.size w0 w) (hbs : base ≤ w0.heap.size)
    (o1 : OwnI w w0.heap.size u1 l.f1) (o2 : OwnI w w0.heap.size u2 l.f2) (a12 : u1.ownBlock = none ∨ u1.ownBlock ≠ u2.ownBlock) :
    OwnCue (w.setCells g (k * 3) [.int .i64 l.f0, u1, u2]) base (.slice (some ⟨g, 0, none⟩) n c) (ls.set k l) ∧ w.grownBy (w.setCells g (k * 3) [.int .i64 l.f0, u1, u2]) (some g) := by
  subst hn
  obtain ⟨vs, h⟩ := h
  have hg := (h.lt g rfl).2
  have hv : k * 3 + 3 ≤ vs.length := by rw [h.len, flatCue_len]; omega
  have old := h.eachLt
  have far : ∀ u : Value, (∀ q, u.ownBlock = some q → w0.heap.size ≤ q) → (u.ownBlock = none ∨ u.ownBlock ≠ some g) ∧ ∀ i (hi : i < vs.length), u.ownBlock = none ∨ u.ownBlock ≠ vs[i].ownBlock := fun u hu =>
    ⟨sep_of fun q e1 e2 => by have := hu q e1; have := Option.some.inj e2; omega, fun i hi => sep_of fun q e1 e2 => by have := hu q e1; have := (old i hi q e2).2; omega⟩
  have F1 := far u1 (fun q hq => (o1.lt q hq).1)
  have F2 := far u2 (fun q hq => (o2.lt q hq).1)
  obtain ⟨p, gg⟩ := (h.below hb).puts [.int .i64 l.f0, u1, u2] l.slots (k * 3) hv rfl
    (fun j hj hj' => by
      rcases (by simp at hj; omega : j = 0 ∨ j = 1 ∨ j = 2) with rfl | rfl | rfl
      · exact rfl
      · exact o1.mono hbs
      · exact o2.mono hbs
    )
    (fun j hj => by
      rcases (by simp at hj; omega : j = 0 ∨ j = 1 ∨ j = 2) with rfl | rfl | rfl
      · exact .inl rfl
      · exact F1.1
      · exact F2.1
    )
    (fun j hj i hi => by
      rcases (by simp at hj; omega : j = 0 ∨ j = 1 ∨ j = 2) with rfl | rfl | rfl
      · exact .inl rfl
      · exact F1.2 i hi
      · exact F2.2 i hi
    )
    (fun i j hi hj hij => by
      rcases (by simp at hi; omega : i = 0 ∨ i = 1 ∨ i = 2) with rfl | rfl | rfl <;> rcases (by simp at hj; omega : j = 0 ∨ j = 1 ∨ j = 2) with rfl | rfl | rfl <;> first | (exact absurd rfl hij) | exact .inl rfl | exact sep_none_r rfl | exact a12 | exact sep_flip a12)
  rw [show putAt (flatCue ls) (k * 3) l.slots = flatCue (ls.set k l) from fm_put slotsCue_len ls k hk l] at p
  exact ⟨⟨_, by rw [List.length_set]; exact p⟩, gg⟩
theorem ownCue_made {n g : Nat} (h : w.ownsRow base 31 3 (.slice (some ⟨g, 0, none⟩) n n) n (madeCells #[.int .i64 0, .slice none 0 0, .slice none 0 0] (n * 3)).toList) : OwnCue w base (.slice (some ⟨g, 0, none⟩) n n) (List.replicate n RCue.zero) := by
  have hl : (madeCells #[.int .i64 0, .slice none 0 0, .slice none 0 0] (n * 3)).toList.length = (flatCue (List.replicate n RCue.zero)).length := by rw [flatCue_len, List.length_replicate, Array.length_toList, size_madeCells]
  have at_ : ∀ t (ht : t < (madeCells #[.int .i64 0, .slice none 0 0, .slice none 0 0] (n * 3)).toList.length), (madeCells #[.int .i64 0, .slice none 0 0, .slice none 0 0] (n * 3)).toList[t] = (#[.int .i64 0, .slice none 0 0, .slice none 0 0] : Array Value)[t % 3]! := fun t ht => by
    simp only [madeCells, Array.getElem_toList, Array.getElem_map, Array.getElem_range]
    rfl
  unfold OwnCue
  rw [List.length_replicate]
  refine ownV_plain h hl (fun t ht ht' => ?_) (fun t ht => ?_)
  · have hq : t / 3 < n := by rw [flatCue_len, List.length_replicate] at ht'; omega
    have e := flatCue_at (List.replicate n RCue.zero) (t / 3) (t % 3) (Nat.mod_lt _ (by omega)) (by rw [List.length_replicate]; exact hq)
    rw [show t / 3 * 3 + t % 3 = t by omega, List.getElem?_eq_getElem ht', List.getElem_replicate] at e
    rw [at_ t ht]
    rcases (by omega : t % 3 = 0 ∨ t % 3 = 1 ∨ t % 3 = 2) with q | q | q <;> rw [q] at e ⊢ <;> rw [Option.some.inj e] <;> first | rfl | exact ⟨rfl, .inl ⟨rfl, rfl⟩⟩
  · rw [at_ t ht]
    rcases (by omega : t % 3 = 0 ∨ t % 3 = 1 ∨ t % 3 = 2) with q | q | q <;> rw [q] <;> rfl
end
theorem copiedCue (ls : List RCue) (k : Nat) (h : k < ls.length) : (ls.take k ++ List.replicate (ls.length - k) RCue.zero).set k ls[k] = ls.take (k + 1) ++ List.replicate (ls.length - (k + 1)) RCue.zero := by
  have e : ls.take (k + 1) = ls.take k ++ [ls[k]] := by rw [List.take_add_one, List.getElem?_eq_getElem h]; rfl
  rw [List.set_append_right _ _ (by rw [List.length_take]; omega), List.length_take, Nat.min_eq_left (by omega), Nat.sub_self, show ls.length - k = (ls.length - (k + 1)) + 1 by omega, List.replicate_succ, List.set_cons_zero, e, List.append_assoc]
  rfl
theorem infoCue : (Try.prog.info? 31).map (fun i => (i.zero, i.size, i.bytes)) = some (some (.agg #[.int .i64 0, .slice none 0 0, .slice none 0 0]), 3, 56) := by kernel_rfl
end Go.Proofs.Ytbgogcobkiaejab
