/- Player: a struct of numbers and rows of numbers as the walks see it: a row of the call's own, a row that came in (made by gen_own.py). No condition. -/
import Derived.Test.YtanlfkkmnnjpeaaSlot
import Derived.Test.YtanlfkkmnnjpeaaArgI
import Derived.Deep.Slices
import Derived.Lib.SmallJoins
import Derived.ChangeSame
namespace Go.Proofs.Ytanlfkkmnnjpeaa
set_option linter.unusedVariables false
set_option linter.unusedSimpArgs false
open Go.RowKit Go.ChangeShapes Go.WideShapes Go.ChangeAt Go.Deep Go.Joins

structure RPlayer where
  f0 : List Int
  f1 : Int
def RPlayer.slots (l : RPlayer) : List Slot := [.row l.f0, .num l.f1]
def RPlayer.zero : RPlayer := ⟨[], 0⟩
theorem slotsPlayer_len (l : RPlayer) : l.slots.length = 2 := rfl
def flatPlayer (ls : List RPlayer) : List Slot := ls.flatMap RPlayer.slots
theorem flatPlayer_len (ls : List RPlayer) : (flatPlayer ls).length = ls.length * 2 := fm_len slotsPlayer_len ls
theorem flatPlayer_at (ls : List RPlayer) (k j : Nat) (hj : j < 2) (hk : k < ls.length) : (flatPlayer ls)[k * 2 + j]? = ls[k].slots[j]? := fm_at slotsPlayer_len ls k j hj hk
theorem flatPlayer_append (xs ys : List RPlayer) : flatPlayer (xs ++ ys) = flatPlayer xs ++ flatPlayer ys := List.flatMap_append
/-- A slice value that owns the structs ls and the rows in them. -/
def OwnPlayer (w : World) (base : Nat) (v : Value) (ls : List RPlayer) : Prop := OwnV 71 2 w base v ls.length (flatPlayer ls)
section
variable {w w' w0 : World} {base b : Nat} {v : Value} {ls : List RPlayer}
theorem OwnPlayer.below (h : OwnPlayer w base v ls) (hb : Below w.heap.size w w') : OwnPlayer w' base v ls := OwnV.below h hb
theorem OwnPlayer.alloc (h : OwnPlayer w base v ls) (o : Obj) : OwnPlayer (w.alloc o) base v ls := OwnV.alloc h o
theorem OwnPlayer.lt (h : OwnPlayer w base v ls) : ∀ k, v.ownBlock = some k → base ≤ k ∧ k < w.heap.size := OwnV.lt h
theorem OwnPlayer.older {row : Option Nat} (h : OwnPlayer w base v ls) (hg : w.grownBy w' row) (hr : ∀ k, row = some k → k < base) : OwnPlayer w' base v ls := OwnV.older h hg hr
theorem OwnPlayer.mono (h : OwnPlayer w base v ls) (hb : b ≤ base) : OwnPlayer w b v ls := OwnV.mono h hb
theorem OwnPlayer.slice (h : OwnPlayer w base v ls) : ∃ A c, v = .slice A ls.length c := OwnV.slice h
/-- Element k: its cells, and the rows in it; how one of them is written in place. -/
theorem OwnPlayer.spot (h : OwnPlayer w base v ls) {k : Nat} (hk : k < ls.length) :
    ∃ g c A0 c0, v = .slice (some ⟨g, 0, none⟩) ls.length c ∧ (base ≤ g ∧ g < w.heap.size) ∧ (w.cell? ⟨g, k * 2, none⟩ = some (.slice A0 ls[k].f0.length c0) ∧ w.cell? ⟨g, k * 2 + 1, none⟩ = some (.int .i64 ls[k].f1)) ∧ (OwnI w base (.slice A0 ls[k].f0.length c0) ls[k].f0) ∧
      (w.frozen? ⟨g, k * 2, none⟩ = false ∧ w.frozen? ⟨g, k * 2 + 1, none⟩ = false) ∧
      (∀ w' zs, OwnI w' base (.slice A0 ls[k].f0.length c0) zs → w.grownBy w' (.slice A0 ls[k].f0.length c0 : Value).ownBlock → OwnPlayer w' base v (ls.set k { ls[k] with f0 := zs })) ∧
      True := by
  obtain ⟨vs, h⟩ := h
  obtain ⟨g0, d0, e0, l0, u0, v0, x0, z0, s0⟩ := h.at (t := k * 2) (s := .row ls[k].f0) (by have := flatPlayer_at ls k 0 (by omega) hk; exact this)
  obtain ⟨g1, d1, e1, l1, u1, v1, x1, z1, s1⟩ := h.at (t := k * 2 + 1) (s := .num ls[k].f1) (by have := flatPlayer_at ls k 1 (by omega) hk; exact this)
  have q1 := e1.symm.trans e0
  simp only [Value.slice.injEq, Option.some.injEq, Addr.mk.injEq, and_true, true_and] at q1
  obtain ⟨rfl, rfl⟩ := q1
  obtain ⟨A0, c0, y0⟩ := OwnI.slice (show OwnI w base u0 ls[k].f0 from s0)
  subst y0
  obtain rfl : u1 = .int .i64 ls[k].f1 := s1
  refine ⟨_, _, A0, c0, e0, l0, ⟨x0, x1⟩, s0, ⟨z0, z1⟩, fun w' zs o gg => ?_, trivial⟩
  · obtain ⟨hv0, w0⟩ := List.getElem?_eq_some_iff.1 v0
    have T := h.turn (t := k * 2) (x := .row zs) hv0 (by rw [w0]; exact o) (by rw [w0]; exact gg)
    rw [show (flatPlayer ls).set (k * 2) (.row zs) = flatPlayer (ls.set k { ls[k] with f0 := zs }) from fm_setj slotsPlayer_len ls k 0 (by omega) hk (.row zs) _ rfl] at T
    exact ⟨vs, by rw [List.length_set]; exact T⟩
/-- A number of element k is written. -/
theorem OwnPlayer.num1 {g c n : Nat} (h : OwnPlayer w base (.slice (some ⟨g, 0, none⟩) n c) ls) (hn : n = ls.length) {k : Nat} (hk : k < ls.length) (z : Int) :
    OwnPlayer (w.setCell ⟨g, k * 2 + 1, none⟩ (.int .i64 z)) base (.slice (some ⟨g, 0, none⟩) n c) (ls.set k { ls[k] with f1 := z }) ∧ w.grownBy (w.setCell ⟨g, k * 2 + 1, none⟩ (.int .i64 z)) (some g) := by
  subst hn
  obtain ⟨vs, h⟩ := h
  have hv : k * 2 + 1 < vs.length := by rw [h.len, flatPlayer_len]; omega
  obtain ⟨p, gg⟩ := h.put (t := k * 2 + 1) (u := .int .i64 z) (x := .num z) hv rfl (.inl rfl) (fun _ _ _ => .inl rfl)
  rw [show (flatPlayer ls).set (k * 2 + 1) (.num z) = flatPlayer (ls.set k { ls[k] with f1 := z }) from fm_setj slotsPlayer_len ls k 1 (by omega) hk (.num z) _ rfl] at p
  exact ⟨⟨_, by rw [List.length_set]; exact p⟩, gg⟩
/-- Element k is written whole: its rows have been made since. -/
theorem OwnPlayer.set {g c n : Nat} {u0 : Value} {l : RPlayer} (h : OwnPlayer w0 base (.slice (some ⟨g, 0, none⟩) n c) ls) (hn : n = ls.length) {k : Nat} (hk : k < ls.length) (hb : Below w0.heap.size w0 w) (hbs : base ≤ w0.heap.size)
    (o0 : OwnI w w0.heap.size u0 l.f0)  :
    OwnPlayer (w.setCells g (k * 2) [u0, .int .i64 l.f1]) base (.slice (some ⟨g, 0, none⟩) n c) (ls.set k l) ∧ w.grownBy (w.setCells g (k * 2) [u0, .int .i64 l.f1]) (some g) := by
  subst hn
  obtain ⟨vs, h⟩ := h
  have hg := (h.lt g rfl).2
  have hv : k * 2 + 2 ≤ vs.length := by rw [h.len, flatPlayer_len]; omega
  have old := h.eachLt
  have far : ∀ u : Value, (∀ q, u.ownBlock = some q → w0.heap.size ≤ q) → (u.ownBlock = none ∨ u.ownBlock ≠ some g) ∧ ∀ i (hi : i < vs.length), u.ownBlock = none ∨ u.ownBlock ≠ vs[i].ownBlock := fun u hu =>
    ⟨sep_of fun q e1 e2 => by have := hu q e1; have := Option.some.inj e2; omega, fun i hi => sep_of fun q e1 e2 => by have := hu q e1; have := (old i hi q e2).2; omega⟩
  have F0 := far u0 (fun q hq => (o0.lt q hq).1)
  obtain ⟨p, gg⟩ := (h.below hb).puts [u0, .int .i64 l.f1] l.slots (k * 2) hv rfl
    (fun j hj hj' => by
      rcases (by simp at hj; omega : j = 0 ∨ j = 1) with rfl | rfl
      · exact o0.mono hbs
      · exact rfl
    )
    (fun j hj => by
      rcases (by simp at hj; omega : j = 0 ∨ j = 1) with rfl | rfl
      · exact F0.1
      · exact .inl rfl
    )
    (fun j hj i hi => by
      rcases (by simp at hj; omega : j = 0 ∨ j = 1) with rfl | rfl
      · exact F0.2 i hi
      · exact .inl rfl
    )
    (fun i j hi hj hij => by
      rcases (by simp at hi; omega : i = 0 ∨ i = 1) with rfl | rfl <;> rcases (by simp at hj; omega : j = 0 ∨ j = 1) with rfl | rfl <;> first | (exact absurd rfl hij) | exact .inl rfl | exact sep_none_r rfl)
  rw [show putAt (flatPlayer ls) (k * 2) l.slots = flatPlayer (ls.set k l) from fm_put slotsPlayer_len ls k hk l] at p
  exact ⟨⟨_, by rw [List.length_set]; exact p⟩, gg⟩
theorem ownPlayer_made {n g : Nat} (h : w.ownsRow base 71 2 (.slice (some ⟨g, 0, none⟩) n n) n (madeCells #[.slice none 0 0, .int .i64 0] (n * 2)).toList) : OwnPlayer w base (.slice (some ⟨g, 0, none⟩) n n) (List.replicate n RPlayer.zero) := by
  have hl : (madeCells #[.slice none 0 0, .int .i64 0] (n * 2)).toList.length = (flatPlayer (List.replicate n RPlayer.zero)).length := by rw [flatPlayer_len, List.length_replicate, Array.length_toList, size_madeCells]
  have at_ : ∀ t (ht : t < (madeCells #[.slice none 0 0, .int .i64 0] (n * 2)).toList.length), (madeCells #[.slice none 0 0, .int .i64 0] (n * 2)).toList[t] = (#[.slice none 0 0, .int .i64 0] : Array Value)[t % 2]! := fun t ht => by
    simp only [madeCells, Array.getElem_toList, Array.getElem_map, Array.getElem_range]
    rfl
  unfold OwnPlayer
  rw [List.length_replicate]
  refine ownV_plain h hl (fun t ht ht' => ?_) (fun t ht => ?_)
  · have hq : t / 2 < n := by rw [flatPlayer_len, List.length_replicate] at ht'; omega
    have e := flatPlayer_at (List.replicate n RPlayer.zero) (t / 2) (t % 2) (Nat.mod_lt _ (by omega)) (by rw [List.length_replicate]; exact hq)
    rw [show t / 2 * 2 + t % 2 = t by omega, List.getElem?_eq_getElem ht', List.getElem_replicate] at e
    rw [at_ t ht]
    rcases (by omega : t % 2 = 0 ∨ t % 2 = 1) with q | q <;> rw [q] at e ⊢ <;> rw [Option.some.inj e] <;> first | rfl | exact ⟨rfl, .inl ⟨rfl, rfl⟩⟩
  · rw [at_ t ht]
    rcases (by omega : t % 2 = 0 ∨ t % 2 = 1) with q | q <;> rw [q] <;> rfl
end
theorem copiedPlayer (ls : List RPlayer) (k : Nat) (h : k < ls.length) : (ls.take k ++ List.replicate (ls.length - k) RPlayer.zero).set k ls[k] = ls.take (k + 1) ++ List.replicate (ls.length - (k + 1)) RPlayer.zero := by
  have e : ls.take (k + 1) = ls.take k ++ [ls[k]] := by rw [List.take_add_one, List.getElem?_eq_getElem h]; rfl
  rw [List.set_append_right _ _ (by rw [List.length_take]; omega), List.length_take, Nat.min_eq_left (by omega), Nat.sub_self, show ls.length - k = (ls.length - (k + 1)) + 1 by omega, List.replicate_succ, List.set_cons_zero, e, List.append_assoc]
  rfl
theorem infoPlayer : (Try.prog.info? 71).map (fun i => (i.zero, i.size, i.bytes)) = some (some (.agg #[.slice none 0 0, .int .i64 0]), 2, 32) := by kernel_rfl
end Go.Proofs.Ytanlfkkmnnjpeaa
