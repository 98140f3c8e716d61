/- Bodies as the walks see them, and the contracts of the functions of the exact laws that copy and compare them. Condition: the rows are the call's own. -/
import Derived.Test.YtadbdceghnpopaaLimb
import Derived.BigQuiet
import Derived.Deep.QuietTactic
import Derived.Deep.RegionHeld3
namespace Go.Proofs.Ytadbdceghnpopaa
open Go.RowKit

/-- A body's value: its number of joints, and the slice of its limbs. -/
def bodyV (J : Int) (v : Value) : Value := .agg #[.int .i64 J, v]

theorem World.cell_setCell_some {w : World} {a b : Addr} {x u y : Value} (_ : w.cell? a = some x) (h : w.cell? b = some y) : ∃ z, (w.setCell a u).cell? b = some z := by
  by_cases e : a = b
  · subst e
    exact ⟨_, World.cell?_setCell_same _ _ _ h⟩
  · exact ⟨_, (World.cell?_setCell_other _ _ _ _ e).trans h⟩
/-- The two cells of a struct's block behind the stores. -/
theorem cells_set2 {w : World} {g : Nat} {u v : Value} (h0 : ∃ x, w.cell? ⟨g, 0, none⟩ = some x) (h1 : ∃ y, w.cell? ⟨g, 1, none⟩ = some y) :
    ((w.setCell ⟨g, 0, none⟩ u).setCell ⟨g, 1, none⟩ v).cell? ⟨g, 0, none⟩ = some u ∧ ((w.setCell ⟨g, 0, none⟩ u).setCell ⟨g, 1, none⟩ v).cell? ⟨g, 1, none⟩ = some v := by
  obtain ⟨x, h0⟩ := h0
  obtain ⟨y, h1⟩ := h1
  refine ⟨?_, ?_⟩
  · rw [World.cell?_setCell_other _ _ _ _ (by simp), World.cell?_setCell_same _ _ _ h0]
  · refine World.cell?_setCell_same (u := y) _ _ _ ?_
    rw [World.cell?_setCell_other _ _ _ _ (by simp), h1]

theorem _root_.Go.World.rangeAt.below {w w' : World} {B g o : Nat} {cs : List Value} (h : w.rangeAt g o cs) (hb : Below B w w') (hg : g < B) : w'.rangeAt g o cs :=
  fun j v hv => (hb.cell hg).trans (h j v hv)
theorem OwnL.mono {w : World} {base b : Nat} {v : Value} {ls : List Lb} (h : OwnL w base v ls) (hb : b ≤ base) : OwnL w b v ls := by
  refine ⟨h.1, ?_⟩
  rcases h.2 with h0 | ⟨g, cap, cur, e, hg, r⟩
  · exact .inl h0
  · exact .inr ⟨g, cap, cur, e, Nat.le_trans hb hg, r⟩
theorem OwnL.setCell_below {w : World} {base : Nat} {v : Value} {ls : List Lb} (h : OwnL w base v ls) {a : Addr} (ha : a.block < base) (u : Value) : OwnL (w.setCell a u) base v ls := ownsRow_setCell_below h ha u

theorem ArgL.alloc {w : World} {a : Option Addr} {ls : List Lb} (h : ArgL w a ls) (o : Obj) : ArgL (w.alloc o) a ls := by
  rcases h with h | ⟨x, e, h⟩
  · exact .inl h
  · exact .inr ⟨x, e, fun k hk j v hv => by
      have := h k hk j v hv
      rw [World.cell?_alloc_lt _ _ _ (World.block_lt_of_cell? w _ this)]
      exact this⟩

theorem toBody_walk (J : Int) (a : Option Addr) (cap : Nat) (ls : List Lb) (w : World) (ha : ArgL w a ls) (hl : ls.length ≤ 1048576) :
    Calls Try.prog 21 #[.agg #[.int .i64 J, .slice a ls.length cap]] w fun e w' => ∃ v, e = .returned (bodyV J v) ∧ OwnL w' w.heap.size v ls ∧ Below w.heap.size w w' := by
  go_enter Try.func21, Try.ntmps21
  go_wp2_with fail
  refine (toLimbS_walk a cap ls _ ((ha.alloc _).alloc _ |>.alloc _) hl).mono ?_
  rintro e w4 ⟨v, rfl, own4, b4⟩
  obtain ⟨A, c, rfl⟩ := own4.slice
  have d0 : w4.cell? ⟨w.heap.size + 1 + 1, 0, none⟩ = some (.int .i64 J) := by rw [b4.cell (by simp <;> omega)]; simp [go_sem]
  have d1 : w4.cell? ⟨w.heap.size + 1 + 1, 1, none⟩ = some (.slice none 0 0) := by rw [b4.cell (by simp <;> omega)]; simp [go_sem]
  have d2 : w4.cell? ⟨w.heap.size + 1, 0, none⟩ = some (.int .i64 0) := by rw [b4.cell (by simp <;> omega)]; simp [go_sem]
  have d3 : w4.cell? ⟨w.heap.size + 1, 1, none⟩ = some (.slice none 0 0) := by rw [b4.cell (by simp <;> omega)]; simp [go_sem]
  have f0 : w4.frozen? ⟨w.heap.size + 1 + 1, 0, none⟩ = false := by rw [b4.frozen (by simp <;> omega)]; simp [go_sem]
  have f1 : w4.frozen? ⟨w.heap.size + 1 + 1, 1, none⟩ = false := by rw [b4.frozen (by simp <;> omega)]; simp [go_sem]
  have f2 : w4.frozen? ⟨w.heap.size + 1, 0, none⟩ = false := by rw [b4.frozen (by simp <;> omega)]; simp [go_sem]
  have f3 : w4.frozen? ⟨w.heap.size + 1, 1, none⟩ = false := by rw [b4.frozen (by simp <;> omega)]; simp [go_sem]
  have OWN := Lib.hid own4
  have B := Lib.hid b4
  clear own4 b4
  go_wp2
  have k0 := World.cell?_setCell_same _ _ (.int .i64 J) ((World.cell?_setCell_other w4 ⟨w.heap.size + 1 + 1, 1, none⟩ ⟨w.heap.size + 1, 0, none⟩ (.slice A ls.length c) (by simp)).trans d2)
  obtain ⟨_, k1⟩ := cells_set2 (u := .int .i64 J) (v := .slice A ls.length c) (World.cell_setCell_some (u := .slice A ls.length c) d1 d2) (World.cell_setCell_some (u := .slice A ls.length c) d1 d3)
  refine bodyPost_ret (v := bodyV J (.slice A ls.length c)) (by simp [results, Try.results21, go_sem, k0, k1, bodyV]) rfl ⟨_, rfl, ?_, ?_⟩
  · have h := OWN.out
    simp only [World.size_alloc] at h
    exact (((h.setCell_below (by show w.heap.size + 1 + 1 < _; omega) _).setCell_below (by show w.heap.size + 1 < _; omega) _).setCell_below (by show w.heap.size + 1 < _; omega) _).mono (by omega)
  · refine ((((((((Below.refl w.heap.size w).alloc (Nat.le_refl _) _).alloc (by simp) _).alloc (by simp <;> omega) _).trans (B.out.mono (by simp <;> omega))).setCell ?_ _).setCell ?_ _).setCell ?_ _)
    · show w.heap.size ≤ w.heap.size + 1 + 1
      omega
    · show w.heap.size ≤ w.heap.size + 1
      omega
    · show w.heap.size ≤ w.heap.size + 1
      omega
end Go.Proofs.Ytadbdceghnpopaa
