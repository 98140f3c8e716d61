/- Bodies as the walks see them, and the contracts of the functions of the exact laws that copy and compare them. Condition: the rows are the call's own. -/
import Derived.Test.YtblbmppbbhibeaaLimb
namespace Go.Proofs.Ytblbmppbbhibeaa
set_option linter.unusedVariables false
set_option linter.unusedSimpArgs false
open Go.RowKit

/-- A body's value: its number of joints, and the slice of its limbs. -/
def bodyV (J : Int) (v : Value) : Value := .agg #[.int .i64 J, v]

theorem OwnL.mono {w : World} {base b : Nat} {v : Value} {ls : List Lb} (h : OwnL w base v ls) (hb : b ≤ base) : OwnL w b v ls := by
  refine ⟨h.1, ?_⟩
  rcases h.2 with h0 | ⟨g, cap, cur, e, hg, r⟩
  · exact .inl h0
  · exact .inr ⟨g, cap, cur, e, Nat.le_trans hb hg, r⟩
theorem OwnL.setCell_below {w : World} {base : Nat} {v : Value} {ls : List Lb} (h : OwnL w base v ls) {a : Addr} (ha : a.block < base) (u : Value) : OwnL (w.setCell a u) base v ls := ownsRow_setCell_below h ha u

theorem toBody_walk (J : Int) (a : Option Addr) (cap : Nat) (ls : List Lb) (w : World) (ha : ArgL w a ls) (hl : ls.length ≤ 1048576) :
    Calls Try.prog 21 #[.agg #[.int .i64 J, .slice a ls.length cap]] w fun e w' => ∃ v, e = .returned (bodyV J v) ∧ OwnL w' w.heap.size v ls ∧ Below w.heap.size w w' := by
  go_enter Try.func21, Try.ntmps21
  go_wp2_with fail
  refine (toLimbS_walk a cap ls _ ((ha.alloc _).alloc _ |>.alloc _) hl).mono ?_
  rintro e w4 ⟨v, rfl, own4, b4⟩
  obtain ⟨A, c, rfl⟩ := own4.slice
  have d0 : w4.cell? ⟨w.heap.size + 1 + 1, 0, none⟩ = some (.int .i64 J) := by rw [b4.cell (by simp <;> omega)]; simp [go_sem]
  have d1 : w4.cell? ⟨w.heap.size + 1 + 1, 1, none⟩ = some (.slice none 0 0) := by rw [b4.cell (by simp <;> omega)]; simp [go_sem]
  have d2 : w4.cell? ⟨w.heap.size + 1, 0, none⟩ = some (.int .i64 0) := by rw [b4.cell (by simp <;> omega)]; simp [go_sem]
  have d3 : w4.cell? ⟨w.heap.size + 1, 1, none⟩ = some (.slice none 0 0) := by rw [b4.cell (by simp <;> omega)]; simp [go_sem]
  have f0 : w4.frozen? ⟨w.heap.size + 1 + 1, 0, none⟩ = false := by rw [b4.frozen (by simp <;> omega)]; simp [go_sem]
  have f1 : w4.frozen? ⟨w.heap.size + 1 + 1, 1, none⟩ = false := by rw [b4.frozen (by simp <;> omega)]; simp [go_sem]
  have f2 : w4.frozen? ⟨w.heap.size + 1, 0, none⟩ = false := by rw [b4.frozen (by simp <;> omega)]; simp [go_sem]
  have f3 : w4.frozen? ⟨w.heap.size + 1, 1, none⟩ = false := by rw [b4.frozen (by simp <;> omega)]; simp [go_sem]
  have OWN := Lib.hid own4
  have B := Lib.hid b4
  clear own4 b4
  go_wp2
  have k0 := World.cell?_setCell_same _ _ (.int .i64 J) ((World.cell?_setCell_other w4 ⟨w.heap.size + 1 + 1, 1, none⟩ ⟨w.heap.size + 1, 0, none⟩ (.slice A ls.length c) (by simp)).trans d2)
  obtain ⟨_, k1⟩ := cells_set2 (u := .int .i64 J) (v := .slice A ls.length c) (World.cell_setCell_some (u := .slice A ls.length c) d1 d2) (World.cell_setCell_some (u := .slice A ls.length c) d1 d3)
  refine bodyPost_ret (v := bodyV J (.slice A ls.length c)) (by simp [results, Try.results21, go_sem, k0, k1, bodyV]) rfl ⟨_, rfl, ?_, ?_⟩
  · have h := OWN.out
    simp only [World.size_alloc] at h
    exact (((h.setCell_below (by show w.heap.size + 1 + 1 < _; omega) _).setCell_below (by show w.heap.size + 1 < _; omega) _).setCell_below (by show w.heap.size + 1 < _; omega) _).mono (by omega)
  · refine ((((((((Below.refl w.heap.size w).alloc (Nat.le_refl _) _).alloc (by simp) _).alloc (by simp <;> omega) _).trans (B.out.mono (by simp <;> omega))).setCell ?_ _).setCell ?_ _).setCell ?_ _)
    · show w.heap.size ≤ w.heap.size + 1 + 1
      omega
    · show w.heap.size ≤ w.heap.size + 1
      omega
    · show w.heap.size ≤ w.heap.size + 1
      omega
end Go.Proofs.Ytblbmppbbhibeaa
