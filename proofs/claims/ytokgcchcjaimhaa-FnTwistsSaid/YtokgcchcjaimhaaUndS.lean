/- The contract of spec.UndoCrosses. Condition: the crossings lie in a row of their own. -/
import Derived.Test.YtokgcchcjaimhaaCrsM
import Derived.Test.YtokgcchcjaimhaaCrossA
import Derived.BigQuiet
namespace Go.Proofs.Ytokgcchcjaimhaa
set_option linter.unusedVariables false
set_option linter.unusedSimpArgs false
open Go.RowKit

set_option maxRecDepth 100000 in
set_option maxHeartbeats 1600000 in
theorem specUndo (v : Value) (ls : List RCross) (b : Nat) (w : World) (h : OwnCross w b v ls) (hl : ls.length ≤ 2000000) :
    Calls Try.prog 17 #[v] w (CrossPost w (undo ls)) := by
  obtain ⟨A, c, rfl⟩ := h.slice
  have O := Lib.hid h
  clear h
  have e1 : IntKind.i64.wrap ((ls.length : Int) - 1) = (ls.length : Int) - 1 := IntWalk.i64_in _ (by omega)
  have E0 := Lib.hid (emptyCross w w.heap.size w.heap.size #[] rfl (Nat.le_refl _) rfl)
  have B0 := Lib.hid ((Below.refl w.heap.size w).alloc (Nat.le_refl _) (.cells #[] 60))
  go_enter Try.func17, Try.ntmps17
  go_wp2_with fail
  go_loopw [3, 4] (fun ov iv wr => ∃ (k : Nat) (vo : Value), vo = ov ∧ k ≤ ls.length ∧ iv = .int .i64 ((k : Int) - 1) ∧ Hid (OwnCross wr w.heap.size vo (undoTo ls k)) ∧ Hid (Below w.heap.size w wr)) (fun _ iv _ => (intOf iv + 1).toNat)
  case atStart => exact ⟨ls.length, _, rfl, by omega, by first | rfl | simp [e1], by rw [undoTo_all]; exact E0, B0⟩
  case round =>
    clear E0 B0 e1
    obtain ⟨k, vo, rfl, hk, rfl, OO, BW⟩ := hrel
    rcases Nat.eq_zero_or_pos k with rfl | hpos
    · have F := Lib.hid (undoTo_zero ls ▸ OO.out)
      clear OO
      go_wp2
      go_ret
      exact ⟨_, rfl, F.out, BW.out⟩
    obtain ⟨j, rfl⟩ : ∃ j, k = j + 1 := ⟨k - 1, by omega⟩
    have hlt : j < ls.length := by omega
    have ej : ((j + 1 : Nat) : Int) - 1 = (j : Int) := by omega
    rw [ej]
    have hk0 : (0 : Int) ≤ (j : Int) := by omega
    have hk1 : (j : Int) < (ls.length : Int) := by omega
    have e2 : IntKind.i64.wrap ((j : Int) - 1) = (j : Int) - 1 := IntWalk.i64_in _ (by omega)
    have SP := Lib.hid (fun W (hb : Below w.heap.size w W) => (O.out.below hb).spot hlt)
    obtain ⟨g, _, f1, _, gl, z0, _⟩ := O.out.spot hlt
    simp only [Value.slice.injEq] at f1
    obtain ⟨rfl, -, rfl⟩ := f1
    have z1 := z0.below BW.out gl
    have r0 : wr.cell? ⟨g, j * 2, none⟩ = some (.int .i64 ls[j].f0) := z1 0 _ rfl
    have r1 : wr.cell? ⟨g, j * 2 + 1, none⟩ = some (.bool ls[j].f1) := z1 1 _ rfl
    have LS := Lib.hid (undoTo_less hlt)
    have hu : (undoTo ls (j + 1)).length ≤ 2000000 := by simp [undoTo, undo]; omega
    have hbs := BW.out.size
    unfold turned at LS
    generalize ls[j].f0 = x at r0 LS
    generalize ls[j].f1 = y at r1 LS
    clear z0 z1 SP
    have X0 := Lib.hid (And.intro r0 r1)
    have NE : Hid (some g ≠ vo.ownBlock) := Lib.hid (fun e => by have := (OO.out.lt g e.symm).1; omega)
    go_wp2_with fail
    go_region_held3 (fun W => W.cell? ⟨g, j * 2, none⟩ = some (.int .i64 x) ∧ W.cell? ⟨g, j * 2 + 1, none⟩ = some (.bool y))
      (first | exact X0.out | exact ⟨(elder X0.out.1).1 _, (elder X0.out.2).1 _⟩ | exact ⟨g2.cell ((elder X0.out.1).1 _) NE.out, g2.cell ((elder X0.out.2).1 _) NE.out⟩)
      (first | (refine step_rowsCross (by rfl) (.tmp 13) (.tmp 26) (by rfl) w.heap.size wr.heap.size _ _ (undoTo ls (j + 1)) [⟨x, !y⟩] (by rfl) (by rfl) (OO.out.alloc _).dr (oneCross _ _ _ (Nat.le_refl _)).dr ?_ ?_ ?_; (simp; omega); (simp; omega); intro v2 w2 o2 g2 hat2))
    have B2 := Lib.hid (mineCross ((BW.out.alloc hbs _).drew) (by simp; omega) ((OO.out.alloc _).dr) g2)
    have O2 : Hid (OwnCross w2 w.heap.size v2 (undoTo ls j)) := Lib.hid (LS.out ▸ o2)
    clear o2 g2 hat2 OO BW r0 r1 ej
    go_wp2
    exact ⟨⟨j, v2, rfl, by omega, by first | rfl | simp [e2], O2, B2⟩, by simp [intOf] <;> omega⟩
end Go.Proofs.Ytokgcchcjaimhaa
