/- An own row of numbers behind another. Condition: the numbers lie in rows of their own. -/
import Derived.Test.YtanlfkkmnnjpeaaRowB
import Derived.Maps.AppendAt
import Derived.RegionTactic
import Derived.Deep.AppendLies
import Derived.Deep.RegionHeld3
import Derived.Deep.RegionLaw
namespace Go.Proofs.Ytanlfkkmnnjpeaa
set_option linter.unusedVariables false
open Go.RowKit

theorem intV_one (zs : List Int) : ∀ u ∈ zs.map intV, u.oneCell' = true := by
  intro u hu
  obtain ⟨z, _, rfl⟩ := List.mem_map.1 hu
  rfl
/-- One own row behind another: what came is nil, empty or holds numbers. -/
theorem run_rowsI (w : World) (ty : TypeId) (base b2 : Nat) (v x : Value) (xs ys : List Int) (h1 : OwnI w base v xs) (h2 : OwnI w b2 x ys) (hl : xs.length + ys.length ≤ 4000000) (hB : base ≤ w.heap.size) :
    ∃ v' w', (Builtin.append_ #[33, 33] ty #[v, x]).run Try.prog w = .ok v' w' ∧ OwnI w' base v' (xs ++ ys) ∧ w.grownBy w' v.ownBlock ∧ (v'.ownBlock = v.ownBlock ∨ v'.ownBlock = some w.heap.size) := by
  obtain ⟨i, hi, hz, hs, hb⟩ := info_parts info_int
  rcases id h2.2 with ⟨rfl, hn⟩ | ⟨g, cap, cur, rfl, _⟩
  · have hy : ys = [] := List.eq_nil_of_length_eq_zero hn
    subst hy
    refine ⟨v, w, ?_, by simpa using h1, World.grownBy.refl w _, .inl rfl⟩
    rcases h1.2 with ⟨rfl, _⟩ | ⟨g, cap, cur, rfl, _, _, hnc, _⟩
    · simp [Builtin.append_, run_underlying Try.underlying33, sizeOf, typeInfo, hi, Builtin.lenOf, Builtin.firstCells]
    · simp [Builtin.append_, run_underlying Try.underlying33, sizeOf, typeInfo, hi, Builtin.lenOf, Builtin.firstCells, hnc, storeCells]
  · obtain ⟨v', w', hr, o, g1, _, hat⟩ := run_append_own_at (P := Try.prog) w base 33 ty 3 i (.int .i64 0) 1 8 Try.underlying33 hi hz hs hb rfl (by omega) v xs.length (xs.map intV) h1
      ⟨g, 0, none⟩ ys.length cap (ys.map intV) (by simp) (World.ownsRow.cells h2 rfl) (intV_one ys) (by simp only [maxLen]; omega) (by omega) hB
    refine ⟨v', w', hr, ?_, g1, hat⟩
    unfold OwnI
    rw [List.length_append, List.map_append]
    exact o
section
variable {w : World} {o : Oper} {a : Act} {Q : Exit → Act → World → Prop}
theorem wp_rowsI {K : Act → World → Prop} (s y : Operand) (ho : o.op = .call { callee := .builtin .append, args := #[s, y], argTypes := #[33, 33] })
    (base b2 : Nat) (v x : Value) (xs ys : List Int) (hs : a.eval s = v) (hy : a.eval y = x) (h1 : OwnI w base v xs) (h2 : OwnI w b2 x ys) (hl : xs.length + ys.length ≤ 4000000) (hB : base ≤ w.heap.size)
    (h : ∀ v' w', OwnI w' base v' (xs ++ ys) → w.grownBy w' v.ownBlock → (v'.ownBlock = v.ownBlock ∨ v'.ownBlock = some w.heap.size) → K (a.put o.dst v') w') : o.wp Try.prog a w K Q := by
  obtain ⟨v', w', hrun, e2, e3, e4⟩ := run_rowsI w o.type base b2 v x xs ys h1 h2 hl hB
  unfold Oper.wp execOp
  simp only [ho, resolve, invoke, builtin, Sem.run_bind, Sem.run_pure, Result.andThen_ok, List.map_toArray, List.map_cons, List.map_nil, hs, hy, hrun]
  exact h v' w' e2 e3 e4
theorem wpList_rowsI {ops : Array Oper} {rest : List Oper} (hgd : o.guard = none) (s y : Operand) (ho : o.op = .call { callee := .builtin .append, args := #[s, y], argTypes := #[33, 33] })
    (base b2 : Nat) (v x : Value) (xs ys : List Int) (hs : a.eval s = v) (hy : a.eval y = x) (h1 : OwnI w base v xs) (h2 : OwnI w b2 x ys) (hl : xs.length + ys.length ≤ 4000000) (hB : base ≤ w.heap.size)
    (h : ∀ v' w', OwnI w' base v' (xs ++ ys) → w.grownBy w' v.ownBlock → (v'.ownBlock = v.ownBlock ∨ v'.ownBlock = some w.heap.size) → wpList Try.prog ops Q rest (a.put o.dst v') w') : wpList Try.prog ops Q (o :: rest) a w :=
  wpList_plain hgd fun _ hK => wp_rowsI s y ho base b2 v x xs ys hs hy h1 h2 hl hB fun v' w' e2 e3 e4 => hK _ _ (h v' w' e2 e3 e4)
theorem step_rowsI {ops : Array Oper} {K : Act → World → Prop} {E : Prop} (hgd : o.guard = none) (s y : Operand) (ho : o.op = .call { callee := .builtin .append, args := #[s, y], argTypes := #[33, 33] })
    (base b2 : Nat) (v x : Value) (xs ys : List Int) (hs : a.eval s = v) (hy : a.eval y = x) (h1 : OwnI w base v xs) (h2 : OwnI w b2 x ys) (hl : xs.length + ys.length ≤ 4000000) (hB : base ≤ w.heap.size)
    (h : ∀ v' w', OwnI w' base v' (xs ++ ys) → w.grownBy w' v.ownBlock → (v'.ownBlock = v.ownBlock ∨ v'.ownBlock = some w.heap.size) → K (a.put o.dst v') w') :
    if Region.wanted o (yielded ops a.tmps) = true then Oper.wp Try.prog o a w K Q else E := by
  have hw : Region.wanted o (yielded ops a.tmps) = true := by simp [Region.wanted, hgd]
  rw [if_pos hw]
  exact wp_rowsI s y ho base b2 v x xs ys hs hy h1 h2 hl hB h
end
end Go.Proofs.Ytanlfkkmnnjpeaa
