/- An own row of Cross behind another, and a row of one (made by gen_rec.py). Condition: the structs lie in rows of their own. -/
import Derived.Test.YthijfipjfdmoeaaCrossM
import Derived.Maps.AppendAt
import Derived.RegionTactic
import Derived.Deep.AppendLies
import Derived.Deep.RegionHeld3
import Derived.Deep.RegionLaw
namespace Go.Proofs.Ythijfipjfdmoeaa
set_option linter.unusedVariables false
set_option linter.unusedSimpArgs false
open Go.RowKit

theorem flatCross_one (ls : List RCross) : ∀ u ∈ flatCross ls, u.oneCell' = true := by
  intro u hu
  unfold flatCross at hu
  rw [List.mem_flatMap] at hu
  obtain ⟨l, _, hu⟩ := hu
  simp only [RCross.cells, List.mem_cons, List.not_mem_nil, or_false] at hu
  rcases hu with rfl | rfl <;> rfl
theorem oneCross (w : World) (base : Nat) (l : RCross) (hb : base ≤ w.heap.size) : OwnCross (w.alloc (.cells #[.int .i64 l.f0, .bool l.f1] 56)) base (.slice (some ⟨w.heap.size, 0, none⟩) 1 1) [l] :=
  ⟨rfl, .inr ⟨w.heap.size, 1, #[.int .i64 l.f0, .bool l.f1], rfl, hb, heap_alloc_new w _, Nat.le_refl _, by simp only [maxLen]; omega, rfl, rfl⟩⟩
theorem mineCross {w w1 w2 : World} {base : Nat} {v : Value} {ls : List RCross} (hb : Below base w w1) (hs : base ≤ w1.heap.size) (h : OwnCross w1 base v ls) (hg : w1.grownBy w2 v.ownBlock) : Below base w w2 := hb.grown hg hs (fun k hk => (h.lt k hk).1)
theorem OwnCross.dr {w : World} {base : Nat} {v : Value} {ls : List RCross} (h : OwnCross w base v ls) : OwnCross w.drew base v ls := h.below ((Below.refl _ _).drew)
theorem flatCross_take (ls : List RCross) (k : Nat) : flatCross (ls.take k) = (flatCross ls).take (k * 2) := by
  induction ls generalizing k with
  | nil => simp [flatCross]
  | cons l ls ih =>
    cases k with
    | zero => simp [flatCross]
    | succ k =>
      rw [List.take_succ_cons, flatCross_cons, flatCross_cons, ih k, show (k + 1) * 2 = k * 2 + 1 + 1 by omega]
      simp only [List.take_succ_cons]
theorem lowCross {w : World} {base g n c k : Nat} {ls : List RCross} (h : OwnCross w base (.slice (some ⟨g, 0, none⟩) n c) ls) (hk : k ≤ ls.length) : OwnCross w base (.slice (some ⟨g, 0, none⟩) k c) (ls.take k) := by
  obtain ⟨h1, h2⟩ := h
  rcases h2 with ⟨h3, _⟩ | ⟨g', cap, cur, e, hb, hg, hnc, hcm, hcs, htake⟩
  · simp at h3
  · simp only [Value.slice.injEq, Option.some.injEq, Addr.mk.injEq, and_true, true_and] at e
    obtain ⟨rfl, hn, rfl⟩ := e
    have hl : (ls.take k).length = k := by rw [List.length_take]; omega
    refine ⟨by rw [flatCross_len], .inr ⟨g, c, cur, by rw [hl], hb, hg, by omega, hcm, hcs, ?_⟩⟩
    rw [hl, flatCross_take, ← htake, List.take_take]
    congr 1
    omega
theorem capCross {w : World} {base g n c : Nat} {ls : List RCross} (h : OwnCross w base (.slice (some ⟨g, 0, none⟩) n c) ls) : n ≤ c ∧ c ≤ maxLen := by
  obtain ⟨h1, h2⟩ := h
  rcases h2 with ⟨h3, _⟩ | ⟨g', cap, cur, e, hb, hg, hnc, hcm, hcs, htake⟩
  · simp at h3
  · simp only [Value.slice.injEq, Option.some.injEq, Addr.mk.injEq, and_true, true_and] at e
    obtain ⟨rfl, rfl, rfl⟩ := e
    exact ⟨hnc, hcm⟩
/-- One own row behind another: what came is nil, empty or holds limbs. -/
theorem run_rowsCross (w : World) (ty : TypeId) (base b2 : Nat) (v x : Value) (xs ys : List RCross) (h1 : OwnCross w base v xs) (h2 : OwnCross w b2 x ys) (hl : xs.length + ys.length ≤ 4000000) (hB : base ≤ w.heap.size) :
    ∃ v' w', (Builtin.append_ #[24, 24] ty #[v, x]).run Try.prog w = .ok v' w' ∧ OwnCross w' base v' (xs ++ ys) ∧ w.grownBy w' v.ownBlock ∧ (v'.ownBlock = v.ownBlock ∨ v'.ownBlock = some w.heap.size) := by
  obtain ⟨i, hi, hz, hs, hb⟩ := info_parts infoCross
  rcases id h2.2 with ⟨rfl, hn⟩ | ⟨g, cap, cur, rfl, _⟩
  · have hy : ys = [] := List.eq_nil_of_length_eq_zero hn
    subst hy
    refine ⟨v, w, ?_, by simpa using h1, World.grownBy.refl w _, .inl rfl⟩
    rcases h1.2 with ⟨rfl, _⟩ | ⟨g, cap, cur, rfl, _, _, hnc, _⟩
    · simp [Builtin.append_, run_underlying Try.underlying24, sizeOf, typeInfo, hi, Builtin.lenOf, Builtin.firstCells]
    · simp [Builtin.append_, run_underlying Try.underlying24, sizeOf, typeInfo, hi, Builtin.lenOf, Builtin.firstCells, hnc, storeCells]
  · obtain ⟨v', w', hr, o, g1, _, hat⟩ := run_append_own_at (P := Try.prog) w base 24 ty 56 i RCross.zero.val 2 16 Try.underlying24 hi hz hs hb rfl (by omega) v xs.length (flatCross xs) h1
      ⟨g, 0, none⟩ ys.length cap (flatCross ys) (flatCross_len ys) (World.ownsRow.cells h2 rfl) (flatCross_one ys) (by simp only [maxLen]; omega) (by omega) hB
    refine ⟨v', w', hr, ?_, g1, hat⟩
    unfold OwnCross
    rw [List.length_append, flatCross_append]
    exact o
section
variable {w : World} {o : Oper} {a : Act} {Q : Exit → Act → World → Prop}
theorem wp_rowsCross {K : Act → World → Prop} (s y : Operand) (ho : o.op = .call { callee := .builtin .append, args := #[s, y], argTypes := #[24, 24] })
    (base b2 : Nat) (v x : Value) (xs ys : List RCross) (hs : a.eval s = v) (hy : a.eval y = x) (h1 : OwnCross w base v xs) (h2 : OwnCross w b2 x ys) (hl : xs.length + ys.length ≤ 4000000) (hB : base ≤ w.heap.size)
    (h : ∀ v' w', OwnCross w' base v' (xs ++ ys) → w.grownBy w' v.ownBlock → (v'.ownBlock = v.ownBlock ∨ v'.ownBlock = some w.heap.size) → K (a.put o.dst v') w') : o.wp Try.prog a w K Q := by
  obtain ⟨v', w', hrun, e2, e3, e4⟩ := run_rowsCross w o.type base b2 v x xs ys h1 h2 hl hB
  unfold Oper.wp execOp
  simp only [ho, resolve, invoke, builtin, Sem.run_bind, Sem.run_pure, Result.andThen_ok, List.map_toArray, List.map_cons, List.map_nil, hs, hy, hrun]
  exact h v' w' e2 e3 e4
theorem wpList_rowsCross {ops : Array Oper} {rest : List Oper} (hgd : o.guard = none) (s y : Operand) (ho : o.op = .call { callee := .builtin .append, args := #[s, y], argTypes := #[24, 24] })
    (base b2 : Nat) (v x : Value) (xs ys : List RCross) (hs : a.eval s = v) (hy : a.eval y = x) (h1 : OwnCross w base v xs) (h2 : OwnCross w b2 x ys) (hl : xs.length + ys.length ≤ 4000000) (hB : base ≤ w.heap.size)
    (h : ∀ v' w', OwnCross w' base v' (xs ++ ys) → w.grownBy w' v.ownBlock → (v'.ownBlock = v.ownBlock ∨ v'.ownBlock = some w.heap.size) → wpList Try.prog ops Q rest (a.put o.dst v') w') : wpList Try.prog ops Q (o :: rest) a w :=
  wpList_plain hgd fun _ hK => wp_rowsCross s y ho base b2 v x xs ys hs hy h1 h2 hl hB fun v' w' e2 e3 e4 => hK _ _ (h v' w' e2 e3 e4)
theorem step_rowsCross {ops : Array Oper} {K : Act → World → Prop} {E : Prop} (hgd : o.guard = none) (s y : Operand) (ho : o.op = .call { callee := .builtin .append, args := #[s, y], argTypes := #[24, 24] })
    (base b2 : Nat) (v x : Value) (xs ys : List RCross) (hs : a.eval s = v) (hy : a.eval y = x) (h1 : OwnCross w base v xs) (h2 : OwnCross w b2 x ys) (hl : xs.length + ys.length ≤ 4000000) (hB : base ≤ w.heap.size)
    (h : ∀ v' w', OwnCross w' base v' (xs ++ ys) → w.grownBy w' v.ownBlock → (v'.ownBlock = v.ownBlock ∨ v'.ownBlock = some w.heap.size) → K (a.put o.dst v') w') :
    if Region.wanted o (yielded ops a.tmps) = true then Oper.wp Try.prog o a w K Q else E := by
  have hw : Region.wanted o (yielded ops a.tmps) = true := by simp [Region.wanted, hgd]
  rw [if_pos hw]
  exact wp_rowsCross s y ho base b2 v x xs ys hs hy h1 h2 hl hB h
end
end Go.Proofs.Ythijfipjfdmoeaa
