/- One row of numbers behind an own row of rows that lies below a place, the new row behind it. Condition: the rows are the call's own. -/
import Derived.Test.YtanlfkkmnnjpeaaPk6
import Derived.Test.YtanlfkkmnnjpeaaPk7
namespace Go.Proofs.Ytanlfkkmnnjpeaa
set_option linter.unusedVariables false
set_option linter.unusedSimpArgs false
open Go.RowKit

section
variable {w w' : World} {base B : Nat} {v : Value} {vs : List Value} {zss : List (List Int)}
theorem snocRB {u v' : Value} {zs : List Int} (h : OwnRR w base v vs zss) (t1 : ∀ k, v.ownBlock = some k → k < B) (t2 : ∀ t (ht : t < vs.length) k, vs[t].ownBlock = some k → k < B) (hu : OwnI w B u zs) (hbs : base ≤ B)
    (o : w'.ownsRow base 33 1 v' (zss.length + 1) (vs ++ [u])) (hg : w.grownBy w' v.ownBlock) (hat : v'.ownBlock = v.ownBlock ∨ v'.ownBlock = some w.heap.size) : OwnRR w' base v' (vs ++ [u]) (zss ++ [zs]) := by
  have uoff : u.ownBlock = none ∨ u.ownBlock ≠ v.ownBlock := sep_of fun b e1 e2 => by have := (hu.lt b e1).1; have := t1 b e2; omega
  have lt1 : ∀ i (hi : i < vs.length) b, vs[i].ownBlock = some b → b < w.heap.size := fun i hi b e => ((h.each i hi (by rw [← h.len]; exact hi)).lt b e).2
  refine ⟨by simpa using o, by simp [h.len], fun i hi hi' => ?_, fun i hi => ?_, fun i j hi hj hij => ?_⟩
  · by_cases e : i < vs.length
    · rw [List.getElem_append_left e, List.getElem_append_left (by rw [← h.len]; exact e)]
      exact (h.each i e (by rw [← h.len]; exact e)).kept hg (h.off i e)
    · have e2 : i = vs.length := by simp at hi; omega
      subst e2
      have e3 : (zss ++ [zs])[vs.length] = zs := by rw [List.getElem_append_right (by rw [h.len]; exact Nat.le_refl _)]; simp [h.len]
      rw [e3]
      simp only [List.getElem_concat_length]
      exact (hu.mono hbs).kept hg uoff
  · by_cases e : i < vs.length
    · rw [List.getElem_append_left e]
      rcases hat with hat | hat <;> rw [hat]
      · exact h.off i e
      · exact sep_of fun b e1 e2 => by have := lt1 i e b e1; have := Option.some.inj e2; omega
    · have e2 : i = vs.length := by simp at hi; omega
      subst e2
      simp only [List.getElem_concat_length]
      rcases hat with hat | hat <;> rw [hat]
      · exact uoff
      · exact sep_of fun b e1 e2 => by have := (hu.lt b e1).2; have := Option.some.inj e2; omega
  · by_cases e : i < vs.length
    · rw [List.getElem_append_left e]
      by_cases f : j < vs.length
      · rw [List.getElem_append_left f]
        exact h.apart i j e f hij
      · have e2 : j = vs.length := by simp at hj; omega
        subst e2
        simp only [List.getElem_concat_length]
        exact sep_of fun b e1 e2 => by have := (hu.lt b e2).1; have := t2 i e b e1; omega
    · have e2 : i = vs.length := by simp at hi; omega
      subst e2
      have f : j < vs.length := by simp at hj; omega
      rw [List.getElem_append_left f]
      simp only [List.getElem_concat_length]
      exact sep_of fun b e1 e2 => by have := (hu.lt b e1).1; have := t2 j f b e2; omega
theorem run_rowRB (ty : TypeId) (b2 : Nat) {u x : Value} {zs : List Int} (h : OwnRB w base B v zss) (hbs : base ≤ B) (hu : OwnI w B u zs) (hx : w.ownsRow b2 33 1 x 1 [u]) (hw : base ≤ w.heap.size) (hl : zss.length ≤ 4000000) :
    ∃ v' w', (Builtin.append_ #[25, 25] ty #[v, x]).run Try.prog w = .ok v' w' ∧ OwnR w' base v' (zss ++ [zs]) ∧ w.grownBy w' v.ownBlock ∧ (v'.ownBlock = v.ownBlock ∨ v'.ownBlock = some w.heap.size) := by
  obtain ⟨i, hi, hz, hs, hbd⟩ := info_parts info_ints
  obtain ⟨vs, h, t1, t2⟩ := h
  obtain ⟨A, c, rfl⟩ := hu.slice
  rcases id hx.2 with ⟨_, hn⟩ | ⟨g, cap, cur, rfl, _⟩
  · omega
  · obtain ⟨v', w', hr, o, g1, _, hat⟩ := run_append_own_at (P := Try.prog) w base 25 ty 33 i (.slice none 0 0) 1 24 Try.underlying25 hi hz hs hbd rfl (by omega) v zss.length vs h.row
      ⟨g, 0, none⟩ 1 cap [.slice A zs.length c] (by simp) (World.ownsRow.cells hx rfl) (by simp [Value.oneCell']) (by simp only [maxLen]; omega) (by omega) hw
    exact ⟨v', w', hr, ⟨_, snocRB h t1 t2 hu hbs o g1 hat⟩, g1, hat⟩
end
section
variable {w : World} {o : Oper} {a : Act} {Q : Exit → Act → World → Prop}
theorem wpList_rowRB {ops : Array Oper} {rest : List Oper} (hgd : o.guard = none) (s y : Operand) (ho : o.op = .call { callee := .builtin .append, args := #[s, y], argTypes := #[25, 25] })
    (base B b2 : Nat) (v x u : Value) (zss : List (List Int)) (zs : List Int) (hs : a.eval s = v) (hy : a.eval y = x) (h1 : OwnRB w base B v zss) (hbs : base ≤ B) (hu : OwnI w B u zs) (hx : w.ownsRow b2 33 1 x 1 [u]) (hw : base ≤ w.heap.size) (hl : zss.length ≤ 4000000)
    (h : ∀ v' w', OwnR w' base v' (zss ++ [zs]) → w.grownBy w' v.ownBlock → (v'.ownBlock = v.ownBlock ∨ v'.ownBlock = some w.heap.size) → wpList Try.prog ops Q rest (a.put o.dst v') w') : wpList Try.prog ops Q (o :: rest) a w :=
  wpList_plain hgd fun K hK => by
    obtain ⟨v', w', hrun, e2, e3, e4⟩ := run_rowRB (ty := o.type) b2 h1 hbs hu hx hw hl
    unfold Oper.wp execOp
    simp only [ho, resolve, invoke, builtin, Sem.run_bind, Sem.run_pure, Result.andThen_ok, List.map_toArray, List.map_cons, List.map_nil, hs, hy, hrun]
    exact hK _ _ (h v' w' e2 e3 e4)
end
end Go.Proofs.Ytanlfkkmnnjpeaa
