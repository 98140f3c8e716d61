/- One cue more behind an own row of cues; a row in a struct that grows by append. Condition: what came was made behind the others. -/
import Derived.Test.YtbgogcobkiaejabCueM
import Derived.Test.YtbgogcobkiaejabRowI
import Derived.Test.YtbgogcobkiaejabHeld
namespace Go.Proofs.Ytbgogcobkiaejab
set_option linter.unusedVariables false
set_option linter.unusedSimpArgs false
open Go.RowKit

/-- A new row that holds one cue. -/
theorem oneCueRow (w : World) (z : Int) (u1 u2 : Value) (b : Nat) (hb : b ≤ w.heap.size) : (w.alloc (.cells #[.int .i64 z, u1, u2] 31)).ownsRow b 31 3 (.slice (some ⟨w.heap.size, 0, none⟩) 1 1) 1 [.int .i64 z, u1, u2] :=
  ⟨rfl, .inr ⟨w.heap.size, 1, #[.int .i64 z, u1, u2], rfl, hb, heap_alloc_new w _, Nat.le_refl _, by simp only [maxLen]; omega, rfl, rfl⟩⟩
theorem run_oneCue {w : World} {base B b2 : Nat} {v x u1 u2 : Value} {ls : List RCue} {l : RCue} (ty : TypeId) (h : Held 31 3 w base B v ls.length (flatCue ls)) (hB : base ≤ B) (hw : base ≤ w.heap.size)
    (o1 : OwnI w B u1 l.f1) (o2 : OwnI w B u2 l.f2) (a12 : u1.ownBlock = none ∨ u1.ownBlock ≠ u2.ownBlock) (hx : w.ownsRow b2 31 3 x 1 [.int .i64 l.f0, u1, u2]) (hl : ls.length ≤ 1000000) :
    ∃ v' w', (Builtin.append_ #[24, 24] ty #[v, x]).run Try.prog w = .ok v' w' ∧ OwnCue w' base v' (ls ++ [l]) ∧ w.grownBy w' v.ownBlock ∧ (v'.ownBlock = v.ownBlock ∨ v'.ownBlock = some w.heap.size) := by
  obtain ⟨i, hi, hz, hs, hbd⟩ := info_parts infoCue
  obtain ⟨vs, h, h1, h2⟩ := h
  obtain ⟨A1, c1, rfl⟩ := o1.slice
  obtain ⟨A2, c2, rfl⟩ := o2.slice
  rcases id hx.2 with ⟨_, hn⟩ | ⟨g, cap, cur, rfl, _⟩
  · omega
  · obtain ⟨v', w', hr, o, g1, _, hat⟩ := run_append_own_at (P := Try.prog) w base 24 ty 31 i (.agg #[.int .i64 0, .slice none 0 0, .slice none 0 0]) 3 56 Try.underlying24 hi hz hs hbd rfl (by omega) v ls.length vs h.row
      ⟨g, 0, none⟩ 1 cap [.int .i64 l.f0, .slice A1 l.f1.length c1, .slice A2 l.f2.length c2] (by simp) (World.ownsRow.cells hx rfl) (by simp [Value.oneCell']) (by simp only [maxLen]; omega) (by omega) hw
    refine ⟨v', w', hr, ⟨vs ++ [.int .i64 l.f0, .slice A1 l.f1.length c1, .slice A2 l.f2.length c2], ?_⟩, g1, hat⟩
    rw [List.length_append, flatCue_append, show flatCue [l] = l.slots by simp [flatCue]]
    refine h.snoc h1 h2 hB rfl (fun j hj hj' => ?_) (fun i j hi hj hij => ?_) o g1 hat
    · rcases (by simp at hj; omega : j = 0 ∨ j = 1 ∨ j = 2) with rfl | rfl | rfl
      · exact rfl
      · exact o1
      · exact o2
    · rcases (by simp at hi; omega : i = 0 ∨ i = 1 ∨ i = 2) with rfl | rfl | rfl <;> rcases (by simp at hj; omega : j = 0 ∨ j = 1 ∨ j = 2) with rfl | rfl | rfl <;> first | (exact absurd rfl hij) | exact .inl rfl | exact sep_none_r rfl | exact a12 | exact sep_flip a12
theorem wpList_oneCue {w : World} {o : Oper} {a : Act} {Q : Exit → Act → World → Prop} {ops : Array Oper} {rest : List Oper} (hgd : o.guard = none) (s y : Operand) (ho : o.op = .call { callee := .builtin .append, args := #[s, y], argTypes := #[24, 24] })
    (base B b2 : Nat) (v x u1 u2 : Value) (ls : List RCue) (l : RCue) (hs : a.eval s = v) (hy : a.eval y = x) (h : Held 31 3 w base B v ls.length (flatCue ls)) (hB : base ≤ B) (hw : base ≤ w.heap.size)
    (o1 : OwnI w B u1 l.f1) (o2 : OwnI w B u2 l.f2) (a12 : u1.ownBlock = none ∨ u1.ownBlock ≠ u2.ownBlock) (hx : w.ownsRow b2 31 3 x 1 [.int .i64 l.f0, u1, u2]) (hl : ls.length ≤ 1000000)
    (hK : ∀ v' w', OwnCue w' base v' (ls ++ [l]) → w.grownBy w' v.ownBlock → (v'.ownBlock = v.ownBlock ∨ v'.ownBlock = some w.heap.size) → wpList Try.prog ops Q rest (a.put o.dst v') w') : wpList Try.prog ops Q (o :: rest) a w :=
  wpList_plain hgd fun K hK' => by
    obtain ⟨v', w', hrun, e2, e3, e4⟩ := run_oneCue (ty := o.type) h hB hw o1 o2 a12 hx hl
    unfold Oper.wp execOp
    simp only [ho, resolve, invoke, builtin, Sem.run_bind, Sem.run_pure, Result.andThen_ok, List.map_toArray, List.map_cons, List.map_nil, hs, hy, hrun]
    exact hK' _ _ (hK v' w' e2 e3 e4)
theorem emptyCue (w : World) (base g : Nat) (cs : Array Value) (hg : g = w.heap.size) (hb : base ≤ g) (hs : cs.size = 0) : OwnCue (w.alloc (.cells cs 31)) base (.slice (some ⟨g, 0, none⟩) 0 0) [] := by
  subst hg
  exact ⟨[], ⟨rfl, .inr ⟨w.heap.size, 0, cs, rfl, hb, heap_alloc_new w _, Nat.le_refl _, Nat.zero_le _, by omega, by simp⟩⟩, rfl, fun k hk => absurd hk (by simp), fun k hk => absurd hk (by simp), fun i j hi => absurd hi (by simp)⟩
/-- One struct in a box: a row of one. -/
theorem boxCue (w : World) (z : Int) (b : Nat) (hb : b ≤ w.heap.size) : OwnCue (w.alloc (.cells #[.int .i64 z, .slice none 0 0, .slice none 0 0] 31)) b (.slice (some ⟨w.heap.size, 0, none⟩) 1 1) [⟨z, [], []⟩] := by
  refine ownV_plain (vs := [.int .i64 z, .slice none 0 0, .slice none 0 0]) (oneCueRow w z _ _ b hb) rfl (fun t ht ht' => ?_) (fun t ht => ?_)
  · rcases (by simp at ht; omega : t = 0 ∨ t = 1 ∨ t = 2) with rfl | rfl | rfl <;> first | rfl | exact ⟨rfl, .inl ⟨rfl, rfl⟩⟩
  · rcases (by simp at ht; omega : t = 0 ∨ t = 1 ∨ t = 2) with rfl | rfl | rfl <;> rfl
end Go.Proofs.Ytbgogcobkiaejab
