/- One player more behind an own row of players; a player in a box. Condition: what came was made behind the others. -/
import Derived.Test.YtanlfkkmnnjpeaaPk1
import Derived.Test.YtanlfkkmnnjpeaaHeld
namespace Go.Proofs.Ytanlfkkmnnjpeaa
set_option linter.unusedVariables false
set_option linter.unusedSimpArgs false
open Go.RowKit

/-- A new row that holds one player. -/
theorem onePlayerRow (w : World) (z : Int) (u0 : Value) (b : Nat) (hb : b ≤ w.heap.size) : (w.alloc (.cells #[u0, .int .i64 z] 71)).ownsRow b 71 2 (.slice (some ⟨w.heap.size, 0, none⟩) 1 1) 1 [u0, .int .i64 z] :=
  ⟨rfl, .inr ⟨w.heap.size, 1, #[u0, .int .i64 z], rfl, hb, heap_alloc_new w _, Nat.le_refl _, by simp only [maxLen]; omega, rfl, rfl⟩⟩
theorem run_onePlayer {w : World} {base B b2 : Nat} {v x u0 : Value} {ls : List RPlayer} {l : RPlayer} (ty : TypeId) (h : Held 71 2 w base B v ls.length (flatPlayer ls)) (hB : base ≤ B) (hw : base ≤ w.heap.size)
    (o0 : OwnI w B u0 l.f0) (hx : w.ownsRow b2 71 2 x 1 [u0, .int .i64 l.f1]) (hl : ls.length ≤ 2000000) :
    ∃ v' w', (Builtin.append_ #[24, 24] ty #[v, x]).run Try.prog w = .ok v' w' ∧ OwnPlayer w' base v' (ls ++ [l]) ∧ w.grownBy w' v.ownBlock ∧ (v'.ownBlock = v.ownBlock ∨ v'.ownBlock = some w.heap.size) := by
  obtain ⟨i, hi, hz, hs, hbd⟩ := info_parts infoPlayer
  obtain ⟨vs, h, h1, h2⟩ := h
  obtain ⟨A0, c0, rfl⟩ := o0.slice
  rcases id hx.2 with ⟨_, hn⟩ | ⟨g, cap, cur, rfl, _⟩
  · omega
  · obtain ⟨v', w', hr, o, g1, _, hat⟩ := run_append_own_at (P := Try.prog) w base 24 ty 71 i (.agg #[.slice none 0 0, .int .i64 0]) 2 32 Try.underlying24 hi hz hs hbd rfl (by omega) v ls.length vs h.row
      ⟨g, 0, none⟩ 1 cap [.slice A0 l.f0.length c0, .int .i64 l.f1] (by simp) (World.ownsRow.cells hx rfl) (by simp [Value.oneCell']) (by simp only [maxLen]; omega) (by omega) hw
    refine ⟨v', w', hr, ⟨vs ++ [.slice A0 l.f0.length c0, .int .i64 l.f1], ?_⟩, g1, hat⟩
    rw [List.length_append, flatPlayer_append, show flatPlayer [l] = l.slots by simp [flatPlayer]]
    refine h.snoc h1 h2 hB rfl (fun j hj hj' => ?_) (fun i j hi hj hij => ?_) o g1 hat
    · rcases (by simp at hj; omega : j = 0 ∨ j = 1) with rfl | rfl
      · exact o0
      · exact rfl
    · rcases (by simp at hi; omega : i = 0 ∨ i = 1) with rfl | rfl <;> rcases (by simp at hj; omega : j = 0 ∨ j = 1) with rfl | rfl <;> first | (exact absurd rfl hij) | exact .inl rfl | exact sep_none_r rfl
theorem wpList_onePlayer {w : World} {o : Oper} {a : Act} {Q : Exit → Act → World → Prop} {ops : Array Oper} {rest : List Oper} (hgd : o.guard = none) (s y : Operand) (ho : o.op = .call { callee := .builtin .append, args := #[s, y], argTypes := #[24, 24] })
    (base B b2 : Nat) (v x u0 : Value) (ls : List RPlayer) (l : RPlayer) (hs : a.eval s = v) (hy : a.eval y = x) (h : Held 71 2 w base B v ls.length (flatPlayer ls)) (hB : base ≤ B) (hw : base ≤ w.heap.size)
    (o0 : OwnI w B u0 l.f0) (hx : w.ownsRow b2 71 2 x 1 [u0, .int .i64 l.f1]) (hl : ls.length ≤ 2000000)
    (hK : ∀ v' w', OwnPlayer w' base v' (ls ++ [l]) → w.grownBy w' v.ownBlock → (v'.ownBlock = v.ownBlock ∨ v'.ownBlock = some w.heap.size) → wpList Try.prog ops Q rest (a.put o.dst v') w') : wpList Try.prog ops Q (o :: rest) a w :=
  wpList_plain hgd fun K hK' => by
    obtain ⟨v', w', hrun, e2, e3, e4⟩ := run_onePlayer (ty := o.type) h hB hw o0 hx hl
    unfold Oper.wp execOp
    simp only [ho, resolve, invoke, builtin, Sem.run_bind, Sem.run_pure, Result.andThen_ok, List.map_toArray, List.map_cons, List.map_nil, hs, hy, hrun]
    exact hK' _ _ (hK v' w' e2 e3 e4)
theorem step_onePlayer {w : World} {o : Oper} {a : Act} {Q : Exit → Act → World → Prop} {ops : Array Oper} {K : Act → World → Prop} {E : Prop} (hgd : o.guard = none) (s y : Operand) (ho : o.op = .call { callee := .builtin .append, args := #[s, y], argTypes := #[24, 24] })
    (base B b2 : Nat) (v x u0 : Value) (ls : List RPlayer) (l : RPlayer) (hs : a.eval s = v) (hy : a.eval y = x) (h : Held 71 2 w base B v ls.length (flatPlayer ls)) (hB : base ≤ B) (hw : base ≤ w.heap.size)
    (o0 : OwnI w B u0 l.f0) (hx : w.ownsRow b2 71 2 x 1 [u0, .int .i64 l.f1]) (hl : ls.length ≤ 2000000)
    (hK : ∀ v' w', OwnPlayer w' base v' (ls ++ [l]) → w.grownBy w' v.ownBlock → (v'.ownBlock = v.ownBlock ∨ v'.ownBlock = some w.heap.size) → K (a.put o.dst v') w') : if Region.wanted o (yielded ops a.tmps) = true then Oper.wp Try.prog o a w K Q else E := by
  have hn : Region.wanted o (yielded ops a.tmps) = true := by simp [Region.wanted, hgd]
  rw [if_pos hn]
  obtain ⟨v', w', hrun, e2, e3, e4⟩ := run_onePlayer (ty := o.type) h hB hw o0 hx hl
  unfold Oper.wp execOp
  simp only [ho, resolve, invoke, builtin, Sem.run_bind, Sem.run_pure, Result.andThen_ok, List.map_toArray, List.map_cons, List.map_nil, hs, hy, hrun]
  exact hK _ _ e2 e3 e4
theorem emptyPlayer (w : World) (base g : Nat) (cs : Array Value) (hg : g = w.heap.size) (hb : base ≤ g) (hs : cs.size = 0) : OwnPlayer (w.alloc (.cells cs 71)) base (.slice (some ⟨g, 0, none⟩) 0 0) [] := by
  subst hg
  exact ⟨[], ⟨rfl, .inr ⟨w.heap.size, 0, cs, rfl, hb, heap_alloc_new w _, Nat.le_refl _, Nat.zero_le _, by omega, by simp⟩⟩, rfl, fun k hk => absurd hk (by simp), fun k hk => absurd hk (by simp), fun i j hi => absurd hi (by simp)⟩
/-- One player in a box: a row of one. -/
theorem boxPlayer (w : World) (z : Int) (b : Nat) (hb : b ≤ w.heap.size) : OwnPlayer (w.alloc (.cells #[.slice none 0 0, .int .i64 z] 71)) b (.slice (some ⟨w.heap.size, 0, none⟩) 1 1) [⟨[], z⟩] := by
  refine ownV_plain (vs := [.slice none 0 0, .int .i64 z]) (onePlayerRow w z _ b hb) rfl (fun t ht ht' => ?_) (fun t ht => ?_)
  · rcases (by simp at ht; omega : t = 0 ∨ t = 1) with rfl | rfl <;> first | rfl | exact ⟨rfl, .inl ⟨rfl, rfl⟩⟩
  · rcases (by simp at ht; omega : t = 0 ∨ t = 1) with rfl | rfl <;> rfl
end Go.Proofs.Ytanlfkkmnnjpeaa
