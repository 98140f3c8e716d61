/- An own row of limbs behind another, and the contract of spec.l02Copy. Condition: the limbs lie in a row of their own. -/
import Derived.Test.YtblbmppbbhibeaaOkW
import Derived.Test.YtblbmppbbhibeaaBox
import Derived.Maps.AppendAt
import Derived.RegionTactic
import Derived.Deep.AppendLies
import Derived.Deep.RegionHeld3
import Derived.Deep.RegionLaw
namespace Go.Proofs.Ytblbmppbbhibeaa
set_option linter.unusedVariables false
set_option linter.unusedSimpArgs false
open Go.RowKit

theorem ownL_empty (w : World) (base g : Nat) (cs : Array Value) (hg : g = w.heap.size) (hb : base ≤ g) (hs : cs.size = 0) : OwnL (w.alloc (.cells cs 57)) base (.slice (some ⟨g, 0, none⟩) 0 0) [] := by
  subst hg
  exact ⟨rfl, .inr ⟨w.heap.size, 0, cs, rfl, hb, heap_alloc_new w _, Nat.le_refl _, Nat.zero_le _, by omega, by simp [flatL]⟩⟩
theorem flatL_one (ls : List Lb) : ∀ u ∈ flatL ls, u.oneCell' = true := by
  intro u hu
  unfold flatL at hu
  rw [List.mem_flatMap] at hu
  obtain ⟨l, _, hu⟩ := hu
  simp only [Lb.cells, List.mem_cons, List.not_mem_nil, or_false] at hu
  rcases hu with rfl | rfl | rfl <;> rfl
/-- One own row behind another: what came is nil, empty or holds limbs. -/
theorem run_rows (w : World) (ty : TypeId) (base b2 : Nat) (v x : Value) (xs ys : List Lb) (h1 : OwnL w base v xs) (h2 : OwnL w b2 x ys) (hl : xs.length + ys.length ≤ 4000000) (hB : base ≤ w.heap.size) :
    ∃ v' w', (Builtin.append_ #[24, 24] ty #[v, x]).run Try.prog w = .ok v' w' ∧ OwnL w' base v' (xs ++ ys) ∧ w.grownBy w' v.ownBlock ∧ (v'.ownBlock = v.ownBlock ∨ v'.ownBlock = some w.heap.size) := by
  obtain ⟨i, hi, hz, hs, hb⟩ := info_parts info_limb
  rcases id h2.2 with ⟨rfl, hn⟩ | ⟨g, cap, cur, rfl, _⟩
  · have hy : ys = [] := List.eq_nil_of_length_eq_zero hn
    subst hy
    refine ⟨v, w, ?_, by simpa using h1, World.grownBy.refl w _, .inl rfl⟩
    rcases h1.2 with ⟨rfl, _⟩ | ⟨g, cap, cur, rfl, _, _, hnc, _⟩
    · simp [Builtin.append_, run_underlying Try.underlying24, sizeOf, typeInfo, hi, Builtin.lenOf, Builtin.firstCells]
    · simp [Builtin.append_, run_underlying Try.underlying24, sizeOf, typeInfo, hi, Builtin.lenOf, Builtin.firstCells, hnc, storeCells]
  · obtain ⟨v', w', hr, o, g1, _, hat⟩ := run_append_own_at (P := Try.prog) w base 24 ty 57 i Lb.zero.val 3 24 Try.underlying24 hi hz hs hb rfl (by omega) v xs.length (flatL xs) h1
      ⟨g, 0, none⟩ ys.length cap (flatL ys) (flatL_len ys) (World.ownsRow.cells h2 rfl) (flatL_one ys) (by simp only [maxLen]; omega) (by omega) hB
    refine ⟨v', w', hr, ?_, g1, hat⟩
    unfold OwnL
    rw [List.length_append, flatL_append]
    exact o
section
variable {w : World} {o : Oper} {a : Act} {Q : Exit → Act → World → Prop}
theorem wp_rows {K : Act → World → Prop} (s y : Operand) (ho : o.op = .call { callee := .builtin .append, args := #[s, y], argTypes := #[24, 24] })
    (base b2 : Nat) (v x : Value) (xs ys : List Lb) (hs : a.eval s = v) (hy : a.eval y = x) (h1 : OwnL w base v xs) (h2 : OwnL w b2 x ys) (hl : xs.length + ys.length ≤ 4000000) (hB : base ≤ w.heap.size)
    (h : ∀ v' w', OwnL w' base v' (xs ++ ys) → w.grownBy w' v.ownBlock → (v'.ownBlock = v.ownBlock ∨ v'.ownBlock = some w.heap.size) → K (a.put o.dst v') w') : o.wp Try.prog a w K Q := by
  obtain ⟨v', w', hrun, e2, e3, e4⟩ := run_rows w o.type base b2 v x xs ys h1 h2 hl hB
  unfold Oper.wp execOp
  simp only [ho, resolve, invoke, builtin, Sem.run_bind, Sem.run_pure, Result.andThen_ok, List.map_toArray, List.map_cons, List.map_nil, hs, hy, hrun]
  exact h v' w' e2 e3 e4
theorem wpList_rows {ops : Array Oper} {rest : List Oper} (hgd : o.guard = none) (s y : Operand) (ho : o.op = .call { callee := .builtin .append, args := #[s, y], argTypes := #[24, 24] })
    (base b2 : Nat) (v x : Value) (xs ys : List Lb) (hs : a.eval s = v) (hy : a.eval y = x) (h1 : OwnL w base v xs) (h2 : OwnL w b2 x ys) (hl : xs.length + ys.length ≤ 4000000) (hB : base ≤ w.heap.size)
    (h : ∀ v' w', OwnL w' base v' (xs ++ ys) → w.grownBy w' v.ownBlock → (v'.ownBlock = v.ownBlock ∨ v'.ownBlock = some w.heap.size) → wpList Try.prog ops Q rest (a.put o.dst v') w') : wpList Try.prog ops Q (o :: rest) a w :=
  wpList_plain hgd fun _ hK => wp_rows s y ho base b2 v x xs ys hs hy h1 h2 hl hB fun v' w' e2 e3 e4 => hK _ _ (h v' w' e2 e3 e4)
theorem step_rows {ops : Array Oper} {K : Act → World → Prop} {E : Prop} (hgd : o.guard = none) (s y : Operand) (ho : o.op = .call { callee := .builtin .append, args := #[s, y], argTypes := #[24, 24] })
    (base b2 : Nat) (v x : Value) (xs ys : List Lb) (hs : a.eval s = v) (hy : a.eval y = x) (h1 : OwnL w base v xs) (h2 : OwnL w b2 x ys) (hl : xs.length + ys.length ≤ 4000000) (hB : base ≤ w.heap.size)
    (h : ∀ v' w', OwnL w' base v' (xs ++ ys) → w.grownBy w' v.ownBlock → (v'.ownBlock = v.ownBlock ∨ v'.ownBlock = some w.heap.size) → K (a.put o.dst v') w') :
    if Region.wanted o (yielded ops a.tmps) = true then Oper.wp Try.prog o a w K Q else E := by
  have hw : Region.wanted o (yielded ops a.tmps) = true := by simp [Region.wanted, hgd]
  rw [if_pos hw]
  exact wp_rows s y ho base b2 v x xs ys hs hy h1 h2 hl hB h
end

def CopyBPost (w : World) (J : Int) (ls : List Lb) (e : Ending) (w' : World) : Prop := ∃ v, e = .returned (bodyV J v) ∧ OwnL w' w.heap.size v ls ∧ Below w.heap.size w w'
theorem boxAt_set {w : World} {b g : Nat} {J : Int} {v u u' : Value} (h : BoxAt w b J v) (hne : b ≠ g) : BoxAt ((w.setCell ⟨g, 0, none⟩ u).setCell ⟨g, 1, none⟩ u') b J v := by
  refine ⟨?_, ?_⟩
  · rw [World.cell?_setCell_other _ _ _ _ (fun e => hne (congrArg Addr.block e).symm), World.cell?_setCell_other _ _ _ _ (fun e => hne (congrArg Addr.block e).symm)]
    exact h.1
  · rw [World.cell?_setCell_other _ _ _ _ (fun e => hne (congrArg Addr.block e).symm), World.cell?_setCell_other _ _ _ _ (fun e => hne (congrArg Addr.block e).symm)]
    exact h.2

theorem rows_below {W w2 : World} {o : Obj} {g n c : Nat} (h : (W.alloc o).drew.grownBy w2 (Value.slice (some ⟨g, 0, none⟩) n c).ownBlock) (hg : g = W.heap.size) : Below W.heap.size W w2 := by
  refine undrew (((Below.refl W.heap.size W).alloc (Nat.le_refl _) o).drew.grown h (by simp) (fun k hk => ?_) |> fun h => ⟨h.os, h.tape, h.output, h.size, h.block⟩)
  have : g = k := by simpa [Value.ownBlock] using hk
  omega
/-- The result's own box, behind a call that left it alone. -/
theorem newBox {w w2 : World} {o : Obj} {t : TypeId} (hb : Below ((w.alloc o).alloc (.cells #[.int .i64 0, .slice none 0 0] t)).heap.size ((w.alloc o).alloc (.cells #[.int .i64 0, .slice none 0 0] t)) w2) :
    w2.cell? ⟨w.heap.size + 1, 0, none⟩ = some (.int .i64 0) ∧ w2.cell? ⟨w.heap.size + 1, 1, none⟩ = some (.slice none 0 0) ∧ w2.frozen? ⟨w.heap.size + 1, 0, none⟩ = false ∧ w2.frozen? ⟨w.heap.size + 1, 1, none⟩ = false := by
  refine ⟨?_, ?_, ?_, ?_⟩
  · rw [hb.cell (by simp)]; simp [go_sem]
  · rw [hb.cell (by simp)]; simp [go_sem]
  · rw [hb.frozen (by simp)]; simp [go_sem]
  · rw [hb.frozen (by simp)]; simp [go_sem]

set_option maxRecDepth 100000 in
set_option maxHeartbeats 800000 in
theorem copyS_any (J : Int) (v : Value) (ls : List Lb) (base : Nat) (w : World) (hown : OwnL w base v ls) (hl : ls.length ≤ 3000000) :
    Calls Try.prog 63 #[bodyV J v] w (CopyBPost w J ls) := by
  obtain ⟨A, c, e⟩ := hown.slice
  subst e
  have OWN := Lib.hid ((hown.alloc (.cells #[.int .i64 J, .slice A ls.length c] 26)).alloc (.cells #[.int .i64 0, .slice none 0 0] 26))
  have X0 := Lib.hid ((boxAt_new w J (.slice A ls.length c)).alloc (.cells #[.int .i64 0, .slice none 0 0] 26))
  clear hown
  unfold bodyV
  go_enter Try.func63, Try.ntmps63
  go_wp2
  go_region_held3 (fun w' => w'.cell? ⟨w.heap.size, 0, none⟩ = some (.int .i64 J) ∧ w'.cell? ⟨w.heap.size, 1, none⟩ = some (.slice A ls.length c))
    (first | exact X0.out | exact X0.out.alloc _ | exact X2.out | exact boxAt_set X2.out (by omega)) (first | (refine step_rows rfl (.tmp 5) (.tmp 7) (by rfl) (w.heap.size + 2) base (.slice (some ⟨w.heap.size + 2, 0, none⟩) 0 0) (.slice A ls.length c) [] ls (by rfl) (by rfl) (ownL_empty _ _ _ _ (by simp) (by simp) rfl) (OwnL.alloc (by exact OWN.out) _) ?_ ?_ ?_; (simp; omega); (simp); intro v2 w2 o2 g2 hat2; obtain ⟨A2, c2, rfl⟩ := o2.slice; have b2 := rows_below g2 (by simp); have X2 := Lib.hid (BoxAt.below (by exact X0.out) b2); obtain ⟨d0, d1, f0, f1⟩ := newBox (by exact b2)))
  have k0 := World.cell?_setCell_same w2 ⟨w.heap.size + 1, 0, none⟩ (.int .i64 J) d0
  obtain ⟨_, k1⟩ := cells_set2 (u := .int .i64 J) (v := .slice A2 ls.length c2) ⟨_, d0⟩ ⟨_, d1⟩
  have O2 := Lib.hid (show OwnL w2 (w.heap.size + 2) (.slice A2 ls.length c2) ls from o2)
  have B2 := Lib.hid b2
  clear o2 b2 g2 hat2 d0 d1
  go_wp2
  refine bodyPost_ret (v := bodyV J (.slice A2 ls.length c2)) (by simp [results, Try.results63, go_sem, k0, k1, bodyV]) rfl ⟨_, rfl, ?_, ?_⟩
  · exact ((O2.out.setCell_below (by show w.heap.size + 1 < _; omega) _).setCell_below (by show w.heap.size + 1 < _; omega) _).mono (by omega)
  · exact ((((((Below.refl w.heap.size w).alloc (Nat.le_refl _) _).alloc (by simp) _).trans (B2.out.mono (by simp <;> omega)))).setCell (by show w.heap.size ≤ w.heap.size + 1; omega) _).setCell (by show w.heap.size ≤ w.heap.size + 1; omega) _
end Go.Proofs.Ytblbmppbbhibeaa
