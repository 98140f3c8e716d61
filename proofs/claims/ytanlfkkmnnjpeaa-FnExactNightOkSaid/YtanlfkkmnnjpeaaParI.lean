/- Part of a row of numbers (from a place on) appended behind an own row; a row of one number. Condition: the part's cells can be read. -/
import Derived.Test.YtanlfkkmnnjpeaaRowI
namespace Go.Proofs.Ytanlfkkmnnjpeaa
set_option linter.unusedVariables false
set_option linter.unusedSimpArgs false
open Go.RowKit

/-- The value x leads to the numbers ys, wherever they begin. -/
def PartI (w : World) (x : Value) (ys : List Int) : Prop := ∃ ad c, x = .slice (some ad) ys.length c ∧ ∀ j u, (ys.map intV)[j]? = some u → w.cell? (ad.add j) = some u
theorem PartI.below {w w' : World} {x : Value} {ys : List Int} (h : PartI w x ys) (hb : Below w.heap.size w w') : PartI w' x ys := by
  obtain ⟨ad, c, e, hc⟩ := h
  exact ⟨ad, c, e, fun j u hu => cell_below (hc j u hu) hb⟩
theorem PartI.kept {w w' : World} {x : Value} {ys : List Int} {row : Option Nat} (h : PartI w x ys) (hg : w.grownBy w' row) (hne : x.ownBlock = none ∨ x.ownBlock ≠ row) : PartI w' x ys := by
  obtain ⟨ad, c, rfl, hc⟩ := h
  refine ⟨ad, c, rfl, fun j u hu => hg.cell (hc j u hu) ?_⟩
  rcases hne with h | h
  · cases h
  · have e : (ad.add j).block = ad.block := by unfold Addr.add; split <;> rfl
    rw [e]
    exact h
theorem addr_shift (g o j : Nat) : ((⟨g, o, none⟩ : Addr).add j) = ⟨g, o + j, none⟩ := by unfold Addr.add; split <;> simp_all
/-- The first k numbers of an own row. -/
theorem part_low {w : World} {base g n c k : Nat} {zs : List Int} (h : OwnI w base (.slice (some ⟨g, 0, none⟩) n c) zs) (hk : k ≤ zs.length) : OwnI w base (.slice (some ⟨g, 0, none⟩) k c) (zs.take k) := by
  obtain ⟨h1, h2⟩ := h
  rcases h2 with ⟨h3, _⟩ | ⟨g', cap, cur, e, hb, hg, hnc, hcm, hcs, htake⟩
  · simp at h3
  · simp only [Value.slice.injEq, Option.some.injEq, Addr.mk.injEq, and_true, true_and] at e
    obtain ⟨rfl, hn, rfl⟩ := e
    have hl : (zs.take k).length = k := by rw [List.length_take]; omega
    refine ⟨by simp, .inr ⟨g, c, cur, by rw [hl], hb, hg, by omega, hcm, hcs, ?_⟩⟩
    rw [hl, List.map_take, ← htake, List.take_take]
    congr 1
    omega
/-- What stands from place k on. -/
theorem part_high {w : World} {base g n c k : Nat} {zs : List Int} {x : Value} (h : OwnI w base (.slice (some ⟨g, 0, none⟩) n c) zs) (hk : k ≤ zs.length) (c' : Nat) (hx : x = .slice (if c = k then some ⟨g, 0, none⟩ else some ⟨g, k, none⟩) (zs.length - k) c') : PartI w x (zs.drop k) := by
  replace hx : x = .slice (some (if c = k then ⟨g, 0, none⟩ else ⟨g, k, none⟩)) (zs.length - k) c' := by rw [hx]; split <;> rfl
  refine ⟨_, c', by rw [hx, List.length_drop], fun j u hu => ?_⟩
  rw [List.map_drop, List.getElem?_drop] at hu
  have hlt : k + j < zs.length := by
    rcases Nat.lt_or_ge (k + j) zs.length with q | q
    · exact q
    · rw [List.getElem?_eq_none (by simpa using q)] at hu; cases hu
  have hc : ¬ c = k := by
    obtain ⟨_, h2⟩ := h
    rcases h2 with ⟨h3, _⟩ | ⟨_, cap, _, e, _, _, hnc, _⟩
    · simp at h3
    · simp only [Value.slice.injEq, Option.some.injEq, Addr.mk.injEq, and_true, true_and] at e
      omega
  obtain ⟨g', _, e, _, _, z, _⟩ := h.spot hlt
  simp only [Value.slice.injEq, Option.some.injEq, Addr.mk.injEq, and_true, true_and] at e
  obtain ⟨rfl, -⟩ := e
  rw [if_neg hc, addr_shift, z]
  rw [List.getElem?_map, List.getElem?_eq_getElem hlt] at hu
  exact hu
theorem oneI (w : World) (base : Nat) (z : Int) (hb : base ≤ w.heap.size) : OwnI (w.alloc (.cells #[.int .i64 z] 3)) base (.slice (some ⟨w.heap.size, 0, none⟩) 1 1) [z] :=
  ⟨rfl, .inr ⟨w.heap.size, 1, #[.int .i64 z], rfl, hb, heap_alloc_new w _, Nat.le_refl _, by simp only [maxLen]; omega, rfl, rfl⟩⟩
theorem madeR {w w1 w2 : World} {base : Nat} {v : Value} {zs : List Int} (hb : Below base w w1) (hs : base ≤ w1.heap.size) (h : OwnI w1 base v zs) (hg : w1.grownBy w2 v.ownBlock) : Below base w w2 := hb.grown hg hs (fun k hk => (h.lt k hk).1)
section
variable {w : World} {o : Oper} {a : Act} {Q : Exit → Act → World → Prop}
theorem step_partI {ops : Array Oper} {K : Act → World → Prop} {E : Prop} (hgd : o.guard = none) (s y : Operand) (ho : o.op = .call { callee := .builtin .append, args := #[s, y], argTypes := #[33, 33] })
    (base : Nat) (v x : Value) (xs ys : List Int) (hs : a.eval s = v) (hy : a.eval y = x) (h1 : OwnI w base v xs) (h2 : PartI w x ys) (hl : xs.length + ys.length ≤ 4000000) (hB : base ≤ w.heap.size)
    (h : ∀ v' w', OwnI w' base v' (xs ++ ys) → w.grownBy w' v.ownBlock → (v'.ownBlock = v.ownBlock ∨ v'.ownBlock = some w.heap.size) → K (a.put o.dst v') w') :
    if Region.wanted o (yielded ops a.tmps) = true then Oper.wp Try.prog o a w K Q else E := by
  have hw : Region.wanted o (yielded ops a.tmps) = true := by simp [Region.wanted, hgd]
  rw [if_pos hw]
  obtain ⟨ad, c, rfl, hc⟩ := h2
  obtain ⟨i, hi, hz, hsz, hb⟩ := info_parts info_int
  obtain ⟨v', w', hrun, own, g1, _, hat⟩ := run_append_own_at (P := Try.prog) (w := w) base 33 o.type 3 i (.int .i64 0) 1 8 Try.underlying33 hi hz hsz hb rfl (by omega) v xs.length (xs.map intV) h1
    ad ys.length c (ys.map intV) (by simp) hc (intV_one ys) (by simp only [maxLen]; omega) (by omega) hB
  have e2 : OwnI w' base v' (xs ++ ys) := by
    unfold OwnI
    rw [List.length_append, List.map_append]
    exact own
  unfold Oper.wp execOp
  simp only [ho, resolve, invoke, builtin, Sem.run_bind, Sem.run_pure, Result.andThen_ok, List.map_toArray, List.map_cons, List.map_nil, hs, hy, hrun]
  exact h v' w' e2 g1 hat
end
end Go.Proofs.Ytanlfkkmnnjpeaa
