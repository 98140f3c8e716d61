/- A table into a variable of its own; part of a table copied by slices.Clone. Condition: the table lies in a block of its own. -/
import Derived.Test.YtokgcchcjaimhaaTwaI
import Derived.Test.YtokgcchcjaimhaaParI
import Derived.Deep.WholeRow
namespace Go.Proofs.Ytokgcchcjaimhaa
set_option linter.unusedVariables false
set_option linter.unusedSimpArgs false
open Go.RowKit

/-- A whole array into the variable that was made last. -/
theorem wpList_store_new {P : Program} {ops : Array Oper} {rest : List Oper} {op : Oper} {a : Act} {w : World} {Q : Exit → Act → World → Prop} (hgd : op.guard = none) (ty t : TypeId) (x y : Operand) (ho : op.op = .store ty x y)
    (c cells : Array Value) (hx : a.eval x = .pointer (some ⟨w.heap.size, 0, none⟩)) (hy : a.eval y = .agg cells)
    (hi : (P.info? ty).map (·.size) = some cells.size) (hc : c.size = cells.size) (h1 : cells.all (·.oneCell') = true)
    (h : wpList P ops Q rest (a.put op.dst undef) (w.alloc (.cells cells t))) : wpList P ops Q (op :: rest) a (w.alloc (.cells c t)) := by
  refine wpList_plain hgd fun K hK => ?_
  have hr : (storeVar ty ⟨w.heap.size, 0, none⟩ (.agg cells)).run P (w.alloc (.cells c t)) = .ok () (w.alloc (.cells cells t)) := by
    rw [run_storeVar_row _ _ t ty c cells (heap_alloc_last w _) hi hc h1, World.setRow_alloc_new]
  unfold Oper.wp execOp
  simp only [ho, hx, hy, Instr.storeAt, Instr.sureAddr, Sem.run_bind, Sem.run_pure, Result.andThen_ok, hr]
  exact hK _ _ h
theorem info_twists : (Try.prog.info? 53).map (·.size) = some 49 := by kernel_rfl
theorem arrT_one (w : World) (base : Nat) (zs : List Int) (hz : zs.length = 49) (hb : base ≤ w.heap.size) : ArrT (w.alloc (.cells (zs.map intV).toArray 53)) base w.heap.size zs :=
  ⟨by simp [hz], .inr ⟨w.heap.size, 49, (zs.map intV).toArray, rfl, hb, heap_alloc_new w _, Nat.le_refl _, by simp only [maxLen]; omega, by simp [hz], by rw [List.take_of_length_le (by simp [hz])]⟩⟩
theorem arrT_cells (zs : List Int) (hz : zs.length = 49) : (Try.prog.info? 53).map (·.size) = some (zs.map intV).toArray.size ∧ ((zs.map intV).toArray).all (·.oneCell') = true :=
  ⟨by rw [info_twists]; simp [hz], all_oneCell_toArray (intV_one zs)⟩
/-- Part of a table: n numbers from place k on. -/
theorem ArrT.part {w : World} {base g k n c : Nat} {zs : List Int} (h : ArrT w base g zs) (hk : k + n ≤ 49) : PartI w (.slice (some ⟨g, k, none⟩) n c) ((zs.drop k).take n) := by
  have hl := h.len
  have e : ((zs.drop k).take n).length = n := by rw [List.length_take, List.length_drop]; omega
  refine ⟨⟨g, k, none⟩, c, by rw [e], fun j u hu => ?_⟩
  have hj : j < n := by
    have := (List.getElem?_eq_some_iff.1 hu).1
    rw [List.length_map, e] at this
    exact this
  rw [addr_shift, (h.spot (k := k + j) (by omega)).1, ← hu, List.getElem?_map, List.getElem?_take_of_lt hj, List.getElem?_drop, List.getElem?_eq_getElem (by omega), atI_of (by omega : k + j < zs.length)]
  rfl
theorem wpList_partI {w : World} {o : Oper} {a : Act} {Q : Exit → Act → World → Prop} {ops : Array Oper} {rest : List Oper} (hgd : o.guard = none) (s y : Operand) (ho : o.op = .call { callee := .builtin .append, args := #[s, y], argTypes := #[29, 29] })
    (base : Nat) (v x : Value) (xs ys : List Int) (hs : a.eval s = v) (hy : a.eval y = x) (h1 : OwnI w base v xs) (h2 : PartI w x ys) (hl : xs.length + ys.length ≤ 4000000) (hB : base ≤ w.heap.size)
    (h : ∀ v' w', OwnI w' base v' (xs ++ ys) → w.grownBy w' v.ownBlock → (v'.ownBlock = v.ownBlock ∨ v'.ownBlock = some w.heap.size) → wpList Try.prog ops Q rest (a.put o.dst v') w') : wpList Try.prog ops Q (o :: rest) a w := by
  refine wpList_plain hgd fun K hK => ?_
  have := step_partI (ops := #[]) (Q := Q) (K := K) (E := True) hgd s y ho base v x xs ys hs hy h1 h2 hl hB fun v' w' e2 e3 e4 => hK _ _ (h v' w' e2 e3 e4)
  rwa [if_pos (by simp [Region.wanted, hgd])] at this

set_option maxRecDepth 100000 in
set_option maxHeartbeats 800000 in
theorem cloneP_any (x : Value) (ys : List Int) (w : World) (h : PartI w x ys) (hl : ys.length ≤ 3000000) :
    Calls Try.prog 41 #[x] w fun e w' => ∃ v', e = .returned v' ∧ OwnI w' w.heap.size v' ys ∧ Below w.heap.size w w' := by
  obtain ⟨ad, c, rfl, hc⟩ := h
  have PT := Lib.hid ((show PartI w (.slice (some ad) ys.length c) ys from ⟨ad, c, rfl, hc⟩).below ((Below.refl w.heap.size w).alloc (Nat.le_refl _) (.cells #[] 3)))
  have O0 := Lib.hid (show OwnI (w.alloc (.cells #[] 3)) w.heap.size (.slice (some ⟨w.heap.size, 0, none⟩) 0 0) [] from ⟨rfl, .inr ⟨w.heap.size, 0, #[], rfl, Nat.le_refl _, heap_alloc_new w _, Nat.le_refl _, by simp only [maxLen]; omega, rfl, rfl⟩⟩)
  have ke := fun W => Lib.run_eql_slice_nil (P := Try.prog) W 29 3 (some ad) ys.length c 0 0 Try.underlying29
  clear hc
  go_enter Try.func41, Try.ntmps41
  go_wp2_with (at_builtin; refine wpList_partI rfl (.tmp 5) (.tmp 6) rfl w.heap.size (.slice (some ⟨w.heap.size, 0, none⟩) 0 0) (.slice (some ad) ys.length c) [] ys rfl rfl O0.out PT.out ?_ ?_ ?_; (simp; omega); (simp); intro v' w1 own1 hgrow hat)
  go_ret
  refine ⟨_, rfl, own1, ((Below.refl w.heap.size w).alloc (Nat.le_refl _) _).grown hgrow (by simp) (fun k hk => ?_)⟩
  have : w.heap.size = k := by simpa [Value.ownBlock] using hk
  omega
end Go.Proofs.Ytokgcchcjaimhaa
