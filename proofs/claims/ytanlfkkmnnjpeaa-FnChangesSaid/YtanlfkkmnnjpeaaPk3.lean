/- Texts of this seat laid together, each with its own first sentence below: RowI ParI PokS RowR NokS InR RsjI ConN PoyA. -/
import Derived.Test.YtanlfkkmnnjpeaaPk1
import Derived.Test.YtanlfkkmnnjpeaaPk2
import Derived.Maps.AppendAt
import Derived.RegionTactic
import Derived.Deep.AppendLies
import Derived.Deep.RegionHeld3
import Derived.Deep.RegionLaw
import Derived.BigQuiet
/- An own row of numbers behind another. Condition: the numbers lie in rows of their own. -/
namespace Go.Proofs.Ytanlfkkmnnjpeaa
set_option linter.unusedVariables false
open Go.RowKit

theorem intV_one (zs : List Int) : ∀ u ∈ zs.map intV, u.oneCell' = true := by
  intro u hu
  obtain ⟨z, _, rfl⟩ := List.mem_map.1 hu
  rfl
/-- One own row behind another: what came is nil, empty or holds numbers. -/
theorem run_rowsI (w : World) (ty : TypeId) (base b2 : Nat) (v x : Value) (xs ys : List Int) (h1 : OwnI w base v xs) (h2 : OwnI w b2 x ys) (hl : xs.length + ys.length ≤ 4000000) (hB : base ≤ w.heap.size) :
    ∃ v' w', (Builtin.append_ #[33, 33] ty #[v, x]).run Try.prog w = .ok v' w' ∧ OwnI w' base v' (xs ++ ys) ∧ w.grownBy w' v.ownBlock ∧ (v'.ownBlock = v.ownBlock ∨ v'.ownBlock = some w.heap.size) := by
  obtain ⟨i, hi, hz, hs, hb⟩ := info_parts info_int
  rcases id h2.2 with ⟨rfl, hn⟩ | ⟨g, cap, cur, rfl, _⟩
  · have hy : ys = [] := List.eq_nil_of_length_eq_zero hn
    subst hy
    refine ⟨v, w, ?_, by simpa using h1, World.grownBy.refl w _, .inl rfl⟩
    rcases h1.2 with ⟨rfl, _⟩ | ⟨g, cap, cur, rfl, _, _, hnc, _⟩
    · simp [Builtin.append_, run_underlying Try.underlying33, sizeOf, typeInfo, hi, Builtin.lenOf, Builtin.firstCells]
    · simp [Builtin.append_, run_underlying Try.underlying33, sizeOf, typeInfo, hi, Builtin.lenOf, Builtin.firstCells, hnc, storeCells]
  · obtain ⟨v', w', hr, o, g1, _, hat⟩ := run_append_own_at (P := Try.prog) w base 33 ty 3 i (.int .i64 0) 1 8 Try.underlying33 hi hz hs hb rfl (by omega) v xs.length (xs.map intV) h1
      ⟨g, 0, none⟩ ys.length cap (ys.map intV) (by simp) (World.ownsRow.cells h2 rfl) (intV_one ys) (by simp only [maxLen]; omega) (by omega) hB
    refine ⟨v', w', hr, ?_, g1, hat⟩
    unfold OwnI
    rw [List.length_append, List.map_append]
    exact o
section
variable {w : World} {o : Oper} {a : Act} {Q : Exit → Act → World → Prop}
theorem wp_rowsI {K : Act → World → Prop} (s y : Operand) (ho : o.op = .call { callee := .builtin .append, args := #[s, y], argTypes := #[33, 33] })
    (base b2 : Nat) (v x : Value) (xs ys : List Int) (hs : a.eval s = v) (hy : a.eval y = x) (h1 : OwnI w base v xs) (h2 : OwnI w b2 x ys) (hl : xs.length + ys.length ≤ 4000000) (hB : base ≤ w.heap.size)
    (h : ∀ v' w', OwnI w' base v' (xs ++ ys) → w.grownBy w' v.ownBlock → (v'.ownBlock = v.ownBlock ∨ v'.ownBlock = some w.heap.size) → K (a.put o.dst v') w') : o.wp Try.prog a w K Q := by
  obtain ⟨v', w', hrun, e2, e3, e4⟩ := run_rowsI w o.type base b2 v x xs ys h1 h2 hl hB
  unfold Oper.wp execOp
  simp only [ho, resolve, invoke, builtin, Sem.run_bind, Sem.run_pure, Result.andThen_ok, List.map_toArray, List.map_cons, List.map_nil, hs, hy, hrun]
  exact h v' w' e2 e3 e4
theorem wpList_rowsI {ops : Array Oper} {rest : List Oper} (hgd : o.guard = none) (s y : Operand) (ho : o.op = .call { callee := .builtin .append, args := #[s, y], argTypes := #[33, 33] })
    (base b2 : Nat) (v x : Value) (xs ys : List Int) (hs : a.eval s = v) (hy : a.eval y = x) (h1 : OwnI w base v xs) (h2 : OwnI w b2 x ys) (hl : xs.length + ys.length ≤ 4000000) (hB : base ≤ w.heap.size)
    (h : ∀ v' w', OwnI w' base v' (xs ++ ys) → w.grownBy w' v.ownBlock → (v'.ownBlock = v.ownBlock ∨ v'.ownBlock = some w.heap.size) → wpList Try.prog ops Q rest (a.put o.dst v') w') : wpList Try.prog ops Q (o :: rest) a w :=
  wpList_plain hgd fun _ hK => wp_rowsI s y ho base b2 v x xs ys hs hy h1 h2 hl hB fun v' w' e2 e3 e4 => hK _ _ (h v' w' e2 e3 e4)
theorem step_rowsI {ops : Array Oper} {K : Act → World → Prop} {E : Prop} (hgd : o.guard = none) (s y : Operand) (ho : o.op = .call { callee := .builtin .append, args := #[s, y], argTypes := #[33, 33] })
    (base b2 : Nat) (v x : Value) (xs ys : List Int) (hs : a.eval s = v) (hy : a.eval y = x) (h1 : OwnI w base v xs) (h2 : OwnI w b2 x ys) (hl : xs.length + ys.length ≤ 4000000) (hB : base ≤ w.heap.size)
    (h : ∀ v' w', OwnI w' base v' (xs ++ ys) → w.grownBy w' v.ownBlock → (v'.ownBlock = v.ownBlock ∨ v'.ownBlock = some w.heap.size) → K (a.put o.dst v') w') :
    if Region.wanted o (yielded ops a.tmps) = true then Oper.wp Try.prog o a w K Q else E := by
  have hw : Region.wanted o (yielded ops a.tmps) = true := by simp [Region.wanted, hgd]
  rw [if_pos hw]
  exact wp_rowsI s y ho base b2 v x xs ys hs hy h1 h2 hl hB h
end
end Go.Proofs.Ytanlfkkmnnjpeaa

/- Part of a row of numbers (from a place on) appended behind an own row; a row of one number. Condition: the part's cells can be read. -/
namespace Go.Proofs.Ytanlfkkmnnjpeaa
set_option linter.unusedVariables false
set_option linter.unusedSimpArgs false
open Go.RowKit

/-- The value x leads to the numbers ys, wherever they begin. -/
def PartI (w : World) (x : Value) (ys : List Int) : Prop := ∃ ad c, x = .slice (some ad) ys.length c ∧ ∀ j u, (ys.map intV)[j]? = some u → w.cell? (ad.add j) = some u
theorem PartI.below {w w' : World} {x : Value} {ys : List Int} (h : PartI w x ys) (hb : Below w.heap.size w w') : PartI w' x ys := by
  obtain ⟨ad, c, e, hc⟩ := h
  exact ⟨ad, c, e, fun j u hu => cell_below (hc j u hu) hb⟩
theorem PartI.kept {w w' : World} {x : Value} {ys : List Int} {row : Option Nat} (h : PartI w x ys) (hg : w.grownBy w' row) (hne : x.ownBlock = none ∨ x.ownBlock ≠ row) : PartI w' x ys := by
  obtain ⟨ad, c, rfl, hc⟩ := h
  refine ⟨ad, c, rfl, fun j u hu => hg.cell (hc j u hu) ?_⟩
  rcases hne with h | h
  · cases h
  · have e : (ad.add j).block = ad.block := by unfold Addr.add; split <;> rfl
    rw [e]
    exact h
theorem addr_shift (g o j : Nat) : ((⟨g, o, none⟩ : Addr).add j) = ⟨g, o + j, none⟩ := by unfold Addr.add; split <;> simp_all
/-- The first k numbers of an own row. -/
theorem part_low {w : World} {base g n c k : Nat} {zs : List Int} (h : OwnI w base (.slice (some ⟨g, 0, none⟩) n c) zs) (hk : k ≤ zs.length) : OwnI w base (.slice (some ⟨g, 0, none⟩) k c) (zs.take k) := by
  obtain ⟨h1, h2⟩ := h
  rcases h2 with ⟨h3, _⟩ | ⟨g', cap, cur, e, hb, hg, hnc, hcm, hcs, htake⟩
  · simp at h3
  · simp only [Value.slice.injEq, Option.some.injEq, Addr.mk.injEq, and_true, true_and] at e
    obtain ⟨rfl, hn, rfl⟩ := e
    have hl : (zs.take k).length = k := by rw [List.length_take]; omega
    refine ⟨by simp, .inr ⟨g, c, cur, by rw [hl], hb, hg, by omega, hcm, hcs, ?_⟩⟩
    rw [hl, List.map_take, ← htake, List.take_take]
    congr 1
    omega
/-- What stands from place k on. -/
theorem part_high {w : World} {base g n c k : Nat} {zs : List Int} {x : Value} (h : OwnI w base (.slice (some ⟨g, 0, none⟩) n c) zs) (hk : k ≤ zs.length) (c' : Nat) (hx : x = .slice (if c = k then some ⟨g, 0, none⟩ else some ⟨g, k, none⟩) (zs.length - k) c') : PartI w x (zs.drop k) := by
  replace hx : x = .slice (some (if c = k then ⟨g, 0, none⟩ else ⟨g, k, none⟩)) (zs.length - k) c' := by rw [hx]; split <;> rfl
  refine ⟨_, c', by rw [hx, List.length_drop], fun j u hu => ?_⟩
  rw [List.map_drop, List.getElem?_drop] at hu
  have hlt : k + j < zs.length := by
    rcases Nat.lt_or_ge (k + j) zs.length with q | q
    · exact q
    · rw [List.getElem?_eq_none (by simpa using q)] at hu; cases hu
  have hc : ¬ c = k := by
    obtain ⟨_, h2⟩ := h
    rcases h2 with ⟨h3, _⟩ | ⟨_, cap, _, e, _, _, hnc, _⟩
    · simp at h3
    · simp only [Value.slice.injEq, Option.some.injEq, Addr.mk.injEq, and_true, true_and] at e
      omega
  obtain ⟨g', _, e, _, _, z, _⟩ := h.spot hlt
  simp only [Value.slice.injEq, Option.some.injEq, Addr.mk.injEq, and_true, true_and] at e
  obtain ⟨rfl, -⟩ := e
  rw [if_neg hc, addr_shift, z]
  rw [List.getElem?_map, List.getElem?_eq_getElem hlt] at hu
  exact hu
theorem oneI (w : World) (base : Nat) (z : Int) (hb : base ≤ w.heap.size) : OwnI (w.alloc (.cells #[.int .i64 z] 3)) base (.slice (some ⟨w.heap.size, 0, none⟩) 1 1) [z] :=
  ⟨rfl, .inr ⟨w.heap.size, 1, #[.int .i64 z], rfl, hb, heap_alloc_new w _, Nat.le_refl _, by simp only [maxLen]; omega, rfl, rfl⟩⟩
theorem madeR {w w1 w2 : World} {base : Nat} {v : Value} {zs : List Int} (hb : Below base w w1) (hs : base ≤ w1.heap.size) (h : OwnI w1 base v zs) (hg : w1.grownBy w2 v.ownBlock) : Below base w w2 := hb.grown hg hs (fun k hk => (h.lt k hk).1)
section
variable {w : World} {o : Oper} {a : Act} {Q : Exit → Act → World → Prop}
theorem step_partI {ops : Array Oper} {K : Act → World → Prop} {E : Prop} (hgd : o.guard = none) (s y : Operand) (ho : o.op = .call { callee := .builtin .append, args := #[s, y], argTypes := #[33, 33] })
    (base : Nat) (v x : Value) (xs ys : List Int) (hs : a.eval s = v) (hy : a.eval y = x) (h1 : OwnI w base v xs) (h2 : PartI w x ys) (hl : xs.length + ys.length ≤ 4000000) (hB : base ≤ w.heap.size)
    (h : ∀ v' w', OwnI w' base v' (xs ++ ys) → w.grownBy w' v.ownBlock → (v'.ownBlock = v.ownBlock ∨ v'.ownBlock = some w.heap.size) → K (a.put o.dst v') w') :
    if Region.wanted o (yielded ops a.tmps) = true then Oper.wp Try.prog o a w K Q else E := by
  have hw : Region.wanted o (yielded ops a.tmps) = true := by simp [Region.wanted, hgd]
  rw [if_pos hw]
  obtain ⟨ad, c, rfl, hc⟩ := h2
  obtain ⟨i, hi, hz, hsz, hb⟩ := info_parts info_int
  obtain ⟨v', w', hrun, own, g1, _, hat⟩ := run_append_own_at (P := Try.prog) (w := w) base 33 o.type 3 i (.int .i64 0) 1 8 Try.underlying33 hi hz hsz hb rfl (by omega) v xs.length (xs.map intV) h1
    ad ys.length c (ys.map intV) (by simp) hc (intV_one ys) (by simp only [maxLen]; omega) (by omega) hB
  have e2 : OwnI w' base v' (xs ++ ys) := by
    unfold OwnI
    rw [List.length_append, List.map_append]
    exact own
  unfold Oper.wp execOp
  simp only [ho, resolve, invoke, builtin, Sem.run_bind, Sem.run_pure, Result.andThen_ok, List.map_toArray, List.map_cons, List.map_nil, hs, hy, hrun]
  exact h v' w' e2 g1 hat
end
end Go.Proofs.Ytanlfkkmnnjpeaa

/- The contracts of spec.PlayersOk, l13Knows and LoadOf. Condition: the players and the numbers lie in rows of their own. -/
namespace Go.Proofs.Ytanlfkkmnnjpeaa
set_option linter.unusedVariables false
set_option linter.unusedSimpArgs false
open Go.RowKit


set_option maxRecDepth 100000 in
set_option maxHeartbeats 1600000 in
theorem specPOk (v : Value) (ls : List RPlayer) (b : Nat) (w : World) (h : OwnPlayer w b v ls) (hl : ls.length ≤ 2000000) (hr : ∀ k (hk : k < ls.length), ls[k].f0.length ≤ 2000000) :
    Calls Try.prog 45 #[v] w fun e w' => e = .returned (.bool (playersOk ls)) ∧ Below w.heap.size w w' := by
  have C0 := Lib.hid (fun v lo hi W => l01In_any v lo hi W)
  have C1 := Lib.hid (fun u zs W h hz => specRise u zs 6 b W h hz)
  obtain ⟨A, c, rfl⟩ := h.slice
  have O := Lib.hid h
  have HR := Lib.hid hr
  have R1 := Lib.hid (fun (h : ∀ k (hk : k < ls.length), playerFine ls[k] = true) => playersOk_all h)
  have R0 := Lib.hid (fun k (hk : k < ls.length) h => playersOk_bad hk h)
  clear h hr
  go_enter Try.func45, Try.ntmps45
  go_wp2_with fail
  go_loopw [3] (fun iv wr => ∃ k : Nat, k ≤ ls.length ∧ iv = .int .i64 (k : Int) ∧ Hid (∀ i (hi : i < ls.length), i < k → playerFine ls[i] = true) ∧ Hid (Below w.heap.size w wr)) (fun iv _ => ls.length - (intOf iv).toNat)
  case atStart => exact ⟨0, by omega, rfl, Lib.hid (fun i hi h => absurd h (by omega)), Lib.hid (Below.refl _ _)⟩
  case round =>
    obtain ⟨k, hk, rfl, HN, BW⟩ := hrel
    by_cases hlt : k < ls.length
    rotate_left
    · obtain rfl : k = ls.length := by omega
      have R := Lib.hid (R1.out (fun i hi => HN.out i hi hi))
      have C2 := Lib.hid (C0.out (ls.length : Int) 1 6 wr)
      go_wp2_with fail
      refine C2.out.mono ?_
      rintro e w' ⟨rfl, rfl⟩
      go_wp2
      go_ret
      exact ⟨by rw [R.out]; rfl, BW.out⟩
    have hk0 : (0 : Int) ≤ (k : Int) := by omega
    have hk1 : (k : Int) < (ls.length : Int) := by omega
    obtain ⟨g, _, A1, c1, f1, -, ⟨x0, x1⟩, o1, -⟩ := (O.out.below BW.out).spot hlt
    simp only [Value.slice.injEq] at f1
    obtain ⟨rfl, -, rfl⟩ := f1
    have CR := Lib.hid (C1.out _ _ wr o1 (HR.out k hlt))
    have NX := Lib.hid (show playerFine ls[k] = true → ∀ i (hi : i < ls.length), i < k + 1 → playerFine ls[i] = true from fun h i hi hik => by
      rcases (by omega : i < k ∨ i = k) with q | rfl
      · exact HN.out i hi q
      · exact h)
    have RX := Lib.hid (R0.out k hlt)
    have AT := Lib.hid (show playerFine ls[k] = (rising ls[k].f0 6 && inB ls[k].f1 0 2) from rfl)
    have hbs := BW.out.size
    generalize ls[k].f1 = t at x1 AT
    generalize ls[k].f0 = zs at x0 o1 CR AT
    generalize playerFine ls[k] = pf at NX RX AT
    cases hris : rising zs 6 with
    | false =>
      have R := Lib.hid (RX.out (by rw [AT.out, hris]; rfl))
      rw [hris] at CR
      clear o1 NX AT hris
      go_wp2_with fail
      refine CR.out.mono ?_
      rintro e w2 ⟨rfl, b2⟩
      have B2 := Lib.hid (BW.out.trans (b2.mono hbs))
      clear b2 CR
      go_wp2
      go_ret
      exact ⟨by rw [R.out]; rfl, B2.out⟩
    | true =>
      rw [hris] at CR
      have KC := Lib.hid (fun W (hb : Below wr.heap.size wr W) => cell_below x1 hb)
      cases hin : inB t 0 2 with
      | false =>
        have R := Lib.hid (RX.out (by rw [AT.out, hris, hin]; rfl))
        have C2 := Lib.hid (fun W => (hin ▸ C0.out t 0 2 W : Calls Try.prog 48 #[.int .i64 t, .int .i64 0, .int .i64 2] W fun e w' => e = .returned (.bool false) ∧ w' = W))
        clear o1 NX AT hris hin x1
        go_wp2_with fail
        refine CR.out.mono ?_
        rintro e w2 ⟨rfl, b2⟩
        have B2 := Lib.hid (BW.out.trans (b2.mono hbs))
        have x2 := KC.out _ b2
        clear b2 CR
        go_wp2_with fail
        refine (C2.out _).mono ?_
        rintro e w' ⟨rfl, rfl⟩
        go_wp2
        go_ret
        exact ⟨by rw [R.out]; rfl, B2.out⟩
      | true =>
        have N2 := Lib.hid (NX.out (by rw [AT.out, hris, hin]; rfl))
        have C2 := Lib.hid (fun W => (hin ▸ C0.out t 0 2 W : Calls Try.prog 48 #[.int .i64 t, .int .i64 0, .int .i64 2] W fun e w' => e = .returned (.bool true) ∧ w' = W))
        clear o1 NX AT hris hin x1
        go_wp2_with fail
        refine CR.out.mono ?_
        rintro e w2 ⟨rfl, b2⟩
        have B2 := Lib.hid (BW.out.trans (b2.mono hbs))
        have x2 := KC.out _ b2
        clear b2 CR
        go_wp2_with fail
        refine (C2.out _).mono ?_
        rintro e w' ⟨rfl, rfl⟩
        go_wp2
        exact ⟨⟨k + 1, by omega, by go_num, N2, B2⟩, by simp [intOf]; omega⟩

set_option maxRecDepth 100000 in
set_option maxHeartbeats 1600000 in
theorem specKno (l : RPlayer) (u : Value) (x : Int) (b : Nat) (w : World) (h : OwnI w b u l.f0) (hl : l.f0.length ≤ 2000000) :
    Calls Try.prog 49 #[.agg #[u, .int .i64 l.f1], .int .i64 x] w fun e w' => e = .returned (.bool (knowsB l x)) ∧ Below w.heap.size w w' := by
  obtain ⟨A, c, rfl⟩ := h.slice
  obtain ⟨W2, hW⟩ : ∃ W, W = w.alloc (.cells #[.slice A l.f0.length c, .int .i64 l.f1] 71) := ⟨_, rfl⟩
  have BA := Lib.hid (show Below w.heap.size w W2 by rw [hW]; exact (Below.refl w.heap.size w).alloc (Nat.le_refl _) _)
  have H1 := Lib.hid (show OwnI W2 b (.slice A l.f0.length c) l.f0 by rw [hW]; exact h.alloc _)
  have V1 := Lib.hid (show W2.cell? ⟨w.heap.size, 0, none⟩ = some (.slice A l.f0.length c) by rw [hW]; simp [go_sem])
  have HW := Lib.hid hW
  have YES := Lib.hid (fun k hk e => knows_yes (l := l) (x := x) (k := k) hk e)
  have NO := Lib.hid (fun h => knows_no (l := l) (x := x) h)
  clear h hW
  go_enter Try.func49, Try.ntmps49
  go_wp2_with fail
  go_loopw [5] (fun iv wr => wr = W2 ∧ ∃ i : Nat, i ≤ l.f0.length ∧ iv = .int .i64 (i : Int) ∧ Hid (∀ p (hp : p < l.f0.length), p < i → l.f0[p] ≠ x)) (fun iv _ => l.f0.length - (intOf iv).toNat)
  case atStart => exact ⟨HW.out.symm, 0, by omega, rfl, Lib.hid (fun p hp h => absurd h (by omega))⟩
  case round =>
    obtain ⟨rfl, i, hi, rfl, NN⟩ := hrel
    have v1 := V1.out
    by_cases hlt : i < l.f0.length
    rotate_left
    · obtain rfl : i = l.f0.length := by omega
      have R := Lib.hid (NO.out fun p hp => NN.out p hp hp)
      go_wp2
      go_ret
      exact ⟨by rw [R.out]; rfl, BA.out⟩
    have hi0 : (0 : Int) ≤ (i : Int) := by omega
    have hi1 : (i : Int) < (l.f0.length : Int) := by omega
    obtain ⟨g, _, f1, _, _, z0, _⟩ := H1.out.spot hlt
    simp only [Value.slice.injEq] at f1
    obtain ⟨rfl, -, -⟩ := f1
    have YY := Lib.hid (YES.out i hlt)
    have N2 := Lib.hid (show l.f0[i] ≠ x → ∀ p (hp : p < l.f0.length), p < i + 1 → l.f0[p] ≠ x from fun e p hp h => by
      rcases (by omega : p < i ∨ p = i) with c | rfl
      · exact NN.out p hp c
      · exact e)
    generalize l.f0[i] = y at z0 YY N2
    by_cases e : y = x
    · have R := Lib.hid (YY.out e)
      subst e
      have eb : (y == y) = true := by simp
      go_wp2
      go_ret
      exact ⟨by rw [R.out]; rfl, BA.out⟩
    · have N3 := Lib.hid (N2.out e)
      have eb : (y == x) = false := by simpa using e
      go_wp2
      exact ⟨⟨trivial, i + 1, by omega, by go_num, N3⟩, by simp [intOf]; omega⟩
end Go.Proofs.Ytanlfkkmnnjpeaa

/- Rows of rows of numbers of the call's own (each row in a block of its own, no two of them in one). No condition. -/
namespace Go.Proofs.Ytanlfkkmnnjpeaa
set_option linter.unusedVariables false
set_option linter.unusedSimpArgs false
open Go.RowKit

theorem info_ints : (Try.prog.info? 33).map (fun i => (i.zero, i.size, i.bytes)) = some (some (.slice none 0 0), 1, 24) := by kernel_rfl
/-- A row of rows of the call's own; vs: the rows' values. -/
structure OwnRR (w : World) (base : Nat) (v : Value) (vs : List Value) (zss : List (List Int)) : Prop where
  row : w.ownsRow base 33 1 v zss.length vs
  len : vs.length = zss.length
  each : ∀ k (h : k < vs.length) (h' : k < zss.length), OwnI w base vs[k] zss[k]
  off : ∀ k (h : k < vs.length), vs[k].ownBlock = none ∨ vs[k].ownBlock ≠ v.ownBlock
  apart : ∀ i j (hi : i < vs.length) (hj : j < vs.length), i ≠ j → vs[i].ownBlock = none ∨ vs[i].ownBlock ≠ vs[j].ownBlock
def OwnR (w : World) (base : Nat) (v : Value) (zss : List (List Int)) : Prop := ∃ vs, OwnRR w base v vs zss
section
variable {w w' : World} {base b : Nat} {v : Value} {vs : List Value} {zss : List (List Int)}
theorem OwnRR.below (h : OwnRR w base v vs zss) (hb : Below w.heap.size w w') : OwnRR w' base v vs zss :=
  ⟨World.ownsRow.kept h.row (grown_of_below hb none) (by cases v.ownBlock <;> simp), h.len, fun k hk hk' => (h.each k hk hk').below hb, h.off, h.apart⟩
theorem OwnR.below (h : OwnR w base v zss) (hb : Below w.heap.size w w') : OwnR w' base v zss := let ⟨vs, x⟩ := h; ⟨vs, x.below hb⟩
theorem OwnR.alloc (h : OwnR w base v zss) (o : Obj) : OwnR (w.alloc o) base v zss := h.below ((Below.refl _ _).alloc (Nat.le_refl _) _)
theorem OwnRR.slice (h : OwnRR w base v vs zss) : ∃ A c, v = .slice A zss.length c := by
  rcases h.row.2 with ⟨rfl, hn⟩ | ⟨g, cap, _, rfl, _⟩
  · exact ⟨none, 0, by rw [hn]⟩
  · exact ⟨_, _, rfl⟩
theorem OwnR.slice (h : OwnR w base v zss) : ∃ A c, v = .slice A zss.length c := let ⟨_, x⟩ := h; x.slice
theorem OwnRR.lt (h : OwnRR w base v vs zss) : ∀ k, v.ownBlock = some k → base ≤ k ∧ k < w.heap.size := World.ownsRow.lt h.row
theorem OwnR.lt (h : OwnR w base v zss) : ∀ k, v.ownBlock = some k → base ≤ k ∧ k < w.heap.size := let ⟨_, x⟩ := h; x.lt
/-- Row k: its cell, its value, its numbers. -/
theorem OwnR.spot (h : OwnR w base v zss) {k : Nat} (hk : k < zss.length) :
    ∃ g c A c', v = .slice (some ⟨g, 0, none⟩) zss.length c ∧ w.cell? ⟨g, k, none⟩ = some (.slice A zss[k].length c') ∧ w.frozen? ⟨g, k, none⟩ = false ∧ OwnI w base (.slice A zss[k].length c') zss[k] := by
  obtain ⟨vs, x⟩ := h
  have hv : k < vs.length := by rw [x.len]; exact hk
  have O := x.each k hv hk
  obtain ⟨A, c', e⟩ := O.slice
  rcases x.row.2 with ⟨_, hn⟩ | ⟨g, cap, cur, rfl, hb, hg, _⟩
  · omega
  · refine ⟨g, cap, A, c', rfl, ?_, World.ownsRow.frozenAt x.row k, e ▸ O⟩
    rw [World.ownsRow.cellAt x.row k (by omega)]
    simp only [Nat.mul_one] at *
    rw [List.getElem?_eq_getElem hv, e]
/-- A row that has been made since is laid in at place k. -/
theorem OwnRR.set {w0 : World} {g c k : Nat} {u : Value} {zs : List Int} (h : OwnRR w0 base (.slice (some ⟨g, 0, none⟩) zss.length c) vs zss) (hb : Below w0.heap.size w0 w) (hu : OwnI w w0.heap.size u zs) (hbs : base ≤ w0.heap.size) (hk : k < zss.length) :
    OwnRR (w.setCell ⟨g, k, none⟩ u) base (.slice (some ⟨g, 0, none⟩) zss.length c) (vs.set k u) (zss.set k zs) ∧ w.grownBy (w.setCell ⟨g, k, none⟩ u) (some g) := by
  have h1 := h.below hb
  obtain ⟨s1, g1⟩ := World.ownsRow.stored h1.row k u
  have hg : g < w0.heap.size := (h.lt g rfl).2
  have hgw : some g = (Value.slice (some ⟨g, 0, none⟩) zss.length c).ownBlock := rfl
  have lt0 : ∀ i (hi : i < vs.length) b, vs[i].ownBlock = some b → b < w0.heap.size := fun i hi b e => ((h.each i hi (by rw [← h.len]; exact hi)).lt b e).2
  refine ⟨⟨by simpa using s1, by simp [h.len], fun i hi hi' => ?_, fun i hi => ?_, fun i j hi hj hij => ?_⟩, g1⟩
  · simp only [List.length_set] at hi hi'
    by_cases e : k = i
    · subst e
      simp only [List.getElem_set_self]
      exact (hu.mono hbs).kept g1 (sep_of fun b e1 e2 => by have := (hu.lt b e1).1; have := Option.some.inj e2; omega)
    · simp only [List.getElem_set_ne e]
      exact (h1.each i hi hi').kept g1 (h1.off i hi)
  · simp only [List.length_set] at hi
    by_cases e : k = i
    · subst e
      simp only [List.getElem_set_self]
      exact sep_of fun b e1 e2 => by have := (hu.lt b e1).1; have := Option.some.inj (hgw.trans e2); omega
    · simp only [List.getElem_set_ne e]
      exact h1.off i hi
  · simp only [List.length_set] at hi hj
    by_cases e : k = i
    · subst e
      simp only [List.getElem_set_self, List.getElem_set_ne hij]
      exact sep_of fun b e1 e2 => by have := (hu.lt b e1).1; have := lt0 j hj b e2; omega
    · simp only [List.getElem_set_ne e]
      by_cases e2 : k = j
      · subst e2
        simp only [List.getElem_set_self]
        exact sep_of fun b e1 e3 => by have := (hu.lt b e3).1; have := lt0 i hi b e1; omega
      · simp only [List.getElem_set_ne e2]
        exact h1.apart i j hi hj hij
theorem OwnR.set {w0 : World} {g c k : Nat} {u : Value} {zs : List Int} (h : OwnR w0 base (.slice (some ⟨g, 0, none⟩) zss.length c) zss) (hb : Below w0.heap.size w0 w) (hu : OwnI w w0.heap.size u zs) (hbs : base ≤ w0.heap.size) (hk : k < zss.length) :
    OwnR (w.setCell ⟨g, k, none⟩ u) base (.slice (some ⟨g, 0, none⟩) zss.length c) (zss.set k zs) ∧ w.grownBy (w.setCell ⟨g, k, none⟩ u) (some g) :=
  let ⟨vs, x⟩ := h; ⟨⟨vs.set k u, (x.set hb hu hbs hk).1⟩, (x.set hb hu hbs hk).2⟩
/-- n rows made, all nil. -/
theorem ownR_made {n : Nat} {g : Nat} (h : w.ownsRow base 33 1 (.slice (some ⟨g, 0, none⟩) n n) n (List.replicate n (.slice none 0 0))) : OwnR w base (.slice (some ⟨g, 0, none⟩) n n) (List.replicate n []) := by
  refine ⟨List.replicate n (.slice none 0 0), by simpa using h, by simp, fun k hk hk' => ?_, fun k hk => ?_, fun i j hi hj _ => ?_⟩
  · simp only [List.getElem_replicate]
    exact ⟨rfl, .inl ⟨rfl, rfl⟩⟩
  · simp only [List.getElem_replicate]
    exact .inl rfl
  · simp only [List.getElem_replicate]
    exact .inl rfl
end
def RowsPost (w : World) (zss : List (List Int)) (e : Ending) (w' : World) : Prop := ∃ v, e = .returned v ∧ OwnR w' w.heap.size v zss ∧ Below w.heap.size w w'
end Go.Proofs.Ytanlfkkmnnjpeaa

/- The contract of spec.NightOk. Condition: the players and the rows of numbers are the call's own. -/
namespace Go.Proofs.Ytanlfkkmnnjpeaa
set_option linter.unusedVariables false
set_option linter.unusedSimpArgs false
open Go.RowKit

def momentOk (l : List Int) : Bool := decide (l.length ≤ 4) && rising l 6
theorem nok_is (ls : List RPlayer) (nt : List (List Int)) : nightOk ls nt = (nt.all momentOk && (playersOk ls && inB (nt.length : Int) 1 6)) := rfl
theorem nok_bad {ls : List RPlayer} {nt : List (List Int)} {k : Nat} (hk : k < nt.length) (h : momentOk nt[k] = false) : nightOk ls nt = false := by
  rw [nok_is, List.all_eq_false.2 ⟨nt[k], List.getElem_mem hk, by rw [h]; simp⟩]
  rfl
theorem nok_all {ls : List RPlayer} {nt : List (List Int)} (h : ∀ k (hk : k < nt.length), momentOk nt[k] = true) : nightOk ls nt = (playersOk ls && inB (nt.length : Int) 1 6) := by
  rw [nok_is, List.all_eq_true.2 fun l hl => by obtain ⟨k, hk, rfl⟩ := List.mem_iff_getElem.1 hl; exact h k hk]
  rfl
theorem nok_has {ls : List RPlayer} {nt : List (List Int)} (h : nightOk ls nt = true) : playersOk ls = true ∧ (1 ≤ nt.length ∧ nt.length ≤ 6) ∧ ∀ k (hk : k < nt.length), nt[k].length ≤ 4 ∧ rising nt[k] 6 = true := by
  rw [nok_is] at h
  simp only [Bool.and_eq_true, List.all_eq_true] at h
  obtain ⟨h1, h2, h3⟩ := h
  have h3' : 1 ≤ (nt.length : Int) ∧ (nt.length : Int) ≤ 6 := by simpa [inB] using h3
  refine ⟨h2, by omega, fun k hk => ?_⟩
  have := h1 _ (List.getElem_mem hk)
  unfold momentOk at this
  simpa using this

set_option maxRecDepth 100000 in
set_option maxHeartbeats 1600000 in
theorem specNOk (v : Value) (ls : List RPlayer) (b : Nat) (w : World) (h : OwnPlayer w b v ls) (hl : ls.length ≤ 2000000) (hr : ∀ k (hk : k < ls.length), ls[k].f0.length ≤ 2000000) (u : Value) (nt : List (List Int)) (b2 : Nat) (h2 : OwnR w b2 u nt) (hn : nt.length ≤ 2000000) (hnr : ∀ k (hk : k < nt.length), nt[k].length ≤ 2000000) :
    Calls Try.prog 23 #[v, u] w fun e w' => e = .returned (.bool (nightOk ls nt)) ∧ Below w.heap.size w w' := by
  have CK := Lib.hid (fun W h => specPOk v ls b W h hl hr)
  obtain ⟨A, c, rfl⟩ := h.slice
  obtain ⟨D, d, rfl⟩ := h2.slice
  have O := Lib.hid h
  have N := Lib.hid h2
  have HN := Lib.hid hnr
  have RB := Lib.hid (fun k (hk : k < nt.length) (h : momentOk nt[k] = false) => nok_bad (ls := ls) hk h)
  have RA := Lib.hid (fun h => nok_all (ls := ls) (nt := nt) h)
  have C0 := Lib.hid (fun W => (l01In_any (nt.length : Int) 1 6 W).mono fun e w' h => (show _ ∧ W = w' from ⟨h.1, h.2.symm⟩))
  clear h h2 hnr
  go_enter Try.func23, Try.ntmps23
  go_wp2_with fail
  go_loopw [5] (fun iv wr => ∃ k : Nat, k ≤ nt.length ∧ iv = .int .i64 (k : Int) ∧ Hid (∀ i (hi : i < nt.length), i < k → momentOk nt[i] = true) ∧ Hid (Below w.heap.size w wr)) (fun iv _ => nt.length - (intOf iv).toNat)
  case atStart => exact ⟨0, by omega, rfl, Lib.hid (fun i _ hi => absurd hi (by omega)), Lib.hid (Below.refl _ _)⟩
  case round =>
    obtain ⟨k, hk, rfl, HT, BW⟩ := hrel
    by_cases hlt : k < nt.length
    rotate_left
    · obtain rfl : k = nt.length := by omega
      have R := Lib.hid (RA.out (fun i hi => HT.out i hi hi))
      have CF := Lib.hid (CK.out wr (O.out.below BW.out))
      cases hok : playersOk ls with
      | false =>
        have R2 := Lib.hid (show nightOk ls nt = false by rw [R.out, hok]; rfl)
        rw [hok] at CF
        clear hok R
        go_wp2_with (go_at_call 45; refine CF.out.mono ?_; rintro e w2 ⟨rfl, b2⟩; have B2 := Lib.hid (BW.out.trans (b2.mono BW.out.size)); clear b2)
        go_ret
        exact ⟨by rw [R2.out]; try rfl, B2.out⟩
      | true =>
        have R2 := Lib.hid (show nightOk ls nt = inB (nt.length : Int) 1 6 by rw [R.out, hok]; rfl)
        rw [hok] at CF
        clear hok R
        go_wp2_with (first | (go_at_call 45; refine CF.out.mono ?_; rintro e w2 ⟨rfl, b2⟩; have B2 := Lib.hid (BW.out.trans (b2.mono BW.out.size)); clear b2) | (go_at_call 48; refine (C0.out _).mono ?_; rintro e w' ⟨rfl, rfl⟩))
        go_ret
        exact ⟨by rw [R2.out]; try rfl, B2.out⟩
    have hk0 : (0 : Int) ≤ (k : Int) := by omega
    have hk1 : (k : Int) < (nt.length : Int) := by omega
    obtain ⟨g, _, A1, c1, f1, x0, -, o1⟩ := (N.out.below BW.out).spot hlt
    simp only [Value.slice.injEq] at f1
    obtain ⟨rfl, -, rfl⟩ := f1
    have hrr := HN.out k hlt
    have MK := Lib.hid (show momentOk nt[k] = (decide (nt[k].length ≤ 4) && rising nt[k] 6) from rfl)
    have NX := Lib.hid (fun (h : momentOk nt[k] = true) => (show ∀ i (hi : i < nt.length), i < k + 1 → momentOk nt[i] = true from fun i hi hj => by
      rcases (by omega : i < k ∨ i = k) with q | rfl
      · exact HT.out i hi q
      · exact h))
    have RX := Lib.hid (RB.out k hlt)
    have CR := Lib.hid (specRise _ nt[k] 6 _ _ o1 hrr)
    clear o1
    generalize nt[k] = l at x0 hrr MK NX RX CR
    by_cases h4 : l.length ≤ 4
    · have d4 : ¬ (4 : Int) < (l.length : Int) := by omega
      cases hq : rising l 6 with
      | false =>
        have R := Lib.hid (RX.out (by rw [MK.out, hq, Bool.and_false]))
        rw [hq] at CR
        clear RX NX MK hq h4
        go_wp2_with (go_at_call 46; refine CR.out.mono ?_; rintro e w2 ⟨rfl, b2⟩; have B2 := Lib.hid (BW.out.trans (b2.mono BW.out.size)); clear b2)
        go_ret
        exact ⟨by rw [R.out]; try rfl, B2.out⟩
      | true =>
        have N2 := Lib.hid (NX.out (by rw [MK.out, hq, decide_eq_true h4]; rfl))
        rw [hq] at CR
        clear RX NX MK hq h4
        go_wp2_with (go_at_call 46; refine CR.out.mono ?_; rintro e w2 ⟨rfl, b2⟩; have B2 := Lib.hid (BW.out.trans (b2.mono BW.out.size)); clear b2)
        exact ⟨⟨k + 1, by omega, by go_num, N2, B2⟩, by simp [intOf]; omega⟩
    · have d4 : (4 : Int) < (l.length : Int) := by omega
      have R := Lib.hid (RX.out (by rw [MK.out, decide_eq_false h4]; rfl))
      clear RX NX MK h4
      go_wp2
      go_ret
      exact ⟨by rw [R.out]; try rfl, BW.out⟩
end Go.Proofs.Ytanlfkkmnnjpeaa

/- The contract of the program's look whether one number lies in a range. -/
namespace Go.Proofs.Ytanlfkkmnnjpeaa
set_option linter.unusedVariables false
open Go.RowKit

theorem inRange_yes {v lo hi : Int} (h : lo ≤ v ∧ v ≤ hi) (w : World) :
    Calls Try.prog 52 #[.int .i64 v, .int .i64 lo, .int .i64 hi] w fun e w' => e = .returned (.bool true) ∧ w' = w := by
  obtain ⟨h1, h2⟩ := h
  go_enter Try.func52, Try.ntmps52
  go_wp2
  go_ret
  exact ⟨rfl, rfl⟩
theorem inRange_no {v lo hi : Int} (h : ¬ (lo ≤ v ∧ v ≤ hi)) (w : World) :
    Calls Try.prog 52 #[.int .i64 v, .int .i64 lo, .int .i64 hi] w fun e w' => e = .returned (.bool false) ∧ w' = w := by
  by_cases h1 : lo ≤ v
  · have h2 : ¬ v ≤ hi := fun x => h ⟨h1, x⟩
    go_enter Try.func52, Try.ntmps52
    go_wp2
    go_ret
    exact ⟨rfl, rfl⟩
  · go_enter Try.func52, Try.ntmps52
    go_wp2
    go_ret
    exact ⟨rfl, rfl⟩
theorem inRange_any (v lo hi : Int) (w : World) :
    Calls Try.prog 52 #[.int .i64 v, .int .i64 lo, .int .i64 hi] w fun e w' => e = .returned (.bool (inB v lo hi)) ∧ w' = w := by
  by_cases h : lo ≤ v ∧ v ≤ hi
  · rw [inB_yes h]
    exact inRange_yes h w
  · rw [inB_no h]
    exact inRange_no h w
end Go.Proofs.Ytanlfkkmnnjpeaa

/- The contracts of the program's ascendsInRange (from 0 on) and arePuppets. Condition: the numbers lie in rows of their own. -/
namespace Go.Proofs.Ytanlfkkmnnjpeaa
set_option linter.unusedVariables false
set_option linter.unusedSimpArgs false
open Go.RowKit

set_option maxRecDepth 100000 in
set_option maxHeartbeats 1600000 in
theorem implAsc (v : Value) (zs : List Int) (most : Int) (b : Nat) (w : World) (h : OwnI w b v zs) (hl : zs.length ≤ 2000000) :
    Calls Try.prog 68 #[v, .int .i64 0, .int .i64 most] w fun e w' => e = .returned (.bool (rising zs most)) ∧ w' = w := by
  obtain ⟨A, c, rfl⟩ := h.slice
  have O := Lib.hid h
  have C0 := Lib.hid (fun v lo hi W => (inRange_any v lo hi W).mono fun e w' h => (show _ ∧ W = w' from ⟨h.1, h.2.symm⟩))
  have R1 := Lib.hid (fun (h : ∀ k, k < zs.length → riseAt zs most k = true) => (rise_iff zs most zs.length).2 h)
  have R0 := Lib.hid (fun k (hk : k < zs.length) h => rise_bad (most := most) hk h)
  clear h
  go_enter Try.func68, Try.ntmps68
  go_wp2_with fail
  go_loopw [11] (fun iv wr => w = wr ∧ ∃ k : Nat, k ≤ zs.length ∧ iv = .int .i64 (k : Int) ∧ Hid (∀ i, i < k → riseAt zs most i = true)) (fun iv _ => zs.length - (intOf iv).toNat)
  case atStart => exact ⟨rfl, 0, by omega, rfl, Lib.hid (fun i hi => absurd hi (by omega))⟩
  case round =>
    obtain ⟨rfl, k, hk, rfl, HN⟩ := hrel
    by_cases hlt : k < zs.length
    rotate_left
    · obtain rfl : k = zs.length := by omega
      have R := Lib.hid (show rising zs most = true from R1.out HN.out)
      go_wp2
      go_ret
      exact ⟨by rw [R.out]; rfl, rfl⟩
    have hk0 : (0 : Int) ≤ (k : Int) := by omega
    have hk1 : (k : Int) < (zs.length : Int) := by omega
    obtain ⟨g, _, f1, _, _, z0, _⟩ := O.out.spot hlt
    simp only [Value.slice.injEq] at f1
    obtain ⟨rfl, -, rfl⟩ := f1
    have NX := Lib.hid (fun (h : riseAt zs most k = true) => (show ∀ i, i < k + 1 → riseAt zs most i = true from fun i hi => by
      rcases (by omega : i < k ∨ i = k) with q | rfl
      · exact HN.out i q
      · exact h))
    have RX := Lib.hid (R0.out k hlt)
    have AT := Lib.hid (show riseAt zs most k = (inB zs[k] 0 most && (decide (k = 0) || decide (zs.getD (k - 1) 0 < zs[k]))) by
      unfold riseAt
      rw [show zs.getD k 0 = zs[k] by rw [List.getD_eq_getElem?_getD, List.getElem?_eq_getElem hlt]; rfl])
    have ZK := Lib.hid (show ∀ j, j + 1 = k → ∀ hj : j < zs.length, zs.getD (k - 1) 0 = zs[j] from fun j e hj => by
      rw [show k - 1 = j by omega, List.getD_eq_getElem?_getD, List.getElem?_eq_getElem hj]; rfl)
    generalize zs[k] = x at z0 AT
    have C1 := Lib.hid (fun W => C0.out x 0 most W)
    cases hin : inB x 0 most with
    | false =>
      have R := Lib.hid (RX.out (by rw [AT.out, hin]; rfl))
      rw [hin] at C1
      clear hin NX AT
      go_wp2_with (go_at_call 52; refine (C1.out _).mono ?_; rintro e w' ⟨rfl, rfl⟩)
      go_ret
      exact ⟨by rw [R.out]; rfl, rfl⟩
    | true =>
      rw [hin] at C1
      rcases Nat.eq_zero_or_pos k with rfl | hpos
      · have N2 := Lib.hid (NX.out (by rw [AT.out, hin]; rfl))
        clear hin NX AT
        go_wp2_with (go_at_call 52; refine (C1.out _).mono ?_; rintro e w' ⟨rfl, rfl⟩)
        exact ⟨⟨trivial, 1, by omega, by rfl, N2⟩, by simp [intOf]; omega⟩
      · obtain ⟨j, rfl⟩ : ∃ j, k = j + 1 := ⟨k - 1, by omega⟩
        have hj : j < zs.length := by omega
        obtain ⟨_, _, f1, _, _, z1, _⟩ := O.out.spot hj
        simp only [Value.slice.injEq, Option.some.injEq, Addr.mk.injEq] at f1
        obtain ⟨⟨rfl, _⟩, -, -⟩ := f1
        have A2 := Lib.hid (show riseAt zs most (j + 1) = decide (zs[j] < x) by
          rw [AT.out, hin, ZK.out j rfl hj]
          simp)
        have ek : ((j + 1 : Nat) : Int) = (j : Int) + 1 := by omega
        have e1 : IntKind.i64.wrap ((j : Int) + 1 - 1) = (j : Int) := by rw [IntWalk.i64_in _ (by omega)]; omega
        have hp : (0 : Int) < (j : Int) + 1 := by omega
        have hj0 : (0 : Int) ≤ (j : Int) := by omega
        have hj1 : (j : Int) < (zs.length : Int) := by omega
        generalize zs[j] = y at z1 A2
        clear hin AT ZK
        by_cases hyx : y < x
        · have N2 := Lib.hid (NX.out (by rw [A2.out]; exact decide_eq_true hyx))
          have dx : decide (x ≤ y) = false := decide_eq_false (by omega)
          have nx : ¬ x ≤ y := by omega
          clear hyx NX A2
          go_wp2_with (go_at_call 52; refine (C1.out _).mono ?_; rintro e w' ⟨rfl, rfl⟩)
          exact ⟨⟨trivial, j + 2, by omega, by go_num, N2⟩, by simp [intOf]; omega⟩
        · have R := Lib.hid (RX.out (by rw [A2.out]; exact decide_eq_false hyx))
          have dx : decide (x ≤ y) = true := decide_eq_true (by omega)
          have nx : x ≤ y := by omega
          clear hyx NX A2
          go_wp2_with (go_at_call 52; refine (C1.out _).mono ?_; rintro e w' ⟨rfl, rfl⟩)
          go_ret
          exact ⟨by rw [R.out]; rfl, rfl⟩

set_option maxRecDepth 100000 in
set_option maxHeartbeats 1600000 in
theorem implPup (v : Value) (zs : List Int) (b : Nat) (w : World) (h : OwnI w b v zs) (hl : zs.length ≤ 2000000) :
    Calls Try.prog 53 #[v] w fun e w' => e = .returned (.bool (rising zs 6)) ∧ w = w' := by
  have P := Lib.hid ((implAsc v zs 6 b w h hl).mono fun e w' h => (show _ ∧ w = w' from ⟨h.1, h.2.symm⟩))
  obtain ⟨A, c, rfl⟩ := h.slice
  clear h
  go_enter Try.func53, Try.ntmps53
  go_wp2_with (go_at_call 68; refine P.out.mono ?_; rintro e w' ⟨rfl, rfl⟩)
  go_ret
  exact ⟨rfl, rfl⟩
end Go.Proofs.Ytanlfkkmnnjpeaa

/- The contracts of the library's slices.Index (any number) and slices.Contains at a row of numbers. Condition: the numbers lie in a row of their own. -/
namespace Go.Proofs.Ytanlfkkmnnjpeaa
set_option linter.unusedVariables false
set_option linter.unusedSimpArgs false
open Go.RowKit

/-- Is the number among them? -/
def hasZ (zs : List Int) (x : Int) : Bool := zs.any fun z => decide (z = x)
theorem hasZ_yes {zs : List Int} {x : Int} {k : Nat} (hk : k < zs.length) (h : zs[k] = x) : hasZ zs x = true := List.any_eq_true.2 ⟨_, List.getElem_mem hk, decide_eq_true h⟩
theorem hasZ_no {zs : List Int} {x : Int} (h : ∀ k (hk : k < zs.length), zs[k] ≠ x) : hasZ zs x = false := by
  cases c : hasZ zs x with
  | false => rfl
  | true =>
    obtain ⟨z, hz, e⟩ := List.any_eq_true.1 c
    obtain ⟨k, hk, rfl⟩ := List.mem_iff_getElem.1 hz
    exact absurd (of_decide_eq_true e) (h k hk)

set_option maxHeartbeats 400000 in
/-- slices.Index: not negative just if the number is there. -/
theorem index_any (v : Value) (zs : List Int) (base : Nat) (w : World) (h : OwnI w base v zs) (hl : zs.length ≤ 2000000) (x : Int) :
    Calls Try.prog 74 #[v, .int .i64 x] w fun e w' => (∃ r : Int, e = .returned (.int .i64 r) ∧ (0 ≤ r ↔ hasZ zs x = true)) ∧ w = w' := by
  obtain ⟨A, c, e1⟩ := h.slice
  subst e1
  have H := Lib.hid h
  have YES := Lib.hid (fun k (hk : k < zs.length) (e : zs[k] = x) => hasZ_yes hk e)
  have NO := Lib.hid (fun h => hasZ_no (zs := zs) (x := x) h)
  clear h
  go_enter Try.func74, Try.ntmps74
  go_wp2
  go_loopw [8] (fun iv wr => w = wr ∧ ∃ r : Nat, r ≤ zs.length ∧ iv = .int .i64 (r : Int) ∧ Hid (∀ j (hj : j < zs.length), j < r → zs[j] ≠ x)) (fun iv _ => zs.length - (intOf iv).toNat)
  case atStart => exact ⟨rfl, 0, by omega, rfl, Lib.hid (fun j _ h => absurd h (by omega))⟩
  case round =>
    obtain ⟨rfl, r, hr, rfl, HN⟩ := hrel
    by_cases hlt : r < zs.length
    rotate_left
    · obtain rfl : r = zs.length := by omega
      have R := Lib.hid (NO.out (fun k hk => HN.out k hk hk))
      go_wp2
      go_ret
      exact ⟨⟨-1, rfl, by rw [R.out]; simp⟩, rfl⟩
    obtain ⟨g2, c2, e2, _, _, x0, _⟩ := H.out.spot (k := r) hlt
    simp only [Value.slice.injEq] at e2
    obtain ⟨rfl, -, rfl⟩ := e2
    have hr0 : (0 : Int) ≤ (r : Int) := by omega
    have hr1 : (r : Int) < (zs.length : Int) := by omega
    have Y := Lib.hid (YES.out r hlt)
    have NX := Lib.hid (fun (e : zs[r] ≠ x) => (show ∀ j (hj : j < zs.length), j < r + 1 → zs[j] ≠ x from fun j hj h => by
      rcases (by omega : j < r ∨ j = r) with q | rfl
      · exact HN.out j hj q
      · exact e))
    generalize zs[r] = y at x0 Y NX
    by_cases e : y = x
    · have R := Lib.hid (Y.out e)
      subst e
      go_wp2
      go_ret
      exact ⟨⟨r, rfl, by rw [R.out]; simp⟩, rfl⟩
    · have hne' : (x == y) = false := by simpa using fun a : x = y => e a.symm
      have N2 := Lib.hid (NX.out e)
      go_wp2
      exact ⟨⟨trivial, r + 1, by omega, by go_num, N2⟩, by simp [intOf]; omega⟩

theorem contains_any (v : Value) (zs : List Int) (base : Nat) (w : World) (h : OwnI w base v zs) (hl : zs.length ≤ 2000000) (x : Int) :
    Calls Try.prog 72 #[v, .int .i64 x] w fun e w' => e = .returned (.bool (hasZ zs x)) ∧ w = w' := by
  have C := Lib.hid (index_any v zs base w h hl x)
  obtain ⟨A, c, e1⟩ := h.slice
  subst e1
  clear h
  cases hb : hasZ zs x with
  | true =>
    rw [hb] at C
    go_enter Try.func72, Try.ntmps72
    go_wp2_with fail
    refine C.out.mono ?_
    rintro e w' ⟨⟨r, rfl, hr⟩, rfl⟩
    have hr2 : decide ((0 : Int) ≤ r) = true := decide_eq_true (by simpa using hr)
    clear hr
    go_wp2
    go_ret
    exact ⟨rfl, rfl⟩
  | false =>
    rw [hb] at C
    go_enter Try.func72, Try.ntmps72
    go_wp2_with fail
    refine C.out.mono ?_
    rintro e w' ⟨⟨r, rfl, hr⟩, rfl⟩
    have hr2 : decide ((0 : Int) ≤ r) = false := decide_eq_false (by simpa using hr)
    clear hr
    go_wp2
    go_ret
    exact ⟨rfl, rfl⟩
end Go.Proofs.Ytanlfkkmnnjpeaa

/- The contracts of the program's PlayersOk and WhoKnows. Condition: the players lie in a row of their own. -/
namespace Go.Proofs.Ytanlfkkmnnjpeaa
set_option linter.unusedVariables false
set_option linter.unusedSimpArgs false
open Go.RowKit

set_option maxRecDepth 100000 in
set_option maxHeartbeats 1600000 in
theorem implPOk (v : Value) (ls : List RPlayer) (b : Nat) (w : World) (h : OwnPlayer w b v ls) (hl : ls.length ≤ 2000000) (hr : ∀ k (hk : k < ls.length), ls[k].f0.length ≤ 2000000) :
    Calls Try.prog 51 #[v] w fun e w' => e = .returned (.bool (playersOk ls)) ∧ Below w.heap.size w w' := by
  have C0 := Lib.hid (fun v lo hi W => (inRange_any v lo hi W).mono fun e w' h => (show _ ∧ W = w' from ⟨h.1, h.2.symm⟩))
  obtain ⟨A, c, rfl⟩ := h.slice
  have O := Lib.hid h
  have HR := Lib.hid hr
  have R0 := Lib.hid (fun k (hk : k < ls.length) h => playersOk_bad hk h)
  have C1 := Lib.hid (C0.out (ls.length : Int) 1 6 w)
  clear h hr
  cases hin : inB (ls.length : Int) 1 6 with
  | false =>
    have R := Lib.hid (show playersOk ls = false by unfold playersOk; rw [hin, Bool.and_false])
    rw [hin] at C1
    clear hin
    go_enter Try.func51, Try.ntmps51
    go_wp2_with (go_at_call 52; refine C1.out.mono ?_; rintro e w' ⟨rfl, rfl⟩)
    go_ret
    exact ⟨by rw [R.out]; rfl, Below.refl _ _⟩
  | true =>
    have R1 := Lib.hid (fun (h : ∀ k (hk : k < ls.length), playerFine ls[k] = true) => (playersOk_all h).trans hin)
    rw [hin] at C1
    clear hin
    go_enter Try.func51, Try.ntmps51
    go_wp2_with (go_at_call 52; refine C1.out.mono ?_; rintro e w' ⟨rfl, rfl⟩)
    go_loopw [11] (fun iv wr => ∃ k : Nat, k ≤ ls.length ∧ iv = .int .i64 (k : Int) ∧ Hid (∀ i (hi : i < ls.length), i < k → playerFine ls[i] = true) ∧ Hid (Below w.heap.size w wr)) (fun iv _ => ls.length - (intOf iv).toNat)
    case atStart => exact ⟨0, by omega, rfl, Lib.hid (fun i hi h => absurd h (by omega)), Lib.hid (Below.refl _ _)⟩
    case round =>
      obtain ⟨k, hk, rfl, HN, BW⟩ := hrel
      by_cases hlt : k < ls.length
      rotate_left
      · obtain rfl : k = ls.length := by omega
        have R := Lib.hid (R1.out (fun i hi => HN.out i hi hi))
        go_wp2
        go_ret
        exact ⟨by rw [R.out]; rfl, BW.out⟩
      have hk0 : (0 : Int) ≤ (k : Int) := by omega
      have hk1 : (k : Int) < (ls.length : Int) := by omega
      obtain ⟨g, _, A1, c1, f1, -, ⟨x0, x1⟩, o1, -⟩ := (O.out.below BW.out).spot hlt
      simp only [Value.slice.injEq] at f1
      obtain ⟨rfl, -, rfl⟩ := f1
      have NX := Lib.hid (show playerFine ls[k] = true → ∀ i (hi : i < ls.length), i < k + 1 → playerFine ls[i] = true from fun h i hi hik => by
        rcases (by omega : i < k ∨ i = k) with q | rfl
        · exact HN.out i hi q
        · exact h)
      have RX := Lib.hid (R0.out k hlt)
      have AT := Lib.hid (show playerFine ls[k] = (rising ls[k].f0 6 && inB ls[k].f1 0 2) from rfl)
      have hbs := BW.out.size
      have hrk := HR.out k hlt
      generalize ls[k].f1 = t at x1 AT
      generalize ls[k].f0 = zs at x0 o1 AT hrk
      generalize playerFine ls[k] = pf at NX RX AT
      have BA := Lib.hid (BW.out.alloc hbs (.cells #[.slice A1 zs.length c1, .int .i64 t] 71))
      have CP := Lib.hid (implPup (.slice A1 zs.length c1) zs b (wr.alloc (.cells #[.slice A1 zs.length c1, .int .i64 t] 71)) (o1.alloc _) hrk)
      have C2 := Lib.hid (fun W => C0.out t 0 2 W)
      cases hris : rising zs 6 with
      | false =>
        have R := Lib.hid (RX.out (by rw [AT.out, hris]; rfl))
        rw [hris] at CP
        clear hris NX AT o1
        go_wp2_with (go_at_call 53; refine CP.out.mono ?_; rintro e w' ⟨rfl, rfl⟩)
        go_ret
        exact ⟨by rw [R.out]; rfl, BA.out⟩
      | true =>
        rw [hris] at CP
        cases hin : inB t 0 2 with
        | false =>
          have R := Lib.hid (RX.out (by rw [AT.out, hris, hin]; rfl))
          rw [hin] at C2
          clear hris hin NX AT o1
          go_wp2_with (first | (go_at_call 53; refine CP.out.mono ?_; rintro e w' ⟨rfl, rfl⟩) | (go_at_call 52; refine (C2.out _).mono ?_; rintro e w' ⟨rfl, rfl⟩))
          go_ret
          exact ⟨by rw [R.out]; rfl, BA.out⟩
        | true =>
          have N2 := Lib.hid (NX.out (by rw [AT.out, hris, hin]; rfl))
          rw [hin] at C2
          clear hris hin NX AT o1
          go_wp2_with (first | (go_at_call 53; refine CP.out.mono ?_; rintro e w' ⟨rfl, rfl⟩) | (go_at_call 52; refine (C2.out _).mono ?_; rintro e w' ⟨rfl, rfl⟩))
          exact ⟨⟨k + 1, by omega, by go_num, N2, BA⟩, by simp [intOf]; omega⟩

theorem knows_has (l : RPlayer) (x : Int) : hasZ l.f0 x = knowsB l x := rfl

set_option maxRecDepth 100000 in
set_option maxHeartbeats 1600000 in
theorem implWho (v : Value) (ls : List RPlayer) (b : Nat) (w : World) (h : OwnPlayer w b v ls) (hl : ls.length ≤ 2000000) (hr : ∀ k (hk : k < ls.length), ls[k].f0.length ≤ 2000000) (x : Int) :
    Calls Try.prog 73 #[v, .int .i64 x] w (IntsPost w (whoKnows ls x)) := by
  have CK := Lib.hid (implPOk v ls b w h hl hr)
  obtain ⟨A, c, rfl⟩ := h.slice
  have O := Lib.hid h
  have HR := Lib.hid hr
  clear h hr
  cases hok : playersOk ls with
  | false =>
    have R := Lib.hid (show whoKnows ls x = [] by unfold whoKnows; rw [hok]; rfl)
    rw [hok] at CK
    go_enter Try.func73, Try.ntmps73
    go_wp2_with (go_at_call 51; refine CK.out.mono ?_; rintro e w1 ⟨rfl, b1⟩; have B1 := Lib.hid b1; clear b1)
    go_ret
    exact ⟨_, rfl, by rw [R.out]; exact ⟨rfl, .inl ⟨rfl, rfl⟩⟩, B1.out⟩
  | true =>
    have hn := (playersOk_has hok).1
    have R := Lib.hid (show whoKnows ls x = whoTo ls x ls.length by unfold whoKnows; rw [if_pos hok])
    rw [hok] at CK
    clear hok
    go_enter Try.func73, Try.ntmps73
    go_wp2_with (go_at_call 51; refine CK.out.mono ?_; rintro e w1 ⟨rfl, b1⟩; have B1 := Lib.hid b1; clear b1)
    go_loopw [5, 13] (fun ov kv wr => ∃ (k : Nat) (vo : Value), vo = ov ∧ k ≤ ls.length ∧ kv = .int .i64 (k : Int) ∧ Hid (OwnI wr w.heap.size vo (whoTo ls x k)) ∧ Hid (Below w.heap.size w wr)) (fun _ kv _ => ls.length - (intOf kv).toNat)
    case atStart => exact ⟨0, _, rfl, by omega, rfl, Lib.hid ⟨rfl, .inl ⟨rfl, rfl⟩⟩, B1⟩
    case round =>
      clear B1
      obtain ⟨k, vo, rfl, hk, rfl, OO, BW⟩ := hrel
      by_cases hlt : k < ls.length
      rotate_left
      · obtain rfl : k = ls.length := by omega
        rw [← R.out] at OO
        go_wp2
        go_ret
        exact ⟨_, rfl, OO.out, BW.out⟩
      have hk0 : (0 : Int) ≤ (k : Int) := by omega
      have hk1 : (k : Int) < (ls.length : Int) := by omega
      have hbs := BW.out.size
      obtain ⟨g, _, A1, c1, f1, -, ⟨x0, x1⟩, o1, -⟩ := (O.out.below BW.out).spot hlt
      simp only [Value.slice.injEq] at f1
      obtain ⟨rfl, -, rfl⟩ := f1
      have NX := Lib.hid (show whoTo ls x (k + 1) = if knowsB ls[k] x = true then whoTo ls x k ++ [(k : Int)] else whoTo ls x k by rw [whoTo, getP hlt])
      have wl := who_len ls x k
      have CH := Lib.hid (contains_any (.slice A1 ls[k].f0.length c1) ls[k].f0 b (wr.alloc (.cells #[.slice A1 ls[k].f0.length c1, .int .i64 ls[k].f1] 71)) (o1.alloc _) (HR.out k hlt) x)
      rw [knows_has] at CH
      have BA := Lib.hid (BW.out.alloc hbs (.cells #[.slice A1 ls[k].f0.length c1, .int .i64 ls[k].f1] 71))
      have OA := Lib.hid (OO.out.alloc (.cells #[.slice A1 ls[k].f0.length c1, .int .i64 ls[k].f1] 71))
      clear o1
      generalize ls[k].f0.length = n1 at x0 CH BA OA
      generalize ls[k].f1 = t1 at x1 CH BA OA
      cases hkb : knowsB ls[k] x with
      | false =>
        rw [hkb] at CH
        rw [hkb, if_neg (by simp)] at NX
        rw [← NX.out] at OA
        clear hkb OO BW
        go_wp2_with (go_at_call 72; refine CH.out.mono ?_; rintro e w' ⟨rfl, rfl⟩)
        exact ⟨⟨k + 1, _, rfl, by omega, by go_num, OA, BA⟩, by simp [intOf]; omega⟩
      | true =>
        rw [hkb] at CH
        rw [hkb, if_pos rfl] at NX
        obtain ⟨w3, hw3⟩ : ∃ w3, w3 = wr.alloc (.cells #[.slice A1 n1 c1, .int .i64 t1] 71) := ⟨_, rfl⟩
        rw [← hw3] at BA OA
        have HW := Lib.hid hw3
        clear hw3
        have hs3 := BA.out.size
        have ON := Lib.hid (oneI w3 w3.heap.size (k : Int) (Nat.le_refl _))
        clear hkb OO BW
        go_wp2_with (first | (go_at_call 72; refine CH.out.mono ?_; rintro e w' ⟨rfl, rfl⟩; rw [← HW.out]) | (at_builtin; refine wpList_rowsI rfl (.tmp 22) (.tmp 24) rfl w.heap.size w3.heap.size _ _ (whoTo ls x k) [(k : Int)] rfl rfl (OA.out.alloc _) ON.out ?_ ?_ ?_; (simp <;> omega); (simp <;> omega); intro v4 w4 o4 g4 hat4))
        have B5 := Lib.hid (madeR (BA.out.alloc hs3 _) (by simp; omega) (OA.out.alloc _) g4)
        have O5 : Hid (OwnI w4 w.heap.size v4 (whoTo ls x (k + 1))) := Lib.hid (NX.out ▸ o4)
        exact ⟨⟨k + 1, _, rfl, by omega, by go_num, O5, B5⟩, by simp [intOf] <;> omega⟩
end Go.Proofs.Ytanlfkkmnnjpeaa
