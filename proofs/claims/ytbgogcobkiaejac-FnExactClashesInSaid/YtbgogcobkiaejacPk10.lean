/- Texts of this seat laid together, each with its own first sentence below: RowRA TigI. -/
import Derived.Test.YtbgogcobkiaejacPk3
import Derived.Test.YtbgogcobkiaejacPk4
import Derived.Test.YtbgogcobkiaejacPk8
import Derived.Deep.RegionHeld3
import Derived.BigQuiet
/- One row of numbers behind an own row of rows. Condition: the new row was made behind the others. -/
namespace Go.Proofs.Ytbgogcobkiaejac
set_option linter.unusedVariables false
set_option linter.unusedSimpArgs false
open Go.RowKit

section
variable {w w' : World} {base : Nat} {v : Value} {vs : List Value} {zss : List (List Int)}
theorem OwnRR.snoc {w0 : World} {u v' : Value} {zs : List Int} (h : OwnRR w0 base v vs zss) (hb : Below w0.heap.size w0 w) (hu : OwnI w w0.heap.size u zs) (hbs : base ≤ w0.heap.size)
    (o : w'.ownsRow base 26 1 v' (zss.length + 1) (vs ++ [u])) (hg : w.grownBy w' v.ownBlock) (hat : v'.ownBlock = v.ownBlock ∨ v'.ownBlock = some w.heap.size) : OwnRR w' base v' (vs ++ [u]) (zss ++ [zs]) := by
  have h1 := h.below hb
  have hbs2 := hb.size
  have lt0 : ∀ i (hi : i < vs.length) b, vs[i].ownBlock = some b → b < w0.heap.size := fun i hi b e => ((h.each i hi (by rw [← h.len]; exact hi)).lt b e).2
  have uoff : u.ownBlock = none ∨ u.ownBlock ≠ v.ownBlock := sep_of fun b e1 e2 => by have := (hu.lt b e1).1; have := (h.lt b e2).2; omega
  refine ⟨by simpa using o, by simp [h.len], fun i hi hi' => ?_, fun i hi => ?_, fun i j hi hj hij => ?_⟩
  · by_cases e : i < vs.length
    · rw [List.getElem_append_left e, List.getElem_append_left (by rw [← h.len]; exact e)]
      exact (h1.each i e (by rw [← h.len]; exact e)).kept hg (h1.off i e)
    · have e2 : i = vs.length := by simp at hi; omega
      subst e2
      have e3 : (zss ++ [zs])[vs.length] = zs := by rw [List.getElem_append_right (by rw [h.len]; exact Nat.le_refl _)]; simp [h.len]
      rw [e3]
      simp only [List.getElem_concat_length]
      exact (hu.mono hbs).kept hg uoff
  · by_cases e : i < vs.length
    · rw [List.getElem_append_left e]
      rcases hat with hat | hat <;> rw [hat]
      · exact h.off i e
      · exact sep_of fun b e1 e2 => by have := lt0 i e b e1; have := Option.some.inj e2; omega
    · have e2 : i = vs.length := by simp at hi; omega
      subst e2
      simp only [List.getElem_concat_length]
      rcases hat with hat | hat <;> rw [hat]
      · exact uoff
      · exact sep_of fun b e1 e2 => by have := (hu.lt b e1).2; have := Option.some.inj e2; omega
  · by_cases e : i < vs.length
    · rw [List.getElem_append_left e]
      by_cases f : j < vs.length
      · rw [List.getElem_append_left f]
        exact h.apart i j e f hij
      · have e2 : j = vs.length := by simp at hj; omega
        subst e2
        simp only [List.getElem_concat_length]
        exact sep_of fun b e1 e2 => by have := (hu.lt b e2).1; have := lt0 i e b e1; omega
    · have e2 : i = vs.length := by simp at hi; omega
      subst e2
      have f : j < vs.length := by simp at hj; omega
      rw [List.getElem_append_left f]
      simp only [List.getElem_concat_length]
      exact sep_of fun b e1 e2 => by have := (hu.lt b e1).1; have := lt0 j f b e2; omega
/-- The append of one row: u was made since w0, where the rows lay. -/
theorem run_rowR {w0 : World} (ty : TypeId) (b2 : Nat) {u x : Value} {zs : List Int} (h : OwnR w0 base v zss) (hb : Below w0.heap.size w0 w) (hu : OwnI w w0.heap.size u zs) (hbs : base ≤ w0.heap.size)
    (hx : w.ownsRow b2 26 1 x 1 [u]) (hl : zss.length ≤ 4000000) :
    ∃ v' w', (Builtin.append_ #[30, 30] ty #[v, x]).run Try.prog w = .ok v' w' ∧ OwnR w' base v' (zss ++ [zs]) ∧ w.grownBy w' v.ownBlock ∧ (v'.ownBlock = v.ownBlock ∨ v'.ownBlock = some w.heap.size) := by
  obtain ⟨i, hi, hz, hs, hbd⟩ := info_parts info_ints
  obtain ⟨vs, h⟩ := h
  obtain ⟨A, c, rfl⟩ := hu.slice
  rcases id hx.2 with ⟨_, hn⟩ | ⟨g, cap, cur, rfl, _⟩
  · omega
  · obtain ⟨v', w', hr, o, g1, _, hat⟩ := run_append_own_at (P := Try.prog) w base 30 ty 26 i (.slice none 0 0) 1 24 Try.underlying30 hi hz hs hbd rfl (by omega) v zss.length vs (h.below hb).row
      ⟨g, 0, none⟩ 1 cap [.slice A zs.length c] (by simp) (World.ownsRow.cells hx rfl) (by simp [Value.oneCell']) (by simp only [maxLen]; omega) (by omega) (Nat.le_trans hbs hb.size)
    exact ⟨v', w', hr, ⟨_, h.snoc hb hu hbs o g1 hat⟩, g1, hat⟩
end
section
variable {w : World} {o : Oper} {a : Act} {Q : Exit → Act → World → Prop}
theorem wpList_rowR {ops : Array Oper} {rest : List Oper} (hgd : o.guard = none) (s y : Operand) (ho : o.op = .call { callee := .builtin .append, args := #[s, y], argTypes := #[30, 30] })
    (w0 : World) (base b2 : Nat) (v x u : Value) (zss : List (List Int)) (zs : List Int) (hs : a.eval s = v) (hy : a.eval y = x) (h1 : OwnR w0 base v zss) (hb : Below w0.heap.size w0 w) (hu : OwnI w w0.heap.size u zs) (hbs : base ≤ w0.heap.size)
    (hx : w.ownsRow b2 26 1 x 1 [u]) (hl : zss.length ≤ 4000000)
    (h : ∀ v' w', OwnR w' base v' (zss ++ [zs]) → w.grownBy w' v.ownBlock → (v'.ownBlock = v.ownBlock ∨ v'.ownBlock = some w.heap.size) → wpList Try.prog ops Q rest (a.put o.dst v') w') : wpList Try.prog ops Q (o :: rest) a w :=
  wpList_plain hgd fun K hK => by
    obtain ⟨v', w', hrun, e2, e3, e4⟩ := run_rowR (ty := o.type) b2 h1 hb hu hbs hx hl
    unfold Oper.wp execOp
    simp only [ho, resolve, invoke, builtin, Sem.run_bind, Sem.run_pure, Result.andThen_ok, List.map_toArray, List.map_cons, List.map_nil, hs, hy, hrun]
    exact hK _ _ (h v' w' e2 e3 e4)
end
theorem emptyR (w : World) (base g : Nat) (cs : Array Value) (hg : g = w.heap.size) (hb : base ≤ g) (hs : cs.size = 0) : OwnR (w.alloc (.cells cs 26)) base (.slice (some ⟨g, 0, none⟩) 0 0) [] := by
  subst hg
  refine ⟨[], ⟨rfl, .inr ⟨w.heap.size, 0, cs, rfl, hb, heap_alloc_new w _, Nat.le_refl _, Nat.zero_le _, by omega, by simp⟩⟩, rfl, fun k hk => absurd hk (by simp), fun k hk => absurd hk (by simp), fun i j hi => absurd hi (by simp)⟩
/-- A new row that holds one value. -/
theorem oneRow (w : World) (u : Value) (b : Nat) (hb : b ≤ w.heap.size) : (w.alloc (.cells #[u] 26)).ownsRow b 26 1 (.slice (some ⟨w.heap.size, 0, none⟩) 1 1) 1 [u] :=
  ⟨rfl, .inr ⟨w.heap.size, 1, #[u], rfl, hb, heap_alloc_new w _, Nat.le_refl _, by simp only [maxLen]; omega, rfl, rfl⟩⟩
theorem twoI (w : World) (base : Nat) (y z : Int) (hb : base ≤ w.heap.size) : OwnI (w.alloc (.cells #[.int .i64 y, .int .i64 z] 3)) base (.slice (some ⟨w.heap.size, 0, none⟩) 2 2) [y, z] :=
  ⟨rfl, .inr ⟨w.heap.size, 2, #[.int .i64 y, .int .i64 z], rfl, hb, heap_alloc_new w _, Nat.le_refl _, by simp only [maxLen]; omega, rfl, rfl⟩⟩
theorem OwnR.mono {w : World} {base b : Nat} {v : Value} {zss : List (List Int)} (h : OwnR w base v zss) (hb : b ≤ base) : OwnR w b v zss := by
  obtain ⟨vs, h⟩ := h
  refine ⟨vs, ?_, h.len, fun k h1 h2 => (h.each k h1 h2).mono hb, h.off, h.apart⟩
  obtain ⟨h1, h2⟩ := h.row
  refine ⟨h1, ?_⟩
  rcases h2 with h2 | ⟨g, cap, cur, e, hg, rest⟩
  · exact .inl h2
  · exact .inr ⟨g, cap, cur, e, Nat.le_trans hb hg, rest⟩
end Go.Proofs.Ytbgogcobkiaejac

/- The contract of the program's ClashesIn (made by gen_tig.py): it answers as the model does. Condition: the cues and the starts lie in rows of their own. -/
namespace Go.Proofs.Ytbgogcobkiaejac
set_option linter.unusedVariables false
set_option linter.unusedSimpArgs false
open Go.RowKit

theorem nilR (w : World) (b : Nat) : OwnR w b (.slice none 0 0) [] :=
  ⟨[], ⟨rfl, .inl ⟨rfl, rfl⟩⟩, rfl, fun k hk => absurd hk (by simp), fun k hk => absurd hk (by simp), fun i j hi => absurd hi (by simp)⟩
theorem fine_parts (ls : List RCue) (zs : List Int) : startsFine ls zs = (cuesOk ls && (decide (zs.length = ls.length) && allIn 0 10000 zs)) := rfl

set_option maxRecDepth 100000 in
set_option maxHeartbeats 6400000 in
theorem implCla (v : Value) (ls : List RCue) (b : Nat) (w : World) (h : OwnCue w b v ls) (hl : bulkCue ls ≤ 1048576) (u : Value) (zs : List Int) (b2 : Nat) (h2 : OwnI w b2 u zs) (hz : zs.length ≤ 2000000) :
    Calls Try.prog 17 #[v, u] w (RowsPost w (clashesIn ls zs)) := by
  have CK := Lib.hid (implCOk v ls b w h hl)
  have CN := Lib.hid (fun hok hz hr W hw h2 => implEnds v ls b W hw hok u zs b2 h2 hz hr)
  obtain ⟨A, c, rfl⟩ := h.slice
  have CS := Lib.hid (fun W h2 => implStr A ls.length c u zs b2 W h2 hz)
  obtain ⟨D, d, rfl⟩ := h2.slice
  have O := Lib.hid h
  have Z := Lib.hid h2
  have hbl := bulkCue_len ls
  clear h h2
  cases hok : cuesOk ls with
  | false =>
    have R := Lib.hid (show clashesIn ls zs = [] by unfold clashesIn; rw [fine_parts, hok]; rfl)
    rw [hok] at CK
    clear hok CN
    go_enter Try.func17, Try.ntmps17
    go_wp2_with (go_at_call 38; refine CK.out.mono ?_; rintro e w2 ⟨rfl, b2⟩; have B2 := Lib.hid b2; clear b2)
    go_ret
    exact ⟨_, rfl, by rw [R.out]; exact nilR _ _, B2.out⟩
  | true =>
  cases hst : (decide (zs.length = ls.length) && allIn 0 10000 zs) with
  | false =>
    have R := Lib.hid (show clashesIn ls zs = [] by unfold clashesIn; rw [fine_parts, hok, hst]; rfl)
    rw [hok] at CK
    rw [hst] at CS
    clear hok CN hst
    go_enter Try.func17, Try.ntmps17
    go_wp2_with (first
      | (go_at_call 38; refine CK.out.mono ?_; rintro e w2 ⟨rfl, b2⟩; have B2 := Lib.hid b2; have Z2 := Lib.hid (Z.out.below b2); clear b2)
      | (go_at_call 48; refine (CS.out _ Z2.out).mono ?_; rintro e w3 ⟨rfl, rfl⟩))
    go_ret
    exact ⟨_, rfl, by rw [R.out]; exact nilR _ _, B2.out⟩
  | true =>
  have hs : startsFine ls zs = true := by rw [fine_parts, hok, hst]; rfl
  obtain ⟨-, hzl, hzb⟩ := fine_has hs
  have hn := (cuesOk_has hok).1
  have R := Lib.hid (show clashesIn ls zs = pairI (clash ls zs) ls.length ls.length by unfold clashesIn; rw [if_pos hs])
  have HZL := Lib.hid hzl
  have HZB := Lib.hid hzb
  have TK := Lib.hid (fun k (hk : k < ls.length) => (cue_fine hok hk).1)
  have BI := Lib.hid (fun k (hk : k < ls.length) => (show ls[k].f2.length ≤ 1048576 from by have := bulkCue_row ls k hk; omega))
  have CN := Lib.hid (fun W hw h2 => CN.out hok hzl hzb W hw h2)
  have EAT := Lib.hid (fun k (hk : k < ls.length) => endsL_at ls zs hk)
  have EL := Lib.hid (endsL_len ls zs)
  rw [hok] at CK
  rw [hst] at CS
  rw [hzl] at Z CS CN ⊢
  clear hs hok hst hzl hzb
  go_enter Try.func17, Try.ntmps17
  go_wp2_with (first
    | (go_at_call 38; refine CK.out.mono ?_; rintro e w2 ⟨rfl, b2⟩; have B2 := Lib.hid b2; have Z2 := Lib.hid (Z.out.below b2); have O2 := Lib.hid (O.out.below b2); clear b2)
    | (go_at_call 48; refine (CS.out _ Z2.out).mono ?_; rintro e w3 ⟨rfl, rfl⟩))
  refine (CN.out _ O2.out Z2.out).mono ?_
  rintro e w1 ⟨ve, rfl, o1, b1⟩
  obtain ⟨E, ce, e3⟩ := o1.slice
  rw [EL.out] at e3
  subst e3
  have B1 := Lib.hid (B2.out.trans (b1.mono B2.out.size))
  have E1 := Lib.hid o1
  have Z1 := Lib.hid (Z2.out.below b1)
  have O1 := Lib.hid (O2.out.below b1)
  clear o1 b1 O Z O2 Z2 CN CK CS
  go_wp2_with fail
  go_loopw [7, 26] (fun ov iv wr => ∃ (i : Nat) (vo : Value), vo = ov ∧ i ≤ ls.length ∧ iv = .int .i64 (i : Int) ∧ Hid (OwnR wr w1.heap.size vo (pairI (clash ls zs) ls.length i)) ∧ Hid (Below w1.heap.size w1 wr)) (fun _ iv _ => ls.length - (intOf iv).toNat)
  case atStart => exact ⟨0, _, rfl, by omega, rfl, Lib.hid (nilR _ _), Lib.hid (Below.refl _ _)⟩
  case round =>
    obtain ⟨i, vo, rfl, hi, rfl, OO, BW⟩ := hrel
    by_cases hlt : i < ls.length
    rotate_left
    · obtain rfl : i = ls.length := by omega
      go_wp2
      go_ret
      exact ⟨_, rfl, by rw [R.out]; exact OO.out.mono B1.out.size, B1.out.trans (BW.out.mono B1.out.size)⟩
    have hi0 : (0 : Int) ≤ (i : Int) := by omega
    have hi1 : (i : Int) < (ls.length : Int) := by omega
    have e1 : IntKind.i64.wrap ((i : Int) + 1) = ((i + 1 : Nat) : Int) := by rw [IntWalk.i64_in _ (by omega)]; omega
    have K0 := Lib.hid (show pairI (clash ls zs) ls.length i ++ pairK (clash ls zs) i (i + 1) = pairI (clash ls zs) ls.length i by rw [pairK_low _ i (i + 1) (Nat.le_refl _), List.append_nil])
    have K1 := Lib.hid (show pairI (clash ls zs) ls.length (i + 1) = pairI (clash ls zs) ls.length i ++ pairK (clash ls zs) i ls.length from rfl)
    have KL := Lib.hid (fun k => pairK_len (clash ls zs) i k)
    have hil : (pairI (clash ls zs) ls.length i).length ≤ 144 := by
      have h3 := pairI_len (clash ls zs) ls.length i
      have : i * ls.length ≤ 12 * 12 := Nat.mul_le_mul (by omega) hn.2
      omega
    have HL := Lib.hid hil
    clear hil
    rw [← K0.out] at OO
    go_wp2_with fail
    go_loopw [7, 9] (fun ov kv wr => ∃ (k : Nat) (vo : Value), vo = ov ∧ i + 1 ≤ k ∧ k ≤ ls.length ∧ kv = .int .i64 (k : Int) ∧ Hid (OwnR wr w1.heap.size vo (pairI (clash ls zs) ls.length i ++ pairK (clash ls zs) i k)) ∧ Hid (Below w1.heap.size w1 wr)) (fun _ kv _ => ls.length - (intOf kv).toNat)
    case atStart => exact ⟨i + 1, _, rfl, Nat.le_refl _, by omega, by go_num, OO, BW⟩
    case round =>
      clear OO BW K0 e1
      obtain ⟨k, vo, rfl, hk1, hk, rfl, OO, BW⟩ := hrel
      by_cases hlk : k < ls.length
      rotate_left
      · obtain rfl : k = ls.length := by omega
        go_wp2
        exact ⟨⟨i + 1, _, rfl, by omega, by go_num, Lib.hid (by rw [K1.out]; exact OO.out), BW⟩, by simp [intOf]; omega⟩
      have hk0 : (0 : Int) ≤ (k : Int) := by omega
      have hk3 : (k : Int) < (ls.length : Int) := by omega
      obtain ⟨g, _, X1, c1, Y1, e1, f1, -, ⟨x0, x1, x2⟩, ⟨-, ox⟩, -⟩ := (O1.out.below BW.out).spot hlt
      simp only [Value.slice.injEq] at f1
      obtain ⟨rfl, -, rfl⟩ := f1
      obtain ⟨_, _, X2, c2, Y2, e2, f1, -, ⟨y0, y1, y2⟩, ⟨-, oy⟩, -⟩ := (O1.out.below BW.out).spot hlk
      simp only [Value.slice.injEq, Option.some.injEq, Addr.mk.injEq] at f1
      obtain ⟨⟨rfl, -⟩, -, -⟩ := f1
      obtain ⟨gs, _, f1, -, -, z1, -⟩ := (Z1.out.below BW.out).spot (k := i) (by rw [HZL.out]; exact hlt)
      simp only [Value.slice.injEq] at f1
      obtain ⟨rfl, -, rfl⟩ := f1
      obtain ⟨_, _, f1, -, -, z2, -⟩ := (Z1.out.below BW.out).spot (k := k) (by rw [HZL.out]; exact hlk)
      simp only [Value.slice.injEq, Option.some.injEq, Addr.mk.injEq] at f1
      obtain ⟨⟨rfl, -⟩, -⟩ := f1
      obtain ⟨ge, _, f1, -, -, s1', -⟩ := (E1.out.below BW.out).spot (k := i) (by rw [EL.out]; exact hlt)
      simp only [Value.slice.injEq] at f1
      obtain ⟨rfl, -, rfl⟩ := f1
      obtain ⟨_, _, f1, -, -, s2', -⟩ := (E1.out.below BW.out).spot (k := k) (by rw [EL.out]; exact hlk)
      simp only [Value.slice.injEq, Option.some.injEq, Addr.mk.injEq] at f1
      obtain ⟨⟨rfl, -⟩, -⟩ := f1
      have gl : ∀ (p : Nat) (hp : p < ls.length), ls.getD p RCue.zero = ls[p] := fun p hp => by rw [List.getD_eq_getElem?_getD, List.getElem?_eq_getElem hp]; rfl
      have gz : ∀ (zs : List Int) (p : Nat) (hp : p < zs.length), zs[p] = zs.getD p 0 := fun zs p hp => by rw [List.getD_eq_getElem?_getD, List.getElem?_eq_getElem hp]; rfl
      have f1 := TK.out i hlt
      have f2 := TK.out k hlk
      have q1 := HZB.out i
      have q2 := HZB.out k
      have bx := BI.out i hlt
      have by' := BI.out k hlk
      rw [gz] at z1 z2 s1' s2'
      rw [EAT.out i hlt, gl i hlt] at s1'
      rw [EAT.out k hlk, gl k hlk] at s2'
      have KK := Lib.hid (show pairK (clash ls zs) i (k + 1) = pairK (clash ls zs) i k ++ if clash ls zs i k = true then [[(i : Int), (k : Int)]] else [] by rw [pairK]; simp only [show i < k by omega, true_and])
      have CLH := Lib.hid (show clash ls zs i k = (commonB (ls.getD i RCue.zero).f2 (ls.getD k RCue.zero).f2 && (decide (zs.getD i 0 < zs.getD k 0 + (ls.getD k RCue.zero).f0) && decide (zs.getD k 0 < zs.getD i 0 + (ls.getD i RCue.zero).f0))) from rfl)
      rw [gl i hlt, gl k hlk] at CLH
      rw [gl i hlt] at f1
      rw [gl k hlk] at f2
      have hkl := KL.out k
      have hil := HL.out
      have hsz := BW.out.size
      have hll : (pairI (clash ls zs) ls.length i ++ pairK (clash ls zs) i k).length ≤ 4000000 := by rw [List.length_append]; omega
      generalize zs.getD i 0 = s1 at z1 q1 CLH s1'
      generalize zs.getD k 0 = s2 at z2 q2 CLH s2'
      generalize ls[i].f0 = t1 at x0 f1 CLH s1'
      generalize ls[k].f0 = t2 at y0 f2 CLH s2'
      generalize ls[i].f1.length = n1 at x1
      generalize ls[k].f1.length = n2 at y1
      generalize ls[i].f2 = xs at x2 ox CLH bx
      generalize ls[k].f2 = ys at y2 oy CLH by'
      have H1 := Lib.hid ox
      have H2 := Lib.hid oy
      have CC := Lib.hid (fun W h1 h2 => implHav t1 t2 X1 X2 n1 c1 n2 c2 (.slice Y1 xs.length e1) (.slice Y2 ys.length e2) xs ys b b W h1 h2 (by omega) (by omega))
      have KF := Lib.hid (show ∀ W, Below wr.heap.size wr W → (W.cell? ⟨g, i * 3, none⟩ = some (.int .i64 t1) ∧ W.cell? ⟨g, i * 3 + 1, none⟩ = some (.slice X1 n1 c1) ∧ W.cell? ⟨g, i * 3 + 2, none⟩ = some (.slice Y1 xs.length e1)) ∧ (W.cell? ⟨g, k * 3, none⟩ = some (.int .i64 t2) ∧ W.cell? ⟨g, k * 3 + 1, none⟩ = some (.slice X2 n2 c2) ∧ W.cell? ⟨g, k * 3 + 2, none⟩ = some (.slice Y2 ys.length e2)) from fun W hb => ⟨⟨cell_below x0 hb, cell_below x1 hb, cell_below x2 hb⟩, ⟨cell_below y0 hb, cell_below y1 hb, cell_below y2 hb⟩⟩)
      have O3 := Lib.hid (fun W (hb : Below wr.heap.size wr W) => (OO.out.below hb))
      have BW3 := Lib.hid (fun W (hb : Below wr.heap.size wr W) => BW.out.trans (hb.mono hsz))
      have NOX := Lib.hid (show clash ls zs i k = false → pairI (clash ls zs) ls.length i ++ pairK (clash ls zs) i (k + 1) = pairI (clash ls zs) ls.length i ++ pairK (clash ls zs) i k from fun e => by rw [KK.out, e]; simp)
      have YESX := Lib.hid (show clash ls zs i k = true → pairI (clash ls zs) ls.length i ++ pairK (clash ls zs) i (k + 1) = pairI (clash ls zs) ls.length i ++ pairK (clash ls zs) i k ++ [[(i : Int), (k : Int)]] from fun e => by rw [KK.out, e, if_pos rfl, List.append_assoc])
      generalize s1 + t1 = u1 at s1' CLH
      generalize s2 + t2 = u2 at s2' CLH
      clear gl gz hkl hil ox oy x0 x1 x2 y0 y1 y2 KK BW OO bx by' f1 f2 q1 q2
      by_cases c1 : s1 < u2
      rotate_left
      · have K2 := Lib.hid (NOX.out (by rw [CLH.out, decide_eq_false c1]; simp))
        have d1 : decide (s1 < u2) = false := decide_eq_false c1
        clear NOX YESX CLH c1
        go_wp2_with fail
        go_quiet (fail)
        have BQ := Lib.hid (below_drewN (Below.refl wr.heap.size wr) nq)
        have KQ := Lib.hid (KF.out _ BQ.out)
        generalize wr.drewN nq = wq at BQ KQ ⊢
        go_wp2_with fail
        refine wp_region_held_drew (S := (fun W => (W.cell? ⟨g, i * 3, none⟩ = some (.int .i64 t1) ∧ W.cell? ⟨g, i * 3 + 1, none⟩ = some (.slice X1 n1 c1) ∧ W.cell? ⟨g, i * 3 + 2, none⟩ = some (.slice Y1 xs.length e1)) ∧ (W.cell? ⟨g, k * 3, none⟩ = some (.int .i64 t2) ∧ W.cell? ⟨g, k * 3 + 1, none⟩ = some (.slice X2 n2 c2) ∧ W.cell? ⟨g, k * 3 + 2, none⟩ = some (.slice Y2 ys.length e2)))) (by kernel_rfl) (by have := KQ.out; simpa using this) (fun hHeld => ?_)
        refine wpAnyH_take (i := 0) (v := .bool false) rfl (by kernel_rfl) (by kernel_rfl) (by kernel_rfl) (fun _ _ _ h => h) (Or.inl ⟨by rfl, by intro W hSw; (try dsimp only at hSw); go_simp⟩) hHeld ?_
        try simp only [Act.put, List.getElem_toArray, List.getElem_cons_succ, List.getElem_cons_zero, List.setIfInBounds_toArray, List.set_cons_zero, List.set_cons_succ]
        refine wpAnyH_take (i := 1) (v := .bool false) rfl (by kernel_rfl) (by kernel_rfl) (by kernel_rfl) (fun _ _ _ h => h) (Or.inl ⟨by rfl, by intro W hSw; (try dsimp only at hSw); go_simp⟩) hHeld ?_
        try simp only [Act.put, List.getElem_toArray, List.getElem_cons_succ, List.getElem_cons_zero, List.setIfInBounds_toArray, List.set_cons_zero, List.set_cons_succ]
        refine wpAnyH_take (i := 2) (v := undef) rfl (by kernel_rfl) (by kernel_rfl) (by kernel_rfl) (fun _ _ _ h => h) (Or.inr ⟨by rfl, rfl⟩) hHeld ?_
        try simp only [Act.put, List.getElem_toArray, List.getElem_cons_succ, List.getElem_cons_zero, List.setIfInBounds_toArray, List.set_cons_zero, List.set_cons_succ]
        refine wpAnyH_take (i := 3) (v := undef) rfl (by kernel_rfl) (by kernel_rfl) (by kernel_rfl) (fun _ _ _ h => h) (Or.inr ⟨by rfl, rfl⟩) hHeld ?_
        try simp only [Act.put, List.getElem_toArray, List.getElem_cons_succ, List.getElem_cons_zero, List.setIfInBounds_toArray, List.set_cons_zero, List.set_cons_succ]
        refine wpAnyH_take (i := 4) (v := undef) rfl (by kernel_rfl) (by kernel_rfl) (by kernel_rfl) (fun _ _ _ h => h) (Or.inr ⟨by rfl, rfl⟩) hHeld ?_
        try simp only [Act.put, List.getElem_toArray, List.getElem_cons_succ, List.getElem_cons_zero, List.setIfInBounds_toArray, List.set_cons_zero, List.set_cons_succ]
        refine wpAnyH_take (i := 5) (v := undef) rfl (by kernel_rfl) (by kernel_rfl) (by kernel_rfl) (fun _ _ _ h => h) (Or.inr ⟨by rfl, rfl⟩) hHeld ?_
        try simp only [Act.put, List.getElem_toArray, List.getElem_cons_succ, List.getElem_cons_zero, List.setIfInBounds_toArray, List.set_cons_zero, List.set_cons_succ]
        refine wpAnyH_take (i := 6) (v := undef) rfl (by kernel_rfl) (by kernel_rfl) (by kernel_rfl) (fun _ _ _ h => h) (Or.inr ⟨by rfl, rfl⟩) hHeld ?_
        try simp only [Act.put, List.getElem_toArray, List.getElem_cons_succ, List.getElem_cons_zero, List.setIfInBounds_toArray, List.set_cons_zero, List.set_cons_succ]
        refine wpAnyH_take (i := 7) (v := undef) rfl (by kernel_rfl) (by kernel_rfl) (by kernel_rfl) (fun _ _ _ h => h) (Or.inr ⟨by rfl, rfl⟩) hHeld ?_
        try simp only [Act.put, List.getElem_toArray, List.getElem_cons_succ, List.getElem_cons_zero, List.setIfInBounds_toArray, List.set_cons_zero, List.set_cons_succ]
        refine wpAnyH_take (i := 8) (v := undef) rfl (by kernel_rfl) (by kernel_rfl) (by kernel_rfl) (fun _ _ _ h => h) (Or.inr ⟨by rfl, rfl⟩) hHeld ?_
        try simp only [Act.put, List.getElem_toArray, List.getElem_cons_succ, List.getElem_cons_zero, List.setIfInBounds_toArray, List.set_cons_zero, List.set_cons_succ]
        refine wpAnyH_take (i := 9) (v := undef) rfl (by kernel_rfl) (by kernel_rfl) (by kernel_rfl) (fun _ _ _ h => h) (Or.inr ⟨by rfl, rfl⟩) hHeld ?_
        try simp only [Act.put, List.getElem_toArray, List.getElem_cons_succ, List.getElem_cons_zero, List.setIfInBounds_toArray, List.set_cons_zero, List.set_cons_succ]
        refine wpAnyH_take (i := 10) (v := undef) rfl (by kernel_rfl) (by kernel_rfl) (by kernel_rfl) (fun _ _ _ h => h) (Or.inr ⟨by rfl, rfl⟩) hHeld ?_
        try simp only [Act.put, List.getElem_toArray, List.getElem_cons_succ, List.getElem_cons_zero, List.setIfInBounds_toArray, List.set_cons_zero, List.set_cons_succ]
        refine wpAnyH_take (i := 11) (v := .bool false) rfl (by kernel_rfl) (by kernel_rfl) (by kernel_rfl) (fun _ _ _ h => h) (Or.inl ⟨by rfl, by intro W hSw; (try dsimp only at hSw); go_simp⟩) hHeld ?_
        try simp only [Act.put, List.getElem_toArray, List.getElem_cons_succ, List.getElem_cons_zero, List.setIfInBounds_toArray, List.set_cons_zero, List.set_cons_succ]
        refine wpAnyH_done (by kernel_rfl) ?_ _
        have B3 := BQ
        have B3 := Lib.hid B3.out.drew
        go_wp2
        exact ⟨⟨k + 1, _, rfl, by omega, by omega, by go_num, Lib.hid (by rw [K2.out]; exact O3.out _ B3.out), Lib.hid (BW3.out _ B3.out)⟩, by simp [intOf]; omega⟩
      by_cases c2 : s2 < u1
      rotate_left
      · have K2 := Lib.hid (NOX.out (by rw [CLH.out, decide_eq_false c2]; simp))
        have d1 : decide (s1 < u2) = true := decide_eq_true c1
        have d2 : decide (s2 < u1) = false := decide_eq_false c2
        clear NOX YESX CLH c1 c2
        go_wp2_with fail
        go_quiet (fail)
        have BQ := Lib.hid (below_drewN (Below.refl wr.heap.size wr) nq)
        have KQ := Lib.hid (KF.out _ BQ.out)
        generalize wr.drewN nq = wq at BQ KQ ⊢
        go_wp2_with fail
        refine wp_region_held_drew (S := (fun W => (W.cell? ⟨g, i * 3, none⟩ = some (.int .i64 t1) ∧ W.cell? ⟨g, i * 3 + 1, none⟩ = some (.slice X1 n1 c1) ∧ W.cell? ⟨g, i * 3 + 2, none⟩ = some (.slice Y1 xs.length e1)) ∧ (W.cell? ⟨g, k * 3, none⟩ = some (.int .i64 t2) ∧ W.cell? ⟨g, k * 3 + 1, none⟩ = some (.slice X2 n2 c2) ∧ W.cell? ⟨g, k * 3 + 2, none⟩ = some (.slice Y2 ys.length e2)))) (by kernel_rfl) (by have := KQ.out; simpa using this) (fun hHeld => ?_)
        refine wpAnyH_take (i := 0) (v := .bool false) rfl (by kernel_rfl) (by kernel_rfl) (by kernel_rfl) (fun _ _ _ h => h) (Or.inl ⟨by rfl, by intro W hSw; (try dsimp only at hSw); go_simp⟩) hHeld ?_
        try simp only [Act.put, List.getElem_toArray, List.getElem_cons_succ, List.getElem_cons_zero, List.setIfInBounds_toArray, List.set_cons_zero, List.set_cons_succ]
        refine wpAnyH_take (i := 1) (v := .bool false) rfl (by kernel_rfl) (by kernel_rfl) (by kernel_rfl) (fun _ _ _ h => h) (Or.inl ⟨by rfl, by intro W hSw; (try dsimp only at hSw); go_simp⟩) hHeld ?_
        try simp only [Act.put, List.getElem_toArray, List.getElem_cons_succ, List.getElem_cons_zero, List.setIfInBounds_toArray, List.set_cons_zero, List.set_cons_succ]
        refine wpAnyH_take (i := 2) (v := undef) rfl (by kernel_rfl) (by kernel_rfl) (by kernel_rfl) (fun _ _ _ h => h) (Or.inr ⟨by rfl, rfl⟩) hHeld ?_
        try simp only [Act.put, List.getElem_toArray, List.getElem_cons_succ, List.getElem_cons_zero, List.setIfInBounds_toArray, List.set_cons_zero, List.set_cons_succ]
        refine wpAnyH_take (i := 3) (v := undef) rfl (by kernel_rfl) (by kernel_rfl) (by kernel_rfl) (fun _ _ _ h => h) (Or.inr ⟨by rfl, rfl⟩) hHeld ?_
        try simp only [Act.put, List.getElem_toArray, List.getElem_cons_succ, List.getElem_cons_zero, List.setIfInBounds_toArray, List.set_cons_zero, List.set_cons_succ]
        refine wpAnyH_take (i := 4) (v := undef) rfl (by kernel_rfl) (by kernel_rfl) (by kernel_rfl) (fun _ _ _ h => h) (Or.inr ⟨by rfl, rfl⟩) hHeld ?_
        try simp only [Act.put, List.getElem_toArray, List.getElem_cons_succ, List.getElem_cons_zero, List.setIfInBounds_toArray, List.set_cons_zero, List.set_cons_succ]
        refine wpAnyH_take (i := 5) (v := undef) rfl (by kernel_rfl) (by kernel_rfl) (by kernel_rfl) (fun _ _ _ h => h) (Or.inr ⟨by rfl, rfl⟩) hHeld ?_
        try simp only [Act.put, List.getElem_toArray, List.getElem_cons_succ, List.getElem_cons_zero, List.setIfInBounds_toArray, List.set_cons_zero, List.set_cons_succ]
        refine wpAnyH_take (i := 6) (v := undef) rfl (by kernel_rfl) (by kernel_rfl) (by kernel_rfl) (fun _ _ _ h => h) (Or.inr ⟨by rfl, rfl⟩) hHeld ?_
        try simp only [Act.put, List.getElem_toArray, List.getElem_cons_succ, List.getElem_cons_zero, List.setIfInBounds_toArray, List.set_cons_zero, List.set_cons_succ]
        refine wpAnyH_take (i := 7) (v := undef) rfl (by kernel_rfl) (by kernel_rfl) (by kernel_rfl) (fun _ _ _ h => h) (Or.inr ⟨by rfl, rfl⟩) hHeld ?_
        try simp only [Act.put, List.getElem_toArray, List.getElem_cons_succ, List.getElem_cons_zero, List.setIfInBounds_toArray, List.set_cons_zero, List.set_cons_succ]
        refine wpAnyH_take (i := 8) (v := undef) rfl (by kernel_rfl) (by kernel_rfl) (by kernel_rfl) (fun _ _ _ h => h) (Or.inr ⟨by rfl, rfl⟩) hHeld ?_
        try simp only [Act.put, List.getElem_toArray, List.getElem_cons_succ, List.getElem_cons_zero, List.setIfInBounds_toArray, List.set_cons_zero, List.set_cons_succ]
        refine wpAnyH_take (i := 9) (v := undef) rfl (by kernel_rfl) (by kernel_rfl) (by kernel_rfl) (fun _ _ _ h => h) (Or.inr ⟨by rfl, rfl⟩) hHeld ?_
        try simp only [Act.put, List.getElem_toArray, List.getElem_cons_succ, List.getElem_cons_zero, List.setIfInBounds_toArray, List.set_cons_zero, List.set_cons_succ]
        refine wpAnyH_take (i := 10) (v := undef) rfl (by kernel_rfl) (by kernel_rfl) (by kernel_rfl) (fun _ _ _ h => h) (Or.inr ⟨by rfl, rfl⟩) hHeld ?_
        try simp only [Act.put, List.getElem_toArray, List.getElem_cons_succ, List.getElem_cons_zero, List.setIfInBounds_toArray, List.set_cons_zero, List.set_cons_succ]
        refine wpAnyH_take (i := 11) (v := .bool false) rfl (by kernel_rfl) (by kernel_rfl) (by kernel_rfl) (fun _ _ _ h => h) (Or.inl ⟨by rfl, by intro W hSw; (try dsimp only at hSw); go_simp⟩) hHeld ?_
        try simp only [Act.put, List.getElem_toArray, List.getElem_cons_succ, List.getElem_cons_zero, List.setIfInBounds_toArray, List.set_cons_zero, List.set_cons_succ]
        refine wpAnyH_done (by kernel_rfl) ?_ _
        have B3 := BQ
        have B3 := Lib.hid B3.out.drew
        go_wp2
        exact ⟨⟨k + 1, _, rfl, by omega, by omega, by go_num, Lib.hid (by rw [K2.out]; exact O3.out _ B3.out), Lib.hid (BW3.out _ B3.out)⟩, by simp [intOf]; omega⟩
      cases hcm : commonB xs ys with
      | false =>
        have K2 := Lib.hid (NOX.out (by rw [CLH.out, hcm]; rfl))
        have d1 : decide (s1 < u2) = true := decide_eq_true c1
        have d2 : decide (s2 < u1) = true := decide_eq_true c2
        rw [hcm] at CC
        clear NOX YESX hcm CLH c1 c2
        go_wp2_with fail
        go_quiet (fail)
        have BQ := Lib.hid (below_drewN (Below.refl wr.heap.size wr) nq)
        have KQ := Lib.hid (KF.out _ BQ.out)
        generalize wr.drewN nq = wq at BQ KQ ⊢
        go_wp2_with fail
        refine wp_region_held_drew (S := (fun W => (W.cell? ⟨g, i * 3, none⟩ = some (.int .i64 t1) ∧ W.cell? ⟨g, i * 3 + 1, none⟩ = some (.slice X1 n1 c1) ∧ W.cell? ⟨g, i * 3 + 2, none⟩ = some (.slice Y1 xs.length e1)) ∧ (W.cell? ⟨g, k * 3, none⟩ = some (.int .i64 t2) ∧ W.cell? ⟨g, k * 3 + 1, none⟩ = some (.slice X2 n2 c2) ∧ W.cell? ⟨g, k * 3 + 2, none⟩ = some (.slice Y2 ys.length e2)))) (by kernel_rfl) (by have := KQ.out; simpa using this) (fun hHeld => ?_)
        refine wpAnyH_take (i := 0) (v := .bool true) rfl (by kernel_rfl) (by kernel_rfl) (by kernel_rfl) (fun _ _ _ h => h) (Or.inl ⟨by rfl, by intro W hSw; (try dsimp only at hSw); go_simp⟩) hHeld ?_
        try simp only [Act.put, List.getElem_toArray, List.getElem_cons_succ, List.getElem_cons_zero, List.setIfInBounds_toArray, List.set_cons_zero, List.set_cons_succ]
        refine wpAnyH_take (i := 1) (v := .bool true) rfl (by kernel_rfl) (by kernel_rfl) (by kernel_rfl) (fun _ _ _ h => h) (Or.inl ⟨by rfl, by intro W hSw; (try dsimp only at hSw); go_simp⟩) hHeld ?_
        try simp only [Act.put, List.getElem_toArray, List.getElem_cons_succ, List.getElem_cons_zero, List.setIfInBounds_toArray, List.set_cons_zero, List.set_cons_succ]
        refine wpAnyH_take (i := 2) (v := .slice (some ⟨g, 0, none⟩) ls.length c) rfl (by kernel_rfl) (by kernel_rfl) (by kernel_rfl) (fun _ _ _ h => h) (Or.inl ⟨by rfl, by intro W hSw; (try dsimp only at hSw); go_simp⟩) hHeld ?_
        try simp only [Act.put, List.getElem_toArray, List.getElem_cons_succ, List.getElem_cons_zero, List.setIfInBounds_toArray, List.set_cons_zero, List.set_cons_succ]
        refine wpAnyH_take (i := 3) (v := .int .i64 (i : Int)) rfl (by kernel_rfl) (by kernel_rfl) (by kernel_rfl) (fun _ _ _ h => h) (Or.inl ⟨by rfl, by intro W hSw; (try dsimp only at hSw); go_simp⟩) hHeld ?_
        try simp only [Act.put, List.getElem_toArray, List.getElem_cons_succ, List.getElem_cons_zero, List.setIfInBounds_toArray, List.set_cons_zero, List.set_cons_succ]
        refine wpAnyH_take (i := 4) (v := .pointer (some ⟨g, i * 3, none⟩)) rfl (by kernel_rfl) (by kernel_rfl) (by kernel_rfl) (fun _ _ _ h => h) (Or.inl ⟨by rfl, by intro W hSw; (try dsimp only at hSw); go_simp⟩) hHeld ?_
        try simp only [Act.put, List.getElem_toArray, List.getElem_cons_succ, List.getElem_cons_zero, List.setIfInBounds_toArray, List.set_cons_zero, List.set_cons_succ]
        refine wpAnyH_take (i := 5) (v := .agg #[.int .i64 t1, .slice X1 n1 c1, .slice Y1 xs.length e1]) rfl (by kernel_rfl) (by kernel_rfl) (by kernel_rfl) (fun _ _ _ h => h) (Or.inl ⟨by rfl, by intro W hSw; (try dsimp only at hSw); go_simp⟩) hHeld ?_
        try simp only [Act.put, List.getElem_toArray, List.getElem_cons_succ, List.getElem_cons_zero, List.setIfInBounds_toArray, List.set_cons_zero, List.set_cons_succ]
        refine wpAnyH_take (i := 6) (v := .slice (some ⟨g, 0, none⟩) ls.length c) rfl (by kernel_rfl) (by kernel_rfl) (by kernel_rfl) (fun _ _ _ h => h) (Or.inl ⟨by rfl, by intro W hSw; (try dsimp only at hSw); go_simp⟩) hHeld ?_
        try simp only [Act.put, List.getElem_toArray, List.getElem_cons_succ, List.getElem_cons_zero, List.setIfInBounds_toArray, List.set_cons_zero, List.set_cons_succ]
        refine wpAnyH_take (i := 7) (v := .int .i64 (k : Int)) rfl (by kernel_rfl) (by kernel_rfl) (by kernel_rfl) (fun _ _ _ h => h) (Or.inl ⟨by rfl, by intro W hSw; (try dsimp only at hSw); go_simp⟩) hHeld ?_
        try simp only [Act.put, List.getElem_toArray, List.getElem_cons_succ, List.getElem_cons_zero, List.setIfInBounds_toArray, List.set_cons_zero, List.set_cons_succ]
        refine wpAnyH_take (i := 8) (v := .pointer (some ⟨g, k * 3, none⟩)) rfl (by kernel_rfl) (by kernel_rfl) (by kernel_rfl) (fun _ _ _ h => h) (Or.inl ⟨by rfl, by intro W hSw; (try dsimp only at hSw); go_simp⟩) hHeld ?_
        try simp only [Act.put, List.getElem_toArray, List.getElem_cons_succ, List.getElem_cons_zero, List.setIfInBounds_toArray, List.set_cons_zero, List.set_cons_succ]
        refine wpAnyH_take (i := 9) (v := .agg #[.int .i64 t2, .slice X2 n2 c2, .slice Y2 ys.length e2]) rfl (by kernel_rfl) (by kernel_rfl) (by kernel_rfl) (fun _ _ _ h => h) (Or.inl ⟨by rfl, by intro W hSw; (try dsimp only at hSw); go_simp⟩) hHeld ?_
        try simp only [Act.put, List.getElem_toArray, List.getElem_cons_succ, List.getElem_cons_zero, List.setIfInBounds_toArray, List.set_cons_zero, List.set_cons_succ]
        refine wpAnyH_ready (rs := [10]) (by kernel_rfl) (by simp) ?_
        refine AllReadyH.cons rfl (fun K hK => ?_) AllReadyH.nil
        go_simp
        refine (CC.out _ (H1.out.below BQ.out.drew) (H2.out.below BQ.out.drew)).mono ?_
        rintro e w3 ⟨rfl, b3⟩
        replace b3 := undrew b3
        have B3 := Lib.hid (BQ.out.trans (b3.mono BQ.out.size))
        have F3 := Lib.hid (KF.out _ B3.out)
        clear b3
        go_wp2_with fail
        refine hK.out _ _ F3.out (fun hHeld => ?_)
        clear hK K
        try simp only [Act.put, List.getElem_toArray, List.getElem_cons_succ, List.getElem_cons_zero, List.setIfInBounds_toArray, List.set_cons_zero, List.set_cons_succ]
        refine wpAnyH_take (i := 11) (v := .bool false) rfl (by kernel_rfl) (by kernel_rfl) (by kernel_rfl) (fun _ _ _ h => h) (Or.inl ⟨by rfl, by intro W hSw; (try dsimp only at hSw); go_simp⟩) hHeld ?_
        try simp only [Act.put, List.getElem_toArray, List.getElem_cons_succ, List.getElem_cons_zero, List.setIfInBounds_toArray, List.set_cons_zero, List.set_cons_succ]
        refine wpAnyH_done (by kernel_rfl) ?_ _
        go_wp2
        exact ⟨⟨k + 1, _, rfl, by omega, by omega, by go_num, Lib.hid (by rw [K2.out]; exact O3.out _ B3.out), Lib.hid (BW3.out _ B3.out)⟩, by simp [intOf]; omega⟩
      | true =>
        have K2 := Lib.hid (YESX.out (by rw [CLH.out, hcm, decide_eq_true c1, decide_eq_true c2]; rfl))
        have d1 : decide (s1 < u2) = true := decide_eq_true c1
        have d2 : decide (s2 < u1) = true := decide_eq_true c2
        rw [hcm] at CC
        clear NOX YESX hcm CLH c1 c2
        go_wp2_with fail
        go_quiet (fail)
        have BQ := Lib.hid (below_drewN (Below.refl wr.heap.size wr) nq)
        have KQ := Lib.hid (KF.out _ BQ.out)
        generalize wr.drewN nq = wq at BQ KQ ⊢
        go_wp2_with fail
        refine wp_region_held_drew (S := (fun W => (W.cell? ⟨g, i * 3, none⟩ = some (.int .i64 t1) ∧ W.cell? ⟨g, i * 3 + 1, none⟩ = some (.slice X1 n1 c1) ∧ W.cell? ⟨g, i * 3 + 2, none⟩ = some (.slice Y1 xs.length e1)) ∧ (W.cell? ⟨g, k * 3, none⟩ = some (.int .i64 t2) ∧ W.cell? ⟨g, k * 3 + 1, none⟩ = some (.slice X2 n2 c2) ∧ W.cell? ⟨g, k * 3 + 2, none⟩ = some (.slice Y2 ys.length e2)))) (by kernel_rfl) (by have := KQ.out; simpa using this) (fun hHeld => ?_)
        refine wpAnyH_take (i := 0) (v := .bool true) rfl (by kernel_rfl) (by kernel_rfl) (by kernel_rfl) (fun _ _ _ h => h) (Or.inl ⟨by rfl, by intro W hSw; (try dsimp only at hSw); go_simp⟩) hHeld ?_
        try simp only [Act.put, List.getElem_toArray, List.getElem_cons_succ, List.getElem_cons_zero, List.setIfInBounds_toArray, List.set_cons_zero, List.set_cons_succ]
        refine wpAnyH_take (i := 1) (v := .bool true) rfl (by kernel_rfl) (by kernel_rfl) (by kernel_rfl) (fun _ _ _ h => h) (Or.inl ⟨by rfl, by intro W hSw; (try dsimp only at hSw); go_simp⟩) hHeld ?_
        try simp only [Act.put, List.getElem_toArray, List.getElem_cons_succ, List.getElem_cons_zero, List.setIfInBounds_toArray, List.set_cons_zero, List.set_cons_succ]
        refine wpAnyH_take (i := 2) (v := .slice (some ⟨g, 0, none⟩) ls.length c) rfl (by kernel_rfl) (by kernel_rfl) (by kernel_rfl) (fun _ _ _ h => h) (Or.inl ⟨by rfl, by intro W hSw; (try dsimp only at hSw); go_simp⟩) hHeld ?_
        try simp only [Act.put, List.getElem_toArray, List.getElem_cons_succ, List.getElem_cons_zero, List.setIfInBounds_toArray, List.set_cons_zero, List.set_cons_succ]
        refine wpAnyH_take (i := 3) (v := .int .i64 (i : Int)) rfl (by kernel_rfl) (by kernel_rfl) (by kernel_rfl) (fun _ _ _ h => h) (Or.inl ⟨by rfl, by intro W hSw; (try dsimp only at hSw); go_simp⟩) hHeld ?_
        try simp only [Act.put, List.getElem_toArray, List.getElem_cons_succ, List.getElem_cons_zero, List.setIfInBounds_toArray, List.set_cons_zero, List.set_cons_succ]
        refine wpAnyH_take (i := 4) (v := .pointer (some ⟨g, i * 3, none⟩)) rfl (by kernel_rfl) (by kernel_rfl) (by kernel_rfl) (fun _ _ _ h => h) (Or.inl ⟨by rfl, by intro W hSw; (try dsimp only at hSw); go_simp⟩) hHeld ?_
        try simp only [Act.put, List.getElem_toArray, List.getElem_cons_succ, List.getElem_cons_zero, List.setIfInBounds_toArray, List.set_cons_zero, List.set_cons_succ]
        refine wpAnyH_take (i := 5) (v := .agg #[.int .i64 t1, .slice X1 n1 c1, .slice Y1 xs.length e1]) rfl (by kernel_rfl) (by kernel_rfl) (by kernel_rfl) (fun _ _ _ h => h) (Or.inl ⟨by rfl, by intro W hSw; (try dsimp only at hSw); go_simp⟩) hHeld ?_
        try simp only [Act.put, List.getElem_toArray, List.getElem_cons_succ, List.getElem_cons_zero, List.setIfInBounds_toArray, List.set_cons_zero, List.set_cons_succ]
        refine wpAnyH_take (i := 6) (v := .slice (some ⟨g, 0, none⟩) ls.length c) rfl (by kernel_rfl) (by kernel_rfl) (by kernel_rfl) (fun _ _ _ h => h) (Or.inl ⟨by rfl, by intro W hSw; (try dsimp only at hSw); go_simp⟩) hHeld ?_
        try simp only [Act.put, List.getElem_toArray, List.getElem_cons_succ, List.getElem_cons_zero, List.setIfInBounds_toArray, List.set_cons_zero, List.set_cons_succ]
        refine wpAnyH_take (i := 7) (v := .int .i64 (k : Int)) rfl (by kernel_rfl) (by kernel_rfl) (by kernel_rfl) (fun _ _ _ h => h) (Or.inl ⟨by rfl, by intro W hSw; (try dsimp only at hSw); go_simp⟩) hHeld ?_
        try simp only [Act.put, List.getElem_toArray, List.getElem_cons_succ, List.getElem_cons_zero, List.setIfInBounds_toArray, List.set_cons_zero, List.set_cons_succ]
        refine wpAnyH_take (i := 8) (v := .pointer (some ⟨g, k * 3, none⟩)) rfl (by kernel_rfl) (by kernel_rfl) (by kernel_rfl) (fun _ _ _ h => h) (Or.inl ⟨by rfl, by intro W hSw; (try dsimp only at hSw); go_simp⟩) hHeld ?_
        try simp only [Act.put, List.getElem_toArray, List.getElem_cons_succ, List.getElem_cons_zero, List.setIfInBounds_toArray, List.set_cons_zero, List.set_cons_succ]
        refine wpAnyH_take (i := 9) (v := .agg #[.int .i64 t2, .slice X2 n2 c2, .slice Y2 ys.length e2]) rfl (by kernel_rfl) (by kernel_rfl) (by kernel_rfl) (fun _ _ _ h => h) (Or.inl ⟨by rfl, by intro W hSw; (try dsimp only at hSw); go_simp⟩) hHeld ?_
        try simp only [Act.put, List.getElem_toArray, List.getElem_cons_succ, List.getElem_cons_zero, List.setIfInBounds_toArray, List.set_cons_zero, List.set_cons_succ]
        refine wpAnyH_ready (rs := [10]) (by kernel_rfl) (by simp) ?_
        refine AllReadyH.cons rfl (fun K hK => ?_) AllReadyH.nil
        go_simp
        refine (CC.out _ (H1.out.below BQ.out.drew) (H2.out.below BQ.out.drew)).mono ?_
        rintro e w3 ⟨rfl, b3⟩
        replace b3 := undrew b3
        have B3 := Lib.hid (BQ.out.trans (b3.mono BQ.out.size))
        have F3 := Lib.hid (KF.out _ B3.out)
        clear b3
        go_wp2_with fail
        refine hK.out _ _ F3.out (fun hHeld => ?_)
        clear hK K
        try simp only [Act.put, List.getElem_toArray, List.getElem_cons_succ, List.getElem_cons_zero, List.setIfInBounds_toArray, List.set_cons_zero, List.set_cons_succ]
        refine wpAnyH_take (i := 11) (v := .bool true) rfl (by kernel_rfl) (by kernel_rfl) (by kernel_rfl) (fun _ _ _ h => h) (Or.inl ⟨by rfl, by intro W hSw; (try dsimp only at hSw); go_simp⟩) hHeld ?_
        try simp only [Act.put, List.getElem_toArray, List.getElem_cons_succ, List.getElem_cons_zero, List.setIfInBounds_toArray, List.set_cons_zero, List.set_cons_succ]
        refine wpAnyH_done (by kernel_rfl) ?_ _
        have O4 := Lib.hid (O3.out _ B3.out)
        have B4 := Lib.hid (BW3.out _ B3.out)
        have TW := Lib.hid (twoI w3 w3.heap.size (i : Int) (k : Int) (Nat.le_refl _))
        have NX := Lib.hid (fun u => (oneRow (w3.alloc (.cells #[.int .i64 (i : Int), .int .i64 (k : Int)] 3)) u w3.heap.size (by simp)))
        have BB := Lib.hid (fun u => (((Below.refl w3.heap.size w3).alloc (Nat.le_refl _) (.cells #[.int .i64 (i : Int), .int .i64 (k : Int)] 3)).alloc (by simp) (.cells #[u] 26)))
        have hsz3 := B4.out.size
        simp only [World.size_alloc] at NX
        clear O3 BW3 B3 F3 KF KQ BQ H1 H2 CC hsz
        go_wp2_with (at_builtin; refine wpList_rowR rfl (.tmp 68) (.tmp 72) rfl w3 w1.heap.size w3.heap.size vo (.slice (some ⟨w3.heap.size + 1, 0, none⟩) 1 1) (.slice (some ⟨w3.heap.size, 0, none⟩) 2 2) (pairI (clash ls zs) ls.length i ++ pairK (clash ls zs) i k) [(i : Int), (k : Int)] rfl rfl O4.out (BB.out _) (TW.out.alloc _) hsz3 (NX.out _) hll ?_; intro v5 w5 o5 g5 hat5; have B5 := Lib.hid (((B4.out.alloc hsz3 _).alloc (by simp; omega) _).grown g5 (by simp; omega) (fun q hq => (O4.out.lt q hq).1)); have O5 := Lib.hid (K2.out ▸ o5); clear o5 g5 hat5)
        exact ⟨⟨k + 1, _, rfl, by omega, by omega, by go_num, O5, B5⟩, by simp [intOf]; omega⟩
end Go.Proofs.Ytbgogcobkiaejac
