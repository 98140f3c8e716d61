/- Texts of this seat laid together, each with its own first sentence below: RowRA PaiI TwaI TwbA TwoI. -/
import Derived.Test.YthijfipjfdmoeaaPk2
import Derived.Test.YthijfipjfdmoeaaPk6
import Derived.Test.YthijfipjfdmoeaaPk3
import Derived.Test.YthijfipjfdmoeaaPk4
import Derived.BigQuiet
import Derived.Deep.MidRow
import Derived.OwnWalk
import Derived.BigRegion
import Derived.Deep.RegionLaw
import Derived.Deep.DrawnRows
import Derived.Deep.WholeRow
/- One row of numbers behind an own row of rows. Condition: the new row was made behind the others. -/
namespace Go.Proofs.Ythijfipjfdmoeaa
set_option linter.unusedVariables false
set_option linter.unusedSimpArgs false
open Go.RowKit

section
variable {w w' : World} {base : Nat} {v : Value} {vs : List Value} {zss : List (List Int)}
theorem OwnRR.snoc {w0 : World} {u v' : Value} {zs : List Int} (h : OwnRR w0 base v vs zss) (hb : Below w0.heap.size w0 w) (hu : OwnI w w0.heap.size u zs) (hbs : base ≤ w0.heap.size)
    (o : w'.ownsRow base 36 1 v' (zss.length + 1) (vs ++ [u])) (hg : w.grownBy w' v.ownBlock) (hat : v'.ownBlock = v.ownBlock ∨ v'.ownBlock = some w.heap.size) : OwnRR w' base v' (vs ++ [u]) (zss ++ [zs]) := by
  have h1 := h.below hb
  have hbs2 := hb.size
  have lt0 : ∀ i (hi : i < vs.length) b, vs[i].ownBlock = some b → b < w0.heap.size := fun i hi b e => ((h.each i hi (by rw [← h.len]; exact hi)).lt b e).2
  have uoff : u.ownBlock = none ∨ u.ownBlock ≠ v.ownBlock := sep_of fun b e1 e2 => by have := (hu.lt b e1).1; have := (h.lt b e2).2; omega
  refine ⟨by simpa using o, by simp [h.len], fun i hi hi' => ?_, fun i hi => ?_, fun i j hi hj hij => ?_⟩
  · by_cases e : i < vs.length
    · rw [List.getElem_append_left e, List.getElem_append_left (by rw [← h.len]; exact e)]
      exact (h1.each i e (by rw [← h.len]; exact e)).kept hg (h1.off i e)
    · have e2 : i = vs.length := by simp at hi; omega
      subst e2
      have e3 : (zss ++ [zs])[vs.length] = zs := by rw [List.getElem_append_right (by rw [h.len]; exact Nat.le_refl _)]; simp [h.len]
      rw [e3]
      simp only [List.getElem_concat_length]
      exact (hu.mono hbs).kept hg uoff
  · by_cases e : i < vs.length
    · rw [List.getElem_append_left e]
      rcases hat with hat | hat <;> rw [hat]
      · exact h.off i e
      · exact sep_of fun b e1 e2 => by have := lt0 i e b e1; have := Option.some.inj e2; omega
    · have e2 : i = vs.length := by simp at hi; omega
      subst e2
      simp only [List.getElem_concat_length]
      rcases hat with hat | hat <;> rw [hat]
      · exact uoff
      · exact sep_of fun b e1 e2 => by have := (hu.lt b e1).2; have := Option.some.inj e2; omega
  · by_cases e : i < vs.length
    · rw [List.getElem_append_left e]
      by_cases f : j < vs.length
      · rw [List.getElem_append_left f]
        exact h.apart i j e f hij
      · have e2 : j = vs.length := by simp at hj; omega
        subst e2
        simp only [List.getElem_concat_length]
        exact sep_of fun b e1 e2 => by have := (hu.lt b e2).1; have := lt0 i e b e1; omega
    · have e2 : i = vs.length := by simp at hi; omega
      subst e2
      have f : j < vs.length := by simp at hj; omega
      rw [List.getElem_append_left f]
      simp only [List.getElem_concat_length]
      exact sep_of fun b e1 e2 => by have := (hu.lt b e1).1; have := lt0 j f b e2; omega
/-- The append of one row: u was made since w0, where the rows lay. -/
theorem run_rowR {w0 : World} (ty : TypeId) (b2 : Nat) {u x : Value} {zs : List Int} (h : OwnR w0 base v zss) (hb : Below w0.heap.size w0 w) (hu : OwnI w w0.heap.size u zs) (hbs : base ≤ w0.heap.size)
    (hx : w.ownsRow b2 36 1 x 1 [u]) (hl : zss.length ≤ 4000000) :
    ∃ v' w', (Builtin.append_ #[33, 33] ty #[v, x]).run Try.prog w = .ok v' w' ∧ OwnR w' base v' (zss ++ [zs]) ∧ w.grownBy w' v.ownBlock ∧ (v'.ownBlock = v.ownBlock ∨ v'.ownBlock = some w.heap.size) := by
  obtain ⟨i, hi, hz, hs, hbd⟩ := info_parts info_ints
  obtain ⟨vs, h⟩ := h
  obtain ⟨A, c, rfl⟩ := hu.slice
  rcases id hx.2 with ⟨_, hn⟩ | ⟨g, cap, cur, rfl, _⟩
  · omega
  · obtain ⟨v', w', hr, o, g1, _, hat⟩ := run_append_own_at (P := Try.prog) w base 33 ty 36 i (.slice none 0 0) 1 24 Try.underlying33 hi hz hs hbd rfl (by omega) v zss.length vs (h.below hb).row
      ⟨g, 0, none⟩ 1 cap [.slice A zs.length c] (by simp) (World.ownsRow.cells hx rfl) (by simp [Value.oneCell']) (by simp only [maxLen]; omega) (by omega) (Nat.le_trans hbs hb.size)
    exact ⟨v', w', hr, ⟨_, h.snoc hb hu hbs o g1 hat⟩, g1, hat⟩
end
section
variable {w : World} {o : Oper} {a : Act} {Q : Exit → Act → World → Prop}
theorem wpList_rowR {ops : Array Oper} {rest : List Oper} (hgd : o.guard = none) (s y : Operand) (ho : o.op = .call { callee := .builtin .append, args := #[s, y], argTypes := #[33, 33] })
    (w0 : World) (base b2 : Nat) (v x u : Value) (zss : List (List Int)) (zs : List Int) (hs : a.eval s = v) (hy : a.eval y = x) (h1 : OwnR w0 base v zss) (hb : Below w0.heap.size w0 w) (hu : OwnI w w0.heap.size u zs) (hbs : base ≤ w0.heap.size)
    (hx : w.ownsRow b2 36 1 x 1 [u]) (hl : zss.length ≤ 4000000)
    (h : ∀ v' w', OwnR w' base v' (zss ++ [zs]) → w.grownBy w' v.ownBlock → (v'.ownBlock = v.ownBlock ∨ v'.ownBlock = some w.heap.size) → wpList Try.prog ops Q rest (a.put o.dst v') w') : wpList Try.prog ops Q (o :: rest) a w :=
  wpList_plain hgd fun K hK => by
    obtain ⟨v', w', hrun, e2, e3, e4⟩ := run_rowR (ty := o.type) b2 h1 hb hu hbs hx hl
    unfold Oper.wp execOp
    simp only [ho, resolve, invoke, builtin, Sem.run_bind, Sem.run_pure, Result.andThen_ok, List.map_toArray, List.map_cons, List.map_nil, hs, hy, hrun]
    exact hK _ _ (h v' w' e2 e3 e4)
end
theorem emptyR (w : World) (base g : Nat) (cs : Array Value) (hg : g = w.heap.size) (hb : base ≤ g) (hs : cs.size = 0) : OwnR (w.alloc (.cells cs 36)) base (.slice (some ⟨g, 0, none⟩) 0 0) [] := by
  subst hg
  refine ⟨[], ⟨rfl, .inr ⟨w.heap.size, 0, cs, rfl, hb, heap_alloc_new w _, Nat.le_refl _, Nat.zero_le _, by omega, by simp⟩⟩, rfl, fun k hk => absurd hk (by simp), fun k hk => absurd hk (by simp), fun i j hi => absurd hi (by simp)⟩
/-- A new row that holds one value. -/
theorem oneRow (w : World) (u : Value) (b : Nat) (hb : b ≤ w.heap.size) : (w.alloc (.cells #[u] 36)).ownsRow b 36 1 (.slice (some ⟨w.heap.size, 0, none⟩) 1 1) 1 [u] :=
  ⟨rfl, .inr ⟨w.heap.size, 1, #[u], rfl, hb, heap_alloc_new w _, Nat.le_refl _, by simp only [maxLen]; omega, rfl, rfl⟩⟩
theorem twoI (w : World) (base : Nat) (y z : Int) (hb : base ≤ w.heap.size) : OwnI (w.alloc (.cells #[.int .i64 y, .int .i64 z] 3)) base (.slice (some ⟨w.heap.size, 0, none⟩) 2 2) [y, z] :=
  ⟨rfl, .inr ⟨w.heap.size, 2, #[.int .i64 y, .int .i64 z], rfl, hb, heap_alloc_new w _, Nat.le_refl _, by simp only [maxLen]; omega, rfl, rfl⟩⟩
theorem OwnR.mono {w : World} {base b : Nat} {v : Value} {zss : List (List Int)} (h : OwnR w base v zss) (hb : b ≤ base) : OwnR w b v zss := by
  obtain ⟨vs, h⟩ := h
  refine ⟨vs, ?_, h.len, fun k h1 h2 => (h.each k h1 h2).mono hb, h.off, h.apart⟩
  obtain ⟨h1, h2⟩ := h.row
  refine ⟨h1, ?_⟩
  rcases h2 with h2 | ⟨g, cap, cur, e, hg, rest⟩
  · exact .inl h2
  · exact .inr ⟨g, cap, cur, e, Nat.le_trans hb hg, rest⟩
end Go.Proofs.Ythijfipjfdmoeaa

/- The contracts of the program's pairAt, PairsOf and CountFront. Condition: the crossings lie in a row of their own. -/
namespace Go.Proofs.Ythijfipjfdmoeaa
set_option linter.unusedVariables false
set_option linter.unusedSimpArgs false
open Go.RowKit

theorem two_own (w : World) (base : Nat) (a d : Int) (hb : base ≤ w.heap.size) : OwnI (w.alloc (.cells #[.int .i64 a, .int .i64 d] 3)) base (.slice (some ⟨w.heap.size, 0, none⟩) 2 2) [a, d] :=
  ⟨rfl, .inr ⟨w.heap.size, 2, #[.int .i64 a, .int .i64 d], rfl, hb, heap_alloc_new w _, Nat.le_refl _, by simp only [maxLen]; omega, rfl, rfl⟩⟩

set_option maxRecDepth 100000 in
set_option maxHeartbeats 1600000 in
theorem pairM (v : Value) (zs : List Int) (i : Nat) (y : Bool) (b : Nat) (w : World) (h : OwnI w b v zs) (hi : i + 1 < zs.length) (hl : zs.length ≤ 2000000) :
    Calls Try.prog 72 #[v, .agg #[.int .i64 (i : Int), .bool y]] w (IntsPost w (pairC zs ⟨(i : Int), y⟩)) := by
  have h1 : i < zs.length := by omega
  have hi0 : (0 : Int) ≤ (i : Int) := by omega
  have hi1 : (i : Int) < (zs.length : Int) := by omega
  have hi3 : (0 : Int) ≤ (i : Int) + 1 := by omega
  have hi2 : (i : Int) + 1 < (zs.length : Int) := by omega
  have e1 : IntKind.i64.wrap ((i : Int) + 1) = (i : Int) + 1 := IntWalk.i64_in _ (by omega)
  have PC := Lib.hid (show pairC zs ⟨(i : Int), y⟩ = if y = true then [zs[i], zs[i + 1]] else [zs[i + 1], zs[i]] by unfold pairC; rw [Int.toNat_natCast, atI_of hi, atI_of h1])
  obtain ⟨A, c, rfl⟩ := h.slice
  obtain ⟨g, _, f1, _, _, p0, _⟩ := (h.alloc (.cells #[.int .i64 (i : Int), .bool y] 56)).spot h1
  simp only [Value.slice.injEq] at f1
  obtain ⟨rfl, -, -⟩ := f1
  obtain ⟨_, _, f1, _, _, p1, _⟩ := (h.alloc (.cells #[.int .i64 (i : Int), .bool y] 56)).spot hi
  simp only [Value.slice.injEq, Option.some.injEq, Addr.mk.injEq] at f1
  obtain ⟨⟨rfl, _⟩, _⟩ := f1
  have HB := Lib.hid (h.lt g rfl).2
  have BX := Lib.hid (((Below.refl w.heap.size w).alloc (Nat.le_refl _) (.cells #[.int .i64 (i : Int), .bool y] 56)))
  clear h
  generalize zs[i] = a at p0 PC
  generalize zs[i + 1] = d at p1 PC
  cases y with
  | true =>
    have P2 := Lib.hid (show pairC zs ⟨(i : Int), true⟩ = [a, d] from PC.out)
    go_enter Try.func72, Try.ntmps72
    go_wp2
    go_quiet (fail)
    have B2 := Lib.hid (below_drewN BX.out nq)
    have hs2 := B2.out.size
    have q1 : ((w.alloc (.cells #[.int .i64 (i : Int), .bool true] 56)).drewN nq).cell? ⟨w.heap.size, 1, none⟩ = some (.bool true) := by simp [go_sem]
    generalize (w.alloc (.cells #[.int .i64 (i : Int), .bool true] 56)).drewN nq = w2 at B2 hs2 q1 ⊢
    go_wp2
    go_ret
    exact ⟨_, rfl, by rw [P2.out]; exact two_own w2 _ a d hs2, B2.out.alloc hs2 _⟩
  | false =>
    have P2 := Lib.hid (show pairC zs ⟨(i : Int), false⟩ = [d, a] from PC.out)
    go_enter Try.func72, Try.ntmps72
    go_wp2
    go_quiet (fail)
    have B2 := Lib.hid (below_drewN BX.out nq)
    have hs2 := B2.out.size
    have q1 : ((w.alloc (.cells #[.int .i64 (i : Int), .bool false] 56)).drewN nq).cell? ⟨w.heap.size, 1, none⟩ = some (.bool false) := by simp [go_sem]
    generalize (w.alloc (.cells #[.int .i64 (i : Int), .bool false] 56)).drewN nq = w2 at B2 hs2 q1 ⊢
    go_wp2
    go_ret
    exact ⟨_, rfl, by rw [P2.out]; exact two_own w2 _ d a hs2, B2.out.alloc hs2 _⟩

theorem put_step {α : Type} (d : α) (p : List α) (x : α) (N k : Nat) (hl : p.length = k) (h : k < N) : (p ++ List.replicate (N - k) d).set k x = (p ++ [x]) ++ List.replicate (N - (k + 1)) d := by
  rw [List.set_append_right _ _ (by omega), hl, Nat.sub_self, show N - k = (N - (k + 1)) + 1 by omega, List.replicate_succ, List.set_cons_zero, List.append_assoc]
  rfl

set_option maxRecDepth 100000 in
set_option maxHeartbeats 3200000 in
theorem implPairs (n : Int) (v : Value) (ls : List RCross) (b : Nat) (w : World) (h : OwnCross w b v ls) (hl : ls.length ≤ 2000000) :
    Calls Try.prog 67 #[.int .i64 n, v] w (RowsPost w (pairsOf n ls)) := by
  have CK := Lib.hid (fun W h => implCrOk n v ls b W h hl)
  obtain ⟨A, c, rfl⟩ := h.slice
  have O := Lib.hid h
  clear h
  cases hc : crossOk n ls with
  | false =>
    have R := Lib.hid (show pairsOf n ls = [] by unfold pairsOf; rw [hc]; rfl)
    rw [hc] at CK
    go_enter Try.func67, Try.ntmps67
    go_wp2_with (go_at_call 32; refine (CK.out _ O.out).mono ?_; rintro e w1 ⟨rfl, b1⟩; have B1 := Lib.hid b1; clear b1)
    go_ret
    exact ⟨_, rfl, by rw [R.out]; exact ⟨[], ⟨rfl, .inl ⟨rfl, rfl⟩⟩, rfl, fun k hk => absurd hk (by simp), fun k hk => absurd hk (by simp), fun i j hi => absurd hi (by simp)⟩, B1.out⟩
  | true =>
    obtain ⟨i, hi, hz, hs, hb⟩ := info_parts info_ints
    have hn := (crossOk_has hc).1
    have hn' : 1 ≤ n ∧ n ≤ 7 := by
      unfold inB at hn
      exact of_decide_eq_true hn
    have h40 := (crossOk_has hc).2.1
    have R := Lib.hid (show pairsOf n ls = pairsTo n ls ls.length by unfold pairsOf; rw [if_pos hc])
    have SS := Lib.hid (fun k (h : k < ls.length) => now_swap hc h)
    rw [hc] at CK
    have ST := Lib.hid (fun W => homeM n W hn')
    have NL := Lib.hid (fun k => nowAt_len n ls k)
    have PL := Lib.hid (fun k => pairsTo_len n ls k)
    have NZ := Lib.hid (nowAt_zero n ls)
    clear hn hc
    go_enter Try.func67, Try.ntmps67
    go_wp2_with (first
      | (go_at_call 32; refine (CK.out _ O.out).mono ?_; rintro e w1 ⟨rfl, b1⟩; have B1 := Lib.hid b1; clear b1)
      | (go_at_call 56; refine (ST.out _).mono ?_; rintro e w2 ⟨v0, rfl, o0, b2⟩; have B2 := Lib.hid (B1.out.trans (b2.mono B1.out.size)); have O0 := Lib.hid (show OwnI w2 w.heap.size v0 (nowAt n ls 0) by rw [NZ.out]; exact o0.mono B1.out.size); clear b2 o0)
      | (refine wpList_make_full _ rfl _ _ 33 rfl w2.heap.size 36 i (.slice none 0 0) 1 Try.underlying33 hi hz hs .i64 .i64 _ _ ls.length rfl rfl rfl rfl (by rw [hb]; omega) (by simp only [maxLen]; omega) (by simp) ?_; intro w3 own3 grown3))
    have P3 := Lib.hid (show OwnR w3 w2.heap.size (.slice (some ⟨w2.heap.size, 0, none⟩) ls.length ls.length) (pairsTo n ls 0 ++ List.replicate (ls.length - 0) []) by
      have e : (madeCells (Value.slice none 0 0).cells (ls.length * 1)).toList = List.replicate ls.length (.slice none 0 0) := by
        simp only [Value.cells, Nat.mul_one, toList_madeCells_one]
      rw [e] at own3
      simpa [pairsTo] using ownR_made own3)
    have g3 := below_of_grown grown3
    have B3 := Lib.hid (B2.out.trans (g3.mono B2.out.size))
    have O3 := Lib.hid (O0.out.below g3)
    clear own3 grown3 g3
    have hs0 := B2.out.size
    have LT0 := Lib.hid (fun q hq => (O0.out.lt q hq).2)
    clear B1 CK ST B2 O0
    generalize w2.heap.size = top at *
    go_loopw [20] (fun iv wr => ∃ k : Nat, k ≤ ls.length ∧ iv = .int .i64 (k : Int) ∧ Hid (OwnI wr w.heap.size v0 (nowAt n ls k)) ∧ Hid (OwnR wr top (.slice (some ⟨top, 0, none⟩) ls.length ls.length) (pairsTo n ls k ++ List.replicate (ls.length - k) [])) ∧ Hid (Below w.heap.size w wr)) (fun iv _ => ls.length - (intOf iv).toNat)
    case atStart => exact ⟨0, by omega, rfl, O3, P3, B3⟩
    case round =>
      clear O3 P3 B3
      obtain ⟨k, hk, rfl, OO, OP, BW⟩ := hrel
      by_cases hlt : k < ls.length
      rotate_left
      · obtain rfl : k = ls.length := by omega
        have F := Lib.hid (show OwnR wr w.heap.size (.slice (some ⟨top, 0, none⟩) ls.length ls.length) (pairsOf n ls) by rw [R.out]; have := OP.out; simp at this; exact this.mono hs0)
        go_wp2
        go_ret
        exact ⟨_, rfl, F.out, BW.out⟩
      have hk0 : (0 : Int) ≤ (k : Int) := by omega
      have hk1 : (k : Int) < (ls.length : Int) := by omega
      obtain ⟨g, _, f1, _, _, z0, _⟩ := (O.out.below BW.out).spot hlt
      simp only [Value.slice.injEq] at f1
      obtain ⟨rfl, -, rfl⟩ := f1
      have r0 : wr.cell? ⟨g, k * 2, none⟩ = some (.int .i64 ls[k].f0) := z0 0 _ rfl
      have r1 : wr.cell? ⟨g, k * 2 + 1, none⟩ = some (.bool ls[k].f1) := z0 1 _ rfl
      obtain ⟨q, hq, hq1, hsw⟩ := SS.out k hlt
      have PM := Lib.hid (show pairsTo n ls (k + 1) = pairsTo n ls k ++ [pairC (nowAt n ls k) ⟨(q : Int), ls[k].f1⟩] by rw [← hq]; exact pairsTo_more n hlt)
      have SW := Lib.hid (fun W h => swapM v0 (nowAt n ls k) q w.heap.size W h hq1 (by have := NL.out k; omega))
      have PA := Lib.hid (fun y W h => pairM v0 (nowAt n ls k) q y w.heap.size W h hq1 (by have := NL.out k; omega))
      rw [hq] at r0
      have NM := Lib.hid hsw
      have hpl := PL.out k
      generalize ls[k].f1 = y at r1 PM
      have hbs := BW.out.size
      have LT := Lib.hid (fun x hx => (OO.out.lt x hx).1)
      have P2l := pairC_len (nowAt n ls k) ⟨(q : Int), y⟩
      have HLen := Lib.hid (show (pairsTo n ls k ++ List.replicate (ls.length - k) []).length = ls.length by rw [List.length_append, List.length_replicate, hpl]; omega)
      have PUT := Lib.hid (show (pairsTo n ls k ++ List.replicate (ls.length - k) []).set k (pairC (nowAt n ls k) ⟨(q : Int), y⟩) = pairsTo n ls (k + 1) ++ List.replicate (ls.length - (k + 1)) [] by rw [put_step [] _ _ ls.length k hpl hlt, PM.out])
      clear z0 hq hsw hq1 hpl
      have htop := (OP.out.lt top rfl).2
      have XB := Lib.hid (show (wr.alloc (.cells #[.int .i64 (q : Int), .bool y] 56)).cell? ⟨wr.heap.size, 0, none⟩ = some (.int .i64 (q : Int)) by simp [go_sem])
      have BA := Lib.hid (BW.out.alloc hbs (.cells #[.int .i64 (q : Int), .bool y] 56))
      have OA := Lib.hid (OO.out.alloc (.cells #[.int .i64 (q : Int), .bool y] 56))
      have PB := Lib.hid (OP.out.alloc (.cells #[.int .i64 (q : Int), .bool y] 56))
      go_wp2_with fail
      refine (PA.out y _ OA.out).mono ?_
      rintro e w4 ⟨u, rfl, o4, b4⟩
      obtain ⟨U, cu, rfl⟩ := o4.slice
      have ST := OwnR.set (k := k) (g := top) (c := ls.length) (base := top) (zss := pairsTo n ls k ++ List.replicate (ls.length - k) []) (w := w4) (u := .slice U (pairC (nowAt n ls k) ⟨(q : Int), y⟩).length cu) (by rw [HLen.out]; exact PB.out) b4 o4 (by simp; omega) (by rw [HLen.out]; exact hlt)
      rw [PUT.out, HLen.out] at ST
      obtain ⟨_, _, A', c', e2, xc, xf, _⟩ := (PB.out.below b4).spot (k := k) (by rw [HLen.out]; exact hlt)
      simp only [Value.slice.injEq, Option.some.injEq, Addr.mk.injEq] at e2
      obtain ⟨⟨rfl, _⟩, -, -⟩ := e2
      obtain ⟨t, ht⟩ : ∃ t, w4.cell? ⟨top, k, none⟩ = some t := ⟨_, xc⟩
      have B4 := Lib.hid (BA.out.trans (b4.mono BA.out.size))
      rw [P2l] at ST
      have x4 : (w4.setCell ⟨top, k, none⟩ (.slice U 2 cu)).cell? ⟨wr.heap.size, 0, none⟩ = some (.int .i64 (q : Int)) := by
        rw [World.cell?_setCell_other]
        · exact cell_below XB.out b4
        · intro h
          simp at h <;> omega
      have O4 := Lib.hid ((OA.out.below b4).kept ST.2 (sep_of fun x h1 h2 => by have := LT0.out x h1; have := Option.some.inj h2; omega))
      have S4 := Lib.hid ST
      clear xc ST o4 b4 OA PB XB BA
      go_wp2_with fail
      refine (SW.out _ O4.out).mono ?_
      rintro e w5 ⟨rfl, o5, g5⟩
      have O5 := Lib.hid (show OwnI w5 w.heap.size v0 (nowAt n ls (k + 1)) by rw [NM.out]; exact o5)
      have P5 := Lib.hid (S4.out.1.older g5 (fun x hx => LT0.out x hx))
      have B5 := Lib.hid ((B4.out.grown S4.out.2 B4.out.size (fun x hx => by have := Option.some.inj hx; omega)).grown g5 (Nat.le_trans B4.out.size S4.out.2.size) LT.out)
      clear o5 g5
      go_wp2
      exact ⟨⟨k + 1, by omega, by go_num, O5, P5, B5⟩, by simp [intOf]; omega⟩
end Go.Proofs.Ythijfipjfdmoeaa

/- The contracts of impl.twistBy and twistsAfter. Condition: the crossings lie in a row of their own. -/
namespace Go.Proofs.Ythijfipjfdmoeaa
set_option linter.unusedVariables false
set_option linter.unusedSimpArgs false
open Go.RowKit

set_option maxRecDepth 100000 in
set_option maxHeartbeats 800000 in
theorem implBy (a : Int) (y : Bool) (w : World) :
    Calls Try.prog 68 #[.agg #[.int .i64 a, .bool y]] w fun e w' => e = .returned (.int .i64 (if y = true then 1 else -1)) ∧ w' = w.alloc (.cells #[.int .i64 a, .bool y] 56) := by
  cases y with
  | true =>
    go_enter Try.func68, Try.ntmps68
    go_wp2
    go_ret
    exact ⟨rfl, rfl⟩
  | false =>
    go_enter Try.func68, Try.ntmps68
    go_wp2
    go_ret
    exact ⟨rfl, rfl⟩

/-- The program's table lies in a block of its own. -/
def ArrT (w : World) (base g : Nat) (zs : List Int) : Prop := w.ownsRow base 75 1 (.slice (some ⟨g, 0, none⟩) 49 49) 49 (zs.map intV)
section
variable {w w' : World} {base g : Nat} {zs : List Int}
theorem ArrT.alloc (h : ArrT w base g zs) (o : Obj) : ArrT (w.alloc o) base g zs := World.ownsRow.alloc h o
theorem ArrT.lt (h : ArrT w base g zs) : base ≤ g ∧ g < w.heap.size := World.ownsRow.lt h g rfl
theorem ArrT.kept {row : Option Nat} (h : ArrT w base g zs) (hg : w.grownBy w' row) (hne : some g ≠ row) : ArrT w' base g zs := World.ownsRow.kept h hg (.inr hne)
theorem ArrT.below (h : ArrT w base g zs) (hb : Below w.heap.size w w') : ArrT w' base g zs := h.kept (grown_of_below hb none) (by simp)
theorem ArrT.len (h : ArrT w base g zs) : zs.length = 49 := by have := h.1; simpa using this
theorem ArrT.spot (h : ArrT w base g zs) {k : Nat} (hk : k < 49) : w.cell? ⟨g, k, none⟩ = some (.int .i64 (atI zs k)) ∧ w.frozen? ⟨g, k, none⟩ = false := by
  have hl := h.len
  refine ⟨?_, World.ownsRow.frozenAt h k⟩
  rw [World.ownsRow.cellAt h k (by omega), atI_of (by omega : k < zs.length)]
  simp [intV, hl, hk]
theorem ArrT.range (h : ArrT w base g zs) : w.rangeAt g 0 (zs.map intV) := by
  intro j v hv
  have hj : j < zs.length := by have := (List.getElem?_eq_some_iff.1 hv).1; simpa using this
  have hl := h.len
  rw [Nat.zero_add, World.ownsRow.cellAt h j (by omega)]
  exact hv
theorem ArrT.there (h : ArrT w base g zs) : w.there g 0 49 := by
  intro j hj
  rw [Nat.zero_add]
  exact ⟨by rw [(h.spot hj).1]; rfl, (h.spot hj).2⟩
theorem ArrT.set (h : ArrT w base g zs) (k : Nat) (s : Int) :
    ArrT (w.setCell ⟨g, k, none⟩ (.int .i64 (atI zs k + s))) base g (addA zs k s) ∧ w.grownBy (w.setCell ⟨g, k, none⟩ (.int .i64 (atI zs k + s))) (some g) := by
  unfold ArrT at *
  obtain ⟨h1, g1⟩ := World.ownsRow.stored h k (.int .i64 (atI zs k + s))
  unfold addA
  rw [List.map_set]
  exact ⟨h1, g1⟩
end

theorem results_one {fn : Func} {p : Tmp} {ty : TypeId} (h : fn.results = #[.cell p ty]) (tmps : Array Value) (P : Program) (w : World) :
    (results fn tmps).run P w = ((asAddr (tmps.getD p undef)).run P w).andThen fun a w1 => (loadVar ty a).run P w1 := by
  simp only [results, h]
  simp [Sem.run_bind, Result.andThen]
  try rfl
theorem setCells_grown (b : Nat) : ∀ (vs : List Value) (o : Nat) (w : World), w.grownBy (w.setCells b o vs) (some b)
  | [], _, w => ⟨rfl, rfl, rfl, Nat.le_refl _, fun _ _ _ => rfl⟩
  | v :: r, o, w => by
    have h := setCells_grown b r (o + 1) (w.setCell ⟨b, o, none⟩ v)
    exact grown_then (grown_cell w ⟨b, o, none⟩ v) h
/-- Two tables that are new. -/
theorem arrT_new (w : World) (cs : Array Value) (hcs : cs.toList = (List.replicate 49 (0 : Int)).map intV) : ArrT ((w.alloc (.cells cs 75)).alloc (.cells cs 75)) w.heap.size w.heap.size (List.replicate 49 0) ∧
    ArrT ((w.alloc (.cells cs 75)).alloc (.cells cs 75)) w.heap.size (w.heap.size + 1) (List.replicate 49 0) := by
  have hs : cs.size = 49 := by rw [← Array.length_toList, hcs]; simp
  have H : ∀ W : World, w.heap.size ≤ W.heap.size → ArrT (W.alloc (.cells cs 75)) w.heap.size W.heap.size (List.replicate 49 0) := fun W h =>
    ⟨by simp, .inr ⟨W.heap.size, 49, cs, rfl, h, heap_alloc_new W _, Nat.le_refl _, by simp only [maxLen]; omega, by omega, by rw [hcs]; rw [List.take_of_length_le (by simp)]⟩⟩
  refine ⟨(H w (Nat.le_refl _)).alloc _, ?_⟩
  have := H (w.alloc (.cells cs 75)) (by simp)
  simpa using this

set_option maxRecDepth 100000 in
set_option maxHeartbeats 3200000 in
theorem implAft (n : Int) (v : Value) (ls : List RCross) (b : Nat) (w : World) (h : OwnCross w b v ls) (hl : ls.length ≤ 2000000) (hc : crossOk n ls = true) :
    Calls Try.prog 57 #[.int .i64 n, v] w fun e w' => e = .returned (.agg ((aftTo n ls ls.length).map intV).toArray) ∧ Below w.heap.size w w' := by
  have CP := Lib.hid (fun W h => implPairs n v ls b W h hl)
  obtain ⟨A, c, rfl⟩ := h.slice
  have O := Lib.hid h
  clear h
  obtain ⟨hn7, hnn, h40, -⟩ := ok_fits hc
  have F := crossFacts hc
  have hpl := F.pairLen
  have R := Lib.hid (show ∀ i j, i < n.toNat → j < n.toNat → ∀ k, k ≤ ls.length → -(k : Int) ≤ atI (aftTo n ls k) (i * 7 + j) ∧ atI (aftTo n ls k) (i * 7 + j) ≤ (k : Int) from fun i j hi hj k hk => by rw [aft_ent hc hi hj k hk]; exact tab_small hc hi hj k hk)
  have DU := Lib.hid (fun k hk => duo_at hc (k := k) hk)
  have ST := Lib.hid (show ∀ k, aftTo n ls (k + 1) = addA (addA (aftTo n ls k) (pa ((pairsOf n ls).getD k []) * 7 + pb ((pairsOf n ls).getD k [])) (sgn (ls.getD k RCross.zero))) (pb ((pairsOf n ls).getD k []) * 7 + pa ((pairsOf n ls).getD k [])) (sgn (ls.getD k RCross.zero)) from fun k => rfl)
  have Z0 := Lib.hid (show aftTo n ls 0 = List.replicate 49 0 from rfl)
  have TL := Lib.hid (aft_len n ls)
  have HPL := Lib.hid hpl
  generalize pairsOf n ls = ps at CP DU ST HPL
  generalize aftTo n ls = T at R ST Z0 TL ⊢
  have hn7' : n.toNat ≤ 7 := hn7.2
  clear F hpl hc hnn hn7
  have NW := Lib.hid (arrT_new w (Array.replicate 49 (.int .i64 0)) (by simp [intV]))
  have B0 := Lib.hid (((Below.refl w.heap.size w).alloc (Nat.le_refl _) (.cells (Array.replicate 49 (.int .i64 0)) 75)).alloc (by simp) (.cells (Array.replicate 49 (.int .i64 0)) 75))
  have O0 := Lib.hid ((O.out.alloc (.cells (Array.replicate 49 (.int .i64 0)) 75)).alloc (.cells (Array.replicate 49 (.int .i64 0)) 75))
  go_enter Try.func57, Try.ntmps57
  go_wp2_with fail
  refine (CP.out _ O0.out).mono ?_
  rintro e w1 ⟨vp, rfl, p1, b1⟩
  have A0 := Lib.hid (NW.out.1.below b1)
  have A1 := Lib.hid (show ArrT w1 w.heap.size (w.heap.size + 1) (T 0) by rw [Z0.out]; exact NW.out.2.below b1)
  have B1 := Lib.hid (B0.out.trans (b1.mono B0.out.size))
  have top2 : ∃ top, top = w.heap.size + 2 ∧ OwnR w1 top vp ps := ⟨_, rfl, by simpa using p1⟩
  obtain ⟨top, htop, p2⟩ := top2
  obtain ⟨P, cp, rfl⟩ := p2.slice
  have P1 := Lib.hid p2
  have HT := Lib.hid htop
  clear p1 p2 b1 NW B0 O0 CP htop
  go_wp2_with fail
  go_loopw [14] (fun iv wr => ∃ j : Nat, j ≤ ps.length ∧ iv = .int .i64 (j : Int) ∧ Hid (ArrT wr w.heap.size w.heap.size (List.replicate 49 0)) ∧ Hid (ArrT wr w.heap.size (w.heap.size + 1) (T j)) ∧ Hid (OwnR wr top (.slice P ps.length cp) ps) ∧ Hid (Below w.heap.size w wr)) (fun iv _ => ps.length - (intOf iv).toNat)
  case atStart => exact ⟨0, by omega, rfl, A0, A1, P1, B1⟩
  case round =>
    clear A0 A1 P1 B1
    obtain ⟨j, hj, rfl, A0, A1, OP, BW⟩ := hrel
    by_cases hlt : j < ps.length
    rotate_left
    · obtain rfl : j = ps.length := by omega
      have LN := TL.out ps.length
      have hi : (Try.prog.info? 75).map (·.size) = some ((T ps.length).map intV).length := by
        rw [List.length_map, LN]
        kernel_rfl
      have hr := A1.out.range
      go_wp2_with (first
        | (refine wpList_load_mid rfl 75 _ rfl (w.heap.size + 1) 0 rfl ((T ps.length).map intV) _ hr Try.underlying75 rfl hi ?_)
        | (refine wpList_store_mid rfl 75 _ _ rfl w.heap.size 0 ((T ps.length).map intV).toArray rfl rfl (by have := A0.out.there; simpa [LN] using this) (by simpa using hi) (all_oneCell_toArray (fun v hv => by obtain ⟨z, -, rfl⟩ := List.mem_map.1 hv; rfl)) ?_))
      have F := Lib.hid (show T ls.length = T ps.length by rw [HPL.out])
      have hrl : (loadVar 75 ⟨w.heap.size, 0, none⟩).run Try.prog (wr.setCells w.heap.size 0 ((T ps.length).map intV)) = .ok (.agg ((T ps.length).map intV).toArray) (wr.setCells w.heap.size 0 ((T ps.length).map intV)) :=
        run_loadVar_mid _ _ 0 _ _ _ (World.rangeAt_setCells_same wr _ 0 _ (by rw [List.length_map, LN]; exact A0.out.there)) Try.underlying75 rfl hi
      refine bodyPost_ret (v := .agg ((T ps.length).map intV).toArray) ?_ rfl ⟨by rw [F.out], ?_⟩
      · rw [results_one rfl]
        exact hrl
      · exact BW.out.grown (setCells_grown _ _ _ _) BW.out.size (fun q hq => by have := Option.some.inj hq; omega)
    have hjl : j < ls.length := by have := HPL.out; omega
    have hj0 : (0 : Int) ≤ (j : Int) := by omega
    have hj1 : (j : Int) < (ps.length : Int) := by omega
    have hj2 : (j : Int) < (ls.length : Int) := by omega
    obtain ⟨gl, _, f1, _, lt1, z0, _⟩ := O.out.spot hjl
    simp only [Value.slice.injEq] at f1
    obtain ⟨rfl, -, rfl⟩ := f1
    have LC := Lib.hid (show ∀ W : World, Below w.heap.size w W → W.cell? ⟨gl, j * 2, none⟩ = some (.int .i64 ls[j].f0) ∧ W.cell? ⟨gl, j * 2 + 1, none⟩ = some (.bool ls[j].f1) from fun W h => ⟨(z0.below h lt1) 0 _ rfl, (z0.below h lt1) 1 _ rfl⟩)
    have hss : sgn (ls.getD j RCross.zero) = if ls[j].f1 = true then 1 else -1 := by rw [List.getD_eq_getElem?_getD, List.getElem?_eq_getElem hjl]; rfl
    obtain ⟨a, d, hz, had, ha, hd⟩ := DU.out j hjl
    have STJ := Lib.hid (ST.out j)
    rw [hz, hss] at STJ
    have EA : pa [(a : Int), (d : Int)] = a := by simp [pa, atI]
    have EB : pb [(a : Int), (d : Int)] = d := by simp [pb, atI]
    rw [EA, EB] at STJ
    rw [getD_row hlt] at hz
    obtain ⟨s, hs, hs1, hs2⟩ : ∃ s : Int, (if ls[j].f1 = true then (1 : Int) else -1) = s ∧ -1 ≤ s ∧ s ≤ 1 := ⟨_, rfl, by split <;> omega, by split <;> omega⟩
    rw [hs] at STJ
    have BY := Lib.hid (fun W => implBy ls[j].f0 ls[j].f1 W)
    rw [hs] at BY
    generalize ls[j].f0 = x at LC BY
    generalize ls[j].f1 = y at LC BY hs
    clear hs hss z0 EA EB
    obtain ⟨gp, cP, A2, c2, f2, p0, _, pr⟩ := OP.out.spot hlt
    simp only [Value.slice.injEq] at f2
    obtain ⟨rfl, -, rfl⟩ := f2
    rw [hz] at p0 pr
    obtain ⟨gq, cq, f2, _, _, q0, _⟩ := pr.spot (k := 0) (by simp)
    simp only [Value.slice.injEq] at f2
    obtain ⟨rfl, -, rfl⟩ := f2
    obtain ⟨_, _, f2, _, _, q1, _⟩ := pr.spot (k := 1) (by simp)
    simp only [Value.slice.injEq, Option.some.injEq, Addr.mk.injEq] at f2
    obtain ⟨⟨rfl, -⟩, -⟩ := f2
    simp only [List.getElem_cons_zero, List.getElem_cons_succ] at q0 q1
    replace p0 : wr.cell? ⟨gp, j, none⟩ = some (.slice (some ⟨gq, 0, none⟩) 2 c2) := p0
    clear pr hz
    have ha0 : (0 : Int) ≤ (a : Int) := by omega
    have ha1 : (a : Int) < 7 := by omega
    have hd0 : (0 : Int) ≤ (d : Int) := by omega
    have hd1 : (d : Int) < 7 := by omega
    go_wp2_with fail
    go_quiet (fail)
    have A02 := Lib.hid (A0.out.below (below_drewN (Below.refl _ _) nq))
    have A12 := Lib.hid (A1.out.below (below_drewN (Below.refl _ _) nq))
    have OP2 := Lib.hid (OP.out.below (below_drewN (Below.refl _ _) nq))
    have BW2 := Lib.hid (below_drewN BW.out nq)
    clear A0 A1 OP BW p0 q0 q1
    generalize wr.drewN nq = w2 at A02 A12 OP2 BW2 ⊢
    obtain ⟨l02, l12⟩ := LC.out _ BW2.out
    have hb := R.out a d ha hd j (by omega)
    have HB2 := Lib.hid (show -(j : Int) - 1 ≤ atI (addA (T j) (a * 7 + d) s) (d * 7 + a) ∧ atI (addA (T j) (a * 7 + d) s) (d * 7 + a) ≤ (j : Int) + 1 by
      rw [addA_at (by have := TL.out j; omega), if_neg (by omega)]
      have := R.out d a hd ha j (by omega)
      omega)
    obtain ⟨t0, t1⟩ := A12.out.spot (k := a * 7 + d) (by omega)
    obtain ⟨S1, G1⟩ := A12.out.set (a * 7 + d) s
    have hgl : gl < w2.heap.size := World.block_lt_of_cell? w2 _ l02
    have hga : w.heap.size + 1 < w2.heap.size := A12.out.lt.2
    have A13 := Lib.hid ((S1.alloc (.cells #[.int .i64 x, .bool y] 56)).below (Below.refl _ _).drew)
    have A03 := Lib.hid (((A02.out.kept G1 (by simp)).alloc (.cells #[.int .i64 x, .bool y] 56)).below (Below.refl _ _).drew)
    have OP3 := Lib.hid (((OP2.out.older G1 (fun q hq => by have := Option.some.inj hq; have := HT.out; omega)).alloc (.cells #[.int .i64 x, .bool y] 56)).below (Below.refl _ _).drew)
    have BW3 := Lib.hid (((BW2.out.grown G1 BW2.out.size (fun q hq => by have := Option.some.inj hq; omega)).alloc (Nat.le_trans BW2.out.size G1.size) (.cells #[.int .i64 x, .bool y] 56)).drew)
    obtain ⟨zq, hzq⟩ : ∃ zq, atI (T j) (a * 7 + d) = zq := ⟨_, rfl⟩
    rw [hzq] at t0 hb A13 A03 OP3 BW3
    clear S1 G1
    have ew : IntKind.i64.wrap (zq + s) = zq + s := IntWalk.i64_in _ (by omega)
    go_wp2_with fail
    go_region_law (first | (go_simp; go_at_call 68; refine (BY.out _).mono ?_; rintro e w' ⟨rfl, rfl⟩))
    all_goals clear l02 l12 A02 A12 OP2 BW2 t0 t1 ew hgl hga
    all_goals generalize World.drew _ = w3 at A13 A03 OP3 BW3 ⊢
    all_goals obtain ⟨l02, l12⟩ := LC.out _ BW3.out
    all_goals have hb := HB2.out
    all_goals obtain ⟨t0, t1⟩ := A13.out.spot (k := d * 7 + a) (by omega)
    all_goals obtain ⟨S1, G1⟩ := A13.out.set (d * 7 + a) s
    all_goals rw [← STJ.out] at S1
    all_goals have hgl : gl < w3.heap.size := World.block_lt_of_cell? w3 _ l02
    all_goals have hga : w.heap.size + 1 < w3.heap.size := A13.out.lt.2
    all_goals have A14 := Lib.hid ((S1.alloc (.cells #[.int .i64 x, .bool y] 56)).below (Below.refl _ _).drew)
    all_goals have A04 := Lib.hid (((A03.out.kept G1 (by simp)).alloc (.cells #[.int .i64 x, .bool y] 56)).below (Below.refl _ _).drew)
    all_goals have OP4 := Lib.hid (((OP3.out.older G1 (fun q hq => by have := Option.some.inj hq; have := HT.out; omega)).alloc (.cells #[.int .i64 x, .bool y] 56)).below (Below.refl _ _).drew)
    all_goals have BW4 := Lib.hid (((BW3.out.grown G1 BW3.out.size (fun q hq => by have := Option.some.inj hq; omega)).alloc (Nat.le_trans BW3.out.size G1.size) (.cells #[.int .i64 x, .bool y] 56)).drew)
    all_goals clear S1 G1 A03 OP3 BW3 A13
    all_goals generalize atI (addA (T j) (a * 7 + d) s) (d * 7 + a) = zr at t0 hb A14 A04 OP4 BW4
    all_goals have ew : IntKind.i64.wrap (zr + s) = zr + s := IntWalk.i64_in _ (by omega)
    all_goals go_wp2_with fail
    all_goals go_region_law (first | (go_simp; go_at_call 68; refine (BY.out _).mono ?_; rintro e w' ⟨rfl, rfl⟩))
    all_goals go_wp2
    all_goals exact ⟨⟨j + 1, by omega, by go_num, A04, A14, OP4, BW4⟩, by simp [intOf]; omega⟩
end Go.Proofs.Ythijfipjfdmoeaa

/- A table into a variable of its own; part of a table copied by slices.Clone. Condition: the table lies in a block of its own. -/
namespace Go.Proofs.Ythijfipjfdmoeaa
set_option linter.unusedVariables false
set_option linter.unusedSimpArgs false
open Go.RowKit

/-- A whole array into the variable that was made last. -/
theorem wpList_store_new {P : Program} {ops : Array Oper} {rest : List Oper} {op : Oper} {a : Act} {w : World} {Q : Exit → Act → World → Prop} (hgd : op.guard = none) (ty t : TypeId) (x y : Operand) (ho : op.op = .store ty x y)
    (c cells : Array Value) (hx : a.eval x = .pointer (some ⟨w.heap.size, 0, none⟩)) (hy : a.eval y = .agg cells)
    (hi : (P.info? ty).map (·.size) = some cells.size) (hc : c.size = cells.size) (h1 : cells.all (·.oneCell') = true)
    (h : wpList P ops Q rest (a.put op.dst undef) (w.alloc (.cells cells t))) : wpList P ops Q (op :: rest) a (w.alloc (.cells c t)) := by
  refine wpList_plain hgd fun K hK => ?_
  have hr : (storeVar ty ⟨w.heap.size, 0, none⟩ (.agg cells)).run P (w.alloc (.cells c t)) = .ok () (w.alloc (.cells cells t)) := by
    rw [run_storeVar_row _ _ t ty c cells (heap_alloc_last w _) hi hc h1, World.setRow_alloc_new]
  unfold Oper.wp execOp
  simp only [ho, hx, hy, Instr.storeAt, Instr.sureAddr, Sem.run_bind, Sem.run_pure, Result.andThen_ok, hr]
  exact hK _ _ h
theorem info_twists : (Try.prog.info? 75).map (·.size) = some 49 := by kernel_rfl
theorem arrT_one (w : World) (base : Nat) (zs : List Int) (hz : zs.length = 49) (hb : base ≤ w.heap.size) : ArrT (w.alloc (.cells (zs.map intV).toArray 75)) base w.heap.size zs :=
  ⟨by simp [hz], .inr ⟨w.heap.size, 49, (zs.map intV).toArray, rfl, hb, heap_alloc_new w _, Nat.le_refl _, by simp only [maxLen]; omega, by simp [hz], by rw [List.take_of_length_le (by simp [hz])]⟩⟩
theorem arrT_cells (zs : List Int) (hz : zs.length = 49) : (Try.prog.info? 75).map (·.size) = some (zs.map intV).toArray.size ∧ ((zs.map intV).toArray).all (·.oneCell') = true :=
  ⟨by rw [info_twists]; simp [hz], all_oneCell_toArray (intV_one zs)⟩
/-- Part of a table: n numbers from place k on. -/
theorem ArrT.part {w : World} {base g k n c : Nat} {zs : List Int} (h : ArrT w base g zs) (hk : k + n ≤ 49) : PartI w (.slice (some ⟨g, k, none⟩) n c) ((zs.drop k).take n) := by
  have hl := h.len
  have e : ((zs.drop k).take n).length = n := by rw [List.length_take, List.length_drop]; omega
  refine ⟨⟨g, k, none⟩, c, by rw [e], fun j u hu => ?_⟩
  have hj : j < n := by
    have := (List.getElem?_eq_some_iff.1 hu).1
    rw [List.length_map, e] at this
    exact this
  rw [addr_shift, (h.spot (k := k + j) (by omega)).1, ← hu, List.getElem?_map, List.getElem?_take_of_lt hj, List.getElem?_drop, List.getElem?_eq_getElem (by omega), atI_of (by omega : k + j < zs.length)]
  rfl
theorem wpList_partI {w : World} {o : Oper} {a : Act} {Q : Exit → Act → World → Prop} {ops : Array Oper} {rest : List Oper} (hgd : o.guard = none) (s y : Operand) (ho : o.op = .call { callee := .builtin .append, args := #[s, y], argTypes := #[36, 36] })
    (base : Nat) (v x : Value) (xs ys : List Int) (hs : a.eval s = v) (hy : a.eval y = x) (h1 : OwnI w base v xs) (h2 : PartI w x ys) (hl : xs.length + ys.length ≤ 4000000) (hB : base ≤ w.heap.size)
    (h : ∀ v' w', OwnI w' base v' (xs ++ ys) → w.grownBy w' v.ownBlock → (v'.ownBlock = v.ownBlock ∨ v'.ownBlock = some w.heap.size) → wpList Try.prog ops Q rest (a.put o.dst v') w') : wpList Try.prog ops Q (o :: rest) a w := by
  refine wpList_plain hgd fun K hK => ?_
  have := step_partI (ops := #[]) (Q := Q) (K := K) (E := True) hgd s y ho base v x xs ys hs hy h1 h2 hl hB fun v' w' e2 e3 e4 => hK _ _ (h v' w' e2 e3 e4)
  rwa [if_pos (by simp [Region.wanted, hgd])] at this

set_option maxRecDepth 100000 in
set_option maxHeartbeats 800000 in
theorem cloneP_any (x : Value) (ys : List Int) (w : World) (h : PartI w x ys) (hl : ys.length ≤ 3000000) :
    Calls Try.prog 63 #[x] w fun e w' => ∃ v', e = .returned v' ∧ OwnI w' w.heap.size v' ys ∧ Below w.heap.size w w' := by
  obtain ⟨ad, c, rfl, hc⟩ := h
  have PT := Lib.hid ((show PartI w (.slice (some ad) ys.length c) ys from ⟨ad, c, rfl, hc⟩).below ((Below.refl w.heap.size w).alloc (Nat.le_refl _) (.cells #[] 3)))
  have O0 := Lib.hid (show OwnI (w.alloc (.cells #[] 3)) w.heap.size (.slice (some ⟨w.heap.size, 0, none⟩) 0 0) [] from ⟨rfl, .inr ⟨w.heap.size, 0, #[], rfl, Nat.le_refl _, heap_alloc_new w _, Nat.le_refl _, by simp only [maxLen]; omega, rfl, rfl⟩⟩)
  have ke := fun W => Lib.run_eql_slice_nil (P := Try.prog) W 36 3 (some ad) ys.length c 0 0 Try.underlying36
  clear hc
  go_enter Try.func63, Try.ntmps63
  go_wp2_with (at_builtin; refine wpList_partI rfl (.tmp 5) (.tmp 6) rfl w.heap.size (.slice (some ⟨w.heap.size, 0, none⟩) 0 0) (.slice (some ad) ys.length c) [] ys rfl rfl O0.out PT.out ?_ ?_ ?_; (simp; omega); (simp); intro v' w1 own1 hgrow hat)
  go_ret
  refine ⟨_, rfl, own1, ((Below.refl w.heap.size w).alloc (Nat.le_refl _) _).grown hgrow (by simp) (fun k hk => ?_)⟩
  have : w.heap.size = k := by simpa [Value.ownBlock] using hk
  omega
end Go.Proofs.Ythijfipjfdmoeaa

/- The contract of impl.TwistOf. Condition: the crossings lie in a row of their own. -/
namespace Go.Proofs.Ythijfipjfdmoeaa
set_option linter.unusedVariables false
set_option linter.unusedSimpArgs false
open Go.RowKit

theorem info_seven : (Try.prog.info? 73).map (fun i => (i.zero.isSome, i.size)) = some (true, 7) := by kernel_rfl
theorem index_table (w : World) (zs : List Int) (hz : zs.length = 49) (p : Nat) (hp : p < 7) :
    (Instr.index 75 (.agg (zs.map intV).toArray) (.int .i64 (p : Int))).run Try.prog w = .ok (.agg (((zs.drop (p * 7)).take 7).map intV).toArray) w := by
  have hs : (Try.prog.info? 73).map (fun i => (i.zero.isSome, i.size)) = some (true, 7) := info_seven
  cases hq : Try.prog.info? 73 with
  | none => rw [hq] at hs; cases hs
  | some i =>
    rw [hq] at hs
    have h7 : i.size = 7 := by simpa using (congrArg (fun o => o.map (·.2)) hs)
    have h0 : (0 : Int) ≤ (p : Int) := by omega
    have h1 : (p : Int) < 7 := by omega
    have e : ((zs.map intV).toArray.extract (p * 7) (p * 7 + 7)) = (((zs.drop (p * 7)).take 7).map intV).toArray := by
      apply Array.ext'
      simp [List.map_take, List.map_drop]
    simp [Instr.index, run_underlying Try.underlying75, run_underlying Try.underlying73, asIntOf, part, isAgg, sizeOf, typeInfo, hq, h7, h0, h1, Sem.run_bind, Result.andThen, e]
    exact fun hh => absurd hh (by omega)
theorem index_row (w : World) (zs : List Int) (hz : zs.length = 7) (p : Nat) (hp : p < 7) :
    (Instr.index 73 (.agg (zs.map intV).toArray) (.int .i64 (p : Int))).run Try.prog w = .ok (.int .i64 (atI zs p)) w := by
  obtain ⟨i, hi, hz0, hs, hb⟩ := info_parts info_int
  have h0 : (0 : Int) ≤ (p : Int) := by omega
  have h1 : (p : Int) < 7 := by omega
  have e : zs[p]? = some (atI zs p) := by rw [atI_of (by omega : p < zs.length), List.getElem?_eq_getElem (by omega : p < zs.length)]
  simp [Instr.index, run_underlying Try.underlying73, run_underlying Try.underlying3, asIntOf, part, isAgg, sizeOf, typeInfo, hi, hs, h0, h1, Sem.run_bind, Result.andThen, e, hp, intV]

set_option maxRecDepth 100000 in
set_option maxHeartbeats 1600000 in
theorem implTwO (n : Int) (v : Value) (ls : List RCross) (b : Nat) (w : World) (h : OwnCross w b v ls) (hl : ls.length ≤ 2000000) (i k : Int) :
    Calls Try.prog 59 #[.int .i64 n, v, .int .i64 i, .int .i64 k] w fun e w' => e = .returned (.int .i64 (twistOf n ls i k)) ∧ Below w.heap.size w w' := by
  have CK := Lib.hid (implCrOk n v ls b w h hl)
  have CA := Lib.hid (fun W h => implAft n v ls b W h hl)
  have C0 := Lib.hid (fun v lo hi W => (inRange_any v lo hi W).mono fun e w' h => (show _ ∧ W = w' from ⟨h.1, h.2.symm⟩))
  obtain ⟨A, c, rfl⟩ := h.slice
  have O := Lib.hid h
  clear h
  have R := Lib.hid (show twistOf n ls i k = if inB i 0 (((twistTab n ls).length : Int) - 1) = true ∧ inB k 0 (((twistTab n ls).length : Int) - 1) = true then ent (twistTab n ls) i.toNat k.toNat else 0 from rfl)
  cases hc : crossOk n ls with
  | false =>
    have R2 := Lib.hid (show twistOf n ls i k = 0 by
      have e : twistTab n ls = [] := by unfold twistTab; rw [hc]; rfl
      rw [R.out, e, if_neg]
      intro q
      have := of_decide_eq_true (show decide (0 ≤ i ∧ i ≤ ((([] : List (List Int)).length : Nat) : Int) - 1) = true from q.1)
      simp at this
      omega)
    rw [hc] at CK
    go_enter Try.func59, Try.ntmps59
    go_wp2_with (go_at_call 32; refine CK.out.mono ?_; rintro e w1 ⟨rfl, b1⟩; have B1 := Lib.hid b1; clear b1)
    go_ret
    exact ⟨by rw [R2.out]; rfl, B1.out⟩
  | true =>
  obtain ⟨hn7, hnn, h40, -⟩ := ok_fits hc
  obtain ⟨N, hN⟩ : ∃ N : Nat, n = (N : Int) := ⟨n.toNat, hnn.symm⟩
  subst hN
  rw [Int.toNat_natCast] at hn7
  have CA := Lib.hid (fun W h => CA.out W h hc)
  have tl : (twistTab (N : Int) ls).length = N := by
    have := (tab_square hc ls.length (Nat.le_refl _)).len
    unfold twistTab
    rw [if_pos hc, this, Int.toNat_natCast]
  rw [tl] at R
  have te : twistTab (N : Int) ls = tabTo (N : Int) ls ls.length := by unfold twistTab; rw [if_pos hc]
  have EN := Lib.hid (show ∀ p q, p < N → q < N → atI (aftTo (N : Int) ls ls.length) (p * 7 + q) = ent (twistTab (N : Int) ls) p q from fun p q hp hq => by rw [te]; exact aft_ent hc (by rw [Int.toNat_natCast]; exact hp) (by rw [Int.toNat_natCast]; exact hq) ls.length (Nat.le_refl _))
  have al := aft_len (N : Int) ls ls.length
  rw [hc] at CK
  generalize twistTab (N : Int) ls = t at R EN
  generalize aftTo (N : Int) ls ls.length = T at CA EN al
  have e1 : IntKind.i64.wrap ((N : Int) - 1) = (N : Int) - 1 := IntWalk.i64_in _ (by omega)
  clear hc hnn tl te
  cases hi : inB i 0 ((N : Int) - 1) with
  | false =>
    have R2 := Lib.hid (show twistOf (N : Int) ls i k = 0 by rw [R.out, if_neg (by rw [hi]; simp)])
    go_enter Try.func59, Try.ntmps59
    go_wp2_with (first
      | (go_at_call 32; refine CK.out.mono ?_; rintro e w1 ⟨rfl, b1⟩; have B1 := Lib.hid b1; clear b1)
      | (go_at_call 39; refine (C0.out _ _ _ _).mono ?_; rintro e w' ⟨rfl, rfl⟩))
    go_ret
    exact ⟨by rw [R2.out]; rfl, B1.out⟩
  | true =>
  cases hk : inB k 0 ((N : Int) - 1) with
  | false =>
    have R2 := Lib.hid (show twistOf (N : Int) ls i k = 0 by rw [R.out, if_neg (by rw [hk]; simp)])
    go_enter Try.func59, Try.ntmps59
    go_wp2_with (first
      | (go_at_call 32; refine CK.out.mono ?_; rintro e w1 ⟨rfl, b1⟩; have B1 := Lib.hid b1; clear b1)
      | (go_at_call 39; refine (C0.out _ _ _ _).mono ?_; rintro e w' ⟨rfl, rfl⟩))
    go_ret
    exact ⟨by rw [R2.out]; rfl, B1.out⟩
  | true =>
  have R2 := Lib.hid (show twistOf (N : Int) ls i k = ent t i.toNat k.toNat by rw [R.out, if_pos ⟨hi, hk⟩])
  have hir : 0 ≤ i ∧ i ≤ (N : Int) - 1 := by simpa [inB] using hi
  have hkr : 0 ≤ k ∧ k ≤ (N : Int) - 1 := by simpa [inB] using hk
  obtain ⟨p, rfl⟩ := Int.eq_ofNat_of_zero_le hir.1
  obtain ⟨q, rfl⟩ := Int.eq_ofNat_of_zero_le hkr.1
  have hp : p < N := by omega
  have hq : q < N := by omega
  rw [Int.toNat_natCast, Int.toNat_natCast, ← EN.out p q hp hq] at R2
  have l7 : ((T.drop (p * 7)).take 7).length = 7 := by rw [List.length_take, List.length_drop, al]; omega
  have r1 := fun W => index_table W T al p (by omega)
  have r2 := fun W => index_row W ((T.drop (p * 7)).take 7) l7 q (by omega)
  have ev : atI ((T.drop (p * 7)).take 7) q = atI T (p * 7 + q) := by
    rw [atI_of (by omega), atI_of (by omega)]
    rw [List.getElem_take, List.getElem_drop]
  rw [ev] at r2
  generalize ((T.drop (p * 7)).take 7).map intV = row at r1 r2
  have AL := Lib.hid al
  clear EN R al l7 ev hir hkr
  go_enter Try.func59, Try.ntmps59
  go_wp2_with (first
    | (go_at_call 32; refine CK.out.mono ?_; rintro e w1 ⟨rfl, b1⟩; have B1 := Lib.hid b1; clear b1)
    | (go_at_call 39; refine (C0.out _ _ _ _).mono ?_; rintro e w' ⟨rfl, rfl⟩)
    | (go_at_call 57; refine (CA.out _ (O.out.below B1.out)).mono ?_; rintro e w2 ⟨rfl, b2⟩; have B2 := Lib.hid (B1.out.trans (b2.mono B1.out.size)); clear b2))
  go_ret
  exact ⟨by rw [R2.out]; rfl, B2.out⟩
end Go.Proofs.Ythijfipjfdmoeaa
