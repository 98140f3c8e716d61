/- Texts of this seat laid together, each with its own first sentence below: ClnI RowRA LngI CgsI ChxM RowRT. -/
import Derived.Test.YtanlfkkmnnjpeaaPk3
import Derived.Test.YtanlfkkmnnjpeaaPk4
import Derived.Test.YtanlfkkmnnjpeaaPk5
import Derived.Test.YtanlfkkmnnjpeaaPk2
import Derived.Shelf.Abstract
/- The contract of the library's slices.Clone at a row of numbers. Condition: the row is the call's own. -/
namespace Go.Proofs.Ytanlfkkmnnjpeaa
set_option linter.unusedVariables false
set_option linter.unusedSimpArgs false
open Go.RowKit

set_option maxHeartbeats 800000 in
theorem cloneI_any (v : Value) (zs : List Int) (base : Nat) (w : World) (hown : OwnI w base v zs) (hl : zs.length ≤ 3000000) :
    Calls Try.prog 66 #[v] w fun e w' => ∃ v', e = .returned v' ∧ OwnI w' w.heap.size v' zs ∧ Below w.heap.size w w' := by
  rcases id hown.2 with ⟨rfl, hn⟩ | ⟨g, cap, cur, rfl, _⟩
  · have hy : zs = [] := List.eq_nil_of_length_eq_zero hn
    subst hy
    have ke := fun W => Lib.run_eql_slice_nil (P := Try.prog) W 33 3 none 0 0 0 0 Try.underlying33
    clear hown hn
    go_enter Try.func66, Try.ntmps66
    go_wp2
    go_ret
    exact ⟨_, rfl, ⟨rfl, .inl ⟨rfl, rfl⟩⟩, Below.refl _ _⟩
  · have OWN := Lib.hid (hown.alloc (.cells #[] 3))
    have O0 := Lib.hid (ownI_empty w w.heap.size w.heap.size #[] rfl (Nat.le_refl _) rfl)
    have ke := fun W => Lib.run_eql_slice_nil (P := Try.prog) W 33 3 (some ⟨g, 0, none⟩) zs.length cap 0 0 Try.underlying33
    clear hown
    go_enter Try.func66, Try.ntmps66
    go_wp2_with (at_builtin; refine wpList_rowsI rfl (.tmp 5) (.tmp 6) rfl w.heap.size base (.slice (some ⟨w.heap.size, 0, none⟩) 0 0) (.slice (some ⟨g, 0, none⟩) zs.length cap) [] zs rfl rfl O0.out OWN.out ?_ ?_ ?_; (simp; omega); (simp); intro v' w1 own1 hgrow hat)
    go_ret
    refine ⟨_, rfl, own1, ((Below.refl w.heap.size w).alloc (Nat.le_refl _) _).grown hgrow (by simp) (fun k hk => ?_)⟩
    have : w.heap.size = k := by simpa [Value.ownBlock] using hk
    omega
end Go.Proofs.Ytanlfkkmnnjpeaa

/- One row of numbers behind an own row of rows. Condition: the new row was made behind the others. -/
namespace Go.Proofs.Ytanlfkkmnnjpeaa
set_option linter.unusedVariables false
set_option linter.unusedSimpArgs false
open Go.RowKit

section
variable {w w' : World} {base : Nat} {v : Value} {vs : List Value} {zss : List (List Int)}
theorem OwnRR.snoc {w0 : World} {u v' : Value} {zs : List Int} (h : OwnRR w0 base v vs zss) (hb : Below w0.heap.size w0 w) (hu : OwnI w w0.heap.size u zs) (hbs : base ≤ w0.heap.size)
    (o : w'.ownsRow base 33 1 v' (zss.length + 1) (vs ++ [u])) (hg : w.grownBy w' v.ownBlock) (hat : v'.ownBlock = v.ownBlock ∨ v'.ownBlock = some w.heap.size) : OwnRR w' base v' (vs ++ [u]) (zss ++ [zs]) := by
  have h1 := h.below hb
  have hbs2 := hb.size
  have lt0 : ∀ i (hi : i < vs.length) b, vs[i].ownBlock = some b → b < w0.heap.size := fun i hi b e => ((h.each i hi (by rw [← h.len]; exact hi)).lt b e).2
  have uoff : u.ownBlock = none ∨ u.ownBlock ≠ v.ownBlock := sep_of fun b e1 e2 => by have := (hu.lt b e1).1; have := (h.lt b e2).2; omega
  refine ⟨by simpa using o, by simp [h.len], fun i hi hi' => ?_, fun i hi => ?_, fun i j hi hj hij => ?_⟩
  · by_cases e : i < vs.length
    · rw [List.getElem_append_left e, List.getElem_append_left (by rw [← h.len]; exact e)]
      exact (h1.each i e (by rw [← h.len]; exact e)).kept hg (h1.off i e)
    · have e2 : i = vs.length := by simp at hi; omega
      subst e2
      have e3 : (zss ++ [zs])[vs.length] = zs := by rw [List.getElem_append_right (by rw [h.len]; exact Nat.le_refl _)]; simp [h.len]
      rw [e3]
      simp only [List.getElem_concat_length]
      exact (hu.mono hbs).kept hg uoff
  · by_cases e : i < vs.length
    · rw [List.getElem_append_left e]
      rcases hat with hat | hat <;> rw [hat]
      · exact h.off i e
      · exact sep_of fun b e1 e2 => by have := lt0 i e b e1; have := Option.some.inj e2; omega
    · have e2 : i = vs.length := by simp at hi; omega
      subst e2
      simp only [List.getElem_concat_length]
      rcases hat with hat | hat <;> rw [hat]
      · exact uoff
      · exact sep_of fun b e1 e2 => by have := (hu.lt b e1).2; have := Option.some.inj e2; omega
  · by_cases e : i < vs.length
    · rw [List.getElem_append_left e]
      by_cases f : j < vs.length
      · rw [List.getElem_append_left f]
        exact h.apart i j e f hij
      · have e2 : j = vs.length := by simp at hj; omega
        subst e2
        simp only [List.getElem_concat_length]
        exact sep_of fun b e1 e2 => by have := (hu.lt b e2).1; have := lt0 i e b e1; omega
    · have e2 : i = vs.length := by simp at hi; omega
      subst e2
      have f : j < vs.length := by simp at hj; omega
      rw [List.getElem_append_left f]
      simp only [List.getElem_concat_length]
      exact sep_of fun b e1 e2 => by have := (hu.lt b e1).1; have := lt0 j f b e2; omega
/-- The append of one row: u was made since w0, where the rows lay. -/
theorem run_rowR {w0 : World} (ty : TypeId) (b2 : Nat) {u x : Value} {zs : List Int} (h : OwnR w0 base v zss) (hb : Below w0.heap.size w0 w) (hu : OwnI w w0.heap.size u zs) (hbs : base ≤ w0.heap.size)
    (hx : w.ownsRow b2 33 1 x 1 [u]) (hl : zss.length ≤ 4000000) :
    ∃ v' w', (Builtin.append_ #[25, 25] ty #[v, x]).run Try.prog w = .ok v' w' ∧ OwnR w' base v' (zss ++ [zs]) ∧ w.grownBy w' v.ownBlock ∧ (v'.ownBlock = v.ownBlock ∨ v'.ownBlock = some w.heap.size) := by
  obtain ⟨i, hi, hz, hs, hbd⟩ := info_parts info_ints
  obtain ⟨vs, h⟩ := h
  obtain ⟨A, c, rfl⟩ := hu.slice
  rcases id hx.2 with ⟨_, hn⟩ | ⟨g, cap, cur, rfl, _⟩
  · omega
  · obtain ⟨v', w', hr, o, g1, _, hat⟩ := run_append_own_at (P := Try.prog) w base 25 ty 33 i (.slice none 0 0) 1 24 Try.underlying25 hi hz hs hbd rfl (by omega) v zss.length vs (h.below hb).row
      ⟨g, 0, none⟩ 1 cap [.slice A zs.length c] (by simp) (World.ownsRow.cells hx rfl) (by simp [Value.oneCell']) (by simp only [maxLen]; omega) (by omega) (Nat.le_trans hbs hb.size)
    exact ⟨v', w', hr, ⟨_, h.snoc hb hu hbs o g1 hat⟩, g1, hat⟩
end
section
variable {w : World} {o : Oper} {a : Act} {Q : Exit → Act → World → Prop}
theorem wpList_rowR {ops : Array Oper} {rest : List Oper} (hgd : o.guard = none) (s y : Operand) (ho : o.op = .call { callee := .builtin .append, args := #[s, y], argTypes := #[25, 25] })
    (w0 : World) (base b2 : Nat) (v x u : Value) (zss : List (List Int)) (zs : List Int) (hs : a.eval s = v) (hy : a.eval y = x) (h1 : OwnR w0 base v zss) (hb : Below w0.heap.size w0 w) (hu : OwnI w w0.heap.size u zs) (hbs : base ≤ w0.heap.size)
    (hx : w.ownsRow b2 33 1 x 1 [u]) (hl : zss.length ≤ 4000000)
    (h : ∀ v' w', OwnR w' base v' (zss ++ [zs]) → w.grownBy w' v.ownBlock → (v'.ownBlock = v.ownBlock ∨ v'.ownBlock = some w.heap.size) → wpList Try.prog ops Q rest (a.put o.dst v') w') : wpList Try.prog ops Q (o :: rest) a w :=
  wpList_plain hgd fun K hK => by
    obtain ⟨v', w', hrun, e2, e3, e4⟩ := run_rowR (ty := o.type) b2 h1 hb hu hbs hx hl
    unfold Oper.wp execOp
    simp only [ho, resolve, invoke, builtin, Sem.run_bind, Sem.run_pure, Result.andThen_ok, List.map_toArray, List.map_cons, List.map_nil, hs, hy, hrun]
    exact hK _ _ (h v' w' e2 e3 e4)
end
theorem emptyR (w : World) (base g : Nat) (cs : Array Value) (hg : g = w.heap.size) (hb : base ≤ g) (hs : cs.size = 0) : OwnR (w.alloc (.cells cs 33)) base (.slice (some ⟨g, 0, none⟩) 0 0) [] := by
  subst hg
  refine ⟨[], ⟨rfl, .inr ⟨w.heap.size, 0, cs, rfl, hb, heap_alloc_new w _, Nat.le_refl _, Nat.zero_le _, by omega, by simp⟩⟩, rfl, fun k hk => absurd hk (by simp), fun k hk => absurd hk (by simp), fun i j hi => absurd hi (by simp)⟩
/-- A new row that holds one value. -/
theorem oneRow (w : World) (u : Value) (b : Nat) (hb : b ≤ w.heap.size) : (w.alloc (.cells #[u] 33)).ownsRow b 33 1 (.slice (some ⟨w.heap.size, 0, none⟩) 1 1) 1 [u] :=
  ⟨rfl, .inr ⟨w.heap.size, 1, #[u], rfl, hb, heap_alloc_new w _, Nat.le_refl _, by simp only [maxLen]; omega, rfl, rfl⟩⟩
theorem twoI (w : World) (base : Nat) (y z : Int) (hb : base ≤ w.heap.size) : OwnI (w.alloc (.cells #[.int .i64 y, .int .i64 z] 3)) base (.slice (some ⟨w.heap.size, 0, none⟩) 2 2) [y, z] :=
  ⟨rfl, .inr ⟨w.heap.size, 2, #[.int .i64 y, .int .i64 z], rfl, hb, heap_alloc_new w _, Nat.le_refl _, by simp only [maxLen]; omega, rfl, rfl⟩⟩
theorem OwnR.mono {w : World} {base b : Nat} {v : Value} {zss : List (List Int)} (h : OwnR w base v zss) (hb : b ≤ base) : OwnR w b v zss := by
  obtain ⟨vs, h⟩ := h
  refine ⟨vs, ?_, h.len, fun k h1 h2 => (h.each k h1 h2).mono hb, h.off, h.apart⟩
  obtain ⟨h1, h2⟩ := h.row
  refine ⟨h1, ?_⟩
  rcases h2 with h2 | ⟨g, cap, cur, e, hg, rest⟩
  · exact .inl h2
  · exact .inr ⟨g, cap, cur, e, Nat.le_trans hb hg, rest⟩
end Go.Proofs.Ytanlfkkmnnjpeaa

/- The contract of the program's longerCastings. Condition: the players, the puppets and the castings are the call's own. -/
namespace Go.Proofs.Ytanlfkkmnnjpeaa
set_option linter.unusedVariables false
set_option linter.unusedSimpArgs false
open Go.RowKit

set_option maxRecDepth 100000 in
set_option maxHeartbeats 3200000 in
theorem implLng (v : Value) (ls : List RPlayer) (b : Nat) (w : World) (h : OwnPlayer w b v ls) (hl : ls.length ≤ 6) (hr : ∀ k (hk : k < ls.length), ls[k].f0.length ≤ 2000000) (u : Value) (qs : List Int) (b2 : Nat) (h2 : OwnI w b2 u qs) (hp : qs.length ≤ 2000000)
    (x : Value) (cs : List (List Int)) (b3 : Nat) (h3 : OwnR w b3 x cs) (hc : cs.length ≤ 2000) (hcr : ∀ k (hk : k < cs.length), cs[k].length ≤ 100) :
    Calls Try.prog 44 #[v, u, x] w (RowsPost w (extTo ls qs cs cs.length)) := by
  have CC := Lib.hid (fun W h h2 y zs b3 h3 hz => implCas v ls b W h (by omega) hr u qs b2 h2 hp y zs b3 h3 hz)
  obtain ⟨A, c, rfl⟩ := h.slice
  obtain ⟨D, d, rfl⟩ := h2.slice
  obtain ⟨X, cx, rfl⟩ := h3.slice
  have O := Lib.hid h
  have P := Lib.hid h2
  have Z := Lib.hid h3
  have HR := Lib.hid hcr
  have TL := Lib.hid (fun j => extTo_len ls qs cs j)
  have TN := Lib.hid (fun j => (show extTo ls qs cs (j + 1) = extTo ls qs cs j ++ extK ls qs (cs.getD j []) ls.length from rfl))
  have KL := Lib.hid (fun c k => extK_len ls qs c k)
  have KN := Lib.hid (fun c k => (show extK ls qs c (k + 1) = if isCasting ls qs (c ++ [(k : Int)]) = true then extK ls qs c k ++ [c ++ [(k : Int)]] else extK ls qs c k from rfl))
  clear h h2 h3 hr hcr
  go_enter Try.func44, Try.ntmps44
  go_wp2_with fail
  go_loopw [7, 14] (fun ov jv wr => ∃ (j : Nat) (vo : Value), vo = ov ∧ j ≤ cs.length ∧ jv = .int .i64 (j : Int) ∧ Hid (OwnR wr w.heap.size vo (extTo ls qs cs j)) ∧ Hid (Below w.heap.size w wr)) (fun _ jv _ => cs.length - (intOf jv).toNat)
  case atStart => exact ⟨0, _, rfl, by omega, rfl, Lib.hid ⟨[], ⟨⟨rfl, .inl ⟨rfl, rfl⟩⟩, rfl, fun k hk => absurd hk (by simp), fun k hk => absurd hk (by simp), fun i j hi => absurd hi (by simp)⟩⟩, Lib.hid (Below.refl _ _)⟩
  case round =>
    obtain ⟨j, vo, rfl, hj, rfl, OO, BW⟩ := hrel
    by_cases hlt : j < cs.length
    rotate_left
    · obtain rfl : j = cs.length := by omega
      go_wp2
      go_ret
      exact ⟨_, rfl, OO.out, BW.out⟩
    have hj0 : (0 : Int) ≤ (j : Int) := by omega
    have hj1 : (j : Int) < (cs.length : Int) := by omega
    obtain ⟨g, _, A1, c1, f1, x0, -, o1⟩ := Z.out.spot hlt
    simp only [Value.slice.injEq] at f1
    obtain ⟨rfl, -, rfl⟩ := f1
    replace x0 := cell_below x0 BW.out
    have hrr := HR.out j hlt
    have ec : cs.getD j [] = cs[j] := by rw [List.getD_eq_getElem?_getD, List.getElem?_eq_getElem hlt]; rfl
    have TX := Lib.hid (TN.out j)
    have tl := TL.out j
    have tm : j * ls.length ≤ 2000 * 6 := Nat.mul_le_mul (by omega) hl
    rw [ec] at TX
    have OC := Lib.hid (fun W (hb : Below w.heap.size w W) => o1.below hb)
    generalize cs[j] = cc at x0 hrr TX OC
    clear o1 ec
    generalize extTo ls qs cs j = E at TX tl OO
    go_wp2_with fail
    have KX := Lib.hid (KN.out cc)
    have KM := Lib.hid (KL.out cc)
    have E0 : Hid (OwnR wr w.heap.size vo (E ++ extK ls qs cc 0)) := Lib.hid (by rw [extK, List.append_nil]; exact OO.out)
    have TE := Lib.hid tl
    clear tl
    go_loopw [7, 20] (fun ov kv wx => ∃ (k : Nat) (vx : Value), vx = ov ∧ k ≤ ls.length ∧ kv = .int .i64 (k : Int) ∧ Hid (OwnR wx w.heap.size vx (E ++ extK ls qs cc k)) ∧ Hid (Below w.heap.size w wx)) (fun _ kv _ => ls.length - (intOf kv).toNat)
    case atStart => exact ⟨0, vo, rfl, by omega, rfl, E0, BW⟩
    case round =>
      clear OO BW E0
      obtain ⟨k, vx, rfl, hk, rfl, OX, BX⟩ := hrel
      by_cases hlk : k < ls.length
      rotate_left
      · obtain rfl : k = ls.length := by omega
        go_wp2
        exact ⟨⟨j + 1, vx, rfl, by omega, by go_num, Lib.hid (by rw [TX.out]; exact OX.out), BX⟩, by simp [intOf]; omega⟩
      have hk0 : (0 : Int) ≤ (k : Int) := by omega
      have hk1 : (k : Int) < (ls.length : Int) := by omega
      have hbx := BX.out.size
      have NX := Lib.hid (KX.out k)
      have km := KM.out k
      have hEl : (E ++ extK ls qs cc k).length ≤ 4000000 := by have := TE.out; rw [List.length_append]; omega
      have CL := Lib.hid (cloneI_any (.slice A1 cc.length c1) cc _ wr (OC.out wr BX.out) (by omega))
      have CQ := Lib.hid (fun W h h2 y b3 h3 => CC.out W h h2 y (cc ++ [(k : Int)]) b3 h3 (by rw [List.length_append, List.length_singleton]; omega))
      clear km
      cases hq : isCasting ls qs (cc ++ [(k : Int)]) with
      | false =>
        have N2 := Lib.hid (show E ++ extK ls qs cc (k + 1) = E ++ extK ls qs cc k by rw [NX.out, hq]; rfl)
        rw [hq] at CQ
        clear hq NX
        go_wp2_with (first
          | (go_at_call 66; refine CL.out.mono ?_; rintro e w4 ⟨v4, rfl, o4, b4⟩; obtain ⟨A4, c4, rfl⟩ := o4.slice; have ON := Lib.hid (oneI w4 w4.heap.size (k : Int) (Nat.le_refl _)); have O4 := Lib.hid o4; have B4 := Lib.hid b4; clear o4 b4)
          | (at_builtin; refine wpList_rowsI rfl (.tmp 24) (.tmp 26) rfl wr.heap.size w4.heap.size _ _ cc [(k : Int)] rfl rfl (O4.out.alloc _) ON.out ?_ ?_ ?_; (simp <;> omega); (have := B4.out.size; simp <;> omega); intro v5 w5 o5 g5 hat5
             have BY := Lib.hid (madeR (B4.out.alloc B4.out.size _) (by have := B4.out.size; simp; omega) (O4.out.alloc _) g5)
             obtain ⟨A5, c5, rfl⟩ := o5.slice
             have O5 := Lib.hid o5
             have B5 := Lib.hid (BX.out.trans (BY.out.mono hbx))
             have CX := Lib.hid (CQ.out w5 (O.out.below B5.out) (P.out.below B5.out) _ _ O5.out)
             clear o5 g5 hat5 O4 B4 ON CL
             generalize hV : (cc ++ [(k : Int)]).length = n5 at O5 CX ⊢)
          | (go_at_call 67; refine CX.out.mono ?_; rintro e w6 ⟨rfl, b6⟩
             have B6 := Lib.hid (BY.out.trans (b6.mono BY.out.size))
             have B7 := Lib.hid (B5.out.trans (b6.mono B5.out.size))
             clear b6 O5 CX BY))
        exact ⟨⟨k + 1, vx, rfl, by omega, by go_num, Lib.hid (by rw [N2.out]; exact OX.out.below B6.out), B7⟩, by simp [intOf]; omega⟩
      | true =>
        have N2 := Lib.hid (show E ++ extK ls qs cc (k + 1) = (E ++ extK ls qs cc k) ++ [cc ++ [(k : Int)]] by rw [NX.out, hq, if_pos rfl, List.append_assoc])
        rw [hq] at CQ
        clear hq NX
        generalize E ++ extK ls qs cc k = F at N2 OX hEl
        go_wp2_with (first
          | (go_at_call 66; refine CL.out.mono ?_; rintro e w4 ⟨v4, rfl, o4, b4⟩; obtain ⟨A4, c4, rfl⟩ := o4.slice; have ON := Lib.hid (oneI w4 w4.heap.size (k : Int) (Nat.le_refl _)); have O4 := Lib.hid o4; have B4 := Lib.hid b4; clear o4 b4)
          | (at_builtin; refine wpList_rowsI rfl (.tmp 24) (.tmp 26) rfl wr.heap.size w4.heap.size _ _ cc [(k : Int)] rfl rfl (O4.out.alloc _) ON.out ?_ ?_ ?_; (simp <;> omega); (have := B4.out.size; simp <;> omega); intro v5 w5 o5 g5 hat5
             have BY := Lib.hid (madeR (B4.out.alloc B4.out.size _) (by have := B4.out.size; simp; omega) (O4.out.alloc _) g5)
             obtain ⟨A5, c5, rfl⟩ := o5.slice
             have O5 := Lib.hid o5
             have B5 := Lib.hid (BX.out.trans (BY.out.mono hbx))
             have CX := Lib.hid (CQ.out w5 (O.out.below B5.out) (P.out.below B5.out) _ _ O5.out)
             clear o5 g5 hat5 O4 B4 ON CL
             generalize hV : (cc ++ [(k : Int)]).length = n5 at O5 CX ⊢)
          | (go_at_call 67; refine CX.out.mono ?_; rintro e w6 ⟨rfl, b6⟩
             have B6 := Lib.hid (BY.out.trans (b6.mono BY.out.size))
             have B7 := Lib.hid (B5.out.trans (b6.mono B5.out.size))
             have O6 := Lib.hid (O5.out.below b6)
             have OR := Lib.hid (oneRow w6 (.slice A5 n5 c5) w6.heap.size (Nat.le_refl _))
             clear b6 O5 CX BY B5)
          | (at_builtin; refine wpList_rowR rfl (.tmp 32) (.tmp 34) rfl wr w.heap.size w6.heap.size _ _ (Value.slice A5 n5 c5) F (cc ++ [(k : Int)]) rfl rfl OX.out (B6.out.alloc B6.out.size _) (O6.out.alloc _) hbx OR.out (by omega) ?_; intro v8 w8 o8 g8 hat8))
        have B8 := Lib.hid ((B7.out.alloc B7.out.size _).grown g8 (by have := B7.out.size; simp; omega) (fun q hq => (OX.out.lt q hq).1))
        exact ⟨⟨k + 1, v8, rfl, by omega, by go_num, Lib.hid (by rw [N2.out]; exact o8), B8⟩, by simp [intOf] <;> omega⟩
end Go.Proofs.Ytanlfkkmnnjpeaa

/- The contract of the program's CastingsOf. Condition: the players and the puppets lie in rows of their own. -/
namespace Go.Proofs.Ytanlfkkmnnjpeaa
set_option linter.unusedVariables false
set_option linter.unusedSimpArgs false
open Go.RowKit

theorem nilR (w : World) (b : Nat) : OwnR w b (.slice none 0 0) [] := ⟨[], ⟨⟨rfl, .inl ⟨rfl, rfl⟩⟩, rfl, fun k hk => absurd hk (by simp), fun k hk => absurd hk (by simp), fun i j hi => absurd hi (by simp)⟩⟩
theorem roomJ {w : World} {b : Nat} {A : Option Addr} {n c : Nat} {zs : List Int} (h : OwnI w b (.slice A n c) zs) : n ≤ c := by
  rcases h.2 with ⟨e, hn⟩ | ⟨g, cap, cur, e, _, _, hc, _⟩
  · simp only [Value.slice.injEq] at e; omega
  · simp only [Value.slice.injEq] at e; omega
/-- A row of one row that lay there before. -/
theorem oneR {w : World} {b t : Nat} {u : Value} {zs : List Int} (h : OwnI w b u zs) (ht : t ≤ b) (hw : t ≤ w.heap.size) : OwnR (w.alloc (.cells #[u] 33)) t (.slice (some ⟨w.heap.size, 0, none⟩) 1 1) [zs] := by
  refine ⟨[u], ⟨oneRow w u t hw, rfl, fun k hk hk' => ?_, fun k hk => ?_, fun i j hi hj hij => ?_⟩⟩
  · obtain rfl : k = 0 := by simpa using hk
    exact (h.mono ht).alloc _
  · obtain rfl : k = 0 := by simpa using hk
    exact sep_of fun q (e1 : u.ownBlock = some q) e2 => by have a := (h.lt q e1).2; have e3 : w.heap.size = q := Option.some.inj e2; omega
  · simp at hi hj
    omega
theorem night_one (ls : List RPlayer) (ps : List Int) : nightOk ls [ps] = (proofOk ls ps && decide (ps.length ≤ 4)) := by
  unfold nightOk proofOk
  rw [List.all_cons, List.all_nil, Bool.and_true, show inB (([ps] : List (List Int)).length : Int) 1 6 = true from rfl, Bool.and_true]
  cases playersOk ls <;> cases rising ps 6 <;> simp

set_option maxRecDepth 100000 in
set_option maxHeartbeats 3200000 in
theorem implCgs (v : Value) (ls : List RPlayer) (b : Nat) (w : World) (h : OwnPlayer w b v ls) (hl : ls.length ≤ 2000000) (hr : ∀ k (hk : k < ls.length), ls[k].f0.length ≤ 2000000) (u : Value) (ps : List Int) (b2 : Nat) (h2 : OwnI w b2 u ps) (hp : ps.length ≤ 2000000) :
    Calls Try.prog 15 #[v, u] w (RowsPost w (castingsOf ls ps)) := by
  have CN := Lib.hid (implNOk v ls b (w.alloc (.cells #[u] 33)) (h.alloc _) hl hr (.slice (some ⟨w.heap.size, 0, none⟩) 1 1) [ps] 0 (oneR h2 (Nat.zero_le _) (Nat.zero_le _)) (by simp) (fun k hk => by
    obtain rfl : k = 0 := by simpa using hk
    exact hp))
  rw [night_one] at CN
  obtain ⟨A, c, rfl⟩ := h.slice
  obtain ⟨D, d, rfl⟩ := h2.slice
  have O := Lib.hid h
  have P := Lib.hid h2
  have B0 := Lib.hid ((Below.refl w.heap.size w).alloc (Nat.le_refl _) (.cells #[.slice D ps.length d] 33))
  cases hok : (proofOk ls ps && decide (ps.length ≤ 4)) with
  | false =>
    have R := Lib.hid (show castingsOf ls ps = [] by unfold castingsOf; rw [hok]; rfl)
    rw [hok] at CN
    clear hok h h2 hr
    go_enter Try.func15, Try.ntmps15
    go_wp2_with (go_at_call 19; refine CN.out.mono ?_; rintro e w1 ⟨rfl, b1⟩; have B1 := Lib.hid (B0.out.trans (b1.mono (by simp))); clear b1)
    go_ret
    exact ⟨_, rfl, by rw [R.out]; exact nilR _ _, B1.out⟩
  | true =>
  rw [Bool.and_eq_true, decide_eq_true_eq] at hok
  obtain ⟨hpo, h4⟩ := hok
  unfold proofOk at hpo
  rw [Bool.and_eq_true] at hpo
  obtain ⟨hpk, hri⟩ := hpo
  rw [show (proofOk ls ps && decide (ps.length ≤ 4)) = true by unfold proofOk; rw [hpk, hri, decide_eq_true h4]; rfl] at CN
  have hn := (playersOk_has hpk).1
  have R := Lib.hid (lay_all hpk hri h4)
  have LX := Lib.hid (fun i (hi : i < ps.length) => lay_next hpk hri hi)
  have L0 := Lib.hid (lay_zero (ps := ps) hpk)
  have LL := Lib.hid (fun i (hi : i ≤ ps.length) => (show (lay ls ps i).length ≤ 2000 from Nat.le_trans (lay_len i) (Nat.le_trans (pow_six hn.2 (show i ≤ 4 by omega)) (by omega))))
  have LR := Lib.hid (fun i (hi : i ≤ ps.length) => (show ∀ k (hk : k < (lay ls ps i).length), (lay ls ps i)[k].length ≤ 100 from fun k hk => by rw [lay_row (List.getElem_mem hk) hi]; omega))
  have HR := Lib.hid hr
  have hrm := roomJ h2
  have CG := Lib.hid (fun (i : Nat) (hi : i < ps.length) W (hb : Below w.heap.size w W) g (hD : D = some ⟨g, 0, none⟩) vo (ho : OwnR W w.heap.size vo (lay ls ps i)) => (show Calls Try.prog 44 #[.slice A ls.length c, .slice (some ⟨g, 0, none⟩) (i + 1) d, vo] W (RowsPost W (lay ls ps (i + 1))) from by
    rw [LX.out i hi]
    exact implLng _ ls b W (O.out.below hb) hn.2 HR.out _ (ps.take (i + 1)) b2 (part_low (n := ps.length) (by rw [← hD]; exact P.out.below hb) (by omega)) (by rw [List.length_take]; omega) vo _ _ ho (LL.out i (by omega)) (LR.out i (by omega))))
  clear h h2 hr LX hpk hri
  go_enter Try.func15, Try.ntmps15
  go_wp2_with (go_at_call 19; refine CN.out.mono ?_; rintro e w1 ⟨rfl, b1⟩; have B1 := Lib.hid (B0.out.trans (b1.mono (by simp))); clear b1)
  have hs1 := B1.out.size
  have O2 : Hid (OwnR ((w1.alloc (.cells #[] 3)).alloc (.cells #[.slice (some ⟨w1.heap.size, 0, none⟩) 0 0] 33)) w.heap.size (.slice (some ⟨w1.heap.size + 1, 0, none⟩) 1 1) (lay ls ps 0)) := Lib.hid (by
    rw [L0.out]
    have q := oneR (ownI_empty w1 w.heap.size w1.heap.size #[] rfl hs1 rfl) (Nat.le_refl _) (by simp; omega)
    simpa using q)
  have B2 : Hid (Below w.heap.size w ((w1.alloc (.cells #[] 3)).alloc (.cells #[.slice (some ⟨w1.heap.size, 0, none⟩) 0 0] 33))) := Lib.hid ((B1.out.alloc hs1 _).alloc (by simp; omega) _)
  clear CN B0 B1 L0
  go_loopw [5, 16] (fun cv iv wr => ∃ (i : Nat) (vo : Value), vo = cv ∧ i ≤ ps.length ∧ iv = .int .i64 (i : Int) ∧ Hid (OwnR wr w.heap.size vo (lay ls ps i)) ∧ Hid (Below w.heap.size w wr)) (fun _ iv _ => ps.length - (intOf iv).toNat)
  case atStart => exact ⟨0, _, rfl, by omega, rfl, O2, B2⟩
  case round =>
    clear O2 B2
    obtain ⟨i, vo, rfl, hi, rfl, OO, BW⟩ := hrel
    by_cases hlt : i < ps.length
    rotate_left
    · obtain rfl : i = ps.length := by omega
      rw [← R.out] at OO
      go_wp2
      go_ret
      exact ⟨_, rfl, OO.out, BW.out⟩
    have hi0 : (0 : Int) ≤ (i : Int) := by omega
    have hi1 : (i : Int) < (ps.length : Int) := by omega
    obtain ⟨g, _, f1, -, -, -, -⟩ := P.out.spot hlt
    simp only [Value.slice.injEq] at f1
    obtain ⟨hD, -, rfl⟩ := f1
    have CX := Lib.hid (CG.out i hlt wr BW.out g hD vo OO.out)
    subst hD
    have ei : IntKind.i64.wrap ((i : Int) + 1) = (i : Int) + 1 := IntWalk.i64_in _ (by omega)
    have hbs := BW.out.size
    have hi2 : (0 : Int) ≤ (i : Int) + 1 := by omega
    have hi3 : (i : Int) + 1 ≤ (d : Int) := by omega
    clear R LL LR CG OO
    go_wp2_with (go_at_call 44; refine CX.out.mono ?_; rintro e w3 ⟨v3, rfl, o3, b3⟩)
    exact ⟨⟨i + 1, v3, rfl, by omega, by go_num, Lib.hid (o3.mono hbs), Lib.hid (BW.out.trans (b3.mono hbs))⟩, by simp [intOf]; omega⟩
end Go.Proofs.Ytanlfkkmnnjpeaa

/- What FnChanges asks: the best night has the fewest changes; no night of castings has fewer. No condition. -/
namespace Go.Proofs.Ytanlfkkmnnjpeaa
set_option linter.unusedVariables false
set_option linter.unusedSimpArgs false
open Go.RowKit

section
variable {ls : List RPlayer} {nt : List (List Int)} (hok : nightOk ls nt = true)
include hok
theorem night_has : (1 ≤ nt.length ∧ nt.length ≤ 6) ∧ playersOk ls = true ∧ ∀ m, m < nt.length → (nt.getD m []).length ≤ 4 ∧ rising (nt.getD m []) 6 = true := by
  unfold nightOk at hok
  rw [Bool.and_eq_true, Bool.and_eq_true, List.all_eq_true] at hok
  obtain ⟨a, b, c⟩ := hok
  have c : (1 : Int) ≤ (nt.length : Int) ∧ (nt.length : Int) ≤ 6 := by simpa [inB] using c
  refine ⟨by omega, b, fun m hm => ?_⟩
  rw [List.getD_eq_getElem?_getD, List.getElem?_eq_getElem hm, Option.getD_some]
  have := a _ (List.getElem_mem hm)
  rw [Bool.and_eq_true, decide_eq_true_eq] at this
  exact this
omit hok in
theorem cs_cast {m : Nat} (hm : m < nt.length) {i : Nat} (hi : i < (csM ls nt m).length) : isCasting ls (nt.getD m []) ((csM ls nt m).getD i []) = true := by
  rw [List.getD_eq_getElem?_getD (l := csM ls nt m), List.getElem?_eq_getElem hi]
  exact castings_mem (List.getElem_mem hi)
omit hok in
theorem cast_len {ps c : List Int} (h : isCasting ls ps c = true) : c.length = ps.length := by
  unfold isCasting at h
  simp only [Bool.and_eq_true, decide_eq_true_eq] at h
  exact h.2.2.1
omit hok in
theorem changes_ge {ps c nx d : List Int} (h1 : ps.length = c.length) (h2 : nx.length = d.length) : 0 ≤ changesB ps c nx d := by
  unfold changesB
  rw [if_pos ⟨h1, h2⟩]
  exact (chTo_small ps c nx d ps.length).1
omit hok in
theorem change_next {m : Nat} (hm : m + 1 < nt.length) {c : List Int} (hc : c.length = (nt.getD m []).length) : ∀ k, k < (csM ls nt (m + 1)).length → 0 ≤ changesB (nt.getD m []) c (nt.getD (m + 1) []) ((csM ls nt (m + 1)).getD k []) := fun k hk =>
  changes_ge hc.symm (cast_len (cs_cast hm hk)).symm
omit hok in
/-- A moment's casting with a way to the end has a next one that takes it on. -/
theorem cost_step {m : Nat} (hm : m + 1 < nt.length) {i : Nat} (hi : i < (csM ls nt m).length) :
    (0 ≤ (costAt ls nt m).getD i 0 → ∃ k, k < (csM ls nt (m + 1)).length ∧ 0 ≤ (costAt ls nt (m + 1)).getD k 0 ∧ (costAt ls nt m).getD i 0 = (costAt ls nt (m + 1)).getD k 0 + changesB (nt.getD m []) ((csM ls nt m).getD i []) (nt.getD (m + 1) []) ((csM ls nt (m + 1)).getD k [])) ∧
    ∀ k, k < (csM ls nt (m + 1)).length → 0 ≤ (costAt ls nt (m + 1)).getD k 0 → 0 ≤ (costAt ls nt m).getD i 0 ∧ (costAt ls nt m).getD i 0 ≤ (costAt ls nt (m + 1)).getD k 0 + changesB (nt.getD m []) ((csM ls nt m).getD i []) (nt.getD (m + 1) []) ((csM ls nt (m + 1)).getD k []) := by
  have H := best_is (row := costAt ls nt (m + 1)) (change_next hm (cast_len (cs_cast (by omega) hi))) (csM ls nt (m + 1)).length (Nat.le_refl _)
  rw [cost_next ls hm hi]
  exact ⟨H.1, H.2.1⟩
omit hok in
/-- Where each moment has a casting, each casting has a way to the end. -/
theorem cost_all (h : ∀ m, m < nt.length → 1 ≤ (csM ls nt m).length) : ∀ j m, m + j + 1 = nt.length → ∀ i, i < (csM ls nt m).length → 0 ≤ (costAt ls nt m).getD i 0 := by
  intro j
  induction j with
  | zero => intro m hm i hi; rw [cost_last ls (by omega) hi]; exact Int.le_refl _
  | succ j ih =>
    intro m hm i hi
    exact ((cost_step (by omega) hi).2 0 (h (m + 1) (by omega)) (ih (m + 1) (by omega) 0 (h (m + 1) (by omega)))).1
omit hok in
/-- A way to the end needs a casting at each moment behind. -/
theorem cost_some : ∀ j m, m + j + 1 = nt.length → ∀ i, i < (csM ls nt m).length → 0 ≤ (costAt ls nt m).getD i 0 → ∀ q, m ≤ q → q < nt.length → 1 ≤ (csM ls nt q).length := by
  intro j
  induction j with
  | zero => intro m hm i hi _ q h1 h2; rw [show q = m by omega]; omega
  | succ j ih =>
    intro m hm i hi h q h1 h2
    rcases (by omega : q = m ∨ m + 1 ≤ q) with rfl | c
    · omega
    · obtain ⟨k, hk, hp, _⟩ := (cost_step (by omega) hi).1 h
      exact ih (m + 1) (by omega) k hk hp q c h2
theorem few_eq : fewest ls nt = fewTo (costAt ls nt 0) (costAt ls nt 0).length := by unfold fewest; rw [if_pos hok]
theorem few_can : 0 ≤ fewest ls nt ↔ ∀ m, m < nt.length → 1 ≤ (csM ls nt m).length := by
  have hn := (night_has hok).1
  rw [few_eq hok]
  have F := few_is (costAt ls nt 0) (costAt ls nt 0).length
  have hl := costAt_len ls (nt := nt) (m := 0) (by omega)
  constructor
  · intro h m hm
    obtain ⟨i, hi, e⟩ := F.1 h
    exact cost_some (nt.length - 1) 0 (by omega) i (by omega) (by omega) m (by omega) hm
  · intro h
    have := cost_all h (nt.length - 1) 0 (by omega) 0 (h 0 (by omega))
    exact (F.2.1 0 (by have := h 0 (by omega); omega) this).1
/-- No choice of castings has fewer changes. -/
theorem few_least (x : Nat → Nat) (hx : ∀ m, m < nt.length → x m < (csM ls nt m).length) (cs : List (List Int)) (hcs : ∀ m, m < nt.length → cs.getD m [] = (csM ls nt m).getD (x m) []) : fewest ls nt ≤ sumCh nt cs nt.length ∧ ∀ m, 1 ≤ m → m < nt.length → 0 ≤ chAt nt cs m := by
  have hn := (night_has hok).1
  have hall := cost_all (ls := ls) (nt := nt) (fun m hm => by have := hx m hm; omega)
  have ch : ∀ m, m + 1 < nt.length → chAt nt cs (m + 1) = changesB (nt.getD m []) ((csM ls nt m).getD (x m) []) (nt.getD (m + 1) []) ((csM ls nt (m + 1)).getD (x (m + 1)) []) := fun m hm => by
    unfold chAt
    rw [Nat.add_sub_cancel, hcs m (by omega), hcs (m + 1) hm]
  -- from moment m on
  have le : ∀ j m, m + j + 1 = nt.length → (costAt ls nt m).getD (x m) 0 + sumCh nt cs (m + 1) ≤ sumCh nt cs nt.length := by
    intro j
    induction j with
    | zero =>
      intro m hm
      rw [cost_last ls (by omega) (hx m (by omega)), show m + 1 = nt.length by omega]
      omega
    | succ j ih =>
      intro m hm
      have a := ih (m + 1) (by omega)
      have b := ((cost_step (by omega) (hx m (by omega))).2 (x (m + 1)) (hx (m + 1) (by omega)) (hall j (m + 1) (by omega) _ (hx (m + 1) (by omega)))).2
      rw [← ch m (by omega)] at b
      rw [show sumCh nt cs (m + 1 + 1) = sumCh nt cs (m + 1) + chAt nt cs (m + 1) by rw [sumCh, if_neg (by omega)]] at a
      omega
  constructor
  · have a := le (nt.length - 1) 0 (by omega)
    have F := few_is (costAt ls nt 0) (costAt ls nt 0).length
    have b := F.2.1 (x 0) (by rw [costAt_len ls (by omega)]; exact hx 0 (by omega)) (hall (nt.length - 1) 0 (by omega) _ (hx 0 (by omega)))
    rw [few_eq hok]
    rw [show sumCh nt cs (0 + 1) = 0 from rfl] at a
    omega
  · intro m h1 h2
    obtain ⟨q, rfl⟩ : ∃ q, m = q + 1 := ⟨m - 1, by omega⟩
    rw [ch q h2]
    exact change_next h2 (cast_len (cs_cast (by omega) (hx q (by omega)))) _ (hx (q + 1) h2)
omit hok in
theorem chAt_app (cs : List (List Int)) (c : List Int) {m : Nat} (hm : m < cs.length) : chAt nt (cs ++ [c]) m = chAt nt cs m := by
  unfold chAt
  rw [List.getD_eq_getElem?_getD (l := cs ++ [c]), List.getElem?_append_left (by omega), List.getD_eq_getElem?_getD (l := cs ++ [c]), List.getElem?_append_left (by omega), ← List.getD_eq_getElem?_getD, ← List.getD_eq_getElem?_getD]
omit hok in
theorem sumCh_app (cs : List (List Int)) (c : List Int) : ∀ m, m ≤ cs.length → sumCh nt (cs ++ [c]) m = sumCh nt cs m := by
  intro m
  induction m with
  | zero => intro _; rfl
  | succ m ih =>
    intro hm
    rw [sumCh, sumCh, ih (by omega), chAt_app cs c (by omega)]
/-- The best night, as far as it has come. -/
structure Come (ls : List RPlayer) (nt : List (List Int)) (m : Nat) : Prop where
  len : (nightTo ls nt m).1.length = m
  cast : ∀ k, k < m → ∃ i, i < (csM ls nt k).length ∧ (nightTo ls nt m).1.getD k [] = (csM ls nt k).getD i []
  last : 1 ≤ m → ∃ i, i < (csM ls nt (m - 1)).length ∧ (nightTo ls nt m).1.getD (m - 1) [] = (csM ls nt (m - 1)).getD i [] ∧ (nightTo ls nt m).2 = (costAt ls nt (m - 1)).getD i 0
  left : 0 ≤ (nightTo ls nt m).2
  sum : sumCh nt (nightTo ls nt m).1 m + (nightTo ls nt m).2 = fewest ls nt
theorem come (hf : 0 ≤ fewest ls nt) : ∀ m, m ≤ nt.length → Come ls nt m := by
  have hn := (night_has hok).1
  intro m
  induction m with
  | zero => intro _; exact ⟨rfl, fun k h => by omega, fun h => by omega, hf, by show (0 : Int) + fewest ls nt = _; omega⟩
  | succ m ih =>
    intro hm
    have K := ih (by omega)
    have ex : ∃ i, i < (csM ls nt m).length ∧ pickAt ls nt m ((nightTo ls nt m).1.getD (m - 1) []) (nightTo ls nt m).2 i = true := by
      by_cases m0 : m = 0
      · subst m0
        have F := few_is (costAt ls nt 0) (costAt ls nt 0).length
        rw [← few_eq hok] at F
        obtain ⟨i, hi, e⟩ := F.1 hf
        refine ⟨i, by rw [← costAt_len ls (by omega)]; exact hi, ?_⟩
        unfold pickAt stepAt
        rw [if_neg (by omega), decide_eq_true (by omega), Bool.true_and, decide_eq_true_eq]
        show 0 + (costAt ls nt 0).getD i 0 = fewest ls nt
        omega
      · obtain ⟨i, hi, e1, e2⟩ := K.last (by omega)
        have hl := K.left
        rw [e2] at hl
        obtain ⟨q, rfl⟩ : ∃ q, m = q + 1 := ⟨m - 1, by omega⟩
        rw [Nat.add_sub_cancel] at hi e1 e2 hl ⊢
        obtain ⟨k, hk, hp, e⟩ := (cost_step (by omega) hi).1 hl
        refine ⟨k, hk, ?_⟩
        unfold pickAt stepAt
        rw [if_pos (by omega), decide_eq_true hp, Bool.true_and, decide_eq_true_eq, Nat.add_sub_cancel, e1, e2]
        omega
    obtain ⟨i0, hi0, hp0⟩ := ex
    obtain ⟨i, hi, e, hp⟩ := firstIx_has hp0 _ hi0
    have eN : nightTo ls nt (m + 1) = ((nightTo ls nt m).1 ++ [(csM ls nt m).getD i []], (costAt ls nt m).getD i 0) := by
      rw [nightTo, e]
    unfold pickAt at hp
    rw [Bool.and_eq_true, decide_eq_true_eq, decide_eq_true_eq] at hp
    have at1 : ∀ k, k < m → ((nightTo ls nt m).1 ++ [(csM ls nt m).getD i []]).getD k [] = (nightTo ls nt m).1.getD k [] := fun k hk => by
      rw [List.getD_eq_getElem?_getD, List.getElem?_append_left (by rw [K.len]; exact hk), ← List.getD_eq_getElem?_getD]
    have at2 : ((nightTo ls nt m).1 ++ [(csM ls nt m).getD i []]).getD m [] = (csM ls nt m).getD i [] := by
      rw [List.getD_eq_getElem?_getD, List.getElem?_append_right (by rw [K.len]; exact Nat.le_refl _), K.len, Nat.sub_self]
      rfl
    refine ⟨by rw [eN, List.length_append, K.len, List.length_singleton], fun k hk => ?_, fun _ => ⟨i, by rw [Nat.add_sub_cancel]; exact hi, ?_, ?_⟩, ?_, ?_⟩
    · rw [eN]
      rcases (by omega : k < m ∨ k = m) with q | rfl
      · obtain ⟨i', a, b⟩ := K.cast k q
        exact ⟨i', a, by rw [at1 k q]; exact b⟩
      · exact ⟨i, hi, at2⟩
    · rw [eN, Nat.add_sub_cancel]; exact at2
    · rw [eN, Nat.add_sub_cancel]
    · rw [eN]; exact hp.1
    · have s := K.sum
      rw [eN]
      show sumCh nt ((nightTo ls nt m).1 ++ [(csM ls nt m).getD i []]) (m + 1) + (costAt ls nt m).getD i 0 = _
      rw [sumCh, sumCh_app _ _ m (by rw [K.len]; exact Nat.le_refl _)]
      by_cases m0 : m = 0
      · subst m0
        have h2 := hp.2
        unfold stepAt at h2
        rw [if_neg (by omega)] at h2
        have e0 : (nightTo ls nt 0).2 = fewest ls nt := rfl
        rw [if_pos rfl]
        omega
      · rw [if_neg m0]
        have h2 := hp.2
        unfold stepAt at h2
        rw [if_pos (by omega)] at h2
        have e3 : chAt nt ((nightTo ls nt m).1 ++ [(csM ls nt m).getD i []]) m = changesB (nt.getD (m - 1) []) ((nightTo ls nt m).1.getD (m - 1) []) (nt.getD m []) ((csM ls nt m).getD i []) := by
          unfold chAt
          rw [at1 (m - 1) (by omega), at2]
        rw [e3]
        omega
end
/-- All that FnChanges asks. -/
structure ChangeFacts (ls : List RPlayer) (nt : List (List Int)) : Prop where
  ok : (bestNight ls nt).2 = decide (0 ≤ fewest ls nt)
  best : 0 ≤ fewest ls nt → (bestNight ls nt).1.length = nt.length ∧ countCh nt (bestNight ls nt).1 = fewest ls nt ∧ ∀ k, k < nt.length → isCasting ls (nt.getD k []) ((bestNight ls nt).1.getD k []) = true
  first : ∀ k, k < nt.length → (csM ls nt k).head? = firstCast ls (nt.getD k [])
  can : 0 ≤ fewest ls nt ↔ ∀ k, k < nt.length → ∃ x, firstCast ls (nt.getD k []) = some x
  least : ∀ cs : List (List Int), cs.length = nt.length → (∀ k, k < nt.length → firstCast ls (nt.getD k []) = some (cs.getD k [])) → fewest ls nt ≤ countCh nt cs
theorem changeFacts {ls : List RPlayer} {nt : List (List Int)} (hok : nightOk ls nt = true) : ChangeFacts ls nt := by
  obtain ⟨hn, hp, hm⟩ := night_has hok
  have hpk : ∀ m, m < nt.length → proofOk ls (nt.getD m []) = true := fun m h => by unfold proofOk; rw [hp, (hm m h).2]; rfl
  have hfirst : ∀ k, k < nt.length → (csM ls nt k).head? = firstCast ls (nt.getD k []) := fun k hk => castings_head (hpk k hk) (hm k hk).1
  have hone : ∀ k, k < nt.length → (1 ≤ (csM ls nt k).length ↔ ∃ x, firstCast ls (nt.getD k []) = some x) := fun k hk => by
    rw [← hfirst k hk]
    cases csM ls nt k with
    | nil => exact ⟨fun h => by simp at h, fun ⟨x, h⟩ => by cases h⟩
    | cons c l => exact ⟨fun _ => ⟨c, rfl⟩, fun _ => by simp⟩
  refine ⟨?_, fun hf => ?_, hfirst, ?_, fun cs hl hc => ?_⟩
  · unfold bestNight
    by_cases c : fewest ls nt < 0
    · rw [if_pos c, decide_eq_false (by omega)]
    · rw [if_neg c, decide_eq_true (by omega)]
  · have K := come hok hf nt.length (Nat.le_refl _)
    have e : (bestNight ls nt).1 = (nightTo ls nt nt.length).1 := by unfold bestNight; rw [if_neg (by omega)]
    rw [e]
    have K0 := K.last hn.1
    obtain ⟨i, hi, e1, e2⟩ := K0
    rw [cost_last ls (by omega) hi] at e2
    refine ⟨K.len, ?_, fun k hk => ?_⟩
    · have s := K.sum
      rw [e2] at s
      unfold countCh
      rw [if_pos]
      · omega
      · rw [Bool.and_eq_true, decide_eq_true_eq, List.all_eq_true]
        refine ⟨K.len.symm, fun m hmm => ?_⟩
        have hmm := List.mem_range.1 hmm
        by_cases m0 : m = 0
        · subst m0; rfl
        · rw [decide_eq_false m0, Bool.false_or, decide_eq_true_eq]
          obtain ⟨i1, a1, b1⟩ := K.cast (m - 1) (by omega)
          obtain ⟨i2, a2, b2⟩ := K.cast m hmm
          unfold chAt
          rw [b1, b2]
          exact changes_ge (cast_len (cs_cast (by omega) a1)).symm (cast_len (cs_cast hmm a2)).symm
    · obtain ⟨i, a, b⟩ := K.cast k hk
      rw [b]
      exact cs_cast hk a
  · rw [few_can hok]
    exact ⟨fun h k hk => (hone k hk).1 (h k hk), fun h k hk => (hone k hk).2 (h k hk)⟩
  · have L := few_least hok (fun _ => 0) (fun m h => (hone m h).2 ⟨_, hc m h⟩) cs (fun m h => by
      have a := hfirst m h
      rw [hc m h] at a
      cases d : csM ls nt m with
      | nil => rw [d] at a; cases a
      | cons c l => rw [d] at a; exact (Option.some.inj a).symm)
    unfold countCh
    rw [if_pos]
    · exact L.1
    · rw [Bool.and_eq_true, decide_eq_true_eq, List.all_eq_true]
      refine ⟨hl.symm, fun m hmm => ?_⟩
      have hmm := List.mem_range.1 hmm
      by_cases m0 : m = 0
      · subst m0; rfl
      · rw [decide_eq_false m0, Bool.false_or, decide_eq_true_eq]
        exact L.2 m (by omega) hmm
end Go.Proofs.Ytanlfkkmnnjpeaa

/- How many numbers the first rows hold; how an own row of rows is kept where one row or another block is written. Condition: the rows are the call's own. -/
namespace Go.Proofs.Ytanlfkkmnnjpeaa
set_option linter.unusedVariables false
set_option linter.unusedSimpArgs false
open Go.RowKit

/-- How many numbers the first k rows hold. -/
def upTo (zss : List (List Int)) : Nat → Nat
  | 0 => 0
  | k + 1 => upTo zss k + (zss.getD k []).length
theorem upTo_more {zss : List (List Int)} {k : Nat} (h : k < zss.length) : upTo zss (k + 1) = upTo zss k + zss[k].length := by
  rw [upTo, List.getD_eq_getElem?_getD, List.getElem?_eq_getElem h]
  rfl
theorem upTo_mono (zss : List (List Int)) {j k : Nat} (h : j ≤ k) : upTo zss j ≤ upTo zss k := by
  induction k with
  | zero => rw [Nat.le_zero.1 h]; exact Nat.le_refl _
  | succ k ih =>
    rcases Nat.lt_or_ge j (k + 1) with c | c
    · have := ih (by omega)
      rw [upTo]
      omega
    · rw [show j = k + 1 by omega]; exact Nat.le_refl _
section
variable {w w' : World} {base : Nat} {v : Value} {vs : List Value} {zss : List (List Int)}
theorem sep_none {a r : Option Nat} (h : r = none ∨ r ≠ a) : a = none ∨ a ≠ r := by
  rcases h with rfl | h
  · cases a <;> simp
  · exact .inr (Ne.symm h)
/-- The numbers of one row change. -/
theorem OwnRR.turn {k : Nat} {zs : List Int} (h : OwnRR w base v vs zss) (hk : k < vs.length) (hu : OwnI w' base vs[k] zs) (hg : w.grownBy w' vs[k].ownBlock) : OwnRR w' base v vs (zss.set k zs) := by
  refine ⟨?_, by rw [List.length_set]; exact h.len, fun i hi hi' => ?_, h.off, h.apart⟩
  · rw [List.length_set]
    exact World.ownsRow.kept h.row hg (sep_none (h.off k hk))
  · rw [List.length_set] at hi'
    by_cases e : k = i
    · subst e
      rw [List.getElem_set_self]
      exact hu
    · rw [List.getElem_set_ne e]
      exact (h.each i hi hi').kept hg (h.apart i k hi hk (Ne.symm e))
/-- A write into a block that is older than all of them. -/
theorem OwnR.older {row : Option Nat} (h : OwnR w base v zss) (hg : w.grownBy w' row) (hr : ∀ k, row = some k → k < base) : OwnR w' base v zss := by
  obtain ⟨vs, h⟩ := h
  refine ⟨vs, World.ownsRow.kept h.row hg (sep_of fun b e1 e2 => by have := (h.lt b e1).1; have := hr b e2; omega), h.len, fun i hi hi' => ?_, h.off, h.apart⟩
  exact (h.each i hi hi').kept hg (sep_of fun b e1 e2 => by have := ((h.each i hi hi').lt b e1).1; have := hr b e2; omega)
/-- A write into a block that is newer than all of them. -/
theorem OwnR.newer {row : Option Nat} {top : Nat} {w0 : World} (h0 : OwnR w0 base v zss) (hb : Below w0.heap.size w0 w) (hg : Below top w w') (ht : w0.heap.size ≤ top) : OwnR w' base v zss := h0.below (hb.trans (hg.mono ht))
end
theorem up_le {zss : List (List Int)} {m : Nat} (h : ∀ k (hk : k < zss.length), zss[k].length ≤ m) : upTo zss zss.length ≤ zss.length * m := by
  have : ∀ k, k ≤ zss.length → upTo zss k ≤ k * m := by
    intro k
    induction k with
    | zero => intro _; exact Nat.zero_le _
    | succ k ih =>
      intro hk
      have h1 := ih (by omega)
      have h2 := h k (by omega)
      rw [upTo_more (by omega), Nat.succ_mul]
      omega
  exact this _ (Nat.le_refl _)
end Go.Proofs.Ytanlfkkmnnjpeaa
