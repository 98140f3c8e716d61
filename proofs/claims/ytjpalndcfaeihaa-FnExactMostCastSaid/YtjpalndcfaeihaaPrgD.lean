/- The contract of the program's MostCast: puppets are kept one by one. Condition: the players and the numbers lie in rows of their own. -/
import Derived.Test.YtjpalndcfaeihaaPrgB
import Derived.Test.YtjpalndcfaeihaaGrdM
import Derived.Test.YtjpalndcfaeihaaHaeI
namespace Go.Proofs.Ytjpalndcfaeihaa
set_option linter.unusedVariables false
set_option linter.unusedSimpArgs false
open Go.RowKit

/-- One number behind an own row: what stood in the row before stands there still. -/
theorem run_snocI (w : World) (ty : TypeId) (base b2 : Nat) (v x : Value) (xs : List Int) (z : Int) (h1 : OwnI w base v xs) (h2 : OwnI w b2 x [z]) (hl : xs.length + 1 ≤ 4000000) (hB : base ≤ w.heap.size) :
    ∃ v' w', (Builtin.append_ #[25, 25] ty #[v, x]).run Try.prog w = .ok v' w' ∧ OwnI w' base v' (xs ++ [z]) ∧ OwnI w' base v xs ∧ w.grownBy w' v.ownBlock := by
  obtain ⟨v', w', hr, o, g1, _⟩ := run_rowsI w ty base b2 v x xs [z] h1 h2 hl hB
  refine ⟨v', w', hr, o, ?_, g1⟩
  obtain ⟨i, hi, hz, hs, hb⟩ := info_parts info_int
  have hu : Try.prog.underlying 25 = some (.slice 3) := Try.underlying25
  obtain ⟨gx, capx, curx, ex, _⟩ : ∃ g cap cur, x = .slice (some ⟨g, 0, none⟩) 1 cap ∧ w.heap[g]? = some (.cells cur 3 (0, 0)) := by
    rcases h2.2 with ⟨_, q⟩ | ⟨g, cap, cur, e, _, hg, _⟩
    · cases q
    · exact ⟨g, cap, cur, e, hg⟩
  subst ex
  have hnews : ∀ j u, ([z].map intV)[j]? = some u → w.cell? ((⟨gx, 0, none⟩ : Addr).add j) = some u := World.ownsRow.cells h2 rfl
  rcases h1.2 with ⟨rfl, hn⟩ | ⟨g, cap, cur, rfl, hbg, hg, hnc, hcm, hcs, htake⟩
  · obtain rfl : xs = [] := List.eq_nil_of_length_eq_zero hn
    exact ⟨rfl, .inl ⟨rfl, rfl⟩⟩
  · by_cases hroom : xs.length + 1 ≤ cap
    · have hr2 := run_append_room (P := Try.prog) w 25 ty 3 i hu hi g xs.length cap cur hg ⟨gx, 0, none⟩ 1 capx ([z].map intV) (by rw [hs]; rfl) hnews (intV_one [z]) hroom (by
        rw [hs]; rw [hcs]; simp; omega)
      rw [hr2] at hr
      injection hr with e1 e2
      subst e1
      have q := part_low (k := xs.length) o (by simp)
      rw [List.take_left] at q
      exact q
    · have hr2 := run_append_grow (P := Try.prog) w 25 ty 3 i (.int .i64 0) hu hi hz ⟨g, 0, none⟩ xs.length cap (xs.map intV) (by rw [hs]; simp) (World.ownsRow.cells h1 rfl) ⟨gx, 0, none⟩ 1 capx ([z].map intV) (by rw [hs]; rfl) hnews (by omega) (by omega) (growslice_fits (by omega) (by rw [hb]; omega))
      rw [hr2] at hr
      injection hr with e1 e2
      subst e2
      exact h1.kept (row := none) ⟨rfl, rfl, rfl, by simp, fun k hk _ => heap_alloc_old w.drew _ hk⟩ (.inr (by simp [Value.ownBlock]))
theorem wpList_snocI {w : World} {o : Oper} {a : Act} {Q : Exit → Act → World → Prop} {ops : Array Oper} {rest : List Oper} (hgd : o.guard = none) (s y : Operand) (ho : o.op = .call { callee := .builtin .append, args := #[s, y], argTypes := #[25, 25] })
    (base b2 : Nat) (v x : Value) (xs : List Int) (z : Int) (hs : a.eval s = v) (hy : a.eval y = x) (h1 : OwnI w base v xs) (h2 : OwnI w b2 x [z]) (hl : xs.length + 1 ≤ 4000000) (hB : base ≤ w.heap.size)
    (h : ∀ v' w', OwnI w' base v' (xs ++ [z]) → OwnI w' base v xs → w.grownBy w' v.ownBlock → wpList Try.prog ops Q rest (a.put o.dst v') w') : wpList Try.prog ops Q (o :: rest) a w := by
  refine wpList_plain hgd fun K hK => ?_
  obtain ⟨v', w', hrun, e2, e3, e4⟩ := run_snocI w o.type base b2 v x xs z h1 h2 hl hB
  unfold Oper.wp execOp
  simp only [ho, resolve, invoke, builtin, Sem.run_bind, Sem.run_pure, Result.andThen_ok, List.map_toArray, List.map_cons, List.map_nil, hs, hy, hrun]
  exact hK _ _ (h v' w' e2 e3 e4)

set_option maxRecDepth 100000 in
set_option maxHeartbeats 1600000 in
theorem implMos (v : Value) (ls : List RPlayer) (b : Nat) (w : World) (h : OwnPlayer w b v ls) (hl : ls.length ≤ 2000000) (hr : ∀ k (hk : k < ls.length), ls[k].f0.length ≤ 2000000) (u : Value) (ps : List Int) (b2 : Nat) (h2 : OwnI w b2 u ps) (hp : ps.length ≤ 2000000) :
    Calls Try.prog 13 #[v, u] w fun e w' => e = .returned (.int .i64 (mostCast ls ps)) ∧ Below w.heap.size w w' := by
  have CH := Lib.hid (implHan v ls b w h hl hr u ps b2 h2 hp)
  have CF := Lib.hid (fun W h vp zs b3 h3 hz => implFst v ls b W h hl hr vp zs b3 h3 hz)
  obtain ⟨A, c, rfl⟩ := h.slice
  obtain ⟨D, d, rfl⟩ := h2.slice
  have O := Lib.hid h
  have P := Lib.hid h2
  clear h h2 hr
  cases hok : proofOk ls ps with
  | false =>
    have R := Lib.hid (show mostCast ls ps = -1 by unfold mostCast; rw [hok]; rfl)
    have N := Lib.hid (show handsFor ls ps = -1 by unfold handsFor; rw [hok]; rfl)
    rw [N.out] at CH
    clear hok
    go_enter Try.func13, Try.ntmps13
    go_wp2_with (go_at_call 17; refine CH.out.mono ?_; rintro e w1 ⟨rfl, b1⟩; have B1 := Lib.hid b1; clear b1)
    go_ret
    exact ⟨by rw [R.out]; try rfl, B1.out⟩
  | true =>
    have hp7 := proof_len hok
    have hf0 : 0 ≤ handsFor ls ps := by
      have hpo : playersOk ls = true := by
        have q := hok
        unfold proofOk at q
        rw [Bool.and_eq_true] at q
        exact q.1
      unfold handsFor
      rw [if_pos hok]
      exact (hfor_small hpo ps ls.length (Nat.le_refl _)).1
    have R := Lib.hid (grd_most hok)
    have GL := Lib.hid (grd_len ls ps)
    generalize handsFor ls ps = hf at hf0 CH
    have hfn : (hf == (-1 : Int)) = false := by rw [beq_eq_false_iff_ne]; omega
    clear hok
    go_enter Try.func13, Try.ntmps13
    go_wp2_with (go_at_call 17; refine CH.out.mono ?_; rintro e w1 ⟨rfl, b1⟩; have B1 := Lib.hid b1; clear b1)
    go_loopw [5, 17] (fun ov kv wr => ∃ (k : Nat) (vo : Value), vo = ov ∧ k ≤ ps.length ∧ kv = .int .i64 (k : Int) ∧ Hid (OwnI wr w.heap.size vo (grd ls ps k)) ∧ Hid (Below w.heap.size w wr)) (fun _ kv _ => ps.length - (intOf kv).toNat)
    case atStart => exact ⟨0, _, rfl, by omega, rfl, Lib.hid ⟨rfl, .inl ⟨rfl, rfl⟩⟩, B1⟩
    case round =>
      clear B1 CH
      obtain ⟨k, vo, rfl, hk, rfl, OO, BW⟩ := hrel
      by_cases hlt : k < ps.length
      rotate_left
      · obtain rfl : k = ps.length := by omega
        obtain ⟨A3, c3, rfl⟩ := OO.out.slice
        generalize (grd ls ps ps.length).length = n at R
        go_wp2
        go_ret
        exact ⟨by rw [R.out]; try rfl, BW.out⟩
      have hk0 : (0 : Int) ≤ (k : Int) := by omega
      have hk1 : (k : Int) < (ps.length : Int) := by omega
      have hbs := BW.out.size
      have gl := GL.out k
      have NX := Lib.hid (show grd ls ps (k + 1) = if (castR (firstCast ls (grd ls ps k ++ [ps.getD k 0]))).2 = true then grd ls ps k ++ [ps.getD k 0] else grd ls ps k from rfl)
      obtain ⟨gp, _, f1, -, -, z0, -⟩ := (P.out.below BW.out).spot hlt
      simp only [Value.slice.injEq] at f1
      obtain ⟨rfl, -, rfl⟩ := f1
      rw [show ps[k] = ps.getD k 0 from by rw [List.getD_eq_getElem?_getD, List.getElem?_eq_getElem hlt]; rfl] at z0
      generalize ps.getD k 0 = x at z0 NX
      have O3 := Lib.hid OO.out
      have ON := Lib.hid (oneI wr wr.heap.size x (Nat.le_refl _))
      generalize grd ls ps k = xs at NX O3 OO gl
      go_wp2_with (at_builtin; refine wpList_snocI rfl (.tmp 21) (.tmp 23) rfl w.heap.size wr.heap.size _ _ xs x rfl rfl (O3.out.alloc _) ON.out ?_ ?_ ?_; (simp <;> omega); (simp <;> omega); intro v4 w4 o4 p4 g4; have O4 := Lib.hid o4; have P4 := Lib.hid p4; have B4 := Lib.hid (madeR (BW.out.alloc hbs _) (by simp; omega) (O3.out.alloc _) g4); clear o4 p4 g4)
      obtain ⟨A4, c4, e4⟩ := O4.out.slice
      subst e4
      have C3 := Lib.hid (CF.out w4 (O.out.below B4.out) _ _ _ O4.out (by rw [List.length_append, List.length_singleton]; omega))
      generalize (xs ++ [x]).length = n4 at C3 O4 ⊢
      generalize castR (firstCast ls (xs ++ [x])) = r at NX C3
      obtain ⟨rx, rb⟩ := r
      cases rb with
      | false =>
        rw [if_neg (by simp)] at NX
        go_wp2_with fail
        refine C3.out.mono ?_
        rintro e w3 ⟨v3, rfl, o3, b3⟩
        have B3 := Lib.hid (B4.out.trans (b3.mono B4.out.size))
        have O5 := Lib.hid (P4.out.below b3)
        rw [← NX.out] at O5
        clear b3 o3
        go_wp2
        exact ⟨⟨k + 1, _, rfl, by omega, by go_num, O5, B3⟩, by simp [intOf]; omega⟩
      | true =>
        rw [if_pos rfl] at NX
        go_wp2_with fail
        refine C3.out.mono ?_
        rintro e w3 ⟨v3, rfl, o3, b3⟩
        have B3 := Lib.hid (B4.out.trans (b3.mono B4.out.size))
        have O5 := Lib.hid (O4.out.below b3)
        rw [← NX.out] at O5
        clear b3 o3
        go_wp2
        exact ⟨⟨k + 1, _, rfl, by omega, by go_num, O5, B3⟩, by simp [intOf]; omega⟩
end Go.Proofs.Ytjpalndcfaeihaa
