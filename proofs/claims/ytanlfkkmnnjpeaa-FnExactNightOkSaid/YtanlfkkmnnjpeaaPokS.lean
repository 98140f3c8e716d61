/- The contracts of spec.PlayersOk, l13Knows and LoadOf. Condition: the players and the numbers lie in rows of their own. -/
import Derived.Test.YtanlfkkmnnjpeaaHanM
import Derived.Test.YtanlfkkmnnjpeaaRisS
import Derived.Test.YtanlfkkmnnjpeaaRowI
import Derived.Test.YtanlfkkmnnjpeaaParI
import Derived.BigQuiet
namespace Go.Proofs.Ytanlfkkmnnjpeaa
set_option linter.unusedVariables false
set_option linter.unusedSimpArgs false
open Go.RowKit


set_option maxRecDepth 100000 in
set_option maxHeartbeats 1600000 in
theorem specPOk (v : Value) (ls : List RPlayer) (b : Nat) (w : World) (h : OwnPlayer w b v ls) (hl : ls.length ≤ 2000000) (hr : ∀ k (hk : k < ls.length), ls[k].f0.length ≤ 2000000) :
    Calls Try.prog 45 #[v] w fun e w' => e = .returned (.bool (playersOk ls)) ∧ Below w.heap.size w w' := by
  have C0 := Lib.hid (fun v lo hi W => l01In_any v lo hi W)
  have C1 := Lib.hid (fun u zs W h hz => specRise u zs 6 b W h hz)
  obtain ⟨A, c, rfl⟩ := h.slice
  have O := Lib.hid h
  have HR := Lib.hid hr
  have R1 := Lib.hid (fun (h : ∀ k (hk : k < ls.length), playerFine ls[k] = true) => playersOk_all h)
  have R0 := Lib.hid (fun k (hk : k < ls.length) h => playersOk_bad hk h)
  clear h hr
  go_enter Try.func45, Try.ntmps45
  go_wp2_with fail
  go_loopw [3] (fun iv wr => ∃ k : Nat, k ≤ ls.length ∧ iv = .int .i64 (k : Int) ∧ Hid (∀ i (hi : i < ls.length), i < k → playerFine ls[i] = true) ∧ Hid (Below w.heap.size w wr)) (fun iv _ => ls.length - (intOf iv).toNat)
  case atStart => exact ⟨0, by omega, rfl, Lib.hid (fun i hi h => absurd h (by omega)), Lib.hid (Below.refl _ _)⟩
  case round =>
    obtain ⟨k, hk, rfl, HN, BW⟩ := hrel
    by_cases hlt : k < ls.length
    rotate_left
    · obtain rfl : k = ls.length := by omega
      have R := Lib.hid (R1.out (fun i hi => HN.out i hi hi))
      have C2 := Lib.hid (C0.out (ls.length : Int) 1 6 wr)
      go_wp2_with fail
      refine C2.out.mono ?_
      rintro e w' ⟨rfl, rfl⟩
      go_wp2
      go_ret
      exact ⟨by rw [R.out]; rfl, BW.out⟩
    have hk0 : (0 : Int) ≤ (k : Int) := by omega
    have hk1 : (k : Int) < (ls.length : Int) := by omega
    obtain ⟨g, _, A1, c1, f1, -, ⟨x0, x1⟩, o1, -⟩ := (O.out.below BW.out).spot hlt
    simp only [Value.slice.injEq] at f1
    obtain ⟨rfl, -, rfl⟩ := f1
    have CR := Lib.hid (C1.out _ _ wr o1 (HR.out k hlt))
    have NX := Lib.hid (show playerFine ls[k] = true → ∀ i (hi : i < ls.length), i < k + 1 → playerFine ls[i] = true from fun h i hi hik => by
      rcases (by omega : i < k ∨ i = k) with q | rfl
      · exact HN.out i hi q
      · exact h)
    have RX := Lib.hid (R0.out k hlt)
    have AT := Lib.hid (show playerFine ls[k] = (rising ls[k].f0 6 && inB ls[k].f1 0 2) from rfl)
    have hbs := BW.out.size
    generalize ls[k].f1 = t at x1 AT
    generalize ls[k].f0 = zs at x0 o1 CR AT
    generalize playerFine ls[k] = pf at NX RX AT
    cases hris : rising zs 6 with
    | false =>
      have R := Lib.hid (RX.out (by rw [AT.out, hris]; rfl))
      rw [hris] at CR
      clear o1 NX AT hris
      go_wp2_with fail
      refine CR.out.mono ?_
      rintro e w2 ⟨rfl, b2⟩
      have B2 := Lib.hid (BW.out.trans (b2.mono hbs))
      clear b2 CR
      go_wp2
      go_ret
      exact ⟨by rw [R.out]; rfl, B2.out⟩
    | true =>
      rw [hris] at CR
      have KC := Lib.hid (fun W (hb : Below wr.heap.size wr W) => cell_below x1 hb)
      cases hin : inB t 0 2 with
      | false =>
        have R := Lib.hid (RX.out (by rw [AT.out, hris, hin]; rfl))
        have C2 := Lib.hid (fun W => (hin ▸ C0.out t 0 2 W : Calls Try.prog 48 #[.int .i64 t, .int .i64 0, .int .i64 2] W fun e w' => e = .returned (.bool false) ∧ w' = W))
        clear o1 NX AT hris hin x1
        go_wp2_with fail
        refine CR.out.mono ?_
        rintro e w2 ⟨rfl, b2⟩
        have B2 := Lib.hid (BW.out.trans (b2.mono hbs))
        have x2 := KC.out _ b2
        clear b2 CR
        go_wp2_with fail
        refine (C2.out _).mono ?_
        rintro e w' ⟨rfl, rfl⟩
        go_wp2
        go_ret
        exact ⟨by rw [R.out]; rfl, B2.out⟩
      | true =>
        have N2 := Lib.hid (NX.out (by rw [AT.out, hris, hin]; rfl))
        have C2 := Lib.hid (fun W => (hin ▸ C0.out t 0 2 W : Calls Try.prog 48 #[.int .i64 t, .int .i64 0, .int .i64 2] W fun e w' => e = .returned (.bool true) ∧ w' = W))
        clear o1 NX AT hris hin x1
        go_wp2_with fail
        refine CR.out.mono ?_
        rintro e w2 ⟨rfl, b2⟩
        have B2 := Lib.hid (BW.out.trans (b2.mono hbs))
        have x2 := KC.out _ b2
        clear b2 CR
        go_wp2_with fail
        refine (C2.out _).mono ?_
        rintro e w' ⟨rfl, rfl⟩
        go_wp2
        exact ⟨⟨k + 1, by omega, by go_num, N2, B2⟩, by simp [intOf]; omega⟩

set_option maxRecDepth 100000 in
set_option maxHeartbeats 1600000 in
theorem specKno (l : RPlayer) (u : Value) (x : Int) (b : Nat) (w : World) (h : OwnI w b u l.f0) (hl : l.f0.length ≤ 2000000) :
    Calls Try.prog 49 #[.agg #[u, .int .i64 l.f1], .int .i64 x] w fun e w' => e = .returned (.bool (knowsB l x)) ∧ Below w.heap.size w w' := by
  obtain ⟨A, c, rfl⟩ := h.slice
  obtain ⟨W2, hW⟩ : ∃ W, W = w.alloc (.cells #[.slice A l.f0.length c, .int .i64 l.f1] 71) := ⟨_, rfl⟩
  have BA := Lib.hid (show Below w.heap.size w W2 by rw [hW]; exact (Below.refl w.heap.size w).alloc (Nat.le_refl _) _)
  have H1 := Lib.hid (show OwnI W2 b (.slice A l.f0.length c) l.f0 by rw [hW]; exact h.alloc _)
  have V1 := Lib.hid (show W2.cell? ⟨w.heap.size, 0, none⟩ = some (.slice A l.f0.length c) by rw [hW]; simp [go_sem])
  have HW := Lib.hid hW
  have YES := Lib.hid (fun k hk e => knows_yes (l := l) (x := x) (k := k) hk e)
  have NO := Lib.hid (fun h => knows_no (l := l) (x := x) h)
  clear h hW
  go_enter Try.func49, Try.ntmps49
  go_wp2_with fail
  go_loopw [5] (fun iv wr => wr = W2 ∧ ∃ i : Nat, i ≤ l.f0.length ∧ iv = .int .i64 (i : Int) ∧ Hid (∀ p (hp : p < l.f0.length), p < i → l.f0[p] ≠ x)) (fun iv _ => l.f0.length - (intOf iv).toNat)
  case atStart => exact ⟨HW.out.symm, 0, by omega, rfl, Lib.hid (fun p hp h => absurd h (by omega))⟩
  case round =>
    obtain ⟨rfl, i, hi, rfl, NN⟩ := hrel
    have v1 := V1.out
    by_cases hlt : i < l.f0.length
    rotate_left
    · obtain rfl : i = l.f0.length := by omega
      have R := Lib.hid (NO.out fun p hp => NN.out p hp hp)
      go_wp2
      go_ret
      exact ⟨by rw [R.out]; rfl, BA.out⟩
    have hi0 : (0 : Int) ≤ (i : Int) := by omega
    have hi1 : (i : Int) < (l.f0.length : Int) := by omega
    obtain ⟨g, _, f1, _, _, z0, _⟩ := H1.out.spot hlt
    simp only [Value.slice.injEq] at f1
    obtain ⟨rfl, -, -⟩ := f1
    have YY := Lib.hid (YES.out i hlt)
    have N2 := Lib.hid (show l.f0[i] ≠ x → ∀ p (hp : p < l.f0.length), p < i + 1 → l.f0[p] ≠ x from fun e p hp h => by
      rcases (by omega : p < i ∨ p = i) with c | rfl
      · exact NN.out p hp c
      · exact e)
    generalize l.f0[i] = y at z0 YY N2
    by_cases e : y = x
    · have R := Lib.hid (YY.out e)
      subst e
      have eb : (y == y) = true := by simp
      go_wp2
      go_ret
      exact ⟨by rw [R.out]; rfl, BA.out⟩
    · have N3 := Lib.hid (N2.out e)
      have eb : (y == x) = false := by simpa using e
      go_wp2
      exact ⟨⟨trivial, i + 1, by omega, by go_num, N3⟩, by simp [intOf]; omega⟩
end Go.Proofs.Ytanlfkkmnnjpeaa
