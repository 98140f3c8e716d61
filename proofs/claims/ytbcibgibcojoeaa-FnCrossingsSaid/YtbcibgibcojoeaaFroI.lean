/- The contract of impl.CountFront. Condition: the crossings lie in a row of their own. -/
import Derived.Test.YtbcibgibcojoeaaPaiI
import Derived.Test.YtbcibgibcojoeaaPrsM
namespace Go.Proofs.Ytbcibgibcojoeaa
set_option linter.unusedVariables false
set_option linter.unusedSimpArgs false
open Go.RowKit

set_option maxRecDepth 100000 in
set_option maxHeartbeats 1600000 in
theorem implFront (n : Int) (v : Value) (ls : List RCross) (b : Nat) (w : World) (h : OwnCross w b v ls) (hl : ls.length ≤ 2000000) (p : Int) :
    Calls Try.prog 18 #[.int .i64 n, v, .int .i64 p] w fun e w' => e = .returned (.int .i64 (countFront n ls p)) ∧ Below w.heap.size w w' := by
  have CK := Lib.hid (fun W h => implCrOk n v ls b W h hl)
  have PR := Lib.hid (fun W h => implPairs n v ls b W h hl)
  have C0 := Lib.hid (fun v lo hi W => (inRange_any v lo hi W).mono fun e w' h => (show _ ∧ W = w' from ⟨h.1, h.2.symm⟩))
  have O := Lib.hid h
  obtain ⟨A, c, rfl⟩ := h.slice
  clear h
  cases hc : crossOk n ls with
  | false =>
    have R := Lib.hid (show countFront n ls p = -1 by unfold countFront; rw [hc]; simp)
    rw [hc] at CK
    go_enter Try.func18, Try.ntmps18
    go_wp2_with (go_at_call 19; refine (CK.out _ O.out).mono ?_; rintro e w1 ⟨rfl, b1⟩; have B1 := Lib.hid b1; clear b1)
    go_ret
    exact ⟨by rw [R.out]; rfl, B1.out⟩
  | true =>
    have hn := (crossOk_has hc).1
    have hn' : 1 ≤ n ∧ n ≤ 7 := by
      unfold inB at hn
      exact of_decide_eq_true hn
    have h40 := (crossOk_has hc).2.1
    have e1 : IntKind.i64.wrap (n - 1) = n - 1 := IntWalk.i64_in _ (by omega)
    rw [hc] at CK
    cases hp : inB p 0 (n - 1) with
    | false =>
      have R := Lib.hid (show countFront n ls p = -1 by unfold countFront; rw [hp]; simp)
      clear hc hn
      go_enter Try.func18, Try.ntmps18
      go_wp2_with (first | (go_at_call 19; refine (CK.out _ O.out).mono ?_; rintro e w1 ⟨rfl, b1⟩; have B1 := Lib.hid b1; clear b1) | (go_at_call 48; refine (C0.out _ _ _ _).mono ?_; rintro e w' ⟨rfl, rfl⟩; rw [hp]))
      go_ret
      exact ⟨by rw [R.out]; rfl, B1.out⟩
    | true =>
      have R := Lib.hid (show countFront n ls p = (frontTo p (pairsOf n ls) (pairsOf n ls).length : Int) by unfold countFront; rw [if_pos ⟨hc, hp⟩])
      have PL := pairsOf_len n ls
      have P2 := Lib.hid (fun k h => pairsOf_two n ls k h)
      have FM := Lib.hid (fun k (h : k < (pairsOf n ls).length) => frontTo_more p h)
      have F0 := Lib.hid (show frontTo p (pairsOf n ls) 0 = 0 from rfl)
      generalize pairsOf n ls = zss at R PL P2 FM F0 PR
      clear hc hn
      go_enter Try.func18, Try.ntmps18
      go_wp2_with (first | (go_at_call 19; refine (CK.out _ O.out).mono ?_; rintro e w1 ⟨rfl, b1⟩; have B1 := Lib.hid b1; clear b1) | (go_at_call 48; refine (C0.out _ _ _ _).mono ?_; rintro e w' ⟨rfl, rfl⟩; rw [hp]))
      refine (PR.out _ (O.out.below B1.out)).mono ?_
      rintro e w2 ⟨v2, rfl, o2, b2⟩
      have B2 := Lib.hid (B1.out.trans (b2.mono B1.out.size))
      have OP := Lib.hid o2
      obtain ⟨A2, c2, rfl⟩ := o2.slice
      clear o2 b2 B1 CK PR
      go_wp2_with fail
      go_loopw [7, 25] (fun ov iv wr => ∃ k : Nat, k ≤ zss.length ∧ iv = .int .i64 (k : Int) ∧ ov = .int .i64 (frontTo p zss k : Int) ∧ frontTo p zss k ≤ k ∧ Hid (Below w2.heap.size w2 wr)) (fun _ iv _ => zss.length - (intOf iv).toNat)
      case atStart => exact ⟨0, by omega, rfl, by rw [F0.out]; rfl, by rw [F0.out]; omega, Lib.hid (Below.refl _ _)⟩
      case round =>
        obtain ⟨k, hk, rfl, rfl, hf, BW⟩ := hrel
        by_cases hlt : k < zss.length
        rotate_left
        · obtain rfl : k = zss.length := by omega
          go_wp2
          go_ret
          exact ⟨by rw [R.out]; rfl, B2.out.trans (BW.out.mono B2.out.size)⟩
        have hk0 : (0 : Int) ≤ (k : Int) := by omega
        have hk1 : (k : Int) < (zss.length : Int) := by omega
        obtain ⟨g, _, AR, cR, f1, rc, _, ro⟩ := (OP.out.below BW.out).spot hlt
        simp only [Value.slice.injEq] at f1
        obtain ⟨rfl, -, rfl⟩ := f1
        have h2 := P2.out k hlt
        obtain ⟨gr, _, f2, _, _, z0, _⟩ := ro.spot (k := 0) (by omega)
        simp only [Value.slice.injEq] at f2
        obtain ⟨rfl, -, rfl⟩ := f2
        have fm := FM.out k hlt
        rw [atI_of (by omega : 0 < zss[k].length)] at fm
        rw [h2] at rc
        clear ro
        generalize zss[k][0] = q at z0 fm
        clear h2
        by_cases hq : q = p
        · subst hq
          rw [if_pos rfl] at fm
          have G := Lib.hid fm
          clear fm
          generalize frontTo q zss k = t at hf G ⊢
          have e2 : IntKind.i64.wrap ((t : Int) + 1) = (t : Int) + 1 := IntWalk.i64_in _ (by omega)
          go_wp2
          exact ⟨⟨k + 1, by omega, by go_num, by rw [G.out]; go_num, by rw [G.out]; omega, BW⟩, by simp [intOf]; omega⟩
        · rw [if_neg hq] at fm
          have G := Lib.hid fm
          clear fm
          generalize frontTo p zss k = t at hf G ⊢
          go_wp2
          exact ⟨⟨k + 1, by omega, by go_num, by rw [G.out]; go_num, by rw [G.out]; omega, BW⟩, by simp [intOf]; omega⟩
end Go.Proofs.Ytbcibgibcojoeaa
