/- The contract of the program's NightOk. Condition: the players and the rows of numbers are the call's own. -/
import Derived.Test.YtanlfkkmnnjpeaaNokS
import Derived.Test.YtanlfkkmnnjpeaaPoyA
namespace Go.Proofs.Ytanlfkkmnnjpeaa
set_option linter.unusedVariables false
set_option linter.unusedSimpArgs false
open Go.RowKit

set_option maxRecDepth 100000 in
set_option maxHeartbeats 1600000 in
theorem implNOk (v : Value) (ls : List RPlayer) (b : Nat) (w : World) (h : OwnPlayer w b v ls) (hl : ls.length ≤ 2000000) (hr : ∀ k (hk : k < ls.length), ls[k].f0.length ≤ 2000000) (u : Value) (nt : List (List Int)) (b2 : Nat) (h2 : OwnR w b2 u nt) (hn : nt.length ≤ 2000000) (hnr : ∀ k (hk : k < nt.length), nt[k].length ≤ 2000000) :
    Calls Try.prog 19 #[v, u] w fun e w' => e = .returned (.bool (nightOk ls nt)) ∧ Below w.heap.size w w' := by
  have CK := Lib.hid (implPOk v ls b w h hl hr)
  have C0 := Lib.hid (fun W => (inRange_any (nt.length : Int) 1 6 W).mono fun e w' h => (show _ ∧ W = w' from ⟨h.1, h.2.symm⟩))
  obtain ⟨A, c, rfl⟩ := h.slice
  obtain ⟨D, d, rfl⟩ := h2.slice
  have O := Lib.hid h
  have N := Lib.hid h2
  have HN := Lib.hid hnr
  have RB := Lib.hid (fun k (hk : k < nt.length) (h : momentOk nt[k] = false) => nok_bad (ls := ls) hk h)
  have RA := Lib.hid (fun h => nok_all (ls := ls) (nt := nt) h)
  clear h h2 hnr
  cases hok : playersOk ls with
  | false =>
    have R := Lib.hid (show nightOk ls nt = false by rw [nok_is, hok, Bool.false_and, Bool.and_false])
    rw [hok] at CK
    clear hok RA RB
    go_enter Try.func19, Try.ntmps19
    go_wp2_with (go_at_call 51; refine CK.out.mono ?_; rintro e w1 ⟨rfl, b1⟩; have B1 := Lib.hid b1; clear b1)
    go_ret
    exact ⟨by rw [R.out]; rfl, B1.out⟩
  | true =>
  rw [hok] at CK
  cases hin : inB (nt.length : Int) 1 6 with
  | false =>
    have R := Lib.hid (show nightOk ls nt = false by rw [nok_is, hin, Bool.and_false, Bool.and_false])
    rw [hin] at C0
    clear hok hin RA RB
    go_enter Try.func19, Try.ntmps19
    go_wp2_with (first | (go_at_call 51; refine CK.out.mono ?_; rintro e w1 ⟨rfl, b1⟩; have B1 := Lib.hid b1; clear b1) | (go_at_call 52; refine (C0.out _).mono ?_; rintro e w' ⟨rfl, rfl⟩))
    go_ret
    exact ⟨by rw [R.out]; rfl, B1.out⟩
  | true =>
  rw [hin] at C0
  rw [hok, hin] at RA
  clear hok hin
  go_enter Try.func19, Try.ntmps19
  go_wp2_with (first | (go_at_call 51; refine CK.out.mono ?_; rintro e w1 ⟨rfl, b1⟩; have B1 := Lib.hid b1; clear b1) | (go_at_call 52; refine (C0.out _).mono ?_; rintro e w' ⟨rfl, rfl⟩))
  go_loopw [18] (fun iv wr => w1 = wr ∧ ∃ k : Nat, k ≤ nt.length ∧ iv = .int .i64 (k : Int) ∧ Hid (∀ i (hi : i < nt.length), i < k → momentOk nt[i] = true)) (fun iv _ => nt.length - (intOf iv).toNat)
  case atStart => exact ⟨rfl, 0, by omega, rfl, Lib.hid (fun i _ hi => absurd hi (by omega))⟩
  case round =>
    obtain ⟨rfl, k, hk, rfl, HT⟩ := hrel
    by_cases hlt : k < nt.length
    rotate_left
    · obtain rfl : k = nt.length := by omega
      have R := Lib.hid (RA.out (fun i hi => HT.out i hi hi))
      go_wp2
      go_ret
      exact ⟨by rw [R.out]; rfl, B1.out⟩
    have hk0 : (0 : Int) ≤ (k : Int) := by omega
    have hk1 : (k : Int) < (nt.length : Int) := by omega
    obtain ⟨g, _, A1, c1, f1, x0, -, o1⟩ := (N.out.below B1.out).spot hlt
    simp only [Value.slice.injEq] at f1
    obtain ⟨rfl, -, rfl⟩ := f1
    have hrr := HN.out k hlt
    have MK := Lib.hid (show momentOk nt[k] = (decide (nt[k].length ≤ 4) && rising nt[k] 6) from rfl)
    have NX := Lib.hid (fun (h : momentOk nt[k] = true) => (show ∀ i (hi : i < nt.length), i < k + 1 → momentOk nt[i] = true from fun i hi hj => by
      rcases (by omega : i < k ∨ i = k) with q | rfl
      · exact HT.out i hi q
      · exact h))
    have RX := Lib.hid (RB.out k hlt)
    have CR := Lib.hid (implPup _ nt[k] _ w1 o1 hrr)
    clear o1
    generalize nt[k] = l at x0 hrr MK NX RX CR
    by_cases h4 : l.length ≤ 4
    · have d4 : ¬ (4 : Int) < (l.length : Int) := by omega
      cases hq : rising l 6 with
      | false =>
        have R := Lib.hid (RX.out (by rw [MK.out, hq, Bool.and_false]))
        rw [hq] at CR
        clear RX NX MK hq h4
        go_wp2_with (go_at_call 53; refine CR.out.mono ?_; rintro e w' ⟨rfl, rfl⟩)
        go_ret
        exact ⟨by rw [R.out]; rfl, B1.out⟩
      | true =>
        have N2 := Lib.hid (NX.out (by rw [MK.out, hq, decide_eq_true h4]; rfl))
        rw [hq] at CR
        clear RX NX MK hq h4
        go_wp2_with (go_at_call 53; refine CR.out.mono ?_; rintro e w' ⟨rfl, rfl⟩)
        exact ⟨⟨trivial, k + 1, by omega, by go_num, N2⟩, by simp [intOf]; omega⟩
    · have d4 : (4 : Int) < (l.length : Int) := by omega
      have R := Lib.hid (RX.out (by rw [MK.out, decide_eq_false h4]; rfl))
      clear RX NX MK h4
      go_wp2
      go_ret
      exact ⟨by rw [R.out]; rfl, B1.out⟩
end Go.Proofs.Ytanlfkkmnnjpeaa
