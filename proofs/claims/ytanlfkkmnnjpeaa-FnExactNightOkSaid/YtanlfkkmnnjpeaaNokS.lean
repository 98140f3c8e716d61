/- The contract of spec.NightOk. Condition: the players and the rows of numbers are the call's own. -/
import Derived.Test.YtanlfkkmnnjpeaaChgM
import Derived.Test.YtanlfkkmnnjpeaaPokS
import Derived.Test.YtanlfkkmnnjpeaaRowR
namespace Go.Proofs.Ytanlfkkmnnjpeaa
set_option linter.unusedVariables false
set_option linter.unusedSimpArgs false
open Go.RowKit

def momentOk (l : List Int) : Bool := decide (l.length ≤ 4) && rising l 6
theorem nok_is (ls : List RPlayer) (nt : List (List Int)) : nightOk ls nt = (nt.all momentOk && (playersOk ls && inB (nt.length : Int) 1 6)) := rfl
theorem nok_bad {ls : List RPlayer} {nt : List (List Int)} {k : Nat} (hk : k < nt.length) (h : momentOk nt[k] = false) : nightOk ls nt = false := by
  rw [nok_is, List.all_eq_false.2 ⟨nt[k], List.getElem_mem hk, by rw [h]; simp⟩]
  rfl
theorem nok_all {ls : List RPlayer} {nt : List (List Int)} (h : ∀ k (hk : k < nt.length), momentOk nt[k] = true) : nightOk ls nt = (playersOk ls && inB (nt.length : Int) 1 6) := by
  rw [nok_is, List.all_eq_true.2 fun l hl => by obtain ⟨k, hk, rfl⟩ := List.mem_iff_getElem.1 hl; exact h k hk]
  rfl
theorem nok_has {ls : List RPlayer} {nt : List (List Int)} (h : nightOk ls nt = true) : playersOk ls = true ∧ (1 ≤ nt.length ∧ nt.length ≤ 6) ∧ ∀ k (hk : k < nt.length), nt[k].length ≤ 4 ∧ rising nt[k] 6 = true := by
  rw [nok_is] at h
  simp only [Bool.and_eq_true, List.all_eq_true] at h
  obtain ⟨h1, h2, h3⟩ := h
  have h3' : 1 ≤ (nt.length : Int) ∧ (nt.length : Int) ≤ 6 := by simpa [inB] using h3
  refine ⟨h2, by omega, fun k hk => ?_⟩
  have := h1 _ (List.getElem_mem hk)
  unfold momentOk at this
  simpa using this

set_option maxRecDepth 100000 in
set_option maxHeartbeats 1600000 in
theorem specNOk (v : Value) (ls : List RPlayer) (b : Nat) (w : World) (h : OwnPlayer w b v ls) (hl : ls.length ≤ 2000000) (hr : ∀ k (hk : k < ls.length), ls[k].f0.length ≤ 2000000) (u : Value) (nt : List (List Int)) (b2 : Nat) (h2 : OwnR w b2 u nt) (hn : nt.length ≤ 2000000) (hnr : ∀ k (hk : k < nt.length), nt[k].length ≤ 2000000) :
    Calls Try.prog 23 #[v, u] w fun e w' => e = .returned (.bool (nightOk ls nt)) ∧ Below w.heap.size w w' := by
  have CK := Lib.hid (fun W h => specPOk v ls b W h hl hr)
  obtain ⟨A, c, rfl⟩ := h.slice
  obtain ⟨D, d, rfl⟩ := h2.slice
  have O := Lib.hid h
  have N := Lib.hid h2
  have HN := Lib.hid hnr
  have RB := Lib.hid (fun k (hk : k < nt.length) (h : momentOk nt[k] = false) => nok_bad (ls := ls) hk h)
  have RA := Lib.hid (fun h => nok_all (ls := ls) (nt := nt) h)
  have C0 := Lib.hid (fun W => (l01In_any (nt.length : Int) 1 6 W).mono fun e w' h => (show _ ∧ W = w' from ⟨h.1, h.2.symm⟩))
  clear h h2 hnr
  go_enter Try.func23, Try.ntmps23
  go_wp2_with fail
  go_loopw [5] (fun iv wr => ∃ k : Nat, k ≤ nt.length ∧ iv = .int .i64 (k : Int) ∧ Hid (∀ i (hi : i < nt.length), i < k → momentOk nt[i] = true) ∧ Hid (Below w.heap.size w wr)) (fun iv _ => nt.length - (intOf iv).toNat)
  case atStart => exact ⟨0, by omega, rfl, Lib.hid (fun i _ hi => absurd hi (by omega)), Lib.hid (Below.refl _ _)⟩
  case round =>
    obtain ⟨k, hk, rfl, HT, BW⟩ := hrel
    by_cases hlt : k < nt.length
    rotate_left
    · obtain rfl : k = nt.length := by omega
      have R := Lib.hid (RA.out (fun i hi => HT.out i hi hi))
      have CF := Lib.hid (CK.out wr (O.out.below BW.out))
      cases hok : playersOk ls with
      | false =>
        have R2 := Lib.hid (show nightOk ls nt = false by rw [R.out, hok]; rfl)
        rw [hok] at CF
        clear hok R
        go_wp2_with (go_at_call 45; refine CF.out.mono ?_; rintro e w2 ⟨rfl, b2⟩; have B2 := Lib.hid (BW.out.trans (b2.mono BW.out.size)); clear b2)
        go_ret
        exact ⟨by rw [R2.out]; try rfl, B2.out⟩
      | true =>
        have R2 := Lib.hid (show nightOk ls nt = inB (nt.length : Int) 1 6 by rw [R.out, hok]; rfl)
        rw [hok] at CF
        clear hok R
        go_wp2_with (first | (go_at_call 45; refine CF.out.mono ?_; rintro e w2 ⟨rfl, b2⟩; have B2 := Lib.hid (BW.out.trans (b2.mono BW.out.size)); clear b2) | (go_at_call 48; refine (C0.out _).mono ?_; rintro e w' ⟨rfl, rfl⟩))
        go_ret
        exact ⟨by rw [R2.out]; try rfl, B2.out⟩
    have hk0 : (0 : Int) ≤ (k : Int) := by omega
    have hk1 : (k : Int) < (nt.length : Int) := by omega
    obtain ⟨g, _, A1, c1, f1, x0, -, o1⟩ := (N.out.below BW.out).spot hlt
    simp only [Value.slice.injEq] at f1
    obtain ⟨rfl, -, rfl⟩ := f1
    have hrr := HN.out k hlt
    have MK := Lib.hid (show momentOk nt[k] = (decide (nt[k].length ≤ 4) && rising nt[k] 6) from rfl)
    have NX := Lib.hid (fun (h : momentOk nt[k] = true) => (show ∀ i (hi : i < nt.length), i < k + 1 → momentOk nt[i] = true from fun i hi hj => by
      rcases (by omega : i < k ∨ i = k) with q | rfl
      · exact HT.out i hi q
      · exact h))
    have RX := Lib.hid (RB.out k hlt)
    have CR := Lib.hid (specRise _ nt[k] 6 _ _ o1 hrr)
    clear o1
    generalize nt[k] = l at x0 hrr MK NX RX CR
    by_cases h4 : l.length ≤ 4
    · have d4 : ¬ (4 : Int) < (l.length : Int) := by omega
      cases hq : rising l 6 with
      | false =>
        have R := Lib.hid (RX.out (by rw [MK.out, hq, Bool.and_false]))
        rw [hq] at CR
        clear RX NX MK hq h4
        go_wp2_with (go_at_call 46; refine CR.out.mono ?_; rintro e w2 ⟨rfl, b2⟩; have B2 := Lib.hid (BW.out.trans (b2.mono BW.out.size)); clear b2)
        go_ret
        exact ⟨by rw [R.out]; try rfl, B2.out⟩
      | true =>
        have N2 := Lib.hid (NX.out (by rw [MK.out, hq, decide_eq_true h4]; rfl))
        rw [hq] at CR
        clear RX NX MK hq h4
        go_wp2_with (go_at_call 46; refine CR.out.mono ?_; rintro e w2 ⟨rfl, b2⟩; have B2 := Lib.hid (BW.out.trans (b2.mono BW.out.size)); clear b2)
        exact ⟨⟨k + 1, by omega, by go_num, N2, B2⟩, by simp [intOf]; omega⟩
    · have d4 : (4 : Int) < (l.length : Int) := by omega
      have R := Lib.hid (RX.out (by rw [MK.out, decide_eq_false h4]; rfl))
      clear RX NX MK h4
      go_wp2
      go_ret
      exact ⟨by rw [R.out]; try rfl, BW.out⟩
end Go.Proofs.Ytanlfkkmnnjpeaa
