/- The contract of spec.CuesOk. Condition: the cues lie in a row of their own. -/
import Derived.Test.YtbgogcobkiaejacCokS
import Derived.Test.YtbgogcobkiaejacPk2
namespace Go.Proofs.Ytbgogcobkiaejac
set_option linter.unusedVariables false
set_option linter.unusedSimpArgs false
open Go.RowKit

set_option maxRecDepth 100000 in
set_option maxHeartbeats 1600000 in
theorem specCOk (v : Value) (ls : List RCue) (b : Nat) (w : World) (h : OwnCue w b v ls) (hl : bulkCue ls ≤ 1048576) :
    Calls Try.prog 50 #[v] w fun e w' => e = .returned (.bool (cuesOk ls)) ∧ Below w.heap.size w w' := by
  have CC := Lib.hid (fun W h => specCirc v ls b W h hl)
  obtain ⟨A, c, rfl⟩ := h.slice
  have O := Lib.hid h
  clear h
  have C0 := Lib.hid (fun v lo hi W => (l01In_any v lo hi W).mono fun e w' h => (show _ ∧ W = w' from ⟨h.1, h.2.symm⟩))
  have hbl := bulkCue_len ls
  have CL := circleIn_len12 ls
  cases hin : inB (ls.length : Int) 1 12 with
  | false =>
    have R := Lib.hid (cuesOk_no hin)
    have C1 := Lib.hid (fun W => hin ▸ C0.out (ls.length : Int) 1 12 W)
    clear hin
    go_enter Try.func50, Try.ntmps50
    go_wp2_with (go_at_call 68; refine (C1.out _).mono ?_; rintro e w' ⟨rfl, rfl⟩)
    go_ret
    exact ⟨by rw [R.out]; rfl, Below.refl _ _⟩
  | true =>
    have RA := Lib.hid (fun h => cuesOk_all hin h)
    have RB := Lib.hid (fun k (hk : k < ls.length) h => cuesOk_bad hk h)
    have RW := Lib.hid (fun k (h : k < ls.length) => (show ls[k].f1.length ≤ 2000000 ∧ ls[k].f2.length ≤ 2000000 by have := bulkCue_row ls k h; omega))
    have C1 := Lib.hid (fun W => hin ▸ C0.out (ls.length : Int) 1 12 W)
    have en : IntKind.i64.wrap ((ls.length : Int) - 1) = (ls.length : Int) - 1 := IntWalk.i64_in _ (by omega)
    clear hin
    go_enter Try.func50, Try.ntmps50
    go_wp2_with (go_at_call 68; refine (C1.out _).mono ?_; rintro e w' ⟨rfl, rfl⟩)
    go_loopw [3] (fun iv wr => ∃ k : Nat, k ≤ ls.length ∧ iv = .int .i64 (k : Int) ∧ Hid (∀ i (hi : i < ls.length), i < k → cueFine ls.length ls[i] = true) ∧ Hid (Below w.heap.size w wr)) (fun iv _ => ls.length - (intOf iv).toNat)
    case atStart => exact ⟨0, by omega, rfl, Lib.hid (fun i _ hi => absurd hi (by omega)), Lib.hid (Below.refl _ _)⟩
    case round =>
      obtain ⟨k, hk, rfl, HT, BW⟩ := hrel
      by_cases hlt : k < ls.length
      rotate_left
      · obtain rfl : k = ls.length := by omega
        have R := Lib.hid (RA.out (fun i hi => HT.out i hi hi))
        have CF := Lib.hid (CC.out wr (O.out.below BW.out))
        generalize circleIn ls = zs at R CF CL
        go_wp2_with fail
        refine CF.out.mono ?_
        rintro e w2 ⟨v2, rfl, o2, b2⟩
        obtain ⟨Z, cz, rfl⟩ := o2.slice
        have B2 := Lib.hid (BW.out.trans (b2.mono BW.out.size))
        clear o2 b2
        by_cases hz : zs.length = 0
        · have hzb : ((zs.length : Int) == 0) = true := by rw [hz]; rfl
          rw [decide_eq_true hz] at R
          clear hz
          go_wp2
          go_ret
          exact ⟨by rw [R.out]; try rfl, B2.out⟩
        · have hzb : ((zs.length : Int) == 0) = false := by simp; exact fun e => hz (by rw [e]; rfl)
          rw [decide_eq_false hz] at R
          clear hz
          go_wp2
          go_ret
          exact ⟨by rw [R.out]; try rfl, B2.out⟩
      have hk0 : (0 : Int) ≤ (k : Int) := by omega
      have hk1 : (k : Int) < (ls.length : Int) := by omega
      obtain ⟨g, cg, A1, c1, A2, c2, f1, -, ⟨x0, x1, x2⟩, ⟨o1, o2⟩, -, -, -, -⟩ := (O.out.below BW.out).spot hlt
      simp only [Value.slice.injEq] at f1
      obtain ⟨rfl, -, rfl⟩ := f1
      have hr := RW.out k hlt
      have FI := Lib.hid (show cueFine ls.length ls[k] = (inB ls[k].f0 1 50 && (rising ls[k].f1 ((ls.length : Int) - 1) && rising ls[k].f2 6)) from rfl)
      have NX := Lib.hid (fun (h : cueFine ls.length ls[k] = true) => (show ∀ i (hi : i < ls.length), i < k + 1 → cueFine ls.length ls[i] = true from fun i hi hj => by
        rcases (by omega : i < k ∨ i = k) with q | rfl
        · exact HT.out i hi q
        · exact h))
      have RX := Lib.hid (RB.out k hlt)
      have hbs := BW.out.size
      have BA := Lib.hid (BW.out.alloc hbs (.cells #[.int .i64 ls[k].f0, .slice A1 ls[k].f1.length c1, .slice A2 ls[k].f2.length c2] 33))
      have BX := Lib.hid (boxV_new wr [.int .i64 ls[k].f0, .slice A1 ls[k].f1.length c1, .slice A2 ls[k].f2.length c2] 33)
      have P1 := Lib.hid (specRise _ ls[k].f1 ((ls.length : Int) - 1) b _ (o1.alloc (.cells #[.int .i64 ls[k].f0, .slice A1 ls[k].f1.length c1, .slice A2 ls[k].f2.length c2] 33)) hr.1)
      have O2 := Lib.hid (o2.alloc (.cells #[.int .i64 ls[k].f0, .slice A1 ls[k].f1.length c1, .slice A2 ls[k].f2.length c2] 33))
      have C2 := Lib.hid (fun W => C0.out ls[k].f0 1 50 W)
      have hf2 := hr.2
      clear o1 o2 hr
      generalize ls[k] = l at x0 x1 x2 FI NX RX BA BX P1 O2 C2 hf2
      cases h1 : inB l.f0 1 50 with
      | false =>
        have R := Lib.hid (RX.out (by rw [FI.out, h1]; rfl))
        rw [h1] at C2
        go_wp2_with (go_at_call 68; refine (C2.out _).mono ?_; rintro e w' ⟨rfl, rfl⟩)
        go_ret
        exact ⟨by rw [R.out]; rfl, BA.out⟩
      | true =>
        rw [h1] at C2
        cases h2 : rising l.f1 ((ls.length : Int) - 1) with
        | false =>
          have R := Lib.hid (RX.out (by rw [FI.out, h1, h2]; rfl))
          rw [h2] at P1
          go_wp2_with (first | (go_at_call 68; refine (C2.out _).mono ?_; rintro e w' ⟨rfl, rfl⟩) | (go_at_call 69; refine P1.out.mono ?_; rintro e w2 ⟨rfl, b2⟩; have B2 := Lib.hid (BA.out.trans (b2.mono BA.out.size)); clear b2))
          go_ret
          exact ⟨by rw [R.out]; rfl, B2.out⟩
        | true =>
          rw [h2] at P1
          go_wp2_with (first | (go_at_call 68; refine (C2.out _).mono ?_; rintro e w' ⟨rfl, rfl⟩) | (go_at_call 69; refine P1.out.mono ?_; rintro e w2 ⟨rfl, b2⟩; have B2 := Lib.hid (BA.out.trans (b2.mono BA.out.size)); have X2 := BX.out.below b2 2 _ rfl; have O3 := Lib.hid (O2.out.below b2); clear b2 P1))
          have P2 := Lib.hid (specRise _ l.f2 6 b _ O3.out hf2)
          cases h3 : rising l.f2 6 with
          | false =>
            have R := Lib.hid (RX.out (by rw [FI.out, h1, h2, h3]; rfl))
            rw [h3] at P2
            refine P2.out.mono ?_
            rintro e w3 ⟨rfl, b3⟩
            have B3 := Lib.hid (B2.out.trans (b3.mono B2.out.size))
            clear b3
            go_wp2
            go_ret
            exact ⟨by rw [R.out]; rfl, B3.out⟩
          | true =>
            have N2 := Lib.hid (NX.out (by rw [FI.out, h1, h2, h3]; rfl))
            rw [h3] at P2
            refine P2.out.mono ?_
            rintro e w3 ⟨rfl, b3⟩
            have B3 := Lib.hid (B2.out.trans (b3.mono B2.out.size))
            clear b3
            go_wp2
            exact ⟨⟨k + 1, by omega, by go_num, N2, B3⟩, by simp [intOf]; omega⟩

end Go.Proofs.Ytbgogcobkiaejac
