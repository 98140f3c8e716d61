/- The contract of spec.TwistOf. Condition: the crossings lie in a row of their own. -/
import Derived.Test.YtokgcchcjaimhaaTwdM
import Derived.Test.YtokgcchcjaimhaaTwsS
import Derived.BigQuiet
namespace Go.Proofs.Ytokgcchcjaimhaa
set_option linter.unusedVariables false
set_option linter.unusedSimpArgs false
open Go.RowKit

set_option maxRecDepth 100000 in
set_option maxHeartbeats 1600000 in
theorem specTwO (n : Int) (v : Value) (ls : List RCross) (b : Nat) (w : World) (h : OwnCross w b v ls) (hl : ls.length ≤ 2000000) (i k : Int) :
    Calls Try.prog 25 #[.int .i64 n, v, .int .i64 i, .int .i64 k] w fun e w' => e = .returned (.int .i64 (twistOf n ls i k)) ∧ Below w.heap.size w w' := by
  have CT := Lib.hid (specTab n v ls b w h hl)
  have C0 := Lib.hid (fun v lo hi W => (l01In_any v lo hi W).mono fun e w' h => (show _ ∧ W = w' from ⟨h.1, h.2.symm⟩))
  obtain ⟨A, c, rfl⟩ := h.slice
  obtain ⟨t7, sq, -⟩ := tab_len n ls
  have R := Lib.hid (show twistOf n ls i k = if inB i 0 (((twistTab n ls).length : Int) - 1) = true ∧ inB k 0 (((twistTab n ls).length : Int) - 1) = true then ent (twistTab n ls) i.toNat k.toNat else 0 from rfl)
  have SQ := Lib.hid sq
  clear h sq
  generalize twistTab n ls = t at CT t7 R SQ
  have e1 : IntKind.i64.wrap ((t.length : Int) - 1) = (t.length : Int) - 1 := IntWalk.i64_in _ (by omega)
  go_enter Try.func25, Try.ntmps25
  go_wp2_with fail
  refine CT.out.mono ?_
  rintro e w1 ⟨vt, rfl, o1, b1⟩
  obtain ⟨V, cv, rfl⟩ := o1.slice
  have O1 := Lib.hid o1
  have B1 := Lib.hid b1
  clear o1 b1 CT
  cases hi : inB i 0 ((t.length : Int) - 1) with
  | false =>
    have R2 := Lib.hid (show twistOf n ls i k = 0 by rw [R.out, if_neg (by rw [hi]; simp)])
    go_wp2_with (go_at_call 48; refine (C0.out _ _ _ _).mono ?_; rintro e w' ⟨rfl, rfl⟩)
    go_ret
    exact ⟨by rw [R2.out]; rfl, B1.out⟩
  | true =>
  cases hk : inB k 0 ((t.length : Int) - 1) with
  | false =>
    have R2 := Lib.hid (show twistOf n ls i k = 0 by rw [R.out, if_neg (by rw [hk]; simp)])
    go_wp2_with (go_at_call 48; refine (C0.out _ _ _ _).mono ?_; rintro e w' ⟨rfl, rfl⟩)
    go_ret
    exact ⟨by rw [R2.out]; rfl, B1.out⟩
  | true =>
  have R2 := Lib.hid (show twistOf n ls i k = ent t i.toNat k.toNat by rw [R.out, if_pos ⟨hi, hk⟩])
  have hir : 0 ≤ i ∧ i ≤ (t.length : Int) - 1 := by simpa [inB] using hi
  have hkr : 0 ≤ k ∧ k ≤ (t.length : Int) - 1 := by simpa [inB] using hk
  obtain ⟨p, rfl⟩ := Int.eq_ofNat_of_zero_le hir.1
  obtain ⟨q, rfl⟩ := Int.eq_ofNat_of_zero_le hkr.1
  have hp1 : (p : Int) < (t.length : Int) := by omega
  have hq1 : (q : Int) < (t.length : Int) := by omega
  rw [Int.toNat_natCast, Int.toNat_natCast] at R2
  obtain ⟨g, c1, ga, ca, ev, x0, x1⟩ := O1.out.entryR SQ.out (i := p) (k := q) (by omega) (by omega)
  simp only [Value.slice.injEq] at ev
  obtain ⟨rfl, -, rfl⟩ := ev
  generalize ent t p q = x at x1 R2
  go_wp2_with (go_at_call 48; refine (C0.out _ _ _ _).mono ?_; rintro e w' ⟨rfl, rfl⟩)
  go_ret
  exact ⟨by rw [R2.out]; rfl, B1.out⟩
end Go.Proofs.Ytokgcchcjaimhaa
