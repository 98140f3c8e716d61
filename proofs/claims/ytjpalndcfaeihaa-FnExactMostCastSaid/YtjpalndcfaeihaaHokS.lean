/- The contract of spec.l14Ok. Condition: the players and the numbers lie in rows of their own. -/
import Derived.Test.YtjpalndcfaeihaaPrfM
import Derived.Test.YtjpalndcfaeihaaPokS
import Derived.BigQuiet
namespace Go.Proofs.Ytjpalndcfaeihaa
set_option linter.unusedVariables false
set_option linter.unusedSimpArgs false
open Go.RowKit


set_option maxRecDepth 100000 in
set_option maxHeartbeats 1600000 in
theorem specHok (v : Value) (ls : List RPlayer) (b : Nat) (w : World) (h : OwnPlayer w b v ls) (hl : ls.length ≤ 2000000) (hr : ∀ k (hk : k < ls.length), ls[k].f0.length ≤ 2000000) (u : Value) (ps : List Int) (b2 : Nat) (h2 : OwnI w b2 u ps) (hp : ps.length ≤ 2000000) :
    Calls Try.prog 44 #[v, u] w fun e w' => e = .returned (.bool (proofOk ls ps)) ∧ Below w.heap.size w w' := by
  have CK := Lib.hid (specPOk v ls b w h hl hr)
  have CR := Lib.hid (fun W h => specRise u ps 6 b2 W h hp)
  have R := Lib.hid (show proofOk ls ps = (playersOk ls && rising ps 6) from rfl)
  obtain ⟨A, c, rfl⟩ := h.slice
  obtain ⟨A2, c2, rfl⟩ := h2.slice
  have P := Lib.hid h2
  clear h h2 hr
  generalize proofOk ls ps = r at R ⊢
  generalize rising ps 6 = rr at R CR
  cases hok : playersOk ls with
  | false =>
    rw [hok] at R CK
    have R2 := R.out
    rw [Bool.false_and] at R2
    subst R2
    clear R
    go_enter Try.func44, Try.ntmps44
    go_wp2_with fail
    refine CK.out.mono ?_
    rintro e w1 ⟨rfl, b1⟩
    have B1 := Lib.hid b1
    clear b1
    go_wp2
    go_ret
    exact ⟨rfl, B1.out⟩
  | true =>
    rw [hok] at R CK
    have R2 := R.out
    rw [Bool.true_and] at R2
    subst R2
    clear R
    go_enter Try.func44, Try.ntmps44
    go_wp2_with fail
    refine CK.out.mono ?_
    rintro e w1 ⟨rfl, b1⟩
    have B1 := Lib.hid b1
    clear b1
    go_wp2_with fail
    refine (CR.out _ (P.out.below B1.out)).mono ?_
    rintro e w2 ⟨rfl, b2⟩
    have B2 := Lib.hid (B1.out.trans (b2.mono B1.out.size))
    clear b2
    go_wp2
    go_ret
    exact ⟨rfl, B2.out⟩
end Go.Proofs.Ytjpalndcfaeihaa
