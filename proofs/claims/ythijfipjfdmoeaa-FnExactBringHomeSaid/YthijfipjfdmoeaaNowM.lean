/- One crossing more, as the exchange that the program makes. No condition. -/
import Derived.Test.YthijfipjfdmoeaaOrdW
import Derived.Test.YthijfipjfdmoeaaCrxM
namespace Go.Proofs.Ythijfipjfdmoeaa
set_option linter.unusedVariables false
set_option linter.unusedSimpArgs false
open Go.RowKit

/-- One crossing more, as the exchange that the program makes. -/
theorem now_swap {n : Int} {ls : List RCross} (hc : crossOk n ls = true) {k : Nat} (hlt : k < ls.length) :
    ∃ i : Nat, ls[k].f0 = (i : Int) ∧ i + 1 < (nowAt n ls k).length ∧ nowAt n ls (k + 1) = swapL (nowAt n ls k) i := by
  obtain ⟨h1, h2, h3, h4⟩ := ok_fits hc
  have hf := h4 ls[k] (List.getElem_mem hlt)
  have hx := (crossOk_has hc).2.2 k hlt
  have hx := of_decide_eq_true (show decide (0 ≤ ls[k].f0 ∧ ls[k].f0 ≤ n - 2) = true from hx)
  obtain ⟨i, hi⟩ := Int.eq_ofNat_of_zero_le hx.1
  have hn := nowAt_len n ls k
  refine ⟨i, hi, by omega, ?_⟩
  rw [nowAt_more n hlt, stepA_swap (nowAt_ord hc k) hn hf, hi, Int.toNat_natCast]

end Go.Proofs.Ythijfipjfdmoeaa
